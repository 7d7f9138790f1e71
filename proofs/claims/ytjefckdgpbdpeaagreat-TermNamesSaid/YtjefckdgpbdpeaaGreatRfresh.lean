/- A part of the proof that TermNames returns true. -/
import Derived.Test.YtjefckdgpbdpeaaGreatWords

namespace Go.Proofs.YtjefckdgpbdpeaaGreat
open Go Go.Abs
open Go.RowKit (Below)
set_option maxRecDepth 10000

theorem hasTb_ro {m : Mem} {r c : Nat} {ex : Bool} {l : List ByteArray} {s : ByteArray} (h : m.heap.get r = some (.ro (strs l))) (hl : l.length < 2 ^ 60) : hasTb [.slice r 0 l.length c ex, .lit (.string s)] m = some (.bool (isIn s l)) := by
  have hs : sliceStrs m r 0 l.length = some l := by
    unfold sliceStrs
    rw [h]
    show (if l.length ≤ ((strs l).drop 0).length then litStrs (((strs l).drop 0).take l.length) else none) = some l
    have hlen : (strs l).length = l.length := by simp [strs]
    rw [List.drop_zero, hlen, if_pos (Nat.le_refl _), List.take_of_length_le (by rw [hlen]; exact Nat.le_refl _), litStrs_strs]
  show (match sliceStrs m r 0 l.length with | some l => if l.length < 2 ^ 60 then some (Value.bool (isIn s l)) else none | none => none) = _
  rw [hs]
  dsimp only
  rw [if_pos hl]
noncomputable def flF : Fl := flK [wordK, refNameK, hasK]
noncomputable def rfBody : Code := bodyF Tryz.f18
noncomputable def rfLoop : Code := cAt [true, true, false, false] rfBody
def rfEnv : Env := ⟨18, 18, false, none⟩
theorem rf_loop (l : List ByteArray) (c : Nat) (ex : Bool) (hlen : l.length < 2 ^ 60) (b0 : ByteArray) (m : Mem) (hm : m.heap.get 0 = some (.ro (strs l))) : ∀ (d k : Nat) (tmps : T AVal), 91 - k = d → freeOf l (wL.drop k) = some b0 →
    getT tmps 0 = .slice 0 0 l.length c ex → getT tmps 3 = goI (k + 1) → GoesV Tryz.prog flF rfEnv [.code rfLoop, .inLoop rfLoop, .inBlock 0] tmps [] .run [] m (.lit (.string b0)) := by
  intro d
  induction d with
  | zero =>
    intro k tmps hd hf _ _
    rw [List.drop_of_length_le (by rw [wL_len]; omega)] at hf
    cases hf
  | succ d ih =>
    intro k tmps hd hf h0 h3
    have hlt : k < wL.length := by rw [wL_len]; omega
    have hb : wL[k]? = some wL[k] := List.getElem?_eq_getElem hlt
    rw [List.drop_eq_getElem_cons hlt] at hf
    generalize wL[k] = b at hb hf
    obtain ⟨hn, _⟩ := wL_names k b hb
    unfold freeOf at hf
    rw [List.find?_cons] at hf
    refine GoesV.step (fun rec => b_seq _ _) ?_
    refine GoesV.step (fun rec => b_block _ _) ?_
    refine GoesV.step (fun rec => b_seq _ _) ?_
    refine GoesV.step (fun rec => (b_region _ _).trans ((r_val rfl rfl (o_move rfl)).trans ((r_call (v := .string b) rfl rfl (o_call1 (vx := goI (k + 1)) (by simp [evalT, rfEnv, g_set, goI, h3])) (by show (wL[k]?).map Value.string = _; rw [hb]; rfl)).trans ((r_val rfl rfl (o_assign rfl)).trans (r_nil _))))) ?_
    refine GoesV.step (fun rec => b_seq _ _) ?_
    refine GoesV.step (fun rec => (b_region _ _).trans ((r_val rfl rfl (o_move rfl)).trans ((r_call (v := .bool (refNameB b)) rfl rfl (o_call1 (vx := .lit (.string b)) (by simp [evalT, rfEnv, g_set, goI, h3])) rfl).trans ((r_val rfl rfl (o_move rfl)).trans ((r_val (gd_true (d := 11) rfl (by simp [evalT, rfEnv, g_set, goI, h3, hn])) rfl (o_move rfl)).trans ((r_val (gd_true (d := 11) rfl (by simp [evalT, rfEnv, g_set, goI, h0, h3, hn])) rfl (o_move rfl)).trans ((r_call (v := .bool (isIn b l)) (gd_true (d := 11) rfl (by simp [evalT, rfEnv, g_set, goI, h0, h3, hn])) rfl (o_call2 (vx := .slice 0 0 l.length c ex) (vy := .lit (.string b)) (by simp [evalT, rfEnv, g_set, goI, h0, h3]) (by simp [evalT, rfEnv, g_set, goI, h0, h3])) (hasTb_ro (c := c) (ex := ex) hm hlen)).trans ((r_val (gd_true (d := 11) rfl (by simp [evalT, rfEnv, g_set, goI, h0, h3, hn])) rfl (o_not (b := isIn b l) (by simp [evalT, rfEnv, g_set, goI, h0, h3]))).trans ((r_val rfl rfl (o_pick (t := true) (by simp [evalT, rfEnv, g_set, goI, h0, h3, hn]) rfl rfl)).trans (r_nil _)))))))))) ?_
    cases hi : isIn b l with
    | false =>
      rw [hi] at hf
      cases hf
      refine GoesV.step (fun rec => b_cond (t := true) (by simp [evalT, rfEnv, g_set, goI, h0, h3])) ?_
      refine GoesV.step (fun rec => b_seq _ _) ?_
      refine GoesV.step (fun rec => (b_region _ _).trans ((r_val rfl rfl (o_move rfl)).trans ((r_val rfl rfl (o_assign rfl)).trans (r_nil _)))) ?_
      refine GoesV.step (fun rec => b_ret rfl) ?_
      exact GoesV.last (fun rec => (b_results (vs := [.lit (.string b0)]) Tryz.func18 (by simp [Tryz.f18, resVals, resVal, evalT, rfEnv, g_set])).trans rfl)
    | true =>
      rw [hi] at hf
      refine GoesV.step (fun rec => b_cond (t := false) (by simp [evalT, rfEnv, g_set, goI, h0, h3])) ?_
      refine GoesV.step (fun rec => b_skip) ?_
      refine GoesV.step (fun rec => b_inBlock _) ?_
      refine GoesV.step (fun rec => (b_region _ _).trans ((r_val rfl rfl (o_move rfl)).trans ((r_val rfl rfl (o_add (a := k + 1) (b := 1) (by simp [evalT, rfEnv, g_set, goI, h0, h3]) rfl (by have : k < 91 := hlt; omega))).trans ((r_val rfl rfl (o_assign rfl)).trans (r_nil _))))) ?_
      refine GoesV.step (fun rec => b_inLoop _) ?_
      exact ih (k + 1) _ (by omega) hf (by simp [rfEnv, g_set, h0]) (by simp [rfEnv, g_set, evalT])
theorem rf_goes (l : List ByteArray) (c : Nat) (ex : Bool) (hlen : l.length < 2 ^ 60) (b0 : ByteArray) (hf : freeOf l wL = some b0) (m : Mem) (hm : m.heap.get 0 = some (.ro (strs l))) :
    GoesV Tryz.prog flF rfEnv [.code rfBody] (argsT [.slice 0 0 l.length c ex] 0 .e) [] .run [] m (.lit (.string b0)) := by
  have h0 : getT (argsT [.slice 0 0 l.length c ex] 0 .e) 0 = .slice 0 0 l.length c ex := by rw [getT_argsT]; rfl
  generalize argsT [.slice 0 0 l.length c ex] 0 .e = t at h0
  refine GoesV.step (fun rec => b_seq _ _) ?_
  refine GoesV.step (fun rec => (b_region _ _).trans ((r_val rfl rfl (o_assign rfl)).trans (r_nil _))) ?_
  refine GoesV.step (fun rec => b_seq _ _) ?_
  refine GoesV.step (fun rec => (b_region _ _).trans ((r_val rfl rfl (o_assign rfl)).trans (r_nil _))) ?_
  refine GoesV.step (fun rec => b_block _ _) ?_
  refine GoesV.step (fun rec => b_loop _) ?_
  exact rf_loop l c ex hlen b0 m hm 91 0 _ (by omega) hf (by simp [rfEnv, g_set, h0]) (by simp [rfEnv, g_set, evalT, goI])

/-- a call with a slice of strings alone -/
theorem strs_call {fl : Fl} (htb : TbOK Tryz.prog fl) {f : FuncId} {fn : Func} {c : Code} (hf : Tryz.prog.funcs[f]? = some fn) (hb : fn.body = some c) (hn : 1 ≤ fn.ntmps) {m : Mem} {r off n c' : Nat} {ex : Bool} {l : List ByteArray} (hs : sliceStrs m r off n = some l) {v : Value}
    (hg : ∀ cp, GoesV Tryz.prog fl ⟨f, fn.ntmps, false, none⟩ [.code c] (argsT [.slice 0 0 l.length cp true] 0 .e) [] .run [] (mem1 (strs l)) (.lit v)) {w0 : Wo} {B : Nat} {ρ : Rho} {w : World} {xs : Array Value} (h : MR w0 B ρ m w) (hl : RL ρ [.slice r off n c' ex] xs.toList) :
    Calls Tryz.prog f xs w fun e w' => e = .returned v ∧ Below w.heap.size w w' := by
  obtain ⟨x, rfl, hx⟩ := hl.one
  obtain ⟨hn', b, s', cs, e, fz, cp, rfl, hw, hc⟩ := h.sliceStrs hx hs
  obtain ⟨ρ1, hM, hR⟩ := slice_call (c' := cp) hn' hw hc
  exact calls_goesV (args := [.slice 0 0 l.length cp true]) names htb mixed hf hb hn (hg cp) hM (by simp only [RL]; exact ⟨_, _, rfl, hR, rfl⟩)
/-- what a function says of the strings of a slice, in a table -/
noncomputable def sliceTb (F : List ByteArray → Option Value) (args : List AVal) (m : Mem) : Option Value := match args with
  | [.slice r off n _ _] => (match sliceStrs m r off n with | some l => F l | none => none)
  | _ => none
theorem sliceTb_spec {F : List ByteArray → Option Value} {args : List AVal} {m : Mem} {v : Value} (h : sliceTb F args m = some v) : ∃ r off n c ex l, args = [.slice r off n c ex] ∧ sliceStrs m r off n = some l ∧ F l = some v := by
  unfold sliceTb at h
  split at h
  case h_2 => cases h
  rename_i r off n c ex
  cases hs : sliceStrs m r off n with
  | none => rw [hs] at h; cases h
  | some l => rw [hs] at h; exact ⟨r, off, n, c, ex, l, rfl, hs, h⟩
theorem sliceTb_ro {F : List ByteArray → Option Value} {m : Mem} {r c : Nat} {ex : Bool} {l : List ByteArray} (h : m.heap.get r = some (.ro (strs l))) : sliceTb F [.slice r 0 l.length c ex] m = F l := by
  have hs : sliceStrs m r 0 l.length = some l := by
    unfold sliceStrs
    rw [h]
    show (if l.length ≤ ((strs l).drop 0).length then litStrs (((strs l).drop 0).take l.length) else none) = some l
    have hlen : (strs l).length = l.length := by simp [strs]
    rw [List.drop_zero, hlen, if_pos (Nat.le_refl _), List.take_of_length_le (by rw [hlen]; exact Nat.le_refl _), litStrs_strs]
  show (match sliceStrs m r 0 l.length with | some l => F l | none => none) = _
  rw [hs]
def freeV (l : List ByteArray) : Option Value := if l.length < 2 ^ 60 then (freeOf l wL).map .string else none
noncomputable def refFreshK : Known Tryz.prog where
  f := 18
  tb := sliceTb freeV
  fn := ⟨_, _, Tryz.func18, rfl⟩
  ok := by
    intro args m v ht w0 B ρ w xs h hl
    obtain ⟨r, off, n, c, ex, l, rfl, hs, hF⟩ := sliceTb_spec ht
    unfold freeV at hF
    split at hF
    case isFalse => cases hF
    rename_i hlen
    rw [Option.map_eq_some_iff] at hF
    obtain ⟨b0, hf, rfl⟩ := hF
    exact strs_call (flK_ok _) Tryz.func18 rfl (by show (1 : Nat) ≤ 18; omega) hs (fun cp => rf_goes l cp true hlen b0 hf _ (by rw [mem1_get]; rfl)) h hl
end Go.Proofs.YtjefckdgpbdpeaaGreat
