/- A part of the proof that TermNames returns true. -/
import Derived.Test.YtjefckdgpbdpeaaGreatSpelt

namespace Go.Proofs.YtjefckdgpbdpeaaGreat
open Go Go.Abs
open Go.RowKit (Below)
set_option maxRecDepth 10000

/-- the keywords -/
def kwB : List ByteArray := [⟨#[97, 110, 100]⟩, ⟨#[100, 101, 102]⟩, ⟨#[101, 108, 115, 101]⟩, ⟨#[103, 111]⟩, ⟨#[105, 102]⟩, ⟨#[105, 110]⟩, ⟨#[112, 108, 97, 99, 101]⟩, ⟨#[115, 116, 111, 112]⟩, ⟨#[116, 104, 101, 110]⟩, ⟨#[119, 97, 116, 99, 104]⟩]
theorem hasTb_row {m : Mem} {r f p c : Nat} {ex : Bool} {e : Elem} {l : List ByteArray} {s : ByteArray} (h : m.heap.get r = some (.row e (strs l) f p)) (hl : l.length < 2 ^ 60) : hasTb [.slice r 0 l.length c ex, .lit (.string s)] m = some (.bool (isIn s l)) := by
  have hs : sliceStrs m r 0 l.length = some l := by
    unfold sliceStrs
    rw [h]
    show (if l.length ≤ ((strs l).drop 0).length then litStrs (((strs l).drop 0).take l.length) else none) = some l
    have hlen : (strs l).length = l.length := by simp [strs]
    rw [List.drop_zero, hlen, if_pos (Nat.le_refl _), List.take_of_length_le (by rw [hlen]; exact Nat.le_refl _), litStrs_strs]
  show (match sliceStrs m r 0 l.length with | some l => if l.length < 2 ^ 60 then some (Value.bool (isIn s l)) else none | none => none) = _
  rw [hs]
  dsimp only
  rw [if_pos hl]
theorem new0 (e : Elem) (cells : List AVal) : (Abs.newRow mem0 e cells).heap.get 0 = some (.row e cells 0 0) := by
  unfold Abs.newRow
  rw [new_heap]
  exact T.get_set_same _ _ _
noncomputable def flH : Fl := flK [hasK]
/-- Name, as the reference has it -/
def refNameB (s : ByteArray) : Bool := decide (1 ≤ s.size) && decide (s.size ≤ 8) && (s.data.toList.all low && !isIn s kwB)
noncomputable def rnBody : Code := bodyF Tryz.f16
noncomputable def rnLoop : Code := cAt [true, true, false, true, false, false] rnBody
noncomputable def rnEnd : Code := cAt [true, true, true] rnBody
def rnEnv : Env := ⟨16, 32, false, none⟩

theorem rn_loop (s : ByteArray) (hs : s.size ≤ 8) : ∀ (d i : Nat) (tmps : T AVal), s.size - i = d → i ≤ s.size → getT tmps 0 = .lit (.string s) → getT tmps 3 = goI i →
    GoesV Tryz.prog flH rnEnv [.code rnLoop, .inLoop rnLoop, .inBlock 0, .code rnEnd] tmps [] .run [] mem0 (.lit (.bool ((s.data.toList.drop i).all low && !isIn s kwB))) := by
  intro d
  induction d with
  | zero =>
    intro i tmps hd hi h0 h3
    have : i = s.size := by omega
    subst this
    have e : (s.data.toList.drop s.size).all low = true := by rw [List.drop_of_length_le (by rw [size_eq]; exact Nat.le_refl _)]; rfl
    rw [e, Bool.true_and]
    refine GoesV.step (fun rec => b_seq _ _) ?_
    refine GoesV.step (fun rec => b_seq _ _) ?_
    refine GoesV.step (fun rec => (b_region _ _).trans ((r_val rfl rfl (o_move rfl)).trans ((r_val rfl rfl (o_move rfl)).trans ((r_val rfl rfl (o_lenS (s := s) (by simp [evalT, rnEnv, g_set, goI, h0, h3]) u9)).trans ((r_val rfl rfl (o_lssK .i64 (a := s.size) (b := s.size) (by simp [evalT, rnEnv, g_set, goI, gk, h0, h3]) (by simp [evalT, rnEnv, g_set, goI, gk, h0, h3]))).trans (r_nil _)))))) ?_
    refine GoesV.step (fun rec => b_cond (t := false) (by simp [evalT, rnEnv, g_set, goI, h0, h3])) ?_
    refine GoesV.step (fun rec => b_exit rfl) ?_
    refine GoesV.step (fun rec => b_seq _ _) ?_
    refine GoesV.step (fun rec => (b_region _ _).trans ((r_val rfl rfl (v := .slice 0 0 10 10 true) (m' := Abs.newRow mem0 (9, 1) (strs kwB)) (by kernel_rfl)).trans ((r_val rfl rfl (o_move rfl)).trans ((r_call (v := .bool (isIn s kwB)) rfl rfl (o_call2 (vx := .slice 0 0 10 10 true) (vy := .lit (.string s)) (by simp [evalT, rnEnv, g_set, goI, h0, h3]) (by simp [evalT, rnEnv, g_set, goI, h0, h3])) (hasTb_row (m := Abs.newRow mem0 (9, 1) (strs kwB)) (r := 0) (f := 0) (p := 0) (c := 10) (ex := true) (e := (9, 1)) (l := kwB) (new0 _ _) (by decide))).trans ((r_val rfl rfl (o_not (b := isIn s kwB) (by simp [evalT, rnEnv, g_set, goI, h0, h3]))).trans ((r_val rfl rfl (o_assign rfl)).trans (r_nil _))))))) ?_
    refine GoesV.step (fun rec => b_ret rfl) ?_
    refine GoesV.last (fun rec => (b_results (vs := [.lit (.bool (!isIn s kwB))]) Tryz.func16 (by simp [Tryz.f16, resVals, resVal, evalT, rnEnv, g_set])).trans rfl)
  | succ d ih =>
    intro i tmps hd hi h0 h3
    have hlt : i < s.size := by omega
    have hlt' : i < s.data.toList.length := by rw [size_eq]; exact hlt
    have hb : s.data.toList[i]? = some s.data.toList[i] := List.getElem?_eq_getElem hlt'
    have hdrop : s.data.toList.drop i = s.data.toList[i] :: s.data.toList.drop (i + 1) := List.drop_eq_getElem_cons hlt'
    generalize s.data.toList[i] = b at hb hdrop
    refine GoesV.step (fun rec => b_seq _ _) ?_
    refine GoesV.step (fun rec => b_seq _ _) ?_
    refine GoesV.step (fun rec => (b_region _ _).trans ((r_val rfl rfl (o_move rfl)).trans ((r_val rfl rfl (o_move rfl)).trans ((r_val rfl rfl (o_lenS (s := s) (by simp [evalT, rnEnv, g_set, goI, h0, h3]) u9)).trans ((r_val rfl rfl (o_lssK .i64 (a := i) (b := s.size) (by simp [evalT, rnEnv, g_set, goI, gk, h0, h3]) (by simp [evalT, rnEnv, g_set, goI, gk, h0, h3]))).trans (r_nil _)))))) ?_
    refine GoesV.step (fun rec => b_cond (t := true) (by simp [evalT, rnEnv, g_set, goI, h0, h3, hlt])) ?_
    refine GoesV.step (fun rec => b_skip) ?_
    refine GoesV.step (fun rec => b_seq _ _) ?_
    refine GoesV.step (fun rec => b_block _ _) ?_
    refine GoesV.step (fun rec => b_seq _ _) ?_
    by_cases h97 : b.toNat < 97
    ·
      refine GoesV.step (fun rec => (b_region _ _).trans ((r_val rfl rfl (o_move rfl)).trans ((r_val rfl rfl (o_move rfl)).trans ((r_val rfl rfl (o_indexS (s := s) (i := i) (b := b) (by simp [evalT, rnEnv, g_set, goI, h0, h3]) (by simp [evalT, rnEnv, g_set, goI, h0, h3]) u9 hb)).trans ((r_val rfl rfl (o_lssK .u8 (a := b.toNat) (b := 97) (by simp [evalT, rnEnv, g_set, goI, gk, h0, h3]) rfl)).trans ((r_val rfl rfl (o_move rfl)).trans ((r_off (gd_false (d := 22) rfl (by simp [evalT, rnEnv, g_set, goI, gk, h0, h3, h97]))).trans ((r_off (gd_false (d := 22) rfl (by simp [evalT, rnEnv, g_set, goI, gk, h0, h3, h97]))).trans ((r_off (gd_false (d := 22) rfl (by simp [evalT, rnEnv, g_set, goI, gk, h0, h3, h97]))).trans ((r_off (gd_false (d := 22) rfl (by simp [evalT, rnEnv, g_set, goI, gk, h0, h3, h97]))).trans ((r_val rfl rfl (o_pick (t := true) (by simp [evalT, rnEnv, g_set, goI, gk, h0, h3, h97]) rfl rfl)).trans (r_nil _)))))))))))) ?_
      refine GoesV.step (fun rec => b_cond (t := true) (by simp [evalT, rnEnv, g_set, goI, gk, h0, h3, h97])) ?_
      refine GoesV.step (fun rec => b_seq _ _) ?_
      refine GoesV.step (fun rec => (b_region _ _).trans ((r_val rfl rfl (o_assign rfl)).trans (r_nil _))) ?_
      refine GoesV.step (fun rec => b_ret rfl) ?_
      rw [hdrop]; simp only [List.all_cons, low, h97, decide_true, Bool.not_true, Bool.false_and]
      refine GoesV.last (fun rec => (b_results (vs := [.lit (.bool false)]) Tryz.func16 (by simp [Tryz.f16, resVals, resVal, evalT, rnEnv, g_set])).trans rfl)
    ·
      refine GoesV.step (fun rec => (b_region _ _).trans ((r_val rfl rfl (o_move rfl)).trans ((r_val rfl rfl (o_move rfl)).trans ((r_val rfl rfl (o_indexS (s := s) (i := i) (b := b) (by simp [evalT, rnEnv, g_set, goI, h0, h3]) (by simp [evalT, rnEnv, g_set, goI, h0, h3]) u9 hb)).trans ((r_val rfl rfl (o_lssK .u8 (a := b.toNat) (b := 97) (by simp [evalT, rnEnv, g_set, goI, gk, h0, h3]) rfl)).trans ((r_val rfl rfl (o_move rfl)).trans ((r_val (gd_true (d := 22) rfl (by simp [evalT, rnEnv, g_set, goI, gk, h0, h3, h97])) rfl (o_move rfl)).trans ((r_val (gd_true (d := 22) rfl (by simp [evalT, rnEnv, g_set, goI, gk, h0, h3, h97])) rfl (o_move rfl)).trans ((r_val (gd_true (d := 22) rfl (by simp [evalT, rnEnv, g_set, goI, gk, h0, h3, h97])) rfl (o_indexS (s := s) (i := i) (b := b) (by simp [evalT, rnEnv, g_set, goI, gk, h0, h3]) (by simp [evalT, rnEnv, g_set, goI, gk, h0, h3]) u9 hb)).trans ((r_val (gd_true (d := 22) rfl (by simp [evalT, rnEnv, g_set, goI, gk, h0, h3, h97])) rfl (o_gtrK .u8 (a := b.toNat) (b := 122) (by simp [evalT, rnEnv, g_set, goI, gk, h0, h3]) rfl)).trans ((r_val rfl rfl (o_pick (t := false) (by simp [evalT, rnEnv, g_set, goI, gk, h0, h3, h97]) rfl rfl)).trans (r_nil _)))))))))))) ?_
      by_cases h122 : 122 < b.toNat
      ·
        refine GoesV.step (fun rec => b_cond (t := true) (by simp [evalT, rnEnv, g_set, goI, gk, h0, h3, h97, h122])) ?_
        refine GoesV.step (fun rec => b_seq _ _) ?_
        refine GoesV.step (fun rec => (b_region _ _).trans ((r_val rfl rfl (o_assign rfl)).trans (r_nil _))) ?_
        refine GoesV.step (fun rec => b_ret rfl) ?_
        rw [hdrop]; simp only [List.all_cons, low, h97, h122, decide_true, decide_false, Bool.not_true, Bool.not_false, Bool.and_false, Bool.false_and]
        refine GoesV.last (fun rec => (b_results (vs := [.lit (.bool false)]) Tryz.func16 (by simp [Tryz.f16, resVals, resVal, evalT, rnEnv, g_set])).trans rfl)
      ·
        refine GoesV.step (fun rec => b_cond (t := false) (by simp [evalT, rnEnv, g_set, goI, gk, h0, h3, h97, h122])) ?_
        refine GoesV.step (fun rec => b_skip) ?_
        refine GoesV.step (fun rec => b_inBlock _) ?_
        refine GoesV.step (fun rec => (b_region _ _).trans ((r_val rfl rfl (o_move rfl)).trans ((r_val rfl rfl (o_add (a := i) (b := 1) (by simp [evalT, rnEnv, g_set, goI, gk, h0, h3]) rfl (by omega))).trans ((r_val rfl rfl (o_assign rfl)).trans (r_nil _))))) ?_
        refine GoesV.step (fun rec => b_inLoop _) ?_
        have e : (s.data.toList.drop i).all low = (s.data.toList.drop (i + 1)).all low := by rw [hdrop]; simp [low, h97, h122]
        rw [e]
        exact ih (i + 1) _ (by omega) (by omega) (by simp [rnEnv, g_set, h0]) (by simp [rnEnv, g_set, evalT])

theorem rn_goes (s : ByteArray) : GoesV Tryz.prog flH rnEnv [.code rnBody] (argsT [.lit (.string s)] 0 .e) [] .run [] mem0 (.lit (.bool (refNameB s))) := by
  have h0 : getT (argsT [.lit (.string s)] 0 .e) 0 = .lit (.string s) := by rw [getT_argsT]; rfl
  generalize argsT [.lit (.string s)] 0 .e = t at h0
  by_cases hsh : s.size < 1
  ·
    have e : refNameB s = false := by unfold refNameB; rw [decide_eq_false (by omega : ¬ 1 ≤ s.size)]; rfl
    rw [e]
    refine GoesV.step (fun rec => b_seq _ _) ?_
    refine GoesV.step (fun rec => (b_region _ _).trans ((r_val rfl rfl (o_assign rfl)).trans (r_nil _))) ?_
    refine GoesV.step (fun rec => b_seq _ _) ?_
    refine GoesV.step (fun rec => b_seq _ _) ?_
    refine GoesV.step (fun rec => (b_region _ _).trans ((r_val rfl rfl (o_move rfl)).trans ((r_val rfl rfl (o_lenS (s := s) (by simp [evalT, rnEnv, g_set, h0]) u9)).trans ((r_val rfl rfl (o_lssK .i64 (a := s.size) (b := 1) (by simp [evalT, rnEnv, g_set, goI, gk, h0]) rfl)).trans ((r_val rfl rfl (o_move rfl)).trans ((r_off (gd_false (d := 7) rfl (by simp [evalT, rnEnv, g_set, goI, h0, hsh]))).trans ((r_off (gd_false (d := 7) rfl (by simp [evalT, rnEnv, g_set, goI, h0, hsh]))).trans ((r_off (gd_false (d := 7) rfl (by simp [evalT, rnEnv, g_set, goI, h0, hsh]))).trans ((r_val rfl rfl (o_pick (t := true) (by simp [evalT, rnEnv, g_set, goI, h0, hsh]) rfl rfl)).trans (r_nil _)))))))))) ?_
    refine GoesV.step (fun rec => b_cond (t := true) (by simp [evalT, rnEnv, g_set, goI, h0, hsh])) ?_
    refine GoesV.step (fun rec => b_seq _ _) ?_
    refine GoesV.step (fun rec => (b_region _ _).trans ((r_val rfl rfl (o_assign rfl)).trans (r_nil _))) ?_
    refine GoesV.step (fun rec => b_ret rfl) ?_
    refine GoesV.last (fun rec => (b_results (vs := [.lit (.bool false)]) Tryz.func16 (by simp [Tryz.f16, resVals, resVal, evalT, rnEnv, g_set])).trans rfl)
  ·
    refine GoesV.step (fun rec => b_seq _ _) ?_
    refine GoesV.step (fun rec => (b_region _ _).trans ((r_val rfl rfl (o_assign rfl)).trans (r_nil _))) ?_
    refine GoesV.step (fun rec => b_seq _ _) ?_
    refine GoesV.step (fun rec => b_seq _ _) ?_
    refine GoesV.step (fun rec => (b_region _ _).trans ((r_val rfl rfl (o_move rfl)).trans ((r_val rfl rfl (o_lenS (s := s) (by simp [evalT, rnEnv, g_set, h0]) u9)).trans ((r_val rfl rfl (o_lssK .i64 (a := s.size) (b := 1) (by simp [evalT, rnEnv, g_set, goI, gk, h0]) rfl)).trans ((r_val rfl rfl (o_move rfl)).trans ((r_val (gd_true (d := 7) rfl (by simp [evalT, rnEnv, g_set, goI, h0, hsh])) rfl (o_move rfl)).trans ((r_val (gd_true (d := 7) rfl (by simp [evalT, rnEnv, g_set, goI, h0, hsh])) rfl (o_lenS (s := s) (by simp [evalT, rnEnv, g_set, goI, h0]) u9)).trans ((r_val (gd_true (d := 7) rfl (by simp [evalT, rnEnv, g_set, goI, h0, hsh])) rfl (o_gtrK .i64 (a := s.size) (b := 8) (by simp [evalT, rnEnv, g_set, goI, gk, h0]) rfl)).trans ((r_val rfl rfl (o_pick (t := false) (by simp [evalT, rnEnv, g_set, goI, h0, hsh]) rfl rfl)).trans (r_nil _)))))))))) ?_
    by_cases hlg : 8 < s.size
    ·
      have e : refNameB s = false := by unfold refNameB; rw [decide_eq_false (by omega : ¬ s.size ≤ 8), Bool.and_false]; rfl
      rw [e]
      refine GoesV.step (fun rec => b_cond (t := true) (by simp [evalT, rnEnv, g_set, goI, h0, hsh, hlg])) ?_
      refine GoesV.step (fun rec => b_seq _ _) ?_
      refine GoesV.step (fun rec => (b_region _ _).trans ((r_val rfl rfl (o_assign rfl)).trans (r_nil _))) ?_
      refine GoesV.step (fun rec => b_ret rfl) ?_
      refine GoesV.last (fun rec => (b_results (vs := [.lit (.bool false)]) Tryz.func16 (by simp [Tryz.f16, resVals, resVal, evalT, rnEnv, g_set])).trans rfl)
    ·
      refine GoesV.step (fun rec => b_cond (t := false) (by simp [evalT, rnEnv, g_set, goI, h0, hsh, hlg])) ?_
      refine GoesV.step (fun rec => b_skip) ?_
      refine GoesV.step (fun rec => b_seq _ _) ?_
      refine GoesV.step (fun rec => b_seq _ _) ?_
      refine GoesV.step (fun rec => (b_region _ _).trans ((r_val rfl rfl (o_assign rfl)).trans (r_nil _))) ?_
      refine GoesV.step (fun rec => b_block _ _) ?_
      refine GoesV.step (fun rec => b_loop _) ?_
      have e : refNameB s = ((s.data.toList.drop 0).all low && !isIn s kwB) := by unfold refNameB; rw [decide_eq_true (by omega : 1 ≤ s.size), decide_eq_true (by omega : s.size ≤ 8)]; rfl
      rw [e]
      exact rn_loop s (by omega) s.size 0 _ (by omega) (by omega) (by simp [rnEnv, g_set, h0]) (by simp [rnEnv, g_set, evalT, goI])
/-- a call with a string alone -/
theorem str_call {fl : Fl} (htb : TbOK Tryz.prog fl) {f : FuncId} {fn : Func} {c : Code} (hf : Tryz.prog.funcs[f]? = some fn) (hb : fn.body = some c) (hn : 1 ≤ fn.ntmps) {s : ByteArray} {v : Value}
    (hg : GoesV Tryz.prog fl ⟨f, fn.ntmps, false, none⟩ [.code c] (argsT [.lit (.string s)] 0 .e) [] .run [] mem0 (.lit v)) {ρ : Rho} {w : World} {xs : Array Value} (hl : RL ρ [.lit (.string s)] xs.toList) :
    Calls Tryz.prog f xs w fun e w' => e = .returned v ∧ Below w.heap.size w w' := by
  obtain ⟨x, rfl, hx⟩ := hl.one
  simp only [R] at hx
  subst hx
  exact calls_goesV (args := [.lit (.string s)]) names htb mixed hf hb hn hg (MR.empty w) (by simp only [RL]; exact ⟨_, _, rfl, by simp [R], rfl⟩)
noncomputable def refNameK : Known Tryz.prog where
  f := 16
  tb := fun args _ => match args with | [.lit (.string s)] => some (.bool (refNameB s)) | _ => none
  fn := ⟨_, _, Tryz.func16, rfl⟩
  ok := by
    intro args m v ht w0 B ρ w xs h hl
    split at ht
    case h_2 => cases ht
    rename_i s
    cases ht
    exact str_call (flK_ok _) Tryz.func16 rfl (by show (1 : Nat) ≤ 32; omega) (rn_goes s) hl
end Go.Proofs.YtjefckdgpbdpeaaGreat
