/- A part of the proof that TermNames returns true. -/
import Derived.Test.YtjefckdgpbdpeaaGreatProg
import Derived.Test.YtjefckdgpbdpeaaGreatAbsSym
import Derived.KernelRfl

namespace Go.Proofs.YtjefckdgpbdpeaaGreat
open Go Go.Abs
open Go.RowKit (Below)

theorem lt1 : tagg Tryz.prog 9 = some false := by kernel_rfl
theorem lt2 : tsz Tryz.prog 9 = some 1 := by kernel_rfl
theorem lt3 : sizedElem Tryz.prog (sliceElem Tryz.prog 22) = some (9, 1) := by kernel_rfl

def bodyF (f : Func) : Code := match f.body with | some c => c | none => .skip
noncomputable def hasBody : Code := bodyF Tryz.f36
noncomputable def hasLoop : Code := cAt [true, false, true, false, false] hasBody
noncomputable def hasEnd : Code := cAt [true, true] hasBody
def hasEnv : Env := ⟨36, 18, false, none⟩

variable {fl : Fl}
set_option maxRecDepth 10000
theorem has_loop (s : ByteArray) (l : List ByteArray) (c : Nat) (ex : Bool) (hlen : l.length < 2 ^ 60) (m : Mem) (hm : m.heap.get 0 = some (.ro (strs l))) : ∀ (d i : Nat) (tmps : T AVal), l.length - i = d → i ≤ l.length →
    getT tmps 0 = .slice 0 0 l.length c ex → getT tmps 1 = .lit (.string s) → getT tmps 5 = goI i →
    Goes Tryz.prog fl hasEnv [.code hasLoop, .inLoop hasLoop, .inBlock 0, .code hasEnd] tmps [] .run [] m (.ret (.lit (.bool (isIn s (l.drop i)))) [] m) := by
  intro d
  induction d with
  | zero =>
    intro i tmps hd hi h0 h1 h5
    have : i = l.length := by omega
    subst this
    refine Goes.step (fun rec => b_seq _ _) ?_
    refine Goes.step (fun rec => b_seq _ _) ?_
    refine Goes.step (fun rec => (b_region _ _).trans ((r_val rfl rfl (o_move (e_tmp h5))).trans ((r_val rfl rfl (o_move (v := .slice 0 0 l.length c ex) (by simp [evalT, hasEnv, g_set, h0]))).trans
      ((r_val rfl rfl (o_len (r := 0) (off := 0) (n := l.length) (c := c) (ex := ex) (by simp [evalT, hasEnv, g_set]) Tryz.underlying22)).trans
      ((r_val rfl rfl (o_lss (a := l.length) (b := l.length) (by simp [evalT, hasEnv, g_set]) (by simp [evalT, hasEnv, g_set]))).trans (r_nil _)))))) ?_
    refine Goes.step (fun rec => b_cond (t := false) (by simp [evalT, hasEnv, g_set])) ?_
    refine Goes.step (fun rec => b_exit rfl) ?_
    refine Goes.step (fun rec => b_seq _ _) ?_
    refine Goes.step (fun rec => (b_region _ _).trans ((r_val rfl rfl (o_assign rfl)).trans (r_nil _))) ?_
    refine Goes.step (fun rec => b_ret rfl) ?_
    refine Goes.last (fun rec => (b_results (vs := [.lit (.bool false)]) Tryz.func36 (by simp [Tryz.f36, resVals, resVal, evalT, hasEnv, g_set])).trans ?_)
    simp [one, isIn]
  | succ d ih =>
    intro i tmps hd hi h0 h1 h5
    have hlt : i < l.length := by omega
    have hb : l[i]? = some l[i] := List.getElem?_eq_getElem hlt
    have hdrop : l.drop i = l[i] :: l.drop (i + 1) := List.drop_eq_getElem_cons hlt
    generalize l[i] = b at hb hdrop
    refine Goes.step (fun rec => b_seq _ _) ?_
    refine Goes.step (fun rec => b_seq _ _) ?_
    refine Goes.step (fun rec => (b_region _ _).trans ((r_val rfl rfl (o_move (e_tmp h5))).trans ((r_val rfl rfl (o_move (v := .slice 0 0 l.length c ex) (by simp [evalT, hasEnv, g_set, h0]))).trans
      ((r_val rfl rfl (o_len (r := 0) (off := 0) (n := l.length) (c := c) (ex := ex) (by simp [evalT, hasEnv, g_set]) Tryz.underlying22)).trans
      ((r_val rfl rfl (o_lss (a := i) (b := l.length) (by simp [evalT, hasEnv, g_set]) (by simp [evalT, hasEnv, g_set]))).trans (r_nil _)))))) ?_
    refine Goes.step (fun rec => b_cond (t := true) (by simp [evalT, hasEnv, g_set, hlt])) ?_
    refine Goes.step (fun rec => b_skip) ?_
    refine Goes.step (fun rec => b_seq _ _) ?_
    refine Goes.step (fun rec => b_block _ _) ?_
    refine Goes.step (fun rec => b_seq _ _) ?_
    refine Goes.step (fun rec => (b_region _ _).trans ((r_val rfl rfl (o_move (v := .slice 0 0 l.length c ex) (by simp [evalT, hasEnv, g_set, h0]))).trans
      ((r_val rfl rfl (o_move (v := goI i) (by simp [evalT, hasEnv, g_set, h5]))).trans
      ((r_val rfl rfl (o_indexAddr (r := 0) (off := 0) (n := l.length) (c := c) (ex := ex) (i := i) (by simp [evalT, hasEnv, g_set]) (by simp [evalT, hasEnv, g_set]) lt3 hlt)).trans
      ((r_val rfl rfl (o_loadRo (r := 0) (off := i) (v := .lit (.string b)) (by simp [evalT, hasEnv, g_set]) hm lt1 lt2 (strs_get hb) rfl)).trans
      ((r_val rfl rfl (o_move (v := .lit (.string s)) (by simp [evalT, hasEnv, g_set, h1]))).trans
      ((r_val rfl rfl (o_eqlS (a := b) (b := s) (by simp [evalT, hasEnv, g_set]) (by simp [evalT, hasEnv, g_set]))).trans (r_nil _)))))))) ?_
    cases hs : seq b s with
    | true =>
      refine Goes.step (fun rec => b_cond (t := true) (by simp [evalT, hasEnv, g_set])) ?_
      refine Goes.step (fun rec => b_seq _ _) ?_
      refine Goes.step (fun rec => (b_region _ _).trans ((r_val rfl rfl (o_assign rfl)).trans (r_nil _))) ?_
      refine Goes.step (fun rec => b_ret rfl) ?_
      refine Goes.last (fun rec => (b_results (vs := [.lit (.bool true)]) Tryz.func36 (by simp [Tryz.f36, resVals, resVal, evalT, hasEnv, g_set])).trans ?_)
      rw [hdrop]
      simp [one, isIn, hs]
    | false =>
      refine Goes.step (fun rec => b_cond (t := false) (by simp [evalT, hasEnv, g_set])) ?_
      refine Goes.step (fun rec => b_skip) ?_
      refine Goes.step (fun rec => b_inBlock _) ?_
      refine Goes.step (fun rec => (b_region _ _).trans ((r_val rfl rfl (o_move (v := goI i) (by simp [evalT, hasEnv, g_set, h5]))).trans
        ((r_val rfl rfl (o_add (a := i) (b := 1) (by simp [evalT, hasEnv, g_set]) rfl (by omega))).trans
        ((r_val rfl rfl (o_assign (v := goI (i + 1)) (by simp [evalT, hasEnv, g_set]))).trans (r_nil _))))) ?_
      refine Goes.step (fun rec => b_inLoop _) ?_
      have e : isIn s (l.drop i) = isIn s (l.drop (i + 1)) := by rw [hdrop]; simp [isIn, hs]
      rw [e]
      exact ih (i + 1) _ (by omega) (by omega) (by simp [hasEnv, g_set, h0]) (by simp [hasEnv, g_set, h1]) (by simp [hasEnv, g_set])

theorem has_goes (s : ByteArray) (l : List ByteArray) (c : Nat) (ex : Bool) (hlen : l.length < 2 ^ 60) (m : Mem) (hm : m.heap.get 0 = some (.ro (strs l))) :
    Goes Tryz.prog fl hasEnv [.code hasBody] (argsT [.slice 0 0 l.length c ex, .lit (.string s)] 0 .e) [] .run [] m (.ret (.lit (.bool (isIn s l))) [] m) := by
  have h0 : getT (argsT [.slice 0 0 l.length c ex, .lit (.string s)] 0 .e) 0 = .slice 0 0 l.length c ex := by rw [getT_argsT]; rfl
  have h1 : getT (argsT [.slice 0 0 l.length c ex, .lit (.string s)] 0 .e) 1 = .lit (.string s) := by rw [getT_argsT]; rfl
  generalize argsT [.slice 0 0 l.length c ex, .lit (.string s)] 0 .e = t at h0 h1
  refine Goes.step (fun rec => b_seq _ _) ?_
  refine Goes.step (fun rec => (b_region _ _).trans ((r_val rfl rfl (o_assign rfl)).trans (r_nil _))) ?_
  refine Goes.step (fun rec => b_seq _ _) ?_
  refine Goes.step (fun rec => b_seq _ _) ?_
  refine Goes.step (fun rec => (b_region _ _).trans ((r_val rfl rfl (o_assign rfl)).trans (r_nil _))) ?_
  refine Goes.step (fun rec => b_block _ _) ?_
  refine Goes.step (fun rec => b_loop _) ?_
  exact has_loop s l c ex hlen m hm l.length 0 _ (by omega) (by omega) (by simp [hasEnv, g_set, h0]) (by simp [hasEnv, g_set, h1]) (by simp [hasEnv, g_set, evalT, goI])

noncomputable def okNames : Bool := (List.range Tryz.prog.funcs.size).all fun i => match Tryz.prog.funcs[i]? with | some fn => !fn.body.isSome || !(fn.name == "runtime.NumGoroutine") | none => true
theorem okNames_true : okNames = true := by kernel_rfl
theorem names : NamesOK Tryz.prog := by
  intro f fn hf hb
  have hlt := (Array.getElem?_eq_some_iff.1 hf).1
  have h := okNames_true
  unfold okNames at h
  rw [List.all_eq_true] at h
  have h2 := h f (List.mem_range.2 hlt)
  rw [hf] at h2
  dsimp only at h2
  rw [hb] at h2
  simpa using h2
theorem mixed : Tryz.prog.follows .mixedOrders = true := by kernel_rfl

noncomputable def hasTb (args : List AVal) (m : Mem) : Option Value := match args with
  | [.slice r off n _ _, .lit (.string s)] => (match sliceStrs m r off n with
    | some l => if l.length < 2 ^ 60 then some (.bool (isIn s l)) else none
    | none => none)
  | _ => none
/-- Has reports whether a string is in a slice -/
noncomputable def hasK : Known Tryz.prog where
  f := 36
  tb := hasTb
  fn := ⟨_, _, Tryz.func36, rfl⟩
  ok := by
    intro args m v ht w0 B ρ w xs h hl
    unfold hasTb at ht
    split at ht
    case h_2 => cases ht
    rename_i r off n c ex s
    cases hs : sliceStrs m r off n with
    | none => rw [hs] at ht; cases ht
    | some l =>
      rw [hs] at ht
      dsimp only at ht
      split at ht
      case isFalse => cases ht
      rename_i hlen
      cases ht
      obtain ⟨x, y, rfl, hx, hy⟩ := hl.two
      obtain ⟨hn, b, s', cs, e, fz, c', rfl, hw, hc⟩ := h.sliceStrs hx hs
      simp only [R] at hy
      subst hy
      obtain ⟨ρ1, hM, hR⟩ := slice_call (c' := c') hn hw hc
      exact calls_goes (fl := ⟨[], fun _ _ _ => none⟩) names (TbOK.none _ _) mixed Tryz.func36 rfl (by show (2 : Nat) ≤ 18; omega) (has_goes s l c' true hlen _ (by rw [mem1_get]; rfl)) hM (by simp only [RL]; exact ⟨_, _, rfl, hR, _, _, rfl, by simp [R], rfl⟩)
end Go.Proofs.YtjefckdgpbdpeaaGreat
