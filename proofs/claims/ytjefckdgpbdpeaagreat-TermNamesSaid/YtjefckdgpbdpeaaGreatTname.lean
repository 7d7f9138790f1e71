/- A part of the proof that TermNames returns true. -/
import Derived.Test.YtjefckdgpbdpeaaGreatRname

namespace Go.Proofs.YtjefckdgpbdpeaaGreat
open Go Go.Abs
open Go.RowKit (Below)
set_option maxRecDepth 10000

theorem mk70 : Abs.mapKey Tryz.prog 70 = some (9, 4) := by kernel_rfl
theorem tz4 : tzero Tryz.prog 4 = some (.bool false) := by kernel_rfl
def kwL : List (ByteArray × Nat) := kwB.zip [0, 1, 2, 3, 4, 5, 6, 7, 8, 9]
theorem keys_kwL : keysE kwL = kwB := rfl
theorem kw_goes {fl : Fl} : Goes Tryz.prog fl ⟨54, 3, false, none⟩ [.code (bodyF Tryz.f54)] (argsT [] 0 .e) [] .run [] mem0 (.ret (.map 0) [] (mem0.new (.map (ents kwL) 10))) := Goes.closed 30 (fun k => by kernel_rfl)
/-- Name, as the program has it -/
def nameB (s : ByteArray) : Bool := speltB s && !isIn s kwB
noncomputable def flS : Fl := flK [speltK]
def tnEnv : Env := ⟨15, 11, false, none⟩
theorem newm0 (o : AObj) : (mem0.new o).heap.get 0 = some o := by
  rw [new_heap]
  exact T.get_set_same _ _ _
theorem tn_goes (s : ByteArray) : GoesV Tryz.prog flS tnEnv [.code (bodyF Tryz.f15)] (argsT [.lit (.string s)] 0 .e) [] .run [] mem0 (.lit (.bool (nameB s))) := by
  have h0 : getT (argsT [.lit (.string s)] 0 .e) 0 = .lit (.string s) := by rw [getT_argsT]; rfl
  generalize argsT [.lit (.string s)] 0 .e = t at h0
  refine GoesV.step (fun rec => b_seq _ _) ?_
  refine GoesV.step (fun rec => (b_region _ _).trans ((r_val rfl rfl (o_assign rfl)).trans (r_nil _))) ?_
  refine GoesV.step (fun rec => b_seq _ _) ?_
  cases hs : speltB s with
  | false =>
    have e : nameB s = false := by unfold nameB; rw [hs]; rfl
    rw [e]
    refine GoesV.step (fun rec => (b_region _ _).trans ((r_val rfl rfl (o_move rfl)).trans ((r_call (v := .bool (speltB s)) rfl rfl (o_call1 (vx := .lit (.string s)) (by simp [evalT, tnEnv, g_set, h0])) rfl).trans ((r_val rfl rfl (o_move rfl)).trans ((r_off (gd_false (d := 5) rfl (by simp [evalT, tnEnv, g_set, h0, hs]))).trans ((r_off (gd_false (d := 5) rfl (by simp [evalT, tnEnv, g_set, h0, hs]))).trans ((r_off (gd_false (d := 5) rfl (by simp [evalT, tnEnv, g_set, h0, hs]))).trans ((r_off (gd_false (d := 5) rfl (by simp [evalT, tnEnv, g_set, h0, hs]))).trans ((r_val rfl rfl (o_pick (t := false) (by simp [evalT, tnEnv, g_set, h0, hs]) rfl rfl)).trans ((r_val rfl rfl (o_assign rfl)).trans (r_nil _))))))))))) ?_
    refine GoesV.step (fun rec => b_ret rfl) ?_
    refine GoesV.last (fun rec => (b_results (vs := [.lit (.bool false)]) Tryz.func15 (by simp [Tryz.f15, resVals, resVal, evalT, tnEnv, g_set])).trans rfl)
  | true =>
    have e : nameB s = !isIn s kwB := by unfold nameB; rw [hs]; rfl
    rw [e]
    refine GoesV.bodyC (GoesCV.of_eq (fun rec => (b_region _ _).trans ((r_val rfl rfl (o_move rfl)).trans ((r_call (v := .bool (speltB s)) rfl rfl (o_call1 (vx := .lit (.string s)) (by simp [evalT, tnEnv, g_set, h0])) rfl).trans ((r_val rfl rfl (o_move rfl)).trans  rfl)))) ?_)
    refine GoesCV.call (gd_true (d := 5) rfl (by simp [evalT, tnEnv, g_set, h0, hs])) rfl o_call0 rfl rfl Tryz.func54 rfl (Nat.zero_le _) kw_goes ?_
    refine GoesCV.of_eq (fun rec => (r_val (gd_true (d := 5) rfl (by simp [evalT, tnEnv, g_set, h0, hs])) rfl (o_move rfl)).trans ((r_val (gd_true (d := 5) rfl (by simp [evalT, tnEnv, g_set, h0, hs])) rfl (o_lookupB (r := 0) (c := 10) (l := kwL) (s := s) (by simp [evalT, tnEnv, g_set, h0]) (by simp [evalT, tnEnv, g_set, h0]) (newm0 _) mk70 u9 tz4)).trans
      ((r_val (gd_true (d := 5) rfl (by simp [evalT, tnEnv, g_set, h0, hs])) rfl (o_not (b := isIn s (keysE kwL)) (by simp [evalT, tnEnv, g_set, h0]))).trans ((r_val rfl rfl (o_pick (t := true) (by simp [evalT, tnEnv, g_set, h0, hs]) rfl rfl)).trans ((r_val rfl rfl (o_assign rfl)).trans (r_nil _)))))) ?_
    refine GoesCV.of_goes ?_
    refine GoesV.step (fun rec => b_ret rfl) ?_
    exact GoesV.last (fun rec => (b_results (vs := [.lit (.bool (!isIn s kwB))]) Tryz.func15 (by simp [Tryz.f15, resVals, resVal, evalT, tnEnv, g_set, keys_kwL])).trans rfl)
noncomputable def nameK : Known Tryz.prog where
  f := 15
  tb := fun args _ => match args with | [.lit (.string s)] => some (.bool (nameB s)) | _ => none
  fn := ⟨_, _, Tryz.func15, rfl⟩
  ok := by
    intro args m v ht w0 B ρ w xs h hl
    split at ht
    case h_2 => cases ht
    rename_i s
    cases ht
    exact str_call (flK_ok _) Tryz.func15 rfl (by show (1 : Nat) ≤ 11; omega) (tn_goes s) hl
theorem name_same (s : ByteArray) : nameB s = refNameB s := by
  unfold nameB speltB refNameB
  rw [Bool.and_assoc]
end Go.Proofs.YtjefckdgpbdpeaaGreat
