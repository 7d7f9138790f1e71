/-
  For every string and every slice of strings, TermNames returns true, and what it was given reads as it did.
-/
import Derived.Test.YtjefckdgpbdpeaaGreatShort
import Derived.Test.YtjefckdgpbdpeaaGreatKd
import Derived.Test.YtjefckdgpbdpeaaGreatRows
import Derived.ProofKit

namespace Go.Proofs.YtjefckdgpbdpeaaGreat
open Go Go.Abs
open Go.RowKit (Below)
set_option maxRecDepth 10000

noncomputable def knownK : Known Tryz.prog where
  f := 14
  tb := fun args _ => match args with | [] => some (.bool true) | _ => none
  fn := ⟨_, _, Tryz.func14, rfl⟩
  ok := by
    intro args m v ht w0 B ρ w xs h hl
    split at ht
    case h_2 => cases ht
    cases ht
    simp only [RL] at hl
    have : xs = #[] := Array.ext' hl
    subst this
    exact known_true w
noncomputable def flM : Fl := flK [shortK, knownK, nameK, refNameK, freshK2, refFreshK2]
theorem u4 : Tryz.prog.underlying 4 = some .bool := by kernel_rfl
def mnEnv : Env := ⟨3, 29, false, none⟩
theorem main_goes (s : ByteArray) (v1 : AVal) (m : Mem) (sh : Bool) (hsh : flM.tb 13 [v1] m = some (.bool sh)) (hfr : sh = true → ∃ b0, flM.tb 17 [v1] m = some (.string b0) ∧ flM.tb 18 [v1] m = some (.string b0)) :
    GoesV Tryz.prog flM mnEnv [.code (bodyF Tryz.f3)] (argsT [.lit (.string s), v1] 0 .e) [] .run [] m (.lit (.bool true)) := by
  have h0 : getT (argsT [.lit (.string s), v1] 0 .e) 0 = .lit (.string s) := by rw [getT_argsT]; rfl
  have h1 : getT (argsT [.lit (.string s), v1] 0 .e) 1 = v1 := by rw [getT_argsT]; rfl
  generalize argsT [.lit (.string s), v1] 0 .e = t at h0 h1
  refine GoesV.step (fun rec => b_seq _ _) ?_
  refine GoesV.step (fun rec => (b_region _ _).trans ((r_val rfl rfl (o_assign rfl)).trans (r_nil _))) ?_
  refine GoesV.step (fun rec => b_seq _ _) ?_
  refine GoesV.step (fun rec => b_seq _ _) ?_
  by_cases h30 : 30 < s.size
  ·
    refine GoesV.step (fun rec => (b_region _ _).trans ((r_val rfl rfl (o_move rfl)).trans ((r_val rfl rfl (o_lenS (s := s) (by simp [evalT, mnEnv, g_set, h0]) u9)).trans ((r_val rfl rfl (o_gtrK .i64 (a := s.size) (b := 30) (by simp [evalT, mnEnv, g_set, goI, gk, h0]) rfl)).trans ((r_val rfl rfl (o_move rfl)).trans ((r_off (gd_false (d := 8) rfl (by simp [evalT, mnEnv, g_set, goI, h0, h30]))).trans ((r_off (gd_false (d := 8) rfl (by simp [evalT, mnEnv, g_set, goI, h0, h30]))).trans ((r_off (gd_false (d := 8) rfl (by simp [evalT, mnEnv, g_set, goI, h0, h30]))).trans ((r_val rfl rfl (o_pick (t := true) (by simp [evalT, mnEnv, g_set, goI, h0, h30]) rfl rfl)).trans (r_nil _)))))))))) ?_
    refine GoesV.step (fun rec => b_cond (t := true) (by simp [evalT, mnEnv, g_set, goI, h0, h30])) ?_
    refine GoesV.step (fun rec => b_seq _ _) ?_
    refine GoesV.step (fun rec => (b_region _ _).trans ((r_call (v := .bool true) rfl rfl o_call0 rfl).trans ((r_val rfl rfl (o_assign rfl)).trans (r_nil _)))) ?_
    refine GoesV.step (fun rec => b_ret rfl) ?_
    exact GoesV.last (fun rec => (b_results (vs := [.lit (.bool true)]) Tryz.func3 (by simp [Tryz.f3, resVals, resVal, evalT, mnEnv, g_set])).trans rfl)
  ·
    refine GoesV.step (fun rec => (b_region _ _).trans ((r_val rfl rfl (o_move rfl)).trans ((r_val rfl rfl (o_lenS (s := s) (by simp [evalT, mnEnv, g_set, h0]) u9)).trans ((r_val rfl rfl (o_gtrK .i64 (a := s.size) (b := 30) (by simp [evalT, mnEnv, g_set, goI, gk, h0]) rfl)).trans ((r_val rfl rfl (o_move rfl)).trans ((r_val (gd_true (d := 8) rfl (by simp [evalT, mnEnv, g_set, goI, h0, h30])) rfl (o_move rfl)).trans ((r_call (gd_true (d := 8) rfl (by simp [evalT, mnEnv, g_set, goI, h0, h1, h30])) rfl (o_call1 (vx := v1) (by simp [evalT, mnEnv, g_set, goI, h0, h1])) (hsh)).trans ((r_val (gd_true (d := 8) rfl (by simp [evalT, mnEnv, g_set, goI, h0, h1, h30])) rfl (o_not (b := sh) (by simp [evalT, mnEnv, g_set, goI, h0, h1]))).trans ((r_val rfl rfl (o_pick (t := false) (by simp [evalT, mnEnv, g_set, goI, h0, h1, h30]) rfl rfl)).trans (r_nil _)))))))))) ?_
    cases sh with
    | false =>
      refine GoesV.step (fun rec => b_cond (t := true) (by simp [evalT, mnEnv, g_set, goI, h0, h1, h30])) ?_
      refine GoesV.step (fun rec => b_seq _ _) ?_
      refine GoesV.step (fun rec => (b_region _ _).trans ((r_call (v := .bool true) rfl rfl o_call0 rfl).trans ((r_val rfl rfl (o_assign rfl)).trans (r_nil _)))) ?_
      refine GoesV.step (fun rec => b_ret rfl) ?_
      exact GoesV.last (fun rec => (b_results (vs := [.lit (.bool true)]) Tryz.func3 (by simp [Tryz.f3, resVals, resVal, evalT, mnEnv, g_set])).trans rfl)
    | true =>
      obtain ⟨b0, hf1, hf2⟩ := hfr rfl
      refine GoesV.step (fun rec => b_cond (t := false) (by simp [evalT, mnEnv, g_set, goI, h0, h1, h30])) ?_
      refine GoesV.step (fun rec => b_skip) ?_
      refine GoesV.step (fun rec => b_seq _ _) ?_
      have hse : seq b0 b0 = true := (seq_iff b0 b0).2 rfl
      refine GoesV.step (fun rec => (b_region _ _).trans ((r_val rfl rfl (o_move rfl)).trans ((r_call (v := .bool (refNameB s)) rfl rfl (o_call1 (vx := .lit (.string s)) (by simp [evalT, mnEnv, g_set, goI, h0, h1])) (by show some (Value.bool (nameB s)) = _; rw [name_same])).trans ((r_val rfl rfl (o_move rfl)).trans ((r_call (v := .bool (refNameB s)) rfl rfl (o_call1 (vx := .lit (.string s)) (by simp [evalT, mnEnv, g_set, goI, h0, h1])) rfl).trans ((r_val rfl rfl (o_eqlB (a := refNameB s) (b := refNameB s) (by simp [evalT, mnEnv, g_set, goI, h0, h1]) (by simp [evalT, mnEnv, g_set, goI, h0, h1]) u4)).trans ((r_val rfl rfl (o_move rfl)).trans ((r_val (gd_true (d := 19) rfl (by simp [evalT, mnEnv, g_set, goI, h0, h1])) rfl (o_move rfl)).trans ((r_call (v := .string b0) (gd_true (d := 19) rfl (by simp [evalT, mnEnv, g_set, goI, h0, h1])) rfl (o_call1 (vx := v1) (by simp [evalT, mnEnv, g_set, goI, h0, h1])) hf1).trans ((r_val (gd_true (d := 19) rfl (by simp [evalT, mnEnv, g_set, goI, h0, h1])) rfl (o_move rfl)).trans ((r_call (v := .string b0) (gd_true (d := 19) rfl (by simp [evalT, mnEnv, g_set, goI, h0, h1])) rfl (o_call1 (vx := v1) (by simp [evalT, mnEnv, g_set, goI, h0, h1])) hf2).trans ((r_val (gd_true (d := 19) rfl (by simp [evalT, mnEnv, g_set, goI, h0, h1])) rfl (o_eqlS (a := b0) (b := b0) (by simp [evalT, mnEnv, g_set, goI, h0, h1]) (by simp [evalT, mnEnv, g_set, goI, h0, h1]))).trans ((r_val rfl rfl (o_pick (t := true) (by simp [evalT, mnEnv, g_set, goI, h0, h1]) rfl rfl)).trans ((r_val rfl rfl (o_move rfl)).trans ((r_call (v := .bool true) (gd_true (d := 26) rfl (by simp [evalT, mnEnv, g_set, goI, h0, h1, hse])) rfl o_call0 rfl).trans ((r_val rfl rfl (o_pick (t := true) (by simp [evalT, mnEnv, g_set, goI, h0, h1, hse]) rfl rfl)).trans ((r_val rfl rfl (o_assign rfl)).trans (r_nil _)))))))))))))))))) ?_
      refine GoesV.step (fun rec => b_ret rfl) ?_
      exact GoesV.last (fun rec => (b_results (vs := [.lit (.bool true)]) Tryz.func3 (by simp [Tryz.f3, resVals, resVal, evalT, mnEnv, g_set])).trans rfl)

theorem cells9 : Tryz.prog.cellsOf 9 = 1 := by kernel_rfl
theorem Tryz.own : ownKnob Tryz.prog.godebug = none := by kernel_rfl
theorem Tryz.laidOut : laidOutB Tryz.prog = true := by kernel_rfl
theorem shortB_len {l : List ByteArray} (h : shortB l = true) : l.length ≤ 90 := by
  unfold shortB at h
  rw [Bool.and_eq_true, decide_eq_true_iff] at h
  exact h.2
/-- with strings -/
theorem main_some (s : ByteArray) {w : World} {b off cap : Nat} {l : List ByteArray} (hlen : l.length < 2 ^ 60) {cs : Array Value} {e : TypeId} {fz : Nat × Nat} (hw : w.heap[b]? = some (.cells cs e fz)) (hc : ∀ ρ', CR ρ' (strs l) cs off) :
    Calls Tryz.prog 3 #[.string s, .slice (some ⟨b, off, none⟩) l.length cap] w fun e w' => e = .returned (.bool true) ∧ Below w.heap.size w w' := by
  obtain ⟨ρ1, hM, hR⟩ := slice_call (c' := cap) rfl hw hc
  have hro : (mem1 (strs l)).heap.get 0 = some (.ro (strs l)) := by rw [mem1_get]; rfl
  refine calls_goesV (args := [.lit (.string s), .slice 0 0 l.length cap true]) names (flK_ok _) mixed Tryz.func3 rfl (by show (2 : Nat) ≤ 29; omega) (main_goes s _ _ (shortB l) ?_ (fun h => ?_)) hM (by simp only [RL]; exact ⟨_, _, rfl, by simp [R], _, _, rfl, hR, rfl⟩)
  · show both (.bool true) shortV [.slice 0 0 l.length cap true] (mem1 (strs l)) = _
    rw [both_slice hro]
    unfold shortV
    rw [if_pos hlen]
  · obtain ⟨b0, hb⟩ := freeOf_some l (shortB_len h)
    have hF : freeV l = some (.string b0) := by unfold freeV; rw [if_pos hlen, hb]; rfl
    refine ⟨b0, ?_, ?_⟩
    · show both (.string ⟨#[97]⟩) freeV [.slice 0 0 l.length cap true] (mem1 (strs l)) = _
      rw [both_slice hro, hF]
    · show both (.string ⟨#[97]⟩) freeV [.slice 0 0 l.length cap true] (mem1 (strs l)) = _
      rw [both_slice hro, hF]
/-- without -/
theorem main_none (s : ByteArray) (w : World) {v1 : AVal} {x : Value} (hv : v1 = .lit (.slice none 0 0) ∨ v1 = .emptyS) (hx : R (fun _ => none) v1 x) :
    Calls Tryz.prog 3 #[.string s, x] w fun e w' => e = .returned (.bool true) ∧ Below w.heap.size w w' := by
  refine calls_goesV (args := [.lit (.string s), v1]) names (flK_ok _) mixed Tryz.func3 rfl (by show (2 : Nat) ≤ 29; omega) (main_goes s v1 mem0 true ?_ (fun _ => ⟨⟨#[97]⟩, ?_, ?_⟩)) (MR.empty w) (by simp only [RL]; exact ⟨_, _, rfl, by simp [R], _, _, rfl, hx, rfl⟩)
  all_goals rcases hv with rfl | rfl <;> rfl
end Go.Proofs.YtjefckdgpbdpeaaGreat
