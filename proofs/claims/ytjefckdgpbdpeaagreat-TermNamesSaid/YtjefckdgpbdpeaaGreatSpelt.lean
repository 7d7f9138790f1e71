/- A part of the proof that TermNames returns true. -/
import Derived.Test.YtjefckdgpbdpeaaGreatHas

namespace Go.Proofs.YtjefckdgpbdpeaaGreat
open Go Go.Abs
open Go.RowKit (Below)
variable {fl : Fl}
set_option maxRecDepth 10000

theorem u9 : Tryz.prog.underlying 9 = some .string := by kernel_rfl
/-- a letter from a to z -/
def low (b : UInt8) : Bool := !(decide (b.toNat < 97)) && !(decide (122 < b.toNat))
/-- the letters of a name -/
def speltB (s : ByteArray) : Bool := decide (1 ≤ s.size) && decide (s.size ≤ 8) && s.data.toList.all low
theorem size_eq (s : ByteArray) : s.data.toList.length = s.size := Array.length_toList
noncomputable def spBody : Code := bodyF Tryz.f53
noncomputable def spLoop : Code := cAt [true, true, false, true, false, false] spBody
noncomputable def spEnd : Code := cAt [true, true, true] spBody
def spEnv : Env := ⟨53, 28, false, none⟩

theorem sp_loop (s : ByteArray) (hs : s.size ≤ 8) (m : Mem) : ∀ (d i : Nat) (tmps : T AVal), s.size - i = d → i ≤ s.size → getT tmps 0 = .lit (.string s) → getT tmps 13 = goI s.size → getT tmps 14 = goI i →
    Goes Tryz.prog fl spEnv [.code spLoop, .inLoop spLoop, .inBlock 0, .code spEnd] tmps [] .run [] m (.ret (.lit (.bool ((s.data.toList.drop i).all low))) [] m) := by
  intro d
  induction d with
  | zero =>
    intro i tmps hd hi h0 h13 h14
    have : i = s.size := by omega
    subst this
    refine Goes.step (fun rec => b_seq _ _) ?_
    refine Goes.step (fun rec => (b_region _ _).trans ((r_val rfl rfl (o_lssK .i64 (a := s.size) (b := s.size) (by simp [evalT, goI, gk, h14]) (by simp [evalT, goI, gk, h13]))).trans (r_nil _))) ?_
    refine Goes.step (fun rec => b_seq _ _) ?_
    refine Goes.step (fun rec => b_cond (t := false) (by simp [evalT, spEnv, g_set])) ?_
    refine Goes.step (fun rec => b_exit rfl) ?_
    refine Goes.step (fun rec => b_seq _ _) ?_
    refine Goes.step (fun rec => (b_region _ _).trans ((r_val rfl rfl (o_assign rfl)).trans (r_nil _))) ?_
    refine Goes.step (fun rec => b_ret rfl) ?_
    refine Goes.last (fun rec => (b_results (vs := [.lit (.bool true)]) Tryz.func53 (by simp [Tryz.f53, resVals, resVal, evalT, spEnv, g_set])).trans ?_)
    rw [List.drop_of_length_le (by rw [size_eq]; exact Nat.le_refl _)]
    simp [one]
  | succ d ih =>
    intro i tmps hd hi h0 h13 h14
    have hlt : i < s.size := by omega
    have hlt' : i < s.data.toList.length := by rw [size_eq]; exact hlt
    have hb : s.data.toList[i]? = some s.data.toList[i] := List.getElem?_eq_getElem hlt'
    have hdrop : s.data.toList.drop i = s.data.toList[i] :: s.data.toList.drop (i + 1) := List.drop_eq_getElem_cons hlt'
    generalize s.data.toList[i] = b at hb hdrop
    refine Goes.step (fun rec => b_seq _ _) ?_
    refine Goes.step (fun rec => (b_region _ _).trans ((r_val rfl rfl (o_lssK .i64 (a := i) (b := s.size) (by simp [evalT, goI, gk, h14]) (by simp [evalT, goI, gk, h13]))).trans (r_nil _))) ?_
    refine Goes.step (fun rec => b_seq _ _) ?_
    refine Goes.step (fun rec => b_cond (t := true) (by simp [evalT, spEnv, g_set, hlt])) ?_
    refine Goes.step (fun rec => b_skip) ?_
    refine Goes.step (fun rec => b_seq _ _) ?_
    refine Goes.step (fun rec => b_block _ _) ?_
    refine Goes.step (fun rec => b_seq _ _) ?_
    refine Goes.step (fun rec => (b_region _ _).trans ((r_val rfl rfl (o_move rfl)).trans ((r_val rfl rfl (o_assign rfl)).trans (r_nil _)))) ?_
    refine Goes.step (fun rec => b_seq _ _) ?_
    by_cases h97 : b.toNat < 97
    ·
      refine Goes.step (fun rec => (b_region _ _).trans ((r_val rfl rfl (o_move rfl)).trans ((r_val rfl rfl (o_move rfl)).trans ((r_val rfl rfl (o_indexS (s := s) (i := i) (b := b) (by simp [evalT, spEnv, g_set, goI, h0, h14]) (by simp [evalT, spEnv, g_set, goI, h0, h14]) u9 hb)).trans ((r_val rfl rfl (o_lssK .u8 (a := b.toNat) (b := 97) (by simp [evalT, spEnv, g_set, goI, gk, h0, h14]) rfl)).trans ((r_val rfl rfl (o_move rfl)).trans ((r_off (gd_false (d := 21) rfl (by simp [evalT, spEnv, g_set, goI, gk, h0, h14, h97]))).trans ((r_off (gd_false (d := 21) rfl (by simp [evalT, spEnv, g_set, goI, gk, h0, h14, h97]))).trans ((r_off (gd_false (d := 21) rfl (by simp [evalT, spEnv, g_set, goI, gk, h0, h14, h97]))).trans ((r_off (gd_false (d := 21) rfl (by simp [evalT, spEnv, g_set, goI, gk, h0, h14, h97]))).trans ((r_val rfl rfl (o_pick (t := true) (by simp [evalT, spEnv, g_set, goI, gk, h0, h14, h97]) rfl rfl)).trans (r_nil _)))))))))))) ?_
      refine Goes.step (fun rec => b_cond (t := true) (by simp [evalT, spEnv, g_set, goI, gk, h0, h14, h97])) ?_
      refine Goes.step (fun rec => b_seq _ _) ?_
      refine Goes.step (fun rec => (b_region _ _).trans ((r_val rfl rfl (o_assign rfl)).trans (r_nil _))) ?_
      refine Goes.step (fun rec => b_ret rfl) ?_
      refine Goes.last (fun rec => (b_results (vs := [.lit (.bool false)]) Tryz.func53 (by simp [Tryz.f53, resVals, resVal, evalT, spEnv, g_set])).trans ?_)
      rw [hdrop]; simp [one, low, h97]
    ·
      refine Goes.step (fun rec => (b_region _ _).trans ((r_val rfl rfl (o_move rfl)).trans ((r_val rfl rfl (o_move rfl)).trans ((r_val rfl rfl (o_indexS (s := s) (i := i) (b := b) (by simp [evalT, spEnv, g_set, goI, h0, h14]) (by simp [evalT, spEnv, g_set, goI, h0, h14]) u9 hb)).trans ((r_val rfl rfl (o_lssK .u8 (a := b.toNat) (b := 97) (by simp [evalT, spEnv, g_set, goI, gk, h0, h14]) rfl)).trans ((r_val rfl rfl (o_move rfl)).trans ((r_val (gd_true (d := 21) rfl (by simp [evalT, spEnv, g_set, goI, gk, h0, h14, h97])) rfl (o_move rfl)).trans ((r_val (gd_true (d := 21) rfl (by simp [evalT, spEnv, g_set, goI, gk, h0, h14, h97])) rfl (o_move rfl)).trans ((r_val (gd_true (d := 21) rfl (by simp [evalT, spEnv, g_set, goI, gk, h0, h14, h97])) rfl (o_indexS (s := s) (i := i) (b := b) (by simp [evalT, spEnv, g_set, goI, gk, h0, h14]) (by simp [evalT, spEnv, g_set, goI, gk, h0, h14]) u9 hb)).trans ((r_val (gd_true (d := 21) rfl (by simp [evalT, spEnv, g_set, goI, gk, h0, h14, h97])) rfl (o_gtrK .u8 (a := b.toNat) (b := 122) (by simp [evalT, spEnv, g_set, goI, gk, h0, h14]) rfl)).trans ((r_val rfl rfl (o_pick (t := false) (by simp [evalT, spEnv, g_set, goI, gk, h0, h14, h97]) rfl rfl)).trans (r_nil _)))))))))))) ?_
      by_cases h122 : 122 < b.toNat
      ·
        refine Goes.step (fun rec => b_cond (t := true) (by simp [evalT, spEnv, g_set, goI, gk, h0, h14, h97, h122])) ?_
        refine Goes.step (fun rec => b_seq _ _) ?_
        refine Goes.step (fun rec => (b_region _ _).trans ((r_val rfl rfl (o_assign rfl)).trans (r_nil _))) ?_
        refine Goes.step (fun rec => b_ret rfl) ?_
        refine Goes.last (fun rec => (b_results (vs := [.lit (.bool false)]) Tryz.func53 (by simp [Tryz.f53, resVals, resVal, evalT, spEnv, g_set])).trans ?_)
        rw [hdrop]; simp [one, low, h97, h122]
      ·
        refine Goes.step (fun rec => b_cond (t := false) (by simp [evalT, spEnv, g_set, goI, gk, h0, h14, h97, h122])) ?_
        refine Goes.step (fun rec => b_skip) ?_
        refine Goes.step (fun rec => b_inBlock _) ?_
        refine Goes.step (fun rec => (b_region _ _).trans ((r_val rfl rfl (o_add (a := i) (b := 1) (by simp [evalT, spEnv, g_set, goI, gk, h0, h14]) rfl (by omega))).trans ((r_val rfl rfl (o_move rfl)).trans (r_nil _)))) ?_
        refine Goes.step (fun rec => b_inLoop _) ?_
        have e : (s.data.toList.drop i).all low = (s.data.toList.drop (i + 1)).all low := by rw [hdrop]; simp [low, h97, h122]
        rw [e]
        exact ih (i + 1) _ (by omega) (by omega) (by simp [spEnv, g_set, h0]) (by simp [spEnv, g_set, h13]) (by simp [spEnv, g_set, evalT])

theorem sp_goes (s : ByteArray) (m : Mem) : Goes Tryz.prog fl spEnv [.code spBody] (argsT [.lit (.string s)] 0 .e) [] .run [] m (.ret (.lit (.bool (speltB s))) [] m) := by
  have h0 : getT (argsT [.lit (.string s)] 0 .e) 0 = .lit (.string s) := by rw [getT_argsT]; rfl
  generalize argsT [.lit (.string s)] 0 .e = t at h0
  by_cases hsh : s.size < 1
  ·
    refine Goes.step (fun rec => b_seq _ _) ?_
    refine Goes.step (fun rec => (b_region _ _).trans ((r_val rfl rfl (o_assign rfl)).trans (r_nil _))) ?_
    refine Goes.step (fun rec => b_seq _ _) ?_
    refine Goes.step (fun rec => b_seq _ _) ?_
    refine Goes.step (fun rec => (b_region _ _).trans ((r_val rfl rfl (o_move rfl)).trans ((r_val rfl rfl (o_lenS (s := s) (by simp [evalT, spEnv, g_set, h0]) u9)).trans ((r_val rfl rfl (o_lssK .i64 (a := s.size) (b := 1) (by simp [evalT, spEnv, g_set, goI, gk, h0]) rfl)).trans ((r_val rfl rfl (o_move rfl)).trans ((r_off (gd_false (d := 7) rfl (by simp [evalT, spEnv, g_set, goI, h0, hsh]))).trans ((r_off (gd_false (d := 7) rfl (by simp [evalT, spEnv, g_set, goI, h0, hsh]))).trans ((r_off (gd_false (d := 7) rfl (by simp [evalT, spEnv, g_set, goI, h0, hsh]))).trans ((r_val rfl rfl (o_pick (t := true) (by simp [evalT, spEnv, g_set, goI, h0, hsh]) rfl rfl)).trans (r_nil _)))))))))) ?_
    refine Goes.step (fun rec => b_cond (t := true) (by simp [evalT, spEnv, g_set, goI, h0, hsh])) ?_
    refine Goes.step (fun rec => b_seq _ _) ?_
    refine Goes.step (fun rec => (b_region _ _).trans ((r_val rfl rfl (o_assign rfl)).trans (r_nil _))) ?_
    refine Goes.step (fun rec => b_ret rfl) ?_
    refine Goes.last (fun rec => (b_results (vs := [.lit (.bool false)]) Tryz.func53 (by simp [Tryz.f53, resVals, resVal, evalT, spEnv, g_set])).trans ?_)
    have : speltB s = false := by unfold speltB; simp; omega
    rw [this]; rfl
  ·
    refine Goes.step (fun rec => b_seq _ _) ?_
    refine Goes.step (fun rec => (b_region _ _).trans ((r_val rfl rfl (o_assign rfl)).trans (r_nil _))) ?_
    refine Goes.step (fun rec => b_seq _ _) ?_
    refine Goes.step (fun rec => b_seq _ _) ?_
    refine Goes.step (fun rec => (b_region _ _).trans ((r_val rfl rfl (o_move rfl)).trans ((r_val rfl rfl (o_lenS (s := s) (by simp [evalT, spEnv, g_set, h0]) u9)).trans ((r_val rfl rfl (o_lssK .i64 (a := s.size) (b := 1) (by simp [evalT, spEnv, g_set, goI, gk, h0]) rfl)).trans ((r_val rfl rfl (o_move rfl)).trans ((r_val (gd_true (d := 7) rfl (by simp [evalT, spEnv, g_set, goI, h0, hsh])) rfl (o_move rfl)).trans ((r_val (gd_true (d := 7) rfl (by simp [evalT, spEnv, g_set, goI, h0, hsh])) rfl (o_lenS (s := s) (by simp [evalT, spEnv, g_set, goI, h0]) u9)).trans ((r_val (gd_true (d := 7) rfl (by simp [evalT, spEnv, g_set, goI, h0, hsh])) rfl (o_gtrK .i64 (a := s.size) (b := 8) (by simp [evalT, spEnv, g_set, goI, gk, h0]) rfl)).trans ((r_val rfl rfl (o_pick (t := false) (by simp [evalT, spEnv, g_set, goI, h0, hsh]) rfl rfl)).trans (r_nil _)))))))))) ?_
    by_cases hlg : 8 < s.size
    ·
      refine Goes.step (fun rec => b_cond (t := true) (by simp [evalT, spEnv, g_set, goI, h0, hsh, hlg])) ?_
      refine Goes.step (fun rec => b_seq _ _) ?_
      refine Goes.step (fun rec => (b_region _ _).trans ((r_val rfl rfl (o_assign rfl)).trans (r_nil _))) ?_
      refine Goes.step (fun rec => b_ret rfl) ?_
      refine Goes.last (fun rec => (b_results (vs := [.lit (.bool false)]) Tryz.func53 (by simp [Tryz.f53, resVals, resVal, evalT, spEnv, g_set])).trans ?_)
      have : speltB s = false := by unfold speltB; simp; omega
      rw [this]; rfl
    ·
      refine Goes.step (fun rec => b_cond (t := false) (by simp [evalT, spEnv, g_set, goI, h0, hsh, hlg])) ?_
      refine Goes.step (fun rec => b_skip) ?_
      refine Goes.step (fun rec => b_seq _ _) ?_
      refine Goes.step (fun rec => b_seq _ _) ?_
      refine Goes.step (fun rec => (b_region _ _).trans ((r_val rfl rfl (o_move rfl)).trans ((r_val rfl rfl (o_lenS (s := s) (by simp [evalT, spEnv, g_set, goI, h0]) u9)).trans ((r_val rfl rfl (o_move rfl)).trans (r_nil _))))) ?_
      refine Goes.step (fun rec => b_block _ _) ?_
      refine Goes.step (fun rec => b_loop _) ?_
      have e : speltB s = (s.data.toList.drop 0).all low := by unfold speltB; rw [decide_eq_true (by omega : 1 ≤ s.size), decide_eq_true (by omega : s.size ≤ 8)]; rfl
      rw [e]
      exact sp_loop s (by omega) m s.size 0 _ (by omega) (by omega) (by simp [spEnv, g_set, h0]) (by simp [spEnv, g_set]) (by simp [spEnv, g_set, evalT, goI])
/-- spelt reports whether a string has the letters of a name -/
noncomputable def speltK : Known Tryz.prog where
  f := 53
  tb := fun args _ => match args with | [.lit (.string s)] => some (.bool (speltB s)) | _ => none
  fn := ⟨_, _, Tryz.func53, rfl⟩
  ok := by
    intro args m v ht w0 B ρ w xs h hl
    split at ht
    case h_2 => cases ht
    rename_i s
    cases ht
    obtain ⟨x, rfl, hx⟩ := hl.one
    simp only [R] at hx
    subst hx
    exact calls_goes (fl := ⟨[], fun _ _ _ => none⟩) names (TbOK.none _ _) mixed Tryz.func53 rfl (by show (1 : Nat) ≤ 28; omega) (sp_goes s mem0) (MR.empty w) (by simp only [RL]; exact ⟨_, _, rfl, by simp [R], rfl⟩)
end Go.Proofs.YtjefckdgpbdpeaaGreat
