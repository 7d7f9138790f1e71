/- A part of the proof that TermNames returns true. -/
import Derived.Test.YtjefckdgpbdpeaaGreatRfresh

namespace Go.Proofs.YtjefckdgpbdpeaaGreat
open Go Go.Abs
open Go.RowKit (Below)
set_option maxRecDepth 10000

/-- memory of Fresh: the strings, and the map of what is taken -/
noncomputable def memF (l : List ByteArray) (es : List (ByteArray × Nat)) (c : Nat) : Mem := (mem1 (strs l)).new (.map (ents es) c)
noncomputable def memG (l : List ByteArray) (es : List (ByteArray × Nat)) (c : Nat) : Mem := (memF l es c).new (.map (ents kwL) 10)
theorem memF_0 (l : List ByteArray) (es : List (ByteArray × Nat)) (c : Nat) : (memF l es c).heap.get 0 = some (.ro (strs l)) := by
  unfold memF
  rw [new_heap, T.get_set_other _ _ (by show (1 : Nat) ≠ 0; omega), mem1_get]; rfl
theorem memF_1 (l : List ByteArray) (es : List (ByteArray × Nat)) (c : Nat) : (memF l es c).heap.get 1 = some (.map (ents es) c) := by
  unfold memF
  rw [new_heap]
  exact T.get_set_same _ _ _
theorem memF_put (l : List ByteArray) (es es' : List (ByteArray × Nat)) (c c' : Nat) : (memF l es c).put 1 (.map (ents es') c') = memF l es' c' := by kernel_rfl
theorem memG_1 (l : List ByteArray) (es : List (ByteArray × Nat)) (c : Nat) : (memG l es c).heap.get 1 = some (.map (ents es) c) := by
  unfold memG
  rw [new_heap, T.get_set_other _ _ (by show (2 : Nat) ≠ 1; omega), memF_1]
theorem memG_2 (l : List ByteArray) (es : List (ByteArray × Nat)) (c : Nat) : (memG l es c).heap.get 2 = some (.map (ents kwL) 10) := by
  unfold memG
  rw [new_heap]
  exact T.get_set_same _ _ _
theorem kw_goes2 {fl : Fl} (l : List ByteArray) (es : List (ByteArray × Nat)) (c : Nat) : Goes Tryz.prog fl ⟨54, 3, false, none⟩ [.code (bodyF Tryz.f54)] (argsT [] 0 .e) [] .run [] (memF l es c) (.ret (.map 2) [] (memG l es c)) := Goes.closed 30 (fun k => by kernel_rfl)
noncomputable def flA : Fl := flK [afterK]
noncomputable def tfBody : Code := bodyF Tryz.f55
noncomputable def tfLoop : Code := cAt [true, true, true, false, false, false] tfBody
noncomputable def tfEnd : Code := cAt [true, true, true, true] tfBody
def tfEnv : Env := ⟨55, 17, false, none⟩
theorem tf_loop (l : List ByteArray) (es : List (ByteArray × Nat)) (c : Nat) (hes : ∀ q, isIn q (keysE es) = isIn q l) (b0 : ByteArray) : ∀ (d k : Nat) (b : ByteArray) (tmps : T AVal), 91 - k = d → wL[k]? = some b → freeOf l (wL.drop k) = some b0 →
    getT tmps 0 = .map 1 → getT tmps 3 = .map 2 → getT tmps 4 = .lit (.string b) → GoesV Tryz.prog flA tfEnv [.code tfLoop, .inLoop tfLoop, .inBlock 0, .code tfEnd] tmps [] .run [] (memG l es c) (.lit (.string b0)) := by
  intro d
  induction d with
  | zero =>
    intro k b tmps hd hb _ _ _ _
    have := (List.getElem?_eq_some_iff.1 hb).1
    rw [wL_len] at this
    omega
  | succ d ih =>
    intro k b tmps hd hb hf h0 h3 h4
    have hlt : k < wL.length := (List.getElem?_eq_some_iff.1 hb).1
    rw [List.drop_eq_getElem_cons hlt] at hf
    have hg : wL[k] = b := by rw [List.getElem?_eq_getElem hlt] at hb; exact Option.some.inj hb
    rw [hg] at hf
    obtain ⟨_, hkw⟩ := wL_names k b hb
    unfold freeOf at hf
    rw [List.find?_cons] at hf
    have hi1 := hes b
    cases hi : isIn b l with
    | false =>
      rw [hi] at hf hi1
      cases hf
      refine GoesV.step (fun rec => b_seq _ _) ?_
      refine GoesV.step (fun rec => b_seq _ _) ?_
      refine GoesV.step (fun rec => (b_region _ _).trans ((r_val rfl rfl (o_move rfl)).trans ((r_val rfl rfl (o_move rfl)).trans ((r_val rfl rfl (o_lookupB (r := 1) (c := c) (l := es) (s := b0) (by simp [evalT, tfEnv, g_set, h0, h4]) (by simp [evalT, tfEnv, g_set, h0, h4]) (memG_1 l es c) mk70 u9 tz4)).trans ((r_val rfl rfl (o_move rfl)).trans  ((r_val (gd_true (d := 9) rfl (by simp [evalT, tfEnv, g_set, h0, h4, hi1])) rfl (o_move rfl)).trans ((r_val (gd_true (d := 9) rfl (by simp [evalT, tfEnv, g_set, h0, h3, h4, hi1])) rfl (o_move rfl)).trans ((r_val (gd_true (d := 9) rfl (by simp [evalT, tfEnv, g_set, h0, h3, h4, hi1])) rfl (o_lookupB (r := 2) (c := 10) (l := kwL) (s := b0) (by simp [evalT, tfEnv, g_set, h0, h3, h4]) (by simp [evalT, tfEnv, g_set, h0, h3, h4]) (memG_2 l es c) mk70 u9 tz4)).trans ((r_val rfl rfl (o_pick (t := false) (by simp [evalT, tfEnv, g_set, h0, h3, h4, hi1]) rfl rfl)).trans (r_nil _)))))))))) ?_
      refine GoesV.step (fun rec => b_cond (t := false) (by simp [evalT, tfEnv, g_set, h0, h3, h4, keys_kwL, hkw])) ?_
      refine GoesV.step (fun rec => b_exit rfl) ?_
      refine GoesV.step (fun rec => b_seq _ _) ?_
      refine GoesV.step (fun rec => (b_region _ _).trans ((r_val rfl rfl (o_move rfl)).trans ((r_val rfl rfl (o_assign rfl)).trans (r_nil _)))) ?_
      refine GoesV.step (fun rec => b_ret rfl) ?_
      exact GoesV.last (fun rec => (b_results (vs := [.lit (.string b0)]) Tryz.func55 (by simp [Tryz.f55, resVals, resVal, evalT, tfEnv, g_set, h4])).trans rfl)
    | true =>
      rw [hi] at hf hi1
      have hlt2 : k + 1 < wL.length := by
        by_cases hx : k + 1 < wL.length
        · exact hx
        · rw [List.drop_of_length_le (by omega)] at hf; cases hf
      have hb' : wL[k + 1]? = some wL[k + 1] := List.getElem?_eq_getElem hlt2
      generalize wL[k + 1] = b' at hb'
      refine GoesV.step (fun rec => b_seq _ _) ?_
      refine GoesV.step (fun rec => b_seq _ _) ?_
      refine GoesV.step (fun rec => (b_region _ _).trans ((r_val rfl rfl (o_move rfl)).trans ((r_val rfl rfl (o_move rfl)).trans ((r_val rfl rfl (o_lookupB (r := 1) (c := c) (l := es) (s := b) (by simp [evalT, tfEnv, g_set, h0, h4]) (by simp [evalT, tfEnv, g_set, h0, h4]) (memG_1 l es c) mk70 u9 tz4)).trans ((r_val rfl rfl (o_move rfl)).trans  ((r_off (gd_false (d := 9) rfl (by simp [evalT, tfEnv, g_set, h0, h4, hi1]))).trans ((r_off (gd_false (d := 9) rfl (by simp [evalT, tfEnv, g_set, h0, h4, hi1]))).trans ((r_off (gd_false (d := 9) rfl (by simp [evalT, tfEnv, g_set, h0, h4, hi1]))).trans ((r_val rfl rfl (o_pick (t := true) (by simp [evalT, tfEnv, g_set, h0, h4, hi1]) rfl rfl)).trans (r_nil _)))))))))) ?_
      refine GoesV.step (fun rec => b_cond (t := true) (by simp [evalT, tfEnv, g_set, h0, h4, hi1])) ?_
      refine GoesV.step (fun rec => b_skip) ?_
      refine GoesV.step (fun rec => b_block _ _) ?_
      refine GoesV.step (fun rec => (b_region _ _).trans ((r_val rfl rfl (o_move rfl)).trans ((r_call (v := .string b') rfl rfl (o_call1 (vx := .lit (.string b)) (by simp [evalT, tfEnv, g_set, h0, h4])) (after_tb hb hb' (memG l es c))).trans ((r_val rfl rfl (o_assign rfl)).trans (r_nil _))))) ?_
      refine GoesV.step (fun rec => b_inBlock _) ?_
      refine GoesV.step (fun rec => b_inLoop _) ?_
      exact ih (k + 1) b' _ (by omega) hb' hf (by simp [tfEnv, g_set, h0]) (by simp [tfEnv, g_set, h3]) (by simp [tfEnv, g_set, evalT])
theorem tf_goes (l : List ByteArray) (es : List (ByteArray × Nat)) (c : Nat) (hes : ∀ q, isIn q (keysE es) = isIn q l) (b0 : ByteArray) (hf : freeOf l wL = some b0) :
    GoesV Tryz.prog flA tfEnv [.code tfBody] (argsT [.map 1] 0 .e) [] .run [] (memF l es c) (.lit (.string b0)) := by
  have h0 : getT (argsT [.map 1] 0 .e) 0 = .map 1 := by rw [getT_argsT]; rfl
  generalize argsT [.map 1] 0 .e = t at h0
  refine GoesV.step (fun rec => b_seq _ _) ?_
  refine GoesV.step (fun rec => (b_region _ _).trans ((r_val rfl rfl (o_assign rfl)).trans (r_nil _))) ?_
  refine GoesV.step (fun rec => b_seq _ _) ?_
  refine GoesV.bodyC (GoesCV.of_eq (fun rec => b_region _ _) ?_)
  refine GoesCV.call rfl rfl o_call0 rfl rfl Tryz.func54 rfl (Nat.zero_le _) (kw_goes2 l es c) ?_
  refine GoesCV.of_eq (fun rec => (r_val rfl rfl (o_assign rfl)).trans (r_nil _)) ?_
  refine GoesCV.of_goes ?_
  refine GoesV.step (fun rec => b_seq _ _) ?_
  refine GoesV.step (fun rec => (b_region _ _).trans ((r_val rfl rfl (o_assign rfl)).trans (r_nil _))) ?_
  refine GoesV.step (fun rec => b_seq _ _) ?_
  refine GoesV.step (fun rec => b_block _ _) ?_
  refine GoesV.step (fun rec => b_loop _) ?_
  exact tf_loop l es c hes b0 91 0 ⟨#[97]⟩ _ (by omega) rfl hf (by simp [tfEnv, g_set, h0]) (by simp [tfEnv, g_set, evalT]) (by simp [tfEnv, g_set, evalT])

noncomputable def tFBody : Code := bodyF Tryz.f17
noncomputable def tFLoop : Code := cAt [true, true, false, true, false, false] tFBody
noncomputable def tFEnd : Code := cAt [true, true, true] tFBody
def tFEnv : Env := ⟨17, 18, false, none⟩
theorem tF_loop (l : List ByteArray) (c : Nat) (ex : Bool) (hlen : l.length < 2 ^ 60) (b0 : ByteArray) (hf : freeOf l wL = some b0) : ∀ (d i : Nat) (es : List (ByteArray × Nat)) (ck : Nat) (tmps : T AVal), l.length - i = d → i ≤ l.length → (∀ q, isIn q (keysE es) = isIn q (l.take i)) →
    getT tmps 3 = .map 1 → getT tmps 7 = .slice 0 0 l.length c ex → getT tmps 8 = goI l.length → getT tmps 9 = goI i →
    GoesV Tryz.prog flA tFEnv [.code tFLoop, .inLoop tFLoop, .inBlock 0, .code tFEnd] tmps [] .run [] (memF l es ck) (.lit (.string b0)) := by
  intro d
  induction d with
  | zero =>
    intro i es ck tmps hd hi hes h3 h7 h8 h9
    have : i = l.length := by omega
    subst this
    rw [List.take_length] at hes
    refine GoesV.step (fun rec => b_seq _ _) ?_
    refine GoesV.step (fun rec => (b_region _ _).trans ((r_val rfl rfl (o_lssK .i64 (a := l.length) (b := l.length) (by simp [evalT, goI, gk, h9]) (by simp [evalT, goI, gk, h8]))).trans (r_nil _))) ?_
    refine GoesV.step (fun rec => b_seq _ _) ?_
    refine GoesV.step (fun rec => b_cond (t := false) (by simp [evalT, tFEnv, g_set])) ?_
    refine GoesV.step (fun rec => b_exit rfl) ?_
    refine GoesV.step (fun rec => b_seq _ _) ?_
    obtain ⟨u, m2, hc⟩ := tf_goes l es ck hes b0 hf
    refine GoesV.bodyC (GoesCV.of_eq (fun rec => (b_region _ _).trans (r_val rfl rfl (o_move rfl))) ?_)
    refine GoesCV.call rfl rfl (o_call1 (vx := .map 1) (by simp [evalT, tFEnv, g_set, h3])) rfl rfl Tryz.func55 rfl (by show (1 : Nat) ≤ 17; omega) hc ?_
    refine GoesCV.of_eq (fun rec => (r_val rfl rfl (o_assign rfl)).trans (r_nil _)) ?_
    refine GoesCV.of_goes ?_
    refine GoesV.step (fun rec => b_ret rfl) ?_
    exact GoesV.last (fun rec => (b_results (vs := [.lit (.string b0)]) Tryz.func17 (by simp [Tryz.f17, resVals, resVal, evalT, tFEnv, g_set])).trans rfl)
  | succ d ih =>
    intro i es ck tmps hd hi hes h3 h7 h8 h9
    have hlt : i < l.length := by omega
    have hb : l[i]? = some l[i] := List.getElem?_eq_getElem hlt
    have htake : l.take (i + 1) = l.take i ++ [l[i]] := by rw [List.take_add_one, hb]; rfl
    generalize l[i] = b at hb htake
    refine GoesV.step (fun rec => b_seq _ _) ?_
    refine GoesV.step (fun rec => (b_region _ _).trans ((r_val rfl rfl (o_lssK .i64 (a := i) (b := l.length) (by simp [evalT, goI, gk, h9]) (by simp [evalT, goI, gk, h8]))).trans (r_nil _))) ?_
    refine GoesV.step (fun rec => b_seq _ _) ?_
    refine GoesV.step (fun rec => b_cond (t := true) (by simp [evalT, tFEnv, g_set, hlt])) ?_
    refine GoesV.step (fun rec => b_skip) ?_
    refine GoesV.step (fun rec => b_seq _ _) ?_
    refine GoesV.step (fun rec => b_block _ _) ?_
    refine GoesV.step (fun rec => b_seq _ _) ?_
    refine GoesV.step (fun rec => (b_region _ _).trans ((r_val rfl rfl (o_indexAddr (r := 0) (off := 0) (n := l.length) (c := c) (ex := ex) (i := i) (by simp [evalT, tFEnv, g_set, h7]) (by simp [evalT, tFEnv, g_set, goI, h9]) lt3 hlt)).trans ((r_val rfl rfl (o_loadRo (r := 0) (off := i) (v := .lit (.string b)) (by simp [evalT, tFEnv, g_set]) (memF_0 l es ck) lt1 lt2 (strs_get hb) rfl)).trans ((r_val rfl rfl (o_assign rfl)).trans (r_nil _))))) ?_
    refine GoesV.step (fun rec => (b_region _ _).trans ((r_val rfl rfl (o_move rfl)).trans ((r_val rfl rfl (o_move rfl)).trans ((r_val rfl rfl (o_updateB (r := 1) (c := ck) (l := es) (s := b) (by simp [evalT, tFEnv, g_set, h3]) (by simp [evalT, tFEnv, g_set, h3]) rfl (memF_1 l es ck) mk70 u9)).trans (r_nil _))))) ?_
    rw [memF_put]
    refine GoesV.step (fun rec => b_inBlock _) ?_
    refine GoesV.step (fun rec => (b_region _ _).trans ((r_val rfl rfl (o_add (a := i) (b := 1) (by simp [evalT, tFEnv, g_set, g_none, goI, h3, h9]) rfl (by omega))).trans ((r_val rfl rfl (o_move rfl)).trans (r_nil _)))) ?_
    refine GoesV.step (fun rec => b_inLoop _) ?_
    refine ih (i + 1) (addE b es ck) (addC b es ck) _ (by omega) (by omega) (fun q => ?_) (by simp [tFEnv, g_set, g_none, h3]) (by simp [tFEnv, g_set, g_none, h7]) (by simp [tFEnv, g_set, g_none, h8]) (by simp [tFEnv, g_set, g_none, evalT])
    rw [isIn_addE, hes q, htake]
    unfold isIn
    rw [List.any_append]
    simp
theorem tF_goes (l : List ByteArray) (c : Nat) (ex : Bool) (hlen : l.length < 2 ^ 60) (b0 : ByteArray) (hf : freeOf l wL = some b0) :
    GoesV Tryz.prog flA tFEnv [.code tFBody] (argsT [.slice 0 0 l.length c ex] 0 .e) [] .run [] (mem1 (strs l)) (.lit (.string b0)) := by
  have h0 : getT (argsT [.slice 0 0 l.length c ex] 0 .e) 0 = .slice 0 0 l.length c ex := by rw [getT_argsT]; rfl
  generalize argsT [.slice 0 0 l.length c ex] 0 .e = t at h0
  refine GoesV.step (fun rec => b_seq _ _) ?_
  refine GoesV.step (fun rec => (b_region _ _).trans ((r_val rfl rfl (o_assign rfl)).trans (r_nil _))) ?_
  refine GoesV.step (fun rec => b_seq _ _) ?_
  refine GoesV.step (fun rec => (b_region _ _).trans ((r_val rfl rfl (v := .map 1) (m' := memF l [] 0) rfl).trans ((r_val rfl rfl (o_assign rfl)).trans (r_nil _)))) ?_
  refine GoesV.step (fun rec => b_seq _ _) ?_
  refine GoesV.step (fun rec => b_seq _ _) ?_
  refine GoesV.step (fun rec => (b_region _ _).trans ((r_val rfl rfl (o_move rfl)).trans ((r_val rfl rfl (o_len (r := 0) (off := 0) (n := l.length) (c := c) (ex := ex) (by simp [evalT, tFEnv, g_set, h0]) Tryz.underlying22)).trans ((r_val rfl rfl (o_move rfl)).trans (r_nil _))))) ?_
  refine GoesV.step (fun rec => b_block _ _) ?_
  refine GoesV.step (fun rec => b_loop _) ?_
  exact tF_loop l c ex hlen b0 hf l.length 0 [] 0 _ (by omega) (by omega) (fun q => rfl) (by simp [tFEnv, g_set, evalT]) (by simp [tFEnv, g_set, evalT, h0]) (by simp [tFEnv, g_set, evalT]) (by simp [tFEnv, g_set, evalT, goI])
noncomputable def freshK : Known Tryz.prog where
  f := 17
  tb := sliceTb freeV
  fn := ⟨_, _, Tryz.func17, rfl⟩
  ok := by
    intro args m v ht w0 B ρ w xs h hl
    obtain ⟨r, off, n, c, ex, l, rfl, hs, hF⟩ := sliceTb_spec ht
    unfold freeV at hF
    split at hF
    case isFalse => cases hF
    rename_i hlen
    rw [Option.map_eq_some_iff] at hF
    obtain ⟨b0, hf, rfl⟩ := hF
    exact strs_call (flK_ok _) Tryz.func17 rfl (by show (1 : Nat) ≤ 18; omega) hs (fun cp => tF_goes l cp true hlen b0 hf) h hl
end Go.Proofs.YtjefckdgpbdpeaaGreat
