/- The statement SolValues holds: for every expression and every environment of values, the value that the program answers is the one that the reference answers; conditions: none but those of the statement. -/
import Derived.Test.YtkfjmpdbfjaboaaGreatKd
import Derived.SliceStrings
import Derived.Carry
import Derived.SizedLaws
import Derived.ChangeMaps5
namespace Go.Proofs.YtkfjmpdbfjaboaaGreat
open Go Go.ChangeShapes Go.WideShapes Go.ChangeAt Go.RowKit Go.ChangeMaps
theorem params5 : Tryz.f5.params = #[46, 47] := by kernel_rfl
set_option maxRecDepth 100000 in
theorem values_lifted (os : Os) (started : os.Started) (H : Type) (enc : TypeId × Value → H) :
  ReturnsInHanded {} Tryz.checked os 5 .any (Rows.solValuesSpec.pre6 enc Tryz.prog Tryz.f5 Rows.solValuesRow.domain false) (Rows.solValuesSpec.post enc Tryz.prog Tryz.f5 false true false false) := by
 refine returnsInHanded_of_change_sized (C := Tryz.checked) Tryz.own started (by kernel_rfl) Tryz.func5
  (ChangeSpec.witness6 (enc := enc) (C := Tryz.checked) false ⟨#[], #[.agg #[.int .i64 0, .int .i64 0, .slice none 0 0], .slice none 0 0], []⟩ 8 (by kernel_rfl) (by kernel_rfl) (by kernel_rfl) (by kernel_rfl)) ?_
 intro W base args ds gs before hval0 hW _ hsz0 _
 have hsz : (DataW.weightsEach Tryz.prog (Tryz.f5.params.toList ++ Rows.solValuesSpec.plain.varTypes Tryz.prog) (ds ++ gs)).all (· ≤ reachBytes) = true := hsz0
 clear hsz0
 have hval : ∀ (j : Nat) t v, Tryz.f5.params[j]? = some t → args[j]? = some v → Value.okWide Tryz.prog W .any base t v := hval0
 have hW' := hW
 obtain ⟨p, q, hA0, hV, rfl, hfz, hnd⟩ := hW
 have hA : DataW.TrodAll enc Tryz.prog W 0 (fun _ => true) true Tryz.f5.params.toList args.toList ds p := hA0
 rw [params5] at hA hval hsz
 obtain ⟨v0, v1, d0, d1, p0, p1, rfl, rfl, rfl, h0, h1⟩ := trodAll_two hA
 obtain ⟨rfl, rfl⟩ := trodVars_none hV
 have h0k := h0
 have h1k := h1
 obtain ⟨c0, rfl, _⟩ := okWide_struct s46 (hval 0 46 v0 rfl rfl)
 obtain ⟨a1, n1, k1, rfl⟩ := okWide_slice (e := 50) Go.Abs.SlF.h (hval 1 47 v1 rfl rfl)
 obtain ⟨f0, hf0⟩ := h0
 obtain ⟨f1, hf1⟩ := h1
 clear hA0 hval0
 simp only [List.append_nil] at hW'
 have fit : ∀ (j : Nat) (t : TypeId) (d : DataW H), [46, 47][j]? = some t → [d0, d1][j]? = some d → Fits t d := by
  intro j t d ht hd n hn
  have hj : j < 2 := (List.getElem?_eq_some_iff.1 ht).1
  have := List.all_eq_true.1 hsz n (DataW.weights_mem_each (j := j) (t := t) (d := d) (by show ([46, 47] ++ _)[j]? = _; rw [List.getElem?_append_left hj]; exact ht) (by rw [List.getElem?_append_left hj]; exact hd) n hn)
  simpa using this
 obtain ⟨L, hL, hM⟩ := laid_mr W
 obtain ⟨e, e0, he⟩ := open_ax hL f0 _ _ hf0 (fit 0 46 d0 rfl rfl)
 obtain ⟨env, h1e⟩ := open_env (y := (d1, p1)) hL hf1 (fit 1 47 d1 rfl rfl)
 have hlt0 : ∀ x ∈ p0, x.block < W.heap.size := fun x hx => hW'.lt x (by simp [hx])
 have hlt1 : ∀ x ∈ p1, x.block < W.heap.size := fun x hx => hW'.lt x (by simp [hx])
 refine (law_calls hM hL e0 he h1e).mono (fun en W' hen => ?_)
 obtain ⟨rfl, hb⟩ := hen
 refine ⟨_, rfl, _, _, _, [], p0 ++ p1, [], hW', ?_, ?_, rfl, hb.frame _, fun h => by cases h⟩
 ·exact trodAll_mk1 (shut_bool u4 true)
 ·exact trodAll_mk2 (Below.trod Tryz.laidOut (by kernel_rfl) (of_decide_eq_true (by kernel_rfl)) h0k hb hlt0) (Below.trod Tryz.laidOut (by kernel_rfl) (of_decide_eq_true (by kernel_rfl)) h1k hb hlt1)
theorem values_holds : Rows.SolValuesSaid :=
 OpenClaim.holds_of_wide 5 Tryz.f5 rfl rfl rfl rfl rfl rfl rfl ⟨rfl, rfl, rfl, rfl, rfl⟩ rfl rfl rfl rfl rfl (by kernel_rfl) Tryz.func5 (by kernel_rfl)
  (of_decide_eq_true (by kernel_rfl)) (by unfold Func.isWrapper; first | (rw [if_pos (by decide +kernel)]; kernel_rfl) | (rw [if_neg (by decide +kernel)]; exact ⟨rfl, rfl⟩))
  (fun os started H enc _ => values_lifted os started H enc)
#print axioms values_holds
end Go.Proofs.YtkfjmpdbfjaboaaGreat
