/- The statement InferKnown holds: the examples of the chapter come out as it says; conditions: none but those of the statement. -/
import Derived.Test.YtfieahdeohhgmaaGreatJu0
import Derived.Test.YtfieahdeohhgmaaGreatRows
import Derived.ProofKit
import Derived.Carry
import Derived.SizedLaws
import Derived.ChangeMaps5
namespace Go.Proofs.YtfieahdeohhgmaaGreat
open Go Go.ChangeShapes Go.WideShapes Go.ChangeAt Go.RowKit Go.ChangeMaps
set_option maxRecDepth 10000
theorem Tryz.own : ownKnob Tryz.prog.godebug = none := by kernel_rfl
theorem params3 : Tryz.f3.params = #[] := by kernel_rfl
theorem results3 : ∃ t, Tryz.f3.resultTypes = #[t] ∧ Tryz.prog.underlying t = some .bool := ⟨_, rfl, by kernel_rfl⟩
set_option maxRecDepth 100000 in
theorem known_lifted (os : Os) (started : os.Started) (H : Type) (enc : TypeId × Value → H) :
    ReturnsInHanded {} Tryz.checked os 3 .any (Rows.inferKnownSpec.pre6 enc Tryz.prog Tryz.f3 Rows.inferKnownRow.domain false) (Rows.inferKnownSpec.post enc Tryz.prog Tryz.f3 false true false false) := by
  refine returnsInHanded_of_change_sized (C := Tryz.checked) Tryz.own started (by kernel_rfl) Tryz.func3
    (ChangeSpec.witness6 (enc := enc) (C := Tryz.checked) false ⟨#[], #[], []⟩ 8 (by kernel_rfl) (by kernel_rfl) (by kernel_rfl) (by kernel_rfl)) ?_
  intro W base args ds gs before _ hW _ _ _
  have hW' := hW
  obtain ⟨p, q, hA0, hV, rfl, hfz, hnd⟩ := hW
  have hA : DataW.TrodAll enc Tryz.prog W 0 (fun _ => true) true Tryz.f3.params.toList args.toList ds p := hA0
  rw [params3] at hA
  obtain ⟨ha, rfl, rfl⟩ := trodAll_nil hA
  obtain ⟨rfl, rfl⟩ := trodVars_none hV
  have hargs : args = #[] := Array.ext' (by simpa using ha)
  subst hargs
  refine (u_true W).mono (fun en W' hen => ?_)
  obtain ⟨rfl, hb⟩ := hen
  refine ⟨_, rfl, _, _, _, [], [], [], hW', ?_, ?_, rfl, hb.frame _, fun h => by cases h⟩
  · obtain ⟨t, h1, h2⟩ := results3
    show DataW.TrodAll enc Tryz.prog W' _ _ _ Tryz.f3.resultTypes.toList ((Value.bool true).resultList Tryz.f3.resultTypes.size) _ _
    rw [h1]
    exact trodAll_mk1 (shut_bool h2 true)
  · show DataW.TrodAll enc Tryz.prog W' _ _ _ Tryz.f3.params.toList _ _ _
    rw [params3]
    exact trodAll_mk0
theorem known_holds : Rows.InferKnownSaid :=
  OpenClaim.holds_of_wide 3 Tryz.f3 rfl rfl rfl rfl rfl rfl rfl ⟨rfl, rfl, rfl, rfl, rfl⟩ rfl rfl rfl rfl rfl (by kernel_rfl) Tryz.func3 (by kernel_rfl)
    (of_decide_eq_true (by kernel_rfl)) (by unfold Func.isWrapper; first | (rw [if_pos (by decide +kernel)]; kernel_rfl) | (rw [if_neg (by decide +kernel)]; exact ⟨rfl, rfl⟩))
    (fun os started H enc _ => known_lifted os started H enc)
#print axioms known_holds
end Go.Proofs.YtfieahdeohhgmaaGreat
