/- A part of the proof of UsageKnown: the closed call, played in parts. -/
import Derived.Test.YtjihijncpepahaaGreatUv0
import Derived.Test.YtjihijncpepahaaGreatUv1
import Derived.Test.YtjihijncpepahaaGreatUv2
import Derived.Test.YtjihijncpepahaaGreatUu0
import Derived.Test.YtjihijncpepahaaGreatUu1
import Derived.Test.YtjihijncpepahaaGreatSp
import Derived.Test.YtjihijncpepahaaGreatWd
import Derived.KernelRfl
namespace Go.Proofs.YtjihijncpepahaaGreat
open Go Go.Abs
open Go.RowKit (Below)
theorem trues_ok : ∀ f ∈ [11], (∃ fn c, Tryz.prog.funcs[f]? = some fn ∧ fn.body = some c) ∧ ∀ w : World, Calls Tryz.prog f #[] w fun e w' => e = .returned (.bool true) ∧ Go.RowKit.Below w.heap.size w w' := by
  intro f hf
  rw [List.mem_singleton] at hf
  subst hf
  exact ⟨⟨_, _, Tryz.func11, rfl⟩, w_true⟩
theorem tbv : TbOK Tryz.prog flv := TbOK.trues _ _ trues_ok
theorem okv : entv.ok Tryz.prog := fun _ w0 => ⟨(runTop Tryz.prog flv 3000 16 (keepS keepLv1 keepFv1 keepTv1 (runTop Tryz.prog flv 3000 16 (keepS keepLv2 keepFv2 keepTv2 (run Tryz.prog flv 3000)) 9)) 4), (fun w0 => runTop_sound names tbv mixed (fun w0 => keepS_sound ((fun w0 => runTop_sound names tbv mixed (fun w0 => keepS_sound ((fun w0 => run_ok names tbv mixed _ w0) w0)) _ w0) w0)) _ w0) w0, (partv0 _).trans ((partv1 _).trans (partv2))⟩
theorem tbu : TbOK Tryz.prog flu := TbOK.with (TbOK.trues _ _ trues_ok) ⟨okv, trivial⟩
theorem u_true (w : World) : Calls Tryz.prog 9 #[] w fun e w' => e = .returned (.bool true) ∧ Below w.heap.size w w' := by
  obtain ⟨up, m, h⟩ := isTrueR_spec partu2
  exact closed_by (Rn := (runTop Tryz.prog flu 3000 9 (keepS keepLu1 keepFu1 keepTu1 (runTop Tryz.prog flu 3000 9 (keepS keepLu2 keepFu2 keepTu2 (run Tryz.prog flu 3000)) 11)) 26)) (fun _ w0 => (fun w0 => runTop_sound names tbu mixed (fun w0 => keepS_sound ((fun w0 => runTop_sound names tbu mixed (fun w0 => keepS_sound ((fun w0 => run_ok names tbu mixed _ w0) w0)) _ w0) w0)) _ w0) w0) ((partu0 _).trans ((partu1 _).trans (h))) w
end Go.Proofs.YtjihijncpepahaaGreat
