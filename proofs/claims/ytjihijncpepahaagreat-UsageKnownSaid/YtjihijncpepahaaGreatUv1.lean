/- A part of the proof of UsageKnown: the closed call, played in parts. -/
import Derived.Test.YtjihijncpepahaaGreatUs
import Derived.KernelRfl
namespace Go.Proofs.YtjihijncpepahaaGreat
open Go Go.Abs
set_option maxRecDepth 100000 in
theorem partv1 : ∀ K : Run, (runTop Tryz.prog flv 3000 16 (keepS keepLv2 keepFv2 keepTv2 K) 9) (envOf Tryz.prog 16) todov1 tmpsv1 [] .run [] memv1 = K (envOf Tryz.prog 16) todov2 tmpsv2 [] .run [] memv2 := fun K => by kernel_rfl
end Go.Proofs.YtjihijncpepahaaGreat
