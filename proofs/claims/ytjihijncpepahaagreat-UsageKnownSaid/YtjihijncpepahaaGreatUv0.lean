/- A part of the proof of UsageKnown: the closed call, played in parts. -/
import Derived.Test.YtjihijncpepahaaGreatUs
import Derived.KernelRfl
namespace Go.Proofs.YtjihijncpepahaaGreat
open Go Go.Abs
set_option maxRecDepth 100000 in
theorem partv0 : ∀ K : Run, callBody0 (runTop Tryz.prog flv 3000 16 (keepS keepLv1 keepFv1 keepTv1 K) 4) false 16 argsv [] memAv Tryz.prog.funcs[16]? = K (envOf Tryz.prog 16) todov1 tmpsv1 [] .run [] memv1 := fun K => by kernel_rfl
end Go.Proofs.YtjihijncpepahaaGreat
