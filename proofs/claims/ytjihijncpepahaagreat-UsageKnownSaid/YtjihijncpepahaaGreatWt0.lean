/- A part of the proof of UsageKnown: the closed call, played in parts. -/
import Derived.Test.YtjihijncpepahaaGreatWs
import Derived.KernelRfl
namespace Go.Proofs.YtjihijncpepahaaGreat
open Go Go.Abs
set_option maxRecDepth 100000 in
theorem partt0 : ∀ K : Run, callBody0 (runTop Tryz.prog flt 3000 16 (keepS keepLt1 keepFt1 keepTt1 K) 4) false 16 argst [] memAt Tryz.prog.funcs[16]? = K (envOf Tryz.prog 16) todot1 tmpst1 [] .run [] memt1 := fun K => by kernel_rfl
end Go.Proofs.YtjihijncpepahaaGreat
