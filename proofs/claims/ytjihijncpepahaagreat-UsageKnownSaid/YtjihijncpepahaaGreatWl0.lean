/- A part of the proof of UsageKnown: the closed call, played in parts. -/
import Derived.Test.YtjihijncpepahaaGreatWs
import Derived.KernelRfl
namespace Go.Proofs.YtjihijncpepahaaGreat
open Go Go.Abs
set_option maxRecDepth 100000 in
theorem partl0 : ∀ K : Run, callBody0 (runTop Tryz.prog fll 3000 41 (keepS keepLl1 keepFl1 keepTl1 K) 188) false 41 argsl [] memAl Tryz.prog.funcs[41]? = K (envOf Tryz.prog 41) todol1 tmpsl1 [] .run [] meml1 := fun K => by kernel_rfl
end Go.Proofs.YtjihijncpepahaaGreat
