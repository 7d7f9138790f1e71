/- A part of the proof of UsageKnown: the closed call, played in parts. -/
import Derived.Test.YtjihijncpepahaaGreatWs
import Derived.KernelRfl
namespace Go.Proofs.YtjihijncpepahaaGreat
open Go Go.Abs
set_option maxRecDepth 100000 in
theorem partl1 : ∀ K : Run, (runTop Tryz.prog fll 3000 41 (keepS keepLl2 keepFl2 keepTl2 K) 208) (envOf Tryz.prog 41) todol1 tmpsl1 [] .run [] meml1 = K (envOf Tryz.prog 41) todol2 tmpsl2 [] .run [] meml2 := fun K => by kernel_rfl
end Go.Proofs.YtjihijncpepahaaGreat
