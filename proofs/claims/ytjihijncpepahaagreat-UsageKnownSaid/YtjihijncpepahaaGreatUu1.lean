/- A part of the proof of UsageKnown: the closed call, played in parts. -/
import Derived.Test.YtjihijncpepahaaGreatUs
import Derived.KernelRfl
namespace Go.Proofs.YtjihijncpepahaaGreat
open Go Go.Abs
set_option maxRecDepth 100000 in
theorem partu1 : ∀ K : Run, (runTop Tryz.prog flu 3000 9 (keepS keepLu2 keepFu2 keepTu2 K) 11) (envOf Tryz.prog 9) todou1 tmpsu1 [] .run [] memu1 = K (envOf Tryz.prog 9) todou2 tmpsu2 [] .run [] memu2 := fun K => by kernel_rfl
end Go.Proofs.YtjihijncpepahaaGreat
