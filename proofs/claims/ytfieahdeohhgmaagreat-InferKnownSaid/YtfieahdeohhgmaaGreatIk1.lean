/- A part of the proof of InferKnown: the closed call, played in parts. -/
import Derived.Test.YtfieahdeohhgmaaGreatIs
import Derived.KernelRfl
namespace Go.Proofs.YtfieahdeohhgmaaGreat
open Go Go.Abs
set_option maxRecDepth 100000 in
theorem partk1 : ∀ K : Run, (runTop Tryz.prog flk 3000 4 (keepS keepLk2 keepFk2 keepTk2 K) 7) (envOf Tryz.prog 4) todok1 tmpsk1 [] .run [] memk1 = K (envOf Tryz.prog 4) todok2 tmpsk2 [] .run [] memk2 := fun K => by kernel_rfl
end Go.Proofs.YtfieahdeohhgmaaGreat
