/- A part of the proof of InferKnown: the closed call, played in parts. -/
import Derived.Test.YtfieahdeohhgmaaGreatIs
import Derived.KernelRfl
namespace Go.Proofs.YtfieahdeohhgmaaGreat
open Go Go.Abs
set_option maxRecDepth 100000 in
theorem partk3 : ∀ K : Run, (runTop Tryz.prog flk 3000 4 (keepS keepLk4 keepFk4 keepTk4 K) 16) (envOf Tryz.prog 4) todok3 tmpsk3 [] .run [] memk3 = K (envOf Tryz.prog 4) todok4 tmpsk4 [] .run [] memk4 := fun K => by kernel_rfl
end Go.Proofs.YtfieahdeohhgmaaGreat
