/- A part of the proof of InferKnown: the closed call, played in parts. -/
import Derived.Test.YtfieahdeohhgmaaGreatIs
import Derived.KernelRfl
namespace Go.Proofs.YtfieahdeohhgmaaGreat
open Go Go.Abs
set_option maxRecDepth 100000 in
theorem partb1 : ∀ K : Run, (runTop Tryz.prog flb 3000 7 (canS keepTb2 keepLb2 2718 8000 K) 5) (envOf Tryz.prog 7) todob1 tmpsb1 [] .run [] memb1 = (.alt (K (envOf Tryz.prog 7) todob2 tmpsb2 [] .run [] memb2) (K (envOf Tryz.prog 7) todob2 tmpsb2 [] .run [] memb2)) := fun K => by kernel_rfl
end Go.Proofs.YtfieahdeohhgmaaGreat
