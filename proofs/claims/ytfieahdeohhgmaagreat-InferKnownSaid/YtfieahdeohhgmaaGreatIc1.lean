/- A part of the proof of InferKnown: the closed call, played in parts. -/
import Derived.Test.YtfieahdeohhgmaaGreatIs
import Derived.KernelRfl
namespace Go.Proofs.YtfieahdeohhgmaaGreat
open Go Go.Abs
set_option maxRecDepth 100000 in
theorem partc1 : ∀ K : Run, (runTop Tryz.prog flc 3000 7 (canS keepTc2 keepLc2 8045 16000 K) 5) (envOf Tryz.prog 7) todoc1 tmpsc1 [] .run [] memc1 = (.alt (K (envOf Tryz.prog 7) todoc2 tmpsc2 [] .run [] memc2) (K (envOf Tryz.prog 7) todoc2 tmpsc2 [] .run [] memc2)) := fun K => by kernel_rfl
end Go.Proofs.YtfieahdeohhgmaaGreat
