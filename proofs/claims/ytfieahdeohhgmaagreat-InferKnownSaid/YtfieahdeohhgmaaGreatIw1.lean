/- A part of the proof of InferKnown: the closed call, played in parts. -/
import Derived.Test.YtfieahdeohhgmaaGreatIs
import Derived.KernelRfl
namespace Go.Proofs.YtfieahdeohhgmaaGreat
open Go Go.Abs
set_option maxRecDepth 100000 in
theorem partw1 : ∀ K : Run, (runTop Tryz.prog flw 3000 15 (canS keepTw2 keepLw2 16200 24000 K) 25) (envOf Tryz.prog 15) todow1 tmpsw1 [] .run [] memw1 = (.alt (K (envOf Tryz.prog 15) todow2 tmpsw2 [] .run [] memw2) (K (envOf Tryz.prog 15) todow2 tmpsw2 [] .run [] memw2)) := fun K => by kernel_rfl
end Go.Proofs.YtfieahdeohhgmaaGreat
