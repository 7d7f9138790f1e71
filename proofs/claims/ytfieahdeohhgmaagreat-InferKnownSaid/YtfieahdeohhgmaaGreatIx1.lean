/- A part of the proof of InferKnown: the closed call, played in parts. -/
import Derived.Test.YtfieahdeohhgmaaGreatIs
import Derived.KernelRfl
namespace Go.Proofs.YtfieahdeohhgmaaGreat
open Go Go.Abs
set_option maxRecDepth 100000 in
theorem partx1 : ∀ K : Run, (runTop Tryz.prog flx 3000 5 (keepS keepLx2 keepFx2 keepTx2 K) 51) (envOf Tryz.prog 5) todox1 tmpsx1 [] .run [] memx1 = K (envOf Tryz.prog 5) todox2 tmpsx2 [] .run [] memx2 := fun K => by kernel_rfl
end Go.Proofs.YtfieahdeohhgmaaGreat
