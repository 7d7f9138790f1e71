/- A part of the proof of InferKnown: the closed call, played in parts. -/
import Derived.Test.YtfieahdeohhgmaaGreatIs
import Derived.KernelRfl
namespace Go.Proofs.YtfieahdeohhgmaaGreat
open Go Go.Abs
set_option maxRecDepth 100000 in
theorem partx2 : ∀ K : Run, (runTop Tryz.prog flx 3000 5 (keepS keepLx3 keepFx3 keepTx3 K) 31) (envOf Tryz.prog 5) todox2 tmpsx2 [] .run [] memx2 = K (envOf Tryz.prog 5) todox3 tmpsx3 [] .run [] memx3 := fun K => by kernel_rfl
end Go.Proofs.YtfieahdeohhgmaaGreat
