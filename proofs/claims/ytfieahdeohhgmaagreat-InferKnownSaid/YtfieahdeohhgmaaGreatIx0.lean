/- A part of the proof of InferKnown: the closed call, played in parts. -/
import Derived.Test.YtfieahdeohhgmaaGreatIs
import Derived.KernelRfl
namespace Go.Proofs.YtfieahdeohhgmaaGreat
open Go Go.Abs
set_option maxRecDepth 100000 in
theorem partx0 : ∀ K : Run, callBody0 (runTop Tryz.prog flx 3000 5 (keepS keepLx1 keepFx1 keepTx1 K) 18) false 5 argsx [] memAx Tryz.prog.funcs[5]? = K (envOf Tryz.prog 5) todox1 tmpsx1 [] .run [] memx1 := fun K => by kernel_rfl
end Go.Proofs.YtfieahdeohhgmaaGreat
