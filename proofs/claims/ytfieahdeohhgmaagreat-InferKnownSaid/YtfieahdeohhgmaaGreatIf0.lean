/- A part of the proof of InferKnown: the closed call, played in parts. -/
import Derived.Test.YtfieahdeohhgmaaGreatIs
import Derived.KernelRfl
namespace Go.Proofs.YtfieahdeohhgmaaGreat
open Go Go.Abs
set_option maxRecDepth 100000 in
theorem partf0 : ∀ K : Run, callBody0 (runTop Tryz.prog flf 3000 17 (keepS keepLf1 keepFf1 keepTf1 K) 94) false 17 argsf [] memAf Tryz.prog.funcs[17]? = K (envOf Tryz.prog 17) todof1 tmpsf1 [] .run [] memf1 := fun K => by kernel_rfl
end Go.Proofs.YtfieahdeohhgmaaGreat
