/- A part of the proof of InferKnown: the closed call, played in parts. -/
import Derived.Test.YtfieahdeohhgmaaGreatIs
import Derived.KernelRfl
namespace Go.Proofs.YtfieahdeohhgmaaGreat
open Go Go.Abs
set_option maxRecDepth 100000 in
theorem partb0 : ∀ K : Run, callBody0 (runTop Tryz.prog flb 3000 7 (keepS keepLb1 keepFb1 keepTb1 K) 13) false 7 argsb [] memAb Tryz.prog.funcs[7]? = K (envOf Tryz.prog 7) todob1 tmpsb1 [] .run [] memb1 := fun K => by kernel_rfl
end Go.Proofs.YtfieahdeohhgmaaGreat
