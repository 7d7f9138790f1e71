/- A part of the proof of InferKnown: the closed call, played in parts. -/
import Derived.Test.YtfieahdeohhgmaaGreatIs
import Derived.KernelRfl
namespace Go.Proofs.YtfieahdeohhgmaaGreat
open Go Go.Abs
set_option maxRecDepth 100000 in
theorem partw0 : ∀ K : Run, callBody0 (runTop Tryz.prog flw 3000 15 (keepS keepLw1 keepFw1 keepTw1 K) 11) false 15 argsw [] memAw Tryz.prog.funcs[15]? = K (envOf Tryz.prog 15) todow1 tmpsw1 [] .run [] memw1 := fun K => by kernel_rfl
end Go.Proofs.YtfieahdeohhgmaaGreat
