/- A part of the proof of InferKnown: the closed call, played in parts. -/
import Derived.Test.YtfieahdeohhgmaaGreatIs
import Derived.KernelRfl
namespace Go.Proofs.YtfieahdeohhgmaaGreat
open Go Go.Abs
set_option maxRecDepth 100000 in
theorem parte0 : ∀ K : Run, callBody0 (runTop Tryz.prog fle 3000 17 (keepS keepLe1 keepFe1 keepTe1 K) 68) false 17 argse [] memAe Tryz.prog.funcs[17]? = K (envOf Tryz.prog 17) todoe1 tmpse1 [] .run [] meme1 := fun K => by kernel_rfl
end Go.Proofs.YtfieahdeohhgmaaGreat
