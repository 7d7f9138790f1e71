/- A part of the proof of InferKnown: the closed call, played in parts. -/
import Derived.Test.YtfieahdeohhgmaaGreatIs
import Derived.KernelRfl
namespace Go.Proofs.YtfieahdeohhgmaaGreat
open Go Go.Abs
set_option maxRecDepth 100000 in
theorem partc0 : ∀ K : Run, callBody0 (runTop Tryz.prog flc 3000 7 (keepS keepLc1 keepFc1 keepTc1 K) 13) false 7 argsc [] memAc Tryz.prog.funcs[7]? = K (envOf Tryz.prog 7) todoc1 tmpsc1 [] .run [] memc1 := fun K => by kernel_rfl
end Go.Proofs.YtfieahdeohhgmaaGreat
