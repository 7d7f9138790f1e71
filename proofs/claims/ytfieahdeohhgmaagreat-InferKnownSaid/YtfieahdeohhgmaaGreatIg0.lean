/- A part of the proof of InferKnown: the closed call, played in parts. -/
import Derived.Test.YtfieahdeohhgmaaGreatIs
import Derived.KernelRfl
namespace Go.Proofs.YtfieahdeohhgmaaGreat
open Go Go.Abs
set_option maxRecDepth 100000 in
theorem partg0 : ∀ K : Run, callBody0 (runTop Tryz.prog flg 3000 17 (keepS keepLg1 keepFg1 keepTg1 K) 94) false 17 argsg [] memAg Tryz.prog.funcs[17]? = K (envOf Tryz.prog 17) todog1 tmpsg1 [] .run [] memg1 := fun K => by kernel_rfl
end Go.Proofs.YtfieahdeohhgmaaGreat
