/- A part of the proof that TermNames returns true. -/
import Derived.Test.YtjefckdgpbdpeaaGreatKs

namespace Go.Proofs.YtjefckdgpbdpeaaGreat
open Go Go.Abs
set_option maxRecDepth 100000 in
theorem part1 : ∀ K : Run, callBody0 (runTop Tryz.prog flKn 3000 14 (keepS keepL1 keepF1 keepT1 K) 16) false 14 [] [] mem0 Tryz.prog.funcs[14]? = K (envOf Tryz.prog 14) todo1 tmpsK1 [] .run [] memK1 := fun K => by kernel_rfl
end Go.Proofs.YtjefckdgpbdpeaaGreat
