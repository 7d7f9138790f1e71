/- A part of the proof that TermNames returns true. -/
import Derived.Test.YtjefckdgpbdpeaaGreatKs

namespace Go.Proofs.YtjefckdgpbdpeaaGreat
open Go Go.Abs
set_option maxRecDepth 100000 in
theorem part2 : ∀ K : Run, runTop Tryz.prog flKn 3000 14 (keepS keepL2 keepF2 keepT2 K) 1 (envOf Tryz.prog 14) todo1 tmpsK1 [] .run [] memK1 = K (envOf Tryz.prog 14) todo2 tmpsK2 [] .run [] memK2 := fun K => by kernel_rfl
end Go.Proofs.YtjefckdgpbdpeaaGreat
