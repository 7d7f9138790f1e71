/- A part of the proof that TermNames returns true. -/
import Derived.Test.YtjefckdgpbdpeaaGreatKs

namespace Go.Proofs.YtjefckdgpbdpeaaGreat
open Go Go.Abs
set_option maxRecDepth 100000 in
theorem part3 : isTrueR (run Tryz.prog flKn 3000 (envOf Tryz.prog 14) todo2 tmpsK2 [] .run [] memK2) = true := by kernel_rfl
end Go.Proofs.YtjefckdgpbdpeaaGreat
