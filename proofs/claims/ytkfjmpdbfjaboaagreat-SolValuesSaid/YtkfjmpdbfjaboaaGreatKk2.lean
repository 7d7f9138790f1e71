/- A part of the proof of SolValues. -/
import Derived.Test.YtkfjmpdbfjaboaaGreatKs
import Derived.KernelRfl
namespace Go.Proofs.YtkfjmpdbfjaboaaGreat
open Go Go.Abs
set_option maxRecDepth 100000 in
theorem partk2 : isTrueR ((run Tryz.prog flk 3000) (envOf Tryz.prog 15) todok2 tmpsk2 [] .run [] memk2) = true := by kernel_rfl
end Go.Proofs.YtkfjmpdbfjaboaaGreat
