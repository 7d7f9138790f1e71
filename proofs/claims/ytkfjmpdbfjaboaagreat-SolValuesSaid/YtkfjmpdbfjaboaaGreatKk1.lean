/- A part of the proof of SolValues. -/
import Derived.Test.YtkfjmpdbfjaboaaGreatKs
import Derived.KernelRfl
namespace Go.Proofs.YtkfjmpdbfjaboaaGreat
open Go Go.Abs
set_option maxRecDepth 100000 in
theorem partk1 : ∀ K : Run, (runTop Tryz.prog flk 3000 15 (keepS keepLk2 keepFk2 keepTk2 K) 4) (envOf Tryz.prog 15) todok1 tmpsk1 [] .run [] memk1 = K (envOf Tryz.prog 15) todok2 tmpsk2 [] .run [] memk2 := fun K => by kernel_rfl
end Go.Proofs.YtkfjmpdbfjaboaaGreat
