/- A part of the proof of SolValues. -/
import Derived.Test.YtkfjmpdbfjaboaaGreatKs
import Derived.KernelRfl
namespace Go.Proofs.YtkfjmpdbfjaboaaGreat
open Go Go.Abs
set_option maxRecDepth 100000 in
theorem partk0 : ∀ K : Run, callBody0 (runTop Tryz.prog flk 3000 15 (keepS keepLk1 keepFk1 keepTk1 K) 15) false 15 [] [] mem0 Tryz.prog.funcs[15]? = K (envOf Tryz.prog 15) todok1 tmpsk1 [] .run [] memk1 := fun K => by kernel_rfl
end Go.Proofs.YtkfjmpdbfjaboaaGreat
