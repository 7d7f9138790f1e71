/- A part of the proof of ScopeChecks. -/
import Derived.Test.YtmbeijhnjaadhaaGreatKs
import Derived.KernelRfl
namespace Go.Proofs.YtmbeijhnjaadhaaGreat
open Go Go.Abs
set_option maxRecDepth 100000 in
theorem partk0 : ∀ K : Run, callBody0 (runTop Tryz.prog flk 3000 6 (keepS keepLk1 keepFk1 keepTk1 K) 5) false 6 [] [] mem0 Tryz.prog.funcs[6]? = K (envOf Tryz.prog 6) todok1 tmpsk1 [] .run [] memk1 := fun K => by kernel_rfl
end Go.Proofs.YtmbeijhnjaadhaaGreat
