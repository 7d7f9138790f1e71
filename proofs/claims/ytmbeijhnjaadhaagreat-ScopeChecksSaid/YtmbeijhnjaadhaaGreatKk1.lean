/- A part of the proof of ScopeChecks. -/
import Derived.Test.YtmbeijhnjaadhaaGreatKs
import Derived.KernelRfl
namespace Go.Proofs.YtmbeijhnjaadhaaGreat
open Go Go.Abs
set_option maxRecDepth 100000 in
theorem partk1 : ∀ K : Run, (runTop Tryz.prog flk 3000 6 (keepS keepLk2 keepFk2 keepTk2 K) 10) (envOf Tryz.prog 6) todok1 tmpsk1 [] .run [] memk1 = K (envOf Tryz.prog 6) todok2 tmpsk2 [] .run [] memk2 := fun K => by kernel_rfl
end Go.Proofs.YtmbeijhnjaadhaaGreat
