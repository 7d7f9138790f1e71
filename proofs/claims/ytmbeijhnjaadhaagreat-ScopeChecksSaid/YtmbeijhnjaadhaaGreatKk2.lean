/- A part of the proof of ScopeChecks. -/
import Derived.Test.YtmbeijhnjaadhaaGreatKs
import Derived.KernelRfl
namespace Go.Proofs.YtmbeijhnjaadhaaGreat
open Go Go.Abs
set_option maxRecDepth 100000 in
theorem partk2 : ∀ K : Run, (runTop Tryz.prog flk 3000 6 (keepS keepLk3 keepFk3 keepTk3 K) 4) (envOf Tryz.prog 6) todok2 tmpsk2 [] .run [] memk2 = K (envOf Tryz.prog 6) todok3 tmpsk3 [] .run [] memk3 := fun K => by kernel_rfl
end Go.Proofs.YtmbeijhnjaadhaaGreat
