/- A part of the proof of ScopeChecks. -/
import Derived.Test.YtmbeijhnjaadhaaGreatKs
import Derived.KernelRfl
namespace Go.Proofs.YtmbeijhnjaadhaaGreat
open Go Go.Abs
set_option maxRecDepth 100000 in
theorem partk3 : isTrueR ((run Tryz.prog flk 3000) (envOf Tryz.prog 6) todok3 tmpsk3 [] .run [] memk3) = true := by kernel_rfl
end Go.Proofs.YtmbeijhnjaadhaaGreat
