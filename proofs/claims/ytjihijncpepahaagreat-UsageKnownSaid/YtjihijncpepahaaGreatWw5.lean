/- A part of the proof of UsageKnown: the closed call, played in parts. -/
import Derived.Test.YtjihijncpepahaaGreatWs
import Derived.KernelRfl
namespace Go.Proofs.YtjihijncpepahaaGreat
open Go Go.Abs
set_option maxRecDepth 100000 in
theorem partw5 : isTrueR ((run Tryz.prog flw 3000) (envOf Tryz.prog 11) todow5 tmpsw5 [] .run [] memw5) = true := by kernel_rfl
end Go.Proofs.YtjihijncpepahaaGreat
