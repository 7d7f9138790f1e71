/- A part of the proof of UsageKnown: the closed call, played in parts. -/
import Derived.Test.YtjihijncpepahaaGreatUs
import Derived.KernelRfl
namespace Go.Proofs.YtjihijncpepahaaGreat
open Go Go.Abs
set_option maxRecDepth 100000 in
theorem partv2 : (run Tryz.prog flv 3000) (envOf Tryz.prog 16) todov2 tmpsv2 [] .run [] memv2 = .ret ansv [] memZv := by kernel_rfl
end Go.Proofs.YtjihijncpepahaaGreat
namespace Go.Proofs.YtjihijncpepahaaGreat
open Go Go.Abs
set_option maxRecDepth 100000 in
theorem partu2 : isTrueR ((run Tryz.prog flu 3000) (envOf Tryz.prog 9) todou2 tmpsu2 [] .run [] memu2) = true := by kernel_rfl
end Go.Proofs.YtjihijncpepahaaGreat
