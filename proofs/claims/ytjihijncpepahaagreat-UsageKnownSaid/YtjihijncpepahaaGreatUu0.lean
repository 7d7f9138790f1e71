/- A part of the proof of UsageKnown: the closed call, played in parts. -/
import Derived.Test.YtjihijncpepahaaGreatUs
import Derived.KernelRfl
namespace Go.Proofs.YtjihijncpepahaaGreat
open Go Go.Abs
set_option maxRecDepth 100000 in
theorem partu0 : ∀ K : Run, callBody0 (runTop Tryz.prog flu 3000 9 (keepS keepLu1 keepFu1 keepTu1 K) 26) false 9 [] [] mem0 Tryz.prog.funcs[9]? = K (envOf Tryz.prog 9) todou1 tmpsu1 [] .run [] memu1 := fun K => by kernel_rfl
end Go.Proofs.YtjihijncpepahaaGreat
