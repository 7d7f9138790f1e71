/- A part of the proof of UsageKnown: the closed call, played in parts. -/
import Derived.Test.YtjihijncpepahaaGreatWs
import Derived.KernelRfl
namespace Go.Proofs.YtjihijncpepahaaGreat
open Go Go.Abs
set_option maxRecDepth 100000 in
theorem partw2 : ∀ K : Run, (runTop Tryz.prog flw 3000 11 (keepS keepLw3 keepFw3 keepTw3 K) 2) (envOf Tryz.prog 11) todow2 tmpsw2 [] .run [] memw2 = K (envOf Tryz.prog 11) todow3 tmpsw3 [] .run [] memw3 := fun K => by kernel_rfl
end Go.Proofs.YtjihijncpepahaaGreat
