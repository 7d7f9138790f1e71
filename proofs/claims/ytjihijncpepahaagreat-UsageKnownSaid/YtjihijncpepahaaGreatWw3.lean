/- A part of the proof of UsageKnown: the closed call, played in parts. -/
import Derived.Test.YtjihijncpepahaaGreatWs
import Derived.KernelRfl
namespace Go.Proofs.YtjihijncpepahaaGreat
open Go Go.Abs
set_option maxRecDepth 100000 in
theorem partw3 : ∀ K : Run, (runTop Tryz.prog flw 3000 11 (keepS keepLw4 keepFw4 keepTw4 K) 2) (envOf Tryz.prog 11) todow3 tmpsw3 [] .run [] memw3 = K (envOf Tryz.prog 11) todow4 tmpsw4 [] .run [] memw4 := fun K => by kernel_rfl
end Go.Proofs.YtjihijncpepahaaGreat
