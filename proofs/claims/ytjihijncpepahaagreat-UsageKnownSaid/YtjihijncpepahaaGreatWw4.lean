/- A part of the proof of UsageKnown: the closed call, played in parts. -/
import Derived.Test.YtjihijncpepahaaGreatWs
import Derived.KernelRfl
namespace Go.Proofs.YtjihijncpepahaaGreat
open Go Go.Abs
set_option maxRecDepth 100000 in
theorem partw4 : ∀ K : Run, (runTop Tryz.prog flw 3000 11 (keepS keepLw5 keepFw5 keepTw5 K) 11) (envOf Tryz.prog 11) todow4 tmpsw4 [] .run [] memw4 = K (envOf Tryz.prog 11) todow5 tmpsw5 [] .run [] memw5 := fun K => by kernel_rfl
end Go.Proofs.YtjihijncpepahaaGreat
