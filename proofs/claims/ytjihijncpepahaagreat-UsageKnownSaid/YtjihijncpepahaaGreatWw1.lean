/- A part of the proof of UsageKnown: the closed call, played in parts. -/
import Derived.Test.YtjihijncpepahaaGreatWs
import Derived.KernelRfl
namespace Go.Proofs.YtjihijncpepahaaGreat
open Go Go.Abs
set_option maxRecDepth 100000 in
theorem partw1 : ∀ K : Run, (runTop Tryz.prog flw 3000 11 (keepS keepLw2 keepFw2 keepTw2 K) 4) (envOf Tryz.prog 11) todow1 tmpsw1 [] .run [] memw1 = K (envOf Tryz.prog 11) todow2 tmpsw2 [] .run [] memw2 := fun K => by kernel_rfl
end Go.Proofs.YtjihijncpepahaaGreat
