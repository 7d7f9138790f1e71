/- A part of the proof of UsageKnown: the closed call, played in parts. -/
import Derived.Test.YtjihijncpepahaaGreatWs
import Derived.KernelRfl
namespace Go.Proofs.YtjihijncpepahaaGreat
open Go Go.Abs
set_option maxRecDepth 100000 in
theorem partl2 : (run Tryz.prog fll 3000) (envOf Tryz.prog 41) todol2 tmpsl2 [] .run [] meml2 = .ret ansl [] memZl := by kernel_rfl
end Go.Proofs.YtjihijncpepahaaGreat
namespace Go.Proofs.YtjihijncpepahaaGreat
open Go Go.Abs
set_option maxRecDepth 100000 in
theorem partt1 : ∀ K : Run, (runTop Tryz.prog flt 3000 16 (keepS keepLt2 keepFt2 keepTt2 K) 127) (envOf Tryz.prog 16) todot1 tmpst1 [] .run [] memt1 = K (envOf Tryz.prog 16) todot2 tmpst2 [] .run [] memt2 := fun K => by kernel_rfl
end Go.Proofs.YtjihijncpepahaaGreat
namespace Go.Proofs.YtjihijncpepahaaGreat
open Go Go.Abs
set_option maxRecDepth 100000 in
theorem partt2 : (run Tryz.prog flt 3000) (envOf Tryz.prog 16) todot2 tmpst2 [] .run [] memt2 = .ret anst [] memZt := by kernel_rfl
end Go.Proofs.YtjihijncpepahaaGreat
namespace Go.Proofs.YtjihijncpepahaaGreat
open Go Go.Abs
set_option maxRecDepth 100000 in
theorem partw0 : ∀ K : Run, callBody0 (runTop Tryz.prog flw 3000 11 (keepS keepLw1 keepFw1 keepTw1 K) 4) false 11 [] [] mem0 Tryz.prog.funcs[11]? = K (envOf Tryz.prog 11) todow1 tmpsw1 [] .run [] memw1 := fun K => by kernel_rfl
end Go.Proofs.YtjihijncpepahaaGreat
