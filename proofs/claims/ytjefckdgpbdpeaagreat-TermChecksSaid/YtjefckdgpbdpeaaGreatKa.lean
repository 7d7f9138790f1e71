/- A part of the proof of TermChecks. -/
import Derived.Test.YtjefckdgpbdpeaaGreatKs
import Derived.KernelRfl
namespace Go.Proofs.YtjefckdgpbdpeaaGreat
open Go Go.Abs
set_option maxRecDepth 100000 in
theorem partk0 : ∀ K : Run, callBody0 (runTop Tryz.prog flk 3000 14 (keepS keepLk1 keepFk1 keepTk1 K) 16) false 14 [] [] mem0 Tryz.prog.funcs[14]? = K (envOf Tryz.prog 14) todok1 tmpsk1 [] .run [] memk1 := fun K => by kernel_rfl
end Go.Proofs.YtjefckdgpbdpeaaGreat
