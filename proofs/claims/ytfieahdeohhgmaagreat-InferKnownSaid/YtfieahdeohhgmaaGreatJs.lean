/- A part of the proof of InferKnown: the closed call, played in parts. -/
import Derived.Test.YtfieahdeohhgmaaGreatProg
import Derived.Test.YtfieahdeohhgmaaGreatAbsJ
import Derived.KernelRfl
namespace Go.Proofs.YtfieahdeohhgmaaGreat
open Go Go.Abs
noncomputable section
def flu : Fl := ⟨[], fun f args _ => bif hasN [4] f && isNil args then some (.bool true) else none, fun _ _ _ => none⟩
end
end Go.Proofs.YtfieahdeohhgmaaGreat
