/- A part of the proof of InferKnown: the closed call, played in parts. -/
import Derived.Test.YtfieahdeohhgmaaGreatProg
import Derived.KernelRfl
import Derived.Test.YtfieahdeohhgmaaGreatAbsJ
namespace Go.Proofs.YtfieahdeohhgmaaGreat
open Go Go.Abs
noncomputable section
def bodyF (f : Func) : Code := match f.body with | some c => c | none => .skip
noncomputable def okNames : Bool := (List.range Tryz.prog.funcs.size).all fun i => match Tryz.prog.funcs[i]? with | some fn => !fn.body.isSome || !(fn.name == "runtime.NumGoroutine") | none => true
theorem okNames_true : okNames = true := by kernel_rfl
theorem names : NamesOK Tryz.prog := by
  intro f fn hf hb
  have hlt := (Array.getElem?_eq_some_iff.1 hf).1
  have h := okNames_true
  unfold okNames at h
  rw [List.all_eq_true] at h
  have h2 := h f (List.mem_range.2 hlt)
  rw [hf] at h2
  dsimp only at h2
  rw [hb] at h2
  simpa using h2
theorem mixed : Tryz.prog.follows .mixedOrders = true := by kernel_rfl
end
end Go.Proofs.YtfieahdeohhgmaaGreat
