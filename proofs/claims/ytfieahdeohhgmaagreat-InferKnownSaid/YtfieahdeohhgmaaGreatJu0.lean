/- A part of the proof of InferKnown: the closed call, played in parts. -/
import Derived.Test.YtfieahdeohhgmaaGreatJs
import Derived.KernelRfl
import Derived.Test.YtfieahdeohhgmaaGreatSp
import Derived.Test.YtfieahdeohhgmaaGreatId
namespace Go.Proofs.YtfieahdeohhgmaaGreat
open Go Go.Abs
set_option maxRecDepth 100000 in
theorem partu0 : isTrueR (callBody0 (run Tryz.prog flu 3000) false 3 [] [] mem0 Tryz.prog.funcs[3]?) = true := by kernel_rfl
end Go.Proofs.YtfieahdeohhgmaaGreat
namespace Go.Proofs.YtfieahdeohhgmaaGreat
open Go Go.Abs
open Go.RowKit (Below)
theorem trues_ok : ∀ f ∈ [4], (∃ fn c, Tryz.prog.funcs[f]? = some fn ∧ fn.body = some c) ∧ ∀ w : World, Calls Tryz.prog f #[] w fun e w' => e = .returned (.bool true) ∧ Go.RowKit.Below w.heap.size w w' := by
  intro f hf
  rw [List.mem_singleton] at hf
  subst hf
  exact ⟨⟨_, _, Tryz.func4, rfl⟩, k_true⟩
theorem tbu : TbOK Tryz.prog flu := TbOK.trues _ _ trues_ok
theorem u_true (w : World) : Calls Tryz.prog 3 #[] w fun e w' => e = .returned (.bool true) ∧ Below w.heap.size w w' := by
  obtain ⟨up, m, h⟩ := isTrueR_spec partu0
  exact closed_by (Rn := (run Tryz.prog flu 3000)) (fun _ w0 => (fun w0 => run_ok names tbu mixed _ w0) w0) (h) w
end Go.Proofs.YtfieahdeohhgmaaGreat
