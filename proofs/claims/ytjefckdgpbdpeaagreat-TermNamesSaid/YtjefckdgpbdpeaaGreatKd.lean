/- A part of the proof that TermNames returns true. -/
import Derived.Test.YtjefckdgpbdpeaaGreatKa
import Derived.Test.YtjefckdgpbdpeaaGreatKb
import Derived.Test.YtjefckdgpbdpeaaGreatKc
import Derived.Test.YtjefckdgpbdpeaaGreatHas

namespace Go.Proofs.YtjefckdgpbdpeaaGreat
open Go Go.Abs
open Go.RowKit (Below)
/-- known answers true, in any world, and leaves what was there -/
theorem known_true (w : World) : Calls Tryz.prog 14 #[] w fun e w' => e = .returned (.bool true) ∧ Below w.heap.size w w' := by
  obtain ⟨up, m, h3⟩ := isTrueR_spec part3
  refine closed_by (Rn := runTop Tryz.prog flKn 3000 14 (keepS keepL1 keepF1 keepT1 (runTop Tryz.prog flKn 3000 14 (keepS keepL2 keepF2 keepT2 (run Tryz.prog flKn 3000)) 1)) 16) ?_ (up' := up) (m' := m) ?_ w
  · intro B w0
    refine runTop_sound names (TbOK.none _ _) mixed (fun w0 => keepS_sound (runTop_sound names (TbOK.none _ _) mixed (fun w0 => keepS_sound (run_ok names (TbOK.none _ _) mixed _ w0)) _ w0)) _ w0
  · rw [part1, part2, h3]
end Go.Proofs.YtjefckdgpbdpeaaGreat
