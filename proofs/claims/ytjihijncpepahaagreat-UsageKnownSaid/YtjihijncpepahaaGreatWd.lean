/- A part of the proof of UsageKnown: the closed call, played in parts. -/
import Derived.Test.YtjihijncpepahaaGreatWl0
import Derived.Test.YtjihijncpepahaaGreatWl1
import Derived.Test.YtjihijncpepahaaGreatWl2
import Derived.Test.YtjihijncpepahaaGreatWt0
import Derived.Test.YtjihijncpepahaaGreatWw1
import Derived.Test.YtjihijncpepahaaGreatWw2
import Derived.Test.YtjihijncpepahaaGreatWw3
import Derived.Test.YtjihijncpepahaaGreatWw4
import Derived.Test.YtjihijncpepahaaGreatWw5
import Derived.Test.YtjihijncpepahaaGreatSp
import Derived.KernelRfl
namespace Go.Proofs.YtjihijncpepahaaGreat
open Go Go.Abs
open Go.RowKit (Below)
theorem tbl : TbOK Tryz.prog fll := TbOK.none _ _
theorem okl : entl.ok Tryz.prog := fun _ w0 => ⟨(runTop Tryz.prog fll 3000 41 (keepS keepLl1 keepFl1 keepTl1 (runTop Tryz.prog fll 3000 41 (keepS keepLl2 keepFl2 keepTl2 (run Tryz.prog fll 3000)) 208)) 188), (fun w0 => runTop_sound names tbl mixed (fun w0 => keepS_sound ((fun w0 => runTop_sound names tbl mixed (fun w0 => keepS_sound ((fun w0 => run_ok names tbl mixed _ w0) w0)) _ w0) w0)) _ w0) w0, (partl0 _).trans ((partl1 _).trans (partl2))⟩
theorem tbt : TbOK Tryz.prog flt := TbOK.with (TbOK.none _ _) ⟨okl, trivial⟩
theorem okt : entt.ok Tryz.prog := fun _ w0 => ⟨(runTop Tryz.prog flt 3000 16 (keepS keepLt1 keepFt1 keepTt1 (runTop Tryz.prog flt 3000 16 (keepS keepLt2 keepFt2 keepTt2 (run Tryz.prog flt 3000)) 127)) 4), (fun w0 => runTop_sound names tbt mixed (fun w0 => keepS_sound ((fun w0 => runTop_sound names tbt mixed (fun w0 => keepS_sound ((fun w0 => run_ok names tbt mixed _ w0) w0)) _ w0) w0)) _ w0) w0, (partt0 _).trans ((partt1 _).trans (partt2))⟩
theorem tbw : TbOK Tryz.prog flw := TbOK.with (TbOK.none _ _) ⟨okt, trivial⟩
theorem w_true (w : World) : Calls Tryz.prog 11 #[] w fun e w' => e = .returned (.bool true) ∧ Below w.heap.size w w' := by
  obtain ⟨up, m, h⟩ := isTrueR_spec partw5
  exact closed_by (Rn := (runTop Tryz.prog flw 3000 11 (keepS keepLw1 keepFw1 keepTw1 (runTop Tryz.prog flw 3000 11 (keepS keepLw2 keepFw2 keepTw2 (runTop Tryz.prog flw 3000 11 (keepS keepLw3 keepFw3 keepTw3 (runTop Tryz.prog flw 3000 11 (keepS keepLw4 keepFw4 keepTw4 (runTop Tryz.prog flw 3000 11 (keepS keepLw5 keepFw5 keepTw5 (run Tryz.prog flw 3000)) 11)) 2)) 2)) 4)) 4)) (fun _ w0 => (fun w0 => runTop_sound names tbw mixed (fun w0 => keepS_sound ((fun w0 => runTop_sound names tbw mixed (fun w0 => keepS_sound ((fun w0 => runTop_sound names tbw mixed (fun w0 => keepS_sound ((fun w0 => runTop_sound names tbw mixed (fun w0 => keepS_sound ((fun w0 => runTop_sound names tbw mixed (fun w0 => keepS_sound ((fun w0 => run_ok names tbw mixed _ w0) w0)) _ w0) w0)) _ w0) w0)) _ w0) w0)) _ w0) w0)) _ w0) w0) ((partw0 _).trans ((partw1 _).trans ((partw2 _).trans ((partw3 _).trans ((partw4 _).trans (h)))))) w
end Go.Proofs.YtjihijncpepahaaGreat
