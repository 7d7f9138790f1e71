/- A part of the proof of InferKnown: the closed call, played in parts. -/
import Derived.Test.YtfieahdeohhgmaaGreatIx0
import Derived.Test.YtfieahdeohhgmaaGreatIx1
import Derived.Test.YtfieahdeohhgmaaGreatIx2
import Derived.Test.YtfieahdeohhgmaaGreatIx3
import Derived.Test.YtfieahdeohhgmaaGreatIe0
import Derived.Test.YtfieahdeohhgmaaGreatIb0
import Derived.Test.YtfieahdeohhgmaaGreatIb1
import Derived.Test.YtfieahdeohhgmaaGreatIf0
import Derived.Test.YtfieahdeohhgmaaGreatIc0
import Derived.Test.YtfieahdeohhgmaaGreatIc1
import Derived.Test.YtfieahdeohhgmaaGreatIg0
import Derived.Test.YtfieahdeohhgmaaGreatIw0
import Derived.Test.YtfieahdeohhgmaaGreatIw1
import Derived.Test.YtfieahdeohhgmaaGreatIk1
import Derived.Test.YtfieahdeohhgmaaGreatIk3
import Derived.Test.YtfieahdeohhgmaaGreatSp
import Derived.KernelRfl
namespace Go.Proofs.YtfieahdeohhgmaaGreat
open Go Go.Abs
open Go.RowKit (Below)
theorem tbx : TbOK Tryz.prog flx := TbOK.none _ _
theorem okx : entx.ok Tryz.prog := fun _ w0 => ⟨(runTop Tryz.prog flx 3000 5 (keepS keepLx1 keepFx1 keepTx1 (runTop Tryz.prog flx 3000 5 (keepS keepLx2 keepFx2 keepTx2 (runTop Tryz.prog flx 3000 5 (keepS keepLx3 keepFx3 keepTx3 (run Tryz.prog flx 3000)) 31)) 51)) 18), (fun w0 => runTop_sound names tbx mixed (fun w0 => keepS_sound ((fun w0 => runTop_sound names tbx mixed (fun w0 => keepS_sound ((fun w0 => runTop_sound names tbx mixed (fun w0 => keepS_sound ((fun w0 => run_ok names tbx mixed _ w0) w0)) _ w0) w0)) _ w0) w0)) _ w0) w0, by
  show Are (.ret ansx [] memZx) (callBody0 (runTop Tryz.prog flx 3000 5 (keepS keepLx1 keepFx1 keepTx1 (runTop Tryz.prog flx 3000 5 (keepS keepLx2 keepFx2 keepTx2 (runTop Tryz.prog flx 3000 5 (keepS keepLx3 keepFx3 keepTx3 (run Tryz.prog flx 3000)) 31)) 51)) 18) false 5 argsx [] memAx Tryz.prog.funcs[5]?)
  rw [(partx0 _).trans ((partx1 _).trans ((partx2 _).trans (partx3)))]
  rfl⟩
theorem tbe : TbOK Tryz.prog fle := TbOK.none _ _
theorem oke : ente.ok Tryz.prog := fun _ w0 => ⟨(runTop Tryz.prog fle 3000 17 (keepS keepLe1 keepFe1 keepTe1 (run Tryz.prog fle 3000)) 68), (fun w0 => runTop_sound names tbe mixed (fun w0 => keepS_sound ((fun w0 => run_ok names tbe mixed _ w0) w0)) _ w0) w0, by
  show Are (.ret anse [] memZe) (callBody0 (runTop Tryz.prog fle 3000 17 (keepS keepLe1 keepFe1 keepTe1 (run Tryz.prog fle 3000)) 68) false 17 argse [] memAe Tryz.prog.funcs[17]?)
  rw [(parte0 _).trans (parte1)]
  rfl⟩
theorem tbb : TbOK Tryz.prog flb := TbOK.with (TbOK.none _ _) ⟨oke, trivial⟩
theorem okb : entb.ok Tryz.prog := fun _ w0 => ⟨(runTop Tryz.prog flb 3000 7 (keepS keepLb1 keepFb1 keepTb1 (runTop Tryz.prog flb 3000 7 (canS keepTb2 keepLb2 2718 8000 (run Tryz.prog flb 3000)) 5)) 13), (fun w0 => runTop_sound names tbb mixed (fun w0 => keepS_sound ((fun w0 => runTop_sound names tbb mixed (fun w0 => canS_sound ((fun w0 => run_ok names tbb mixed _ w0) w0)) _ w0) w0)) _ w0) w0, by
  show Are (.ret ansb [] memZb) (callBody0 (runTop Tryz.prog flb 3000 7 (keepS keepLb1 keepFb1 keepTb1 (runTop Tryz.prog flb 3000 7 (canS keepTb2 keepLb2 2718 8000 (run Tryz.prog flb 3000)) 5)) 13) false 7 argsb [] memAb Tryz.prog.funcs[7]?)
  rw [partb0, partb1, partb2]
  exact ⟨rfl, rfl⟩⟩
theorem tbf : TbOK Tryz.prog flf := TbOK.none _ _
theorem okf : entf.ok Tryz.prog := fun _ w0 => ⟨(runTop Tryz.prog flf 3000 17 (keepS keepLf1 keepFf1 keepTf1 (run Tryz.prog flf 3000)) 94), (fun w0 => runTop_sound names tbf mixed (fun w0 => keepS_sound ((fun w0 => run_ok names tbf mixed _ w0) w0)) _ w0) w0, by
  show Are (.ret ansf [] memZf) (callBody0 (runTop Tryz.prog flf 3000 17 (keepS keepLf1 keepFf1 keepTf1 (run Tryz.prog flf 3000)) 94) false 17 argsf [] memAf Tryz.prog.funcs[17]?)
  rw [(partf0 _).trans (partf1)]
  rfl⟩
theorem tbc : TbOK Tryz.prog flc := TbOK.with (TbOK.none _ _) ⟨okf, trivial⟩
theorem okc : entc.ok Tryz.prog := fun _ w0 => ⟨(runTop Tryz.prog flc 3000 7 (keepS keepLc1 keepFc1 keepTc1 (runTop Tryz.prog flc 3000 7 (canS keepTc2 keepLc2 8045 16000 (run Tryz.prog flc 3000)) 5)) 13), (fun w0 => runTop_sound names tbc mixed (fun w0 => keepS_sound ((fun w0 => runTop_sound names tbc mixed (fun w0 => canS_sound ((fun w0 => run_ok names tbc mixed _ w0) w0)) _ w0) w0)) _ w0) w0, by
  show Are (.ret ansc [] memZc) (callBody0 (runTop Tryz.prog flc 3000 7 (keepS keepLc1 keepFc1 keepTc1 (runTop Tryz.prog flc 3000 7 (canS keepTc2 keepLc2 8045 16000 (run Tryz.prog flc 3000)) 5)) 13) false 7 argsc [] memAc Tryz.prog.funcs[7]?)
  rw [partc0, partc1, partc2]
  exact ⟨rfl, rfl⟩⟩
theorem tbg : TbOK Tryz.prog flg := TbOK.none _ _
theorem okg : entg.ok Tryz.prog := fun _ w0 => ⟨(runTop Tryz.prog flg 3000 17 (keepS keepLg1 keepFg1 keepTg1 (run Tryz.prog flg 3000)) 94), (fun w0 => runTop_sound names tbg mixed (fun w0 => keepS_sound ((fun w0 => run_ok names tbg mixed _ w0) w0)) _ w0) w0, by
  show Are (.ret ansg [] memZg) (callBody0 (runTop Tryz.prog flg 3000 17 (keepS keepLg1 keepFg1 keepTg1 (run Tryz.prog flg 3000)) 94) false 17 argsg [] memAg Tryz.prog.funcs[17]?)
  rw [(partg0 _).trans (partg1)]
  rfl⟩
theorem tbw : TbOK Tryz.prog flw := TbOK.with (TbOK.none _ _) ⟨okg, trivial⟩
theorem okw : entw.ok Tryz.prog := fun _ w0 => ⟨(runTop Tryz.prog flw 3000 15 (keepS keepLw1 keepFw1 keepTw1 (runTop Tryz.prog flw 3000 15 (canS keepTw2 keepLw2 16200 24000 (run Tryz.prog flw 3000)) 25)) 11), (fun w0 => runTop_sound names tbw mixed (fun w0 => keepS_sound ((fun w0 => runTop_sound names tbw mixed (fun w0 => canS_sound ((fun w0 => run_ok names tbw mixed _ w0) w0)) _ w0) w0)) _ w0) w0, by
  show Are (.ret answ [] memZw) (callBody0 (runTop Tryz.prog flw 3000 15 (keepS keepLw1 keepFw1 keepTw1 (runTop Tryz.prog flw 3000 15 (canS keepTw2 keepLw2 16200 24000 (run Tryz.prog flw 3000)) 25)) 11) false 15 argsw [] memAw Tryz.prog.funcs[15]?)
  rw [partw0, partw1, partw2]
  exact ⟨rfl, rfl⟩⟩
theorem tbk : TbOK Tryz.prog flk := TbOK.with (TbOK.none _ _) ⟨okx, okb, okc, okw, trivial⟩
theorem k_true (w : World) : Calls Tryz.prog 4 #[] w fun e w' => e = .returned (.bool true) ∧ Below w.heap.size w w' := by
  obtain ⟨up, m, h⟩ := isTrueR_spec partk4
  exact closed_by (Rn := (runTop Tryz.prog flk 3000 4 (keepS keepLk1 keepFk1 keepTk1 (runTop Tryz.prog flk 3000 4 (keepS keepLk2 keepFk2 keepTk2 (runTop Tryz.prog flk 3000 4 (keepS keepLk3 keepFk3 keepTk3 (runTop Tryz.prog flk 3000 4 (keepS keepLk4 keepFk4 keepTk4 (run Tryz.prog flk 3000)) 16)) 2)) 7)) 5)) (fun _ w0 => (fun w0 => runTop_sound names tbk mixed (fun w0 => keepS_sound ((fun w0 => runTop_sound names tbk mixed (fun w0 => keepS_sound ((fun w0 => runTop_sound names tbk mixed (fun w0 => keepS_sound ((fun w0 => runTop_sound names tbk mixed (fun w0 => keepS_sound ((fun w0 => run_ok names tbk mixed _ w0) w0)) _ w0) w0)) _ w0) w0)) _ w0) w0)) _ w0) w0) ((partk0 _).trans ((partk1 _).trans ((partk2 _).trans ((partk3 _).trans (h))))) w
end Go.Proofs.YtfieahdeohhgmaaGreat
