/- A part of the proof of SolValues. -/
import Derived.Test.YtkfjmpdbfjaboaaGreatKk0
import Derived.Test.YtkfjmpdbfjaboaaGreatKk1
import Derived.Test.YtkfjmpdbfjaboaaGreatKk2
import Derived.Test.YtkfjmpdbfjaboaaGreatSp
import Derived.KernelRfl
import Derived.Test.YtkfjmpdbfjaboaaGreatSi
import Derived.Test.YtkfjmpdbfjaboaaGreatRows
import Derived.ProofKit
namespace Go.Proofs.YtkfjmpdbfjaboaaGreat
open Go Go.Abs
open Go.RowKit (Below)
theorem tbk : TbOK Tryz.prog flk := TbOK.none _ _
theorem k_true (w : World) : Calls Tryz.prog 15 #[] w fun e w' => e = .returned (.bool true) ∧ Below w.heap.size w w' := by
 obtain ⟨up, m, h⟩ := isTrueR_spec partk2
 exact closed_by (Rn := (runTop Tryz.prog flk 3000 15 (keepS keepLk1 keepFk1 keepTk1 (runTop Tryz.prog flk 3000 15 (keepS keepLk2 keepFk2 keepTk2 (run Tryz.prog flk 3000)) 4)) 15)) (fun _ w0 => (fun w0 => runTop_sound names tbk mixed (fun w0 => keepS_sound ((fun w0 => runTop_sound names tbk mixed (fun w0 => keepS_sound ((fun w0 => run_ok names tbk mixed _ w0) w0)) _ w0) w0)) _ w0) w0) ((partk0 _).trans ((partk1 _).trans (h))) w
end Go.Proofs.YtkfjmpdbfjaboaaGreat
namespace Go.Proofs.YtkfjmpdbfjaboaaGreat
open Go Go.ChangeShapes Go.WideShapes Go.ChangeAt Go.RowKit Go.ChangeMaps
open Go.Abs (LaidRow roRho CR R RL MR memR Known flK findK AVal iv SlA)
set_option maxRecDepth 10000
noncomputable def rowOf (W : World) (b0 b : Nat) : LaidRow := match W.heap[b]? with
 | some (Obj.cells cs _ _) => ⟨b, 0, cs.toList.map (al W)⟩
 | _ => ⟨b0, 0, []⟩
theorem laid_mr (W : World) : ∃ L, Laid W L ∧ MR ⟨W, fun _ => False⟩ W.heap.size (roRho L) (memL L) W := by
 by_cases hex : ∃ (b0 : Nat) (cs : Array Value) (e : TypeId) (fz : Nat × Nat), W.heap[b0]? = some (Obj.cells cs e fz)
 ·obtain ⟨b0, cs0, e0, fz0, hb0⟩ := hex
  have hL : Laid W ((List.range W.heap.size).map (rowOf W b0)) := by
   intro b cs e fz h
   have hb : b < W.heap.size := (Array.getElem?_eq_some_iff.1 h).1
   rw [List.getElem?_map, List.getElem?_range hb]
   show some (rowOf W b0 b) = _
   unfold rowOf
   rw [h]
  refine ⟨_, hL, MR.ros _ [] (fun x hx => ?_) (fun g r h => by cases h)⟩
  obtain ⟨b, _, rfl⟩ := List.mem_map.1 hx
  by_cases hc : ∃ (cs : Array Value) (e : TypeId) (fz : Nat × Nat), W.heap[b]? = some (Obj.cells cs e fz)
  ·obtain ⟨cs, e, fz, h⟩ := hc
   have hr : rowOf W b0 b = ⟨b, 0, cs.toList.map (al W)⟩ := by unfold rowOf; rw [h]
   rw [hr]
   refine ⟨cs, e, fz, h, fun i v hv => ?_⟩
   rw [List.getElem?_map, Option.map_eq_some_iff] at hv
   obtain ⟨x, hx, rfl⟩ := hv
   rw [Array.getElem?_toList] at hx
   exact ⟨x, hx, al_R hL x⟩
  ·have hr : rowOf W b0 b = ⟨b0, 0, []⟩ := by
    unfold rowOf
    split
    ·rename_i cs e fz h; exact absurd ⟨cs, e, fz, h⟩ hc
    ·rfl
   rw [hr]
   exact ⟨cs0, e0, fz0, hb0, fun i v hv => by cases hv⟩
 ·refine ⟨[], fun b cs e fz h => absurd ⟨b, cs, e, fz, h⟩ hex, MR.ros [] [] (fun x hx => by cases hx) (fun g r h => by cases h)⟩
noncomputable def knownK : Known Tryz.prog where
 f := 15
 tb := fun args _ => match args with | [] => some (.bool true) | _ => none
 fn := ⟨_, _, Tryz.func15, rfl⟩
 ok := by
  intro args m v ht w0 B ρ w xs h hl
  split at ht
  case h_2 => cases ht
  cases ht
  simp only [RL] at hl
  have : xs = #[] := Array.ext' hl
  subst this
  exact k_true w
noncomputable def flT : Abs.Fl := flK [knownK]
theorem flT_tab : Tab flT where
 plain := rfl
 tb := by
  intro f args m h1
  show findK [knownK] f args m = none
  unfold findK
  rw [if_neg (fun e => h1 e.symm)]
  rfl
 tc := fun _ _ _ => rfl
theorem u4 : Tryz.prog.underlying 4 = some .bool := by kernel_rfl
theorem Tryz.own : ownKnob Tryz.prog.godebug = none := by kernel_rfl
theorem Tryz.laidOut : laidOutB Tryz.prog = true := by kernel_rfl
theorem RL_map {ρ : Abs.Rho} {f : Value → AVal} (h : ∀ v, R ρ (f v) v) : ∀ l : List Value, RL ρ (l.map f) l
 | [] => by simp [RL]
 | v :: l => by
  simp only [List.map_cons, RL]
  exact ⟨v, l, rfl, h v, RL_map h l⟩
theorem law_calls {W : World} {L : List LaidRow} (hM : MR ⟨W, fun _ => False⟩ W.heap.size (roRho L) (memL L) W) (hL : Laid W L) {c0 : Array Value} {v1 : Value} {e : AX} {env : List VP} (h0 : c0.toList.map (al W) = e.cells) (he : e.OK (memL L)) (h1 : SlA (memL L) (al W v1) 2 (env.map vcells)) :
  Calls Tryz.prog 5 #[.agg c0, v1] W fun en w' => en = .returned (.bool true) ∧ Below W.heap.size W w' := by
 have hwf : Abs.Wf (memL L) := ⟨fun q hq => by
  rw [memL_get]
  have : L.length ≤ q := by
   have h : (memL L).next = L.length := List.length_map ..
   rw [h] at hq; exact hq
  rw [List.getElem?_eq_none this]; rfl, fun q _ => Abs.T.get_e q⟩
 have hlaw : Abs.CallQ Tryz.prog flT 5 [.agg e.cells, al W v1] (memL L) (fun r => ∃ u m', r = .ret (.lit (.bool true)) u m') :=
  Abs.CallQ.mono (fun r ⟨u, m', h, _⟩ => ⟨u, m', h⟩) (law_ok flT_tab (fun _ => rfl) (m := memL L) he h1 hwf)
 obtain ⟨r, ⟨M, hN⟩, hQ⟩ := hlaw.2
 refine Abs.calls_byQ (Rn := Abs.run Tryz.prog flT M) (fun B w0 => Abs.run_ok names (Abs.flK_ok _) mixed M w0) (args := [.agg e.cells, al W v1]) hM ?_ ?_
 ·show RL (roRho L) [.agg e.cells, al W v1] [.agg c0, v1]
  simp only [RL, R]
  exact ⟨_, _, rfl, ⟨c0, rfl, h0 ▸ RL_map (al_R hL) c0.toList⟩, _, _, rfl, al_R hL v1, rfl⟩
 ·have e1 := hN M (Nat.le_refl _)
  have htb : flT.tb 5 [.agg e.cells, al W v1] (memL L) = none := flT_tab.tb _ _ _ (by decide)
  dsimp only at e1
  unfold Abs.callBody at e1
  rw [cond_false, htb] at e1
  dsimp only at e1
  rw [show Abs.isNil ([] : Abs.Chain) = true from rfl, cond_true, flT_tab.tc] at e1
  unfold Abs.callIn at e1
  dsimp only at e1
  have hl : Abs.hasN flT.l 5 = false := rfl
  rw [hl, cond_false, Abs.zIn_off (fl := flT) (f := 5) rfl] at e1
  rw [e1]; exact hQ
end Go.Proofs.YtkfjmpdbfjaboaaGreat
