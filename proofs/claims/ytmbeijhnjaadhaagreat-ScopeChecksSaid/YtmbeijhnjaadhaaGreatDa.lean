/- A part of the proof of ScopeChecks. -/
import Derived.Test.YtmbeijhnjaadhaaGreatCq
namespace Go.Proofs.YtmbeijhnjaadhaaGreat
open Go Go.Abs
open Go.RowKit (Below)
set_option maxRecDepth 10000
noncomputable section
instance : TyF Tryz.prog 38 false 1 := ⟨by kernel_rfl, by kernel_rfl⟩
instance : ZcF Tryz.prog 38 [.lit (.pointer none)] := ⟨by kernel_rfl⟩
instance : TyF Tryz.prog 37 true 8 := ⟨by kernel_rfl, by kernel_rfl⟩
instance : FdF Tryz.prog 37 0 0 26 := ⟨by kernel_rfl⟩
instance : FdF Tryz.prog 37 1 4 31 := ⟨by kernel_rfl⟩
instance : FdF Tryz.prog 37 2 5 31 := ⟨by kernel_rfl⟩
instance : FdF Tryz.prog 37 3 6 31 := ⟨by kernel_rfl⟩
instance : FdF Tryz.prog 37 4 7 4 := ⟨by kernel_rfl⟩
instance : PlF Tryz.prog 37 [(0, 4), (4, 1), (5, 1), (6, 1), (7, 1)] := ⟨by kernel_rfl⟩
instance : ZcF Tryz.prog 37 [.lit (.slice none 0 0), .lit (.slice none 0 0), .lit (.slice none 0 0), .lit (.int .i64 0), .lit (.slice none 0 0), .lit (.slice none 0 0), .lit (.slice none 0 0), .lit (.bool false)] := ⟨by kernel_rfl⟩
instance : TyF Tryz.prog 118 false 1 := ⟨by kernel_rfl, by kernel_rfl⟩
instance : SlF Tryz.prog 118 4 := ⟨by kernel_rfl⟩
instance : ElF Tryz.prog 118 4 1 := ⟨by kernel_rfl⟩
instance : ZcF Tryz.prog 118 [.lit (.slice none 0 0)] := ⟨by kernel_rfl⟩
def shapeF (op : Int) : Int × Int × Bool :=
 if op = 1 ∨ op = 7 then (0, 0, true) else if op = 2 then (-1, 0, true) else if op = 3 then (0, 2, true) else if op = 5 then (1, 2, true) else if op = 4 ∨ op = 6 ∨ op = 8 then (0, 1, true) else (0, 0, false)
def shapeT (op : Int) : AVal := .tuple [iv (shapeF op).1, iv (shapeF op).2.1, .lit (.bool (shapeF op).2.2)]
theorem rv3 {tmps : T AVal} {m : Mem} {t t' t3 : Tmp} {v v' v3 : AVal} (e : evalT tmps (.tmp t) = v) (e' : evalT tmps (.tmp t') = v') (e3 : evalT tmps (.tmp t3) = v3) : resVals Tryz.prog tmps m [.tmp t, .tmp t', .tmp t3] = some [v, v', v3] := by
 have h2 := rv2 (m := m) (P := Tryz.prog) e' e3
 show (resVals Tryz.prog tmps m [.tmp t', .tmp t3]).map (getT tmps t :: ·) = _
 rw [h2, show getT tmps t = v from e]; rfl
variable {fl : Fl} (hfl : Tab fl)
include hfl
theorem shape_ok {m : Mem} (op : Int) (hw : Wf m) : CallQ Tryz.prog fl 47 [iv op] m (Rets noS m (shapeT op)) := by
 refine hfl.start (by decide) 19 Tryz.func47 rfl rfl (Nat.le_of_ble_eq_true rfl) ?_
 intro bs hb
 have ar0 := hb 0 _ rfl
 clear hb
 have K : Kept (fun q => m.next ≤ q ∨ noS q) m m := Kept.refl hw
 by_cases hh : op = 1 ∨ op = 2 ∨ op = 3 ∨ op = 4 ∨ op = 5 ∨ op = 6 ∨ op = 7 ∨ op = 8
 ·rcases hh with rfl | rfl | rfl | rfl | rfl | rfl | rfl | rfl
  all_goals
   refine gg ?_
   refine w_retAt rfl ?_
   refine w_results Tryz.func47 (rv3 v0 v0 v0) ?_
   exact ⟨_, _, rfl, K.out⟩
 ·have e1 : (op == 1) = false := by rw [beq_eq_false_iff_ne]; intro h; exact hh (by simp [h])
  have e2 : (op == 2) = false := by rw [beq_eq_false_iff_ne]; intro h; exact hh (by simp [h])
  have e3 : (op == 3) = false := by rw [beq_eq_false_iff_ne]; intro h; exact hh (by simp [h])
  have e4 : (op == 4) = false := by rw [beq_eq_false_iff_ne]; intro h; exact hh (by simp [h])
  have e5 : (op == 5) = false := by rw [beq_eq_false_iff_ne]; intro h; exact hh (by simp [h])
  have e6 : (op == 6) = false := by rw [beq_eq_false_iff_ne]; intro h; exact hh (by simp [h])
  have e7 : (op == 7) = false := by rw [beq_eq_false_iff_ne]; intro h; exact hh (by simp [h])
  have e8 : (op == 8) = false := by rw [beq_eq_false_iff_ne]; intro h; exact hh (by simp [h])
  have es : shapeT op = .tuple [iv 0, iv 0, .lit (.bool false)] := by
   have hs : shapeF op = (0, 0, false) := by
    unfold shapeF
    rw [if_neg (by omega), if_neg (by omega), if_neg (by omega), if_neg (by omega), if_neg (by omega)]
   unfold shapeT
   rw [hs]
  rw [es]
  refine gg ?_
  refine w_retAt rfl ?_
  refine w_results Tryz.func47 (rv3 v0 v0 v0) ?_
  exact ⟨_, _, rfl, K.out⟩
theorem refOwn_ok {m : Mem} {d : ADf} (hd : d.OK m) (hc : d.chans.length ≤ 1000) (hs : d.spots.length ≤ 1000) (hw : Wf m) : CallQ Tryz.prog fl 49 [.agg d.cells] m (Rets noS m (iv (moreD d))) := by
 obtain ⟨cv, sv, rv, chans, spots, rules⟩ := d
 have hcs := hd.c
 have hss := hd.s
 have cc := hcs.cell
 have cs := hss.cell
 have lc : ∀ m', lenSl m' cv = .val (goI chans.length) m' := hcs.lenM
 have ls : ∀ m', lenSl m' sv = .val (goI spots.length) m' := hss.lenM
 have cc : isCell cv = true := cc
 have cs : isCell sv = true := cs
 have hc : chans.length ≤ 1000 := hc
 have hs : spots.length ≤ 1000 := hs
 have b1 : -(2 ^ 62) ≤ Int.ofNat chans.length + Int.ofNat spots.length := by show -(2 ^ 62) ≤ (chans.length : Int) + (spots.length : Int); omega
 have b2 : Int.ofNat chans.length + Int.ofNat spots.length < 2 ^ 62 := by show (chans.length : Int) + (spots.length : Int) < 2 ^ 62; omega
 show CallQ Tryz.prog fl 49 [.agg [cv, sv, rv]] m _
 refine hfl.start (by decide) 10 Tryz.func49 rfl rfl (Nat.le_of_ble_eq_true rfl) ?_
 intro bs hb
 have ar0 := hb 0 _ rfl
 clear hb
 have K : Kept (fun q => m.next ≤ q ∨ noS q) m m := Kept.refl hw
 refine gg ?_
 refine s_new rfl rfl rfl rfl (o_box (e_base rfl ar0) rfl) (fun m1 g => ?_)
 have h1 := g.same
 have K := K.g g
 refine gg ?_
 refine w_retAt rfl ?_
 refine w_results Tryz.func49 (rv1 v0) ?_
 exact ⟨_, _, rfl, K.out⟩
theorem more_loop {chans : List AChan} {cv z1 z2 jv y1 y2 : AVal} {d2 r3 : Nat} (hch : ∀ c, c ∈ chans → 0 ≤ c.many ∧ c.many ≤ 3) {els : List Int} (hel : ∀ j, j ∈ els → 0 ≤ j ∧ j < chans.length) (k : List AItem) {Q : RR → Prop} {up : Chain} : ∀ (rest pre : List Int) (x : Int) {m : Mem} (b : T AVal), els = pre ++ rest → Wf m → 0 ≤ x → x ≤ 1000 * pre.length → els.length ≤ 1000 → Cel m d2 [cv, z1, z2] → Cel m r3 [y1, jv, y2] → SlA m cv 2 (chans.map AChan.cells) → SlA m jv 1 (els.map icells) → getT b 2 = .ptr d2 0 → getT b 3 = .ptr r3 0 → getT b 5 = iv x → getT b 6 = goI pre.length →
  (∀ (b' : T AVal), getT b' 5 = iv (x + broughtF chans rest) → Wp Tryz.prog fl (At ⟨80, 27, false, none⟩ k b' [] .run up m) Q) →
  Wp Tryz.prog fl (At ⟨80, 27, false, none⟩ (.code (cAt [true, true, false, true, false, false] (bodyF Tryz.f80)) :: .inLoop (cAt [true, true, false, true, false, false] (bodyF Tryz.f80)) :: .inBlock 0 :: k) (sets 27 b []) [] .run up m) Q := by
 have _ := hfl
 intro rest
 induction rest with
 | nil =>
  intro pre x m b hsp hw hx0 hx1 hll hd hr3 hcs hsl k2 k3 k5 k6 hk
  have hlt : decide (Int.ofNat pre.length < Int.ofNat els.length) = false := by subst hsp; simp
  have lj := hsl.lenM
  have cj := hsl.cell
  obtain ⟨⟨er, hrr⟩, fr⟩ := hr3
  refine gg ?_
  refine Wp.gen (fun b' eb => ?_)
  exact hk _ ((eqb eb (e_base rfl k5)).trans (congrArg iv (by show x = x + 0; omega)))
 | cons j rest ih =>
  intro pre x m b hsp hw hx0 hx1 hll hd hr3 hcs hsl k2 k3 k5 k6 hk
  have hlt : decide (Int.ofNat pre.length < Int.ofNat els.length) = true := by subst hsp; simp; omega
  have hln := hsl.lnT hsp
  have lj := hsl.lenM
  have cj := hsl.cell
  have hpl : pre.length < els.length := by rw [hsp]; simp
  have hd0 := hd
  have hr30 := hr3
  obtain ⟨⟨ed, hdr⟩, fd⟩ := hd
  obtain ⟨⟨er, hrr⟩, fr⟩ := hr3
  have cc := hcs.cell
  obtain ⟨h0, h1⟩ := hel j (by rw [hsp]; simp)
  obtain ⟨r, off, c0, ex, row, hv, hlx, hr, htk⟩ := hsl.here hsp
  obtain ⟨i, rfl⟩ : ∃ i : Nat, j = Int.ofNat i := ⟨j.toNat, by show j = (j.toNat : Int); omega⟩
  have hi : i < chans.length := by have h : (i : Int) < (chans.length : Int) := h1; omega
  have hmany := hch _ (chAt_mem h0 h1)
  obtain ⟨rc, oc, cc1, ec1, rowc, hvc, hrc, htc⟩ := ch_at hcs hi
  obtain ⟨ht0, ht1⟩ := take_two htc
  have b1 : -(2 ^ 62) ≤ x + (chAt chans (Int.ofNat i)).many := by omega
  have b2 : x + (chAt chans (Int.ofNat i)).many < 2 ^ 62 := by omega
  refine gg ?_
  refine w_draw (.L 0 0 0 (.L 1 0 0 (.L 2 2 1 (.L 3 0 0 (.L 4 8 1 (.L 5 0 0 (.L 6 56 0 (.L 7 120 1 (.L 8 254 0 (.L 9 510 0 (.L 10 1022 1 (.L 11 2047 0 (.L 12 4095 0 .fin))))))))))))) rfl (by kernel_rfl) ?_
  refine gg ?_
  refine d_light0 rfl rfl rfl rfl (o_indexAddr ((e_hit rfl).trans hv) v0 ElF.h hlx) ?_
  refine d_light1 rfl rfl rfl rfl (o_loadRo1 v0 hr TyF.h TyF.z (by rw [Nat.mul_one] at htk ⊢; exact htk)) ?_
  subst hvc
  refine d_light0 rfl rfl rfl rfl (o_indexAddr v0 v0 ElF.h hi) ?_
  refine gg ?_
  refine d_light1 rfl rfl rfl rfl (o_loadRo1 v0 hrc TyF.h TyF.z ht1) ?_
  refine d_light0 rfl rfl rfl rfl (o_addI v0 v0 b1 b2) ?_
  refine gg ?_
  refine w_inLoop ?_
  refine Wp.gen (fun b' eb => ?_)
  refine ih (pre ++ [Int.ofNat i]) (x + (chAt chans (Int.ofNat i)).many) b' (by simp [hsp]) hw (by omega) (by rw [List.length_append, List.length_singleton]; omega) hll hd0 hr30 hcs hsl (eqb eb (e_base rfl k2)) (eqb eb (e_base rfl k3)) (eqb eb v0) (eqb eb ((e_hit rfl).trans (by rw [List.length_append]; rfl))) (fun b' h => hk b' (h.trans (congrArg iv ?_)))
  unfold broughtF
  rw [List.map_cons, List.sum_cons]; omega
theorem more_ok {m : Mem} {d : ADf} {r : ARule} (hd : d.OK m) (hr : r.OK m) (hch : ∀ c, c ∈ d.chans → 0 ≤ c.many ∧ c.many ≤ 3) (hel : ∀ j, j ∈ r.joins → 0 ≤ j ∧ j < d.chans.length) (hll : r.joins.length ≤ 1000) (hw : Wf m) : CallQ Tryz.prog fl 80 [.agg d.cells, .agg r.cells] m (Rets noS m (iv (broughtF d.chans r.joins))) := by
 obtain ⟨cv, sv, rv, chans, spots, rules⟩ := d
 obtain ⟨at_, jv, joins, node⟩ := r
 have hcs := hd.c
 have hsl : SlA m jv 1 (joins.map icells) := hr
 show CallQ Tryz.prog fl 80 [.agg [cv, sv, rv], .agg [iv at_, jv, iv node]] m (Rets noS m (iv (broughtF chans joins)))
 refine hfl.start (by decide) 27 Tryz.func80 rfl rfl (Nat.le_of_ble_eq_true rfl) ?_
 intro bs hb
 have ar0 := hb 0 _ rfl
 have ar1 := hb 1 _ rfl
 clear hb
 have K : Kept (fun q => m.next ≤ q ∨ noS q) m m := Kept.refl hw
 refine gg ?_
 refine s_new rfl rfl rfl rfl (o_box (e_base rfl ar0) rfl) (fun m1 g => ?_)
 have n1 := g.next
 have f1 := g.fam0 K.wf
 have h1 := g.same
 have K := K.g g
 refine s_new rfl rfl rfl rfl (o_box (e_base rfl ar1) rfl) (fun m2 g => ?_)
 have n2 := g.next
 have h2 := g.same
 have f2 := g.fam0 K.wf
 have h1 := (g.other m.next (by omega)).trans h1
 have f1 := (g.famo m.next).trans f1
 have K := K.g g
 refine gg ?_
 refine w_loop ?_
 refine Wp.gen (fun b0 eb => ?_)
 refine more_loop hfl (chans := chans) hch (els := joins) hel _ joins [] 0 b0 rfl K.wf (by omega) (by simp) hll (Cel.of h1 f1) (Cel.of h2 f2) (hcs.kept K) (hsl.kept K) (eqb eb v0) (eqb eb v0) (eqb eb v0) (eqb eb v0) (fun b' h => ?_)
 change Wp Tryz.prog fl (At _ _ (sets 27 b' []) _ _ _ _) _
 refine gg ?_
 refine w_retAt rfl ?_
 refine w_results Tryz.func80 (rv1 v0) ?_
 exact ⟨_, _, congrArg (fun i => RR.ret (iv i) _ _) (by omega), K.out⟩
end
noncomputable section
variable {fl : Fl} (hfl : Tab fl)
include hfl
theorem rchans_loop {cv sv rv : AVal} {spots : List ASpot} {d1 : Nat} {els : List AChan} (k : List AItem) {Q : RR → Prop} {up : Chain} {m : Mem} (_hw : Wf m) (hd : Cel m d1 [cv, sv, rv]) (hsl : SlA m cv 2 (els.map AChan.cells)) (hss : SlA m sv 2 (spots.map ASpot.cells)) : ∀ (rest pre : List AChan) (b : T AVal), els = pre ++ rest → getT b 1 = .ptr d1 0 → getT b 3 = goI pre.length →
  (∀ (b' : T AVal), rest.all (chB spots.length) = true → getT b' 1 = .ptr d1 0 → Wp Tryz.prog fl (At ⟨25, 193, false, none⟩ k b' [] .run up m) Q) →
  (∀ (b' : T AVal), rest.all (chB spots.length) = false → getT b' 2 = .lit (.bool false) → Wp Tryz.prog fl (At ⟨25, 193, false, none⟩ [] b' [] .returning up m) Q) →
  Wp Tryz.prog fl (At ⟨25, 193, false, none⟩ (.code (cAt [true, true, false, true, false, false] (bodyF Tryz.f25)) :: .inLoop (cAt [true, true, false, true, false, false] (bodyF Tryz.f25)) :: .inBlock 0 :: k) (sets 193 b []) [] .run up m) Q := by
 have _ := hfl
 have cs := hss.cell
 have ls := hss.lenM
 have cc := hsl.cell
 have lc := hsl.lenM
 obtain ⟨⟨ed, hdr⟩, fd⟩ := hd
 intro rest
 induction rest with
 | nil =>
  intro pre b hsp k1 k3 hk hp
  have hlt : decide (Int.ofNat pre.length < Int.ofNat els.length) = false := by subst hsp; simp
  refine gg ?_
  refine Wp.gen (fun b' eb => ?_)
  exact hk b' rfl (eqb eb (e_base rfl k1))
 | cons y rest ih =>
  intro pre b hsp k1 k3 hk hp
  have hlt : decide (Int.ofNat pre.length < Int.ofNat els.length) = true := by subst hsp; simp; omega
  have hln := hsl.lnT hsp
  obtain ⟨r, off, c0, ex, row, hv, hlx, hr, htk⟩ := hsl.here hsp
  have htk : takeN 2 (dropN row (off + pre.length * 2)) = some [iv y.at_, iv y.many] := htk
  obtain ⟨ht0, ht1⟩ := take_two htk
  have e : (y :: rest).all (chB spots.length) = (chB spots.length y && rest.all (chB spots.length)) := rfl
  rw [e] at hk hp
  refine gg ?_
  refine w_draw (.L 0 0 0 (.L 1 1 1 (.L 2 0 0 (.L 3 7 0 (.L 4 15 0 (.L 5 31 1 (.L 6 63 0 (.L 7 127 0 (.L 8 255 0 (.L 9 511 1 (.L 10 255 0 (.L 11 2047 0 (.L 12 4095 0 (.L 13 8191 1 (.L 14 255 0 (.L 15 16639 1 (.L 16 49407 1 (.L 17 131071 0 (.L 18 262143 0 (.L 19 524287 0 (.L 20 1048575 0 (.L 21 2097151 1 (.L 22 1048575 0 (.L 23 8388607 0 (.L 24 16777215 0 (.L 25 33554431 1 (.L 26 67108863 0 (.L 27 134217727 0 (.L 28 268435455 0 (.L 29 536870911 0 (.L 30 1073741823 1 (.L 31 536870911 0 (.L 32 4294967295 0 (.L 33 8589934591 0 (.L 34 17179869183 1 (.L 35 34359738367 0 (.L 36 68719476735 0 .fin))))))))))))))))))))))))))))))))))))) rfl (by kernel_rfl) ?_
  subst hv
  have cases5 : decide (y.at_ < 0) = true ∨ (decide (y.at_ < 0) = false ∧ decide (Int.ofNat spots.length < y.at_) = true) ∨ (decide (y.at_ < 0) = false ∧ decide (Int.ofNat spots.length < y.at_) = false ∧ decide (y.many < 0) = true) ∨ (decide (y.at_ < 0) = false ∧ decide (Int.ofNat spots.length < y.at_) = false ∧ decide (y.many < 0) = false ∧ decide (3 < y.many) = true) ∨ (decide (y.at_ < 0) = false ∧ decide (Int.ofNat spots.length < y.at_) = false ∧ decide (y.many < 0) = false ∧ decide (3 < y.many) = false) := by
   cases decide (y.at_ < 0) <;> cases decide (Int.ofNat spots.length < y.at_) <;> cases decide (y.many < 0) <;> cases decide (3 < y.many) <;> simp
  rcases cases5 with c1 | ⟨c1, c2⟩ | ⟨c1, c2, c3⟩ | ⟨c1, c2, c3, c4⟩ | ⟨c1, c2, c3, c4⟩
  all_goals
   refine gg ?_
   repeat (first | refine d_light0 rfl rfl (by first | exact rfl | exact (gT rfl ⟨v0⟩ (by assumption)).h) rfl (o_indexAddr v0 v0 ElF.h hlx) ?_ | refine d_light1 rfl rfl (by first | exact rfl | exact (gT rfl ⟨v0⟩ (by assumption)).h) rfl (o_loadRo1 v0 hr TyF.h TyF.z ht0) ?_ | refine d_light1 rfl rfl (by first | exact rfl | exact (gT rfl ⟨v0⟩ (by assumption)).h) rfl (o_loadRo1 v0 hr TyF.h TyF.z ht1) ?_); refine gg ?_
  rotate_right
  ·refine w_inLoop ?_
   refine Wp.gen (fun b' eb => ?_)
   simp only [decide_eq_false_iff_not] at c1 c2 c3 c4
   have cb : chB spots.length y = true := by
    unfold chB
    simp only [Bool.and_eq_true, decide_eq_true_eq]
    omega
   rw [cb, Bool.true_and] at hk hp
   exact ih (pre ++ [y]) b' (by simp [hsp]) (eqb eb (e_base rfl k1)) (eqb eb ((e_hit rfl).trans (by rw [List.length_append]; rfl))) hk hp
  all_goals
   refine w_retAt rfl ?_
   refine Wp.gen (fun b' eb => ?_)
   simp only [decide_eq_true_eq, decide_eq_false_iff_not] at *
   have cb : chB spots.length y = false := by
    rw [← Bool.not_eq_true]
    unfold chB
    simp only [Bool.and_eq_true, decide_eq_true_eq]
    omega
   rw [cb] at hp
   exact hp b' rfl (eqb eb v0)
theorem rspots_loop {cv sv rv : AVal} {d1 : Nat} {els : List ASpot} (k : List AItem) {Q : RR → Prop} {up : Chain} {m : Mem} (_hw : Wf m) (hd : Cel m d1 [cv, sv, rv]) (hsl : SlA m sv 2 (els.map ASpot.cells)) : ∀ (rest pre : List ASpot) (b : T AVal), els = pre ++ rest → getT b 1 = .ptr d1 0 → getT b 4 = goI pre.length →
  (∀ (b' : T AVal), spotsF pre.length rest = true → getT b' 1 = .ptr d1 0 → Wp Tryz.prog fl (At ⟨25, 193, false, none⟩ k b' [] .run up m) Q) →
  (∀ (b' : T AVal), spotsF pre.length rest = false → getT b' 2 = .lit (.bool false) → Wp Tryz.prog fl (At ⟨25, 193, false, none⟩ [] b' [] .returning up m) Q) →
  Wp Tryz.prog fl (At ⟨25, 193, false, none⟩ (.code (cAt [true, true, true, false, true, false, false] (bodyF Tryz.f25)) :: .inLoop (cAt [true, true, true, false, true, false, false] (bodyF Tryz.f25)) :: .inBlock 2 :: k) (sets 193 b []) [] .run up m) Q := by
 have _ := hfl
 have cs := hsl.cell
 have ls := hsl.lenM
 obtain ⟨⟨ed, hdr⟩, fd⟩ := hd
 intro rest
 induction rest with
 | nil =>
  intro pre b hsp k1 k3 hk hp
  have hlt : decide (Int.ofNat pre.length < Int.ofNat els.length) = false := by subst hsp; simp
  refine gg ?_
  refine Wp.gen (fun b' eb => ?_)
  exact hk b' rfl (eqb eb (e_base rfl k1))
 | cons y rest ih =>
  intro pre b hsp k1 k3 hk hp
  have hlt : decide (Int.ofNat pre.length < Int.ofNat els.length) = true := by subst hsp; simp; omega
  have hln := hsl.lnT hsp
  obtain ⟨r, off, c0, ex, row, hv, hlx, hr, htk⟩ := hsl.here hsp
  have htk : takeN 2 (dropN row (off + pre.length * 2)) = some [iv y.inn, iv y.node] := htk
  obtain ⟨ht0, ht1⟩ := take_two htk
  subst hv
  have cases3 : decide (y.inn < 0) = true ∨ (decide (y.inn < 0) = false ∧ decide (Int.ofNat pre.length < y.inn) = true) ∨ (decide (y.inn < 0) = false ∧ decide (Int.ofNat pre.length < y.inn) = false) := by
   cases decide (y.inn < 0) <;> cases decide (Int.ofNat pre.length < y.inn) <;> simp
  rcases cases3 with c1 | ⟨c1, c2⟩ | ⟨c1, c2⟩
  all_goals
   refine gg ?_
   repeat (first | refine s_val rfl (by first | exact rfl | exact (gT rfl ⟨v0⟩ (by assumption)).h) rfl rfl (o_indexAddr v0 v0 ElF.h hlx) ?_ | refine s_val rfl (by first | exact rfl | exact (gT rfl ⟨v0⟩ (by assumption)).h) rfl rfl (o_loadRo1 v0 hr TyF.h TyF.z ht0) ?_); refine gg ?_
  rotate_right
  ·refine w_inLoop ?_
   refine Wp.gen (fun b' eb => ?_)
   simp only [decide_eq_false_iff_not] at c1 c2
   have cb : spotsF pre.length (y :: rest) = spotsF (pre ++ [y]).length rest := by
    rw [spotsF, List.length_append]
    have cb : (decide (0 ≤ y.inn) && decide (y.inn ≤ Int.ofNat pre.length)) = true := by
     simp only [Bool.and_eq_true, decide_eq_true_eq]
     omega
    rw [cb, Bool.true_and]; rfl
   rw [cb] at hk hp
   exact ih (pre ++ [y]) b' (by simp [hsp]) (eqb eb (e_base rfl k1)) (eqb eb ((e_hit rfl).trans (by rw [List.length_append]; rfl))) hk hp
  all_goals
   refine w_retAt rfl ?_
   refine Wp.gen (fun b' eb => ?_)
   simp only [decide_eq_true_eq, decide_eq_false_iff_not] at *
   have cb : spotsF pre.length (y :: rest) = false := by
    rw [spotsF]
    have cb : (decide (0 ≤ y.inn) && decide (y.inn ≤ Int.ofNat pre.length)) = false := by
     rw [← Bool.not_eq_true]
     simp only [Bool.and_eq_true, decide_eq_true_eq]
     omega
    rw [cb]; rfl
   exact hp b' cb (eqb eb v0)
theorem o_makeSl {t e : TypeId} {tmps : T AVal} {m : Mem} {x y : Operand} {z : AVal} {n : Nat} (hx : evalT tmps x = goI n) (hy : evalT tmps y = goI n) (hs : sizedElem Tryz.prog (sliceElem Tryz.prog t) = some (e, 1)) (hz : zcells Tryz.prog e = some [z]) (hg : growOK Tryz.prog e 1 = true) (hn : n ≤ 100000) : aop Tryz.prog tmps m (.makeSlice t x y) = .val (.slice m.next 0 n n true) (m.new (.row (e, 1) (List.replicate n z) m.next 0)) := by
 have _ := hfl
 show makeSl Tryz.prog m (natOf (evalT tmps x)) (natOf (evalT tmps y)) (sizedElem Tryz.prog (sliceElem Tryz.prog t)) = _
 rw [hx, hy, hs]
 unfold makeSl
 dsimp only
 rw [hz, hg]
 have h1 : n.ble n = true := Nat.ble_eq_true_of_le (Nat.le_refl n)
 have h2 : n.ble 100000 = true := Nat.ble_eq_true_of_le hn
 show (bif (true && n.ble n && n.ble 100000 && true) then Out.val (.slice m.next 0 n n true) (Abs.newRow m (e, 1) (repL [z] n)) else .bad "makeSlice range") = _
 rw [h1, h2]
 have hr : ∀ n, repL [z] n = List.replicate n z := by
  intro n
  induction n with
  | zero => rfl
  | succ n ih => rw [repL_succ, ih, List.replicate_succ]; rfl
 show Out.val _ (Abs.newRow m (e, 1) (repL [z] n)) = _
 rw [hr]; rfl
end
noncomputable section
abbrev dupP : List Bool := [true, true, true, true, true, false, true, false, false, true, false, false, true, true, true, false, false, true, false, false, true, true, false, true, false, false]
theorem put_set {v : AVal} : ∀ (l : List AVal) (i : Nat), i < l.length → putCells [v] i l = some (l.set i v)
 | [], i, h => by simp at h
 | x :: l, 0, _ => by rw [putCells_zero]; rfl
 | x :: l, i + 1, h => by
  rw [putCells_cons, put_set l i (by simpa using h)]; rfl
def bv (b : Bool) : AVal := .lit (.bool b)
def rjoinsF (chans : List AChan) (at_ : Int) : List Int → List Int → List Bool → Option (List Bool)
 | _, [], u => some u
 | pre, j :: r, u => bif (decide (0 ≤ j) && decide (j < Int.ofNat chans.length)) && ((chAt chans j).at_ == at_) && !pre.contains j then rjoinsF chans at_ (pre ++ [j]) r (u.set j.toNat true) else none
theorem rjoinsF_len {chans : List AChan} {at_ : Int} : ∀ (r pre : List Int) (u u' : List Bool), rjoinsF chans at_ pre r u = some u' → u'.length = u.length
 | [], _, u, u', h => by cases h; rfl
 | j :: r, pre, u, u', h => by
  rw [rjoinsF] at h
  cases c : ((decide (0 ≤ j) && decide (j < Int.ofNat chans.length)) && ((chAt chans j).at_ == at_) && !pre.contains j) with
  | false => rw [c] at h; cases h
  | true => rw [c] at h; exact (rjoinsF_len r _ _ _ h).trans (List.length_set ..)
variable {fl : Fl} (hfl : Tab fl)
include hfl
theorem dup_loop {jv y1 y2 : AVal} {r7 : Nat} {els post : List Int} {j : Int} {i : Nat} (k : List AItem) {Q : RR → Prop} {up : Chain} {m : Mem} (_hw : Wf m) (hr7 : Cel m r7 [y1, jv, y2]) (hsl : SlA m jv 1 (els.map icells)) : ∀ (rest pre : List Int) (b : T AVal), els = pre ++ (rest ++ post) → i = pre.length + rest.length → getT b 7 = .ptr r7 0 → getT b 8 = goI i → getT b 9 = iv j → getT b 10 = goI pre.length →
  (∀ (b' : T AVal), rest.contains j = false → (∀ x, x < 10 → getT b' x = getT b x) → Wp Tryz.prog fl (At ⟨25, 193, false, none⟩ k b' [] .run up m) Q) →
  (∀ (b' : T AVal), rest.contains j = true → getT b' 2 = .lit (.bool false) → Wp Tryz.prog fl (At ⟨25, 193, false, none⟩ [] b' [] .returning up m) Q) →
  Wp Tryz.prog fl (At ⟨25, 193, false, none⟩ (.code (cAt dupP (bodyF Tryz.f25)) :: .inLoop (cAt dupP (bodyF Tryz.f25)) :: .inBlock 8 :: k) (sets 193 b []) [] .run up m) Q := by
 have _ := hfl
 have cs := hsl.cell
 have ls := hsl.lenM
 obtain ⟨⟨ed, hdr⟩, fd⟩ := hr7
 intro rest
 induction rest with
 | nil =>
  intro pre b hsp hi k7 k8 k9 k10 hk hp
  have hlt : decide (Int.ofNat pre.length < Int.ofNat i) = false := by subst hi; simp
  refine gg ?_
  refine Wp.gen (fun b' eb => ?_)
  refine hk b' rfl (fun x hx => eqb eb ?_)
  rcases x with _ | _ | _ | _ | _ | _ | _ | _ | _ | _ | x
  all_goals first | exact e_base rfl rfl | omega
 | cons y rest ih =>
  intro pre b hsp hi k7 k8 k9 k10 hk hp
  have hlt : decide (Int.ofNat pre.length < Int.ofNat i) = true := by rw [decide_eq_true_eq, hi, List.length_cons]; show (pre.length : Int) < ((pre.length + (rest.length + 1) : Nat) : Int); omega
  have hsp' : els = pre ++ (y :: (rest ++ post)) := hsp
  have hln := hsl.lnT hsp'
  obtain ⟨r, off, c0, ex, row, hv, hlx, hr, htk⟩ := hsl.here hsp'
  have e : (y :: rest).contains j = ((j == y) || rest.contains j) := List.contains_cons
  rw [e] at hk hp
  subst hv
  refine gg ?_
  refine s_val rfl rfl rfl rfl (o_indexAddr v0 v0 ElF.h hlx) ?_
  refine s_val rfl rfl rfl rfl (o_loadRo1 v0 hr TyF.h TyF.z (by rw [Nat.mul_one] at htk ⊢; exact htk)) ?_
  by_cases c : y = j
  ·have c1 : (y == j) = true := by simpa using c
   refine gg ?_
   refine w_retAt rfl ?_
   refine Wp.gen (fun b' eb => ?_)
   exact hp b' (by rw [show (j == y) = true by simpa using c.symm]; rfl) (eqb eb v0)
  ·have c1 : (y == j) = false := by simpa using c
   refine gg ?_
   refine w_inLoop ?_
   refine Wp.gen (fun b' eb => ?_)
   rw [show (j == y) = false by simpa using fun h => c h.symm, Bool.false_or] at hk hp
   refine ih (pre ++ [y]) b' (by simp [hsp]) (by rw [List.length_append, hi, List.length_cons]; show _ = _ + 1 + _; omega) (eqb eb (e_base rfl k7)) (eqb eb (e_base rfl k8)) (eqb eb (e_base rfl k9)) (eqb eb ((e_hit rfl).trans (by rw [List.length_append]; rfl))) (fun b2 h1 h2 => hk b2 h1 (fun x hx => (h2 x hx).trans (eqb eb ?_))) hp
   rcases x with _ | _ | _ | _ | _ | _ | _ | _ | _ | _ | x
   all_goals first | exact e_base rfl rfl | omega
abbrev jnP : List Bool := [true, true, true, true, true, false, true, false, false, true, false, false, true, true, true, false, false]
theorem rjoins_loop {chans : List AChan} {cv sv rv jv y2 z6 : AVal} {d1 r7 u0 : Nat} {els : List Int} {at_ : Int} (hne : d1 ≠ u0 ∧ r7 ≠ u0) (k : List AItem) {Q : RR → Prop} {up : Chain} : ∀ (rest pre : List Int) (u : List Bool) {m : Mem} (b : T AVal), els = pre ++ rest → Wf m → Cel m d1 [cv, sv, rv] → Cel m r7 [iv at_, jv, y2] → Cel m u0 (u.map bv) → u.length = chans.length → SlA m cv 2 (chans.map AChan.cells) → SlA m jv 1 (els.map icells) → getT b 1 = .ptr d1 0 → getT b 5 = .slice u0 0 chans.length chans.length true → getT b 6 = z6 → getT b 7 = .ptr r7 0 → getT b 8 = goI pre.length →
  (∀ (m' : Mem) (b' : T AVal) (u' : List Bool), Kept (fun q => q = u0) m m' → rjoinsF chans at_ pre rest u = some u' → Cel m' u0 (u'.map bv) → getT b' 1 = .ptr d1 0 → getT b' 5 = .slice u0 0 chans.length chans.length true → getT b' 6 = z6 → Wp Tryz.prog fl (At ⟨25, 193, false, none⟩ k b' [] .run up m') Q) →
  (∀ (m' : Mem) (b' : T AVal), Kept (fun q => q = u0) m m' → rjoinsF chans at_ pre rest u = none → getT b' 2 = .lit (.bool false) → Wp Tryz.prog fl (At ⟨25, 193, false, none⟩ [] b' [] .returning up m') Q) →
  Wp Tryz.prog fl (At ⟨25, 193, false, none⟩ (.code (cAt jnP (bodyF Tryz.f25)) :: .inLoop (cAt jnP (bodyF Tryz.f25)) :: .inBlock 6 :: k) (sets 193 b []) [] .run up m) Q := by
 intro rest
 induction rest with
 | nil =>
  intro pre u m b hsp hw hd hr7 hu hul hcs hsl k1 k5 k6 k7 k8 hk hp
  have hlt : decide (Int.ofNat pre.length < Int.ofNat els.length) = false := by subst hsp; simp
  have cs := hsl.cell
  have ls := hsl.lenM
  obtain ⟨⟨e7, h7⟩, f7⟩ := hr7
  refine gg ?_
  refine Wp.gen (fun b' eb => ?_)
  exact hk _ b' u (Kept.refl hw) rfl hu (eqb eb (e_base rfl k1)) (eqb eb (e_base rfl k5)) (eqb eb (e_base rfl k6))
 | cons j rest ih =>
  intro pre u m b hsp hw hd hr7 hu hul hcs hsl k1 k5 k6 k7 k8 hk hp
  have hlt : decide (Int.ofNat pre.length < Int.ofNat els.length) = true := by subst hsp; simp; omega
  have hln := hsl.lnT hsp
  have cs := hsl.cell
  have ls := hsl.lenM
  have cc := hcs.cell
  have lc := hcs.lenM
  have hd0 := hd
  have hr70 := hr7
  obtain ⟨⟨ed, hdr⟩, fd⟩ := hd
  obtain ⟨⟨e7, h7⟩, f7⟩ := hr7
  obtain ⟨⟨eu, hur⟩, fu⟩ := hu
  have hsl0 := hsl
  obtain ⟨r, off, c0, ex, row, hv, hlx, hr, htk⟩ := hsl.here hsp
  have er : rjoinsF chans at_ pre (j :: rest) u = bif (decide (0 ≤ j) && decide (j < Int.ofNat chans.length)) && ((chAt chans j).at_ == at_) && !pre.contains j then rjoinsF chans at_ (pre ++ [j]) rest (u.set j.toNat true) else none := rfl
  rw [er] at hk hp
  subst hv
  refine gg ?_
  refine s_val rfl rfl rfl rfl (o_indexAddr v0 v0 ElF.h hlx) ?_
  refine s_val rfl rfl rfl rfl (o_loadRo1 v0 hr TyF.h TyF.z (by rw [Nat.mul_one] at htk ⊢; exact htk)) ?_
  refine gg ?_
  refine w_draw (.L 0 0 0 (.L 1 1 0 (.L 2 3 0 (.L 3 7 0 (.L 4 7 0 (.L 5 23 1 (.L 6 55 1 (.L 7 127 0 (.L 8 255 0 (.L 9 511 0 (.L 10 1023 0 (.L 11 2047 1 (.L 12 1023 0 (.L 13 8191 0 (.L 14 16383 0 (.L 15 32767 1 (.L 16 1023 0 (.L 17 66559 1 (.L 18 262143 0 (.L 19 524287 0 .fin)))))))))))))))))))) rfl (by kernel_rfl) ?_
  by_cases hin : 0 ≤ j ∧ j < Int.ofNat chans.length
  rotate_left
  ·have hfalse : (decide (0 ≤ j) && decide (j < Int.ofNat chans.length)) = false := by
    rw [← Bool.not_eq_true]
    simp only [Bool.and_eq_true, decide_eq_true_eq]
    exact hin
   rw [hfalse] at hp
   have hcs2 : decide (j < 0) = true ∨ (decide (j < 0) = false ∧ decide (j ≥ Int.ofNat chans.length) = true) := by
    by_cases h : j < 0
    ·exact .inl (by simpa using h)
    ·refine .inr ⟨by simpa using h, ?_⟩
     rw [decide_eq_true_eq]; omega
   rcases hcs2 with c1 | ⟨c1, c2⟩
   all_goals
    refine gg ?_
    refine w_retAt rfl ?_
    refine Wp.gen (fun b' eb => ?_)
    exact hp _ b' (Kept.refl hw) rfl (eqb eb v0)
  obtain ⟨i, rfl⟩ : ∃ i : Nat, j = Int.ofNat i := ⟨j.toNat, by show j = (j.toNat : Int); omega⟩
  have hi : i < chans.length := by have h : (i : Int) < (chans.length : Int) := hin.2; omega
  obtain ⟨rc, oc, cc1, ec1, rowc, hvc, hrc, htc⟩ := ch_at hcs hi
  obtain ⟨ht0, ht1⟩ := take_two htc
  have htrue : (decide (0 ≤ Int.ofNat i) && decide (Int.ofNat i < Int.ofNat chans.length)) = true := by
   simp only [Bool.and_eq_true, decide_eq_true_eq]
   exact hin
  rw [htrue] at hk hp
  have c1 : decide (Int.ofNat i < 0) = false := by rw [decide_eq_false_iff_not]; omega
  have c2 : decide (Int.ofNat i ≥ Int.ofNat chans.length) = false := by rw [decide_eq_false_iff_not]; omega
  subst hvc
  by_cases ha : (chAt chans (Int.ofNat i)).at_ = at_
  rotate_left
  ·have c3 : ((chAt chans (Int.ofNat i)).at_ != at_) = true := by simpa using ha
   have c3' : ((chAt chans (Int.ofNat i)).at_ == at_) = false := by simpa using ha
   rw [c3'] at hp
   refine gg ?_
   refine d_light0 rfl rfl (gT rfl ⟨v0⟩ (by assumption)).h rfl (o_indexAddr v0 v0 ElF.h hi) ?_
   refine gg ?_
   refine d_light1 rfl rfl (gT rfl ⟨v0⟩ (by assumption)).h rfl (o_loadRo1 v0 hrc TyF.h TyF.z ht0) ?_
   refine gg ?_
   refine w_retAt rfl ?_
   refine Wp.gen (fun b' eb => ?_)
   exact hp _ b' (Kept.refl hw) rfl (eqb eb v0)
  have c3 : ((chAt chans (Int.ofNat i)).at_ != at_) = false := by simpa using ha
  have c3' : ((chAt chans (Int.ofNat i)).at_ == at_) = true := by simpa using ha
  rw [c3'] at hk hp
  refine gg ?_
  refine d_light0 rfl rfl (gT rfl ⟨v0⟩ (by assumption)).h rfl (o_indexAddr v0 v0 ElF.h hi) ?_
  refine gg ?_
  refine d_light1 rfl rfl (gT rfl ⟨v0⟩ (by assumption)).h rfl (o_loadRo1 v0 hrc TyF.h TyF.z ht0) ?_
  refine gg ?_
  refine w_loop ?_
  refine Wp.gen (fun b2 eb => ?_)
  have y1 : getT b2 1 = .ptr d1 0 := eqb eb (e_base rfl k1)
  have y5 : getT b2 5 = .slice u0 0 chans.length chans.length true := eqb eb (e_base rfl k5)
  have y6 : getT b2 6 = z6 := eqb eb (e_base rfl k6)
  have y7 : getT b2 7 = .ptr r7 0 := eqb eb (e_base rfl k7)
  have y8 : getT b2 8 = goI pre.length := eqb eb (e_base rfl k8)
  have y9 : getT b2 9 = iv (Int.ofNat i) := eqb eb v0
  change Wp Tryz.prog fl (At _ _ (sets 193 b2 []) _ _ _ _) _
  refine dup_loop hfl (els := els) (post := Int.ofNat i :: rest) (j := Int.ofNat i) (i := pre.length) _ hw hr70 hsl0 pre [] b2 hsp (by simp) y7 y8 y9 (eqb eb v0) (fun b3 hc hb3 => ?_) (fun b3 hc e2 => ?_)
  rotate_left
  ·rw [hc] at hp
   exact hp _ b3 (Kept.refl hw) rfl e2
  rw [hc] at hk hp
  have y1 := (hb3 1 (by omega)).trans y1
  have y5 := (hb3 5 (by omega)).trans y5
  have y6 := (hb3 6 (by omega)).trans y6
  have y7 := (hb3 7 (by omega)).trans y7
  have y8 := (hb3 8 (by omega)).trans y8
  have y9 := (hb3 9 (by omega)).trans y9
  have hiu : i < (u.map bv).length := by rw [List.length_map, hul]; exact hi
  have eset : (u.map bv).set i (bv true) = (u.set (Int.ofNat i).toNat true).map bv := by rw [List.map_set]; rfl
  change Wp Tryz.prog fl (At _ _ (sets 193 b3 []) _ _ _ _) _
  refine gg ?_
  refine s_val rfl rfl rfl rfl (o_indexAddr v0 v0 ElF.h hi) ?_
  have K : Kept (fun q => m.next ≤ q ∨ (fun q => q = u0) q) m m := Kept.refl hw
  refine s_put0 rfl rfl rfl (o_store (v := bv true) (cells' := (u.map bv).set i (bv true)) rfl v0 hur fu TyF.z rfl rfl rfl (by rw [show 0 + i * 1 = i by omega]; exact put_set _ _ hiu)) (fun m1 g => ?_)
  have K := K.w g hur (fun _ h => by cases h) (Or.inr rfl)
  have hu1 : Cel m1 u0 ((u.set (Int.ofNat i).toNat true).map bv) := by rw [← eset]; exact Cel.of g.same ((g.famo u0).trans fu)
  refine gg ?_
  refine w_inLoop ?_
  refine Wp.gen (fun b4 eb4 => ?_)
  have ko := K.out
  exact ih (pre ++ [Int.ofNat i]) _ b4 (by simp [hsp]) K.wf (hd0.kept ko (hd0.lt hw) (by omega)) (hr70.kept ko (hr70.lt hw) (by omega)) hu1 ((List.length_set ..).trans hul) (hcs.kept ko) (hsl0.kept ko) (eqb eb4 (e_base rfl y1)) (eqb eb4 (e_base rfl y5)) (eqb eb4 (e_base rfl y6)) (eqb eb4 (e_base rfl y7)) (eqb eb4 ((e_hit rfl).trans (by rw [List.length_append]; rfl))) (fun m' b' u' k h => hk m' b' u' (ko.trans k) h) (fun m' b' k h => hp m' b' (ko.trans k) h)
end
noncomputable section
def ruleB (ns : Nat) (r : ARule) : Bool := (decide (0 ≤ r.at_) && decide (r.at_ ≤ Int.ofNat ns)) && (decide (1 ≤ Int.ofNat r.joins.length) && decide (Int.ofNat r.joins.length ≤ 3))
def rrulesF (ns : Nat) (chans : List AChan) : List ARule → List Bool → Option (List Bool)
 | [], u => some u
 | r :: l, u => bif ruleB ns r then (match rjoinsF chans r.at_ [] r.joins u with
  | some u' => rrulesF ns chans l u'
  | none => none) else none
theorem rrulesF_len {ns : Nat} {chans : List AChan} : ∀ (l : List ARule) (u u' : List Bool), rrulesF ns chans l u = some u' → u'.length = u.length
 | [], u, u', h => by cases h; rfl
 | r :: l, u, u', h => by
  rw [rrulesF] at h
  cases c : ruleB ns r with
  | false => rw [c] at h; cases h
  | true =>
   rw [c] at h
   cases e : rjoinsF chans r.at_ [] r.joins u with
   | none => rw [e] at h; cases h
   | some u1 => rw [e] at h; exact (rrulesF_len l _ _ h).trans (rjoinsF_len _ _ _ _ e)
abbrev ruP : List Bool := [true, true, true, true, true, false, true, false, false]
variable {fl : Fl} (hfl : Tab fl)
include hfl
theorem rrules_loop {chans : List AChan} {spots : List ASpot} {cv sv rv : AVal} {d1 u0 : Nat} {els : List ARule} (hne : d1 ≠ u0) (k : List AItem) {Q : RR → Prop} {up : Chain} : ∀ (rest pre : List ARule) (u : List Bool) {m : Mem} (b : T AVal), els = pre ++ rest → Wf m → Cel m d1 [cv, sv, rv] → Cel m u0 (u.map bv) → u.length = chans.length → SlA m cv 2 (chans.map AChan.cells) → SlA m sv 2 (spots.map ASpot.cells) → SlA m rv 3 (els.map ARule.cells) → (∀ r, r ∈ els → r.OK m) → getT b 1 = .ptr d1 0 → getT b 5 = .slice u0 0 chans.length chans.length true → getT b 6 = goI pre.length →
  (∀ (m' : Mem) (b' : T AVal) (u' : List Bool), Kept (fun q => q = u0) m m' → rrulesF spots.length chans rest u = some u' → Cel m' u0 (u'.map bv) → getT b' 5 = .slice u0 0 chans.length chans.length true → Wp Tryz.prog fl (At ⟨25, 193, false, none⟩ k b' [] .run up m') Q) →
  (∀ (m' : Mem) (b' : T AVal), Kept (fun q => q = u0) m m' → rrulesF spots.length chans rest u = none → getT b' 2 = .lit (.bool false) → Wp Tryz.prog fl (At ⟨25, 193, false, none⟩ [] b' [] .returning up m') Q) →
  Wp Tryz.prog fl (At ⟨25, 193, false, none⟩ (.code (cAt ruP (bodyF Tryz.f25)) :: .inLoop (cAt ruP (bodyF Tryz.f25)) :: .inBlock 4 :: k) (sets 193 b []) [] .run up m) Q := by
 intro rest
 induction rest with
 | nil =>
  intro pre u m b hsp hw hd hu hul hcs hss hrl hro k1 k5 k6 hk hp
  have hlt : decide (Int.ofNat pre.length < Int.ofNat els.length) = false := by subst hsp; simp
  have cs := hrl.cell
  have ls := hrl.lenM
  obtain ⟨⟨ed, hdr⟩, fd⟩ := hd
  refine gg ?_
  refine Wp.gen (fun b' eb => ?_)
  exact hk _ b' u (Kept.refl hw) rfl hu (eqb eb (e_base rfl k5))
 | cons y rest ih =>
  intro pre u m b hsp hw hd hu hul hcs hss hrl hro k1 k5 k6 hk hp
  have hlt : decide (Int.ofNat pre.length < Int.ofNat els.length) = true := by subst hsp; simp; omega
  have hln := hrl.lnT hsp
  have cs := hss.cell
  have ls := hss.lenM
  have cr := hrl.cell
  have lr := hrl.lenM
  have hd0 := hd
  have hu0 := hu
  have ld := hd.lt hw
  have lu := hu.lt hw
  have hy : y.OK m := hro y (by rw [hsp]; simp)
  obtain ⟨⟨ed, hdr⟩, fd⟩ := hd
  have hrl0 := hrl
  obtain ⟨r, off, c0, ex, row, hv, hlx, hr, htk⟩ := hrl.here hsp
  obtain ⟨at_, jv, joins, node⟩ := y
  have hsl : SlA m jv 1 (joins.map icells) := hy
  have cj := hsl.cell
  have lj := hsl.lenM
  have htk : takeN 3 (dropN row (off + pre.length * 3)) = some [iv at_, jv, iv node] := htk
  have ac : allCells [iv at_, jv, iv node] = true := ac1 rfl (ac1 cj (ac1 rfl rfl))
  have er : rrulesF spots.length chans (⟨at_, jv, joins, node⟩ :: rest) u = bif ruleB spots.length ⟨at_, jv, joins, node⟩ then (match rjoinsF chans at_ [] joins u with
   | some u' => rrulesF spots.length chans rest u'
   | none => none) else none := rfl
  rw [er] at hk hp
  have K : Kept (fun q => m.next ≤ q ∨ (fun q => q = u0) q) m m := Kept.refl hw
  refine gg ?_
  refine s_val rfl rfl rfl rfl (o_indexAddr ((e_hit rfl).trans hv) v0 ElF.h hlx) ?_
  refine s_val rfl rfl rfl rfl (o_loadRoA v0 hr (TyF.h (s := _)) (TyF.z (g := true)) htk) ?_
  refine gg ?_
  refine s_new rfl rfl rfl rfl (o_alloc ZcF.h) (fun m1 g => ?_)
  have n1 := g.next
  have h := g.same
  have f := g.fam0 K.wf
  have K := K.g g
  have hdr := (g.other d1 (by omega)).trans hdr
  refine gg ?_
  refine s_put0 rfl rfl rfl (o_store (v := .agg [iv at_, jv, iv node]) v0 v0 h f TyF.z rfl rfl ac rfl) (fun m2 g2 => ?_)
  have K := K.w g2 h (fun _ h => by cases h) (Or.inl (by omega))
  have n2 := g2.next
  have f := (g2.famo m.next).trans f
  have hdr := (g2.other d1 (by omega)).trans hdr
  have h : m2.heap.get m.next = some (.row (120, 0) [iv at_, jv, iv node] m.next 0) := g2.same
  have cases5 : decide (at_ < 0) = true ∨ (decide (at_ < 0) = false ∧ decide (at_ > Int.ofNat spots.length) = true) ∨ (decide (at_ < 0) = false ∧ decide (at_ > Int.ofNat spots.length) = false ∧ decide (Int.ofNat joins.length < 1) = true) ∨ (decide (at_ < 0) = false ∧ decide (at_ > Int.ofNat spots.length) = false ∧ decide (Int.ofNat joins.length < 1) = false ∧ decide (Int.ofNat joins.length > 3) = true) ∨ (decide (at_ < 0) = false ∧ decide (at_ > Int.ofNat spots.length) = false ∧ decide (Int.ofNat joins.length < 1) = false ∧ decide (Int.ofNat joins.length > 3) = false) := by
   cases decide (at_ < 0) <;> cases decide (at_ > Int.ofNat spots.length) <;> cases decide (Int.ofNat joins.length < 1) <;> cases decide (Int.ofNat joins.length > 3) <;> simp
  rcases cases5 with c1 | ⟨c1, c2⟩ | ⟨c1, c2, c3⟩ | ⟨c1, c2, c3, c4⟩ | ⟨c1, c2, c3, c4⟩
  all_goals refine gg ?_
  rotate_right
  ·have cb : ruleB spots.length ⟨at_, jv, joins, node⟩ = true := by
    simp only [decide_eq_false_iff_not] at c1 c2 c3 c4
    unfold ruleB
    simp only [Bool.and_eq_true, decide_eq_true_eq]
    omega
   rw [cb] at hk hp
   refine w_loop ?_
   refine Wp.gen (fun b2 eb => ?_)
   have ko := K.out
   have y1 : getT b2 1 = .ptr d1 0 := eqb eb (e_base rfl k1)
   have y5 : getT b2 5 = .slice u0 0 chans.length chans.length true := eqb eb (e_base rfl k5)
   have y6 : getT b2 6 = goI pre.length := eqb eb (e_base rfl k6)
   change Wp Tryz.prog fl (At _ _ (sets 193 b2 []) _ _ _ _) _
   have hd2 := hd0.kept ko ld (by omega)
   have hu2 : Cel m2 u0 (u.map bv) := by
    obtain ⟨⟨eu, hur⟩, fu⟩ := hu0
    exact Cel.of ((g2.other u0 (by omega)).trans ((g.other u0 (by omega)).trans hur)) ((g2.famo u0).trans ((g.famo u0).trans fu))
   refine rjoins_loop hfl (at_ := at_) ⟨by omega, by omega⟩ _ joins [] u b2 rfl K.wf hd2 (Cel.of h f) hu2 hul (hcs.kept ko) (hsl.kept ko) y1 y5 y6 (eqb eb v0) (eqb eb v0) (fun m3 b3 u' k3 e3 hu3 z1 z5 z6 => ?_) (fun m3 b3 k3 e3 z2 => ?_)
   rotate_left
   ·rw [e3] at hp
    exact hp _ b3 (ko.trans k3) rfl z2
   rw [e3] at hk hp
   have k03 := ko.trans k3
   change Wp Tryz.prog fl (At _ _ (sets 193 b3 []) _ _ _ _) _
   refine gg ?_
   refine w_inLoop ?_
   refine Wp.gen (fun b4 eb4 => ?_)
   exact ih (pre ++ [⟨at_, jv, joins, node⟩]) u' b4 (by simp [hsp]) k3.wf (hd0.kept k03 ld (by omega)) hu3 ((rjoinsF_len _ _ _ _ e3).trans hul) (hcs.kept k03) (hss.kept k03) (hrl0.kept k03) (fun r hr => (hro r hr).kept k03) (eqb eb4 (e_base rfl z1)) (eqb eb4 (e_base rfl z5)) (eqb eb4 ((e_hit rfl).trans (by rw [List.length_append]; rfl))) (fun m' b' u' k h => hk m' b' u' (k03.trans k) h) (fun m' b' k h => hp m' b' (k03.trans k) h)
  all_goals
   refine w_retAt rfl ?_
   refine Wp.gen (fun b' eb => ?_)
   have cb : ruleB spots.length ⟨at_, jv, joins, node⟩ = false := by
    simp only [decide_eq_true_eq, decide_eq_false_iff_not] at *
    rw [← Bool.not_eq_true]
    unfold ruleB
    simp only [Bool.and_eq_true, decide_eq_true_eq]
    omega
   rw [cb] at hp
   exact hp _ b' K.out rfl (eqb eb v0)
end
noncomputable section
def usedB : Option (List Bool) → Bool
 | some u => u.all id
 | none => false
def lenB (d : ADf) : Bool := (decide (Int.ofNat d.chans.length ≤ 30) && decide (Int.ofNat d.spots.length ≤ 30)) && decide (Int.ofNat d.rules.length ≤ 30)
def rdefB (d : ADf) : Bool := lenB d && (d.chans.all (chB d.spots.length) && (spotsF 0 d.spots && usedB (rrulesF d.spots.length d.chans d.rules (List.replicate d.chans.length false))))
abbrev usP : List Bool := [true, true, true, true, true, true, false, true, false, false]
variable {fl : Fl} (hfl : Tab fl)
include hfl
theorem used_loop {u0 n : Nat} {els : List Bool} (hn : els.length = n) (k : List AItem) {Q : RR → Prop} {up : Chain} {m : Mem} (hu : Cel m u0 (els.map bv)) : ∀ (rest pre : List Bool) (b : T AVal), els = pre ++ rest → pre.length < 1000000 → els.length < 1000000 → getT b 5 = .slice u0 0 n n true → getT b 11 = goI pre.length →
  (∀ (b' : T AVal), rest.all id = true → Wp Tryz.prog fl (At ⟨25, 193, false, none⟩ k b' [] .run up m) Q) →
  (∀ (b' : T AVal), rest.all id = false → getT b' 2 = .lit (.bool false) → Wp Tryz.prog fl (At ⟨25, 193, false, none⟩ [] b' [] .returning up m) Q) →
  Wp Tryz.prog fl (At ⟨25, 193, false, none⟩ (.code (cAt usP (bodyF Tryz.f25)) :: .inLoop (cAt usP (bodyF Tryz.f25)) :: .inBlock 10 :: k) (sets 193 b []) [] .run up m) Q := by
 have _ := hfl
 obtain ⟨⟨eu, hur⟩, fu⟩ := hu
 have hls : ∀ m', lenSl m' (.slice u0 0 n n true) = .val (goI n) m' := fun _ => rfl
 intro rest
 induction rest with
 | nil =>
  intro pre b hsp hpl hel k5 k11 hk hp
  have hlt : decide (Int.ofNat pre.length < Int.ofNat n) = false := by subst hsp; subst hn; simp
  refine gg ?_
  refine Wp.gen (fun b' eb => ?_)
  exact hk b' rfl
 | cons y rest ih =>
  intro pre b hsp hpl hel k5 k11 hk hp
  have hlt : decide (Int.ofNat pre.length < Int.ofNat n) = true := by subst hsp; subst hn; simp; omega
  have hln : pre.length + 1 < 2 ^ 62 := by omega
  have hln2 : pre.length < n := by rw [← hn, hsp]; simp
  have hg : getO (els.map bv) (0 + pre.length * 1) = some (bv y) := by
   rw [show 0 + pre.length * 1 = pre.length by omega, getO_eq, hsp, List.getElem?_map, List.getElem?_append_right (Nat.le_refl _), Nat.sub_self]; rfl
  have e : (y :: rest).all id = (y && rest.all id) := rfl
  rw [e] at hk hp
  refine gg ?_
  refine s_val rfl rfl rfl rfl (o_indexAddr v0 v0 ElF.h hln2) ?_
  refine s_val rfl rfl rfl rfl (o_loadRow v0 hur TyF.h TyF.z hg rfl) ?_
  cases y with
  | true =>
   refine gg ?_
   refine w_inLoop ?_
   refine Wp.gen (fun b' eb => ?_)
   exact ih (pre ++ [true]) b' (by simp [hsp]) (by rw [List.length_append, List.length_singleton]; rw [hsp, List.length_append, List.length_cons] at hel; omega) hel (eqb eb (e_base rfl k5)) (eqb eb ((e_hit rfl).trans (by rw [List.length_append]; rfl))) hk hp
  | false =>
   refine gg ?_
   refine w_retAt rfl ?_
   refine Wp.gen (fun b' eb => ?_)
   exact hp b' rfl (eqb eb v0)
theorem rdef_ok {m : Mem} {d : ADf} (hd : d.OK m) (hw : Wf m) : CallQ Tryz.prog fl 25 [.agg d.cells] m (Rets noS m (.lit (.bool (rdefB d)))) := by
 obtain ⟨cv, sv, rv, chans, spots, rules⟩ := d
 have hcs : SlA m cv 2 (chans.map AChan.cells) := hd.c
 have hss : SlA m sv 2 (spots.map ASpot.cells) := hd.s
 have hrl : SlA m rv 3 (rules.map ARule.cells) := hd.r
 have hro : ∀ r, r ∈ rules → r.OK m := hd.j
 have cc := hcs.cell
 have cs := hss.cell
 have cr := hrl.cell
 have lc := hcs.lenM
 have ls := hss.lenM
 have lr := hrl.lenM
 show CallQ Tryz.prog fl 25 [.agg [cv, sv, rv]] m (Rets noS m (.lit (.bool (rdefB ⟨cv, sv, rv, chans, spots, rules⟩))))
 have eD : rdefB ⟨cv, sv, rv, chans, spots, rules⟩ = (((decide (Int.ofNat chans.length ≤ 30) && decide (Int.ofNat spots.length ≤ 30)) && decide (Int.ofNat rules.length ≤ 30)) && (chans.all (chB spots.length) && (spotsF 0 spots && usedB (rrulesF spots.length chans rules (List.replicate chans.length false))))) := rfl
 rw [eD]
 refine hfl.start (by decide) 193 Tryz.func25 rfl rfl (Nat.le_of_ble_eq_true rfl) ?_
 intro bs hb
 have ar0 := hb 0 _ rfl
 clear hb
 have K : Kept (fun q => m.next ≤ q ∨ noS q) m m := Kept.refl hw
 refine gg ?_
 refine s_new rfl rfl rfl rfl (o_box (e_base rfl ar0) rfl) (fun m1 g => ?_)
 have n1 := g.next
 have h1 := g.same
 have f1 := g.fam0 K.wf
 have K := K.g g
 have no : ∀ {mX : Mem} {bX : T AVal}, Kept (fun q => m.next ≤ q ∨ noS q) m mX → getT bX 2 = .lit (.bool false) → Wp Tryz.prog fl (At ⟨25, 193, false, none⟩ [] bX [] .returning [] mX) (Rets noS m (.lit (.bool false))) := by
  intro mX bX K e
  refine w_results Tryz.func25 (rv1 e) ?_
  exact ⟨_, _, rfl, K.out⟩
 have cases4 : decide (Int.ofNat chans.length > 30) = true ∨ (decide (Int.ofNat chans.length > 30) = false ∧ decide (Int.ofNat spots.length > 30) = true) ∨ (decide (Int.ofNat chans.length > 30) = false ∧ decide (Int.ofNat spots.length > 30) = false ∧ decide (Int.ofNat rules.length > 30) = true) ∨ (decide (Int.ofNat chans.length > 30) = false ∧ decide (Int.ofNat spots.length > 30) = false ∧ decide (Int.ofNat rules.length > 30) = false) := by
  cases decide (Int.ofNat chans.length > 30) <;> cases decide (Int.ofNat spots.length > 30) <;> cases decide (Int.ofNat rules.length > 30) <;> simp
 rcases cases4 with c1 | ⟨c1, c2⟩ | ⟨c1, c2, c3⟩ | ⟨c1, c2, c3⟩
 all_goals refine gg ?_
 rotate_right
 ·have cb : ((decide (Int.ofNat chans.length ≤ 30) && decide (Int.ofNat spots.length ≤ 30)) && decide (Int.ofNat rules.length ≤ 30)) = true := by
   simp only [decide_eq_false_iff_not] at c1 c2 c3
   simp only [Bool.and_eq_true, decide_eq_true_eq]
   omega
  have hn1 : chans.length ≤ 30 := by
   simp only [decide_eq_false_iff_not] at c1
   have h : ¬ ((chans.length : Int) > 30) := c1
   omega
  rw [cb, Bool.true_and]
  refine w_loop ?_
  refine Wp.gen (fun b1 eb => ?_)
  have ko := K.out
  have x1 : getT b1 1 = .ptr m.next 0 := eqb eb v0
  have x3 : getT b1 3 = goI 0 := eqb eb v0
  change Wp Tryz.prog fl (At _ _ (sets 193 b1 []) _ _ _ _) _
  refine rchans_loop hfl (els := chans) (spots := spots) _ K.wf (Cel.of h1 f1) (hcs.kept ko) (hss.kept ko) chans [] b1 rfl x1 x3 (fun b2 e2 x1 => ?_) (fun b2 e2 x2 => ?_)
  rotate_left
  ·rw [e2]; exact no K x2
  rw [e2, Bool.true_and]
  change Wp Tryz.prog fl (At _ _ (sets 193 b2 []) _ _ _ _) _
  refine gg ?_
  refine w_loop ?_
  refine Wp.gen (fun b3 eb => ?_)
  have x1 : getT b3 1 = .ptr m.next 0 := eqb eb (e_base rfl x1)
  have x4 : getT b3 4 = goI 0 := eqb eb v0
  change Wp Tryz.prog fl (At _ _ (sets 193 b3 []) _ _ _ _) _
  refine rspots_loop hfl (els := spots) _ K.wf (Cel.of h1 f1) (hss.kept ko) spots [] b3 rfl x1 x4 (fun b4 e4 x1 => ?_) (fun b4 e4 x2 => ?_)
  rotate_left
  ·rw [show spotsF 0 spots = false from e4]; exact no K x2
  rw [show spotsF 0 spots = true from e4, Bool.true_and]
  change Wp Tryz.prog fl (At _ _ (sets 193 b4 []) _ _ _ _) _
  have h1 : m1.heap.get m.next = some (.row (66, 0) [cv, sv, rv] m.next 0) := h1
  refine gg ?_
  refine s_new rfl rfl rfl rfl (o_makeSl hfl (n := chans.length) (z := bv false) v0 v0 ElF.h ZcF.h (by kernel_rfl) (by omega)) (fun m2 g => ?_)
  have n2 := g.next
  have hu := g.same
  have fu := g.fam0 K.wf
  have h1 := (g.other m.next (by omega)).trans h1
  have f1 := (g.famo m.next).trans f1
  have K := K.g g
  refine gg ?_
  refine w_loop ?_
  refine Wp.gen (fun b5 eb => ?_)
  have ko := K.out
  have x1 : getT b5 1 = .ptr m.next 0 := eqb eb (e_base rfl x1)
  have x5 : getT b5 5 = .slice m1.next 0 chans.length chans.length true := eqb eb v0
  have x6 : getT b5 6 = goI 0 := eqb eb v0
  change Wp Tryz.prog fl (At _ _ (sets 193 b5 []) _ _ _ _) _
  have hu' : Cel m2 m1.next ((List.replicate chans.length false).map bv) := by rw [List.map_replicate]; exact Cel.of hu fu
  refine rrules_loop hfl (els := rules) (chans := chans) (spots := spots) (u0 := m1.next) (d1 := m.next) (by omega) _ rules [] (List.replicate chans.length false) b5 rfl K.wf (Cel.of h1 f1) hu' List.length_replicate (hcs.kept ko) (hss.kept ko) (hrl.kept ko) (fun r hr => (hro r hr).kept ko) x1 x5 x6 (fun m3 b6 u' k3 e3 hu3 x5 => ?_) (fun m3 b6 k3 e3 x2 => ?_)
  rotate_left
  ·rw [e3]; exact no (K.k k3 (fun q h => Or.inl (by omega))) x2
  rw [e3]
  have K3 := K.k k3 (fun q h => Or.inl (by omega))
  have hul : u'.length = chans.length := (rrulesF_len _ _ _ e3).trans List.length_replicate
  change Wp Tryz.prog fl (At _ _ (sets 193 b6 []) _ _ _ _) _
  refine gg ?_
  refine w_loop ?_
  refine Wp.gen (fun b7 eb => ?_)
  have x5 : getT b7 5 = .slice m1.next 0 chans.length chans.length true := eqb eb (e_base rfl x5)
  have x11 : getT b7 11 = goI 0 := eqb eb v0
  change Wp Tryz.prog fl (At _ _ (sets 193 b7 []) _ _ _ _) _
  refine used_loop hfl (els := u') hul _ hu3 u' [] b7 rfl (by decide) (by omega) x5 x11 (fun b8 e8 => ?_) (fun b8 e8 x2 => ?_)
  rotate_left
  ·rw [show usedB (some u') = false from e8]; exact no K3 x2
  rw [show usedB (some u') = true from e8]
  change Wp Tryz.prog fl (At _ _ (sets 193 b8 []) _ _ _ _) _
  refine gg ?_
  refine w_retAt rfl ?_
  refine w_results Tryz.func25 (rv1 v0) ?_
  exact ⟨_, _, rfl, K3.out⟩
 all_goals
  refine w_retAt rfl ?_
  refine Wp.gen (fun b' eb => ?_)
  have cb : ((decide (Int.ofNat chans.length ≤ 30) && decide (Int.ofNat spots.length ≤ 30)) && decide (Int.ofNat rules.length ≤ 30)) = false := by
   simp only [decide_eq_true_eq, decide_eq_false_iff_not] at *
   rw [← Bool.not_eq_true]
   simp only [Bool.and_eq_true, decide_eq_true_eq]
   omega
  rw [cb]
  exact no K (eqb eb v0)
end
noncomputable section
structure SameSet (n : Nat) (s : SI) (u : List Bool) : Prop where
 len : u.length = n
 at_ : ∀ (i : Nat) (h : i < u.length), inI (Int.ofNat i) s.1 = u[i]
 cnt : s.1.length = u.count true
theorem SameSet.put {n : Nat} {s : SI} {u : List Bool} (h : SameSet n s u) {j : Nat} (hj : j < n) : SameSet n (putI (Int.ofNat j) s) (u.set j true) := by
 have hju : j < u.length := by rw [h.len]; exact hj
 have hat := h.at_ j hju
 refine ⟨by rw [List.length_set, h.len], ?_, ?_⟩
 ·intro i hi
  rw [List.length_set] at hi
  show inI (Int.ofNat i) (addI (Int.ofNat j) _ s.1 s.2) = _
  rw [inI_add, List.getElem_set, h.at_ i hi]
  by_cases e : j = i
  ·subst e; simp
  ·rw [if_neg e]
   have : (Int.ofNat i == Int.ofNat j) = false := by
    rw [beq_eq_false_iff_ne]
    intro h
    exact e (Int.ofNat.inj h).symm
   rw [this, Bool.or_false]
 ·show (addI (Int.ofNat j) _ s.1 s.2).length = _
  rw [List.count_set hju]
  unfold addI
  unfold inI at hat
  cases hf : findI (Int.ofNat j) s.1 with
  | some v =>
   rw [hf] at hat
   have hu : u[j] = true := hat.symm
   have hpos : 0 < u.count true := List.count_pos_iff.2 (hu ▸ List.getElem_mem hju)
   rw [hu]
   show s.1.length = u.count true - 1 + 1
   rw [h.cnt]; omega
  | none =>
   rw [hf] at hat
   have hu : u[j] = false := hat.symm
   rw [hu]
   show (s.1 ++ [_]).length = u.count true - 0 + 1
   rw [List.length_append, h.cnt]; rfl
theorem SameSet.start (n : Nat) : SameSet n ([], 0) (List.replicate n false) :=
 ⟨List.length_replicate, fun i h => by rw [List.getElem_replicate]; rfl, by rw [List.count_replicate]; rfl⟩
theorem SameSet.full {n : Nat} {s : SI} {u : List Bool} (h : SameSet n s u) : (Int.ofNat s.1.length == Int.ofNat n) = u.all id := by
 have key : u.all id = true ↔ s.1.length = n := by
  rw [h.cnt, ← h.len, List.count_eq_length, List.all_eq_true]
  exact ⟨fun h b hb => (h b hb).symm, fun h b hb => (h b hb).symm⟩
 cases e : u.all id with
 | true => rw [key.1 e]; simp
 | false =>
  rw [beq_eq_false_iff_ne]
  intro h'
  have : u.all id = true := key.2 (Int.ofNat.inj h')
  rw [e] at this; cases this
theorem joins_same {chans : List AChan} {at_ : Int} : ∀ (r pre : List Int) (s : SI) (u : List Bool), (∀ j, inI j s.1 = pre.contains j) → (joinsF chans at_ r s).isSome = (rjoinsF chans at_ pre r u).isSome
 | [], _, _, _, _ => rfl
 | j :: r, pre, s, u, h => by
  rw [joinsF, rjoinsF]
  have e : joinB chans at_ j s.1 = ((decide (0 ≤ j) && decide (j < Int.ofNat chans.length)) && ((chAt chans j).at_ == at_) && !pre.contains j) := by
   unfold joinB
   rw [h j]
   have e1 : decide (j ≤ Int.ofNat chans.length - 1) = decide (j < Int.ofNat chans.length) := by
    rw [decide_eq_decide]; omega
   rw [e1]
   cases decide (0 ≤ j) <;> cases decide (j < Int.ofNat chans.length) <;> cases ((chAt chans j).at_ == at_) <;> cases pre.contains j <;> rfl
  rw [← e]
  cases c : joinB chans at_ j s.1 with
  | false => rfl
  | true =>
   refine joins_same r (pre ++ [j]) (putI j s) _ (fun i => ?_)
   show inI i (addI j _ s.1 s.2) = _
   rw [inI_add, h i, List.contains_eq_any_beq, List.contains_eq_any_beq, List.any_append, List.any_cons, List.any_nil, Bool.or_false]
theorem rjoins_put {chans : List AChan} {at_ : Int} : ∀ (r pre : List Int) (u u' : List Bool), rjoinsF chans at_ pre r u = some u' → ∀ {n : Nat} {s : SI}, n = chans.length → SameSet n s u → SameSet n (r.foldl (fun s j => putI j s) s) u'
 | [], _, u, u', h, n, s, hn, hs => by cases h; exact hs
 | j :: r, pre, u, u', h, n, s, hn, hs => by
  rw [rjoinsF] at h
  cases c : ((decide (0 ≤ j) && decide (j < Int.ofNat chans.length)) && ((chAt chans j).at_ == at_) && !pre.contains j) with
  | false => rw [c] at h; cases h
  | true =>
   rw [c] at h
   simp only [Bool.and_eq_true, decide_eq_true_eq] at c
   obtain ⟨i, rfl⟩ : ∃ i : Nat, j = Int.ofNat i := ⟨j.toNat, by show j = (j.toNat : Int); omega⟩
   have hi : i < n := by
    have h2 : (i : Int) < (chans.length : Int) := c.1.1.2
    omega
   exact rjoins_put r _ _ _ h hn (hs.put hi)
theorem rjoins_at {chans : List AChan} {at_ : Int} {ns : Nat} (hc : chans.all (chB ns) = true) {r : List Int} {u u' : List Bool} (hr : 1 ≤ Int.ofNat r.length) (h : rjoinsF chans at_ [] r u = some u') : 0 ≤ at_ ∧ at_ ≤ Int.ofNat ns := by
 cases r with
 | nil => exact absurd hr (by decide)
 | cons j r =>
  rw [rjoinsF] at h
  cases c : ((decide (0 ≤ j) && decide (j < Int.ofNat chans.length)) && ((chAt chans j).at_ == at_) && !([] : List Int).contains j) with
  | false => rw [c] at h; cases h
  | true =>
   simp only [Bool.and_eq_true, decide_eq_true_eq, beq_iff_eq] at c
   have hm := chAt_mem c.1.1.1 c.1.1.2
   have hb := List.all_eq_true.1 hc _ hm
   unfold chB at hb
   simp only [Bool.and_eq_true, decide_eq_true_eq] at hb
   rw [← c.1.2]
   exact hb.1
theorem rules_same {chans : List AChan} {ns : Nat} (hc : chans.all (chB ns) = true) : ∀ (l : List ARule) (s : SI) (u : List Bool), SameSet chans.length s u → endB chans (rulesF chans l s) = usedB (rrulesF ns chans l u)
 | [], s, u, h => h.full
 | r :: l, s, u, h => by
  rw [rulesF, rrulesF]
  have hj := joins_same (chans := chans) (at_ := r.at_) r.joins [] ([], 0) u (fun j => rfl)
  have e : joinsB chans r.at_ r.joins = (ruleB ns r && (rjoinsF chans r.at_ [] r.joins u).isSome) := by
   unfold joinsB ruleB
   rw [hj]
   cases c1 : (decide (1 ≤ Int.ofNat r.joins.length) && decide (Int.ofNat r.joins.length ≤ 3)) with
   | false => rw [Bool.and_false]
   | true =>
    cases e : rjoinsF chans r.at_ [] r.joins u with
    | none => simp
    | some u' =>
     simp only [Bool.and_eq_true, decide_eq_true_eq] at c1
     have := rjoins_at hc c1.1 e
     have h2 : (decide (0 ≤ r.at_) && decide (r.at_ ≤ Int.ofNat ns)) = true := by
      simp only [Bool.and_eq_true, decide_eq_true_eq]; exact this
     rw [h2]; rfl
  rw [e]
  cases c : ruleB ns r with
  | false => rfl
  | true =>
   cases e2 : rjoinsF chans r.at_ [] r.joins u with
   | none => rfl
   | some u' => exact rules_same hc l _ u' (rjoins_put _ _ _ _ e2 rfl h)
theorem def_same (d : ADf) : rdefB d = defB d := by
 unfold rdefB defB lenB
 have e : decide (max (max (Int.ofNat d.chans.length) (Int.ofNat d.spots.length)) (Int.ofNat d.rules.length) ≤ 30) = ((decide (Int.ofNat d.chans.length ≤ 30) && decide (Int.ofNat d.spots.length ≤ 30)) && decide (Int.ofNat d.rules.length ≤ 30)) := by
  rw [Bool.eq_iff_iff]
  simp only [Bool.and_eq_true, decide_eq_true_eq]
  omega
 rw [e]
 cases c : d.chans.all (chB d.spots.length) with
 | false => rfl
 | true => rw [rules_same c d.rules _ _ (SameSet.start _)]
end
end Go.Proofs.YtmbeijhnjaadhaaGreat
