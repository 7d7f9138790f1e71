/- A part of the proof of ScopeChecks. -/
import Derived.Test.YtmbeijhnjaadhaaGreatDo
namespace Go.Proofs.YtmbeijhnjaadhaaGreat
open Go Go.Abs
open Go.RowKit (Below)
set_option maxRecDepth 10000
noncomputable section
theorem bl_total : ∀ s t : List UInt8, Go.Op.bytesLess t s = !(Go.Op.bytesLess s t || (s == t))
 | [], [] => rfl
 | [], _ :: _ => rfl
 | _ :: _, [] => rfl
 | a :: x, b :: y => by
  have ih := bl_total x y
  show (decide (b < a) || (b == a && Go.Op.bytesLess y x)) = !((decide (a < b) || (a == b && Go.Op.bytesLess x y)) || (a == b && x == y))
  by_cases h : a = b
  ·subst h
   have h1 : decide (a < a) = false := by rw [decide_eq_false_iff_not]; exact UInt8.lt_irrefl a
   rw [h1, ih, show (a == a) = true by simp]; simp
  ·have h1 : (a == b) = false := by simpa using h
   have h2 : (b == a) = false := by simpa using fun e => h e.symm
   rw [h1, h2]
   rcases UInt8.lt_or_lt_of_ne h with h3 | h3
   ·have h4 : decide (b < a) = false := by rw [decide_eq_false_iff_not]; exact UInt8.lt_asymm h3
    rw [h4, show decide (a < b) = true by simpa using h3]; rfl
   ·have h4 : decide (a < b) = false := by rw [decide_eq_false_iff_not]; exact UInt8.lt_asymm h3
    rw [h4, show decide (b < a) = true by simpa using h3]; rfl
theorem strLt_not (s t : ByteArray) : strLt t s = !(strLt s t || (s.toList == t.toList)) := bl_total _ _
def look0 (p : AProg) (bad : Bool) : List AVal := [p.fv, p.nv, p.dv, iv p.main, nilS, nilS, nilS, bv bad]
abbrev frP : List Bool := [true, true, true, false, true, false, false]
theorem bad_head (pre : List ByteArray) (y : ByteArray) (rest : List ByteArray) : (!freeF pre.getLast? (y :: rest)) = ((!refNameB y || match pre.getLast? with | none => false | some t => strLt y t || (y.toList == t.toList)) || !freeF (pre ++ [y]).getLast? rest) := by
 have e : freeF pre.getLast? (y :: rest) = ((nameB y && (match pre.getLast? with | none => true | some t => strLt t y)) && freeF (some y) rest) := rfl
 rw [e, name_same, show (pre ++ [y]).getLast? = some y by simp]
 cases pre.getLast? with
 | none => cases refNameB y <;> cases freeF (some y) rest <;> rfl
 | some t =>
  dsimp only
  rw [strLt_not y t]
  cases refNameB y <;> cases (strLt y t || (y.toList == t.toList)) <;> cases freeF (some y) rest <;> rfl
variable {fl : Fl} (hfl : Tab fl)
include hfl
theorem rfree_loop {p : AProg} {v q : Nat} (hne : q ≠ v) (k : List AItem) {Q : RR → Prop} {up : Chain} : ∀ (rest pre : List ByteArray) (bd : Bool) {m : Mem} (b : T AVal), p.free = pre ++ rest → Wf m → Cel m v (look0 p bd) → Cel m q p.cells → p.OK m → getT b 1 = .ptr q 0 → getT b 3 = .ptr v 0 → getT b 4 = goI pre.length →
  (∀ (m' : Mem) (b' : T AVal), Kept (fun x => x = v) m m' → Cel m' v (look0 p (bd || !freeF pre.getLast? rest)) → getT b' 1 = .ptr q 0 → getT b' 3 = .ptr v 0 → Wp Tryz.prog fl (At ⟨8, 181, false, none⟩ k b' [] .run up m') Q) →
  Wp Tryz.prog fl (At ⟨8, 181, false, none⟩ (.code (cAt frP (bodyF Tryz.f8)) :: .inLoop (cAt frP (bodyF Tryz.f8)) :: .inBlock 0 :: k) (sets 181 b []) [] .run up m) Q := by
 intro rest
 induction rest with
 | nil =>
  intro pre bd m b hsp hw hv hq hp k1 k3 k4 hk
  have hlt : decide (Int.ofNat pre.length < Int.ofNat p.free.length) = false := by rw [hsp]; simp
  have cf := hp.f.cell
  have lf : ∀ m', lenSl m' p.fv = .val (goI p.free.length) m' := hp.f.lenM
  obtain ⟨⟨eq, hqr⟩, fq⟩ := hq
  have hqr : m.heap.get q = some (.row eq [p.fv, p.nv, p.dv, iv p.main] q 0) := hqr
  refine gg ?_
  refine Wp.gen (fun b' eb => ?_)
  exact hk _ b' (Kept.refl hw) (by rw [show freeF pre.getLast? [] = true by cases pre.getLast? <;> rfl]; simpa using hv) (eqb eb (e_base rfl k1)) (eqb eb (e_base rfl k3))
 | cons y rest ih =>
  intro pre bd m b hsp hw hv hq hp k1 k3 k4 hk
  have hlt : decide (Int.ofNat pre.length < Int.ofNat p.free.length) = true := by rw [hsp]; simp; omega
  have hln := hp.f.lnT hsp
  have cf := hp.f.cell
  have cn := hp.n.cell
  have cd := hp.d.cell
  have lf : ∀ m', lenSl m' p.fv = .val (goI p.free.length) m' := hp.f.lenM
  have hv0 := hv
  have hq0 := hq
  have lv := hv.lt hw
  have lq := hq.lt hw
  obtain ⟨⟨ev, hvr⟩, fv⟩ := hv
  obtain ⟨⟨eq, hqr⟩, fq⟩ := hq
  have hqr : m.heap.get q = some (.row eq [p.fv, p.nv, p.dv, iv p.main] q 0) := hqr
  have hvr : m.heap.get v = some (.row ev [p.fv, p.nv, p.dv, iv p.main, nilS, nilS, nilS, .lit (.bool bd)] v 0) := hvr
  rw [bad_head] at hk
  have fin : ∀ (b1 : Bool) {m1 m2 : Mem} {tX : T AVal} {lX : List (Nat × AVal)}, Kept noS m m1 → Wrote m1 m2 v (.row ev [p.fv, p.nv, p.dv, iv p.main, nilS, nilS, nilS, .lit (.bool b1)] v 0) → b1 = (bd || (!refNameB y || match pre.getLast? with | none => false | some t => strLt y t || (y.toList == t.toList))) → getT (sets 181 tX lX) 1 = .ptr q 0 → getT (sets 181 tX lX) 3 = .ptr v 0 → getT (sets 181 tX lX) 4 = goI (pre.length + 1) → Wp Tryz.prog fl (At ⟨8, 181, false, none⟩ (.inLoop (cAt frP (bodyF Tryz.f8)) :: .inBlock 0 :: k) (sets 181 tX lX) [] .run up m2) Q := by
   intro b1 m1 m2 tX lX k1 g eb e1 e3 e4
   have hv1 := (k1.get v lv id).trans hvr
   have kk : Kept (fun x => x = v) m m2 := (k1.mono (fun _ _ h => h.elim)).trans (Kept.wrote k1.wf g hv1 (fun _ h => by cases h) rfl)
   refine w_inLoop ?_
   refine Wp.gen (fun b' ebb => ?_)
   refine ih (pre ++ [y]) b1 b' (by simp [hsp]) kk.wf (Cel.of g.same ((g.famo v).trans ((k1.fam v lv id).trans fv))) (hq0.kept kk lq hne) (hp.kept kk) (eqb ebb e1) (eqb ebb e3) (eqb ebb (e4.trans (by rw [List.length_append]; rfl))) (fun m' b' k h => hk m' b' (kk.trans k) (by rw [eb, Bool.or_assoc] at h; exact h))
  refine gg ?_
  refine w_draw (.L 0 0 0 (.L 1 0 0 (.L 2 2 0 (.L 3 6 0 (.L 4 14 1 (.L 5 30 0 (.L 6 62 0 (.L 7 126 1 (.L 8 62 0 (.L 9 510 0 (.L 10 1022 1 (.H 11 2046 3 (.L 12 4094 0 (.L 13 8190 0 (.L 14 16382 0 (.L 15 32766 0 (.L 16 65534 0 (.L 17 131070 0 (.L 18 262142 0 (.L 19 524286 1 (.L 20 262142 0 (.L 21 2097150 0 (.L 22 4194302 1 (.L 23 262142 0 (.L 24 8650750 1 (.L 25 262142 0 (.L 26 33816574 0 (.L 27 126091262 0 (.L 28 260308990 1 (.L 29 536870910 0 (.L 30 1073741822 0 (.L 31 2147483646 0 (.L 32 4294967295 0 (.L 33 8589934591 0 (.H 34 17179869183 3 .fin))))))))))))))))))))))))))))))))))) rfl (by kernel_rfl) ?_
  cases bd with
  | true =>
   refine gg ?_
   refine d_put0 rfl rfl rfl (o_store v0 v0 hvr fv TyF.z rfl rfl rfl rfl) (lk_skip (by kernel_rfl) lk0) (fun m1 g1 => ?_)
   refine ⟨(ck_skip (by kernel_rfl) ck0), ?_⟩
   refine gg ?_
   exact fin true (Kept.refl hw) g1 rfl (e_base rfl k1) (e_base rfl k3) (e_hit rfl)
  | false =>
   obtain ⟨r, off, c0, ex, row, hvx, hlx, hr, htk⟩ := hp.f.here hsp
   have hlx' : pre.length < p.free.length := by simpa using hlx
   have htk1 : takeN 1 (dropN row (off + pre.length)) = some [.lit (.string y)] := by rw [Nat.mul_one] at htk; exact htk
   have K : Kept (fun q => m.next ≤ q ∨ noS q) m m := Kept.refl hw
   have kk : Kept noS m m := Kept.refl hw
   refine gg ?_
   refine d_light0 rfl rfl (gT rfl ⟨v0⟩ rfl).h rfl (o_indexAddr ((e_hit rfl).trans hvx) v0 ElF.h hlx) ?_
   refine d_light1 rfl rfl (gT rfl ⟨v0⟩ rfl).h rfl (o_loadRo1 v0 hr TyF.h TyF.z (by rw [Nat.mul_one]; exact htk1)) ?_
   refine d_callE K kk (o_calls (me1 v0)) (rname_ok hfl y K.wf) (lk_skip (by kernel_rfl) (lk_skip (by kernel_rfl) (lk_skip (by kernel_rfl) lk0))) (fun m1 K kk => ?_)
   refine ⟨(ck_skip (by kernel_rfl) (ck_skip (by kernel_rfl) (ck_skip (by kernel_rfl) ck0))), ?_⟩
   have hvr := (kk.get v lv id).trans hvr
   have hqr := (kk.get q lq id).trans hqr
   have fv := (kk.fam v lv id).trans fv
   have hr := kk.ro _ _ hr
   cases hN : refNameB y with
   | false =>
    rw [hN] at fin
    refine gg ?_
    refine d_put0 rfl rfl rfl (o_store v0 v0 hvr fv TyF.z rfl rfl rfl rfl) lk0 (fun m2 g1 => ?_)
    refine ⟨ck0, ?_⟩
    refine gg ?_
    exact fin true kk g1 rfl (e_base rfl k1) (e_base rfl k3) (e_hit rfl)
   | true =>
    rw [hN] at fin
    rcases List.eq_nil_or_concat pre with hpn | ⟨pre', t, hpc⟩
    ·have hz : decide (Int.ofNat pre.length > 0) = false := by rw [hpn]; rfl
     refine gg ?_
     refine d_put0 rfl rfl rfl (o_store v0 v0 hvr fv TyF.z rfl rfl rfl rfl) lk0 (fun m2 g1 => ?_)
     refine ⟨ck0, ?_⟩
     refine gg ?_
     exact fin false kk g1 (by rw [hpn]; rfl) (e_base rfl k1) (e_base rfl k3) (e_hit rfl)
    ·have hpl : pre.length = pre'.length + 1 := by rw [hpc]; simp
     have hz : decide (Int.ofNat pre.length > 0) = true := by rw [hpl, decide_eq_true_eq]; show ((pre'.length + 1 : Nat) : Int) > 0; omega
     have hlast : pre.getLast? = some t := by rw [hpc]; simp
     rw [hlast] at fin
     have e1 : Int.ofNat pre.length - 1 = Int.ofNat pre'.length := by rw [hpl]; show ((pre'.length + 1 : Nat) : Int) - 1 = (pre'.length : Int); omega
     have b1 : -(2 ^ 62) ≤ Int.ofNat pre.length - 1 := by rw [e1]; have : Int.ofNat pre'.length = (pre'.length : Int) := rfl; omega
     have b2 : Int.ofNat pre.length - 1 < 2 ^ 62 := by rw [e1]; have : Int.ofNat pre'.length = (pre'.length : Int) := rfl; omega
     obtain ⟨r2, off2, c02, ex2, row2, hv2, hr2, ht2⟩ := at_of hp.f (i := pre'.length) (by omega)
     have et : p.free[pre'.length]'(by omega) = t := by simp [hsp, hpc]
     rw [et] at ht2
     have hr2 := kk.ro _ _ hr2
     refine gg ?_
     refine d_light0 rfl rfl (gT rfl ⟨v0⟩ (by assumption)).h rfl (o_indexAddr ((e_hit rfl).trans hvx) v0 ElF.h hlx) ?_
     refine d_light1 rfl rfl (gT rfl ⟨v0⟩ (by assumption)).h rfl (o_loadRo1 v0 hr TyF.h TyF.z (by rw [Nat.mul_one]; exact htk1)) ?_
     refine gg ?_
     refine d_light0 rfl rfl (gT rfl ⟨v0⟩ (by assumption)).h rfl (o_indexAddr ((e_hit rfl).trans hv2) ((e_hit rfl).trans (congrArg iv e1)) ElF.h (by omega)) ?_
     refine d_light1 rfl rfl (gT rfl ⟨v0⟩ (by assumption)).h rfl (o_loadRo1 v0 hr2 TyF.h TyF.z (by rw [Nat.mul_one] at ht2 ⊢; exact ht2)) ?_
     refine d_light0 rfl rfl (gT rfl ⟨v0⟩ (by assumption)).h rfl (o_leqS v0 v0) ?_
     refine gg ?_
     refine d_put0 rfl rfl rfl (o_store v0 v0 hvr fv TyF.z rfl rfl rfl rfl) (lk_skip (by kernel_rfl) (lk_skip (by kernel_rfl) (lk_skip (by kernel_rfl) (lk_skip (by kernel_rfl) lk0)))) (fun m2 g1 => ?_)
     refine ⟨(ck_skip (by kernel_rfl) (ck_skip (by kernel_rfl) (ck_skip (by kernel_rfl) (ck_skip (by kernel_rfl) ck0)))), ?_⟩
     refine gg ?_
     exact fin _ kk g1 rfl (e_base rfl k1) (e_base rfl k3) (e_hit rfl)
end
noncomputable section
abbrev dlP : List Bool := [true, true, true, true, false, true, false, false]
variable {fl : Fl} (hfl : Tab fl)
include hfl
theorem rdefs_loop {p : AProg} {v q : Nat} (hne : q ≠ v) (k : List AItem) {Q : RR → Prop} {up : Chain} : ∀ (rest pre : List ADf) (bd : Bool) {m : Mem} (b : T AVal), p.defs = pre ++ rest → Wf m → Cel m v (look0 p bd) → Cel m q p.cells → p.OK m → getT b 1 = .ptr q 0 → getT b 3 = .ptr v 0 → getT b 5 = goI pre.length →
  (∀ (m' : Mem) (b' : T AVal), Kept (fun x => x = v) m m' → Cel m' v (look0 p (bd || !rest.all defB)) → getT b' 1 = .ptr q 0 → getT b' 3 = .ptr v 0 → Wp Tryz.prog fl (At ⟨8, 181, false, none⟩ k b' [] .run up m') Q) →
  Wp Tryz.prog fl (At ⟨8, 181, false, none⟩ (.code (cAt dlP (bodyF Tryz.f8)) :: .inLoop (cAt dlP (bodyF Tryz.f8)) :: .inBlock 2 :: k) (sets 181 b []) [] .run up m) Q := by
 intro rest
 induction rest with
 | nil =>
  intro pre bd m b hsp hw hv hq hp k1 k3 k4 hk
  have hlt : decide (Int.ofNat pre.length < Int.ofNat p.defs.length) = false := by rw [hsp]; simp
  have cd := hp.d.cell
  have ld : ∀ m', lenSl m' p.dv = .val (goI p.defs.length) m' := hp.d.lenM
  obtain ⟨⟨eq, hqr⟩, fq⟩ := hq
  have hqr : m.heap.get q = some (.row eq [p.fv, p.nv, p.dv, iv p.main] q 0) := hqr
  refine gg ?_
  refine Wp.gen (fun b' eb => ?_)
  exact hk _ b' (Kept.refl hw) (by simpa using hv) (eqb eb (e_base rfl k1)) (eqb eb (e_base rfl k3))
 | cons y rest ih =>
  intro pre bd m b hsp hw hv hq hp k1 k3 k4 hk
  have hlt : decide (Int.ofNat pre.length < Int.ofNat p.defs.length) = true := by rw [hsp]; simp; omega
  have hln := hp.d.lnT hsp
  have cf := hp.f.cell
  have cn := hp.n.cell
  have cd := hp.d.cell
  have ld : ∀ m', lenSl m' p.dv = .val (goI p.defs.length) m' := hp.d.lenM
  have hv0 := hv
  have hq0 := hq
  have lv := hv.lt hw
  have lq := hq.lt hw
  obtain ⟨⟨ev, hvr⟩, fv⟩ := hv
  obtain ⟨⟨eq, hqr⟩, fq⟩ := hq
  have hqr : m.heap.get q = some (.row eq [p.fv, p.nv, p.dv, iv p.main] q 0) := hqr
  have hvr : m.heap.get v = some (.row ev [p.fv, p.nv, p.dv, iv p.main, nilS, nilS, nilS, .lit (.bool bd)] v 0) := hvr
  have ea : (!(y :: rest).all defB) = (!defB y || !rest.all defB) := by rw [List.all_cons, Bool.not_and]
  rw [ea] at hk
  have fin : ∀ (b1 : Bool) {m1 m2 : Mem} {tX : T AVal} {lX : List (Nat × AVal)}, Kept noS m m1 → Wrote m1 m2 v (.row ev [p.fv, p.nv, p.dv, iv p.main, nilS, nilS, nilS, .lit (.bool b1)] v 0) → b1 = (bd || !defB y) → getT (sets 181 tX lX) 1 = .ptr q 0 → getT (sets 181 tX lX) 3 = .ptr v 0 → getT (sets 181 tX lX) 5 = goI (pre.length + 1) → Wp Tryz.prog fl (At ⟨8, 181, false, none⟩ (.inLoop (cAt dlP (bodyF Tryz.f8)) :: .inBlock 2 :: k) (sets 181 tX lX) [] .run up m2) Q := by
   intro b1 m1 m2 tX lX k1 g eb e1 e3 e4
   have hv1 := (k1.get v lv id).trans hvr
   have kk : Kept (fun x => x = v) m m2 := (k1.mono (fun _ _ h => h.elim)).trans (Kept.wrote k1.wf g hv1 (fun _ h => by cases h) rfl)
   refine w_inLoop ?_
   refine Wp.gen (fun b' ebb => ?_)
   refine ih (pre ++ [y]) b1 b' (by simp [hsp]) kk.wf (Cel.of g.same ((g.famo v).trans ((k1.fam v lv id).trans fv))) (hq0.kept kk lq hne) (hp.kept kk) (eqb ebb e1) (eqb ebb e3) (eqb ebb (e4.trans (by rw [List.length_append]; rfl))) (fun m' b' k h => hk m' b' (kk.trans k) (by rw [eb, Bool.or_assoc] at h; exact h))
  cases bd with
  | true =>
   refine gg ?_
   refine s_put0 rfl rfl rfl (o_store v0 v0 hvr fv TyF.z rfl rfl rfl rfl) (fun m1 g1 => ?_)
   refine gg ?_
   exact fin true (Kept.refl hw) g1 rfl (e_base rfl k1) (e_base rfl k3) (e_hit rfl)
  | false =>
   obtain ⟨r, off, c0, ex, row, hvx, hlx, hr, htk⟩ := hp.d.here hsp
   have hy : y.OK m := hp.do_ y (by rw [hsp]; simp)
   have K : Kept (fun q => m.next ≤ q ∨ noS q) m m := Kept.refl hw
   have kk : Kept noS m m := Kept.refl hw
   refine gg ?_
   refine s_val rfl (gT rfl ⟨v0⟩ rfl).h rfl rfl (o_indexAddr ((e_hit rfl).trans hvx) v0 ElF.h hlx) ?_
   refine s_val rfl (gT rfl ⟨v0⟩ rfl).h rfl rfl (o_loadRoA v0 hr (TyF.h (s := _)) (TyF.z (g := true)) htk) ?_
   refine s_callE K kk (o_calls (me1 v0)) (rdef_ok hfl hy K.wf) (fun m1 K kk => ?_)
   have hvr := (kk.get v lv id).trans hvr
   have fv := (kk.fam v lv id).trans fv
   rw [def_same]
   refine gg ?_
   refine s_put0 rfl rfl rfl (o_store v0 v0 hvr fv TyF.z rfl rfl rfl rfl) (fun m2 g1 => ?_)
   refine gg ?_
   exact fin _ kk g1 rfl (e_base rfl k1) (e_base rfl k3) (e_hit rfl)
abbrev m1P : List Bool := [true, true, true, true, true, true, true, true, false, true, false, false]
abbrev m2P : List Bool := [true, true, true, true, true, true, true, true, true, false, true, false, false]
theorem met1_loop {p : AProg} {v r1 r2 r3 : Nat} (D : Dist v r1 r2 r3) {szs : List Int} {nd df : List Bool} (cc : isCell p.fv = true ∧ isCell p.nv = true ∧ isCell p.dv = true) (hln : nd.length < 2 ^ 60) (k : List AItem) {Q : RR → Prop} {up : Chain} : ∀ (rest pre : List Bool) (bd : Bool) {m : Mem} (b : T AVal), nd = pre ++ rest → Wf m → RowsM p v r1 r2 r3 bd szs nd df m → getT b 3 = .ptr v 0 → getT b 6 = goI pre.length →
  (∀ (m' : Mem) (b' : T AVal), Kept (fun x => x = v) m m' → RowsM p v r1 r2 r3 (bd || !rest.all id) szs nd df m' → getT b' 3 = .ptr v 0 → Wp Tryz.prog fl (At ⟨8, 181, false, none⟩ k b' [] .run up m') Q) →
  Wp Tryz.prog fl (At ⟨8, 181, false, none⟩ (.code (cAt m1P (bodyF Tryz.f8)) :: .inLoop (cAt m1P (bodyF Tryz.f8)) :: .inBlock 4 :: k) (sets 181 b []) [] .run up m) Q := by
 have _ := hfl
 intro rest
 induction rest with
 | nil =>
  intro pre bd m b hsp hw R k3 k6 hk
  have hl2 := R.l2
  have lr : ∀ m', lenSl m' (.slice r2 0 p.nodes.length p.nodes.length true) = .val (goI p.nodes.length) m' := fun _ => rfl
  have hlt : decide (Int.ofNat pre.length < Int.ofNat p.nodes.length) = false := by rw [← hl2, hsp]; simp
  obtain ⟨cf, cn, cd⟩ := cc
  obtain ⟨⟨ev, hvr⟩, fv⟩ := R.row
  have hvr : m.heap.get v = some (.row ev [p.fv, p.nv, p.dv, iv p.main, .slice r1 0 p.nodes.length p.nodes.length true, .slice r2 0 p.nodes.length p.nodes.length true, .slice r3 0 p.defs.length p.defs.length true, .lit (.bool bd)] v 0) := hvr
  refine gg ?_
  refine Wp.gen (fun b' eb => ?_)
  exact hk _ b' (Kept.refl hw) (by simpa using R) (eqb eb (e_base rfl k3))
 | cons y rest ih =>
  intro pre bd m b hsp hw R k3 k6 hk
  have hl2 := R.l2
  have lr : ∀ m', lenSl m' (.slice r2 0 p.nodes.length p.nodes.length true) = .val (goI p.nodes.length) m' := fun _ => rfl
  have hlt : decide (Int.ofNat pre.length < Int.ofNat p.nodes.length) = true := by rw [← hl2, hsp]; simp; omega
  have hi : pre.length < p.nodes.length := by rw [← hl2, hsp]; simp
  have hpl : pre.length + 1 < 2 ^ 62 := by rw [← hl2] at hi; omega
  obtain ⟨cf, cn, cd⟩ := cc
  have hR := R
  have lv := R.row.lt hw
  have fv := R.row.fam
  obtain ⟨⟨ev, hvr⟩, _⟩ := R.row
  obtain ⟨⟨e2, h2r⟩, f2⟩ := R.c2
  have hvr : m.heap.get v = some (.row ev [p.fv, p.nv, p.dv, iv p.main, .slice r1 0 p.nodes.length p.nodes.length true, .slice r2 0 p.nodes.length p.nodes.length true, .slice r3 0 p.defs.length p.defs.length true, .lit (.bool bd)] v 0) := hvr
  have ea : (!(y :: rest).all id) = (!y || !rest.all id) := by rw [List.all_cons, Bool.not_and]; rfl
  rw [ea] at hk
  have fin : ∀ (b1 : Bool) {m2 : Mem} {tX : T AVal} {lX : List (Nat × AVal)}, Wrote m m2 v (.row ev (lookC p r1 r2 r3 b1) v 0) → b1 = (bd || !y) → getT (sets 181 tX lX) 3 = .ptr v 0 → getT (sets 181 tX lX) 6 = goI (pre.length + 1) → Wp Tryz.prog fl (At ⟨8, 181, false, none⟩ (.inLoop (cAt m1P (bodyF Tryz.f8)) :: .inBlock 4 :: k) (sets 181 tX lX) [] .run up m2) Q := by
   intro b1 m2 tX lX g eb e3 e6
   have kk : Kept (fun x => x = v) m m2 := Kept.wrote hw g hvr (fun _ h => by cases h) rfl
   refine w_inLoop ?_
   refine Wp.gen (fun b' ebb => ?_)
   refine ih (pre ++ [y]) b1 b' (by simp [hsp]) kk.wf (hR.setBad D g) (eqb ebb e3) (eqb ebb (e6.trans (by rw [List.length_append]; rfl))) (fun m' b' k h => hk m' b' (kk.trans k) (by rw [eb, Bool.or_assoc] at h; exact h))
  have hat := hR.at2 hi
  rw [show nd.getD pre.length false = y by rw [hsp, List.getD_eq_getElem?_getD]; simp] at hat
  cases bd with
  | true =>
   refine gg ?_
   refine s_put0 rfl rfl rfl (o_store v0 v0 hvr fv TyF.z rfl rfl rfl rfl) (fun m1 g1 => ?_)
   refine gg ?_
   exact fin true g1 rfl (e_base rfl k3) (e_hit rfl)
  | false =>
   have hat : getO (nd.map cntA) (0 + pre.length * 1) = some (iv (bif y then 1 else 0)) := hat
   refine gg ?_
   refine s_val rfl (gT rfl ⟨v0⟩ rfl).h rfl rfl (o_indexAddr v0 v0 ElF.h hi) ?_
   refine s_val rfl (gT rfl ⟨v0⟩ rfl).h rfl rfl (o_loadRow v0 h2r TyF.h TyF.z hat rfl) ?_
   refine gg ?_
   refine s_put0 rfl rfl rfl (o_store v0 v0 hvr fv TyF.z rfl rfl rfl rfl) (fun m1 g1 => ?_)
   refine gg ?_
   exact fin _ g1 (by cases y <;> rfl) (e_base rfl k3) (e_hit rfl)
theorem met2_loop {p : AProg} {v r1 r2 r3 : Nat} (D : Dist v r1 r2 r3) {szs : List Int} {nd df : List Bool} (cc : isCell p.fv = true ∧ isCell p.nv = true ∧ isCell p.dv = true) (hln : df.length < 2 ^ 60) (k : List AItem) {Q : RR → Prop} {up : Chain} : ∀ (rest pre : List Bool) (bd : Bool) {m : Mem} (b : T AVal), df = pre ++ rest → Wf m → RowsM p v r1 r2 r3 bd szs nd df m → getT b 3 = .ptr v 0 → getT b 7 = goI pre.length →
  (∀ (m' : Mem) (b' : T AVal), Kept (fun x => x = v) m m' → RowsM p v r1 r2 r3 (bd || !rest.all id) szs nd df m' → getT b' 3 = .ptr v 0 → Wp Tryz.prog fl (At ⟨8, 181, false, none⟩ k b' [] .run up m') Q) →
  Wp Tryz.prog fl (At ⟨8, 181, false, none⟩ (.code (cAt m2P (bodyF Tryz.f8)) :: .inLoop (cAt m2P (bodyF Tryz.f8)) :: .inBlock 6 :: k) (sets 181 b []) [] .run up m) Q := by
 have _ := hfl
 intro rest
 induction rest with
 | nil =>
  intro pre bd m b hsp hw R k3 k6 hk
  have hl2 := R.l3
  have lr : ∀ m', lenSl m' (.slice r3 0 p.defs.length p.defs.length true) = .val (goI p.defs.length) m' := fun _ => rfl
  have hlt : decide (Int.ofNat pre.length < Int.ofNat p.defs.length) = false := by rw [← hl2, hsp]; simp
  obtain ⟨cf, cn, cd⟩ := cc
  obtain ⟨⟨ev, hvr⟩, fv⟩ := R.row
  have hvr : m.heap.get v = some (.row ev [p.fv, p.nv, p.dv, iv p.main, .slice r1 0 p.nodes.length p.nodes.length true, .slice r2 0 p.nodes.length p.nodes.length true, .slice r3 0 p.defs.length p.defs.length true, .lit (.bool bd)] v 0) := hvr
  refine gg ?_
  refine Wp.gen (fun b' eb => ?_)
  exact hk _ b' (Kept.refl hw) (by simpa using R) (eqb eb (e_base rfl k3))
 | cons y rest ih =>
  intro pre bd m b hsp hw R k3 k6 hk
  have hl2 := R.l3
  have lr : ∀ m', lenSl m' (.slice r3 0 p.defs.length p.defs.length true) = .val (goI p.defs.length) m' := fun _ => rfl
  have hlt : decide (Int.ofNat pre.length < Int.ofNat p.defs.length) = true := by rw [← hl2, hsp]; simp; omega
  have hi : pre.length < p.defs.length := by rw [← hl2, hsp]; simp
  have hpl : pre.length + 1 < 2 ^ 62 := by rw [← hl2] at hi; omega
  obtain ⟨cf, cn, cd⟩ := cc
  have hR := R
  have lv := R.row.lt hw
  have fv := R.row.fam
  obtain ⟨⟨ev, hvr⟩, _⟩ := R.row
  obtain ⟨⟨e2, h2r⟩, f2⟩ := R.c3
  have hvr : m.heap.get v = some (.row ev [p.fv, p.nv, p.dv, iv p.main, .slice r1 0 p.nodes.length p.nodes.length true, .slice r2 0 p.nodes.length p.nodes.length true, .slice r3 0 p.defs.length p.defs.length true, .lit (.bool bd)] v 0) := hvr
  have ea : (!(y :: rest).all id) = (!y || !rest.all id) := by rw [List.all_cons, Bool.not_and]; rfl
  rw [ea] at hk
  have fin : ∀ (b1 : Bool) {m2 : Mem} {tX : T AVal} {lX : List (Nat × AVal)}, Wrote m m2 v (.row ev (lookC p r1 r2 r3 b1) v 0) → b1 = (bd || !y) → getT (sets 181 tX lX) 3 = .ptr v 0 → getT (sets 181 tX lX) 7 = goI (pre.length + 1) → Wp Tryz.prog fl (At ⟨8, 181, false, none⟩ (.inLoop (cAt m2P (bodyF Tryz.f8)) :: .inBlock 6 :: k) (sets 181 tX lX) [] .run up m2) Q := by
   intro b1 m2 tX lX g eb e3 e6
   have kk : Kept (fun x => x = v) m m2 := Kept.wrote hw g hvr (fun _ h => by cases h) rfl
   refine w_inLoop ?_
   refine Wp.gen (fun b' ebb => ?_)
   refine ih (pre ++ [y]) b1 b' (by simp [hsp]) kk.wf (hR.setBad D g) (eqb ebb e3) (eqb ebb (e6.trans (by rw [List.length_append]; rfl))) (fun m' b' k h => hk m' b' (kk.trans k) (by rw [eb, Bool.or_assoc] at h; exact h))
  have hat := hR.at3 hi
  rw [show df.getD pre.length false = y by rw [hsp, List.getD_eq_getElem?_getD]; simp] at hat
  cases bd with
  | true =>
   refine gg ?_
   refine s_put0 rfl rfl rfl (o_store v0 v0 hvr fv TyF.z rfl rfl rfl rfl) (fun m1 g1 => ?_)
   refine gg ?_
   exact fin true g1 rfl (e_base rfl k3) (e_hit rfl)
  | false =>
   have hat : getO (df.map cntA) (0 + pre.length * 1) = some (iv (bif y then 1 else 0)) := hat
   refine gg ?_
   refine s_val rfl (gT rfl ⟨v0⟩ rfl).h rfl rfl (o_indexAddr v0 v0 ElF.h hi) ?_
   refine s_val rfl (gT rfl ⟨v0⟩ rfl).h rfl rfl (o_loadRow v0 h2r TyF.h TyF.z hat rfl) ?_
   refine gg ?_
   refine s_put0 rfl rfl rfl (o_store v0 v0 hvr fv TyF.z rfl rfl rfl rfl) (fun m1 g1 => ?_)
   refine gg ?_
   exact fin _ g1 (by cases y <;> rfl) (e_base rfl k3) (e_hit rfl)
end
noncomputable section
theorem aqs_rep (n : Nat) : aEqs (List.replicate n (iv 0)) (List.replicate n (iv 0)) = true := by
 induction n with
 | zero => rfl
 | succ n ih =>
  rw [List.replicate_succ]
  show (aEq (iv 0) (iv 0) && aEqs _ _) = true
  rw [ih]; rfl
theorem ck_made {P : Program} {m : Mem} {mask ix r f q : Nat} {op : Op} {tmps : T AVal} {v : AVal} {e : Elem} {cs : List AVal} {made : Option AObj} {cks : List Ck} (hv : madeAt v = some r) (h1 : made = some (.row e cs f q)) (h2 : m.heap.get r = some (.row e cs f q)) (hq : aEqs cs cs = true) (w : ckAll P mask m cks = true) : ckAll P mask m (⟨ix, 2, op, tmps, v, made⟩ :: cks) = true := by
 show (bif isBit mask ix then ckAll P mask m cks else bif ckOne P m ⟨ix, 2, op, tmps, v, made⟩ then ckAll P mask m cks else false) = true
 have : ckOne P m ⟨ix, 2, op, tmps, v, made⟩ = true := by
  show (match madeAt v with | some r => sameObj made (m.heap.get r) | none => false) = true
  rw [hv]
  show sameObj made (m.heap.get r) = true
  rw [h1, h2]
  show (e.1.beq e.1 && e.2.beq e.2 && f.beq f && q.beq q && aEqs cs cs) = true
  rw [hq]; simp
 rw [this, w]
 cases isBit mask ix <;> rfl
variable {fl : Fl} (hfl : Tab fl)
include hfl
abbrev mkP : List Bool := [true, true, true, true, true]
abbrev bdP : List Bool := [true, true, true, true, true, true]
theorem rmake {p : AProg} {v q : Nat} {bd : Bool} {m : Mem} (hne : q ≠ v) (hw : Wf m) (hv : Cel m v (look0 p bd)) (hq : Cel m q p.cells) (hp : p.OK m) (hl : p.nodes.length ≤ 1000 ∧ p.defs.length ≤ 1000) (b : T AVal) (k1 : getT b 1 = .ptr q 0) (k3 : getT b 3 = .ptr v 0) {Q : RR → Prop} {up : Chain}
  (good : ∀ (m' : Mem) (b' : T AVal) (r1 r2 r3 : Nat), Kept (fun x => x = v) m m' → Dist v r1 r2 r3 → m.next ≤ r1 ∧ m.next ≤ r2 ∧ m.next ≤ r3 → RowsM p v r1 r2 r3 bd (List.replicate p.nodes.length 0) (List.replicate p.nodes.length false) (List.replicate p.defs.length false) m' → getT b' 1 = .ptr q 0 → getT b' 3 = .ptr v 0 → Wp Tryz.prog fl (At ⟨8, 181, false, none⟩ [.code (cAt bdP (bodyF Tryz.f8))] b' [] .run up m') Q) :
  Wp Tryz.prog fl (At ⟨8, 181, false, none⟩ [.code (cAt mkP (bodyF Tryz.f8))] (sets 181 b []) [] .run up m) Q := by
 have cf := hp.f.cell
 have cn := hp.n.cell
 have cd := hp.d.cell
 have ln : ∀ m', lenSl m' p.nv = .val (goI p.nodes.length) m' := hp.n.lenM
 have ld : ∀ m', lenSl m' p.dv = .val (goI p.defs.length) m' := hp.d.lenM
 have lv := hv.lt hw
 have lq := hq.lt hw
 obtain ⟨⟨ev, hvr⟩, fv⟩ := hv
 obtain ⟨⟨eq, hqr⟩, fq⟩ := hq
 have hqr : m.heap.get q = some (.row eq [p.fv, p.nv, p.dv, iv p.main] q 0) := hqr
 have hvr : m.heap.get v = some (.row ev [p.fv, p.nv, p.dv, iv p.main, nilS, nilS, nilS, .lit (.bool bd)] v 0) := hvr
 have K : Kept (fun x => m.next ≤ x ∨ x = v) m m := Kept.refl hw
 obtain ⟨kk, ek⟩ : ∃ kk, kk = [AItem.code (cAt bdP (bodyF Tryz.f8))] := ⟨_, rfl⟩
 refine w_seq ?_
 change Wp Tryz.prog fl (At ⟨8, 181, false, none⟩ (.code (cAt [true, true, true, true, true, false] (bodyF Tryz.f8)) :: [.code (cAt bdP (bodyF Tryz.f8))]) _ [] .run up m) Q
 rw [← ek] at good ⊢
 refine w_draw (.L 0 0 0 (.L 1 0 0 (.L 2 0 0 (.L 3 0 0 (.L 4 8 1 (.L 5 24 1 (.L 6 56 2 (.L 7 0 0 (.L 8 128 1 (.L 9 384 1 (.L 10 896 2 (.L 11 0 0 (.L 12 2048 1 (.L 13 6144 1 (.L 14 14336 2 (.L 15 121 0 (.L 16 32889 0 (.H 17 98425 3 (.L 18 231419 0 (.L 19 493563 0 (.H 20 1017851 3 (.L 21 2097151 0 (.L 22 4194303 0 (.H 23 8388607 3 .fin)))))))))))))))))))))))) rfl (by kernel_rfl) ?_
 refine gg ?_
 refine d_light2 rfl rfl rfl rfl (o_makeSl hfl (n := p.nodes.length) (z := iv 0) v0 v0 ElF.h ZcF.h g3 (by omega)) (fun m1 g1 => ?_)
 have n1 := g1.next
 have h1 := g1.same
 have f1 := g1.fam0 K.wf
 have hvr := (g1.other v (by omega)).trans hvr
 have hqr := (g1.other q (by omega)).trans hqr
 have fv := (g1.famo v).trans fv
 have K := K.g g1
 refine gg ?_
 refine d_light2 rfl rfl rfl rfl (o_makeSl hfl (n := p.nodes.length) (z := iv 0) v0 v0 ElF.h ZcF.h g3 (by omega)) (fun m2 g2 => ?_)
 have n2 := g2.next
 have h2 := g2.same
 have f2 := g2.fam0 K.wf
 have h1 := (g2.other m.next (by omega)).trans h1
 have f1 := (g2.famo m.next).trans f1
 have hvr := (g2.other v (by omega)).trans hvr
 have hqr := (g2.other q (by omega)).trans hqr
 have fv := (g2.famo v).trans fv
 have K := K.g g2
 refine gg ?_
 refine d_light2 rfl rfl rfl rfl (o_makeSl hfl (n := p.defs.length) (z := iv 0) v0 v0 ElF.h ZcF.h g3 (by omega)) (fun m3 g3' => ?_)
 have n3 := g3'.next
 have h3 := g3'.same
 have f3 := g3'.fam0 K.wf
 have h2 := (g3'.other m1.next (by omega)).trans h2
 have f2 := (g3'.famo m1.next).trans f2
 have h1 := (g3'.other m.next (by omega)).trans h1
 have f1 := (g3'.famo m.next).trans f1
 have hvr := (g3'.other v (by omega)).trans hvr
 have hqr := (g3'.other q (by omega)).trans hqr
 have fv := (g3'.famo v).trans fv
 have K := K.g g3'
 refine gg ?_
 refine d_put0 rfl rfl rfl (o_store v0 v0 hvr fv TyF.z rfl rfl rfl rfl) (lk_keep (by kernel_rfl) (lk_keep (by kernel_rfl) (lk_keep (by kernel_rfl) (lk_keep (by kernel_rfl) (lk_keep (by kernel_rfl) (lk_keep (by kernel_rfl) (lk_skip (by kernel_rfl) (lk_skip (by kernel_rfl) (lk_skip (by kernel_rfl) lk0))))))))) (fun m4 g4 => ?_)
 have h3 := (g4.other m2.next (by omega)).trans h3
 have h2 := (g4.other m1.next (by omega)).trans h2
 have h1 := (g4.other m.next (by omega)).trans h1
 have hqr := (g4.other q hne).trans hqr
 have f1 := (g4.famo m.next).trans f1
 have f2 := (g4.famo m1.next).trans f2
 have f3 := (g4.famo m2.next).trans f3
 have fv := (g4.famo v).trans fv
 have K := K.w g4 hvr (fun _ h => by cases h) (Or.inr rfl)
 have hvr := g4.same
 refine ⟨(ck_made rfl g3'.same h3 (aqs_rep _) (ck_one (o_lenSl v0 SlF.h (ld _)) (aq_int _ _) (ck_one (o_loadRow v0 hqr TyF.h TyF.z rfl (np_cell cd)) (aq_slA hp.d) (ck_made rfl g2.same h2 (aqs_rep _) (ck_one (o_lenSl v0 SlF.h (ln _)) (aq_int _ _) (ck_one (o_loadRow v0 hqr TyF.h TyF.z rfl (np_cell cn)) (aq_slA hp.n) (ck_skip (by kernel_rfl) (ck_skip (by kernel_rfl) (ck_skip (by kernel_rfl) ck0))))))))), ?_⟩
 refine gg ?_
 refine d_put0 rfl rfl rfl (o_store v0 v0 hvr fv TyF.z rfl rfl rfl rfl) (lk_keep (by kernel_rfl) (lk_keep (by kernel_rfl) (lk_keep (by kernel_rfl) (lk_skip (by kernel_rfl) (lk_skip (by kernel_rfl) (lk_skip (by kernel_rfl) lk0)))))) (fun m5 g5 => ?_)
 have h3 := (g5.other m2.next (by omega)).trans h3
 have h2 := (g5.other m1.next (by omega)).trans h2
 have h1 := (g5.other m.next (by omega)).trans h1
 have hqr := (g5.other q hne).trans hqr
 have f1 := (g5.famo m.next).trans f1
 have f2 := (g5.famo m1.next).trans f2
 have f3 := (g5.famo m2.next).trans f3
 have fv := (g5.famo v).trans fv
 have K := K.w g5 hvr (fun _ h => by cases h) (Or.inr rfl)
 have hvr := g5.same
 refine ⟨(ck_made rfl g3'.same h3 (aqs_rep _) (ck_one (o_lenSl v0 SlF.h (ld _)) (aq_int _ _) (ck_one (o_loadRow v0 hqr TyF.h TyF.z rfl (np_cell cd)) (aq_slA hp.d) (ck_skip (by kernel_rfl) (ck_skip (by kernel_rfl) (ck_skip (by kernel_rfl) ck0)))))), ?_⟩
 refine gg ?_
 refine d_put0 rfl rfl rfl (o_store v0 v0 hvr fv TyF.z rfl rfl rfl rfl) (lk_skip (by kernel_rfl) (lk_skip (by kernel_rfl) (lk_skip (by kernel_rfl) lk0))) (fun m6 g6 => ?_)
 have h3 := (g6.other m2.next (by omega)).trans h3
 have h2 := (g6.other m1.next (by omega)).trans h2
 have h1 := (g6.other m.next (by omega)).trans h1
 have hqr := (g6.other q hne).trans hqr
 have f1 := (g6.famo m.next).trans f1
 have f2 := (g6.famo m1.next).trans f2
 have f3 := (g6.famo m2.next).trans f3
 have fv := (g6.famo v).trans fv
 have K := K.w g6 hvr (fun _ h => by cases h) (Or.inr rfl)
 have hvr := g6.same
 refine ⟨(ck_skip (by kernel_rfl) (ck_skip (by kernel_rfl) (ck_skip (by kernel_rfl) ck0))), ?_⟩
 refine gg ?_
 refine Wp.gen (fun b' eb => ?_)
 have ez : (List.replicate p.nodes.length (0 : Int)).map iv = List.replicate p.nodes.length (iv 0) := List.map_replicate ..
 have en : (List.replicate p.nodes.length false).map cntA = List.replicate p.nodes.length (iv 0) := List.map_replicate ..
 have ed : (List.replicate p.defs.length false).map cntA = List.replicate p.defs.length (iv 0) := List.map_replicate ..
 refine good m6 b' m.next m1.next m2.next K.out ⟨by omega, by omega, by omega, by omega, by omega, by omega⟩ ⟨by omega, by omega, by omega⟩ ⟨Cel.of hvr fv, Cel.of (by rw [ez]; exact h1) f1, Cel.of (by rw [en]; exact h2) f2, Cel.of (by rw [ed]; exact h3) f3, List.length_replicate, List.length_replicate, List.length_replicate⟩ (eqb eb (e_base rfl k1)) (eqb eb (e_base rfl k3))
end
noncomputable section
theorem wk_inv {p : AProg} {I : SV → Prop} (hs : ∀ s x s', stepO p s x = some s' → I s → I s') : ∀ (k : Nat) (x : Int × Int) (s s' : SV), wkN p (stepV p) k x s = .go s' → I s → I s'
 | 0, x, s, s', h, hi => by cases h; exact hi
 | k + 1, x, s, s', h, hi => by
  rw [wkN] at h
  cases e : stepV p s x with
  | stop t => exact t.elim
  | fail c => rw [e] at h; cases h
  | go s1 =>
   rw [e] at h
   have h1 := hs _ _ _ (stepV_go e) hi
   have key : ∀ (l : List (Int × Int)) (a : SV), foldSt (fun s c => wkN p (stepV p) k (c.1, x.2 + c.2) s) a l = .go s' → I a → I s' := by
    intro l
    induction l with
    | nil => intro a h ha; cases h; exact ha
    | cons c l ih =>
     intro a h ha
     cases e2 : wkN p (stepV p) k (c.1, x.2 + c.2) a with
     | go a2 => rw [fold_go e2] at h; exact ih a2 h (wk_inv hs k _ _ _ e2 ha)
     | stop t => exact t.elim
     | fail c => rw [fold_fail e2] at h; cases h
   exact key _ _ h h1
def MetI (p : AProg) (s : SV) : Prop := ∃ df, SameSet p.defs.length s.2 df ∧ ∀ i, i < p.defs.length → df.getD i false = true → defB (dfAt p (Int.ofNat i)) = true
theorem met_step {p : AProg} (s : SV) (x : Int × Int) (s' : SV) (h : stepO p s x = some s') (hi : MetI p s) : MetI p s' := by
 unfold stepO at h
 cases h1 : (decide (0 ≤ x.1) && decide (x.1 ≤ Int.ofNat p.nodes.length - 1)) && !inI x.1 s.1.1 with
 | false => rw [h1] at h; cases h
 | true =>
  rw [h1, cond_true] at h
  cases h2 : nodeB p.defs.length x.2 (ndAt p x.1).op (ndAt p x.1).n (ndAt p x.1).args.length (ndAt p x.1).kids.length && (ndAt p x.1).args.all (argB x.2) with
  | false => rw [h2] at h; cases h
  | true =>
   rw [h2, cond_true] at h
   rw [Bool.and_eq_true] at h2
   unfold kidsB at h
   by_cases h4 : (ndAt p x.1).op = 4
   ·rw [if_pos h4] at h
    cases h5 : (!inI (ndAt p x.1).n s.2.1) && defB (dfAt p (ndAt p x.1).n) with
    | false => rw [h5] at h; cases h
    | true =>
     rw [h5, cond_true] at h
     cases h
     rw [Bool.and_eq_true] at h5
     have hd := h2.1
     rw [nb_def h4, Bool.and_eq_true, Bool.and_eq_true, Bool.and_eq_true, decide_eq_true_eq, decide_eq_true_eq] at hd
     have hd1 := hd.2.2.1
     have hd2 : (ndAt p x.1).n ≤ (p.defs.length : Int) - 1 := hd.2.2.2
     obtain ⟨j, ej⟩ : ∃ j : Nat, (ndAt p x.1).n = Int.ofNat j := ⟨(ndAt p x.1).n.toNat, by show _ = ((ndAt p x.1).n.toNat : Int); omega⟩
     have hj : j < p.defs.length := by rw [ej] at hd2; have h : (j : Int) ≤ (p.defs.length : Int) - 1 := hd2; omega
     obtain ⟨df, S, hf⟩ := hi
     refine ⟨df.set j true, by rw [ej]; exact S.put hj, fun i hi' hs => ?_⟩
     by_cases e : j = i
     ·subst e; rw [← ej]; exact h5.2
     ·rw [List.getD_eq_getElem?_getD, List.getElem?_set, if_neg e, ← List.getD_eq_getElem?_getD] at hs
      exact hf i hi' hs
   ·rw [if_neg h4] at h
    cases h; exact hi
theorem met_all {p : AProg} (h : (measP p).isSome = true) : p.defs.all defB = true := by
 unfold measP at h
 cases hh : headB p with
 | false => rw [hh] at h; cases h
 | true =>
  rw [hh, cond_true] at h
  cases hw : walkP p with
  | stop t => exact t.elim
  | fail c => rw [hw] at h; cases h
  | go s =>
   rw [hw] at h
   dsimp only at h
   cases he : endM p s with
   | false => rw [he] at h; cases h
   | true =>
    obtain ⟨df, S, hf⟩ := wk_inv met_step _ _ _ _ hw ⟨_, SameSet.start _, fun i _ h => by
     rw [List.getD_eq_getElem?_getD, List.getElem?_replicate] at h
     split at h <;> cases h⟩
    unfold endM at he
    rw [Bool.and_eq_true, S.full] at he
    rw [List.all_eq_true]
    intro d hd
    obtain ⟨i, hi, rfl⟩ := List.getElem_of_mem hd
    rw [← dfAt_eq hi]
    refine hf i hi ?_
    have hl : i < df.length := by rw [S.len]; exact hi
    rw [List.getD_eq_getElem?_getD, List.getElem?_eq_getElem hl]
    exact (List.all_eq_true.1 he.2) _ (List.getElem_mem hl)
theorem muP_le (p : AProg) (s : SV) : muP p s ≤ p.nodes.length := by
 unfold muP
 exact Nat.le_trans (List.length_filter_le _ _) (by rw [List.length_range]; exact Nat.le_refl _)
end
noncomputable section
theorem SameV.start (p : AProg) : SameV p s0 (List.replicate p.nodes.length 0) (List.replicate p.nodes.length false) (List.replicate p.defs.length false) := by
 have e : ∀ (n i : Nat), (List.replicate n false).getD i false = false := by
  intro n i
  rw [List.getD_eq_getElem?_getD, List.getElem?_replicate]
  by_cases h : i < n
  ·rw [if_pos h]; rfl
  ·rw [if_neg h]; rfl
 refine ⟨fun i _ => (e _ i).trans rfl, fun i _ h => (nomatch h), fun i _ => (e _ i).trans rfl, ?_, ?_⟩
 ·rw [List.count_replicate]; rfl
 ·rw [List.count_replicate]; rfl
theorem SameV.full {p : AProg} {s : SV} {szs : List Int} {nd df : List Bool} (V : SameV p s szs nd df) (l2 : nd.length = p.nodes.length) (l3 : df.length = p.defs.length) : endM p s = (nd.all id && df.all id) := by
 have a : SameSet p.nodes.length s.1 nd := ⟨l2, fun i h => by have := V.n i (by omega); rw [List.getD_eq_getElem?_getD, List.getElem?_eq_getElem h] at this; exact this.symm, V.c1⟩
 have c : SameSet p.defs.length s.2 df := ⟨l3, fun i h => by have := V.d i (by omega); rw [List.getD_eq_getElem?_getD, List.getElem?_eq_getElem h] at this; exact this.symm, V.c2⟩
 unfold endM
 rw [a.full, c.full]
def limB (p : AProg) : Bool := (decide (Int.ofNat p.free.length ≤ 12) && decide (Int.ofNat p.nodes.length ≤ 60)) && decide (Int.ofNat p.defs.length ≤ 12)
variable {fl : Fl} (hfl : Tab fl)
include hfl
theorem rnode_all {p : AProg} {v r1 r2 r3 : Nat} (D : Dist v r1 r2 r3) (hD : ∀ d, d ∈ p.defs → defB d = true) : ∀ k, RNode fl p v r1 r2 r3 k
 | 0 => fun _ _ _ h => absurd h (Nat.not_lt_zero _)
 | k + 1 => rnode_ok hfl D hD (rnode_all D hD k)
def AllQ (p : AProg) (m : Mem) (bad : Bool) : RR → Prop := fun r => ∃ v u m' a b c, r = .ret (.ptr v 0) u m' ∧ Kept noS m m' ∧ Cel m' v [p.fv, p.nv, p.dv, iv p.main, a, b, c, bv bad] ∧ allCells [a, b, c] = true
abbrev d4P : List Bool := [true, true, true, true]
abbrev e8P : List Bool := [true, true, true, true, true, true, true, true]
theorem all_end {p : AProg} {m0 m : Mem} {v r1 r2 r3 : Nat} {bd ans : Bool} {szs : List Int} {nd df : List Bool} (D : Dist v r1 r2 r3) (K : Kept (fun x => m0.next ≤ x ∨ noS x) m0 m) (hv0 : m0.next ≤ v) (cc : isCell p.fv = true ∧ isCell p.nv = true ∧ isCell p.dv = true) (R : RowsM p v r1 r2 r3 bd szs nd df m) (hl : p.nodes.length ≤ 1000 ∧ p.defs.length ≤ 1000) (hres : ((bd || !nd.all id) || !df.all id) = ans) (b : T AVal) (k3 : getT b 3 = .ptr v 0) :
  Wp Tryz.prog fl (At ⟨8, 181, false, none⟩ [.code (cAt e8P (bodyF Tryz.f8))] (sets 181 b []) [] .run [] m) (AllQ p m0 ans) := by
 have hw := K.wf
 refine gg ?_
 refine w_loop ?_
 refine Wp.gen (fun b1 eb => ?_)
 change Wp Tryz.prog fl (At _ _ (sets 181 b1 []) _ _ _ _) _
 refine met1_loop hfl D (nd := nd) cc (by rw [R.l2]; omega) _ nd [] bd b1 rfl hw R (eqb eb (e_base rfl k3)) (eqb eb v0) (fun m1 b2 k1 R1 y3 => ?_)
 change Wp Tryz.prog fl (At _ _ (sets 181 b2 []) _ _ _ _) _
 refine gg ?_
 refine w_loop ?_
 refine Wp.gen (fun b3 eb => ?_)
 change Wp Tryz.prog fl (At _ _ (sets 181 b3 []) _ _ _ _) _
 refine met2_loop hfl D (df := df) cc (by rw [R.l3]; omega) _ df [] (bd || !nd.all id) b3 rfl k1.wf R1 (eqb eb (e_base rfl y3)) (eqb eb v0) (fun m2 b4 k2 R2 y3 => ?_)
 change Wp Tryz.prog fl (At _ _ (sets 181 b4 []) _ _ _ _) _
 refine gg ?_
 refine w_retAt rfl ?_
 refine w_results Tryz.func8 (rv1 v0) ?_
 have K2 := (K.k k1 (fun q h => .inl (by omega))).k k2 (fun q h => .inl (by omega))
 rw [hres] at R2
 exact ⟨v, _, m2, _, _, _, rfl, K2.out, R2.row, rfl⟩
theorem all_mid {p : AProg} {m0 m : Mem} {v q : Nat} (hne : q ≠ v) (K : Kept (fun x => m0.next ≤ x ∨ noS x) m0 m) (hv0 : m0.next ≤ v) (hp : p.OK m) (hl : limB p = true) (cv : Cel m v (look0 p (!freeF none p.free))) (cq : Cel m q p.cells) (b : T AVal) (k1 : getT b 1 = .ptr q 0) (k3 : getT b 3 = .ptr v 0) :
  Wp Tryz.prog fl (At ⟨8, 181, false, none⟩ [.code (cAt d4P (bodyF Tryz.f8))] (sets 181 b []) [] .run [] m) (AllQ p m0 (!(measP p).isSome)) := by
 have hw := K.wf
 have cf := hp.f.cell
 have cn := hp.n.cell
 have cd := hp.d.cell
 have hl' := hl
 unfold limB at hl'
 rw [Bool.and_eq_true, Bool.and_eq_true, decide_eq_true_eq, decide_eq_true_eq, decide_eq_true_eq] at hl'
 obtain ⟨⟨a1, a2⟩, a3⟩ := hl'
 have a1 : (p.free.length : Int) ≤ 12 := a1
 have a2 : (p.nodes.length : Int) ≤ 60 := a2
 have a3 : (p.defs.length : Int) ≤ 12 := a3
 refine gg ?_
 refine w_loop ?_
 refine Wp.gen (fun b1 eb => ?_)
 change Wp Tryz.prog fl (At _ _ (sets 181 b1 []) _ _ _ _) _
 refine rdefs_loop hfl hne _ p.defs [] (!freeF none p.free) b1 rfl hw cv cq hp (eqb eb (e_base rfl k1)) (eqb eb (e_base rfl k3)) (eqb eb v0) (fun m1 b2 k1' cv1 y1 y3 => ?_)
 change Wp Tryz.prog fl (At _ _ (sets 181 b2 []) _ _ _ _) _
 have lq := cq.lt hw
 refine rmake hfl hne k1'.wf cv1 (cq.kept k1' lq hne) (hp.kept k1') ⟨by omega, by omega⟩ b2 y1 y3 (fun m2 b3 r1 r2 r3 k2 D hr R y1 y3 => ?_)
 have n1 := k1'.next
 have K1 := K.k k1' (fun q h => .inl (by omega))
 have K2 := K1.k k2 (fun q h => .inl (by omega))
 have hp2 := (hp.kept k1').kept k2
 have lq2 : q < m1.next := by omega
 have cq2 := (cq.kept k1' lq hne).kept k2 lq2 hne
 have ap : allCells [p.fv, p.nv, p.dv, iv p.main] = true := ac1 cf (ac1 cn (ac1 cd (ac1 rfl rfl)))
 have lf : ∀ m', lenSl m' p.fv = .val (goI p.free.length) m' := hp.f.lenM
 obtain ⟨bd, ebd⟩ : ∃ bd, bd = (!freeF none p.free || !p.defs.all defB) := ⟨_, rfl⟩
 rw [← ebd] at R
 obtain ⟨⟨ev, hvr⟩, fv⟩ := R.row
 obtain ⟨⟨eq, hqr⟩, fq⟩ := cq2
 have hqr : m2.heap.get q = some (.row eq [p.fv, p.nv, p.dv, iv p.main] q 0) := hqr
 have hvr : m2.heap.get v = some (.row ev [p.fv, p.nv, p.dv, iv p.main, .slice r1 0 p.nodes.length p.nodes.length true, .slice r2 0 p.nodes.length p.nodes.length true, .slice r3 0 p.defs.length p.defs.length true, .lit (.bool bd)] v 0) := hvr
 change Wp Tryz.prog fl (At _ _ (sets 181 b3 []) _ _ _ _) _
 have hH : headB p = freeF none p.free := by
  show (limB p && freeF none p.free) = _
  rw [hl]; rfl
 cases bd with
 | true =>
  have hno : (!(measP p).isSome) = true := by
   cases hm : (measP p).isSome with
   | false => rfl
   | true =>
    have h1 := met_all hm
    rw [h1] at ebd
    unfold measP at hm
    rw [hH] at hm
    cases hf : freeF none p.free with
    | false => rw [hf] at hm; cases hm
    | true => rw [hf] at ebd; cases ebd
  refine gg ?_
  refine w_retAt rfl ?_
  refine w_results Tryz.func8 (rv1 v0) ?_
  rw [hno]
  exact ⟨v, _, m2, _, _, _, rfl, K2.out, R.row, rfl⟩
 | false =>
  have hf : freeF none p.free = true := by
   cases h : freeF none p.free with
   | true => rfl
   | false => rw [h] at ebd; cases ebd
  have hd : p.defs.all defB = true := by
   cases h : p.defs.all defB with
   | true => rfl
   | false => rw [h, Bool.not_false, Bool.or_true] at ebd; cases ebd
  have hD : ∀ d, d ∈ p.defs → defB d = true := List.all_eq_true.1 hd
  rw [hf] at hH
  refine gg ?_
  refine s_call rfl rfl rfl rfl (o_calls (me3 v0 v0 v0)) (rnode_all hfl D hD (p.nodes.length + 1) (p.main, Int.ofNat p.free.length) s0 (Nat.lt_succ_of_le (muP_le p s0)) (by show (0 : Int) ≤ (p.free.length : Int); omega) (by have := muP_le p s0; show (p.free.length : Int) + 100 * (muP p s0 : Int) ≤ 2 ^ 38; omega) K2.wf hp2 ⟨_, _, _, R, SameV.start p⟩) ?_ (by rintro _ _ _ ⟨_, _, _, h, _⟩; cases h)
  rintro _ _ m3 ⟨_, _, _, hret, k3', hl3⟩
  cases hret
  have hl3 : LookQ p v r1 r2 r3 (walkP p) m3 := hl3
  have K3 := K2.k k3' (fun q h => by
   have n0 := K.next
   rcases h with h | h | h | h
   all_goals exact .inl (by omega))
  refine gr ?_
  refine q_nil ?_
  refine Wp.gen (fun b4 eb => ?_)
  change Wp Tryz.prog fl (At _ _ (sets 181 b4 []) _ _ _ _) _
  have hm : measP p = (match walkP p with
   | .go s => bif endM p s then some s else none
   | .stop _ => none
   | .fail _ => none) := by unfold measP; rw [hH]; rfl
  cases hw3 : walkP p with
  | stop t => exact t.elim
  | fail c =>
   rw [hw3] at hl3 hm
   obtain ⟨szs, nd, df, R3⟩ := hl3
   rw [hm]
   exact all_end hfl D K3 hv0 ⟨cf, cn, cd⟩ R3 ⟨by omega, by omega⟩ rfl b4 (eqb eb (e_base rfl y3))
  | go s =>
   rw [hw3] at hl3 hm
   obtain ⟨szs, nd, df, R3, V3⟩ := hl3
   rw [hm]
   refine all_end hfl D K3 hv0 ⟨cf, cn, cd⟩ R3 ⟨by omega, by omega⟩ ?_ b4 (eqb eb (e_base rfl y3))
   dsimp only
   rw [V3.full R3.l2 R3.l3]
   cases nd.all id <;> cases df.all id <;> rfl
theorem all_ok {p : AProg} {m : Mem} (hp : p.OK m) (hw : Wf m) : CallQ Tryz.prog fl 8 [.agg p.cells] m (AllQ p m (!(measP p).isSome)) := by
 have cf := hp.f.cell
 have cn := hp.n.cell
 have cd := hp.d.cell
 have lf : ∀ m', lenSl m' p.fv = .val (goI p.free.length) m' := hp.f.lenM
 have ln : ∀ m', lenSl m' p.nv = .val (goI p.nodes.length) m' := hp.n.lenM
 have ld : ∀ m', lenSl m' p.dv = .val (goI p.defs.length) m' := hp.d.lenM
 have ap : allCells [p.fv, p.nv, p.dv, iv p.main] = true := ac1 cf (ac1 cn (ac1 cd (ac1 rfl rfl)))
 refine hfl.start (by decide) 181 Tryz.func8 rfl rfl (Nat.le_of_ble_eq_true rfl) ?_
 intro bs hb
 have ar0 := hb 0 _ rfl
 clear hb
 have K : Kept (fun q => m.next ≤ q ∨ noS q) m m := Kept.refl hw
 refine gg ?_
 refine s_new rfl rfl rfl rfl (o_box (e_base rfl ar0) rfl) (fun m1 g => ?_)
 have n1 := g.next
 have h1 := g.same
 have f1 := g.fam0 K.wf
 have K := K.g g
 refine gg ?_
 refine s_val rfl rfl rfl rfl (o_loadRowA (off := 0) v0 h1 TyF.h (TyF.z (g := true)) (takeW rfl ap)) ?_
 refine gg ?_
 refine s_new rfl rfl rfl rfl (o_box v0 rfl) (fun m2 g => ?_)
 have n2 := g.next
 have h2 : m2.heap.get m1.next = some (.row (37, 0) [p.fv, p.nv, p.dv, iv p.main, nilS, nilS, nilS, .lit (.bool false)] m1.next 0) := g.same
 have f2 := g.fam0 K.wf
 have h1 := (g.other m.next (by omega)).trans h1
 have f1 := (g.famo m.next).trans f1
 have K := K.g g
 have k2 : Kept noS m m2 := K.out
 have cq2 : Cel m2 m.next p.cells := Cel.of h1 f1
 have cv2 : Cel m2 m1.next (look0 p false) := Cel.of h2 f2
 have hp2 := hp.kept k2
 obtain ⟨v, ev⟩ : ∃ v, v = m1.next := ⟨_, rfl⟩
 obtain ⟨q, eq⟩ : ∃ q, q = m.next := ⟨_, rfl⟩
 have hqv : q ≠ v := by omega
 rw [← ev] at h2 f2 cv2
 rw [← eq] at h1 f1 cq2
 have h1 : m2.heap.get q = some (.row (26, 0) [p.fv, p.nv, p.dv, iv p.main] q 0) := by rw [h1, eq]; rfl
 rw [← ev, ← eq]
 have nq : q < m2.next := by omega
 have nv : v < m2.next := by omega
 have hno : headB p = false → (!(measP p).isSome) = true := by intro h; unfold measP; rw [h]; rfl
 have hH : headB p = (((decide (Int.ofNat p.free.length ≤ 12) && decide (Int.ofNat p.nodes.length ≤ 60)) && decide (Int.ofNat p.defs.length ≤ 12)) && freeF none p.free) := rfl
 have z1 : decide (Int.ofNat p.free.length ≤ 12) = !decide (Int.ofNat p.free.length > 12) := by rw [← decide_not, decide_eq_decide]; omega
 have z2 : decide (Int.ofNat p.nodes.length ≤ 60) = !decide (Int.ofNat p.nodes.length > 60) := by rw [← decide_not, decide_eq_decide]; omega
 have z3 : decide (Int.ofNat p.defs.length ≤ 12) = !decide (Int.ofNat p.defs.length > 12) := by rw [← decide_not, decide_eq_decide]; omega
 rw [z1, z2, z3] at hH
 cases c1 : decide (Int.ofNat p.free.length > 12) with
 | true =>
  rw [c1] at hH
  refine gg ?_
  refine s_put0 rfl rfl rfl (o_store rfl v0 h2 f2 TyF.z rfl rfl rfl rfl) (fun m3 g => ?_)
  have K := K.w g h2 (fun _ h => by cases h) (Or.inl (by omega))
  refine gg ?_
  refine w_retAt rfl ?_
  refine w_results Tryz.func8 (rv1 v0) ?_
  rw [hno hH]
  exact ⟨v, _, m3, nilS, nilS, nilS, rfl, K.out, Cel.of g.same ((g.famo v).trans f2), rfl⟩
 | false =>
  cases c2 : decide (Int.ofNat p.nodes.length > 60) with
  | true =>
   rw [c1, c2] at hH
   refine gg ?_
   refine s_put0 rfl rfl rfl (o_store rfl v0 h2 f2 TyF.z rfl rfl rfl rfl) (fun m3 g => ?_)
   have K := K.w g h2 (fun _ h => by cases h) (Or.inl (by omega))
   refine gg ?_
   refine w_retAt rfl ?_
   refine w_results Tryz.func8 (rv1 v0) ?_
   rw [hno hH]
   exact ⟨v, _, m3, nilS, nilS, nilS, rfl, K.out, Cel.of g.same ((g.famo v).trans f2), rfl⟩
  | false =>
   cases c3 : decide (Int.ofNat p.defs.length > 12) with
   | true =>
    rw [c1, c2, c3] at hH
    refine gg ?_
    refine s_put0 rfl rfl rfl (o_store rfl v0 h2 f2 TyF.z rfl rfl rfl rfl) (fun m3 g => ?_)
    have K := K.w g h2 (fun _ h => by cases h) (Or.inl (by omega))
    refine gg ?_
    refine w_retAt rfl ?_
    refine w_results Tryz.func8 (rv1 v0) ?_
    rw [hno hH]
    exact ⟨v, _, m3, nilS, nilS, nilS, rfl, K.out, Cel.of g.same ((g.famo v).trans f2), rfl⟩
   | false =>
    rw [c1, c2, c3] at hH
    refine gg ?_
    refine w_loop ?_
    refine Wp.gen (fun b1 eb => ?_)
    change Wp Tryz.prog fl (At _ _ (sets 181 b1 []) _ _ _ _) _
    refine rfree_loop hfl hqv _ p.free [] false b1 rfl K.wf cv2 cq2 hp2 (eqb eb v0) (eqb eb v0) (eqb eb v0) (fun m3 b2 k3 cv3 y1 y3 => ?_)
    have K3 := K.k k3 (fun q h => .inl (by omega))
    refine all_mid hfl hqv K3 (by omega) (hp2.kept k3) (by unfold limB; rw [z1, z2, z3, c1, c2, c3]; rfl) cv3 (cq2.kept k3 nq hqv) b2 y1 y3
end
noncomputable section
variable {fl : Fl} (hfl : Tab fl)
include hfl
theorem check_ok {p : AProg} {m : Mem} (hp : p.OK m) (hw : Wf m) : CallQ Tryz.prog fl 4 [.agg p.cells] m (Rets noS m (iv (errM p))) := by
 have ap : allCells [p.fv, p.nv, p.dv, iv p.main] = true := ac1 hp.f.cell (ac1 hp.n.cell (ac1 hp.d.cell (ac1 rfl rfl)))
 refine hfl.start (by decide) 12 Tryz.func4 rfl rfl (Nat.le_of_ble_eq_true rfl) ?_
 intro bs hb
 have ar0 := hb 0 _ rfl
 clear hb
 have K : Kept (fun q => m.next ≤ q ∨ noS q) m m := Kept.refl hw
 refine gg ?_
 refine s_new rfl rfl rfl rfl (o_box (e_base rfl ar0) rfl) (fun m1 g => ?_)
 have n1 := g.next
 have h1 := g.same
 have f1 := g.fam0 K.wf
 have K := K.g g
 refine gg ?_
 refine s_val rfl rfl rfl rfl (o_loadRowA (off := 0) v0 h1 TyF.h (TyF.z (g := true)) (takeW rfl ap)) ?_
 refine gg ?_
 refine s_call rfl rfl rfl rfl (o_calls (me1 v0)) (measure_ok hfl (p := p) (hp.kept K) K.wf) ?_ (by rintro _ _ _ ⟨_, _, _, _, h, _⟩; cases h)
 rintro _ _ m2 ⟨z, hz, _, _, hret, k2⟩
 cases hret
 have K := K.k k2 (fun _ h => h.elim)
 refine gg ?_
 refine w_retAt rfl ?_
 refine w_results Tryz.func4 (rv1 v0) ?_
 exact ⟨_, _, rfl, K.out⟩
theorem rcheck_ok {p : AProg} {m : Mem} (hp : p.OK m) (hw : Wf m) : CallQ Tryz.prog fl 5 [.agg p.cells] m (Rets noS m (iv (errM p))) := by
 have ap : allCells [p.fv, p.nv, p.dv, iv p.main] = true := ac1 hp.f.cell (ac1 hp.n.cell (ac1 hp.d.cell (ac1 rfl rfl)))
 refine hfl.start (by decide) 8 Tryz.func5 rfl rfl (Nat.le_of_ble_eq_true rfl) ?_
 intro bs hb
 have ar0 := hb 0 _ rfl
 clear hb
 have K : Kept (fun q => m.next ≤ q ∨ noS q) m m := Kept.refl hw
 refine gg ?_
 refine s_new rfl rfl rfl rfl (o_box (e_base rfl ar0) rfl) (fun m1 g => ?_)
 have n1 := g.next
 have h1 := g.same
 have f1 := g.fam0 K.wf
 have K := K.g g
 refine gg ?_
 refine s_val rfl rfl rfl rfl (o_loadRowA (off := 0) v0 h1 TyF.h (TyF.z (g := true)) (takeW rfl ap)) ?_
 refine gg ?_
 refine s_call rfl rfl rfl rfl (o_calls (me1 v0)) (all_ok hfl (p := p) (hp.kept K) K.wf) ?_ (by rintro _ _ _ ⟨_, _, _, _, _, _, h, _⟩; cases h)
 rintro _ _ m2 ⟨v, _, _, a, b, c, hret, k2, cv, hc⟩
 cases hret
 have K := K.k k2 (fun _ h => h.elim)
 obtain ⟨⟨ev, hvr⟩, fv⟩ := cv
 have hvr : m2.heap.get v = some (.row ev [p.fv, p.nv, p.dv, iv p.main, a, b, c, .lit (.bool (!(measP p).isSome))] v 0) := hvr
 cases hm : (measP p).isSome with
 | true =>
  rw [hm] at hvr
  have e : errM p = 0 := by unfold errM; rw [hm]; rfl
  rw [e]
  refine gg ?_
  refine w_retAt rfl ?_
  refine w_results Tryz.func5 (rv1 v0) ?_
  exact ⟨_, _, rfl, K.out⟩
 | false =>
  rw [hm] at hvr
  have e : errM p = 2 := by unfold errM; rw [hm]; rfl
  rw [e]
  refine gg ?_
  refine w_retAt rfl ?_
  refine w_results Tryz.func5 (rv1 v0) ?_
  exact ⟨_, _, rfl, K.out⟩
theorem law_ok {m : Mem} (hk : ∀ m, fl.tb 6 [] m = some (.bool true)) {p : AProg} (hp : p.OK m) (hw : Wf m) : CallQ Tryz.prog fl 3 [.agg p.cells] m (Rets noS m (.lit (.bool true))) := by
 have ap : allCells [p.fv, p.nv, p.dv, iv p.main] = true := ac1 hp.f.cell (ac1 hp.n.cell (ac1 hp.d.cell (ac1 rfl rfl)))
 have aq : aEq (.agg [p.fv, p.nv, p.dv, iv p.main]) (.agg [p.fv, p.nv, p.dv, iv p.main]) = true := aqs_cons (aq_slA hp.f) (aqs_cons (aq_slA hp.n) (aqs_cons (aq_slA hp.d) (aqs_cons (aq_int _ _) rfl)))
 refine hfl.start (by decide) 11 Tryz.func3 rfl rfl (Nat.le_of_ble_eq_true rfl) ?_
 intro bs hb
 have ar0 := hb 0 _ rfl
 clear hb
 have K : Kept (fun q => m.next ≤ q ∨ noS q) m m := Kept.refl hw
 refine gg ?_
 refine s_new rfl rfl rfl rfl (o_box (e_base rfl ar0) rfl) (fun m1 g => ?_)
 have n1 := g.next
 have h1 := g.same
 have f1 := g.fam0 K.wf
 have K := K.g g
 have l1 : m.next < m1.next := by omega
 have c : (errM p == errM p) = true := by simp
 refine gg ?_
 refine w_draw (.L 0 0 1 (.L 2 0 1 (.H 1 1 3 (.H 3 7 3 (.L 4 15 0 (.L 5 31 0 (.H 6 63 3 (.L 7 127 0 (.L 8 255 0 .fin))))))))) rfl (by kernel_rfl) ?_
 refine d_light1 rfl rfl rfl rfl (o_loadRowA (off := 0) v0 h1 TyF.h (TyF.z (g := true)) (takeW rfl ap)) ?_
 refine d_light1 rfl rfl rfl rfl (o_loadRowA (off := 0) v0 h1 TyF.h (TyF.z (g := true)) (takeW rfl ap)) ?_
 have kk := Kept.refl (S := noS) K.wf
 refine d_callE K kk (o_calls (me1 v0)) (check_ok hfl (p := p) (hp.kept K) K.wf) (lk_keep (by kernel_rfl) (lk_skip (by kernel_rfl) lk0)) (fun m2 K kk => ?_)
 have h1 := (kk.get _ l1 id).trans h1
 refine ⟨(ck_one (o_loadRowA (off := 0) v0 h1 TyF.h (TyF.z (g := true)) (takeW rfl ap)) aq (ck_skip (by kernel_rfl) ck0)), ?_⟩
 have kk := Kept.refl (S := noS) K.wf
 refine d_callE K kk (o_calls (me1 v0)) (rcheck_ok hfl (p := p) (hp.kept K) K.wf) (lk_skip (by kernel_rfl) lk0) (fun m3 K kk => ?_)
 refine ⟨ck_skip (by kernel_rfl) ck0, ?_⟩
 have kk := Kept.refl (S := noS) K.wf
 refine gg ?_
 refine d_callE K kk (o_calls me0) (CallQ.known (hk _) ⟨_, _, rfl, Kept.refl K.wf⟩) lk0 (fun m4 K kk => ?_)
 refine ⟨ck0, ?_⟩
 refine gg ?_
 refine w_retAt rfl ?_
 refine w_results Tryz.func3 (rv1 v0) ?_
 exact ⟨_, _, rfl, K.out⟩
end
end Go.Proofs.YtmbeijhnjaadhaaGreat
