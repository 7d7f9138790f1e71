/- A part of the proof of ScopeChecks. -/
import Derived.Test.YtmbeijhnjaadhaaGreatDg
namespace Go.Proofs.YtmbeijhnjaadhaaGreat
open Go Go.Abs
open Go.RowKit (Below)
set_option maxRecDepth 10000
noncomputable section
def ownN (p : AProg) (op nn : Int) : ADf := if op = 4 then dfAt p nn else ⟨nilS, nilS, nilS, [], [], []⟩
def swB (p : AProg) (op nn sz : Int) (s : SV) : Bool := refN p.defs.length sz op nn && (!decide (op = 4) || !inI nn s.2.1)
def swS (op nn : Int) (s : SV) : SV := if op = 4 then (s.1, putI nn s.2) else s
def swF (p : AProg) (op nn sz : Int) (s : SV) (bd : Bool) : St SV Empty := bif !bd && swB p op nn sz s then .go (swS op nn s) else .fail unfC
abbrev arP : List Bool := [true, true, true, true, true, true, true]
abbrev kdP : List Bool := [true, true, true, true, true, true, true, true, true]
variable {fl : Fl} (hfl : Tab fl)
include hfl
theorem rn_sw {p : AProg} {v r1 r2 r3 r6 : Nat} (D : Dist v r1 r2 r3) {op nn sz : Int} {av kv : AVal} {s : SV} {szs : List Int} {nd df : List Bool} {bd : Bool} {m : Mem} (h4 : op ≠ 4) (_h6 : ¬ lkS v r1 r2 r3 r6) (hw : Wf m) (hp : p.OK m) (R : RowsM p v r1 r2 r3 bd szs nd df m) (V : bd = false → SameV p s szs nd df) (c6 : Cel m r6 [iv op, iv nn, av, kv]) (_ca : isCell av = true) (_ck : isCell kv = true) {Q : RR → Prop} {up : Chain} (b : T AVal) (k0 : getT b 0 = .ptr v 0) (k2 : getT b 2 = iv sz) (k6 : getT b 6 = .ptr r6 0)
  (good : ∀ (m' : Mem) (b' : T AVal), Kept (lkS v r1 r2 r3) m m' → LookQ p v r1 r2 r3 (swF p op nn sz s bd) m' → getT b' 0 = .ptr v 0 → getT b' 11 = iv sz → getT b' 6 = .ptr r6 0 → Wp Tryz.prog fl (At ⟨26, 249, false, none⟩ [.code (cAt kdP (bodyF Tryz.f26))] b' [] .run up m') Q) :
  Wp Tryz.prog fl (At ⟨26, 249, false, none⟩ [.code (cAt arP (bodyF Tryz.f26))] (sets 249 b []) [] .run up m) Q := by
 have _ := hfl
 have cf := hp.f.cell
 have cn := hp.n.cell
 have cd := hp.d.cell
 have fv := R.row.fam
 obtain ⟨⟨e6, h6r⟩, f6⟩ := c6
 obtain ⟨⟨ev, hvr⟩, _⟩ := R.row
 have hvr : m.heap.get v = some (.row ev [p.fv, p.nv, p.dv, iv p.main, .slice r1 0 p.nodes.length p.nodes.length true, .slice r2 0 p.nodes.length p.nodes.length true, .slice r3 0 p.defs.length p.defs.length true, .lit (.bool bd)] v 0) := hvr
 obtain ⟨kk, ek⟩ : ∃ kk, kk = [AItem.code (cAt kdP (bodyF Tryz.f26))] := ⟨_, rfl⟩
 refine w_seq ?_
 refine w_region rfl ?_
 refine gr ?_
 refine q_nil ?_
 refine w_seq ?_
 change Wp Tryz.prog fl (At ⟨26, 249, false, none⟩ (.code (cAt [true, true, true, true, true, true, true, true, false] (bodyF Tryz.f26)) :: [.code (cAt kdP (bodyF Tryz.f26))]) _ [] .run up m) Q
 rw [← ek] at good ⊢
 have fin : ∀ {b1 : Bool} {m1 : Mem} {tX : T AVal}, Wrote m m1 v (.row ev (lookC p r1 r2 r3 b1) v 0) → b1 = (bd || !swB p op nn sz s) → getT tX 0 = .ptr v 0 → getT tX 11 = iv sz → getT tX 6 = .ptr r6 0 → Wp Tryz.prog fl (At ⟨26, 249, false, none⟩ kk tX [] .run up m1) Q := by
  intro b1 m1 tX g eb x0 x11 x6
  have K : Kept (lkS v r1 r2 r3) m m1 := Kept.wrote hw g hvr (fun _ h => by cases h) (.inl rfl)
  refine good m1 tX K ?_ x0 x11 x6
  have R1 := R.setBad D g
  subst eb
  cases bd with
  | true => exact ⟨_, _, _, R1⟩
  | false =>
   unfold swF
   cases hs : swB p op nn sz s with
   | true =>
    rw [hs] at R1
    have e : swS op nn s = s := by unfold swS; rw [if_neg h4]
    show LookM p v r1 r2 r3 (swS op nn s) m1
    rw [e]
    exact ⟨_, _, _, R1, V rfl⟩
   | false => rw [hs] at R1; exact ⟨_, _, _, R1⟩
 have e4 : (op == 4) = false := by rw [beq_eq_false_iff_ne]; exact h4
 by_cases h2 : op = 2 ∨ op = 6 ∨ op = 8
 ·have eS : swB p op nn sz s = (decide (0 ≤ nn) && decide (nn < sz)) := by
   unfold swB refN
   rw [if_pos h2, show decide (op = 4) = false by simpa using h4]; simp
  rw [eS] at fin
  cases bd with
  | true =>
   rcases h2 with rfl | rfl | rfl
   all_goals
    refine gg ?_
    refine s_put0 rfl rfl rfl (o_store v0 v0 hvr fv TyF.z rfl rfl rfl rfl) (fun m1 g => ?_)
    refine gg ?_
    refine Wp.gen (fun b' eb => ?_)
    exact fin g rfl (eqb eb (e_base rfl k0)) (eqb eb v0) (eqb eb (e_base rfl k6))
  | false =>
   have z0 : decide (0 ≤ nn) = !decide (nn < 0) := by rw [← decide_not, decide_eq_decide]; omega
   have z1 : decide (nn < sz) = !decide (nn ≥ sz) := by rw [← decide_not, decide_eq_decide]; omega
   rw [z0, z1] at fin
   cases c1 : decide (nn < 0) with
   | true =>
    rw [c1] at fin
    rcases h2 with rfl | rfl | rfl
    all_goals
     refine gg ?_
     refine s_put0 rfl rfl rfl (o_store v0 v0 hvr fv TyF.z rfl rfl rfl rfl) (fun m1 g => ?_)
     refine gg ?_
     refine Wp.gen (fun b' eb => ?_)
     exact fin g (by first | rfl | simp) (eqb eb (e_base rfl k0)) (eqb eb v0) (eqb eb (e_base rfl k6))
   | false =>
    rw [c1] at fin
    rcases h2 with rfl | rfl | rfl
    all_goals
     refine gg ?_
     refine s_put0 rfl rfl rfl (o_store v0 v0 hvr fv TyF.z rfl rfl rfl rfl) (fun m1 g => ?_)
     refine gg ?_
     refine Wp.gen (fun b' eb => ?_)
     exact fin g (by first | rfl | simp) (eqb eb (e_base rfl k0)) (eqb eb v0) (eqb eb (e_base rfl k6))
 ·have e2 : (op == 2) = false := by rw [beq_eq_false_iff_ne]; intro h; exact h2 (by simp [h])
  have e6 : (op == 6) = false := by rw [beq_eq_false_iff_ne]; intro h; exact h2 (by simp [h])
  have e8 : (op == 8) = false := by rw [beq_eq_false_iff_ne]; intro h; exact h2 (by simp [h])
  have eS : swB p op nn sz s = (nn == 0) := by
   unfold swB refN
   rw [if_neg h2, if_neg h4, show decide (op = 4) = false by simpa using h4]; simp
  rw [eS] at fin
  cases bd with
  | true =>
   refine gg ?_
   refine s_put0 rfl rfl rfl (o_store v0 v0 hvr fv TyF.z rfl rfl rfl rfl) (fun m1 g => ?_)
   refine gg ?_
   refine Wp.gen (fun b' eb => ?_)
   exact fin g rfl (eqb eb (e_base rfl k0)) (eqb eb v0) (eqb eb (e_base rfl k6))
  | false =>
   refine gg ?_
   refine s_put0 rfl rfl rfl (o_store v0 v0 hvr fv TyF.z rfl rfl rfl rfl) (fun m1 g => ?_)
   refine gg ?_
   refine Wp.gen (fun b' eb => ?_)
   exact fin g rfl (eqb eb (e_base rfl k0)) (eqb eb v0) (eqb eb (e_base rfl k6))
end
noncomputable section
theorem cnt_add {l : List EntI} {c : Nat} {x : AVal} {u : List Bool} {j : Nat} (hju : j < u.length) (hat : u.getD j false = inI (Int.ofNat j) l) (hc : l.length = u.count true) : (addI (Int.ofNat j) x l c).length = (u.set j true).count true := by
 rw [List.getD_eq_getElem?_getD, List.getElem?_eq_getElem hju] at hat
 have hat : u[j] = inI (Int.ofNat j) l := hat
 rw [List.count_set hju]
 unfold addI
 unfold inI at hat
 cases hf : findI (Int.ofNat j) l with
 | some v =>
  rw [hf] at hat
  have hu : u[j] = true := hat
  have hpos : 0 < u.count true := List.count_pos_iff.2 (hu ▸ List.getElem_mem hju)
  rw [hu]
  show l.length = u.count true - 1 + 1
  rw [hc]; omega
 | none =>
  rw [hf] at hat
  have hu : u[j] = false := hat
  rw [hu]
  show (l ++ [_]).length = u.count true - 0 + 1
  rw [List.length_append, hc]; rfl
theorem SameV.putI {p : AProg} {s : SV} {szs : List Int} {nd df : List Bool} {j : Nat} (V : SameV p s szs nd df) (hj : j < p.defs.length) (hl : df.length = p.defs.length) : SameV p (s.1, putI (Int.ofNat j) s.2) szs nd (df.set j true) := by
 refine ⟨V.n, V.z, fun i hi => ?_, V.c1, cnt_add (by omega) (V.d j hj) V.c2⟩
 show _ = inI (Int.ofNat i) (addI (Int.ofNat j) _ s.2.1 s.2.2)
 rw [inI_add, ← V.d i hi, List.getD_eq_getElem?_getD, List.getD_eq_getElem?_getD, List.getElem?_set]
 by_cases e : j = i
 ·subst e
  rw [if_pos rfl, if_pos (by omega)]; simp
 ·rw [if_neg e, show (Int.ofNat i == Int.ofNat j) = false by rw [beq_eq_false_iff_ne]; intro h; exact e (Int.ofNat.inj h).symm, Bool.or_false]
theorem dfAt_mem {p : AProg} {j : Nat} (hj : j < p.defs.length) : dfAt p (Int.ofNat j) ∈ p.defs := by
 rw [dfAt_eq hj]; exact List.getElem_mem hj
variable {fl : Fl} (hfl : Tab fl)
include hfl
theorem rn_swd {p : AProg} {v r1 r2 r3 r6 k : Nat} (D : Dist v r1 r2 r3) (hD : ∀ d, d ∈ p.defs → defB d = true) (ih0 : RNode fl p v r1 r2 r3 k) {nn sz : Int} {av kv : AVal} {s : SV} {szs : List Int} {nd df : List Bool} {bd : Bool} {m : Mem} (hz0 : 0 ≤ sz) (hz1 : sz ≤ 2 ^ 38) (hmu : bd = false → muP p s < k ∧ sz + 100 + 100 * (muP p s : Int) ≤ 2 ^ 38) (h6 : ¬ lkS v r1 r2 r3 r6) (hw : Wf m) (hp : p.OK m) (R : RowsM p v r1 r2 r3 bd szs nd df m) (V : bd = false → SameV p s szs nd df) (c6 : Cel m r6 [iv 4, iv nn, av, kv]) (_ca : isCell av = true) (_ck : isCell kv = true) {Q : RR → Prop} {up : Chain} (b : T AVal) (k0 : getT b 0 = .ptr v 0) (k2 : getT b 2 = iv sz) (k6 : getT b 6 = .ptr r6 0)
  (good : ∀ (m' : Mem) (b' : T AVal), Kept (lkS v r1 r2 r3) m m' → LookQ p v r1 r2 r3 (thenF (kidF p k sz) (swF p 4 nn sz s bd) (defL (dfAt p nn))) m' → 0 ≤ moreD (dfAt p nn) ∧ moreD (dfAt p nn) ≤ 60 → getT b' 0 = .ptr v 0 → getT b' 11 = iv (sz + moreD (dfAt p nn)) → getT b' 6 = .ptr r6 0 → Wp Tryz.prog fl (At ⟨26, 249, false, none⟩ [.code (cAt kdP (bodyF Tryz.f26))] b' [] .run up m') Q)
  (bad : swF p 4 nn sz s bd = .fail unfC → ∀ (m' : Mem) (b' : T AVal), Kept (lkS v r1 r2 r3) m m' → LookB p v r1 r2 r3 m' → Wp Tryz.prog fl (At ⟨26, 249, false, none⟩ [] b' [] .returning up m') Q) :
  Wp Tryz.prog fl (At ⟨26, 249, false, none⟩ [.code (cAt arP (bodyF Tryz.f26))] (sets 249 b []) [] .run up m) Q := by
 have cf := hp.f.cell
 have cn := hp.n.cell
 have cd := hp.d.cell
 have ld := hp.d.lenM
 have fv := R.row.fam
 have c60 := c6
 obtain ⟨⟨e6, h6r⟩, f6⟩ := c6
 obtain ⟨⟨ev, hvr⟩, _⟩ := R.row
 obtain ⟨⟨e3, h3r⟩, f3⟩ := R.c3
 have hvr : m.heap.get v = some (.row ev [p.fv, p.nv, p.dv, iv p.main, .slice r1 0 p.nodes.length p.nodes.length true, .slice r2 0 p.nodes.length p.nodes.length true, .slice r3 0 p.defs.length p.defs.length true, .lit (.bool bd)] v 0) := hvr
 obtain ⟨kk, ek⟩ : ∃ kk, kk = [AItem.code (cAt kdP (bodyF Tryz.f26))] := ⟨_, rfl⟩
 refine w_seq ?_
 refine w_region rfl ?_
 refine gr ?_
 refine q_nil ?_
 refine w_seq ?_
 change Wp Tryz.prog fl (At ⟨26, 249, false, none⟩ (.code (cAt [true, true, true, true, true, true, true, true, false] (bodyF Tryz.f26)) :: [.code (cAt kdP (bodyF Tryz.f26))]) _ [] .run up m) Q
 rw [← ek] at good ⊢
 have eS : swB p 4 nn sz s = ((decide (0 ≤ nn) && decide (nn < Int.ofNat p.defs.length)) && !inI nn s.2.1) := rfl
 have ret : swB p 4 nn sz s = false ∨ bd = true → ∀ {m1 : Mem} {tX : T AVal}, Wrote m m1 v (.row ev (lookC p r1 r2 r3 true) v 0) → Wp Tryz.prog fl (At ⟨26, 249, false, none⟩ [] tX [] .returning up m1) Q := by
  intro h m1 tX g
  refine bad ?_ m1 tX (Kept.wrote hw g hvr (fun _ h => by cases h) (.inl rfl)) ⟨_, _, _, R.setBad D g⟩
  unfold swF
  rcases h with h | h
  ·rw [h, Bool.and_false]; rfl
  ·rw [h]; rfl
 refine gg ?_
 refine w_draw (.L 0 0 0 (.L 1 1 1 (.L 2 3 0 (.L 3 7 0 (.L 4 15 0 (.L 5 31 1 (.L 6 15 0 (.L 7 79 0 (.L 8 207 0 (.L 9 463 0 (.L 10 975 1 (.L 11 1999 1 (.L 12 4095 0 (.L 13 8191 0 (.L 14 16383 0 (.L 15 32767 0 (.L 16 65535 0 (.L 17 131071 0 (.L 18 262143 1 (.L 19 32767 0 (.L 20 557055 1 (.L 21 2097151 0 (.L 22 4194303 1 (.L 23 8388607 0 (.L 24 16777215 0 .fin))))))))))))))))))))))))) rfl (by kernel_rfl) ?_
 have z0 : decide (0 ≤ nn) = !decide (nn < 0) := by rw [← decide_not, decide_eq_decide]; omega
 have z1 : decide (nn < Int.ofNat p.defs.length) = !decide (nn ≥ Int.ofNat p.defs.length) := by rw [← decide_not, decide_eq_decide]; omega
 rw [z0, z1] at eS
 cases c1 : decide (nn < 0) with
 | true =>
  rw [c1] at eS
  refine gg ?_
  refine s_put0 rfl rfl rfl (o_store rfl v0 hvr fv TyF.z rfl rfl rfl rfl) (fun m1 g => ?_)
  refine gg ?_
  refine w_retAt rfl ?_
  exact ret (.inl eS) g
 | false =>
  cases c2 : decide (nn ≥ Int.ofNat p.defs.length) with
  | true =>
   rw [c1, c2] at eS
   refine gg ?_
   refine s_put0 rfl rfl rfl (o_store rfl v0 hvr fv TyF.z rfl rfl rfl rfl) (fun m1 g => ?_)
   refine gg ?_
   refine w_retAt rfl ?_
   exact ret (.inl eS) g
  | false =>
   rw [c1, c2] at eS
   have c1' := c1
   have c2' := c2
   rw [decide_eq_false_iff_not] at c1' c2'
   obtain ⟨j, rfl⟩ : ∃ j : Nat, nn = Int.ofNat j := ⟨nn.toNat, by show nn = (nn.toNat : Int); omega⟩
   have hj : j < p.defs.length := by have h : ¬ (j : Int) ≥ (p.defs.length : Int) := c2'; omega
   have hat := R.at3 hj
   cases hu : df.getD j false with
   | true =>
    rw [hu] at hat
    have hat : getO (df.map cntA) (0 + j * 1) = some (iv 1) := hat
    refine gg ?_
    refine d_light0 rfl rfl (gT rfl ⟨v0⟩ (by assumption)).h rfl (o_indexAddr v0 v0 ElF.h hj) ?_
    refine d_light1 rfl rfl (gT rfl ⟨v0⟩ (by assumption)).h rfl (o_loadRow v0 h3r TyF.h TyF.z hat rfl) ?_
    refine gg ?_
    refine s_put0 rfl rfl rfl (o_store rfl v0 hvr fv TyF.z rfl rfl rfl rfl) (fun m1 g => ?_)
    refine gg ?_
    refine w_retAt rfl ?_
    refine ret ?_ g
    cases bd with
    | true => exact .inr rfl
    | false => refine .inl ?_; rw [eS, ← (V rfl).d j hj, hu]; rfl
   | false =>
    rw [hu] at hat
    have hat : getO (df.map cntA) (0 + j * 1) = some (iv 0) := hat
    refine gg ?_
    refine d_light0 rfl rfl (gT rfl ⟨v0⟩ (by assumption)).h rfl (o_indexAddr v0 v0 ElF.h hj) ?_
    refine d_light1 rfl rfl (gT rfl ⟨v0⟩ (by assumption)).h rfl (o_loadRow v0 h3r TyF.h TyF.z hat rfl) ?_
    refine gg ?_
    have hir : j < (df.map cntA).length := by rw [List.length_map, R.l3]; exact hj
    have es3 : (df.map cntA).set j (iv 1) = (df.set j true).map cntA := by rw [List.map_set]; rfl
    have y1 : -(2 ^ 62) ≤ (0 : Int) + 1 := by decide
    have y2 : (0 : Int) + 1 < 2 ^ 62 := by decide
    refine w_draw (.L 0 0 0 (.L 1 1 0 (.L 2 3 0 (.L 3 7 1 (.L 4 0 0 (.L 5 16 1 (.L 6 63 0 (.L 7 127 1 (.L 8 255 0 (.L 9 511 0 (.H 10 1023 3 .fin))))))))))) rfl (by kernel_rfl) ?_
    refine gg ?_
    refine d_light0 rfl rfl rfl rfl (o_indexAddr v0 v0 ElF.h hj) ?_
    refine d_light1 rfl rfl rfl rfl (o_loadRow v0 h3r TyF.h TyF.z hat rfl) ?_
    refine gg ?_
    refine d_light0 rfl rfl rfl rfl (o_indexAddr v0 v0 ElF.h hj) ?_
    refine d_put0 rfl rfl rfl (o_store (v := iv 1) (cells' := (df.set j true).map cntA) v0 v0 h3r f3 TyF.z rfl rfl rfl (by rw [show 0 + j * 1 = j by omega, ← es3]; exact put_set _ _ hir)) (lk_skip (by kernel_rfl) (lk_skip (by kernel_rfl) (lk_skip (by kernel_rfl) lk0))) (fun m1 g1 => ?_)
    refine ⟨(ck_skip (by kernel_rfl) (ck_skip (by kernel_rfl) (ck_skip (by kernel_rfl) ck0))), ?_⟩
    obtain ⟨d1, d2, d3, d4, d5, d6⟩ := D.h
    have n63 : r6 ≠ r3 := fun e => h6 (.inr (.inr (.inr e)))
    have K : Kept (fun q => m.next ≤ q ∨ (lkS v r1 r2 r3) q) m m1 := (Kept.refl hw).w g1 h3r (fun _ h => by cases h) (Or.inr (.inr (.inr (.inr rfl))))
    have w1 := K.wf
    have R1 := R.set3 D (List.length_set ..) g1
    have hvr := (g1.other v d3).trans hvr
    have h6r := (g1.other r6 n63).trans h6r
    have hp1 := hp.kept K
    obtain ⟨rd, offd, cd1, exd, rowd, hvd, hrd, htd⟩ := at_of hp1.d hj
    have eD : dfAt p (Int.ofNat j) = p.defs[j] := dfAt_eq hj
    have hdj : (dfAt p (Int.ofNat j)).OK m1 := by rw [eD]; exact hp1.do_ _ (List.getElem_mem hj)
    obtain ⟨o1, o2, o3⟩ := defB_own (hD _ (dfAt_mem hj))
    rw [← eD] at htd
    obtain ⟨dd, ed⟩ : ∃ dd, dd = dfAt p (Int.ofNat j) := ⟨_, rfl⟩
    rw [← ed] at htd hdj o1 o2 o3 good
    have adj : allCells dd.cells = true := ac1 hdj.c.cell (ac1 hdj.s.cell (ac1 hdj.r.cell rfl))
    have oc : (dd.chans.length : Int) + (dd.spots.length : Int) = moreD dd := rfl
    have x1 : -(2 ^ 62) ≤ sz + moreD dd := by omega
    have x2 : sz + moreD dd < 2 ^ 62 := by omega
    have lv2 := K.wf.lt hvr
    have l6 := K.wf.lt h6r
    have lrd := K.wf.lt hrd
    have kk1 := Kept.refl (S := noS) K.wf
    refine gg ?_
    refine w_draw (.L 0 0 0 (.L 1 0 0 (.L 2 2 0 (.L 3 6 0 (.L 4 14 0 (.L 5 30 1 (.L 6 0 0 (.L 7 64 1 (.L 8 254 0 (.L 9 510 1 (.H 10 1022 3 (.L 11 2047 0 (.L 12 4095 0 .fin))))))))))))) rfl (by kernel_rfl) ?_
    refine gg ?_
    refine d_light0 rfl rfl rfl rfl (o_indexAddr ((e_hit rfl).trans hvd) v0 ElF.h hj) ?_
    refine d_light1 rfl rfl rfl rfl (o_loadRoA v0 hrd (TyF.h (s := _)) (TyF.z (g := true)) htd) ?_
    refine d_callE K kk1 (o_calls (me1 v0)) (refOwn_ok hfl hdj (by omega) (by omega) K.wf) (lk_skip (by kernel_rfl) (lk_skip (by kernel_rfl) (lk_skip (by kernel_rfl) lk0))) (fun m2 K kk1 => ?_)
    refine ⟨(ck_skip (by kernel_rfl) (ck_skip (by kernel_rfl) (ck_skip (by kernel_rfl) ck0))), ?_⟩
    refine d_light0 rfl rfl rfl rfl (o_addI v0 v0 x1 x2) ?_
    have hvr := (kk1.get v lv2 id).trans hvr
    have h6r := (kk1.get r6 l6 id).trans h6r
    have hrd := (kk1.get rd lrd id).trans hrd
    have R2 := R1.kept kk1 w1
    have hp2 := hp1.kept kk1
    have hdj := hdj.kept kk1
    refine gg ?_
    refine w_draw (.L 0 0 0 (.L 1 0 0 (.L 2 2 0 (.L 3 6 0 (.L 4 14 0 (.L 5 30 1 (.L 6 0 0 (.L 7 64 1 (.L 8 254 0 (.L 9 510 1 (.L 10 0 0 (.H 11 2047 3 .fin)))))))))))) rfl (by kernel_rfl) ?_
    refine gg ?_
    refine d_light0 rfl rfl rfl rfl (o_indexAddr ((e_hit rfl).trans hvd) v0 ElF.h hj) ?_
    refine d_light1 rfl rfl rfl rfl (o_loadRoA v0 hrd (TyF.h (s := _)) (TyF.z (g := true)) htd) ?_
    obtain ⟨r, er⟩ : ∃ r : St SV Empty, r = swF p 4 (Int.ofNat j) sz s bd := ⟨_, rfl⟩
    have hr : LookQ p v r1 r2 r3 r m2 ∧ ∀ s', r = .go s' → muP p s' < k ∧ sz + 100 + 100 * (muP p s' : Int) ≤ 2 ^ 38 := by
     rw [er]
     cases bd with
     | true => exact ⟨⟨_, _, _, R2⟩, fun s' h => by cases h⟩
     | false =>
      have e : swF p 4 (Int.ofNat j) sz s false = .go (s.1, putI (Int.ofNat j) s.2) := by
       unfold swF
       rw [eS, ← (V rfl).d j hj, hu]; rfl
      rw [e]
      exact ⟨⟨_, _, _, R2, (V rfl).putI hj R.l3⟩, fun s' h => by cases h; exact hmu rfl⟩
    rw [← er] at good
    have w2 := K.wf
    have c6m : Cel m2 r6 [iv 4, iv (Int.ofNat j), av, kv] := Cel.of h6r ((kk1.fam r6 l6 id).trans ((g1.famo r6).trans f6))
    have l1 := R2.c1.lt w2
    have l2 := R2.c2.lt w2
    have l3 := R2.c3.lt w2
    have lv := R2.row.lt w2
    refine gg ?_
    refine d_call rfl rfl rfl rfl (o_calls (me3 v0 v0 v0)) (rdefn_ok hfl ih0 o1 ⟨o2, o3⟩ hz0 hz1 r w2 hr.1 ⟨lv, l1, l2, l3⟩ hdj hp2 hr.2) (lk_skip (by kernel_rfl) (lk_skip (by kernel_rfl) (lk_skip (by kernel_rfl) lk0))) ?_ (by rintro _ _ _ ⟨_, _, _, h, _⟩; cases h)
    rintro _ _ m3 ⟨_, _, _, hret, k3, hl3⟩
    cases hret
    refine ⟨(ck_skip (by kernel_rfl) (ck_skip (by kernel_rfl) (ck_skip (by kernel_rfl) ck0))), ?_⟩
    refine gg ?_
    refine Wp.gen (fun b' eb => ?_)
    exact good m3 b' (K.out.trans k3) hl3 ⟨o2, o3⟩ (eqb eb (e_base rfl k0)) (eqb eb v0) (eqb eb (e_base rfl k6))
end
noncomputable section
theorem fold_mu {p : AProg} {kf : Nat} {base : Int} {s' : SV} : ∀ (l : List (Int × Int)) (a : SV), foldSt (kidF p kf base) a l = .go s' → muP p s' ≤ muP p a := by
 intro l
 induction l with
 | nil => intro a h; cases h; exact Nat.le_refl _
 | cons c l ih =>
  intro a h
  cases e2 : kidF p kf base a c with
  | go a2 => rw [fold_go e2] at h; exact Nat.le_trans (ih a2 h) (kid_mu e2)
  | stop t => exact t.elim
  | fail c => rw [fold_fail e2] at h; cases h
theorem thenF_mu {p : AProg} {kf : Nat} {base : Int} {s' : SV} {r : St SV Empty} {l : List (Int × Int)} (h : thenF (kidF p kf base) r l = .go s') : ∃ s, r = .go s ∧ muP p s' ≤ muP p s := by
 cases r with
 | go s => exact ⟨s, rfl, fold_mu _ _ h⟩
 | stop t => exact t.elim
 | fail c => cases h
theorem swF_mu {p : AProg} {op nn sz : Int} {s s' : SV} {bd : Bool} (h : swF p op nn sz s bd = .go s') : bd = false ∧ muP p s' = muP p s := by
 unfold swF at h
 cases bd with
 | true => cases h
 | false =>
  cases e : swB p op nn sz s with
  | false => rw [e] at h; cases h
  | true =>
   rw [e] at h
   cases h
   refine ⟨rfl, ?_⟩
   unfold swS
   by_cases h4 : op = 4
   ·rw [if_pos h4]; rfl
   ·rw [if_neg h4]
theorem own_split (d : ADf) (op nn : Int) (av kv : AVal) (args : List AX) (kids : List Int) : ownL d ⟨op, nn, av, kv, args, kids⟩ = defL d ++ kids.map (fun x => (x, moreD d)) := by
 unfold ownL defL
 rw [List.append_assoc]
theorem thenF_fail {f : SV → Int × Int → St SV Empty} (c : Chain) (l : List (Int × Int)) : thenF f (.fail c) l = .fail c := rfl
variable {fl : Fl} (hfl : Tab fl)
include hfl
theorem rn_tl {p : AProg} {v r1 r2 r3 r6 k : Nat} (ih0 : RNode fl p v r1 r2 r3 k) {op nn sz w : Int} {av kv : AVal} {kids : List Int} {r : St SV Empty} {m : Mem} (hm : 0 ≤ w ∧ w ≤ 60) (hz0 : 0 ≤ sz) (hz1 : sz ≤ 2 ^ 38) (hmu : ∀ s, r = .go s → muP p s < k ∧ sz + 100 + 100 * (muP p s : Int) ≤ 2 ^ 38) (h6 : ¬ lkS v r1 r2 r3 r6) (hw : Wf m) (hp : p.OK m) (hl : LookQ p v r1 r2 r3 r m) (c6 : Cel m r6 [iv op, iv nn, av, kv]) (hk : SlA m kv 1 (kids.map icells)) (b : T AVal) (k0 : getT b 0 = .ptr v 0) (k11 : getT b 11 = iv (sz + w)) (k6 : getT b 6 = .ptr r6 0) :
  Wp Tryz.prog fl (At ⟨26, 249, false, none⟩ [.code (cAt kdP (bodyF Tryz.f26))] (sets 249 b []) [] .run [] m) (fun q => ∃ vv u m', q = .ret vv u m' ∧ Kept (lkS v r1 r2 r3) m m' ∧ LookQ p v r1 r2 r3 (thenF (kidF p k sz) r (kids.map (fun x => (x, w)))) m') := by
 refine gg ?_
 refine w_loop ?_
 refine Wp.gen (fun b1 eb => ?_)
 change Wp Tryz.prog fl (At _ _ (sets 249 b1 []) _ _ _ _) _
 refine rn_kids hfl ih0 hm hz0 hz1 h6 hp.f.cell hp.n.cell hp.d.cell _ kids [] r b1 rfl hw hl hk hp c6 hmu (eqb eb (e_base rfl k0)) (eqb eb (e_base rfl k11)) (eqb eb (e_base rfl k6)) (eqb eb v0) (fun m' b' km hl' _ _ _ => ?_)
 refine w_fall rfl ?_
 refine w_results Tryz.func26 rv0 ?_
 exact ⟨_, _, _, rfl, km, hl'⟩
theorem rn_rest {p : AProg} {v r1 r2 r3 r6 k : Nat} (D : Dist v r1 r2 r3) (hD : ∀ d, d ∈ p.defs → defB d = true) (ih0 : RNode fl p v r1 r2 r3 k) {op nn sz : Int} {av kv : AVal} {args : List AX} {kids : List Int} {s : SV} {szs : List Int} {nd df : List Bool} {bd : Bool} {m : Mem} (hz0 : 0 ≤ sz) (hz1 : sz ≤ 2 ^ 38) (hmu : bd = false → muP p s < k ∧ sz + 100 + 100 * (muP p s : Int) ≤ 2 ^ 38) (h6 : ¬ lkS v r1 r2 r3 r6) (hw : Wf m) (hp : p.OK m) (R : RowsM p v r1 r2 r3 bd szs nd df m) (V : bd = false → SameV p s szs nd df) (c6 : Cel m r6 [iv op, iv nn, av, kv]) (ca : isCell av = true) (hk : SlA m kv 1 (kids.map icells)) (b : T AVal) (k0 : getT b 0 = .ptr v 0) (k2 : getT b 2 = iv sz) (k6 : getT b 6 = .ptr r6 0) :
  Wp Tryz.prog fl (At ⟨26, 249, false, none⟩ [.code (cAt arP (bodyF Tryz.f26))] (sets 249 b []) [] .run [] m) (fun q => ∃ vv u m', q = .ret vv u m' ∧ Kept (lkS v r1 r2 r3) m m' ∧ LookQ p v r1 r2 r3 (thenF (kidF p k sz) (swF p op nn sz s bd) (ownL (ownN p op nn) ⟨op, nn, av, kv, args, kids⟩)) m') := by
 rw [own_split, thenF_append]
 have l6 := c6.lt hw
 by_cases h4 : op = 4
 ·subst h4
  have e4 : ownN p 4 nn = dfAt p nn := rfl
  rw [e4]
  refine rn_swd hfl D hD ih0 hz0 hz1 hmu h6 hw hp R V c6 ca hk.cell b k0 k2 k6 (fun m1 b1 k1 hl1 hm1 y0 y11 y6 => ?_) (fun hs m1 b1 k1 hB => ?_)
  ·refine (rn_tl hfl ih0 (r := thenF (kidF p k sz) (swF p 4 nn sz s bd) (defL (dfAt p nn))) hm1 hz0 hz1 (fun s' e => ?_) h6 k1.wf (hp.kept k1) hl1 (c6.kept k1 l6 h6) (hk.kept k1) b1 y0 y11 y6).mono ?_
   ·obtain ⟨s2, e2, h2⟩ := thenF_mu e
    obtain ⟨e3, h3⟩ := swF_mu e2
    have := hmu e3
    exact ⟨by omega, by omega⟩
   ·rintro q ⟨vv, u, m', e, km, h⟩
    exact ⟨vv, u, m', e, k1.trans km, h⟩
  ·refine w_results Tryz.func26 rv0 ?_
   rw [hs, thenF_fail, thenF_fail]
   exact ⟨_, _, _, rfl, k1, hB⟩
 ·have e4 : ownN p op nn = ⟨nilS, nilS, nilS, [], [], []⟩ := by unfold ownN; rw [if_neg h4]
  rw [e4]
  have e5 : ∀ r : St SV Empty, thenF (kidF p k sz) r (defL ⟨nilS, nilS, nilS, [], [], []⟩) = r := by intro r; cases r <;> rfl
  rw [e5]
  refine rn_sw hfl D h4 h6 hw hp R V c6 ca hk.cell b k0 k2 k6 (fun m1 b1 k1 hl1 y0 y11 y6 => ?_)
  refine (rn_tl hfl ih0 (w := 0) (r := swF p op nn sz s bd) ⟨by decide, by decide⟩ hz0 hz1 (fun s' e => ?_) h6 k1.wf (hp.kept k1) hl1 (c6.kept k1 l6 h6) (hk.kept k1) b1 y0 (y11.trans (by rw [Int.add_zero])) y6).mono ?_
  ·obtain ⟨e3, h3⟩ := swF_mu e
   have := hmu e3
   exact ⟨by omega, by omega⟩
  ·rintro q ⟨vv, u, m', e, km, h⟩
   exact ⟨vv, u, m', e, k1.trans km, h⟩
end
noncomputable section
theorem put_mu {p : AProg} {i : Nat} {sz : Int} {s : SV} {t : SI} (hi : i < p.nodes.length) (hin : inI (Int.ofNat i) s.1.1 = false) : muP p (putN (Int.ofNat i) sz s.1, t) < muP p s := by
 unfold muP
 refine filter_lt (a := i) (fun j hj => ?_) (List.mem_range.2 hi) ?_ ?_
 ·have hj : (!inI (Int.ofNat j) (addI (Int.ofNat i) (iv sz) s.1.1 s.1.2)) = true := hj
  rw [inI_add, Bool.not_or, Bool.and_eq_true] at hj
  exact hj.1
 ·rw [hin]; rfl
 ·show (!inI (Int.ofNat i) (addI (Int.ofNat i) (iv sz) s.1.1 s.1.2)) = false
  rw [inI_add]; simp
theorem findI_other {j n : Int} {v : AVal} {l : List EntI} {c : Nat} (h : (j == n) = false) : findI j (addI n v l c) = findI j l := by
 unfold addI
 cases hf : findI n l with
 | some u => rfl
 | none =>
  show findI j (l ++ [(n, v, c)]) = findI j l
  unfold findI
  rw [List.find?_append]
  cases hl : l.find? fun x => j == x.1 with
  | some u => rfl
  | none => simp [h]
theorem findI_new {n : Int} {v : AVal} {l : List EntI} {c : Nat} (h : findI n l = none) : findI n (addI n v l c) = some v := by
 have e : addI n v l c = l ++ [(n, v, c)] := by unfold addI; rw [h]
 rw [e]
 have hl : (l.find? fun x => n == x.1) = none := by
  unfold findI at h
  rw [Option.map_eq_none_iff] at h
  exact h
 unfold findI
 rw [List.find?_append, hl]
 simp
theorem SameV.putN {p : AProg} {s : SV} {szs : List Int} {nd df : List Bool} {i : Nat} {sz : Int} (V : SameV p s szs nd df) (hi : i < p.nodes.length) (hin : inI (Int.ofNat i) s.1.1 = false) (l1 : szs.length = p.nodes.length) (l2 : nd.length = p.nodes.length) : SameV p (Go.Proofs.YtmbeijhnjaadhaaGreat.putN (Int.ofNat i) sz s.1, s.2) (szs.set i sz) (nd.set i true) df := by
 have hne : ∀ j : Nat, i ≠ j → (Int.ofNat j == Int.ofNat i) = false := fun j e => by rw [beq_eq_false_iff_ne]; intro h; exact e (Int.ofNat.inj h).symm
 refine ⟨fun j hj => ?_, fun j hj hjn => ?_, V.d, cnt_add (by omega) (V.n i hi) V.c1, V.c2⟩
 ·show _ = inI (Int.ofNat j) (addI (Int.ofNat i) (iv sz) s.1.1 s.1.2)
  rw [inI_add, ← V.n j hj, List.getD_eq_getElem?_getD, List.getD_eq_getElem?_getD, List.getElem?_set]
  by_cases e : i = j
  ·subst e
   rw [if_pos rfl, if_pos (by omega)]; simp
  ·rw [if_neg e, hne j e, Bool.or_false]
 ·have hjn : inI (Int.ofNat j) (addI (Int.ofNat i) (iv sz) s.1.1 s.1.2) = true := hjn
  rw [inI_add] at hjn
  show sizeA (addI (Int.ofNat i) (iv sz) s.1.1 s.1.2, _) j = _
  rw [List.getD_eq_getElem?_getD, List.getElem?_set]
  by_cases e : i = j
  ·subst e
   rw [if_pos rfl, if_pos (by omega)]
   unfold sizeA
   dsimp only
   rw [findI_new (by unfold inI at hin; exact Option.isNone_iff_eq_none.1 (by rw [← Option.not_isSome, hin]; rfl))]
   rfl
  ·rw [if_neg e]
   rw [hne j e, Bool.or_false] at hjn
   have := V.z j hj hjn
   rw [List.getD_eq_getElem?_getD] at this
   rw [← this]
   unfold sizeA
   dsimp only
   rw [findI_other (hne j e)]
theorem step_val {p : AProg} {s s' : SV} {x : Int × Int} (h : stepO p s x = some s') : s' = swS (ndAt p x.1).op (ndAt p x.1).n (Go.Proofs.YtmbeijhnjaadhaaGreat.putN x.1 x.2 s.1, s.2) := by
 unfold stepO at h
 cases h1 : (decide (0 ≤ x.1) && decide (x.1 ≤ Int.ofNat p.nodes.length - 1)) && !inI x.1 s.1.1 with
 | false => rw [h1] at h; cases h
 | true =>
  rw [h1, cond_true] at h
  cases h2 : nodeB p.defs.length x.2 (ndAt p x.1).op (ndAt p x.1).n (ndAt p x.1).args.length (ndAt p x.1).kids.length && (ndAt p x.1).args.all (argB x.2) with
  | false => rw [h2] at h; cases h
  | true =>
   rw [h2, cond_true] at h
   unfold kidsB at h
   unfold swS
   by_cases h4 : (ndAt p x.1).op = 4
   ·rw [if_pos h4] at h ⊢
    cases h5 : (!inI (ndAt p x.1).n s.2.1) && defB (dfAt p (ndAt p x.1).n) with
    | false => rw [h5] at h; cases h
    | true => rw [h5, cond_true] at h; cases h; rfl
   ·rw [if_neg h4] at h ⊢
    cases h; rfl
theorem node_end {p : AProg} {s : SV} {i k : Nat} {sz op nn : Int} {av kv : AVal} {args : List AX} {kids : List Int} (eN : ndAt p (Int.ofNat i) = ⟨op, nn, av, kv, args, kids⟩) (hS : (stepO p s (Int.ofNat i, sz)).isSome = (!argsBad sz args && swB p op nn sz (Go.Proofs.YtmbeijhnjaadhaaGreat.putN (Int.ofNat i) sz s.1, s.2))) : thenF (kidF p k sz) (swF p op nn sz (Go.Proofs.YtmbeijhnjaadhaaGreat.putN (Int.ofNat i) sz s.1, s.2) (argsBad sz args)) (ownL (ownN p op nn) ⟨op, nn, av, kv, args, kids⟩) = wkN p (stepV p) (k + 1) (Int.ofNat i, sz) s := by
 unfold swF
 cases hb : (!argsBad sz args && swB p op nn sz (Go.Proofs.YtmbeijhnjaadhaaGreat.putN (Int.ofNat i) sz s.1, s.2)) with
 | false =>
  rw [hb] at hS
  rw [wk_fail hS]; rfl
 | true =>
  rw [hb] at hS
  obtain ⟨s', hs⟩ := Option.isSome_iff_exists.1 hS
  have e := step_val hs
  have e2 : stepV p s (Int.ofNat i, sz) = .go s' := by unfold stepV; rw [hs]
  rw [wkN, e2]
  show foldSt (kidF p k sz) _ _ = foldSt (kidF p k sz) s' (ownL (ownD p (ndAt p (Int.ofNat i))) (ndAt p (Int.ofNat i)))
  dsimp only at e
  rw [eN] at e ⊢
  rw [e]; rfl
variable {fl : Fl} (hfl : Tab fl)
include hfl
theorem rnode_ok {p : AProg} {v r1 r2 r3 k : Nat} (D : Dist v r1 r2 r3) (hD : ∀ d, d ∈ p.defs → defB d = true) (ih0 : RNode fl p v r1 r2 r3 k) : RNode fl p v r1 r2 r3 (k + 1) := by
 rintro ⟨n, sz⟩ s m hmu hz0 hz1 hw hp hl
 obtain ⟨szs, nd, df, R, V⟩ := hl
 obtain ⟨d1, d2, d3, d4, d5, d6⟩ := D.h
 have hz0 : 0 ≤ sz := hz0
 have hz1 : sz + 100 * (muP p s : Int) ≤ 2 ^ 38 := hz1
 have hS := step_ref hD s (n, sz)
 dsimp only at hS
 have cf := hp.f.cell
 have cn := hp.n.cell
 have cd := hp.d.cell
 have ln := hp.n.lenM
 have ld := hp.d.lenM
 obtain ⟨⟨ev, hvr⟩, fv⟩ := R.row
 obtain ⟨⟨e1, h1r⟩, f1⟩ := R.c1
 obtain ⟨⟨e2, h2r⟩, f2⟩ := R.c2
 obtain ⟨⟨e3, h3r⟩, f3⟩ := R.c3
 have hvr : m.heap.get v = some (.row ev [p.fv, p.nv, p.dv, iv p.main, .slice r1 0 p.nodes.length p.nodes.length true, .slice r2 0 p.nodes.length p.nodes.length true, .slice r3 0 p.defs.length p.defs.length true, .lit (.bool false)] v 0) := hvr
 show CallQ Tryz.prog fl 26 [.ptr v 0, iv n, iv sz] m (NodeQ p v r1 r2 r3 m (wkN p (stepV p) (k + 1) (n, sz) s))
 refine hfl.start (by decide) 249 Tryz.func26 rfl rfl (Nat.le_of_ble_eq_true rfl) ?_
 intro bs hb
 have ar0 := hb 0 _ rfl
 have ar1 := hb 1 _ rfl
 have ar2 := hb 2 _ rfl
 clear hb
 have K : Kept (fun q => m.next ≤ q ∨ (lkS v r1 r2 r3) q) m m := Kept.refl hw
 by_cases hin : 0 ≤ n ∧ n < Int.ofNat p.nodes.length
 rotate_left
 ·have hfalse : (decide (0 ≤ n) && decide (n < Int.ofNat p.nodes.length)) = false := by
   rw [← Bool.not_eq_true]
   simp only [Bool.and_eq_true, decide_eq_true_eq]
   exact hin
  rw [hfalse] at hS
  rw [wk_fail hS]
  have hc2 : decide (n < 0) = true ∨ (decide (n < 0) = false ∧ decide (n ≥ Int.ofNat p.nodes.length) = true) := by
   by_cases h : n < 0
   ·exact .inl (by simpa using h)
   ·refine .inr ⟨by simpa using h, ?_⟩
    rw [decide_eq_true_eq]; omega
  rcases hc2 with c1 | ⟨c1, c2⟩
  all_goals
   refine gg ?_
   refine s_put0 rfl rfl rfl (o_store rfl v0 hvr fv TyF.z rfl rfl rfl rfl) (fun m1 g => ?_)
   have K := K.w g hvr (fun _ h => by cases h) (Or.inr (.inl rfl))
   refine gg ?_
   refine w_retAt rfl ?_
   refine w_results Tryz.func26 rv0 ?_
   exact ⟨_, _, _, rfl, K.out, _, _, _, R.setBad D g⟩
 obtain ⟨i, rfl⟩ : ∃ i : Nat, n = Int.ofNat i := ⟨n.toNat, by show n = (n.toNat : Int); omega⟩
 have hi : i < p.nodes.length := by have h : (i : Int) < (p.nodes.length : Int) := hin.2; omega
 have htrue : (decide (0 ≤ Int.ofNat i) && decide (Int.ofNat i < Int.ofNat p.nodes.length)) = true := by
  simp only [Bool.and_eq_true, decide_eq_true_eq]
  exact hin
 rw [htrue, Bool.true_and] at hS
 have c1 : decide (Int.ofNat i < 0) = false := by rw [decide_eq_false_iff_not]; omega
 have c2 : decide (Int.ofNat i ≥ Int.ofNat p.nodes.length) = false := by rw [decide_eq_false_iff_not]; omega
 have hVn := V.n i hi
 have hat := R.at2 hi
 rw [hVn] at hat
 cases hI : inI (Int.ofNat i) s.1.1 with
 | true =>
  rw [hI] at hS hat
  have hat : getO (nd.map cntA) (0 + i * 1) = some (iv 1) := hat
  rw [wk_fail hS]
  refine gg ?_
  refine s_val rfl (gT rfl ⟨v0⟩ (by assumption)).h rfl rfl (o_indexAddr v0 v0 ElF.h hi) ?_
  refine s_val rfl (gT rfl ⟨v0⟩ (by assumption)).h rfl rfl (o_loadRow v0 h2r TyF.h TyF.z hat rfl) ?_
  refine gg ?_
  refine s_put0 rfl rfl rfl (o_store rfl v0 hvr fv TyF.z rfl rfl rfl rfl) (fun m1 g => ?_)
  have K := K.w g hvr (fun _ h => by cases h) (Or.inr (.inl rfl))
  refine gg ?_
  refine w_retAt rfl ?_
  refine w_results Tryz.func26 rv0 ?_
  exact ⟨_, _, _, rfl, K.out, _, _, _, R.setBad D g⟩
 | false =>
  rw [hI] at hS hat
  have hat : getO (nd.map cntA) (0 + i * 1) = some (iv 0) := hat
  refine gg ?_
  refine s_val rfl (gT rfl ⟨v0⟩ (by assumption)).h rfl rfl (o_indexAddr v0 v0 ElF.h hi) ?_
  refine s_val rfl (gT rfl ⟨v0⟩ (by assumption)).h rfl rfl (o_loadRow v0 h2r TyF.h TyF.z hat rfl) ?_
  refine gg ?_
  have hir : i < (nd.map cntA).length := by rw [List.length_map, R.l2]; exact hi
  have his : i < (szs.map iv).length := by rw [List.length_map, R.l1]; exact hi
  have es2 : (nd.map cntA).set i (iv 1) = (nd.set i true).map cntA := by rw [List.map_set]; rfl
  have es1 : (szs.map iv).set i (iv sz) = (szs.set i sz).map iv := by rw [List.map_set]
  have b1 : -(2 ^ 62) ≤ (0 : Int) + 1 := by decide
  have b2 : (0 : Int) + 1 < 2 ^ 62 := by decide
  refine s_val rfl rfl rfl rfl (o_indexAddr v0 v0 ElF.h hi) ?_
  refine s_val rfl rfl rfl rfl (o_loadRow v0 h2r TyF.h TyF.z hat rfl) ?_
  refine gg ?_
  refine s_val rfl rfl rfl rfl (o_indexAddr v0 v0 ElF.h hi) ?_
  refine s_put0 rfl rfl rfl (o_store (v := iv 1) (cells' := (nd.set i true).map cntA) v0 v0 h2r f2 TyF.z rfl rfl rfl (by rw [show 0 + i * 1 = i by omega, ← es2]; exact put_set _ _ hir)) (fun m1 g1 => ?_)
  have R1 := R.set2 D (List.length_set ..) g1
  have K := K.w g1 h2r (fun _ h => by cases h) (Or.inr (.inr (.inr (.inl rfl))))
  have hvr := (g1.other v (by omega)).trans hvr
  have h1r := (g1.other r1 (by omega)).trans h1r
  have f1 := (g1.famo r1).trans f1
  refine gg ?_
  refine s_val rfl rfl rfl rfl (o_indexAddr v0 v0 ElF.h hi) ?_
  refine s_put0 rfl rfl rfl (o_store (v := iv sz) (cells' := (szs.set i sz).map iv) v0 v0 h1r f1 TyF.z rfl rfl rfl (by rw [show 0 + i * 1 = i by omega, ← es1]; exact put_set _ _ his)) (fun m2 g2 => ?_)
  have R2 := R1.set1 D (List.length_set ..) g2
  have K := K.w g2 h1r (fun _ h => by cases h) (Or.inr (.inr (.inl rfl)))
  have hvr := (g2.other v (by omega)).trans hvr
  have hp2 := hp.kept K
  obtain ⟨rn, on, cn', en, rown, hnv, hrn, htn⟩ := at_of hp2.n hi
  have hno : p.nodes[i].OK m2 := hp2.no _ (List.getElem_mem hi)
  have eN : ndAt p (Int.ofNat i) = p.nodes[i] := ndAt_eq hi
  refine gg ?_
  refine s_val rfl rfl rfl rfl (o_indexAddr ((e_hit rfl).trans hnv) v0 ElF.h hi) ?_
  refine s_val rfl rfl rfl rfl (o_loadRoA v0 hrn (TyF.h (s := _)) (TyF.z (g := true)) htn) ?_
  refine gg ?_
  obtain ⟨e, he⟩ : ∃ e, e = p.nodes[i] := ⟨_, rfl⟩
  rw [← he] at hno eN
  rw [eN] at hS
  obtain ⟨op, nn, av, kv, args, kids⟩ := e
  dsimp only at hS
  have ac : allCells [iv op, iv nn, av, kv] = true := ac1 rfl (ac1 rfl (ac1 hno.a.cell (ac1 hno.k.cell rfl)))
  have ca := hno.a.cell
  have ck := hno.k.cell
  have la := hno.a.lenM
  have lk := hno.k.lenM
  have eC : ANode.cells p.nodes[i] = [iv op, iv nn, av, kv] := by rw [← he]; rfl
  rw [eC]
  refine s_new rfl rfl rfl rfl (o_alloc ZcF.h) (fun m3 g3 => ?_)
  have n3 := g3.next
  have h6 := g3.same
  have f6 := g3.fam0 K.wf
  have w2 := K.wf
  have lv2 := w2.lt hvr
  have nK2 := K.next
  have K := K.g g3
  have k3 : Kept noS m2 m3 := Kept.grew w2 g3
  refine gg ?_
  refine s_put0 rfl rfl rfl (o_store (v := .agg [iv op, iv nn, av, kv]) v0 v0 h6 f6 TyF.z rfl rfl ac rfl) (fun m4 g4 => ?_)
  have n4 := g4.next
  have K := K.w g4 h6 (fun _ h => by cases h) (Or.inl (by omega))
  have kk : Kept noS m2 m4 := (((Kept.refl (S := fun q => m2.next ≤ q ∨ noS q) w2).g g3).w g4 h6 (fun _ h => by cases h) (Or.inl (Nat.le_refl _))).out
  have h6 : m4.heap.get m2.next = some (.row (69, 0) [iv op, iv nn, av, kv] m2.next 0) := g4.same
  have f6 := (g4.famo m2.next).trans f6
  have R4 := R2.kept kk w2
  have hvr := (kk.get v lv2 id).trans hvr
  refine gg ?_
  refine s_callD K h6 f6 (o_calls (me1 v0)) (shape_ok hfl op K.wf) (fun m5 k5 K h6 f6 => ?_)
  have R5 := R4.kept k5 (kk.wf)
  have hvr := (k5.get v (kk.wf.lt hvr) id).trans hvr
  have fv5 := R5.row.fam
  have bad : (stepO p s (Int.ofNat i, sz)).isSome = false → ∀ {bX : T AVal} {lX : List (Nat × AVal)} {mX : Mem} {todo : List AItem} {eX : Elem}, Wrote m5 mX v (.row eX (lookC p r1 r2 r3 true) v 0) → Wp Tryz.prog fl (At ⟨26, 249, false, none⟩ [] (sets 249 bX lX) [] .returning [] mX) (NodeQ p v r1 r2 r3 m (wkN p (stepV p) (k + 1) (Int.ofNat i, sz) s)) := by
   intro hno bX lX mX todo eX g
   rw [wk_fail hno]
   have K := K.w g hvr (fun _ h => by cases h) (Or.inr (.inl rfl))
   refine w_results Tryz.func26 rv0 ?_
   exact ⟨_, _, _, rfl, K.out, _, _, _, R5.setBad D g⟩
  obtain ⟨sa, sk, so, eS⟩ : ∃ a b c, shapeF op = (a, b, c) := ⟨_, _, _, rfl⟩
  have eT : shapeT op = .tuple [iv sa, iv sk, .lit (.bool so)] := by unfold shapeT; rw [eS]
  have eR : refShape op args.length kids.length = ((so && (Int.ofNat kids.length == sk)) && (if sa < 0 then decide (Int.ofNat args.length ≤ 3) else Int.ofNat args.length == sa)) := by unfold refShape; rw [eS]
  rw [eT]
  rw [eR] at hS
  refine gr ?_
  refine q_nil ?_
  refine Wp.gen (fun b2 eb => ?_)
  change Wp Tryz.prog fl (At _ _ (sets 249 b2 []) _ _ _ _) _
  refine rn_shape hfl (args := args.length) (kids := kids.length) (x1 := iv (Int.ofNat i)) (x2 := iv sz) (sa := sa) (sk := sk) (so := so) hvr fv5 h6 cf cn cd ca ck la lk b2 (eqb eb (e_base rfl ar0)) (eqb eb (e_base rfl ar1)) (eqb eb (e_base rfl ar2)) (eqb eb v0) (eqb eb v0) (eqb eb v0) (eqb eb v0) (fun hg b3 y0 y1 y2 y6 => ?_) (fun hb mX b3 g => ?_)
  rotate_left
  ·rw [hb] at hS
   exact bad hS (bX := b3) (lX := []) (todo := []) g
  rw [hg, Bool.true_and] at hS
  change Wp Tryz.prog fl (At _ _ (sets 249 b3 []) _ _ _ _) _
  have V1 : SameV p (putN (Int.ofNat i) sz s.1, s.2) (szs.set i sz) (nd.set i true) df := V.putN hi hI R.l1 R.l2
  have hmu1 := put_mu (sz := sz) (t := s.2) hi hI
  have n5 := k5.next
  have l4 := R2.row.lt w2
  have lr1 := R2.c1.lt w2
  have lr2 := R2.c2.lt w2
  have lr3 := R2.c3.lt w2
  have h6n : ¬ lkS v r1 r2 r3 m2.next := by rintro (h | h | h | h) <;> omega
  have k25 := kk.trans k5
  have h5n := hno.kept k25
  have hp5 := hp2.kept k25
  refine gg ?_
  refine w_loop ?_
  refine Wp.gen (fun b4 eb => ?_)
  change Wp Tryz.prog fl (At _ _ (sets 249 b4 []) _ _ _ _) _
  refine exps_loop hfl (els := args) (fun e => h6n (.inl e)) cf cn cd _ args [] false b4 rfl K.wf R5.row (Cel.of h6 f6) h5n.a h5n.e (eqb eb (e_base rfl y0)) (eqb eb (e_base rfl y1)) (eqb eb (e_base rfl y2)) (eqb eb (e_base rfl y6)) (eqb eb v0) (fun m6 b5 k6 hv6 y0 _ y2 y6 => ?_)
  have R6 : RowsM p v r1 r2 r3 (argsBad sz args) (szs.set i sz) (nd.set i true) df m6 := ⟨hv6, R5.c1.kept k6 (by omega) (by omega), R5.c2.kept k6 (by omega) (by omega), R5.c3.kept k6 (by omega) (by omega), R5.l1, R5.l2, R5.l3⟩
  have hn6 := h5n.kept k6
  change Wp Tryz.prog fl (At _ _ (sets 249 b5 []) _ _ _ _) _
  refine (rn_rest hfl D hD ih0 (op := op) (nn := nn) (args := args) (kids := kids) hz0 (by omega) (fun _ => ⟨by omega, by omega⟩) h6n k6.wf (hp5.kept k6) R6 (fun _ => V1) ((Cel.of h6 f6).kept k6 (by omega) (by omega)) ca hn6.k b5 y0 y2 y6).mono ?_
  rintro q ⟨vv, u, m', e, km, h⟩
  rw [node_end eN hS] at h
  exact ⟨vv, u, m', e, (K.out.trans (k6.mono (fun q _ h => .inl h))).trans km, h⟩
end
end Go.Proofs.YtmbeijhnjaadhaaGreat
