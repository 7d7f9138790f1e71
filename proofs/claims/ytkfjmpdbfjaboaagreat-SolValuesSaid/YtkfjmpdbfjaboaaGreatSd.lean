/- A part of the proof of SolValues. -/
import Derived.Test.YtkfjmpdbfjaboaaGreatSp
namespace Go.Proofs.YtkfjmpdbfjaboaaGreat
open Go Go.Abs
open Go.RowKit (Below)
set_option maxRecDepth 10000
noncomputable section
variable {fl : Fl} (hfl : Tab fl)
include hfl
omit hfl in
def visF (c s v : Nat) : AVal := .func (.func 91) [] [.ptr c 0, .ptr s 0, .ptr v 0]
omit hfl in
def VisQ (m : Mem) (c : Nat) (r : Bool × Int) : RR → Prop := fun q => ∃ u m', q = .ret (.lit (.bool r.1)) u m' ∧ Kept (fun q => q = c) m m' ∧ Cel m' c [iv r.2]
omit hfl in
theorem vis_far {sz : Int} {n : Nat} {d cnt : Int} {e : AX} (h : 60 < cnt + 1 ∨ 12 < d) : visN sz (n + 1) d e cnt = (false, cnt + 1) := by
 obtain ⟨op, nn, kv, kids⟩ := e
 unfold visN; dsimp only; rw [if_pos h]
omit hfl in
theorem vis_int {sz : Int} {n : Nat} {d cnt op nn : Int} {kv : AVal} {kids : List AX} (h : ¬ (60 < cnt + 1 ∨ 12 < d)) (z : op = 1) : visN sz (n + 1) d (.mk op nn kv kids) cnt = (kids.isEmpty && ranged nn, cnt + 1) := by
 unfold visN; dsimp only; rw [if_neg h, if_pos z]
omit hfl in
theorem vis_name {sz : Int} {n : Nat} {d cnt op nn : Int} {kv : AVal} {kids : List AX} (h : ¬ (60 < cnt + 1 ∨ 12 < d)) (z : op ≠ 1) (y : op = 2) : visN sz (n + 1) d (.mk op nn kv kids) cnt = (kids.isEmpty && (decide (0 ≤ nn) && decide (nn < sz)), cnt + 1) := by
 unfold visN; dsimp only; rw [if_neg h, if_neg z, if_pos y]
omit hfl in
theorem vis_two {sz : Int} {n : Nat} {d cnt op nn : Int} {kv : AVal} {a b : AX} (h : ¬ (60 < cnt + 1 ∨ 12 < d)) (z : 3 ≤ op ∧ op ≤ 7) (y : nn = 0) : visN sz (n + 1) d (.mk op nn kv [a, b]) cnt = if (visN sz n (d + 1) a (cnt + 1)).1 = true then visN sz n (d + 1) b (visN sz n (d + 1) a (cnt + 1)).2 else (false, (visN sz n (d + 1) a (cnt + 1)).2) := by
 rw [visN]; dsimp only; rw [if_neg h, if_neg (by omega), if_neg (by omega), if_pos ⟨z, y⟩]
omit hfl in
theorem vis_not {sz : Int} {n : Nat} {d cnt op nn : Int} {kv : AVal} {kids : List AX} (h : ¬ (60 < cnt + 1 ∨ 12 < d)) (z : op ≠ 1) (y : op ≠ 2) (x : ¬ (3 ≤ op ∧ op ≤ 7) ∨ kids.length ≠ 2 ∨ nn ≠ 0) : visN sz (n + 1) d (.mk op nn kv kids) cnt = (false, cnt + 1) := by
 unfold visN; dsimp only; rw [if_neg h, if_neg z, if_neg y]
 rcases kids with _ | ⟨a, _ | ⟨b, _ | ⟨w, l⟩⟩⟩
 ·rfl
 ·rfl
 ·dsimp only
  rw [if_neg]
  rintro ⟨h1, h2⟩
  rcases x with x | x | x
  ·exact x h1
  ·exact x rfl
  ·exact x h2
 ·rfl
omit hfl in
theorem len_emp {kids : List AX} : (Int.ofNat kids.length == 0) = kids.isEmpty := by
 cases kids with
 | nil => rfl
 | cons a l => show (Int.ofNat (l.length + 1) == 0) = false; rw [beq_eq_false_iff_ne]; show ((l.length + 1 : Nat) : Int) ≠ 0; omega
omit hfl in
theorem vis_tail {c s v : Nat} {sz : Int} (hcs : c ≠ s ∧ c ≠ v) {n : Nat} (ih : ∀ (e : AX) (d cnt : Int) {m : Mem}, SizeOf.sizeOf e < n → 1 ≤ d → d ≤ 13 → 0 ≤ cnt → cnt ≤ 60 → Cel m c [iv cnt] → Cel m s [iv sz] → Cel m v [visF c s v] → e.OK m → Wf m → CallQ Tryz.prog fl 91 [.agg e.cells, iv d, .ptr c 0, .ptr s 0, .ptr v 0] m (VisQ m c (visN sz n d e cnt)))
  {op nn : Int} {kv : AVal} {kids : List AX} {d cnt : Int} (hsz : SizeOf.sizeOf (AX.mk op nn kv kids) < n + 1) (far : ¬ (60 < cnt + 1 ∨ 12 < d)) (hd1 : 1 ≤ d) (hc0 : 0 ≤ cnt) (hop : 3 ≤ op ∧ op ≤ 7) {m m0 : Mem} {bx : Nat} (K : Kept (fun q => m0.next ≤ q ∨ q = c) m0 m) {ee : Elem} {ff pp : Nat} (hp : m.heap.get bx = some (.row ee [iv op, iv nn, kv] ff pp)) (lc : c < m.next ∧ bx ≠ c) (ls : s < m.next) (lv : v < m.next)
  (hc : Cel m c [iv (cnt + 1)]) (hs : Cel m s [iv sz]) (hv : Cel m v [visF c s v]) (hsl : SlA m kv 3 (kids.map AX.cells)) (hkids : ∀ e, e ∈ kids → AX.OK m e) {b : T AVal} {k : List AItem} (a1 : getT b 1 = iv d) (a4 : getT b 4 = .ptr v 0) (a5 : getT b 5 = .ptr bx 0) :
  Wp Tryz.prog fl (At ⟨91, 76, false, none⟩ (.code (cAt [true, true, true, false, true, false, true, true, true, true, true, false, false] (bodyF Tryz.f91)) :: .code .ret :: k) (sets 76 b []) [] .run [] m) (VisQ m0 c (visN sz (n + 1) d (.mk op nn kv kids) cnt)) := by
 have hlen := hsl.lenM
 have ck := hsl.cell
 obtain ⟨⟨ec, hcr⟩, fc⟩ := hc
 obtain ⟨⟨es, hsr⟩, fs⟩ := hs
 obtain ⟨⟨ev, hvr⟩, fv⟩ := hv
 have b3 : -(2 ^ 62) ≤ d + 1 := by omega
 have b4 : d + 1 < 2 ^ 62 := by omega
 refine w_draw (.L 0 0 0 (.L 1 1 1 (.L 2 3 1 (.L 3 7 0 (.L 4 15 0 (.L 5 31 0 (.L 6 63 1 (.L 7 127 0 (.L 8 255 0 (.L 9 511 0 (.L 10 1023 1 (.L 11 1023 0 (.L 12 3071 1 (.L 13 7167 0 (.L 14 15359 1 (.L 15 1023 0 (.L 16 33791 0 (.H 17 131071 3 (.L 18 262143 0 (.L 19 524287 0 (.L 20 1048575 1 (.L 21 1048575 0 (.L 22 3145727 1 (.L 23 7340031 0 (.L 24 15728639 1 (.L 25 1048575 0 (.L 26 34603007 0 (.H 27 134217727 3 (.L 28 268435455 0 (.L 29 536870911 0 .fin)))))))))))))))))))))))))))))) rfl (by kernel_rfl) ?_
 by_cases h2 : kids.length = 2
 ·obtain ⟨a, b', rfl⟩ : ∃ a b, kids = [a, b] := by
   rcases kids with _ | ⟨a, _ | ⟨b, _ | ⟨w, l⟩⟩⟩
   ·cases h2
   ·cases h2
   ·exact ⟨a, b, rfl⟩
   ·simp at h2
  have l1 : (Int.ofNat [a, b'].length == 2) = true := rfl
  by_cases h0 : nn = 0
  ·have l2 : (nn == 0) = true := beq_iff_eq.2 h0
   obtain ⟨r, off, c1, ex, row, hv, hr, ta, tb⟩ := two_kids hsl
   subst hv
   have oka := hkids a (by simp)
   have okb := hkids b' (by simp)
   have sa := ax_size (op := op) (n := nn) (kv := .slice r off 2 c1 ex) (kids := [a, b']) (e := a) (by simp)
   have sb := ax_size (op := op) (n := nn) (kv := .slice r off 2 c1 ex) (kids := [a, b']) (e := b') (by simp)
   rw [vis_two far hop h0]
   have va := vis_ok sz n a (d + 1) (cnt + 1) (by omega) (by omega)
   refine gg ?_
   refine d_light0 rfl rfl (gT rfl ⟨v0⟩ (by assumption)).h rfl (o_indexAddr v0 rfl ElF.h (by decide)) ?_
   refine d_light1 rfl rfl (gT rfl ⟨v0⟩ (by assumption)).h rfl (o_loadRoA v0 hr (TyF.h (s := _)) (TyF.z (g := true)) ta) ?_
   refine gg ?_
   refine d_call rfl (gT rfl ⟨v0⟩ (by assumption)).h rfl rfl (o_callF v0 (me2 v0 v0)) (ih a (d + 1) (cnt + 1) (by omega) (by omega) (by omega) (by omega) (by omega) (Cel.of hcr fc) (Cel.of hsr fs) (Cel.of hvr fv) oka K.wf) (lk_skip (by kernel_rfl) (lk_skip (by kernel_rfl) (lk_skip (by kernel_rfl) (lk_skip (by kernel_rfl) (lk_skip (by kernel_rfl) (lk_skip (by kernel_rfl) lk0)))))) ?_ (by rintro _ _ _ ⟨_, _, h, _⟩; cases h)
   rintro _ _ mq ⟨_, _, hret, kq, hcq⟩
   cases hret
   refine ⟨(ck_skip (by kernel_rfl) (ck_skip (by kernel_rfl) (ck_skip (by kernel_rfl) (ck_skip (by kernel_rfl) (ck_skip (by kernel_rfl) (ck_skip (by kernel_rfl) ck0)))))), ?_⟩
   have hpq := (kq.get bx (K.wf.lt hp) lc.2).trans hp
   have hsq := (kq.get s ls (fun h => hcs.1 h.symm)).trans hsr
   have fsq := (kq.fam s ls (fun h => hcs.1 h.symm)).trans fs
   have hvq := (kq.get v lv (fun h => hcs.2 h.symm)).trans hvr
   have fvq := (kq.fam v lv (fun h => hcs.2 h.symm)).trans fv
   have Kq := K.k kq (fun _ h => Or.inr h)
   generalize visN sz n (d + 1) a (cnt + 1) = ra at *
   obtain ⟨t, x⟩ := ra
   dsimp only at *
   cases t with
   | false =>
    refine gg ?_
    refine w_retAt rfl ?_
    refine w_results Tryz.func91 (rv1 v0) ?_
    exact ⟨_, _, rfl, Kq.out, hcq⟩
   | true =>
    have vx := va.2 rfl
    have vt := va.1.symm
    simp only [Bool.and_eq_true, decide_eq_true_eq] at vt
    have lt : (true : Bool) = true := rfl
    refine gg ?_
    refine d_light0 rfl rfl (gT rfl ⟨v0⟩ (by assumption)).h rfl (o_indexAddr v0 rfl ElF.h (by decide)) ?_
    refine d_light1 rfl rfl (gT rfl ⟨v0⟩ (by assumption)).h rfl (o_loadRoA v0 (kq.ro _ _ hr) (TyF.h (s := _)) (TyF.z (g := true)) tb) ?_
    refine gg ?_
    refine d_call rfl (gT rfl ⟨v0⟩ (by assumption)).h rfl rfl (o_callF v0 (me2 v0 v0)) (ih b' (d + 1) x (by omega) (by omega) (by omega) (by omega) (by omega) hcq (Cel.of hsq fsq) (Cel.of hvq fvq) (okb.kept kq) Kq.wf) (lk_skip (by kernel_rfl) (lk_skip (by kernel_rfl) (lk_skip (by kernel_rfl) lk0))) ?_ (by rintro _ _ _ ⟨_, _, h, _⟩; cases h)
    rintro _ _ mr ⟨_, _, hret, kr, hcr2⟩
    cases hret
    refine ⟨(ck_skip (by kernel_rfl) (ck_skip (by kernel_rfl) (ck_skip (by kernel_rfl) ck0))), ?_⟩
    have Kr := Kq.k kr (fun _ h => Or.inr h)
    refine gg ?_
    refine w_retAt rfl ?_
    refine w_results Tryz.func91 (rv1 v0) ?_
    exact ⟨_, _, rfl, Kr.out, hcr2⟩
  ·have l2 : (nn == 0) = false := beq_eq_false_iff_ne.2 h0
   rw [vis_not far (by omega) (by omega) (.inr (.inr h0))]
   refine gg ?_
   refine w_retAt rfl ?_
   refine w_results Tryz.func91 (rv1 v0) ?_
   exact ⟨_, _, rfl, K.out, Cel.of hcr fc⟩
 ·have l1 : (Int.ofNat kids.length == 2) = false := beq_eq_false_iff_ne.2 (by intro h; have h : (kids.length : Int) = 2 := h; omega)
  rw [vis_not far (by omega) (by omega) (.inr (.inl h2))]
  refine gg ?_
  refine w_retAt rfl ?_
  refine w_results Tryz.func91 (rv1 v0) ?_
  exact ⟨_, _, rfl, K.out, Cel.of hcr fc⟩
theorem visit_ok {c s v : Nat} {sz : Int} (hcs : c ≠ s ∧ c ≠ v) : ∀ (n : Nat) (e : AX) (d cnt : Int) {m : Mem}, SizeOf.sizeOf e < n → 1 ≤ d → d ≤ 13 → 0 ≤ cnt → cnt ≤ 60 → Cel m c [iv cnt] → Cel m s [iv sz] → Cel m v [visF c s v] → e.OK m → Wf m → CallQ Tryz.prog fl 91 [.agg e.cells, iv d, .ptr c 0, .ptr s 0, .ptr v 0] m (VisQ m c (visN sz n d e cnt)) := by
 intro n
 induction n with
 | zero => intro e d cnt m h; omega
 | succ n ih =>
  intro e d cnt m hsz hd1 hd2 hc0 hc1 hc hs hv hok hw
  obtain ⟨op, nn, kv, kids⟩ := e
  cases hok with
  | mk hsl hkids =>
  have ck := hsl.cell
  have hlen := hsl.lenM
  have ltc := hc.lt hw
  have lts := hs.lt hw
  have ltv := hv.lt hw
  obtain ⟨⟨ec, hcr⟩, fc⟩ := hc
  obtain ⟨⟨es, hsr⟩, fs⟩ := hs
  obtain ⟨⟨ev, hvr⟩, fv⟩ := hv
  refine hfl.start (by decide) 76 Tryz.func91 rfl rfl (Nat.le_of_ble_eq_true rfl) ?_
  intro bs hb
  have ar0 := hb 0 _ rfl
  have ar1 := hb 1 _ rfl
  have ar2 := hb 2 _ rfl
  have ar3 := hb 3 _ rfl
  have ar4 := hb 4 _ rfl
  clear hb
  have K : Kept (fun q => m.next ≤ q ∨ (fun q => q = c) q) m m := Kept.refl hw
  refine gg ?_
  refine s_new rfl rfl rfl rfl (o_box (e_base rfl ar0) rfl) (fun m1 g => ?_)
  have n1 := g.next
  have hp := g.same
  have fp := g.fam0 K.wf
  have K := K.g g
  have hcr := (g.other c (by omega)).trans hcr
  have fc := (g.famo c).trans fc
  have hsr := (g.other s (by omega)).trans hsr
  have fs := (g.famo s).trans fs
  have hvr := (g.other v (by omega)).trans hvr
  have fv := (g.famo v).trans fv
  have b1 : -(2 ^ 62) ≤ cnt + 1 := by omega
  have b2 : cnt + 1 < 2 ^ 62 := by omega
  have b3 : -(2 ^ 62) ≤ d + 1 := by omega
  have b4 : d + 1 < 2 ^ 62 := by omega
  refine gg ?_
  refine s_put0 rfl rfl rfl (o_store v0 (e_base rfl ar2) hcr fc TyF.z rfl rfl rfl rfl) (fun m2 g => ?_)
  have K := K.w g hcr (fun _ h => by cases h) (Or.inr rfl)
  have hp := (g.other m.next (by omega)).trans hp
  have fp := (g.famo m.next).trans fp
  have hsr := (g.other s (by omega)).trans hsr
  have fs := (g.famo s).trans fs
  have hvr := (g.other v (by omega)).trans hvr
  have fv := (g.famo v).trans fv
  have fc := (g.famo c).trans fc
  have hcr := g.same
  have n2 := g.next
  refine gg ?_
  refine sg (fun x => ?_) (fun x => ?_)
  rotate_left
  ·refine gg ?_
   refine w_retAt rfl ?_
   refine w_results Tryz.func91 (rv1 v0) ?_
   rw [vis_far (.inl (of_decide_eq_true x))]
   exact ⟨_, _, rfl, K.out, Cel.of hcr fc⟩
  have x := of_decide_eq_false x
  refine gg ?_
  refine w_cond v0 (fun w => ?_) (fun w => ?_)
  ·refine gg ?_
   refine w_retAt rfl ?_
   refine w_results Tryz.func91 (rv1 v0) ?_
   rw [vis_far (.inr (of_decide_eq_true w))]
   exact ⟨_, _, rfl, K.out, Cel.of hcr fc⟩
  have w := of_decide_eq_false w
  have far : ¬ (60 < cnt + 1 ∨ 12 < d) := by rintro (h | h); exact x h; exact w h
  refine gg ?_
  refine w_cond v0 (fun z => ?_) (fun z => ?_)
  ·rw [vis_int far (eq_of_beq z), ← len_emp]
   refine gg ?_
   refine sg (fun l => ?_) (fun l => ?_) <;> refine gg ?_
   ·refine s_callD K hcr fc (o_calls (me1 v0)) (ranged_ok hfl _ K.wf) (fun m k K hcr fc => ?_)
    refine gg ?_
    refine w_retAt rfl ?_
    refine w_results Tryz.func91 (rv1 v0) ?_
    rw [l, Bool.true_and]
    exact ⟨_, _, rfl, K.out, Cel.of hcr fc⟩
   ·refine w_retAt rfl ?_
    refine w_results Tryz.func91 (rv1 v0) ?_
    rw [l]
    exact ⟨_, _, rfl, K.out, Cel.of hcr fc⟩
  have z := ne_of_beq_false z
  refine gg ?_
  refine w_cond v0 (fun y => ?_) (fun y => ?_)
  ·rw [vis_name far z (eq_of_beq y), ← len_emp]
   refine gg ?_
   refine sg (fun l => ?_) (fun l => ?_) <;> refine gg ?_
   ·refine s_callD K hcr fc (o_calls (me2 v0 v0)) (numbered_ok hfl _ _ K.wf) (fun m k K hcr fc => ?_)
    refine gg ?_
    refine w_retAt rfl ?_
    refine w_results Tryz.func91 (rv1 v0) ?_
    rw [l, Bool.true_and]
    exact ⟨_, _, rfl, K.out, Cel.of hcr fc⟩
   ·refine w_retAt rfl ?_
    refine w_results Tryz.func91 (rv1 v0) ?_
    rw [l]
    exact ⟨_, _, rfl, K.out, Cel.of hcr fc⟩
  have y := ne_of_beq_false y
  have l2 : K.wf = K.wf := rfl
  refine gg ?_
  refine w_cond v0 (fun z3 => ?_) (fun z3 => ?_)
  rotate_left
  refine gg ?_
  refine w_cond v0 (fun z4 => ?_) (fun z4 => ?_)
  rotate_left
  refine gg ?_
  refine w_cond v0 (fun z5 => ?_) (fun z5 => ?_)
  rotate_left
  refine gg ?_
  refine w_cond v0 (fun z6 => ?_) (fun z6 => ?_)
  rotate_left
  refine gg ?_
  refine w_cond v0 (fun z7 => ?_) (fun z7 => ?_)
  rotate_left
  ·refine gg ?_
   refine w_retAt rfl ?_
   refine w_results Tryz.func91 (rv1 v0) ?_
   rw [vis_not far z y (.inl (by have e3 := ne_of_beq_false z3; have e4 := ne_of_beq_false z4; have e5 := ne_of_beq_false z5; have e6 := ne_of_beq_false z6; have e7 := ne_of_beq_false z7; omega))]
   exact ⟨_, _, rfl, K.out, Cel.of hcr fc⟩
  all_goals
   refine gg ?_
   refine Wp.gen (fun b' eb => ?_)
   exact vis_tail hcs ih (by omega) far hd1 hc0 (by first | (have e := eq_of_beq z3; omega) | (have e := eq_of_beq z4; omega) | (have e := eq_of_beq z5; omega) | (have e := eq_of_beq z6; omega) | (have e := eq_of_beq z7; omega)) K hp ⟨by omega, by omega⟩ (by omega) (by omega) (Cel.of hcr fc) (Cel.of hsr fs) (Cel.of hvr fv) (hsl.kept K) (fun e he => (hkids e he).kept K) (eqb eb (e_base rfl ar1)) (eqb eb (e_base rfl ar4)) (eqb eb v0)
end
noncomputable section
variable {fl : Fl} (hfl : Tab fl)
include hfl
theorem isFormed_ok {m : Mem} {sz : Int} {n : Nat} {e : AX} (hsz : SizeOf.sizeOf e < n) (hok : e.OK m) (hw : Wf m) : CallQ Tryz.prog fl 56 [.agg e.cells, iv sz] m (Rets noS m (.lit (.bool (visN sz n 1 e 0).1))) := by
 obtain ⟨op, nn, kv, kids⟩ := e
 have ha : allCells [iv op, iv nn, kv] = true := ax_cells hok
 refine hfl.start (by decide) 11 Tryz.func56 rfl rfl (Nat.le_of_ble_eq_true rfl) ?_
 intro bs hb
 have ar0 := hb 0 _ rfl
 have ar1 := hb 1 _ rfl
 clear hb
 have K : Kept (fun q => m.next ≤ q ∨ noS q) m m := Kept.refl hw
 refine gg ?_
 refine s_new rfl rfl rfl rfl (o_box (e_base rfl ar0) rfl) (fun m1 g1 => ?_)
 have n1 := g1.next
 have K := K.g g1
 refine s_new rfl rfl rfl rfl (o_box (e_base rfl ar1) rfl) (fun m2 g2 => ?_)
 have n2 := g2.next
 have f2 := g2.fam0 K.wf
 have h2 := g2.same
 have h1 := (g2.other m.next (by omega)).trans g1.same
 have K := K.g g2
 refine gg ?_
 refine s_new rfl rfl rfl rfl (o_alloc ZcF.h) (fun m3 g3 => ?_)
 have n3 := g3.next
 have f3 := g3.fam0 K.wf
 have h3 := g3.same
 have f2 := (g3.famo m1.next).trans f2
 have h2 := (g3.other m1.next (by omega)).trans h2
 have h1 := (g3.other m.next (by omega)).trans h1
 have K := K.g g3
 refine gg ?_
 refine s_put0 rfl rfl rfl (o_store rfl v0 h3 f3 TyF.z rfl rfl rfl rfl) (fun m4 g4 => ?_)
 have n4 := g4.next
 have K := K.w g4 h3 (fun _ h => by cases h) (Or.inl (by omega))
 have f3 := (g4.famo m2.next).trans f3
 have f2 := (g4.famo m1.next).trans f2
 have h3 := g4.same
 have h2 := (g4.other m1.next (by omega)).trans h2
 have h1 := (g4.other m.next (by omega)).trans h1
 refine gg ?_
 refine s_new rfl rfl rfl rfl (o_alloc ZcF.h) (fun m5 g5 => ?_)
 have n5 := g5.next
 have f5 := g5.fam0 K.wf
 have h5 := g5.same
 have K := K.g g5
 have f3 := (g5.famo m2.next).trans f3
 have f2 := (g5.famo m1.next).trans f2
 have h3 := (g5.other m2.next (by omega)).trans h3
 have h2 := (g5.other m1.next (by omega)).trans h2
 have h1 := (g5.other m.next (by omega)).trans h1
 refine gg ?_
 refine s_val rfl rfl rfl rfl (o_makeF (fn := .func 91) (fs := []) (cs := [.ptr m2.next 0, .ptr m1.next 0, .ptr m4.next 0]) rfl rfl (me3 v0 v0 v0)) ?_
 refine s_put0 rfl rfl rfl (o_store v0 v0 h5 f5 TyF.z rfl rfl rfl rfl) (fun m6 g6 => ?_)
 have n6 := g6.next
 have K := K.w g6 h5 (fun _ h => by cases h) (Or.inl (by omega))
 have f5 := (g6.famo m4.next).trans f5
 have f3 := (g6.famo m2.next).trans f3
 have f2 := (g6.famo m1.next).trans f2
 have h5 : m6.heap.get m4.next = some (.row (123, 0) [visF m2.next m1.next m4.next] m4.next 0) := g6.same
 have h3 := (g6.other m2.next (by omega)).trans h3
 have h2 := (g6.other m1.next (by omega)).trans h2
 have h1 := (g6.other m.next (by omega)).trans h1
 refine gg ?_
 have h1 : m6.heap.get m.next = some (.row (46, 0) [iv op, iv nn, kv] m.next 0) := h1
 refine s_val rfl rfl rfl rfl (o_loadRowA (off := 0) v0 h1 TyF.h (TyF.z (g := true)) (takeW rfl ha)) ?_
 refine s_call rfl rfl rfl rfl (o_callF v0 (me2 v0 rfl)) (visit_ok hfl (c := m2.next) (s := m1.next) (v := m4.next) ⟨by omega, by omega⟩ n (.mk op nn kv kids) 1 0 hsz (by omega) (by omega) (by omega) (by omega) (Cel.of h3 f3) (Cel.of h2 f2) (Cel.of h5 f5) (hok.kept K) K.wf) ?_ (by rintro _ _ _ ⟨_, _, h, _⟩; cases h)
 rintro _ _ mq ⟨_, _, hret, kq, _⟩
 cases hret
 have K := K.k kq (fun q h => Or.inl (by omega))
 refine gg ?_
 refine w_retAt rfl ?_
 refine w_results Tryz.func56 (rv1 v0) ?_
 exact ⟨_, _, rfl, K.out⟩
omit hfl in
theorem nodes_loop {n : Nat} {most : Int} (hm1 : most ≤ 60) (ih : ∀ (e : AX) (most : Int) {m : Mem}, SizeOf.sizeOf e < n → 0 ≤ most → most ≤ 60 → e.OK m → Wf m → CallQ Tryz.prog fl 96 [.agg e.cells, iv most] m (Rets noS m (iv (min (ndN n e) (most + 1))))) {els : List AX} (hsz : ∀ c, c ∈ els → SizeOf.sizeOf c < n) {r2 : Nat} {z0 z1 kv : AVal} (k : List AItem) {Q : RR → Prop} {up : Chain} : ∀ (rest pre : List AX) (x : Int) {m : Mem} (b : T AVal), els = pre ++ rest → Wf m → 1 ≤ x → x ≤ most + 1 → Cel m r2 [z0, z1, kv] → SlA m kv 3 (els.map AX.cells) → (∀ c, c ∈ els → AX.OK m c) → getT b 1 = iv most → getT b 2 = .ptr r2 0 → getT b 5 = iv x → getT b 6 = goI pre.length →
  (∀ (m' : Mem) (b' : T AVal), Kept noS m m' → getT b' 5 = iv (min (x + ((rest.map (ndN n)).sum : Nat)) (most + 1)) → Wp Tryz.prog fl (At ⟨96, 31, false, none⟩ k b' [] .run up m') Q) → Wp Tryz.prog fl (At ⟨96, 31, false, none⟩ (.code (cAt [true, true, false, true, false, false] (bodyF Tryz.f96)) :: .inLoop (cAt [true, true, false, true, false, false] (bodyF Tryz.f96)) :: .inBlock 0 :: k) (sets 31 b []) [] .run up m) Q := by
 intro rest
 induction rest with
 | nil =>
  intro pre x m b hsp hw hx0 hx1 h2 hsl hok k1 k2 k5 k6 hk
  have K : Kept (fun q => m.next ≤ q ∨ noS q) m m := Kept.refl hw
  obtain ⟨⟨e2, h2r⟩, f2⟩ := h2
  have ck := hsl.cell
  have hlen := hsl.lenM
  have hlt : decide (Int.ofNat pre.length < Int.ofNat els.length) = false := by subst hsp; simp
  refine gg ?_
  refine Wp.gen (fun b' eb => ?_)
  exact hk _ b' K.out ((eqb eb (e_base rfl k5)).trans (congrArg iv (by simp only [List.map_nil, List.sum_nil]; omega)))
 | cons y rest ih0 =>
  intro pre x m b hsp hw hx0 hx1 h2 hsl hok k1 k2 k5 k6 hk
  have K : Kept (fun q => m.next ≤ q ∨ noS q) m m := Kept.refl hw
  have lt2 := h2.lt hw
  have h20 := h2
  obtain ⟨⟨e2, h2r⟩, f2⟩ := h2
  have ck := hsl.cell
  have hlen := hsl.lenM
  have hlt : decide (Int.ofNat pre.length < Int.ofNat els.length) = true := by subst hsp; simp; omega
  have hln := hsl.lnT hsp
  have hsl0 := hsl
  obtain ⟨r, off, cc, ex, row, hv, hlx, hr, htk⟩ := hsl.here hsp
  subst hv
  have hym : y ∈ els := by simp [hsp]
  have hny := nd_pos (hsz y hym)
  refine gg ?_
  refine w_cond v0 (fun c => ?_) (fun c => ?_)
  ·have c := of_decide_eq_true c
   have b1 : -(2 ^ 62) ≤ most - x := by omega
   have b2 : most - x < 2 ^ 62 := by omega
   have b3 : -(2 ^ 62) ≤ x + min ((ndN n y : Nat) : Int) (most - x + 1) := by omega
   have b4 : x + min ((ndN n y : Nat) : Int) (most - x + 1) < 2 ^ 62 := by omega
   refine gg ?_
   refine s_val rfl rfl rfl rfl (o_indexAddr v0 v0 ElF.h (by simpa using hlx)) ?_
   refine s_val rfl rfl rfl rfl (o_loadRoA v0 hr (TyF.h (s := _)) (TyF.z (g := true)) htk) ?_
   refine gg ?_
   refine s_callV rfl rfl rfl rfl (o_calls (me2 v0 v0)) (ih y (most - x) (hsz y hym) (by omega) (by omega) (hok y hym) K.wf) (fun m1 k => ?_)
   have K := K.k k (fun _ h => h.elim)
   refine gg ?_
   refine w_inLoop ?_
   refine Wp.gen (fun b' eb => ?_)
   refine ih0 (pre ++ [y]) (x + min ((ndN n y : Nat) : Int) (most - x + 1)) b' (by simp [hsp]) K.wf (by omega) (by omega) (h20.kept K lt2 (by rintro (h | h); omega; exact h)) (hsl0.kept K) (fun c hc => (hok c hc).kept K) (eqb eb (e_base rfl k1)) (eqb eb (e_base rfl k2)) (eqb eb v0) (eqb eb ((e_hit rfl).trans (by rw [List.length_append]; rfl))) (fun m' b' k h => hk m' b' (K.out.trans k) (h.trans (congrArg iv ?_)))
   rw [List.map_cons, List.sum_cons]; omega
  ·have c := of_decide_eq_false c
   refine gg ?_
   refine Wp.gen (fun b' eb => ?_)
   exact hk _ b' K.out ((eqb eb (e_base rfl k5)).trans (congrArg iv (by rw [List.map_cons, List.sum_cons]; omega)))
theorem nodes_ok : ∀ (n : Nat) (e : AX) (most : Int) {m : Mem}, SizeOf.sizeOf e < n → 0 ≤ most → most ≤ 60 → e.OK m → Wf m → CallQ Tryz.prog fl 96 [.agg e.cells, iv most] m (Rets noS m (iv (min (ndN n e) (most + 1)))) := by
 intro n
 induction n with
 | zero => intro e most m h; omega
 | succ n ih =>
  intro e most m hsz hm0 hm1 hok hw
  obtain ⟨op, nn, kv, kids⟩ := e
  cases hok with
  | mk hsl hkids =>
  refine hfl.start (by decide) 31 Tryz.func96 rfl rfl (Nat.le_of_ble_eq_true rfl) ?_
  intro bs hb
  have ar0 := hb 0 _ rfl
  have ar1 := hb 1 _ rfl
  clear hb
  have K : Kept (fun q => m.next ≤ q ∨ noS q) m m := Kept.refl hw
  refine gg ?_
  refine s_new rfl rfl rfl rfl (o_box (e_base rfl ar0) rfl) (fun m1 g => ?_)
  have n1 := g.next
  have f := g.fam0 K.wf
  have K := K.g g
  refine gg ?_
  refine w_loop ?_
  refine Wp.gen (fun b0 eb => ?_)
  refine nodes_loop hm1 ih (els := kids) (fun c hc => by have := ax_size (op := op) (n := nn) (kv := kv) hc; omega) _ kids [] 1 b0 rfl K.wf (by omega) (by omega) (Cel.of g.same f) (hsl.kept K) (fun c hc => (hkids c hc).kept K) (eqb eb (e_base rfl ar1)) (eqb eb v0) (eqb eb v0) (eqb eb v0) (fun m' b' k h => ?_)
  have K := K.k k (fun _ h => h.elim)
  change Wp Tryz.prog fl (At _ _ (sets 31 b' []) _ _ _ _) _
  refine gg ?_
  refine w_retAt rfl ?_
  refine w_results Tryz.func96 (rv1 v0) ?_
  exact ⟨_, _, congrArg (fun i => RR.ret (iv i) _ _) (by show min (1 + (((kids.map (ndN n)).sum : Nat) : Int)) (most + 1) = min (((1 + (kids.map (ndN n)).sum : Nat)) : Int) (most + 1); omega), K.out⟩
end
noncomputable section
variable {fl : Fl} (hfl : Tab fl)
include hfl
omit hfl in
theorem depth_loop {n : Nat} (ih : ∀ (e : AX) {m : Mem}, SizeOf.sizeOf e < n → ndN n e ≤ 60 → e.OK m → Wf m → CallQ Tryz.prog fl 97 [.agg e.cells] m (Rets noS m (iv (dpN n e)))) {els : List AX} (hsz : ∀ c, c ∈ els → SizeOf.sizeOf c < n ∧ ndN n c ≤ 60) {r2 : Nat} {z0 z1 kv : AVal} (k : List AItem) {Q : RR → Prop} {up : Chain} : ∀ (rest pre : List AX) (x : Nat) {m : Mem} (b : T AVal), els = pre ++ rest → Wf m → Cel m r2 [z0, z1, kv] → SlA m kv 3 (els.map AX.cells) → (∀ c, c ∈ els → AX.OK m c) → getT b 1 = .ptr r2 0 → getT b 3 = iv x → getT b 4 = goI pre.length →
  (∀ (m' : Mem) (b' : T AVal), Kept noS m m' → getT b' 3 = iv ((rest.map (dpN n)).foldl max x : Nat) → Wp Tryz.prog fl (At ⟨97, 22, false, none⟩ k b' [] .run up m') Q) → Wp Tryz.prog fl (At ⟨97, 22, false, none⟩ (.code (cAt [true, true, false, true, false, false] (bodyF Tryz.f97)) :: .inLoop (cAt [true, true, false, true, false, false] (bodyF Tryz.f97)) :: .inBlock 0 :: k) (sets 22 b []) [] .run up m) Q := by
 intro rest
 induction rest with
 | nil =>
  intro pre x m b hsp hw h2 hsl hok k1 k3 k4 hk
  have K : Kept (fun q => m.next ≤ q ∨ noS q) m m := Kept.refl hw
  obtain ⟨⟨e2, h2r⟩, f2⟩ := h2
  have ck := hsl.cell
  have hlen := hsl.lenM
  have hlt : decide (Int.ofNat pre.length < Int.ofNat els.length) = false := by subst hsp; simp
  refine gg ?_
  refine Wp.gen (fun b' eb => ?_)
  exact hk _ b' K.out (eqb eb (e_base rfl k3))
 | cons y rest ih0 =>
  intro pre x m b hsp hw h2 hsl hok k1 k3 k4 hk
  have K : Kept (fun q => m.next ≤ q ∨ noS q) m m := Kept.refl hw
  have lt2 := h2.lt hw
  have h20 := h2
  obtain ⟨⟨e2, h2r⟩, f2⟩ := h2
  have ck := hsl.cell
  have hlen := hsl.lenM
  have hlt : decide (Int.ofNat pre.length < Int.ofNat els.length) = true := by subst hsp; simp; omega
  have hln := hsl.lnT hsp
  have hsl0 := hsl
  obtain ⟨r, off, cc, ex, row, hv, hlx, hr, htk⟩ := hsl.here hsp
  subst hv
  have hym : y ∈ els := by simp [hsp]
  refine gg ?_
  refine s_val rfl rfl rfl rfl (o_indexAddr v0 v0 ElF.h (by simpa using hlx)) ?_
  refine s_val rfl rfl rfl rfl (o_loadRoA v0 hr (TyF.h (s := _)) (TyF.z (g := true)) htk) ?_
  refine s_callV rfl rfl rfl rfl (o_calls (me1 v0)) (ih y (hsz y hym).1 (hsz y hym).2 (hok y hym) K.wf) (fun m1 k => ?_)
  have K := K.k k (fun _ h => h.elim)
  refine gg ?_
  refine w_inLoop ?_
  refine Wp.gen (fun b' eb => ?_)
  exact ih0 (pre ++ [y]) (max x (dpN n y)) b' (by simp [hsp]) K.wf (h20.kept K lt2 (by rintro (h | h); omega; exact h)) (hsl0.kept K) (fun c hc => (hok c hc).kept K) (eqb eb (e_base rfl k1)) ((eqb eb v0).trans (congrArg iv (by omega))) (eqb eb ((e_hit rfl).trans (by rw [List.length_append]; rfl))) (fun m' b' k h => hk m' b' (K.out.trans k) h)
theorem depth_ok : ∀ (n : Nat) (e : AX) {m : Mem}, SizeOf.sizeOf e < n → ndN n e ≤ 60 → e.OK m → Wf m → CallQ Tryz.prog fl 97 [.agg e.cells] m (Rets noS m (iv (dpN n e))) := by
 intro n
 induction n with
 | zero => intro e m h; omega
 | succ n ih =>
  intro e m hsz hnd hok hw
  have hdp := dp_le _ e hsz
  obtain ⟨op, nn, kv, kids⟩ := e
  have e1 : ndN (n + 1) (.mk op nn kv kids) = 1 + (kids.map (ndN n)).sum := rfl
  have e2 : dpN (n + 1) (.mk op nn kv kids) = (kids.map (dpN n)).foldl max 0 + 1 := rfl
  rw [e1] at hnd
  rw [e2] at hdp ⊢
  rw [e1] at hdp
  cases hok with
  | mk hsl hkids =>
  refine hfl.start (by decide) 22 Tryz.func97 rfl rfl (Nat.le_of_ble_eq_true rfl) ?_
  intro bs hb
  have ar0 := hb 0 _ rfl
  clear hb
  have K : Kept (fun q => m.next ≤ q ∨ noS q) m m := Kept.refl hw
  refine gg ?_
  refine s_new rfl rfl rfl rfl (o_box (e_base rfl ar0) rfl) (fun m1 g => ?_)
  have n1 := g.next
  have f := g.fam0 K.wf
  have K := K.g g
  refine gg ?_
  refine w_loop ?_
  refine Wp.gen (fun b0 eb => ?_)
  refine depth_loop ih (els := kids) (fun c hc => ⟨by have := ax_size (op := op) (n := nn) (kv := kv) hc; omega, by have := sum_mem (f := ndN n) hc; omega⟩) _ kids [] 0 b0 rfl K.wf (Cel.of g.same f) (hsl.kept K) (fun c hc => (hkids c hc).kept K) (eqb eb v0) (eqb eb v0) (eqb eb v0) (fun m' b' k h => ?_)
  have K := K.k k (fun _ h => h.elim)
  change Wp Tryz.prog fl (At _ _ (sets 22 b' []) _ _ _ _) _
  have b1 : -(2 ^ 62) ≤ ((List.foldl max 0 (kids.map (dpN n)) : Nat) : Int) + 1 := by omega
  have b2 : ((List.foldl max 0 (kids.map (dpN n)) : Nat) : Int) + 1 < 2 ^ 62 := by omega
  refine gg ?_
  refine w_retAt rfl ?_
  refine w_results Tryz.func97 (rv1 v0) ?_
  exact ⟨_, _, rfl, K.out⟩
omit hfl in
theorem fm_int {sz : Int} {n : Nat} {op nn : Int} {kv : AVal} {kids : List AX} (z : op = 1) : fmN sz (n + 1) (.mk op nn kv kids) = (kids.isEmpty && ranged nn) := by
 unfold fmN; dsimp only; rw [if_pos z]
omit hfl in
theorem fm_name {sz : Int} {n : Nat} {op nn : Int} {kv : AVal} {kids : List AX} (z : op ≠ 1) (y : op = 2) : fmN sz (n + 1) (.mk op nn kv kids) = (kids.isEmpty && (decide (0 ≤ nn) && decide (nn < sz))) := by
 unfold fmN; dsimp only; rw [if_neg z, if_pos y]
omit hfl in
theorem fm_two {sz : Int} {n : Nat} {op nn : Int} {kv : AVal} {a b : AX} (z : 3 ≤ op ∧ op ≤ 7) (y : nn = 0) : fmN sz (n + 1) (.mk op nn kv [a, b]) = (fmN sz n a && fmN sz n b) := by
 rw [fmN]; rw [if_neg (by omega), if_neg (by omega), decide_eq_true z.1, decide_eq_true z.2, decide_eq_true y, Bool.true_and, Bool.true_and, Bool.true_and]
omit hfl in
theorem fm_not {sz : Int} {n : Nat} {op nn : Int} {kv : AVal} {kids : List AX} (z : op ≠ 1) (y : op ≠ 2) (x : ¬ (3 ≤ op ∧ op ≤ 7) ∨ kids.length ≠ 2 ∨ nn ≠ 0) : fmN sz (n + 1) (.mk op nn kv kids) = false := by
 unfold fmN; dsimp only; rw [if_neg z, if_neg y]
 rcases kids with _ | ⟨a, _ | ⟨b, _ | ⟨w, l⟩⟩⟩
 ·rfl
 ·rfl
 ·dsimp only
  rw [Bool.eq_false_iff]
  intro h
  simp only [Bool.and_eq_true, decide_eq_true_eq] at h
  rcases x with x | x | x
  ·exact x h.1
  ·exact x rfl
  ·exact x h.2.1
 ·rfl
theorem formed_ok {sz : Int} : ∀ (n : Nat) (e : AX) {m : Mem}, SizeOf.sizeOf e < n → e.OK m → Wf m → CallQ Tryz.prog fl 98 [.agg e.cells, iv sz] m (Rets noS m (.lit (.bool (fmN sz n e)))) := by
 intro n
 induction n with
 | zero => intro e m h; omega
 | succ n ih =>
  intro e m hsz hok hw
  obtain ⟨op, nn, kv, kids⟩ := e
  cases hok with
  | mk hsl hkids =>
  have ck := hsl.cell
  have hlen := hsl.lenM
  refine hfl.start (by decide) 76 Tryz.func98 rfl rfl (Nat.le_of_ble_eq_true rfl) ?_
  intro bs hb
  have ar0 := hb 0 _ rfl
  have ar1 := hb 1 _ rfl
  clear hb
  have K : Kept (fun q => m.next ≤ q ∨ noS q) m m := Kept.refl hw
  refine gg ?_
  refine s_new rfl rfl rfl rfl (o_box (e_base rfl ar0) rfl) (fun m1 g => ?_)
  have n1 := g.next
  have h := g.same
  have f := g.fam0 K.wf
  have K := K.g g
  refine gg ?_
  refine w_cond v0 (fun z => ?_) (fun z => ?_)
  ·rw [fm_int (eq_of_beq z), ← len_emp]
   refine gg ?_
   repeat' (refine sg (fun c => ?_) (fun c => ?_) <;> refine gg ?_)
   all_goals
    refine w_retAt rfl ?_
    refine w_results Tryz.func98 (rv1 v0) ?_
    exact ⟨_, _, congrArg (fun b => RR.ret (.lit (.bool b)) _ _) (by simp_all [ranged]; try omega), K.out⟩
  have z := ne_of_beq_false z
  refine gg ?_
  refine w_cond v0 (fun y => ?_) (fun y => ?_)
  ·rw [fm_name z (eq_of_beq y), ← len_emp]
   refine gg ?_
   repeat' (refine sg (fun c => ?_) (fun c => ?_) <;> refine gg ?_)
   all_goals
    refine w_retAt rfl ?_
    refine w_results Tryz.func98 (rv1 v0) ?_
    exact ⟨_, _, congrArg (fun b => RR.ret (.lit (.bool b)) _ _) (by simp_all; try omega), K.out⟩
  have y := ne_of_beq_false y
  refine gg ?_
  refine sg (fun c1 => ?_) (fun c1 => ?_)
  rotate_left
  ·refine gg ?_
   refine w_retAt rfl ?_
   refine w_results Tryz.func98 (rv1 v0) ?_
   rw [fm_not z y (.inl (by have := of_decide_eq_true c1; omega))]
   exact ⟨_, _, rfl, K.out⟩
  have c1 := of_decide_eq_false c1
  refine gg ?_
  refine sg (fun c2 => ?_) (fun c2 => ?_)
  rotate_left
  ·refine gg ?_
   refine w_retAt rfl ?_
   refine w_results Tryz.func98 (rv1 v0) ?_
   rw [fm_not z y (.inl (by have := of_decide_eq_true c2; omega))]
   exact ⟨_, _, rfl, K.out⟩
  have c2 := of_decide_eq_false c2
  refine gg ?_
  refine sg (fun c3 => ?_) (fun c3 => ?_)
  rotate_left
  ·refine gg ?_
   refine w_retAt rfl ?_
   refine w_results Tryz.func98 (rv1 v0) ?_
   rw [fm_not z y (.inr (.inl (fun e => by rw [e] at c3; cases c3)))]
   exact ⟨_, _, rfl, K.out⟩
  refine gg ?_
  refine w_cond v0 (fun c4 => ?_) (fun c4 => ?_)
  ·refine gg ?_
   refine w_retAt rfl ?_
   refine w_results Tryz.func98 (rv1 v0) ?_
   rw [fm_not z y (.inr (.inr (by simpa using c4)))]
   exact ⟨_, _, rfl, K.out⟩
  have c4 : nn = 0 := by simpa using c4
  have h2 : kids.length = 2 := by
   have h : (kids.length : Int) = 2 := by simpa using c3
   omega
  obtain ⟨a, b, rfl⟩ : ∃ a b, kids = [a, b] := by
   rcases kids with _ | ⟨a, _ | ⟨b, _ | ⟨w, l⟩⟩⟩
   ·cases h2
   ·cases h2
   ·exact ⟨a, b, rfl⟩
   ·simp at h2
  rw [fm_two ⟨by omega, by omega⟩ c4]
  obtain ⟨r, off, c0, ex, row, hv, hr, ta, tb⟩ := two_kids hsl
  subst hv
  have oka := hkids a (by simp)
  have okb := hkids b (by simp)
  have sa := ax_size (op := op) (n := nn) (kv := .slice r off 2 c0 ex) (kids := [a, b]) (e := a) (by simp)
  have sb := ax_size (op := op) (n := nn) (kv := .slice r off 2 c0 ex) (kids := [a, b]) (e := b) (by simp)
  refine gg ?_
  refine s_val rfl rfl rfl rfl (o_indexAddr v0 rfl ElF.h (by decide)) ?_
  refine s_val rfl rfl rfl rfl (o_loadRoA v0 (K.ro _ _ hr) (TyF.h (s := _)) (TyF.z (g := true)) ta) ?_
  refine gg ?_
  refine s_callD K h f (o_calls (me2 v0 v0)) (ih a (by omega) (oka.kept K) K.wf) (fun m k K h f => ?_)
  refine gg ?_
  refine sg (fun w => ?_) (fun w => ?_)
  ·refine gg ?_
   refine s_val rfl (gT rfl ⟨v0⟩ (by assumption)).h rfl rfl (o_indexAddr v0 rfl ElF.h (by decide)) ?_
   refine s_val rfl (gT rfl ⟨v0⟩ (by assumption)).h rfl rfl (o_loadRoA v0 (K.ro _ _ hr) (TyF.h (s := _)) (TyF.z (g := true)) tb) ?_
   refine gg ?_
   refine s_callD K h f (o_calls (me2 v0 v0)) (ih b (by omega) (okb.kept K) K.wf) (fun m k K h f => ?_)
   refine gg ?_
   refine w_retAt rfl ?_
   refine w_results Tryz.func98 (rv1 v0) ?_
   rw [w, Bool.true_and]
   exact ⟨_, _, rfl, K.out⟩
  ·refine gg ?_
   refine w_retAt rfl ?_
   refine w_results Tryz.func98 (rv1 v0) ?_
   rw [w]
   exact ⟨_, _, rfl, K.out⟩
theorem expFormed_ok {m : Mem} {sz : Int} {n : Nat} {e : AX} (hsz : SizeOf.sizeOf e < n) (hok : e.OK m) (hw : Wf m) : CallQ Tryz.prog fl 58 [.agg e.cells, iv sz] m (Rets noS m (.lit (.bool (decide (ndN n e ≤ 60) && (decide (dpN n e ≤ 12) && fmN sz n e))))) := by
 obtain ⟨op, nn, kv, kids⟩ := e
 have ha : allCells [iv op, iv nn, kv] = true := ax_cells hok
 refine hfl.start (by decide) 18 Tryz.func58 rfl rfl (Nat.le_of_ble_eq_true rfl) ?_
 intro bs hb
 have ar0 := hb 0 _ rfl
 have ar1 := hb 1 _ rfl
 clear hb
 have K : Kept (fun q => m.next ≤ q ∨ noS q) m m := Kept.refl hw
 refine gg ?_
 refine s_new rfl rfl rfl rfl (o_box (e_base rfl ar0) rfl) (fun m1 g => ?_)
 have n1 := g.next
 have h : m1.heap.get m.next = some (.row (46, 0) [iv op, iv nn, kv] m.next 0) := g.same
 have f := g.fam0 K.wf
 have K := K.g g
 generalize hx : AX.mk op nn kv kids = x at *
 have hc : x.cells = [iv op, iv nn, kv] := by subst hx; rfl
 have hnd := nd_pos hsz
 refine gg ?_
 refine s_val rfl rfl rfl rfl (o_loadRowA (off := 0) v0 h TyF.h (TyF.z (g := true)) (takeW rfl ha)) ?_
 refine s_callD K h f (o_calls (me2 v0 rfl)) (by have := nodes_ok hfl n x 60 hsz (by omega) (by omega) (hok.kept K) K.wf; rw [hc] at this; exact this) (fun m k K h f => ?_)
 refine gg ?_
 refine sg (fun c1 => ?_) (fun c1 => ?_)
 rotate_left
 ·refine gg ?_
  refine w_retAt rfl ?_
  refine w_results Tryz.func58 (rv1 v0) ?_
  rw [decide_eq_false (by have := of_decide_eq_false c1; omega)]
  exact ⟨_, _, rfl, K.out⟩
 have c1 := of_decide_eq_true c1
 have l1 : ndN n x ≤ 60 := by omega
 refine gg ?_
 refine s_val rfl (gT rfl ⟨v0⟩ (by assumption)).h rfl rfl (o_loadRowA (off := 0) v0 h TyF.h (TyF.z (g := true)) (takeW rfl ha)) ?_
 refine s_callD K h f (o_calls (me1 v0)) (by have := depth_ok hfl n x hsz l1 (hok.kept K) K.wf; rw [hc] at this; exact this) (fun m k K h f => ?_)
 refine gg ?_
 refine sg (fun c2 => ?_) (fun c2 => ?_)
 rotate_left
 ·refine gg ?_
  refine w_retAt rfl ?_
  refine w_results Tryz.func58 (rv1 v0) ?_
  rw [decide_eq_false (show ¬ dpN n x ≤ 12 by have := of_decide_eq_false c2; omega), Bool.false_and, Bool.and_false]
  exact ⟨_, _, rfl, K.out⟩
 have c2 := of_decide_eq_true c2
 rw [decide_eq_true l1, decide_eq_true (show dpN n x ≤ 12 by omega), Bool.true_and, Bool.true_and]
 refine gg ?_
 refine s_val rfl (gT rfl ⟨v0⟩ (decide_eq_true c2)).h rfl rfl (o_loadRowA (off := 0) v0 h TyF.h (TyF.z (g := true)) (takeW rfl ha)) ?_
 refine gg ?_
 refine s_callD K h f (o_calls (me2 v0 v0)) (by have := formed_ok hfl (sz := sz) n x hsz (hok.kept K) K.wf; rw [hc] at this; exact this) (fun m k K h f => ?_)
 refine gg ?_
 refine w_retAt rfl ?_
 refine w_results Tryz.func58 (rv1 v0) ?_
 exact ⟨_, _, rfl, K.out⟩
end
noncomputable section
variable {fl : Fl} (hfl : Tab fl)
include hfl
omit hfl in
theorem rvct {m : Mem} {tmps : T AVal} {a u : Tmp} {t : TypeId} {r off : Nat} {v w : AVal} (h : evalT tmps (.tmp a) = .ptr r off) (hl : Abs.loadVar Tryz.prog m t r off = some v) (h2 : evalT tmps (.tmp u) = w) : resVals Tryz.prog tmps m [.cell a t, .tmp u] = some [v, w] := by
 have e : resVal Tryz.prog tmps m (.cell a t) = some v := by
  show (match getT tmps a with | .ptr r off => Abs.loadVar Tryz.prog m t r off | _ => none) = _
  rw [show getT tmps a = .ptr r off from h]
  exact hl
 show (match resVal Tryz.prog tmps m (.cell a t) with | some v => (resVals Tryz.prog tmps m [.tmp u]).map (v :: ·) | none => none) = _
 rw [e, rv1 h2]; rfl
omit hfl in
def valR (env : List VP) (n : Nat) (e : AX) : VP × Int := bif env.all isVal && (visN env.length n 1 e 0).1 then (valN env n e, 0) else ((0, 0), 2)
theorem sValue_ok {m : Mem} {env : List VP} {ev : AVal} {n : Nat} {e : AX} (hsz : SizeOf.sizeOf e < n) (hok : e.OK m) (hev : SlA m ev 2 (env.map vcells)) (hw : Wf m) : CallQ Tryz.prog fl 20 [.agg e.cells, ev] m (Rets noS m (.tuple [.agg (vcells (valR env n e).1), iv (valR env n e).2])) := by
 obtain ⟨op, nn, kv, kids⟩ := e
 have ha : allCells [iv op, iv nn, kv] = true := ax_cells hok
 refine hfl.start (by decide) 20 Tryz.func20 rfl rfl (Nat.le_of_ble_eq_true rfl) ?_
 intro bs hb
 have ar0 := hb 0 _ rfl
 have ar1 := hb 1 _ rfl
 clear hb
 have K : Kept (fun q => m.next ≤ q ∨ noS q) m m := Kept.refl hw
 have cev := hev.cell
 have hlen := hev.lenM
 refine gg ?_
 refine s_new rfl rfl rfl rfl (o_box (e_base rfl ar0) rfl) (fun m1 g => ?_)
 have n1 := g.next
 have hp : m1.heap.get m.next = some (.row (46, 0) [iv op, iv nn, kv] m.next 0) := g.same
 have K := K.g g
 refine gg ?_
 refine s_new rfl rfl rfl rfl (o_alloc ZcF.h) (fun m2 g => ?_)
 have n2 := g.next
 have f := g.fam0 K.wf
 have h := g.same
 have hp := (g.other m.next (by omega)).trans hp
 have K := K.g g
 generalize hx : AX.mk op nn kv kids = x at *
 have hc : x.cells = [iv op, iv nn, kv] := by subst hx; rfl
 refine gg ?_
 refine s_callD K h f (o_calls (me2 (b := .lit (.func (.func 55) #[] #[])) v0 rfl)) (all_ok hfl (hev.kept K) K.wf) (fun m' k K h f => ?_)
 have hp := (k.get _ (by omega) id).trans hp
 refine gg ?_
 refine sg (fun c1 => ?_) (fun c1 => ?_)
 ·have c1 : env.all isVal = true := by simpa using c1
  have K0 := K
  refine gg ?_
  refine s_val rfl (gT rfl ⟨v0⟩ (by rw [c1]; rfl)).h rfl rfl (o_loadRowA (off := 0) v0 hp TyF.h (TyF.z (g := true)) (takeW rfl ha)) ?_
  refine gg ?_
  refine s_callE K (Kept.refl (S := noS) K.wf) (o_calls (me2 v0 v0)) (by have := isFormed_ok hfl (sz := env.length) hsz (hok.kept K) K.wf; rw [hc] at this; exact this) (fun m' K k => ?_)
  have f := (k.fam _ (K0.wf.lt h) id).trans f
  have h := (k.get _ (K0.wf.lt h) id).trans h
  have hp := (k.get _ (K0.wf.lt hp) id).trans hp
  refine gg ?_
  refine w_cond v0 (fun c2 => ?_) (fun c2 => ?_)
  ·have c2 : (visN env.length n 1 x 0).1 = false := by simpa using c2
   have e1 : valR env n x = ((0, 0), 2) := by unfold valR; rw [c1, c2]; rfl
   refine gg ?_
   refine s_put0 rfl rfl rfl (o_store v0 v0 h f TyF.z rfl rfl rfl rfl) (fun m' g => ?_)
   have K := K.w g h (fun _ h => by cases h) (Or.inl (by omega))
   refine gg ?_
   refine w_retAt rfl ?_
   refine w_results Tryz.func20 (rvct v0 (lvA g.same TyF.h TyF.z rfl) v0) ?_
   rw [e1]
   exact ⟨_, _, rfl, K.out⟩
  ·have c2 : (visN env.length n 1 x 0).1 = true := by simpa using c2
   have e1 : valR env n x = (valN env n x, 0) := by unfold valR; rw [c1, c2]; rfl
   have fm : fmN env.length n x = true := by
    rw [(vis_ok _ n x 1 0 hsz (by omega)).1, Bool.and_eq_true] at c2
    exact c2.1
   refine gg ?_
   refine s_val rfl rfl rfl rfl (o_loadRowA (off := 0) v0 hp TyF.h (TyF.z (g := true)) (takeW rfl ha)) ?_
   refine gg ?_
   refine s_callD K h f (o_calls (me2 v0 v0)) (by have := value_ok hfl (fun p hp => List.all_eq_true.1 c1 p hp) n x fm (hok.kept K) (hev.kept K) K.wf; rw [hc] at this; exact this) (fun m' k K h f => ?_)
   refine gg ?_
   refine s_put0 rfl rfl rfl (o_store v0 v0 h f TyF.z rfl rfl rfl rfl) (fun m' g => ?_)
   have K := K.w g h (fun _ h => by cases h) (Or.inl (by omega))
   refine gg ?_
   refine w_retAt rfl ?_
   refine w_results Tryz.func20 (rvct v0 (lvA g.same TyF.h TyF.z rfl) v0) ?_
   rw [e1]
   exact ⟨_, _, rfl, K.out⟩
 ·have c1 : env.all isVal = false := by simpa using c1
  have e1 : valR env n x = ((0, 0), 2) := by unfold valR; rw [c1]; rfl
  refine gg ?_
  refine s_put0 rfl rfl rfl (o_store v0 v0 h f TyF.z rfl rfl rfl rfl) (fun m' g => ?_)
  have K := K.w g h (fun _ h => by cases h) (Or.inl (by omega))
  refine gg ?_
  refine w_retAt rfl ?_
  refine w_results Tryz.func20 (rvct v0 (lvA g.same TyF.h TyF.z rfl) v0) ?_
  rw [e1]
  exact ⟨_, _, rfl, K.out⟩
end
noncomputable section
variable {fl : Fl} (hfl : Tab fl)
include hfl
omit hfl in
theorem take_two {row : List AVal} {k : Nat} {x y : AVal} (h : takeN 2 (dropN row k) = some [x, y]) : takeN 1 (dropN row (k + 0)) = some [x] ∧ takeN 1 (dropN row (k + 1)) = some [y] := by
 obtain ⟨_, h2⟩ := takeN_spec _ _ _ h
 obtain ⟨_, hx⟩ := h2 0 x rfl
 obtain ⟨_, hy⟩ := h2 1 y rfl
 have e : ∀ j, (dropN row k).drop j = dropN row (k + j) := fun j => by rw [dropN_eq, dropN_eq, List.drop_drop]
 refine ⟨?_, ?_⟩
 ·rw [← e 0]
  exact takeN_sub h (off := 0) (by show takeN 1 [x, y] = _; rw [takeN_cons, hx]; rfl)
 ·rw [← e 1]
  exact takeN_sub h (off := 1) (by show takeN 1 [y] = _; rw [takeN_cons, hy]; rfl)
theorem env_loop {rt : Nat} {ev : AVal} {els : List VP} (k : List AItem) {Q : RR → Prop} {up : Chain} : ∀ (rest pre : List VP) {m : Mem} (b : T AVal), els = pre ++ rest → Wf m → Cel m rt [iv 0, iv 0] → SlA m ev 2 (els.map vcells) → getT b 1 = ev → getT b 4 = .ptr rt 0 → getT b 6 = goI pre.length →
  (∀ (m' : Mem) (b' : T AVal), Kept noS m m' → rest.all isVal = true → getT b' 1 = ev → getT b' 2 = getT b 2 → getT b' 4 = .ptr rt 0 → Wp Tryz.prog fl (At ⟨21, 59, false, none⟩ k b' [] .run up m') Q) →
  (∀ (m' : Mem) (b' : T AVal), Kept (fun q => q = rt) m m' → Cel m' rt [iv 0, iv 0] → rest.all isVal = false → getT b' 4 = .ptr rt 0 → getT b' 5 = iv 2 → Wp Tryz.prog fl (At ⟨21, 59, false, none⟩ [] b' [] .returning up m') Q) →
  Wp Tryz.prog fl (At ⟨21, 59, false, none⟩ (.code (cAt [true, true, false, true, false, false] (bodyF Tryz.f21)) :: .inLoop (cAt [true, true, false, true, false, false] (bodyF Tryz.f21)) :: .inBlock 0 :: k) (sets 59 b []) [] .run up m) Q := by
 intro rest
 induction rest with
 | nil =>
  intro pre m b hsp hw hc hsl k1 k4 k6 hk ht
  have hlen := hsl.lenM
  have hlt : decide (Int.ofNat pre.length < Int.ofNat els.length) = false := by subst hsp; simp
  refine gg ?_
  refine Wp.gen (fun b' eb => ?_)
  exact hk _ b' (Kept.refl hw) rfl (eqb eb (e_base rfl k1)) (eqb eb (e_base rfl rfl)) (eqb eb (e_base rfl k4))
 | cons y rest ih =>
  intro pre m b hsp hw hc hsl k1 k4 k6 hk ht
  obtain ⟨kd, n⟩ := y
  have hlen := hsl.lenM
  have hlt : decide (Int.ofNat pre.length < Int.ofNat els.length) = true := by subst hsp; simp; omega
  have hln := hsl.lnT hsp
  have K : Kept (fun q => m.next ≤ q ∨ (fun q => q = rt) q) m m := Kept.refl hw
  have kk := Kept.refl (S := noS) hw
  have hsl0 := hsl
  have ltr := hc.lt hw
  have hc0 := hc
  obtain ⟨⟨ec, hcr⟩, fc⟩ := hc
  obtain ⟨r, off, cc, ex, row, hv, hlx, hr, htk⟩ := hsl.here hsp
  subst hv
  have hlx' : pre.length < els.length := by simpa using hlx
  obtain ⟨t0, t1⟩ := take_two htk
  refine gg ?_
  refine w_draw (.L 0 0 0 (.L 1 0 0 (.L 2 3 0 (.L 3 7 0 (.L 4 15 1 (.L 5 31 0 (.L 6 63 0 (.L 7 127 0 (.L 8 127 0 (.L 9 511 0 (.L 10 1023 0 (.L 11 2047 1 (.L 12 4095 0 (.L 13 8191 0 (.L 14 16383 0 (.L 15 32767 0 (.L 16 32767 0 (.L 17 131071 0 (.L 18 262143 0 (.L 19 524287 1 (.L 20 1048575 0 (.L 21 2097151 0 (.L 22 4194303 0 (.L 23 4194303 0 (.L 24 16777215 0 (.L 25 33554431 0 (.L 26 67108863 1 (.L 27 4194303 0 (.L 28 4194303 0 (.L 29 406847487 0 (.L 30 943718399 0 (.L 31 2017460223 1 (.H 32 4164943871 3 (.L 33 8589934591 0 (.L 34 17179869183 0 (.L 35 34359738367 0 .fin)))))))))))))))))))))))))))))))))))) rfl (by kernel_rfl) ?_
  refine gg ?_
  refine d_light0 rfl rfl rfl rfl (o_indexAddr v0 v0 ElF.h hlx) ?_
  refine gg ?_
  refine d_light1 rfl rfl rfl rfl (o_loadRo1 v0 hr TyF.h TyF.z t0) ?_
  by_cases c1 : kd < 1
  ·have c1' : decide (kd < 1) = true := decide_eq_true c1
   refine gg ?_
   refine s_put0 rfl rfl rfl (o_store v0 (e_base rfl k4) hcr fc TyF.z rfl rfl rfl rfl) (fun m' g => ?_)
   have K := K.w g hcr (fun _ h => by cases h) (Or.inr rfl)
   refine gg ?_
   refine w_retAt rfl ?_
   refine Wp.gen (fun b' eb => ?_)
   exact ht _ b' K.out (Cel.of g.same ((g.famo rt).trans fc)) (by rw [all_cons, show isVal (kd, n) = false by unfold isVal; dsimp only; rw [if_neg (by omega), decide_eq_false (by omega)]; rfl]; rfl) (eqb eb (e_base rfl k4)) (eqb eb v0)
  have c1' : decide (kd < 1) = false := decide_eq_false c1
  refine gg ?_
  refine d_light0 rfl rfl (gT rfl ⟨v0⟩ (by assumption)).h rfl (o_indexAddr v0 v0 ElF.h hlx) ?_
  refine gg ?_
  refine d_light1 rfl rfl (gT rfl ⟨v0⟩ (by assumption)).h rfl (o_loadRo1 v0 hr TyF.h TyF.z t0) ?_
  by_cases c2 : kd > 4
  ·have c2' : decide (kd > 4) = true := decide_eq_true c2
   refine gg ?_
   refine s_put0 rfl rfl rfl (o_store v0 (e_base rfl k4) hcr fc TyF.z rfl rfl rfl rfl) (fun m' g => ?_)
   have K := K.w g hcr (fun _ h => by cases h) (Or.inr rfl)
   refine gg ?_
   refine w_retAt rfl ?_
   refine Wp.gen (fun b' eb => ?_)
   exact ht _ b' K.out (Cel.of g.same ((g.famo rt).trans fc)) (by rw [all_cons, show isVal (kd, n) = false by unfold isVal; dsimp only; rw [if_neg (by omega), decide_eq_false (show ¬ kd ≤ 4 by omega), Bool.and_false]]; rfl) (eqb eb (e_base rfl k4)) (eqb eb v0)
  have c2' : decide (kd > 4) = false := decide_eq_false c2
  refine gg ?_
  refine d_light0 rfl rfl (gT rfl ⟨v0⟩ (by assumption)).h rfl (o_indexAddr v0 v0 ElF.h hlx) ?_
  refine gg ?_
  refine d_light1 rfl rfl (gT rfl ⟨v0⟩ (by assumption)).h rfl (o_loadRo1 v0 hr TyF.h TyF.z t0) ?_
  by_cases c3 : kd = 1
  rotate_left
  ·have c3' : (kd == 1) = false := beq_eq_false_iff_ne.2 c3
   refine gg ?_
   refine w_inLoop ?_
   refine Wp.gen (fun b' eb => ?_)
   refine ih (pre ++ [(kd, n)]) b' (by simp [hsp]) K.wf (Cel.of hcr fc) (hsl0.kept K) (eqb eb (e_base rfl k1)) (eqb eb (e_base rfl k4)) (eqb eb ((e_hit rfl).trans (by rw [List.length_append]; rfl))) (fun m' b'' k h h1 h2 h4 => hk m' b'' ((Kept.refl hw).trans k) (by rw [all_cons, show isVal (kd, n) = true by unfold isVal; dsimp only; rw [if_neg c3, decide_eq_true (show 1 < kd by omega), decide_eq_true (show kd ≤ 4 by omega)]; rfl, h]; rfl) h1 (h2.trans (eqb eb (e_base rfl rfl))) h4) (fun m' b'' k hc h h4 h5 => ht m' b'' ((Kept.refl hw).trans k) hc (by rw [all_cons, h, Bool.and_false]) h4 h5)
  have c3' : (kd == 1) = true := beq_iff_eq.2 c3
  refine gg ?_
  refine d_light0 rfl rfl (gT rfl ⟨v0⟩ (by assumption)).h rfl (o_indexAddr v0 v0 ElF.h hlx) ?_
  refine gg ?_
  refine d_light1 rfl rfl (gT rfl ⟨v0⟩ (by assumption)).h rfl (o_loadRo1 v0 hr TyF.h TyF.z t1) ?_
  refine gg ?_
  refine d_light0 rfl rfl (gT rfl ⟨v0⟩ (by assumption)).h rfl (o_indexAddr v0 v0 ElF.h hlx) ?_
  refine gg ?_
  refine d_light1 rfl rfl (gT rfl ⟨v0⟩ (by assumption)).h rfl (o_loadRo1 v0 hr TyF.h TyF.z t1) ?_
  refine d_callE K kk (o_calls (me1 v0)) (rclamp_ok hfl _ K.wf) (lk_skip (by kernel_rfl) (lk_keep (by kernel_rfl) (lk_skip (by kernel_rfl) (lk_skip (by kernel_rfl) (lk_skip (by kernel_rfl) lk0))))) (fun m' K kk => ?_)
  refine ⟨(ck_skip (by kernel_rfl) (ck_one (o_loadRo1 v0 (K.ro _ _ hr) TyF.h TyF.z t1) (aq_int _ _) (ck_skip (by kernel_rfl) (ck_skip (by kernel_rfl) (ck_skip (by kernel_rfl) ck0))))), ?_⟩
  have hcr := (kk.get _ ltr id).trans hcr
  have fc := (kk.fam _ ltr id).trans fc
  by_cases c4 : n = clampI n
  ·have c4' : (n != clampI n) = false := by simpa using c4
   refine gg ?_
   refine w_inLoop ?_
   refine Wp.gen (fun b' eb => ?_)
   refine ih (pre ++ [(kd, n)]) b' (by simp [hsp]) K.wf (Cel.of hcr fc) (hsl0.kept K) (eqb eb (e_base rfl k1)) (eqb eb (e_base rfl k4)) (eqb eb ((e_hit rfl).trans (by rw [List.length_append]; rfl))) (fun m' b'' k h h1 h2 h4 => hk m' b'' (kk.trans k) (by rw [all_cons, show isVal (kd, n) = true by unfold isVal; dsimp only; rw [if_pos c3]; unfold ranged; unfold clampI at c4; simp only [Bool.and_eq_true, decide_eq_true_eq]; omega, h]; rfl) h1 (h2.trans (eqb eb (e_base rfl rfl))) h4) (fun m' b'' k hc h h4 h5 => ht m' b'' (K.out.trans k) hc (by rw [all_cons, h, Bool.and_false]) h4 h5)
  ·have c4' : (n != clampI n) = true := by simpa using c4
   refine gg ?_
   refine s_put0 rfl rfl rfl (o_store v0 (e_base rfl k4) hcr fc TyF.z rfl rfl rfl rfl) (fun m' g => ?_)
   have K := K.w g hcr (fun _ h => by cases h) (Or.inr rfl)
   refine gg ?_
   refine w_retAt rfl ?_
   refine Wp.gen (fun b' eb => ?_)
   exact ht _ b' K.out (Cel.of g.same ((g.famo rt).trans fc)) (by rw [all_cons, show isVal (kd, n) = false by unfold isVal; dsimp only; rw [if_pos c3]; unfold ranged; unfold clampI at c4; rw [Bool.and_eq_false_iff, decide_eq_false_iff_not, decide_eq_false_iff_not]; omega]; rfl) (eqb eb (e_base rfl k4)) (eqb eb v0)
theorem rValue_ok {m : Mem} {env : List VP} {ev : AVal} {n : Nat} {e : AX} (hsz : SizeOf.sizeOf e < n) (hok : e.OK m) (hev : SlA m ev 2 (env.map vcells)) (hw : Wf m) : CallQ Tryz.prog fl 21 [.agg e.cells, ev] m (Rets noS m (.tuple [.agg (vcells (valR env n e).1), iv (valR env n e).2])) := by
 have ht := vis_top (sz := env.length) hsz
 obtain ⟨op, nn, kv, kids⟩ := e
 have ha : allCells [iv op, iv nn, kv] = true := ax_cells hok
 refine hfl.start (by decide) 59 Tryz.func21 rfl rfl (Nat.le_of_ble_eq_true rfl) ?_
 intro bs hb
 have ar0 := hb 0 _ rfl
 have ar1 := hb 1 _ rfl
 clear hb
 have K : Kept (fun q => m.next ≤ q ∨ noS q) m m := Kept.refl hw
 have cev := hev.cell
 have hlen := hev.lenM
 refine gg ?_
 refine s_new rfl rfl rfl rfl (o_box (e_base rfl ar0) rfl) (fun m1 g => ?_)
 have n1 := g.next
 have hp : m1.heap.get m.next = some (.row (46, 0) [iv op, iv nn, kv] m.next 0) := g.same
 have K := K.g g
 refine gg ?_
 refine s_new rfl rfl rfl rfl (o_alloc ZcF.h) (fun m2 g => ?_)
 have n2 := g.next
 have f := g.fam0 K.wf
 have h := g.same
 have hp := (g.other m.next (by omega)).trans hp
 have K := K.g g
 generalize hx : AX.mk op nn kv kids = x at *
 have hc : x.cells = [iv op, iv nn, kv] := by subst hx; rfl
 refine gg ?_
 refine s_val rfl rfl rfl rfl (o_loadRowA (off := 0) v0 hp TyF.h (TyF.z (g := true)) (takeW rfl ha)) ?_
 refine gg ?_
 have l1 := K.wf.lt h
 have l2 := K.wf.lt hp
 refine s_callE K (Kept.refl (S := noS) K.wf) (o_calls (me2 v0 v0)) (by have := expFormed_ok hfl (sz := env.length) hsz (hok.kept K) K.wf; rw [hc] at this; exact this) (fun m' K k => ?_)
 have f := (k.fam _ l1 id).trans f
 have h := (k.get _ l1 id).trans h
 have hp := (k.get _ l2 id).trans hp
 rw [← ht]
 refine gg ?_
 refine w_cond v0 (fun c2 => ?_) (fun c2 => ?_)
 ·have c2 : (visN env.length n 1 x 0).1 = false := by simpa using c2
  have e1 : valR env n x = ((0, 0), 2) := by unfold valR; rw [c2, Bool.and_false]; rfl
  refine gg ?_
  refine s_put0 rfl rfl rfl (o_store v0 v0 h f TyF.z rfl rfl rfl rfl) (fun m' g => ?_)
  have K := K.w g h (fun _ h => by cases h) (Or.inl (by omega))
  refine gg ?_
  refine w_retAt rfl ?_
  refine w_results Tryz.func21 (rvct v0 (lvA g.same TyF.h TyF.z rfl) v0) ?_
  rw [e1]
  exact ⟨_, _, rfl, K.out⟩
 have c2 : (visN env.length n 1 x 0).1 = true := by simpa using c2
 have fm : fmN env.length n x = true := by
  rw [(vis_ok _ n x 1 0 hsz (by omega)).1, Bool.and_eq_true] at c2
  exact c2.1
 have nx := K.next
 refine gg ?_
 refine w_loop ?_
 refine Wp.gen (fun b0 eb => ?_)
 have q2 : getT b0 2 = .ptr m.next 0 := eqb eb v0
 have q5 : getT b0 5 = iv 0 := eqb eb v0
 refine env_loop hfl _ env [] b0 rfl K.wf (Cel.of h f) (hev.kept K) (eqb eb (e_base rfl ar1)) (eqb eb v0) (eqb eb v0) (fun m3 b' k c1 k1 k2 k4 => ?_) (fun m3 b' k hc' c1 k4 k5 => ?_)
 ·have e1 : valR env n x = (valN env n x, 0) := by unfold valR; rw [c1, c2]; rfl
  have f := (k.fam _ (K.wf.lt h) id).trans f
  have hp := (k.get _ (K.wf.lt hp) id).trans hp
  have h := (k.get _ (K.wf.lt h) id).trans h
  have k2 := k2.trans q2
  have K := K.k k (fun _ h => h.elim)
  change Wp Tryz.prog fl (At _ _ (sets 59 b' []) _ _ _ _) _
  refine gg ?_
  refine s_val rfl rfl rfl rfl (o_loadRowA (off := 0) (e_base rfl k2) hp TyF.h (TyF.z (g := true)) (takeW rfl ha)) ?_
  refine gg ?_
  refine s_callD K h f (o_calls (me2 v0 v0)) (by have := rvalue_ok hfl (fun p hp => List.all_eq_true.1 c1 p hp) n x fm (hok.kept K) (hev.kept K) K.wf; rw [hc] at this; exact this) (fun m' k K h f => ?_)
  refine gg ?_
  refine s_put0 rfl rfl rfl (o_store v0 (e_base rfl k4) h f TyF.z rfl rfl rfl rfl) (fun m' g => ?_)
  have K := K.w g h (fun _ h => by cases h) (Or.inl (by omega))
  refine gg ?_
  refine w_retAt rfl ?_
  refine w_results Tryz.func21 (rvct (e_base rfl k4) (lvA g.same TyF.h TyF.z rfl) v0) ?_
  rw [e1]
  exact ⟨_, _, rfl, K.out⟩
 ·have e1 : valR env n x = ((0, 0), 2) := by unfold valR; rw [c1]; rfl
  have K := K.k k (fun q h => Or.inl (by omega))
  obtain ⟨⟨_, hc'⟩, _⟩ := hc'
  change Wp Tryz.prog fl (At _ _ (sets 59 b' []) _ _ _ _) _
  refine w_results Tryz.func21 (rvct (e_base rfl k4) (lvA hc' TyF.h TyF.z rfl) (e_base rfl k5)) ?_
  rw [e1]
  exact ⟨_, _, rfl, K.out⟩
omit hfl in
theorem known15 (hk : ∀ m, fl.tb 15 [] m = some (.bool true)) {m : Mem} (hw : Wf m) : CallQ Tryz.prog fl 15 [] m (Rets noS m (.lit (.bool true))) := CallQ.known (hk m) ⟨_, _, rfl, Kept.refl hw⟩
theorem law_ok {m : Mem} (hk : ∀ m, fl.tb 15 [] m = some (.bool true)) {env : List VP} {ev : AVal} {e : AX} (hok : e.OK m) (hev : SlA m ev 2 (env.map vcells)) (hw : Wf m) : CallQ Tryz.prog fl 5 [.agg e.cells, ev] m (Rets noS m (.lit (.bool true))) := by
 obtain ⟨n, hsz⟩ : ∃ n, SizeOf.sizeOf e < n := ⟨_, Nat.lt_succ_self _⟩
 obtain ⟨op, nn, kv, kids⟩ := e
 have ha : allCells [iv op, iv nn, kv] = true := ax_cells hok
 refine hfl.start (by decide) 36 Tryz.func5 rfl rfl (Nat.le_of_ble_eq_true rfl) ?_
 intro bs hb
 have ar0 := hb 0 _ rfl
 have ar1 := hb 1 _ rfl
 clear hb
 have K : Kept (fun q => m.next ≤ q ∨ noS q) m m := Kept.refl hw
 have cev := hev.cell
 have hlen := hev.lenM
 refine gg ?_
 refine s_new rfl rfl rfl rfl (o_box (e_base rfl ar0) rfl) (fun m1 g => ?_)
 have n1 := g.next
 have h : m1.heap.get m.next = some (.row (46, 0) [iv op, iv nn, kv] m.next 0) := g.same
 have f := g.fam0 K.wf
 have K := K.g g
 generalize hx : AX.mk op nn kv kids = x at *
 have hc : x.cells = [iv op, iv nn, kv] := by subst hx; rfl
 refine gg ?_
 refine w_cond v0 (fun c => ?_) (fun c => ?_)
 ·refine gg ?_
  refine s_callD K h f (o_calls me0) (known15 hk K.wf) (fun m' k K h f => ?_)
  refine gg ?_
  refine w_retAt rfl ?_
  refine w_results Tryz.func5 (rv1 v0) ?_
  exact ⟨_, _, rfl, K.out⟩
 ·refine gg ?_
  refine s_val rfl rfl rfl rfl (o_loadRowA (off := 0) v0 h TyF.h (TyF.z (g := true)) (takeW rfl ha)) ?_
  refine gg ?_
  refine s_callD K h f (o_calls (me2 v0 v0)) (by have := sValue_ok hfl hsz (hok.kept K) (hev.kept K) K.wf; rw [hc] at this; exact this) (fun m' k K h f => ?_)
  have sR := fun {m : Mem} hok hev hw => rValue_ok hfl (m := m) (env := env) (ev := ev) (n := n) (e := x) hsz hok hev hw
  rw [hc] at sR
  generalize valR env n x = w at *
  obtain ⟨⟨k1, v1⟩, e1⟩ := w
  refine gg ?_
  refine s_new rfl rfl rfl rfl (o_alloc ZcF.h) (fun m2 g => ?_)
  have n2 := g.next
  have l1 := K.wf.lt h
  have fa := g.fam0 K.wf
  have hA := g.same
  have f := (g.famo m.next).trans f
  have h := (g.other m.next (by omega)).trans h
  have K := K.g g
  refine gg ?_
  refine s_put0 rfl rfl rfl (o_store v0 v0 hA fa TyF.z rfl rfl rfl rfl) (fun m3 g => ?_)
  have nx := K.next
  have n3 := g.next
  have K := K.w g hA (fun _ h => by cases h) (Or.inl (by omega))
  have hA := g.same
  have f := (g.famo m.next).trans f
  have h := (g.other m.next (by omega)).trans h
  refine gg ?_
  refine s_val rfl rfl rfl rfl (o_loadRowA (off := 0) v0 h TyF.h (TyF.z (g := true)) (takeW rfl ha)) ?_
  refine gg ?_
  have kk := Kept.refl (S := noS) K.wf
  have l2 := K.wf.lt hA
  refine s_callE K kk (o_calls (me2 v0 v0)) (sR (hok.kept K) (hev.kept K) K.wf) (fun m4 K k => ?_)
  have hA := (k.get _ l2 id).trans hA
  refine gg ?_
  refine s_new rfl rfl rfl rfl (o_alloc ZcF.h) (fun m5 g => ?_)
  have n5 := g.next
  have nk := k.next
  have fb := g.fam0 K.wf
  have hB := g.same
  have hA := (g.other _ (by have := K.wf.lt hA; omega)).trans hA
  have K := K.g g
  refine gg ?_
  refine s_put0 rfl rfl rfl (o_store v0 v0 hB fb TyF.z rfl rfl rfl rfl) (fun m6 g => ?_)
  have nx := K.next
  have K := K.w g hB (fun _ h => by cases h) (Or.inl (by omega))
  have hA := (g.other _ (by omega)).trans hA
  have hB := g.same
  refine gg ?_
  have eq : ((k1 == k1) && ((v1 == v1) && true)) = true := by simp
  have ee : (e1 == e1) = true := beq_self_eq_true _
  refine s_val rfl rfl rfl rfl (o_eqlP (b := (k1 == k1) && ((v1 == v1) && true)) (xs := [.int .i64 k1, .int .i64 v1]) (ys := [.int .i64 k1, .int .i64 v1]) v0 v0 pl_50 rfl) ?_
  refine gg ?_
  refine s_callE K (Kept.refl (S := noS) K.wf) (o_calls me0) (known15 hk K.wf) (fun m' K k => ?_)
  refine gg ?_
  refine w_retAt rfl ?_
  refine w_results Tryz.func5 (rv1 v0) ?_
  exact ⟨_, _, rfl, K.out⟩
end
end Go.Proofs.YtkfjmpdbfjaboaaGreat
