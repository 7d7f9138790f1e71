/- A part of the proof of TermChecks. -/
import Derived.Test.YtjefckdgpbdpeaaGreatTd
import Derived.Test.YtjefckdgpbdpeaaGreatAbsM
namespace Go.Proofs.YtjefckdgpbdpeaaGreat
open Go Go.Abs
open Go.RowKit (Below)
set_option maxRecDepth 10000
noncomputable section
variable {fl : Fl} (hfl : Tab fl)
include hfl
omit hfl in
def ndN : Nat → Part → Nat
 | 0, _ => 0
 | n + 1, p => 1 + (p.subs.map (ndN n)).sum
omit hfl in
def leftI (x : Int) (k : Nat) : Int := max (x - (k : Int)) (-1)
omit hfl in
theorem leftI_add (x : Int) (a b : Nat) : leftI (leftI x a) b = leftI x (a + b) := by unfold leftI; omega
omit hfl in
def SmQ (fl : Fl) (lp n : Nat) (p : Part) (x : Int) (m : Mem) : Prop := CallQ Tryz.prog fl (match p with | .ex _ => 61 | .cl _ => 100 | .tm _ => 59) [.agg p.cells, .ptr lp 0] m (fun r => ∃ v u m', r = .ret v u m' ∧ ((∃ t, p = .tm t) → v = .lit (.bool (decide (leftI x (ndN n p) ≥ 0)))) ∧ Kept (fun q => q = lp) m m' ∧ Cel m' lp [iv (leftI x (ndN n p))])
omit hfl in
theorem allCells_cons (v : AVal) (l : List AVal) : allCells (v :: l) = (isCell v && allCells l) := by
 show (bif isCell v then allCells l else false) = _
 cases isCell v <;> rfl
omit hfl in
theorem ex_cells {m : Mem} {e : AEx} (h : Part.OK m (.ex e)) : allCells e.cells = true := by
 cases e with
 | mk op n s kv kids =>
  cases h with
  | mk h1 h2 => show allCells [iv op, iv n, .lit (.string s), kv] = true; simp only [allCells_cons, h1.cell]; rfl
omit hfl in
theorem cl_cells {m : Mem} {e : ACl} (h : Part.OK m (.cl e)) : allCells e.cells = true := by
 cases e with
 | mk f s jv dv kv joins defs kids =>
  cases h with
  | mk h1 h2 h3 h4 h5 h6 => show allCells [iv f, .lit (.string s), jv, dv, kv] = true; simp only [allCells_cons, h1.cell, h2.cell, h3.cell]; rfl
omit hfl in
theorem tm_cells {m : Mem} {e : ATm} (h : Part.OK m (.tm e)) : allCells e.cells = true := by
 cases e with
 | mk op s av dv kv args defs kids =>
  cases h with
  | mk h1 h2 h3 h4 h5 h6 => show allCells [iv op, .lit (.string s), av, dv, kv] = true; simp only [allCells_cons, h1.cell, h2.cell, h3.cell]; rfl
omit hfl in
def SmL {α : Type} (fl : Fl) (cs : α → List AVal) (pt : α → Part) (sz f nt ix : Nat) (c : Code) (j : Nat) (rw : AVal → AVal → AVal → AVal → AVal → List AVal) : Prop :=
 ∀ (z3 : AVal) {lp r2 n : Nat} {z0 z1 z2 kv : AVal}, lp ≠ r2 → (∀ (p : Part) (x : Int) {m : Mem}, SizeOf.sizeOf p < n → Cel m lp [iv x] → 0 ≤ x → x ≤ 60 → p.OK m → Wf m → SmQ fl lp n p x m) → ∀ (els : List α), (∀ c, c ∈ els → SizeOf.sizeOf (pt c) < n) → ∀ (k : List AItem) {Q : RR → Prop} {up : Chain} (rest pre : List α) (x : Int) {m : Mem} (b : T AVal), els = pre ++ rest → Wf m → -1 ≤ x → x ≤ 60 → Cel m lp [iv x] → Cel m r2 (rw z0 z1 z2 z3 kv) → SlA m kv sz (els.map cs) → (∀ c, c ∈ els → Part.OK m (pt c)) → getT b 1 = .ptr lp 0 → getT b 2 = .ptr r2 0 → getT b ix = goI pre.length →
  (∀ (m' : Mem) (b' : T AVal), Kept (fun q => q = lp) m m' → Cel m' lp [iv (leftI x ((rest.map fun c => ndN n (pt c)).sum))] → getT b' 1 = .ptr lp 0 → getT b' 2 = .ptr r2 0 → Wp Tryz.prog fl (At ⟨f, nt, false, none⟩ k b' [] .run up m') Q) → Wp Tryz.prog fl (At ⟨f, nt, false, none⟩ (.code c :: .inLoop c :: .inBlock j :: k) (sets nt b []) [] .run up m) Q
theorem sm_all : SmL fl AEx.cells Part.ex 4 61 31 4 (cAt [true, true, true, false, false] (bodyF Tryz.f61)) 0 (fun z0 z1 z2 z3 kv => [z0, z1, z2, kv]) ∧
  SmL fl ACl.cells Part.cl 5 100 52 4 (cAt [true, true, false, true, false, false] (bodyF Tryz.f100)) 0 (fun z0 z1 z2 z3 kv => [z0, z1, z2, kv, z3]) ∧
  SmL fl ATm.cells Part.tm 5 100 52 5 (cAt [true, true, true, true, false, false] (bodyF Tryz.f100)) 2 (fun z0 z1 z2 z3 kv => [z0, z1, z2, z3, kv]) ∧
  SmL fl AEx.cells Part.ex 4 59 78 5 (cAt [true, true, false, true, false, false] (bodyF Tryz.f59)) 0 (fun z0 z1 z2 z3 kv => [z0, z1, kv, z2, z3]) ∧
  SmL fl ACl.cells Part.cl 5 59 78 6 (cAt [true, true, true, false, true, false, false] (bodyF Tryz.f59)) 2 (fun z0 z1 z2 z3 kv => [z0, z1, z2, kv, z3]) ∧
  SmL fl ATm.cells Part.tm 5 59 78 7 (cAt [true, true, true, true, false, true, false, false] (bodyF Tryz.f59)) 4 (fun z0 z1 z2 z3 kv => [z0, z1, z2, z3, kv]) := by
 have _ := hfl
 refine ⟨?_, ?_, ?_, ?_, ?_, ?_⟩ <;> unfold SmL <;> dsimp only <;> (
 intro z3 lp r2 n z0 z1 z2 kv hne ih els hsz k Q up rest
 induction rest with
 | nil =>
  intro pre x m b hsp hw hx0 hx1 hl h2 hsl hok kf1 kf2 hix hk
  have K : Kept (fun q => m.next ≤ q ∨ (fun q => q = lp) q) m m := Kept.refl hw
  obtain ⟨⟨e2, h2r⟩, f2⟩ := h2
  have c_kv := hsl.cell
  have hlt := hsl.ltF hsp
  refine w_seq ?_
  refine w_seq ?_
  refine w_region rfl ?_
  refine gr ?_
  refine q_nil ?_
  refine w_condF v0 rfl ?_
  refine w_exit rfl ?_
  refine Wp.gen (fun b' eb => ?_)
  exact hk _ b' K.out (by simp only [List.map_nil, List.sum_nil, leftI]; rwa [show max (x - ((0 : Nat) : Int)) (-1) = x by omega]) (eqb eb (e_base rfl kf1)) (eqb eb (e_base rfl kf2))
 | cons y rest ih0 =>
  intro pre x m b hsp hw hx0 hx1 hl h2 hsl hok kf1 kf2 hix hk
  have K : Kept (fun q => m.next ≤ q ∨ (fun q => q = lp) q) m m := Kept.refl hw
  have hl0 := hl
  have h20 := h2
  have lt2 := h2.lt hw
  obtain ⟨⟨el, hlr⟩, fl0⟩ := hl
  obtain ⟨⟨e2, h2r⟩, f2⟩ := h2
  have c_kv := hsl.cell
  have hlt := hsl.ltT hsp
  have hln := hsl.lnT hsp
  have hsl0 := hsl
  obtain ⟨r, off, cc, ex, row, hv, hlx, hr, htk⟩ := hsl.here hsp
  subst hv
  have hym : y ∈ els := by simp [hsp]
  refine gg ?_
  refine w_cond v0 (fun c => ?_) (fun c => ?_)
  ·refine gg ?_
   refine s_val rfl rfl rfl rfl (o_indexAddr v0 v0 ElF.h (by simpa using hlx)) ?_
   refine s_val rfl rfl rfl rfl (o_loadRoA v0 hr (TyF.h (s := _)) (TyF.z (g := true)) htk) ?_
   refine gg ?_
   refine s_call rfl rfl rfl rfl (o_calls (me2 v0 v0)) (ih _ x (hsz y hym) (Cel.of hlr fl0) (of_decide_eq_true c) hx1 ((hok y hym).kept K) K.wf) ?_ (by rintro c u m' ⟨_, _, _, h, _⟩; cases h)
   rintro v u mq ⟨_, _, _, hret, _, kq, hlq⟩
   cases hret
   have Kq := K.k kq (fun _ h => Or.inr h)
   refine gg ?_
   refine w_inLoop ?_
   refine Wp.gen (fun b' eb => ?_)
   exact ih0 (pre ++ [y]) _ b' (by simp [hsp]) Kq.wf (by unfold leftI; omega) (by unfold leftI; omega) hlq (h20.kept Kq lt2 (by rintro (h | h) <;> omega)) (hsl0.kept Kq) (fun c hc => (hok c hc).kept Kq) (eqb eb (e_base rfl kf1)) (eqb eb (e_base rfl kf2)) (eqb eb ((e_hit rfl).trans (by rw [List.length_append]; rfl))) (fun m' b' k h1 h2 h3 => hk m' b' (Kq.out.trans k) (by rw [List.map_cons, List.sum_cons, ← leftI_add]; exact h1) h2 h3)
  ·refine w_exit rfl ?_
   have hge : ¬ (x ≥ 0) := of_decide_eq_false c
   refine Wp.gen (fun b' eb => ?_)
   exact hk _ b' K.out (by rw [show leftI x _ = x by unfold leftI; omega]; exact hl0) (eqb eb (e_base rfl kf1)) (eqb eb (e_base rfl kf2)))
theorem small_ok {lp : Nat} : ∀ (n : Nat) (p : Part) (x : Int) {m : Mem}, SizeOf.sizeOf p < n → Cel m lp [iv x] → 0 ≤ x → x ≤ 60 → p.OK m → Wf m → SmQ fl lp n p x m := by
 intro n
 induction n with
 | zero => intro p x m h; omega
 | succ n ih =>
  intro p x m hsz hl hx0 hx1 hp hw
  have hsub : ∀ r, r ∈ p.subs → SizeOf.sizeOf r < n := fun r hr => by have := subs_size hr; omega
  cases p with
  | ex e =>
   cases e with
   | mk op n0 s kv kids =>
    cases hp with
    | mk h1 h2 =>
    have lelt := hl.lt hw
    refine hfl.start (f := 61) (by decide) 31 Tryz.func61 rfl rfl (Nat.le_of_ble_eq_true rfl) ?_
    intro bs hb
    have ar0 := hb 0 _ rfl
    have ar1 := hb 1 _ rfl
    clear hb
    have K0 : Kept (fun q => m.next ≤ q ∨ (fun q => q = lp) q) m m := Kept.refl hw
    obtain ⟨⟨el, hlr⟩, fl0⟩ := hl
    refine gg ?_
    refine s_new rfl rfl rfl rfl (o_box (e_base rfl ar0) rfl) (fun m7 g8 => ?_)
    have n9 := g8.next
    have K10 := K0.g g8
    refine gg ?_
    have h11 := hxM m7 lp
    refine gg ?_
    have f12 := fxM m7 lp
    refine s_put0 rfl rfl rfl (o_store (e_hit rfl) (e_hit rfl) h11 f12 sz_3 rfl rfl rfl rfl) (fun m13 g14 => ?_)
    have n15 := g14.next
    have K16 := K10.w g14 h11 (fun _ h => by cases h) (Or.inr rfl)
    refine gg ?_
    have h17 := hxM m13 m.next
    have f18 := fxM m13 m.next
    have f19 := fxM m13 lp
    obtain ⟨r2, er2⟩ : ∃ r, r = m.next := ⟨_, rfl⟩
    have h2c := Cel.of h17 f18
    rw [← er2] at h2c
    have hlc := Cel.of g14.same f19
    rw [← er2]
    refine w_loop ?_
    refine Wp.gen (fun b0 eb => ?_)
    refine (sm_all hfl).1 kv (by omega) ih kids (fun c hc => hsub _ (by simp [Part.subs, hc])) _ _ [] (x - 1) b0 (by rfl) K16.wf (by omega) (by omega) hlc (h2c) (h1.kept K16) (fun c hc => (h2 c hc).kept K16) (eqb eb (e_base rfl ar1)) (eqb eb (e_hit rfl)) (eqb eb (e_hit rfl)) ?_
    intro mm0 b0 k0 hl0 e1_0 e2_0
    have KK0 := K16.k k0 (fun _ h => Or.inr h)
    change Wp Tryz.prog fl (At _ _ (sets 31 b0 []) _ _ _ _) _
    obtain ⟨⟨eL0, hL0⟩, fL0⟩ := id hl0
    refine w_fall rfl ?_
    refine w_results Tryz.func61 rv0 ?_
    have en : leftI x (ndN (n + 1) (.ex (.mk op n0 s kv kids))) = (leftI (x - 1) ((kids.map fun c => ndN n (Part.ex c)).sum)) := by show leftI x (1 + ((Part.subs (.ex (.mk op n0 s kv kids))).map (ndN n)).sum) = _; simp only [Part.subs, List.map_map, Function.comp_def]; unfold leftI; omega
    exact ⟨_, _, _, rfl, (fun h => by obtain ⟨t, ht⟩ := h; cases ht), KK0.out, by rw [en]; exact hl0⟩
  | cl e =>
   cases e with
   | mk f s jv dv kv joins defs kids =>
    cases hp with
    | mk h1 h2 h3 h4 h5 h6 =>
    have lelt := hl.lt hw
    refine hfl.start (f := 100) (by decide) 52 Tryz.func100 rfl rfl (Nat.le_of_ble_eq_true rfl) ?_
    intro bs hb
    have ar0 := hb 0 _ rfl
    have ar1 := hb 1 _ rfl
    clear hb
    have K0 : Kept (fun q => m.next ≤ q ∨ (fun q => q = lp) q) m m := Kept.refl hw
    obtain ⟨⟨el, hlr⟩, fl0⟩ := hl
    refine gg ?_
    refine s_new rfl rfl rfl rfl (o_box (e_base rfl ar0) rfl) (fun m20 g21 => ?_)
    have n22 := g21.next
    have K23 := K0.g g21
    refine gg ?_
    have h24 := hxM m20 lp
    refine gg ?_
    have f25 := fxM m20 lp
    refine s_put0 rfl rfl rfl (o_store (e_hit rfl) (e_hit rfl) h24 f25 sz_3 rfl rfl rfl rfl) (fun m26 g27 => ?_)
    have n28 := g27.next
    have K29 := K23.w g27 h24 (fun _ h => by cases h) (Or.inr rfl)
    refine gg ?_
    have h30 := hxM m26 m.next
    have f31 := fxM m26 m.next
    have f32 := fxM m26 lp
    obtain ⟨r2, er2⟩ : ∃ r, r = m.next := ⟨_, rfl⟩
    have h2c := Cel.of h30 f31
    rw [← er2] at h2c
    have hlc := Cel.of g27.same f32
    rw [← er2]
    refine w_loop ?_
    refine Wp.gen (fun b0 eb => ?_)
    refine (sm_all hfl).2.1 _ (by omega) ih defs (fun c hc => hsub _ (by simp [Part.subs, hc])) _ _ [] (x - 1) b0 (by rfl) K29.wf (by omega) (by omega) hlc (h2c) (h2.kept K29) (fun c hc => (h5 c hc).kept K29) (eqb eb (e_base rfl ar1)) (eqb eb (e_hit rfl)) (eqb eb (e_hit rfl)) ?_
    intro mm0 b0 k0 hl0 e1_0 e2_0
    have KK0 := K29.k k0 (fun _ h => Or.inr h)
    have h2k0 := (h2c).kept k0 (by omega) (by show ¬ (r2 = lp); omega)
    change Wp Tryz.prog fl (At _ _ (sets 52 b0 []) _ _ _ _) _
    obtain ⟨⟨eL0, hL0⟩, fL0⟩ := id hl0
    refine gg ?_
    refine w_loop ?_
    refine Wp.gen (fun b0 eb => ?_)
    refine (sm_all hfl).2.2.1 _ (by omega) ih kids (fun c hc => hsub _ (by simp [Part.subs, hc])) _ _ [] _ b0 (by rfl) KK0.wf (by unfold leftI; omega) (by unfold leftI; omega) hl0 (h2k0) (h3.kept KK0) (fun c hc => (h6 c hc).kept KK0) (eqb eb (e_base rfl e1_0)) (eqb eb (e_base rfl e2_0)) (eqb eb (e_hit rfl)) ?_
    intro mm1 b1 k1 hl1 e1_1 e2_1
    have KK1 := KK0.k k1 (fun _ h => Or.inr h)
    change Wp Tryz.prog fl (At _ _ (sets 52 b1 []) _ _ _ _) _
    obtain ⟨⟨eL1, hL1⟩, fL1⟩ := id hl1
    refine w_fall rfl ?_
    refine w_results Tryz.func100 rv0 ?_
    have en : leftI x (ndN (n + 1) (.cl (.mk f s jv dv kv joins defs kids))) = (leftI (leftI (x - 1) ((defs.map fun c => ndN n (Part.cl c)).sum)) ((kids.map fun c => ndN n (Part.tm c)).sum)) := by show leftI x (1 + ((Part.subs (.cl (.mk f s jv dv kv joins defs kids))).map (ndN n)).sum) = _; simp only [Part.subs, List.map_append, List.map_map, List.sum_append, leftI_add, Function.comp_def]; unfold leftI; omega
    exact ⟨_, _, _, rfl, (fun h => by obtain ⟨t, ht⟩ := h; cases ht), KK1.out, by rw [en]; exact hl1⟩
  | tm e =>
   cases e with
   | mk op s av dv kv args defs kids =>
    cases hp with
    | mk h1 h2 h3 h4 h5 h6 =>
    have lelt := hl.lt hw
    refine hfl.start (f := 59) (by decide) 78 Tryz.func59 rfl rfl (Nat.le_of_ble_eq_true rfl) ?_
    intro bs hb
    have ar0 := hb 0 _ rfl
    have ar1 := hb 1 _ rfl
    clear hb
    have K0 : Kept (fun q => m.next ≤ q ∨ (fun q => q = lp) q) m m := Kept.refl hw
    obtain ⟨⟨el, hlr⟩, fl0⟩ := hl
    refine gg ?_
    refine s_new rfl rfl rfl rfl (o_box (e_base rfl ar0) rfl) (fun m33 g34 => ?_)
    have n35 := g34.next
    have K36 := K0.g g34
    refine gg ?_
    have h37 := hxM m33 lp
    refine gg ?_
    have f38 := fxM m33 lp
    refine s_put0 rfl rfl rfl (o_store (e_hit rfl) (e_hit rfl) h37 f38 sz_3 rfl rfl rfl rfl) (fun m39 g40 => ?_)
    have n41 := g40.next
    have K42 := K36.w g40 h37 (fun _ h => by cases h) (Or.inr rfl)
    refine gg ?_
    have h43 := hxM m39 m.next
    have f44 := fxM m39 m.next
    have f45 := fxM m39 lp
    obtain ⟨r2, er2⟩ : ∃ r, r = m.next := ⟨_, rfl⟩
    have h2c := Cel.of h43 f44
    rw [← er2] at h2c
    have hlc := Cel.of g40.same f45
    rw [← er2]
    refine w_loop ?_
    refine Wp.gen (fun b0 eb => ?_)
    refine (sm_all hfl).2.2.2.1 _ (by omega) ih args (fun c hc => hsub _ (by simp [Part.subs, hc])) _ _ [] (x - 1) b0 (by rfl) K42.wf (by omega) (by omega) hlc (h2c) (h1.kept K42) (fun c hc => (h4 c hc).kept K42) (eqb eb (e_base rfl ar1)) (eqb eb (e_hit rfl)) (eqb eb (e_hit rfl)) ?_
    intro mm0 b0 k0 hl0 e1_0 e2_0
    have KK0 := K42.k k0 (fun _ h => Or.inr h)
    have nn0 := k0.next
    have h2k0 := (h2c).kept k0 (by omega) (by show ¬ (r2 = lp); omega)
    change Wp Tryz.prog fl (At _ _ (sets 78 b0 []) _ _ _ _) _
    obtain ⟨⟨eL0, hL0⟩, fL0⟩ := id hl0
    refine gg ?_
    refine w_loop ?_
    refine Wp.gen (fun b0 eb => ?_)
    refine (sm_all hfl).2.2.2.2.1 _ (by omega) ih defs (fun c hc => hsub _ (by simp [Part.subs, hc])) _ _ [] _ b0 (by rfl) KK0.wf (by unfold leftI; omega) (by unfold leftI; omega) hl0 (h2k0) (h2.kept KK0) (fun c hc => (h5 c hc).kept KK0) (eqb eb (e_base rfl e1_0)) (eqb eb (e_base rfl e2_0)) (eqb eb (e_hit rfl)) ?_
    intro mm1 b1 k1 hl1 e1_1 e2_1
    have KK1 := KK0.k k1 (fun _ h => Or.inr h)
    have h2k1 := (h2k0).kept k1 (by omega) (by show ¬ (r2 = lp); omega)
    change Wp Tryz.prog fl (At _ _ (sets 78 b1 []) _ _ _ _) _
    obtain ⟨⟨eL1, hL1⟩, fL1⟩ := id hl1
    refine gg ?_
    refine w_loop ?_
    refine Wp.gen (fun b0 eb => ?_)
    refine (sm_all hfl).2.2.2.2.2 _ (by omega) ih kids (fun c hc => hsub _ (by simp [Part.subs, hc])) _ _ [] _ b0 (by rfl) KK1.wf (by unfold leftI; omega) (by unfold leftI; omega) hl1 (h2k1) (h3.kept KK1) (fun c hc => (h6 c hc).kept KK1) (eqb eb (e_base rfl e1_1)) (eqb eb (e_base rfl e2_1)) (eqb eb (e_hit rfl)) ?_
    intro mm2 b2 k2 hl2 e1_2 e2_2
    have KK2 := KK1.k k2 (fun _ h => Or.inr h)
    change Wp Tryz.prog fl (At _ _ (sets 78 b2 []) _ _ _ _) _
    obtain ⟨⟨eL2, hL2⟩, fL2⟩ := id hl2
    refine gg ?_
    refine w_retAt rfl ?_
    refine w_results Tryz.func59 (rv1 (e_hit rfl)) ?_
    have en : leftI x (ndN (n + 1) (.tm (.mk op s av dv kv args defs kids))) = (leftI (leftI (leftI (x - 1) ((args.map fun c => ndN n (Part.ex c)).sum)) ((defs.map fun c => ndN n (Part.cl c)).sum)) ((kids.map fun c => ndN n (Part.tm c)).sum)) := by show leftI x (1 + ((Part.subs (.tm (.mk op s av dv kv args defs kids))).map (ndN n)).sum) = _; simp only [Part.subs, List.map_append, List.map_map, List.sum_append, leftI_add, Function.comp_def]; unfold leftI; omega
    exact ⟨_, _, _, rfl, fun _ => by rw [en]; rfl, KK2.out, by rw [en]; exact hl2⟩
end
open Go.RowKit (Below)
set_option maxRecDepth 10000
noncomputable section
variable {fl : Fl} (hfl : Tab fl)
include hfl
theorem has_loop1 {r n : Nat} {e : Elem} {f p : Nat} {ex : Bool} (l : List ByteArray) (s : ByteArray) (hlen : l.length < 2 ^ 60) (k : List AItem) {Q : RR → Prop} {m : Mem} (hr : m.heap.get r = some (.row e (strs l) f p)) (hw : Wf m) : ∀ (rest pre : List ByteArray) (b : T AVal), l = pre ++ rest → getT b 0 = .slice r 0 l.length n ex → getT b 1 = .lit (.string s) → getT b 5 = goI pre.length → (∀ b', isIn s rest = false → Wp Tryz.prog fl (At ⟨36, 18, false, none⟩ k b' [] .run [] m) Q) → (∀ b', isIn s rest = true → getT b' 4 = .lit (.bool true) → Wp Tryz.prog fl (At ⟨36, 18, false, none⟩ [] b' [] .returning [] m) Q) → Wp Tryz.prog fl (At ⟨36, 18, false, none⟩ (.code (cAt [true, false, true, false, false] (bodyF Tryz.f36)) :: .inLoop (cAt [true, false, true, false, false] (bodyF Tryz.f36)) :: .inBlock 0 :: k) (sets 18 b []) [] .run [] m) Q := by
 have _ := hfl
 intro rest
 induction rest with
 | nil =>
  intro pre b hsp k0 k1 k5 hk ht
  have hlt : decide (Int.ofNat pre.length < Int.ofNat l.length) = false := by rw [dlt]; simp [hsp]
  refine gg ?_
  refine s_val rfl rfl rfl rfl (o_lenSl (e_hit rfl) un_22 rfl) ?_
  refine gg ?_
  exact hk _ rfl
 | cons x rest ih =>
  intro pre b hsp k0 k1 k5 hk ht
  have hlt : decide (Int.ofNat pre.length < Int.ofNat l.length) = true := by rw [dlt]; simp [hsp]
  have hln : pre.length + 1 < 2 ^ 62 := by have := hlen; simp [hsp] at this; omega
  have hpl : pre.length < l.length := by simp [hsp]
  have hgx : getO (strs l) (0 + pre.length * 1) = some (.lit (.string x)) := by rw [getO_eq, Nat.zero_add, Nat.mul_one]; exact strs_get (by rw [hsp]; simp)
  refine gg ?_
  refine s_val rfl rfl rfl rfl (o_lenSl (e_hit rfl) un_22 rfl) ?_
  refine gg ?_
  refine s_val rfl rfl rfl rfl (o_indexAddr (e_hit rfl) (e_hit rfl) el_22 hpl) ?_
  refine s_val rfl rfl rfl rfl (o_loadRow (e_hit rfl) hr tg_9 sz_9 hgx rfl) ?_
  refine gg ?_
  refine w_cond (e_hit rfl) (fun c7 => ?_) (fun c7 => ?_)
  ·
   refine gg ?_
   refine w_retAt rfl ?_
   exact ht _ (by show (seq x s || isIn s rest) = true; rw [c7]; rfl) (e_hit rfl)
  ·
   refine gg ?_
   refine w_inLoop ?_
   refine Wp.gen (fun b' eb => ?_)
   have e : isIn s (x :: rest) = isIn s rest := by show (seq x s || isIn s rest) = _; rw [c7]; rfl
   exact ih (pre ++ [x]) b' (by simp [hsp]) (eqb eb (e_base rfl k0)) (eqb eb (e_base rfl k1)) (eqb eb ((e_hit rfl).trans (by rw [List.length_append]; rfl))) (fun b h => hk b (e.trans h)) (fun b h => ht b (e.trans h))
theorem has_nil {m : Mem} (s : ByteArray) (hw : Wf m) : CallQ Tryz.prog fl 36 [.lit (.slice none 0 0), .lit (.string s)] m (Rets noS m (.lit (.bool false))) := by
 refine hfl.start (by decide) 18 Tryz.func36 rfl rfl (Nat.le_of_ble_eq_true rfl) ?_
 intro bs hb
 have ar0 := hb 0 _ rfl
 have ar1 := hb 1 _ rfl
 clear hb
 have K0 : Kept (fun q => m.next ≤ q ∨ (noS) q) m m := Kept.refl hw
 refine gg ?_
 refine w_loop ?_
 refine gg ?_
 refine s_val rfl rfl rfl rfl (o_lenSl (e_hit rfl) un_22 rfl) ?_
 refine gg ?_
 refine w_retAt rfl ?_
 refine w_results Tryz.func36 (rv1 (e_hit rfl)) ?_
 exact ⟨_, _, rfl, K0.out⟩
theorem has_row {m : Mem} {r n f p : Nat} {e : Elem} {ex : Bool} (l : List ByteArray) (s : ByteArray) (hlen : l.length < 2 ^ 60) (hr : m.heap.get r = some (.row e (strs l) f p)) (hw : Wf m) : CallQ Tryz.prog fl 36 [.slice r 0 l.length n ex, .lit (.string s)] m (Rets noS m (.lit (.bool (isIn s l)))) := by
 refine hfl.start (by decide) 18 Tryz.func36 rfl rfl (Nat.le_of_ble_eq_true rfl) ?_
 intro bs hb
 have ar0 := hb 0 _ rfl
 have ar1 := hb 1 _ rfl
 clear hb
 refine gg ?_
 refine w_loop ?_
 refine Wp.gen (fun b0 eb => ?_)
 refine has_loop1 hfl l s hlen _ hr hw l [] b0 rfl (eqb eb (e_base rfl ar0)) (eqb eb (e_base rfl ar1)) (eqb eb (e_hit rfl)) ?_ ?_
 ·
  intro b1 hf
  change Wp Tryz.prog fl (At _ _ (sets 18 b1 []) _ _ _ _) _
  refine gg ?_
  refine w_retAt rfl ?_
  refine w_results Tryz.func36 (rv1 (e_hit rfl)) ?_
  rw [hf]; exact ⟨_, _, rfl, Kept.refl hw⟩
 ·
  intro b1 hf h4
  refine w_results Tryz.func36 (rv1 h4) ?_
  rw [hf]; exact ⟨_, _, rfl, Kept.refl hw⟩
theorem rname_ok {m : Mem} (s : ByteArray) (hw : Wf m) : CallQ Tryz.prog fl 16 [.lit (.string s)] m (Rets noS m (.lit (.bool (refNameB s)))) := by
 refine hfl.start (by decide) 32 Tryz.func16 rfl rfl (Nat.le_of_ble_eq_true rfl) ?_
 intro bs hb
 have ar0 := hb 0 _ rfl
 clear hb
 have K : Kept (fun q => m.next ≤ q ∨ noS q) m m := Kept.refl hw
 refine gg ?_
 refine sg (fun c => ?_) (fun c => ?_)
 ·have c1 : 1 ≤ s.size := by have := of_decide_eq_false c; simp only [Int.ofNat_eq_natCast] at this; omega
  refine gg ?_
  refine w_cond v0 (fun d => ?_) (fun d => ?_)
  ·refine gg ?_
   refine w_retAt rfl ?_
   refine w_results Tryz.func16 (rv1 v0) ?_
   rw [show refNameB s = false by have := of_decide_eq_true d; simp only [Int.ofNat_eq_natCast] at this; simp [refNameB]; omega]
   exact ⟨_, _, rfl, Kept.refl hw⟩
  ·have c8 : s.size ≤ 8 := by have := of_decide_eq_false d; simp only [Int.ofNat_eq_natCast] at this; omega
   have e : refNameB s = (s.data.toList.all low && !isIn s kwB) := by simp [refNameB, c1, c8]
   refine gg ?_
   refine w_loop ?_
   refine Wp.gen (fun b' eb => ?_)
   refine st_all.2 s _ s.data.toList [] b' rfl c8 (eqb eb (e_base rfl ar0)) (fun h => by cases h) (eqb eb v0) ?_ ?_
   ·intro b1 k0 h
    change Wp Tryz.prog fl (At _ _ (sets 32 b1 []) _ _ _ _) _
    refine gg ?_
    refine s_new rfl rfl rfl rfl (show aop _ _ _ _ = .val (.slice m.next 0 10 10 true) (m.new (.row (9, 1) (strs kwB) m.next 0)) from by kernel_rfl) (fun m1 g => ?_)
    have K := K.g g
    refine gg ?_
    refine s_callV rfl rfl rfl rfl (o_calls (me2 v0 v0)) (has_row hfl kwB s (by decide) g.same K.wf) (fun m2 k => ?_)
    refine gg ?_
    refine w_retAt rfl ?_
    refine w_results Tryz.func16 (rv1 v0) ?_
    rw [e, h]; exact ⟨_, _, rfl, (K.k k (fun _ h => h.elim)).out⟩
   ·intro b1 h h2
    refine w_results Tryz.func16 (rv1 h2) ?_
    rw [e, h]; exact ⟨_, _, rfl, Kept.refl hw⟩
 ·refine gg ?_
  refine w_retAt rfl ?_
  refine w_results Tryz.func16 (rv1 v0) ?_
  rw [show refNameB s = false by have := of_decide_eq_true c; simp only [Int.ofNat_eq_natCast] at this; simp [refNameB]; omega]
  exact ⟨_, _, rfl, Kept.refl hw⟩
omit hfl in
def oneB (s : ByteArray) (is : Bool) : Bool := (is && refNameB s) || (!is && seq s ⟨#[]⟩)
theorem one_ok {m : Mem} (s : ByteArray) (is : Bool) (hw : Wf m) : CallQ Tryz.prog fl 98 [.lit (.string s), .lit (.bool is)] m (Rets noS m (.lit (.bool (oneB s is)))) := by
 refine hfl.start (by decide) 18 Tryz.func98 rfl rfl (Nat.le_of_ble_eq_true rfl) ?_
 intro bs hb
 have ar0 := hb 0 _ rfl
 have ar1 := hb 1 _ rfl
 clear hb
 have K0 : Kept (fun q => m.next ≤ q ∨ (noS) q) m m := Kept.refl hw
 refine gg ?_
 refine s_guardS rfl rfl (e_hit rfl) (fun c1 => ?_) (fun c1 => ?_)
 ·
  refine gg ?_
  refine s_callV rfl (g_onH rfl rfl (e_hit rfl) c1) rfl rfl (o_calls (me1 (e_hit rfl))) (rname_ok hfl _ K0.wf) (fun m2 k3 => ?_)
  have K5 := K0.k k3 (fun _ h => h.elim)
  refine gg ?_
  refine s_guardS rfl rfl (e_hit rfl) (fun c6 => ?_) (fun c6 => ?_)
  ·
   refine gg ?_
   refine w_retAt rfl ?_
   refine w_results Tryz.func98 (rv1 (e_hit rfl)) ?_
   exact ⟨_, _, congrArg (fun b => RR.ret (.lit (.bool b)) _ _) (by simp [oneB, c1, c6]), K5.out⟩
  ·
   refine gg ?_
   refine w_retAt rfl ?_
   refine w_results Tryz.func98 (rv1 (e_hit rfl)) ?_
   exact ⟨_, _, congrArg (fun b => RR.ret (.lit (.bool b)) _ _) (by simp [oneB, c1, c6]), K5.out⟩
 ·
  refine gg ?_
  refine w_retAt rfl ?_
  refine w_results Tryz.func98 (rv1 (e_hit rfl)) ?_
  exact ⟨_, _, congrArg (fun b => RR.ret (.lit (.bool b)) _ _) (by simp [oneB, c1]), K0.out⟩
omit hfl in
theorem strs_length (l : List ByteArray) : (strs l).length = l.length := by unfold strs; exact List.length_map ..
theorem has_ok {m : Mem} {B f : Nat} {v : AVal} (l : List ByteArray) (s : ByteArray) (hlen : l.length < 2 ^ 60) (h : Gs 9 B m v f (strs l)) (hw : Wf m) : CallQ Tryz.prog fl 36 [v, .lit (.string s)] m (Rets noS m (.lit (.bool (isIn s l)))) := by
 rcases h with ⟨h1, rfl⟩ | ⟨r, rfl, _, _, _, _, _, h6, _⟩
 ·have : l = [] := by cases l with | nil => rfl | cons a l => cases h1
  subst this
  exact has_nil hfl s hw
 ·rw [strs_length]
  exact has_row hfl l s hlen h6 hw
end
open Go.RowKit (Below)
set_option maxRecDepth 10000
noncomputable section
variable {fl : Fl} (hfl : Tab fl)
include hfl
omit hfl in
theorem take_get {cs row : List AVal} {n k : Nat} (h : takeN n (dropN row k) = some cs) {j : Nat} {v : AVal} (hj : getO cs j = some v) : getO row (k + j) = some v ∧ isPoison v = false := by
 have h1 : ∀ (k : Nat) (row : List AVal) (j : Nat), getO (dropN row k) j = getO row (k + j) := by
  intro k
  induction k with
  | zero => intro row j; rw [Nat.zero_add]; rfl
  | succ k ih =>
   intro row j
   cases row with
   | nil => rw [getO_eq]; rw [getO_eq]; rfl
   | cons a row => show getO (dropN row k) j = _; rw [ih, getO_eq, getO_eq, show k + 1 + j = (k + j) + 1 by omega]; rfl
 have h2 : ∀ (n : Nat) (l : List AVal) (cs : List AVal) (j : Nat), takeN n l = some cs → getO cs j = some v → getO l j = some v ∧ isPoison v = false := by
  intro n
  induction n with
  | zero => intro l cs j h hj; cases h; rw [getO_eq] at hj; cases hj
  | succ n ih =>
   intro l cs j h hj
   cases l with
   | nil => cases h
   | cons a l =>
    have h' : (bif isPoison a then none else (takeN n l).map (a :: ·)) = some cs := h
    cases hp : isPoison a with
    | true => rw [hp] at h'; cases h'
    | false =>
     rw [hp] at h'
     have h3 : (takeN n l).map (a :: ·) = some cs := h'
     rw [Option.map_eq_some_iff] at h3
     obtain ⟨cs', h4, rfl⟩ := h3
     cases j with
     | zero => rw [getO_eq] at hj ⊢; cases hj; exact ⟨rfl, hp⟩
     | succ j => rw [getO_eq] at hj ⊢; have := ih l cs' j h4 (by rw [getO_eq]; exact hj); rw [getO_eq] at this; exact this
 obtain ⟨h3, h4⟩ := h2 n _ cs j h hj
 exact ⟨(h1 k row j).symm.trans h3, h4⟩
omit hfl in
theorem o_loadRoJ {tmps : T AVal} {m : Mem} {t : TypeId} {x : Operand} {r k j n sz : Nat} {row cs : List AVal} {v : AVal} (hx : evalT tmps x = .ptr r (k + j)) (hr : m.heap.get r = some (.ro row)) (ht : tagg Tryz.prog t = some false) (hs : tsz Tryz.prog t = some sz) (htk : takeN n (dropN row k) = some cs) (hj : getO cs j = some v) :
  aop Tryz.prog tmps m (.load t x) = .val v m := by
 obtain ⟨h1, h2⟩ := take_get htk hj
 rw [getO_eq] at h1
 exact o_loadRo hx hr ht hs h1 h2
omit hfl in
theorem o_bs1 {tmps : T AVal} {m : Mem} {x : Operand} {s : ByteArray} (hx : evalT tmps x = .lit (.string s)) : aop Tryz.prog tmps m (.buildSlice 22 1 #[(0, x)]) = .val (.slice m.next 0 1 1 true) (m.new (.row (9, 1) [.lit (.string s)] m.next 0)) := by
 show buildSlice Tryz.prog 1 (ev2 tmps #[(0, x)].toList) m (sizedElem Tryz.prog (sliceElem Tryz.prog 22)) = _
 rw [ev1 hx, el_22]
 show (match zcells Tryz.prog 9 with | some z => bif (lenL z).beq 1 && (Nat.mul 1 1).ble 10000 && !(Nat.beq 1 0) then bsWith m (9, 1) 1 (fillL (fun i => some (i.mul 1, 1)) [(0, .lit (.string s))] (repL z 1)) else .bad "buildSlice" | none => .bad "buildSlice") = _
 rw [show zcells Tryz.prog 9 = some [.lit (.string .empty)] by kernel_rfl]
 rfl
omit hfl in
theorem g9 : growOK Tryz.prog 9 1 = true := by kernel_rfl
omit hfl in
theorem a22 : arg2OK Tryz.prog (some 22) = true := by kernel_rfl
omit hfl in
theorem strs_app (l : List ByteArray) (s : ByteArray) : strs (l ++ [s]) = strs l ++ [.lit (.string s)] := by unfold strs; rw [List.map_append]; rfl
def Apart (f1 f2 : Nat) (l1 l2 : List ByteArray) : Prop := l1 = [] ∨ l2 = [] ∨ f1 ≠ f2
def rnamesF : List ByteArray → List ByteArray → Option (List ByteArray)
 | [], l => some l
 | s :: r, l => bif !refNameB s || isIn s l then none else rnamesF r (l ++ [s])
omit hfl in
theorem gs_up {m m1 : Mem} {B : Nat} {v : AVal} {f : Nat} {cells : List AVal} (h : Gs 9 B m v f cells) (K : Kept (fun q => m.next ≤ q ∨ noS q) m m1) (_ : B ≤ m.next) (hw : Wf m) : Gs 9 B m1 v f cells := by
 rcases h with h | ⟨r, h1, h0, h2, h3, h4, h5, h6, h7⟩
 ·exact .inl h
 ·have hk : Kept noS m m1 := K.out
  have n := hk.next
  refine .inr ⟨r, h1, h0, h2, h3, by omega, h5, (hk.get r (hw.lt h6) (fun h => h)).trans h6, fun q hq => ?_⟩
  have e : famOf m1 f r = famOf m f r := by unfold famOf; rw [hk.fam f h4 (fun h => h)]
  rw [e] at hq
  obtain ⟨cs, h8, h9⟩ := h7 q hq
  exact ⟨cs, (hk.get q (hw.lt h8) (fun h => h)).trans h8, h9⟩
omit hfl in
theorem gs_other {m m1 : Mem} {B : Nat} {v : AVal} {f f' : Nat} {cells : List AVal} (h : Gs 9 B m v f cells) (hw : Wf m) (g : Appd m m1 f') (hne : cells = [] ∨ f ≠ f') : Gs 9 B m1 v f cells := by
 rcases h with h | ⟨r, h1, h0, h2, h3, h4, h5, h6, h7⟩
 ·exact .inl h
 ·have hf : f ≠ f' := by rcases hne with h | h; exact absurd h h0; exact h
  have n := g.next
  have lr := hw.lt h6
  refine .inr ⟨r, h1, h0, h2, h3, by omega, h5, (g.heap r (by omega)).trans h6, fun q hq => ?_⟩
  have e : famOf m1 f r = famOf m f r := by unfold famOf; rw [g.fams f hf]
  rw [e] at hq
  obtain ⟨cs, h8, h9⟩ := h7 q hq
  have lq := hw.lt h8
  exact ⟨cs, (g.heap q (by omega)).trans h8, h9⟩
omit hfl in
theorem gs_flt {m : Mem} {B : Nat} {v : AVal} {f : Nat} {cells : List AVal} (h : Gs 9 B m v f cells) (hne : cells ≠ []) : f < m.next := by
 rcases h with ⟨h, _⟩ | ⟨r, h1, h0, h2, h3, h4, _⟩
 ·exact absurd h hne
 ·exact h4
theorem rj_inner {B i : Nat} {jv v3 : AVal} {f1 : Nat} {l1 : List ByteArray} (js : List AMs) (x : AMs) (hxi : js[i]? = some x) (k : List AItem) {Q : RR → Prop} : ∀ (rest pre : List ByteArray) (l2 : List ByteArray) (v4 : AVal) (f2 : Nat) {m : Mem} (b : T AVal), x.names = pre ++ rest → Wf m → B ≤ m.next → Gs 9 B m v3 f1 (strs l1) → Gs 9 B m v4 f2 (strs l2) → Apart f1 f2 l1 l2 → l2.length + rest.length < 1000 → SlA m jv 2 (js.map AMs.cells) → AMs.OK m x → getT b 0 = jv → getT b 3 = v3 → getT b 4 = v4 → getT b 5 = goI i → getT b 6 = goI pre.length →
  (∀ (l2' : List ByteArray) (v4' : AVal) (f2' : Nat) (m' : Mem) (b' : T AVal), rnamesF rest l2 = some l2' → Kept (fun q => B ≤ q) m m' → Gs 9 B m' v3 f1 (strs l1) → Gs 9 B m' v4' f2' (strs l2') → Apart f1 f2' l1 l2' → l2'.length ≤ l2.length + rest.length → getT b' 0 = jv → getT b' 3 = v3 → getT b' 4 = v4' → getT b' 5 = goI i → Wp Tryz.prog fl (At ⟨140, 97, false, none⟩ k b' [] .run [] m') Q) →
  (rnamesF rest l2 = none → ∀ (m' : Mem) (b' : T AVal), Kept (fun q => B ≤ q) m m' → getT b' 2 = .lit (.bool false) → Wp Tryz.prog fl (At ⟨140, 97, false, none⟩ [] b' [] .returning [] m') Q) → Wp Tryz.prog fl (At ⟨140, 97, false, none⟩ (.code (cAt [true, true, true, false, true, false, false, true, false, false, true, true, true, false, false] (bodyF Tryz.f140)) :: .inLoop (cAt [true, true, true, false, true, false, false, true, false, false, true, true, true, false, false] (bodyF Tryz.f140)) :: .inBlock 2 :: k) (sets 97 b []) [] .run [] m) Q := by
 intro rest
 induction rest with
 | nil =>
  intro pre l2 v4 f2 m b hsp hw hB hg3 hg4 hap hln2 hsl hok k0 k3 k4 k5 k6 hk ht
  have hsl0 := hsl
  obtain ⟨rj, offj, cj, exj, rowj, hvj, hlxj, hrj, htkj⟩ := hsl.at (i := i) (e := AMs.cells x) (by rw [List.getElem?_map, hxi]; rfl)
  have hnv : SlA m x.nv 1 (x.names.map strCells) := hok
  have hnl : ∀ {m' : Mem}, lenSl m' x.nv = .val (goI x.names.length) m' := by intro m'; have := hnv.len (m' := m'); rwa [List.length_map] at this
  subst hvj
  have hlt : decide (Int.ofNat pre.length < Int.ofNat x.names.length) = false := by rw [dlt]; simp [hsp]
  refine gg ?_
  refine s_val rfl rfl rfl rfl (o_indexAddr (e_hit rfl) (e_hit rfl) el_116 (by simpa using hlxj)) ?_
  refine gg ?_
  refine s_val rfl rfl rfl rfl (o_loadRoJ (e_hit rfl) hrj tg_22 sz_22 htkj rfl) ?_
  refine gr ?_
  refine q_nil ?_
  refine w_condF (e_hit rfl) hlt ?_
  refine w_exit rfl ?_
  refine Wp.gen (fun b' eb => ?_)
  exact hk l2 v4 f2 _ b' rfl (Kept.refl hw) hg3 hg4 hap (by simp) (eqb eb (e_base rfl k0)) (eqb eb (e_base rfl k3)) (eqb eb (e_base rfl k4)) (eqb eb (e_base rfl k5))
 | cons y rest ih =>
  intro pre l2 v4 f2 m b hsp hw hB hg3 hg4 hap hln2 hsl hok k0 k3 k4 k5 k6 hk ht
  have K0 : Kept (fun q => m.next ≤ q ∨ noS q) m m := Kept.refl hw
  have hsl0 := hsl
  obtain ⟨rj, offj, cj, exj, rowj, hvj, hlxj, hrj, htkj⟩ := hsl.at (i := i) (e := AMs.cells x) (by rw [List.getElem?_map, hxi]; rfl)
  have ltrj := hw.lt hrj
  have hnv : SlA m x.nv 1 (x.names.map strCells) := hok
  have hnl : ∀ {m' : Mem}, lenSl m' x.nv = .val (goI x.names.length) m' := by intro m'; have := hnv.len (m' := m'); rwa [List.length_map] at this
  subst hvj
  have hlt : decide (Int.ofNat pre.length < Int.ofNat x.names.length) = true := by rw [dlt]; simp [hsp]
  have hln : pre.length + 1 < 2 ^ 62 := by have := hnv.lt; simp [hsp] at this; omega
  obtain ⟨r, off, cc, ex, row, hv, hlx, hr, htk⟩ := hnv.at (i := pre.length) (e := strCells y) (by simp [hsp])
  have ltr := hw.lt hr
  refine gg ?_
  refine s_val rfl rfl rfl rfl (o_indexAddr (e_hit rfl) (e_hit rfl) el_116 (by simpa using hlxj)) ?_
  refine gg ?_
  refine s_val rfl rfl rfl rfl (o_loadRoJ (e_hit rfl) hrj tg_22 sz_22 htkj rfl) ?_
  refine gg ?_
  refine s_val rfl rfl rfl rfl (o_indexAddr (e_hit rfl) (e_hit rfl) el_116 (by simpa using hlxj)) ?_
  refine gg ?_
  refine s_val rfl rfl rfl rfl (o_loadRoJ (e_hit rfl) hrj tg_22 sz_22 htkj rfl) ?_
  refine gg ?_
  refine s_val rfl rfl rfl rfl (o_indexAddr ((e_hit rfl).trans hv) (e_hit rfl) el_22 (by simpa using hlx)) ?_
  refine s_val rfl rfl rfl rfl (o_loadRo1 (e_hit rfl) hr tg_9 sz_9 htk) ?_
  refine s_callV rfl rfl rfl rfl (o_calls (me1 (e_hit rfl))) (rname_ok hfl _ K0.wf) (fun m1 k2 => ?_)
  have n3 := k2.next
  have K4 := K0.k k2 (fun _ h => h.elim)
  refine gg ?_
  refine s_guardS rfl rfl (e_hit rfl) (fun c5 => ?_) (fun c5 => ?_)
  ·
   refine gg ?_
   refine s_val rfl (g_onH rfl rfl (e_hit rfl) c5) rfl rfl (o_indexAddr (e_hit rfl) (e_hit rfl) el_116 (by simpa using hlxj)) ?_
   refine gg ?_
   have h6 := hxM m1 rj
   refine s_val rfl (g_onH rfl rfl (e_hit rfl) c5) rfl rfl (o_loadRoJ (e_hit rfl) h6 tg_22 sz_22 htkj rfl) ?_
   refine gg ?_
   refine s_val rfl (g_onH rfl rfl (e_hit rfl) c5) rfl rfl (o_indexAddr ((e_hit rfl).trans hv) (e_hit rfl) el_22 (by simpa using hlx)) ?_
   have h7 := hxM m1 r
   refine s_val rfl (g_onH rfl rfl (e_hit rfl) c5) rfl rfl (o_loadRo1 (e_hit rfl) h7 tg_9 sz_9 htk) ?_
   have q8 := gs_up hg3 K4 hB hw
   have q9 := gs_up hg4 K4 hB hw
   refine s_callV rfl (g_onH rfl rfl (e_hit rfl) c5) rfl rfl (o_calls (me2 (e_hit rfl) (e_hit rfl))) (has_ok hfl l2 _ (by omega) q9 K4.wf) (fun m10 k11 => ?_)
   have n12 := k11.next
   have K13 := K4.k k11 (fun _ h => h.elim)
   refine gg ?_
   refine w_cond (e_hit rfl) (fun c14 => ?_) (fun c14 => ?_)
   ·
    refine gg ?_
    refine w_retAt rfl ?_
    exact ht (by simp [rnamesF, c5, c14]) _ _ (K13.mono (fun q _ h => by rcases h with h | h; omega; exact h.elim)) (e_hit rfl)
   ·
    refine gg ?_
    refine s_val rfl rfl rfl rfl (o_indexAddr (e_hit rfl) (e_hit rfl) el_116 (by simpa using hlxj)) ?_
    refine gg ?_
    have h15 := hxM m10 rj
    refine s_val rfl rfl rfl rfl (o_loadRoJ (e_hit rfl) h15 tg_22 sz_22 htkj rfl) ?_
    refine gg ?_
    refine s_val rfl rfl rfl rfl (o_indexAddr ((e_hit rfl).trans hv) (e_hit rfl) el_22 (by simpa using hlx)) ?_
    have h16 := hxM m10 r
    refine s_val rfl rfl rfl rfl (o_loadRo1 (e_hit rfl) h16 tg_9 sz_9 htk) ?_
    refine s_new rfl rfl rfl rfl (o_bs1 (e_hit rfl)) (fun m17 g18 => ?_)
    have n19 := g18.next
    have K20 := K13.g g18
    have KWF := K20.wf
    have q21 := gs_up hg3 K20 hB hw
    have q22 := gs_up hg4 K20 hB hw
    refine s_append (B := B) rfl rfl rfl rfl q22 K20.wf (by omega) (e_hit rfl) (e_hit rfl) g18.same rfl el_22 a22 g9 (by rw [strs_length]; omega) (fun v9 m9 f9 hgs9 happ hfe hfn hBf => ?_)
    have n9 := happ.next
    have kA : Kept (fun q => B ≤ q) m m9 := (K20.mono (fun q _ h => by rcases h with h | h; omega; exact h.elim)).trans (Kept.appd K20.wf happ hBf)
    refine gg ?_
    have e : rnamesF (y :: rest) l2 = rnamesF rest (l2 ++ [y]) := by simp [rnamesF, c5, c14]
    have hg4' : Gs 9 B m9 v9 f9 (strs (l2 ++ [y])) := by rw [strs_app]; exact hgs9
    have hne9 : strs l1 = [] ∨ f1 ≠ f9 := by
     rcases hap with h | h | h
     ·left; rw [h]; rfl
     ·by_cases h1 : strs l1 = []
      ·exact .inl h1
      ·right; rw [hfn (by rw [h]; rfl)]; have := gs_flt q21 h1; omega
     ·by_cases h1 : strs l2 = []
      ·by_cases h2 : strs l1 = []
       ·exact .inl h2
       ·right; rw [hfn h1]; have := gs_flt q21 h2; omega
      ·right; rw [hfe h1]; exact h
    have hg3' := gs_other q21 KWF happ hne9
    have hap' : Apart f1 f9 l1 (l2 ++ [y]) := by
     rcases hne9 with h | h
     ·left; cases l1 with
      | nil => rfl
      | cons a l => cases h
     ·exact .inr (.inr h)
    refine w_inLoop ?_
    refine Wp.gen (fun b' eb => ?_)
    exact ih (pre ++ [y]) (l2 ++ [y]) v9 f9 b' (by simp [hsp]) kA.wf (by omega) hg3' hg4' hap' (by simp only [List.length_append, List.length_cons, List.length_nil] at hln2 ⊢; omega) (hsl0.kept kA) (SlA.kept hnv kA) (eqb eb (e_base rfl k0)) (eqb eb (e_base rfl k3)) (eqb eb (e_hit rfl)) (eqb eb (e_base rfl k5)) (eqb eb ((e_hit rfl).trans (by rw [List.length_append]; rfl))) (fun l2' v4' f2' m' b' h1 h2 h3 h4 h5 h6 => hk l2' v4' f2' m' b' (e.trans h1) (kA.trans h2) h3 h4 h5 (by simp only [List.length_append, List.length_cons, List.length_nil] at h6 ⊢; omega)) (fun h m' b' h2 => ht (e.trans h) m' b' (kA.trans h2))
  ·
   refine gg ?_
   refine w_retAt rfl ?_
   exact ht (by simp [rnamesF, c5]) _ _ (K4.mono (fun q _ h => by rcases h with h | h; omega; exact h.elim)) (e_hit rfl)
end
open Go.RowKit (Below)
set_option maxRecDepth 10000
noncomputable section
variable {fl : Fl} (hfl : Tab fl)
include hfl
omit hfl in
def rjoinsF : List AMs → List ByteArray → List ByteArray → Option (List ByteArray × List ByteArray)
 | [], l1, l2 => some (l1, l2)
 | x :: r, l1, l2 => bif (!refNameB x.text || isIn x.text l1) || decide (Int.ofNat x.names.length > 3) then none else (match rnamesF x.names l2 with
  | some l2' => rjoinsF r (l1 ++ [x.text]) l2'
  | none => none)
omit hfl in
def rjoinsB (js : List AMs) : Bool := !(decide (Int.ofNat js.length < 1) || decide (Int.ofNat js.length > 3)) && (rjoinsF js [] []).isSome
theorem rj_outer {B : Nat} {jv : AVal} (js : List AMs) (k : List AItem) {Q : RR → Prop} : ∀ (rest pre : List AMs) (l1 l2 : List ByteArray) (v3 v4 : AVal) (f1 f2 : Nat) {m : Mem} (b : T AVal), js = pre ++ rest → Wf m → B ≤ m.next → Gs 9 B m v3 f1 (strs l1) → Gs 9 B m v4 f2 (strs l2) → Apart f1 f2 l1 l2 → l1.length + rest.length < 900 → l2.length + 3 * rest.length < 900 → SlA m jv 2 (js.map AMs.cells) → (∀ y, y ∈ js → AMs.OK m y) → getT b 0 = jv → getT b 3 = v3 → getT b 4 = v4 → getT b 5 = goI pre.length →
  ((rjoinsF rest l1 l2).isSome = true → ∀ (m' : Mem) (b' : T AVal), Kept (fun q => B ≤ q) m m' → Wp Tryz.prog fl (At ⟨140, 97, false, none⟩ k b' [] .run [] m') Q) → ((rjoinsF rest l1 l2).isSome = false → ∀ (m' : Mem) (b' : T AVal), Kept (fun q => B ≤ q) m m' → getT b' 2 = .lit (.bool false) → Wp Tryz.prog fl (At ⟨140, 97, false, none⟩ [] b' [] .returning [] m') Q) → Wp Tryz.prog fl (At ⟨140, 97, false, none⟩ (.code (cAt [true, true, true, false, true, false, false] (bodyF Tryz.f140)) :: .inLoop (cAt [true, true, true, false, true, false, false] (bodyF Tryz.f140)) :: .inBlock 0 :: k) (sets 97 b []) [] .run [] m) Q := by
 intro rest
 induction rest with
 | nil =>
  intro pre l1 l2 v3 v4 f1 f2 m b hsp hw hB hg3 hg4 hap hb1 hb2 hsl hok k0 k3 k4 k5 hk ht
  have hsl0 := hsl
  have hlt : decide (Int.ofNat pre.length < Int.ofNat js.length) = false := by rw [dlt]; simp [hsp]
  have hlt : decide (Int.ofNat pre.length < Int.ofNat (js.map AMs.cells).length) = false := by rw [List.length_map]; exact hlt
  refine gg ?_
  exact hk rfl _ _ (Kept.refl hw)
 | cons x rest ih =>
  intro pre l1 l2 v3 v4 f1 f2 m b hsp hw hB hg3 hg4 hap hb1 hb2 hsl hok k0 k3 k4 k5 hk ht
  have K0 : Kept (fun q => m.next ≤ q ∨ noS q) m m := Kept.refl hw
  have hsl0 := hsl
  have hlt : decide (Int.ofNat pre.length < Int.ofNat js.length) = true := by rw [dlt]; simp [hsp]
  have hlt : decide (Int.ofNat pre.length < Int.ofNat (js.map AMs.cells).length) = true := by rw [List.length_map]; exact hlt
  have hln : pre.length + 1 < 2 ^ 62 := by have := hsl.lt; simp [hsp] at this; omega
  have hxi : js[pre.length]? = some x := by rw [hsp]; simp
  have hxm : x ∈ js := by rw [hsp]; simp
  have hnv : SlA m x.nv 1 (x.names.map strCells) := hok x hxm
  have hnl : ∀ {m' : Mem}, lenSl m' x.nv = .val (goI x.names.length) m' := by intro m'; have := hnv.len (m' := m'); rwa [List.length_map] at this
  obtain ⟨rj, offj, cj, exj, rowj, hvj, hlxj, hrj, htkj⟩ := hsl.at (i := pre.length) (e := AMs.cells x) (by rw [List.getElem?_map, hxi]; rfl)
  have ltrj := hw.lt hrj
  simp only [List.length_cons] at hb1 hb2
  refine gg ?_
  refine s_val rfl rfl rfl rfl (o_indexAddr ((e_hit rfl).trans hvj) (e_hit rfl) el_116 (by simpa using hlxj)) ?_
  refine gg ?_
  refine s_val rfl rfl rfl rfl (o_loadRoJ (e_hit rfl) hrj tg_9 sz_9 htkj rfl) ?_
  refine s_callV rfl rfl rfl rfl (o_calls (me1 (e_hit rfl))) (rname_ok hfl _ K0.wf) (fun m1 k2 => ?_)
  have n3 := k2.next
  have K4 := K0.k k2 (fun _ h => h.elim)
  refine gg ?_
  refine s_guardS rfl rfl (e_hit rfl) (fun c5 => ?_) (fun c5 => ?_)
  ·
   refine gg ?_
   refine s_val rfl (g_onH rfl rfl (e_hit rfl) c5) rfl rfl (o_indexAddr ((e_hit rfl).trans hvj) (e_hit rfl) el_116 (by simpa using hlxj)) ?_
   refine gg ?_
   have h6 := hxM m1 rj
   refine s_val rfl (g_onH rfl rfl (e_hit rfl) c5) rfl rfl (o_loadRoJ (e_hit rfl) h6 tg_9 sz_9 htkj rfl) ?_
   have q7 := gs_up hg3 K4 hB hw
   have q8 := gs_up hg4 K4 hB hw
   refine s_callV rfl (g_onH rfl rfl (e_hit rfl) c5) rfl rfl (o_calls (me2 (e_hit rfl) (e_hit rfl))) (has_ok hfl l1 _ (by omega) q7 K4.wf) (fun m9 k10 => ?_)
   have n11 := k10.next
   have K12 := K4.k k10 (fun _ h => h.elim)
   refine gg ?_
   refine s_guardS rfl rfl (e_hit rfl) (fun c13 => ?_) (fun c13 => ?_)
   ·
    refine gg ?_
    refine s_val rfl (g_onH rfl rfl (e_hit rfl) c13) rfl rfl (o_indexAddr ((e_hit rfl).trans hvj) (e_hit rfl) el_116 (by simpa using hlxj)) ?_
    refine gg ?_
    have h14 := hxM m9 rj
    refine s_val rfl (g_onH rfl rfl (e_hit rfl) c13) rfl rfl (o_loadRoJ (e_hit rfl) h14 tg_22 sz_22 htkj rfl) ?_
    refine gg ?_
    refine w_cond (e_hit rfl) (fun c15 => ?_) (fun c15 => ?_)
    ·
     refine gg ?_
     refine w_retAt rfl ?_
     exact ht (by simp only [rjoinsF, c5, c13, c15, Bool.or_true, Bool.or_false, cond_true]; rfl) _ _ (K12.mono (fun q _ h => by rcases h with h | h; omega; exact h.elim)) (e_hit rfl)
    ·
     refine gg ?_
     refine s_val rfl rfl rfl rfl (o_indexAddr ((e_hit rfl).trans hvj) (e_hit rfl) el_116 (by simpa using hlxj)) ?_
     refine gg ?_
     refine s_val rfl rfl rfl rfl (o_loadRoJ (e_hit rfl) h14 tg_9 sz_9 htkj rfl) ?_
     refine s_new rfl rfl rfl rfl (o_bs1 (e_hit rfl)) (fun m16 g17 => ?_)
     have n18 := g17.next
     have K19 := K12.g g17
     have KWF := K19.wf
     have q20 := gs_up hg3 K19 hB hw
     have q21 := gs_up hg4 K19 hB hw
     refine s_append (B := B) rfl rfl rfl rfl q20 K19.wf (by omega) (e_hit rfl) (e_hit rfl) g17.same rfl el_22 a22 g9 (by rw [strs_length]; omega) (fun v9 m9 f9 hgs9 happ hfe hfn hBf => ?_)
     have n9 := happ.next
     have kA : Kept (fun q => B ≤ q) m m9 := (K19.mono (fun q _ h => by rcases h with h | h; omega; exact h.elim)).trans (Kept.appd K19.wf happ hBf)
     refine gg ?_
     have hn3 : ¬ (Int.ofNat x.names.length > 3) := of_decide_eq_false c15
     have hg3' : Gs 9 B m9 v9 f9 (strs (l1 ++ [x.text])) := by rw [strs_app]; exact hgs9
     have hne9 : strs l2 = [] ∨ f2 ≠ f9 := by
      rcases hap with h | h | h
      ·by_cases h1 : strs l2 = []
       ·exact .inl h1
       ·right; rw [hfn (by rw [h]; rfl)]; have := gs_flt q21 h1; omega
      ·left; rw [h]; rfl
      ·by_cases h1 : strs l1 = []
       ·by_cases h2 : strs l2 = []
        ·exact .inl h2
        ·right; rw [hfn h1]; have := gs_flt q21 h2; omega
       ·right; rw [hfe h1]; exact fun e => h e.symm
     have hg4' := gs_other q21 KWF happ hne9
     have hap' : Apart f9 f2 (l1 ++ [x.text]) l2 := by
      rcases hne9 with h | h
      ·right; left; cases l2 with
       | nil => rfl
       | cons a l => cases h
      ·exact .inr (.inr (fun e => h e.symm))
     have hx900 : l2.length + x.names.length < 1000 := by have h3 : ¬ ((x.names.length : Int) > 3) := hn3; omega
     refine w_loop ?_
     refine Wp.gen (fun b0 eb => ?_)
     refine rj_inner hfl (i := pre.length) js x hxi _ _ [] l2 v4 f2 b0 (by rfl) kA.wf (by omega) hg3' hg4' hap' hx900 (hsl0.kept kA) (SlA.kept hnv kA) (eqb eb (e_base rfl k0)) (eqb eb (e_hit rfl)) (eqb eb (e_base rfl k4)) (eqb eb (e_base rfl k5)) (eqb eb (e_hit rfl)) ?_ ?_
     ·
      intro l2q v4q f2q mq bq hf kq hg3q hg4q hapq hlq z0 z3 z4 z5
      change Wp Tryz.prog fl (At _ _ (sets 97 bq []) _ _ _ _) _
      have nq := kq.next
      have KQ := kA.trans kq
      refine gg ?_
      have e : rjoinsF (x :: rest) l1 l2 = rjoinsF rest (l1 ++ [x.text]) l2q := by simp only [rjoinsF, c5, c13, c15, hf, Bool.or_false, cond_false]
      refine w_inLoop ?_
      refine Wp.gen (fun b' eb => ?_)
      have hn3n : x.names.length ≤ 3 := by have h3 : ¬ ((x.names.length : Int) > 3) := hn3; omega
      exact ih (pre ++ [x]) (l1 ++ [x.text]) l2q v9 v4q f9 f2q b' (by simp [hsp]) KQ.wf (by omega) hg3q hg4q hapq (by simp only [List.length_append, List.length_cons, List.length_nil]; omega) (by omega) (hsl0.kept KQ) (fun y hy => (hok y hy).kept KQ) (eqb eb (e_base rfl z0)) (eqb eb (e_base rfl z3)) (eqb eb (e_base rfl z4)) (eqb eb ((e_hit rfl).trans (by rw [List.length_append]; rfl))) (fun h m' b' k' => hk (by rw [e]; exact h) m' b' (KQ.trans k')) (fun h m' b' k' => ht (by rw [e]; exact h) m' b' (KQ.trans k'))
     ·
      intro hf mq bq kq z2
      exact ht (by simp only [rjoinsF, c5, c13, c15, Bool.or_false, cond_false, hf]; rfl) _ _ (kA.trans kq) z2
   ·
    refine gg ?_
    refine w_retAt rfl ?_
    exact ht (by simp only [rjoinsF, c5, c13, Bool.or_true, Bool.true_or, Bool.not_false, cond_true]; rfl) _ _ (K12.mono (fun q _ h => by rcases h with h | h; omega; exact h.elim)) (e_hit rfl)
  ·
   refine gg ?_
   refine w_retAt rfl ?_
   exact ht (by simp only [rjoinsF, c5, Bool.true_or, Bool.not_false, cond_true]; rfl) _ _ (K4.mono (fun q _ h => by rcases h with h | h; omega; exact h.elim)) (e_hit rfl)
theorem rjoins_ok {m : Mem} (js : List AMs) {jv : AVal} (hsl : SlA m jv 2 (js.map AMs.cells)) (hok : ∀ y, y ∈ js → AMs.OK m y) (hw : Wf m) : CallQ Tryz.prog fl 140 [jv] m (Rets noS m (.lit (.bool (rjoinsB js)))) := by
 refine hfl.start (by decide) 97 Tryz.func140 rfl rfl (Nat.le_of_ble_eq_true rfl) ?_
 intro bs hb
 have ar0 := hb 0 _ rfl
 clear hb
 have K0 : Kept (fun q => m.next ≤ q ∨ (noS) q) m m := Kept.refl hw
 have hjl : ∀ {m' : Mem}, lenSl m' jv = .val (goI js.length) m' := by intro m'; have := hsl.len (m' := m'); rwa [List.length_map] at this
 refine gg ?_
 refine s_guardS rfl rfl (e_hit rfl) (fun c22 => ?_) (fun c22 => ?_)
 ·
  refine gg ?_
  refine w_cond (e_hit rfl) (fun c23 => ?_) (fun c23 => ?_)
  ·
   refine gg ?_
   refine w_retAt rfl ?_
   refine w_results Tryz.func140 (rv1 (e_hit rfl)) ?_
   exact ⟨_, _, congrArg (fun b => RR.ret (.lit (.bool b)) _ _) (by simp only [rjoinsB, c22, c23, Bool.or_true, Bool.false_and, Bool.not_true]), K0.out⟩
  ·
   refine gg ?_
   refine w_loop ?_
   refine Wp.gen (fun b0 eb => ?_)
   have hj3 : js.length ≤ 3 := by have h3 : ¬ ((js.length : Int) > 3) := of_decide_eq_false c23; omega
   refine rj_outer hfl (B := m.next) js _ _ [] [] [] _ _ 0 0 b0 (by rfl) K0.wf (Nat.le_refl _) Gs.nil Gs.nil (.inl rfl) (by simp; omega) (by simp; omega) hsl hok (eqb eb (e_base rfl ar0)) (eqb eb (e_hit rfl)) (eqb eb (e_hit rfl)) (eqb eb (e_hit rfl)) ?_ ?_
   ·
    intro hf mq bq kq
    change Wp Tryz.prog fl (At _ _ (sets 97 bq []) _ _ _ _) _
    refine gg ?_
    refine w_retAt rfl ?_
    refine w_results Tryz.func140 (rv1 (e_hit rfl)) ?_
    exact ⟨_, _, congrArg (fun b => RR.ret (.lit (.bool b)) _ _) (by simp only [rjoinsB, c22, c23, hf, Bool.or_false, Bool.and_true, Bool.not_false]), kq.mono (fun q h1 h2 => by have : m.next ≤ q := h2; omega)⟩
   ·
    intro hf mq bq kq z2
    refine w_results Tryz.func140 (rv1 z2) ?_
    exact ⟨_, _, congrArg (fun b => RR.ret (.lit (.bool b)) _ _) (by simp [rjoinsB, hf]), kq.mono (fun q h1 h2 => by have : m.next ≤ q := h2; omega)⟩
 ·
  refine gg ?_
  refine w_retAt rfl ?_
  refine w_results Tryz.func140 (rv1 (e_hit rfl)) ?_
  exact ⟨_, _, congrArg (fun b => RR.ret (.lit (.bool b)) _ _) (by simp only [rjoinsB, c22, Bool.true_or, Bool.false_and, Bool.not_true, Bool.not_false]), K0.out⟩
end
open Go.RowKit (Below)
set_option maxRecDepth 10000
noncomputable section
variable {fl : Fl} (hfl : Tab fl)
include hfl
omit hfl in
def kidsI (op : Int) : Int := bif decide (op ≥ 3) && decide (op ≤ 7) then 2 else 0
omit hfl in
def exHead (op n : Int) (s : ByteArray) (nk : Int) : Bool :=
 (((((decide (op ≥ 1) && decide (op ≤ 7)) && oneB s (op == 2)) && (nk == kidsI op)) && ((op == 1) || (n == 0))) && decide (n ≥ -1000000000)) && decide (n ≤ 1000000000)
omit hfl in
def clHead (f : Int) (s : ByteArray) (js : List AMs) (nd nk : Int) : Bool :=
 (((((((f == 1) || (f == 2)) && oneB s (!(f == 1))) && (nk == 1)) && decide (nd ≤ 5)) && (!(f == 1) || ((nd == 0) && rjoinsB js)))) && ((f == 1) || (Int.ofNat js.length == 0))
omit hfl in
def argsR (op : Int) : Int := bif op == 2 then -1 else bif op == 3 then 0 else bif op == 4 then 0 else bif op == 5 then 1 else 0
omit hfl in
def kidsR (op : Int) : Int := bif op == 2 then 0 else bif op == 3 then 2 else bif op == 4 then 1 else bif op == 5 then 2 else bif (op == 6) || (op == 8) then 1 else 0
omit hfl in
def defsR (op : Int) : Int := bif op == 2 then 0 else bif op == 3 then 0 else bif op == 4 then -1 else 0
omit hfl in
def tmHead1 (op : Int) (s : ByteArray) (nk : Int) : Bool :=
 ((decide (op ≥ 1) && decide (op ≤ 8)) && oneB s (((op == 2) || (op == 6)) || (op == 8))) && (nk == kidsR op)
omit hfl in
def tmHead2 (h : Bool) (op na nd : Int) : Bool :=
 (h && ((decide (argsR op < 0) && decide (na ≤ 3)) || (na == argsR op))) && (((decide (defsR op < 0) && decide (nd > 0)) && decide (nd ≤ 5)) || (nd == defsR op))
omit hfl in
def hdB : Part → Bool
 | .ex (.mk op n s _ kids) => exHead op n s (Int.ofNat kids.length)
 | .cl (.mk f s _ _ _ joins defs kids) => clHead f s joins (Int.ofNat defs.length) (Int.ofNat kids.length)
 | .tm (.mk op s _ _ _ args defs kids) => tmHead2 (tmHead1 op s (Int.ofNat kids.length)) op (Int.ofNat args.length) (Int.ofNat defs.length)
abbrev R3 := Int × Int × Bool
omit hfl in
def joinR (a b : R3) : R3 := (a.1 + b.1, max a.2.1 b.2.1, a.2.2 && b.2.2)
omit hfl in
def refN : Nat → Part → R3
 | 0, _ => (1, 1, false)
 | n + 1, p => bif hdB p then (let r := (p.subs.map (refN n)).foldl joinR (1, 0, true); (r.1, r.2.1 + 1, r.2.2)) else (1, 1, false)
omit hfl in
def tupR (r : R3) : AVal := .tuple [iv r.1, iv r.2.1, .lit (.bool r.2.2)]
omit hfl in
theorem fold_joinR_le {l : List R3} {x : List Nat} (h : l.length = x.length) (hb : ∀ (i : Nat) (a : R3) (b : Nat), l[i]? = some a → x[i]? = some b → 1 ≤ a.1 ∧ a.1 ≤ b ∧ 1 ≤ a.2.1 ∧ a.2.1 ≤ b) : ∀ s : R3, s.1 ≤ (l.foldl joinR s).1 ∧ (l.foldl joinR s).1 ≤ s.1 + x.sum ∧ s.2.1 ≤ (l.foldl joinR s).2.1 ∧ (l.foldl joinR s).2.1 ≤ max s.2.1 (x.sum : Int) := by
 induction l generalizing x with
 | nil => intro s; cases x with
   | nil => exact ⟨Int.le_refl _, by simp, Int.le_refl _, by show s.2.1 ≤ _; omega⟩
   | cons b x => cases h
 | cons a l ih =>
  intro s
  cases x with
  | nil => cases h
  | cons b x =>
   have h1 := hb 0 a b rfl rfl
   have h2 := ih (x := x) (by simpa using h) (fun i a b h3 h4 => hb (i + 1) a b h3 h4) (joinR s a)
   have e1 : (joinR s a).1 = s.1 + a.1 := rfl
   have e2 : (joinR s a).2.1 = max s.2.1 a.2.1 := rfl
   rw [List.foldl_cons, List.sum_cons]
   omega
omit hfl in
theorem refN_le : ∀ (n : Nat) (p : Part), SizeOf.sizeOf p < n → 1 ≤ (refN n p).1 ∧ (refN n p).1 ≤ ndN n p ∧ 1 ≤ (refN n p).2.1 ∧ (refN n p).2.1 ≤ ndN n p
 | 0, p, h => by omega
 | n + 1, p, h => by
  have hn : ndN (n + 1) p = 1 + (p.subs.map (ndN n)).sum := rfl
  have hr : refN (n + 1) p = bif hdB p then (let r := (p.subs.map (refN n)).foldl joinR (1, 0, true); (r.1, r.2.1 + 1, r.2.2)) else (1, 1, false) := rfl
  cases hb : hdB p with
  | false => rw [hr, hb, hn]; simp only [cond_false]; omega
  | true =>
   have h2 := fold_joinR_le (l := p.subs.map (refN n)) (x := p.subs.map (ndN n)) (by simp) (fun i a b h3 h4 => by
    rw [List.getElem?_map, Option.map_eq_some_iff] at h3 h4
    obtain ⟨q, h5, rfl⟩ := h3
    obtain ⟨q', h6, rfl⟩ := h4
    rw [h5] at h6; cases h6
    have := subs_size (List.mem_of_getElem? h5)
    exact refN_le n q (by omega)) (1, 0, true)
   rw [hr, hb, hn]
   simp only [cond_true] at h2 ⊢
   omega
omit hfl in
def RfL {α : Type} (fl : Fl) (cs : α → List AVal) (pt : α → Part) (sz f nt fi ix : Nat) (c : Code) (j : Nat) (rw : AVal → AVal → AVal → AVal → AVal → List AVal) : Prop :=
 ∀ (z3 : AVal) {r1 n : Nat} {z0 z1 z2 kv : AVal}, (∀ (p : Part) {m : Mem}, SizeOf.sizeOf p < n → ndN n p ≤ 1000 → p.OK m → Wf m → CallQ Tryz.prog fl (match p with | .ex _ => 62 | .cl _ => 99 | .tm _ => 58) [.agg p.cells] m (Rets noS m (tupR (refN n p)))) → ∀ (els : List α), (∀ c, c ∈ els → SizeOf.sizeOf (pt c) < n) → ∀ (k : List AItem) {Q : RR → Prop} {up : Chain} (rest pre : List α) (st : R3) {m : Mem} (b : T AVal), els = pre ++ rest → Wf m → 0 ≤ st.1 → 0 ≤ st.2.1 → st.1 + ((rest.map fun c => ndN n (pt c)).sum : Nat) ≤ 1000 → st.2.1 ≤ 1000 → Cel m r1 (rw z0 z1 z2 z3 kv) → SlA m kv sz (els.map cs) → (∀ c, c ∈ els → Part.OK m (pt c)) → getT b 1 = .ptr r1 0 → getT b (fi + 1) = iv st.1 → getT b (fi + 2) = iv st.2.1 → getT b fi = .lit (.bool st.2.2) → getT b ix = goI pre.length →
  (∀ (m' : Mem) (b' : T AVal), Kept noS m m' → Cel m' r1 (rw z0 z1 z2 z3 kv) → getT b' 1 = .ptr r1 0 → getT b' (fi + 1) = iv ((rest.map fun c => refN n (pt c)).foldl joinR st).1 → getT b' (fi + 2) = iv ((rest.map fun c => refN n (pt c)).foldl joinR st).2.1 → getT b' fi = .lit (.bool ((rest.map fun c => refN n (pt c)).foldl joinR st).2.2) → Wp Tryz.prog fl (At ⟨f, nt, false, none⟩ k b' [] .run up m') Q) → Wp Tryz.prog fl (At ⟨f, nt, false, none⟩ (.code c :: .inLoop c :: .inBlock j :: k) (sets nt b []) [] .run up m) Q
omit hfl in
theorem rf_all : RfL fl AEx.cells Part.ex 4 62 97 6 9 (cAt [true, true, true, true, true, true, false, true, false, false] (bodyF Tryz.f62)) 0 (fun z0 z1 z2 z3 kv => [z0, z1, z2, kv]) ∧
  RfL fl ACl.cells Part.cl 5 99 117 6 9 (cAt [true, true, true, true, true, false, true, false, false] (bodyF Tryz.f99)) 0 (fun z0 z1 z2 z3 kv => [z0, z1, z2, kv, z3]) ∧
  RfL fl AEx.cells Part.ex 4 58 197 8 11 (cAt [true, true, true, true, true, true, true, false, true, false, false] (bodyF Tryz.f58)) 1 (fun z0 z1 z2 z3 kv => [z0, z1, kv, z2, z3]) ∧
  RfL fl ACl.cells Part.cl 5 58 197 8 15 (cAt [true, true, true, true, true, true, true, true, false, true, false, false] (bodyF Tryz.f58)) 3 (fun z0 z1 z2 z3 kv => [z0, z1, z2, kv, z3]) ∧
  RfL fl ATm.cells Part.tm 5 58 197 8 19 (cAt [true, true, true, true, true, true, true, true, true, false, true, false, false] (bodyF Tryz.f58)) 5 (fun z0 z1 z2 z3 kv => [z0, z1, z2, z3, kv]) := by
 refine ⟨?_, ?_, ?_, ?_, ?_⟩ <;> unfold RfL <;> dsimp only <;> (
 intro z3 r1 n z0 z1 z2 kv ih els hsz k Q up rest
 induction rest with
 | nil =>
  intro pre st m b hsp hw hn0 hd0 hb hd1 h1 hsl hok kf1 kfn kfd kfi hix hk
  have h10 := h1
  obtain ⟨⟨e1, h1r⟩, f1⟩ := h1
  have c_kv := hsl.cell
  have hlt := hsl.ltF hsp
  refine w_seq ?_
  refine w_seq ?_
  refine w_region rfl ?_
  refine gr ?_
  refine q_nil ?_
  refine w_condF v0 hlt ?_
  refine w_exit rfl ?_
  refine Wp.gen (fun b' eb => ?_)
  exact hk _ b' (Kept.refl hw) h10 (eqb eb (e_base rfl kf1)) (eqb eb (e_base rfl kfn)) (eqb eb (e_base rfl kfd)) (eqb eb (e_base rfl kfi))
 | cons y rest ih0 =>
  intro pre st m b hsp hw hn0 hd0 hb hd1 h1 hsl hok kf1 kfn kfd kfi hix hk
  have K : Kept (fun q => m.next ≤ q ∨ noS q) m m := Kept.refl hw
  obtain ⟨⟨e1, h⟩, f⟩ := h1
  have c_kv := hsl.cell
  have hlt := hsl.ltT hsp
  have hln := hsl.lnT hsp
  have hsl0 := hsl
  obtain ⟨r, off, cc, ex, row, hv, hlx, hr, htk⟩ := hsl.here hsp
  subst hv
  have hym : y ∈ els := by simp [hsp]
  rw [List.map_cons, List.sum_cons] at hb
  have hle := refN_le n _ (hsz y hym)
  refine gg ?_
  refine s_val rfl rfl rfl rfl (o_indexAddr v0 v0 ElF.h (by simpa using hlx)) ?_
  refine s_val rfl rfl rfl rfl (o_loadRoA v0 hr (TyF.h (s := _)) (TyF.z (g := true)) htk) ?_
  refine s_callC K h f (o_calls (me1 v0)) (ih _ (hsz y hym) (by omega) ((hok y hym).kept K) K.wf) (fun m' K h f => ?_)
  refine gg ?_
  refine sg (fun z => ?_) (fun z => ?_)
  all_goals
   refine gg ?_
   refine w_inLoop ?_
   refine Wp.gen (fun b' eb => ?_)
   refine ih0 (pre ++ [y]) (joinR st (refN n _)) b' (by simp [hsp]) K.wf ?_ ?_ ?_ ?_ (Cel.of h f) (hsl0.kept K) (fun c hc => (hok c hc).kept K) (eqb eb (e_base rfl kf1)) (eqb eb v0) (eqb eb v0) ((eqb eb v0).trans (congrArg (fun b => AVal.lit (.bool b)) ?_)) (eqb eb ((e_hit rfl).trans (by rw [List.length_append]; rfl))) (fun m' b' k h1 h2 h3 h4 h5 => hk m' b' (K.out.trans k) h1 h2 h3 h4 h5)
   ·simp only [joinR]; omega
   ·simp only [joinR]; omega
   ·simp only [joinR]; omega
   ·simp only [joinR]; omega
   ·simp only [joinR, z]; first | rfl | simp)
end
open Go.RowKit (Below)
set_option maxRecDepth 10000
noncomputable section
variable {fl : Fl} (hfl : Tab fl)
include hfl
omit hfl in
theorem rv3 {tmps : T AVal} {m : Mem} {t t' t3 : Tmp} {v v' v3 : AVal} (e : evalT tmps (.tmp t) = v) (e' : evalT tmps (.tmp t') = v') (e3 : evalT tmps (.tmp t3) = v3) : resVals Tryz.prog tmps m [.tmp t, .tmp t', .tmp t3] = some [v, v', v3] := by
 have h2 := rv2 (m := m) (P := Tryz.prog) e' e3
 show (resVals Tryz.prog tmps m [.tmp t', .tmp t3]).map (getT tmps t :: ·) = _
 rw [h2, show getT tmps t = v from e]; rfl
omit hfl in
def resR (hd : Bool) (r : R3) : R3 := bif hd then (r.1, r.2.1 + 1, r.2.2) else (1, 1, false)
omit hfl in
theorem fold_le {α : Type} (F : α → Part) {n : Nat} (l : List α) (h : ∀ c, c ∈ l → SizeOf.sizeOf (F c) < n) (s : R3) : s.1 ≤ ((l.map fun c => refN n (F c)).foldl joinR s).1 ∧ ((l.map fun c => refN n (F c)).foldl joinR s).1 ≤ s.1 + (l.map fun c => ndN n (F c)).sum ∧ s.2.1 ≤ ((l.map fun c => refN n (F c)).foldl joinR s).2.1 ∧ ((l.map fun c => refN n (F c)).foldl joinR s).2.1 ≤ max s.2.1 ((l.map fun c => ndN n (F c)).sum : Int) := by
 have := fold_joinR_le (l := l.map fun c => refN n (F c)) (x := l.map fun c => ndN n (F c)) (by simp) (fun i a b h3 h4 => by
  rw [List.getElem?_map, Option.map_eq_some_iff] at h3 h4
  obtain ⟨q, h5, rfl⟩ := h3
  obtain ⟨q', h6, rfl⟩ := h4
  rw [h5] at h6; cases h6
  exact refN_le n (F q) (h q (List.mem_of_getElem? h5))) s
 exact this
theorem ex_rest {m m1 : Mem} {r1 n : Nat} {op nn : Int} {s : ByteArray} {kv : AVal} {kids : List AEx} {hd : Bool} (ih : ∀ (p : Part) {m : Mem}, SizeOf.sizeOf p < n → ndN n p ≤ 1000 → p.OK m → Wf m → CallQ Tryz.prog fl (match p with | .ex _ => 62 | .cl _ => 99 | .tm _ => 58) [.agg p.cells] m (Rets noS m (tupR (refN n p)))) (hsz : ∀ c, c ∈ kids → SizeOf.sizeOf (Part.ex c) < n) (hnd : 1 + (kids.map fun c => ndN n (Part.ex c)).sum ≤ 1000) (h1 : Cel m1 r1 [iv op, iv nn, .lit (.string s), kv]) (hsl : SlA m1 kv 4 (kids.map AEx.cells)) (hok : ∀ c, c ∈ kids → Part.OK m1 (Part.ex c)) (hw : Wf m) (K0 : Kept (fun q => m.next ≤ q ∨ noS q) m m1) (b : T AVal) (k1 : getT b 1 = .ptr r1 0) (k6 : getT b 6 = .lit (.bool hd)) : Wp Tryz.prog fl (At ⟨62, 97, false, none⟩ [.code (cAt [true, true, true, true, false] (bodyF Tryz.f62)), .code (cAt [true, true, true, true, true] (bodyF Tryz.f62))] (sets 97 b []) [] .run [] m1) (Rets noS m (tupR (resR hd ((kids.map fun c => refN n (Part.ex c)).foldl joinR (1, 0, true))))) := by
 have _ := hfl
 have KL0 : Kept noS m1 m1 := Kept.refl K0.wf
 obtain ⟨⟨e1, h1r⟩, f1⟩ := h1
 refine gg ?_
 refine w_cond (e_hit rfl) (fun c1 => ?_) (fun c1 => ?_)
 ·
  refine gg ?_
  refine w_retAt rfl ?_
  refine w_results Tryz.func62 (rv3 (e_hit rfl) (e_hit rfl) (e_hit rfl)) ?_
  exact ⟨_, _, congrArg (fun v => RR.ret v _ _) (by rw [show hd = false from by simpa using c1]; rfl), K0.out⟩
 ·
  refine gg ?_
  refine w_loop ?_
  refine Wp.gen (fun b0 eb => ?_)
  have hfa := fold_le Part.ex (n := n) kids hsz ((1, 0, true) : R3)
  refine rf_all.1 kv ih kids hsz _ kids [] ((1, 0, true) : R3) b0 (by rfl) K0.wf (by first | decide | omega) (by first | decide | omega) (by first | omega | (show (1 : Int) + _ ≤ 1000; omega)) (by first | decide | omega) (Cel.of h1r f1) (hsl.kept KL0) (fun c hc => (hok c hc).kept KL0) (eqb eb (e_base rfl k1)) (eqb eb (e_hit rfl)) (eqb eb (e_hit rfl)) (eqb eb ((e_base rfl k6).trans (congrArg (fun b => AVal.lit (.bool b)) (show hd = true from by simpa using c1)))) (eqb eb (e_hit rfl)) ?_
  intro mq2 bq3 kq4 z5 z6 z7 z8 z9
  change Wp Tryz.prog fl (At _ _ (sets 97 bq3 []) _ _ _ _) _
  have KXa := K0.k kq4 (fun _ h => h.elim)
  obtain ⟨rra, hrra⟩ : ∃ r, r = (kids.map fun c => refN n (Part.ex c)).foldl joinR ((1, 0, true) : R3) := ⟨_, rfl⟩
  rw [← hrra] at z7 z8 z9 hfa
  try dsimp only at hfa
  obtain ⟨⟨_, har⟩, haf⟩ := z5
  refine gg ?_
  refine w_retAt rfl ?_
  refine w_results Tryz.func62 (rv3 (e_hit rfl) (e_hit rfl) (e_hit rfl)) ?_
  exact ⟨_, _, congrArg (fun v => RR.ret v _ _) (by rw [show hd = true from by simpa using c1]; rw [← hrra]; rfl), KXa.out⟩
theorem cl_rest {m m1 : Mem} {r1 n : Nat} {fm : Int} {s : ByteArray} {jv dv kv : AVal} {joins : List AMs} {defs : List ACl} {kids : List ATm} {hd : Bool} (ih : ∀ (p : Part) {m : Mem}, SizeOf.sizeOf p < n → ndN n p ≤ 1000 → p.OK m → Wf m → CallQ Tryz.prog fl (match p with | .ex _ => 62 | .cl _ => 99 | .tm _ => 58) [.agg p.cells] m (Rets noS m (tupR (refN n p)))) (hszd : ∀ c, c ∈ defs → SizeOf.sizeOf (Part.cl c) < n) (hszk : ∀ c, c ∈ kids → SizeOf.sizeOf (Part.tm c) < n) (hnd : 1 + ((defs.map fun c => ndN n (Part.cl c)).sum + (kids.map fun c => ndN n (Part.tm c)).sum) ≤ 1000) (hk1 : hd = true → kids.length = 1) (h1 : Cel m1 r1 [iv fm, .lit (.string s), jv, dv, kv]) (hjs : SlA m1 jv 2 (joins.map AMs.cells)) (hds : SlA m1 dv 5 (defs.map ACl.cells)) (hks : SlA m1 kv 5 (kids.map ATm.cells)) (hod : ∀ c, c ∈ defs → Part.OK m1 (Part.cl c)) (hok : ∀ c, c ∈ kids → Part.OK m1 (Part.tm c)) (hw : Wf m) (K0 : Kept (fun q => m.next ≤ q ∨ noS q) m m1) (b : T AVal) (k1 : getT b 1 = .ptr r1 0) (k6 : getT b 6 = .lit (.bool hd)) : Wp Tryz.prog fl (At ⟨99, 117, false, none⟩ [.code (cAt [true, true, true, false] (bodyF Tryz.f99)), .code (cAt [true, true, true, true] (bodyF Tryz.f99))] (sets 117 b []) [] .run [] m1) (Rets noS m (tupR (resR hd ((kids.map fun c => refN n (Part.tm c)).foldl joinR ((defs.map fun c => refN n (Part.cl c)).foldl joinR (1, 0, true)))))) := by
 have _ := hfl
 have ck := hks.cell
 have KL0 : Kept noS m1 m1 := Kept.refl K0.wf
 obtain ⟨⟨e1, h1r⟩, f1⟩ := h1
 refine gg ?_
 refine w_cond (e_hit rfl) (fun c10 => ?_) (fun c10 => ?_)
 ·
  refine gg ?_
  refine w_retAt rfl ?_
  refine w_results Tryz.func99 (rv3 (e_hit rfl) (e_hit rfl) (e_hit rfl)) ?_
  exact ⟨_, _, congrArg (fun v => RR.ret v _ _) (by rw [show hd = false from by simpa using c10]; rfl), K0.out⟩
 ·
  refine gg ?_
  obtain ⟨k0, rfl⟩ : ∃ k0, kids = [k0] := List.length_eq_one_iff.mp (hk1 (by simpa using c10))
  rw [List.map_cons, List.map_nil, List.sum_cons, List.sum_nil] at hnd
  have hk0 := refN_le n (Part.tm k0) (hszk k0 (by simp))
  refine w_loop ?_
  refine Wp.gen (fun b0 eb => ?_)
  have hfa := fold_le Part.cl (n := n) defs hszd ((1, 0, true) : R3)
  refine rf_all.2.1 _ ih defs hszd _ defs [] ((1, 0, true) : R3) b0 (by rfl) K0.wf (by first | decide | omega) (by first | decide | omega) (by first | omega | (show (1 : Int) + _ ≤ 1000; omega)) (by first | decide | omega) (Cel.of h1r f1) (hds.kept KL0) (fun c hc => (hod c hc).kept KL0) (eqb eb (e_base rfl k1)) (eqb eb (e_hit rfl)) (eqb eb (e_hit rfl)) (eqb eb ((e_base rfl k6).trans (congrArg (fun b => AVal.lit (.bool b)) (show hd = true from by simpa using c10)))) (eqb eb (e_hit rfl)) ?_
  intro mq11 bq12 kq13 z14 z15 z16 z17 z18
  change Wp Tryz.prog fl (At _ _ (sets 117 bq12 []) _ _ _ _) _
  have KLa := KL0.then kq13 (fun q _ h => h)
  have KXa := K0.k kq13 (fun _ h => h.elim)
  obtain ⟨rra, hrra⟩ : ∃ r, r = (defs.map fun c => refN n (Part.cl c)).foldl joinR ((1, 0, true) : R3) := ⟨_, rfl⟩
  rw [← hrra] at z16 z17 z18 hfa
  try dsimp only at hfa
  obtain ⟨⟨_, har⟩, haf⟩ := z14
  refine gg ?_
  obtain ⟨rk, offk, cck, exk, rowk, hvk, hlxk, hrk, htkk⟩ := (hks.kept KLa).at (i := 0) (e := ATm.cells k0) (by simp)
  refine s_val rfl rfl rfl rfl (o_indexAddr ((e_hit rfl).trans hvk) rfl el_31 (by simp)) ?_
  refine s_val rfl rfl rfl rfl (o_loadRoA (e_hit rfl) hrk tg_33 sz_33 htkk) ?_
  refine s_callV rfl rfl rfl rfl (o_calls (me1 (e_hit rfl))) (ih (Part.tm k0) (hszk k0 (by simp)) (by omega) ((hok k0 (by simp)).kept KLa) KXa.wf) (fun m19 k20 => ?_)
  have K22 := KXa.k k20 (fun _ h => h.elim)
  refine gg ?_
  refine s_guardS rfl rfl (e_hit rfl) (fun c23 => ?_) (fun c23 => ?_)
  ·
   refine gg ?_
   refine w_retAt rfl ?_
   refine w_results Tryz.func99 (rv3 (e_hit rfl) (e_hit rfl) (e_hit rfl)) ?_
   exact ⟨_, _, congrArg (fun v => RR.ret v _ _) (by rw [show hd = true from by simpa using c10]; show AVal.tuple _ = AVal.tuple [iv ((joinR ((defs.map fun c => refN n (Part.cl c)).foldl joinR (1, 0, true)) (refN n (Part.tm k0))).1), iv ((joinR ((defs.map fun c => refN n (Part.cl c)).foldl joinR (1, 0, true)) (refN n (Part.tm k0))).2.1 + 1), .lit (.bool ((joinR ((defs.map fun c => refN n (Part.cl c)).foldl joinR (1, 0, true)) (refN n (Part.tm k0))).2.2))]; rw [← hrra]; show _ = AVal.tuple [iv (rra.1 + _), iv (max _ _ + 1), .lit (.bool (rra.2.2 && _))]; rw [c23]; rfl), K22.out⟩
  ·
   refine gg ?_
   refine w_retAt rfl ?_
   refine w_results Tryz.func99 (rv3 (e_hit rfl) (e_hit rfl) (e_hit rfl)) ?_
   exact ⟨_, _, congrArg (fun v => RR.ret v _ _) (by rw [show hd = true from by simpa using c10]; show AVal.tuple _ = AVal.tuple [iv ((joinR ((defs.map fun c => refN n (Part.cl c)).foldl joinR (1, 0, true)) (refN n (Part.tm k0))).1), iv ((joinR ((defs.map fun c => refN n (Part.cl c)).foldl joinR (1, 0, true)) (refN n (Part.tm k0))).2.1 + 1), .lit (.bool ((joinR ((defs.map fun c => refN n (Part.cl c)).foldl joinR (1, 0, true)) (refN n (Part.tm k0))).2.2))]; rw [← hrra]; show _ = AVal.tuple [iv (rra.1 + _), iv (max _ _ + 1), .lit (.bool (rra.2.2 && _))]; rw [c23]; rfl), K22.out⟩
theorem tm_rest {m m1 : Mem} {r1 n : Nat} {op : Int} {s : ByteArray} {av dv kv : AVal} {args : List AEx} {defs : List ACl} {kids : List ATm} {hd : Bool} (ih : ∀ (p : Part) {m : Mem}, SizeOf.sizeOf p < n → ndN n p ≤ 1000 → p.OK m → Wf m → CallQ Tryz.prog fl (match p with | .ex _ => 62 | .cl _ => 99 | .tm _ => 58) [.agg p.cells] m (Rets noS m (tupR (refN n p)))) (hsza : ∀ c, c ∈ args → SizeOf.sizeOf (Part.ex c) < n) (hszd : ∀ c, c ∈ defs → SizeOf.sizeOf (Part.cl c) < n) (hszk : ∀ c, c ∈ kids → SizeOf.sizeOf (Part.tm c) < n) (hnd : 1 + ((args.map fun c => ndN n (Part.ex c)).sum + (defs.map fun c => ndN n (Part.cl c)).sum + (kids.map fun c => ndN n (Part.tm c)).sum) ≤ 1000) (h1 : Cel m1 r1 [iv op, .lit (.string s), av, dv, kv]) (has : SlA m1 av 4 (args.map AEx.cells)) (hds : SlA m1 dv 5 (defs.map ACl.cells)) (hks : SlA m1 kv 5 (kids.map ATm.cells)) (hoa : ∀ c, c ∈ args → Part.OK m1 (Part.ex c)) (hod : ∀ c, c ∈ defs → Part.OK m1 (Part.cl c)) (hok : ∀ c, c ∈ kids → Part.OK m1 (Part.tm c)) (hw : Wf m) (K0 : Kept (fun q => m.next ≤ q ∨ noS q) m m1) (b : T AVal) (k1 : getT b 1 = .ptr r1 0) (k8 : getT b 8 = .lit (.bool hd)) : Wp Tryz.prog fl (At ⟨58, 197, false, none⟩ [.code (cAt [true, true, true, true, true, false] (bodyF Tryz.f58)), .code (cAt [true, true, true, true, true, true] (bodyF Tryz.f58))] (sets 197 b []) [] .run [] m1) (Rets noS m (tupR (resR hd ((kids.map fun c => refN n (Part.tm c)).foldl joinR ((defs.map fun c => refN n (Part.cl c)).foldl joinR ((args.map fun c => refN n (Part.ex c)).foldl joinR (1, 0, true))))))) := by
 have _ := hfl
 have KL0 : Kept noS m1 m1 := Kept.refl K0.wf
 obtain ⟨⟨e1, h1r⟩, f1⟩ := h1
 refine gg ?_
 refine w_cond (e_hit rfl) (fun c24 => ?_) (fun c24 => ?_)
 ·
  refine gg ?_
  refine w_retAt rfl ?_
  refine w_results Tryz.func58 (rv3 (e_hit rfl) (e_hit rfl) (e_hit rfl)) ?_
  exact ⟨_, _, congrArg (fun v => RR.ret v _ _) (by rw [show hd = false from by simpa using c24]; rfl), K0.out⟩
 ·
  refine gg ?_
  refine w_loop ?_
  refine Wp.gen (fun b0 eb => ?_)
  have hfa := fold_le Part.ex (n := n) args hsza ((1, 0, true) : R3)
  refine rf_all.2.2.1 _ ih args hsza _ args [] ((1, 0, true) : R3) b0 (by rfl) K0.wf (by first | decide | omega) (by first | decide | omega) (by first | omega | (show (1 : Int) + _ ≤ 1000; omega)) (by first | decide | omega) (Cel.of h1r f1) (has.kept KL0) (fun c hc => (hoa c hc).kept KL0) (eqb eb (e_base rfl k1)) (eqb eb (e_hit rfl)) (eqb eb (e_hit rfl)) (eqb eb ((e_base rfl k8).trans (congrArg (fun b => AVal.lit (.bool b)) (show hd = true from by simpa using c24)))) (eqb eb (e_hit rfl)) ?_
  intro mq25 bq26 kq27 z28 z29 z30 z31 z32
  change Wp Tryz.prog fl (At _ _ (sets 197 bq26 []) _ _ _ _) _
  have KLa := KL0.then kq27 (fun q _ h => h)
  have KXa := K0.k kq27 (fun _ h => h.elim)
  obtain ⟨rra, hrra⟩ : ∃ r, r = (args.map fun c => refN n (Part.ex c)).foldl joinR ((1, 0, true) : R3) := ⟨_, rfl⟩
  rw [← hrra] at z30 z31 z32 hfa
  try dsimp only at hfa
  obtain ⟨⟨_, har⟩, haf⟩ := z28
  refine gg ?_
  refine w_loop ?_
  refine Wp.gen (fun b0 eb => ?_)
  have hfb := fold_le Part.cl (n := n) defs hszd rra
  refine rf_all.2.2.2.1 _ ih defs hszd _ defs [] rra b0 (by rfl) KXa.wf (by first | decide | omega) (by first | decide | omega) (by first | omega | (show (1 : Int) + _ ≤ 1000; omega)) (by first | decide | omega) (Cel.of har haf) (hds.kept KLa) (fun c hc => (hod c hc).kept KLa) (eqb eb (e_base rfl z29)) (eqb eb (e_base rfl z30)) (eqb eb (e_base rfl z31)) (eqb eb (e_base rfl z32)) (eqb eb (e_hit rfl)) ?_
  intro mq33 bq34 kq35 z36 z37 z38 z39 z40
  change Wp Tryz.prog fl (At _ _ (sets 197 bq34 []) _ _ _ _) _
  have KLb := KLa.then kq35 (fun q _ h => h)
  have KXb := KXa.k kq35 (fun _ h => h.elim)
  obtain ⟨rrb, hrrb⟩ : ∃ r, r = (defs.map fun c => refN n (Part.cl c)).foldl joinR rra := ⟨_, rfl⟩
  rw [← hrrb] at z38 z39 z40 hfb
  try dsimp only at hfb
  obtain ⟨⟨_, hbr⟩, hbf⟩ := z36
  refine gg ?_
  refine w_loop ?_
  refine Wp.gen (fun b0 eb => ?_)
  have hfc := fold_le Part.tm (n := n) kids hszk rrb
  refine rf_all.2.2.2.2 _ ih kids hszk _ kids [] rrb b0 (by rfl) KXb.wf (by first | decide | omega) (by first | decide | omega) (by first | omega | (show (1 : Int) + _ ≤ 1000; omega)) (by first | decide | omega) (Cel.of hbr hbf) (hks.kept KLb) (fun c hc => (hok c hc).kept KLb) (eqb eb (e_base rfl z37)) (eqb eb (e_base rfl z38)) (eqb eb (e_base rfl z39)) (eqb eb (e_base rfl z40)) (eqb eb (e_hit rfl)) ?_
  intro mq41 bq42 kq43 z44 z45 z46 z47 z48
  change Wp Tryz.prog fl (At _ _ (sets 197 bq42 []) _ _ _ _) _
  have KXc := KXb.k kq43 (fun _ h => h.elim)
  obtain ⟨rrc, hrrc⟩ : ∃ r, r = (kids.map fun c => refN n (Part.tm c)).foldl joinR rrb := ⟨_, rfl⟩
  rw [← hrrc] at z46 z47 z48 hfc
  try dsimp only at hfc
  obtain ⟨⟨_, hcr⟩, hcf⟩ := z44
  refine gg ?_
  refine w_retAt rfl ?_
  refine w_results Tryz.func58 (rv3 (e_hit rfl) (e_hit rfl) (e_hit rfl)) ?_
  exact ⟨_, _, congrArg (fun v => RR.ret v _ _) (by rw [show hd = true from by simpa using c24]; rw [← hrra, ← hrrb, ← hrrc]; rfl), KXc.out⟩
end
end Go.Proofs.YtjefckdgpbdpeaaGreat
