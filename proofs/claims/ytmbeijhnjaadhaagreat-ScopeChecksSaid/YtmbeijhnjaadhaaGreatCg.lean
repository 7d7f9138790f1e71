/- A part of the proof of ScopeChecks. -/
import Derived.Test.YtmbeijhnjaadhaaGreatCa
import Derived.Test.YtmbeijhnjaadhaaGreatAbsM
namespace Go.Proofs.YtmbeijhnjaadhaaGreat
open Go Go.Abs
open Go.RowKit (Below)
set_option maxRecDepth 10000
noncomputable section
theorem tg_4 : tagg Tryz.prog 4 = some false := TyF.h (s := 1)
theorem sz_4 : tsz Tryz.prog 4 = some 1 := TyF.z (g := false)
theorem zc_4 : zcells Tryz.prog 4 = some [.lit (.bool false)] := ZcF.h
theorem zc_263 : zcells Tryz.prog 200 = some [.lit .nilFunc] := ZcF.h
theorem sz_263 : tsz Tryz.prog 200 = some 1 := TyF.z (g := false)
variable {fl : Fl} (hfl : Tab fl)
include hfl
omit hfl in
def pvN {σ τ : Type} (step : σ → Int × AX → St σ τ) : Nat → Int → AX → σ → St σ τ
 | 0, _, _, s => .go s
 | n + 1, i, p, s => match step s (i, p) with
  | .go s' => foldSt (fun s q => pvN step n (i + 1) q s) s' p.kids
  | .stop t => .stop t
  | .fail c => .fail c
abbrev pvF (y v : Nat) : AVal := .func (.func 95) [] [.ptr y 0, .ptr v 0]
theorem pv_round {σ τ : Type} {l : Nat} {L : Lp} {S : Nat → Prop} {B : Nat} {I : σ → Mem → Prop} {J : τ → Mem → Prop} {pe : τ → Code} {step : σ → Int × AX → St σ τ} {Lv : Int → AX → Prop} (hR : RoundOK Tryz.prog fl l L S B I J pe (fun x => [iv x.1, (qv x.2)]) (fun x m => x.2.OK m ∧ Lv x.1 x.2) step) (_hLv : ∀ (i : Int) (q : AX) s s', Lv i q → step s (i, q) = .go s' → (-(2 ^ 61) ≤ i ∧ i < 2 ^ 61) ∧ ∀ r, r ∈ q.kids → Lv (i + 1) r) {n : Nat} {y v : Nat} (ih : ∀ (q : AX) (i : Int) (s : σ) {m : Mem}, SizeOf.sizeOf q < n → Wf m → B ≤ m.next → I s m → m.heap.get l = some (L.obj .ready none) → Cel m y [.yield l] → Cel m v [pvF y v] → q.OK m → Lv i q → CallQ Tryz.prog fl 95 [iv i, (qv q), .ptr y 0, .ptr v 0] m (EndR l L S I J pe m (pvN step n i q s))) {m3 : Mem} {l2 r4 r6 d2 : Nat} {i : Int} {tm : T AVal} (t3 : getT tm 3 = .ptr v 0) (t4 : getT tm 4 = .ptr r4 0) (t6 : getT tm 6 = .ptr r6 0) (_hB3 : B ≤ m3.next) (hi : -(2 ^ 61) ≤ i ∧ i < 2 ^ 61)
  (hl2 : l2 < m3.next) (h4l : r4 < m3.next) (h6l : r6 < m3.next) (hb : B ≤ l2 ∧ B ≤ r4 ∧ B ≤ r6) (hne : r4 ≠ r6 ∧ l2 ≠ r4 ∧ l2 ≠ r6) (hyB : y < B ∧ v < B ∧ ¬ S y ∧ ¬ S v) (hy : Cel m3 y [.yield l]) (hv : Cel m3 v [pvF y v]) (h4 : Cel m3 r4 [iv i]) :
  RoundOK Tryz.prog fl l2 (⟨95, 23, tm, [16], cAt [true, true, false, true, false, false] (bodyF Tryz.f95), cAt [true, true, false, true, false, true] (bodyF Tryz.f95), d2⟩) (fun q => S q ∨ q = r6 ∨ q = l2) m3.next (fun s m => I s m ∧ m.heap.get l = some (L.obj .ready none) ∧ Kept (fun q => S q ∨ q = r6 ∨ q = l2) m3 m ∧ Cel m r6 [.lit (.bool false)]) (fun t m => J t m ∧ m.heap.get l = some (L.obj .done (some (pe t))) ∧ Kept (fun q => S q ∨ q = r6 ∨ q = l2) m3 m ∧ Cel m r6 [.lit (.bool false)]) (fun _ => .ret) (fun q => [qv q]) (fun q m => (q.OK m ∧ Lv (i + 1) q) ∧ SizeOf.sizeOf q < n) (fun s q => pvN step n (i + 1) q s) := by
 have _ := hfl
 have llt : l < B := hR.low l hR.here
 refine ⟨by kernel_rfl, fun x => rfl, .inr (.inr rfl), ?_, ?_, ?_, ?_⟩
 ·rintro q (h | rfl | rfl)
  ·have := hR.low q h; omega
  ·exact h6l
  ·exact hl2
 ·rintro s m m' ⟨h1, h2, h3, h4'⟩ k
  have n3 := h3.next
  exact ⟨hR.stab s m m' h1 (k.mono (fun q _ h => by show B ≤ q; have : m3.next ≤ q := h; omega)), (k.get l (by omega) (by show ¬ (m3.next ≤ l); omega)).trans h2, h3.then k (fun q hq h => by have : m3.next ≤ q := h; omega), h4'.kept k (by omega) (by show ¬ (m3.next ≤ r6); omega)⟩
 ·rintro s m m' ⟨h1, h2, h3, h4'⟩ k
  have n3 := h3.next
  exact ⟨hR.stabJ s m m' h1 (k.mono (fun q _ h => by show B ≤ q; have : m3.next ≤ q := h; omega)), (k.get l (by omega) (by show ¬ (m3.next ≤ l); omega)).trans h2, h3.then k (fun q hq h => by have : m3.next ≤ q := h; omega), h4'.kept k (by omega) (by show ¬ (m3.next ≤ r6); omega)⟩
 ·rintro s q m hw hBm ⟨hI, hl, hk, h6⟩ ⟨⟨hq, hlv⟩, hsz⟩ hl2r
  show Wp Tryz.prog fl (At ⟨95, 23, false, some l2⟩ [.code (cAt [true, true, false, true, false, false] (bodyF Tryz.f95)), .beginRound, .code (cAt [true, true, false, true, false, true] (bodyF Tryz.f95))] (sets 23 tm [(16, (qv q))]) [] .run [] m) _
  have K0 : Kept (fun q => m.next ≤ q ∨ (fun q => S q ∨ q = r6 ∨ q = l2) q) m m := Kept.refl hw
  have hy' := hy.kept hk (by omega) (by rintro (h | h | h); exact hyB.2.2.1 h; all_goals omega)
  have hv' := hv.kept hk (by omega) (by rintro (h | h | h); exact hyB.2.2.2 h; all_goals omega)
  have h4' := h4.kept hk (by omega) (by rintro (h | h | h); (have := hR.low _ h; omega); all_goals omega)
  obtain ⟨⟨ey, hyr⟩, fy⟩ := hy'
  obtain ⟨⟨ev, hvr⟩, fv⟩ := hv'
  obtain ⟨⟨e4, h4r⟩, f4⟩ := h4'
  obtain ⟨⟨e6, h6r⟩, f6⟩ := h6
  have lt6 := hw.lt h6r
  have ltl2 := hw.lt hl2r
  refine gg ?_
  refine w_begin rfl hl2r ?_
  obtain ⟨m1, g2⟩ : ∃ m', Wrote m m' l2 (Lp.obj (⟨95, 23, tm, [16], cAt [true, true, false, true, false, false] (bodyF Tryz.f95), cAt [true, true, false, true, false, true] (bodyF Tryz.f95), d2⟩) .busy none) ∧ m' = m.put l2 (Lp.obj (⟨95, 23, tm, [16], cAt [true, true, false, true, false, false] (bodyF Tryz.f95), cAt [true, true, false, true, false, true] (bodyF Tryz.f95), d2⟩) .busy none) := ⟨_, wrote _ _ _, rfl⟩
  rw [show m.put l2 (.loop ⟨.busy, none, 95, 23, tm, [16], cAt [true, true, false, true, false, false] (bodyF Tryz.f95), cAt [true, true, false, true, false, true] (bodyF Tryz.f95), d2⟩) = m1 from g2.2.symm]
  replace g2 := g2.1
  have n3 := g2.next
  have K4 := K0.w g2 hl2r (fun _ h => by cases h) (Or.inr (Or.inr (Or.inr rfl)))
  refine gg ?_
  have h5 := (g2.other v (by omega)).trans hvr
  refine gg ?_
  refine gg ?_
  have h7 := (g2.other y (by omega)).trans hyr
  have f8 := (g2.famo y).trans fy
  have f9 := (g2.famo v).trans fv
  have kb : Kept (fun q => B ≤ q) m m1 := Kept.wrote hw g2 hl2r (fun _ h => by cases h) (by show B ≤ l2; omega)
  refine s_callR rfl rfl rfl rfl (o_callF (e_hit rfl) (me2 (e_hit rfl) (e_hit rfl))) (ih q (i + 1) s hsz kb.wf (by omega) (hR.stab s m _ hI kb) ((kb.get l (by omega) (by show ¬ (B ≤ l); omega)).trans hl) (Cel.of h7 f8) (Cel.of h5 f9) (hq.kept kb) hlv) ?_ ?_ ?_
  ·
   intro s' e m9 k9 hI9 hl9
   have K9 := K4.k k9 (fun q h => Or.inr (Or.inl h))
   refine gg ?_
   have h10 := (k9.get l2 (by omega) (by intro h; have := hR.low _ h; omega)).trans g2.same
   have h11 := (g2.other r6 (by omega)).trans h6r
   have h12 := (k9.get r6 (by omega) (by intro h; have := hR.low _ h; omega)).trans h11
   have f13 := (g2.famo r6).trans f6
   have f14 := (k9.fam r6 (by omega) (by intro h; have := hR.low _ h; omega)).trans f13
   refine w_roundEnd rfl h10 ?_
   show EndR _ _ _ _ _ _ _ (pvN step n (i + 1) q s) _
   rw [e]
   have gE := wrote m9 l2 (Lp.obj (⟨95, 23, tm, [16], cAt [true, true, false, true, false, false] (bodyF Tryz.f95), cAt [true, true, false, true, false, true] (bodyF Tryz.f95), d2⟩) .ready none)
   have KE := K9.w gE h10 (fun _ h => by cases h) (Or.inr (Or.inr (Or.inr rfl)))
   have kE : Kept (fun q => B ≤ q) m9 _ := Kept.wrote K9.wf gE h10 (fun _ h => by cases h) (by show B ≤ l2; omega)
   exact ⟨_, _, rfl, KE.out, ⟨hR.stab _ _ _ hI9 kE, (gE.other l (by omega)).trans hl9, hk.then KE.out (fun _ _ h => h), Cel.of ((gE.other r6 (by omega)).trans h12) ((gE.famo r6).trans f14)⟩, gE.same⟩
  ·
   intro t e m9 k9 hJ9 hl9
   have n9 := k9.next
   have K9 := K4.k k9 (fun q h => Or.inr (Or.inl h))
   refine gg ?_
   have h15 := (g2.other r6 (by omega)).trans h6r
   have h16 := (k9.get r6 (by omega) (by intro h; have := hR.low _ h; omega)).trans h15
   have f17 := (g2.famo r6).trans f6
   have f18 := (k9.fam r6 (by omega) (by intro h; have := hR.low _ h; omega)).trans f17
   refine s_put0 rfl rfl rfl (o_store rfl (e_base rfl t6) h16 f18 sz_4 rfl rfl rfl rfl) (fun m19 g20 => ?_)
   have n21 := g20.next
   have K22 := K9.w g20 h16 (fun _ h => by cases h) (Or.inr (Or.inr (Or.inl rfl)))
   refine gg ?_
   have h23 := (k9.get l2 (by omega) (by intro h; have := hR.low _ h; omega)).trans g2.same
   have h24 := hxM m19 l2
   have f25 := fxM m19 r6
   refine w_roundRet rfl h24 ?_
   show EndR _ _ _ _ _ _ _ (pvN step n (i + 1) q s) _
   rw [e]
   have gE := wrote m19 l2 (Lp.obj (⟨95, 23, tm, [16], cAt [true, true, false, true, false, false] (bodyF Tryz.f95), cAt [true, true, false, true, false, true] (bodyF Tryz.f95), d2⟩) .done (some .ret))
   have KE := K22.w gE h24 (fun _ h => by cases h) (Or.inr (Or.inr (Or.inr rfl)))
   have kE0 : Kept (fun q => B ≤ q) m9 m19 := Kept.wrote K9.wf g20 h16 (fun _ h => by cases h) (by show B ≤ r6; omega)
   have kE : Kept (fun q => B ≤ q) m9 _ := kE0.trans (Kept.wrote K22.wf gE h24 (fun _ h => by cases h) (by show B ≤ l2; omega))
   exact ⟨_, _, rfl, KE.out, ⟨hR.stabJ _ _ _ hJ9 kE, (kE.get l (by omega) (by show ¬ (B ≤ l); omega)).trans hl9, hk.then KE.out (fun _ _ h => h), Cel.of ((gE.other r6 (by omega)).trans g20.same) ((gE.famo r6).trans f25)⟩, gE.same⟩
  ·
   intro c e m9 k9
   have K9 := K4.k k9 (fun q h => Or.inr (Or.inl h))
   refine w_panics ?_
   show EndR _ _ _ _ _ _ _ (pvN step n (i + 1) q s) _
   rw [e]; exact ⟨_, _, rfl, K9.out⟩
theorem pvisit_ok {σ τ : Type} {l : Nat} {L : Lp} {S : Nat → Prop} {B : Nat} {I : σ → Mem → Prop} {J : τ → Mem → Prop} {pe : τ → Code} {step : σ → Int × AX → St σ τ} {Lv : Int → AX → Prop} (hR : RoundOK Tryz.prog fl l L S B I J pe (fun x => [iv x.1, (qv x.2)]) (fun x m => x.2.OK m ∧ Lv x.1 x.2) step) (hLv : ∀ (i : Int) (q : AX) s s', Lv i q → step s (i, q) = .go s' → (-(2 ^ 61) ≤ i ∧ i < 2 ^ 61) ∧ ∀ r, r ∈ q.kids → Lv (i + 1) r) {y v : Nat} (hyB : y < B ∧ v < B ∧ ¬ S y ∧ ¬ S v) : ∀ (n : Nat) (q : AX) (i : Int) (s : σ) {m : Mem}, SizeOf.sizeOf q < n → Wf m → B ≤ m.next → I s m → m.heap.get l = some (L.obj .ready none) → Cel m y [.yield l] → Cel m v [pvF y v] → q.OK m → Lv i q → CallQ Tryz.prog fl 95 [iv i, (qv q), .ptr y 0, .ptr v 0] m (EndR l L S I J pe m (pvN step n i q s)) := by
 intro n
 induction n with
 | zero => intro q i s m h; omega
 | succ n ih =>
  intro q i s m hsz hw hBm hI hl hy hv hq hlv
  have llt : l < B := hR.low l hR.here
  refine hfl.start (by decide) 23 Tryz.func95 rfl rfl (Nat.le_of_ble_eq_true rfl) ?_
  intro bs hb
  have ar0 := hb 0 _ rfl
  have ar1 := hb 1 _ rfl
  have ar2 := hb 2 _ rfl
  have ar3 := hb 3 _ rfl
  clear hb
  have K0 : Kept (fun q => m.next ≤ q ∨ noS q) m m := Kept.refl hw
  have lty := hy.lt hw
  have ltv := hv.lt hw
  obtain ⟨⟨ey, hyr⟩, fy⟩ := hy
  obtain ⟨⟨ev, hvr⟩, fv⟩ := hv
  refine gg ?_
  refine s_new rfl rfl rfl rfl (o_box (e_base rfl ar0) rfl) (fun m1 g2 => ?_)
  have n3 := g2.next
  have K4 := K0.g g2
  refine s_new rfl rfl rfl rfl (o_alloc zc_4) (fun m5 g6 => ?_)
  have n7 := g6.next
  have K8 := K4.g g6
  refine gg ?_
  have h10 := hxM m5 y
  refine gg ?_
  have h11 := hxM m5 m.next
  refine gg ?_
  have kb : Kept (fun q => B ≤ q) m m5 := K8.out.mono (fun _ _ h => h.elim)
  refine s_yield hR (s := s) (x := (i, q)) rfl rfl rfl rfl (e_hit rfl) (me2 (e_hit rfl) (e_hit rfl)) K8.wf (by omega) (hR.stab s m _ hI kb) ⟨hq.kept kb, hlv⟩ ((kb.get l (by omega) (by show ¬ (B ≤ l); omega)).trans hl) ?_ ?_ ?_
  ·
   intro s' e m9 k9 hI9 hl9
   have n9 := k9.next
   have K9 : Kept (fun q => m.next ≤ q ∨ S q) m m9 := (K8.mono (fun q _ h => h.elim Or.inl (fun h => h.elim))).trans (k9.mono (fun q _ h => Or.inr h))
   refine gg ?_
   refine s_val rfl rfl rfl rfl (o_makeF rfl (me1 (e_hit rfl)) me0) ?_
   refine gg ?_
   have h12 := (k9.get y (by omega) hyB.2.2.1).trans h10
   have h14 := hxM m5 v
   have h15 := (k9.get v (by omega) hyB.2.2.2).trans h14
   have h16 := (k9.get m.next (by omega) (by intro h; have := hR.low _ h; omega)).trans h11
   have h17 := (k9.get m1.next (by omega) (by intro h; have := hR.low _ h; omega)).trans g6.same
   have f19 := fxM m5 y
   have f20 := (k9.fam y (by omega) hyB.2.2.1).trans f19
   have f22 := fxM m5 v
   have f23 := (k9.fam v (by omega) hyB.2.2.2).trans f22
   have f24 := fxM m5 m.next
   have f25 := (k9.fam m.next (by omega) (by intro h; have := hR.low _ h; omega)).trans f24
   have f26 := (k9.fam m1.next (by omega) (by intro h; have := hR.low _ h; omega)).trans (g6.fam0 K4.wf)
   obtain ⟨r4, er4⟩ : ∃ r, r = m.next := ⟨_, rfl⟩
   obtain ⟨r6, er6⟩ : ∃ r, r = m1.next := ⟨_, rfl⟩
   have c4 : Cel m9 r4 [iv i] := by rw [er4]; exact Cel.of h16 f25
   have c6 : Cel m9 r6 [.lit (.bool false)] := by rw [er6]; exact Cel.of h17 f26
   have cy : Cel m9 y [.yield l] := Cel.of h12 f20
   have cv : Cel m9 v [pvF y v] := Cel.of h15 f23
   refine Wp.gen (fun tm etm => ?_)
   have t3 : getT tm 3 = .ptr v 0 := eqb etm (e_base rfl ar3)
   have t4 : getT tm 4 = .ptr r4 0 := by rw [er4]; exact eqb etm (e_hit rfl)
   have t6 : getT tm 6 = .ptr r6 0 := by rw [er6]; exact eqb etm (e_hit rfl)
   have t15 : evalT tm (.tmp 15) = .func (.method "cabotage/scope.inside") [qv q] [] := eqb etm (e_hit rfl)
   have w9 := K9.wf
   have gA := grew m9 (.deferred (some []))
   obtain ⟨mA, eA⟩ : ∃ mA, mA = m9.new (.deferred (some [])) := ⟨_, rfl⟩
   rw [← eA] at gA
   have gB := grew mA (Lp.obj (⟨95, 23, tm, [16], cAt [true, true, false, true, false, false] (bodyF Tryz.f95), cAt [true, true, false, true, false, true] (bodyF Tryz.f95), m9.next⟩ : Lp) .ready none)
   obtain ⟨m3, e3⟩ : ∃ m3, m3 = mA.new (Lp.obj (⟨95, 23, tm, [16], cAt [true, true, false, true, false, false] (bodyF Tryz.f95), cAt [true, true, false, true, false, true] (bodyF Tryz.f95), m9.next⟩ : Lp) .ready none) := ⟨_, rfl⟩
   rw [← e3] at gB
   have KA := (Kept.refl (S := fun q => m9.next ≤ q ∨ noS q) w9).g gA
   have KB := KA.g gB
   have nA := gA.next
   have nB := gB.next
   have hm3 : loopM m9 ⟨95, 23, false, none⟩ tm (#[16] : Array Tmp).toList (cAt [true, true, false, true, false, false] (bodyF Tryz.f95)) (cAt [true, true, false, true, false, true] (bodyF Tryz.f95)) = m3 := by rw [e3, eA]; rfl
   have kb3 : Kept (fun q => B ≤ q) m9 m3 := KB.out.mono (fun _ _ h => h.elim)
   have ltr4 := c4.lt w9
   have ltr6 := c6.lt w9
   have gl2 : m3.heap.get (m9.next + 1) = some (Lp.obj (⟨95, 23, tm, [16], cAt [true, true, false, true, false, false] (bodyF Tryz.f95), cAt [true, true, false, true, false, true] (bodyF Tryz.f95), m9.next⟩ : Lp) .ready none) := by rw [← nA]; exact gB.same
   have gd : m3.heap.get m9.next = some (.deferred (some [])) := (gB.other _ (by omega)).trans gA.same
   have hI3 := hR.stab _ _ _ hI9 kb3
   have hl3 := (kb3.get l (by omega) (by show ¬ (B ≤ l); omega)).trans hl9
   have hbnd := hLv i q s s' hlv e
   have R2 := pv_round hfl hR hLv (n := n) (y := y) (v := v) ih (m3 := m3) (l2 := m9.next + 1) (d2 := m9.next) t3 t4 t6 (by omega) hbnd.1 (by omega) (by omega) (by omega) ⟨by omega, by omega, by omega⟩ ⟨by omega, by omega, by omega⟩ hyB (cy.kept KB.out (by omega) (fun h => h)) (cv.kept KB.out (by omega) (fun h => h)) (c4.kept KB.out (by omega) (fun h => h))
   have c63 := c6.kept KB.out ltr6 (fun h => h)
   have hq3 : q.OK m3 := (hq.kept K9).kept KB
   have hcall := inside_ok hfl R2 (fun q m m' h k => ⟨⟨h.1.1.kept k, h.1.2⟩, h.2⟩) (fun q m m' h k => ⟨⟨h.1.1.kept k, h.1.2⟩, h.2⟩) (fun q m h => h.1.1) (p := q) (s := s') (m := m3) hq3 KB.wf (Nat.le_refl _) ⟨hI3, hl3, Kept.refl KB.wf, c63⟩ gl2 (fun r hr => ⟨⟨hq3.kids' r hr, hbnd.2 r hr⟩, by have := ax_size' hr; omega⟩)
   have hg : callTarget Tryz.prog [] [qv q, .yield (m9.next + 1)] m3 (.fn (.method "cabotage/scope.inside") #[]) = .enter 211 [.agg q.cells, .yield (m9.next + 1)] m3 := by kernel_rfl
   have ev : pvN step (n + 1) i q s = foldSt (fun s q => pvN step n (i + 1) q s) s' q.kids := by simp only [pvN, e]
   rw [ev]
   have hg2 : callTarget Tryz.prog [] (appL [qv q] [.yield (m9.next + 1)]) (loopM m9 ⟨95, 23, false, none⟩ tm (#[16] : Array Tmp).toList (cAt [true, true, false, true, false, false] (bodyF Tryz.f95)) (cAt [true, true, false, true, false, true] (bodyF Tryz.f95))) (.fn (.method "cabotage/scope.inside") #[]) = .enter 211 [.agg q.cells, .yield (m9.next + 1)] m3 := by rw [hm3]; exact hg
   refine w_rangeF (args := [qv q]) rfl (by rw [t15]; rfl) hg2 hcall ?_ ?_
   ·
    intro vv u m4 hend
    cases hf : foldSt (fun s q => pvN step n (i + 1) q s) s' q.kids with
    | go z =>
     rw [hf] at hend
     obtain ⟨_, _, _, eq, k4, ⟨hI4, hl4, _, c64⟩, hl24⟩ := hend
     cases eq
     have n4 := k4.next
     refine w_after hl24 (by intro h; cases h) ?_
     have gC := wrote m4 (m9.next + 1) (Lp.obj (⟨95, 23, tm, [16], cAt [true, true, false, true, false, false] (bodyF Tryz.f95), cAt [true, true, false, true, false, true] (bodyF Tryz.f95), m9.next⟩ : Lp) .exhausted none)
     obtain ⟨m5, e5⟩ : ∃ m5, m5 = m4.put (m9.next + 1) (Lp.obj (⟨95, 23, tm, [16], cAt [true, true, false, true, false, false] (bodyF Tryz.f95), cAt [true, true, false, true, false, true] (bodyF Tryz.f95), m9.next⟩ : Lp) .exhausted none) := ⟨_, rfl⟩
     rw [← e5] at gC
     change Wp Tryz.prog fl (At _ _ (sets 23 tm []) _ _ _ (m4.put (m9.next + 1) (Lp.obj (⟨95, 23, tm, [16], cAt [true, true, false, true, false, false] (bodyF Tryz.f95), cAt [true, true, false, true, false, true] (bodyF Tryz.f95), m9.next⟩ : Lp) .exhausted none))) _
     rw [← e5]
     have gd4 := (k4.get m9.next (by omega) (by rintro (h | h | h); (have := hR.low _ h; omega); all_goals omega)).trans gd
     have gd5 := (gC.other m9.next (by omega)).trans gd4
     obtain ⟨⟨e6, h6r⟩, f6⟩ := c64
     have KM : Kept (fun q => m.next ≤ q ∨ S q) m m4 := (K9.then KB.out (fun _ _ h => h.elim)).then k4 (fun q hq h => by rcases h with h | h | h; exact Or.inr h; all_goals (exact Or.inl (by omega)))
     have KN := KM.w gC hl24 (fun _ h => by cases h) (Or.inl (by omega))
     have nC := gC.next
     have h6r5 := (gC.other r6 (by omega)).trans h6r
     have f65 := (gC.famo r6).trans f6
     have kc : Kept (fun q => B ≤ q) m4 m5 := Kept.wrote KM.wf gC hl24 (fun _ h => by cases h) (by show B ≤ m9.next + 1; omega)
     refine gg ?_
     refine s_put0 rfl rfl rfl (o_store rfl (e_base rfl t6) h6r5 f65 sz_4 rfl rfl rfl rfl) (fun m27 g28 => ?_)
     have n29 := g28.next
     have K30 := KN.w g28 h6r5 (fun _ h => by cases h) (Or.inl (by omega))
     refine gg ?_
     refine w_retAt rfl ?_
     have gdz := (g28.other m9.next (by omega)).trans gd5
     refine w_coll (by intro h; cases h) gdz ?_
     have gE := wrote m27 m9.next (.deferred none)
     obtain ⟨mE, eE⟩ : ∃ mE, mE = m27.put m9.next (.deferred none) := ⟨_, rfl⟩
     rw [← eE] at gE ⊢
     have KE := K30.w gE gdz (fun _ h => by cases h) (Or.inl (by omega))
     refine w_results Tryz.func95 (rvc1 (e_base rfl t6) (lv1 ((gE.other r6 (by omega)).trans g28.same) tg_4 sz_4 rfl rfl)) ?_
     have kE : Kept (fun q => B ≤ q) m4 mE := kc.trans (Kept.trans (Kept.wrote KN.wf g28 h6r5 (fun _ h => by cases h) (by show B ≤ r6; omega)) (Kept.wrote K30.wf gE gdz (fun _ h => by cases h) (by show B ≤ m9.next; omega)))
     exact ⟨_, _, rfl, KE.out, hR.stab _ _ _ hI4 kE, (kE.get l (by omega) (by show ¬ (B ≤ l); omega)).trans hl4⟩
    | stop z =>
     rw [hf] at hend
     obtain ⟨_, _, _, eq, k4, ⟨hI4, hl4, _, c64⟩, hl24⟩ := hend
     cases eq
     have n4 := k4.next
     refine w_after hl24 (by intro h; cases h) ?_
     have gC := wrote m4 (m9.next + 1) (Lp.obj (⟨95, 23, tm, [16], cAt [true, true, false, true, false, false] (bodyF Tryz.f95), cAt [true, true, false, true, false, true] (bodyF Tryz.f95), m9.next⟩ : Lp) .exhausted (some .ret))
     obtain ⟨m5, e5⟩ : ∃ m5, m5 = m4.put (m9.next + 1) (Lp.obj (⟨95, 23, tm, [16], cAt [true, true, false, true, false, false] (bodyF Tryz.f95), cAt [true, true, false, true, false, true] (bodyF Tryz.f95), m9.next⟩ : Lp) .exhausted (some .ret)) := ⟨_, rfl⟩
     rw [← e5] at gC
     change Wp Tryz.prog fl (At _ _ (sets 23 tm []) _ _ _ (m4.put (m9.next + 1) (Lp.obj (⟨95, 23, tm, [16], cAt [true, true, false, true, false, false] (bodyF Tryz.f95), cAt [true, true, false, true, false, true] (bodyF Tryz.f95), m9.next⟩ : Lp) .exhausted (some .ret)))) _
     rw [← e5]
     have gd4 := (k4.get m9.next (by omega) (by rintro (h | h | h); (have := hR.low _ h; omega); all_goals omega)).trans gd
     have gd5 := (gC.other m9.next (by omega)).trans gd4
     obtain ⟨⟨e6, h6r⟩, f6⟩ := c64
     have KM : Kept (fun q => m.next ≤ q ∨ S q) m m4 := (K9.then KB.out (fun _ _ h => h.elim)).then k4 (fun q hq h => by rcases h with h | h | h; exact Or.inr h; all_goals (exact Or.inl (by omega)))
     have KN := KM.w gC hl24 (fun _ h => by cases h) (Or.inl (by omega))
     have nC := gC.next
     have h6r5 := (gC.other r6 (by omega)).trans h6r
     have kc : Kept (fun q => B ≤ q) m4 m5 := Kept.wrote KM.wf gC hl24 (fun _ h => by cases h) (by show B ≤ m9.next + 1; omega)
     show Wp Tryz.prog fl (At _ (.code .ret :: _) _ _ _ _ _) _
     refine w_retAt rfl ?_
     have gdz := gd5
     refine w_coll (by intro h; cases h) gdz ?_
     have gE := wrote m5 m9.next (.deferred none)
     obtain ⟨mE, eE⟩ : ∃ mE, mE = m5.put m9.next (.deferred none) := ⟨_, rfl⟩
     rw [← eE] at gE ⊢
     have KE := KN.w gE gdz (fun _ h => by cases h) (Or.inl (by omega))
     refine w_results Tryz.func95 (rvc1 (e_base rfl t6) (lv1 ((gE.other r6 (by omega)).trans h6r5) tg_4 sz_4 rfl rfl)) ?_
     have kE : Kept (fun q => B ≤ q) m4 mE := kc.trans (Kept.wrote KN.wf gE gdz (fun _ h => by cases h) (by show B ≤ m9.next; omega))
     exact ⟨_, _, rfl, KE.out, hR.stabJ _ _ _ hI4 kE, (kE.get l (by omega) (by show ¬ (B ≤ l); omega)).trans hl4⟩
    | fail z => rw [hf] at hend; obtain ⟨_, _, eq, _⟩ := hend; cases eq
   ·
    intro c u m4 hend
    cases hf : foldSt (fun s q => pvN step n (i + 1) q s) s' q.kids with
    | go z => rw [hf] at hend; obtain ⟨_, _, _, eq, _⟩ := hend; cases eq
    | stop z => rw [hf] at hend; obtain ⟨_, _, _, eq, _⟩ := hend; cases eq
    | fail z =>
     rw [hf] at hend
     obtain ⟨_, _, eq, k4⟩ := hend
     cases eq
     have gd4 := (k4.get m9.next (by omega) (by rintro (h | h | h); (have := hR.low _ h; omega); all_goals omega)).trans gd
     have KM : Kept (fun q => m.next ≤ q ∨ S q) m m4 := (K9.then KB.out (fun _ _ h => h.elim)).then k4 (fun q hq h => by rcases h with h | h | h; exact Or.inr h; all_goals (exact Or.inl (by omega)))
     refine w_coll (by intro h; cases h) gd4 ?_
     have KE := KM.w (wrote m4 m9.next (.deferred none)) gd4 (fun _ h => by cases h) (Or.inl (by omega))
     refine w_panics ?_
     exact ⟨_, _, rfl, KE.out⟩
  ·
   intro t e m9 k9 hJ9 hl9
   have n9 := k9.next
   have K9 : Kept (fun q => m.next ≤ q ∨ S q) m m9 := (K8.mono (fun q _ h => h.elim Or.inl (fun h => h.elim))).trans (k9.mono (fun q _ h => Or.inr h))
   refine gg ?_
   have h31 := (k9.get m1.next (by omega) (by intro h; have := hR.low _ h; omega)).trans g6.same
   have f32 := (k9.fam m1.next (by omega) (by intro h; have := hR.low _ h; omega)).trans (g6.fam0 K4.wf)
   refine s_put0 rfl rfl rfl (o_store rfl (e_hit rfl) h31 f32 sz_4 rfl rfl rfl rfl) (fun m33 g34 => ?_)
   have n35 := g34.next
   have K36 := K9.w g34 h31 (fun _ h => by cases h) (Or.inl (by omega))
   refine gg ?_
   refine w_retAt rfl ?_
   refine w_results Tryz.func95 (rvc1 (e_hit rfl) (lv1 g34.same tg_4 sz_4 rfl rfl)) ?_
   rw [show pvN step (n + 1) i q s = .stop t from by simp only [pvN, e]]
   have kE : Kept (fun q => B ≤ q) m9 m33 := Kept.wrote K9.wf g34 h31 (fun _ h => by cases h) (by show B ≤ m1.next; omega)
   exact ⟨_, _, rfl, K36.out, hR.stabJ _ _ _ hJ9 kE, (kE.get l (by omega) (by show ¬ (B ≤ l); omega)).trans hl9⟩
  ·
   intro c e m9 k9
   have K9 : Kept (fun q => m.next ≤ q ∨ S q) m m9 := (K8.mono (fun q _ h => h.elim Or.inl (fun h => h.elim))).trans (k9.mono (fun q _ h => Or.inr h))
   refine w_panics ?_
   rw [show pvN step (n + 1) i q s = .fail c from by simp only [pvN, e]]; exact ⟨_, _, rfl, K9.out⟩
omit hfl in
theorem roundUp {P : Program} {fl : Fl} {σ τ X : Type} {l : Nat} {L : Lp} {S : Nat → Prop} {B B' : Nat} {I : σ → Mem → Prop} {J : τ → Mem → Prop} {pe : τ → Code} {enc : X → List AVal} {ok : X → Mem → Prop} {step : σ → X → St σ τ} (h : RoundOK P fl l L S B I J pe enc ok step) (hb : B ≤ B') : RoundOK P fl l L S B' I J pe enc ok step :=
 ⟨h.fn, h.len, h.here, fun q hq => Nat.lt_of_lt_of_le (h.low q hq) hb, fun s m m' hI k => h.stab s m m' hI (k.mono fun _q _ hq => Nat.le_trans hb hq), fun s m m' hI k => h.stabJ s m m' hI (k.mono fun _q _ hq => Nat.le_trans hb hq), fun s x m hw hB hI hok hl => h.round s x m hw (Nat.le_trans hb hB) hI hok hl⟩
theorem parts1_ok {σ τ : Type} {l : Nat} {L : Lp} {S : Nat → Prop} {B : Nat} {I : σ → Mem → Prop} {J : τ → Mem → Prop} {pe : τ → Code} {step : σ → Int × AX → St σ τ} {Lv : Int → AX → Prop} (hR : RoundOK Tryz.prog fl l L S B I J pe (fun x => [iv x.1, (qv x.2)]) (fun x m => x.2.OK m ∧ Lv x.1 x.2) step) (hLv : ∀ (i : Int) (q : AX) s s', Lv i q → step s (i, q) = .go s' → (-(2 ^ 61) ≤ i ∧ i < 2 ^ 61) ∧ ∀ r, r ∈ q.kids → Lv (i + 1) r) {n : Nat} (q : AX) {s : σ} {m : Mem} {bx : Nat} (hsz : SizeOf.sizeOf q < n) (hw : Wf m) (hB : B ≤ m.next) (hI : I s m) (hl : m.heap.get l = some (L.obj .ready none)) (hbx : Cel m bx [qv q]) (hq : q.OK m) (hlv : Lv 1 q) : CallQ Tryz.prog fl 94 [.yield l, .ptr bx 0] m (EndC l L S I J pe m (pvN step n 1 q s)) := by
 have llt : l < B := hR.low l hR.here
 refine hfl.start (by decide) 8 Tryz.func94 rfl rfl (Nat.le_of_ble_eq_true rfl) ?_
 intro bs hb
 have ar0 := hb 0 _ rfl
 have ar1 := hb 1 _ rfl
 clear hb
 have K0 : Kept (fun q => m.next ≤ q ∨ (noS) q) m m := Kept.refl hw
 have ltbx := hbx.lt hw
 obtain ⟨⟨ebx, hbx⟩, fbx⟩ := hbx
 refine gg ?_
 refine s_new rfl rfl rfl rfl (o_box (e_base rfl ar0) rfl) (fun m1 g2 => ?_)
 have n3 := g2.next
 have K4 := K0.g g2
 refine gg ?_
 refine s_new rfl rfl rfl rfl (o_alloc zc_263) (fun m5 g6 => ?_)
 have n7 := g6.next
 have K8 := K4.g g6
 refine gg ?_
 refine s_val rfl rfl rfl rfl (o_makeF rfl me0 (me2 (e_hit rfl) (e_hit rfl))) ?_
 refine s_put0 rfl rfl rfl (o_store (e_hit rfl) (e_hit rfl) g6.same (g6.fam0 K4.wf) sz_263 rfl rfl rfl rfl) (fun m9 g10 => ?_)
 have n11 := g10.next
 have K12 := K8.w g10 g6.same (fun _ h => by cases h) (Or.inl (by omega))
 refine gg ?_
 have h15 := hxM m9 bx
 have h17 := hxM m9 m.next
 have f19 := fxM m9 m.next
 have f20 := fxM m9 m1.next
 have kb : Kept (fun q => B ≤ q) m m9 := K12.out.mono (fun _ _ h => h.elim)
 have RU := roundUp hR (B' := m9.next) (by omega)
 refine s_callR rfl rfl rfl rfl (o_callF (e_hit rfl) (me2 rfl (e_hit rfl))) (pvisit_ok hfl RU hLv (y := m.next) (v := m1.next) ⟨by omega, by omega, (by intro h; have := hR.low _ h; omega), (by intro h; have := hR.low _ h; omega)⟩ n q 1 s hsz K12.wf (Nat.le_refl _) (hR.stab s m _ hI kb) ((kb.get l (by omega) (by show ¬ (B ≤ l); omega)).trans hl) (Cel.of h17 f19) (Cel.of g10.same f20) (hq.kept kb) hlv) ?_ ?_ ?_
 ·
  intro s' e m9 k9 hI9 hl9
  have K9 : Kept S m m9 := (K12.out.mono (fun _ _ h => h.elim)).trans k9
  refine gg ?_
  refine w_fall rfl ?_
  refine w_results Tryz.func94 rv0 ?_
  rw [e]; exact ⟨_, _, _, rfl, K9, hI9, hl9⟩
 ·
  intro t e m9 k9 hJ9 hl9
  have K9 : Kept S m m9 := (K12.out.mono (fun _ _ h => h.elim)).trans k9
  refine gg ?_
  refine w_fall rfl ?_
  refine w_results Tryz.func94 rv0 ?_
  rw [e]; exact ⟨_, _, _, rfl, K9, hJ9, hl9⟩
 ·
  intro c e m9 k9
  have K9 : Kept S m m9 := (K12.out.mono (fun _ _ h => h.elim)).trans k9
  refine w_panics ?_
  rw [e]; exact ⟨_, _, rfl, K9⟩
theorem parts_ok {m : Mem} (q : AX) (hw : Wf m) : CallQ Tryz.prog fl 57 [qv q] m (fun r => ∃ u m', r = .ret (.func (.func 94) [] [.ptr m.next 0]) u m' ∧ Kept noS m m' ∧ m.next < m'.next ∧ Cel m' m.next [qv q]) := by
 refine hfl.start (by decide) 4 Tryz.func57 rfl rfl (Nat.le_of_ble_eq_true rfl) ?_
 intro bs hb
 have ar0 := hb 0 _ rfl
 clear hb
 have K0 : Kept (fun q => m.next ≤ q ∨ (noS) q) m m := Kept.refl hw
 refine gg ?_
 refine s_new rfl rfl rfl rfl (o_box (e_base rfl ar0) rfl) (fun m21 g22 => ?_)
 have n23 := g22.next
 have K24 := K0.g g22
 refine gg ?_
 refine s_val rfl rfl rfl rfl (o_makeF rfl me0 (me1 (e_hit rfl))) ?_
 refine gg ?_
 refine w_retAt rfl ?_
 refine w_results Tryz.func57 (rv1 (e_hit rfl)) ?_
 refine ⟨_, _, rfl, K24.out, by omega, Cel.of (e := (150, 0)) (g22.same.trans ?_) (g22.fam0 K0.wf)⟩
 rfl
end
noncomputable section
theorem fit_244_258 : fits Tryz.prog 110 174 = some false := by kernel_rfl
theorem fit_258_258 : fits Tryz.prog 174 174 = some true := by kernel_rfl
theorem fit_244_244 : fits Tryz.prog 110 110 = some true := by kernel_rfl
theorem if_258 : isIfaceT Tryz.prog 174 = false := by kernel_rfl
theorem if_244 : isIfaceT Tryz.prog 110 = false := by kernel_rfl
def zv_244 : Value := (tzero Tryz.prog 110).getD .nilFunc
theorem tz_244 : tzero Tryz.prog 110 = some zv_244 := by kernel_rfl
def stepA (sz : Int) (s : Int) (x : Int × AX) : St Int Empty := bif decide (x.1 ≤ 12) && decide (s + 1 ≤ 60) then (bif exprB sz x.2.op x.2.n x.2.kids.length then .go (s + 1) else .fail unfC) else .fail unfC
theorem stepA_go {sz s s' : Int} {x : Int × AX} (h : stepA sz s x = .go s') : x.1 ≤ 12 ∧ s + 1 ≤ 60 ∧ exprB sz x.2.op x.2.n x.2.kids.length = true ∧ s' = s + 1 := by
 unfold stepA at h
 cases h1 : decide (x.1 ≤ 12) && decide (s + 1 ≤ 60) with
 | false => rw [h1] at h; cases h
 | true =>
  rw [h1, cond_true] at h
  rw [Bool.and_eq_true, decide_eq_true_eq, decide_eq_true_eq] at h1
  cases h2 : exprB sz x.2.op x.2.n x.2.kids.length with
  | false => rw [h2] at h; cases h
  | true => rw [h2, cond_true] at h; cases h; exact ⟨h1.1, h1.2, rfl, rfl⟩
theorem stepA_unf {sz s : Int} {x : Int × AX} {c : Chain} (h : stepA sz s x = .fail c) : c = unfC := by
 unfold stepA at h
 cases h1 : decide (x.1 ≤ 12) && decide (s + 1 ≤ 60) with
 | false => rw [h1] at h; cases h; rfl
 | true =>
  rw [h1, cond_true] at h
  cases h2 : exprB sz x.2.op x.2.n x.2.kids.length with
  | false => rw [h2] at h; cases h; rfl
  | true => rw [h2] at h; cases h
theorem pv_unf {σ : Type} {step : σ → Int × AX → St σ Empty} (hs : ∀ s x c, step s x = .fail c → c = unfC) : ∀ {n : Nat} {i : Int} {p : AX} {s : σ} {c : Chain}, pvN step n i p s = .fail c → c = unfC
 | 0, i, p, s, c, h => by cases h
 | n + 1, i, p, s, c, h => by
  rw [pvN] at h
  cases e : step s (i, p) with
  | go s' =>
   rw [e] at h
   dsimp only at h
   have key : ∀ (l : List AX) (s : σ), foldSt (fun s q => pvN step n (i + 1) q s) s l = .fail c → c = unfC := by
    intro l
    induction l with
    | nil => intro s h; cases h
    | cons q l ih =>
     intro s h
     rw [foldSt] at h
     cases e2 : pvN step n (i + 1) q s with
     | go s2 => rw [e2] at h; exact ih s2 h
     | stop t => exact t.elim
     | fail c' => rw [e2] at h; cases h; exact pv_unf hs e2
   exact key _ _ h
  | stop t => exact t.elim
  | fail c' => rw [e] at h; cases h; exact hs _ _ _ e
variable {fl : Fl} (hfl : Tab fl)
include hfl
theorem look_ex {m : Mem} {c : AVal} {sz : Int} {e : AX} (hs1 : 0 ≤ sz) (hs2 : sz ≤ 2 ^ 40) (hok : e.OK m) (hw : Wf m) : CallQ Tryz.prog fl 43 [c, qv e, iv sz] m (StepQ noS m (exprB sz e.op e.n e.kids.length) (fun _ => True)) := by
 have ha := ax_cells hok
 refine hfl.start (by decide) 25 Tryz.func43 rfl rfl (Nat.le_of_ble_eq_true rfl) ?_
 intro bs hb
 have ar0 := hb 0 _ rfl
 have ar1 := hb 1 _ rfl
 have ar2 := hb 2 _ rfl
 clear hb
 have K : Kept (fun q => m.next ≤ q ∨ noS q) m m := Kept.refl hw
 refine gg ?_
 refine s_val rfl rfl rfl rfl (o_assertF v0 fit_244_258 tz_244) ?_
 refine gg ?_
 refine s_val rfl rfl rfl rfl (o_assertT v0 fit_258_258 if_258) ?_
 refine gg ?_
 refine s_new rfl rfl rfl rfl (o_alloc ZcF.h) (fun m1 g => ?_)
 have n1 := g.next
 have h := g.same
 have f := g.fam0 K.wf
 have K := K.g g
 have oke := hok.kept K
 obtain ⟨op, nn, kv, kids⟩ := e
 have ha : allCells [iv op, iv nn, kv] = true := ha
 refine s_put0 rfl rfl rfl (o_store (v := .agg [iv op, iv nn, kv]) v0 v0 h f TyF.z rfl rfl ha rfl) (fun m2 g2 => ?_)
 have K := K.w g2 h (fun _ h => by cases h) (Or.inl (by omega))
 have f := (g2.famo m.next).trans f
 have h : m2.heap.get m.next = some (.row (174, 0) [iv op, iv nn, kv] m.next 0) := g2.same
 refine gg ?_
 refine s_val rfl rfl rfl rfl (o_loadRowA (off := 0) v0 h TyF.h (TyF.z (g := true)) (takeW rfl ha)) ?_
 refine gg ?_
 refine s_stepE K (Kept.refl (S := noS) K.wf) (o_calls (me3 v0 v0 v0)) (expression_ok hfl (e := .mk op nn kv kids) hs1 hs2 (hok.kept K) K.wf) (fun z m' K _ _ => ?_) (fun z m' K _ => ?_)
 ·refine gg ?_
  refine w_fall rfl ?_
  refine w_results Tryz.func43 rv0 ?_
  exact .inl ⟨z, _, _, rfl, K.out, trivial⟩
 ·refine w_panics ?_
  exact .inr ⟨z, _, _, rfl, K.out⟩
omit hfl in
def qn (e : ANode) : AVal := .iface 110 (.agg e.cells)
theorem look_nd {m : Mem} {c ws wk : Nat} {p : AProg} {sz : Int} {e : ANode} (hs1 : 0 ≤ sz) (hs2 : sz ≤ 2 ^ 40) (hc : Cel m c (chkC p ws wk)) (hp : p.OK m) (hok : e.OK m) (hw : Wf m) : CallQ Tryz.prog fl 43 [.ptr c 0, qn e, iv sz] m (StepQ noS m (nodeB p.defs.length sz e.op e.n e.args.length e.kids.length) (fun _ => True)) := by
 refine hfl.start (by decide) 25 Tryz.func43 rfl rfl (Nat.le_of_ble_eq_true rfl) ?_
 intro bs hb
 have ar0 := hb 0 _ rfl
 have ar1 := hb 1 _ rfl
 have ar2 := hb 2 _ rfl
 clear hb
 have K : Kept (fun q => m.next ≤ q ∨ noS q) m m := Kept.refl hw
 have ltc := hc.lt hw
 have hc0 := hc
 have c1 := hok.a.cell
 have c2 := hok.k.cell
 obtain ⟨op, nn, av, kv, args, kids⟩ := e
 have ha : allCells [iv op, iv nn, av, kv] = true := ac1 rfl (ac1 rfl (ac1 c1 (ac1 c2 rfl)))
 refine gg ?_
 refine s_val rfl rfl rfl rfl (o_assertT v0 fit_244_244 if_244) ?_
 refine gg ?_
 refine s_new rfl rfl rfl rfl (o_alloc ZcF.h) (fun m1 g => ?_)
 have n1 := g.next
 have h := g.same
 have f := g.fam0 K.wf
 have K := K.g g
 refine s_put0 rfl rfl rfl (o_store (v := .agg [iv op, iv nn, av, kv]) v0 v0 h f TyF.z rfl rfl ha rfl) (fun m2 g2 => ?_)
 have K := K.w g2 h (fun _ h => by cases h) (Or.inl (by omega))
 have f := (g2.famo m.next).trans f
 have h : m2.heap.get m.next = some (.row (110, 0) [iv op, iv nn, av, kv] m.next 0) := g2.same
 refine gg ?_
 refine s_val rfl rfl rfl rfl (o_loadRowA (off := 0) v0 h TyF.h (TyF.z (g := true)) (takeW rfl ha)) ?_
 refine gg ?_
 refine s_stepE K (Kept.refl (S := noS) K.wf) (o_calls (me3 v0 v0 v0)) (node_ok hfl (e := ⟨op, nn, av, kv, args, kids⟩) hs1 hs2 (hc0.kept K ltc (by rintro (h | h); omega; exact h)) (hp.kept K) (hok.kept K) K.wf) (fun z m' K _ _ => ?_) (fun z m' K _ => ?_)
 ·refine gg ?_
  refine w_fall rfl ?_
  refine w_results Tryz.func43 rv0 ?_
  exact .inl ⟨z, _, _, rfl, K.out, trivial⟩
 ·refine w_panics ?_
  exact .inr ⟨z, _, _, rfl, K.out⟩
end
noncomputable section
variable {fl : Fl} (hfl : Tab fl)
include hfl
omit hfl in
abbrev argL (tm : T AVal) (d0 : Nat) : Lp := ⟨44, 28, tm, [13, 14], cAt [true, true, true, false, false] (bodyF Tryz.f44), cAt [true, true, true, false, true] (bodyF Tryz.f44), d0⟩
theorem arg_round {m3 : Mem} {l r3 r5 r6 d0 cp : Nat} {sz : Int} {tm : T AVal} (t3 : getT tm 3 = .ptr r3 0) (t5 : getT tm 5 = .ptr r5 0) (t6 : getT tm 6 = .ptr r6 0) (hlt : l < m3.next ∧ r3 < m3.next ∧ r5 < m3.next ∧ r6 < m3.next) (hne : r6 ≠ l ∧ r3 ≠ r6 ∧ r3 ≠ l ∧ r5 ≠ r6 ∧ r5 ≠ l) (hs1 : 0 ≤ sz) (hs2 : sz ≤ 2 ^ 40) (h3 : Cel m3 r3 [.ptr cp 0]) (h5 : Cel m3 r5 [iv sz]) :
  RoundOK Tryz.prog fl l (argL tm d0) (fun q => q = r6 ∨ q = l) m3.next (fun (s : Int) m => Cel m r6 [iv s] ∧ (0 ≤ s ∧ s ≤ 60) ∧ Kept (fun q => q = r6 ∨ q = l) m3 m) (fun (_ : Empty) _ => False) (fun (_ : Empty) => Code.ret) (fun (x : Int × AX) => [iv x.1, qv x.2]) (fun (x : Int × AX) m => x.2.OK m ∧ 1 ≤ x.1) (stepA sz) := by
 refine ⟨by kernel_rfl, fun x => rfl, .inr rfl, ?_, ?_, (fun _ _ _ h => h.elim), ?_⟩
 ·rintro q (h | h) <;> omega
 ·rintro s m m' ⟨h1, h2, hk⟩ k
  have n3 := hk.next
  exact ⟨h1.kept k (by omega) (by show ¬ (m3.next ≤ r6); omega), h2, hk.then k (fun q hq h => by have : m3.next ≤ q := h; omega)⟩
 ·rintro st ⟨i, q⟩ m hw hBm ⟨hc, hrg, hk⟩ ⟨hq, hi⟩ hlr
  show Wp Tryz.prog fl (At ⟨44, 28, false, some l⟩ [.code (cAt [true, true, true, false, false] (bodyF Tryz.f44)), .beginRound, .code (cAt [true, true, true, false, true] (bodyF Tryz.f44))] (sets 28 tm [(14, qv q), (13, iv i)]) [] .run [] m) _
  have K : Kept (fun q => m.next ≤ q ∨ (fun q => q = r6 ∨ q = l) q) m m := Kept.refl hw
  have ltc := hc.lt hw
  have ltl := hw.lt hlr
  have n3 := hk.next
  have h3m := h3.kept hk (by omega) (by rintro (h | h) <;> omega)
  have h5m := h5.kept hk (by omega) (by rintro (h | h) <;> omega)
  obtain ⟨⟨ec, hcr⟩, fc⟩ := hc
  obtain ⟨⟨e3, h3r⟩, f3⟩ := h3m
  obtain ⟨⟨e5, h5r⟩, f5⟩ := h5m
  have b1 : -(2 ^ 62) ≤ st + 1 := by omega
  have b2 : st + 1 < 2 ^ 62 := by omega
  refine gg ?_
  refine w_begin rfl hlr ?_
  obtain ⟨m1, g2⟩ : ∃ m', Wrote m m' l ((argL tm d0).obj .busy none) ∧ m' = m.put l ((argL tm d0).obj .busy none) := ⟨_, wrote _ _ _, rfl⟩
  rw [show m.put l (.loop ⟨.busy, none, 44, 28, tm, [13, 14], cAt [true, true, true, false, false] (bodyF Tryz.f44), cAt [true, true, true, false, true] (bodyF Tryz.f44), d0⟩) = m1 from g2.2.symm]
  replace g2 := g2.1
  have n1 := g2.next
  have K := K.w g2 hlr (fun _ h => by cases h) (Or.inr (Or.inr rfl))
  have hcr := (g2.other r6 (by omega)).trans hcr
  have fc := (g2.famo r6).trans fc
  have h3r := (g2.other r3 (by omega)).trans h3r
  have h5r := (g2.other r5 (by omega)).trans h5r
  have hlr2 := g2.same
  refine gg ?_
  refine s_put0 rfl rfl rfl (o_store v0 (e_base rfl t6) hcr fc TyF.z rfl rfl rfl rfl) (fun m2 g => ?_)
  have n2 := g.next
  have K := K.w g hcr (fun _ h => by cases h) (Or.inr (Or.inl rfl))
  have fc := (g.famo r6).trans fc
  have hcr : m2.heap.get r6 = some (.row ec [iv (st + 1)] r6 0) := g.same
  have h3r := (g.other r3 (by omega)).trans h3r
  have h5r := (g.other r5 (by omega)).trans h5r
  have hlr2 := (g.other l (by omega)).trans hlr2
  have fin : ∀ {mm : Mem} (s : Int), Kept (fun q => m.next ≤ q ∨ (fun q => q = r6 ∨ q = l) q) m mm → mm.heap.get r6 = some (.row ec [iv s] r6 0) → mm.fams.get r6 = none → 0 ≤ s → s ≤ 60 → mm.heap.get l = some ((argL tm d0).obj .busy none) → EndR l (argL tm d0) (fun q => q = r6 ∨ q = l) (fun (s : Int) m => Cel m r6 [iv s] ∧ (0 ≤ s ∧ s ≤ 60) ∧ Kept (fun q => q = r6 ∨ q = l) m3 m) (fun (_ : Empty) _ => False) (fun (_ : Empty) => Code.ret) m (.go s) (.ret (.lit (.bool true)) [] (mm.put l ((argL tm d0).obj .ready none))) := by
   intro mm s K h f h0 h1 hb
   have gE := wrote mm l ((argL tm d0).obj .ready none)
   have KE := K.w gE hb (fun _ h => by cases h) (Or.inr (Or.inr rfl))
   exact ⟨_, _, rfl, KE.out, ⟨Cel.of ((gE.other r6 (by omega)).trans h) ((gE.famo r6).trans f), ⟨h0, h1⟩, hk.then KE.out (fun _ _ h => h)⟩, gE.same⟩
  refine gg ?_
  refine sg (fun c1 => ?_) (fun c1 => ?_)
  rotate_left
  ·refine gg ?_
   refine s_stepE K (Kept.refl (S := noS) K.wf) (o_calls (me1 v0)) (demand_ok hfl _ K.wf) (fun z m' K _ _ => ?_) (fun z m' K _ => ?_)
   ·cases z
   ·refine w_panics ?_
    rw [show stepA sz st (i, q) = .fail unfC from by unfold stepA; rw [show decide ((i, q).1 ≤ 12) = false from c1]; rfl]
    exact ⟨_, _, rfl, K.out⟩
  have c1 : decide (i ≤ 12) = true := c1
  refine gg ?_
  have kk := Kept.refl (S := noS) K.wf
  have l6 := K.wf.lt hcr
  have ll := K.wf.lt hlr2
  have l3 := K.wf.lt h3r
  have l5 := K.wf.lt h5r
  refine s_stepE K kk (o_calls (me1 v0)) (demand_ok hfl _ K.wf) (fun z m4 K kk _ => ?_) (fun z m4 K kk => ?_)
  rotate_left
  ·refine w_panics ?_
   rw [show stepA sz st (i, q) = .fail unfC from by unfold stepA; rw [show decide (st + 1 ≤ 60) = false from z, Bool.and_false]; rfl]
   exact ⟨_, _, rfl, K.out⟩
  have z : decide (st + 1 ≤ 60) = true := z
  have h3r4 := (kk.get _ l3 id).trans h3r
  have h5r4 := (kk.get _ l5 id).trans h5r
  refine gg ?_
  refine s_stepE K kk (o_calls (me3 v0 v0 v0)) (look_ex hfl hs1 hs2 (hq.kept K) K.wf) (fun w m5 K kk _ => ?_) (fun w m5 K kk => ?_)
  rotate_left
  ·refine w_panics ?_
   rw [show stepA sz st (i, q) = .fail unfC from by unfold stepA; rw [show decide ((i, q).1 ≤ 12) = true from c1, z, show exprB sz (i, q).2.op (i, q).2.n (i, q).2.kids.length = false from w]; rfl]
   exact ⟨_, _, rfl, K.out⟩
  refine gg ?_
  have hl5 := (kk.get _ ll id).trans hlr2
  refine w_roundEnd rfl hl5 ?_
  rw [show stepA sz st (i, q) = .go (st + 1) from by unfold stepA; rw [show decide ((i, q).1 ≤ 12) = true from c1, z, show exprB sz (i, q).2.op (i, q).2.n (i, q).2.kids.length = true from w]; rfl]
  exact fin (st + 1) K ((kk.get _ l6 id).trans hcr) ((kk.fam _ l6 id).trans fc) (by omega) (of_decide_eq_true z) hl5
omit hfl in
def argB (sz : Int) (e : AX) : Bool := match pvN (stepA sz) (SizeOf.sizeOf e + 1) 1 e 0 with
 | .go _ => true
 | .stop _ => false
 | .fail _ => false
theorem argument_ok {m : Mem} {cp : Nat} {sz : Int} {e : AX} (hs1 : 0 ≤ sz) (hs2 : sz ≤ 2 ^ 40) (hok : e.OK m) (hw : Wf m) : CallQ Tryz.prog fl 44 [.ptr cp 0, .agg e.cells, iv sz] m (StepQ noS m (argB sz e) (fun _ => True)) := by
 have ha0 := ax_cells hok
 refine hfl.start (by decide) 28 Tryz.func44 rfl rfl (Nat.le_of_ble_eq_true rfl) ?_
 intro bs hb
 have ar0 := hb 0 _ rfl
 have ar1 := hb 1 _ rfl
 have ar2 := hb 2 _ rfl
 clear hb
 have K : Kept (fun q => m.next ≤ q ∨ noS q) m m := Kept.refl hw
 refine gg ?_
 refine s_new rfl rfl rfl rfl (o_box (e_base rfl ar0) rfl) (fun m1 g => ?_)
 have n1 := g.next
 have h3 := g.same
 have f3 := g.fam0 K.wf
 have K := K.g g
 refine s_new rfl rfl rfl rfl (o_box (e_base rfl ar1) rfl) (fun m2 g => ?_)
 have n2 := g.next
 have h3 := (g.other m.next (by omega)).trans h3
 have f3 := (g.famo m.next).trans f3
 have h4 := g.same
 have K := K.g g
 refine s_new rfl rfl rfl rfl (o_box (e_base rfl ar2) rfl) (fun m3 g => ?_)
 have n3 := g.next
 have h3 := (g.other m.next (by omega)).trans h3
 have f3 := (g.famo m.next).trans f3
 have h4 := (g.other m1.next (by omega)).trans h4
 have h5 := g.same
 have f5 := g.fam0 K.wf
 have K := K.g g
 refine gg ?_
 refine s_new rfl rfl rfl rfl (o_alloc ZcF.h) (fun m4 g => ?_)
 have n4 := g.next
 have h3 := (g.other m.next (by omega)).trans h3
 have f3 := (g.famo m.next).trans f3
 have h4 := (g.other m1.next (by omega)).trans h4
 have h5 := (g.other m2.next (by omega)).trans h5
 have f5 := (g.famo m2.next).trans f5
 have h6 := g.same
 have f6 := g.fam0 K.wf
 have K := K.g g
 refine gg ?_
 refine s_put0 rfl rfl rfl (o_store rfl v0 h6 f6 TyF.z rfl rfl rfl rfl) (fun m5 g => ?_)
 have n5 := g.next
 have K := K.w g h6 (fun _ h => by cases h) (Or.inl (by omega))
 have h3 : m5.heap.get m.next = some (.row (103, 0) [.ptr cp 0] m.next 0) := (g.other m.next (by omega)).trans h3
 have f3 := (g.famo m.next).trans f3
 have h4 := (g.other m1.next (by omega)).trans h4
 have h5 : m5.heap.get m2.next = some (.row (3, 0) [iv sz] m2.next 0) := (g.other m2.next (by omega)).trans h5
 have f5 := (g.famo m2.next).trans f5
 have f6 := (g.famo m3.next).trans f6
 have h6 : m5.heap.get m3.next = some (.row (3, 0) [iv 0] m3.next 0) := g.same
 have oke := hok.kept K
 obtain ⟨op, nn, kv, kids⟩ := e
 have ha : allCells [iv op, iv nn, kv] = true := ha0
 have h4 : m5.heap.get m1.next = some (.row (112, 0) [iv op, iv nn, kv] m1.next 0) := h4
 refine gg ?_
 refine s_val rfl rfl rfl rfl (o_loadRowA (off := 0) v0 h4 TyF.h (TyF.z (g := true)) (takeW rfl ha)) ?_
 refine gg ?_
 refine s_val rfl rfl rfl rfl (o_makeI v0 co_258 rfl) ?_
 refine gg ?_
 refine s_call rfl rfl rfl rfl (o_calls (me1 v0)) (parts_ok hfl (.mk op nn kv kids) K.wf) ?_ (by rintro c u m' ⟨_, _, h, _⟩; cases h)
 rintro _ _ m6 ⟨_, _, hret, k6, lt6, hbx⟩
 cases hret
 have l3 := K.wf.lt h3
 have l5 := K.wf.lt h5
 have l6 := K.wf.lt h6
 have c3 : Cel m6 m.next [.ptr cp 0] := Cel.of ((k6.get _ l3 id).trans h3) ((k6.fam _ l3 id).trans f3)
 have c5 : Cel m6 m2.next [iv sz] := Cel.of ((k6.get _ l5 id).trans h5) ((k6.fam _ l5 id).trans f5)
 have c6 : Cel m6 m3.next [iv 0] := Cel.of ((k6.get _ l6 id).trans h6) ((k6.fam _ l6 id).trans f6)
 have K := K.k k6 (fun _ h => h.elim)
 refine gg ?_
 obtain ⟨r3, e3⟩ : ∃ r, r = m.next := ⟨_, rfl⟩
 obtain ⟨r5, e5⟩ : ∃ r, r = m2.next := ⟨_, rfl⟩
 obtain ⟨r6, e6⟩ : ∃ r, r = m3.next := ⟨_, rfl⟩
 obtain ⟨bx, ebx⟩ : ∃ r, r = m5.next := ⟨_, rfl⟩
 rw [← ebx] at hbx lt6
 rw [← e3] at c3
 rw [← e5] at c5
 rw [← e6] at c6
 refine Wp.gen (fun tm etm => ?_)
 have t3 : getT tm 3 = .ptr r3 0 := by rw [e3]; exact eqb etm v0
 have t5 : getT tm 5 = .ptr r5 0 := by rw [e5]; exact eqb etm v0
 have t6 : getT tm 6 = .ptr r6 0 := by rw [e6]; exact eqb etm v0
 have tf : evalT tm (.tmp 12) = .func (.func 94) [] [.ptr bx 0] := by rw [ebx]; exact eqb etm v0
 clear etm
 have wg := K.wf
 have gA := grew m6 (.deferred (some []))
 obtain ⟨mA, eA⟩ : ∃ mA, mA = m6.new (.deferred (some [])) := ⟨_, rfl⟩
 rw [← eA] at gA
 have gB := grew mA ((argL tm m6.next).obj .ready none)
 obtain ⟨mB, eB⟩ : ∃ mB, mB = mA.new ((argL tm m6.next).obj .ready none) := ⟨_, rfl⟩
 rw [← eB] at gB
 have KA := (Kept.refl (S := fun q => m6.next ≤ q ∨ noS q) wg).g gA
 have KB := KA.g gB
 have nA := gA.next
 have nB := gB.next
 have hmB : loopM m6 ⟨44, 28, false, none⟩ tm (#[13, 14] : Array Tmp).toList (cAt [true, true, true, false, false] (bodyF Tryz.f44)) (cAt [true, true, true, false, true] (bodyF Tryz.f44)) = mB := by rw [eB, eA]; rfl
 have n6 := k6.next
 have q3 := c3.lt wg
 have q5 := c5.lt wg
 have q6 := c6.lt wg
 have gl : mB.heap.get (m6.next + 1) = some ((argL tm m6.next).obj .ready none) := by rw [← nA]; exact gB.same
 have gd : mB.heap.get m6.next = some (.deferred (some [])) := (gB.other _ (by omega)).trans gA.same
 have R := arg_round hfl (m3 := mB) (l := m6.next + 1) (d0 := m6.next) (cp := cp) (sz := sz) t3 t5 t6 ⟨by omega, by omega, by omega, by omega⟩ ⟨by omega, by omega, by omega, by omega, by omega⟩ hs1 hs2 (c3.kept KB.out q3 id) (c5.kept KB.out q5 id)
 have hcall := parts1_ok hfl (Lv := fun i _ => 1 ≤ i) R (fun i q s s' h1 h2 => ⟨by have := (stepA_go h2).1; dsimp only at this; omega, fun r _ => by omega⟩) (n := SizeOf.sizeOf (AX.mk op nn kv kids) + 1) (.mk op nn kv kids) (s := 0) (m := mB) (bx := bx) (by omega) KB.wf (Nat.le_refl _) ⟨c6.kept KB.out q6 id, by decide, Kept.refl KB.wf⟩ gl (hbx.kept KB.out (by omega) id) (((hok.kept K)).kept KB) (by decide)
 have hg : callTarget Tryz.prog [.ptr bx 0] (appL [] [.yield (m6.next + 1)]) (loopM m6 ⟨44, 28, false, none⟩ tm (#[13, 14] : Array Tmp).toList (cAt [true, true, true, false, false] (bodyF Tryz.f44)) (cAt [true, true, true, false, true] (bodyF Tryz.f44))) (.fn (.func 94) #[]) = .enter 94 [.yield (m6.next + 1), .ptr bx 0] mB := by rw [hmB]; rfl
 have ea : ∀ b, (match pvN (stepA sz) (SizeOf.sizeOf (AX.mk op nn kv kids) + 1) 1 (.mk op nn kv kids) 0 with | .go _ => true | .stop _ => false | .fail _ => false) = b → argB sz (.mk op nn kv kids) = b := fun b h => h
 refine w_rangeF (args := []) rfl (by rw [tf]; rfl) hg hcall ?_ ?_
 ·intro vv u m7 hend
  cases hf : pvN (stepA sz) (SizeOf.sizeOf (AX.mk op nn kv kids) + 1) 1 (.mk op nn kv kids) 0 with
  | go z =>
   rw [hf] at hend ea
   obtain ⟨_, _, _, eq, k7, ⟨hc7, _, _⟩, hl7⟩ := hend
   cases eq
   refine w_after hl7 (by intro h; cases h) ?_
   have gC := wrote m7 (m6.next + 1) ((argL tm m6.next).obj .exhausted none)
   obtain ⟨m8, e8⟩ : ∃ m8, m8 = m7.put (m6.next + 1) ((argL tm m6.next).obj .exhausted none) := ⟨_, rfl⟩
   rw [← e8] at gC
   change Wp Tryz.prog fl (At _ _ (sets 28 tm []) _ _ _ (m7.put (m6.next + 1) ((argL tm m6.next).obj .exhausted none))) _
   rw [← e8]
   have gd7 := (gC.other m6.next (by omega)).trans ((k7.get m6.next (by omega) (by rintro (h | h) <;> omega)).trans gd)
   have KM := (K.then KB.out (fun _ _ h => h.elim)).then k7 (fun q hq h => Or.inl (by rcases h with h | h <;> omega))
   have KN := KM.w gC hl7 (fun _ h => by cases h) (Or.inl (by omega))
   refine gg ?_
   refine w_fall rfl ?_
   refine w_coll (by intro h; cases h) gd7 ?_
   have KE := KN.w (wrote m8 m6.next (.deferred none)) gd7 (fun _ h => by cases h) (Or.inl (by omega))
   refine w_results Tryz.func44 rv0 ?_
   exact .inl ⟨ea _ rfl, _, _, rfl, KE.out, trivial⟩
  | stop z => exact z.elim
  | fail z => rw [hf] at hend; obtain ⟨_, _, eq, _⟩ := hend; cases eq
 ·intro cx u m7 hend
  cases hf : pvN (stepA sz) (SizeOf.sizeOf (AX.mk op nn kv kids) + 1) 1 (.mk op nn kv kids) 0 with
  | go z => rw [hf] at hend; obtain ⟨_, _, _, eq, _⟩ := hend; cases eq
  | stop z => exact z.elim
  | fail z =>
   have hz := pv_unf (fun _ _ _ h => stepA_unf h) hf
   rw [hf] at hend ea
   obtain ⟨_, _, eq, k7⟩ := hend
   cases eq
   subst hz
   have gd7 := (k7.get m6.next (by omega) (by rintro (h | h) <;> omega)).trans gd
   have KM := (K.then KB.out (fun _ _ h => h.elim)).then k7 (fun q hq h => Or.inl (by rcases h with h | h <;> omega))
   refine w_coll (by intro h; cases h) gd7 ?_
   have KE := KM.w (wrote m7 m6.next (.deferred none)) gd7 (fun _ h => by cases h) (Or.inl (by omega))
   refine w_panics ?_
   exact .inr ⟨ea _ rfl, _, _, rfl, KE.out⟩
end
noncomputable section
def nilS : AVal := .lit (.slice none 0 0)
def dfAt (p : AProg) (n : Int) : ADf := p.defs.getD n.toNat ⟨nilS, nilS, nilS, [], [], []⟩
def ownD (p : AProg) (e : ANode) : ADf := if e.op = 4 then dfAt p e.n else ⟨nilS, nilS, nilS, [], [], []⟩
def moreD (d : ADf) : Int := Int.ofNat d.chans.length + Int.ofNat d.spots.length
def ownR (d : ADf) (r : ARule) : Int × Int := (r.node, moreD d + broughtF d.chans r.joins)
def ownL (d : ADf) (e : ANode) : List (Int × Int) := d.rules.map (ownR d) ++ (d.spots.map (fun s => (s.node, moreD d)) ++ e.kids.map (fun k => (k, moreD d)))
structure OwnOK (d : ADf) : Prop where
 c : ∀ c, c ∈ d.chans → 0 ≤ c.many ∧ c.many ≤ 3
 j : ∀ r, r ∈ d.rules → (∀ j, j ∈ r.joins → 0 ≤ j ∧ j < d.chans.length) ∧ r.joins.length ≤ 3
theorem nil_OK (m : Mem) : ADf.OK m ⟨nilS, nilS, nilS, [], [], []⟩ := ⟨.inl ⟨rfl, .inl rfl⟩, .inl ⟨rfl, .inl rfl⟩, .inl ⟨rfl, .inl rfl⟩, fun r h => by cases h⟩
theorem many_at {chans : List AChan} (h : ∀ c, c ∈ chans → 0 ≤ c.many ∧ c.many ≤ 3) (j : Int) : 0 ≤ (chAt chans j).many ∧ (chAt chans j).many ≤ 3 := by
 unfold chAt
 rw [List.getD_eq_getElem?_getD]
 cases hj : chans[j.toNat]? with
 | none => exact ⟨by decide, by decide⟩
 | some c => exact h c (List.mem_of_getElem? hj)
theorem brought_le {chans : List AChan} (h : ∀ c, c ∈ chans → 0 ≤ c.many ∧ c.many ≤ 3) : ∀ (l : List Int), 0 ≤ broughtF chans l ∧ broughtF chans l ≤ 3 * l.length
 | [] => ⟨Int.le_refl 0, Int.le_refl 0⟩
 | j :: l => by
  have h1 := brought_le h l
  have h2 := many_at h j
  have e : broughtF chans (j :: l) = (chAt chans j).many + broughtF chans l := by unfold broughtF; rw [List.map_cons, List.sum_cons]
  rw [e, List.length_cons]; omega
variable {fl : Fl} (hfl : Tab fl)
include hfl
section
variable {ok : Int × Int → Mem → Prop} {σ τ : Type} {l : Nat} {L : Lp} {S : Nat → Prop} {B : Nat} {I : σ → Mem → Prop} {J : τ → Mem → Prop} {pe : τ → Code} {step : σ → Int × Int → St σ τ}
theorem own_rules (hR : RoundOK Tryz.prog fl l L S B I J pe (fun x => [iv x.1, iv x.2]) ok step) (hok : ∀ q m m', ok q m → Kept (fun q => B ≤ q) m m' → ok q m') (hok' : ∀ q m m', ok q m → Kept S m m' → ok q m') {d : ADf} (hO : OwnOK d) {r4 nb : Nat} (h4 : B ≤ r4) (k : List AItem) {Q : RR → Prop} {up : Chain} : ∀ (rest pre : List ARule) (s : σ) {m : Mem} (b : T AVal), d.rules = pre ++ rest → Wf m → B ≤ m.next → I s m → m.heap.get l = some (L.obj .ready none) → d.OK m → Cel m r4 d.cells → (∀ q, q ∈ d.rules → ok (ownR d q) m) → getT b 0 = .yield l → getT b 1 = .ptr nb 0 → getT b 4 = .ptr r4 0 → getT b 5 = iv (moreD d) → getT b 30 = d.rv → getT b 31 = goI d.rules.length → getT b 32 = goI pre.length →
  (∀ (s' : σ) (m' : Mem) (b' : T AVal), foldSt step s (rest.map (ownR d)) = .go s' → Kept S m m' → I s' m' → m'.heap.get l = some (L.obj .ready none) → getT b' 0 = .yield l → getT b' 1 = .ptr nb 0 → getT b' 4 = .ptr r4 0 → getT b' 5 = iv (moreD d) → Wp Tryz.prog fl (At ⟨72, 74, false, none⟩ k b' [] .run up m') Q) →
  (∀ (t : τ) (m' : Mem) (b' : T AVal), foldSt step s (rest.map (ownR d)) = .stop t → Kept S m m' → J t m' → m'.heap.get l = some (L.obj .done (some (pe t))) → Wp Tryz.prog fl (At ⟨72, 74, false, none⟩ [] b' [] .returning up m') Q) →
  (∀ (c : Chain) (t' : List AItem) (m' : Mem) (b' : T AVal), foldSt step s (rest.map (ownR d)) = .fail c → Kept S m m' → Wp Tryz.prog fl (At ⟨72, 74, false, none⟩ t' b' [] (.panicking c) up m') Q) → Wp Tryz.prog fl (At ⟨72, 74, false, none⟩ (.code (cAt [true, true, true, false, true, false, false] (bodyF Tryz.f72)) :: .inLoop (cAt [true, true, true, false, true, false, false] (bodyF Tryz.f72)) :: .inBlock 0 :: k) (sets 74 b []) [] .run up m) Q := by
 intro rest
 induction rest with
 | nil =>
  intro pre s m b hsp hw hBm hI hl hd hc4 hall k0 k1 k4 k5 k30 k31 k32 hk hs hp
  have hlt : decide (Int.ofNat pre.length < Int.ofNat d.rules.length) = false := by rw [hsp]; simp
  refine gg ?_
  refine Wp.gen (fun b' eb => ?_)
  exact hk s _ b' rfl (Kept.refl hw) hI hl (eqb eb (e_base rfl k0)) (eqb eb (e_base rfl k1)) (eqb eb (e_base rfl k4)) (eqb eb (e_base rfl k5))
 | cons y rest ih =>
  intro pre s m b hsp hw hBm hI hl hd hc4 hall k0 k1 k4 k5 k30 k31 k32 hk hs hp
  have K : Kept (fun q => m.next ≤ q ∨ noS q) m m := Kept.refl hw
  have llt : l < B := hR.low l hR.here
  have hlt : decide (Int.ofNat pre.length < Int.ofNat d.rules.length) = true := by rw [hsp]; simp; omega
  have hsl := hd.r
  have hln := hsl.lnT hsp
  have hym : y ∈ d.rules := by simp [hsp]
  have hy := hd.j y hym
  have hyj : SlA m y.jv 1 (y.joins.map icells) := hy
  have cy := hyj.cell
  have c1 := hd.c.cell
  have c2 := hd.s.cell
  have c3 := hd.r.cell
  have lc := hd.c.lt
  have ls := hd.s.lt
  rw [List.length_map] at lc ls
  have hbr := brought_le hO.c y.joins
  have hyO := hO.j y hym
  have hc40 := hc4
  have l4 := hc4.lt hw
  obtain ⟨⟨e4, h4r⟩, f4⟩ := hc4
  have ac : allCells [d.cv, d.sv, d.rv] = true := ac1 c1 (ac1 c2 (ac1 c3 rfl))
  have ay : allCells [iv y.at_, y.jv, iv y.node] = true := ac1 rfl (ac1 cy (ac1 rfl rfl))
  have md : moreD d = (d.chans.length : Int) + (d.spots.length : Int) := rfl
  have b1 : -(2 ^ 62) ≤ moreD d + broughtF d.chans y.joins := by omega
  have b2 : moreD d + broughtF d.chans y.joins < 2 ^ 62 := by omega
  obtain ⟨r, off, c0, ex, row, hv, hlx, hr, htk⟩ := hsl.here hsp
  refine gg ?_
  refine s_val rfl rfl rfl rfl (o_indexAddr ((e_base rfl k30).trans hv) (e_base rfl k32) ElF.h hlx) ?_
  refine s_val rfl rfl rfl rfl (o_loadRoA v0 hr (TyF.h (s := _)) (TyF.z (g := true)) htk) ?_
  refine gg ?_
  refine s_new rfl rfl rfl rfl (o_alloc ZcF.h) (fun m1 g => ?_)
  have n1 := g.next
  have h := g.same
  have f := g.fam0 K.wf
  have K := K.g g
  have h4r := (g.other r4 (by omega)).trans h4r
  refine gg ?_
  refine s_put0 rfl rfl rfl (o_store (v := .agg [iv y.at_, y.jv, iv y.node]) v0 v0 h f TyF.z rfl rfl ay rfl) (fun m2 g2 => ?_)
  have n2 := g2.next
  have K := K.w g2 h (fun _ h => by cases h) (Or.inl (by omega))
  have f := (g2.famo m.next).trans f
  have h4r : m2.heap.get r4 = some (.row e4 [d.cv, d.sv, d.rv] r4 0) := (g2.other r4 (by omega)).trans h4r
  have h : m2.heap.get m.next = some (.row (120, 0) [iv y.at_, y.jv, iv y.node] m.next 0) := g2.same
  have kk := Kept.refl (S := noS) K.wf
  have lh := K.wf.lt h
  refine gg ?_
  refine w_draw (.L 0 0 0 (.L 1 0 0 (.L 2 2 1 (.L 3 0 0 (.L 4 0 1 (.L 5 0 1 (.H 6 48 3 (.L 7 120 0 (.H 8 255 3 (.L 9 511 0 .fin)))))))))) rfl (by kernel_rfl) ?_
  refine gg ?_
  refine d_light1 rfl rfl rfl rfl (o_loadRowA (off := 0) (e_base rfl k4) h4r TyF.h (TyF.z (g := true)) (takeW rfl ac)) ?_
  refine d_light1 rfl rfl rfl rfl (o_loadRowA (off := 0) v0 h TyF.h (TyF.z (g := true)) (takeW rfl ay)) ?_
  refine d_callE K kk (o_calls (me2 v0 v0)) (brought_ok hfl (d := d) (r := y) (hd.kept K) (hy.kept K) hO.c hyO.1 (by omega) K.wf) (lk_skip (by kernel_rfl) (lk_skip (by kernel_rfl) (lk_keep (by kernel_rfl) lk0))) (fun m3 K kk => ?_)
  refine ⟨(ck_skip (by kernel_rfl) (ck_skip (by kernel_rfl) (ck_one (o_loadRow v0 ((kk.get _ lh id).trans h) TyF.h TyF.z rfl rfl) (aq_int _ _) ck0))), ?_⟩
  have n3 := K.out.next
  have kb : Kept (fun q => B ≤ q) m m3 := K.out.mono (fun _ _ h => h.elim)
  refine gg ?_
  refine d_yield hR (s := s) (x := ownR d y) rfl rfl rfl rfl v0 (me2 v0 v0) K.wf (by omega) (hR.stab s m _ hI kb) (hok _ _ _ (hall _ hym) kb) ((K.out.get l (by omega) (fun h => h)).trans hl) (lk_skip (by kernel_rfl) lk0) ?_ ?_ ?_
  ·intro s' e m9 k9 hI9 hl9
   refine ⟨(ck_skip (by kernel_rfl) ck0), ?_⟩
   have n9 := k9.next
   have K9 : Kept S m m9 := (K.out.mono (fun _ _ h => h.elim)).trans k9
   refine gg ?_
   refine w_inLoop ?_
   refine Wp.gen (fun b' eb => ?_)
   exact ih (pre ++ [y]) s' b' (by simp only [List.append_assoc, List.singleton_append]; exact hsp) K9.wf (by have := K9.next; omega) hI9 hl9 (hd.kept K9) (hc40.kept K9 l4 (fun h => by have := hR.low _ h; omega)) (fun q hq => hok' _ _ _ (hall q hq) K9) (eqb eb (e_base rfl k0)) (eqb eb (e_base rfl k1)) (eqb eb (e_base rfl k4)) (eqb eb (e_base rfl k5)) (eqb eb (e_base rfl k30)) (eqb eb (e_base rfl k31)) (eqb eb ((e_hit rfl).trans (by rw [List.length_append]; rfl))) (fun st' m' b' h hk' => hk st' m' b' (by simp only [List.map_cons, foldSt, e]; exact h) (K9.trans hk')) (fun t m' b' h hk' => hs t m' b' (by simp only [List.map_cons, foldSt, e]; exact h) (K9.trans hk')) (fun c t' m' b' h hk' => hp c t' m' b' (by simp only [List.map_cons, foldSt, e]; exact h) (K9.trans hk'))
  ·intro t e m9 k9 hJ9 hl9
   refine ⟨(ck_skip (by kernel_rfl) ck0), ?_⟩
   have K9 : Kept S m m9 := (K.out.mono (fun _ _ h => h.elim)).trans k9
   refine gg ?_
   refine w_retAt rfl ?_
   exact hs t _ _ (by simp only [List.map_cons, foldSt, e]) K9 hJ9 hl9
  ·intro c e m9 k9
   have K9 : Kept S m m9 := (K.out.mono (fun _ _ h => h.elim)).trans k9
   exact hp c _ _ _ (by simp only [List.map_cons, foldSt, e]) K9
theorem own_spots (hR : RoundOK Tryz.prog fl l L S B I J pe (fun x => [iv x.1, iv x.2]) ok step) (hok : ∀ q m m', ok q m → Kept (fun q => B ≤ q) m m' → ok q m') (hok' : ∀ q m m', ok q m → Kept S m m' → ok q m') {mr : Int} {xv : AVal} {els : List ASpot} {r4 nb : Nat} (k : List AItem) {Q : RR → Prop} {up : Chain} : ∀ (rest pre : List ASpot) (s : σ) {m : Mem} (b : T AVal), els = pre ++ rest → Wf m → B ≤ m.next → I s m → m.heap.get l = some (L.obj .ready none) → SlA m xv 2 (els.map ASpot.cells) → (∀ q, q ∈ els → ok ((q.node, mr)) m) → getT b 0 = .yield l → getT b 1 = .ptr nb 0 → getT b 4 = .ptr r4 0 → getT b 5 = iv mr → getT b 48 = xv → getT b 49 = goI els.length → getT b 50 = goI pre.length →
  (∀ (s' : σ) (m' : Mem) (b' : T AVal), foldSt step s (rest.map (fun q => (q.node, mr))) = .go s' → Kept S m m' → I s' m' → m'.heap.get l = some (L.obj .ready none) → getT b' 0 = .yield l → getT b' 1 = .ptr nb 0 → getT b' 4 = .ptr r4 0 → getT b' 5 = iv mr → Wp Tryz.prog fl (At ⟨72, 74, false, none⟩ k b' [] .run up m') Q) →
  (∀ (t : τ) (m' : Mem) (b' : T AVal), foldSt step s (rest.map (fun q => (q.node, mr))) = .stop t → Kept S m m' → J t m' → m'.heap.get l = some (L.obj .done (some (pe t))) → Wp Tryz.prog fl (At ⟨72, 74, false, none⟩ [] b' [] .returning up m') Q) →
  (∀ (c : Chain) (t' : List AItem) (m' : Mem) (b' : T AVal), foldSt step s (rest.map (fun q => (q.node, mr))) = .fail c → Kept S m m' → Wp Tryz.prog fl (At ⟨72, 74, false, none⟩ t' b' [] (.panicking c) up m') Q) → Wp Tryz.prog fl (At ⟨72, 74, false, none⟩ (.code (cAt [true, true, true, true, false, true, false, false] (bodyF Tryz.f72)) :: .inLoop (cAt [true, true, true, true, false, true, false, false] (bodyF Tryz.f72)) :: .inBlock 2 :: k) (sets 74 b []) [] .run up m) Q := by
 have _ := hfl
 intro rest
 induction rest with
 | nil =>
  intro pre s m b hsp hw hBm hI hl hsl hall k0 k1 k4 k5 k30 k31 k32 hk hs hp
  have hlt : decide (Int.ofNat pre.length < Int.ofNat els.length) = false := by rw [hsp]; simp
  refine gg ?_
  refine Wp.gen (fun b' eb => ?_)
  exact hk s _ b' rfl (Kept.refl hw) hI hl (eqb eb (e_base rfl k0)) (eqb eb (e_base rfl k1)) (eqb eb (e_base rfl k4)) (eqb eb (e_base rfl k5))
 | cons y rest ih =>
  intro pre s m b hsp hw hBm hI hl hsl hall k0 k1 k4 k5 k30 k31 k32 hk hs hp
  have K : Kept (fun q => m.next ≤ q ∨ noS q) m m := Kept.refl hw
  have llt : l < B := hR.low l hR.here
  have hlt : decide (Int.ofNat pre.length < Int.ofNat els.length) = true := by rw [hsp]; simp; omega
  have hln := hsl.lnT hsp
  have hym : y ∈ els := by simp [hsp]
  obtain ⟨r, off, c0, ex, row, hv, hlx, hr, htk⟩ := hsl.here hsp
  refine gg ?_
  refine s_val rfl rfl rfl rfl (o_indexAddr ((e_base rfl k30).trans hv) (e_base rfl k32) ElF.h hlx) ?_
  refine s_val rfl rfl rfl rfl (o_loadRoA v0 hr (TyF.h (s := _)) (TyF.z (g := true)) htk) ?_
  refine gg ?_
  refine s_new rfl rfl rfl rfl (o_alloc ZcF.h) (fun m1 g => ?_)
  have n1 := g.next
  have h := g.same
  have f := g.fam0 K.wf
  have K := K.g g
  refine gg ?_
  refine s_put0 rfl rfl rfl (o_store v0 v0 h f TyF.z rfl rfl rfl rfl) (fun m2 g2 => ?_)
  have K := K.w g2 h (fun _ h => by cases h) (Or.inl (by omega))
  have h : m2.heap.get m.next = some (.row (117, 0) [iv y.inn, iv y.node] m.next 0) := g2.same
  have n3 := K.out.next
  have kb : Kept (fun q => B ≤ q) m _ := K.out.mono (fun _ _ h => h.elim)
  refine gg ?_
  refine s_yield hR (s := s) (x := (y.node, mr)) rfl rfl rfl rfl v0 (me2 v0 v0) K.wf (by omega) (hR.stab s m _ hI kb) (hok _ _ _ (hall _ hym) kb) ((K.out.get l (by omega) (fun h => h)).trans hl) ?_ ?_ ?_
  ·intro s' e m9 k9 hI9 hl9
   have n9 := k9.next
   have K9 : Kept S m m9 := (K.out.mono (fun _ _ h => h.elim)).trans k9
   refine gg ?_
   refine w_inLoop ?_
   refine Wp.gen (fun b' eb => ?_)
   exact ih (pre ++ [y]) s' b' (by simp only [List.append_assoc, List.singleton_append]; exact hsp) K9.wf (by have := K9.next; omega) hI9 hl9 (hsl.kept K9) (fun q hq => hok' _ _ _ (hall q hq) K9) (eqb eb (e_base rfl k0)) (eqb eb (e_base rfl k1)) (eqb eb (e_base rfl k4)) (eqb eb (e_base rfl k5)) (eqb eb (e_base rfl k30)) (eqb eb (e_base rfl k31)) (eqb eb ((e_hit rfl).trans (by rw [List.length_append]; rfl))) (fun st' m' b' h hk' => hk st' m' b' (by simp only [List.map_cons, foldSt, e]; exact h) (K9.trans hk')) (fun t m' b' h hk' => hs t m' b' (by simp only [List.map_cons, foldSt, e]; exact h) (K9.trans hk')) (fun c t' m' b' h hk' => hp c t' m' b' (by simp only [List.map_cons, foldSt, e]; exact h) (K9.trans hk'))
  ·intro t e m9 k9 hJ9 hl9
   have K9 : Kept S m m9 := (K.out.mono (fun _ _ h => h.elim)).trans k9
   refine gg ?_
   refine w_retAt rfl ?_
   exact hs t _ _ (by simp only [List.map_cons, foldSt, e]) K9 hJ9 hl9
  ·intro c e m9 k9
   have K9 : Kept S m m9 := (K.out.mono (fun _ _ h => h.elim)).trans k9
   exact hp c _ _ _ (by simp only [List.map_cons, foldSt, e]) K9
theorem own_kids (hR : RoundOK Tryz.prog fl l L S B I J pe (fun x => [iv x.1, iv x.2]) ok step) (hok : ∀ q m m', ok q m → Kept (fun q => B ≤ q) m m' → ok q m') (hok' : ∀ q m m', ok q m → Kept S m m' → ok q m') {mr : Int} {xv : AVal} {els : List Int} {r4 nb : Nat} (k : List AItem) {Q : RR → Prop} {up : Chain} : ∀ (rest pre : List Int) (s : σ) {m : Mem} (b : T AVal), els = pre ++ rest → Wf m → B ≤ m.next → I s m → m.heap.get l = some (L.obj .ready none) → SlA m xv 1 (els.map icells) → (∀ q, q ∈ els → ok ((q, mr)) m) → getT b 0 = .yield l → getT b 1 = .ptr nb 0 → getT b 4 = .ptr r4 0 → getT b 5 = iv mr → getT b 62 = xv → getT b 63 = goI els.length → getT b 64 = goI pre.length →
  (∀ (s' : σ) (m' : Mem) (b' : T AVal), foldSt step s (rest.map (fun q => (q, mr))) = .go s' → Kept S m m' → I s' m' → m'.heap.get l = some (L.obj .ready none) → getT b' 0 = .yield l → getT b' 1 = .ptr nb 0 → getT b' 4 = .ptr r4 0 → getT b' 5 = iv mr → Wp Tryz.prog fl (At ⟨72, 74, false, none⟩ k b' [] .run up m') Q) →
  (∀ (t : τ) (m' : Mem) (b' : T AVal), foldSt step s (rest.map (fun q => (q, mr))) = .stop t → Kept S m m' → J t m' → m'.heap.get l = some (L.obj .done (some (pe t))) → Wp Tryz.prog fl (At ⟨72, 74, false, none⟩ [] b' [] .returning up m') Q) →
  (∀ (c : Chain) (t' : List AItem) (m' : Mem) (b' : T AVal), foldSt step s (rest.map (fun q => (q, mr))) = .fail c → Kept S m m' → Wp Tryz.prog fl (At ⟨72, 74, false, none⟩ t' b' [] (.panicking c) up m') Q) → Wp Tryz.prog fl (At ⟨72, 74, false, none⟩ (.code (cAt [true, true, true, true, true, true, false, false] (bodyF Tryz.f72)) :: .inLoop (cAt [true, true, true, true, true, true, false, false] (bodyF Tryz.f72)) :: .inBlock 4 :: k) (sets 74 b []) [] .run up m) Q := by
 have _ := hfl
 intro rest
 induction rest with
 | nil =>
  intro pre s m b hsp hw hBm hI hl hsl hall k0 k1 k4 k5 k30 k31 k32 hk hs hp
  have hlt : decide (Int.ofNat pre.length < Int.ofNat els.length) = false := by rw [hsp]; simp
  refine gg ?_
  refine Wp.gen (fun b' eb => ?_)
  exact hk s _ b' rfl (Kept.refl hw) hI hl (eqb eb (e_base rfl k0)) (eqb eb (e_base rfl k1)) (eqb eb (e_base rfl k4)) (eqb eb (e_base rfl k5))
 | cons y rest ih =>
  intro pre s m b hsp hw hBm hI hl hsl hall k0 k1 k4 k5 k30 k31 k32 hk hs hp
  have K : Kept (fun q => m.next ≤ q ∨ noS q) m m := Kept.refl hw
  have llt : l < B := hR.low l hR.here
  have hlt : decide (Int.ofNat pre.length < Int.ofNat els.length) = true := by rw [hsp]; simp; omega
  have hln := hsl.lnT hsp
  have hym : y ∈ els := by simp [hsp]
  obtain ⟨r, off, c0, ex, row, hv, hlx, hr, htk⟩ := hsl.here hsp
  refine gg ?_
  refine s_val rfl rfl rfl rfl (o_indexAddr ((e_base rfl k30).trans hv) (e_base rfl k32) ElF.h hlx) ?_
  refine s_val rfl rfl rfl rfl (o_loadRo1 v0 hr TyF.h TyF.z (by rw [Nat.mul_one] at htk ⊢; exact htk)) ?_
  have n3 := K.out.next
  have kb : Kept (fun q => B ≤ q) m _ := K.out.mono (fun _ _ h => h.elim)
  refine gg ?_
  refine s_yield hR (s := s) (x := (y, mr)) rfl rfl rfl rfl v0 (me2 v0 v0) K.wf (by omega) (hR.stab s m _ hI kb) (hok _ _ _ (hall _ hym) kb) ((K.out.get l (by omega) (fun h => h)).trans hl) ?_ ?_ ?_
  ·intro s' e m9 k9 hI9 hl9
   have n9 := k9.next
   have K9 : Kept S m m9 := (K.out.mono (fun _ _ h => h.elim)).trans k9
   refine gg ?_
   refine w_inLoop ?_
   refine Wp.gen (fun b' eb => ?_)
   exact ih (pre ++ [y]) s' b' (by simp only [List.append_assoc, List.singleton_append]; exact hsp) K9.wf (by have := K9.next; omega) hI9 hl9 (hsl.kept K9) (fun q hq => hok' _ _ _ (hall q hq) K9) (eqb eb (e_base rfl k0)) (eqb eb (e_base rfl k1)) (eqb eb (e_base rfl k4)) (eqb eb (e_base rfl k5)) (eqb eb (e_base rfl k30)) (eqb eb (e_base rfl k31)) (eqb eb ((e_hit rfl).trans (by rw [List.length_append]; rfl))) (fun st' m' b' h hk' => hk st' m' b' (by simp only [List.map_cons, foldSt, e]; exact h) (K9.trans hk')) (fun t m' b' h hk' => hs t m' b' (by simp only [List.map_cons, foldSt, e]; exact h) (K9.trans hk')) (fun c t' m' b' h hk' => hp c t' m' b' (by simp only [List.map_cons, foldSt, e]; exact h) (K9.trans hk'))
  ·intro t e m9 k9 hJ9 hl9
   have K9 : Kept S m m9 := (K.out.mono (fun _ _ h => h.elim)).trans k9
   refine gg ?_
   refine w_retAt rfl ?_
   exact hs t _ _ (by simp only [List.map_cons, foldSt, e]) K9 hJ9 hl9
  ·intro c e m9 k9
   have K9 : Kept S m m9 := (K.out.mono (fun _ _ h => h.elim)).trans k9
   exact hp c _ _ _ (by simp only [List.map_cons, foldSt, e]) K9
end
end
noncomputable section
theorem at_of {α : Type} {f : α → List AVal} {m : Mem} {v : AVal} {size : Nat} {els : List α} (h : SlA m v size (els.map f)) {i : Nat} (hi : i < els.length) : ∃ r off c ex row, v = .slice r off els.length c ex ∧ m.heap.get r = some (.ro row) ∧ takeN size (dropN row (off + i * size)) = some (f els[i]) := by
 obtain ⟨r, off, c, ex, row, h1, h2, h3, h4⟩ := h.at (i := i) (e := f els[i]) (by rw [List.getElem?_map, List.getElem?_eq_getElem hi]; rfl)
 rw [List.length_map] at h1
 exact ⟨r, off, c, ex, row, h1, h3, h4⟩
theorem dfAt_eq {p : AProg} {i : Nat} (hi : i < p.defs.length) : dfAt p (Int.ofNat i) = p.defs[i] := by
 unfold dfAt
 rw [show (Int.ofNat i).toNat = i from rfl, List.getD_eq_getElem?_getD, List.getElem?_eq_getElem hi]; rfl
theorem ownD_OK {m : Mem} {p : AProg} (hp : p.OK m) (e : ANode) (h : e.op = 4 → 0 ≤ e.n ∧ e.n < p.defs.length) : (ownD p e).OK m := by
 unfold ownD
 by_cases h4 : e.op = 4
 ·rw [if_pos h4]
  obtain ⟨h0, h1⟩ := h h4
  have hl : e.n.toNat < p.defs.length := by omega
  unfold dfAt
  rw [List.getD_eq_getElem?_getD, List.getElem?_eq_getElem hl]
  exact hp.do_ _ (List.getElem_mem hl)
 ·rw [if_neg h4]; exact nil_OK m
variable {fl : Fl} (hfl : Tab fl)
include hfl
section
variable {ok : Int × Int → Mem → Prop} {σ τ : Type} {l : Nat} {L : Lp} {S : Nat → Prop} {B : Nat} {I : σ → Mem → Prop} {J : τ → Mem → Prop} {pe : τ → Code} {step : σ → Int × Int → St σ τ}
theorem own_rest (hR : RoundOK Tryz.prog fl l L S B I J pe (fun x => [iv x.1, iv x.2]) ok step) (hok : ∀ q m m', ok q m → Kept (fun q => B ≤ q) m m' → ok q m') (hok' : ∀ q m m', ok q m → Kept S m m' → ok q m') {d : ADf} {e : ANode} (hO : OwnOK d) {r4 nb : Nat} (h4 : B ≤ r4) (hnb : ¬ S nb) {s : σ} {m0 m : Mem} (K : Kept (fun q => m0.next ≤ q ∨ noS q) m0 m) (_hB : B ≤ m0.next) (hI : I s m) (hl : m.heap.get l = some (L.obj .ready none)) (hd : d.OK m) (he : e.OK m) (hc4 : Cel m r4 d.cells) (hcn : Cel m nb e.cells) (hall : ∀ q, q ∈ ownL d e → ok q m) {b : T AVal} (k0 : getT b 0 = .yield l) (k1 : getT b 1 = .ptr nb 0) (k4 : getT b 4 = .ptr r4 0) :
  Wp Tryz.prog fl (At ⟨72, 74, false, none⟩ [.code (cAt [true, true] (bodyF Tryz.f72))] (sets 74 b []) [] .run [] m) (EndC l L S I J pe m0 (foldSt step s (ownL d e))) := by
 have c1 := hd.c.cell
 have c2 := hd.s.cell
 have c3 := hd.r.cell
 have l1 := hd.c.lenM
 have l2 := hd.s.lenM
 have l3 := hd.r.lenM
 have lc := hd.c.lt
 have ls := hd.s.lt
 rw [List.length_map] at lc ls
 have hBm := K.out.next
 have K0 : Kept S m0 m := K.out.mono (fun _ _ h => h.elim)
 have hc40 := hc4
 have q4 := hc4.lt K.wf
 have qn := hcn.lt K.wf
 obtain ⟨⟨e4, h4r⟩, f4⟩ := hc4
 have h4r : m.heap.get r4 = some (.row e4 [d.cv, d.sv, d.rv] r4 0) := h4r
 have md : moreD d = (d.chans.length : Int) + (d.spots.length : Int) := rfl
 have b1 : -(2 ^ 62) ≤ Int.ofNat d.chans.length + Int.ofNat d.spots.length := by have : Int.ofNat d.chans.length + Int.ofNat d.spots.length = moreD d := rfl; omega
 have b2 : Int.ofNat d.chans.length + Int.ofNat d.spots.length < 2 ^ 62 := by have : Int.ofNat d.chans.length + Int.ofNat d.spots.length = moreD d := rfl; omega
 have eL : foldSt step s (ownL d e) = match foldSt step s (d.rules.map (ownR d)) with | .go s' => (match foldSt step s' (d.spots.map (fun s => (s.node, moreD d))) with | .go s'' => foldSt step s'' (e.kids.map (fun k => (k, moreD d))) | .stop t => .stop t | .fail c => .fail c) | .stop t => .stop t | .fail c => .fail c := by
  unfold ownL
  rw [foldSt_append]
  cases foldSt step s (d.rules.map (ownR d)) with
  | go s' => exact foldSt_append _ _ _ _
  | stop t => rfl
  | fail c => rfl
 rw [eL]
 refine gg ?_
 refine w_loop ?_
 refine Wp.gen (fun b0 eb => ?_)
 refine own_rules hfl hR hok hok' hO h4 _ d.rules [] s b0 rfl K.wf (by omega) hI hl hd hc40 (fun q hq => hall _ (by unfold ownL; exact List.mem_append.2 (.inl (List.mem_map_of_mem hq)))) (eqb eb (e_base rfl k0)) (eqb eb (e_base rfl k1)) (eqb eb (e_base rfl k4)) (eqb eb v0) (eqb eb v0) (eqb eb v0) (eqb eb v0) (fun s1 m1 b1' e1 k1' hI1 hl1 q0 q1 q4' q5 => ?_) (fun t m1 b1' e1 k1' hJ1 hl1 => ?_) (fun c t' m1 b1' e1 k1' => ?_)
 rotate_left
 ·change Wp Tryz.prog fl (At _ _ (sets 74 b1' []) _ _ _ _) _
  refine w_results Tryz.func72 rv0 ?_
  rw [e1]; exact ⟨_, _, _, rfl, K0.trans k1', hJ1, hl1⟩
 ·refine w_panics ?_
  rw [e1]; exact ⟨_, _, rfl, K0.trans k1'⟩
 rw [e1]
 dsimp only
 have hd1 := hd.kept k1'
 have he1 := he.kept k1'
 have hc41 := hc40.kept k1' q4 (fun h => by have := hR.low _ h; omega)
 have hcn1 := hcn.kept k1' qn hnb
 have K1 := K0.trans k1'
 have n1 := k1'.next
 change Wp Tryz.prog fl (At _ _ (sets 74 b1' []) _ _ _ _) _
 obtain ⟨⟨e41, h41⟩, f41⟩ := id hc41
 have h41 : m1.heap.get r4 = some (.row e41 [d.cv, d.sv, d.rv] r4 0) := h41
 refine gg ?_
 refine w_loop ?_
 refine Wp.gen (fun b0 eb => ?_)
 refine own_spots hfl (r4 := r4) (nb := nb) hR hok hok' _ d.spots [] s1 b0 rfl k1'.wf (by omega) hI1 hl1 hd1.s (fun q hq => hok' _ _ _ (hall _ (by unfold ownL; exact List.mem_append.2 (.inr (List.mem_append.2 (.inl (List.mem_map_of_mem (f := fun s : ASpot => (s.node, moreD d)) hq)))))) k1') (eqb eb (e_base rfl q0)) (eqb eb (e_base rfl q1)) (eqb eb (e_base rfl q4')) (eqb eb (e_base rfl q5)) (eqb eb v0) (eqb eb v0) (eqb eb v0) (fun s2 m2 b2' e2 k2 hI2 hl2 q0 q1 q4' q5 => ?_) (fun t m2 b2' e2 k2 hJ2 hl2 => ?_) (fun c t' m2 b2' e2 k2 => ?_)
 rotate_left
 ·change Wp Tryz.prog fl (At _ _ (sets 74 b2' []) _ _ _ _) _
  refine w_results Tryz.func72 rv0 ?_
  rw [e2]; exact ⟨_, _, _, rfl, K1.trans k2, hJ2, hl2⟩
 ·refine w_panics ?_
  rw [e2]; exact ⟨_, _, rfl, K1.trans k2⟩
 rw [e2]
 dsimp only
 have he2 := he1.kept k2
 have hcn2 := hcn1.kept k2 (by omega) hnb
 have K2 := K1.trans k2
 have n2 := k2.next
 have ck := he2.k.cell
 have lk := he2.k.lenM
 change Wp Tryz.prog fl (At _ _ (sets 74 b2' []) _ _ _ _) _
 obtain ⟨⟨en, hn⟩, fn⟩ := hcn2
 have hn : m2.heap.get nb = some (.row en [iv e.op, iv e.n, e.av, e.kv] nb 0) := hn
 refine gg ?_
 refine w_loop ?_
 refine Wp.gen (fun b0 eb => ?_)
 refine own_kids hfl (r4 := r4) (nb := nb) hR hok hok' _ e.kids [] s2 b0 rfl k2.wf (by omega) hI2 hl2 he2.k (fun q hq => hok' _ _ _ (hok' _ _ _ (hall _ (by unfold ownL; exact List.mem_append.2 (.inr (List.mem_append.2 (.inr (List.mem_map_of_mem (f := fun k : Int => (k, moreD d)) hq)))))) k1') k2) (eqb eb (e_base rfl q0)) (eqb eb (e_base rfl q1)) (eqb eb (e_base rfl q4')) (eqb eb (e_base rfl q5)) (eqb eb v0) (eqb eb v0) (eqb eb v0) (fun s3 m3 b3' e3 k3 hI3 hl3 q0 q1 q4' q5 => ?_) (fun t m3 b3' e3 k3 hJ3 hl3 => ?_) (fun c t' m3 b3' e3 k3 => ?_)
 ·change Wp Tryz.prog fl (At _ _ (sets 74 b3' []) _ _ _ _) _
  refine w_fall rfl ?_
  refine w_results Tryz.func72 rv0 ?_
  rw [e3]; exact ⟨_, _, _, rfl, K2.trans k3, hI3, hl3⟩
 ·change Wp Tryz.prog fl (At _ _ (sets 74 b3' []) _ _ _ _) _
  refine w_results Tryz.func72 rv0 ?_
  rw [e3]; exact ⟨_, _, _, rfl, K2.trans k3, hJ3, hl3⟩
 ·refine w_panics ?_
  rw [e3]; exact ⟨_, _, rfl, K2.trans k3⟩
theorem own1_ok (hR : RoundOK Tryz.prog fl l L S B I J pe (fun x => [iv x.1, iv x.2]) ok step) (hok : ∀ q m m', ok q m → Kept (fun q => B ≤ q) m m' → ok q m') (hok' : ∀ q m m', ok q m → Kept S m m' → ok q m') {p : AProg} {e : ANode} (hN : e.op = 4 → 0 ≤ e.n ∧ e.n < p.defs.length) (hO : OwnOK (ownD p e)) {nb pb : Nat} (hnb : ¬ S nb) {s : σ} {m : Mem} (hw : Wf m) (hB : B ≤ m.next) (hI : I s m) (hl : m.heap.get l = some (L.obj .ready none)) (hp : p.OK m) (he : e.OK m) (hcn : Cel m nb e.cells) (hcp : Cel m pb p.cells) (hall : ∀ q, q ∈ ownL (ownD p e) e → ok q m) : CallQ Tryz.prog fl 72 [.yield l, .ptr nb 0, .ptr pb 0] m (EndC l L S I J pe m (foldSt step s (ownL (ownD p e) e))) := by
 have llt : l < B := hR.low l hR.here
 have hD := ownD_OK hp e hN
 refine hfl.start (by decide) 74 Tryz.func72 rfl rfl (Nat.le_of_ble_eq_true rfl) ?_
 intro bs hb
 have ar0 := hb 0 _ rfl
 have ar1 := hb 1 _ rfl
 have ar2 := hb 2 _ rfl
 clear hb
 have K : Kept (fun q => m.next ≤ q ∨ noS q) m m := Kept.refl hw
 have qn := hcn.lt hw
 have qp := hcp.lt hw
 have hcn0 := hcn
 have cd := hp.d.cell
 obtain ⟨⟨en, hnr⟩, fn⟩ := hcn
 obtain ⟨⟨ep, hpr⟩, fp⟩ := hcp
 refine gg ?_
 refine s_new rfl rfl rfl rfl (o_alloc ZcF.h) (fun m1 g => ?_)
 have n1 := g.next
 have h := g.same
 have f := g.fam0 K.wf
 have K := K.g g
 have hnr : m1.heap.get nb = some (.row en [iv e.op, iv e.n, e.av, e.kv] nb 0) := (g.other nb (by omega)).trans hnr
 have hpr : m1.heap.get pb = some (.row ep [p.fv, p.nv, p.dv, iv p.main] pb 0) := (g.other pb (by omega)).trans hpr
 refine gg ?_
 refine w_cond v0 (fun z => ?_) (fun z => ?_)
 ·have z := eq_of_beq z
  obtain ⟨h0, h1⟩ := hN z
  obtain ⟨i, ei⟩ : ∃ i : Nat, e.n = Int.ofNat i := ⟨e.n.toNat, by show e.n = (e.n.toNat : Int); omega⟩
  have hi : i < p.defs.length := by have h : (i : Int) < (p.defs.length : Int) := (by rw [ei] at h1; exact h1); omega
  obtain ⟨r, off, c, ex, row, hv, hr, ht⟩ := at_of hp.d hi
  have eD : ownD p e = p.defs[i] := by unfold ownD; rw [if_pos z, ei, dfAt_eq hi]
  have hD2 := hD
  rw [eD] at hD2
  have ac : allCells (ADf.cells p.defs[i]) = true := ac1 hD2.c.cell (ac1 hD2.s.cell (ac1 hD2.r.cell rfl))
  refine gg ?_
  refine s_val rfl rfl rfl rfl (o_indexAddr ((e_hit rfl).trans hv) ((e_hit rfl).trans (congrArg iv ei)) ElF.h hi) ?_
  refine s_val rfl rfl rfl rfl (o_loadRoA v0 (K.ro _ _ hr) (TyF.h (s := _)) (TyF.z (g := true)) ht) ?_
  refine s_put0 rfl rfl rfl (o_store (v := .agg (ADf.cells p.defs[i])) v0 v0 h f TyF.z rfl rfl ac rfl) (fun m2 g2 => ?_)
  have n2 := g2.next
  have K := K.w g2 h (fun _ h => by cases h) (Or.inl (by omega))
  have f := (g2.famo m.next).trans f
  have h : m2.heap.get m.next = some (.row (66, 0) (ADf.cells p.defs[i]) m.next 0) := g2.same
  rw [← eD] at h
  have kb : Kept (fun q => B ≤ q) m m2 := K.out.mono (fun _ _ h => h.elim)
  refine gr ?_
  refine q_nil ?_
  refine Wp.gen (fun b' eb => ?_)
  exact own_rest hfl hR hok hok' (d := ownD p e) (e := e) hO (r4 := m.next) (nb := nb) (by omega) hnb K hB (hR.stab s m _ hI kb) ((kb.get l (by omega) (by show ¬ (B ≤ l); omega)).trans hl) (hD.kept K) (he.kept K) (Cel.of h f) (hcn0.kept K qn (by rintro (h | h); omega; exact h)) (fun q hq => hok _ _ _ (hall q hq) kb) (eqb eb (e_base rfl ar0)) (eqb eb (e_base rfl ar1)) (eqb eb v0)
 ·have z := ne_of_beq_false z
  have eD : ownD p e = ⟨nilS, nilS, nilS, [], [], []⟩ := by unfold ownD; rw [if_neg z]
  have h : m1.heap.get m.next = some (.row (66, 0) (ADf.cells (ownD p e)) m.next 0) := by rw [eD]; exact h
  have kb : Kept (fun q => B ≤ q) m m1 := K.out.mono (fun _ _ h => h.elim)
  refine w_skip ?_
  refine Wp.gen (fun b' eb => ?_)
  exact own_rest hfl hR hok hok' (d := ownD p e) (e := e) hO (r4 := m.next) (nb := nb) (by omega) hnb K hB (hR.stab s m _ hI kb) ((kb.get l (by omega) (by show ¬ (B ≤ l); omega)).trans hl) (hD.kept K) (he.kept K) (Cel.of h f) (hcn0.kept K qn (by rintro (h | h); omega; exact h)) (fun q hq => hok _ _ _ (hall q hq) kb) (eqb eb (e_base rfl ar0)) (eqb eb (e_base rfl ar1)) (eqb eb v0)
end
theorem own_ok {m : Mem} {p : AProg} {e : ANode} (hw : Wf m) : CallQ Tryz.prog fl 41 [.agg p.cells, .agg e.cells] m (fun r => ∃ u m', r = .ret (.func (.func 72) [] [.ptr (m.next + 1) 0, .ptr m.next 0]) u m' ∧ Kept noS m m' ∧ m.next + 1 < m'.next ∧ Cel m' m.next p.cells ∧ Cel m' (m.next + 1) e.cells) := by
 refine hfl.start (by decide) 6 Tryz.func41 rfl rfl (Nat.le_of_ble_eq_true rfl) ?_
 intro bs hb
 have ar0 := hb 0 _ rfl
 have ar1 := hb 1 _ rfl
 clear hb
 have K : Kept (fun q => m.next ≤ q ∨ noS q) m m := Kept.refl hw
 refine gg ?_
 refine s_new rfl rfl rfl rfl (o_box (e_base rfl ar0) rfl) (fun m1 g => ?_)
 have n1 := g.next
 have h1 := g.same
 have f1 := g.fam0 K.wf
 have K := K.g g
 refine s_new rfl rfl rfl rfl (o_box (e_base rfl ar1) rfl) (fun m2 g => ?_)
 have n2 := g.next
 have h2 := g.same
 have f2 := g.fam0 K.wf
 have h1 := (g.other m.next (by omega)).trans h1
 have f1 := (g.famo m.next).trans f1
 have K := K.g g
 refine gg ?_
 refine s_val rfl rfl rfl rfl (o_makeF (fn := .func 72) (fs := []) (cs := [.ptr m1.next 0, .ptr m.next 0]) rfl rfl (me2 v0 v0)) ?_
 refine gg ?_
 refine w_retAt rfl ?_
 refine w_results Tryz.func41 (rv1 v0) ?_
 rw [n1] at h2 f2 ⊢
 exact ⟨_, _, rfl, K.out, by omega, Cel.of h1 f1, Cel.of h2 f2⟩
end
end Go.Proofs.YtmbeijhnjaadhaaGreat
