/- A part of the proof of TermChecks. -/
import Derived.Test.YtjefckdgpbdpeaaGreatTb
import Derived.Test.YtjefckdgpbdpeaaGreatAbsM
namespace Go.Proofs.YtjefckdgpbdpeaaGreat
open Go Go.Abs
open Go.RowKit (Below)
set_option maxRecDepth 10000
noncomputable section
variable {fl : Fl} (hfl : Tab fl)
include hfl
theorem below_ok {σ τ : Type} {l : Nat} {L : Lp} {S : Nat → Prop} {B : Nat} {I : σ → Mem → Prop} {J : τ → Mem → Prop} {pe : τ → Code} {step : σ → Part → St σ τ} {ok : Part → Mem → Prop} (hR : RoundOK Tryz.prog fl l L S B I J pe (fun q => [q.val]) ok step) (hok : ∀ q m m', ok q m → Kept (fun q => B ≤ q) m m' → ok q m') (hok' : ∀ q m m', ok q m → Kept S m m' → ok q m') (hokc : ∀ q m, ok q m → q.OK m) {s : σ} {m : Mem} (p : Part) (hp : p.OK m) (hw : Wf m) (hB : B ≤ m.next) (hI : I s m) (hl : m.heap.get l = some (L.obj .ready none)) (hall : ∀ q, q ∈ p.subs → ok q m) (M : Mem) :
  ∃ g, callTarget Tryz.prog [] [p.val, .yield l] M (.fn (.method "cabotage/term.below") #[]) = .enter g [.agg p.cells, .yield l] M ∧ CallQ Tryz.prog fl g [.agg p.cells, .yield l] m (EndC l L S I J pe m (foldSt step s p.subs)) := by
 cases p with
 | ex e =>
  cases hp with
  | mk h1 h2 => exact ⟨205, by kernel_rfl, below_ex hfl h1 hR hok hok' hokc hB hI hl _ rfl hall hw⟩
 | cl c =>
  cases hp with
  | mk h1 h2 h3 h4 h5 h6 => exact ⟨208, by kernel_rfl, below_cl hfl h1.cell h2 h3 hR hok hok' hokc hB hI hl _ rfl hall hw⟩
 | tm t =>
  cases hp with
  | mk h1 h2 h3 h4 h5 h6 => exact ⟨202, by kernel_rfl, below_tm hfl h1 h2 h3 hR hok hok' hokc hB hI hl _ rfl hall hw⟩
theorem visit_ok {σ τ : Type} {l : Nat} {L : Lp} {S : Nat → Prop} {B : Nat} {I : σ → Mem → Prop} {J : τ → Mem → Prop} {pe : τ → Code} {step : σ → Int × Part → St σ τ} {Lv : Int → Part → Prop} (hR : RoundOK Tryz.prog fl l L S B I J pe (fun x => [iv x.1, x.2.val]) (fun x m => x.2.OK m ∧ Lv x.1 x.2) step) (hLv : ∀ (i : Int) (q : Part) s s', Lv i q → step s (i, q) = .go s' → (-(2 ^ 61) ≤ i ∧ i < 2 ^ 61) ∧ ∀ r, r ∈ q.subs → Lv (i + 1) r) {y v : Nat} (hyB : y < B ∧ v < B ∧ ¬ S y ∧ ¬ S v) : ∀ (n : Nat) (q : Part) (i : Int) (s : σ) {m : Mem}, SizeOf.sizeOf q < n → Wf m → B ≤ m.next → I s m → m.heap.get l = some (L.obj .ready none) → Cel m y [.yield l] → Cel m v [visF y v] → q.OK m → Lv i q → CallQ Tryz.prog fl 135 [iv i, q.val, .ptr y 0, .ptr v 0] m (EndR l L S I J pe m (visN step n i q s)) := by
 intro n
 induction n with
 | zero => intro q i s m h; omega
 | succ n ih =>
  intro q i s m hsz hw hBm hI hl hy hv hq hlv
  have llt : l < B := hR.low l hR.here
  refine hfl.start (by decide) 23 Tryz.func135 rfl rfl (Nat.le_of_ble_eq_true rfl) ?_
  intro bs hb
  have ar0 := hb 0 _ rfl
  have ar1 := hb 1 _ rfl
  have ar2 := hb 2 _ rfl
  have ar3 := hb 3 _ rfl
  clear hb
  have K0 : Kept (fun q => m.next ≤ q ∨ noS q) m m := Kept.refl hw
  have lty := hy.lt hw
  have ltv := hv.lt hw
  obtain ⟨⟨ey, hyr⟩, fy⟩ := hy
  obtain ⟨⟨ev, hvr⟩, fv⟩ := hv
  refine gg ?_
  refine s_new rfl rfl rfl rfl (o_box (e_base rfl ar0) rfl) (fun m1 g2 => ?_)
  have n3 := g2.next
  have K4 := K0.g g2
  refine s_new rfl rfl rfl rfl (o_alloc zc_4) (fun m5 g6 => ?_)
  have n7 := g6.next
  have K8 := K4.g g6
  refine gg ?_
  have h10 := hxM m5 y
  refine gg ?_
  have h11 := hxM m5 m.next
  refine gg ?_
  have kb : Kept (fun q => B ≤ q) m m5 := K8.out.mono (fun _ _ h => h.elim)
  refine s_yield hR (s := s) (x := (i, q)) rfl rfl rfl rfl (e_hit rfl) (me2 (e_hit rfl) (e_hit rfl)) K8.wf (by omega) (hR.stab s m _ hI kb) ⟨hq.kept kb, hlv⟩ ((kb.get l (by omega) (by show ¬ (B ≤ l); omega)).trans hl) ?_ ?_ ?_
  ·
   intro s' e m9 k9 hI9 hl9
   have n9 := k9.next
   have K9 : Kept (fun q => m.next ≤ q ∨ S q) m m9 := (K8.mono (fun q _ h => h.elim Or.inl (fun h => h.elim))).trans (k9.mono (fun q _ h => Or.inr h))
   refine gg ?_
   refine s_val rfl rfl rfl rfl (o_nilCheck (e_hit rfl) (by cases q <;> rfl)) ?_
   refine s_val rfl rfl rfl rfl (o_makeF rfl (me1 (e_hit rfl)) me0) ?_
   refine gg ?_
   have h12 := (k9.get y (by omega) hyB.2.2.1).trans h10
   have h14 := hxM m5 v
   have h15 := (k9.get v (by omega) hyB.2.2.2).trans h14
   have h16 := (k9.get m.next (by omega) (by intro h; have := hR.low _ h; omega)).trans h11
   have h17 := (k9.get m1.next (by omega) (by intro h; have := hR.low _ h; omega)).trans g6.same
   have f19 := fxM m5 y
   have f20 := (k9.fam y (by omega) hyB.2.2.1).trans f19
   have f22 := fxM m5 v
   have f23 := (k9.fam v (by omega) hyB.2.2.2).trans f22
   have f24 := fxM m5 m.next
   have f25 := (k9.fam m.next (by omega) (by intro h; have := hR.low _ h; omega)).trans f24
   have f26 := (k9.fam m1.next (by omega) (by intro h; have := hR.low _ h; omega)).trans (g6.fam0 K4.wf)
   obtain ⟨r4, er4⟩ : ∃ r, r = m.next := ⟨_, rfl⟩
   obtain ⟨r6, er6⟩ : ∃ r, r = m1.next := ⟨_, rfl⟩
   have c4 : Cel m9 r4 [iv i] := by rw [er4]; exact Cel.of h16 f25
   have c6 : Cel m9 r6 [.lit (.bool false)] := by rw [er6]; exact Cel.of h17 f26
   have cy : Cel m9 y [.yield l] := Cel.of h12 f20
   have cv : Cel m9 v [visF y v] := Cel.of h15 f23
   refine Wp.gen (fun tm etm => ?_)
   have t3 : getT tm 3 = .ptr v 0 := eqb etm (e_base rfl ar3)
   have t4 : getT tm 4 = .ptr r4 0 := by rw [er4]; exact eqb etm (e_hit rfl)
   have t6 : getT tm 6 = .ptr r6 0 := by rw [er6]; exact eqb etm (e_hit rfl)
   have t15 : evalT tm (.tmp 15) = .func (.method "cabotage/term.below") [q.val] [] := eqb etm (e_hit rfl)
   have w9 := K9.wf
   have gA := grew m9 (.deferred (some []))
   obtain ⟨mA, eA⟩ : ∃ mA, mA = m9.new (.deferred (some [])) := ⟨_, rfl⟩
   rw [← eA] at gA
   have gB := grew mA (Lp.obj (⟨135, 23, tm, [16], cAt [true, true, false, true, false, false] (bodyF Tryz.f135), cAt [true, true, false, true, false, true] (bodyF Tryz.f135), m9.next⟩ : Lp) .ready none)
   obtain ⟨m3, e3⟩ : ∃ m3, m3 = mA.new (Lp.obj (⟨135, 23, tm, [16], cAt [true, true, false, true, false, false] (bodyF Tryz.f135), cAt [true, true, false, true, false, true] (bodyF Tryz.f135), m9.next⟩ : Lp) .ready none) := ⟨_, rfl⟩
   rw [← e3] at gB
   have KA := (Kept.refl (S := fun q => m9.next ≤ q ∨ noS q) w9).g gA
   have KB := KA.g gB
   have nA := gA.next
   have nB := gB.next
   have hm3 : loopM m9 ⟨135, 23, false, none⟩ tm (#[16] : Array Tmp).toList (cAt [true, true, false, true, false, false] (bodyF Tryz.f135)) (cAt [true, true, false, true, false, true] (bodyF Tryz.f135)) = m3 := by rw [e3, eA]; rfl
   have kb3 : Kept (fun q => B ≤ q) m9 m3 := KB.out.mono (fun _ _ h => h.elim)
   have ltr4 := c4.lt w9
   have ltr6 := c6.lt w9
   have gl2 : m3.heap.get (m9.next + 1) = some (Lp.obj (⟨135, 23, tm, [16], cAt [true, true, false, true, false, false] (bodyF Tryz.f135), cAt [true, true, false, true, false, true] (bodyF Tryz.f135), m9.next⟩ : Lp) .ready none) := by rw [← nA]; exact gB.same
   have gd : m3.heap.get m9.next = some (.deferred (some [])) := (gB.other _ (by omega)).trans gA.same
   have hI3 := hR.stab _ _ _ hI9 kb3
   have hl3 := (kb3.get l (by omega) (by show ¬ (B ≤ l); omega)).trans hl9
   have hbnd := hLv i q s s' hlv e
   have R2 := vis_round hfl hR hLv (n := n) (y := y) (v := v) ih (m3 := m3) (l2 := m9.next + 1) (d2 := m9.next) t3 t4 t6 (by omega) hbnd.1 (by omega) (by omega) (by omega) ⟨by omega, by omega, by omega⟩ ⟨by omega, by omega, by omega⟩ hyB (cy.kept KB.out (by omega) (fun h => h)) (cv.kept KB.out (by omega) (fun h => h)) (c4.kept KB.out (by omega) (fun h => h))
   have c63 := c6.kept KB.out ltr6 (fun h => h)
   have hq3 : q.OK m3 := (hq.kept K9).kept KB
   obtain ⟨g, hg, hcall⟩ := below_ok hfl R2 (fun q m m' h k => ⟨⟨h.1.1.kept k, h.1.2⟩, h.2⟩) (fun q m m' h k => ⟨⟨h.1.1.kept k, h.1.2⟩, h.2⟩) (fun q m h => h.1.1) (s := s') (m := m3) q hq3 KB.wf (Nat.le_refl _) ⟨hI3, hl3, Kept.refl KB.wf, c63⟩ gl2 (fun r hr => ⟨⟨hq3.subs r hr, hbnd.2 r hr⟩, by have := subs_size hr; omega⟩) m3
   have ev : visN step (n + 1) i q s = foldSt (fun s q => visN step n (i + 1) q s) s' q.subs := by simp only [visN, e]
   rw [ev]
   have hg2 : callTarget Tryz.prog [] (appL [q.val] [.yield (m9.next + 1)]) (loopM m9 ⟨135, 23, false, none⟩ tm (#[16] : Array Tmp).toList (cAt [true, true, false, true, false, false] (bodyF Tryz.f135)) (cAt [true, true, false, true, false, true] (bodyF Tryz.f135))) (.fn (.method "cabotage/term.below") #[]) = .enter g [.agg q.cells, .yield (m9.next + 1)] m3 := by rw [hm3]; exact hg
   refine w_rangeF (args := [q.val]) rfl (by rw [t15]; rfl) hg2 hcall ?_ ?_
   ·
    intro vv u m4 hend
    cases hf : foldSt (fun s q => visN step n (i + 1) q s) s' q.subs with
    | go z =>
     rw [hf] at hend
     obtain ⟨_, _, _, eq, k4, ⟨hI4, hl4, _, c64⟩, hl24⟩ := hend
     cases eq
     have n4 := k4.next
     refine w_after hl24 (by intro h; cases h) ?_
     have gC := wrote m4 (m9.next + 1) (Lp.obj (⟨135, 23, tm, [16], cAt [true, true, false, true, false, false] (bodyF Tryz.f135), cAt [true, true, false, true, false, true] (bodyF Tryz.f135), m9.next⟩ : Lp) .exhausted none)
     obtain ⟨m5, e5⟩ : ∃ m5, m5 = m4.put (m9.next + 1) (Lp.obj (⟨135, 23, tm, [16], cAt [true, true, false, true, false, false] (bodyF Tryz.f135), cAt [true, true, false, true, false, true] (bodyF Tryz.f135), m9.next⟩ : Lp) .exhausted none) := ⟨_, rfl⟩
     rw [← e5] at gC
     change Wp Tryz.prog fl (At _ _ (sets 23 tm []) _ _ _ (m4.put (m9.next + 1) (Lp.obj (⟨135, 23, tm, [16], cAt [true, true, false, true, false, false] (bodyF Tryz.f135), cAt [true, true, false, true, false, true] (bodyF Tryz.f135), m9.next⟩ : Lp) .exhausted none))) _
     rw [← e5]
     have gd4 := (k4.get m9.next (by omega) (by rintro (h | h | h); (have := hR.low _ h; omega); all_goals omega)).trans gd
     have gd5 := (gC.other m9.next (by omega)).trans gd4
     obtain ⟨⟨e6, h6r⟩, f6⟩ := c64
     have KM : Kept (fun q => m.next ≤ q ∨ S q) m m4 := (K9.then KB.out (fun _ _ h => h.elim)).then k4 (fun q hq h => by rcases h with h | h | h; exact Or.inr h; all_goals (exact Or.inl (by omega)))
     have KN := KM.w gC hl24 (fun _ h => by cases h) (Or.inl (by omega))
     have nC := gC.next
     have h6r5 := (gC.other r6 (by omega)).trans h6r
     have f65 := (gC.famo r6).trans f6
     have kc : Kept (fun q => B ≤ q) m4 m5 := Kept.wrote KM.wf gC hl24 (fun _ h => by cases h) (by show B ≤ m9.next + 1; omega)
     refine gg ?_
     refine s_put0 rfl rfl rfl (o_store rfl (e_base rfl t6) h6r5 f65 sz_4 rfl rfl rfl rfl) (fun m27 g28 => ?_)
     have n29 := g28.next
     have K30 := KN.w g28 h6r5 (fun _ h => by cases h) (Or.inl (by omega))
     refine gg ?_
     refine w_retAt rfl ?_
     have gdz := (g28.other m9.next (by omega)).trans gd5
     refine w_coll (by intro h; cases h) gdz ?_
     have gE := wrote m27 m9.next (.deferred none)
     obtain ⟨mE, eE⟩ : ∃ mE, mE = m27.put m9.next (.deferred none) := ⟨_, rfl⟩
     rw [← eE] at gE ⊢
     have KE := K30.w gE gdz (fun _ h => by cases h) (Or.inl (by omega))
     refine w_results Tryz.func135 (rvc1 (e_base rfl t6) (lv1 ((gE.other r6 (by omega)).trans g28.same) tg_4 sz_4 rfl rfl)) ?_
     have kE : Kept (fun q => B ≤ q) m4 mE := kc.trans (Kept.trans (Kept.wrote KN.wf g28 h6r5 (fun _ h => by cases h) (by show B ≤ r6; omega)) (Kept.wrote K30.wf gE gdz (fun _ h => by cases h) (by show B ≤ m9.next; omega)))
     exact ⟨_, _, rfl, KE.out, hR.stab _ _ _ hI4 kE, (kE.get l (by omega) (by show ¬ (B ≤ l); omega)).trans hl4⟩
    | stop z =>
     rw [hf] at hend
     obtain ⟨_, _, _, eq, k4, ⟨hI4, hl4, _, c64⟩, hl24⟩ := hend
     cases eq
     have n4 := k4.next
     refine w_after hl24 (by intro h; cases h) ?_
     have gC := wrote m4 (m9.next + 1) (Lp.obj (⟨135, 23, tm, [16], cAt [true, true, false, true, false, false] (bodyF Tryz.f135), cAt [true, true, false, true, false, true] (bodyF Tryz.f135), m9.next⟩ : Lp) .exhausted (some .ret))
     obtain ⟨m5, e5⟩ : ∃ m5, m5 = m4.put (m9.next + 1) (Lp.obj (⟨135, 23, tm, [16], cAt [true, true, false, true, false, false] (bodyF Tryz.f135), cAt [true, true, false, true, false, true] (bodyF Tryz.f135), m9.next⟩ : Lp) .exhausted (some .ret)) := ⟨_, rfl⟩
     rw [← e5] at gC
     change Wp Tryz.prog fl (At _ _ (sets 23 tm []) _ _ _ (m4.put (m9.next + 1) (Lp.obj (⟨135, 23, tm, [16], cAt [true, true, false, true, false, false] (bodyF Tryz.f135), cAt [true, true, false, true, false, true] (bodyF Tryz.f135), m9.next⟩ : Lp) .exhausted (some .ret)))) _
     rw [← e5]
     have gd4 := (k4.get m9.next (by omega) (by rintro (h | h | h); (have := hR.low _ h; omega); all_goals omega)).trans gd
     have gd5 := (gC.other m9.next (by omega)).trans gd4
     obtain ⟨⟨e6, h6r⟩, f6⟩ := c64
     have KM : Kept (fun q => m.next ≤ q ∨ S q) m m4 := (K9.then KB.out (fun _ _ h => h.elim)).then k4 (fun q hq h => by rcases h with h | h | h; exact Or.inr h; all_goals (exact Or.inl (by omega)))
     have KN := KM.w gC hl24 (fun _ h => by cases h) (Or.inl (by omega))
     have nC := gC.next
     have h6r5 := (gC.other r6 (by omega)).trans h6r
     have kc : Kept (fun q => B ≤ q) m4 m5 := Kept.wrote KM.wf gC hl24 (fun _ h => by cases h) (by show B ≤ m9.next + 1; omega)
     show Wp Tryz.prog fl (At _ (.code .ret :: _) _ _ _ _ _) _
     refine w_retAt rfl ?_
     have gdz := gd5
     refine w_coll (by intro h; cases h) gdz ?_
     have gE := wrote m5 m9.next (.deferred none)
     obtain ⟨mE, eE⟩ : ∃ mE, mE = m5.put m9.next (.deferred none) := ⟨_, rfl⟩
     rw [← eE] at gE ⊢
     have KE := KN.w gE gdz (fun _ h => by cases h) (Or.inl (by omega))
     refine w_results Tryz.func135 (rvc1 (e_base rfl t6) (lv1 ((gE.other r6 (by omega)).trans h6r5) tg_4 sz_4 rfl rfl)) ?_
     have kE : Kept (fun q => B ≤ q) m4 mE := kc.trans (Kept.wrote KN.wf gE gdz (fun _ h => by cases h) (by show B ≤ m9.next; omega))
     exact ⟨_, _, rfl, KE.out, hR.stabJ _ _ _ hI4 kE, (kE.get l (by omega) (by show ¬ (B ≤ l); omega)).trans hl4⟩
    | fail z => rw [hf] at hend; obtain ⟨_, _, eq, _⟩ := hend; cases eq
   ·
    intro c u m4 hend
    cases hf : foldSt (fun s q => visN step n (i + 1) q s) s' q.subs with
    | go z => rw [hf] at hend; obtain ⟨_, _, _, eq, _⟩ := hend; cases eq
    | stop z => rw [hf] at hend; obtain ⟨_, _, _, eq, _⟩ := hend; cases eq
    | fail z =>
     rw [hf] at hend
     obtain ⟨_, _, eq, k4⟩ := hend
     cases eq
     have gd4 := (k4.get m9.next (by omega) (by rintro (h | h | h); (have := hR.low _ h; omega); all_goals omega)).trans gd
     have KM : Kept (fun q => m.next ≤ q ∨ S q) m m4 := (K9.then KB.out (fun _ _ h => h.elim)).then k4 (fun q hq h => by rcases h with h | h | h; exact Or.inr h; all_goals (exact Or.inl (by omega)))
     refine w_coll (by intro h; cases h) gd4 ?_
     have KE := KM.w (wrote m4 m9.next (.deferred none)) gd4 (fun _ h => by cases h) (Or.inl (by omega))
     refine w_panics ?_
     exact ⟨_, _, rfl, KE.out⟩
  ·
   intro t e m9 k9 hJ9 hl9
   have n9 := k9.next
   have K9 : Kept (fun q => m.next ≤ q ∨ S q) m m9 := (K8.mono (fun q _ h => h.elim Or.inl (fun h => h.elim))).trans (k9.mono (fun q _ h => Or.inr h))
   refine gg ?_
   have h31 := (k9.get m1.next (by omega) (by intro h; have := hR.low _ h; omega)).trans g6.same
   have f32 := (k9.fam m1.next (by omega) (by intro h; have := hR.low _ h; omega)).trans (g6.fam0 K4.wf)
   refine s_put0 rfl rfl rfl (o_store rfl (e_hit rfl) h31 f32 sz_4 rfl rfl rfl rfl) (fun m33 g34 => ?_)
   have n35 := g34.next
   have K36 := K9.w g34 h31 (fun _ h => by cases h) (Or.inl (by omega))
   refine gg ?_
   refine w_retAt rfl ?_
   refine w_results Tryz.func135 (rvc1 (e_hit rfl) (lv1 g34.same tg_4 sz_4 rfl rfl)) ?_
   rw [show visN step (n + 1) i q s = .stop t from by simp only [visN, e]]
   have kE : Kept (fun q => B ≤ q) m9 m33 := Kept.wrote K9.wf g34 h31 (fun _ h => by cases h) (by show B ≤ m1.next; omega)
   exact ⟨_, _, rfl, K36.out, hR.stabJ _ _ _ hJ9 kE, (kE.get l (by omega) (by show ¬ (B ≤ l); omega)).trans hl9⟩
  ·
   intro c e m9 k9
   have K9 : Kept (fun q => m.next ≤ q ∨ S q) m m9 := (K8.mono (fun q _ h => h.elim Or.inl (fun h => h.elim))).trans (k9.mono (fun q _ h => Or.inr h))
   refine w_panics ?_
   rw [show visN step (n + 1) i q s = .fail c from by simp only [visN, e]]; exact ⟨_, _, rfl, K9.out⟩
end
open Go.RowKit (Below)
set_option maxRecDepth 10000
noncomputable section
variable {fl : Fl} (hfl : Tab fl)
include hfl
omit hfl in
theorem roundUp {P : Program} {fl : Fl} {σ τ X : Type} {l : Nat} {L : Lp} {S : Nat → Prop} {B B' : Nat} {I : σ → Mem → Prop} {J : τ → Mem → Prop} {pe : τ → Code} {enc : X → List AVal} {ok : X → Mem → Prop} {step : σ → X → St σ τ} (h : RoundOK P fl l L S B I J pe enc ok step) (hb : B ≤ B') : RoundOK P fl l L S B' I J pe enc ok step :=
 ⟨h.fn, h.len, h.here, fun q hq => Nat.lt_of_lt_of_le (h.low q hq) hb, fun s m m' hI k => h.stab s m m' hI (k.mono fun q _ hq => Nat.le_trans hb hq), fun s m m' hI k => h.stabJ s m m' hI (k.mono fun q _ hq => Nat.le_trans hb hq), fun s x m hw hB hI hok hl => h.round s x m hw (Nat.le_trans hb hB) hI hok hl⟩
theorem nodes1_ok {σ τ : Type} {l : Nat} {L : Lp} {S : Nat → Prop} {B : Nat} {I : σ → Mem → Prop} {J : τ → Mem → Prop} {pe : τ → Code} {step : σ → Int × Part → St σ τ} {Lv : Int → Part → Prop} (hR : RoundOK Tryz.prog fl l L S B I J pe (fun x => [iv x.1, x.2.val]) (fun x m => x.2.OK m ∧ Lv x.1 x.2) step) (hLv : ∀ (i : Int) (q : Part) s s', Lv i q → step s (i, q) = .go s' → (-(2 ^ 61) ≤ i ∧ i < 2 ^ 61) ∧ ∀ r, r ∈ q.subs → Lv (i + 1) r) {n : Nat} (q : Part) {s : σ} {m : Mem} {bx : Nat} (hsz : SizeOf.sizeOf q < n) (hw : Wf m) (hB : B ≤ m.next) (hI : I s m) (hl : m.heap.get l = some (L.obj .ready none)) (hbx : Cel m bx [q.val]) (hq : q.OK m) (hlv : Lv 1 q) : CallQ Tryz.prog fl 134 [.yield l, .ptr bx 0] m (EndC l L S I J pe m (visN step n 1 q s)) := by
 have llt : l < B := hR.low l hR.here
 refine hfl.start (by decide) 8 Tryz.func134 rfl rfl (Nat.le_of_ble_eq_true rfl) ?_
 intro bs hb
 have ar0 := hb 0 _ rfl
 have ar1 := hb 1 _ rfl
 clear hb
 have K0 : Kept (fun q => m.next ≤ q ∨ (noS) q) m m := Kept.refl hw
 have ltbx := hbx.lt hw
 obtain ⟨⟨ebx, hbx⟩, fbx⟩ := hbx
 refine gg ?_
 refine s_new rfl rfl rfl rfl (o_box (e_base rfl ar0) rfl) (fun m1 g2 => ?_)
 have n3 := g2.next
 have K4 := K0.g g2
 refine gg ?_
 refine s_new rfl rfl rfl rfl (o_alloc zc_182) (fun m5 g6 => ?_)
 have n7 := g6.next
 have K8 := K4.g g6
 refine gg ?_
 refine s_val rfl rfl rfl rfl (o_makeF rfl me0 (me2 (e_hit rfl) (e_hit rfl))) ?_
 refine s_put0 rfl rfl rfl (o_store (e_hit rfl) (e_hit rfl) g6.same (g6.fam0 K4.wf) sz_182 rfl rfl rfl rfl) (fun m9 g10 => ?_)
 have n11 := g10.next
 have K12 := K8.w g10 g6.same (fun _ h => by cases h) (Or.inl (by omega))
 refine gg ?_
 have h15 := hxM m9 bx
 refine s_val rfl rfl rfl rfl (o_loadRow (e_base rfl ar1) h15 tg_131 sz_131 rfl (by cases q <;> rfl)) ?_
 have h17 := hxM m9 m.next
 have f19 := fxM m9 m.next
 have f20 := fxM m9 m1.next
 have kb : Kept (fun q => B ≤ q) m m9 := K12.out.mono (fun _ _ h => h.elim)
 have RU := roundUp hR (B' := m9.next) (by omega)
 refine s_callR rfl rfl rfl rfl (o_callF (e_hit rfl) (me2 rfl (e_hit rfl))) (visit_ok hfl RU hLv (y := m.next) (v := m1.next) ⟨by omega, by omega, (by intro h; have := hR.low _ h; omega), (by intro h; have := hR.low _ h; omega)⟩ n q 1 s hsz K12.wf (Nat.le_refl _) (hR.stab s m _ hI kb) ((kb.get l (by omega) (by show ¬ (B ≤ l); omega)).trans hl) (Cel.of h17 f19) (Cel.of g10.same f20) (hq.kept kb) hlv) ?_ ?_ ?_
 ·
  intro s' e m9 k9 hI9 hl9
  have K9 : Kept S m m9 := (K12.out.mono (fun _ _ h => h.elim)).trans k9
  refine gg ?_
  refine w_fall rfl ?_
  refine w_results Tryz.func134 rv0 ?_
  rw [e]; exact ⟨_, _, _, rfl, K9, hI9, hl9⟩
 ·
  intro t e m9 k9 hJ9 hl9
  have K9 : Kept S m m9 := (K12.out.mono (fun _ _ h => h.elim)).trans k9
  refine gg ?_
  refine w_fall rfl ?_
  refine w_results Tryz.func134 rv0 ?_
  rw [e]; exact ⟨_, _, _, rfl, K9, hJ9, hl9⟩
 ·
  intro c e m9 k9
  have K9 : Kept S m m9 := (K12.out.mono (fun _ _ h => h.elim)).trans k9
  refine w_panics ?_
  rw [e]; exact ⟨_, _, rfl, K9⟩
theorem nodes_ok {m : Mem} (q : Part) (hw : Wf m) : CallQ Tryz.prog fl 94 [q.val] m (fun r => ∃ u m', r = .ret (.func (.func 134) [] [.ptr m.next 0]) u m' ∧ Kept noS m m' ∧ m.next < m'.next ∧ Cel m' m.next [q.val]) := by
 refine hfl.start (by decide) 4 Tryz.func94 rfl rfl (Nat.le_of_ble_eq_true rfl) ?_
 intro bs hb
 have ar0 := hb 0 _ rfl
 clear hb
 have K0 : Kept (fun q => m.next ≤ q ∨ (noS) q) m m := Kept.refl hw
 refine gg ?_
 refine s_new rfl rfl rfl rfl (o_box (e_base rfl ar0) (by cases q <;> rfl)) (fun m21 g22 => ?_)
 have n23 := g22.next
 have K24 := K0.g g22
 refine gg ?_
 refine s_val rfl rfl rfl rfl (o_makeF rfl me0 (me1 (e_hit rfl))) ?_
 refine gg ?_
 refine w_retAt rfl ?_
 refine w_results Tryz.func94 (rv1 (e_hit rfl)) ?_
 refine ⟨_, _, rfl, K24.out, by omega, Cel.of (e := (131, 0)) (g22.same.trans ?_) (g22.fam0 K0.wf)⟩
 cases q <;> rfl
end
open Go.RowKit (Below)
set_option maxRecDepth 10000
noncomputable section
variable {fl : Fl} (hfl : Tab fl)
include hfl
omit hfl in
def ACl.form : ACl → Int
 | .mk f _ _ _ _ _ _ _ => f
omit hfl in
def ACl.text : ACl → ByteArray
 | .mk _ s _ _ _ _ _ _ => s
omit hfl in
def ACl.jv : ACl → AVal
 | .mk _ _ j _ _ _ _ _ => j
omit hfl in
def ACl.dv : ACl → AVal
 | .mk _ _ _ d _ _ _ _ => d
omit hfl in
def ACl.kv : ACl → AVal
 | .mk _ _ _ _ k _ _ _ => k
omit hfl in
def ACl.joins : ACl → List AMs
 | .mk _ _ _ _ _ j _ _ => j
omit hfl in
def ACl.defs : ACl → List ACl
 | .mk _ _ _ _ _ _ d _ => d
omit hfl in
theorem ACl.defs_size (c : ACl) : SizeOf.sizeOf c.defs < SizeOf.sizeOf c := by
 cases c with
 | mk f s jv dv kv joins defs kids => show SizeOf.sizeOf defs < _; simp only [ACl.mk.sizeOf_spec]; omega
def grpN {σ τ : Type} (step : σ → ByteArray × AVal × List ACl → St σ τ) : Nat → ByteArray → AVal → List ACl → σ → St σ τ
 | 0, _, _, _, s => .go s
 | n + 1, nm, dv, defs, s => match step s (nm, dv, defs) with
  | .go s' => foldSt (fun s (c : ACl) => if c.form == 2 then grpN step n c.text c.dv c.defs s else .go s) s' defs
  | .stop t => .stop t
  | .fail c => .fail c
abbrev grpF (y v : Nat) : AVal := .func (.func 149) [] [.ptr y 0, .ptr v 0]
theorem grp_loop {σ τ : Type} {l : Nat} {L : Lp} {S : Nat → Prop} {B : Nat} {I : σ → Mem → Prop} {J : τ → Mem → Prop} {pe : τ → Code} {step : σ → ByteArray × AVal × List ACl → St σ τ} (hR : RoundOK Tryz.prog fl l L S B I J pe (fun (x : ByteArray × AVal × List ACl) => [.lit (.string x.1), x.2.1]) (fun (x : ByteArray × AVal × List ACl) m => SlA m x.2.1 5 (x.2.2.map ACl.cells) ∧ ∀ c, c ∈ x.2.2 → c.OK m) step) {n : Nat} {y v : Nat} (hyB : y < B ∧ v < B ∧ ¬ S y ∧ ¬ S v) (ih : ∀ (nm : ByteArray) (dv : AVal) (defs : List ACl) (s : σ) {m : Mem}, SizeOf.sizeOf defs < n → Wf m → B ≤ m.next → I s m → m.heap.get l = some (L.obj .ready none) → Cel m y [.yield l] → Cel m v [grpF y v] → SlA m dv 5 (defs.map ACl.cells) → (∀ c, c ∈ defs → c.OK m) → CallQ Tryz.prog fl 149 [.lit (.string nm), dv, .ptr y 0, .ptr v 0] m (EndR l L S I J pe m (grpN step n nm dv defs s))) {kv : AVal} (els : List ACl) (hsz : ∀ c, c ∈ els → SizeOf.sizeOf c.defs < n) (k : List AItem) {Q : RR → Prop} {up : Chain} : ∀ (rest pre : List ACl) (s : σ) {m : Mem} (b : T AVal), els = pre ++ rest → Wf m → B ≤ m.next → I s m → m.heap.get l = some (L.obj .ready none) → Cel m y [.yield l] → Cel m v [grpF y v] → SlA m kv 5 (els.map ACl.cells) → (∀ q, q ∈ els → q.OK m) → getT b 3 = .ptr v 0 → getT b 14 = kv → getT b 15 = goI els.length → getT b 16 = goI pre.length →
  (∀ (s' : σ) (m' : Mem) (b' : T AVal), foldSt (fun s (c : ACl) => if c.form == 2 then grpN step n c.text c.dv c.defs s else .go s) s rest = .go s' → Kept S m m' → I s' m' → m'.heap.get l = some (L.obj .ready none) → Wp Tryz.prog fl (At ⟨149, 33, false, none⟩ k b' [] .run up m') Q) →
  (∀ (t : τ) (m' : Mem) (b' : T AVal), foldSt (fun s (c : ACl) => if c.form == 2 then grpN step n c.text c.dv c.defs s else .go s) s rest = .stop t → Kept S m m' → J t m' → m'.heap.get l = some (L.obj .done (some (pe t))) → getT b' 6 = .lit (.bool false) → Wp Tryz.prog fl (At ⟨149, 33, false, none⟩ [] b' [] .returning up m') Q) →
  (∀ (c : Chain) (t' : List AItem) (m' : Mem) (b' : T AVal), foldSt (fun s (c : ACl) => if c.form == 2 then grpN step n c.text c.dv c.defs s else .go s) s rest = .fail c → Kept S m m' → Wp Tryz.prog fl (At ⟨149, 33, false, none⟩ t' b' [] (.panicking c) up m') Q) → Wp Tryz.prog fl (At ⟨149, 33, false, none⟩ (.code (cAt [true, true, false, true, false, false] (bodyF Tryz.f149)) :: .inLoop (cAt [true, true, false, true, false, false] (bodyF Tryz.f149)) :: .inBlock 0 :: k) (sets 33 b []) [] .run up m) Q := by
 have _ := hfl
 intro rest
 induction rest with
 | nil =>
  intro pre s m b hsp hw hBm hI hl hy hv0 hsl hall kf3 kf14 kf15 hix hk hs hp
  have hlt : decide (Int.ofNat pre.length < Int.ofNat els.length) = false := by rw [dlt]; simp [hsp]
  refine gg ?_
  exact hk s _ _ rfl (Kept.refl hw) hI hl
 | cons x rest ih0 =>
  intro pre s m b hsp hw hBm hI hl hy hv0 hsl hall kf3 kf14 kf15 hix hk hs hp
  have K0 : Kept (fun q => m.next ≤ q ∨ noS q) m m := Kept.refl hw
  have llt : l < B := hR.low l hR.here
  have hlt : decide (Int.ofNat pre.length < Int.ofNat els.length) = true := by rw [dlt]; simp [hsp]
  have hln : pre.length + 1 < 2 ^ 62 := by have := hsl.lt; simp [hsp] at this; omega
  have hsl0 := hsl
  obtain ⟨r, off, cc, ex, row, hv, hlx, hr, htk⟩ := hsl.at (i := pre.length) (e := ACl.cells x) (by simp [hsp])
  subst hv
  have hxm : x ∈ els := by simp [hsp]
  have hxo := hall x hxm
  have hxs := hsz x hxm
  rcases x with ⟨f0, s0, jv0, dv0, xv, joins0, defs0, kids0⟩
  have cjv0 : isCell jv0 = true := by cases hxo with | mk h1 h2 h3 h4 h5 h6 => exact h1.cell
  have cdv0 : isCell dv0 = true := by cases hxo with | mk h1 h2 h3 h4 h5 h6 => exact h2.cell
  have cxv : isCell xv = true := by cases hxo with | mk h1 h2 h3 h4 h5 h6 => exact h3.cell
  have hd0 : SlA m dv0 5 (defs0.map ACl.cells) := by cases hxo with | mk h1 h2 h3 h4 h5 h6 => exact h2
  have hdo : ∀ c, c ∈ defs0 → c.OK m := by cases hxo with | mk h1 h2 h3 h4 h5 h6 => exact h5
  have lty := hy.lt hw
  have ltv := hv0.lt hw
  have hy1 := hy
  have hv1 := hv0
  obtain ⟨⟨ey, hyr⟩, fy⟩ := hy
  obtain ⟨⟨ev, hvr⟩, fv⟩ := hv0
  refine gg ?_
  refine s_val rfl rfl rfl rfl (o_indexAddr (e_base rfl kf14) (e_base rfl hix) el_30 (by simpa using hlx)) ?_
  refine s_val rfl rfl rfl rfl (o_loadRoA (e_hit rfl) hr tg_118 sz_118 htk) ?_
  refine s_new rfl rfl rfl rfl (o_alloc zc_118) (fun m1 g2 => ?_)
  have n3 := g2.next
  have K4 := K0.g g2
  refine s_put0 rfl rfl rfl (o_store (e_hit rfl) (e_hit rfl) g2.same (g2.fam0 K0.wf) sz_118 rfl rfl (ac1 rfl (ac1 rfl (ac1 cjv0 (ac1 cdv0 (ac1 cxv rfl))))) rfl) (fun m5 g6 => ?_)
  have n7 := g6.next
  have K8 := K4.w g6 g2.same (fun _ h => by cases h) (Or.inl (by omega))
  refine gg ?_
  refine s_guardS rfl rfl (e_hit rfl) (fun c9 => ?_) (fun c9 => ?_)
  ·
   have h11 := hxM m5 v
   refine gg ?_
   have h13 := hxM m5 y
   have f15 := fxM m5 y
   have f17 := fxM m5 v
   have kb : Kept (fun q => B ≤ q) m m5 := K8.out.mono (fun _ _ h => h.elim)
   refine s_callR rfl (g_onH rfl rfl (e_hit rfl) c9) rfl rfl (o_callF (e_hit rfl) (me2 (e_hit rfl) (e_hit rfl))) (ih s0 dv0 defs0 s hxs K8.wf (by omega) (hR.stab s m _ hI kb) ((kb.get l (by omega) (by show ¬ (B ≤ l); omega)).trans hl) (Cel.of h13 f15) (Cel.of h11 f17) (hd0.kept kb) (fun c hc => (hdo c hc).kept kb)) ?_ ?_ ?_
   ·
    intro s' e m9 k9 hI9 hl9
    have K9 : Kept S m m9 := (K8.out.mono (fun _ _ h => h.elim)).trans k9
    have ef : (f0 == 2) = true := c9
    refine gg ?_
    have e2 : foldSt (fun s (c : ACl) => if c.form == 2 then grpN step n c.text c.dv c.defs s else .go s) s ((.mk f0 s0 jv0 dv0 xv joins0 defs0 kids0) :: rest) = foldSt (fun s (c : ACl) => if c.form == 2 then grpN step n c.text c.dv c.defs s else .go s) s' rest := by simp only [foldSt, ACl.form, ACl.text, ACl.dv, ACl.defs, ef, if_true, e]
    refine w_inLoop ?_
    refine Wp.gen (fun b' eb => ?_)
    exact ih0 (pre ++ [(.mk f0 s0 jv0 dv0 xv joins0 defs0 kids0)]) s' b' (by simp [hsp]) K9.wf (by have := K9.next; omega) hI9 hl9 (hy1.kept K9 lty hyB.2.2.1) (hv1.kept K9 ltv hyB.2.2.2) (hsl0.kept K9) (fun q hq => (hall q hq).kept K9) (eqb eb (e_base rfl kf3)) (eqb eb (e_base rfl kf14)) (eqb eb (e_base rfl kf15)) (eqb eb ((e_hit rfl).trans (by rw [List.length_append]; rfl))) (fun st' m' b' h hk' => hk st' m' b' (e2.trans h) (K9.trans hk')) (fun t m' b' h hk' => hs t m' b' (e2.trans h) (K9.trans hk')) (fun c t' m' b' h hk' => hp c t' m' b' (e2.trans h) (K9.trans hk'))
   ·
    intro t e m9 k9 hJ9 hl9
    have K9 : Kept S m m9 := (K8.out.mono (fun _ _ h => h.elim)).trans k9
    have ef : (f0 == 2) = true := c9
    refine gg ?_
    refine w_retAt rfl ?_
    exact hs t _ _ (by simp only [foldSt, ACl.form, ACl.text, ACl.dv, ACl.defs, ef, if_true, e]) K9 hJ9 hl9 (e_hit rfl)
   ·
    intro c e m9 k9
    have K9 : Kept S m m9 := (K8.out.mono (fun _ _ h => h.elim)).trans k9
    have ef : (f0 == 2) = true := c9
    exact hp c _ _ _ (by simp only [foldSt, ACl.form, ACl.text, ACl.dv, ACl.defs, ef, if_true, e]) K9
  ·
   refine gg ?_
   have ef : (f0 == 2) = false := c9
   have e2 : foldSt (fun s (c : ACl) => if c.form == 2 then grpN step n c.text c.dv c.defs s else .go s) s ((.mk f0 s0 jv0 dv0 xv joins0 defs0 kids0) :: rest) = foldSt (fun s (c : ACl) => if c.form == 2 then grpN step n c.text c.dv c.defs s else .go s) s rest := by simp only [foldSt, ACl.form, ACl.text, ACl.dv, ACl.defs, ef, if_false, Bool.false_eq_true]
   have K9 : Kept S m m5 := K8.out.mono (fun _ _ h => h.elim)
   have kb : Kept (fun q => B ≤ q) m m5 := K8.out.mono (fun _ _ h => h.elim)
   refine w_inLoop ?_
   refine Wp.gen (fun b' eb => ?_)
   exact ih0 (pre ++ [(.mk f0 s0 jv0 dv0 xv joins0 defs0 kids0)]) s b' (by simp [hsp]) K9.wf (by have := K9.next; omega) (hR.stab s m _ hI kb) ((kb.get l (by omega) (by show ¬ (B ≤ l); omega)).trans hl) (hy1.kept K9 lty hyB.2.2.1) (hv1.kept K9 ltv hyB.2.2.2) (hsl0.kept K9) (fun q hq => (hall q hq).kept K9) (eqb eb (e_base rfl kf3)) (eqb eb (e_base rfl kf14)) (eqb eb (e_base rfl kf15)) (eqb eb ((e_hit rfl).trans (by rw [List.length_append]; rfl))) (fun st' m' b' h hk' => hk st' m' b' (e2.trans h) (K9.trans hk')) (fun t m' b' h hk' => hs t m' b' (e2.trans h) (K9.trans hk')) (fun c t' m' b' h hk' => hp c t' m' b' (e2.trans h) (K9.trans hk'))
end
open Go.RowKit (Below)
set_option maxRecDepth 10000
noncomputable section
theorem zc_205 : zcells Tryz.prog 205 = some [.lit .nilFunc] := by kernel_rfl
variable {fl : Fl} (hfl : Tab fl)
include hfl
theorem grp_ok {σ τ : Type} {l : Nat} {L : Lp} {S : Nat → Prop} {B : Nat} {I : σ → Mem → Prop} {J : τ → Mem → Prop} {pe : τ → Code} {step : σ → ByteArray × AVal × List ACl → St σ τ} (hR : RoundOK Tryz.prog fl l L S B I J pe (fun (x : ByteArray × AVal × List ACl) => [.lit (.string x.1), x.2.1]) (fun (x : ByteArray × AVal × List ACl) m => SlA m x.2.1 5 (x.2.2.map ACl.cells) ∧ ∀ c, c ∈ x.2.2 → c.OK m) step) {y v : Nat} (hyB : y < B ∧ v < B ∧ ¬ S y ∧ ¬ S v) : ∀ (n : Nat) (nm : ByteArray) (dv : AVal) (defs : List ACl) (s : σ) {m : Mem}, SizeOf.sizeOf defs < n → Wf m → B ≤ m.next → I s m → m.heap.get l = some (L.obj .ready none) → Cel m y [.yield l] → Cel m v [grpF y v] → SlA m dv 5 (defs.map ACl.cells) → (∀ c, c ∈ defs → c.OK m) → CallQ Tryz.prog fl 149 [.lit (.string nm), dv, .ptr y 0, .ptr v 0] m (EndR l L S I J pe m (grpN step n nm dv defs s)) := by
 intro n
 induction n with
 | zero => intro nm dv defs s m h; omega
 | succ n ih =>
  intro nm dv defs s m hsz hw hBm hI hl hy hv hd hdo
  have llt : l < B := hR.low l hR.here
  have hdl : ∀ {m' : Mem}, lenSl m' dv = .val (goI defs.length) m' := by intro m'; have := hd.len (m' := m'); rwa [List.length_map] at this
  refine hfl.start (by decide) 33 Tryz.func149 rfl rfl (Nat.le_of_ble_eq_true rfl) ?_
  intro bs hb
  have ar0 := hb 0 _ rfl
  have ar1 := hb 1 _ rfl
  have ar2 := hb 2 _ rfl
  have ar3 := hb 3 _ rfl
  clear hb
  have K0 : Kept (fun q => m.next ≤ q ∨ noS q) m m := Kept.refl hw
  have lty := hy.lt hw
  have ltv := hv.lt hw
  have hy0 := hy
  have hv0 := hv
  obtain ⟨⟨ey, hyr⟩, fy⟩ := hy
  obtain ⟨⟨ev, hvr⟩, fv⟩ := hv
  refine gg ?_
  have kb : Kept (fun q => B ≤ q) m m := K0.out.mono (fun _ _ h => h.elim)
  refine s_yield hR (s := s) (x := (nm, dv, defs)) rfl rfl rfl rfl (e_hit rfl) (me2 (e_hit rfl) (e_hit rfl)) K0.wf (by omega) (hR.stab s m _ hI kb) ⟨hd.kept kb, fun c hc => (hdo c hc).kept kb⟩ ((kb.get l (by omega) (by show ¬ (B ≤ l); omega)).trans hl) ?_ ?_ ?_
  ·
   intro s' e m9 k9 hI9 hl9
   have K9 : Kept S m m9 := (K0.out.mono (fun _ _ h => h.elim)).trans k9
   refine gg ?_
   refine w_loop ?_
   refine Wp.gen (fun b0 eb => ?_)
   refine grp_loop hfl hR hyB (n := n) ih defs (fun c hc => by have := c.defs_size; have := List.sizeOf_lt_of_mem hc; omega) _ _ [] s' b0 (by rfl) K9.wf (by have := K9.next; omega) hI9 hl9 (hy0.kept K9 lty hyB.2.2.1) (hv0.kept K9 ltv hyB.2.2.2) (hd.kept K9) (fun c hc => (hdo c hc).kept K9) (eqb eb (e_base rfl ar3)) (eqb eb (e_hit rfl)) (eqb eb (e_hit rfl)) (eqb eb (e_hit rfl)) ?_ ?_ ?_
   ·
    intro s9 m8 b8 hf k8 hI8 hl8
    have KS := K9.trans k8
    change Wp Tryz.prog fl (At _ _ (sets 33 b8 []) _ _ _ _) _
    refine gg ?_
    refine w_retAt rfl ?_
    refine w_results Tryz.func149 (rv1 (e_hit rfl)) ?_
    rw [show grpN step (n + 1) nm dv defs s = .go s9 from by simp only [grpN, e, hf]]
    exact ⟨_, _, rfl, KS, hI8, hl8⟩
   ·
    intro t m8 b8 hf k8 hJ8 hl8 h6
    have KS := K9.trans k8
    refine w_results Tryz.func149 (rv1 h6) ?_
    rw [show grpN step (n + 1) nm dv defs s = .stop t from by simp only [grpN, e, hf]]
    exact ⟨_, _, rfl, KS, hJ8, hl8⟩
   ·
    intro c t' m8 b8 hf k8
    have KS := K9.trans k8
    refine w_panics ?_
    rw [show grpN step (n + 1) nm dv defs s = .fail c from by simp only [grpN, e, hf]]
    exact ⟨_, _, rfl, KS⟩
  ·
   intro t e m9 k9 hJ9 hl9
   have K9 : Kept S m m9 := (K0.out.mono (fun _ _ h => h.elim)).trans k9
   refine gg ?_
   refine w_retAt rfl ?_
   refine w_results Tryz.func149 (rv1 (e_hit rfl)) ?_
   rw [show grpN step (n + 1) nm dv defs s = .stop t from by simp only [grpN, e]]
   exact ⟨_, _, rfl, K9, hJ9, hl9⟩
  ·
   intro c e m9 k9
   have K9 : Kept S m m9 := (K0.out.mono (fun _ _ h => h.elim)).trans k9
   refine w_panics ?_
   rw [show grpN step (n + 1) nm dv defs s = .fail c from by simp only [grpN, e]]; exact ⟨_, _, rfl, K9⟩
theorem groups1_ok {σ τ : Type} {l : Nat} {L : Lp} {S : Nat → Prop} {B : Nat} {I : σ → Mem → Prop} {J : τ → Mem → Prop} {pe : τ → Code} {step : σ → ByteArray × AVal × List ACl → St σ τ} (hR : RoundOK Tryz.prog fl l L S B I J pe (fun (x : ByteArray × AVal × List ACl) => [.lit (.string x.1), x.2.1]) (fun (x : ByteArray × AVal × List ACl) m => SlA m x.2.1 5 (x.2.2.map ACl.cells) ∧ ∀ c, c ∈ x.2.2 → c.OK m) step) {n : Nat} (dv : AVal) (defs : List ACl) {s : σ} {m : Mem} {bx : Nat} (hsz : SizeOf.sizeOf defs < n) (hw : Wf m) (hB : B ≤ m.next) (hI : I s m) (hl : m.heap.get l = some (L.obj .ready none)) (hbx : Cel m bx [dv]) (hd : SlA m dv 5 (defs.map ACl.cells)) (hdo : ∀ c, c ∈ defs → c.OK m) : CallQ Tryz.prog fl 148 [.yield l, .ptr bx 0] m (EndC l L S I J pe m (grpN step n ⟨#[]⟩ dv defs s)) := by
 have llt : l < B := hR.low l hR.here
 have chd := hd.cell
 refine hfl.start (by decide) 8 Tryz.func148 rfl rfl (Nat.le_of_ble_eq_true rfl) ?_
 intro bs hb
 have ar0 := hb 0 _ rfl
 have ar1 := hb 1 _ rfl
 clear hb
 have K0 : Kept (fun q => m.next ≤ q ∨ (noS) q) m m := Kept.refl hw
 have ltbx := hbx.lt hw
 obtain ⟨⟨ebx, hbx⟩, fbx⟩ := hbx
 refine gg ?_
 refine s_new rfl rfl rfl rfl (o_box (e_base rfl ar0) rfl) (fun m1 g2 => ?_)
 have n3 := g2.next
 have K4 := K0.g g2
 refine gg ?_
 refine s_new rfl rfl rfl rfl (o_alloc zc_205) (fun m5 g6 => ?_)
 have n7 := g6.next
 have K8 := K4.g g6
 refine gg ?_
 refine s_val rfl rfl rfl rfl (o_makeF rfl me0 (me2 (e_hit rfl) (e_hit rfl))) ?_
 refine s_put0 rfl rfl rfl (o_store (e_hit rfl) (e_hit rfl) g6.same (g6.fam0 K4.wf) sz_205 rfl rfl rfl rfl) (fun m9 g10 => ?_)
 have n11 := g10.next
 have K12 := K8.w g10 g6.same (fun _ h => by cases h) (Or.inl (by omega))
 refine gg ?_
 have h13 := (g2.other bx (by omega)).trans hbx
 have h14 := (g6.other bx (by omega)).trans h13
 refine gg ?_
 have h16 := (g6.other m.next (by omega)).trans g2.same
 have h17 := (g10.other m.next (by omega)).trans h16
 have f18 := (g6.famo m.next).trans (g2.fam0 K0.wf)
 have f19 := (g10.famo m.next).trans f18
 have f20 := (g10.famo m1.next).trans (g6.fam0 K4.wf)
 have kb : Kept (fun q => B ≤ q) m m9 := K12.out.mono (fun _ _ h => h.elim)
 have RU := roundUp hR (B' := m9.next) (by omega)
 refine s_callR rfl rfl rfl rfl (o_callF (e_hit rfl) (me2 rfl (e_hit rfl))) (grp_ok hfl RU (y := m.next) (v := m1.next) ⟨by omega, by omega, (by intro h; have := hR.low _ h; omega), (by intro h; have := hR.low _ h; omega)⟩ n _ dv defs s hsz K12.wf (Nat.le_refl _) (hR.stab s m _ hI kb) ((kb.get l (by omega) (by show ¬ (B ≤ l); omega)).trans hl) (Cel.of h17 f19) (Cel.of g10.same f20) (hd.kept kb) (fun c hc => (hdo c hc).kept kb)) ?_ ?_ ?_
 ·
  intro s' e m9 k9 hI9 hl9
  have K9 : Kept S m m9 := (K12.out.mono (fun _ _ h => h.elim)).trans k9
  refine gg ?_
  refine w_fall rfl ?_
  refine w_results Tryz.func148 rv0 ?_
  rw [e]; exact ⟨_, _, _, rfl, K9, hI9, hl9⟩
 ·
  intro t e m9 k9 hJ9 hl9
  have K9 : Kept S m m9 := (K12.out.mono (fun _ _ h => h.elim)).trans k9
  refine gg ?_
  refine w_fall rfl ?_
  refine w_results Tryz.func148 rv0 ?_
  rw [e]; exact ⟨_, _, _, rfl, K9, hJ9, hl9⟩
 ·
  intro c e m9 k9
  have K9 : Kept S m m9 := (K12.out.mono (fun _ _ h => h.elim)).trans k9
  refine w_panics ?_
  rw [e]; exact ⟨_, _, rfl, K9⟩
theorem groups_ok {m : Mem} {dv : AVal} (cdv : isCell dv = true) (hw : Wf m) : CallQ Tryz.prog fl 107 [dv] m (fun r => ∃ u m', r = .ret (.func (.func 148) [] [.ptr m.next 0]) u m' ∧ Kept noS m m' ∧ m.next < m'.next ∧ Cel m' m.next [dv]) := by
 refine hfl.start (by decide) 4 Tryz.func107 rfl rfl (Nat.le_of_ble_eq_true rfl) ?_
 intro bs hb
 have ar0 := hb 0 _ rfl
 clear hb
 have K0 : Kept (fun q => m.next ≤ q ∨ (noS) q) m m := Kept.refl hw
 refine gg ?_
 refine s_new rfl rfl rfl rfl (o_box (e_base rfl ar0) (np_cell cdv)) (fun m21 g22 => ?_)
 have n23 := g22.next
 have K24 := K0.g g22
 refine gg ?_
 refine s_val rfl rfl rfl rfl (o_makeF rfl me0 (me1 (e_hit rfl))) ?_
 refine gg ?_
 refine w_retAt rfl ?_
 refine w_results Tryz.func107 (rv1 (e_hit rfl)) ?_
 refine ⟨_, _, rfl, K24.out, by omega, Cel.of (e := (30, 0)) (g22.same.trans ?_) (g22.fam0 K0.wf)⟩
 cases dv <;> first | rfl | (rename_i v; cases v <;> first | rfl | cases cdv) | cases cdv
end
open Go.RowKit (Below)
set_option maxRecDepth 10000
noncomputable section
theorem pl_193 : eqPlan Tryz.prog 193 = some [(0, 2), (1, 1)] := by kernel_rfl
theorem tg_191 : tagg Tryz.prog 191 = some false := by kernel_rfl
theorem sz_191 : tsz Tryz.prog 191 = some 1 := by kernel_rfl
theorem tg_193 : tagg Tryz.prog 193 = some true := by kernel_rfl
theorem sz_193 : tsz Tryz.prog 193 = some 2 := by kernel_rfl
theorem un_193 : placesT Tryz.prog 193 = some [(0, 1), (1, 1)] := by kernel_rfl
theorem zc_193 : zcells Tryz.prog 193 = some [.lit (.string .empty), .lit (.int .i64 0)] := by kernel_rfl
abbrev Home := ByteArray × Int
abbrev HL := List (ByteArray × Home × Nat)
def hv (h : Home) : AVal := .agg [.lit (.string h.1), iv h.2]
def toV (l : HL) : List EntV := l.map fun x => (x.1, hv x.2.1, x.2.2)
def findH (s : ByteArray) (l : HL) : Option Home := (l.find? fun x => s == x.1).map (·.2.1)
theorem findV_toV (s : ByteArray) : ∀ l : HL, findV s (toV l) = (findH s l).map hv
 | [] => rfl
 | x :: l => by
  have ih := findV_toV s l
  unfold findV findH toV at *
  rw [List.map_cons, List.find?_cons, List.find?_cons]
  show Option.map _ (match s == x.1 with | true => some _ | false => _) = _
  cases (s == x.1) with
  | true => rfl
  | false => exact ih
def addH (s : ByteArray) (h : Home) (l : HL) (c : Nat) : HL := match findH s l with
 | some _ => l
 | none => l ++ [(s, h, c)]
def clkH (s : ByteArray) (l : HL) (c : Nat) : Nat := match findH s l with
 | some _ => c
 | none => c + 1
theorem addV_toV (s : ByteArray) (h : Home) (l : HL) (c : Nat) : addV s (hv h) (toV l) c = toV (addH s h l c) := by
 unfold addV addH
 rw [findV_toV]
 cases findH s l with
 | some u => rfl
 | none => show toV l ++ [(s, hv h, c)] = toV (l ++ [(s, h, c)]); unfold toV; rw [List.map_append]; rfl
theorem clkV_toV (s : ByteArray) (l : HL) (c : Nat) : clkV s (toV l) c = clkH s l c := by
 unfold clkV clkH
 rw [findV_toV]
 cases findH s l <;> rfl
def okH (s : ByteArray) (h : Home) (l : HL) : Bool := match findH s l with
 | some u => (u.1 == h.1) && ((u.2 == h.2) && true)
 | none => true
theorem home_eq {u h : Home} (e : ((u.1 == h.1) && ((u.2 == h.2) && true)) = true) : u = h := by
 simp only [Bool.and_true, Bool.and_eq_true] at e
 obtain ⟨e1, e2⟩ := e
 rw [ba_beq] at e1
 have e2' : u.2 = h.2 := by simpa using e2
 exact Prod.ext e1 e2'
abbrev HS := HL × Nat
def joinsH (pl : ByteArray) : List AMs → HS → Option HS
 | [], st => some st
 | x :: r, st => bif okH x.text (pl, Int.ofNat x.names.length) st.1 then joinsH pl r (addH x.text (pl, Int.ofNat x.names.length) st.1 st.2, clkH x.text st.1 st.2) else none
theorem o_extractL {tmps : T AVal} {m : Mem} {x : Operand} {i : Nat} {vs : Array Value} {v : Value} (hx : evalT tmps x = .lit (.tuple vs)) (h : getO vs.toList i = some v) : aop Tryz.prog tmps m (.extract x i) = .val (.lit v) m := by
 show extractOp i m (evalT tmps x) = _
 rw [hx]
 show valO m "extract" ((getO vs.toList i).map .lit) = _
 rw [h]; rfl
theorem mk_H : Abs.mapKey Tryz.prog 191 = some (9, 193) := by kernel_rfl
theorem tz_H : tzero Tryz.prog 193 = some (.agg #[.string ⟨#[]⟩, .int .i64 0]) := by kernel_rfl
theorem o_updateH {tmps : T AVal} {m : Mem} {x y z : Operand} {r c : Nat} {l : HL} {s : ByteArray} {h : Home} (hx : evalT tmps x = .map r) (hy : evalT tmps y = .lit (.string s)) (hz : evalT tmps z = hv h) (hr : m.heap.get r = some (.map (entsV (toV l)) c)) (hs : ∀ u, findH s l = some u → u = h) :
  aop Tryz.prog tmps m (.mapUpdate 191 x y z) = .val .poison (m.put r (.map (entsV (toV (addH s h l c))) (clkH s l c))) := by
 rw [← addV_toV, ← clkV_toV]
 refine o_updateV hx hy hz hr mk_H u9 ?_
 intro u hu
 rw [findV_toV, Option.map_eq_some_iff] at hu
 obtain ⟨u', h1, rfl⟩ := hu
 rw [hs u' h1]
theorem def_joins {fl : Fl} (hfl : Tab fl) {lr cm r2 : Nat} {pl : ByteArray} {jv v3 u27 u28 u29 : AVal} (js : List AMs) (k : List AItem) {Q : RR → Prop} {ds : List ADef} {up : Chain} : ∀ (rest pre : List (AMs)) (st : HS) {m : Mem} (b : T AVal), js = pre ++ rest → Wf m → Cel m r2 [.map cm] → m.heap.get cm = some (.map (entsV (toV st.1)) st.2) → SlA m jv 2 (js.map AMs.cells) → (∀ y, y ∈ js → AMs.OK m y) → getT b 2 = .ptr r2 0 → getT b 3 = v3 → getT b 4 = .lit (.string pl) → getT b 27 = u27 → getT b 28 = u28 → getT b 29 = u29 → getT b 34 = jv → getT b 35 = goI js.length → getT b 36 = goI pre.length →
  (∀ (st' : HS) (m' : Mem) (b' : T AVal), joinsH pl rest st = some st' → Kept (fun q => q = cm) m m' → Cel m' r2 [.map cm] → m'.heap.get cm = some (.map (entsV (toV st'.1)) st'.2) → SlA m' jv 2 (js.map AMs.cells) → (∀ y, y ∈ js → AMs.OK m' y) → getT b' 2 = .ptr r2 0 → getT b' 3 = v3 → getT b' 4 = .lit (.string pl) → getT b' 27 = u27 → getT b' 28 = u28 → getT b' 29 = u29 → getT b' 34 = jv → getT b' 35 = goI js.length → Wp Tryz.prog fl (At ⟨97, 77, false, some lr⟩ k b' ds .run up m') Q) →
  (joinsH pl rest st = none → ∀ (t' : List AItem) (m' : Mem) (b' : T AVal), Kept (fun q => q = cm) m m' → Wp Tryz.prog fl (At ⟨97, 77, false, some lr⟩ t' b' ds (.panicking unfC) up m') Q) → Wp Tryz.prog fl (At ⟨97, 77, false, some lr⟩ (.code (cAt [true, false, true, false, true, false, true, true, true, false, false, true, true, false, false, true, true, false, false] (bodyF Tryz.f97)) :: .inLoop (cAt [true, false, true, false, true, false, true, true, true, false, false, true, true, false, false, true, true, false, false] (bodyF Tryz.f97)) :: .inBlock 4 :: k) (sets 77 b []) ds .run up m) Q := by
 intro rest
 induction rest with
 | nil =>
  intro pre st m b hsp hw h2 hcm hsl hok kf2 kf3 kf4 kf27 kf28 kf29 kf34 kf35 hix hk hp
  have K0 : Kept (fun q => m.next ≤ q ∨ (fun q => q = cm) q) m m := Kept.refl hw
  have hlt : decide (Int.ofNat pre.length < Int.ofNat (js).length) = false := by rw [dlt]; simp [hsp]
  obtain ⟨⟨e2, h2r⟩, f2⟩ := h2
  refine w_seq ?_
  refine w_region rfl ?_
  refine gr ?_
  refine q_nil ?_
  refine w_seq ?_
  refine w_condF (e_hit rfl) hlt ?_
  refine w_exit rfl ?_
  refine Wp.gen (fun b' eb => ?_)
  exact hk st _ b' (by rfl) K0.out (Cel.of h2r f2) hcm (hsl.kept K0) (fun y hy => (hok y hy).kept K0) (eqb eb (e_base rfl kf2)) (eqb eb (e_base rfl kf3)) (eqb eb (e_base rfl kf4)) (eqb eb (e_base rfl kf27)) (eqb eb (e_base rfl kf28)) (eqb eb (e_base rfl kf29)) (eqb eb (e_base rfl kf34)) (eqb eb (e_base rfl kf35))
 | cons x rest ih =>
  intro pre st m b hsp hw h2 hcm hsl hok kf2 kf3 kf4 kf27 kf28 kf29 kf34 kf35 hix hk hp
  have K0 : Kept (fun q => m.next ≤ q ∨ (fun q => q = cm) q) m m := Kept.refl hw
  have hlt : decide (Int.ofNat pre.length < Int.ofNat (js).length) = true := by rw [dlt]; simp [hsp]
  have hln : pre.length + 1 < 2 ^ 62 := by have := hsl.lt; simp [hsp] at this; omega
  obtain ⟨r, off, cc, ex, row, hv, hlx, hr, htk⟩ := hsl.at (i := pre.length) (e := AMs.cells x) (by simp [hsp])
  subst hv
  have hx : SlA m x.nv 1 (x.names.map strCells) := hok x (by simp [hsp])
  have hxl : ∀ {m' : Mem}, lenSl m' x.nv = .val (goI x.names.length) m' := by intro m'; have := hx.len (m' := m'); rwa [List.length_map] at this
  have hxc := hx.cell
  have lt2 := h2.lt hw
  obtain ⟨⟨e2, h2r⟩, f2⟩ := h2
  have ltcm := hw.lt hcm
  have n2c : r2 ≠ cm := by rintro rfl; rw [h2r] at hcm; cases hcm
  refine gg ?_
  refine s_val rfl rfl rfl rfl (o_indexAddr (e_base rfl kf34) (e_base rfl hix) el_116 (by simpa using hlx)) ?_
  refine s_val rfl rfl rfl rfl (o_loadRoA (e_hit rfl) hr tg_126 sz_126 htk) ?_
  refine s_new rfl rfl rfl rfl (o_alloc zc_126) (fun m1 g2 => ?_)
  have n3 := g2.next
  have K4 := K0.g g2
  refine s_put0 rfl rfl rfl (o_store (e_hit rfl) (e_hit rfl) g2.same (g2.fam0 K0.wf) sz_126 rfl rfl (ac1 rfl (ac1 hxc rfl)) rfl) (fun m5 g6 => ?_)
  have n7 := g6.next
  have K8 := K4.w g6 g2.same (fun _ h => by cases h) (Or.inl (by omega))
  refine gg ?_
  refine s_val rfl rfl rfl rfl (o_build (ev22 (e_hit rfl) (e_hit rfl)) zc_193 un_193 rfl) ?_
  refine s_new rfl rfl rfl rfl (o_alloc zc_193) (fun m9 g10 => ?_)
  have n11 := g10.next
  have K12 := K8.g g10
  refine s_put0 rfl rfl rfl (o_store (e_hit rfl) (e_hit rfl) g10.same (g10.fam0 K8.wf) sz_193 rfl rfl rfl rfl) (fun m13 g14 => ?_)
  have n15 := g14.next
  have K16 := K12.w g14 g10.same (fun _ h => by cases h) (Or.inl (by omega))
  refine gg ?_
  have h17 := hxM m1 r2
  have h18 := (g6.other r2 (by omega)).trans h17
  have h19 := (g10.other r2 (by omega)).trans h18
  have h20 := (g14.other r2 (by omega)).trans h19
  refine s_val rfl rfl rfl rfl (o_loadRow (e_base rfl kf2) h20 tg_191 sz_191 rfl rfl) ?_
  refine gg ?_
  have h21 := (g10.other m.next (by omega)).trans g6.same
  have h22 := (g14.other m.next (by omega)).trans h21
  refine gg ?_
  have h23 := (g2.other cm (by omega)).trans hcm
  have h24 := (g6.other cm (by omega)).trans h23
  have h25 := (g10.other cm (by omega)).trans h24
  have h26 := (g14.other cm (by omega)).trans h25
  cases hf : findH x.text st.1 with
  | none =>
   refine s_val rfl rfl rfl rfl (o_lookupV (e_hit rfl) (e_hit rfl) h26 mk_H u9 tz_H (by rw [findV_toV, hf] <;> rfl)) ?_
   refine gg ?_
   refine s_val rfl rfl rfl rfl (o_extractL (e_hit rfl) rfl) ?_
   refine s_val rfl rfl rfl rfl (o_extractL (e_hit rfl) rfl) ?_
   refine s_new rfl rfl rfl rfl (o_alloc zc_193) (fun m27 g28 => ?_)
   have n29 := g28.next
   have K30 := K16.g g28
   refine s_put0 rfl rfl rfl (o_store (e_hit rfl) (e_hit rfl) g28.same (g28.fam0 K16.wf) sz_193 rfl rfl rfl rfl) (fun m31 g32 => ?_)
   have n33 := g32.next
   have K34 := K30.w g32 g28.same (fun _ h => by cases h) (Or.inl (by omega))
   refine gg ?_
   refine s_step rfl rfl rfl rfl (o_calls (me1 (e_hit rfl))) (demand_ok hfl _ K34.wf) (fun c39 m35 k37 p40 => ?_) (fun c39 m36 k38 => ?_)
   ·
    have K42 := K34.k k37 (fun _ h => h.elim)
    refine gg ?_
    have h43 := (g28.other r2 (by omega)).trans h20
    have h44 := (g32.other r2 (by omega)).trans h43
    have h45 := (k37.get r2 (by omega) (fun h => h)).trans h44
    refine s_val rfl rfl rfl rfl (o_loadRow (e_base rfl kf2) h45 tg_191 sz_191 rfl rfl) ?_
    refine gg ?_
    have h46 := (g28.other m.next (by omega)).trans h22
    have h47 := (g32.other m.next (by omega)).trans h46
    refine gg ?_
    have h49 := (g28.other m5.next (by omega)).trans g14.same
    have h50 := (g32.other m5.next (by omega)).trans h49
    have h51 := (k37.get m5.next (by omega) (fun h => h)).trans h50
    refine s_val rfl rfl rfl rfl (o_loadRowA (e_hit rfl) h51 tg_193 sz_193 rfl) ?_
    have h54 := hxM m35 cm
    refine s_put0 rfl rfl rfl (o_updateH (h := (pl, Int.ofNat x.names.length)) (e_hit rfl) (e_hit rfl) (e_hit rfl) h54 (fun u hu => by rw [hf] at hu; cases hu)) (fun m55 g56 => ?_)
    have K58 := K42.w g56 h54 (fun _ h => by cases h) (Or.inr rfl)
    refine gg ?_
    have e : joinsH pl (x :: rest) st = joinsH pl rest (addH x.text (pl, Int.ofNat x.names.length) st.1 st.2, clkH x.text st.1 st.2) := by simp only [joinsH, okH, hf, cond_true]
    refine w_inLoop ?_
    refine Wp.gen (fun b' eb => ?_)
    have h66 := (g56.other r2 (by omega)).trans h45
    have f67 := (g2.famo r2).trans f2
    have f68 := (g6.famo r2).trans f67
    have f69 := (g10.famo r2).trans f68
    have f70 := (g14.famo r2).trans f69
    have f71 := (g28.famo r2).trans f70
    have f72 := (g32.famo r2).trans f71
    have f73 := (k37.fam r2 (by omega) (fun h => h)).trans f72
    have f74 := (g56.famo r2).trans f73
    exact ih (pre ++ [x]) _ b' (by simp [hsp]) K58.wf (Cel.of h66 f74) g56.same (hsl.kept K58) (fun y hy => (hok y hy).kept K58) (eqb eb (e_base rfl kf2)) (eqb eb (e_base rfl kf3)) (eqb eb (e_base rfl kf4)) (eqb eb (e_base rfl kf27)) (eqb eb (e_base rfl kf28)) (eqb eb (e_base rfl kf29)) (eqb eb (e_base rfl kf34)) (eqb eb (e_base rfl kf35)) (eqb eb ((e_hit rfl).trans (by rw [List.length_append]; rfl))) (fun st' m' b' h hk' => hk st' m' b' (e.trans h) (K58.out.trans hk')) (fun h t' m' b' hk' => hp (e.trans h) t' m' b' (K58.out.trans hk'))
   ·
    exact absurd c39 (by decide)
  | some hh =>
   refine s_val rfl rfl rfl rfl (o_lookupV (e_hit rfl) (e_hit rfl) h26 mk_H u9 tz_H (by rw [findV_toV, hf] <;> rfl)) ?_
   refine gg ?_
   refine s_new rfl rfl rfl rfl (o_alloc zc_193) (fun m75 g76 => ?_)
   have n77 := g76.next
   have K78 := K16.g g76
   refine s_put0 rfl rfl rfl (o_store (e_hit rfl) (e_hit rfl) g76.same (g76.fam0 K16.wf) sz_193 rfl rfl rfl rfl) (fun m79 g80 => ?_)
   have n81 := g80.next
   have K82 := K78.w g80 g76.same (fun _ h => by cases h) (Or.inl (by omega))
   refine gg ?_
   refine s_val rfl (g_onH rfl rfl (e_hit rfl) rfl) rfl rfl (o_loadRowA (e_hit rfl) g80.same tg_193 sz_193 rfl) ?_
   have h84 := hxM m79 m5.next
   refine s_val rfl (g_onH rfl rfl (e_hit rfl) rfl) rfl rfl (o_loadRowA (e_hit rfl) h84 tg_193 sz_193 rfl) ?_
   refine s_val rfl (g_onH rfl rfl (e_hit rfl) rfl) rfl rfl (o_eqlP (xs := [.string hh.1, .int .i64 hh.2]) (ys := [.string pl, .int .i64 (Int.ofNat x.names.length)]) (e_hit rfl) (e_hit rfl) pl_193 rfl) ?_
   refine gg ?_
   refine s_step rfl rfl rfl rfl (o_calls (me1 (e_hit rfl))) (demand_ok hfl _ K82.wf) (fun c89 m85 k87 p90 => ?_) (fun c89 m86 k88 => ?_)
   ·
    have K92 := K82.k k87 (fun _ h => h.elim)
    refine gg ?_
    have h93 := (g76.other r2 (by omega)).trans h20
    have h94 := (g80.other r2 (by omega)).trans h93
    have h95 := (k87.get r2 (by omega) (fun h => h)).trans h94
    refine s_val rfl rfl rfl rfl (o_loadRow (e_base rfl kf2) h95 tg_191 sz_191 rfl rfl) ?_
    refine gg ?_
    have h96 := (g76.other m.next (by omega)).trans h22
    have h97 := (g80.other m.next (by omega)).trans h96
    refine gg ?_
    have h99 := (k87.get m5.next (by omega) (fun h => h)).trans h84
    refine s_val rfl rfl rfl rfl (o_loadRowA (e_hit rfl) h99 tg_193 sz_193 rfl) ?_
    have h102 := hxM m85 cm
    refine s_put0 rfl rfl rfl (o_updateH (h := (pl, Int.ofNat x.names.length)) (e_hit rfl) (e_hit rfl) (e_hit rfl) h102 (fun u hu => by rw [hf] at hu; cases hu; exact home_eq c89)) (fun m103 g104 => ?_)
    have K106 := K92.w g104 h102 (fun _ h => by cases h) (Or.inr rfl)
    refine gg ?_
    have e : joinsH pl (x :: rest) st = joinsH pl rest (addH x.text (pl, Int.ofNat x.names.length) st.1 st.2, clkH x.text st.1 st.2) := by simp only [joinsH, okH, hf, c89, cond_true]
    refine w_inLoop ?_
    refine Wp.gen (fun b' eb => ?_)
    have h114 := hxM m103 r2
    have f122 := fxM m103 r2
    exact ih (pre ++ [x]) _ b' (by simp [hsp]) K106.wf (Cel.of h114 f122) g104.same (hsl.kept K106) (fun y hy => (hok y hy).kept K106) (eqb eb (e_base rfl kf2)) (eqb eb (e_base rfl kf3)) (eqb eb (e_base rfl kf4)) (eqb eb (e_base rfl kf27)) (eqb eb (e_base rfl kf28)) (eqb eb (e_base rfl kf29)) (eqb eb (e_base rfl kf34)) (eqb eb (e_base rfl kf35)) (eqb eb ((e_hit rfl).trans (by rw [List.length_append]; rfl))) (fun st' m' b' h hk' => hk st' m' b' (e.trans h) (K106.out.trans hk')) (fun h t' m' b' hk' => hp (e.trans h) t' m' b' (K106.out.trans hk'))
   ·
    have K124 := K82.k k88 (fun _ h => h.elim)
    exact hp (by simp only [joinsH, okH, hf, c89, cond_false]) _ _ _ K124.out
end
end Go.Proofs.YtjefckdgpbdpeaaGreat
