/- A part of the proof of ScopeChecks. -/
import Derived.Test.YtmbeijhnjaadhaaGreatCg
namespace Go.Proofs.YtmbeijhnjaadhaaGreat
open Go Go.Abs
open Go.RowKit (Below)
set_option maxRecDepth 10000
noncomputable section
def ndAt (p : AProg) (n : Int) : ANode := p.nodes.getD n.toNat ⟨0, 0, nilS, nilS, [], []⟩
theorem ndAt_eq {p : AProg} {i : Nat} (hi : i < p.nodes.length) : ndAt p (Int.ofNat i) = p.nodes[i] := by
 unfold ndAt
 rw [show (Int.ofNat i).toNat = i from rfl, List.getD_eq_getElem?_getD, List.getElem?_eq_getElem hi]; rfl
def ownA (p : AProg) (n : Int) : List (Int × Int) := ownL (ownD p (ndAt p n)) (ndAt p n)
def wkN {σ τ : Type} (p : AProg) (step : σ → Int × Int → St σ τ) : Nat → Int × Int → σ → St σ τ
 | 0, _, s => .go s
 | k + 1, x, s => match step s x with
  | .go s' => foldSt (fun s c => wkN p step k (c.1, x.2 + c.2) s) s' (ownA p x.1)
  | .stop t => .stop t
  | .fail c => .fail c
structure Shown (p : AProg) (n : Int) : Prop where
 n0 : 0 ≤ n
 n1 : n < p.nodes.length
 d : (ndAt p n).op = 4 → 0 ≤ (ndAt p n).n ∧ (ndAt p n).n < p.defs.length
 o : OwnOK (ownD p (ndAt p n))
 m : 0 ≤ moreD (ownD p (ndAt p n)) ∧ moreD (ownD p (ndAt p n)) ≤ 60
theorem ownA_le {p : AProg} {n : Int} (h : Shown p n) : ∀ c, c ∈ ownA p n → 0 ≤ c.2 ∧ c.2 ≤ 100 := by
 intro c hc
 unfold ownA ownL at hc
 rcases List.mem_append.1 hc with hc | hc
 ·obtain ⟨r, hr, rfl⟩ := List.mem_map.1 hc
  have h1 := brought_le h.o.c r.joins
  have h2 := (h.o.j r hr).2
  have h3 := h.m
  show 0 ≤ moreD _ + broughtF _ _ ∧ moreD _ + broughtF _ _ ≤ 100
  omega
 ·rcases List.mem_append.1 hc with hc | hc
  ·obtain ⟨r, hr, rfl⟩ := List.mem_map.1 hc
   have h3 := h.m
   dsimp only; omega
  ·obtain ⟨r, hr, rfl⟩ := List.mem_map.1 hc
   have h3 := h.m
   dsimp only; omega
theorem wk_mu {σ τ : Type} {p : AProg} {step : σ → Int × Int → St σ τ} {μ : σ → Nat} (hμ : ∀ s x s', step s x = .go s' → μ s' < μ s) : ∀ (k : Nat) (x : Int × Int) (s s' : σ), wkN p step k x s = .go s' → μ s' ≤ μ s
 | 0, x, s, s', h => by cases h; exact Nat.le_refl _
 | k + 1, x, s, s', h => by
  rw [wkN] at h
  cases e : step s x with
  | go s1 =>
   rw [e] at h
   have h1 := hμ _ _ _ e
   have key : ∀ (l : List (Int × Int)) (a : σ), foldSt (fun s c => wkN p step k (c.1, x.2 + c.2) s) a l = .go s' → μ s' ≤ μ a := by
    intro l
    induction l with
    | nil => intro a h; cases h; exact Nat.le_refl _
    | cons c l ih =>
     intro a h
     rw [foldSt] at h
     cases e2 : wkN p step k (c.1, x.2 + c.2) a with
     | go a2 => rw [e2] at h; exact Nat.le_trans (ih a2 h) (wk_mu hμ k _ a a2 e2)
     | stop t => rw [e2] at h; cases h
     | fail c => rw [e2] at h; cases h
   have := key _ _ h
   omega
  | stop t => rw [e] at h; cases h
  | fail c => rw [e] at h; cases h
abbrev wF (y pb v : Nat) : AVal := .func (.func 40) [] [.ptr y 0, .ptr pb 0, .ptr v 0]
abbrev wkL (tm : T AVal) (d0 : Nat) : Lp := ⟨40, 32, tm, [23, 24], cAt [true, true, false, true, false, false] (bodyF Tryz.f40), cAt [true, true, false, true, false, true] (bodyF Tryz.f40), d0⟩
def okW (x : Int × Int) (_ : Mem) : Prop := 0 ≤ x.2 ∧ x.2 ≤ 2 ^ 38
variable {fl : Fl} (hfl : Tab fl)
include hfl
section
variable {σ τ : Type} {l : Nat} {L : Lp} {S : Nat → Prop} {B : Nat} {I : σ → Mem → Prop} {J : τ → Mem → Prop} {pe : τ → Code} {step : σ → Int × Int → St σ τ} {μ : σ → Nat} {p : AProg}
theorem wk_round (hR : RoundOK Tryz.prog fl l L S B I J pe (fun x => [iv x.1, iv x.2]) okW step) (hμ : ∀ s x s', step s x = .go s' → μ s' < μ s) {k M : Nat} {y pb v : Nat} {sz : Int} (ih : ∀ (x : Int × Int) (s : σ) {m : Mem}, μ s < k → 0 ≤ x.2 → x.2 + 100 * (μ s : Int) ≤ 2 ^ 38 → Wf m → B ≤ m.next → I s m → m.heap.get l = some (L.obj .ready none) → Cel m y [.yield l] → Cel m pb p.cells → p.OK m → Cel m v [wF y pb v] → CallQ Tryz.prog fl 40 [iv x.1, iv x.2, .ptr y 0, .ptr pb 0, .ptr v 0] m (EndR l L S I J pe m (wkN p step k x s)))
  {m3 : Mem} {l2 r6 r7 d2 : Nat} {tm : T AVal} (t4 : getT tm 4 = .ptr v 0) (t6 : getT tm 6 = .ptr r6 0) (t7 : getT tm 7 = .ptr r7 0) (_hB3 : B ≤ m3.next) (hM : M < k) (hsz : 0 ≤ sz ∧ sz + 100 + 100 * (M : Int) ≤ 2 ^ 38)
  (hl2 : l2 < m3.next) (h6l : r6 < m3.next) (h7l : r7 < m3.next) (hb : B ≤ l2 ∧ B ≤ r6 ∧ B ≤ r7) (hne : r6 ≠ r7 ∧ l2 ≠ r6 ∧ l2 ≠ r7) (hyB : (y < B ∧ pb < B ∧ v < B) ∧ ¬ S y ∧ ¬ S pb ∧ ¬ S v) (hy : Cel m3 y [.yield l]) (hpb : Cel m3 pb p.cells) (hp : p.OK m3) (hv : Cel m3 v [wF y pb v]) (h6 : Cel m3 r6 [iv sz]) :
  RoundOK Tryz.prog fl l2 (wkL tm d2) (fun q => S q ∨ q = r7 ∨ q = l2) m3.next (fun s m => I s m ∧ m.heap.get l = some (L.obj .ready none) ∧ Kept (fun q => S q ∨ q = r7 ∨ q = l2) m3 m ∧ Cel m r7 [.lit (.bool false)] ∧ μ s ≤ M) (fun t m => J t m ∧ m.heap.get l = some (L.obj .done (some (pe t))) ∧ Kept (fun q => S q ∨ q = r7 ∨ q = l2) m3 m ∧ Cel m r7 [.lit (.bool false)]) (fun _ => .ret) (fun (c : Int × Int) => [iv c.1, iv c.2]) (fun (c : Int × Int) _ => 0 ≤ c.2 ∧ c.2 ≤ 100) (fun s (c : Int × Int) => wkN p step k (c.1, sz + c.2) s) := by
 have _ := hfl
 have llt : l < B := hR.low l hR.here
 refine ⟨by kernel_rfl, fun x => rfl, .inr (.inr rfl), ?_, ?_, ?_, ?_⟩
 ·rintro q (h | rfl | rfl)
  ·have := hR.low q h; omega
  ·exact h7l
  ·exact hl2
 ·rintro s m m' ⟨h1, h2, h3, h4', h5⟩ k
  have n3 := h3.next
  exact ⟨hR.stab s m m' h1 (k.mono (fun q _ h => by show B ≤ q; have : m3.next ≤ q := h; omega)), (k.get l (by omega) (by show ¬ (m3.next ≤ l); omega)).trans h2, h3.then k (fun q hq h => by have : m3.next ≤ q := h; omega), h4'.kept k (by omega) (by show ¬ (m3.next ≤ r7); omega), h5⟩
 ·rintro s m m' ⟨h1, h2, h3, h4'⟩ k
  have n3 := h3.next
  exact ⟨hR.stabJ s m m' h1 (k.mono (fun q _ h => by show B ≤ q; have : m3.next ≤ q := h; omega)), (k.get l (by omega) (by show ¬ (m3.next ≤ l); omega)).trans h2, h3.then k (fun q hq h => by have : m3.next ≤ q := h; omega), h4'.kept k (by omega) (by show ¬ (m3.next ≤ r7); omega)⟩
 ·rintro s ⟨c1, c2⟩ m hw hBm ⟨hI, hl, hk, h7, hmu⟩ ⟨hc0, hc1⟩ hl2r
  have hc0 : 0 ≤ c2 := hc0
  have hc1 : c2 ≤ 100 := hc1
  show Wp Tryz.prog fl (At ⟨40, 32, false, some l2⟩ [.code (cAt [true, true, false, true, false, false] (bodyF Tryz.f40)), .beginRound, .code (cAt [true, true, false, true, false, true] (bodyF Tryz.f40))] (sets 32 tm [(24, iv c2), (23, iv c1)]) [] .run [] m) _
  have K0 : Kept (fun q => m.next ≤ q ∨ (fun q => S q ∨ q = r7 ∨ q = l2) q) m m := Kept.refl hw
  have hy' := hy.kept hk (by omega) (by rintro (h | h | h); exact hyB.2.1 h; all_goals omega)
  have hpb' := hpb.kept hk (by omega) (by rintro (h | h | h); exact hyB.2.2.1 h; all_goals omega)
  have hv' := hv.kept hk (by omega) (by rintro (h | h | h); exact hyB.2.2.2 h; all_goals omega)
  have h6' := h6.kept hk (by omega) (by rintro (h | h | h); (have := hR.low _ h; omega); all_goals omega)
  have hp' := hp.kept hk
  obtain ⟨⟨ey, hyr⟩, fy⟩ := hy'
  obtain ⟨⟨ep, hpr⟩, fp⟩ := hpb'
  obtain ⟨⟨ev, hvr⟩, fv⟩ := hv'
  obtain ⟨⟨e6, h6r⟩, f6⟩ := h6'
  obtain ⟨⟨e7, h7r⟩, f7⟩ := h7
  have lt7 := hw.lt h7r
  have ltl2 := hw.lt hl2r
  have b1 : -(2 ^ 62) ≤ sz + c2 := by omega
  have b2 : sz + c2 < 2 ^ 62 := by omega
  refine gg ?_
  refine w_begin rfl hl2r ?_
  obtain ⟨m1, g2⟩ : ∃ m', Wrote m m' l2 ((wkL tm d2).obj .busy none) ∧ m' = m.put l2 ((wkL tm d2).obj .busy none) := ⟨_, wrote _ _ _, rfl⟩
  rw [show m.put l2 (.loop ⟨.busy, none, 40, 32, tm, [23, 24], cAt [true, true, false, true, false, false] (bodyF Tryz.f40), cAt [true, true, false, true, false, true] (bodyF Tryz.f40), d2⟩) = m1 from g2.2.symm]
  replace g2 := g2.1
  have n3 := g2.next
  have K4 := K0.w g2 hl2r (fun _ h => by cases h) (Or.inr (Or.inr (Or.inr rfl)))
  have h5 := (g2.other v (by omega)).trans hvr
  have h6r := (g2.other r6 (by omega)).trans h6r
  have f6 := (g2.famo r6).trans f6
  have h7y := (g2.other y (by omega)).trans hyr
  have f8 := (g2.famo y).trans fy
  have f9 := (g2.famo v).trans fv
  have hp8 := (g2.other pb (by omega)).trans hpr
  have fp8 := (g2.famo pb).trans fp
  refine gg ?_
  have kb : Kept (fun q => B ≤ q) m m1 := Kept.wrote hw g2 hl2r (fun _ h => by cases h) (by show B ≤ l2; omega)
  refine s_callR rfl rfl rfl rfl (o_callF v0 (me2 v0 v0)) (ih (c1, sz + c2) s (by omega) (by dsimp only; omega) (by dsimp only; omega) kb.wf (by omega) (hR.stab s m _ hI kb) ((kb.get l (by omega) (by show ¬ (B ≤ l); omega)).trans hl) (Cel.of h7y f8) (Cel.of hp8 fp8) (hp'.kept kb) (Cel.of h5 f9)) ?_ ?_ ?_
  ·
   intro s' e m9 k9 hI9 hl9
   have K9 := K4.k k9 (fun q h => Or.inr (Or.inl h))
   refine gg ?_
   have h10 := (k9.get l2 (by omega) (by intro h; have := hR.low _ h; omega)).trans g2.same
   have h11 := (g2.other r7 (by omega)).trans h7r
   have h12 := (k9.get r7 (by omega) (by intro h; have := hR.low _ h; omega)).trans h11
   have f13 := (g2.famo r7).trans f7
   have f14 := (k9.fam r7 (by omega) (by intro h; have := hR.low _ h; omega)).trans f13
   refine w_roundEnd rfl h10 ?_
   show EndR _ _ _ _ _ _ _ (wkN p step k (c1, sz + c2) s) _
   have hmu2 := wk_mu hμ k _ s s' e
   rw [e]
   have gE := wrote m9 l2 ((wkL tm d2).obj .ready none)
   have KE := K9.w gE h10 (fun _ h => by cases h) (Or.inr (Or.inr (Or.inr rfl)))
   have kE : Kept (fun q => B ≤ q) m9 _ := Kept.wrote K9.wf gE h10 (fun _ h => by cases h) (by show B ≤ l2; omega)
   exact ⟨_, _, rfl, KE.out, ⟨hR.stab _ _ _ hI9 kE, (gE.other l (by omega)).trans hl9, hk.then KE.out (fun _ _ h => h), Cel.of ((gE.other r7 (by omega)).trans h12) ((gE.famo r7).trans f14), by omega⟩, gE.same⟩
  ·
   intro t e m9 k9 hJ9 hl9
   have n9 := k9.next
   have K9 := K4.k k9 (fun q h => Or.inr (Or.inl h))
   refine gg ?_
   have h15 := (g2.other r7 (by omega)).trans h7r
   have h16 := (k9.get r7 (by omega) (by intro h; have := hR.low _ h; omega)).trans h15
   have f17 := (g2.famo r7).trans f7
   have f18 := (k9.fam r7 (by omega) (by intro h; have := hR.low _ h; omega)).trans f17
   refine s_put0 rfl rfl rfl (o_store rfl (e_base rfl t7) h16 f18 sz_4 rfl rfl rfl rfl) (fun m19 g20 => ?_)
   have n21 := g20.next
   have K22 := K9.w g20 h16 (fun _ h => by cases h) (Or.inr (Or.inr (Or.inl rfl)))
   refine gg ?_
   have h23 := (k9.get l2 (by omega) (by intro h; have := hR.low _ h; omega)).trans g2.same
   have h24 := hxM m19 l2
   have f25 := fxM m19 r7
   refine w_roundRet rfl h24 ?_
   show EndR _ _ _ _ _ _ _ (wkN p step k (c1, sz + c2) s) _
   rw [e]
   have gE := wrote m19 l2 ((wkL tm d2).obj .done (some .ret))
   have KE := K22.w gE h24 (fun _ h => by cases h) (Or.inr (Or.inr (Or.inr rfl)))
   have kE0 : Kept (fun q => B ≤ q) m9 m19 := Kept.wrote K9.wf g20 h16 (fun _ h => by cases h) (by show B ≤ r7; omega)
   have kE : Kept (fun q => B ≤ q) m9 _ := kE0.trans (Kept.wrote K22.wf gE h24 (fun _ h => by cases h) (by show B ≤ l2; omega))
   exact ⟨_, _, rfl, KE.out, ⟨hR.stabJ _ _ _ hJ9 kE, (kE.get l (by omega) (by show ¬ (B ≤ l); omega)).trans hl9, hk.then KE.out (fun _ _ h => h), Cel.of ((gE.other r7 (by omega)).trans g20.same) ((gE.famo r7).trans f25)⟩, gE.same⟩
  ·
   intro c e m9 k9
   have K9 := K4.k k9 (fun q h => Or.inr (Or.inl h))
   refine w_panics ?_
   show EndR _ _ _ _ _ _ _ (wkN p step k (c1, sz + c2) s) _
   rw [e]; exact ⟨_, _, rfl, K9.out⟩
end
end
noncomputable section
variable {fl : Fl} (hfl : Tab fl)
include hfl
section
variable {σ τ : Type} {l : Nat} {L : Lp} {S : Nat → Prop} {B : Nat} {I : σ → Mem → Prop} {J : τ → Mem → Prop} {pe : τ → Code} {step : σ → Int × Int → St σ τ} {μ : σ → Nat} {p : AProg}
theorem wvisit_ok (hR : RoundOK Tryz.prog fl l L S B I J pe (fun x => [iv x.1, iv x.2]) okW step) (hμ : ∀ s x s', step s x = .go s' → μ s' < μ s) (hS : ∀ s x s', step s x = .go s' → Shown p x.1) {y pb v : Nat} (hyB : (y < B ∧ pb < B ∧ v < B) ∧ ¬ S y ∧ ¬ S pb ∧ ¬ S v) : ∀ (k : Nat) (x : Int × Int) (s : σ) {m : Mem}, μ s < k → 0 ≤ x.2 → x.2 + 100 * (μ s : Int) ≤ 2 ^ 38 → Wf m → B ≤ m.next → I s m → m.heap.get l = some (L.obj .ready none) → Cel m y [.yield l] → Cel m pb p.cells → p.OK m → Cel m v [wF y pb v] → CallQ Tryz.prog fl 40 [iv x.1, iv x.2, .ptr y 0, .ptr pb 0, .ptr v 0] m (EndR l L S I J pe m (wkN p step k x s)) := by
 intro k
 induction k with
 | zero => intro x s m h; omega
 | succ k ih =>
  rintro ⟨n, sz⟩ s m hsz hz0 hz1 hw hBm hI hl hy hpb hp hv
  dsimp only at hz0 hz1
  have llt : l < B := hR.low l hR.here
  refine hfl.start (by decide) 32 Tryz.func40 rfl rfl (Nat.le_of_ble_eq_true rfl) ?_
  intro bs hb
  have ar0 := hb 0 _ rfl
  have ar1 := hb 1 _ rfl
  have ar2 := hb 2 _ rfl
  have ar3 := hb 3 _ rfl
  have ar4 := hb 4 _ rfl
  clear hb
  have K : Kept (fun q => m.next ≤ q ∨ noS q) m m := Kept.refl hw
  have hy0 := hy
  have hpb0 := hpb
  have hv0 := hv
  obtain ⟨⟨ey, hyr⟩, fy⟩ := hy
  have qy := hw.lt hyr
  refine gg ?_
  refine s_new rfl rfl rfl rfl (o_box (e_base rfl ar1) rfl) (fun m1 g => ?_)
  have n1 := g.next
  have h6 := g.same
  have f6 := g.fam0 K.wf
  have K := K.g g
  have hyr := (g.other y (by omega)).trans hyr
  refine s_new rfl rfl rfl rfl (o_alloc ZcF.h) (fun m2 g => ?_)
  have n2 := g.next
  have h7 := g.same
  have f7 := g.fam0 K.wf
  have h6 := (g.other m.next (by omega)).trans h6
  have f6 := (g.famo m.next).trans f6
  have hyr := (g.other y (by omega)).trans hyr
  have K := K.g g
  have kb : Kept (fun q => B ≤ q) m m2 := K.out.mono (fun _ _ h => h.elim)
  refine gg ?_
  refine s_yield hR (s := s) (x := (n, sz)) rfl rfl rfl rfl v0 (me2 v0 v0) K.wf (by omega) (hR.stab s m _ hI kb) ⟨hz0, by dsimp only; omega⟩ ((kb.get l (by omega) (by show ¬ (B ≤ l); omega)).trans hl) ?_ ?_ ?_
  rotate_left
  ·intro t e m9 k9 hJ9 hl9
   have n9 := k9.next
   have K9 : Kept (fun q => m.next ≤ q ∨ S q) m m9 := (K.mono (fun q _ h => h.elim Or.inl (fun h => h.elim))).trans (k9.mono (fun q _ h => Or.inr h))
   have h79 := (k9.get m1.next (by omega) (by intro h; have := hR.low _ h; omega)).trans h7
   have f79 := (k9.fam m1.next (by omega) (by intro h; have := hR.low _ h; omega)).trans f7
   refine gg ?_
   refine s_put0 rfl rfl rfl (o_store rfl v0 h79 f79 sz_4 rfl rfl rfl rfl) (fun m3 g => ?_)
   have K3 := K9.w g h79 (fun _ h => by cases h) (Or.inl (by omega))
   refine gg ?_
   refine w_retAt rfl ?_
   refine w_results Tryz.func40 (rvc1 v0 (lv1 g.same tg_4 sz_4 rfl rfl)) ?_
   rw [show wkN p step (k + 1) (n, sz) s = .stop t from by simp only [wkN, e]]
   have kE : Kept (fun q => B ≤ q) m9 m3 := Kept.wrote K9.wf g h79 (fun _ h => by cases h) (by show B ≤ m1.next; omega)
   exact ⟨_, _, rfl, K3.out, hR.stabJ _ _ _ hJ9 kE, (kE.get l (by omega) (by show ¬ (B ≤ l); omega)).trans hl9⟩
  ·intro c e m9 k9
   have K9 : Kept (fun q => m.next ≤ q ∨ S q) m m9 := (K.mono (fun q _ h => h.elim Or.inl (fun h => h.elim))).trans (k9.mono (fun q _ h => Or.inr h))
   refine w_panics ?_
   rw [show wkN p step (k + 1) (n, sz) s = .fail c from by simp only [wkN, e]]
   exact ⟨_, _, rfl, K9.out⟩
  intro s' e m9 k9 hI9 hl9
  have hmu := hμ _ _ _ e
  have hsh := hS _ _ _ e
  have n9 := k9.next
  have K9 : Kept (fun q => m.next ≤ q ∨ S q) m m9 := (K.mono (fun q _ h => h.elim Or.inl (fun h => h.elim))).trans (k9.mono (fun q _ h => Or.inr h))
  have c6 : Cel m9 m.next [iv sz] := Cel.of ((k9.get m.next (by omega) (by intro h; have := hR.low _ h; omega)).trans h6) ((k9.fam m.next (by omega) (by intro h; have := hR.low _ h; omega)).trans f6)
  have c7 : Cel m9 m1.next [.lit (.bool false)] := Cel.of ((k9.get m1.next (by omega) (by intro h; have := hR.low _ h; omega)).trans h7) ((k9.fam m1.next (by omega) (by intro h; have := hR.low _ h; omega)).trans f7)
  have cy : Cel m9 y [.yield l] := hy0.kept K9 qy (by rintro (h | h); omega; exact hyB.2.1 h)
  have cp : Cel m9 pb p.cells := hpb0.kept K9 (hpb0.lt hw) (by rintro (h | h); omega; exact hyB.2.2.1 h)
  have cv : Cel m9 v [wF y pb v] := hv0.kept K9 (hv0.lt hw) (by rintro (h | h); omega; exact hyB.2.2.2 h)
  have hp9 := hp.kept K9
  obtain ⟨⟨ep, hpr⟩, fp⟩ := id cp
  have hpr : m9.heap.get pb = some (.row ep [p.fv, p.nv, p.dv, iv p.main] pb 0) := hpr
  have ap : allCells [p.fv, p.nv, p.dv, iv p.main] = true := ac1 hp9.f.cell (ac1 hp9.n.cell (ac1 hp9.d.cell (ac1 rfl rfl)))
  have cn := hp9.n.cell
  obtain ⟨i, ei⟩ : ∃ i : Nat, n = Int.ofNat i := ⟨n.toNat, by have := hsh.n0; show n = (n.toNat : Int); dsimp only at this; omega⟩
  have hi : i < p.nodes.length := by have h := hsh.n1; dsimp only at h; rw [ei] at h; have h : (i : Int) < (p.nodes.length : Int) := h; omega
  obtain ⟨r, off, c, ex, row, hv1, hr, ht⟩ := at_of hp9.n hi
  have eN : ndAt p n = p.nodes[i] := by rw [ei]; exact ndAt_eq hi
  rw [← eN] at ht
  have hnd : (ndAt p n).OK m9 := by rw [eN]; exact hp9.no _ (List.getElem_mem hi)
  have an : allCells (ndAt p n).cells = true := ac1 rfl (ac1 rfl (ac1 hnd.a.cell (ac1 hnd.k.cell rfl)))
  refine gg ?_
  refine w_draw (.L 0 0 1 (.L 1 0 0 (.L 2 2 0 (.L 3 6 1 (.L 4 0 0 (.L 5 30 0 (.L 6 62 1 (.H 7 127 3 .fin)))))))) rfl (by kernel_rfl) ?_
  refine d_light1 rfl rfl rfl rfl (o_loadRowA (off := 0) (e_base rfl ar3) hpr TyF.h (TyF.z (g := true)) (takeW rfl ap)) ?_
  refine gg ?_
  refine d_light0 rfl rfl rfl rfl (o_indexAddr ((e_hit rfl).trans hv1) ((e_hit rfl).trans (congrArg iv ei)) ElF.h hi) ?_
  refine d_light1 rfl rfl rfl rfl (o_loadRoA v0 hr (TyF.h (s := _)) (TyF.z (g := true)) ht) ?_
  refine d_call rfl rfl rfl rfl (o_calls (me2 v0 v0)) (own_ok hfl (p := p) (e := ndAt p n) K9.wf) (lk_skip (by kernel_rfl) (lk_skip (by kernel_rfl) (lk_skip (by kernel_rfl) lk0))) ?_ (by rintro _ _ _ ⟨_, _, h, _⟩; cases h)
  rintro _ _ mo ⟨_, _, hret, ko, no, hob, hon⟩
  cases hret
  refine ⟨(ck_skip (by kernel_rfl) (ck_skip (by kernel_rfl) (ck_skip (by kernel_rfl) ck0))), ?_⟩
  have w9 := K9.wf
  have q6 := c6.lt w9
  have q7 := c7.lt w9
  have qy9 := cy.lt w9
  have qp9 := cp.lt w9
  have qv9 := cv.lt w9
  have c6 := c6.kept ko q6 id
  have c7 := c7.kept ko q7 id
  have cy := cy.kept ko qy9 id
  have cp := cp.kept ko qp9 id
  have cv := cv.kept ko qv9 id
  have hpo := hp9.kept ko
  have hndo := hnd.kept ko
  have kbo : Kept (fun q => B ≤ q) m9 mo := ko.mono (fun _ _ h => h.elim)
  have hIo := hR.stab _ _ _ hI9 kbo
  have hlo := (kbo.get l (by omega) (by show ¬ (B ≤ l); omega)).trans hl9
  have Ko := K9.k ko (fun _ h => h.elim)
  have nko := ko.next
  refine gg ?_
  obtain ⟨r6, e6⟩ : ∃ r, r = m.next := ⟨_, rfl⟩
  obtain ⟨r7, e7⟩ : ∃ r, r = m1.next := ⟨_, rfl⟩
  rw [← e6] at c6
  rw [← e7] at c7
  refine Wp.gen (fun tm etm => ?_)
  have t4 : getT tm 4 = .ptr v 0 := eqb etm (e_base rfl ar4)
  have t6 : getT tm 6 = .ptr r6 0 := by rw [e6]; exact eqb etm v0
  have t7 : getT tm 7 = .ptr r7 0 := by rw [e7]; exact eqb etm v0
  have tf : evalT tm (.tmp 22) = .func (.func 72) [] [.ptr (m9.next + 1) 0, .ptr m9.next 0] := eqb etm v0
  clear etm
  have wo := Ko.wf
  have gA := grew mo (.deferred (some []))
  obtain ⟨mA, eA⟩ : ∃ mA, mA = mo.new (.deferred (some [])) := ⟨_, rfl⟩
  rw [← eA] at gA
  have gB := grew mA ((wkL tm mo.next).obj .ready none)
  obtain ⟨m3, e3⟩ : ∃ m3, m3 = mA.new ((wkL tm mo.next).obj .ready none) := ⟨_, rfl⟩
  rw [← e3] at gB
  have KA := (Kept.refl (S := fun q => mo.next ≤ q ∨ noS q) wo).g gA
  have KB := KA.g gB
  have nA := gA.next
  have nB := gB.next
  have hm3 : loopM mo ⟨40, 32, false, none⟩ tm (#[23, 24] : Array Tmp).toList (cAt [true, true, false, true, false, false] (bodyF Tryz.f40)) (cAt [true, true, false, true, false, true] (bodyF Tryz.f40)) = m3 := by rw [e3, eA]; rfl
  have kb3 : Kept (fun q => B ≤ q) mo m3 := KB.out.mono (fun _ _ h => h.elim)
  have ltr6 := c6.lt wo
  have ltr7 := c7.lt wo
  have gl2 : m3.heap.get (mo.next + 1) = some ((wkL tm mo.next).obj .ready none) := by rw [← nA]; exact gB.same
  have gd : m3.heap.get mo.next = some (.deferred (some [])) := (gB.other _ (by omega)).trans gA.same
  have hI3 := hR.stab _ _ _ hIo kb3
  have hl3 := (kb3.get l (by omega) (by show ¬ (B ≤ l); omega)).trans hlo
  have R2 := wk_round hfl hR hμ (k := k) (M := μ s') (y := y) (pb := pb) (v := v) (sz := sz) (fun x s m a b c d e f g h i j o => ih x s a b c d e f g h i j o) (m3 := m3) (l2 := mo.next + 1) (d2 := mo.next) t4 t6 t7 (by omega) (by omega) ⟨hz0, by omega⟩ (by omega) (by omega) (by omega) ⟨by omega, by omega, by omega⟩ ⟨by omega, by omega, by omega⟩ hyB (cy.kept KB.out (by omega) id) (cp.kept KB.out (by omega) id) (hpo.kept KB.out) (cv.kept KB.out (by omega) id) (c6.kept KB.out (by omega) id)
  have c73 := c7.kept KB.out ltr7 id
  have hcall := own1_ok hfl R2 (fun q m m' h k => h) (fun q m m' h k => h) (p := p) (e := ndAt p n) (nb := m9.next + 1) (pb := m9.next) hsh.d hsh.o (by rintro (h | h | h); (have := hR.low _ h; omega); all_goals omega) (s := s') (m := m3) KB.wf (Nat.le_refl _) ⟨hI3, hl3, Kept.refl KB.wf, c73, Nat.le_refl _⟩ gl2 (hpo.kept KB.out) (hndo.kept KB.out) (hon.kept KB.out (by omega) id) (hob.kept KB.out (by omega) id) (fun c hc => ownA_le hsh c hc)
  have ev : wkN p step (k + 1) (n, sz) s = foldSt (fun s (c : Int × Int) => wkN p step k (c.1, sz + c.2) s) s' (ownL (ownD p (ndAt p n)) (ndAt p n)) := by simp only [wkN, e]; rfl
  rw [ev]
  have hg2 : callTarget Tryz.prog [.ptr (m9.next + 1) 0, .ptr m9.next 0] (appL [] [.yield (mo.next + 1)]) (loopM mo ⟨40, 32, false, none⟩ tm (#[23, 24] : Array Tmp).toList (cAt [true, true, false, true, false, false] (bodyF Tryz.f40)) (cAt [true, true, false, true, false, true] (bodyF Tryz.f40))) (.fn (.func 72) #[]) = .enter 72 [.yield (mo.next + 1), .ptr (m9.next + 1) 0, .ptr m9.next 0] m3 := by rw [hm3]; rfl
  refine w_rangeF (args := []) rfl (by rw [tf]; rfl) hg2 hcall ?_ ?_
  ·intro vv u m4 hend
   cases hf : foldSt (fun s (c : Int × Int) => wkN p step k (c.1, sz + c.2) s) s' (ownL (ownD p (ndAt p n)) (ndAt p n)) with
   | go z =>
    rw [hf] at hend
    obtain ⟨_, _, _, eq, k4, ⟨hI4, hl4, _, c74, _⟩, hl24⟩ := hend
    cases eq
    have n4 := k4.next
    refine w_after hl24 (by intro h; cases h) ?_
    have gC := wrote m4 (mo.next + 1) ((wkL tm mo.next).obj .exhausted none)
    obtain ⟨m5, e5⟩ : ∃ m5, m5 = m4.put (mo.next + 1) ((wkL tm mo.next).obj .exhausted none) := ⟨_, rfl⟩
    rw [← e5] at gC
    change Wp Tryz.prog fl (At _ _ (sets 32 tm []) _ _ _ (m4.put (mo.next + 1) ((wkL tm mo.next).obj .exhausted none))) _
    rw [← e5]
    have gd4 := (k4.get mo.next (by omega) (by rintro (h | h | h); (have := hR.low _ h; omega); all_goals omega)).trans gd
    have gd5 := (gC.other mo.next (by omega)).trans gd4
    obtain ⟨⟨e7', h7r⟩, f7⟩ := c74
    have KM : Kept (fun q => m.next ≤ q ∨ S q) m m4 := (Ko.then KB.out (fun _ _ h => h.elim)).then k4 (fun q hq h => by rcases h with h | h | h; exact Or.inr h; all_goals (exact Or.inl (by omega)))
    have KN := KM.w gC hl24 (fun _ h => by cases h) (Or.inl (by omega))
    have nC := gC.next
    have h7r5 := (gC.other r7 (by omega)).trans h7r
    have f75 := (gC.famo r7).trans f7
    have kc : Kept (fun q => B ≤ q) m4 m5 := Kept.wrote KM.wf gC hl24 (fun _ h => by cases h) (by show B ≤ mo.next + 1; omega)
    refine gg ?_
    refine s_put0 rfl rfl rfl (o_store rfl (e_base rfl t7) h7r5 f75 sz_4 rfl rfl rfl rfl) (fun m27 g28 => ?_)
    have n29 := g28.next
    have K30 := KN.w g28 h7r5 (fun _ h => by cases h) (Or.inl (by omega))
    refine gg ?_
    refine w_retAt rfl ?_
    have gdz := (g28.other mo.next (by omega)).trans gd5
    refine w_coll (by intro h; cases h) gdz ?_
    have gE := wrote m27 mo.next (.deferred none)
    obtain ⟨mE, eE⟩ : ∃ mE, mE = m27.put mo.next (.deferred none) := ⟨_, rfl⟩
    rw [← eE] at gE ⊢
    have KE := K30.w gE gdz (fun _ h => by cases h) (Or.inl (by omega))
    refine w_results Tryz.func40 (rvc1 (e_base rfl t7) (lv1 ((gE.other r7 (by omega)).trans g28.same) tg_4 sz_4 rfl rfl)) ?_
    have kE : Kept (fun q => B ≤ q) m4 mE := kc.trans (Kept.trans (Kept.wrote KN.wf g28 h7r5 (fun _ h => by cases h) (by show B ≤ r7; omega)) (Kept.wrote K30.wf gE gdz (fun _ h => by cases h) (by show B ≤ mo.next; omega)))
    exact ⟨_, _, rfl, KE.out, hR.stab _ _ _ hI4 kE, (kE.get l (by omega) (by show ¬ (B ≤ l); omega)).trans hl4⟩
   | stop z =>
    rw [hf] at hend
    obtain ⟨_, _, _, eq, k4, ⟨hI4, hl4, _, c74⟩, hl24⟩ := hend
    cases eq
    have n4 := k4.next
    refine w_after hl24 (by intro h; cases h) ?_
    have gC := wrote m4 (mo.next + 1) ((wkL tm mo.next).obj .exhausted (some .ret))
    obtain ⟨m5, e5⟩ : ∃ m5, m5 = m4.put (mo.next + 1) ((wkL tm mo.next).obj .exhausted (some .ret)) := ⟨_, rfl⟩
    rw [← e5] at gC
    change Wp Tryz.prog fl (At _ _ (sets 32 tm []) _ _ _ (m4.put (mo.next + 1) ((wkL tm mo.next).obj .exhausted (some .ret)))) _
    rw [← e5]
    have gd4 := (k4.get mo.next (by omega) (by rintro (h | h | h); (have := hR.low _ h; omega); all_goals omega)).trans gd
    have gd5 := (gC.other mo.next (by omega)).trans gd4
    obtain ⟨⟨e7', h7r⟩, f7⟩ := c74
    have KM : Kept (fun q => m.next ≤ q ∨ S q) m m4 := (Ko.then KB.out (fun _ _ h => h.elim)).then k4 (fun q hq h => by rcases h with h | h | h; exact Or.inr h; all_goals (exact Or.inl (by omega)))
    have KN := KM.w gC hl24 (fun _ h => by cases h) (Or.inl (by omega))
    have nC := gC.next
    have h7r5 := (gC.other r7 (by omega)).trans h7r
    have kc : Kept (fun q => B ≤ q) m4 m5 := Kept.wrote KM.wf gC hl24 (fun _ h => by cases h) (by show B ≤ mo.next + 1; omega)
    show Wp Tryz.prog fl (At _ (.code .ret :: _) _ _ _ _ _) _
    refine w_retAt rfl ?_
    refine w_coll (by intro h; cases h) gd5 ?_
    have gE := wrote m5 mo.next (.deferred none)
    obtain ⟨mE, eE⟩ : ∃ mE, mE = m5.put mo.next (.deferred none) := ⟨_, rfl⟩
    rw [← eE] at gE ⊢
    have KE := KN.w gE gd5 (fun _ h => by cases h) (Or.inl (by omega))
    refine w_results Tryz.func40 (rvc1 (e_base rfl t7) (lv1 ((gE.other r7 (by omega)).trans h7r5) tg_4 sz_4 rfl rfl)) ?_
    have kE : Kept (fun q => B ≤ q) m4 mE := kc.trans (Kept.wrote KN.wf gE gd5 (fun _ h => by cases h) (by show B ≤ mo.next; omega))
    exact ⟨_, _, rfl, KE.out, hR.stabJ _ _ _ hI4 kE, (kE.get l (by omega) (by show ¬ (B ≤ l); omega)).trans hl4⟩
   | fail z => rw [hf] at hend; obtain ⟨_, _, eq, _⟩ := hend; cases eq
  ·intro c u m4 hend
   cases hf : foldSt (fun s (c : Int × Int) => wkN p step k (c.1, sz + c.2) s) s' (ownL (ownD p (ndAt p n)) (ndAt p n)) with
   | go z => rw [hf] at hend; obtain ⟨_, _, _, eq, _⟩ := hend; cases eq
   | stop z => rw [hf] at hend; obtain ⟨_, _, _, eq, _⟩ := hend; cases eq
   | fail z =>
    rw [hf] at hend
    obtain ⟨_, _, eq, k4⟩ := hend
    cases eq
    have gd4 := (k4.get mo.next (by omega) (by rintro (h | h | h); (have := hR.low _ h; omega); all_goals omega)).trans gd
    have KM : Kept (fun q => m.next ≤ q ∨ S q) m m4 := (Ko.then KB.out (fun _ _ h => h.elim)).then k4 (fun q hq h => by rcases h with h | h | h; exact Or.inr h; all_goals (exact Or.inl (by omega)))
    refine w_coll (by intro h; cases h) gd4 ?_
    have KE := KM.w (wrote m4 mo.next (.deferred none)) gd4 (fun _ h => by cases h) (Or.inl (by omega))
    refine w_panics ?_
    exact ⟨_, _, rfl, KE.out⟩
theorem walk1_ok (hR : RoundOK Tryz.prog fl l L S B I J pe (fun x => [iv x.1, iv x.2]) okW step) (hμ : ∀ s x s', step s x = .go s' → μ s' < μ s) (hS : ∀ s x s', step s x = .go s' → Shown p x.1) {k : Nat} {n sz : Int} {s : σ} {m : Mem} {b1 b2 b3 : Nat} (hk : μ s < k) (hz0 : 0 ≤ sz) (hz1 : sz + 100 * (μ s : Int) ≤ 2 ^ 38) (hw : Wf m) (hB : B ≤ m.next) (hI : I s m) (hl : m.heap.get l = some (L.obj .ready none)) (c1 : Cel m b1 p.cells) (c2 : Cel m b2 [iv n]) (c3 : Cel m b3 [iv sz]) (hS1 : b1 < B ∧ ¬ S b1) (hp : p.OK m) : CallQ Tryz.prog fl 39 [.yield l, .ptr b1 0, .ptr b2 0, .ptr b3 0] m (EndC l L S I J pe m (wkN p step k (n, sz) s)) := by
 have llt : l < B := hR.low l hR.here
 refine hfl.start (by decide) 11 Tryz.func39 rfl rfl (Nat.le_of_ble_eq_true rfl) ?_
 intro bs hb
 have ar0 := hb 0 _ rfl
 have ar1 := hb 1 _ rfl
 have ar2 := hb 2 _ rfl
 have ar3 := hb 3 _ rfl
 clear hb
 have K : Kept (fun q => m.next ≤ q ∨ noS q) m m := Kept.refl hw
 have q1 := c1.lt hw
 have c10 := c1
 obtain ⟨⟨e2, h2⟩, f2⟩ := c2
 obtain ⟨⟨e3, h3⟩, f3⟩ := c3
 have q2 := hw.lt h2
 have q3 := hw.lt h3
 refine gg ?_
 refine s_new rfl rfl rfl rfl (o_box (e_base rfl ar0) rfl) (fun m1 g => ?_)
 have n1 := g.next
 have h4 := g.same
 have f4 := g.fam0 K.wf
 have K := K.g g
 have h2 := (g.other b2 (by omega)).trans h2
 have h3 := (g.other b3 (by omega)).trans h3
 refine gg ?_
 refine s_new rfl rfl rfl rfl (o_alloc ZcF.h) (fun m2 g => ?_)
 have n2 := g.next
 have h5 := g.same
 have f5 := g.fam0 K.wf
 have h4 := (g.other m.next (by omega)).trans h4
 have f4 := (g.famo m.next).trans f4
 have h2 := (g.other b2 (by omega)).trans h2
 have h3 := (g.other b3 (by omega)).trans h3
 have K := K.g g
 refine gg ?_
 refine s_val rfl rfl rfl rfl (o_makeF (fn := .func 40) (fs := []) (cs := [.ptr m.next 0, .ptr b1 0, .ptr m1.next 0]) rfl rfl (me3 v0 (e_base rfl ar1) v0)) ?_
 refine s_put0 rfl rfl rfl (o_store v0 v0 h5 f5 TyF.z rfl rfl rfl rfl) (fun m3 g => ?_)
 have n3 := g.next
 have K := K.w g h5 (fun _ h => by cases h) (Or.inl (by omega))
 have f5 := (g.famo m1.next).trans f5
 have h5 : m3.heap.get m1.next = some (.row (104, 0) [wF m.next b1 m1.next] m1.next 0) := g.same
 have h4 := (g.other m.next (by omega)).trans h4
 have f4 := (g.famo m.next).trans f4
 have h2 := (g.other b2 (by omega)).trans h2
 have h3 := (g.other b3 (by omega)).trans h3
 have kb : Kept (fun q => B ≤ q) m m3 := K.out.mono (fun _ _ h => h.elim)
 refine gg ?_
 have RU := roundUp hR (B' := m3.next) (by omega)
 refine s_callR rfl rfl rfl rfl (o_callF v0 (me2 v0 v0)) (wvisit_ok hfl RU hμ hS (y := m.next) (pb := b1) (v := m1.next) ⟨⟨by omega, by omega, by omega⟩, (by intro h; have := hR.low _ h; omega), hS1.2, (by intro h; have := hR.low _ h; omega)⟩ k (n, sz) s hk hz0 hz1 K.wf (Nat.le_refl _) (hR.stab s m _ hI kb) ((kb.get l (by omega) (by show ¬ (B ≤ l); omega)).trans hl) (Cel.of h4 f4) (c10.kept K q1 (by rintro (h | h); omega; exact h)) (hp.kept K) (Cel.of h5 f5)) ?_ ?_ ?_
 ·intro s' e m9 k9 hI9 hl9
  have K9 : Kept S m m9 := (K.out.mono (fun _ _ h => h.elim)).trans k9
  refine gg ?_
  refine w_fall rfl ?_
  refine w_results Tryz.func39 rv0 ?_
  rw [e]; exact ⟨_, _, _, rfl, K9, hI9, hl9⟩
 ·intro t e m9 k9 hJ9 hl9
  have K9 : Kept S m m9 := (K.out.mono (fun _ _ h => h.elim)).trans k9
  refine gg ?_
  refine w_fall rfl ?_
  refine w_results Tryz.func39 rv0 ?_
  rw [e]; exact ⟨_, _, _, rfl, K9, hJ9, hl9⟩
 ·intro c e m9 k9
  have K9 : Kept S m m9 := (K.out.mono (fun _ _ h => h.elim)).trans k9
  refine w_panics ?_
  rw [e]; exact ⟨_, _, rfl, K9⟩
end
theorem walk_ok {m : Mem} {p : AProg} {n sz : Int} (hw : Wf m) : CallQ Tryz.prog fl 21 [.agg p.cells, iv n, iv sz] m (fun r => ∃ u m', r = .ret (.func (.func 39) [] [.ptr m.next 0, .ptr (m.next + 1) 0, .ptr (m.next + 2) 0]) u m' ∧ Kept noS m m' ∧ m.next + 2 < m'.next ∧ Cel m' m.next p.cells ∧ Cel m' (m.next + 1) [iv n] ∧ Cel m' (m.next + 2) [iv sz]) := by
 refine hfl.start (by decide) 8 Tryz.func21 rfl rfl (Nat.le_of_ble_eq_true rfl) ?_
 intro bs hb
 have ar0 := hb 0 _ rfl
 have ar1 := hb 1 _ rfl
 have ar2 := hb 2 _ rfl
 clear hb
 have K : Kept (fun q => m.next ≤ q ∨ noS q) m m := Kept.refl hw
 refine gg ?_
 refine s_new rfl rfl rfl rfl (o_box (e_base rfl ar0) rfl) (fun m1 g => ?_)
 have n1 := g.next
 have h1 := g.same
 have f1 := g.fam0 K.wf
 have K := K.g g
 refine s_new rfl rfl rfl rfl (o_box (e_base rfl ar1) rfl) (fun m2 g => ?_)
 have n2 := g.next
 have h2 := g.same
 have f2 := g.fam0 K.wf
 have h1 := (g.other m.next (by omega)).trans h1
 have f1 := (g.famo m.next).trans f1
 have K := K.g g
 refine s_new rfl rfl rfl rfl (o_box (e_base rfl ar2) rfl) (fun m3 g => ?_)
 have n3 := g.next
 have h3 := g.same
 have f3 := g.fam0 K.wf
 have h1 := (g.other m.next (by omega)).trans h1
 have f1 := (g.famo m.next).trans f1
 have h2 := (g.other m1.next (by omega)).trans h2
 have f2 := (g.famo m1.next).trans f2
 have K := K.g g
 refine gg ?_
 refine s_val rfl rfl rfl rfl (o_makeF (fn := .func 39) (fs := []) (cs := [.ptr m.next 0, .ptr m1.next 0, .ptr m2.next 0]) rfl rfl (me3 v0 v0 v0)) ?_
 refine gg ?_
 refine w_retAt rfl ?_
 refine w_results Tryz.func21 (rv1 v0) ?_
 have e2 : m2.next = m.next + 2 := by omega
 rw [e2] at h3 f3 ⊢
 rw [n1] at h2 f2 ⊢
 exact ⟨_, _, rfl, K.out, by omega, Cel.of h1 f1, Cel.of h2 f2, Cel.of h3 f3⟩
end
noncomputable section
abbrev SV := SI × SI
def putN (n sz : Int) (s : SI) : SI := (addI n (iv sz) s.1 s.2, clkI n s.1 s.2)
def kidsB (p : AProg) (x : Int × Int) (s : SV) : Option SV :=
 if (ndAt p x.1).op = 4 then (bif (!inI (ndAt p x.1).n s.2.1) && defB (dfAt p (ndAt p x.1).n) then some (putN x.1 x.2 s.1, putI (ndAt p x.1).n s.2) else none) else some (putN x.1 x.2 s.1, s.2)
def stepO (p : AProg) (s : SV) (x : Int × Int) : Option SV :=
 bif (decide (0 ≤ x.1) && decide (x.1 ≤ Int.ofNat p.nodes.length - 1)) && !inI x.1 s.1.1 then
  (bif nodeB p.defs.length x.2 (ndAt p x.1).op (ndAt p x.1).n (ndAt p x.1).args.length (ndAt p x.1).kids.length && (ndAt p x.1).args.all (argB x.2) then kidsB p x s else none)
 else none
def MapsAt (m : Mem) (ws wk : Nat) (s : SV) : Prop := m.heap.get ws = some (.map (entsI s.1.1) s.1.2) ∧ m.heap.get wk = some (.map (entsI s.2.1) s.2.2)
theorem o_extractL {tmps : T AVal} {m : Mem} {x : Operand} {i : Nat} {vs : Array Value} {v : Value} (hx : evalT tmps x = .lit (.tuple vs)) (h : getO vs.toList i = some v) : aop Tryz.prog tmps m (.extract x i) = .val (.lit v) m := by
 show extractOp i m (evalT tmps x) = _
 rw [hx]
 show valO m "extract" ((getO vs.toList i).map .lit) = _
 rw [h]; rfl
variable {fl : Fl} (hfl : Tab fl)
include hfl
theorem args_loop {cp : Nat} {z8 : AVal} {sz n : Int} {av : AVal} (hs1 : 0 ≤ sz) (hs2 : sz ≤ 2 ^ 40) {els : List AX} (k : List AItem) {Q : RR → Prop} {up : Chain} : ∀ (rest pre : List AX) {m : Mem} (b : T AVal), els = pre ++ rest → Wf m → SlA m av 3 (els.map AX.cells) → (∀ e, e ∈ els → AX.OK m e) → getT b 0 = .ptr cp 0 → getT b 1 = iv n → getT b 2 = iv sz → getT b 8 = z8 → getT b 57 = av → getT b 58 = goI els.length → getT b 59 = goI pre.length →
  (∀ (m' : Mem) (b' : T AVal), Kept noS m m' → rest.all (argB sz) = true → getT b' 0 = .ptr cp 0 → getT b' 1 = iv n → getT b' 2 = iv sz → getT b' 8 = z8 → Wp Tryz.prog fl (At ⟨22, 98, false, none⟩ k b' [] .run up m') Q) →
  (∀ (m' : Mem) (t : List AItem) (b' : T AVal), Kept noS m m' → rest.all (argB sz) = false → Wp Tryz.prog fl (At ⟨22, 98, false, none⟩ t b' [] (.panicking unfC) up m') Q) →
  Wp Tryz.prog fl (At ⟨22, 98, false, none⟩ (.code (cAt [true, true, true, true, true, false, true, false, false] (bodyF Tryz.f22)) :: .inLoop (cAt [true, true, true, true, true, false, true, false, false] (bodyF Tryz.f22)) :: .inBlock 0 :: k) (sets 98 b []) [] .run up m) Q := by
 intro rest
 induction rest with
 | nil =>
  intro pre m b hsp hw hsl hok k0 k1 k2 k8 k26 k27 k28 hk hp
  have hlt : decide (Int.ofNat pre.length < Int.ofNat els.length) = false := by subst hsp; simp
  refine gg ?_
  refine Wp.gen (fun b' eb => ?_)
  exact hk _ b' (Kept.refl hw) rfl (eqb eb (e_base rfl k0)) (eqb eb (e_base rfl k1)) (eqb eb (e_base rfl k2)) (eqb eb (e_base rfl k8))
 | cons y rest ih =>
  intro pre m b hsp hw hsl hok k0 k1 k2 k8 k26 k27 k28 hk hp
  have hlt : decide (Int.ofNat pre.length < Int.ofNat els.length) = true := by subst hsp; simp; omega
  have hln := hsl.lnT hsp
  have K : Kept (fun q => m.next ≤ q ∨ noS q) m m := Kept.refl hw
  have hy := hok y (by simp [hsp])
  have hsl0 := hsl
  obtain ⟨r, off, c0, ex, row, hv, hlx, hr, htk⟩ := hsl.here hsp
  have hyO := hy
  obtain ⟨op, nn, kv, kids⟩ := y
  have ha : allCells [iv op, iv nn, kv] = true := ax_cells hy
  refine gg ?_
  refine s_val rfl rfl rfl rfl (o_indexAddr ((e_base rfl k26).trans hv) (e_base rfl k28) ElF.h hlx) ?_
  refine s_val rfl rfl rfl rfl (o_loadRoA v0 hr (TyF.h (s := _)) (TyF.z (g := true)) htk) ?_
  refine gg ?_
  refine s_new rfl rfl rfl rfl (o_alloc ZcF.h) (fun m1 g => ?_)
  have n1 := g.next
  have h := g.same
  have f := g.fam0 K.wf
  have K := K.g g
  refine gg ?_
  refine s_put0 rfl rfl rfl (o_store (v := .agg [iv op, iv nn, kv]) v0 v0 h f TyF.z rfl rfl ha rfl) (fun m2 g2 => ?_)
  have K := K.w g2 h (fun _ h => by cases h) (Or.inl (by omega))
  have h : m2.heap.get m.next = some (.row (112, 0) [iv op, iv nn, kv] m.next 0) := g2.same
  refine gg ?_
  refine s_val rfl rfl rfl rfl (o_loadRowA (off := 0) v0 h TyF.h (TyF.z (g := true)) (takeW rfl ha)) ?_
  refine gg ?_
  have e : (AX.mk op nn kv kids :: rest).all (argB sz) = (argB sz (.mk op nn kv kids) && rest.all (argB sz)) := rfl
  rw [e] at hk hp
  refine s_stepE K (Kept.refl (S := noS) K.wf) (o_calls (me3 v0 v0 v0)) (argument_ok hfl (cp := cp) (e := .mk op nn kv kids) hs1 hs2 (hyO.kept K) K.wf) (fun z m' K _ _ => ?_) (fun z m' K _ => ?_)
  rotate_left
  ·exact hp _ _ _ K.out (by rw [z]; rfl)
  rw [z, Bool.true_and] at hk hp
  refine gg ?_
  refine w_inLoop ?_
  refine Wp.gen (fun b' eb => ?_)
  exact ih (pre ++ [_]) b' (by simp only [List.append_assoc, List.singleton_append]; exact hsp) K.wf (hsl0.kept K) (fun e he => (hok e he).kept K) (eqb eb (e_base rfl k0)) (eqb eb (e_base rfl k1)) (eqb eb (e_base rfl k2)) (eqb eb (e_base rfl k8)) (eqb eb (e_base rfl k26)) (eqb eb (e_base rfl k27)) (eqb eb ((e_hit rfl).trans (by rw [List.length_append]; rfl))) (fun m' b' k h => hk m' b' (K.out.trans k) h) (fun m' t b' k h => hp m' t b' (K.out.trans k) h)
theorem vst_ok {m : Mem} {c ws wk : Nat} (hwk : ws ≠ wk) {p : AProg} {n sz : Int} {s : SV} (hs1 : 0 ≤ sz) (hs2 : sz ≤ 2 ^ 40) (hc : Cel m c (chkC p ws wk)) (hp : p.OK m) (hm : MapsAt m ws wk s) (hset : setI s.2.1) (hw : Wf m) : CallQ Tryz.prog fl 22 [.ptr c 0, iv n, iv sz] m (StepQ (fun q => q = ws ∨ q = wk) m (stepO p s (n, sz)).isSome (fun m' => ∀ s', stepO p s (n, sz) = some s' → MapsAt m' ws wk s')) := by
 refine hfl.start (by decide) 98 Tryz.func22 rfl rfl (Nat.le_of_ble_eq_true rfl) ?_
 intro bs hb
 have ar0 := hb 0 _ rfl
 have ar1 := hb 1 _ rfl
 have ar2 := hb 2 _ rfl
 clear hb
 have K : Kept (fun q => m.next ≤ q ∨ (fun q => q = ws ∨ q = wk) q) m m := Kept.refl hw
 obtain ⟨hm1, hm2⟩ := hm
 have ltc := hc.lt hw
 have hc0 := hc
 have qs := hw.lt hm1
 have qk := hw.lt hm2
 obtain ⟨⟨ec, hcr⟩, fc⟩ := hc
 have hcr : m.heap.get c = some (.row ec [p.fv, p.nv, p.dv, iv p.main, .map ws, .map wk] c 0) := hcr
 have ncs : c ≠ ws := by rintro rfl; rw [hcr] at hm1; cases hm1
 have nck : c ≠ wk := by rintro rfl; rw [hcr] at hm2; cases hm2
 have cn := hp.n.cell
 have ln := hp.n.lenM
 have hnl := hp.n.lt
 rw [List.length_map] at hnl
 have b1 : -(2 ^ 62) ≤ Int.ofNat p.nodes.length - 1 := by have : Int.ofNat p.nodes.length = (p.nodes.length : Int) := rfl; omega
 have b2 : Int.ofNat p.nodes.length - 1 < 2 ^ 62 := by have : Int.ofNat p.nodes.length = (p.nodes.length : Int) := rfl; omega
 have bad : ∀ {mm : Mem} {b : Bool}, Kept (fun q => m.next ≤ q ∨ (fun q => q = ws ∨ q = wk) q) m mm → stepO p s (n, sz) = none → StepQ (fun q => q = ws ∨ q = wk) m (stepO p s (n, sz)).isSome (fun m' => ∀ s', stepO p s (n, sz) = some s' → MapsAt m' ws wk s') (.panicked unfC [] mm) := by
  intro mm b K h
  exact .inr ⟨by rw [h]; rfl, _, _, rfl, K.out⟩
 refine gg ?_
 by_cases hin : inI n s.1.1 = true
 ·obtain ⟨v, hv⟩ : ∃ v, findI n s.1.1 = some v := Option.isSome_iff_exists.1 hin
  refine s_val rfl rfl rfl rfl (o_lookupIO v0 v0 hm1 mk_215 ui3 tz3 (by rw [hv])) ?_
  refine gg ?_
  refine s_callE K (Kept.refl (S := noS) K.wf) (o_calls (me3 v0 rfl v0)) (among_ok hfl _ _ _ K.wf) (fun m1 K k1 => ?_)
  refine gg ?_
  refine sg (fun c1 => ?_) (fun c1 => ?_) <;> refine gg ?_
  all_goals
   refine s_stepE K (Kept.refl (S := noS) K.wf) (o_calls (me1 v0)) (demand_ok hfl _ K.wf) (fun z m2 K _ _ => ?_) (fun z m2 K _ => ?_)
   ·cases z
   ·refine w_panics ?_
    exact bad (b := true) K (by unfold stepO; dsimp only; rw [hin, Bool.not_true, Bool.and_false]; rfl)
 have hin : inI n s.1.1 = false := by simpa using hin
 have hfn : findI n s.1.1 = none := by unfold inI at hin; simpa using hin
 refine s_val rfl rfl rfl rfl (o_lookupIO v0 v0 hm1 mk_215 ui3 tz3 (by rw [hfn])) ?_
 refine gg ?_
 refine s_val rfl rfl rfl rfl (o_extractL v0 rfl) ?_
 refine s_val rfl rfl rfl rfl (o_extractL v0 rfl) ?_
 refine gg ?_
 refine s_callE K (Kept.refl (S := noS) K.wf) (o_calls (me3 v0 rfl v0)) (among_ok hfl _ _ _ K.wf) (fun m1 K k1 => ?_)
 refine gg ?_
 refine sg (fun c1 => ?_) (fun c1 => ?_)
 rotate_left
 ·have c1 : (decide (0 ≤ n) && decide (n ≤ Int.ofNat p.nodes.length - 1)) = false := c1
  refine gg ?_
  refine s_stepE K (Kept.refl (S := noS) K.wf) (o_calls (me1 v0)) (demand_ok hfl _ K.wf) (fun z m2 K _ _ => ?_) (fun z m2 K _ => ?_)
  ·first | cases z | (rw [c1] at z; cases z)
  ·refine w_panics ?_
   exact bad (b := true) K (by unfold stepO; dsimp only; rw [c1]; rfl)
 have c1 : (decide (0 ≤ n) && decide (n ≤ Int.ofNat p.nodes.length - 1)) = true := c1
 refine gg ?_
 refine s_stepE K k1 (o_calls (me1 v0)) (demand_ok hfl _ K.wf) (fun z m2 K k2 _ => ?_) (fun z m2 K _ => ?_)
 rotate_left
 ·cases z
 have c1' := c1
 rw [Bool.and_eq_true, decide_eq_true_eq, decide_eq_true_eq] at c1'
 obtain ⟨i, rfl⟩ : ∃ i : Nat, n = Int.ofNat i := ⟨n.toNat, by show n = (n.toNat : Int); omega⟩
 have hi : i < p.nodes.length := by have h : (i : Int) ≤ (p.nodes.length : Int) - 1 := c1'.2; omega
 have hcr2 := (k2.get c ltc id).trans hcr
 have hm12 := (k2.get ws qs id).trans hm1
 have hm22 := (k2.get wk qk id).trans hm2
 have fc2 := (k2.fam c ltc id).trans fc
 refine gg ?_
 refine s_put0 rfl rfl rfl (o_updateI v0 v0 v0 hm12 mk_215 ui3 (fun u e => by rw [hfn] at e; cases e)) (fun m3 g => ?_)
 have n3 := g.next
 have n2 := k2.next
 have K := K.w g hm12 (fun _ h => by cases h) (Or.inr (.inl rfl))
 have hm13 := g.same
 have hm23 := (g.other wk (by omega)).trans hm22
 have hcr3 := (g.other c (by omega)).trans hcr2
 have fc3 := (g.famo c).trans fc2
 have hp3 := hp.kept K
 obtain ⟨r, off, cc, ex, row, hv1, hr, ht⟩ := at_of hp3.n hi
 have eN : ndAt p (Int.ofNat i) = p.nodes[i] := ndAt_eq hi
 rw [← eN] at ht
 have hnd : (ndAt p (Int.ofNat i)).OK m3 := by rw [eN]; exact hp3.no _ (List.getElem_mem hi)
 generalize hx : ndAt p (Int.ofNat i) = x at *
 have an : allCells x.cells = true := ac1 rfl (ac1 rfl (ac1 hnd.a.cell (ac1 hnd.k.cell rfl)))
 have ca := hnd.a.cell
 have la := hnd.a.lenM
 refine gg ?_
 refine s_val rfl rfl rfl rfl (o_indexAddr ((e_hit rfl).trans hv1) v0 ElF.h hi) ?_
 refine s_val rfl rfl rfl rfl (o_loadRoA v0 hr (TyF.h (s := _)) (TyF.z (g := true)) ht) ?_
 refine gg ?_
 refine s_new rfl rfl rfl rfl (o_alloc ZcF.h) (fun m4 g => ?_)
 have n4 := g.next
 have h8 := g.same
 have f8 := g.fam0 K.wf
 have K := K.g g
 have hm14 := (g.other ws (by omega)).trans hm13
 have hm24 := (g.other wk (by omega)).trans hm23
 have hcr4 := (g.other c (by omega)).trans hcr3
 have fc4 := (g.famo c).trans fc3
 refine gg ?_
 refine s_put0 rfl rfl rfl (o_store (v := .agg x.cells) v0 v0 h8 f8 TyF.z rfl rfl an rfl) (fun m5 g => ?_)
 have n5 := g.next
 have K := K.w g h8 (fun _ h => by cases h) (Or.inl (by omega))
 have f8 := (g.famo m3.next).trans f8
 have h8 : m5.heap.get m3.next = some (.row (69, 0) [iv x.op, iv x.n, x.av, x.kv] m3.next 0) := g.same
 have hm15 := (g.other ws (by omega)).trans hm14
 have hm25 := (g.other wk (by omega)).trans hm24
 have hcr5 := (g.other c (by omega)).trans hcr4
 have fc5 := (g.famo c).trans fc4
 have hp5 := hp.kept K
 have hnd5 : x.OK m5 := by rw [eN]; exact hp5.no _ (List.getElem_mem hi)
 have q8 := K.wf.lt h8
 have qs5 := K.wf.lt hm15
 have qk5 := K.wf.lt hm25
 have qc5 := K.wf.lt hcr5
 refine gg ?_
 refine s_val rfl rfl rfl rfl (o_loadRowA (off := 0) v0 h8 TyF.h (TyF.z (g := true)) (takeW rfl an)) ?_
 refine gg ?_
 refine s_val rfl rfl rfl rfl (o_makeI v0 co_244 rfl) ?_
 refine gg ?_
 have e1 : stepO p s (Int.ofNat i, sz) = bif nodeB p.defs.length sz x.op x.n x.args.length x.kids.length && x.args.all (argB sz) then kidsB p (Int.ofNat i, sz) s else none := by
  unfold stepO; dsimp only; rw [c1, hin, hx]; rfl
 refine s_stepE K (Kept.refl (S := noS) K.wf) (o_calls (me3 v0 v0 v0)) (look_nd hfl (c := c) (ws := ws) (wk := wk) (p := p) (e := x) hs1 hs2 (Cel.of hcr5 fc5) hp5 hnd5 K.wf) (fun z1 m6 K k6 _ => ?_) (fun z1 m6 K _ => ?_)
 rotate_left
 ·refine w_panics ?_
  exact bad (b := true) K (by rw [e1, z1]; rfl)
 rw [z1, Bool.true_and] at e1
 have h86 := (k6.get _ q8 id).trans h8
 have f86 := (k6.fam _ q8 id).trans f8
 have hm16 := (k6.get _ qs5 id).trans hm15
 have hm26 := (k6.get _ qk5 id).trans hm25
 have hcr6 := (k6.get _ qc5 id).trans hcr5
 have n6 := k6.next
 have hnd6 := hnd5.kept k6
 refine gg ?_
 refine w_loop ?_
 refine Wp.gen (fun b0 eb => ?_)
 refine args_loop hfl (cp := c) (z8 := .ptr m3.next 0) (n := Int.ofNat i) (sz := sz) hs1 hs2 (els := x.args) _ x.args [] b0 rfl K.wf hnd6.a hnd6.e (eqb eb (e_base rfl ar0)) (eqb eb (e_base rfl ar1)) (eqb eb (e_base rfl ar2)) (eqb eb v0) (eqb eb v0) (eqb eb v0) (eqb eb v0) (fun m7 b7 k7 z2 p0 p1 p2 p8 => ?_) (fun m7 t b7 k7 z2 => ?_)
 rotate_left
 ·have K := K.k k7 (fun _ h => h.elim)
  refine w_panics ?_
  exact bad (b := true) K (by rw [e1, z2]; rfl)
 rw [z2, cond_true] at e1
 have K := K.k k7 (fun _ h => h.elim)
 have h87 := (k7.get _ (by omega) id).trans h86
 have hm17 := (k7.get _ (by omega) id).trans hm16
 have hm27 := (k7.get _ (by omega) id).trans hm26
 have hcr7 := (k7.get _ (by omega) id).trans hcr6
 have n7 := k7.next
 change Wp Tryz.prog fl (At _ _ (sets 98 b7 []) _ _ _ _) _
 refine gg ?_
 refine w_cond v0 (fun z4 => ?_) (fun z4 => ?_)
 rotate_left
 ·have z4 := ne_of_beq_false z4
  refine w_skip ?_
  refine w_fall rfl ?_
  refine w_results Tryz.func22 rv0 ?_
  have e2 : stepO p s (Int.ofNat i, sz) = some (putN (Int.ofNat i) sz s.1, s.2) := by rw [e1]; unfold kidsB; dsimp only; rw [hx, if_neg z4]
  exact .inl ⟨by rw [e2]; rfl, _, _, rfl, K.out, fun s' h => by rw [e2] at h; cases h; exact ⟨hm17, hm27⟩⟩
 have z4 := eq_of_beq z4
 have e2 : stepO p s (Int.ofNat i, sz) = bif (!inI x.n s.2.1) && defB (dfAt p x.n) then some (putN (Int.ofNat i) sz s.1, putI x.n s.2) else none := by rw [e1]; unfold kidsB; dsimp only; rw [hx, if_pos z4]
 have z1' := z1
 rw [nb_def z4, Bool.and_eq_true, Bool.and_eq_true, Bool.and_eq_true, decide_eq_true_eq, decide_eq_true_eq] at z1'
 obtain ⟨j, ej⟩ : ∃ j : Nat, x.n = Int.ofNat j := ⟨x.n.toNat, by show x.n = (x.n.toNat : Int); omega⟩
 have hj : j < p.defs.length := by have h := z1'.2.2.2; rw [ej] at h; have h : (j : Int) ≤ (p.defs.length : Int) - 1 := h; omega
 have kk := Kept.refl (S := noS) K.wf
 refine gg ?_
 refine w_draw (.L 0 0 0 (.L 1 1 0 (.L 2 3 0 (.L 3 7 1 (.L 4 0 0 (.L 5 16 1 (.L 6 63 1 (.L 7 127 0 (.H 8 255 3 .fin))))))))) rfl (by kernel_rfl) ?_
 refine gg ?_
 refine d_light1 rfl rfl rfl rfl (o_lookupI v0 v0 hm27 mk_216 ui3 tz4 (look_set hset)) ?_
 refine gg ?_
 refine d_stepE K kk (o_calls (me1 v0)) (demand_ok hfl _ K.wf) (lk_skip (by kernel_rfl) (lk_skip (by kernel_rfl) (lk_skip (by kernel_rfl) lk0))) (fun z5 m8 K k8 _ => ?_) (fun z5 m8 K k8 => ?_)
 rotate_left
 ·refine w_panics ?_
  exact bad (b := true) K (by rw [e2, show (!inI x.n s.2.1) = false from z5]; rfl)
 have z5 : (!inI x.n s.2.1) = true := z5
 rw [z5, Bool.true_and] at e2
 refine ⟨(ck_skip (by kernel_rfl) (ck_skip (by kernel_rfl) (ck_skip (by kernel_rfl) ck0))), ?_⟩
 have hm18 := (k8.get _ (by omega) id).trans hm17
 have hm28 := (k8.get _ (by omega) id).trans hm27
 have h88 := (k8.get _ (by omega) id).trans h87
 have hcr8 := (k8.get _ (by omega) id).trans hcr7
 have n8 := k8.next
 refine gg ?_
 refine w_draw (.L 0 0 0 (.L 1 1 0 (.L 2 3 0 (.L 3 7 1 (.L 4 0 0 (.L 5 16 1 (.H 6 63 3 .fin))))))) rfl (by kernel_rfl) ?_
 refine gg ?_
 refine d_put0 rfl rfl rfl (o_updateI (v := .lit (.bool true)) v0 v0 rfl hm28 mk_216 ui3 (fun u e => findI_set hset u e)) (lk_skip (by kernel_rfl) (lk_skip (by kernel_rfl) lk0)) (fun m9 g9 => ?_)
 refine ⟨(ck_skip (by kernel_rfl) (ck_skip (by kernel_rfl) ck0)), ?_⟩
 have n9 := g9.next
 have K := K.w g9 hm28 (fun _ h => by cases h) (Or.inr (.inr rfl))
 have hm29 := g9.same
 have hm19 := (g9.other ws (by omega)).trans hm18
 have h89 := (g9.other m3.next (by omega)).trans h88
 have hcr9 := (g9.other c (by omega)).trans hcr8
 have hp9 := hp.kept K
 have cd := hp9.d.cell
 obtain ⟨rd, offd, cd1, exd, rowd, hvd, hrd, htd⟩ := at_of hp9.d hj
 have eD : dfAt p x.n = p.defs[j] := by rw [ej]; exact dfAt_eq hj
 have hdj : (dfAt p x.n).OK m9 := by rw [eD]; exact hp9.do_ _ (List.getElem_mem hj)
 rw [← eD] at htd
 have adj : allCells (dfAt p x.n).cells = true := ac1 hdj.c.cell (ac1 hdj.s.cell (ac1 hdj.r.cell rfl))
 refine gg ?_
 refine w_draw (.L 0 0 0 (.L 1 0 0 (.L 2 2 0 (.L 3 6 0 (.L 4 14 0 (.L 5 30 0 (.L 6 62 1 (.L 7 0 0 (.L 8 128 1 (.L 9 510 0 (.L 10 1022 1 (.H 11 2047 3 .fin)))))))))))) rfl (by kernel_rfl) ?_
 refine gg ?_
 refine d_light0 rfl rfl rfl rfl (o_indexAddr ((e_hit rfl).trans hvd) ((e_hit rfl).trans (congrArg iv ej)) ElF.h hj) ?_
 refine d_light1 rfl rfl rfl rfl (o_loadRoA v0 hrd (TyF.h (s := _)) (TyF.z (g := true)) htd) ?_
 refine d_stepE K (Kept.refl (S := noS) K.wf) (o_calls (me2 v0 v0)) (definition_ok hfl hdj K.wf) (lk_skip (by kernel_rfl) (lk_skip (by kernel_rfl) (lk_skip (by kernel_rfl) lk0))) (fun z6 m10 K k10 _ => ?_) (fun z6 m10 K k10 => ?_)
 rotate_left
 ·refine w_panics ?_
  exact bad (b := true) K (by rw [e2, z6]; rfl)
 rw [z6, cond_true] at e2
 refine ⟨(ck_skip (by kernel_rfl) (ck_skip (by kernel_rfl) (ck_skip (by kernel_rfl) ck0))), ?_⟩
 have hm1a := (k10.get _ (by omega) id).trans hm19
 have hm2a := (k10.get _ (by omega) id).trans hm29
 refine gg ?_
 refine w_fall rfl ?_
 refine w_results Tryz.func22 rv0 ?_
 exact .inl ⟨by rw [e2]; rfl, _, _, rfl, K.out, fun s' h => by rw [e2] at h; cases h; exact ⟨hm1a, hm2a⟩⟩
end
noncomputable section
def low (b : UInt8) : Bool := !(decide (b.toNat < 97)) && !(decide (122 < b.toNat))
def speltB (s : ByteArray) : Bool := decide (1 ≤ s.size) && decide (s.size ≤ 8) && s.data.toList.all low
theorem u9 : Tryz.prog.underlying 9 = some .string := by kernel_rfl
def kwB : List ByteArray := [⟨#[97, 110, 100]⟩, ⟨#[100, 101, 102]⟩, ⟨#[101, 108, 115, 101]⟩, ⟨#[103, 111]⟩, ⟨#[105, 102]⟩, ⟨#[105, 110]⟩, ⟨#[112, 108, 97, 99, 101]⟩, ⟨#[115, 116, 111, 112]⟩, ⟨#[116, 104, 101, 110]⟩, ⟨#[119, 97, 116, 99, 104]⟩]
def refNameB (s : ByteArray) : Bool := decide (1 ≤ s.size) && decide (s.size ≤ 8) && (s.data.toList.all low && !isIn s kwB)
def nameB (s : ByteArray) : Bool := speltB s && !isIn s kwB
def kwL : List (ByteArray × Nat) := kwB.zip [0, 1, 2, 3, 4, 5, 6, 7, 8, 9]
theorem keys_kwL : keysE kwL = kwB := rfl
theorem name_same (s : ByteArray) : nameB s = refNameB s := by
 unfold nameB speltB refNameB
 rw [Bool.and_assoc]
theorem un_22 : Tryz.prog.underlying 22 = some (.slice 9) := SlF.h
theorem el_22 : sizedElem Tryz.prog (sliceElem Tryz.prog 22) = some (9, 1) := ElF.h
theorem tg_9 : tagg Tryz.prog 9 = some false := TyF.h (s := 1)
theorem sz_9 : tsz Tryz.prog 9 = some 1 := TyF.z (g := false)
theorem mk_252 : Abs.mapKey Tryz.prog 158 = some (9, 4) := by kernel_rfl
variable {fl : Fl} (hfl : Tab fl)
include hfl
omit hfl in
def StL (fl : Fl) (f nt ix : Nat) (c : Code) (w : Bool) : Prop := ∀ (s : ByteArray) (k : List AItem) {Q : RR → Prop} {up : Chain} {m : Mem} (rest pre : List UInt8) (b : T AVal), s.data.toList = pre ++ rest → s.size ≤ 8 → getT b 0 = .lit (.string s) → (w = true → getT b 13 = goI s.size) → getT b ix = goI pre.length →
 (∀ b', getT b' 0 = .lit (.string s) → rest.all low = true → Wp Tryz.prog fl (At ⟨f, nt, false, none⟩ k b' [] .run up m) Q) → (∀ b', rest.all low = false → getT b' 2 = .lit (.bool false) → Wp Tryz.prog fl (At ⟨f, nt, false, none⟩ [] b' [] .returning up m) Q) →
 Wp Tryz.prog fl (At ⟨f, nt, false, none⟩ (.code c :: .inLoop c :: .inBlock 0 :: k) (sets nt b []) [] .run up m) Q
omit hfl in
theorem st_all : StL fl 70 28 14 (cAt [true, true, false, true, false, false] (bodyF Tryz.f70)) true ∧ StL fl 24 32 3 (cAt [true, true, false, true, false, false] (bodyF Tryz.f24)) false := by
 refine ⟨?_, ?_⟩ <;> unfold StL <;> (
 intro s k Q up m rest
 induction rest with
 | nil =>
  intro pre b hsp hs k0 k13 kx hk ht
  try have k13 := k13 rfl
  have hz : s.size = pre.length := by have h := congrArg List.length hsp; rw [Array.length_toList] at h; simp at h; exact h
  have hlt : decide (Int.ofNat pre.length < Int.ofNat s.size) = false := by rw [hz]; simp
  refine gg ?_
  refine Wp.gen (fun b' eb => ?_)
  exact hk _ (eqb eb (e_base rfl k0)) rfl
 | cons x rest ih =>
  intro pre b hsp hs k0 k13 kx hk ht
  have k13' := k13
  try have k13 := k13 rfl
  have hz : s.size = pre.length + 1 + rest.length := by have h := congrArg List.length hsp; rw [Array.length_toList] at h; simp at h; first | omega | (show s.data.size = _; omega)
  have hlt : decide (Int.ofNat pre.length < Int.ofNat s.size) = true := by rw [hz]; simp; omega
  have hln : pre.length + 1 < 2 ^ 62 := by omega
  have hx : s.data.toList[pre.length]? = some x := by rw [hsp]; simp
  refine gg ?_
  refine sg (fun c => ?_) (fun c => ?_)
  ·refine gg ?_
   refine w_cond v0 (fun d => ?_) (fun d => ?_)
   ·refine gg ?_
    refine w_retAt rfl ?_
    exact ht _ (by simp [low, d]) v0
   ·refine gg ?_
    refine w_inLoop ?_
    refine Wp.gen (fun b' eb => ?_)
    have hl : low x = true := by simp [low, c, d]
    exact ih (pre ++ [x]) b' (by simp [hsp]) hs (eqb eb (e_base rfl k0)) (fun h => by first | exact eqb eb (e_base rfl (k13' h)) | cases h) (eqb eb ((e_hit rfl).trans (by rw [List.length_append]; rfl))) (fun b' h0 h => hk b' h0 (by simp [hl, h])) (fun b' h h2 => ht b' (by simp [hl, h]) h2)
  ·refine gg ?_
   refine w_retAt rfl ?_
   exact ht _ (by simp [low, c]) v0)
theorem spelt_ok {m : Mem} (s : ByteArray) (hw : Wf m) : CallQ Tryz.prog fl 70 [.lit (.string s)] m (Rets noS m (.lit (.bool (speltB s)))) := by
 refine hfl.start (by decide) 28 Tryz.func70 rfl rfl (Nat.le_of_ble_eq_true rfl) ?_
 intro bs hb
 have ar0 := hb 0 _ rfl
 clear hb
 refine gg ?_
 refine sg (fun c => ?_) (fun c => ?_)
 ·have c1 : 1 ≤ s.size := by have := of_decide_eq_false c; simp only [Int.ofNat_eq_natCast] at this; omega
  refine gg ?_
  refine w_cond v0 (fun d => ?_) (fun d => ?_)
  ·refine gg ?_
   refine w_retAt rfl ?_
   refine w_results Tryz.func70 (rv1 v0) ?_
   rw [show speltB s = false by have := of_decide_eq_true d; simp only [Int.ofNat_eq_natCast] at this; simp [speltB]; omega]
   exact ⟨_, _, rfl, Kept.refl hw⟩
  ·have c8 : s.size ≤ 8 := by have := of_decide_eq_false d; simp only [Int.ofNat_eq_natCast] at this; omega
   have e : speltB s = s.data.toList.all low := by simp [speltB, c1, c8]
   refine gg ?_
   refine w_loop ?_
   refine Wp.gen (fun b' eb => ?_)
   refine st_all.1 s _ s.data.toList [] b' rfl c8 (eqb eb (e_base rfl ar0)) (fun _ => eqb eb v0) (eqb eb v0) ?_ ?_
   ·intro b1 _ h
    change Wp Tryz.prog fl (At _ _ (sets 28 b1 []) _ _ _ _) _
    refine gg ?_
    refine w_retAt rfl ?_
    refine w_results Tryz.func70 (rv1 v0) ?_
    rw [e, h]; exact ⟨_, _, rfl, Kept.refl hw⟩
   ·intro b1 h h2
    refine w_results Tryz.func70 (rv1 h2) ?_
    rw [e, h]; exact ⟨_, _, rfl, Kept.refl hw⟩
 ·refine gg ?_
  refine w_retAt rfl ?_
  refine w_results Tryz.func70 (rv1 v0) ?_
  rw [show speltB s = false by have := of_decide_eq_true c; simp only [Int.ofNat_eq_natCast] at this; simp [speltB]; omega]
  exact ⟨_, _, rfl, Kept.refl hw⟩
omit hfl in
theorem o_insertB {tmps : T AVal} {m : Mem} {t kt et : TypeId} {x y z : Operand} {r c : Nat} {l : List (ByteArray × Nat)} {s : ByteArray} (hx : evalT tmps x = .map r) (hy : evalT tmps y = .lit (.string s)) (hz : evalT tmps z = .lit (.bool true)) (hr : m.heap.get r = some (.map (ents l) c))
  (ht : Abs.mapKey Tryz.prog t = some (kt, et)) (hk : Tryz.prog.underlying kt = some .string) : aop Tryz.prog tmps m (.insert t x y z) = .val .poison (m.put r (.map (ents (addE s l c)) (addC s l c))) := o_updateB hx hy hz hr ht hk
omit hfl in
theorem s_defer0 {fl : Fl} {Q : RR → Prop} {env : Env} {k : List AItem} {ds : List ADef} {up : Chain} {m : Mem} {tmps : T AVal} {all rest : List Oper} {o : Oper} {c : Call} {d : ADef} (hg : gd all tmps o.guard = some true) (ho : o.op = .defer c) (hd : o.dst = none) (hc : resolveC tmps c = some d) (hr : env.roundOf = none)
  (w : Wp Tryz.prog fl (Rg Tryz.prog fl env all k rest tmps (d :: ds) up m) Q) : Wp Tryz.prog fl (Rg Tryz.prog fl env all k (o :: rest) tmps ds up m) Q := by
 refine q_defer hg ho hc hr ?_
 rw [hd]; exact w
omit hfl in
theorem o_neqNil {tmps : T AVal} {m : Mem} {t t' : TypeId} {x y : Operand} {z : TypeId} {v : AVal} (hx : evalT tmps x = .iface t' v) (hy : evalT tmps y = .lit .nilIface) (hd : descK (Tryz.prog.underlying t) = 5) : aop Tryz.prog tmps m (.binOp .neq t x y z) = .val (.lit (.bool true)) m := by
 show eqOp Tryz.prog .neq true t x y (evalT tmps x) (evalT tmps y) m = _
 rw [hx, hy]
 show eqNil true m 5 (Tryz.prog.underlying t) = _
 unfold eqNil
 rw [hd]; rfl
theorem keywords_ok {m : Mem} (hw : Wf m) : CallQ Tryz.prog fl 71 [] m (fun r => ∃ u m', r = .ret (.map m.next) u m' ∧ Kept noS m m' ∧ m.next < m'.next ∧ m'.heap.get m.next = some (.map (ents kwL) 10)) := by
 refine hfl.start (by decide) 3 Tryz.func71 rfl rfl (Nat.le_of_ble_eq_true rfl) ?_
 intro bs hb
 clear hb
 have K0 : Kept (fun q => m.next ≤ q ∨ (noS) q) m m := Kept.refl hw
 refine gg ?_
 refine s_new rfl rfl rfl rfl o_makeMap0 (fun m1 g2 => ?_)
 have n3 := g2.next
 have K4 := K0.g g2
 refine s_put0 rfl rfl rfl (o_insertB (e_hit rfl) rfl rfl g2.same mk_252 u9) (fun m5 g6 => ?_)
 have n7 := g6.next
 have K8 := K4.w g6 g2.same (fun _ h => by cases h) (Or.inl (by omega))
 refine s_put0 rfl rfl rfl (o_insertB (e_hit rfl) rfl rfl g6.same mk_252 u9) (fun m9 g10 => ?_)
 have n11 := g10.next
 have K12 := K8.w g10 g6.same (fun _ h => by cases h) (Or.inl (by omega))
 refine s_put0 rfl rfl rfl (o_insertB (e_hit rfl) rfl rfl g10.same mk_252 u9) (fun m14 g15 => ?_)
 have n16 := g15.next
 have K17 := K12.w g15 g10.same (fun _ h => by cases h) (Or.inl (by omega))
 refine s_put0 rfl rfl rfl (o_insertB (e_hit rfl) rfl rfl g15.same mk_252 u9) (fun m19 g20 => ?_)
 have n21 := g20.next
 have K22 := K17.w g20 g15.same (fun _ h => by cases h) (Or.inl (by omega))
 refine s_put0 rfl rfl rfl (o_insertB (e_hit rfl) rfl rfl g20.same mk_252 u9) (fun m24 g25 => ?_)
 have n26 := g25.next
 have K27 := K22.w g25 g20.same (fun _ h => by cases h) (Or.inl (by omega))
 refine s_put0 rfl rfl rfl (o_insertB (e_hit rfl) rfl rfl g25.same mk_252 u9) (fun m29 g30 => ?_)
 have n31 := g30.next
 have K32 := K27.w g30 g25.same (fun _ h => by cases h) (Or.inl (by omega))
 refine s_put0 rfl rfl rfl (o_insertB (e_hit rfl) rfl rfl g30.same mk_252 u9) (fun m34 g35 => ?_)
 have n36 := g35.next
 have K37 := K32.w g35 g30.same (fun _ h => by cases h) (Or.inl (by omega))
 refine s_put0 rfl rfl rfl (o_insertB (e_hit rfl) rfl rfl g35.same mk_252 u9) (fun m39 g40 => ?_)
 have n41 := g40.next
 have K42 := K37.w g40 g35.same (fun _ h => by cases h) (Or.inl (by omega))
 refine s_put0 rfl rfl rfl (o_insertB (e_hit rfl) rfl rfl g40.same mk_252 u9) (fun m44 g45 => ?_)
 have n46 := g45.next
 have K47 := K42.w g45 g40.same (fun _ h => by cases h) (Or.inl (by omega))
 refine s_put0 rfl rfl rfl (o_insertB (e_hit rfl) rfl rfl g45.same mk_252 u9) (fun m49 g50 => ?_)
 have n51 := g50.next
 have K52 := K47.w g50 g45.same (fun _ h => by cases h) (Or.inl (by omega))
 refine gg ?_
 refine w_retAt rfl ?_
 refine w_results Tryz.func71 (rv1 (e_hit rfl)) ?_
 exact ⟨_, _, rfl, K52.out, by omega, g50.same.trans (by kernel_rfl)⟩
theorem has_loop1 {r n : Nat} {e : Elem} {f p : Nat} {ex : Bool} (l : List ByteArray) (s : ByteArray) (hlen : l.length < 2 ^ 60) (k : List AItem) {Q : RR → Prop} {m : Mem} (hr : m.heap.get r = some (.row e (strs l) f p)) (_hw : Wf m) : ∀ (rest pre : List ByteArray) (b : T AVal), l = pre ++ rest → getT b 0 = .slice r 0 l.length n ex → getT b 1 = .lit (.string s) → getT b 5 = goI pre.length → (∀ b', isIn s rest = false → Wp Tryz.prog fl (At ⟨46, 18, false, none⟩ k b' [] .run [] m) Q) → (∀ b', isIn s rest = true → getT b' 4 = .lit (.bool true) → Wp Tryz.prog fl (At ⟨46, 18, false, none⟩ [] b' [] .returning [] m) Q) → Wp Tryz.prog fl (At ⟨46, 18, false, none⟩ (.code (cAt [true, false, true, false, false] (bodyF Tryz.f46)) :: .inLoop (cAt [true, false, true, false, false] (bodyF Tryz.f46)) :: .inBlock 0 :: k) (sets 18 b []) [] .run [] m) Q := by
 have _ := hfl
 intro rest
 induction rest with
 | nil =>
  intro pre b hsp k0 k1 k5 hk ht
  have hlt : decide (Int.ofNat pre.length < Int.ofNat l.length) = false := by rw [dlt]; simp [hsp]
  refine gg ?_
  refine s_val rfl rfl rfl rfl (o_lenSl (e_hit rfl) un_22 rfl) ?_
  refine gg ?_
  exact hk _ rfl
 | cons x rest ih =>
  intro pre b hsp k0 k1 k5 hk ht
  have hlt : decide (Int.ofNat pre.length < Int.ofNat l.length) = true := by rw [dlt]; simp [hsp]
  have hln : pre.length + 1 < 2 ^ 62 := by have := hlen; simp [hsp] at this; omega
  have hpl : pre.length < l.length := by simp [hsp]
  have hgx : getO (strs l) (0 + pre.length * 1) = some (.lit (.string x)) := by rw [getO_eq, Nat.zero_add, Nat.mul_one]; exact strs_get (by rw [hsp]; simp)
  refine gg ?_
  refine s_val rfl rfl rfl rfl (o_lenSl (e_hit rfl) un_22 rfl) ?_
  refine gg ?_
  refine s_val rfl rfl rfl rfl (o_indexAddr (e_hit rfl) (e_hit rfl) el_22 hpl) ?_
  refine s_val rfl rfl rfl rfl (o_loadRow (e_hit rfl) hr tg_9 sz_9 hgx rfl) ?_
  refine gg ?_
  refine w_cond (e_hit rfl) (fun c7 => ?_) (fun c7 => ?_)
  ·
   refine gg ?_
   refine w_retAt rfl ?_
   exact ht _ (by show (seq x s || isIn s rest) = true; rw [c7]; rfl) (e_hit rfl)
  ·
   refine gg ?_
   refine w_inLoop ?_
   refine Wp.gen (fun b' eb => ?_)
   have e : isIn s (x :: rest) = isIn s rest := by show (seq x s || isIn s rest) = _; rw [c7]; rfl
   exact ih (pre ++ [x]) b' (by simp [hsp]) (eqb eb (e_base rfl k0)) (eqb eb (e_base rfl k1)) (eqb eb ((e_hit rfl).trans (by rw [List.length_append]; rfl))) (fun b h => hk b (e.trans h)) (fun b h => ht b (e.trans h))
theorem has_row {m : Mem} {r n f p : Nat} {e : Elem} {ex : Bool} (l : List ByteArray) (s : ByteArray) (hlen : l.length < 2 ^ 60) (hr : m.heap.get r = some (.row e (strs l) f p)) (hw : Wf m) : CallQ Tryz.prog fl 46 [.slice r 0 l.length n ex, .lit (.string s)] m (Rets noS m (.lit (.bool (isIn s l)))) := by
 refine hfl.start (by decide) 18 Tryz.func46 rfl rfl (Nat.le_of_ble_eq_true rfl) ?_
 intro bs hb
 have ar0 := hb 0 _ rfl
 have ar1 := hb 1 _ rfl
 clear hb
 refine gg ?_
 refine w_loop ?_
 refine Wp.gen (fun b0 eb => ?_)
 refine has_loop1 hfl l s hlen _ hr hw l [] b0 rfl (eqb eb (e_base rfl ar0)) (eqb eb (e_base rfl ar1)) (eqb eb (e_hit rfl)) ?_ ?_
 ·
  intro b1 hf
  change Wp Tryz.prog fl (At _ _ (sets 18 b1 []) _ _ _ _) _
  refine gg ?_
  refine w_retAt rfl ?_
  refine w_results Tryz.func46 (rv1 (e_hit rfl)) ?_
  rw [hf]; exact ⟨_, _, rfl, Kept.refl hw⟩
 ·
  intro b1 hf h4
  refine w_results Tryz.func46 (rv1 h4) ?_
  rw [hf]; exact ⟨_, _, rfl, Kept.refl hw⟩
theorem rname_ok {m : Mem} (s : ByteArray) (hw : Wf m) : CallQ Tryz.prog fl 24 [.lit (.string s)] m (Rets noS m (.lit (.bool (refNameB s)))) := by
 refine hfl.start (by decide) 32 Tryz.func24 rfl rfl (Nat.le_of_ble_eq_true rfl) ?_
 intro bs hb
 have ar0 := hb 0 _ rfl
 clear hb
 have K : Kept (fun q => m.next ≤ q ∨ noS q) m m := Kept.refl hw
 refine gg ?_
 refine sg (fun c => ?_) (fun c => ?_)
 ·have c1 : 1 ≤ s.size := by have := of_decide_eq_false c; simp only [Int.ofNat_eq_natCast] at this; omega
  refine gg ?_
  refine w_cond v0 (fun d => ?_) (fun d => ?_)
  ·refine gg ?_
   refine w_retAt rfl ?_
   refine w_results Tryz.func24 (rv1 v0) ?_
   rw [show refNameB s = false by have := of_decide_eq_true d; simp only [Int.ofNat_eq_natCast] at this; simp [refNameB]; omega]
   exact ⟨_, _, rfl, Kept.refl hw⟩
  ·have c8 : s.size ≤ 8 := by have := of_decide_eq_false d; simp only [Int.ofNat_eq_natCast] at this; omega
   have e : refNameB s = (s.data.toList.all low && !isIn s kwB) := by simp [refNameB, c1, c8]
   refine gg ?_
   refine w_loop ?_
   refine Wp.gen (fun b' eb => ?_)
   refine st_all.2 s _ s.data.toList [] b' rfl c8 (eqb eb (e_base rfl ar0)) (fun h => by cases h) (eqb eb v0) ?_ ?_
   ·intro b1 k0 h
    change Wp Tryz.prog fl (At _ _ (sets 32 b1 []) _ _ _ _) _
    refine gg ?_
    refine s_new rfl rfl rfl rfl (show aop _ _ _ _ = .val (.slice m.next 0 10 10 true) (m.new (.row (9, 1) (strs kwB) m.next 0)) from by kernel_rfl) (fun m1 g => ?_)
    have K := K.g g
    refine gg ?_
    refine s_callV rfl rfl rfl rfl (o_calls (me2 v0 v0)) (has_row hfl kwB s (by decide) g.same K.wf) (fun m2 k => ?_)
    refine gg ?_
    refine w_retAt rfl ?_
    refine w_results Tryz.func24 (rv1 v0) ?_
    rw [e, h]; exact ⟨_, _, rfl, (K.k k (fun _ h => h.elim)).out⟩
   ·intro b1 h h2
    refine w_results Tryz.func24 (rv1 h2) ?_
    rw [e, h]; exact ⟨_, _, rfl, Kept.refl hw⟩
 ·refine gg ?_
  refine w_retAt rfl ?_
  refine w_results Tryz.func24 (rv1 v0) ?_
  rw [show refNameB s = false by have := of_decide_eq_true c; simp only [Int.ofNat_eq_natCast] at this; simp [refNameB]; omega]
  exact ⟨_, _, rfl, Kept.refl hw⟩
theorem name_ok {m : Mem} (s : ByteArray) (hw : Wf m) : CallQ Tryz.prog fl 38 [.lit (.string s)] m (Rets noS m (.lit (.bool (nameB s)))) := by
 refine hfl.start (by decide) 11 Tryz.func38 rfl rfl (Nat.le_of_ble_eq_true rfl) ?_
 intro bs hb
 have ar0 := hb 0 _ rfl
 clear hb
 have K : Kept (fun q => m.next ≤ q ∨ noS q) m m := Kept.refl hw
 refine gg ?_
 refine s_callE K (Kept.refl (S := noS) K.wf) (o_calls (me1 v0)) (spelt_ok hfl _ K.wf) (fun m1 K _ => ?_)
 refine gg ?_
 refine sg (fun c => ?_) (fun c => ?_)
 ·refine gg ?_
  refine s_call rfl (gT rfl ⟨v0⟩ (by assumption)).h rfl rfl (o_calls me0) (keywords_ok hfl K.wf) ?_ (by rintro _ _ _ ⟨_, _, h, _⟩; cases h)
  rintro _ _ mk ⟨_, _, hret, kk, lt, hm⟩
  cases hret
  have K := K.k kk (fun _ h => h.elim)
  refine gg ?_
  refine s_val rfl (gT rfl ⟨v0⟩ (by assumption)).h rfl rfl (o_lookupB v0 v0 hm mk_252 u9 tz4) ?_
  refine gg ?_
  refine w_retAt rfl ?_
  refine w_results Tryz.func38 (rv1 v0) ?_
  exact ⟨_, _, congrArg (fun b => RR.ret (.lit (.bool b)) _ _) (by simp only [nameB, c, keys_kwL, Bool.true_and]), K.out⟩
 ·refine gg ?_
  refine w_retAt rfl ?_
  refine w_results Tryz.func38 (rv1 v0) ?_
  exact ⟨_, _, congrArg (fun b => RR.ret (.lit (.bool b)) _ _) (by simp only [nameB, c, Bool.not_true, Bool.false_and]), K.out⟩
omit hfl in
def strLt (s t : ByteArray) : Bool := Go.Op.bytesLess s.toList t.toList
omit hfl in
theorem o_lssS {tmps : T AVal} {m : Mem} {t : TypeId} {x y : Operand} {z : TypeId} {a b : ByteArray} (hx : evalT tmps x = .lit (.string a)) (hy : evalT tmps y = .lit (.string b)) : aop Tryz.prog tmps m (.binOp .lss t x y z) = .val (.lit (.bool (strLt a b))) m := by
 show lits2 Tryz.prog m (binF .lss t x y) (litOf (evalT tmps x)) (litOf (evalT tmps y)) = _
 rw [hx, hy]; rfl
omit hfl in
theorem o_leqS {tmps : T AVal} {m : Mem} {t : TypeId} {x y : Operand} {z : TypeId} {a b : ByteArray} (hx : evalT tmps x = .lit (.string a)) (hy : evalT tmps y = .lit (.string b)) : aop Tryz.prog tmps m (.binOp .leq t x y z) = .val (.lit (.bool (strLt a b || (a.toList == b.toList)))) m := by
 show lits2 Tryz.prog m (binF .leq t x y) (litOf (evalT tmps x)) (litOf (evalT tmps y)) = _
 rw [hx, hy]; rfl
omit hfl in
def freeF : Option ByteArray → List ByteArray → Bool
 | _, [] => true
 | o, s :: r => (nameB s && (match o with | none => true | some t => strLt t s)) && freeF (some s) r
omit hfl in
def lastO : List ByteArray → Option ByteArray := fun l => l.getLast?
theorem head_loop {c ws wk : Nat} {p : AProg} (k : List AItem) {Q : RR → Prop} {up : Chain} : ∀ (rest pre : List ByteArray) {m : Mem} (b : T AVal), p.free = pre ++ rest → Wf m → Cel m c (chkC p ws wk) → SlA m p.fv 1 (p.free.map scells) → getT b 0 = .ptr c 0 → getT b 38 = p.fv → getT b 39 = goI p.free.length → getT b 40 = goI pre.length →
  (∀ (m' : Mem) (b' : T AVal), Kept noS m m' → freeF pre.getLast? rest = true → Wp Tryz.prog fl (At ⟨20, 67, false, none⟩ k b' [] .run up m') Q) →
  (∀ (m' : Mem) (t : List AItem) (b' : T AVal), Kept noS m m' → freeF pre.getLast? rest = false → Wp Tryz.prog fl (At ⟨20, 67, false, none⟩ t b' [] (.panicking unfC) up m') Q) →
  Wp Tryz.prog fl (At ⟨20, 67, false, none⟩ (.code (cAt [true, true, false, false] (bodyF Tryz.f20)) :: .inLoop (cAt [true, true, false, false] (bodyF Tryz.f20)) :: .inBlock 0 :: k) (sets 67 b []) [] .run up m) Q := by
 intro rest
 induction rest with
 | nil =>
  intro pre m b hsp hw hc hsl k0 k38 k39 k40 hk hp
  have hlt : decide (Int.ofNat pre.length < Int.ofNat p.free.length) = false := by rw [hsp]; simp
  refine gg ?_
  refine Wp.gen (fun b' eb => ?_)
  exact hk _ b' (Kept.refl hw) rfl
 | cons y rest ih =>
  intro pre m b hsp hw hc hsl k0 k38 k39 k40 hk hp
  have hlt : decide (Int.ofNat pre.length < Int.ofNat p.free.length) = true := by rw [hsp]; simp; omega
  have hln := hsl.lnT hsp
  have K : Kept (fun q => m.next ≤ q ∨ noS q) m m := Kept.refl hw
  have hc0 := hc
  have qc := hc.lt hw
  obtain ⟨⟨ec, hcr⟩, fc⟩ := hc
  have hcr : m.heap.get c = some (.row ec [p.fv, p.nv, p.dv, iv p.main, .map ws, .map wk] c 0) := hcr
  have cf := hsl.cell
  obtain ⟨r, off, c0, ex, row, hv, hlx, hr, htk⟩ := hsl.here hsp
  have hlx' : pre.length < p.free.length := by simpa using hlx
  have hpre : (pre ++ [y]).getLast? = some y := by simp
  refine gg ?_
  refine s_val rfl rfl rfl rfl (o_indexAddr ((e_base rfl k38).trans hv) (e_base rfl k40) ElF.h hlx) ?_
  refine s_val rfl rfl rfl rfl (o_loadRo1 v0 hr TyF.h TyF.z (by rw [Nat.mul_one] at htk ⊢; exact htk)) ?_
  refine gg ?_
  refine s_callE K (Kept.refl (S := noS) K.wf) (o_calls (me1 v0)) (name_ok hfl _ K.wf) (fun m1 K k1 => ?_)
  have hcr1 := (k1.get c qc id).trans hcr
  have ef : freeF pre.getLast? (y :: rest) = ((nameB y && (match pre.getLast? with | none => true | some t => strLt t y)) && freeF (some y) rest) := rfl
  rw [ef] at hk hp
  refine gg ?_
  refine sg (fun c1 => ?_) (fun c1 => ?_)
  rotate_left
  ·refine gg ?_
   refine s_stepE K (Kept.refl (S := noS) K.wf) (o_calls (me1 v0)) (demand_ok hfl _ K.wf) (fun z m' K _ _ => ?_) (fun z m' K _ => ?_)
   ·cases z
   ·exact hp _ _ _ K.out (by rw [show nameB y = false from c1]; rfl)
  have c1 : nameB y = true := c1
  rw [c1, Bool.true_and] at hk hp
  have fin : ∀ {mm : Mem} {bb : T AVal}, Kept (fun q => m.next ≤ q ∨ noS q) m mm → (match pre.getLast? with | none => true | some t => strLt t y) = true → getT bb 0 = .ptr c 0 → getT bb 38 = p.fv → getT bb 39 = goI p.free.length → getT bb 40 = goI (pre ++ [y]).length → Wp Tryz.prog fl (At ⟨20, 67, false, none⟩ (.code (cAt [true, true, false, false] (bodyF Tryz.f20)) :: .inLoop (cAt [true, true, false, false] (bodyF Tryz.f20)) :: .inBlock 0 :: k) (sets 67 bb []) [] .run up mm) Q := by
   intro mm bb K hz q0 q38 q39 q40
   rw [hz, Bool.true_and, ← hpre] at hk hp
   exact ih (pre ++ [y]) bb (by simp [hsp]) K.wf (hc0.kept K qc (by rintro (h | h); omega; exact h)) (hsl.kept K) q0 q38 q39 q40 (fun m' b' k h => hk m' b' (K.out.trans k) h) (fun m' t b' k h => hp m' t b' (K.out.trans k) h)
  rcases List.eq_nil_or_concat pre with hpn | ⟨pre', t, hpc⟩
  ·subst hpn
   refine gg ?_
   refine s_stepE K (Kept.refl (S := noS) K.wf) (o_calls (me1 v0)) (demand_ok hfl _ K.wf) (fun z m' K _ _ => ?_) (fun z m' K _ => ?_)
   rotate_left
   ·cases z
   refine gg ?_
   refine w_inLoop ?_
   refine Wp.gen (fun b' eb => ?_)
   exact fin K rfl (eqb eb (e_base rfl k0)) (eqb eb (e_base rfl k38)) (eqb eb (e_base rfl k39)) (eqb eb (e_hit rfl))
  ·have hpl : pre.length = pre'.length + 1 := by rw [hpc]; simp
   have hz0 : (Int.ofNat pre.length == 0) = false := by rw [beq_eq_false_iff_ne]; rw [hpl]; show ((pre'.length + 1 : Nat) : Int) ≠ 0; omega
   have hlast : pre.getLast? = some t := by rw [hpc]; simp
   rw [hlast] at hk hp fin
   have e1 : Int.ofNat pre.length - 1 = Int.ofNat pre'.length := by rw [hpl]; show ((pre'.length + 1 : Nat) : Int) - 1 = (pre'.length : Int); omega
   have b1 : -(2 ^ 62) ≤ Int.ofNat pre.length - 1 := by rw [e1]; have : Int.ofNat pre'.length = (pre'.length : Int) := rfl; omega
   have b2 : Int.ofNat pre.length - 1 < 2 ^ 62 := by rw [e1]; have : Int.ofNat pre'.length = (pre'.length : Int) := rfl; omega
   obtain ⟨r2, off2, c02, ex2, row2, hv2, hr2, ht2⟩ := at_of hsl (i := pre'.length) (by omega)
   have et : p.free[pre'.length]'(by omega) = t := by simp [hsp, hpc]
   rw [et] at ht2
   refine gg ?_
   refine s_val rfl (gT rfl ⟨v0⟩ (by assumption)).h rfl rfl (o_indexAddr ((e_hit rfl).trans hv2) ((e_hit rfl).trans (congrArg iv e1)) ElF.h (by omega)) ?_
   refine s_val rfl (gT rfl ⟨v0⟩ (by assumption)).h rfl rfl (o_loadRo1 v0 (K.ro _ _ hr2) TyF.h TyF.z (by rw [Nat.mul_one] at ht2 ⊢; exact ht2)) ?_
   refine gg ?_
   refine s_val rfl (gT rfl ⟨v0⟩ (by assumption)).h rfl rfl (o_lssS v0 v0) ?_
   refine gg ?_
   refine s_stepE K (Kept.refl (S := noS) K.wf) (o_calls (me1 v0)) (demand_ok hfl _ K.wf) (fun z m' K _ _ => ?_) (fun z m' K _ => ?_)
   rotate_left
   ·exact hp _ _ _ K.out (by dsimp only; rw [show strLt t y = false from z]; rfl)
   refine gg ?_
   refine w_inLoop ?_
   refine Wp.gen (fun b' eb => ?_)
   exact fin K z (eqb eb (e_base rfl k0)) (eqb eb (e_base rfl k38)) (eqb eb (e_base rfl k39)) (eqb eb ((e_hit rfl).trans (by rw [List.length_append]; rfl)))
end
noncomputable section
theorem fit_213_213 : fits Tryz.prog 71 71 = some true := by kernel_rfl
theorem if_213 : isIfaceT Tryz.prog 71 = false := by kernel_rfl
theorem zc_213 : zcells Tryz.prog 71 = some [] := ZcF.h
theorem sz_213 : tsz Tryz.prog 71 = some 0 := TyF.z (g := true)
theorem sz_56 : tsz Tryz.prog 31 = some 1 := TyF.z (g := false)
theorem tg_56 : tagg Tryz.prog 31 = some false := TyF.h (s := 1)
theorem sz_33 : tsz Tryz.prog 27 = some 1 := TyF.z (g := false)
theorem tg_33 : tagg Tryz.prog 27 = some false := TyF.h (s := 1)
variable {fl : Fl} (hfl : Tab fl)
include hfl
omit hfl in
theorem s_recover0 {fl : Fl} {Q : RR → Prop} {env : Env} {k : List AItem} {ds : List ADef} {m : Mem} {nt : Nat} {b : T AVal} {l : List (Nat × AVal)} {all rest : List Oper} {o : Oper} {d : Nat} (hn : env.nt = nt) (hg : gd all (sets nt b l) o.guard = some true) (hd : o.dst = some d) (ho : o.op = .call ⟨.builtin .recover, #[], #[]⟩) (he : env.roundOf = none)
  (w : Wp Tryz.prog fl (Rg Tryz.prog fl env all k rest (sets nt b ((d, .lit .nilIface) :: l)) ds [] m) Q) : Wp Tryz.prog fl (Rg Tryz.prog fl env all k (o :: rest) (sets nt b l) ds [] m) Q := by
 subst hn
 refine q_recover0 hg (by rw [ho]; rfl) (by rw [ho]; rfl) he rfl ?_
 rw [hd]; exact w
omit hfl in
theorem s_recover {fl : Fl} {Q : RR → Prop} {env : Env} {k : List AItem} {ds : List ADef} {m : Mem} {nt : Nat} {b : T AVal} {l : List (Nat × AVal)} {all rest : List Oper} {o : Oper} {d : Nat} {v : AVal} {older : Chain} (hn : env.nt = nt) (hg : gd all (sets nt b l) o.guard = some true) (hd : o.dst = some d) (ho : o.op = .call ⟨.builtin .recover, #[], #[]⟩) (he : env.roundOf = none ∧ env.dfr = true)
  (w : Wp Tryz.prog fl (Rg Tryz.prog fl env all k rest (sets nt b ((d, v) :: l)) ds ((v, true) :: older) m) Q) : Wp Tryz.prog fl (Rg Tryz.prog fl env all k (o :: rest) (sets nt b l) ds ((v, false) :: older) m) Q := by
 subst hn
 refine q_recover hg (by rw [ho]; rfl) (by rw [ho]; rfl) he.1 he.2 rfl ?_
 rw [hd]; exact w
theorem head_ok {m : Mem} {c ws wk : Nat} {p : AProg} (hc : Cel m c (chkC p ws wk)) (hp : p.OK m) (hw : Wf m) : CallQ Tryz.prog fl 20 [.ptr c 0] m (StepQ noS m (((decide (Int.ofNat p.free.length ≤ 12) && decide (Int.ofNat p.nodes.length ≤ 60)) && decide (Int.ofNat p.defs.length ≤ 12)) && freeF none p.free) (fun _ => True)) := by
 refine hfl.start (by decide) 67 Tryz.func20 rfl rfl (Nat.le_of_ble_eq_true rfl) ?_
 intro bs hb
 have ar0 := hb 0 _ rfl
 clear hb
 have K : Kept (fun q => m.next ≤ q ∨ noS q) m m := Kept.refl hw
 have hc0 := hc
 have qc := hc.lt hw
 obtain ⟨⟨ec, hcr⟩, fc⟩ := hc
 have hcr : m.heap.get c = some (.row ec [p.fv, p.nv, p.dv, iv p.main, .map ws, .map wk] c 0) := hcr
 have cf := hp.f.cell
 have cn := hp.n.cell
 have cd := hp.d.cell
 have lf := hp.f.lenM
 have ln := hp.n.lenM
 have ld := hp.d.lenM
 have rest : ∀ {mm : Mem} {bb : T AVal}, Kept (fun q => m.next ≤ q ∨ noS q) m mm → getT bb 0 = .ptr c 0 → ((decide (Int.ofNat p.free.length ≤ 12) && decide (Int.ofNat p.nodes.length ≤ 60)) && decide (Int.ofNat p.defs.length ≤ 12)) = true → Wp Tryz.prog fl (At ⟨20, 67, false, none⟩ [.code (cAt [true] (bodyF Tryz.f20))] (sets 67 bb []) [] .run [] mm) (StepQ noS m (((decide (Int.ofNat p.free.length ≤ 12) && decide (Int.ofNat p.nodes.length ≤ 60)) && decide (Int.ofNat p.defs.length ≤ 12)) && freeF none p.free) (fun _ => True)) := by
  intro mm bb K k0 hz
  rw [hz, Bool.true_and]
  have hc1 := hc0.kept K qc (by rintro (h | h); omega; exact h)
  obtain ⟨⟨ec, hcr⟩, fc⟩ := id hc1
  have hcr : mm.heap.get c = some (.row ec [p.fv, p.nv, p.dv, iv p.main, .map ws, .map wk] c 0) := hcr
  refine gg ?_
  refine w_loop ?_
  refine Wp.gen (fun b0 eb => ?_)
  refine head_loop hfl (c := c) (ws := ws) (wk := wk) (p := p) _ p.free [] b0 rfl K.wf hc1 (hp.f.kept K) (eqb eb (e_base rfl k0)) (eqb eb v0) (eqb eb v0) (eqb eb v0) (fun m1 b1 k1 h => ?_) (fun m1 t b1 k1 h => ?_)
  ·have K := K.k k1 (fun _ h => h.elim)
   change Wp Tryz.prog fl (At _ _ (sets 67 b1 []) _ _ _ _) _
   refine w_fall rfl ?_
   refine w_results Tryz.func20 rv0 ?_
   exact .inl ⟨h, _, _, rfl, K.out, trivial⟩
  ·have K := K.k k1 (fun _ h => h.elim)
   refine w_panics ?_
   exact .inr ⟨h, _, _, rfl, K.out⟩
 refine gg ?_
 refine sg (fun c1 => ?_) (fun c1 => ?_)
 rotate_left
 ·refine gg ?_
  refine s_stepE K (Kept.refl (S := noS) K.wf) (o_calls (me1 v0)) (demand_ok hfl _ K.wf) (fun z m' K _ _ => ?_) (fun z m' K _ => ?_)
  ·cases z
  ·refine w_panics ?_
   exact .inr ⟨by rw [show decide (Int.ofNat p.free.length ≤ 12) = false from c1]; rfl, _, _, rfl, K.out⟩
 have c1 : decide (Int.ofNat p.free.length ≤ 12) = true := c1
 refine gg ?_
 refine sg (fun c2 => ?_) (fun c2 => ?_)
 rotate_left
 ·refine gg ?_
  refine s_stepE K (Kept.refl (S := noS) K.wf) (o_calls (me1 v0)) (demand_ok hfl _ K.wf) (fun z m' K _ _ => ?_) (fun z m' K _ => ?_)
  ·cases z
  ·refine w_panics ?_
   exact .inr ⟨by rw [show decide (Int.ofNat p.nodes.length ≤ 60) = false from c2, Bool.and_false]; rfl, _, _, rfl, K.out⟩
 have c2 : decide (Int.ofNat p.nodes.length ≤ 60) = true := c2
 refine gg ?_
 refine s_stepE K (Kept.refl (S := noS) K.wf) (o_calls (me1 v0)) (demand_ok hfl _ K.wf) (fun z m' K _ _ => ?_) (fun z m' K _ => ?_)
 rotate_left
 ·refine w_panics ?_
  exact .inr ⟨by rw [c1, c2, show decide (Int.ofNat p.defs.length ≤ 12) = false from z]; rfl, _, _, rfl, K.out⟩
 refine gr ?_
 refine q_nil ?_
 refine Wp.gen (fun b' eb => ?_)
 exact rest K (eqb eb (e_base rfl ar0)) (by rw [c1, c2, show decide (Int.ofNat p.defs.length ≤ 12) = true from z]; rfl)
theorem deferred_ret {m : Mem} {r2 r3 : Nat} {x z : AVal} (_hne : r2 ≠ r3) (h2 : Cel m r2 [x]) (h3 : Cel m r3 [z]) (hw : Wf m) : Wp Tryz.prog fl (At ⟨19, 16, true, none⟩ [.code (bodyF Tryz.f19)] (argsT [.ptr r2 0, .ptr r3 0] 0 .e) [] .run [] m) (fun r => ∃ v m', r = .ret v [] m' ∧ Kept (fun q => q = r2 ∨ q = r3) m m' ∧ Cel m' r2 [x] ∧ Cel m' r3 [z]) := by
 have _ := hfl
 have ar0 : getT (argsT [.ptr r2 0, .ptr r3 0] 0 .e) 0 = .ptr r2 0 := getA rfl
 have ar1 : getT (argsT [.ptr r2 0, .ptr r3 0] 0 .e) 1 = .ptr r3 0 := getA rfl
 generalize argsT [.ptr r2 0, .ptr r3 0] 0 .e = bs at ar0 ar1
 change Wp Tryz.prog fl (At _ _ (sets 16 bs []) _ _ _ _) _
 have K0 : Kept (fun q => m.next ≤ q ∨ (fun q => q = r2 ∨ q = r3) q) m m := Kept.refl hw
 obtain ⟨⟨er2, h2⟩, fr2⟩ := h2
 obtain ⟨⟨er3, h3⟩, fr3⟩ := h3
 refine gg ?_
 refine s_recover0 rfl rfl rfl rfl rfl ?_
 refine gg ?_
 refine s_val rfl rfl rfl rfl (o_binK (e_hit rfl) rfl rfl) ?_
 refine gg ?_
 refine w_fall rfl ?_
 refine w_results Tryz.func19 rv0 ?_
 exact ⟨_, _, rfl, K0.out, Cel.of h2 fr2, Cel.of h3 fr3⟩
theorem deferred_pan {m : Mem} {r2 r3 : Nat} {x z : AVal} (hne : r2 ≠ r3) (h2 : Cel m r2 [x]) (h3 : Cel m r3 [z]) (hw : Wf m) : Wp Tryz.prog fl (At ⟨19, 16, true, none⟩ [.code (bodyF Tryz.f19)] (argsT [.ptr r2 0, .ptr r3 0] 0 .e) [] .run unfC m) (fun r => ∃ v m', r = .ret v [(.iface 71 (.agg []), true)] m' ∧ Kept (fun q => q = r2 ∨ q = r3) m m' ∧ Cel m' r2 [nilS] ∧ Cel m' r3 [iv 2]) := by
 have _ := hfl
 have ar0 : getT (argsT [.ptr r2 0, .ptr r3 0] 0 .e) 0 = .ptr r2 0 := getA rfl
 have ar1 : getT (argsT [.ptr r2 0, .ptr r3 0] 0 .e) 1 = .ptr r3 0 := getA rfl
 generalize argsT [.ptr r2 0, .ptr r3 0] 0 .e = bs at ar0 ar1
 change Wp Tryz.prog fl (At _ _ (sets 16 bs []) _ _ _ _) _
 have K0 : Kept (fun q => m.next ≤ q ∨ (fun q => q = r2 ∨ q = r3) q) m m := Kept.refl hw
 have ltr2 := h2.lt hw
 obtain ⟨⟨er2, h2⟩, fr2⟩ := h2
 have ltr3 := h3.lt hw
 obtain ⟨⟨er3, h3⟩, fr3⟩ := h3
 refine gg ?_
 refine s_recover rfl rfl rfl rfl ⟨rfl, rfl⟩ ?_
 refine gg ?_
 refine s_val rfl rfl rfl rfl (o_neqNil (e_hit rfl) rfl (by kernel_rfl)) ?_
 refine gg ?_
 refine s_val rfl rfl rfl rfl (o_assertT (e_hit rfl) fit_213_213 if_213) ?_
 refine gg ?_
 refine s_new rfl rfl rfl rfl (o_alloc zc_213) (fun m54 g55 => ?_)
 have n56 := g55.next
 have K57 := K0.g g55
 refine s_put0 rfl rfl rfl (o_store (e_hit rfl) (e_hit rfl) g55.same (g55.fam0 K0.wf) sz_213 rfl rfl rfl rfl) (fun m58 g59 => ?_)
 have n60 := g59.next
 have K61 := K57.w g59 g55.same (fun _ h => by cases h) (Or.inl (by omega))
 refine gg ?_
 have h63 := hxM m58 r2
 have f65 := fxM m58 r2
 refine s_put0 rfl rfl rfl (o_store rfl (e_base rfl ar0) h63 f65 sz_56 rfl rfl rfl rfl) (fun m66 g67 => ?_)
 have n68 := g67.next
 have K69 := K61.w g67 h63 (fun _ h => by cases h) (Or.inr (Or.inl rfl))
 have h72 := hxM m66 r3
 have f75 := fxM m66 r3
 refine s_put0 rfl rfl rfl (o_store rfl (e_base rfl ar1) h72 f75 sz_33 rfl rfl rfl rfl) (fun m76 g77 => ?_)
 have K79 := K69.w g77 h72 (fun _ h => by cases h) (Or.inr (Or.inr rfl))
 refine gg ?_
 have h80 := hxM m76 r2
 have f82 := fxM m76 r2
 have f83 := fxM m76 r3
 refine w_fall rfl ?_
 refine w_results Tryz.func19 rv0 ?_
 exact ⟨_, _, rfl, K79.out, Cel.of h80 f82, Cel.of g77.same f83⟩
end
end Go.Proofs.YtmbeijhnjaadhaaGreat
