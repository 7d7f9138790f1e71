/- A part of the proof of ScopeChecks. -/
import Derived.Test.YtmbeijhnjaadhaaGreatCl
namespace Go.Proofs.YtmbeijhnjaadhaaGreat
open Go Go.Abs
open Go.RowKit (Below)
set_option maxRecDepth 10000
noncomputable section
theorem inI_add (j n : Int) (v : AVal) (l : List EntI) (c : Nat) : inI j (addI n v l c) = (inI j l || (j == n)) := by
 unfold addI
 have hany : ∀ (k : Int) (l : List EntI), inI k l = l.any fun x => k == x.1 := by
  intro k l
  unfold inI findI
  rw [Option.isSome_map]
  induction l with
  | nil => rfl
  | cons x l ih =>
   rw [List.find?_cons, List.any_cons]
   cases h : (k == x.1) with
   | true => rfl
   | false => exact ih
 cases hf : findI n l with
 | some u =>
  have h1 : inI n l = true := by unfold inI; rw [hf]; rfl
  cases hj : (j == n) with
  | false => simp
  | true => rw [eq_of_beq hj, h1]; rfl
 | none =>
  rw [hany, hany, List.any_append]
  simp
def muP (p : AProg) (s : SV) : Nat := ((List.range p.nodes.length).filter fun i => !inI (Int.ofNat i) s.1.1).length
theorem filter_lt {l : List Nat} {P Q : Nat → Bool} (h : ∀ i, Q i = true → P i = true) {a : Nat} (ha : a ∈ l) (h1 : P a = true) (h2 : Q a = false) : (l.filter Q).length < (l.filter P).length := by
 induction l with
 | nil => cases ha
 | cons b l ih =>
  have le : ∀ l : List Nat, (l.filter Q).length ≤ (l.filter P).length := by
   intro l
   induction l with
   | nil => exact Nat.le_refl _
   | cons b l ih2 =>
    rw [List.filter_cons, List.filter_cons]
    cases hq : Q b with
    | true => rw [h b hq]; simp; exact ih2
    | false => cases P b <;> simp <;> omega
  rw [List.filter_cons, List.filter_cons]
  rcases List.mem_cons.1 ha with rfl | ha
  ·rw [h1, h2]
   have := le l
   simp; omega
  ·have := ih ha
   cases hq : Q b with
   | true => rw [h b hq]; simp; exact this
   | false => cases P b <;> simp <;> omega
theorem joinsF_in {chans : List AChan} {at_ : Int} : ∀ (l : List Int) (s : SI), (joinsF chans at_ l s).isSome = true → ∀ j, j ∈ l → 0 ≤ j ∧ j < chans.length
 | [], _, _, j, hj => by cases hj
 | k :: l, s, h, j, hj => by
  rw [joinsF] at h
  cases hb : joinB chans at_ k s.1 with
  | false => rw [hb] at h; cases h
  | true =>
   rw [hb, cond_true] at h
   rcases List.mem_cons.1 hj with rfl | hj
   ·unfold joinB at hb
    simp only [Bool.and_eq_true, decide_eq_true_eq] at hb
    have h1 : j ≤ (chans.length : Int) - 1 := hb.1.2
    exact ⟨hb.1.1, by omega⟩
   ·exact joinsF_in l _ h j hj
theorem rulesF_in {chans : List AChan} : ∀ (l : List ARule) (s : SI), (rulesF chans l s).isSome = true → ∀ r, r ∈ l → joinsB chans r.at_ r.joins = true
 | [], _, _, r, hr => by cases hr
 | a :: l, s, h, r, hr => by
  rw [rulesF] at h
  cases hb : joinsB chans a.at_ a.joins with
  | false => rw [hb] at h; cases h
  | true =>
   rw [hb, cond_true] at h
   rcases List.mem_cons.1 hr with rfl | hr
   ·exact hb
   ·exact rulesF_in l _ h r hr
theorem defB_own {d : ADf} (h : defB d = true) : OwnOK d ∧ 0 ≤ moreD d ∧ moreD d ≤ 60 := by
 unfold defB at h
 rw [Bool.and_eq_true, Bool.and_eq_true, Bool.and_eq_true, decide_eq_true_eq] at h
 obtain ⟨h1, h2, _, h4⟩ := h
 have e : moreD d = (d.chans.length : Int) + (d.spots.length : Int) := rfl
 have h1 : max (max (d.chans.length : Int) (d.spots.length : Int)) (d.rules.length : Int) ≤ 30 := h1
 refine ⟨⟨fun c hc => ?_, fun r hr => ?_⟩, by omega, by omega⟩
 ·have := List.all_eq_true.1 h2 c hc
  unfold chB at this
  simp only [Bool.and_eq_true, decide_eq_true_eq] at this
  exact this.2
 ·have hs : (rulesF d.chans d.rules ([], 0)).isSome = true := by
   cases hf : rulesF d.chans d.rules ([], 0) with
   | none => rw [hf] at h4; cases h4
   | some s => rfl
  have := rulesF_in _ _ hs r hr
  unfold joinsB at this
  simp only [Bool.and_eq_true, decide_eq_true_eq] at this
  exact ⟨joinsF_in _ _ this.2, by have h := this.1.2; have h : (r.joins.length : Int) ≤ 3 := h; omega⟩
theorem nil_own : OwnOK ⟨nilS, nilS, nilS, [], [], []⟩ := ⟨fun _c hc => (nomatch hc), fun _r hr => (nomatch hr)⟩
theorem step_shown {p : AProg} {s s' : SV} {x : Int × Int} (h : stepO p s x = some s') : Shown p x.1 ∧ s'.1 = putN x.1 x.2 s.1 ∧ inI x.1 s.1.1 = false ∧ (setI s.2.1 → setI s'.2.1) := by
 unfold stepO at h
 cases h1 : (decide (0 ≤ x.1) && decide (x.1 ≤ Int.ofNat p.nodes.length - 1)) && !inI x.1 s.1.1 with
 | false => rw [h1] at h; cases h
 | true =>
  rw [h1, cond_true] at h
  cases h2 : nodeB p.defs.length x.2 (ndAt p x.1).op (ndAt p x.1).n (ndAt p x.1).args.length (ndAt p x.1).kids.length && (ndAt p x.1).args.all (argB x.2) with
  | false => rw [h2] at h; cases h
  | true =>
   rw [h2, cond_true] at h
   rw [Bool.and_eq_true, Bool.and_eq_true, decide_eq_true_eq, decide_eq_true_eq] at h1
   rw [Bool.and_eq_true] at h2
   have hn1 : x.1 ≤ (p.nodes.length : Int) - 1 := h1.1.2
   have hin : inI x.1 s.1.1 = false := by simpa using h1.2
   unfold kidsB at h
   by_cases h4 : (ndAt p x.1).op = 4
   ·rw [if_pos h4] at h
    cases h5 : (!inI (ndAt p x.1).n s.2.1) && defB (dfAt p (ndAt p x.1).n) with
    | false => rw [h5] at h; cases h
    | true =>
     rw [h5, cond_true] at h
     cases h
     rw [Bool.and_eq_true] at h5
     have hd := h2.1
     rw [nb_def h4, Bool.and_eq_true, Bool.and_eq_true, Bool.and_eq_true, decide_eq_true_eq, decide_eq_true_eq] at hd
     have hd2 : (ndAt p x.1).n ≤ (p.defs.length : Int) - 1 := hd.2.2.2
     obtain ⟨o1, o2, o3⟩ := defB_own h5.2
     have eD : ownD p (ndAt p x.1) = dfAt p (ndAt p x.1).n := by unfold ownD; rw [if_pos h4]
     exact ⟨⟨h1.1.1, by omega, fun _ => ⟨hd.2.2.1, by omega⟩, by rw [eD]; exact o1, by rw [eD]; exact ⟨o2, o3⟩⟩, rfl, hin, fun hs => setI_add hs⟩
   ·rw [if_neg h4] at h
    cases h
    have eD : ownD p (ndAt p x.1) = ⟨nilS, nilS, nilS, [], [], []⟩ := by unfold ownD; rw [if_neg h4]
    exact ⟨⟨h1.1.1, by omega, fun h => absurd h h4, by rw [eD]; exact nil_own, by rw [eD]; exact ⟨by decide, by decide⟩⟩, rfl, hin, fun hs => hs⟩
theorem step_mu {p : AProg} {s s' : SV} {x : Int × Int} (h : stepO p s x = some s') : muP p s' < muP p s := by
 obtain ⟨sh, e1, hin, _⟩ := step_shown h
 obtain ⟨i, ei⟩ : ∃ i : Nat, x.1 = Int.ofNat i := ⟨x.1.toNat, by have := sh.n0; show x.1 = (x.1.toNat : Int); omega⟩
 have hi : i < p.nodes.length := by have h := sh.n1; rw [ei] at h; have h : (i : Int) < (p.nodes.length : Int) := h; omega
 unfold muP
 rw [e1]
 refine filter_lt (a := i) (fun j hj => ?_) (List.mem_range.2 hi) ?_ ?_
 ·have hj : (!inI (Int.ofNat j) (addI x.1 (iv x.2) s.1.1 s.1.2)) = true := hj
  rw [inI_add, Bool.not_or, Bool.and_eq_true] at hj
  exact hj.1
 ·rw [← ei, hin]; rfl
 ·show (!inI (Int.ofNat i) (addI x.1 (iv x.2) s.1.1 s.1.2)) = false
  rw [inI_add, ← ei]; simp
def stepV (p : AProg) (s : SV) (x : Int × Int) : St SV Empty := match stepO p s x with
 | some s' => .go s'
 | none => .fail unfC
theorem stepV_go {p : AProg} {s s' : SV} {x : Int × Int} (h : stepV p s x = .go s') : stepO p s x = some s' := by
 unfold stepV at h
 cases e : stepO p s x with
 | some a => rw [e] at h; cases h; rfl
 | none => rw [e] at h; cases h
theorem stepV_unf {p : AProg} {s : SV} {x : Int × Int} {c : Chain} (h : stepV p s x = .fail c) : c = unfC := by
 unfold stepV at h
 cases e : stepO p s x with
 | some a => rw [e] at h; cases h
 | none => rw [e] at h; cases h; rfl
theorem wk_unf {σ : Type} {p : AProg} {step : σ → Int × Int → St σ Empty} (hs : ∀ s x c, step s x = .fail c → c = unfC) : ∀ (k : Nat) (x : Int × Int) (s : σ) (c : Chain), wkN p step k x s = .fail c → c = unfC
 | 0, x, s, c, h => by cases h
 | k + 1, x, s, c, h => by
  rw [wkN] at h
  cases e : step s x with
  | go s' =>
   rw [e] at h
   dsimp only at h
   have key : ∀ (l : List (Int × Int)) (s : σ), foldSt (fun s c => wkN p step k (c.1, x.2 + c.2) s) s l = .fail c → c = unfC := by
    intro l
    induction l with
    | nil => intro s h; cases h
    | cons q l ih =>
     intro s h
     rw [foldSt] at h
     cases e2 : wkN p step k (q.1, x.2 + q.2) s with
     | go s2 => rw [e2] at h; exact ih s2 h
     | stop t => exact t.elim
     | fail c' => rw [e2] at h; cases h; exact wk_unf hs k _ s c e2
   exact key _ _ h
  | stop t => exact t.elim
  | fail c' => rw [e] at h; cases h; exact hs _ _ _ e
end
noncomputable section
abbrev mzL (tm : T AVal) (d0 : Nat) : Lp := ⟨7, 63, tm, [23, 24], cAt [true, true, true, true, false, true, false, false] (bodyF Tryz.f7), cAt [true, true, true, true, false, true, false, true] (bodyF Tryz.f7), d0⟩
def setC (l : List EntI) : Prop := ∀ x, x ∈ l → ∃ k, x.2.1 = iv k
theorem setC_put {n sz : Int} {s : SI} (h : setC s.1) : setC (putN n sz s).1 := by
 show setC (addI n (iv sz) s.1 s.2)
 unfold addI
 cases findI n s.1 with
 | some _ => exact h
 | none =>
  intro x hx
  rcases List.mem_append.1 hx with hx | hx
  ·exact h x hx
  ·rw [List.mem_singleton.1 hx]; exact ⟨_, rfl⟩
def sizeA (s : SI) (i : Nat) : AVal := match findI (Int.ofNat i) s.1 with
 | some v => v
 | none => .lit (.int .i64 0)
theorem sizeA_iv {s : SI} (h : setC s.1) (i : Nat) : ∃ k, sizeA s i = iv k := by
 unfold sizeA
 cases e : findI (Int.ofNat i) s.1 with
 | none => exact ⟨0, rfl⟩
 | some v =>
  unfold findI at e
  rw [Option.map_eq_some_iff] at e
  obtain ⟨x, hx, rfl⟩ := e
  exact h x (List.mem_of_find?_eq_some hx)
theorem el_56 : sizedElem Tryz.prog (sliceElem Tryz.prog 31) = some (3, 1) := ElF.h
theorem o_bsI {tmps : T AVal} {m : Mem} {x : Operand} {k : Int} (hx : evalT tmps x = iv k) : aop Tryz.prog tmps m (.buildSlice 31 1 #[(0, x)]) = .val (.slice m.next 0 1 1 true) (m.new (.row (3, 1) [iv k] m.next 0)) := by
 show buildSlice Tryz.prog 1 (ev2 tmps #[(0, x)].toList) m (sizedElem Tryz.prog (sliceElem Tryz.prog 31)) = _
 rw [ev1 hx, el_56]
 show (match zcells Tryz.prog 3 with | some z => bif (lenL z).beq 1 && (Nat.mul 1 1).ble 10000 && !(Nat.beq 1 0) then bsWith m (3, 1) 1 (fillL (fun i => some (i.mul 1, 1)) [(0, iv k)] (repL z 1)) else .bad "buildSlice" | none => .bad "buildSlice") = _
 rw [show zcells Tryz.prog 3 = some [.lit (.int .i64 0)] by kernel_rfl]
 rfl
theorem a56 : arg2OK Tryz.prog (some 56) = true := by kernel_rfl
theorem g3 : growOK Tryz.prog 3 1 = true := by kernel_rfl
variable {fl : Fl} (hfl : Tab fl)
include hfl
theorem mz_round {m3 : Mem} {l c ws wk d0 : Nat} {tm : T AVal} {p : AProg} (t4 : getT tm 4 = .ptr c 0) (hlt : l < m3.next ∧ c < m3.next ∧ ws < m3.next ∧ wk < m3.next) (hne : c ≠ l ∧ ws ≠ l ∧ wk ≠ l ∧ ws ≠ wk ∧ c ≠ ws ∧ c ≠ wk) (hc : Cel m3 c (chkC p ws wk)) (hp : p.OK m3) :
  RoundOK Tryz.prog fl l (mzL tm d0) (fun q => q = ws ∨ q = wk ∨ q = l) m3.next (fun (s : SV) m => MapsAt m ws wk s ∧ (setI s.2.1 ∧ setC s.1.1) ∧ Kept (fun q => q = ws ∨ q = wk ∨ q = l) m3 m) (fun (_ : Empty) _ => False) (fun (_ : Empty) => Code.ret) (fun (x : Int × Int) => [iv x.1, iv x.2]) okW (stepV p) := by
 refine ⟨by kernel_rfl, fun x => rfl, .inr (.inr rfl), ?_, ?_, (fun _ _ _ h => h.elim), ?_⟩
 ·rintro q (h | h | h) <;> omega
 ·rintro s m m' ⟨⟨h1, h2⟩, h3, hk⟩ k
  have n3 := hk.next
  exact ⟨⟨(k.get ws (by omega) (by show ¬ (m3.next ≤ ws); omega)).trans h1, (k.get wk (by omega) (by show ¬ (m3.next ≤ wk); omega)).trans h2⟩, h3, hk.then k (fun q hq h => by have : m3.next ≤ q := h; omega)⟩
 ·rintro st ⟨n, sz⟩ m hw hBm ⟨hm, hset, hk⟩ ⟨hz0, hz1⟩ hlr
  have hz0 : 0 ≤ sz := hz0
  have hz1 : sz ≤ 2 ^ 38 := hz1
  show Wp Tryz.prog fl (At ⟨7, 63, false, some l⟩ [.code (cAt [true, true, true, true, false, true, false, false] (bodyF Tryz.f7)), .beginRound, .code (cAt [true, true, true, true, false, true, false, true] (bodyF Tryz.f7))] (sets 63 tm [(24, iv sz), (23, iv n)]) [] .run [] m) _
  have K : Kept (fun q => m.next ≤ q ∨ (fun q => q = ws ∨ q = wk ∨ q = l) q) m m := Kept.refl hw
  have ltl := hw.lt hlr
  have n3 := hk.next
  have hcm := hc.kept hk (by omega) (by rintro (h | h | h) <;> omega)
  have hpm := hp.kept hk
  obtain ⟨hm1, hm2⟩ := hm
  have q1 := hw.lt hm1
  have q2 := hw.lt hm2
  refine gg ?_
  refine w_begin rfl hlr ?_
  obtain ⟨m1, g2⟩ : ∃ m', Wrote m m' l ((mzL tm d0).obj .busy none) ∧ m' = m.put l ((mzL tm d0).obj .busy none) := ⟨_, wrote _ _ _, rfl⟩
  rw [show m.put l (.loop ⟨.busy, none, 7, 63, tm, [23, 24], cAt [true, true, true, true, false, true, false, false] (bodyF Tryz.f7), cAt [true, true, true, true, false, true, false, true] (bodyF Tryz.f7), d0⟩) = m1 from g2.2.symm]
  replace g2 := g2.1
  have n1 := g2.next
  have k1 : Kept (fun q => q = l) m m1 := Kept.wrote hw g2 hlr (fun _ h => by cases h) rfl
  have K := K.w g2 hlr (fun _ h => by cases h) (Or.inr (Or.inr (Or.inr rfl)))
  have hm1' := (g2.other ws (by omega)).trans hm1
  have hm2' := (g2.other wk (by omega)).trans hm2
  have hlr2 := g2.same
  refine gg ?_
  refine s_step rfl rfl rfl rfl (o_calls (me3 (e_base rfl t4) v0 v0)) (vst_ok hfl (c := c) (ws := ws) (wk := wk) (by omega) (p := p) (n := n) (sz := sz) (s := st) hz0 (by omega) (hcm.kept k1 (by omega) (by show ¬ (c = l); omega)) (hpm.kept k1) ⟨hm1', hm2'⟩ hset.1 K.wf) (fun z m2 k2 hpost => ?_) (fun z m2 k2 => ?_)
  ·obtain ⟨s', es⟩ : ∃ s', stepO p st (n, sz) = some s' := Option.isSome_iff_exists.1 z
   have hms := hpost s' es
   have hset' : setI s'.2.1 ∧ setC s'.1.1 := ⟨(step_shown es).2.2.2 hset.1, by rw [(step_shown es).2.1]; exact setC_put hset.2⟩
   have K2 := K.k k2 (fun q h => Or.inr (by rcases h with h | h; exact .inl h; exact .inr (.inl h)))
   refine gg ?_
   have hl2 := (k2.get l (by omega) (by rintro (h | h) <;> omega)).trans hlr2
   refine w_roundEnd rfl hl2 ?_
   rw [show stepV p st (n, sz) = .go s' from by unfold stepV; rw [es]]
   have gE := wrote m2 l ((mzL tm d0).obj .ready none)
   have KE := K2.w gE hl2 (fun _ h => by cases h) (Or.inr (Or.inr (Or.inr rfl)))
   exact ⟨_, _, rfl, KE.out, ⟨⟨(gE.other ws (by omega)).trans hms.1, (gE.other wk (by omega)).trans hms.2⟩, hset', hk.then KE.out (fun _ _ h => h)⟩, gE.same⟩
  ·have K2 := K.k k2 (fun q h => Or.inr (by rcases h with h | h; exact .inl h; exact .inr (.inl h)))
   refine w_panics ?_
   rw [show stepV p st (n, sz) = .fail unfC from by unfold stepV; cases e : stepO p st (n, sz) with | none => rfl | some s => rw [e] at z; cases z]
   exact ⟨_, _, rfl, K2.out⟩
theorem mz_end_pan {tm : T AVal} {r2 r3 : Nat} {x z : AVal} (t2 : getT tm 2 = .ptr r2 0) (t3 : getT tm 3 = .ptr r3 0) (hne : r2 ≠ r3) {m : Mem} (h2m : m.next ≤ r2) (h3m : m.next ≤ r3) : ∀ (bs : List Nat) {mX : Mem} (todo : List AItem), Kept (fun q => m.next ≤ q ∨ noS q) m mX → (∀ b, b ∈ bs → mX.heap.get b = some (.deferred (some [])) ∧ m.next ≤ b ∧ b ≠ r2 ∧ b ≠ r3) → bs.Nodup → Cel mX r2 [x] → Cel mX r3 [z] →
  Wp Tryz.prog fl (At ⟨7, 63, false, none⟩ todo tm (bs.map (fun b => (⟨.nil, [], some b, []⟩ : ADef)) ++ [(⟨.fn (.func 19) #[], [.ptr r2 0, .ptr r3 0], none, []⟩ : ADef)]) (.panicking unfC) [] mX) (Rets noS m (.tuple [nilS, iv 2])) := by
 intro bs
 induction bs with
 | nil =>
  intro mX todo K _ _ h2 h3
  refine w_deferred (t := .fn (.func 19) #[]) (by intro h; cases h) rfl rfl Tryz.func19 rfl (Nat.le_of_ble_eq_true rfl) (deferred_pan hfl hne h2 h3 K.wf) ?_ ?_
  ·rintro _ _ m' ⟨_, _, e, k, ⟨⟨e2, h2r⟩, f2⟩, ⟨⟨e3, h3r⟩, f3⟩⟩
   cases e
   have K' := K.k k (fun q h => Or.inl (by rcases h with h | h <;> omega))
   show Wp Tryz.prog fl (At ⟨7, 63, false, none⟩ [] tm [] .returning [] m') _
   refine w_results Tryz.func7 (rvc2 t2 (lv1 h2r tg_56 sz_56 rfl rfl) t3 (lv1 h3r tg_33 sz_33 rfl rfl)) ?_
   exact ⟨_, _, rfl, K'.out⟩
  ·rintro c u m' ⟨_, _, e, _⟩; cases e
 | cons b bs ih =>
  intro mX todo K hb hnd h2 h3
  obtain ⟨hb1, hb2, hb3, hb4⟩ := hb b (by simp)
  have hbs := List.nodup_cons.1 hnd
  refine w_coll (by intro h; cases h) hb1 ?_
  have gE := wrote mX b (.deferred none)
  have l2 := h2.lt K.wf
  have l3 := h3.lt K.wf
  have kE := (Kept.wrote K.wf gE hb1 (fun _ h => by cases h) rfl : Kept (fun q => q = b) mX _)
  exact ih [] (K.w gE hb1 (fun _ h => by cases h) (Or.inl hb2)) (fun b' hb' => ⟨(gE.other b' (fun e => hbs.1 (e ▸ hb'))).trans (hb b' (by simp [hb'])).1, (hb b' (by simp [hb'])).2⟩) hbs.2 (h2.kept kE l2 (fun e => hb3 e.symm)) (h3.kept kE l3 (fun e => hb4 e.symm))
theorem mz_end_ret {tm : T AVal} {r2 r3 : Nat} {x : AVal} (cx : isCell x = true) {z : Int} (t2 : getT tm 2 = .ptr r2 0) (t3 : getT tm 3 = .ptr r3 0) (hne : r2 ≠ r3) {m : Mem} (h2m : m.next ≤ r2) (h3m : m.next ≤ r3) : ∀ (bs : List Nat) {mX : Mem} (todo : List AItem), Kept (fun q => m.next ≤ q ∨ noS q) m mX → (∀ b, b ∈ bs → mX.heap.get b = some (.deferred (some [])) ∧ m.next ≤ b ∧ b ≠ r2 ∧ b ≠ r3) → bs.Nodup → Cel mX r2 [x] → Cel mX r3 [iv z] →
  Wp Tryz.prog fl (At ⟨7, 63, false, none⟩ todo tm (bs.map (fun b => (⟨.nil, [], some b, []⟩ : ADef)) ++ [(⟨.fn (.func 19) #[], [.ptr r2 0, .ptr r3 0], none, []⟩ : ADef)]) (.returning) [] mX) (Rets noS m (.tuple [x, iv z])) := by
 intro bs
 induction bs with
 | nil =>
  intro mX todo K _ _ h2 h3
  refine w_deferred (t := .fn (.func 19) #[]) (by intro h; cases h) rfl rfl Tryz.func19 rfl (Nat.le_of_ble_eq_true rfl) (deferred_ret hfl hne h2 h3 K.wf) ?_ ?_
  ·rintro _ _ m' ⟨_, _, e, k, ⟨⟨e2, h2r⟩, f2⟩, ⟨⟨e3, h3r⟩, f3⟩⟩
   cases e
   have K' := K.k k (fun q h => Or.inl (by rcases h with h | h <;> omega))
   show Wp Tryz.prog fl (At ⟨7, 63, false, none⟩ [] tm [] .returning [] m') _
   refine w_results Tryz.func7 (rvc2 t2 (lv1 h2r tg_56 sz_56 rfl (by cases x <;> first | rfl | cases cx)) t3 (lv1 h3r tg_33 sz_33 rfl rfl)) ?_
   exact ⟨_, _, rfl, K'.out⟩
  ·rintro c u m' ⟨_, _, e, _⟩; cases e
 | cons b bs ih =>
  intro mX todo K hb hnd h2 h3
  obtain ⟨hb1, hb2, hb3, hb4⟩ := hb b (by simp)
  have hbs := List.nodup_cons.1 hnd
  refine w_coll (by intro h; cases h) hb1 ?_
  have gE := wrote mX b (.deferred none)
  have l2 := h2.lt K.wf
  have l3 := h3.lt K.wf
  have kE := (Kept.wrote K.wf gE hb1 (fun _ h => by cases h) rfl : Kept (fun q => q = b) mX _)
  exact ih [] (K.w gE hb1 (fun _ h => by cases h) (Or.inl hb2)) (fun b' hb' => ⟨(gE.other b' (fun e => hbs.1 (e ▸ hb'))).trans (hb b' (by simp [hb'])).1, (hb b' (by simp [hb'])).2⟩) hbs.2 (h2.kept kE l2 (fun e => hb3 e.symm)) (h3.kept kE l3 (fun e => hb4 e.symm))
omit hfl in
theorem sizes_loop {c r2 r3 ws : Nat} {p : AProg} {wk : Nat} {s : SV} (hset : setC s.1.1) {B n : Nat} (hn : n ≤ 60) (hB2 : r2 < B ∧ c < B ∧ ws < B) (hne : r2 ≠ c ∧ r2 ≠ ws) (k : List AItem) {Q : RR → Prop} {up : Chain} {ds : List ADef} : ∀ (r i : Nat) (v : AVal) (f : Nat) {m : Mem} (b : T AVal), i + r = n → Wf m → B ≤ m.next → Cel m c (chkC p ws wk) → m.heap.get ws = some (.map (entsI s.1.1) s.1.2) → Cel m r2 [v] → Gs 3 B m v f ((List.range i).map (sizeA s.1)) → getT b 2 = .ptr r2 0 → getT b 3 = .ptr r3 0 → getT b 4 = .ptr c 0 → getT b 50 = goI n → getT b 51 = goI i →
  (∀ (m' : Mem) (b' : T AVal) (v' : AVal) (f' : Nat), Kept (fun q => q = r2 ∨ B ≤ q) m m' → Cel m' r2 [v'] → Gs 3 B m' v' f' ((List.range n).map (sizeA s.1)) → getT b' 2 = .ptr r2 0 → getT b' 3 = .ptr r3 0 → Wp Tryz.prog fl (At ⟨7, 63, false, none⟩ k b' ds .run up m') Q) →
  Wp Tryz.prog fl (At ⟨7, 63, false, none⟩ (.code (cAt [true, true, true, true, true, true, false, true, false, false] (bodyF Tryz.f7)) :: .inLoop (cAt [true, true, true, true, true, true, false, true, false, false] (bodyF Tryz.f7)) :: .inBlock 2 :: k) (sets 63 b []) ds .run up m) Q := by
 intro r
 induction r with
 | zero =>
  intro i v f m b hir hw hB hc hm h2 hgs k2 k3 k4 k50 k51 hk
  have hlt : decide (Int.ofNat i < Int.ofNat n) = false := by rw [decide_eq_false_iff_not]; show ¬ ((i : Int) < (n : Int)); omega
  refine gg ?_
  refine Wp.gen (fun b' eb => ?_)
  obtain rfl : i = n := by omega
  exact hk _ b' v f (Kept.refl hw) h2 hgs (eqb eb (e_base rfl k2)) (eqb eb (e_base rfl k3))
 | succ r ih =>
  intro i v f m b hir hw hB hc hm h2 hgs k2 k3 k4 k50 k51 hk
  have hlt : decide (Int.ofNat i < Int.ofNat n) = true := by rw [decide_eq_true_eq]; show (i : Int) < (n : Int); omega
  have hln : i + 1 < 2 ^ 62 := by omega
  have hc0 := hc
  have h20 := h2
  have cv := hgs.cell
  obtain ⟨⟨ec, hcr⟩, fc⟩ := hc
  have hcr : m.heap.get c = some (.row ec [p.fv, p.nv, p.dv, iv p.main, .map ws, .map wk] c 0) := hcr
  obtain ⟨⟨e2, h2r⟩, f2⟩ := h2
  have np : isPoison v = false := np_cell cv
  obtain ⟨kz, ek⟩ := sizeA_iv hset i
  have q2 := hw.lt h2r
  have qc := hw.lt hcr
  have qs := hw.lt hm
  refine gg ?_
  refine s_val rfl rfl rfl rfl (o_lookupI (u := iv kz) v0 v0 hm mk_215 ui3 tz3 ek) ?_
  refine s_new rfl rfl rfl rfl (o_bsI v0) (fun m1 g => ?_)
  have n1 := g.next
  have hw1 := hw.grew g
  have hgs1 := hgs.grew g hw
  have h2r := (g.other r2 (by omega)).trans h2r
  have f2 := (g.famo r2).trans f2
  refine s_append (B := B) rfl rfl rfl rfl hgs1 hw1 (by omega) v0 v0 g.same rfl el_56 a56 g3 (by rw [List.length_map, List.length_range]; omega) (fun v9 m9 f9 hgs9 happ hfe hfn hBf => ?_)
  have hw9 := hw1.appd happ
  have n9 := happ.next
  obtain ⟨rv, hv9⟩ : ∃ rv, v9 = .slice rv 0 ((List.range i).map (sizeA s.1) ++ [iv kz]).length ((List.range i).map (sizeA s.1) ++ [iv kz]).length false := by
   rcases hgs9 with ⟨h, _⟩ | ⟨rv, h, _⟩
   ·simp at h
   ·exact ⟨rv, h⟩
  have h2r9 := (happ.heap r2 (by omega)).trans h2r
  have f29 := (happ.fams r2 (by omega)).trans f2
  subst hv9
  refine s_put0 rfl rfl rfl (o_store v0 (e_base rfl k2) h2r9 f29 sz_56 rfl rfl rfl rfl) (fun m10 g10 => ?_)
  have n10 := g10.next
  have hw10 := hw9.wrote g10 (by omega)
  have hgs10 := hgs9.wrote hw9 g10 h2r9 (.inr (by omega))
  have h2r10 := g10.same
  have f210 := (g10.famo r2).trans f29
  have KK : Kept (fun q => q = r2 ∨ B ≤ q) m m10 := ((Kept.grew hw g).trans (Kept.appdS hw1 happ (.inr hBf))).trans (Kept.wrote hw9 g10 h2r9 (fun _ h => by cases h) (.inl rfl))
  have hc10 := hc0.kept KK qc (by rintro (h | h) <;> omega)
  have hm10 := (KK.get ws qs (by rintro (h | h) <;> omega)).trans hm
  refine gg ?_
  refine w_inLoop ?_
  refine Wp.gen (fun b' eb => ?_)
  have er : (List.range (i + 1)).map (sizeA s.1) = (List.range i).map (sizeA s.1) ++ [iv kz] := by rw [List.range_succ, List.map_append, List.map_singleton, ek]
  exact ih (i + 1) _ f9 b' (by omega) hw10 (by omega) hc10 hm10 (Cel.of h2r10 f210) (by rw [er]; exact hgs10) (eqb eb (e_base rfl k2)) (eqb eb (e_base rfl k3)) (eqb eb (e_base rfl k4)) (eqb eb (e_base rfl k50)) (eqb eb (e_hit rfl)) (fun m' b' v' f' k h => hk m' b' v' f' (KK.trans k) h)
end
noncomputable section
def s0 : SV := (([], 0), ([], 0))
def walkP (p : AProg) : St SV Empty := wkN p (stepV p) (p.nodes.length + 1) (p.main, Int.ofNat p.free.length) s0
def headB (p : AProg) : Bool := ((decide (Int.ofNat p.free.length ≤ 12) && decide (Int.ofNat p.nodes.length ≤ 60)) && decide (Int.ofNat p.defs.length ≤ 12)) && freeF none p.free
def endM (p : AProg) (s : SV) : Bool := (Int.ofNat s.1.1.length == Int.ofNat p.nodes.length) && (Int.ofNat s.2.1.length == Int.ofNat p.defs.length)
def measP (p : AProg) : Option SV := bif headB p then (match walkP p with
 | .go s => bif endM p s then some s else none
 | .stop _ => none
 | .fail _ => none) else none
def errM (p : AProg) : Int := bif (measP p).isSome then 0 else 2
variable {fl : Fl} (hfl : Tab fl)
include hfl
abbrev dsM (d0 r2 r3 : Nat) : List ADef := [⟨.nil, [], some d0, []⟩, ⟨.fn (.func 19) #[], [.ptr r2 0, .ptr r3 0], none, []⟩]
structure MzT (tm : T AVal) (r1 r2 r3 c : Nat) : Prop where
 t1 : getT tm 1 = .ptr r1 0
 t2 : getT tm 2 = .ptr r2 0
 t3 : getT tm 3 = .ptr r3 0
 t4 : getT tm 4 = .ptr c 0
structure MzM (m m8 : Mem) (p : AProg) (r1 r2 r3 c ws wk d0 : Nat) (s : SV) : Prop where
 K : Kept (fun q => m.next ≤ q ∨ noS q) m m8
 h : m.next ≤ r2 ∧ m.next ≤ r3 ∧ m.next ≤ d0 ∧ r2 ≠ r3 ∧ r2 ≠ c ∧ r2 ≠ ws ∧ r2 ≠ wk ∧ d0 ≠ r2 ∧ d0 ≠ r3 ∧ r2 ≠ r1
 c1 : Cel m8 r1 p.cells
 c2 : Cel m8 r2 [nilS]
 c3 : Cel m8 r3 [iv 0]
 cc : Cel m8 c (chkC p ws wk)
 hm1 : m8.heap.get ws = some (.map (entsI s.1.1) s.1.2)
 hm2 : m8.heap.get wk = some (.map (entsI s.2.1) s.2.2)
 gd : m8.heap.get d0 = some (.deferred (some []))
theorem mz_last {tm : T AVal} {p : AProg} {m m12 : Mem} {r1 r2 r3 c ws wk d0 : Nat} {s : SV} (t : MzT tm r1 r2 r3 c) (M : MzM m m12 p r1 r2 r3 c ws wk d0 s) (hset : setC s.1.1) (hd2 : p.nodes.length ≤ 60) (_cf : isCell p.fv = true) (cn : isCell p.nv = true) (_cd : isCell p.dv = true) (ln : ∀ m', lenSl m' p.nv = .val (goI p.nodes.length) m') :
  Wp Tryz.prog fl (At ⟨7, 63, false, none⟩ [.code (cAt [true, true, true, true, true, true] (bodyF Tryz.f7))] (sets 63 tm []) (dsM d0 r2 r3) .run [] m12) (fun r => ∃ v, isCell v = true ∧ Rets noS m (.tuple [v, iv 0]) r) := by
 obtain ⟨t1, t2, t3, t4⟩ := t
 obtain ⟨K, ⟨o1, o2, o3, o4, o5, o6, o7, o8, o9, o10⟩, c1, c2, c3, cc, hm1, hm2, gd12⟩ := M
 have l1 := c1.lt K.wf
 have l2 := c2.lt K.wf
 have l3 := c3.lt K.wf
 have lc := cc.lt K.wf
 have ls := K.wf.lt hm1
 have lg := K.wf.lt gd12
 obtain ⟨⟨e1, h1r⟩, f1r⟩ := c1
 have h1r : m12.heap.get r1 = some (.row e1 [p.fv, p.nv, p.dv, iv p.main] r1 0) := h1r
 refine gg ?_
 refine Wp.gen (fun tmX etX => ?_)
 have x2 : getT tmX 2 = .ptr r2 0 := eqb etX (e_base rfl t2)
 have x3 : getT tmX 3 = .ptr r3 0 := eqb etX (e_base rfl t3)
 have x4 : getT tmX 4 = .ptr c 0 := eqb etX (e_base rfl t4)
 have x50 : getT tmX 50 = goI p.nodes.length := eqb etX (e_hit rfl)
 have x51 : getT tmX 51 = goI 0 := eqb etX (e_hit rfl)
 refine w_loop ?_
 change Wp Tryz.prog fl (At _ _ (sets 63 tmX []) _ _ _ _) _
 refine sizes_loop (c := c) (r2 := r2) (r3 := r3) (ws := ws) (p := p) (wk := wk) (s := s) hset (B := m12.next) (n := p.nodes.length) hd2 ⟨by omega, by omega, by omega⟩ ⟨by omega, by omega⟩ _ p.nodes.length 0 _ 0 _ (by omega) K.wf (Nat.le_refl _) cc hm1 c2 Gs.nil x2 x3 x4 x50 x51 (fun m13 bX v' f' k13 c2' gs e2 e3 => ?_)
 have n13 := k13.next
 have K := K.k k13 (fun q h => Or.inl (by have := K.next; rcases h with h | h <;> omega))
 have c3' := c3.kept k13 (by omega) (by rintro (h | h) <;> omega)
 have gd13 := (k13.get d0 (by omega) (by rintro (h | h) <;> omega)).trans gd12
 have cv := gs.cell
 have np : isPoison v' = false := np_cell cv
 obtain ⟨⟨e2r, h2r⟩, f2r⟩ := c2'
 obtain ⟨⟨e3r, h3r⟩, f3r⟩ := c3'
 have l2x := K.wf.lt h2r
 have l3x := K.wf.lt h3r
 have sv : v' = nilS ∨ ∃ rv n, v' = .slice rv 0 n n false := by
  rcases gs with ⟨_, h⟩ | ⟨rv, h, _⟩
  ·exact .inl h
  ·exact .inr ⟨rv, _, h⟩
 rcases sv with rfl | ⟨rv, nn, rfl⟩
 all_goals
  change Wp Tryz.prog fl (At _ _ (sets 63 bX []) _ _ _ _) _
  refine gg ?_
  refine s_put0 rfl rfl rfl (o_store v0 (e_base rfl e2) h2r f2r sz_56 rfl rfl rfl rfl) (fun m14 g => ?_)
  have n14 := g.next
  have K := K.w g h2r (fun _ h => by cases h) (Or.inl (by omega))
  have h3r := (g.other r3 (by omega)).trans h3r
  have f3r := (g.famo r3).trans f3r
  have gd14 := (g.other d0 (by omega)).trans gd13
  have h2r := g.same
  have f2r := (g.famo r2).trans f2r
  refine s_put0 rfl rfl rfl (o_store rfl (e_base rfl e3) h3r f3r sz_33 rfl rfl rfl rfl) (fun m15 g => ?_)
  have n15 := g.next
  have K := K.w g h3r (fun _ h => by cases h) (Or.inl (by omega))
  have h2r := (g.other r2 (by omega)).trans h2r
  have f2r := (g.famo r2).trans f2r
  have gd15 := (g.other d0 (by omega)).trans gd14
  have h3r := g.same
  have f3r := (g.famo r3).trans f3r
  refine gg ?_
  refine w_retAt rfl ?_
  exact Wp.mono (fun r h => ⟨_, rfl, h⟩) (mz_end_ret hfl (x := _) rfl (r2 := r2) (r3 := r3) (e_base rfl e2) (e_base rfl e3) o4 o1 o2 [d0] _ K (fun b hb => by rw [List.mem_singleton.1 hb]; exact ⟨gd15, by omega, by omega, by omega⟩) (by simp) (Cel.of h2r f2r) (Cel.of h3r f3r))
theorem mz_mid {tm : T AVal} {p : AProg} {m m11 : Mem} {r1 r2 r3 c ws wk d0 : Nat} {s : SV} (t : MzT tm r1 r2 r3 c) (M : MzM m m11 p r1 r2 r3 c ws wk d0 s) (hset : setC s.1.1) (hd2 : p.nodes.length ≤ 60) (cf : isCell p.fv = true) (cn : isCell p.nv = true) (cd : isCell p.dv = true) (ln : ∀ m', lenSl m' p.nv = .val (goI p.nodes.length) m') (ld : ∀ m', lenSl m' p.dv = .val (goI p.defs.length) m') :
  Wp Tryz.prog fl (At ⟨7, 63, false, none⟩ [.code (cAt [true, true, true, true, true] (bodyF Tryz.f7))] (sets 63 tm []) (dsM d0 r2 r3) .run [] m11) (fun r => ∃ v, isCell v = true ∧ Rets noS m (.tuple [v, iv (bif endM p s then 0 else 2)]) r) := by
 have M0 := M
 have T0 := t
 obtain ⟨t1, t2, t3, t4⟩ := t
 obtain ⟨K, ⟨o1, o2, o3, o4, o5, o6, o7, o8, o9, o10⟩, c1, c2, c3, cc, hm1, hm2, gd⟩ := M
 have c10 := c1
 have cc0 := cc
 obtain ⟨⟨e1, h1r⟩, f1r⟩ := c1
 obtain ⟨⟨ec', hcr⟩, fcr⟩ := cc
 have h1r : m11.heap.get r1 = some (.row e1 [p.fv, p.nv, p.dv, iv p.main] r1 0) := h1r
 have hcr : m11.heap.get c = some (.row ec' [p.fv, p.nv, p.dv, iv p.main, .map ws, .map wk] c 0) := hcr
 have pan : endM p s = false → ∀ {mX : Mem} {bX : T AVal} {lX : List (Nat × AVal)} {todo : List AItem}, Kept (fun q => m.next ≤ q ∨ noS q) m mX → Kept noS m11 mX → getT (sets 63 bX lX) 2 = .ptr r2 0 → getT (sets 63 bX lX) 3 = .ptr r3 0 → Wp Tryz.prog fl (At ⟨7, 63, false, none⟩ todo (sets 63 bX lX) (dsM d0 r2 r3) (.panicking unfC) [] mX) (fun r => ∃ v, isCell v = true ∧ Rets noS m (.tuple [v, iv (bif endM p s then 0 else 2)]) r) := by
  intro ez mX bX lX todo K' kk e2 e3
  have lg := K.wf.lt gd
  rw [ez]
  exact Wp.mono (fun r h => ⟨nilS, rfl, h⟩) (mz_end_pan hfl (r2 := r2) (r3 := r3) e2 e3 (by omega) (by omega) (by omega) [d0] _ K' (fun b hb => by rw [List.mem_singleton.1 hb]; exact ⟨(kk.get d0 lg id).trans gd, by omega, by omega, by omega⟩) (by simp) (c2.kept kk (c2.lt K.wf) id) (c3.kept kk (c3.lt K.wf) id))
 refine gg ?_
 refine s_val rfl rfl rfl rfl (o_lenMap um_215 v0 hm1) ?_
 refine gg ?_
 have w0 := K.wf
 refine sg (fun e => ?_) (fun e => ?_)
 ·refine gg ?_
  refine s_val rfl (gT rfl ⟨v0⟩ (by assumption)).h rfl rfl (o_lenMap um_216 v0 hm2) ?_
  refine gg ?_
  refine s_stepE K (Kept.refl (S := noS) K.wf) (o_calls (me1 v0)) (demand_ok hfl _ K.wf) (fun z5 m12 K kk _ => ?_) (fun z5 m12 K kk => ?_)
  ·have ez : endM p s = true := by unfold endM; rw [e, z5]; rfl
   rw [ez]
   refine gr ?_
   refine q_nil ?_
   refine Wp.gen (fun tmX etX => ?_)
   have M1 : MzM m m12 p r1 r2 r3 c ws wk d0 s := ⟨K, M0.h, c10.kept kk (c10.lt w0) id, c2.kept kk (c2.lt w0) id, c3.kept kk (c3.lt w0) id, cc0.kept kk (cc0.lt w0) id, (kk.get ws (w0.lt hm1) id).trans hm1, (kk.get wk (w0.lt hm2) id).trans hm2, (kk.get d0 (w0.lt gd) id).trans gd⟩
   exact mz_last hfl ⟨eqb etX (e_base rfl t1), eqb etX (e_base rfl t2), eqb etX (e_base rfl t3), eqb etX (e_base rfl t4)⟩ M1 hset hd2 cf cn cd ln
  ·exact pan (by unfold endM; rw [e, z5]; rfl) K kk (e_base rfl t2) (e_base rfl t3)
 ·refine gg ?_
  refine s_stepE K (Kept.refl (S := noS) K.wf) (o_calls (me1 v0)) (demand_ok hfl _ K.wf) (fun z5 m12 K kk _ => ?_) (fun z5 m12 K kk => ?_)
  ·cases z5
  ·exact pan (by unfold endM; rw [e]; rfl) K kk (e_base rfl t2) (e_base rfl t3)
end
noncomputable section
variable {fl : Fl} (hfl : Tab fl)
include hfl
structure MzW (m m9 : Mem) (p : AProg) (r1 r2 r3 c ws wk b1 : Nat) : Prop where
 K : Kept (fun q => m.next ≤ q ∨ noS q) m m9
 h : (m.next ≤ r2 ∧ m.next ≤ r3 ∧ r2 ≠ r3 ∧ r2 ≠ c ∧ r2 ≠ ws ∧ r2 ≠ wk ∧ r2 ≠ r1) ∧ (ws ≠ wk ∧ c ≠ ws ∧ c ≠ wk ∧ r1 ≠ ws ∧ r1 ≠ wk ∧ r3 ≠ ws ∧ r3 ≠ wk ∧ m.next ≤ ws ∧ m.next ≤ wk ∧ b1 ≠ ws ∧ b1 ≠ wk)
 c1 : Cel m9 r1 p.cells
 c2 : Cel m9 r2 [nilS]
 c3 : Cel m9 r3 [iv 0]
 cc : Cel m9 c (chkC p ws wk)
 hs : m9.heap.get ws = some (.map (entsI []) 0)
 hk : m9.heap.get wk = some (.map (entsI []) 0)
 d1 : Cel m9 b1 p.cells
 d2 : Cel m9 (b1 + 1) [iv p.main]
 d3 : Cel m9 (b1 + 2) [iv (Int.ofNat p.free.length)]
 hp : p.OK m9
theorem mz_walk {tm : T AVal} {p : AProg} {m m9 : Mem} {r1 r2 r3 c ws wk b1 : Nat} (t : MzT tm r1 r2 r3 c) (tf : evalT tm (.tmp 22) = .func (.func 39) [] [.ptr b1 0, .ptr (b1 + 1) 0, .ptr (b1 + 2) 0]) (M : MzW m m9 p r1 r2 r3 c ws wk b1) (hd1 : (p.free.length : Int) ≤ 12) (hd2 : (p.nodes.length : Int) ≤ 60) :
  Wp Tryz.prog fl (At ⟨7, 63, false, none⟩ [.code (cAt [true, true, true, true, false, true, false] (bodyF Tryz.f7)), .inBlock 0, .code (cAt [true, true, true, true, true] (bodyF Tryz.f7))] tm [⟨.fn (.func 19) #[], [.ptr r2 0, .ptr r3 0], none, []⟩] .run [] m9) (fun r => ∃ v, isCell v = true ∧ Rets noS m (.tuple [v, iv (match walkP p with
   | .go s => bif endM p s then 0 else 2
   | .stop _ => 2
   | .fail _ => 2)]) r) := by
 obtain ⟨t1, t2, t3, t4⟩ := t
 obtain ⟨K9, ⟨⟨o1, o2, o3, o4, o5, o6, o7⟩, ⟨o8, o9, o10, o11, o12, o13, o14, o15, o16, o17, o18⟩⟩, c10, c2, c3, cc0, hs8, hk8, d1, d2, d3, hp9⟩ := M
 have wg := K9.wf
 have n9 := K9.next
 have lt9 := d3.lt wg
 have gA := grew m9 (.deferred (some []))
 obtain ⟨mA, eA⟩ : ∃ mA, mA = m9.new (.deferred (some [])) := ⟨_, rfl⟩
 rw [← eA] at gA
 have gB := grew mA ((mzL tm m9.next).obj .ready none)
 obtain ⟨mB, eB⟩ : ∃ mB, mB = mA.new ((mzL tm m9.next).obj .ready none) := ⟨_, rfl⟩
 rw [← eB] at gB
 have KA := (Kept.refl (S := fun q => m9.next ≤ q ∨ noS q) wg).g gA
 have KB := KA.g gB
 have nA := gA.next
 have nB := gB.next
 have hmB : loopM m9 ⟨7, 63, false, none⟩ tm (#[23, 24] : Array Tmp).toList (cAt [true, true, true, true, false, true, false, false] (bodyF Tryz.f7)) (cAt [true, true, true, true, false, true, false, true] (bodyF Tryz.f7)) = mB := by rw [eB, eA]; rfl
 have kB := KB.out
 have q1 := c10.lt wg
 have q2 := c2.lt wg
 have q3 := c3.lt wg
 have qc := cc0.lt wg
 have qs := wg.lt hs8
 have qk := wg.lt hk8
 have gl : mB.heap.get (m9.next + 1) = some ((mzL tm m9.next).obj .ready none) := by rw [← nA]; exact gB.same
 have gd : mB.heap.get m9.next = some (.deferred (some [])) := (gB.other _ (by omega)).trans gA.same
 have hpB := hp9.kept kB
 have R := mz_round hfl (m3 := mB) (l := m9.next + 1) (d0 := m9.next) (c := c) (ws := ws) (wk := wk) t4 ⟨by omega, by omega, by omega, by omega⟩ ⟨by omega, by omega, by omega, by omega, by omega, by omega⟩ (cc0.kept kB qc id) hpB
 have mu0 : muP p s0 ≤ p.nodes.length := Nat.le_trans (List.length_filter_le _ _) (Nat.le_of_eq List.length_range)
 have hd2' : p.nodes.length ≤ 60 := by omega
 have hz0 : (0 : Int) ≤ Int.ofNat p.free.length := by show (0 : Int) ≤ (p.free.length : Int); omega
 have hz1 : Int.ofNat p.free.length + 100 * (muP p s0 : Int) ≤ 2 ^ 38 := by show (p.free.length : Int) + 100 * (muP p s0 : Int) ≤ 2 ^ 38; omega
 have hcall := walk1_ok hfl R (fun s x s' h => step_mu (stepV_go h)) (fun s x s' h => (step_shown (stepV_go h)).1) (k := p.nodes.length + 1) (n := p.main) (sz := Int.ofNat p.free.length) (s := s0) (m := mB) (b1 := b1) (b2 := b1 + 1) (b3 := b1 + 2) (by omega) hz0 hz1 KB.wf (Nat.le_refl _) ⟨⟨(kB.get ws qs id).trans hs8, (kB.get wk qk id).trans hk8⟩, ⟨show setI [] from fun x hx => (nomatch hx), show setC [] from fun x hx => (nomatch hx)⟩, Kept.refl KB.wf⟩ gl (d1.kept KB.out (by omega) id) (d2.kept KB.out (by omega) id) (d3.kept KB.out (by omega) id) ⟨by omega, by rintro (h | h | h) <;> omega⟩ hpB
 have hg : callTarget Tryz.prog [.ptr b1 0, .ptr (b1 + 1) 0, .ptr (b1 + 2) 0] (appL [] [.yield (m9.next + 1)]) (loopM m9 ⟨7, 63, false, none⟩ tm (#[23, 24] : Array Tmp).toList (cAt [true, true, true, true, false, true, false, false] (bodyF Tryz.f7)) (cAt [true, true, true, true, false, true, false, true] (bodyF Tryz.f7))) (.fn (.func 39) #[]) = .enter 39 [.yield (m9.next + 1), .ptr b1 0, .ptr (b1 + 1) 0, .ptr (b1 + 2) 0] mB := by rw [hmB]; rfl
 refine w_rangeF (args := []) rfl (by rw [tf]; rfl) hg hcall ?_ ?_
 ·intro vv u m10 hend
  cases hf : walkP p with
  | go s =>
   rw [show wkN p (stepV p) (p.nodes.length + 1) (p.main, Int.ofNat p.free.length) s0 = .go s from hf] at hend
   obtain ⟨_, _, _, eq, k10, ⟨hms, hset, _⟩, hl10⟩ := hend
   cases eq
   refine w_after hl10 (by intro h; cases h) ?_
   have gC := wrote m10 (m9.next + 1) ((mzL tm m9.next).obj .exhausted none)
   obtain ⟨m11, e11⟩ : ∃ m11, m11 = m10.put (m9.next + 1) ((mzL tm m9.next).obj .exhausted none) := ⟨_, rfl⟩
   rw [← e11] at gC
   change Wp Tryz.prog fl (At _ _ (sets 63 tm []) _ _ _ (m10.put (m9.next + 1) ((mzL tm m9.next).obj .exhausted none))) _
   rw [← e11]
   obtain ⟨hm1, hm2⟩ := hms
   have hm1 := (gC.other ws (by omega)).trans hm1
   have hm2 := (gC.other wk (by omega)).trans hm2
   have n10 := k10.next
   have nC := gC.next
   have KM := (K9.then KB.out (fun _ _ h => h.elim)).then k10 (fun q hq h => Or.inl (by rcases h with h | h | h <;> omega))
   have K := KM.w gC hl10 (fun _ h => by cases h) (Or.inl (by omega))
   have k8 : Kept (fun q => q = ws ∨ q = wk ∨ q = m9.next + 1) m9 m11 := ((kB.mono (fun _ _ h => h.elim)).trans k10).trans (Kept.wrote k10.wf gC hl10 (fun _ h => by cases h) (.inr (.inr rfl)))
   refine w_inBlock ?_
   refine Wp.gen (fun tmX etX => ?_)
   change Wp Tryz.prog fl (At _ _ (sets 63 tmX []) _ _ _ _) _
   exact mz_mid hfl ⟨eqb etX (e_base rfl t1), eqb etX (e_base rfl t2), eqb etX (e_base rfl t3), eqb etX (e_base rfl t4)⟩ ⟨K, ⟨by omega, by omega, by omega, by omega, by omega, by omega, by omega, by omega, by omega, by omega⟩, c10.kept k8 q1 (by rintro (h | h | h) <;> omega), c2.kept k8 q2 (by rintro (h | h | h) <;> omega), c3.kept k8 q3 (by rintro (h | h | h) <;> omega), cc0.kept k8 qc (by rintro (h | h | h) <;> omega), hm1, hm2, (gC.other m9.next (by omega)).trans ((k10.get m9.next (by omega) (by rintro (h | h | h) <;> omega)).trans gd)⟩ hset.2 hd2' hp9.f.cell hp9.n.cell hp9.d.cell hp9.n.lenM hp9.d.lenM
  | stop x => exact x.elim
  | fail x => rw [show wkN p (stepV p) (p.nodes.length + 1) (p.main, Int.ofNat p.free.length) s0 = .fail x from hf] at hend; obtain ⟨_, _, eq, _⟩ := hend; cases eq
 ·intro cx u m10 hend
  cases hf : walkP p with
  | go s => rw [show wkN p (stepV p) (p.nodes.length + 1) (p.main, Int.ofNat p.free.length) s0 = .go s from hf] at hend; obtain ⟨_, _, _, eq, _⟩ := hend; cases eq
  | stop x => exact x.elim
  | fail x =>
   have hz := wk_unf (fun s x c h => stepV_unf h) (p.nodes.length + 1) (p.main, Int.ofNat p.free.length) s0 x hf
   rw [show wkN p (stepV p) (p.nodes.length + 1) (p.main, Int.ofNat p.free.length) s0 = .fail x from hf] at hend
   obtain ⟨_, _, eq, k10⟩ := hend
   cases eq
   subst hz
   have n10 := k10.next
   have KM := (K9.then KB.out (fun _ _ h => h.elim)).then k10 (fun q hq h => Or.inl (by rcases h with h | h | h <;> omega))
   have k8 : Kept (fun q => q = ws ∨ q = wk ∨ q = m9.next + 1) m9 m10 := (kB.mono (fun _ _ h => h.elim)).trans k10
   exact Wp.mono (fun r h => ⟨nilS, rfl, h⟩) (mz_end_pan hfl (r2 := r2) (r3 := r3) t2 t3 (by omega) (by omega) (by omega) [m9.next] _ KM (fun b hb => by rw [List.mem_singleton.1 hb]; exact ⟨(k10.get m9.next (by omega) (by rintro (h | h | h) <;> omega)).trans gd, by omega, by omega, by omega⟩) (by simp) (c2.kept k8 q2 (by rintro (h | h | h) <;> omega)) (c3.kept k8 q3 (by rintro (h | h | h) <;> omega)))
end
noncomputable section
variable {fl : Fl} (hfl : Tab fl)
include hfl
theorem measure_ok {m : Mem} {p : AProg} (hp : p.OK m) (hw : Wf m) : CallQ Tryz.prog fl 7 [.agg p.cells] m (fun r => ∃ v, isCell v = true ∧ Rets noS m (.tuple [v, iv (errM p)]) r) := by
 have cf := hp.f.cell
 have cn := hp.n.cell
 have cd := hp.d.cell
 have lf := hp.f.lenM
 have ln := hp.n.lenM
 have ld := hp.d.lenM
 have ap : allCells [p.fv, p.nv, p.dv, iv p.main] = true := ac1 cf (ac1 cn (ac1 cd (ac1 rfl rfl)))
 have ac : allCells [p.fv, p.nv, p.dv, iv p.main, .map (m.next + 3), .map (m.next + 4)] = true := ac1 cf (ac1 cn (ac1 cd (ac1 rfl (ac1 rfl (ac1 rfl rfl)))))
 refine hfl.start (by decide) 63 Tryz.func7 rfl rfl (Nat.le_of_ble_eq_true rfl) ?_
 intro bs hb
 have ar0 := hb 0 _ rfl
 clear hb
 have K : Kept (fun q => m.next ≤ q ∨ noS q) m m := Kept.refl hw
 refine gg ?_
 refine s_new rfl rfl rfl rfl (o_box (e_base rfl ar0) rfl) (fun m1 g => ?_)
 have n1 := g.next
 have h1 := g.same
 have f1 := g.fam0 K.wf
 have K := K.g g
 refine gg ?_
 refine s_new rfl rfl rfl rfl (o_alloc ZcF.h) (fun m2 g => ?_)
 have n2 := g.next
 have h2 := g.same
 have f2 := g.fam0 K.wf
 have h1 := (g.other m.next (by omega)).trans h1
 have f1 := (g.famo m.next).trans f1
 have K := K.g g
 refine gg ?_
 refine s_new rfl rfl rfl rfl (o_alloc ZcF.h) (fun m3 g => ?_)
 have n3 := g.next
 have h3 := g.same
 have f3 := g.fam0 K.wf
 have h2 := (g.other m1.next (by omega)).trans h2
 have f2 := (g.famo m1.next).trans f2
 have h1 : m3.heap.get m.next = some (.row (35, 0) [p.fv, p.nv, p.dv, iv p.main] m.next 0) := (g.other m.next (by omega)).trans h1
 have f1 := (g.famo m.next).trans f1
 have K := K.g g
 refine gg ?_
 refine s_val rfl rfl rfl rfl (o_makeF (fn := .func 19) (fs := []) (cs := [.ptr m1.next 0, .ptr m2.next 0]) rfl rfl (me2 v0 v0)) ?_
 refine s_defer0 rfl rfl rfl (by show fnDef [] (evalT _ (.tmp 8)) = _; rw [show evalT _ (.tmp 8) = _ from e_hit rfl]; rfl) rfl ?_
 refine gg ?_
 refine s_val rfl rfl rfl rfl (o_loadRowA (off := 0) v0 h1 TyF.h (TyF.z (g := true)) (takeW rfl ap)) ?_
 refine s_new rfl rfl rfl rfl o_makeMap0 (fun m4 g => ?_)
 have n4 := g.next
 have hs := g.same
 have h3 := (g.other m2.next (by omega)).trans h3
 have f3 := (g.famo m2.next).trans f3
 have h2 := (g.other m1.next (by omega)).trans h2
 have f2 := (g.famo m1.next).trans f2
 have h1 := (g.other m.next (by omega)).trans h1
 have f1 := (g.famo m.next).trans f1
 have K := K.g g
 refine s_new rfl rfl rfl rfl o_makeMap0 (fun m5 g => ?_)
 have n5 := g.next
 have hk := g.same
 have hs := (g.other m3.next (by omega)).trans hs
 have h3 := (g.other m2.next (by omega)).trans h3
 have f3 := (g.famo m2.next).trans f3
 have h2 := (g.other m1.next (by omega)).trans h2
 have f2 := (g.famo m1.next).trans f2
 have h1 := (g.other m.next (by omega)).trans h1
 have f1 := (g.famo m.next).trans f1
 have K := K.g g
 refine gg ?_
 refine s_new rfl rfl rfl rfl (o_alloc ZcF.h) (fun m6 g => ?_)
 have n6 := g.next
 have hc := g.same
 have fc := g.fam0 K.wf
 have hk := (g.other m4.next (by omega)).trans hk
 have hs := (g.other m3.next (by omega)).trans hs
 have h3 := (g.other m2.next (by omega)).trans h3
 have f3 := (g.famo m2.next).trans f3
 have h2 := (g.other m1.next (by omega)).trans h2
 have f2 := (g.famo m1.next).trans f2
 have h1 := (g.other m.next (by omega)).trans h1
 have f1 := (g.famo m.next).trans f1
 have K := K.g g
 refine gg ?_
 have ac : allCells [p.fv, p.nv, p.dv, iv p.main, .map m3.next, .map m4.next] = true := ac1 cf (ac1 cn (ac1 cd (ac1 rfl (ac1 rfl (ac1 rfl rfl)))))
 refine s_put0 rfl rfl rfl (o_store (v := .agg [p.fv, p.nv, p.dv, iv p.main, .map m3.next, .map m4.next]) v0 v0 hc fc TyF.z rfl rfl ac rfl) (fun m7 g => ?_)
 have n7 := g.next
 have K := K.w g hc (fun _ h => by cases h) (Or.inl (by omega))
 have fc := (g.famo m5.next).trans fc
 have hc : m7.heap.get m5.next = some (.row (76, 0) (chkC p m3.next m4.next) m5.next 0) := g.same
 have hk := (g.other m4.next (by omega)).trans hk
 have hs := (g.other m3.next (by omega)).trans hs
 have h3 := (g.other m2.next (by omega)).trans h3
 have f3 := (g.famo m2.next).trans f3
 have h2 := (g.other m1.next (by omega)).trans h2
 have f2 := (g.famo m1.next).trans f2
 have h1 := (g.other m.next (by omega)).trans h1
 have f1 := (g.famo m.next).trans f1
 obtain ⟨r1, er1⟩ : ∃ r, r = m.next := ⟨_, rfl⟩
 obtain ⟨r2, er2⟩ : ∃ r, r = m1.next := ⟨_, rfl⟩
 obtain ⟨r3, er3⟩ : ∃ r, r = m2.next := ⟨_, rfl⟩
 obtain ⟨ws, ews⟩ : ∃ r, r = m3.next := ⟨_, rfl⟩
 obtain ⟨wk, ewk⟩ : ∃ r, r = m4.next := ⟨_, rfl⟩
 obtain ⟨c, ec⟩ : ∃ r, r = m5.next := ⟨_, rfl⟩
 have c1 : Cel m7 r1 p.cells := by rw [er1]; exact Cel.of h1 f1
 have c2 : Cel m7 r2 [.lit (.slice none 0 0)] := by rw [er2]; exact Cel.of h2 f2
 have c3 : Cel m7 r3 [iv 0] := by rw [er3]; exact Cel.of h3 f3
 have cc : Cel m7 c (chkC p ws wk) := by rw [ec, ews, ewk]; exact Cel.of hc fc
 have hs7 : m7.heap.get ws = some (.map (entsI []) 0) := by rw [ews]; exact hs
 have hk7 : m7.heap.get wk = some (.map (entsI []) 0) := by rw [ewk]; exact hk
 have hp7 := hp.kept K
 have w7 := K.wf
 have l1 := c1.lt w7
 have l2 := c2.lt w7
 have l3 := c3.lt w7
 have lc := cc.lt w7
 have ls := w7.lt hs7
 have lk := w7.lt hk7
 have hme : ∀ b, measP p = b → errM p = bif b.isSome then 0 else 2 := fun b h => by unfold errM; rw [h]
 rw [← er2, ← er3]
 refine gg ?_
 refine s_stepE K (Kept.refl (S := noS) K.wf) (o_calls (me1 v0)) (by rw [← ec]; exact head_ok hfl cc hp7 K.wf) (fun z m8 K k8 _ => ?_) (fun z m8 K k8 => ?_)
 rotate_left
 ·refine Wp.gen (fun tm etm => ?_)
  have e2 : errM p = 2 := by rw [hme none (by unfold measP; rw [show headB p = false from z]; rfl)]; rfl
  rw [e2]
  refine Wp.mono (fun r h => ⟨nilS, rfl, h⟩) (mz_end_pan hfl (r2 := r2) (r3 := r3) (eqb etm v0) (eqb etm v0) (by omega) (by omega) (by omega) [] _ K (fun b hb => by cases hb) List.nodup_nil (c2.kept k8 l2 id) (c3.kept k8 l3 id))
 have z : headB p = true := z
 have cP : p.cells = [p.fv, p.nv, p.dv, iv p.main] := rfl
 have n8 := k8.next
 have w8 := K.wf
 have c1 := c1.kept k8 l1 id
 have c2 := c2.kept k8 l2 id
 have c3 := c3.kept k8 l3 id
 have cc := cc.kept k8 lc id
 have hs8 := (k8.get ws ls id).trans hs7
 have hk8 := (k8.get wk lk id).trans hk7
 have c10 := c1
 have cc0 := cc
 obtain ⟨⟨e1, h1r⟩, f1r⟩ := c1
 obtain ⟨⟨ec', hcr⟩, fcr⟩ := cc
 have h1r : m8.heap.get m.next = some (.row e1 [p.fv, p.nv, p.dv, iv p.main] m.next 0) := by rw [← er1]; exact h1r
 refine gg ?_
 refine s_val rfl rfl rfl rfl (o_loadRowA (off := 0) v0 h1r TyF.h (TyF.z (g := true)) (takeW rfl ap)) ?_
 refine gg ?_
 refine s_call rfl rfl rfl rfl (o_calls (me3 v0 v0 v0)) (walk_ok hfl (p := p) K.wf) ?_ (by rintro c u m' ⟨_, _, h, _⟩; cases h)
 rintro _ _ m9 ⟨_, _, hret, k9, lt9, d1, d2, d3⟩
 cases hret
 refine gg ?_
 refine Wp.gen (fun tm etm => ?_)
 have t1 : getT tm 1 = .ptr r1 0 := by rw [er1]; exact eqb etm v0
 have t2 : getT tm 2 = .ptr r2 0 := eqb etm v0
 have t3 : getT tm 3 = .ptr r3 0 := eqb etm v0
 have t4 : getT tm 4 = .ptr c 0 := by rw [ec]; exact eqb etm v0
 obtain ⟨b1, eb1⟩ : ∃ r, r = m8.next := ⟨_, rfl⟩
 have tf : evalT tm (.tmp 22) = .func (.func 39) [] [.ptr b1 0, .ptr (b1 + 1) 0, .ptr (b1 + 2) 0] := by rw [eb1]; exact eqb etm v0
 clear etm
 rw [← eb1] at d1 d2 d3 lt9
 have K9 := K.k k9 (fun _ h => h.elim)
 have n9 := k9.next
 have q1 := c10.lt w8
 have q2 := c2.lt w8
 have q3 := c3.lt w8
 have qc := cc0.lt w8
 have qs := w8.lt hs8
 have qk := w8.lt hk8
 have hd := z
 unfold headB at hd
 simp only [Bool.and_eq_true, decide_eq_true_eq] at hd
 obtain ⟨⟨⟨hd1, hd2⟩, hd3⟩, hd4⟩ := hd
 have key : errM p = match walkP p with
   | .go s => bif endM p s then 0 else 2
   | .stop _ => 2
   | .fail _ => 2 := by
  unfold errM measP
  rw [z]
  cases walkP p with
  | go s => cases h : endM p s <;> simp only [h] <;> rfl
  | stop x => rfl
  | fail x => rfl
 rw [key]
 exact mz_walk hfl ⟨t1, t2, t3, t4⟩ tf ⟨K9, ⟨⟨by omega, by omega, by omega, by omega, by omega, by omega, by omega⟩, ⟨by omega, by omega, by omega, by omega, by omega, by omega, by omega, by omega, by omega, by omega, by omega⟩⟩, c10.kept k9 q1 id, c2.kept k9 q2 id, c3.kept k9 q3 id, cc0.kept k9 qc id, (k9.get ws qs id).trans hs8, (k9.get wk qk id).trans hk8, d1, d2, d3, hp.kept K9⟩ hd1 hd2
end
end Go.Proofs.YtmbeijhnjaadhaaGreat
