/- A part of the proof of TermChecks. -/
import Derived.Test.YtjefckdgpbdpeaaGreatTc
namespace Go.Proofs.YtjefckdgpbdpeaaGreat
open Go Go.Abs
open Go.RowKit (Below)
set_option maxRecDepth 10000
noncomputable section
def clausesH (pl : ByteArray) : List ACl → HS → Option HS
 | [], st => some st
 | x :: r, st => match joinsH pl x.joins st with
  | some st' => clausesH pl r st'
  | none => none
theorem def_clauses {fl : Fl} (hfl : Tab fl) {lr cm r2 : Nat} {pl : ByteArray} {kv v3 : AVal} (els : List ACl) (k : List AItem) {Q : RR → Prop} {ds : List ADef} {up : Chain} : ∀ (rest pre : List (ACl)) (st : HS) {m : Mem} (b : T AVal), els = pre ++ rest → Wf m → Cel m r2 [.map cm] → m.heap.get cm = some (.map (entsV (toV st.1)) st.2) → SlA m kv 5 (els.map ACl.cells) → (∀ y, y ∈ els → y.OK m) → getT b 2 = .ptr r2 0 → getT b 3 = v3 → getT b 4 = .lit (.string pl) → getT b 27 = kv → getT b 28 = goI els.length → getT b 29 = goI pre.length →
  (∀ (st' : HS) (m' : Mem) (b' : T AVal), clausesH pl rest st = some st' → Kept (fun q => q = cm) m m' → Cel m' r2 [.map cm] → m'.heap.get cm = some (.map (entsV (toV st'.1)) st'.2) → SlA m' kv 5 (els.map ACl.cells) → (∀ y, y ∈ els → y.OK m') → getT b' 2 = .ptr r2 0 → getT b' 3 = v3 → getT b' 4 = .lit (.string pl) → getT b' 27 = kv → getT b' 28 = goI els.length → Wp Tryz.prog fl (At ⟨97, 77, false, some lr⟩ k b' ds .run up m') Q) →
  (clausesH pl rest st = none → ∀ (t' : List AItem) (m' : Mem) (b' : T AVal), Kept (fun q => q = cm) m m' → Wp Tryz.prog fl (At ⟨97, 77, false, some lr⟩ t' b' ds (.panicking unfC) up m') Q) → Wp Tryz.prog fl (At ⟨97, 77, false, some lr⟩ (.code (cAt [true, false, true, false, true, false, true, true, true, false, false] (bodyF Tryz.f97)) :: .inLoop (cAt [true, false, true, false, true, false, true, true, true, false, false] (bodyF Tryz.f97)) :: .inBlock 2 :: k) (sets 77 b []) ds .run up m) Q := by
 intro rest
 induction rest with
 | nil =>
  intro pre st m b hsp hw h2 hcm hsl hok kf2 kf3 kf4 kf27 kf28 hix hk hp
  have K0 : Kept (fun q => m.next ≤ q ∨ (fun q => q = cm) q) m m := Kept.refl hw
  have hlt : decide (Int.ofNat pre.length < Int.ofNat (els).length) = false := by rw [dlt]; simp [hsp]
  obtain ⟨⟨e2, h2r⟩, f2⟩ := h2
  refine w_seq ?_
  refine w_region rfl ?_
  refine gr ?_
  refine q_nil ?_
  refine w_seq ?_
  refine w_condF (e_hit rfl) hlt ?_
  refine w_exit rfl ?_
  refine Wp.gen (fun b' eb => ?_)
  exact hk st _ b' (by rfl) K0.out (Cel.of h2r f2) hcm (hsl.kept K0) (fun y hy => (hok y hy).kept K0) (eqb eb (e_base rfl kf2)) (eqb eb (e_base rfl kf3)) (eqb eb (e_base rfl kf4)) (eqb eb (e_base rfl kf27)) (eqb eb (e_base rfl kf28))
 | cons x rest ih =>
  intro pre st m b hsp hw h2 hcm hsl hok kf2 kf3 kf4 kf27 kf28 hix hk hp
  have K0 : Kept (fun q => m.next ≤ q ∨ (fun q => q = cm) q) m m := Kept.refl hw
  have hlt : decide (Int.ofNat pre.length < Int.ofNat (els).length) = true := by rw [dlt]; simp [hsp]
  have hln : pre.length + 1 < 2 ^ 62 := by have := hsl.lt; simp [hsp] at this; omega
  obtain ⟨r, off, cc, ex, row, hv, hlx, hr, htk⟩ := hsl.at (i := pre.length) (e := ACl.cells x) (by simp [hsp])
  subst hv
  have hxo := hok x (by simp [hsp])
  rcases x with ⟨f0, s0, jv0, dv0, xv, joins0, defs0, kids0⟩
  have hj0 : SlA m jv0 2 (joins0.map AMs.cells) := by cases hxo with | mk h1 h2 h3 h4 h5 h6 => exact h1
  have hjo : ∀ y, y ∈ joins0 → AMs.OK m y := by cases hxo with | mk h1 h2 h3 h4 h5 h6 => exact h4
  have cjv0 := hj0.cell
  have cdv0 : isCell dv0 = true := by cases hxo with | mk h1 h2 h3 h4 h5 h6 => exact h2.cell
  have cxv : isCell xv = true := by cases hxo with | mk h1 h2 h3 h4 h5 h6 => exact h3.cell
  have hxl : ∀ {m' : Mem}, lenSl m' jv0 = .val (goI joins0.length) m' := by intro m'; have := hj0.len (m' := m'); rwa [List.length_map] at this
  have lt2 := h2.lt hw
  obtain ⟨⟨e2, h2r⟩, f2⟩ := h2
  have ltcm := hw.lt hcm
  have n2c : r2 ≠ cm := by rintro rfl; rw [h2r] at hcm; cases hcm
  refine gg ?_
  refine s_val rfl rfl rfl rfl (o_indexAddr (e_base rfl kf27) (e_base rfl hix) el_30 (by simpa using hlx)) ?_
  refine s_val rfl rfl rfl rfl (o_loadRoA (e_hit rfl) hr tg_118 sz_118 htk) ?_
  refine s_new rfl rfl rfl rfl (o_alloc zc_118) (fun m1 g2 => ?_)
  have n3 := g2.next
  have K4 := K0.g g2
  refine s_put0 rfl rfl rfl (o_store (e_hit rfl) (e_hit rfl) g2.same (g2.fam0 K0.wf) sz_118 rfl rfl (ac1 rfl (ac1 rfl (ac1 cjv0 (ac1 cdv0 (ac1 cxv rfl))))) rfl) (fun m5 g6 => ?_)
  have n7 := g6.next
  have K8 := K4.w g6 g2.same (fun _ h => by cases h) (Or.inl (by omega))
  refine gg ?_
  refine w_loop ?_
  refine Wp.gen (fun b0 eb => ?_)
  have h10 := hxM m5 r2
  have f12 := fxM m5 r2
  have h14 := hxM m5 cm
  refine def_joins hfl joins0 _ _ [] st b0 (by rfl) K8.wf (Cel.of h10 f12) h14 (hj0.kept K8) (fun y hy => (hjo y hy).kept K8) (eqb eb (e_base rfl kf2)) (eqb eb (e_base rfl kf3)) (eqb eb (e_base rfl kf4)) (eqb eb (e_base rfl kf27)) (eqb eb (e_base rfl kf28)) (eqb eb (e_base rfl hix)) (eqb eb (e_hit rfl)) (eqb eb (e_hit rfl)) (eqb eb (e_hit rfl)) ?_ ?_
  ·
   intro st1 m9 b9 hf k9 h29 hc9 _ _ z2 z3 z4 z27 z28 z29 z34 z35
   change Wp Tryz.prog fl (At _ _ (sets 77 b9 []) _ _ _ _) _
   have K9 := K8.k k9 (fun _ h => Or.inr h)
   refine gg ?_
   have e : clausesH pl ((.mk f0 s0 jv0 dv0 xv joins0 defs0 kids0) :: rest) st = clausesH pl rest st1 := by simp only [clausesH, ACl.joins, hf]
   refine w_inLoop ?_
   refine Wp.gen (fun b' eb => ?_)
   have h15 := (k9.get r2 (by omega) (by show ¬ (r2 = cm); omega)).trans h10
   have f16 := (k9.fam r2 (by omega) (by show ¬ (r2 = cm); omega)).trans f12
   exact ih (pre ++ [(.mk f0 s0 jv0 dv0 xv joins0 defs0 kids0)]) _ b' (by simp [hsp]) K9.wf (Cel.of h15 f16) hc9 (hsl.kept K9) (fun y hy => (hok y hy).kept K9) (eqb eb (e_base rfl z2)) (eqb eb (e_base rfl z3)) (eqb eb (e_base rfl z4)) (eqb eb (e_base rfl z27)) (eqb eb (e_base rfl z28)) (eqb eb ((e_hit rfl).trans (by rw [List.length_append]; rfl))) (fun st' m' b' h hk' => hk st' m' b' (e.trans h) (K9.out.trans hk')) (fun h t' m' b' hk' => hp (e.trans h) t' m' b' (K9.out.trans hk'))
  ·
   intro hf _ m9 _ k9
   have K9 := K8.k k9 (fun _ h => Or.inr h)
   exact hp (by simp only [clausesH, ACl.joins, hf]) _ _ _ K9.out
end
open Go.RowKit (Below)
set_option maxRecDepth 10000
noncomputable section
variable {fl : Fl} (hfl : Tab fl)
include hfl
omit hfl in
theorem joinsH_good {pl : ByteArray} : ∀ {js : List AMs} {st st1 : HS}, GoodV (toV st.1) st.2 → joinsH pl js st = some st1 → GoodV (toV st1.1) st1.2
 | [], st, st1, h, e => by cases e; exact h
 | x :: r, st, st1, h, e => by
  unfold joinsH at e
  cases hb : okH x.text (pl, Int.ofNat x.names.length) st.1 with
  | false => rw [hb] at e; cases e
  | true =>
   rw [hb] at e
   refine joinsH_good (js := r) ?_ e
   rw [← addV_toV, ← clkV_toV]
   exact h.add _ _
omit hfl in
theorem clausesH_good {pl : ByteArray} : ∀ {cs : List ACl} {st st1 : HS}, GoodV (toV st.1) st.2 → clausesH pl cs st = some st1 → GoodV (toV st1.1) st1.2
 | [], st, st1, h, e => by cases e; exact h
 | x :: r, st, st1, h, e => by
  unfold clausesH at e
  split at e
  ·rename_i st2 e2
   exact clausesH_good (joinsH_good h e2) e
  ·cases e
abbrev DS := HS × Names
def stepD (st : DS) (x : ByteArray × AVal × List ACl) : St DS Empty := bif !isIn x.1 (keysE st.2.1) then (match clausesH x.1 x.2.2 st.1 with
 | some h => .go (h, (addE x.1 st.2.1 st.2.2, addC x.1 st.2.1 st.2.2))
 | none => .fail unfC) else .fail unfC
def definedB (dv : AVal) (defs : List ACl) : Bool := match grpN stepD (SizeOf.sizeOf defs + 1) ⟨#[]⟩ dv defs (([], 0), ([], 0)) with
 | .go st => st.1.1.all fun x => !isIn x.1 (keysE st.2.1)
 | _ => false
theorem def_round {m3 : Mem} {l r2 r3 cm pm d0 : Nat} {tm : T AVal} (t2 : getT tm 2 = .ptr r2 0) (t3 : getT tm 3 = .ptr r3 0) (hlt : l < m3.next ∧ r2 < m3.next ∧ r3 < m3.next ∧ cm < m3.next ∧ pm < m3.next) (hne : r2 ≠ r3 ∧ cm ≠ pm ∧ r2 ≠ l ∧ r3 ≠ l ∧ cm ≠ l ∧ pm ≠ l ∧ r2 ≠ cm ∧ r2 ≠ pm ∧ r3 ≠ cm ∧ r3 ≠ pm) :
  RoundOK Tryz.prog fl l (⟨97, 77, tm, [18, 19], cAt [true, false, true, false, false] (bodyF Tryz.f97), cAt [true, false, true, false, true] (bodyF Tryz.f97), d0⟩) (fun q => q = cm ∨ q = pm ∨ q = l) m3.next (fun (st : DS) m => (Cel m r2 [.map cm] ∧ Cel m r3 [.map pm]) ∧ m.heap.get cm = some (.map (entsV (toV st.1.1)) st.1.2) ∧ m.heap.get pm = some (.map (ents st.2.1) st.2.2) ∧ m3.next ≤ m.next ∧ GoodV (toV st.1.1) st.1.2) (fun (t : Empty) _ => False) (fun (_ : Empty) => Code.ret) (fun (x : ByteArray × AVal × List ACl) => [.lit (.string x.1), x.2.1]) (fun (x : ByteArray × AVal × List ACl) m => SlA m x.2.1 5 (x.2.2.map ACl.cells) ∧ ∀ c, c ∈ x.2.2 → c.OK m) stepD := by
 refine ⟨by kernel_rfl, fun x => rfl, .inr (.inr rfl), ?_, ?_, (fun _ _ _ h => h.elim), ?_⟩
 ·rintro q (h | h | h) <;> omega
 ·rintro s m m' ⟨⟨h1, h2⟩, h3, h4, h5, h6⟩ k
  have n5 := k.next
  exact ⟨⟨h1.kept k (by omega) (by show ¬ (m3.next ≤ r2); omega), h2.kept k (by omega) (by show ¬ (m3.next ≤ r3); omega)⟩, (k.get cm (by omega) (by show ¬ (m3.next ≤ cm); omega)).trans h3, (k.get pm (by omega) (by show ¬ (m3.next ≤ pm); omega)).trans h4, by omega, h6⟩
 ·rintro st ⟨nm, dv, defs⟩ m hw hBm ⟨⟨h2, h3⟩, hcm, hpm, _, hgood⟩ ⟨hd, hdo⟩ hlr
  show Wp Tryz.prog fl (At ⟨97, 77, false, some l⟩ [.code (cAt [true, false, true, false, false] (bodyF Tryz.f97)), .beginRound, .code (cAt [true, false, true, false, true] (bodyF Tryz.f97))] (sets 77 tm [(19, dv), (18, .lit (.string nm))]) [] .run [] m) _
  have K0 : Kept (fun q => m.next ≤ q ∨ (fun q => q = cm ∨ q = pm ∨ q = l) q) m m := Kept.refl hw
  have hdl : ∀ {m' : Mem}, lenSl m' dv = .val (goI defs.length) m' := by intro m'; have := hd.len (m' := m'); rwa [List.length_map] at this
  have lt2 := h2.lt hw
  have lt3 := h3.lt hw
  have ltcm := hw.lt hcm
  have ltpm := hw.lt hpm
  have ltl := hw.lt hlr
  obtain ⟨⟨e2, h2r⟩, f2⟩ := h2
  obtain ⟨⟨e3, h3r⟩, f3⟩ := h3
  refine gg ?_
  refine w_begin rfl hlr ?_
  obtain ⟨m1, g2⟩ : ∃ m', Wrote m m' l (Lp.obj (⟨97, 77, tm, [18, 19], cAt [true, false, true, false, false] (bodyF Tryz.f97), cAt [true, false, true, false, true] (bodyF Tryz.f97), d0⟩) .busy none) ∧ m' = m.put l (Lp.obj (⟨97, 77, tm, [18, 19], cAt [true, false, true, false, false] (bodyF Tryz.f97), cAt [true, false, true, false, true] (bodyF Tryz.f97), d0⟩) .busy none) := ⟨_, wrote _ _ _, rfl⟩
  rw [show m.put l (.loop ⟨.busy, none, 97, 77, tm, [18, 19], cAt [true, false, true, false, false] (bodyF Tryz.f97), cAt [true, false, true, false, true] (bodyF Tryz.f97), d0⟩) = m1 from g2.2.symm]
  replace g2 := g2.1
  have n3 := g2.next
  have K4 := K0.w g2 hlr (fun _ h => by cases h) (Or.inr (Or.inr (Or.inr rfl)))
  refine gg ?_
  have h5 := (g2.other r3 (by omega)).trans h3r
  refine gg ?_
  have h6 := (g2.other pm (by omega)).trans hpm
  refine s_val rfl rfl rfl rfl (o_lookupB (e_hit rfl) (e_hit rfl) h6 mk_70 u9 tz4) ?_
  refine gg ?_
  refine s_step rfl rfl rfl rfl (o_calls (me1 (e_hit rfl))) (demand_ok hfl _ K4.wf) (fun c11 m7 k9 p12 => ?_) (fun c11 m8 k10 => ?_)
  ·
   have n13 := k9.next
   have K14 := K4.k k9 (fun _ h => h.elim)
   refine gg ?_
   have h15 := (k9.get r3 (by omega) (fun h => h)).trans h5
   refine gg ?_
   have h16 := (k9.get pm (by omega) (fun h => h)).trans h6
   refine s_put0 rfl rfl rfl (o_updateB (e_hit rfl) (e_hit rfl) rfl h16 mk_70 u9) (fun m17 g18 => ?_)
   have n19 := g18.next
   have K20 := K14.w g18 h16 (fun _ h => by cases h) (Or.inr (Or.inr (Or.inl rfl)))
   refine gg ?_
   refine w_loop ?_
   refine Wp.gen (fun b0 eb => ?_)
   have h23 := (g2.other r2 (by omega)).trans h2r
   have h25 := hxM m17 r2
   have f26 := (g2.famo r2).trans f2
   have f28 := fxM m17 r2
   have h29 := (g2.other cm (by omega)).trans hcm
   have h30 := hxM m7 cm
   have h31 := hxM m17 cm
   refine def_clauses hfl (v3 := .ptr r3 0) defs _ _ [] st.1 b0 (by rfl) K20.wf (Cel.of h25 f28) h31 (hd.kept K20) (fun y hy => (hdo y hy).kept K20) (eqb eb (e_base rfl t2)) (eqb eb (e_base rfl t3)) (eqb eb (e_hit rfl)) (eqb eb (e_hit rfl)) (eqb eb (e_hit rfl)) (eqb eb (e_hit rfl)) ?_ ?_
   ·
    intro st1 mq bq hf kq h29 hc9 _ _ _ _ _ _ _
    change Wp Tryz.prog fl (At _ _ (sets 77 bq []) _ _ _ _) _
    have Kq := K20.k kq (fun _ h => Or.inr (Or.inl h))
    refine gg ?_
    have h33 := hxM m17 l
    have h34 := (kq.get l (by omega) (by show ¬ (l = cm); omega)).trans h33
    have h35 := (kq.get r2 (by omega) (by show ¬ (r2 = cm); omega)).trans h25
    have f36 := (kq.fam r2 (by omega) (by show ¬ (r2 = cm); omega)).trans f28
    have h37 := hxM m17 r3
    have h38 := (kq.get r3 (by omega) (by show ¬ (r3 = cm); omega)).trans h37
    have f39 := (g2.famo r3).trans f3
    have f41 := fxM m17 r3
    have f42 := (kq.fam r3 (by omega) (by show ¬ (r3 = cm); omega)).trans f41
    have h43 := (kq.get pm (by omega) (by show ¬ (pm = cm); omega)).trans g18.same
    refine w_roundEnd rfl h34 ?_
    rw [show stepD st (nm, dv, defs) = .go (st1, (addE nm st.2.1 st.2.2, addC nm st.2.1 st.2.2)) from by simp [stepD, c11, hf]]
    have gE := wrote mq l (Lp.obj (⟨97, 77, tm, [18, 19], cAt [true, false, true, false, false] (bodyF Tryz.f97), cAt [true, false, true, false, true] (bodyF Tryz.f97), d0⟩) .ready none)
    have KE := Kq.w gE h34 (fun _ h => by cases h) (Or.inr (Or.inr (Or.inr rfl)))
    exact ⟨_, _, rfl, KE.out, ⟨⟨Cel.of ((gE.other r2 (by omega)).trans h35) ((gE.famo r2).trans f36), Cel.of ((gE.other r3 (by omega)).trans h38) ((gE.famo r3).trans f42)⟩, (gE.other cm (by omega)).trans hc9, (gE.other pm (by omega)).trans h43, (Nat.le_trans hBm KE.next), clausesH_good hgood hf⟩, gE.same⟩
   ·
    intro hf _ mq _ kq
    have Kq := K20.k kq (fun _ h => Or.inr (Or.inl h))
    refine w_panics ?_
    rw [show stepD st (nm, dv, defs) = .fail unfC from by simp [stepD, c11, hf]]; exact ⟨_, _, rfl, Kq.out⟩
  ·
   have K45 := K4.k k10 (fun _ h => h.elim)
   refine w_panics ?_
   rw [show stepD st (nm, dv, defs) = .fail unfC from by simp [stepD, c11]]; exact ⟨_, _, rfl, K45.out⟩
theorem def_range {cm pm r3 it c pc : Nat} {l : List EntV} {pl : List (ByteArray × Nat)} (hg : GoodV l c) (hne : cm ≠ it ∧ pm ≠ it ∧ r3 ≠ it) (k : List AItem) {Q : RR → Prop} {ds : List ADef} {up : Chain} : ∀ (n : Nat) (seen : List Nat) {m : Mem} (b : T AVal), (unseenV seen l).length = n → Wf m → m.heap.get it = some (.mapIter (some cm) c seen c) → m.heap.get cm = some (.map (entsV l) c) → m.heap.get pm = some (.map (ents pl) pc) → Cel m r3 [.map pm] → getT b 3 = .ptr r3 0 → getT b 67 = .ptr it 0 →
  ((∀ x, x ∈ unseenV seen l → (fun (x : EntV) => isIn x.1 (keysE pl) = false) x) → ∀ (m' : Mem) (b' : T AVal), Kept (fun q => q = it) m m' → Wp Tryz.prog fl (At ⟨97, 77, false, none⟩ k b' ds .run up m') Q) → (¬ (∀ x, x ∈ unseenV seen l → (fun (x : EntV) => isIn x.1 (keysE pl) = false) x) → ∀ (t' : List AItem) (m' : Mem) (b' : T AVal), Kept (fun q => q = it) m m' → Wp Tryz.prog fl (At ⟨97, 77, false, none⟩ t' b' ds (.panicking unfC) up m') Q) →
  Wp Tryz.prog fl (At ⟨97, 77, false, none⟩ (.code (cAt [true, true, true, false, false] (bodyF Tryz.f97)) :: .inLoop (cAt [true, true, true, false, false] (bodyF Tryz.f97)) :: .inBlock 6 :: k) (sets 77 b []) ds .run up m) Q := by
 intro n
 induction n using Nat.strongRecOn with
 | _ n ih =>
  intro seen m b hn hw hit hcm hpm h3 kf3 kf67 hk hp
  have K0 : Kept (fun q => m.next ≤ q ∨ (fun q => q = it) q) m m := Kept.refl hw
  have ltit := hw.lt hit
  have ltcm := hw.lt hcm
  have ltpm := hw.lt hpm
  have lt3 := h3.lt hw
  have h30 := h3
  obtain ⟨⟨e3, h3r⟩, f3⟩ := h3
  refine gg ?_
  have hx := next_map hit hcm hg
  cases hu : unseenV seen l with
  | nil =>
   rw [hu] at hx hk
   refine s_next rfl rfl rfl rfl (e_base rfl kf67) hx ?_
   refine s_val rfl rfl rfl rfl (o_extractL (e_hit rfl) rfl) ?_
   refine gg ?_
   exact hk (fun x hx => by simp at hx) _ _ K0.out
  | cons e0 es0 =>
   rw [hu] at hx
   refine s_nexts rfl rfl rfl rfl (e_base rfl kf67) hx (by intro h; cases h) ?_
   intro e1 he1 m1 g1
   obtain ⟨e, he, rfl⟩ := List.mem_map.1 (show e1 ∈ List.map (fun x : EntV => AEnt.mk (.string x.1) x.2.1 x.2.2) (e0 :: es0) from he1)
   rw [← hu] at he
   have hel : e ∈ l := (List.mem_filter.1 he).1
   have n46 := g1.next
   have K47 := K0.w g1 hit (fun _ h => by cases h) (Or.inr rfl)
   refine s_val rfl rfl rfl rfl (o_extract (e_hit rfl) rfl) ?_
   refine q_nil ?_
   refine w_seq ?_
   refine w_condT (e_hit rfl) rfl ?_
   refine w_skip ?_
   refine w_block ?_
   refine w_seq ?_
   refine w_region rfl ?_
   have h48 := (g1.other cm (by omega)).trans hcm
   refine s_val rfl rfl rfl rfl (o_entry (e_base rfl kf67) g1.same h48 hg hel) ?_
   refine s_val rfl rfl rfl rfl (o_extract (e_hit rfl) rfl) ?_
   refine s_val rfl rfl rfl rfl (o_assign (e_hit rfl)) ?_
   refine q_nil ?_
   refine w_region rfl ?_
   have h49 := (g1.other r3 (by omega)).trans h3r
   refine s_val rfl rfl rfl rfl (o_loadRow (e_base rfl kf3) h49 tg_70 sz_70 rfl rfl) ?_
   refine s_val rfl rfl rfl rfl (o_move (e_hit rfl)) ?_
   have h50 := (g1.other pm (by omega)).trans hpm
   refine s_val rfl rfl rfl rfl (o_lookupB (e_hit rfl) (e_hit rfl) h50 mk_70 u9 tz4) ?_
   refine s_val rfl rfl rfl rfl (o_not (e_hit rfl)) ?_
   refine s_step rfl rfl rfl rfl (o_calls (me1 (e_hit rfl))) (demand_ok hfl _ K47.wf) (fun c55 m51 k53 p56 => ?_) (fun c55 m52 k54 => ?_)
   ·
    have K58 := K47.k k53 (fun _ h => h.elim)
    refine q_nil ?_
    refine w_inBlock ?_
    have h59 := hxM m51 it
    have h60 := hxM m51 cm
    have h61 := hxM m51 pm
    have h62 := hxM m51 r3
    have f63 := (g1.famo r3).trans f3
    have f64 := fxM m51 r3
    have hall := unseen_all hg he (fun (x : EntV) => isIn x.1 (keysE pl) = false)
    have hfe : isIn e.1 (keysE pl) = false := by have h2 := c55; revert h2; cases isIn e.1 (keysE pl) <;> simp
    refine w_inLoop ?_
    refine Wp.gen (fun b' eb => ?_)
    exact ih _ (by rw [← hn]; exact unseen_less he) (appL seen [e.2.2]) b' rfl K58.wf h59 h60 h61 (Cel.of h62 f64) (eqb eb (e_base rfl kf3)) (eqb eb (e_base rfl kf67)) (fun h m' b' k' => hk (hall.2 ⟨hfe, h⟩) m' b' (K58.out.trans k')) (fun h t' m' b' k' => hp (fun h2 => h (hall.1 h2).2) t' m' b' (K58.out.trans k'))
   ·
    have K66 := K47.k k54 (fun _ h => h.elim)
    have hall := unseen_all hg he (fun (x : EntV) => isIn x.1 (keysE pl) = false)
    exact hp (fun h => by have h1 := (hall.1 h).1; have h2 := c55; simp only [h1, Bool.not_false] at h2; cases h2) _ _ _ K66.out
end
open Go.RowKit (Below)
set_option maxRecDepth 10000
noncomputable section
theorem zc_191 : zcells Tryz.prog 191 = some [.lit (.map none)] := by kernel_rfl
theorem zc_70 : zcells Tryz.prog 70 = some [.lit (.map none)] := by kernel_rfl
variable {fl : Fl} (hfl : Tab fl)
include hfl
omit hfl in
theorem fold_unf {σ X : Type} {step : σ → X → St σ Empty} (h : ∀ s x c, step s x = .fail c → c = unfC) : ∀ {l : List X} {s : σ} {c : Chain}, foldSt step s l = .fail c → c = unfC
 | [], s, c, e => by cases e
 | x :: l, s, c, e => by
  unfold foldSt at e
  cases hs : step s x with
  | go s' => rw [hs] at e; exact fold_unf h e
  | stop t => nomatch t
  | fail c' => rw [hs] at e; cases e; exact h s x _ hs
omit hfl in
theorem stepD_unf {st : DS} {x : ByteArray × AVal × List ACl} {c : Chain} (h : stepD st x = .fail c) : c = unfC := by
 unfold stepD at h
 cases hb : (!isIn x.1 (keysE st.2.1)) with
 | false => rw [hb] at h; cases h; rfl
 | true =>
  rw [hb, cond_true] at h
  split at h
  ·cases h
  ·cases h; rfl
omit hfl in
theorem grp_unf : ∀ {n : Nat} {nm : ByteArray} {dv : AVal} {defs : List ACl} {st : DS} {c : Chain}, grpN stepD n nm dv defs st = .fail c → c = unfC
 | 0, nm, dv, defs, st, c, e => by cases e
 | n + 1, nm, dv, defs, st, c, e => by
  unfold grpN at e
  cases hs : stepD st (nm, dv, defs) with
  | go s' =>
   rw [hs] at e
   refine fold_unf (fun s x c h => ?_) e
   split at h
   ·exact grp_unf h
   ·cases h
  | stop t => nomatch t
  | fail c' => rw [hs] at e; cases e; exact stepD_unf hs
theorem defined_ok {m : Mem} {dv : AVal} (defs : List ACl) (hd : SlA m dv 5 (defs.map ACl.cells)) (hdo : ∀ c, c ∈ defs → c.OK m) (hw : Wf m) : CallQ Tryz.prog fl 97 [dv] m (StepQ noS m (definedB dv defs) (fun _ => True)) := by
 have chd := hd.cell
 refine hfl.start (by decide) 77 Tryz.func97 rfl rfl (Nat.le_of_ble_eq_true rfl) ?_
 intro bs hb
 have ar0 := hb 0 _ rfl
 clear hb
 have K0 : Kept (fun q => m.next ≤ q ∨ (noS) q) m m := Kept.refl hw
 refine gg ?_
 refine s_new rfl rfl rfl rfl o_makeMap0 (fun m1 g2 => ?_)
 have n3 := g2.next
 have K4 := K0.g g2
 refine s_new rfl rfl rfl rfl o_makeMap0 (fun m5 g6 => ?_)
 have n7 := g6.next
 have K8 := K4.g g6
 refine s_new rfl rfl rfl rfl (o_alloc zc_191) (fun m9 g10 => ?_)
 have n11 := g10.next
 have K12 := K8.g g10
 refine s_new rfl rfl rfl rfl (o_alloc zc_70) (fun m13 g14 => ?_)
 have n15 := g14.next
 have K16 := K12.g g14
 have h17 := hxM m13 m5.next
 have f18 := fxM m13 m5.next
 refine s_put0 rfl rfl rfl (o_store (e_hit rfl) (e_hit rfl) h17 f18 sz_191 rfl rfl rfl rfl) (fun m19 g20 => ?_)
 have n21 := g20.next
 have K22 := K16.w g20 h17 (fun _ h => by cases h) (Or.inl (by omega))
 have h23 := hxM m19 m9.next
 have f24 := fxM m19 m9.next
 refine s_put0 rfl rfl rfl (o_store (e_hit rfl) (e_hit rfl) h23 f24 sz_70 rfl rfl rfl rfl) (fun m25 g26 => ?_)
 have n27 := g26.next
 have K28 := K22.w g26 h23 (fun _ h => by cases h) (Or.inl (by omega))
 refine gg ?_
 refine s_call rfl rfl rfl rfl (o_calls (me1 (e_hit rfl))) (groups_ok hfl chd K28.wf) ?_ (by rintro c u m' ⟨_, _, h, _⟩; cases h)
 rintro _ _ mg ⟨_, _, hret, kg, ltbx, hbx⟩
 cases hret
 have Kg := K28.k kg (fun _ h => h.elim)
 refine gg ?_
 have h29 := hxM m25 m5.next
 have h30 := (kg.get m5.next (by omega) (fun h => h)).trans h29
 have f32 := fxM m25 m5.next
 have f33 := (kg.fam m5.next (by omega) (fun h => h)).trans f32
 have h34 := (kg.get m9.next (by omega) (fun h => h)).trans g26.same
 have f35 := fxM m25 m9.next
 have f36 := (kg.fam m9.next (by omega) (fun h => h)).trans f35
 have h41 := hxM m25 m.next
 have h42 := (kg.get m.next (by omega) (fun h => h)).trans h41
 have h46 := hxM m25 m1.next
 have h47 := (kg.get m1.next (by omega) (fun h => h)).trans h46
 obtain ⟨cm, ecm⟩ : ∃ r, r = m.next := ⟨_, rfl⟩
 obtain ⟨pm, epm⟩ : ∃ r, r = m1.next := ⟨_, rfl⟩
 obtain ⟨r2, er2⟩ : ∃ r, r = m5.next := ⟨_, rfl⟩
 obtain ⟨r3, er3⟩ : ∃ r, r = m9.next := ⟨_, rfl⟩
 have hcm : mg.heap.get cm = some (.map (entsV (toV [])) 0) := by rw [ecm]; exact h42
 have hpm : mg.heap.get pm = some (.map (ents []) 0) := by rw [epm]; exact h47
 have h2 : Cel mg r2 [.map cm] := by rw [er2, ecm]; exact Cel.of h30 f33
 have h3 : Cel mg r3 [.map pm] := by rw [er3, epm]; exact Cel.of h34 f36
 obtain ⟨bx, ebx⟩ : ∃ r, r = m25.next := ⟨_, rfl⟩
 rw [← ebx] at hbx ltbx
 refine Wp.gen (fun tm etm => ?_)
 have t2 : getT tm 2 = .ptr r2 0 := by rw [er2]; exact eqb etm (e_hit rfl)
 have t3 : getT tm 3 = .ptr r3 0 := by rw [er3]; exact eqb etm (e_hit rfl)
 have t17 : evalT tm (.tmp 17) = .func (.func 148) [] [.ptr bx 0] := by rw [ebx]; exact eqb etm (e_hit rfl)
 have wg := Kg.wf
 have gA := grew mg (.deferred (some []))
 obtain ⟨mA, eA⟩ : ∃ mA, mA = mg.new (.deferred (some [])) := ⟨_, rfl⟩
 rw [← eA] at gA
 have gB := grew mA (Lp.obj (⟨97, 77, tm, [18, 19], cAt [true, false, true, false, false] (bodyF Tryz.f97), cAt [true, false, true, false, true] (bodyF Tryz.f97), mg.next⟩ : Lp) .ready none)
 obtain ⟨mB, eB⟩ : ∃ mB, mB = mA.new (Lp.obj (⟨97, 77, tm, [18, 19], cAt [true, false, true, false, false] (bodyF Tryz.f97), cAt [true, false, true, false, true] (bodyF Tryz.f97), mg.next⟩ : Lp) .ready none) := ⟨_, rfl⟩
 rw [← eB] at gB
 have KA := (Kept.refl (S := fun q => mg.next ≤ q ∨ noS q) wg).g gA
 have KB := KA.g gB
 have nA := gA.next
 have nB := gB.next
 have hmB : loopM mg ⟨97, 77, false, none⟩ tm (#[18, 19] : Array Tmp).toList (cAt [true, false, true, false, false] (bodyF Tryz.f97)) (cAt [true, false, true, false, true] (bodyF Tryz.f97)) = mB := by rw [eB, eA]; rfl
 have l2 := h2.lt wg
 have l3 := h3.lt wg
 have lcm := wg.lt hcm
 have lpm := wg.lt hpm
 have gl2 : mB.heap.get (mg.next + 1) = some (Lp.obj (⟨97, 77, tm, [18, 19], cAt [true, false, true, false, false] (bodyF Tryz.f97), cAt [true, false, true, false, true] (bodyF Tryz.f97), mg.next⟩ : Lp) .ready none) := by rw [← nA]; exact gB.same
 have gd : mB.heap.get mg.next = some (.deferred (some [])) := (gB.other _ (by omega)).trans gA.same
 have RR := def_round hfl (m3 := mB) (l := mg.next + 1) (d0 := mg.next) (cm := cm) (pm := pm) t2 t3 ⟨by omega, by omega, by omega, by omega, by omega⟩ (by omega)
 have hcall := groups1_ok hfl RR (n := SizeOf.sizeOf defs + 1) dv defs (s := (([], 0), ([], 0))) (m := mB) (bx := bx) (by omega) KB.wf (Nat.le_refl _) ⟨⟨h2.kept KB.out l2 (fun h => h), h3.kept KB.out l3 (fun h => h)⟩, (KB.out.get cm lcm (fun h => h)).trans hcm, (KB.out.get pm lpm (fun h => h)).trans hpm, Nat.le_refl _, GoodV.nil⟩ gl2 (hbx.kept KB.out (by omega) (fun h => h)) ((hd.kept Kg).kept KB) (fun c hc => ((hdo c hc).kept Kg).kept KB)
 have hg2 : callTarget Tryz.prog [.ptr bx 0] (appL [] [.yield (mg.next + 1)]) (loopM mg ⟨97, 77, false, none⟩ tm (#[18, 19] : Array Tmp).toList (cAt [true, false, true, false, false] (bodyF Tryz.f97)) (cAt [true, false, true, false, true] (bodyF Tryz.f97))) (.fn (.func 148) #[]) = .enter 148 [.yield (mg.next + 1), .ptr bx 0] mB := by rw [hmB]; rfl
 refine w_rangeF (args := []) rfl (by rw [t17]; rfl) hg2 hcall ?_ ?_
 ·
  intro vv u m4 hend
  cases hf : grpN stepD (SizeOf.sizeOf defs + 1) ⟨#[]⟩ dv defs (([], 0), ([], 0)) with
  | go z =>
   rw [hf] at hend
   obtain ⟨_, _, _, eq, k4, ⟨⟨h24, h34⟩, hcm4, hpm4, hle4, hgood⟩, hl24⟩ := hend
   cases eq
   refine w_after hl24 (by intro h; cases h) ?_
   have gC := wrote m4 (mg.next + 1) (Lp.obj (⟨97, 77, tm, [18, 19], cAt [true, false, true, false, false] (bodyF Tryz.f97), cAt [true, false, true, false, true] (bodyF Tryz.f97), mg.next⟩ : Lp) .exhausted none)
   obtain ⟨m5, e5⟩ : ∃ m5, m5 = m4.put (mg.next + 1) (Lp.obj (⟨97, 77, tm, [18, 19], cAt [true, false, true, false, false] (bodyF Tryz.f97), cAt [true, false, true, false, true] (bodyF Tryz.f97), mg.next⟩ : Lp) .exhausted none) := ⟨_, rfl⟩
   rw [← e5] at gC
   change Wp Tryz.prog fl (At _ _ (sets 77 tm []) _ _ _ (m4.put (mg.next + 1) (Lp.obj (⟨97, 77, tm, [18, 19], cAt [true, false, true, false, false] (bodyF Tryz.f97), cAt [true, false, true, false, true] (bodyF Tryz.f97), mg.next⟩ : Lp) .exhausted none))) _
   rw [← e5]
   have gd5 := (gC.other mg.next (by omega)).trans ((k4.get mg.next (by omega) (by rintro (h | h | h) <;> omega)).trans gd)
   have KM : Kept (fun q => m.next ≤ q ∨ noS q) m m4 := (Kg.then KB.out (fun _ _ h => h.elim)).then k4 (fun q hq h => by rcases h with h | h | h <;> exact Or.inl (by omega))
   have KN := KM.w gC hl24 (fun _ h => by cases h) (Or.inl (by omega))
   have nC := gC.next
   have h25 := h24.kept (Kept.wrote KM.wf gC hl24 (fun _ h => by cases h) rfl : Kept (fun q => q = mg.next + 1) m4 m5) (by omega) (by show ¬ (r2 = _); omega)
   have h35 := h34.kept (Kept.wrote KM.wf gC hl24 (fun _ h => by cases h) rfl : Kept (fun q => q = mg.next + 1) m4 m5) (by omega) (by show ¬ (r3 = _); omega)
   have hcm5 := (gC.other cm (by omega)).trans hcm4
   have hpm5 := (gC.other pm (by omega)).trans hpm4
   obtain ⟨⟨e2, h2r⟩, f2⟩ := h25
   obtain ⟨⟨e3, h3r⟩, f3⟩ := h35
   refine gg ?_
   refine s_val rfl rfl rfl rfl (o_loadRow (e_base rfl t2) h2r tg_191 sz_191 rfl rfl) ?_
   refine s_new rfl rfl rfl rfl (o_range (e_hit rfl) hcm5 mk_H) (fun m48 g49 => ?_)
   have n50 := g49.next
   have K51 := KN.g g49
   refine gg ?_
   refine w_loop ?_
   refine Wp.gen (fun b0 eb => ?_)
   have h52 := hxM m48 cm
   have h53 := hxM m48 pm
   have h54 := hxM m48 r3
   have f55 := fxM m48 r3
   have hun : ∀ x, x ∈ unseenV [] (toV z.1.1) ↔ x ∈ toV z.1.1 := by intro x; unfold unseenV; rw [List.mem_filter]; exact ⟨fun h => h.1, fun h => ⟨h, rfl⟩⟩
   refine def_range hfl hgood ⟨by omega, by omega, by omega⟩ _ _ [] b0 rfl K51.wf g49.same h52 h53 (Cel.of h54 f55) (eqb eb (e_base rfl t3)) (eqb eb (e_hit rfl)) ?_ ?_
   ·
    intro hfine m8 b8 k8
    have K8 := K51.k k8 (fun q h => Or.inl (by have : q = _ := h; omega))
    refine w_fall rfl ?_
    have gd8 := (k8.get mg.next (by omega) (by show ¬ (mg.next = _); omega)).trans ((g49.other mg.next (by omega)).trans gd5)
    refine w_coll (by intro h; cases h) gd8 ?_
    have KE := K8.w (wrote m8 mg.next (.deferred none)) gd8 (fun _ h => by cases h) (Or.inl (by omega))
    have edef : definedB dv defs = z.1.1.all fun x => !isIn x.1 (keysE z.2.1) := by unfold definedB; rw [hf]
    refine w_results Tryz.func97 rv0 ?_
    exact .inl ⟨by rw [edef, List.all_eq_true]; intro x hx; rw [hfine (x.1, hv x.2.1, x.2.2) ((hun _).2 (List.mem_map.2 ⟨x, hx, rfl⟩))]; rfl, _, _, rfl, KE.out, trivial⟩
   ·
    intro hfine t8 m8 b8 k8
    have K8 := K51.k k8 (fun q h => Or.inl (by have : q = _ := h; omega))
    have gd8 := (k8.get mg.next (by omega) (by show ¬ (mg.next = _); omega)).trans ((g49.other mg.next (by omega)).trans gd5)
    refine w_coll (by intro h; cases h) gd8 ?_
    have KE := K8.w (wrote m8 mg.next (.deferred none)) gd8 (fun _ h => by cases h) (Or.inl (by omega))
    have edef : definedB dv defs = z.1.1.all fun x => !isIn x.1 (keysE z.2.1) := by unfold definedB; rw [hf]
    refine w_panics ?_
    refine .inr ⟨?_, _, _, rfl, KE.out⟩
    rw [edef]
    cases hall : (z.1.1.all fun x => !isIn x.1 (keysE z.2.1)) with
    | false => rfl
    | true => exact absurd (fun x hx => by obtain ⟨y, hy, rfl⟩ := List.mem_map.1 ((hun x).1 hx); have := List.all_eq_true.1 hall y hy; revert this; show (!isIn y.1 (keysE z.2.1)) = true → isIn y.1 (keysE z.2.1) = false; cases isIn y.1 (keysE z.2.1) <;> simp) hfine
  | stop z => nomatch z
  | fail z => rw [hf] at hend; obtain ⟨_, _, eq, _⟩ := hend; cases eq
 ·
  intro c u m4 hend
  cases hf : grpN stepD (SizeOf.sizeOf defs + 1) ⟨#[]⟩ dv defs (([], 0), ([], 0)) with
  | go z => rw [hf] at hend; obtain ⟨_, _, _, eq, _⟩ := hend; cases eq
  | stop z => nomatch z
  | fail z =>
   have hz := grp_unf hf
   rw [hf] at hend
   obtain ⟨_, _, eq, k4⟩ := hend
   cases eq
   subst hz
   have gd4 := (k4.get mg.next (by omega) (by rintro (h | h | h) <;> omega)).trans gd
   have KM : Kept (fun q => m.next ≤ q ∨ noS q) m m4 := (Kg.then KB.out (fun _ _ h => h.elim)).then k4 (fun q hq h => by rcases h with h | h | h <;> exact Or.inl (by omega))
   refine w_coll (by intro h; cases h) gd4 ?_
   have KE := KM.w (wrote m4 mg.next (.deferred none)) gd4 (fun _ h => by cases h) (Or.inl (by omega))
   refine w_panics ?_
   exact .inr ⟨by unfold definedB; rw [hf], _, _, rfl, KE.out⟩
end
open Go.RowKit (Below)
set_option maxRecDepth 10000
noncomputable section
theorem fit_133_133 : fits Tryz.prog 133 133 = some true := by kernel_rfl
theorem if_133 : isIfaceT Tryz.prog 133 = false := by kernel_rfl
theorem sz_133 : tsz Tryz.prog 133 = some 0 := by kernel_rfl
theorem tg_37 : tagg Tryz.prog 37 = some false := by kernel_rfl
theorem sz_37 : tsz Tryz.prog 37 = some 1 := by kernel_rfl
theorem tg_75 : tagg Tryz.prog 75 = some true := by kernel_rfl
theorem sz_75 : tsz Tryz.prog 75 = some 2 := by kernel_rfl
theorem un_75 : placesT Tryz.prog 75 = some [(0, 1), (1, 1)] := by kernel_rfl
theorem zc_75 : zcells Tryz.prog 75 = some [.lit (.int .i64 0), .lit (.int .i64 0)] := by kernel_rfl
variable {fl : Fl} (hfl : Tab fl)
include hfl
omit hfl in
theorem o_insertB {tmps : T AVal} {m : Mem} {t kt et : TypeId} {x y z : Operand} {r c : Nat} {l : List (ByteArray × Nat)} {s : ByteArray} (hx : evalT tmps x = .map r) (hy : evalT tmps y = .lit (.string s)) (hz : evalT tmps z = .lit (.bool true)) (hr : m.heap.get r = some (.map (ents l) c))
  (ht : Abs.mapKey Tryz.prog t = some (kt, et)) (hk : Tryz.prog.underlying kt = some .string) : aop Tryz.prog tmps m (.insert t x y z) = .val .poison (m.put r (.map (ents (addE s l c)) (addC s l c))) := o_updateB hx hy hz hr ht hk
omit hfl in
theorem s_defer0 {fl : Fl} {Q : RR → Prop} {env : Env} {k : List AItem} {ds : List ADef} {up : Chain} {m : Mem} {tmps : T AVal} {all rest : List Oper} {o : Oper} {c : Call} {d : ADef} (hg : gd all tmps o.guard = some true) (ho : o.op = .defer c) (hd : o.dst = none) (hc : resolveC tmps c = some d) (hr : env.roundOf = none)
  (w : Wp Tryz.prog fl (Rg Tryz.prog fl env all k rest tmps (d :: ds) up m) Q) : Wp Tryz.prog fl (Rg Tryz.prog fl env all k (o :: rest) tmps ds up m) Q := by
 refine q_defer hg ho hc hr ?_
 rw [hd]; exact w
omit hfl in
theorem o_neqNil {tmps : T AVal} {m : Mem} {t t' : TypeId} {x y : Operand} {z : TypeId} {v : AVal} (hx : evalT tmps x = .iface t' v) (hy : evalT tmps y = .lit .nilIface) (hd : descK (Tryz.prog.underlying t) = 5) : aop Tryz.prog tmps m (.binOp .neq t x y z) = .val (.lit (.bool true)) m := by
 show eqOp Tryz.prog .neq true t x y (evalT tmps x) (evalT tmps y) m = _
 rw [hx, hy]
 show eqNil true m 5 (Tryz.prog.underlying t) = _
 unfold eqNil
 rw [hd]; rfl
theorem keywords_ok {m : Mem} (hw : Wf m) : CallQ Tryz.prog fl 54 [] m (fun r => ∃ u m', r = .ret (.map m.next) u m' ∧ Kept noS m m' ∧ m.next < m'.next ∧ m'.heap.get m.next = some (.map (ents kwL) 10)) := by
 refine hfl.start (by decide) 3 Tryz.func54 rfl rfl (Nat.le_of_ble_eq_true rfl) ?_
 intro bs hb
 clear hb
 have K0 : Kept (fun q => m.next ≤ q ∨ (noS) q) m m := Kept.refl hw
 refine gg ?_
 refine s_new rfl rfl rfl rfl o_makeMap0 (fun m1 g2 => ?_)
 have n3 := g2.next
 have K4 := K0.g g2
 refine s_put0 rfl rfl rfl (o_insertB (e_hit rfl) rfl rfl g2.same mk_70 u9) (fun m5 g6 => ?_)
 have n7 := g6.next
 have K8 := K4.w g6 g2.same (fun _ h => by cases h) (Or.inl (by omega))
 refine s_put0 rfl rfl rfl (o_insertB (e_hit rfl) rfl rfl g6.same mk_70 u9) (fun m9 g10 => ?_)
 have n11 := g10.next
 have K12 := K8.w g10 g6.same (fun _ h => by cases h) (Or.inl (by omega))
 refine s_put0 rfl rfl rfl (o_insertB (e_hit rfl) rfl rfl g10.same mk_70 u9) (fun m14 g15 => ?_)
 have n16 := g15.next
 have K17 := K12.w g15 g10.same (fun _ h => by cases h) (Or.inl (by omega))
 refine s_put0 rfl rfl rfl (o_insertB (e_hit rfl) rfl rfl g15.same mk_70 u9) (fun m19 g20 => ?_)
 have n21 := g20.next
 have K22 := K17.w g20 g15.same (fun _ h => by cases h) (Or.inl (by omega))
 refine s_put0 rfl rfl rfl (o_insertB (e_hit rfl) rfl rfl g20.same mk_70 u9) (fun m24 g25 => ?_)
 have n26 := g25.next
 have K27 := K22.w g25 g20.same (fun _ h => by cases h) (Or.inl (by omega))
 refine s_put0 rfl rfl rfl (o_insertB (e_hit rfl) rfl rfl g25.same mk_70 u9) (fun m29 g30 => ?_)
 have n31 := g30.next
 have K32 := K27.w g30 g25.same (fun _ h => by cases h) (Or.inl (by omega))
 refine s_put0 rfl rfl rfl (o_insertB (e_hit rfl) rfl rfl g30.same mk_70 u9) (fun m34 g35 => ?_)
 have n36 := g35.next
 have K37 := K32.w g35 g30.same (fun _ h => by cases h) (Or.inl (by omega))
 refine s_put0 rfl rfl rfl (o_insertB (e_hit rfl) rfl rfl g35.same mk_70 u9) (fun m39 g40 => ?_)
 have n41 := g40.next
 have K42 := K37.w g40 g35.same (fun _ h => by cases h) (Or.inl (by omega))
 refine s_put0 rfl rfl rfl (o_insertB (e_hit rfl) rfl rfl g40.same mk_70 u9) (fun m44 g45 => ?_)
 have n46 := g45.next
 have K47 := K42.w g45 g40.same (fun _ h => by cases h) (Or.inl (by omega))
 refine s_put0 rfl rfl rfl (o_insertB (e_hit rfl) rfl rfl g45.same mk_70 u9) (fun m49 g50 => ?_)
 have n51 := g50.next
 have K52 := K47.w g50 g45.same (fun _ h => by cases h) (Or.inl (by omega))
 refine gg ?_
 refine w_retAt rfl ?_
 refine w_results Tryz.func54 (rv1 (e_hit rfl)) ?_
 exact ⟨_, _, rfl, K52.out, by omega, g50.same.trans (by kernel_rfl)⟩
omit hfl in
theorem s_recover {fl : Fl} {Q : RR → Prop} {env : Env} {k : List AItem} {ds : List ADef} {m : Mem} {nt : Nat} {b : T AVal} {l : List (Nat × AVal)} {all rest : List Oper} {o : Oper} {d : Nat} {v : AVal} {older : Chain} (hn : env.nt = nt) (hg : gd all (sets nt b l) o.guard = some true) (hd : o.dst = some d) (ho : o.op = .call ⟨.builtin .recover, #[], #[]⟩) (he : env.roundOf = none ∧ env.dfr = true)
  (w : Wp Tryz.prog fl (Rg Tryz.prog fl env all k rest (sets nt b ((d, v) :: l)) ds ((v, true) :: older) m) Q) : Wp Tryz.prog fl (Rg Tryz.prog fl env all k (o :: rest) (sets nt b l) ds ((v, false) :: older) m) Q := by
 subst hn
 refine q_recover hg (by rw [ho]; rfl) (by rw [ho]; rfl) he.1 he.2 rfl ?_
 rw [hd]; exact w
omit hfl in
theorem s_recover0 {fl : Fl} {Q : RR → Prop} {env : Env} {k : List AItem} {ds : List ADef} {m : Mem} {nt : Nat} {b : T AVal} {l : List (Nat × AVal)} {all rest : List Oper} {o : Oper} {d : Nat} (hn : env.nt = nt) (hg : gd all (sets nt b l) o.guard = some true) (hd : o.dst = some d) (ho : o.op = .call ⟨.builtin .recover, #[], #[]⟩) (he : env.roundOf = none)
  (w : Wp Tryz.prog fl (Rg Tryz.prog fl env all k rest (sets nt b ((d, .lit .nilIface) :: l)) ds [] m) Q) : Wp Tryz.prog fl (Rg Tryz.prog fl env all k (o :: rest) (sets nt b l) ds [] m) Q := by
 subst hn
 refine q_recover0 hg (by rw [ho]; rfl) (by rw [ho]; rfl) he rfl ?_
 rw [hd]; exact w
theorem deferred_ret {m : Mem} {r2 r3 : Nat} {x y z : AVal} (hne : r2 ≠ r3) (h2 : Cel m r2 [x, y]) (h3 : Cel m r3 [z]) (hw : Wf m) : Wp Tryz.prog fl (At ⟨93, 17, true, none⟩ [.code (bodyF Tryz.f93)] (argsT [.ptr r2 0, .ptr r3 0] 0 .e) [] .run [] m) (fun r => ∃ v m', r = .ret v [] m' ∧ Kept (fun q => q = r2 ∨ q = r3) m m' ∧ Cel m' r2 [x, y] ∧ Cel m' r3 [z]) := by
 have _ := hfl
 have ar0 : getT (argsT [.ptr r2 0, .ptr r3 0] 0 .e) 0 = .ptr r2 0 := getA rfl
 have ar1 : getT (argsT [.ptr r2 0, .ptr r3 0] 0 .e) 1 = .ptr r3 0 := getA rfl
 generalize argsT [.ptr r2 0, .ptr r3 0] 0 .e = bs at ar0 ar1
 change Wp Tryz.prog fl (At _ _ (sets 17 bs []) _ _ _ _) _
 have K0 : Kept (fun q => m.next ≤ q ∨ (fun q => q = r2 ∨ q = r3) q) m m := Kept.refl hw
 obtain ⟨⟨er2, h2⟩, fr2⟩ := h2
 obtain ⟨⟨er3, h3⟩, fr3⟩ := h3
 refine gg ?_
 refine s_recover0 rfl rfl rfl rfl rfl ?_
 refine gg ?_
 refine s_val rfl rfl rfl rfl (o_binK (e_hit rfl) rfl rfl) ?_
 refine gg ?_
 refine w_fall rfl ?_
 refine w_results Tryz.func93 rv0 ?_
 exact ⟨_, _, rfl, K0.out, Cel.of h2 fr2, Cel.of h3 fr3⟩
theorem deferred_pan {m : Mem} {r2 r3 : Nat} {x y z : AVal} (hne : r2 ≠ r3) (h2 : Cel m r2 [x, y]) (h3 : Cel m r3 [z]) (hw : Wf m) : Wp Tryz.prog fl (At ⟨93, 17, true, none⟩ [.code (bodyF Tryz.f93)] (argsT [.ptr r2 0, .ptr r3 0] 0 .e) [] .run unfC m) (fun r => ∃ v m', r = .ret v [(.iface 133 (.agg []), true)] m' ∧ Kept (fun q => q = r2 ∨ q = r3) m m' ∧ Cel m' r2 [iv 0, iv 0] ∧ Cel m' r3 [iv 2]) := by
 have _ := hfl
 have ar0 : getT (argsT [.ptr r2 0, .ptr r3 0] 0 .e) 0 = .ptr r2 0 := getA rfl
 have ar1 : getT (argsT [.ptr r2 0, .ptr r3 0] 0 .e) 1 = .ptr r3 0 := getA rfl
 generalize argsT [.ptr r2 0, .ptr r3 0] 0 .e = bs at ar0 ar1
 change Wp Tryz.prog fl (At _ _ (sets 17 bs []) _ _ _ _) _
 have K0 : Kept (fun q => m.next ≤ q ∨ (fun q => q = r2 ∨ q = r3) q) m m := Kept.refl hw
 have ltr2 := h2.lt hw
 obtain ⟨⟨er2, h2⟩, fr2⟩ := h2
 have ltr3 := h3.lt hw
 obtain ⟨⟨er3, h3⟩, fr3⟩ := h3
 refine gg ?_
 refine s_recover rfl rfl rfl rfl ⟨rfl, rfl⟩ ?_
 refine gg ?_
 refine s_val rfl rfl rfl rfl (o_neqNil (e_hit rfl) rfl (by kernel_rfl)) ?_
 refine gg ?_
 refine s_val rfl rfl rfl rfl (o_assertT (e_hit rfl) fit_133_133 if_133) ?_
 refine gg ?_
 refine s_new rfl rfl rfl rfl (o_alloc zc_133) (fun m54 g55 => ?_)
 have n56 := g55.next
 have K57 := K0.g g55
 refine s_put0 rfl rfl rfl (o_store (e_hit rfl) (e_hit rfl) g55.same (g55.fam0 K0.wf) sz_133 rfl rfl rfl rfl) (fun m58 g59 => ?_)
 have n60 := g59.next
 have K61 := K57.w g59 g55.same (fun _ h => by cases h) (Or.inl (by omega))
 refine gg ?_
 refine s_val rfl rfl rfl rfl (o_build ev0 zc_75 un_75 rfl) ?_
 have h63 := hxM m58 r2
 have f65 := fxM m58 r2
 refine s_put0 rfl rfl rfl (o_store (e_hit rfl) (e_base rfl ar0) h63 f65 sz_75 rfl rfl rfl rfl) (fun m66 g67 => ?_)
 have n68 := g67.next
 have K69 := K61.w g67 h63 (fun _ h => by cases h) (Or.inr (Or.inl rfl))
 have h72 := hxM m66 r3
 have f75 := fxM m66 r3
 refine s_put0 rfl rfl rfl (o_store rfl (e_base rfl ar1) h72 f75 sz_37 rfl rfl rfl rfl) (fun m76 g77 => ?_)
 have K79 := K69.w g77 h72 (fun _ h => by cases h) (Or.inr (Or.inr rfl))
 refine gg ?_
 have h80 := hxM m76 r2
 have f82 := fxM m76 r2
 have f83 := fxM m76 r3
 refine w_fall rfl ?_
 refine w_results Tryz.func93 rv0 ?_
 exact ⟨_, _, rfl, K79.out, Cel.of h80 f82, Cel.of g77.same f83⟩
end
open Go.RowKit (Below)
set_option maxRecDepth 10000
noncomputable section
variable {fl : Fl} (hfl : Tab fl)
include hfl
omit hfl in
theorem zv_lit : zv_79 = .agg #[.int .i64 0, .string .empty, .slice none 0 0, .slice none 0 0, .slice none 0 0] := by kernel_rfl
omit hfl in
def step1 (s : Int × Int) (x : Int × Part) : St (Int × Int) Empty := bif decide (s.1 + 1 ≤ 60 ∧ max s.2 x.1 ≤ 12) then (bif lookB x.2 then .go (s.1 + 1, max s.2 x.1) else .fail unfC) else .fail unfC
omit hfl in
def part2B : Part → Bool
 | .tm (.mk op _ _ dv _ _ defs _) => bif op == 4 then definedB dv defs else true
 | _ => true
omit hfl in
def step2 (_ : Unit) (x : Int × Part) : St Unit Empty := bif part2B x.2 then .go () else .fail unfC
omit hfl in
def measB (q : Part) : Option (Int × Int) := match visN step1 (SizeOf.sizeOf q + 1) 1 q (0, 0) with
 | .go s => (match visN step2 (SizeOf.sizeOf q + 1) 1 q () with
  | .go _ => some s
  | _ => none)
 | _ => none
omit hfl in
def depN : Nat → Part → Prop
 | 0, _ => False
 | n + 1, p => ∀ r, r ∈ p.subs → depN n r
omit hfl in
theorem fold_each {σ τ X : Type} {step : σ → X → St σ τ} : ∀ {l : List X} {s s' : σ}, foldSt step s l = .go s' → ∀ x, x ∈ l → ∃ a b, step a x = .go b
 | [], s, s', h, x, hx => by simp at hx
 | y :: l, s, s', h, x, hx => by
  unfold foldSt at h
  cases hs : step s y with
  | go s1 =>
   rw [hs] at h
   rcases List.mem_cons.1 hx with e | e
   ·subst e; exact ⟨s, s1, hs⟩
   ·exact fold_each h x e
  | stop t => rw [hs] at h; cases h
  | fail c => rw [hs] at h; cases h
omit hfl in
theorem step1_go {s s' : Int × Int} {i : Int} {q : Part} (h : step1 s (i, q) = .go s') : i ≤ 12 := by
 unfold step1 at h
 cases hb : decide (s.1 + 1 ≤ 60 ∧ max s.2 i ≤ 12) with
 | false => rw [hb] at h; cases h
 | true => have := of_decide_eq_true hb; omega
omit hfl in
theorem vis_depth : ∀ {n : Nat} {i : Int} {p : Part} {s s' : Int × Int}, SizeOf.sizeOf p < n → 1 ≤ i → visN step1 n i p s = .go s' → ∃ k : Nat, depN k p ∧ i + k ≤ 13
 | 0, i, p, s, s', hn, _, _ => by omega
 | n + 1, i, p, s, s', hn, hi, h => by
  unfold visN at h
  cases hs : step1 s (i, p) with
  | go s1 =>
   rw [hs] at h
   have h12 := step1_go hs
   refine ⟨(13 - i).toNat, ?_, by omega⟩
   obtain ⟨k, hk⟩ : ∃ k : Nat, (13 - i).toNat = k + 1 := ⟨(12 - i).toNat, by omega⟩
   rw [hk]
   intro r hr
   obtain ⟨a, b, hab⟩ := fold_each h r hr
   have hsz := subs_size hr
   obtain ⟨k', h1, h2⟩ := vis_depth (n := n) (by omega) (by omega) hab
   -- a smaller bound does for a larger one
   have mono : ∀ (a b : Nat) (p : Part), a ≤ b → depN a p → depN b p := by
    intro a
    induction a with
    | zero => intro b p _ h; exact h.elim
    | succ a ih =>
     intro b p hab h
     obtain ⟨b, rfl⟩ : ∃ c, b = c + 1 := ⟨b - 1, by omega⟩
     intro r hr
     exact ih b r (by omega) (h r hr)
   exact mono k' k r (by omega) h1
  | stop t => nomatch t
  | fail c => rw [hs] at h; cases h
omit hfl in
theorem step1_unf {s : Int × Int} {x : Int × Part} {c : Chain} (h : step1 s x = .fail c) : c = unfC := by
 unfold step1 at h
 cases hb : decide (s.1 + 1 ≤ 60 ∧ max s.2 x.1 ≤ 12) with
 | false => rw [hb] at h; cases h; rfl
 | true => rw [hb, cond_true] at h; cases hl : lookB x.2 with
  | false => rw [hl] at h; cases h; rfl
  | true => rw [hl] at h; cases h
omit hfl in
theorem step2_unf {s : Unit} {x : Int × Part} {c : Chain} (h : step2 s x = .fail c) : c = unfC := by
 unfold step2 at h
 cases hl : part2B x.2 with
 | false => rw [hl] at h; cases h; rfl
 | true => rw [hl] at h; cases h
omit hfl in
theorem vis_unf {σ : Type} {step : σ → Int × Part → St σ Empty} (hs : ∀ s x c, step s x = .fail c → c = unfC) : ∀ {n : Nat} {i : Int} {p : Part} {s : σ} {c : Chain}, visN step n i p s = .fail c → c = unfC
 | 0, i, p, s, c, h => by cases h
 | n + 1, i, p, s, c, h => by
  unfold visN at h
  cases hx : step s (i, p) with
  | go s1 => rw [hx] at h; exact fold_unf (fun s q c h => vis_unf hs h) h
  | stop t => nomatch t
  | fail c' => rw [hx] at h; cases h; exact hs _ _ _ hx
theorem meas_round1 {m3 : Mem} {l c w d0 : Nat} {tm : T AVal} (t4 : getT tm 4 = .ptr c 0) (hlt : l < m3.next ∧ c < m3.next ∧ w < m3.next) (hne : c ≠ l ∧ w ≠ l ∧ c ≠ w) : RoundOK Tryz.prog fl l (⟨57, 44, tm, [16, 17], cAt [true, true, true, false, true, false, false] (bodyF Tryz.f57), cAt [true, true, true, false, true, false, true] (bodyF Tryz.f57), d0⟩) (fun q => q = c ∨ q = l) m3.next (fun (s : Int × Int) m => (Cel m c [iv s.1, iv s.2, .map w]) ∧ m.heap.get w = some (.map (ents kwL) 10) ∧ (0 ≤ s.1 ∧ s.1 ≤ 60) ∧ m3.next ≤ m.next) (fun (_ : Empty) _ => False) (fun (_ : Empty) => Code.ret) (fun (x : Int × Part) => [iv x.1, x.2.val]) (fun (x : Int × Part) m => x.2.OK m ∧ 1 ≤ x.1) step1 := by
 refine ⟨by kernel_rfl, fun x => rfl, .inr rfl, ?_, ?_, (fun _ _ _ h => h.elim), ?_⟩
 ·rintro q (h | h) <;> omega
 ·rintro s m m' ⟨h1, h3, h4, h5⟩ k
  have n5 := k.next
  exact ⟨h1.kept k (by omega) (by show ¬ (m3.next ≤ c); omega), (k.get w (by omega) (by show ¬ (m3.next ≤ w); omega)).trans h3, h4, by omega⟩
 ·rintro st ⟨i, q⟩ m hw hBm ⟨hc, hm, hrg, _⟩ ⟨hq, hi⟩ hlr
  show Wp Tryz.prog fl (At ⟨57, 44, false, some l⟩ [.code (cAt [true, true, true, false, true, false, false] (bodyF Tryz.f57)), .beginRound, .code (cAt [true, true, true, false, true, false, true] (bodyF Tryz.f57))] (sets 44 tm [(17, q.val), (16, iv i)]) [] .run [] m) _
  have K0 : Kept (fun q => m.next ≤ q ∨ (fun q => q = c ∨ q = l) q) m m := Kept.refl hw
  have ltc := hc.lt hw
  have ltw := hw.lt hm
  have ltl := hw.lt hlr
  obtain ⟨⟨ec, hcr⟩, fc⟩ := hc
  refine gg ?_
  refine w_begin rfl hlr ?_
  obtain ⟨m1, g2⟩ : ∃ m', Wrote m m' l (Lp.obj (⟨57, 44, tm, [16, 17], cAt [true, true, true, false, true, false, false] (bodyF Tryz.f57), cAt [true, true, true, false, true, false, true] (bodyF Tryz.f57), d0⟩) .busy none) ∧ m' = m.put l (Lp.obj (⟨57, 44, tm, [16, 17], cAt [true, true, true, false, true, false, false] (bodyF Tryz.f57), cAt [true, true, true, false, true, false, true] (bodyF Tryz.f57), d0⟩) .busy none) := ⟨_, wrote _ _ _, rfl⟩
  rw [show m.put l (.loop ⟨.busy, none, 57, 44, tm, [16, 17], cAt [true, true, true, false, true, false, false] (bodyF Tryz.f57), cAt [true, true, true, false, true, false, true] (bodyF Tryz.f57), d0⟩) = m1 from g2.2.symm]
  replace g2 := g2.1
  have n3 := g2.next
  have K4 := K0.w g2 hlr (fun _ h => by cases h) (Or.inr (Or.inr rfl))
  refine gg ?_
  have h5 := (g2.other c (by omega)).trans hcr
  have f6 := (g2.famo c).trans fc
  refine s_step rfl rfl rfl rfl (o_calls (me2 (e_base rfl t4) (e_hit rfl))) (grow_ok hfl st.1 st.2 i (Cel.of h5 f6) hrg.1 (by omega) K4.wf) (fun c11 m7 k9 p12 => ?_) (fun c11 m8 k10 => ?_)
  ·
   have n13 := k9.next
   have K14 := K4.k k9 (fun _ h => Or.inr (Or.inl h))
   obtain ⟨⟨ecq, hcq⟩, fcq⟩ := p12
   refine gg ?_
   have h15 := (g2.other w (by omega)).trans hm
   have h16 := (k9.get w (by omega) (by show ¬ (w = c); omega)).trans h15
   refine s_step rfl rfl rfl rfl (o_calls (me2 (e_base rfl t4) (e_hit rfl))) (look_ok hfl (Cel.of hcq fcq) h16 q (hq.kept K14) K14.wf) (fun c21 m17 k19 p22 => ?_) (fun c21 m18 k20 => ?_)
   ·
    have K24 := K14.k k19 (fun _ h => h.elim)
    refine gg ?_
    have h25 := (k9.get l (by omega) (by show ¬ (l = c); omega)).trans g2.same
    have h26 := (k19.get l (by omega) (fun h => h)).trans h25
    have h27 := hxM m17 c
    have f28 := fxM m17 c
    have h29 := hxM m17 w
    refine w_roundEnd rfl h26 ?_
    rw [show step1 st (i, q) = .go (st.1 + 1, max st.2 i) from by simp [step1, c11, c21]]
    have gE := wrote m17 l (Lp.obj (⟨57, 44, tm, [16, 17], cAt [true, true, true, false, true, false, false] (bodyF Tryz.f57), cAt [true, true, true, false, true, false, true] (bodyF Tryz.f57), d0⟩) .ready none)
    have KE := K24.w gE h26 (fun _ h => by cases h) (Or.inr (Or.inr rfl))
    have hin := of_decide_eq_true c11
    exact ⟨_, _, rfl, KE.out, ⟨Cel.of ((gE.other c (by omega)).trans h27) ((gE.famo c).trans f28), (gE.other w (by omega)).trans h29, ⟨by show 0 ≤ st.1 + 1; omega, by show st.1 + 1 ≤ 60; omega⟩, Nat.le_trans hBm KE.next⟩, gE.same⟩
   ·
    have K31 := K14.k k20 (fun _ h => h.elim)
    refine w_panics ?_
    rw [show step1 st (i, q) = .fail unfC from by simp [step1, c11, c21]]; exact ⟨_, _, rfl, K31.out⟩
  ·
   have K33 := K4.k k10 (fun _ h => Or.inr (Or.inl h))
   refine w_panics ?_
   rw [show step1 st (i, q) = .fail unfC from by simp [step1, c11]]; exact ⟨_, _, rfl, K33.out⟩
theorem meas_r2_tm {m3 : Mem} {l d0 : Nat} {tm : T AVal} (hlt : l < m3.next) {i : Int} {st : Unit} {op : Int} {s : ByteArray} {av dv kv : AVal} {args : List AEx} {defs : List ACl} {kids : List ATm} {m : Mem} (hw : Wf m) (hBm : m3.next ≤ m.next) (hq : Part.OK m (.tm (.mk op s av dv kv args defs kids))) (hlr : m.heap.get l = some (Lp.obj (⟨57, 44, tm, [24, 25], cAt [true, true, true, true, false, true, false, false] (bodyF Tryz.f57), cAt [true, true, true, true, false, true, false, true] (bodyF Tryz.f57), d0⟩) .ready none)) : Wp Tryz.prog fl (At ⟨57, 44, false, some l⟩ [.code (cAt [true, true, true, true, false, true, false, false] (bodyF Tryz.f57)), .beginRound, .code (cAt [true, true, true, true, false, true, false, true] (bodyF Tryz.f57))] (sets 44 tm [(25, Part.val (.tm (.mk op s av dv kv args defs kids))), (24, iv i)]) [] .run [] m) (EndR l (⟨57, 44, tm, [24, 25], cAt [true, true, true, true, false, true, false, false] (bodyF Tryz.f57), cAt [true, true, true, true, false, true, false, true] (bodyF Tryz.f57), d0⟩) (fun q => q = l) (fun (_ : Unit) m => m3.next ≤ m.next) (fun (_ : Empty) _ => False) (fun (_ : Empty) => Code.ret) m (step2 st (i, (.tm (.mk op s av dv kv args defs kids))))) := by
  have K0 : Kept (fun q => m.next ≤ q ∨ (fun q => q = l) q) m m := Kept.refl hw
  have ltl := hw.lt hlr
  have hd : SlA m dv 5 (defs.map ACl.cells) := by cases hq with | mk h1 h2 h3 h4 h5 h6 => exact h2
  have hdo : ∀ c, c ∈ defs → c.OK m := by cases hq with | mk h1 h2 h3 h4 h5 h6 => exact h5
  have chd := hd.cell
  have cav : isCell av = true := by cases hq with | mk h1 h2 h3 h4 h5 h6 => exact h1.cell
  have ckv : isCell kv = true := by cases hq with | mk h1 h2 h3 h4 h5 h6 => exact h3.cell
  refine gg ?_
  refine w_begin rfl hlr ?_
  obtain ⟨m34, g35⟩ : ∃ m', Wrote m m' l (Lp.obj (⟨57, 44, tm, [24, 25], cAt [true, true, true, true, false, true, false, false] (bodyF Tryz.f57), cAt [true, true, true, true, false, true, false, true] (bodyF Tryz.f57), d0⟩) .busy none) ∧ m' = m.put l (Lp.obj (⟨57, 44, tm, [24, 25], cAt [true, true, true, true, false, true, false, false] (bodyF Tryz.f57), cAt [true, true, true, true, false, true, false, true] (bodyF Tryz.f57), d0⟩) .busy none) := ⟨_, wrote _ _ _, rfl⟩
  rw [show m.put l (.loop ⟨.busy, none, 57, 44, tm, [24, 25], cAt [true, true, true, true, false, true, false, false] (bodyF Tryz.f57), cAt [true, true, true, true, false, true, false, true] (bodyF Tryz.f57), d0⟩) = m34 from g35.2.symm]
  replace g35 := g35.1
  have n36 := g35.next
  have K37 := K0.w g35 hlr (fun _ h => by cases h) (Or.inr rfl)
  refine gg ?_
  refine s_val rfl rfl rfl rfl (o_assertT (e_hit rfl) fit_79_79 if_79) ?_
  refine gg ?_
  refine s_new rfl rfl rfl rfl (o_alloc zc_79) (fun m38 g39 => ?_)
  have n40 := g39.next
  have K41 := K37.g g39
  refine s_put0 rfl rfl rfl (o_store (e_hit rfl) (e_hit rfl) g39.same (g39.fam0 K37.wf) sz_79 rfl rfl (ac1 rfl (ac1 rfl (ac1 cav (ac1 chd (ac1 ckv rfl))))) rfl) (fun m42 g43 => ?_)
  have n44 := g43.next
  have K45 := K41.w g43 g39.same (fun _ h => by cases h) (Or.inl (by omega))
  refine gg ?_
  refine w_cond (e_hit rfl) (fun c46 => ?_) (fun c46 => ?_)
  ·
   refine gg ?_
   refine s_step rfl rfl rfl rfl (o_calls (me1 (e_hit rfl))) (defined_ok hfl defs (hd.kept K45) (fun c hc => (hdo c hc).kept K45) K45.wf) (fun c51 m47 k49 p52 => ?_) (fun c51 m48 k50 => ?_)
   ·
    have K54 := K45.k k49 (fun _ h => h.elim)
    refine gg ?_
    have h57 := hxM m47 l
    refine w_roundEnd rfl h57 ?_
    rw [show step2 st (i, .tm (.mk op s av dv kv args defs kids)) = .go () from by simp [step2, part2B, c46, c51]]
    have gE := wrote m47 l (Lp.obj (⟨57, 44, tm, [24, 25], cAt [true, true, true, true, false, true, false, false] (bodyF Tryz.f57), cAt [true, true, true, true, false, true, false, true] (bodyF Tryz.f57), d0⟩) .ready none)
    have KE := K54.w gE h57 (fun _ h => by cases h) (Or.inr rfl)
    exact ⟨_, _, rfl, KE.out, Nat.le_trans hBm KE.next, gE.same⟩
   ·
    have K59 := K45.k k50 (fun _ h => h.elim)
    refine w_panics ?_
    rw [show step2 st (i, .tm (.mk op s av dv kv args defs kids)) = .fail unfC from by simp [step2, part2B, c46, c51]]; exact ⟨_, _, rfl, K59.out⟩
  ·
   refine gg ?_
   have h61 := hxM m42 l
   refine w_roundEnd rfl h61 ?_
   rw [show step2 st (i, .tm (.mk op s av dv kv args defs kids)) = .go () from by simp [step2, part2B, c46]]
   have gE := wrote m42 l (Lp.obj (⟨57, 44, tm, [24, 25], cAt [true, true, true, true, false, true, false, false] (bodyF Tryz.f57), cAt [true, true, true, true, false, true, false, true] (bodyF Tryz.f57), d0⟩) .ready none)
   have KE := K45.w gE h61 (fun _ h => by cases h) (Or.inr rfl)
   exact ⟨_, _, rfl, KE.out, Nat.le_trans hBm KE.next, gE.same⟩
theorem meas_r2_ex {m3 : Mem} {l d0 : Nat} {tm : T AVal} (hlt : l < m3.next) {i : Int} {st : Unit} {op n : Int} {s : ByteArray} {kv : AVal} {kids : List AEx} {m : Mem} (hw : Wf m) (hBm : m3.next ≤ m.next) (hq : Part.OK m (.ex (.mk op n s kv kids))) (hlr : m.heap.get l = some (Lp.obj (⟨57, 44, tm, [24, 25], cAt [true, true, true, true, false, true, false, false] (bodyF Tryz.f57), cAt [true, true, true, true, false, true, false, true] (bodyF Tryz.f57), d0⟩) .ready none)) : Wp Tryz.prog fl (At ⟨57, 44, false, some l⟩ [.code (cAt [true, true, true, true, false, true, false, false] (bodyF Tryz.f57)), .beginRound, .code (cAt [true, true, true, true, false, true, false, true] (bodyF Tryz.f57))] (sets 44 tm [(25, Part.val (.ex (.mk op n s kv kids))), (24, iv i)]) [] .run [] m) (EndR l (⟨57, 44, tm, [24, 25], cAt [true, true, true, true, false, true, false, false] (bodyF Tryz.f57), cAt [true, true, true, true, false, true, false, true] (bodyF Tryz.f57), d0⟩) (fun q => q = l) (fun (_ : Unit) m => m3.next ≤ m.next) (fun (_ : Empty) _ => False) (fun (_ : Empty) => Code.ret) m (step2 st (i, (.ex (.mk op n s kv kids))))) := by
  have _ := hfl
  have K0 : Kept (fun q => m.next ≤ q ∨ (fun q => q = l) q) m m := Kept.refl hw
  have ltl := hw.lt hlr
  refine gg ?_
  refine w_begin rfl hlr ?_
  obtain ⟨m62, g63⟩ : ∃ m', Wrote m m' l (Lp.obj (⟨57, 44, tm, [24, 25], cAt [true, true, true, true, false, true, false, false] (bodyF Tryz.f57), cAt [true, true, true, true, false, true, false, true] (bodyF Tryz.f57), d0⟩) .busy none) ∧ m' = m.put l (Lp.obj (⟨57, 44, tm, [24, 25], cAt [true, true, true, true, false, true, false, false] (bodyF Tryz.f57), cAt [true, true, true, true, false, true, false, true] (bodyF Tryz.f57), d0⟩) .busy none) := ⟨_, wrote _ _ _, rfl⟩
  rw [show m.put l (.loop ⟨.busy, none, 57, 44, tm, [24, 25], cAt [true, true, true, true, false, true, false, false] (bodyF Tryz.f57), cAt [true, true, true, true, false, true, false, true] (bodyF Tryz.f57), d0⟩) = m62 from g63.2.symm]
  replace g63 := g63.1
  have n64 := g63.next
  have K65 := K0.w g63 hlr (fun _ h => by cases h) (Or.inr rfl)
  refine gg ?_
  refine s_val rfl rfl rfl rfl (o_assertF (e_hit rfl) fit_79_85 tz_79) ?_
  refine gg ?_
  refine s_new rfl rfl rfl rfl (o_alloc zc_79) (fun m66 g67 => ?_)
  have n68 := g67.next
  have K69 := K65.g g67
  refine s_put0 rfl rfl rfl (o_store (v := .lit (.agg #[.int .i64 0, .string .empty, .slice none 0 0, .slice none 0 0, .slice none 0 0])) (by rw [← zv_lit]; exact (e_hit rfl)) (e_hit rfl) g67.same (g67.fam0 K65.wf) sz_79 rfl rfl rfl rfl) (fun m70 g71 => ?_)
  have n72 := g71.next
  have K73 := K69.w g71 g67.same (fun _ h => by cases h) (Or.inl (by omega))
  refine gg ?_
  have h75 := hxM m70 l
  refine w_roundEnd rfl h75 ?_
  rw [show step2 st (i, .ex (.mk op n s kv kids)) = .go () from by simp [step2, part2B]]
  have gE := wrote m70 l (Lp.obj (⟨57, 44, tm, [24, 25], cAt [true, true, true, true, false, true, false, false] (bodyF Tryz.f57), cAt [true, true, true, true, false, true, false, true] (bodyF Tryz.f57), d0⟩) .ready none)
  have KE := K73.w gE h75 (fun _ h => by cases h) (Or.inr rfl)
  exact ⟨_, _, rfl, KE.out, Nat.le_trans hBm KE.next, gE.same⟩
theorem meas_r2_cl {m3 : Mem} {l d0 : Nat} {tm : T AVal} (hlt : l < m3.next) {i : Int} {st : Unit} {op : Int} {s : ByteArray} {jv dv kv : AVal} {joins : List AMs} {defs : List ACl} {kids : List ATm} {m : Mem} (hw : Wf m) (hBm : m3.next ≤ m.next) (hq : Part.OK m (.cl (.mk op s jv dv kv joins defs kids))) (hlr : m.heap.get l = some (Lp.obj (⟨57, 44, tm, [24, 25], cAt [true, true, true, true, false, true, false, false] (bodyF Tryz.f57), cAt [true, true, true, true, false, true, false, true] (bodyF Tryz.f57), d0⟩) .ready none)) : Wp Tryz.prog fl (At ⟨57, 44, false, some l⟩ [.code (cAt [true, true, true, true, false, true, false, false] (bodyF Tryz.f57)), .beginRound, .code (cAt [true, true, true, true, false, true, false, true] (bodyF Tryz.f57))] (sets 44 tm [(25, Part.val (.cl (.mk op s jv dv kv joins defs kids))), (24, iv i)]) [] .run [] m) (EndR l (⟨57, 44, tm, [24, 25], cAt [true, true, true, true, false, true, false, false] (bodyF Tryz.f57), cAt [true, true, true, true, false, true, false, true] (bodyF Tryz.f57), d0⟩) (fun q => q = l) (fun (_ : Unit) m => m3.next ≤ m.next) (fun (_ : Empty) _ => False) (fun (_ : Empty) => Code.ret) m (step2 st (i, (.cl (.mk op s jv dv kv joins defs kids))))) := by
  have _ := hfl
  have K0 : Kept (fun q => m.next ≤ q ∨ (fun q => q = l) q) m m := Kept.refl hw
  have ltl := hw.lt hlr
  refine gg ?_
  refine w_begin rfl hlr ?_
  obtain ⟨m76, g77⟩ : ∃ m', Wrote m m' l (Lp.obj (⟨57, 44, tm, [24, 25], cAt [true, true, true, true, false, true, false, false] (bodyF Tryz.f57), cAt [true, true, true, true, false, true, false, true] (bodyF Tryz.f57), d0⟩) .busy none) ∧ m' = m.put l (Lp.obj (⟨57, 44, tm, [24, 25], cAt [true, true, true, true, false, true, false, false] (bodyF Tryz.f57), cAt [true, true, true, true, false, true, false, true] (bodyF Tryz.f57), d0⟩) .busy none) := ⟨_, wrote _ _ _, rfl⟩
  rw [show m.put l (.loop ⟨.busy, none, 57, 44, tm, [24, 25], cAt [true, true, true, true, false, true, false, false] (bodyF Tryz.f57), cAt [true, true, true, true, false, true, false, true] (bodyF Tryz.f57), d0⟩) = m76 from g77.2.symm]
  replace g77 := g77.1
  have n78 := g77.next
  have K79 := K0.w g77 hlr (fun _ h => by cases h) (Or.inr rfl)
  refine gg ?_
  refine s_val rfl rfl rfl rfl (o_assertF (e_hit rfl) fit_79_189 tz_79) ?_
  refine gg ?_
  refine s_new rfl rfl rfl rfl (o_alloc zc_79) (fun m80 g81 => ?_)
  have n82 := g81.next
  have K83 := K79.g g81
  refine s_put0 rfl rfl rfl (o_store (v := .lit (.agg #[.int .i64 0, .string .empty, .slice none 0 0, .slice none 0 0, .slice none 0 0])) (by rw [← zv_lit]; exact (e_hit rfl)) (e_hit rfl) g81.same (g81.fam0 K79.wf) sz_79 rfl rfl rfl rfl) (fun m84 g85 => ?_)
  have n86 := g85.next
  have K87 := K83.w g85 g81.same (fun _ h => by cases h) (Or.inl (by omega))
  refine gg ?_
  have h89 := hxM m84 l
  refine w_roundEnd rfl h89 ?_
  rw [show step2 st (i, .cl (.mk op s jv dv kv joins defs kids)) = .go () from by simp [step2, part2B]]
  have gE := wrote m84 l (Lp.obj (⟨57, 44, tm, [24, 25], cAt [true, true, true, true, false, true, false, false] (bodyF Tryz.f57), cAt [true, true, true, true, false, true, false, true] (bodyF Tryz.f57), d0⟩) .ready none)
  have KE := K87.w gE h89 (fun _ h => by cases h) (Or.inr rfl)
  exact ⟨_, _, rfl, KE.out, Nat.le_trans hBm KE.next, gE.same⟩
theorem meas_round2 {m3 : Mem} {l d0 : Nat} {tm : T AVal} (hlt : l < m3.next) : RoundOK Tryz.prog fl l (⟨57, 44, tm, [24, 25], cAt [true, true, true, true, false, true, false, false] (bodyF Tryz.f57), cAt [true, true, true, true, false, true, false, true] (bodyF Tryz.f57), d0⟩) (fun q => q = l) m3.next (fun (_ : Unit) m => m3.next ≤ m.next) (fun (_ : Empty) _ => False) (fun (_ : Empty) => Code.ret) (fun (x : Int × Part) => [iv x.1, x.2.val]) (fun (x : Int × Part) m => x.2.OK m ∧ (1 ≤ x.1 ∧ ∃ k : Nat, depN k x.2 ∧ x.1 + k ≤ 13)) step2 := by
 refine ⟨by kernel_rfl, fun x => rfl, rfl, ?_, ?_, (fun _ _ _ h => h.elim), ?_⟩
 ·intro q h; have : q = l := h; omega
 ·intro s m m' h k; exact Nat.le_trans h k.next
 ·rintro st ⟨i, q⟩ m hw hBm _ ⟨hq, _⟩ hlr
  cases q with
  | ex e => cases e with | mk op n s kv kids => exact meas_r2_ex hfl hlt hw hBm hq hlr
  | cl e => cases e with | mk f s jv dv kv joins defs kids => exact meas_r2_cl hfl hlt hw hBm hq hlr
  | tm e => cases e with | mk op s av dv kv args defs kids => exact meas_r2_tm hfl hlt hw hBm hq hlr
end
open Go.RowKit (Below)
set_option maxRecDepth 10000
noncomputable section
theorem sz_136 : tsz Tryz.prog 136 = some 3 := by kernel_rfl
theorem un_136 : placesT Tryz.prog 136 = some [(0, 2), (2, 1)] := by kernel_rfl
theorem zc_136 : zcells Tryz.prog 136 = some [.lit (.int .i64 0), .lit (.int .i64 0), .lit (.map none)] := by kernel_rfl
theorem zc_37 : zcells Tryz.prog 37 = some [.lit (.int .i64 0)] := by kernel_rfl
variable {fl : Fl} (hfl : Tab fl)
include hfl
theorem meas_end_pan {tm : T AVal} {r2 r3 : Nat} {x y z : AVal} (t2 : getT tm 2 = .ptr r2 0) (t3 : getT tm 3 = .ptr r3 0) (hne : r2 ≠ r3) {m : Mem} (h2m : m.next ≤ r2) (h3m : m.next ≤ r3) : ∀ (bs : List Nat) {mX : Mem} (todo : List AItem), Kept (fun q => m.next ≤ q ∨ noS q) m mX → (∀ b, b ∈ bs → mX.heap.get b = some (.deferred (some [])) ∧ m.next ≤ b ∧ b ≠ r2 ∧ b ≠ r3) → bs.Nodup → Cel mX r2 [x, y] → Cel mX r3 [z] →
  Wp Tryz.prog fl (At ⟨57, 44, false, none⟩ todo tm (bs.map (fun b => (⟨.nil, [], some b, []⟩ : ADef)) ++ [(⟨.fn (.func 93) #[], [.ptr r2 0, .ptr r3 0], none, []⟩ : ADef)]) (.panicking unfC) [] mX) (Rets noS m (.tuple [.agg [iv 0, iv 0], iv 2])) := by
 intro bs
 induction bs with
 | nil =>
  intro mX todo K _ _ h2 h3
  refine w_deferred (t := .fn (.func 93) #[]) (by intro h; cases h) rfl rfl Tryz.func93 rfl (Nat.le_of_ble_eq_true rfl) (deferred_pan hfl hne h2 h3 K.wf) ?_ ?_
  ·rintro _ _ m' ⟨_, _, e, k, ⟨⟨e2, h2r⟩, f2⟩, ⟨⟨e3, h3r⟩, f3⟩⟩
   cases e
   have K' := K.k k (fun q h => Or.inl (by rcases h with h | h <;> omega))
   show Wp Tryz.prog fl (At ⟨57, 44, false, none⟩ [] tm [] .returning [] m') _
   refine w_results Tryz.func57 (rvc2 t2 (lvA h2r tg_75 sz_75 rfl) t3 (lv1 h3r tg_37 sz_37 rfl rfl)) ?_
   exact ⟨_, _, rfl, K'.out⟩
  ·rintro c u m' ⟨_, _, e, _⟩; cases e
 | cons b bs ih =>
  intro mX todo K hb hnd h2 h3
  obtain ⟨hb1, hb2, hb3, hb4⟩ := hb b (by simp)
  have hbs := List.nodup_cons.1 hnd
  refine w_coll (by intro h; cases h) hb1 ?_
  have gE := wrote mX b (.deferred none)
  have l2 := h2.lt K.wf
  have l3 := h3.lt K.wf
  have kE := (Kept.wrote K.wf gE hb1 (fun _ h => by cases h) rfl : Kept (fun q => q = b) mX _)
  exact ih [] (K.w gE hb1 (fun _ h => by cases h) (Or.inl hb2)) (fun b' hb' => ⟨(gE.other b' (fun e => hbs.1 (e ▸ hb'))).trans (hb b' (by simp [hb'])).1, (hb b' (by simp [hb'])).2⟩) hbs.2 (h2.kept kE l2 (fun e => hb3 e.symm)) (h3.kept kE l3 (fun e => hb4 e.symm))
theorem meas_end_ret {tm : T AVal} {r2 r3 : Nat} {x y z : Int} (t2 : getT tm 2 = .ptr r2 0) (t3 : getT tm 3 = .ptr r3 0) (hne : r2 ≠ r3) {m : Mem} (h2m : m.next ≤ r2) (h3m : m.next ≤ r3) : ∀ (bs : List Nat) {mX : Mem} (todo : List AItem), Kept (fun q => m.next ≤ q ∨ noS q) m mX → (∀ b, b ∈ bs → mX.heap.get b = some (.deferred (some [])) ∧ m.next ≤ b ∧ b ≠ r2 ∧ b ≠ r3) → bs.Nodup → Cel mX r2 [iv x, iv y] → Cel mX r3 [iv z] →
  Wp Tryz.prog fl (At ⟨57, 44, false, none⟩ todo tm (bs.map (fun b => (⟨.nil, [], some b, []⟩ : ADef)) ++ [(⟨.fn (.func 93) #[], [.ptr r2 0, .ptr r3 0], none, []⟩ : ADef)]) (.returning) [] mX) (Rets noS m (.tuple [.agg [iv x, iv y], iv z])) := by
 intro bs
 induction bs with
 | nil =>
  intro mX todo K _ _ h2 h3
  refine w_deferred (t := .fn (.func 93) #[]) (by intro h; cases h) rfl rfl Tryz.func93 rfl (Nat.le_of_ble_eq_true rfl) (deferred_ret hfl hne h2 h3 K.wf) ?_ ?_
  ·rintro _ _ m' ⟨_, _, e, k, ⟨⟨e2, h2r⟩, f2⟩, ⟨⟨e3, h3r⟩, f3⟩⟩
   cases e
   have K' := K.k k (fun q h => Or.inl (by rcases h with h | h <;> omega))
   show Wp Tryz.prog fl (At ⟨57, 44, false, none⟩ [] tm [] .returning [] m') _
   refine w_results Tryz.func57 (rvc2 t2 (lvA h2r tg_75 sz_75 rfl) t3 (lv1 h3r tg_37 sz_37 rfl rfl)) ?_
   exact ⟨_, _, rfl, K'.out⟩
  ·rintro c u m' ⟨_, _, e, _⟩; cases e
 | cons b bs ih =>
  intro mX todo K hb hnd h2 h3
  obtain ⟨hb1, hb2, hb3, hb4⟩ := hb b (by simp)
  have hbs := List.nodup_cons.1 hnd
  refine w_coll (by intro h; cases h) hb1 ?_
  have gE := wrote mX b (.deferred none)
  have l2 := h2.lt K.wf
  have l3 := h3.lt K.wf
  have kE := (Kept.wrote K.wf gE hb1 (fun _ h => by cases h) rfl : Kept (fun q => q = b) mX _)
  exact ih [] (K.w gE hb1 (fun _ h => by cases h) (Or.inl hb2)) (fun b' hb' => ⟨(gE.other b' (fun e => hbs.1 (e ▸ hb'))).trans (hb b' (by simp [hb'])).1, (hb b' (by simp [hb'])).2⟩) hbs.2 (h2.kept kE l2 (fun e => hb3 e.symm)) (h3.kept kE l3 (fun e => hb4 e.symm))
omit hfl in
def measV (q : Part) : AVal := match measB q with
 | some s => .tuple [.agg [iv s.1, iv s.2], iv 0]
 | none => .tuple [.agg [iv 0, iv 0], iv 2]
theorem measure_ok {m : Mem} (q : Part) (hq : q.OK m) (hw : Wf m) : CallQ Tryz.prog fl 57 [q.val] m (Rets noS m (measV q)) := by
 refine hfl.start (by decide) 44 Tryz.func57 rfl rfl (Nat.le_of_ble_eq_true rfl) ?_
 intro bs hb
 have ar0 := hb 0 _ rfl
 clear hb
 have K0 : Kept (fun q => m.next ≤ q ∨ (noS) q) m m := Kept.refl hw
 refine gg ?_
 refine s_new rfl rfl rfl rfl (o_alloc zc_75) (fun m1 g2 => ?_)
 have n3 := g2.next
 have K4 := K0.g g2
 refine s_new rfl rfl rfl rfl (o_alloc zc_37) (fun m5 g6 => ?_)
 have n7 := g6.next
 have K8 := K4.g g6
 refine gg ?_
 refine s_val rfl rfl rfl rfl (o_makeF rfl me0 (me2 (e_hit rfl) (e_hit rfl))) ?_
 refine s_defer0 rfl rfl rfl (by show fnDef [] (evalT _ (.tmp 11)) = _; rw [show evalT _ (.tmp 11) = _ from e_hit rfl]; rfl) rfl ?_
 refine gg ?_
 refine s_call rfl rfl rfl rfl (o_calls me0) (keywords_ok hfl K8.wf) ?_ (by rintro c u m' ⟨_, _, h, _⟩; cases h)
 rintro _ _ mk ⟨_, _, hret, kk, ltw, hww⟩
 cases hret
 have Kk := K8.k kk (fun _ h => h.elim)
 refine s_val rfl rfl rfl rfl (o_build (ev1 (e_hit rfl)) zc_136 un_136 rfl) ?_
 refine s_new rfl rfl rfl rfl (o_alloc zc_136) (fun m9 g10 => ?_)
 have n11 := g10.next
 have K12 := Kk.g g10
 refine s_put0 rfl rfl rfl (o_store (e_hit rfl) (e_hit rfl) g10.same (g10.fam0 Kk.wf) sz_136 rfl rfl rfl rfl) (fun m13 g14 => ?_)
 have n15 := g14.next
 have K16 := K12.w g14 g10.same (fun _ h => by cases h) (Or.inl (by omega))
 refine gg ?_
 refine s_call rfl rfl rfl rfl (o_calls (me1 (e_hit rfl))) (nodes_ok hfl q K16.wf) ?_ (by rintro c u m' ⟨_, _, h, _⟩; cases h)
 rintro _ _ mg1 ⟨_, _, hret, kg1, ltbx1, hbx1⟩
 cases hret
 have Kg1 := K16.k kg1 (fun _ h => h.elim)
 refine gg ?_
 have h17 := hxM m5 m.next
 have h18 := (kk.get m.next (by omega) (fun h => h)).trans h17
 have h20 := hxM m13 m.next
 have h21 := (kg1.get m.next (by omega) (fun h => h)).trans h20
 have f22 := fxM m5 m.next
 have f23 := (kk.fam m.next (by omega) (fun h => h)).trans f22
 have f25 := fxM m13 m.next
 have f26 := (kg1.fam m.next (by omega) (fun h => h)).trans f25
 have h27 := (kk.get m1.next (by omega) (fun h => h)).trans g6.same
 have h29 := hxM m13 m1.next
 have h30 := (kg1.get m1.next (by omega) (fun h => h)).trans h29
 have f31 := (kk.fam m1.next (by omega) (fun h => h)).trans (g6.fam0 K4.wf)
 have f33 := fxM m13 m1.next
 have f34 := (kg1.fam m1.next (by omega) (fun h => h)).trans f33
 have h35 := (kg1.get mk.next (by omega) (fun h => h)).trans g14.same
 have f36 := fxM m13 mk.next
 have f37 := (kg1.fam mk.next (by omega) (fun h => h)).trans f36
 have h39 := hxM m13 m5.next
 have h40 := (kg1.get m5.next (by omega) (fun h => h)).trans h39
 obtain ⟨r2, er2⟩ : ∃ r, r = m.next := ⟨_, rfl⟩
 obtain ⟨r3, er3⟩ : ∃ r, r = m1.next := ⟨_, rfl⟩
 obtain ⟨c, ec⟩ : ∃ r, r = mk.next := ⟨_, rfl⟩
 obtain ⟨w, ew⟩ : ∃ r, r = m5.next := ⟨_, rfl⟩
 have h2 : Cel mg1 r2 [iv 0, iv 0] := by rw [er2]; exact Cel.of h21 f26
 have h3 : Cel mg1 r3 [iv 0] := by rw [er3]; exact Cel.of h30 f34
 have hc : Cel mg1 c [iv 0, iv 0, .map w] := by rw [ec, ew]; exact Cel.of h35 f37
 have hm : mg1.heap.get w = some (.map (ents kwL) 10) := by rw [ew]; exact h40
 rw [← er2, ← er3]
 obtain ⟨bx1, ebx1⟩ : ∃ r, r = m13.next := ⟨_, rfl⟩
 rw [← ebx1] at hbx1 ltbx1
 refine Wp.gen (fun tm1 etm => ?_)
 have t0_1 : getT tm1 0 = q.val := eqb etm (e_base rfl ar0)
 have t2_1 : getT tm1 2 = .ptr r2 0 := eqb etm (e_hit rfl)
 have t3_1 : getT tm1 3 = .ptr r3 0 := eqb etm (e_hit rfl)
 have t4_1 : getT tm1 4 = .ptr c 0 := by rw [ec]; exact eqb etm (e_hit rfl)
 have tf : evalT tm1 (.tmp 15) = .func (.func 134) [] [.ptr bx1 0] := by rw [ebx1]; exact eqb etm (e_hit rfl)
 clear etm
 have wg1 := Kg1.wf
 have gA1 := grew mg1 (.deferred (some []))
 obtain ⟨mA1, eA1⟩ : ∃ mA, mA = mg1.new (.deferred (some [])) := ⟨_, rfl⟩
 rw [← eA1] at gA1
 have gB1 := grew mA1 (Lp.obj (⟨57, 44, tm1, [16, 17], cAt [true, true, true, false, true, false, false] (bodyF Tryz.f57), cAt [true, true, true, false, true, false, true] (bodyF Tryz.f57), mg1.next⟩ : Lp) .ready none)
 obtain ⟨mB1, eB1⟩ : ∃ mB, mB = mA1.new (Lp.obj (⟨57, 44, tm1, [16, 17], cAt [true, true, true, false, true, false, false] (bodyF Tryz.f57), cAt [true, true, true, false, true, false, true] (bodyF Tryz.f57), mg1.next⟩ : Lp) .ready none) := ⟨_, rfl⟩
 rw [← eB1] at gB1
 have KA1 := (Kept.refl (S := fun q => mg1.next ≤ q ∨ noS q) wg1).g gA1
 have KB1 := KA1.g gB1
 have nA1 := gA1.next
 have nB1 := gB1.next
 have hmB1 : loopM mg1 ⟨57, 44, false, none⟩ tm1 (#[16, 17] : Array Tmp).toList (cAt [true, true, true, false, true, false, false] (bodyF Tryz.f57)) (cAt [true, true, true, false, true, false, true] (bodyF Tryz.f57)) = mB1 := by rw [eB1, eA1]; rfl
 have l2_1 := h2.lt wg1
 have l3_1 := h3.lt wg1
 have lc_1 := hc.lt wg1
 have lw_1 := wg1.lt hm
 have gl1 : mB1.heap.get (mg1.next + 1) = some (Lp.obj (⟨57, 44, tm1, [16, 17], cAt [true, true, true, false, true, false, false] (bodyF Tryz.f57), cAt [true, true, true, false, true, false, true] (bodyF Tryz.f57), mg1.next⟩ : Lp) .ready none) := by rw [← nA1]; exact gB1.same
 have gd10 : mB1.heap.get mg1.next = some (.deferred (some [])) := (gB1.other _ (by omega)).trans gA1.same
 have RR1 := meas_round1 hfl (m3 := mB1) (l := mg1.next + 1) (d0 := mg1.next) (c := c) (w := w) t4_1 ⟨by omega, by omega, by omega⟩ (by omega)
 have hcall1 := nodes1_ok hfl (Lv := fun i _ => 1 ≤ i) RR1 (fun i q s s' h1 h2 => ⟨by have := step1_go h2; omega, fun r _ => by omega⟩) (n := SizeOf.sizeOf q + 1) q (s := (0, 0)) (m := mB1) (bx := bx1) (by omega) KB1.wf (Nat.le_refl _) ⟨hc.kept KB1.out lc_1 (fun h => h), (KB1.out.get w lw_1 (fun h => h)).trans hm, ⟨by decide, by decide⟩, Nat.le_refl _⟩ gl1 (hbx1.kept KB1.out (by omega) (fun h => h)) ((hq.kept Kg1).kept KB1) (by decide)
 have hg1 : callTarget Tryz.prog [.ptr bx1 0] (appL [] [.yield (mg1.next + 1)]) (loopM mg1 ⟨57, 44, false, none⟩ tm1 (#[16, 17] : Array Tmp).toList (cAt [true, true, true, false, true, false, false] (bodyF Tryz.f57)) (cAt [true, true, true, false, true, false, true] (bodyF Tryz.f57))) (.fn (.func 134) #[]) = .enter 134 [.yield (mg1.next + 1), .ptr bx1 0] mB1 := by rw [hmB1]; rfl
 refine w_rangeF (args := []) rfl (by rw [tf]; rfl) hg1 hcall1 ?_ ?_
 ·
  intro vv u m41 hend
  cases hf1 : visN step1 (SizeOf.sizeOf q + 1) 1 q (0, 0) with
  | go z =>
   rw [hf1] at hend
   obtain ⟨_, _, _, eq, k41, ⟨hc4, hm4, _, _⟩, hl24⟩ := hend
   cases eq
   refine w_after hl24 (by intro h; cases h) ?_
   have gC1 := wrote m41 (mg1.next + 1) (Lp.obj (⟨57, 44, tm1, [16, 17], cAt [true, true, true, false, true, false, false] (bodyF Tryz.f57), cAt [true, true, true, false, true, false, true] (bodyF Tryz.f57), mg1.next⟩ : Lp) .exhausted none)
   obtain ⟨m51, e51⟩ : ∃ m5, m5 = m41.put (mg1.next + 1) (Lp.obj (⟨57, 44, tm1, [16, 17], cAt [true, true, true, false, true, false, false] (bodyF Tryz.f57), cAt [true, true, true, false, true, false, true] (bodyF Tryz.f57), mg1.next⟩ : Lp) .exhausted none) := ⟨_, rfl⟩
   rw [← e51] at gC1
   change Wp Tryz.prog fl (At _ _ (sets 44 tm1 []) _ _ _ (m41.put (mg1.next + 1) (Lp.obj (⟨57, 44, tm1, [16, 17], cAt [true, true, true, false, true, false, false] (bodyF Tryz.f57), cAt [true, true, true, false, true, false, true] (bodyF Tryz.f57), mg1.next⟩ : Lp) .exhausted none))) _
   rw [← e51]
   have gd51 := (gC1.other mg1.next (by omega)).trans ((k41.get mg1.next (by omega) (by first | (rintro (h | h) <;> omega) | (intro h; have : _ = _ := h; omega))).trans gd10)
   have KM1 := (Kg1.then KB1.out (fun _ _ h => h.elim)).then k41 (fun q hq h => by (first | (rcases h with h | h <;> exact Or.inl (by omega)) | (have : q = _ := h; exact Or.inl (by omega))))
   have KN1 := KM1.w gC1 hl24 (fun _ h => by cases h) (Or.inl (by omega))
   have nC1 := gC1.next
   have kC1 := (Kept.wrote KM1.wf gC1 hl24 (fun _ h => by cases h) rfl : Kept (fun q => q = mg1.next + 1) m41 m51)
   have h25 := ((h2.kept KB1.out l2_1 (fun h => h)).kept k41 (by omega) (by first | (rintro (h | h) <;> omega) | (intro h; have : _ = _ := h; omega))).kept kC1 (by omega) (by show ¬ (r2 = _); omega)
   have h35 := ((h3.kept KB1.out l3_1 (fun h => h)).kept k41 (by omega) (by first | (rintro (h | h) <;> omega) | (intro h; have : _ = _ := h; omega))).kept kC1 (by omega) (by show ¬ (r3 = _); omega)
   have hc5 := hc4.kept kC1 (by omega) (by show ¬ (c = _); omega)
   obtain ⟨⟨eh2, h2r⟩, f2⟩ := h25
   obtain ⟨⟨eh3, h3r⟩, f3⟩ := h35
   obtain ⟨⟨ehc, hcr⟩, fc⟩ := hc5
   refine gg ?_
   refine s_call rfl rfl rfl rfl (o_calls (me1 (e_hit rfl))) (nodes_ok hfl q KN1.wf) ?_ (by rintro c u m' ⟨_, _, h, _⟩; cases h)
   rintro _ _ mg2 ⟨_, _, hret, kg2, ltbx2, hbx2⟩
   cases hret
   have Kg2 := KN1.k kg2 (fun _ h => h.elim)
   refine gg ?_
   have h41 := (kg2.get r2 (by omega) (fun h => h)).trans h2r
   have f42 := (kg2.fam r2 (by omega) (fun h => h)).trans f2
   have h43 := (kg2.get r3 (by omega) (fun h => h)).trans h3r
   have f44 := (kg2.fam r3 (by omega) (fun h => h)).trans f3
   have h45 := (kg2.get c (by omega) (fun h => h)).trans hcr
   have f46 := (kg2.fam c (by omega) (fun h => h)).trans fc
   have h2 : Cel mg2 r2 [iv 0, iv 0] := Cel.of h41 f42
   have h3 : Cel mg2 r3 [iv 0] := Cel.of h43 f44
   have hc : Cel mg2 c [iv z.1, iv z.2, .map w] := Cel.of h45 f46
   have h47 := (kg2.get mg1.next (by omega) (fun h => h)).trans gd51
   have gd1 := h47
   obtain ⟨bx2, ebx2⟩ : ∃ r, r = m51.next := ⟨_, rfl⟩
   rw [← ebx2] at hbx2 ltbx2
   refine Wp.gen (fun tm2 etm => ?_)
   have t2_2 : getT tm2 2 = .ptr r2 0 := eqb etm (e_base rfl t2_1)
   have t3_2 : getT tm2 3 = .ptr r3 0 := eqb etm (e_base rfl t3_1)
   have t4_2 : getT tm2 4 = .ptr c 0 := eqb etm (e_base rfl t4_1)
   have tf : evalT tm2 (.tmp 23) = .func (.func 134) [] [.ptr bx2 0] := by rw [ebx2]; exact eqb etm (e_hit rfl)
   clear etm
   have wg2 := Kg2.wf
   have gA2 := grew mg2 (.deferred (some []))
   obtain ⟨mA2, eA2⟩ : ∃ mA, mA = mg2.new (.deferred (some [])) := ⟨_, rfl⟩
   rw [← eA2] at gA2
   have gB2 := grew mA2 (Lp.obj (⟨57, 44, tm2, [24, 25], cAt [true, true, true, true, false, true, false, false] (bodyF Tryz.f57), cAt [true, true, true, true, false, true, false, true] (bodyF Tryz.f57), mg2.next⟩ : Lp) .ready none)
   obtain ⟨mB2, eB2⟩ : ∃ mB, mB = mA2.new (Lp.obj (⟨57, 44, tm2, [24, 25], cAt [true, true, true, true, false, true, false, false] (bodyF Tryz.f57), cAt [true, true, true, true, false, true, false, true] (bodyF Tryz.f57), mg2.next⟩ : Lp) .ready none) := ⟨_, rfl⟩
   rw [← eB2] at gB2
   have KA2 := (Kept.refl (S := fun q => mg2.next ≤ q ∨ noS q) wg2).g gA2
   have KB2 := KA2.g gB2
   have nA2 := gA2.next
   have nB2 := gB2.next
   have hmB2 : loopM mg2 ⟨57, 44, false, none⟩ tm2 (#[24, 25] : Array Tmp).toList (cAt [true, true, true, true, false, true, false, false] (bodyF Tryz.f57)) (cAt [true, true, true, true, false, true, false, true] (bodyF Tryz.f57)) = mB2 := by rw [eB2, eA2]; rfl
   have l2_2 := h2.lt wg2
   have l3_2 := h3.lt wg2
   have lc_2 := hc.lt wg2
   have gl2 : mB2.heap.get (mg2.next + 1) = some (Lp.obj (⟨57, 44, tm2, [24, 25], cAt [true, true, true, true, false, true, false, false] (bodyF Tryz.f57), cAt [true, true, true, true, false, true, false, true] (bodyF Tryz.f57), mg2.next⟩ : Lp) .ready none) := by rw [← nA2]; exact gB2.same
   have gd20 : mB2.heap.get mg2.next = some (.deferred (some [])) := (gB2.other _ (by omega)).trans gA2.same
   have RR2 := meas_round2 hfl (m3 := mB2) (l := mg2.next + 1) (d0 := mg2.next) (tm := tm2) (by omega)
   have hcall2 := nodes1_ok hfl (Lv := fun i p => 1 ≤ i ∧ ∃ k : Nat, depN k p ∧ i + k ≤ 13) RR2 (fun i p s s' h1 h2 => ⟨by obtain ⟨h3, k, h4, h5⟩ := h1; omega, fun r hr => ⟨by have := h1.1; omega, by obtain ⟨h3, k, h4, h5⟩ := h1; cases k with | zero => exact h4.elim | succ k => exact ⟨k, h4 r hr, by omega⟩⟩⟩) (n := SizeOf.sizeOf q + 1) q (s := ()) (m := mB2) (bx := bx2) (by omega) KB2.wf (Nat.le_refl _) (Nat.le_refl _) gl2 (hbx2.kept KB2.out (by omega) (fun h => h)) ((hq.kept Kg2).kept KB2) ⟨by decide, vis_depth (by omega) (by decide) hf1⟩
   have hg2 : callTarget Tryz.prog [.ptr bx2 0] (appL [] [.yield (mg2.next + 1)]) (loopM mg2 ⟨57, 44, false, none⟩ tm2 (#[24, 25] : Array Tmp).toList (cAt [true, true, true, true, false, true, false, false] (bodyF Tryz.f57)) (cAt [true, true, true, true, false, true, false, true] (bodyF Tryz.f57))) (.fn (.func 134) #[]) = .enter 134 [.yield (mg2.next + 1), .ptr bx2 0] mB2 := by rw [hmB2]; rfl
   refine w_rangeF (args := []) rfl (by rw [tf]; rfl) hg2 hcall2 ?_ ?_
   ·
    intro vv u m42 hend
    cases hf2 : visN step2 (SizeOf.sizeOf q + 1) 1 q () with
    | go z2 =>
     rw [hf2] at hend
     obtain ⟨_, _, _, eq, k42, _, hl24⟩ := hend
     cases eq
     refine w_after hl24 (by intro h; cases h) ?_
     have gC2 := wrote m42 (mg2.next + 1) (Lp.obj (⟨57, 44, tm2, [24, 25], cAt [true, true, true, true, false, true, false, false] (bodyF Tryz.f57), cAt [true, true, true, true, false, true, false, true] (bodyF Tryz.f57), mg2.next⟩ : Lp) .exhausted none)
     obtain ⟨m52, e52⟩ : ∃ m5, m5 = m42.put (mg2.next + 1) (Lp.obj (⟨57, 44, tm2, [24, 25], cAt [true, true, true, true, false, true, false, false] (bodyF Tryz.f57), cAt [true, true, true, true, false, true, false, true] (bodyF Tryz.f57), mg2.next⟩ : Lp) .exhausted none) := ⟨_, rfl⟩
     rw [← e52] at gC2
     change Wp Tryz.prog fl (At _ _ (sets 44 tm2 []) _ _ _ (m42.put (mg2.next + 1) (Lp.obj (⟨57, 44, tm2, [24, 25], cAt [true, true, true, true, false, true, false, false] (bodyF Tryz.f57), cAt [true, true, true, true, false, true, false, true] (bodyF Tryz.f57), mg2.next⟩ : Lp) .exhausted none))) _
     rw [← e52]
     have gd52 := (gC2.other mg2.next (by omega)).trans ((k42.get mg2.next (by omega) (by first | (rintro (h | h) <;> omega) | (intro h; have : _ = _ := h; omega))).trans gd20)
     have KM2 := (Kg2.then KB2.out (fun _ _ h => h.elim)).then k42 (fun q hq h => by (first | (rcases h with h | h <;> exact Or.inl (by omega)) | (have : q = _ := h; exact Or.inl (by omega))))
     have KN2 := KM2.w gC2 hl24 (fun _ h => by cases h) (Or.inl (by omega))
     have nC2 := gC2.next
     have kC2 := (Kept.wrote KM2.wf gC2 hl24 (fun _ h => by cases h) rfl : Kept (fun q => q = mg2.next + 1) m42 m52)
     have h25 := ((h2.kept KB2.out l2_2 (fun h => h)).kept k42 (by omega) (by first | (rintro (h | h) <;> omega) | (intro h; have : _ = _ := h; omega))).kept kC2 (by omega) (by show ¬ (r2 = _); omega)
     have h35 := ((h3.kept KB2.out l3_2 (fun h => h)).kept k42 (by omega) (by first | (rintro (h | h) <;> omega) | (intro h; have : _ = _ := h; omega))).kept kC2 (by omega) (by show ¬ (r3 = _); omega)
     have hc5 := ((hc.kept KB2.out lc_2 (fun h => h)).kept k42 (by omega) (by first | (rintro (h | h) <;> omega) | (intro h; have : _ = _ := h; omega))).kept kC2 (by omega) (by show ¬ (c = _); omega)
     have gd15 := (gC2.other mg1.next (by omega)).trans ((k42.get mg1.next (by omega) (by first | (rintro (h | h) <;> omega) | (intro h; have : _ = _ := h; omega))).trans ((KB2.out.get mg1.next (by omega) (fun h => h)).trans gd1))
     obtain ⟨⟨eh2, h2r⟩, f2⟩ := h25
     obtain ⟨⟨eh3, h3r⟩, f3⟩ := h35
     obtain ⟨⟨ehc, hcr⟩, fc⟩ := hc5
     have gdx := gd15
     refine gg ?_
     refine s_put0 rfl rfl rfl (o_store (e_hit rfl) (e_base rfl t2_2) h2r f2 sz_75 rfl rfl rfl rfl) (fun m48 g49 => ?_)
     have K51 := KN2.w g49 h2r (fun _ h => by cases h) (Or.inl (by omega))
     have h52 := hxM m48 r3
     have f53 := fxM m48 r3
     refine s_put0 rfl rfl rfl (o_store rfl (e_base rfl t3_2) h52 f53 sz_37 rfl rfl rfl rfl) (fun m54 g55 => ?_)
     have K57 := K51.w g55 h52 (fun _ h => by cases h) (Or.inl (by omega))
     refine gg ?_
     have h58 := hxM m54 r2
     have f60 := fxM m54 r2
     have f61 := fxM m54 r3
     refine w_retAt rfl ?_
     refine Wp.gen (fun tmz etz => ?_)
     rw [show measV q = .tuple [.agg [iv z.1, iv z.2], iv 0] from by simp only [measV, measB, hf1, hf2]]
     exact meas_end_ret hfl (eqb etz (e_base rfl t2_2)) (eqb etz (e_base rfl t3_2)) (by omega) (by omega) (by omega) [mg2.next, mg1.next] _ K57 (by intro b hb; rcases List.mem_cons.1 hb with hb | hb; subst hb; exact ⟨(g55.other _ (by omega)).trans ((g49.other _ (by omega)).trans gd52), by omega, by omega, by omega⟩; simp only [List.mem_singleton] at hb; subst hb; exact ⟨(g55.other _ (by omega)).trans ((g49.other _ (by omega)).trans gdx), by omega, by omega, by omega⟩) (by simp; omega) (Cel.of h58 f60) (Cel.of g55.same f61)
    | stop z => nomatch z
    | fail z => rw [hf2] at hend; obtain ⟨_, _, eq, _⟩ := hend; cases eq
   ·
    intro cx u m42 hend
    cases hf2 : visN step2 (SizeOf.sizeOf q + 1) 1 q () with
    | go z => rw [hf2] at hend; obtain ⟨_, _, _, eq, _⟩ := hend; cases eq
    | stop z => nomatch z
    | fail z =>
     have hz := vis_unf (fun _ _ _ h => step2_unf h) hf2
     rw [hf2] at hend
     obtain ⟨_, _, eq, k42⟩ := hend
     cases eq
     subst hz
     have gd42 := (k42.get mg2.next (by omega) (by first | (rintro (h | h) <;> omega) | (intro h; have : _ = _ := h; omega))).trans gd20
     have KM2 := (Kg2.then KB2.out (fun _ _ h => h.elim)).then k42 (fun q hq h => by (first | (rcases h with h | h <;> exact Or.inl (by omega)) | (have : q = _ := h; exact Or.inl (by omega))))
     have h25 := (h2.kept KB2.out l2_2 (fun h => h)).kept k42 (by omega) (by first | (rintro (h | h) <;> omega) | (intro h; have : _ = _ := h; omega))
     have h35 := (h3.kept KB2.out l3_2 (fun h => h)).kept k42 (by omega) (by first | (rintro (h | h) <;> omega) | (intro h; have : _ = _ := h; omega))
     rw [show measV q = .tuple [.agg [iv 0, iv 0], iv 2] from by simp only [measV, measB, hf1, hf2]]
     have gd14 := (k42.get mg1.next (by omega) (by first | (rintro (h | h) <;> omega) | (intro h; have : _ = _ := h; omega))).trans ((KB2.out.get mg1.next (by omega) (fun h => h)).trans gd1)
     exact meas_end_pan hfl t2_2 t3_2 (by omega) (by omega) (by omega) [mg2.next, mg1.next] _ KM2 (by intro b hb; rcases List.mem_cons.1 hb with hb | hb; subst hb; exact ⟨gd42, by omega, by omega, by omega⟩; simp only [List.mem_singleton] at hb; subst hb; exact ⟨gd14, by omega, by omega, by omega⟩) (by simp; omega) h25 h35
  | stop z => nomatch z
  | fail z => rw [hf1] at hend; obtain ⟨_, _, eq, _⟩ := hend; cases eq
 ·
  intro cx u m41 hend
  cases hf1 : visN step1 (SizeOf.sizeOf q + 1) 1 q (0, 0) with
  | go z => rw [hf1] at hend; obtain ⟨_, _, _, eq, _⟩ := hend; cases eq
  | stop z => nomatch z
  | fail z =>
   have hz := vis_unf (fun _ _ _ h => step1_unf h) hf1
   rw [hf1] at hend
   obtain ⟨_, _, eq, k41⟩ := hend
   cases eq
   subst hz
   have gd41 := (k41.get mg1.next (by omega) (by first | (rintro (h | h) <;> omega) | (intro h; have : _ = _ := h; omega))).trans gd10
   have KM1 := (Kg1.then KB1.out (fun _ _ h => h.elim)).then k41 (fun q hq h => by (first | (rcases h with h | h <;> exact Or.inl (by omega)) | (have : q = _ := h; exact Or.inl (by omega))))
   have h25 := (h2.kept KB1.out l2_1 (fun h => h)).kept k41 (by omega) (by first | (rintro (h | h) <;> omega) | (intro h; have : _ = _ := h; omega))
   have h35 := (h3.kept KB1.out l3_1 (fun h => h)).kept k41 (by omega) (by first | (rintro (h | h) <;> omega) | (intro h; have : _ = _ := h; omega))
   rw [show measV q = .tuple [.agg [iv 0, iv 0], iv 2] from by simp only [measV, measB, hf1]]
   exact meas_end_pan hfl t2_1 t3_1 (by omega) (by omega) (by omega) [mg1.next] _ KM1 (by intro b hb; simp only [List.mem_singleton] at hb; subst hb; exact ⟨gd41, by omega, by omega, by omega⟩) (by simp) h25 h35
end
open Go.RowKit (Below)
set_option maxRecDepth 10000
noncomputable section
variable {fl : Fl} (hfl : Tab fl)
include hfl
omit hfl in
def errB (b : Bool) : Int := if b then 0 else 2
omit hfl in
def sizeB (q : Part) : Int × Int := (measB q).getD (0, 0)
omit hfl in
theorem measV_eq (q : Part) : measV q = .tuple [.agg [iv (sizeB q).1, iv (sizeB q).2], iv (errB (measB q).isSome)] := by
 unfold measV sizeB errB
 cases measB q <;> rfl
theorem tNodes_ok {m : Mem} {op : Int} {s : ByteArray} {av dv kv : AVal} {args : List AEx} {defs : List ACl} {kids : List ATm} (hq : Part.OK m (.tm (.mk op s av dv kv args defs kids))) (hw : Wf m) : CallQ Tryz.prog fl 19 [.agg [iv op, .lit (.string s), av, dv, kv]] m (Rets noS m (.tuple [iv (sizeB (.tm (.mk op s av dv kv args defs kids))).1, iv (errB (measB (.tm (.mk op s av dv kv args defs kids))).isSome)])) := by
 refine hfl.start (by decide) 16 Tryz.func19 rfl rfl (Nat.le_of_ble_eq_true rfl) ?_
 intro bs hb
 have ar0 := hb 0 _ rfl
 clear hb
 have K0 : Kept (fun q => m.next ≤ q ∨ (noS) q) m m := Kept.refl hw
 have cav : isCell av = true := by cases hq with | mk h1 h2 h3 h4 h5 h6 => exact h1.cell
 have cdv : isCell dv = true := by cases hq with | mk h1 h2 h3 h4 h5 h6 => exact h2.cell
 have ckv : isCell kv = true := by cases hq with | mk h1 h2 h3 h4 h5 h6 => exact h3.cell
 refine gg ?_
 refine s_new rfl rfl rfl rfl (o_box (e_base rfl ar0) rfl) (fun m1 g2 => ?_)
 have n3 := g2.next
 have K4 := K0.g g2
 refine gg ?_
 refine s_val rfl rfl rfl rfl (o_loadRowA (e_hit rfl) g2.same tg_33 sz_33 (takeW rfl (ac1 rfl (ac1 rfl (ac1 cav (ac1 cdv (ac1 ckv rfl))))))) ?_
 refine gg ?_
 refine s_val rfl rfl rfl rfl (o_makeI (e_hit rfl) co_79 rfl) ?_
 refine s_callV rfl rfl rfl rfl (o_calls (me1 (e_hit rfl))) ((measV_eq (.tm (.mk op s av dv kv args defs kids))) ▸ measure_ok hfl (.tm (.mk op s av dv kv args defs kids)) (hq.kept K4) K4.wf) (fun m5 k6 => ?_)
 have n7 := k6.next
 have K8 := K4.k k6 (fun _ h => h.elim)
 refine gg ?_
 refine s_new rfl rfl rfl rfl (o_alloc zc_75) (fun m9 g10 => ?_)
 have n11 := g10.next
 have K12 := K8.g g10
 refine s_put0 rfl rfl rfl (o_store (e_hit rfl) (e_hit rfl) g10.same (g10.fam0 K8.wf) sz_75 rfl rfl rfl rfl) (fun m13 g14 => ?_)
 have n15 := g14.next
 have K16 := K12.w g14 g10.same (fun _ h => by cases h) (Or.inl (by omega))
 refine gg ?_
 refine w_retAt rfl ?_
 refine w_results Tryz.func19 (rv2 (e_hit rfl) (e_hit rfl)) ?_
 exact ⟨_, _, rfl, K16.out⟩
theorem tDepth_ok {m : Mem} {op : Int} {s : ByteArray} {av dv kv : AVal} {args : List AEx} {defs : List ACl} {kids : List ATm} (hq : Part.OK m (.tm (.mk op s av dv kv args defs kids))) (hw : Wf m) : CallQ Tryz.prog fl 21 [.agg [iv op, .lit (.string s), av, dv, kv]] m (Rets noS m (.tuple [iv (sizeB (.tm (.mk op s av dv kv args defs kids))).2, iv (errB (measB (.tm (.mk op s av dv kv args defs kids))).isSome)])) := by
 refine hfl.start (by decide) 16 Tryz.func21 rfl rfl (Nat.le_of_ble_eq_true rfl) ?_
 intro bs hb
 have ar0 := hb 0 _ rfl
 clear hb
 have K0 : Kept (fun q => m.next ≤ q ∨ (noS) q) m m := Kept.refl hw
 have cav : isCell av = true := by cases hq with | mk h1 h2 h3 h4 h5 h6 => exact h1.cell
 have cdv : isCell dv = true := by cases hq with | mk h1 h2 h3 h4 h5 h6 => exact h2.cell
 have ckv : isCell kv = true := by cases hq with | mk h1 h2 h3 h4 h5 h6 => exact h3.cell
 refine gg ?_
 refine s_new rfl rfl rfl rfl (o_box (e_base rfl ar0) rfl) (fun m17 g18 => ?_)
 have n19 := g18.next
 have K20 := K0.g g18
 refine gg ?_
 refine s_val rfl rfl rfl rfl (o_loadRowA (e_hit rfl) g18.same tg_33 sz_33 (takeW rfl (ac1 rfl (ac1 rfl (ac1 cav (ac1 cdv (ac1 ckv rfl))))))) ?_
 refine gg ?_
 refine s_val rfl rfl rfl rfl (o_makeI (e_hit rfl) co_79 rfl) ?_
 refine s_callV rfl rfl rfl rfl (o_calls (me1 (e_hit rfl))) ((measV_eq (.tm (.mk op s av dv kv args defs kids))) ▸ measure_ok hfl (.tm (.mk op s av dv kv args defs kids)) (hq.kept K20) K20.wf) (fun m21 k22 => ?_)
 have n23 := k22.next
 have K24 := K20.k k22 (fun _ h => h.elim)
 refine gg ?_
 refine s_new rfl rfl rfl rfl (o_alloc zc_75) (fun m25 g26 => ?_)
 have n27 := g26.next
 have K28 := K24.g g26
 refine s_put0 rfl rfl rfl (o_store (e_hit rfl) (e_hit rfl) g26.same (g26.fam0 K24.wf) sz_75 rfl rfl rfl rfl) (fun m29 g30 => ?_)
 have n31 := g30.next
 have K32 := K28.w g30 g26.same (fun _ h => by cases h) (Or.inl (by omega))
 refine gg ?_
 refine w_retAt rfl ?_
 refine w_results Tryz.func21 (rv2 (e_hit rfl) (e_hit rfl)) ?_
 exact ⟨_, _, rfl, K32.out⟩
theorem tCheck_ok {m : Mem} {op : Int} {s : ByteArray} {av dv kv : AVal} {args : List AEx} {defs : List ACl} {kids : List ATm} (hq : Part.OK m (.tm (.mk op s av dv kv args defs kids))) (hw : Wf m) : CallQ Tryz.prog fl 23 [.agg [iv op, .lit (.string s), av, dv, kv]] m (Rets noS m (iv (errB (measB (.tm (.mk op s av dv kv args defs kids))).isSome))) := by
 refine hfl.start (by decide) 13 Tryz.func23 rfl rfl (Nat.le_of_ble_eq_true rfl) ?_
 intro bs hb
 have ar0 := hb 0 _ rfl
 clear hb
 have K0 : Kept (fun q => m.next ≤ q ∨ (noS) q) m m := Kept.refl hw
 have cav : isCell av = true := by cases hq with | mk h1 h2 h3 h4 h5 h6 => exact h1.cell
 have cdv : isCell dv = true := by cases hq with | mk h1 h2 h3 h4 h5 h6 => exact h2.cell
 have ckv : isCell kv = true := by cases hq with | mk h1 h2 h3 h4 h5 h6 => exact h3.cell
 refine gg ?_
 refine s_new rfl rfl rfl rfl (o_box (e_base rfl ar0) rfl) (fun m33 g34 => ?_)
 have n35 := g34.next
 have K36 := K0.g g34
 refine gg ?_
 refine s_val rfl rfl rfl rfl (o_loadRowA (e_hit rfl) g34.same tg_33 sz_33 (takeW rfl (ac1 rfl (ac1 rfl (ac1 cav (ac1 cdv (ac1 ckv rfl))))))) ?_
 refine gg ?_
 refine s_val rfl rfl rfl rfl (o_makeI (e_hit rfl) co_79 rfl) ?_
 refine s_callV rfl rfl rfl rfl (o_calls (me1 (e_hit rfl))) ((measV_eq (.tm (.mk op s av dv kv args defs kids))) ▸ measure_ok hfl (.tm (.mk op s av dv kv args defs kids)) (hq.kept K36) K36.wf) (fun m37 k38 => ?_)
 have n39 := k38.next
 have K40 := K36.k k38 (fun _ h => h.elim)
 refine gg ?_
 refine s_new rfl rfl rfl rfl (o_alloc zc_75) (fun m41 g42 => ?_)
 have n43 := g42.next
 have K44 := K40.g g42
 refine s_put0 rfl rfl rfl (o_store (e_hit rfl) (e_hit rfl) g42.same (g42.fam0 K40.wf) sz_75 rfl rfl rfl rfl) (fun m45 g46 => ?_)
 have n47 := g46.next
 have K48 := K44.w g46 g42.same (fun _ h => by cases h) (Or.inl (by omega))
 refine gg ?_
 refine w_retAt rfl ?_
 refine w_results Tryz.func23 (rv1 (e_hit rfl)) ?_
 exact ⟨_, _, rfl, K48.out⟩
theorem tCheckExp_ok {m : Mem} {op n : Int} {s : ByteArray} {kv : AVal} {kids : List AEx} (hq : Part.OK m (.ex (.mk op n s kv kids))) (hw : Wf m) : CallQ Tryz.prog fl 25 [.agg [iv op, iv n, .lit (.string s), kv]] m (Rets noS m (iv (errB (measB (.ex (.mk op n s kv kids))).isSome))) := by
 refine hfl.start (by decide) 13 Tryz.func25 rfl rfl (Nat.le_of_ble_eq_true rfl) ?_
 intro bs hb
 have ar0 := hb 0 _ rfl
 clear hb
 have K0 : Kept (fun q => m.next ≤ q ∨ (noS) q) m m := Kept.refl hw
 have ckv : isCell kv = true := by cases hq with | mk h1 h2 => exact h1.cell
 refine gg ?_
 refine s_new rfl rfl rfl rfl (o_box (e_base rfl ar0) rfl) (fun m49 g50 => ?_)
 have n51 := g50.next
 have K52 := K0.g g50
 refine gg ?_
 refine s_val rfl rfl rfl rfl (o_loadRowA (e_hit rfl) g50.same tg_36 sz_36 (takeW rfl (ac1 rfl (ac1 rfl (ac1 rfl (ac1 ckv rfl)))))) ?_
 refine gg ?_
 refine s_val rfl rfl rfl rfl (o_makeI (e_hit rfl) co_85 rfl) ?_
 refine s_callV rfl rfl rfl rfl (o_calls (me1 (e_hit rfl))) ((measV_eq (.ex (.mk op n s kv kids))) ▸ measure_ok hfl (.ex (.mk op n s kv kids)) (hq.kept K52) K52.wf) (fun m53 k54 => ?_)
 have n55 := k54.next
 have K56 := K52.k k54 (fun _ h => h.elim)
 refine gg ?_
 refine s_new rfl rfl rfl rfl (o_alloc zc_75) (fun m57 g58 => ?_)
 have n59 := g58.next
 have K60 := K56.g g58
 refine s_put0 rfl rfl rfl (o_store (e_hit rfl) (e_hit rfl) g58.same (g58.fam0 K56.wf) sz_75 rfl rfl rfl rfl) (fun m61 g62 => ?_)
 have n63 := g62.next
 have K64 := K60.w g62 g58.same (fun _ h => by cases h) (Or.inl (by omega))
 refine gg ?_
 refine w_retAt rfl ?_
 refine w_results Tryz.func25 (rv1 (e_hit rfl)) ?_
 exact ⟨_, _, rfl, K64.out⟩
end
end Go.Proofs.YtjefckdgpbdpeaaGreat
