/- A part of the proof of TermChecks. -/
import Derived.Test.YtjefckdgpbdpeaaGreatTa
namespace Go.Proofs.YtjefckdgpbdpeaaGreat
open Go Go.Abs
open Go.RowKit (Below)
set_option maxRecDepth 10000
noncomputable section
structure AMs where
 text : ByteArray
 nv : AVal
 names : List ByteArray
def strCells (s : ByteArray) : List AVal := [.lit (.string s)]
def AMs.cells (x : AMs) : List AVal := [.lit (.string x.text), x.nv]
def AMs.OK (m : Mem) (x : AMs) : Prop := SlA m x.nv 1 (x.names.map strCells)
theorem AMs.OK.kept {S : Nat → Prop} {m m1 : Mem} {x : AMs} (h : x.OK m) (k : Kept S m m1) : x.OK m1 := SlA.kept h k
abbrev Names := List (ByteArray × Nat) × Nat
def namesF : List ByteArray → Names → Option Names
 | [], st => some st
 | s :: r, st => bif nameB s && !isIn s (keysE st.1) then namesF r (addE s st.1 st.2, addC s st.1 st.2) else none
theorem joins_inner {fl : Fl} (hfl : Tab fl) {c w n : Nat} {x0 y0 : AVal} (hwn : w ≠ n) {nv v1 v4 v7 : AVal} {u12 u13 : AVal} {u14 : AVal} (names : List ByteArray) (k : List AItem) {Q : RR → Prop} {ds : List ADef} {up : Chain} : ∀ (rest pre : List (ByteArray)) (st : Names) {m : Mem} (b : T AVal), names = pre ++ rest → Wf m → Cel m c [x0, y0, .map w] → m.heap.get w = some (.map (ents kwL) 10) → m.heap.get n = some (.map (ents st.1) st.2) → SlA m nv 1 (names.map strCells) → getT b 0 = .ptr c 0 → getT b 1 = v1 → getT b 4 = v4 → getT b 5 = .map n → getT b 7 = v7 → getT b 12 = u12 → getT b 13 = u13 → getT b 14 = u14 → getT b 40 = nv → getT b 41 = goI names.length → getT b 42 = goI pre.length →
  (∀ (st' : Names) (m' : Mem) (b' : T AVal), namesF rest st = some st' → Kept (fun q => q = n) m m' → Cel m' c [x0, y0, .map w] → m'.heap.get w = some (.map (ents kwL) 10) → m'.heap.get n = some (.map (ents st'.1) st'.2) → SlA m' nv 1 (names.map strCells) → getT b' 0 = .ptr c 0 → getT b' 1 = v1 → getT b' 4 = v4 → getT b' 5 = .map n → getT b' 7 = v7 → getT b' 12 = u12 → getT b' 13 = u13 → getT b' 14 = u14 → getT b' 40 = nv → getT b' 41 = goI names.length → Wp Tryz.prog fl (At ⟨163, 60, false, none⟩ k b' ds .run up m') Q) →
  (namesF rest st = none → ∀ (t' : List AItem) (m' : Mem) (b' : T AVal), Kept (fun q => q = n) m m' → Wp Tryz.prog fl (At ⟨163, 60, false, none⟩ t' b' ds (.panicking unfC) up m') Q) → Wp Tryz.prog fl (At ⟨163, 60, false, none⟩ (.code (cAt [true, true, false, false, true, true, false, false, true, true, true, true, false, false] (bodyF Tryz.f163)) :: .inLoop (cAt [true, true, false, false, true, true, false, false, true, true, true, true, false, false] (bodyF Tryz.f163)) :: .inBlock 2 :: k) (sets 60 b []) ds .run up m) Q := by
 intro rest
 induction rest with
 | nil =>
  intro pre st m b hsp hw hc hm hn hsl kf0 kf1 kf4 kf5 kf7 kf12 kf13 kf14 kf40 kf41 hix hk hp
  have K0 : Kept (fun q => m.next ≤ q ∨ (fun q => q = n) q) m m := Kept.refl hw
  have hlt : decide (Int.ofNat pre.length < Int.ofNat (names).length) = false := by rw [dlt]; simp [hsp]
  obtain ⟨⟨ec, hc⟩, fc⟩ := hc
  refine w_seq ?_
  refine w_region rfl ?_
  refine gr ?_
  refine q_nil ?_
  refine w_seq ?_
  refine w_condF (e_hit rfl) hlt ?_
  refine w_exit rfl ?_
  refine Wp.gen (fun b' eb => ?_)
  exact hk st _ b' (by rfl) K0.out (Cel.of hc fc) hm hn (hsl.kept K0) (eqb eb (e_base rfl kf0)) (eqb eb (e_base rfl kf1)) (eqb eb (e_base rfl kf4)) (eqb eb (e_base rfl kf5)) (eqb eb (e_base rfl kf7)) (eqb eb (e_base rfl kf12)) (eqb eb (e_base rfl kf13)) (eqb eb (e_base rfl kf14)) (eqb eb (e_base rfl kf40)) (eqb eb (e_base rfl kf41))
 | cons x rest ih =>
  intro pre st m b hsp hw hc hm hn hsl kf0 kf1 kf4 kf5 kf7 kf12 kf13 kf14 kf40 kf41 hix hk hp
  have K0 : Kept (fun q => m.next ≤ q ∨ (fun q => q = n) q) m m := Kept.refl hw
  have hlt : decide (Int.ofNat pre.length < Int.ofNat (names).length) = true := by rw [dlt]; simp [hsp]
  have hln : pre.length + 1 < 2 ^ 62 := by have := hsl.lt; simp [hsp] at this; omega
  obtain ⟨r, off, cc, ex, row, hv, hlx, hr, htk⟩ := hsl.at (i := pre.length) (e := strCells x) (by simp [hsp])
  subst hv
  have ltc := hc.lt hw
  obtain ⟨⟨ec, hc⟩, fc⟩ := hc
  have ltw := hw.lt hm
  have ltn := hw.lt hn
  have nwn : w ≠ n := hwn
  have ncn : c ≠ n := by rintro rfl; simp_all
  refine gg ?_
  refine s_val rfl rfl rfl rfl (o_indexAddr (e_base rfl kf40) (e_base rfl hix) el_22 (by simpa using hlx)) ?_
  refine s_val rfl rfl rfl rfl (o_loadRo1 (e_hit rfl) hr tg_9 sz_9 htk) ?_
  refine gg ?_
  refine s_callV rfl rfl rfl rfl (o_calls (me2 (e_hit rfl) (e_hit rfl))) (named_ok hfl (Cel.of hc fc) hm _ K0.wf) (fun m1 k2 => ?_)
  have n3 := k2.next
  have K4 := K0.k k2 (fun _ h => h.elim)
  refine gg ?_
  refine s_guardS rfl rfl (e_hit rfl) (fun c5 => ?_) (fun c5 => ?_)
  ·
   refine gg ?_
   have h6 := hxM m1 n
   refine s_val rfl (g_onH rfl rfl (e_hit rfl) c5) rfl rfl (o_lookupB (e_hit rfl) (e_hit rfl) h6 mk_70 u9 tz4) ?_
   refine gg ?_
   refine s_step rfl rfl rfl rfl (o_calls (me1 (e_hit rfl))) (demand_ok hfl _ K4.wf) (fun c11 m7 k9 p12 => ?_) (fun c11 m8 k10 => ?_)
   ·
    have K14 := K4.k k9 (fun _ h => h.elim)
    refine gg ?_
    have h15 := hxM m7 n
    refine s_put0 rfl rfl rfl (o_updateB (e_hit rfl) (e_hit rfl) rfl h15 mk_70 u9) (fun m16 g17 => ?_)
    have K19 := K14.w g17 h15 (fun _ h => by cases h) (Or.inr rfl)
    refine gg ?_
    have e : namesF (x :: rest) st = namesF rest (addE x st.1 st.2, addC x st.1 st.2) := by simp [namesF, c5, c11]
    refine w_inLoop ?_
    refine Wp.gen (fun b' eb => ?_)
    have h24 := hxM m16 c
    have f27 := fxM m16 c
    have h30 := hxM m16 w
    exact ih (pre ++ [x]) _ b' (by simp [hsp]) K19.wf (Cel.of h24 f27) h30 g17.same (hsl.kept K19) (eqb eb (e_base rfl kf0)) (eqb eb (e_base rfl kf1)) (eqb eb (e_base rfl kf4)) (eqb eb (e_base rfl kf5)) (eqb eb (e_base rfl kf7)) (eqb eb (e_base rfl kf12)) (eqb eb (e_base rfl kf13)) (eqb eb (e_base rfl kf14)) (eqb eb (e_base rfl kf40)) (eqb eb (e_base rfl kf41)) (eqb eb ((e_hit rfl).trans (by rw [List.length_append]; rfl))) (fun st' m' b' h hk' => hk st' m' b' (e.trans h) (K19.out.trans hk')) (fun h t' m' b' hk' => hp (e.trans h) t' m' b' (K19.out.trans hk'))
   ·
    have K32 := K4.k k10 (fun _ h => h.elim)
    exact hp (by simp [namesF, c5, c11]) _ _ _ K32.out
  ·
   refine gg ?_
   refine s_step rfl rfl rfl rfl (o_calls (me1 (e_hit rfl))) (demand_ok hfl _ K4.wf) (fun c37 m33 k35 p38 => ?_) (fun c37 m34 k36 => ?_)
   ·
    exact absurd c37 (by decide)
   ·
    have K40 := K4.k k36 (fun _ h => h.elim)
    exact hp (by simp [namesF, c5]) _ _ _ K40.out
def joinsF : List AMs → Names × Names → Option (Names × Names)
 | [], st => some st
 | x :: r, st => bif (nameB x.text && !isIn x.text (keysE st.1.1)) && decide (Int.ofNat x.names.length ≤ 3) then (match namesF x.names st.2 with
  | some nm => joinsF r ((addE x.text st.1.1 st.1.2, addC x.text st.1.1 st.1.2), nm)
  | none => none) else none
theorem joins_outer {fl : Fl} (hfl : Tab fl) {c w n p : Nat} {x0 y0 : AVal} (hwn : w ≠ n ∧ w ≠ p ∧ n ≠ p) {jv v1 : AVal} (js : List AMs) (k : List AItem) {Q : RR → Prop} {ds : List ADef} {up : Chain} : ∀ (rest pre : List (AMs)) (st : Names × Names) {m : Mem} (b : T AVal), js = pre ++ rest → Wf m → Cel m c [x0, y0, .map w] → m.heap.get w = some (.map (ents kwL) 10) → m.heap.get n = some (.map (ents st.2.1) st.2.2) → m.heap.get p = some (.map (ents st.1.1) st.1.2) → SlA m jv 2 (js.map AMs.cells) → (∀ y ∈ js, AMs.OK m y) → getT b 0 = .ptr c 0 → getT b 1 = v1 → getT b 4 = .map p → getT b 5 = .map n → getT b 12 = jv → getT b 13 = goI js.length → getT b 14 = goI pre.length →
  (∀ (st' : Names × Names) (m' : Mem) (b' : T AVal), joinsF rest st = some st' → Kept (fun q => q = n ∨ q = p) m m' → Cel m' c [x0, y0, .map w] → m'.heap.get w = some (.map (ents kwL) 10) → m'.heap.get n = some (.map (ents st'.2.1) st'.2.2) → m'.heap.get p = some (.map (ents st'.1.1) st'.1.2) → SlA m' jv 2 (js.map AMs.cells) → (∀ y ∈ js, AMs.OK m' y) → getT b' 0 = .ptr c 0 → getT b' 1 = v1 → getT b' 4 = .map p → getT b' 5 = .map n → getT b' 12 = jv → getT b' 13 = goI js.length → Wp Tryz.prog fl (At ⟨163, 60, false, none⟩ k b' ds .run up m') Q) →
  (joinsF rest st = none → ∀ (t' : List AItem) (m' : Mem) (b' : T AVal), Kept (fun q => q = n ∨ q = p) m m' → Wp Tryz.prog fl (At ⟨163, 60, false, none⟩ t' b' ds (.panicking unfC) up m') Q) → Wp Tryz.prog fl (At ⟨163, 60, false, none⟩ (.code (cAt [true, true, false, false] (bodyF Tryz.f163)) :: .inLoop (cAt [true, true, false, false] (bodyF Tryz.f163)) :: .inBlock 0 :: k) (sets 60 b []) ds .run up m) Q := by
 intro rest
 induction rest with
 | nil =>
  intro pre st m b hsp hw hc hm hn hp0 hsl hok kf0 kf1 kf4 kf5 kf12 kf13 hix hk hp
  have K0 : Kept (fun q => m.next ≤ q ∨ (fun q => q = n ∨ q = p) q) m m := Kept.refl hw
  have hlt : decide (Int.ofNat pre.length < Int.ofNat (js).length) = false := by rw [dlt]; simp [hsp]
  obtain ⟨⟨ec, hc⟩, fc⟩ := hc
  refine w_seq ?_
  refine w_region rfl ?_
  refine gr ?_
  refine q_nil ?_
  refine w_seq ?_
  refine w_condF (e_hit rfl) hlt ?_
  refine w_exit rfl ?_
  refine Wp.gen (fun b' eb => ?_)
  exact hk st _ b' (by rfl) K0.out (Cel.of hc fc) hm hn hp0 (hsl.kept K0) (fun y hy => (hok y hy).kept K0) (eqb eb (e_base rfl kf0)) (eqb eb (e_base rfl kf1)) (eqb eb (e_base rfl kf4)) (eqb eb (e_base rfl kf5)) (eqb eb (e_base rfl kf12)) (eqb eb (e_base rfl kf13))
 | cons x rest ih =>
  intro pre st m b hsp hw hc hm hn hp0 hsl hok kf0 kf1 kf4 kf5 kf12 kf13 hix hk hp
  have K0 : Kept (fun q => m.next ≤ q ∨ (fun q => q = n ∨ q = p) q) m m := Kept.refl hw
  have hlt : decide (Int.ofNat pre.length < Int.ofNat (js).length) = true := by rw [dlt]; simp [hsp]
  have hln : pre.length + 1 < 2 ^ 62 := by have := hsl.lt; simp [hsp] at this; omega
  obtain ⟨r, off, cc, ex, row, hv, hlx, hr, htk⟩ := hsl.at (i := pre.length) (e := AMs.cells x) (by simp [hsp])
  subst hv
  have hx : SlA m x.nv 1 (x.names.map strCells) := hok x (by simp [hsp])
  have hxl : ∀ {m' : Mem}, lenSl m' x.nv = .val (goI x.names.length) m' := by intro m'; have := hx.len (m' := m'); rwa [List.length_map] at this
  have hxc := hx.cell
  have ltc := hc.lt hw
  obtain ⟨⟨ec, hc⟩, fc⟩ := hc
  have ltw := hw.lt hm
  have ltp := hw.lt hp0
  have ltn := hw.lt hn
  have nwn : w ≠ n := hwn.1
  have nwp : w ≠ p := hwn.2.1
  have nnp : n ≠ p := hwn.2.2
  have ncn : c ≠ n := by rintro rfl; simp_all
  have ncp : c ≠ p := by rintro rfl; simp_all
  have nrc : r ≠ c := by rintro rfl; simp_all
  have nrw : r ≠ w := by rintro rfl; simp_all
  have nrp : r ≠ p := by rintro rfl; simp_all
  have nrn : r ≠ n := by rintro rfl; simp_all
  refine gg ?_
  refine s_val rfl rfl rfl rfl (o_indexAddr (e_base rfl kf12) (e_base rfl hix) el_116 (by simpa using hlx)) ?_
  refine s_val rfl rfl rfl rfl (o_loadRoA (e_hit rfl) hr tg_126 sz_126 htk) ?_
  refine s_new rfl rfl rfl rfl (o_alloc zc_126) (fun m41 g42 => ?_)
  have n43 := g42.next
  have K44 := K0.g g42
  refine s_put0 rfl rfl rfl (o_store (e_hit rfl) (e_hit rfl) g42.same (g42.fam0 K0.wf) sz_126 rfl rfl (ac1 rfl (ac1 hxc rfl)) rfl) (fun m45 g46 => ?_)
  have n47 := g46.next
  have K48 := K44.w g46 g42.same (fun _ h => by cases h) (Or.inl (by omega))
  refine gg ?_
  have h50 := hxM m45 c
  have f52 := fxM m45 c
  have h53 := (g42.other w (by omega)).trans hm
  have h54 := (g46.other w (by omega)).trans h53
  refine s_callV rfl rfl rfl rfl (o_calls (me2 (e_hit rfl) (e_hit rfl))) (named_ok hfl (Cel.of h50 f52) h54 _ K48.wf) (fun m55 k56 => ?_)
  have n57 := k56.next
  have K58 := K48.k k56 (fun _ h => h.elim)
  refine gg ?_
  refine s_guardS rfl rfl (e_hit rfl) (fun c59 => ?_) (fun c59 => ?_)
  ·
   refine gg ?_
   have h60 := (k56.get m.next (by omega) (fun h => h)).trans g46.same
   refine gg ?_
   have h61 := (g42.other p (by omega)).trans hp0
   have h62 := (g46.other p (by omega)).trans h61
   have h63 := (k56.get p (by omega) (fun h => h)).trans h62
   refine s_val rfl (g_onH rfl rfl (e_hit rfl) c59) rfl rfl (o_lookupB (e_hit rfl) (e_hit rfl) h63 mk_70 u9 tz4) ?_
   refine gg ?_
   refine s_guardS rfl rfl (e_hit rfl) (fun c64 => ?_) (fun c64 => ?_)
   ·
    refine gg ?_
    refine s_step rfl rfl rfl rfl (o_calls (me1 (e_hit rfl))) (demand_ok hfl _ K58.wf) (fun c69 m65 k67 p70 => ?_) (fun c69 m66 k68 => ?_)
    ·
     have n71 := k67.next
     have K72 := K58.k k67 (fun _ h => h.elim)
     refine gg ?_
     have h73 := (k67.get m.next (by omega) (fun h => h)).trans h60
     refine gg ?_
     have h74 := (k67.get p (by omega) (fun h => h)).trans h63
     refine s_put0 rfl rfl rfl (o_updateB (e_hit rfl) (e_hit rfl) rfl h74 mk_70 u9) (fun m75 g76 => ?_)
     have n77 := g76.next
     have K78 := K72.w g76 h74 (fun _ h => by cases h) (Or.inr (Or.inr rfl))
     have f79 := (g42.famo p).trans rfl
     have f80 := (g46.famo p).trans f79
     refine gg ?_
     refine gg ?_
     refine w_loop ?_
     refine Wp.gen (fun b0 eb => ?_)
     have h86 := hxM m75 c
     have f89 := fxM m75 c
     have h92 := hxM m75 w
     have h97 := hxM m75 n
     refine joins_inner hfl nwn x.names _ _ [] st.2 b0 (by rfl) K78.wf (Cel.of h86 f89) h92 h97 (hx.kept K78) (eqb eb (e_base rfl kf0)) (eqb eb (e_base rfl kf1)) (eqb eb (e_base rfl kf4)) (eqb eb (e_base rfl kf5)) (eqb eb (e_hit rfl)) (eqb eb (e_base rfl kf12)) (eqb eb (e_base rfl kf13)) (eqb eb (e_base rfl hix)) (eqb eb (e_hit rfl)) (eqb eb (e_hit rfl)) (eqb eb (e_hit rfl)) ?_ ?_
     ·
      intro st102 m98 b101 c100 k99 q103 q104 q105 q106 e107 e108 e109 e110 e111 e112 e113 e114 e115 e116
      change Wp Tryz.prog fl (At _ _ (sets 60 b101 []) _ _ _ _) _
      have K118 := K78.k k99 (fun _ h => Or.inr (Or.inl h))
      refine gg ?_
      have e : joinsF (x :: rest) st = joinsF rest ((addE x.text st.1.1 st.1.2, addC x.text st.1.1 st.1.2), st102) := by simp only [joinsF, c59, c64, c69, c100, Bool.and_true, cond_true]
      refine w_inLoop ?_
      refine Wp.gen (fun b' eb => ?_)
      have h119 := (k99.get c (by omega) (by show ¬ (c = n); omega)).trans h86
      have f120 := (k99.fam c (by omega) (by show ¬ (c = n); omega)).trans f89
      have h121 := (k99.get w (by omega) (by show ¬ (w = n); omega)).trans h92
      have h122 := (k99.get p (by omega) (by show ¬ (p = n); omega)).trans g76.same
      exact ih (pre ++ [x]) _ b' (by simp [hsp]) K118.wf (Cel.of h119 f120) h121 q105 h122 (hsl.kept K118) (fun y hy => (hok y hy).kept K118) (eqb eb (e_base rfl e107)) (eqb eb (e_base rfl e108)) (eqb eb (e_base rfl e109)) (eqb eb (e_base rfl e110)) (eqb eb (e_base rfl e112)) (eqb eb (e_base rfl e113)) (eqb eb ((e_hit rfl).trans (by rw [List.length_append]; rfl))) (fun st' m' b' h hk' => hk st' m' b' (e.trans h) (K118.out.trans hk')) (fun h t' m' b' hk' => hp (e.trans h) t' m' b' (K118.out.trans hk'))
     ·
      intro c125 _ m123 _ k124
      have K127 := K78.k k124 (fun _ h => Or.inr (Or.inl h))
      exact hp (by simp [joinsF, c59, c64, c125]) _ _ _ K127.out
    ·
     have K129 := K58.k k68 (fun _ h => h.elim)
     exact hp (by simp only [joinsF, c59, c64, c69, Bool.and_true, Bool.and_false, cond_false]) _ _ _ K129.out
   ·
    refine gg ?_
    refine s_step rfl rfl rfl rfl (o_calls (me1 (e_hit rfl))) (demand_ok hfl _ K58.wf) (fun c134 m130 k132 p135 => ?_) (fun c134 m131 k133 => ?_)
    ·
     exact absurd c134 (by decide)
    ·
     have K137 := K58.k k133 (fun _ h => h.elim)
     exact hp (by simp [joinsF, c59, c64]) _ _ _ K137.out
  ·
   refine gg ?_
   refine s_step rfl rfl rfl rfl (o_calls (me1 (e_hit rfl))) (demand_ok hfl _ K58.wf) (fun c142 m138 k140 p143 => ?_) (fun c142 m139 k141 => ?_)
   ·
    exact absurd c142 (by decide)
   ·
    have K145 := K58.k k141 (fun _ h => h.elim)
    exact hp (by simp [joinsF, c59]) _ _ _ K145.out
end
open Go.RowKit (Below)
set_option maxRecDepth 10000
noncomputable section
variable {fl : Fl} (hfl : Tab fl)
include hfl
theorem joins_ok {m : Mem} {c w : Nat} {x y : AVal} (hc : Cel m c [x, y, .map w]) (hm : m.heap.get w = some (.map (ents kwL) 10)) (js : List AMs) {jv : AVal} (hsl : SlA m jv 2 (js.map AMs.cells)) (hok : ∀ y ∈ js, AMs.OK m y) (hw : Wf m) : CallQ Tryz.prog fl 163 [.ptr c 0, jv] m (StepQ noS m (joinsF js (([], 0), ([], 0))).isSome (fun _ => True)) := by
 refine hfl.start (by decide) 60 Tryz.func163 rfl rfl (Nat.le_of_ble_eq_true rfl) ?_
 intro bs hb
 have ar0 := hb 0 _ rfl
 have ar1 := hb 1 _ rfl
 clear hb
 have K0 : Kept (fun q => m.next ≤ q ∨ (noS) q) m m := Kept.refl hw
 have ltc := hc.lt hw
 obtain ⟨⟨ec, hc⟩, fc⟩ := hc
 have ltw := hw.lt hm
 have hsll : ∀ {m' : Mem}, lenSl m' jv = .val (goI js.length) m' := by intro m'; have := hsl.len (m' := m'); rwa [List.length_map] at this
 refine gg ?_
 refine s_new rfl rfl rfl rfl o_makeMap0 (fun m1 g2 => ?_)
 have n3 := g2.next
 have K4 := K0.g g2
 refine s_new rfl rfl rfl rfl o_makeMap0 (fun m5 g6 => ?_)
 have n7 := g6.next
 have K8 := K4.g g6
 refine gg ?_
 refine w_loop ?_
 refine Wp.gen (fun b0 eb => ?_)
 have h9 := (g2.other c (by omega)).trans hc
 have h10 := (g6.other c (by omega)).trans h9
 have f11 := (g2.famo c).trans fc
 have f12 := (g6.famo c).trans f11
 have h13 := (g2.other w (by omega)).trans hm
 have h14 := (g6.other w (by omega)).trans h13
 have h15 := (g6.other m.next (by omega)).trans g2.same
 refine joins_outer hfl (p := m.next) (n := m1.next) ⟨by omega, by omega, by omega⟩ js _ _ [] (([], 0), ([], 0)) b0 (by rfl) K8.wf (Cel.of h10 f12) h14 g6.same h15 (hsl.kept K8) (fun y hy => (hok y hy).kept K8) (eqb eb (e_base rfl ar0)) (eqb eb (e_base rfl ar1)) (eqb eb (e_hit rfl)) (eqb eb (e_hit rfl)) (eqb eb (e_hit rfl)) (eqb eb (e_hit rfl)) (eqb eb (e_hit rfl)) ?_ ?_
 ·
  intro st1 m9 b9 hf k9 _ _ _ _ _ _ _ _ _ _ _ _
  have K9 := K8.k k9 (fun q h => Or.inl (by rcases h with h | h <;> omega))
  refine w_fall rfl ?_
  refine w_results Tryz.func163 rv0 ?_
  exact .inl ⟨by rw [hf]; rfl, _, _, rfl, K9.out, trivial⟩
 ·
  intro hf _ m9 _ k9
  have K9 := K8.k k9 (fun q h => Or.inl (by rcases h with h | h <;> omega))
  refine w_panics ?_
  exact .inr ⟨by rw [hf]; rfl, _, _, rfl, K9.out⟩
omit hfl in
def clauseB (form : Int) (s : ByteArray) (js : List AMs) (nd nk : Int) : Bool :=
 (if form == 1 then agrB (nonE s) 0 (Int.ofNat js.length) nd nk false 0 (min (max (Int.ofNat js.length) 1) 3) 0 1 s
 else if form == 2 then agrB (nonE s) 0 (Int.ofNat js.length) nd nk true 0 0 (min (max nd 0) 5) 1 s
 else false) && (joinsF js (([], 0), ([], 0))).isSome
theorem clause_ok {m : Mem} {c w : Nat} {x y : AVal} (hc : Cel m c [x, y, .map w]) (hm : m.heap.get w = some (.map (ents kwL) 10)) (js : List AMs) {jv : AVal} (hsl : SlA m jv 2 (js.map AMs.cells)) (hok : ∀ y ∈ js, AMs.OK m y) (form : Int) (s : ByteArray) {dv kv : AVal} {de ke : List (List AVal)} (hd : SlA m dv 5 de) (hk : SlA m kv 5 ke) (hw : Wf m) : CallQ Tryz.prog fl 139 [.ptr c 0, .agg [iv form, .lit (.string s), jv, dv, kv]] m (StepQ noS m (clauseB form s js (Int.ofNat de.length) (Int.ofNat ke.length)) (fun _ => True)) := by
 refine hfl.start (by decide) 47 Tryz.func139 rfl rfl (Nat.le_of_ble_eq_true rfl) ?_
 intro bs hb
 have ar0 := hb 0 _ rfl
 have ar1 := hb 1 _ rfl
 clear hb
 have K0 : Kept (fun q => m.next ≤ q ∨ (noS) q) m m := Kept.refl hw
 have ltc := hc.lt hw
 obtain ⟨⟨ec, hc⟩, fc⟩ := hc
 have ltw := hw.lt hm
 have hsll : ∀ {m' : Mem}, lenSl m' jv = .val (goI js.length) m' := by intro m'; have := hsl.len (m' := m'); rwa [List.length_map] at this
 have chsl := hsl.cell
 have chd := hd.cell
 have chk := hk.cell
 refine gg ?_
 refine s_new rfl rfl rfl rfl (o_box (e_base rfl ar1) rfl) (fun m16 g17 => ?_)
 have n18 := g17.next
 have K19 := K0.g g17
 refine gg ?_
 refine s_new rfl rfl rfl rfl (o_alloc zc_218) (fun m20 g21 => ?_)
 have n22 := g21.next
 have K23 := K19.g g21
 refine gg ?_
 have h24 := (g21.other m.next (by omega)).trans g17.same
 refine gg ?_
 refine w_cond (e_hit rfl) (fun c25 => ?_) (fun c25 => ?_)
 ·
  refine gg ?_
  refine s_callV rfl rfl rfl rfl (o_calls (me3 (e_hit rfl) rfl rfl)) (within_ok hfl _ _ _ K23.wf) (fun m26 k27 => ?_)
  have n28 := k27.next
  have K29 := K23.k k27 (fun _ h => h.elim)
  refine gg ?_
  have h30 := (k27.get m16.next (by omega) (fun h => h)).trans g21.same
  have f31 := (k27.fam m16.next (by omega) (fun h => h)).trans (g21.fam0 K19.wf)
  refine s_put0 rfl rfl rfl (o_store (e_hit rfl) (e_hit rfl) h30 f31 sz_218 rfl rfl rfl rfl) (fun m32 g33 => ?_)
  have n34 := g33.next
  have K35 := K29.w g33 h30 (fun _ h => by cases h) (Or.inl (by omega))
  refine gg ?_
  have h36 := (k27.get m.next (by omega) (fun h => h)).trans h24
  have h37 := (g33.other m.next (by omega)).trans h36
  refine gg ?_
  refine s_new rfl rfl rfl rfl (o_alloc zc_218) (fun m38 g39 => ?_)
  have n40 := g39.next
  have K41 := K35.g g39
  refine s_put0 rfl rfl rfl (o_store (e_hit rfl) (e_hit rfl) g39.same (g39.fam0 K35.wf) sz_218 rfl rfl rfl rfl) (fun m42 g43 => ?_)
  have n44 := g43.next
  have K45 := K41.w g43 g39.same (fun _ h => by cases h) (Or.inl (by omega))
  refine gg ?_
  have h46 := (g39.other m16.next (by omega)).trans g33.same
  refine gg ?_
  have h48 := (g39.other m.next (by omega)).trans h37
  have h49 := (g43.other m.next (by omega)).trans h48
  refine gg ?_
  have h50 := (g17.other c (by omega)).trans hc
  have h51 := (g21.other c (by omega)).trans h50
  have h52 := (k27.get c (by omega) (fun h => h)).trans h51
  have h53 := (g33.other c (by omega)).trans h52
  have h54 := (g39.other c (by omega)).trans h53
  have h55 := (g43.other c (by omega)).trans h54
  have f56 := (g17.famo c).trans fc
  have f57 := (g21.famo c).trans f56
  have f58 := (k27.fam c (by omega) (fun h => h)).trans f57
  have f59 := (g33.famo c).trans f58
  have f60 := (g39.famo c).trans f59
  have f61 := (g43.famo c).trans f60
  have h62 := (g17.other w (by omega)).trans hm
  have h63 := (g21.other w (by omega)).trans h62
  have h64 := (k27.get w (by omega) (fun h => h)).trans h63
  have h65 := (g33.other w (by omega)).trans h64
  have h66 := (g39.other w (by omega)).trans h65
  have h67 := (g43.other w (by omega)).trans h66
  refine s_step rfl rfl rfl rfl (o_calls (me4 (e_hit rfl) (e_hit rfl) (e_hit rfl) (e_hit rfl))) (agree_ok hfl (Cel.of h55 f61) h67 _ _ _ _ _ _ _ _ _ _ _ K45.wf) (fun c72 m68 k70 p73 => ?_) (fun c72 m69 k71 => ?_)
  ·
   have K75 := K45.k k70 (fun _ h => h.elim)
   refine gg ?_
   refine gg ?_
   have h77 := (k70.get c (by omega) (fun h => h)).trans h55
   have f78 := (k70.fam c (by omega) (fun h => h)).trans f61
   have h79 := (k70.get w (by omega) (fun h => h)).trans h67
   refine s_step rfl rfl rfl rfl (o_calls (me2 (e_hit rfl) (e_hit rfl))) (joins_ok hfl (Cel.of h77 f78) h79 js (hsl.kept K75) (fun y hy => (hok y hy).kept K75) K75.wf) (fun c84 m80 k82 p85 => ?_) (fun c84 m81 k83 => ?_)
   ·
    have K87 := K75.k k82 (fun _ h => h.elim)
    refine gg ?_
    refine w_fall rfl ?_
    refine w_results Tryz.func139 rv0 ?_
    exact .inl ⟨(by simp only [clauseB, nonE, c25, c72, c84, Bool.and_true, if_true]), _, _, rfl, K87.out, trivial⟩
   ·
    have K89 := K75.k k83 (fun _ h => h.elim)
    refine w_panics ?_
    exact .inr ⟨(by simp [clauseB, nonE, c25, c84]), _, _, rfl, K89.out⟩
  ·
   have K91 := K45.k k71 (fun _ h => h.elim)
   refine w_panics ?_
   exact .inr ⟨(by simp only [clauseB, nonE, c25, c72, Bool.false_and, if_true]), _, _, rfl, K91.out⟩
 ·
  refine gg ?_
  refine w_cond (e_hit rfl) (fun c92 => ?_) (fun c92 => ?_)
  ·
   refine gg ?_
   refine s_callV rfl rfl rfl rfl (o_calls (me3 (e_hit rfl) rfl rfl)) (within_ok hfl _ _ _ K23.wf) (fun m93 k94 => ?_)
   have n95 := k94.next
   have K96 := K23.k k94 (fun _ h => h.elim)
   refine gg ?_
   have h97 := (k94.get m16.next (by omega) (fun h => h)).trans g21.same
   have f98 := (k94.fam m16.next (by omega) (fun h => h)).trans (g21.fam0 K19.wf)
   refine s_put0 rfl rfl rfl (o_store (e_hit rfl) (e_hit rfl) h97 f98 sz_218 rfl rfl rfl rfl) (fun m99 g100 => ?_)
   have n101 := g100.next
   have K102 := K96.w g100 h97 (fun _ h => by cases h) (Or.inl (by omega))
   refine gg ?_
   have h103 := (k94.get m.next (by omega) (fun h => h)).trans h24
   have h104 := (g100.other m.next (by omega)).trans h103
   refine gg ?_
   refine s_new rfl rfl rfl rfl (o_alloc zc_218) (fun m105 g106 => ?_)
   have n107 := g106.next
   have K108 := K102.g g106
   refine s_put0 rfl rfl rfl (o_store (e_hit rfl) (e_hit rfl) g106.same (g106.fam0 K102.wf) sz_218 rfl rfl rfl rfl) (fun m109 g110 => ?_)
   have n111 := g110.next
   have K112 := K108.w g110 g106.same (fun _ h => by cases h) (Or.inl (by omega))
   refine gg ?_
   have h113 := (g106.other m16.next (by omega)).trans g100.same
   refine gg ?_
   have h115 := (g106.other m.next (by omega)).trans h104
   have h116 := (g110.other m.next (by omega)).trans h115
   refine gg ?_
   have h117 := (g17.other c (by omega)).trans hc
   have h118 := (g21.other c (by omega)).trans h117
   have h119 := (k94.get c (by omega) (fun h => h)).trans h118
   have h120 := (g100.other c (by omega)).trans h119
   have h121 := (g106.other c (by omega)).trans h120
   have h122 := (g110.other c (by omega)).trans h121
   have f123 := (g17.famo c).trans fc
   have f124 := (g21.famo c).trans f123
   have f125 := (k94.fam c (by omega) (fun h => h)).trans f124
   have f126 := (g100.famo c).trans f125
   have f127 := (g106.famo c).trans f126
   have f128 := (g110.famo c).trans f127
   have h129 := (g17.other w (by omega)).trans hm
   have h130 := (g21.other w (by omega)).trans h129
   have h131 := (k94.get w (by omega) (fun h => h)).trans h130
   have h132 := (g100.other w (by omega)).trans h131
   have h133 := (g106.other w (by omega)).trans h132
   have h134 := (g110.other w (by omega)).trans h133
   refine s_step rfl rfl rfl rfl (o_calls (me4 (e_hit rfl) (e_hit rfl) (e_hit rfl) (e_hit rfl))) (agree_ok hfl (Cel.of h122 f128) h134 _ _ _ _ _ _ _ _ _ _ _ K112.wf) (fun c139 m135 k137 p140 => ?_) (fun c139 m136 k138 => ?_)
   ·
    have K142 := K112.k k137 (fun _ h => h.elim)
    refine gg ?_
    refine gg ?_
    have h144 := (k137.get c (by omega) (fun h => h)).trans h122
    have f145 := (k137.fam c (by omega) (fun h => h)).trans f128
    have h146 := (k137.get w (by omega) (fun h => h)).trans h134
    refine s_step rfl rfl rfl rfl (o_calls (me2 (e_hit rfl) (e_hit rfl))) (joins_ok hfl (Cel.of h144 f145) h146 js (hsl.kept K142) (fun y hy => (hok y hy).kept K142) K142.wf) (fun c151 m147 k149 p152 => ?_) (fun c151 m148 k150 => ?_)
    ·
     have K154 := K142.k k149 (fun _ h => h.elim)
     refine gg ?_
     refine w_fall rfl ?_
     refine w_results Tryz.func139 rv0 ?_
     exact .inl ⟨(by simp only [clauseB, nonE, c25, c92, c139, c151, Bool.and_true, if_true, if_false, Bool.false_eq_true]), _, _, rfl, K154.out, trivial⟩
    ·
     have K156 := K142.k k150 (fun _ h => h.elim)
     refine w_panics ?_
     exact .inr ⟨(by simp [clauseB, nonE, c25, c92, c151]), _, _, rfl, K156.out⟩
   ·
    have K158 := K112.k k138 (fun _ h => h.elim)
    refine w_panics ?_
    exact .inr ⟨(by simp only [clauseB, nonE, c25, c92, c139, Bool.false_and, if_true, if_false, Bool.false_eq_true]), _, _, rfl, K158.out⟩
  ·
   refine gg ?_
   refine s_val rfl rfl rfl rfl (o_makeI (e_hit rfl) co_133 rfl) ?_
   refine q_panic rfl rfl (o_panic (e_hit rfl) rfl) ?_
   refine w_panics ?_
   exact .inr ⟨(by simp [clauseB, c25, c92]), _, _, rfl, K23.out⟩
end
open Go.RowKit (Below)
set_option maxRecDepth 10000
noncomputable section
inductive AEx where
 | mk (op n : Int) (text : ByteArray) (kv : AVal) (kids : List AEx)
mutual
inductive ATm where
 | mk (op : Int) (text : ByteArray) (av dv kv : AVal) (args : List AEx) (defs : List ACl) (kids : List ATm)
inductive ACl where
 | mk (form : Int) (text : ByteArray) (jv dv kv : AVal) (joins : List AMs) (defs : List ACl) (kids : List ATm)
end
def AEx.cells : AEx → List AVal
 | .mk op n s kv _ => [iv op, iv n, .lit (.string s), kv]
def ATm.cells : ATm → List AVal
 | .mk op s av dv kv _ _ _ => [iv op, .lit (.string s), av, dv, kv]
def ACl.cells : ACl → List AVal
 | .mk f s jv dv kv _ _ _ => [iv f, .lit (.string s), jv, dv, kv]
inductive AEx.OK (m : Mem) : AEx → Prop where
 | mk {op n : Int} {s : ByteArray} {kv : AVal} {kids : List AEx} : SlA m kv 4 (kids.map AEx.cells) → (∀ k, k ∈ kids → AEx.OK m k) → AEx.OK m (.mk op n s kv kids)
mutual
inductive ATm.OK (m : Mem) : ATm → Prop where
 | mk {op : Int} {s : ByteArray} {av dv kv : AVal} {args : List AEx} {defs : List ACl} {kids : List ATm} : SlA m av 4 (args.map AEx.cells) → SlA m dv 5 (defs.map ACl.cells) → SlA m kv 5 (kids.map ATm.cells) →
   (∀ k, k ∈ args → AEx.OK m k) → (∀ k, k ∈ defs → ACl.OK m k) → (∀ k, k ∈ kids → ATm.OK m k) → ATm.OK m (.mk op s av dv kv args defs kids)
inductive ACl.OK (m : Mem) : ACl → Prop where
 | mk {f : Int} {s : ByteArray} {jv dv kv : AVal} {joins : List AMs} {defs : List ACl} {kids : List ATm} : SlA m jv 2 (joins.map AMs.cells) → SlA m dv 5 (defs.map ACl.cells) → SlA m kv 5 (kids.map ATm.cells) →
   (∀ k, k ∈ joins → AMs.OK m k) → (∀ k, k ∈ defs → ACl.OK m k) → (∀ k, k ∈ kids → ATm.OK m k) → ACl.OK m (.mk f s jv dv kv joins defs kids)
end
theorem AEx.OK.kept {S : Nat → Prop} {m m1 : Mem} (k : Kept S m m1) : ∀ {e : AEx}, e.OK m → e.OK m1
 | _, .mk h1 h2 => .mk (h1.kept k) (fun x hx => (h2 x hx).kept k)
mutual
theorem ATm.OK.kept {S : Nat → Prop} {m m1 : Mem} (k : Kept S m m1) : ∀ {e : ATm}, e.OK m → e.OK m1
 | _, .mk h1 h2 h3 h4 h5 h6 => .mk (h1.kept k) (h2.kept k) (h3.kept k) (fun x hx => (h4 x hx).kept k) (fun x hx => (h5 x hx).kept k) (fun x hx => (h6 x hx).kept k)
theorem ACl.OK.kept {S : Nat → Prop} {m m1 : Mem} (k : Kept S m m1) : ∀ {e : ACl}, e.OK m → e.OK m1
 | _, .mk h1 h2 h3 h4 h5 h6 => .mk (h1.kept k) (h2.kept k) (h3.kept k) (fun x hx => (h4 x hx).kept k) (fun x hx => (h5 x hx).kept k) (fun x hx => (h6 x hx).kept k)
end
inductive Part where
 | ex (e : AEx)
 | cl (c : ACl)
 | tm (t : ATm)
def Part.cells : Part → List AVal
 | .ex e => e.cells
 | .cl c => c.cells
 | .tm t => t.cells
def Part.val : Part → AVal
 | .ex e => .iface 85 (.agg e.cells)
 | .cl c => .iface 189 (.agg c.cells)
 | .tm t => .iface 79 (.agg t.cells)
def Part.OK (m : Mem) : Part → Prop
 | .ex e => e.OK m
 | .cl c => c.OK m
 | .tm t => t.OK m
theorem Part.OK.kept {S : Nat → Prop} {m m1 : Mem} (k : Kept S m m1) {p : Part} (h : p.OK m) : p.OK m1 := by
 cases p with
 | ex e => exact AEx.OK.kept k h
 | cl c => exact ACl.OK.kept k h
 | tm t => exact ATm.OK.kept k h
def Part.subs : Part → List Part
 | .ex (.mk _ _ _ _ kids) => kids.map .ex
 | .cl (.mk _ _ _ _ _ _ defs kids) => defs.map .cl ++ kids.map .tm
 | .tm (.mk _ _ _ _ _ args defs kids) => args.map .ex ++ (defs.map .cl ++ kids.map .tm)
theorem Part.OK.subs {m : Mem} {p : Part} (h : p.OK m) : ∀ q, q ∈ p.subs → q.OK m := by
 intro q hq
 cases p with
 | ex e =>
  cases h with
  | mk h1 h2 =>
   obtain ⟨x, hx, rfl⟩ := List.mem_map.1 hq
   exact h2 x hx
 | cl c =>
  cases h with
  | mk h1 h2 h3 h4 h5 h6 =>
   rcases List.mem_append.1 hq with hq | hq
   ·obtain ⟨x, hx, rfl⟩ := List.mem_map.1 hq
    exact h5 x hx
   ·obtain ⟨x, hx, rfl⟩ := List.mem_map.1 hq
    exact h6 x hx
 | tm t =>
  cases h with
  | mk h1 h2 h3 h4 h5 h6 =>
   rcases List.mem_append.1 hq with hq | hq
   ·obtain ⟨x, hx, rfl⟩ := List.mem_map.1 hq
    exact h4 x hx
   ·rcases List.mem_append.1 hq with hq | hq
    ·obtain ⟨x, hx, rfl⟩ := List.mem_map.1 hq
     exact h5 x hx
    ·obtain ⟨x, hx, rfl⟩ := List.mem_map.1 hq
     exact h6 x hx
def lookB : Part → Bool
 | .ex (.mk op n s _ kids) => exprB op n s (Int.ofNat kids.length)
 | .cl (.mk f s _ _ _ joins defs kids) => clauseB f s joins (Int.ofNat defs.length) (Int.ofNat kids.length)
 | .tm (.mk op s _ _ _ args defs kids) => procB op s (Int.ofNat args.length) (Int.ofNat defs.length) (Int.ofNat kids.length)
variable {fl : Fl} (hfl : Tab fl)
include hfl
theorem look_tm {m : Mem} {c w : Nat} {x y : AVal} (hc : Cel m c [x, y, .map w]) (hm : m.heap.get w = some (.map (ents kwL) 10)) {op : Int} {s : ByteArray} {av dv kv : AVal} {args : List AEx} {defs : List ACl} {kids : List ATm} (ha : SlA m av 4 (args.map AEx.cells)) (hd : SlA m dv 5 (defs.map ACl.cells)) (hk : SlA m kv 5 (kids.map ATm.cells)) (hw : Wf m) : CallQ Tryz.prog fl 96 [.ptr c 0, .iface 79 (.agg [iv op, .lit (.string s), av, dv, kv])] m (StepQ noS m (procB op s (Int.ofNat args.length) (Int.ofNat defs.length) (Int.ofNat kids.length)) (fun _ => True)) := by
 refine hfl.start (by decide) 29 Tryz.func96 rfl rfl (Nat.le_of_ble_eq_true rfl) ?_
 intro bs hb
 have ar0 := hb 0 _ rfl
 have ar1 := hb 1 _ rfl
 clear hb
 have K0 : Kept (fun q => m.next ≤ q ∨ (noS) q) m m := Kept.refl hw
 have ltc := hc.lt hw
 obtain ⟨⟨ec, hc⟩, fc⟩ := hc
 have ltw := hw.lt hm
 have cha := ha.cell
 have chd := hd.cell
 have chk := hk.cell
 refine gg ?_
 refine s_val rfl rfl rfl rfl (o_assertT (e_hit rfl) fit_79_79 if_79) ?_
 refine gg ?_
 refine s_new rfl rfl rfl rfl (o_alloc zc_79) (fun m1 g2 => ?_)
 have n3 := g2.next
 have K4 := K0.g g2
 refine s_put0 rfl rfl rfl (o_store (e_hit rfl) (e_hit rfl) g2.same (g2.fam0 K0.wf) sz_79 rfl rfl (ac1 rfl (ac1 rfl (ac1 cha (ac1 chd (ac1 chk rfl))))) rfl) (fun m5 g6 => ?_)
 have n7 := g6.next
 have K8 := K4.w g6 g2.same (fun _ h => by cases h) (Or.inl (by omega))
 refine gg ?_
 refine s_val rfl rfl rfl rfl (o_loadRowA (e_hit rfl) g6.same tg_33 sz_33 (takeW rfl (ac1 rfl (ac1 rfl (ac1 cha (ac1 chd (ac1 chk rfl))))))) ?_
 have h10 := hxM m5 c
 have f12 := fxM m5 c
 have h14 := hxM m5 w
 refine s_step rfl rfl rfl rfl (o_calls (me2 (e_hit rfl) (e_hit rfl))) (process_ok hfl (Cel.of h10 f12) h14 _ _ (ha.kept K8) (hd.kept K8) (hk.kept K8) K8.wf) (fun c19 m15 k17 p20 => ?_) (fun c19 m16 k18 => ?_)
 ·
  have K22 := K8.k k17 (fun _ h => h.elim)
  refine gg ?_
  refine w_fall rfl ?_
  refine w_results Tryz.func96 rv0 ?_
  exact .inl ⟨by simpa only [List.length_map] using c19, _, _, rfl, K22.out, trivial⟩
 ·
  have K24 := K8.k k18 (fun _ h => h.elim)
  refine w_panics ?_
  exact .inr ⟨by simpa only [List.length_map] using c19, _, _, rfl, K24.out⟩
theorem look_ex {m : Mem} {c w : Nat} {x y : AVal} (hc : Cel m c [x, y, .map w]) (hm : m.heap.get w = some (.map (ents kwL) 10)) {op n : Int} {s : ByteArray} {kv : AVal} {kids : List AEx} (hk : SlA m kv 4 (kids.map AEx.cells)) (hw : Wf m) : CallQ Tryz.prog fl 96 [.ptr c 0, .iface 85 (.agg [iv op, iv n, .lit (.string s), kv])] m (StepQ noS m (exprB op n s (Int.ofNat kids.length)) (fun _ => True)) := by
 refine hfl.start (by decide) 29 Tryz.func96 rfl rfl (Nat.le_of_ble_eq_true rfl) ?_
 intro bs hb
 have ar0 := hb 0 _ rfl
 have ar1 := hb 1 _ rfl
 clear hb
 have K0 : Kept (fun q => m.next ≤ q ∨ (noS) q) m m := Kept.refl hw
 have ltc := hc.lt hw
 obtain ⟨⟨ec, hc⟩, fc⟩ := hc
 have ltw := hw.lt hm
 have chk := hk.cell
 refine gg ?_
 refine s_val rfl rfl rfl rfl (o_assertF (e_hit rfl) fit_79_85 tz_79) ?_
 refine gg ?_
 refine s_val rfl rfl rfl rfl (o_assertT (e_hit rfl) fit_85_85 if_85) ?_
 refine gg ?_
 refine s_new rfl rfl rfl rfl (o_alloc zc_85) (fun m25 g26 => ?_)
 have n27 := g26.next
 have K28 := K0.g g26
 refine s_put0 rfl rfl rfl (o_store (e_hit rfl) (e_hit rfl) g26.same (g26.fam0 K0.wf) sz_85 rfl rfl (ac1 rfl (ac1 rfl (ac1 rfl (ac1 chk rfl)))) rfl) (fun m29 g30 => ?_)
 have n31 := g30.next
 have K32 := K28.w g30 g26.same (fun _ h => by cases h) (Or.inl (by omega))
 refine gg ?_
 refine s_val rfl rfl rfl rfl (o_loadRowA (e_hit rfl) g30.same tg_36 sz_36 (takeW rfl (ac1 rfl (ac1 rfl (ac1 rfl (ac1 chk rfl)))))) ?_
 have h34 := hxM m29 c
 have f36 := fxM m29 c
 have h38 := hxM m29 w
 refine s_step rfl rfl rfl rfl (o_calls (me2 (e_hit rfl) (e_hit rfl))) (expression_ok hfl (Cel.of h34 f36) h38 _ _ _ (hk.kept K32) K32.wf) (fun c43 m39 k41 p44 => ?_) (fun c43 m40 k42 => ?_)
 ·
  have K46 := K32.k k41 (fun _ h => h.elim)
  refine gg ?_
  refine w_fall rfl ?_
  refine w_results Tryz.func96 rv0 ?_
  exact .inl ⟨by simpa only [List.length_map] using c43, _, _, rfl, K46.out, trivial⟩
 ·
  have K48 := K32.k k42 (fun _ h => h.elim)
  refine w_panics ?_
  exact .inr ⟨by simpa only [List.length_map] using c43, _, _, rfl, K48.out⟩
theorem look_cl {m : Mem} {c w : Nat} {x y : AVal} (hc : Cel m c [x, y, .map w]) (hm : m.heap.get w = some (.map (ents kwL) 10)) {f : Int} {s : ByteArray} {jv dv kv : AVal} {js : List AMs} {defs : List ACl} {kids : List ATm} (hj : SlA m jv 2 (js.map AMs.cells)) (hok : ∀ y ∈ js, AMs.OK m y) (hd : SlA m dv 5 (defs.map ACl.cells)) (hk : SlA m kv 5 (kids.map ATm.cells)) (hw : Wf m) : CallQ Tryz.prog fl 96 [.ptr c 0, .iface 189 (.agg [iv f, .lit (.string s), jv, dv, kv])] m (StepQ noS m (clauseB f s js (Int.ofNat defs.length) (Int.ofNat kids.length)) (fun _ => True)) := by
 refine hfl.start (by decide) 29 Tryz.func96 rfl rfl (Nat.le_of_ble_eq_true rfl) ?_
 intro bs hb
 have ar0 := hb 0 _ rfl
 have ar1 := hb 1 _ rfl
 clear hb
 have K0 : Kept (fun q => m.next ≤ q ∨ (noS) q) m m := Kept.refl hw
 have ltc := hc.lt hw
 obtain ⟨⟨ec, hc⟩, fc⟩ := hc
 have ltw := hw.lt hm
 have chj := hj.cell
 have chd := hd.cell
 have chk := hk.cell
 refine gg ?_
 refine s_val rfl rfl rfl rfl (o_assertF (e_hit rfl) fit_79_189 tz_79) ?_
 refine gg ?_
 refine s_val rfl rfl rfl rfl (o_assertF (e_hit rfl) fit_85_189 tz_85) ?_
 refine gg ?_
 refine s_val rfl rfl rfl rfl (o_assertT (e_hit rfl) fit_189_189 if_189) ?_
 refine gg ?_
 refine s_new rfl rfl rfl rfl (o_alloc zc_189) (fun m49 g50 => ?_)
 have n51 := g50.next
 have K52 := K0.g g50
 refine s_put0 rfl rfl rfl (o_store (e_hit rfl) (e_hit rfl) g50.same (g50.fam0 K0.wf) sz_189 rfl rfl (ac1 rfl (ac1 rfl (ac1 chj (ac1 chd (ac1 chk rfl))))) rfl) (fun m53 g54 => ?_)
 have n55 := g54.next
 have K56 := K52.w g54 g50.same (fun _ h => by cases h) (Or.inl (by omega))
 refine gg ?_
 refine s_val rfl rfl rfl rfl (o_loadRowA (e_hit rfl) g54.same tg_118 sz_118 (takeW rfl (ac1 rfl (ac1 rfl (ac1 chj (ac1 chd (ac1 chk rfl))))))) ?_
 have h58 := hxM m53 c
 have f60 := fxM m53 c
 have h62 := hxM m53 w
 refine s_step rfl rfl rfl rfl (o_calls (me2 (e_hit rfl) (e_hit rfl))) (clause_ok hfl (Cel.of h58 f60) h62 _ (hj.kept K56) (fun y hy => (hok y hy).kept K56) _ _ (hd.kept K56) (hk.kept K56) K56.wf) (fun c67 m63 k65 p68 => ?_) (fun c67 m64 k66 => ?_)
 ·
  have K70 := K56.k k65 (fun _ h => h.elim)
  refine gg ?_
  refine w_fall rfl ?_
  refine w_results Tryz.func96 rv0 ?_
  exact .inl ⟨by simpa only [List.length_map] using c67, _, _, rfl, K70.out, trivial⟩
 ·
  have K72 := K56.k k66 (fun _ h => h.elim)
  refine w_panics ?_
  exact .inr ⟨by simpa only [List.length_map] using c67, _, _, rfl, K72.out⟩
theorem look_ok {m : Mem} {c w : Nat} {x y : AVal} (hc : Cel m c [x, y, .map w]) (hm : m.heap.get w = some (.map (ents kwL) 10)) (p : Part) (hp : p.OK m) (hw : Wf m) : CallQ Tryz.prog fl 96 [.ptr c 0, p.val] m (StepQ noS m (lookB p) (fun _ => True)) := by
 cases p with
 | ex e => cases hp with | mk h1 h2 => exact look_ex hfl hc hm h1 hw
 | cl e => cases hp with | mk h1 h2 h3 h4 h5 h6 => exact look_cl hfl hc hm h1 h4 h2 h3 hw
 | tm e => cases hp with | mk h1 h2 h3 h4 h5 h6 => exact look_tm hfl hc hm h1 h2 h3 hw
end
open Go.RowKit (Below)
set_option maxRecDepth 10000
noncomputable section
def BelL {α : Type} (fl : Fl) (cs : α → List AVal) (pt : α → Part) (sz f nt ix : Nat) (c : Code) (j : Nat) (w2 : Bool) : Prop :=
 ∀ {ok : Part → Mem → Prop} {σ τ : Type} {l : Nat} {L : Lp} {S : Nat → Prop} {B : Nat} {I : σ → Mem → Prop} {J : τ → Mem → Prop} {pe : τ → Code} {step : σ → Part → St σ τ}, RoundOK Tryz.prog fl l L S B I J pe (fun q => [q.val]) ok step → (∀ q m m', ok q m → Kept (fun q => B ≤ q) m m' → ok q m') → (∀ q m m', ok q m → Kept S m m' → ok q m') → (∀ q m, ok q m → q.OK m) → ∀ (r2 : Nat) (X : Mem → Prop), (∀ m m', Wf m → X m → Kept S m m' → X m') → ∀ (all : List Part) {kv : AVal} (els : List α), (∀ x, x ∈ els → pt x ∈ all) → ∀ (k : List AItem) {Q : RR → Prop} {up : Chain} (rest pre : List α) (s : σ) {m : Mem} (b : T AVal), els = pre ++ rest → Wf m → B ≤ m.next → I s m → m.heap.get l = some (L.obj .ready none) → SlA m kv sz (els.map cs) → X m → (∀ q, q ∈ all → ok q m) → getT b 1 = .yield l → (w2 = true → getT b 2 = .ptr r2 0) → getT b ix = kv → getT b (ix + 1) = goI els.length → getT b (ix + 2) = goI pre.length →
  (∀ (s' : σ) (m' : Mem) (b' : T AVal), foldSt step s (rest.map pt) = .go s' → Kept S m m' → I s' m' → m'.heap.get l = some (L.obj .ready none) → SlA m' kv sz (els.map cs) → X m' → (∀ q, q ∈ all → ok q m') → getT b' 1 = .yield l → (w2 = true → getT b' 2 = .ptr r2 0) → getT b' ix = kv → getT b' (ix + 1) = goI els.length → Wp Tryz.prog fl (At ⟨f, nt, false, none⟩ k b' [] .run up m') Q) →
  (∀ (t : τ) (m' : Mem) (b' : T AVal), foldSt step s (rest.map pt) = .stop t → Kept S m m' → J t m' → m'.heap.get l = some (L.obj .done (some (pe t))) → Wp Tryz.prog fl (At ⟨f, nt, false, none⟩ [] b' [] .returning up m') Q) →
  (∀ (c : Chain) (t' : List AItem) (m' : Mem) (b' : T AVal), foldSt step s (rest.map pt) = .fail c → Kept S m m' → Wp Tryz.prog fl (At ⟨f, nt, false, none⟩ t' b' [] (.panicking c) up m') Q) → Wp Tryz.prog fl (At ⟨f, nt, false, none⟩ (.code c :: .inLoop c :: .inBlock j :: k) (sets nt b []) [] .run up m) Q
theorem bel_all {fl : Fl} (hfl : Tab fl) : BelL fl AEx.cells Part.ex 4 205 21 8 (cAt [true, true, false, false] (bodyF Tryz.f205)) 0 false ∧
  BelL fl ACl.cells Part.cl 5 208 38 10 (cAt [true, false, true, false, false] (bodyF Tryz.f208)) 0 true ∧
  BelL fl ATm.cells Part.tm 5 208 38 25 (cAt [true, true, true, false, false] (bodyF Tryz.f208)) 2 false ∧
  BelL fl AEx.cells Part.ex 4 202 55 12 (cAt [true, false, true, false, false] (bodyF Tryz.f202)) 0 true ∧
  BelL fl ACl.cells Part.cl 5 202 55 27 (cAt [true, true, false, true, false, false] (bodyF Tryz.f202)) 2 true ∧
  BelL fl ATm.cells Part.tm 5 202 55 42 (cAt [true, true, true, true, false, false] (bodyF Tryz.f202)) 4 false := by
 have _ := hfl
 refine ⟨?_, ?_, ?_, ?_, ?_, ?_⟩ <;> unfold BelL <;> (
 intro ok σ τ l L S B I J pe step hR hok hok' hokc r2 X hX all kv els hin k Q up rest
 induction rest with
 | nil =>
  intro pre s m b hsp hw hBm hI hl hsl h2 hall kf1 kf2 kf3 kf4 hix hk hs hp
  have hlt : decide (Int.ofNat pre.length < Int.ofNat els.length) = false := by rw [dlt]; simp [hsp]
  refine w_seq ?_
  refine w_region rfl ?_
  refine gr ?_
  refine q_nil ?_
  refine w_seq ?_
  refine w_condF v0 hlt ?_
  refine w_exit rfl ?_
  refine Wp.gen (fun b' eb => ?_)
  exact hk s _ b' rfl (Kept.refl hw) hI hl hsl h2 hall (eqb eb (e_base rfl kf1)) (fun h => eqb eb (e_base rfl (kf2 h))) (eqb eb (e_base rfl kf3)) (eqb eb (e_base rfl kf4))
 | cons x rest ih =>
  intro pre s m b hsp hw hBm hI hl hsl h2 hall kf1 kf2 kf3 kf4 hix hk hs hp
  have K : Kept (fun q => m.next ≤ q ∨ noS q) m m := Kept.refl hw
  have llt : l < B := hR.low l hR.here
  have hlt : decide (Int.ofNat pre.length < Int.ofNat els.length) = true := by rw [dlt]; simp [hsp]
  have hln := hsl.lnT hsp
  have hsl0 := hsl
  obtain ⟨r, off, cc, ex, row, hv, hlx, hr, htk⟩ := hsl.here hsp
  subst hv
  have hxall := hin x (by simp [hsp])
  have hxo := hokc _ _ (hall _ hxall)
  rcases x with ⟨⟩
  cases hxo
  refine gg ?_
  refine s_val rfl rfl rfl rfl (o_indexAddr (e_base rfl kf3) (e_base rfl hix) ElF.h (by simpa using hlx)) ?_
  refine s_val rfl rfl rfl rfl (o_loadRoA v0 hr (TyF.h (s := _)) (TyF.z (g := true)) htk) ?_
  refine s_new rfl rfl rfl rfl (o_alloc ZcF.h) (fun m1 g => ?_)
  have n := g.next
  have f := g.fam0 K.wf
  have K := K.g g
  refine s_put0 rfl rfl rfl (o_store v0 v0 g.same f (TyF.z (g := true)) rfl rfl (by repeat first | rfl | refine ac1 (by first | rfl | exact SlA.cell (by assumption)) ?_) rfl) (fun m2 g2 => ?_)
  have n := g2.next
  have K := K.w g2 g.same (fun _ h => by cases h) (Or.inl (by omega))
  refine gg ?_
  refine s_val rfl rfl rfl rfl (o_loadRowA v0 g2.same (TyF.h (s := _)) (TyF.z (g := true)) (takeW rfl (by repeat first | rfl | refine ac1 (by first | rfl | exact SlA.cell (by assumption)) ?_))) ?_
  refine gg ?_
  refine s_val rfl rfl rfl rfl (o_makeI v0 (by first | exact co_85 | exact co_189 | exact co_79) rfl) ?_
  have kb : Kept (fun q => B ≤ q) m m2 := K.out.mono (fun _ _ h => h.elim)
  refine s_yield hR (s := s) rfl rfl rfl rfl v0 (me1 v0) K.wf (by omega) (hR.stab s m _ hI kb) (hok _ _ _ (hall _ hxall) kb) ((K.out.get l (by omega) (fun h => h)).trans hl) ?_ ?_ ?_
  ·intro s' e m9 k9 hI9 hl9
   have n9 := k9.next
   have K9 : Kept S m m9 := (K.out.mono (fun _ _ h => h.elim)).trans k9
   refine gg ?_
   refine w_inLoop ?_
   refine Wp.gen (fun b' eb => ?_)
   exact ih (pre ++ [_]) s' b' (by simp only [List.append_assoc, List.singleton_append]; exact hsp) K9.wf (by have := K9.next; omega) hI9 hl9 (hsl0.kept K9) (hX _ _ hw h2 K9) (fun q hq => hok' q _ _ (hall q hq) K9) (eqb eb (e_base rfl kf1)) (fun h => eqb eb (e_base rfl (kf2 h))) (eqb eb (e_base rfl kf3)) (eqb eb (e_base rfl kf4)) (eqb eb ((e_hit rfl).trans (by rw [List.length_append]; rfl))) (fun st' m' b' h hk' => hk st' m' b' (by simp only [List.map_cons, foldSt, e]; exact h) (K9.trans hk')) (fun t m' b' h hk' => hs t m' b' (by simp only [List.map_cons, foldSt, e]; exact h) (K9.trans hk')) (fun c t' m' b' h hk' => hp c t' m' b' (by simp only [List.map_cons, foldSt, e]; exact h) (K9.trans hk'))
  ·intro t e m9 k9 hJ9 hl9
   have K9 : Kept S m m9 := (K.out.mono (fun _ _ h => h.elim)).trans k9
   refine gg ?_
   refine w_retAt rfl ?_
   exact hs t _ _ (by simp only [List.map_cons, foldSt, e]) K9 hJ9 hl9
  ·intro c e m9 k9
   have K9 : Kept S m m9 := (K.out.mono (fun _ _ h => h.elim)).trans k9
   exact hp c _ _ _ (by simp only [List.map_cons, foldSt, e]) K9)
end
open Go.RowKit (Below)
set_option maxRecDepth 10000
noncomputable section
variable {fl : Fl} (hfl : Tab fl)
include hfl
theorem below_ex {m : Mem} {op n : Int} {tx : ByteArray} {kv : AVal} {kids : List AEx} (hk : SlA m kv 4 (kids.map AEx.cells)) {ok : Part → Mem → Prop} {σ τ : Type} {l : Nat} {L : Lp} {S : Nat → Prop} {B : Nat} {I : σ → Mem → Prop} {J : τ → Mem → Prop} {pe : τ → Code} {step : σ → Part → St σ τ} (hR : RoundOK Tryz.prog fl l L S B I J pe (fun q => [q.val]) ok step) (hok : ∀ q m m', ok q m → Kept (fun q => B ≤ q) m m' → ok q m') (hok' : ∀ q m m', ok q m → Kept S m m' → ok q m') (hokc : ∀ q m, ok q m → q.OK m) {s : σ} (hB : B ≤ m.next) (hI : I s m) (hl : m.heap.get l = some (L.obj .ready none)) (subs : List Part) (hsubs : subs = Part.subs (.ex (.mk op n tx kv kids))) (hall : ∀ q, q ∈ subs → ok q m) (hw : Wf m) : CallQ Tryz.prog fl 205 [.agg [iv op, iv n, .lit (.string tx), kv], .yield l] m (EndC l L S I J pe m (foldSt step s subs)) := by
 refine hfl.start (by decide) 21 Tryz.func205 rfl rfl (Nat.le_of_ble_eq_true rfl) ?_
 intro bs hb
 have ar0 := hb 0 _ rfl
 have ar1 := hb 1 _ rfl
 clear hb
 have K0 : Kept (fun q => m.next ≤ q ∨ (noS) q) m m := Kept.refl hw
 have llt : l < B := hR.low l hR.here
 have hin0 : ∀ x, x ∈ kids → Part.ex x ∈ subs := by intro x hx; rw [hsubs]; simp [Part.subs, hx]
 have chk := hk.cell
 have hkl : ∀ {m' : Mem}, lenSl m' kv = .val (goI kids.length) m' := by intro m'; have := hk.len (m' := m'); rwa [List.length_map] at this
 refine gg ?_
 refine s_new rfl rfl rfl rfl (o_box (e_base rfl ar0) rfl) (fun m1 g2 => ?_)
 have n3 := g2.next
 have K4 := K0.g g2
 refine gg ?_
 refine w_loop ?_
 refine Wp.gen (fun b0 eb => ?_)
 have kb : Kept (fun q => B ≤ q) m m1 := K4.out.mono (fun _ _ h => h.elim)
 refine (bel_all hfl).1 hR hok hok' hokc 0 (fun _ => True) (fun _ _ _ _ _ => trivial) subs kids (hin0) _ _ [] s b0 (by rfl) K4.wf (by omega) (hR.stab _ m _ hI kb) ((K4.out.get l (by omega) (fun h => h)).trans hl) (hk.kept K4) trivial (fun q hq => hok _ _ _ (hall q hq) kb) (eqb eb (e_base rfl ar1)) (fun h => by cases h) (eqb eb (e_hit rfl)) (eqb eb (e_hit rfl)) (eqb eb (e_hit rfl)) ?_ ?_ ?_
 ·
  intro s0 mm0 b0 hf0 k0 hI0 hl0 hsl0 _ hall0 y0_1 _ y0_8 y0_9
  change Wp Tryz.prog fl (At _ _ (sets 21 b0 []) _ _ _ _) _
  have KS0 : Kept S m mm0 := (K4.out.mono (fun _ _ h => h.elim) : Kept S m m1).trans k0
  refine w_fall rfl ?_
  refine w_results Tryz.func205 rv0 ?_
  have e : foldSt step s subs = .go s0 := by simp only [hsubs, Part.subs, hf0]
  rw [e]; exact ⟨_, _, _, rfl, KS0, hI0, hl0⟩
 ·
  intro t mm b9 hf k hJ hl9
  have KS : Kept S m mm := (K4.out.mono (fun _ _ h => h.elim) : Kept S m m1).trans k
  refine w_results Tryz.func205 rv0 ?_
  have e : foldSt step s subs = .stop t := by simp only [hsubs, Part.subs, hf]
  rw [e]; exact ⟨_, _, _, rfl, KS, hJ, hl9⟩
 ·
  intro c t' mm b9 hf k
  have KS : Kept S m mm := (K4.out.mono (fun _ _ h => h.elim) : Kept S m m1).trans k
  refine w_panics ?_
  have e : foldSt step s subs = .fail c := by simp only [hsubs, Part.subs, hf]
  rw [e]; exact ⟨_, _, rfl, KS⟩
theorem below_cl {m : Mem} {f0 : Int} {tx : ByteArray} {jv dv kv : AVal} {joins : List AMs} {defs : List ACl} {kids : List ATm} (cj : isCell jv = true) (hd : SlA m dv 5 (defs.map ACl.cells)) (hk : SlA m kv 5 (kids.map ATm.cells)) {ok : Part → Mem → Prop} {σ τ : Type} {l : Nat} {L : Lp} {S : Nat → Prop} {B : Nat} {I : σ → Mem → Prop} {J : τ → Mem → Prop} {pe : τ → Code} {step : σ → Part → St σ τ} (hR : RoundOK Tryz.prog fl l L S B I J pe (fun q => [q.val]) ok step) (hok : ∀ q m m', ok q m → Kept (fun q => B ≤ q) m m' → ok q m') (hok' : ∀ q m m', ok q m → Kept S m m' → ok q m') (hokc : ∀ q m, ok q m → q.OK m) {s : σ} (hB : B ≤ m.next) (hI : I s m) (hl : m.heap.get l = some (L.obj .ready none)) (subs : List Part) (hsubs : subs = Part.subs (.cl (.mk f0 tx jv dv kv joins defs kids))) (hall : ∀ q, q ∈ subs → ok q m) (hw : Wf m) : CallQ Tryz.prog fl 208 [.agg [iv f0, .lit (.string tx), jv, dv, kv], .yield l] m (EndC l L S I J pe m (foldSt step s subs)) := by
 refine hfl.start (by decide) 38 Tryz.func208 rfl rfl (Nat.le_of_ble_eq_true rfl) ?_
 intro bs hb
 have ar0 := hb 0 _ rfl
 have ar1 := hb 1 _ rfl
 clear hb
 have K0 : Kept (fun q => m.next ≤ q ∨ (noS) q) m m := Kept.refl hw
 have llt : l < B := hR.low l hR.here
 have hin0 : ∀ x, x ∈ defs → Part.cl x ∈ subs := by intro x hx; rw [hsubs]; simp [Part.subs, hx]
 have hin1 : ∀ x, x ∈ kids → Part.tm x ∈ subs := by intro x hx; rw [hsubs]; simp [Part.subs, hx]
 have chd := hd.cell
 have hdl : ∀ {m' : Mem}, lenSl m' dv = .val (goI defs.length) m' := by intro m'; have := hd.len (m' := m'); rwa [List.length_map] at this
 have chk := hk.cell
 have hkl : ∀ {m' : Mem}, lenSl m' kv = .val (goI kids.length) m' := by intro m'; have := hk.len (m' := m'); rwa [List.length_map] at this
 refine gg ?_
 refine s_new rfl rfl rfl rfl (o_box (e_base rfl ar0) rfl) (fun m5 g6 => ?_)
 have n7 := g6.next
 have K8 := K0.g g6
 refine gg ?_
 refine w_loop ?_
 refine Wp.gen (fun b0 eb => ?_)
 have kb : Kept (fun q => B ≤ q) m m5 := K8.out.mono (fun _ _ h => h.elim)
 refine (bel_all hfl).2.1 hR hok hok' hokc m.next (fun m' => Cel m' m.next [_, _, _, _, _]) (fun _ _ hw h k => h.kept k (h.lt hw) (fun h => by have := hR.low _ h; omega)) subs defs (hin0) _ _ [] s b0 (by rfl) K8.wf (by omega) (hR.stab _ m _ hI kb) ((K8.out.get l (by omega) (fun h => h)).trans hl) (hd.kept K8) (Cel.of g6.same (g6.fam0 K0.wf)) (fun q hq => hok _ _ _ (hall q hq) kb) (eqb eb (e_base rfl ar1)) (fun _ => eqb eb (e_hit rfl)) (eqb eb (e_hit rfl)) (eqb eb (e_hit rfl)) (eqb eb (e_hit rfl)) ?_ ?_ ?_
 ·
  intro s0 mm0 b0 hf0 k0 hI0 hl0 hsl0 h20 hall0 y0_1 y0_2 y0_10 y0_11
  have y0_2 := y0_2 rfl
  change Wp Tryz.prog fl (At _ _ (sets 38 b0 []) _ _ _ _) _
  have KS0 : Kept S m mm0 := (K8.out.mono (fun _ _ h => h.elim) : Kept S m m5).trans k0
  have ny0 := KS0.next
  obtain ⟨⟨e20, h2r0⟩, h2f0⟩ := h20
  refine gg ?_
  refine w_loop ?_
  refine Wp.gen (fun b0 eb => ?_)
  refine (bel_all hfl).2.2.1 hR hok hok' hokc 0 (fun _ => True) (fun _ _ _ _ _ => trivial) subs kids (hin1) _ _ [] s0 b0 (by rfl) KS0.wf (by omega) hI0 hl0 (hk.kept KS0) trivial hall0 (eqb eb (e_base rfl y0_1)) (fun h => by cases h) (eqb eb (e_hit rfl)) (eqb eb (e_hit rfl)) (eqb eb (e_hit rfl)) ?_ ?_ ?_
  ·
   intro s1 mm1 b1 hf1 k1 hI1 hl1 hsl1 _ hall1 y1_1 _ y1_25 y1_26
   change Wp Tryz.prog fl (At _ _ (sets 38 b1 []) _ _ _ _) _
   have KS1 : Kept S m mm1 := KS0.trans k1
   refine w_fall rfl ?_
   refine w_results Tryz.func208 rv0 ?_
   have e : foldSt step s subs = .go s1 := by simp only [hsubs, Part.subs, foldSt_append, hf0, hf1]
   rw [e]; exact ⟨_, _, _, rfl, KS1, hI1, hl1⟩
  ·
   intro t mm b9 hf k hJ hl9
   have KS : Kept S m mm := KS0.trans k
   refine w_results Tryz.func208 rv0 ?_
   have e : foldSt step s subs = .stop t := by simp only [hsubs, Part.subs, foldSt_append, hf0, hf]
   rw [e]; exact ⟨_, _, _, rfl, KS, hJ, hl9⟩
  ·
   intro c t' mm b9 hf k
   have KS : Kept S m mm := KS0.trans k
   refine w_panics ?_
   have e : foldSt step s subs = .fail c := by simp only [hsubs, Part.subs, foldSt_append, hf0, hf]
   rw [e]; exact ⟨_, _, rfl, KS⟩
 ·
  intro t mm b9 hf k hJ hl9
  have KS : Kept S m mm := (K8.out.mono (fun _ _ h => h.elim) : Kept S m m5).trans k
  refine w_results Tryz.func208 rv0 ?_
  have e : foldSt step s subs = .stop t := by simp only [hsubs, Part.subs, foldSt_append, hf]
  rw [e]; exact ⟨_, _, _, rfl, KS, hJ, hl9⟩
 ·
  intro c t' mm b9 hf k
  have KS : Kept S m mm := (K8.out.mono (fun _ _ h => h.elim) : Kept S m m5).trans k
  refine w_panics ?_
  have e : foldSt step s subs = .fail c := by simp only [hsubs, Part.subs, foldSt_append, hf]
  rw [e]; exact ⟨_, _, rfl, KS⟩
theorem below_tm {m : Mem} {op : Int} {tx : ByteArray} {av dv kv : AVal} {args : List AEx} {defs : List ACl} {kids : List ATm} (ha : SlA m av 4 (args.map AEx.cells)) (hd : SlA m dv 5 (defs.map ACl.cells)) (hk : SlA m kv 5 (kids.map ATm.cells)) {ok : Part → Mem → Prop} {σ τ : Type} {l : Nat} {L : Lp} {S : Nat → Prop} {B : Nat} {I : σ → Mem → Prop} {J : τ → Mem → Prop} {pe : τ → Code} {step : σ → Part → St σ τ} (hR : RoundOK Tryz.prog fl l L S B I J pe (fun q => [q.val]) ok step) (hok : ∀ q m m', ok q m → Kept (fun q => B ≤ q) m m' → ok q m') (hok' : ∀ q m m', ok q m → Kept S m m' → ok q m') (hokc : ∀ q m, ok q m → q.OK m) {s : σ} (hB : B ≤ m.next) (hI : I s m) (hl : m.heap.get l = some (L.obj .ready none)) (subs : List Part) (hsubs : subs = Part.subs (.tm (.mk op tx av dv kv args defs kids))) (hall : ∀ q, q ∈ subs → ok q m) (hw : Wf m) : CallQ Tryz.prog fl 202 [.agg [iv op, .lit (.string tx), av, dv, kv], .yield l] m (EndC l L S I J pe m (foldSt step s subs)) := by
 refine hfl.start (by decide) 55 Tryz.func202 rfl rfl (Nat.le_of_ble_eq_true rfl) ?_
 intro bs hb
 have ar0 := hb 0 _ rfl
 have ar1 := hb 1 _ rfl
 clear hb
 have K0 : Kept (fun q => m.next ≤ q ∨ (noS) q) m m := Kept.refl hw
 have llt : l < B := hR.low l hR.here
 have hin0 : ∀ x, x ∈ args → Part.ex x ∈ subs := by intro x hx; rw [hsubs]; simp [Part.subs, hx]
 have hin1 : ∀ x, x ∈ defs → Part.cl x ∈ subs := by intro x hx; rw [hsubs]; simp [Part.subs, hx]
 have hin2 : ∀ x, x ∈ kids → Part.tm x ∈ subs := by intro x hx; rw [hsubs]; simp [Part.subs, hx]
 have cha := ha.cell
 have hal : ∀ {m' : Mem}, lenSl m' av = .val (goI args.length) m' := by intro m'; have := ha.len (m' := m'); rwa [List.length_map] at this
 have chd := hd.cell
 have hdl : ∀ {m' : Mem}, lenSl m' dv = .val (goI defs.length) m' := by intro m'; have := hd.len (m' := m'); rwa [List.length_map] at this
 have chk := hk.cell
 have hkl : ∀ {m' : Mem}, lenSl m' kv = .val (goI kids.length) m' := by intro m'; have := hk.len (m' := m'); rwa [List.length_map] at this
 refine gg ?_
 refine s_new rfl rfl rfl rfl (o_box (e_base rfl ar0) rfl) (fun m9 g10 => ?_)
 have n11 := g10.next
 have K12 := K0.g g10
 refine gg ?_
 refine w_loop ?_
 refine Wp.gen (fun b0 eb => ?_)
 have kb : Kept (fun q => B ≤ q) m m9 := K12.out.mono (fun _ _ h => h.elim)
 refine (bel_all hfl).2.2.2.1 hR hok hok' hokc m.next (fun m' => Cel m' m.next [_, _, _, _, _]) (fun _ _ hw h k => h.kept k (h.lt hw) (fun h => by have := hR.low _ h; omega)) subs args (hin0) _ _ [] s b0 (by rfl) K12.wf (by omega) (hR.stab _ m _ hI kb) ((K12.out.get l (by omega) (fun h => h)).trans hl) (ha.kept K12) (Cel.of g10.same (g10.fam0 K0.wf)) (fun q hq => hok _ _ _ (hall q hq) kb) (eqb eb (e_base rfl ar1)) (fun _ => eqb eb (e_hit rfl)) (eqb eb (e_hit rfl)) (eqb eb (e_hit rfl)) (eqb eb (e_hit rfl)) ?_ ?_ ?_
 ·
  intro s0 mm0 b0 hf0 k0 hI0 hl0 hsl0 h20 hall0 y0_1 y0_2 y0_12 y0_13
  have y0_2 := y0_2 rfl
  change Wp Tryz.prog fl (At _ _ (sets 55 b0 []) _ _ _ _) _
  have KS0 : Kept S m mm0 := (K12.out.mono (fun _ _ h => h.elim) : Kept S m m9).trans k0
  have ny0 := KS0.next
  obtain ⟨⟨e20, h2r0⟩, h2f0⟩ := h20
  have h20 : Cel mm0 m.next _ := ⟨⟨e20, h2r0⟩, h2f0⟩
  refine gg ?_
  refine w_loop ?_
  refine Wp.gen (fun b0 eb => ?_)
  refine (bel_all hfl).2.2.2.2.1 hR hok hok' hokc m.next (fun m' => Cel m' m.next [_, _, _, _, _]) (fun _ _ hw h k => h.kept k (h.lt hw) (fun h => by have := hR.low _ h; omega)) subs defs (hin1) _ _ [] s0 b0 (by rfl) KS0.wf (by omega) hI0 hl0 (hd.kept KS0) h20 hall0 (eqb eb (e_base rfl y0_1)) (fun _ => eqb eb (e_base rfl y0_2)) (eqb eb (e_hit rfl)) (eqb eb (e_hit rfl)) (eqb eb (e_hit rfl)) ?_ ?_ ?_
  ·
   intro s1 mm1 b1 hf1 k1 hI1 hl1 hsl1 h21 hall1 y1_1 y1_2 y1_27 y1_28
   have y1_2 := y1_2 rfl
   change Wp Tryz.prog fl (At _ _ (sets 55 b1 []) _ _ _ _) _
   have KS1 : Kept S m mm1 := KS0.trans k1
   have ny1 := KS1.next
   obtain ⟨⟨e21, h2r1⟩, h2f1⟩ := h21
   refine gg ?_
   refine w_loop ?_
   refine Wp.gen (fun b0 eb => ?_)
   refine (bel_all hfl).2.2.2.2.2 hR hok hok' hokc 0 (fun _ => True) (fun _ _ _ _ _ => trivial) subs kids (hin2) _ _ [] s1 b0 (by rfl) KS1.wf (by omega) hI1 hl1 (hk.kept KS1) trivial hall1 (eqb eb (e_base rfl y1_1)) (fun h => by cases h) (eqb eb (e_hit rfl)) (eqb eb (e_hit rfl)) (eqb eb (e_hit rfl)) ?_ ?_ ?_
   ·
    intro s2 mm2 b2 hf2 k2 hI2 hl2 hsl2 _ hall2 y2_1 _ y2_42 y2_43
    change Wp Tryz.prog fl (At _ _ (sets 55 b2 []) _ _ _ _) _
    have KS2 : Kept S m mm2 := KS1.trans k2
    refine w_fall rfl ?_
    refine w_results Tryz.func202 rv0 ?_
    have e : foldSt step s subs = .go s2 := by simp only [hsubs, Part.subs, foldSt_append, hf0, hf1, hf2]
    rw [e]; exact ⟨_, _, _, rfl, KS2, hI2, hl2⟩
   ·
    intro t mm b9 hf k hJ hl9
    have KS : Kept S m mm := KS1.trans k
    refine w_results Tryz.func202 rv0 ?_
    have e : foldSt step s subs = .stop t := by simp only [hsubs, Part.subs, foldSt_append, hf0, hf1, hf]
    rw [e]; exact ⟨_, _, _, rfl, KS, hJ, hl9⟩
   ·
    intro c t' mm b9 hf k
    have KS : Kept S m mm := KS1.trans k
    refine w_panics ?_
    have e : foldSt step s subs = .fail c := by simp only [hsubs, Part.subs, foldSt_append, hf0, hf1, hf]
    rw [e]; exact ⟨_, _, rfl, KS⟩
  ·
   intro t mm b9 hf k hJ hl9
   have KS : Kept S m mm := KS0.trans k
   refine w_results Tryz.func202 rv0 ?_
   have e : foldSt step s subs = .stop t := by simp only [hsubs, Part.subs, foldSt_append, hf0, hf]
   rw [e]; exact ⟨_, _, _, rfl, KS, hJ, hl9⟩
  ·
   intro c t' mm b9 hf k
   have KS : Kept S m mm := KS0.trans k
   refine w_panics ?_
   have e : foldSt step s subs = .fail c := by simp only [hsubs, Part.subs, foldSt_append, hf0, hf]
   rw [e]; exact ⟨_, _, rfl, KS⟩
 ·
  intro t mm b9 hf k hJ hl9
  have KS : Kept S m mm := (K12.out.mono (fun _ _ h => h.elim) : Kept S m m9).trans k
  refine w_results Tryz.func202 rv0 ?_
  have e : foldSt step s subs = .stop t := by simp only [hsubs, Part.subs, foldSt_append, hf]
  rw [e]; exact ⟨_, _, _, rfl, KS, hJ, hl9⟩
 ·
  intro c t' mm b9 hf k
  have KS : Kept S m mm := (K12.out.mono (fun _ _ h => h.elim) : Kept S m m9).trans k
  refine w_panics ?_
  have e : foldSt step s subs = .fail c := by simp only [hsubs, Part.subs, foldSt_append, hf]
  rw [e]; exact ⟨_, _, rfl, KS⟩
end
open Go.RowKit (Below)
set_option maxRecDepth 10000
noncomputable section
variable {fl : Fl} (hfl : Tab fl)
include hfl
omit hfl in
def visN {σ τ : Type} (step : σ → Int × Part → St σ τ) : Nat → Int → Part → σ → St σ τ
 | 0, _, _, s => .go s
 | n + 1, i, p, s => match step s (i, p) with
  | .go s' => foldSt (fun s q => visN step n (i + 1) q s) s' p.subs
  | .stop t => .stop t
  | .fail c => .fail c
omit hfl in
theorem subs_size {p q : Part} (h : q ∈ p.subs) : SizeOf.sizeOf q < SizeOf.sizeOf p := by
 cases p with
 | ex e =>
  cases e with
  | mk op n s kv kids =>
   obtain ⟨x, hx, rfl⟩ := List.mem_map.1 h
   have := List.sizeOf_lt_of_mem hx
   simp only [Part.ex.sizeOf_spec, AEx.mk.sizeOf_spec]
   omega
 | cl c =>
  cases c with
  | mk f s jv dv kv joins defs kids =>
   rcases List.mem_append.1 h with h | h
   ·obtain ⟨x, hx, rfl⟩ := List.mem_map.1 h
    have := List.sizeOf_lt_of_mem hx
    simp only [Part.cl.sizeOf_spec, ACl.mk.sizeOf_spec]
    omega
   ·obtain ⟨x, hx, rfl⟩ := List.mem_map.1 h
    have := List.sizeOf_lt_of_mem hx
    simp only [Part.cl.sizeOf_spec, Part.tm.sizeOf_spec, ACl.mk.sizeOf_spec]
    omega
 | tm t =>
  cases t with
  | mk op s av dv kv args defs kids =>
   rcases List.mem_append.1 h with h | h
   ·obtain ⟨x, hx, rfl⟩ := List.mem_map.1 h
    have := List.sizeOf_lt_of_mem hx
    simp only [Part.ex.sizeOf_spec, Part.tm.sizeOf_spec, ATm.mk.sizeOf_spec]
    omega
   ·rcases List.mem_append.1 h with h | h
    ·obtain ⟨x, hx, rfl⟩ := List.mem_map.1 h
     have := List.sizeOf_lt_of_mem hx
     simp only [Part.cl.sizeOf_spec, Part.tm.sizeOf_spec, ATm.mk.sizeOf_spec]
     omega
    ·obtain ⟨x, hx, rfl⟩ := List.mem_map.1 h
     have := List.sizeOf_lt_of_mem hx
     simp only [Part.tm.sizeOf_spec, ATm.mk.sizeOf_spec]
     omega
abbrev visF (y v : Nat) : AVal := .func (.func 135) [] [.ptr y 0, .ptr v 0]
theorem vis_round {σ τ : Type} {l : Nat} {L : Lp} {S : Nat → Prop} {B : Nat} {I : σ → Mem → Prop} {J : τ → Mem → Prop} {pe : τ → Code} {step : σ → Int × Part → St σ τ} {Lv : Int → Part → Prop} (hR : RoundOK Tryz.prog fl l L S B I J pe (fun x => [iv x.1, x.2.val]) (fun x m => x.2.OK m ∧ Lv x.1 x.2) step) (hLv : ∀ (i : Int) (q : Part) s s', Lv i q → step s (i, q) = .go s' → (-(2 ^ 61) ≤ i ∧ i < 2 ^ 61) ∧ ∀ r, r ∈ q.subs → Lv (i + 1) r) {n : Nat} {y v : Nat} (ih : ∀ (q : Part) (i : Int) (s : σ) {m : Mem}, SizeOf.sizeOf q < n → Wf m → B ≤ m.next → I s m → m.heap.get l = some (L.obj .ready none) → Cel m y [.yield l] → Cel m v [visF y v] → q.OK m → Lv i q → CallQ Tryz.prog fl 135 [iv i, q.val, .ptr y 0, .ptr v 0] m (EndR l L S I J pe m (visN step n i q s))) {m3 : Mem} {l2 r4 r6 d2 : Nat} {i : Int} {tm : T AVal} (t3 : getT tm 3 = .ptr v 0) (t4 : getT tm 4 = .ptr r4 0) (t6 : getT tm 6 = .ptr r6 0) (hB3 : B ≤ m3.next) (hi : -(2 ^ 61) ≤ i ∧ i < 2 ^ 61)
  (hl2 : l2 < m3.next) (h4l : r4 < m3.next) (h6l : r6 < m3.next) (hb : B ≤ l2 ∧ B ≤ r4 ∧ B ≤ r6) (hne : r4 ≠ r6 ∧ l2 ≠ r4 ∧ l2 ≠ r6) (hyB : y < B ∧ v < B ∧ ¬ S y ∧ ¬ S v) (hy : Cel m3 y [.yield l]) (hv : Cel m3 v [visF y v]) (h4 : Cel m3 r4 [iv i]) :
  RoundOK Tryz.prog fl l2 (⟨135, 23, tm, [16], cAt [true, true, false, true, false, false] (bodyF Tryz.f135), cAt [true, true, false, true, false, true] (bodyF Tryz.f135), d2⟩) (fun q => S q ∨ q = r6 ∨ q = l2) m3.next (fun s m => I s m ∧ m.heap.get l = some (L.obj .ready none) ∧ Kept (fun q => S q ∨ q = r6 ∨ q = l2) m3 m ∧ Cel m r6 [.lit (.bool false)]) (fun t m => J t m ∧ m.heap.get l = some (L.obj .done (some (pe t))) ∧ Kept (fun q => S q ∨ q = r6 ∨ q = l2) m3 m ∧ Cel m r6 [.lit (.bool false)]) (fun _ => .ret) (fun q => [q.val]) (fun q m => (q.OK m ∧ Lv (i + 1) q) ∧ SizeOf.sizeOf q < n) (fun s q => visN step n (i + 1) q s) := by
 have _ := hfl
 have llt : l < B := hR.low l hR.here
 refine ⟨by kernel_rfl, fun x => rfl, .inr (.inr rfl), ?_, ?_, ?_, ?_⟩
 ·rintro q (h | rfl | rfl)
  ·have := hR.low q h; omega
  ·exact h6l
  ·exact hl2
 ·rintro s m m' ⟨h1, h2, h3, h4'⟩ k
  have n3 := h3.next
  exact ⟨hR.stab s m m' h1 (k.mono (fun q _ h => by show B ≤ q; have : m3.next ≤ q := h; omega)), (k.get l (by omega) (by show ¬ (m3.next ≤ l); omega)).trans h2, h3.then k (fun q hq h => by have : m3.next ≤ q := h; omega), h4'.kept k (by omega) (by show ¬ (m3.next ≤ r6); omega)⟩
 ·rintro s m m' ⟨h1, h2, h3, h4'⟩ k
  have n3 := h3.next
  exact ⟨hR.stabJ s m m' h1 (k.mono (fun q _ h => by show B ≤ q; have : m3.next ≤ q := h; omega)), (k.get l (by omega) (by show ¬ (m3.next ≤ l); omega)).trans h2, h3.then k (fun q hq h => by have : m3.next ≤ q := h; omega), h4'.kept k (by omega) (by show ¬ (m3.next ≤ r6); omega)⟩
 ·rintro s q m hw hBm ⟨hI, hl, hk, h6⟩ ⟨⟨hq, hlv⟩, hsz⟩ hl2r
  show Wp Tryz.prog fl (At ⟨135, 23, false, some l2⟩ [.code (cAt [true, true, false, true, false, false] (bodyF Tryz.f135)), .beginRound, .code (cAt [true, true, false, true, false, true] (bodyF Tryz.f135))] (sets 23 tm [(16, q.val)]) [] .run [] m) _
  have K0 : Kept (fun q => m.next ≤ q ∨ (fun q => S q ∨ q = r6 ∨ q = l2) q) m m := Kept.refl hw
  have hy' := hy.kept hk (by omega) (by rintro (h | h | h); exact hyB.2.2.1 h; all_goals omega)
  have hv' := hv.kept hk (by omega) (by rintro (h | h | h); exact hyB.2.2.2 h; all_goals omega)
  have h4' := h4.kept hk (by omega) (by rintro (h | h | h); (have := hR.low _ h; omega); all_goals omega)
  obtain ⟨⟨ey, hyr⟩, fy⟩ := hy'
  obtain ⟨⟨ev, hvr⟩, fv⟩ := hv'
  obtain ⟨⟨e4, h4r⟩, f4⟩ := h4'
  obtain ⟨⟨e6, h6r⟩, f6⟩ := h6
  have lt6 := hw.lt h6r
  have ltl2 := hw.lt hl2r
  refine gg ?_
  refine w_begin rfl hl2r ?_
  obtain ⟨m1, g2⟩ : ∃ m', Wrote m m' l2 (Lp.obj (⟨135, 23, tm, [16], cAt [true, true, false, true, false, false] (bodyF Tryz.f135), cAt [true, true, false, true, false, true] (bodyF Tryz.f135), d2⟩) .busy none) ∧ m' = m.put l2 (Lp.obj (⟨135, 23, tm, [16], cAt [true, true, false, true, false, false] (bodyF Tryz.f135), cAt [true, true, false, true, false, true] (bodyF Tryz.f135), d2⟩) .busy none) := ⟨_, wrote _ _ _, rfl⟩
  rw [show m.put l2 (.loop ⟨.busy, none, 135, 23, tm, [16], cAt [true, true, false, true, false, false] (bodyF Tryz.f135), cAt [true, true, false, true, false, true] (bodyF Tryz.f135), d2⟩) = m1 from g2.2.symm]
  replace g2 := g2.1
  have n3 := g2.next
  have K4 := K0.w g2 hl2r (fun _ h => by cases h) (Or.inr (Or.inr (Or.inr rfl)))
  refine gg ?_
  have h5 := (g2.other v (by omega)).trans hvr
  refine gg ?_
  refine gg ?_
  have h7 := (g2.other y (by omega)).trans hyr
  have f8 := (g2.famo y).trans fy
  have f9 := (g2.famo v).trans fv
  have kb : Kept (fun q => B ≤ q) m m1 := Kept.wrote hw g2 hl2r (fun _ h => by cases h) (by show B ≤ l2; omega)
  refine s_callR rfl rfl rfl rfl (o_callF (e_hit rfl) (me2 (e_hit rfl) (e_hit rfl))) (ih q (i + 1) s hsz kb.wf (by omega) (hR.stab s m _ hI kb) ((kb.get l (by omega) (by show ¬ (B ≤ l); omega)).trans hl) (Cel.of h7 f8) (Cel.of h5 f9) (hq.kept kb) hlv) ?_ ?_ ?_
  ·
   intro s' e m9 k9 hI9 hl9
   have K9 := K4.k k9 (fun q h => Or.inr (Or.inl h))
   refine gg ?_
   have h10 := (k9.get l2 (by omega) (by intro h; have := hR.low _ h; omega)).trans g2.same
   have h11 := (g2.other r6 (by omega)).trans h6r
   have h12 := (k9.get r6 (by omega) (by intro h; have := hR.low _ h; omega)).trans h11
   have f13 := (g2.famo r6).trans f6
   have f14 := (k9.fam r6 (by omega) (by intro h; have := hR.low _ h; omega)).trans f13
   refine w_roundEnd rfl h10 ?_
   show EndR _ _ _ _ _ _ _ (visN step n (i + 1) q s) _
   rw [e]
   have gE := wrote m9 l2 (Lp.obj (⟨135, 23, tm, [16], cAt [true, true, false, true, false, false] (bodyF Tryz.f135), cAt [true, true, false, true, false, true] (bodyF Tryz.f135), d2⟩) .ready none)
   have KE := K9.w gE h10 (fun _ h => by cases h) (Or.inr (Or.inr (Or.inr rfl)))
   have kE : Kept (fun q => B ≤ q) m9 _ := Kept.wrote K9.wf gE h10 (fun _ h => by cases h) (by show B ≤ l2; omega)
   exact ⟨_, _, rfl, KE.out, ⟨hR.stab _ _ _ hI9 kE, (gE.other l (by omega)).trans hl9, hk.then KE.out (fun _ _ h => h), Cel.of ((gE.other r6 (by omega)).trans h12) ((gE.famo r6).trans f14)⟩, gE.same⟩
  ·
   intro t e m9 k9 hJ9 hl9
   have n9 := k9.next
   have K9 := K4.k k9 (fun q h => Or.inr (Or.inl h))
   refine gg ?_
   have h15 := (g2.other r6 (by omega)).trans h6r
   have h16 := (k9.get r6 (by omega) (by intro h; have := hR.low _ h; omega)).trans h15
   have f17 := (g2.famo r6).trans f6
   have f18 := (k9.fam r6 (by omega) (by intro h; have := hR.low _ h; omega)).trans f17
   refine s_put0 rfl rfl rfl (o_store rfl (e_base rfl t6) h16 f18 sz_4 rfl rfl rfl rfl) (fun m19 g20 => ?_)
   have n21 := g20.next
   have K22 := K9.w g20 h16 (fun _ h => by cases h) (Or.inr (Or.inr (Or.inl rfl)))
   refine gg ?_
   have h23 := (k9.get l2 (by omega) (by intro h; have := hR.low _ h; omega)).trans g2.same
   have h24 := hxM m19 l2
   have f25 := fxM m19 r6
   refine w_roundRet rfl h24 ?_
   show EndR _ _ _ _ _ _ _ (visN step n (i + 1) q s) _
   rw [e]
   have gE := wrote m19 l2 (Lp.obj (⟨135, 23, tm, [16], cAt [true, true, false, true, false, false] (bodyF Tryz.f135), cAt [true, true, false, true, false, true] (bodyF Tryz.f135), d2⟩) .done (some .ret))
   have KE := K22.w gE h24 (fun _ h => by cases h) (Or.inr (Or.inr (Or.inr rfl)))
   have kE0 : Kept (fun q => B ≤ q) m9 m19 := Kept.wrote K9.wf g20 h16 (fun _ h => by cases h) (by show B ≤ r6; omega)
   have kE : Kept (fun q => B ≤ q) m9 _ := kE0.trans (Kept.wrote K22.wf gE h24 (fun _ h => by cases h) (by show B ≤ l2; omega))
   exact ⟨_, _, rfl, KE.out, ⟨hR.stabJ _ _ _ hJ9 kE, (kE.get l (by omega) (by show ¬ (B ≤ l); omega)).trans hl9, hk.then KE.out (fun _ _ h => h), Cel.of ((gE.other r6 (by omega)).trans g20.same) ((gE.famo r6).trans f25)⟩, gE.same⟩
  ·
   intro c e m9 k9
   have K9 := K4.k k9 (fun q h => Or.inr (Or.inl h))
   refine w_panics ?_
   show EndR _ _ _ _ _ _ _ (visN step n (i + 1) q s) _
   rw [e]; exact ⟨_, _, rfl, K9.out⟩
end
end Go.Proofs.YtjefckdgpbdpeaaGreat
