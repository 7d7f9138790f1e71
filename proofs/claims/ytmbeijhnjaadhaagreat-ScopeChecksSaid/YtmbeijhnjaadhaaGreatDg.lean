/- A part of the proof of ScopeChecks. -/
import Derived.Test.YtmbeijhnjaadhaaGreatDa
namespace Go.Proofs.YtmbeijhnjaadhaaGreat
open Go Go.Abs
open Go.RowKit (Below)
set_option maxRecDepth 10000
noncomputable section
theorem fm_eq {sz op nn : Int} {kv : AVal} {kids : List AX} {n : Nat} : fmN sz (n + 1) (.mk op nn kv kids) = (if op = 1 then kids.isEmpty && ranged nn else if op = 2 then kids.isEmpty && (decide (0 ≤ nn) && decide (nn < sz)) else match kids with
 | [a, b] => (decide (3 ≤ op) && decide (op ≤ 7)) && (decide (nn = 0) && (fmN sz n a && fmN sz n b))
 | _ => false) := by
 rcases kids with _ | ⟨a, _ | ⟨b, _ | ⟨c, r⟩⟩⟩ <;> rfl
theorem expr_true {sz op nn : Int} {kv : AVal} {kids : List AX} {n : Nat} (h : exprB sz op nn kids.length = true) : (kids = [] ∧ fmN sz (n + 1) (.mk op nn kv kids) = true) ∨ (∃ a b, kids = [a, b] ∧ fmN sz (n + 1) (.mk op nn kv kids) = (fmN sz n a && fmN sz n b)) := by
 unfold exprB at h
 by_cases h1 : op = 1
 ·rw [if_pos h1, Bool.and_eq_true, beq_iff_eq] at h
  have hk : kids = [] := List.length_eq_zero_iff.1 (Int.ofNat.inj h.1)
  refine .inl ⟨hk, ?_⟩
  rw [fm_eq, if_pos h1, hk]
  exact h.2
 ·rw [if_neg h1] at h
  by_cases h2 : op = 2
  ·rw [if_pos h2, Bool.and_eq_true, beq_iff_eq, Bool.and_eq_true, decide_eq_true_eq, decide_eq_true_eq] at h
   have hk : kids = [] := List.length_eq_zero_iff.1 (Int.ofNat.inj h.1)
   refine .inl ⟨hk, ?_⟩
   rw [fm_eq, if_neg h1, if_pos h2, hk, show ([] : List AX).isEmpty = true from rfl, Bool.true_and, Bool.and_eq_true, decide_eq_true_eq, decide_eq_true_eq]
   omega
  ·rw [if_neg h2] at h
   by_cases h3 : 3 ≤ op ∧ op ≤ 7
   ·rw [if_pos h3, Bool.and_eq_true, beq_iff_eq, Bool.and_eq_true, decide_eq_true_eq, decide_eq_true_eq] at h
    have hl : kids.length = 2 := Int.ofNat.inj h.1
    obtain ⟨a, b, hk⟩ : ∃ a b, kids = [a, b] := by
     rcases kids with _ | ⟨a, _ | ⟨b, _ | ⟨c, r⟩⟩⟩
     ·cases hl
     ·cases hl
     ·exact ⟨a, b, rfl⟩
     ·simp at hl
    refine .inr ⟨a, b, hk, ?_⟩
    rw [hk, fm_eq, if_neg h1, if_neg h2]
    have e1 : (decide (3 ≤ op) && decide (op ≤ 7)) = true := by rw [Bool.and_eq_true, decide_eq_true_eq, decide_eq_true_eq]; exact h3
    have e2 : decide (nn = 0) = true := by rw [decide_eq_true_eq]; omega
    dsimp only
    rw [e1, e2, Bool.true_and, Bool.true_and]
   ·rw [if_neg h3] at h; cases h
theorem expr_false {sz op nn : Int} {kv : AVal} {kids : List AX} {n : Nat} (h : exprB sz op nn kids.length = false) : fmN sz (n + 1) (.mk op nn kv kids) = false := by
 rw [← Bool.not_eq_true]
 intro hf
 rw [← Bool.not_eq_true] at h
 apply h
 unfold exprB
 rw [fm_eq] at hf
 by_cases h1 : op = 1
 ·rw [if_pos h1] at hf ⊢
  rw [Bool.and_eq_true] at hf
  rw [List.isEmpty_iff.1 hf.1]
  exact hf.2
 ·rw [if_neg h1] at hf ⊢
  by_cases h2 : op = 2
  ·rw [if_pos h2] at hf ⊢
   rw [Bool.and_eq_true, Bool.and_eq_true, decide_eq_true_eq, decide_eq_true_eq] at hf
   rw [List.isEmpty_iff.1 hf.1, Bool.and_eq_true, Bool.and_eq_true, decide_eq_true_eq, decide_eq_true_eq]
   exact ⟨rfl, by omega⟩
  ·rw [if_neg h2] at hf ⊢
   rcases kids with _ | ⟨a, _ | ⟨b, _ | ⟨c, r⟩⟩⟩
   ·cases hf
   ·cases hf
   ·dsimp only at hf
    simp only [Bool.and_eq_true, decide_eq_true_eq] at hf
    rw [if_pos hf.1, Bool.and_eq_true, Bool.and_eq_true, decide_eq_true_eq, decide_eq_true_eq]
    exact ⟨rfl, by omega⟩
   ·cases hf
section
variable {σ τ : Type} {α : Type}
theorem pv_go {step : σ → Int × AX → St σ τ} {n : Nat} {i : Int} {e : AX} {s s' : σ} (h : step s (i, e) = .go s') : pvN step (n + 1) i e s = foldSt (fun s q => pvN step n (i + 1) q s) s' e.kids := by rw [pvN, h]
theorem pv_fail {step : σ → Int × AX → St σ τ} {n : Nat} {i : Int} {e : AX} {s : σ} {c : Chain} (h : step s (i, e) = .fail c) : pvN step (n + 1) i e s = .fail c := by rw [pvN, h]
theorem fold_go {f : σ → α → St σ τ} {s s' : σ} {a : α} {l : List α} (h : f s a = .go s') : foldSt f s (a :: l) = foldSt f s' l := by rw [foldSt, h]
theorem fold_fail {f : σ → α → St σ τ} {s : σ} {a : α} {l : List α} {c : Chain} (h : f s a = .fail c) : foldSt f s (a :: l) = .fail c := by rw [foldSt, h]
end
theorem pv_spec {sz : Int} : ∀ (n : Nat) (e : AX) (i s : Int), SizeOf.sizeOf e < n → pvN (stepA sz) n i e s = if fmN sz n e = true ∧ s + (ndN n e : Int) ≤ 60 ∧ i + (dpN n e : Int) ≤ 13 then .go (s + (ndN n e : Int)) else .fail unfC := by
 intro n
 induction n with
 | zero => intro e i s h; omega
 | succ n ih =>
  rintro ⟨op, nn, kv, kids⟩ i s hn
  have hst : stepA sz s (i, .mk op nn kv kids) = bif decide (i ≤ 12) && decide (s + 1 ≤ 60) then (bif exprB sz op nn kids.length then .go (s + 1) else .fail unfC) else .fail unfC := rfl
  have hnd : ndN (n + 1) (.mk op nn kv kids) = 1 + (kids.map (ndN n)).sum := rfl
  have hdp : dpN (n + 1) (.mk op nn kv kids) = (kids.map (dpN n)).foldl max 0 + 1 := rfl
  rw [hnd, hdp]
  cases hb : decide (i ≤ 12) && decide (s + 1 ≤ 60) with
  | false =>
   have hno : ¬ (i ≤ 12 ∧ s + 1 ≤ 60) := by
    intro h
    rw [← Bool.not_eq_true] at hb
    exact hb (by rw [Bool.and_eq_true, decide_eq_true_eq, decide_eq_true_eq]; exact h)
   rw [pv_fail (hst.trans (by rw [hb]; rfl)), if_neg (by rintro ⟨_, h2, h3⟩; exact hno ⟨by omega, by omega⟩)]
  | true =>
   rw [hb, cond_true] at hst
   rw [Bool.and_eq_true, decide_eq_true_eq, decide_eq_true_eq] at hb
   cases he : exprB sz op nn kids.length with
   | false =>
    rw [he, cond_false] at hst
    rw [pv_fail hst, if_neg (by rintro ⟨h1, _⟩; rw [expr_false he] at h1; cases h1)]
   | true =>
    rw [he, cond_true] at hst
    rw [pv_go hst]
    show foldSt _ _ kids = _
    rcases expr_true (kv := kv) (n := n) he with ⟨hk, hf⟩ | ⟨a, b, hk, hf⟩
    ·rw [hf, hk, if_pos ⟨rfl, by simpa using hb.2, by simp; omega⟩]
     rfl
    ·rw [hf]
     subst hk
     have ha := ax_size (op := op) (n := nn) (kv := kv) (kids := [a, b]) (e := a) (by simp)
     have hbz := ax_size (op := op) (n := nn) (kv := kv) (kids := [a, b]) (e := b) (by simp)
     have iha := ih a (i + 1) (s + 1) (by omega)
     have ihb := ih b (i + 1) (s + 1 + (ndN n a : Int)) (by omega)
     have hsum : ([a, b].map (ndN n)).sum = ndN n a + ndN n b := by simp
     have hmax : ([a, b].map (dpN n)).foldl max 0 = max (dpN n a) (dpN n b) := by simp
     rw [hsum, hmax]
     by_cases ca : fmN sz n a = true ∧ s + 1 + (ndN n a : Int) ≤ 60 ∧ i + 1 + (dpN n a : Int) ≤ 13
     ·rw [if_pos ca] at iha
      rw [fold_go iha]
      by_cases cb : fmN sz n b = true ∧ s + 1 + (ndN n a : Int) + (ndN n b : Int) ≤ 60 ∧ i + 1 + (dpN n b : Int) ≤ 13
      ·rw [if_pos cb] at ihb
       rw [fold_go ihb, if_pos ⟨by rw [ca.1, cb.1]; rfl, by omega, by omega⟩]
       show St.go _ = St.go _
       congr 1; omega
      ·rw [if_neg cb] at ihb
       rw [fold_fail ihb, if_neg (by
        rintro ⟨h1, h2, h3⟩
        rw [Bool.and_eq_true] at h1
        exact cb ⟨h1.2, by omega, by omega⟩)]
     ·rw [if_neg ca] at iha
      rw [fold_fail iha, if_neg (by
       rintro ⟨h1, h2, h3⟩
       rw [Bool.and_eq_true] at h1
       exact ca ⟨h1.1, by omega, by omega⟩)]
theorem arg_same (sz : Int) (e : AX) : argB sz e = (decide (ndN (SizeOf.sizeOf e + 1) e ≤ 60) && (decide (dpN (SizeOf.sizeOf e + 1) e ≤ 12) && fmN sz (SizeOf.sizeOf e + 1) e)) := by
 unfold argB
 rw [pv_spec _ e 1 0 (Nat.lt_succ_self _)]
 by_cases c : fmN sz (SizeOf.sizeOf e + 1) e = true ∧ (0 : Int) + (ndN (SizeOf.sizeOf e + 1) e : Int) ≤ 60 ∧ (1 : Int) + (dpN (SizeOf.sizeOf e + 1) e : Int) ≤ 13
 ·rw [if_pos c]
  have h1 : decide (ndN (SizeOf.sizeOf e + 1) e ≤ 60) = true := by rw [decide_eq_true_eq]; omega
  have h2 : decide (dpN (SizeOf.sizeOf e + 1) e ≤ 12) = true := by rw [decide_eq_true_eq]; omega
  rw [h1, h2, c.1]; rfl
 ·rw [if_neg c]
  symm
  rw [← Bool.not_eq_true]
  intro h
  simp only [Bool.and_eq_true, decide_eq_true_eq] at h
  exact c ⟨h.2.2, by omega, by omega⟩
end
noncomputable section
def lookC (p : AProg) (r1 r2 r3 : Nat) (bad : Bool) : List AVal := [p.fv, p.nv, p.dv, iv p.main, .slice r1 0 p.nodes.length p.nodes.length true, .slice r2 0 p.nodes.length p.nodes.length true, .slice r3 0 p.defs.length p.defs.length true, bv bad]
def argsBad (sz : Int) (l : List AX) : Bool := l.any fun e => !argB sz e
abbrev exP : List Bool := [true, true, true, true, true, true, false, true, false, false]
variable {fl : Fl} (hfl : Tab fl)
include hfl
theorem exps_loop {p : AProg} {v r1 r2 r3 r6 : Nat} {op n sz : Int} {av kv x1 : AVal} {els : List AX} (hne : r6 ≠ v) (_cf : isCell p.fv = true) (_cn : isCell p.nv = true) (_cd : isCell p.dv = true) (k : List AItem) {Q : RR → Prop} {up : Chain} : ∀ (rest pre : List AX) (bad : Bool) {m : Mem} (b : T AVal), els = pre ++ rest → Wf m → Cel m v (lookC p r1 r2 r3 bad) → Cel m r6 [iv op, iv n, av, kv] → SlA m av 3 (els.map AX.cells) → (∀ e, e ∈ els → e.OK m) → getT b 0 = .ptr v 0 → getT b 1 = x1 → getT b 2 = iv sz → getT b 6 = .ptr r6 0 → getT b 10 = goI pre.length →
  (∀ (m' : Mem) (b' : T AVal), Kept (fun q => q = v) m m' → Cel m' v (lookC p r1 r2 r3 (bad || argsBad sz rest)) → getT b' 0 = .ptr v 0 → getT b' 1 = x1 → getT b' 2 = iv sz → getT b' 6 = .ptr r6 0 → Wp Tryz.prog fl (At ⟨26, 249, false, none⟩ k b' [] .run up m') Q) →
  Wp Tryz.prog fl (At ⟨26, 249, false, none⟩ (.code (cAt exP (bodyF Tryz.f26)) :: .inLoop (cAt exP (bodyF Tryz.f26)) :: .inBlock 0 :: k) (sets 249 b []) [] .run up m) Q := by
 intro rest
 induction rest with
 | nil =>
  intro pre bad m b hsp hw hv hr6 hsl ho k0 k1 k2 k6 k10 hk
  have hlt : decide (Int.ofNat pre.length < Int.ofNat els.length) = false := by subst hsp; simp
  have ca := hsl.cell
  have la := hsl.lenM
  obtain ⟨⟨e6, h6⟩, f6⟩ := hr6
  refine gg ?_
  refine Wp.gen (fun b' eb => ?_)
  exact hk _ b' (Kept.refl hw) (by rw [show argsBad sz [] = false from rfl, Bool.or_false]; exact hv) (eqb eb (e_base rfl k0)) (eqb eb (e_base rfl k1)) (eqb eb (e_base rfl k2)) (eqb eb (e_base rfl k6))
 | cons y rest ih =>
  intro pre bad m b hsp hw hv hr6 hsl ho k0 k1 k2 k6 k10 hk
  have hlt : decide (Int.ofNat pre.length < Int.ofNat els.length) = true := by subst hsp; simp; omega
  have hln := hsl.lnT hsp
  have ca := hsl.cell
  have la := hsl.lenM
  have hv0 := hv
  have hr60 := hr6
  have lv := hv.lt hw
  have l6 := hr6.lt hw
  obtain ⟨⟨ev, hvr⟩, fv⟩ := hv
  obtain ⟨⟨e6, h6⟩, f6⟩ := hr6
  have hvr : m.heap.get v = some (.row ev [p.fv, p.nv, p.dv, iv p.main, .slice r1 0 p.nodes.length p.nodes.length true, .slice r2 0 p.nodes.length p.nodes.length true, .slice r3 0 p.defs.length p.defs.length true, .lit (.bool bad)] v 0) := hvr
  have e : argsBad sz (y :: rest) = (!argB sz y || argsBad sz rest) := rfl
  rw [e] at hk
  have K : Kept (fun q => m.next ≤ q ∨ (fun q => q = v) q) m m := Kept.refl hw
  have fin : ∀ (b1 : Bool) {m1 m2 : Mem} {tX : T AVal} {lX : List (Nat × AVal)}, Kept noS m m1 → Wrote m1 m2 v (.row ev [p.fv, p.nv, p.dv, iv p.main, .slice r1 0 p.nodes.length p.nodes.length true, .slice r2 0 p.nodes.length p.nodes.length true, .slice r3 0 p.defs.length p.defs.length true, .lit (.bool b1)] v 0) → b1 = (bad || !argB sz y) → getT (sets 249 tX lX) 0 = .ptr v 0 → getT (sets 249 tX lX) 1 = x1 → getT (sets 249 tX lX) 2 = iv sz → getT (sets 249 tX lX) 6 = .ptr r6 0 → getT (sets 249 tX lX) 10 = goI (pre.length + 1) → Wp Tryz.prog fl (At ⟨26, 249, false, none⟩ (.inLoop (cAt exP (bodyF Tryz.f26)) :: .inBlock 0 :: k) (sets 249 tX lX) [] .run up m2) Q := by
   intro b1 m1 m2 tX lX k1 g eb e0 e1 e2 e6 e10
   have hv1 := (k1.get v lv id).trans hvr
   have kk : Kept (fun q => q = v) m m2 := (k1.mono (fun _ _ h => h.elim)).trans (Kept.wrote k1.wf g hv1 (fun _ h => by cases h) rfl)
   refine w_inLoop ?_
   refine Wp.gen (fun b' ebb => ?_)
   refine ih (pre ++ [y]) b1 b' (by simp [hsp]) kk.wf (Cel.of g.same ((g.famo v).trans ((k1.fam v lv id).trans fv))) (hr60.kept kk l6 hne) (hsl.kept kk) (fun e he => AX.OK.kept (ho e he) kk) (eqb ebb e0) (eqb ebb e1) (eqb ebb e2) (eqb ebb e6) (eqb ebb (e10.trans (by rw [List.length_append]; rfl))) (fun m' b' k h => hk m' b' (kk.trans k) (by rw [eb, Bool.or_assoc] at h; exact h))
  cases bad with
  | true =>
   refine gg ?_
   refine s_put0 rfl rfl rfl (o_store v0 v0 hvr fv TyF.z rfl rfl rfl rfl) (fun m1 g => ?_)
   refine gg ?_
   exact fin true (Kept.refl hw) g rfl (e_base rfl k0) (e_base rfl k1) (e_base rfl k2) (e_base rfl k6) (e_hit rfl)
  | false =>
   obtain ⟨r, off, c0, ex, row, hva, hlx, hr, htk⟩ := hsl.here hsp
   have hy : y.OK m := ho y (by rw [hsp]; simp)
   subst hva
   refine gg ?_
   refine s_val rfl (gT rfl ⟨v0⟩ rfl).h rfl rfl (o_indexAddr v0 v0 ElF.h hlx) ?_
   refine s_val rfl (gT rfl ⟨v0⟩ rfl).h rfl rfl (o_loadRoA v0 hr (TyF.h (s := _)) (TyF.z (g := true)) htk) ?_
   refine gg ?_
   refine s_call rfl (gT rfl ⟨v0⟩ rfl).h rfl rfl (o_calls (me2 v0 v0)) (expFormed_ok hfl (n := SizeOf.sizeOf y + 1) (e := y) (Nat.lt_succ_self _) hy hw) ?_ (by rintro _ _ _ ⟨_, _, h, _⟩; cases h)
   rintro _ _ m1 ⟨_, _, hret, k1'⟩
   cases hret
   rw [← arg_same]
   have hv1 := (k1'.get v lv id).trans hvr
   have fv1 := (k1'.fam v lv id).trans fv
   refine gg ?_
   refine s_put0 rfl rfl rfl (o_store v0 v0 hv1 fv1 TyF.z rfl rfl rfl rfl) (fun m2 g => ?_)
   refine gg ?_
   exact fin (!argB sz y) k1' g rfl (e_base rfl k0) (e_base rfl k1) (e_base rfl k2) (e_base rfl k6) (e_hit rfl)
end
noncomputable section
def cntA (b : Bool) : AVal := iv (bif b then 1 else 0)
structure RowsM (p : AProg) (v r1 r2 r3 : Nat) (bad : Bool) (szs : List Int) (nd df : List Bool) (m : Mem) : Prop where
 row : Cel m v (lookC p r1 r2 r3 bad)
 c1 : Cel m r1 (szs.map iv)
 c2 : Cel m r2 (nd.map cntA)
 c3 : Cel m r3 (df.map cntA)
 l1 : szs.length = p.nodes.length
 l2 : nd.length = p.nodes.length
 l3 : df.length = p.defs.length
structure SameV (p : AProg) (s : SV) (szs : List Int) (nd df : List Bool) : Prop where
 n : ∀ i, i < p.nodes.length → nd.getD i false = inI (Int.ofNat i) s.1.1
 z : ∀ i, i < p.nodes.length → inI (Int.ofNat i) s.1.1 = true → sizeA s.1 i = iv (szs.getD i 0)
 d : ∀ i, i < p.defs.length → df.getD i false = inI (Int.ofNat i) s.2.1
 c1 : s.1.1.length = nd.count true
 c2 : s.2.1.length = df.count true
def LookM (p : AProg) (v r1 r2 r3 : Nat) (s : SV) (m : Mem) : Prop := ∃ szs nd df, RowsM p v r1 r2 r3 false szs nd df m ∧ SameV p s szs nd df
def LookB (p : AProg) (v r1 r2 r3 : Nat) (m : Mem) : Prop := ∃ szs nd df, RowsM p v r1 r2 r3 true szs nd df m
theorem RowsM.kept {p : AProg} {v r1 r2 r3 : Nat} {bad : Bool} {szs : List Int} {nd df : List Bool} {m m' : Mem} (h : RowsM p v r1 r2 r3 bad szs nd df m) (k : Kept noS m m') (hw : Wf m) : RowsM p v r1 r2 r3 bad szs nd df m' :=
 ⟨h.row.kept k (h.row.lt hw) id, h.c1.kept k (h.c1.lt hw) id, h.c2.kept k (h.c2.lt hw) id, h.c3.kept k (h.c3.lt hw) id, h.l1, h.l2, h.l3⟩
theorem LookM.kept {p : AProg} {v r1 r2 r3 : Nat} {s : SV} {m m' : Mem} (h : LookM p v r1 r2 r3 s m) (k : Kept noS m m') (hw : Wf m) : LookM p v r1 r2 r3 s m' := by
 obtain ⟨szs, nd, df, R, V⟩ := h
 exact ⟨szs, nd, df, R.kept k hw, V⟩
def LookQ (p : AProg) (v r1 r2 r3 : Nat) : St SV Empty → Mem → Prop
 | .go s, m => LookM p v r1 r2 r3 s m
 | .stop _, _ => False
 | .fail _, m => LookB p v r1 r2 r3 m
abbrev lkS (v r1 r2 r3 : Nat) : Nat → Prop := fun q => q = v ∨ q = r1 ∨ q = r2 ∨ q = r3
def NodeQ (p : AProg) (v r1 r2 r3 : Nat) (m : Mem) (r : St SV Empty) : RR → Prop := fun q => ∃ vv u m', q = .ret vv u m' ∧ Kept (lkS v r1 r2 r3) m m' ∧ LookQ p v r1 r2 r3 r m'
def RNode (fl : Fl) (p : AProg) (v r1 r2 r3 k : Nat) : Prop := ∀ (x : Int × Int) (s : SV) {m : Mem}, muP p s < k → 0 ≤ x.2 → x.2 + 100 * (muP p s : Int) ≤ 2 ^ 38 → Wf m → p.OK m → LookM p v r1 r2 r3 s m → CallQ Tryz.prog fl 26 [.ptr v 0, iv x.1, iv x.2] m (NodeQ p v r1 r2 r3 m (wkN p (stepV p) k x s))
def thenF {α : Type} (f : SV → α → St SV Empty) (r : St SV Empty) (l : List α) : St SV Empty := match r with
 | .go s => foldSt f s l
 | .stop t => .stop t
 | .fail c => .fail c
theorem thenF_cons {α : Type} {f : SV → α → St SV Empty} {s : SV} {a : α} {l : List α} : thenF f (.go s) (a :: l) = thenF f (f s a) l := by
 show foldSt f s (a :: l) = _
 cases h : f s a with
 | go s' => rw [fold_go h]; rfl
 | stop t => exact t.elim
 | fail c => rw [fold_fail h]; rfl
def kidF (p : AProg) (k : Nat) (base : Int) (s : SV) (c : Int × Int) : St SV Empty := wkN p (stepV p) k (c.1, base + c.2) s
theorem kid_mu {p : AProg} {k : Nat} {base : Int} {s s' : SV} {c : Int × Int} (h : kidF p k base s c = .go s') : muP p s' ≤ muP p s := wk_mu (fun _s _x _s' h => step_mu (stepV_go h)) k _ s s' h
theorem take_last {row : List AVal} {k : Nat} {x y z : AVal} (h : takeN 3 (dropN row k) = some [x, y, z]) : takeN 1 (dropN row (k + 2)) = some [z] := by
 obtain ⟨_, h2⟩ := takeN_spec _ _ _ h
 obtain ⟨_, hz⟩ := h2 2 z rfl
 have e : (dropN row k).drop 2 = dropN row (k + 2) := by rw [dropN_eq, dropN_eq, List.drop_drop]
 rw [← e]
 exact takeN_sub h (off := 2) (by show takeN 1 [z] = _; rw [takeN_cons, hz]; rfl)
abbrev drP : List Bool := [true, false, true, false, false]
variable {fl : Fl} (hfl : Tab fl)
include hfl
theorem rd_rules {p : AProg} {v r1 r2 r3 r4 kf : Nat} {base : Int} {d : ADf} (ih0 : RNode fl p v r1 r2 r3 kf) (hO : OwnOK d) (hm : 0 ≤ moreD d ∧ moreD d ≤ 60) (hb0 : 0 ≤ base) (hb1 : base ≤ 2 ^ 38) (h4 : ¬ lkS v r1 r2 r3 r4) (_cf : isCell p.fv = true) (_cn : isCell p.nv = true) (_cd : isCell p.dv = true) (k : List AItem) {Q : RR → Prop} {up : Chain} : ∀ (rest pre : List ARule) (r : St SV Empty) {m : Mem} (b : T AVal), d.rules = pre ++ rest → Wf m → LookQ p v r1 r2 r3 r m → d.OK m → p.OK m → Cel m r4 d.cells → (∀ s, r = .go s → muP p s < kf ∧ base + 100 + 100 * (muP p s : Int) ≤ 2 ^ 38) → getT b 0 = .ptr v 0 → getT b 2 = iv (base + moreD d) → getT b 4 = .ptr r4 0 → getT b 6 = goI pre.length →
  (∀ (m' : Mem) (b' : T AVal), Kept (lkS v r1 r2 r3) m m' → LookQ p v r1 r2 r3 (thenF (kidF p kf base) r (rest.map (ownR d))) m' → getT b' 0 = .ptr v 0 → getT b' 2 = iv (base + moreD d) → getT b' 4 = .ptr r4 0 → Wp Tryz.prog fl (At ⟨50, 62, false, none⟩ k b' [] .run up m') Q) →
  Wp Tryz.prog fl (At ⟨50, 62, false, none⟩ (.code (cAt drP (bodyF Tryz.f50)) :: .inLoop (cAt drP (bodyF Tryz.f50)) :: .inBlock 0 :: k) (sets 62 b []) [] .run up m) Q := by
 intro rest
 induction rest with
 | nil =>
  intro pre r m b hsp hw hl hd hp hc4 hmu k0 k2 k4 k6 hk
  have hlt : decide (Int.ofNat pre.length < Int.ofNat d.rules.length) = false := by rw [hsp]; simp
  have cr := hd.r.cell
  have lr : ∀ m', lenSl m' d.rv = .val (goI d.rules.length) m' := hd.r.lenM
  obtain ⟨⟨e4, h4r⟩, f4⟩ := hc4
  have h4r : m.heap.get r4 = some (.row e4 [d.cv, d.sv, d.rv] r4 0) := h4r
  have er : thenF (kidF p kf base) r (([] : List ARule).map (ownR d)) = r := by cases r <;> rfl
  rw [er] at hk
  refine gg ?_
  refine Wp.gen (fun b' eb => ?_)
  exact hk _ b' (Kept.refl hw) hl (eqb eb (e_base rfl k0)) (eqb eb (e_base rfl k2)) (eqb eb (e_base rfl k4))
 | cons y rest ih =>
  intro pre r m b hsp hw hl hd hp hc4 hmu k0 k2 k4 k6 hk
  have hlt : decide (Int.ofNat pre.length < Int.ofNat d.rules.length) = true := by rw [hsp]; simp; omega
  have cr := hd.r.cell
  have lr : ∀ m', lenSl m' d.rv = .val (goI d.rules.length) m' := hd.r.lenM
  have hc40 := hc4
  have l4 := hc4.lt hw
  obtain ⟨⟨e4, h4r⟩, f4⟩ := hc4
  have h4r : m.heap.get r4 = some (.row e4 [d.cv, d.sv, d.rv] r4 0) := h4r
  cases r with
  | stop t => exact t.elim
  | fail c =>
   obtain ⟨szs, nd, df, R⟩ := hl
   have hl : LookQ p v r1 r2 r3 (.fail c) m := ⟨szs, nd, df, R⟩
   obtain ⟨⟨ev, hvr⟩, fv⟩ := R.row
   have hvr : m.heap.get v = some (.row ev [p.fv, p.nv, p.dv, iv p.main, .slice r1 0 p.nodes.length p.nodes.length true, .slice r2 0 p.nodes.length p.nodes.length true, .slice r3 0 p.defs.length p.defs.length true, .lit (.bool true)] v 0) := hvr
   refine gg ?_
   refine Wp.gen (fun b' eb => ?_)
   exact hk _ b' (Kept.refl hw) hl (eqb eb (e_base rfl k0)) (eqb eb (e_base rfl k2)) (eqb eb (e_base rfl k4))
  | go s =>
   have k2' := k2
   obtain ⟨szs, nd, df, R, V⟩ := hl
   have hl : LookM p v r1 r2 r3 s m := ⟨szs, nd, df, R, V⟩
   obtain ⟨⟨ev, hvr⟩, fv⟩ := R.row
   have hvr : m.heap.get v = some (.row ev [p.fv, p.nv, p.dv, iv p.main, .slice r1 0 p.nodes.length p.nodes.length true, .slice r2 0 p.nodes.length p.nodes.length true, .slice r3 0 p.defs.length p.defs.length true, .lit (.bool false)] v 0) := hvr
   have hsl := hd.r
   have hln := hsl.lnT hsp
   have hym : y ∈ d.rules := by simp [hsp]
   have hy := hd.j y hym
   have hyO := hO.j y hym
   have hbr := brought_le hO.c y.joins
   have ad : allCells [d.cv, d.sv, d.rv] = true := ac1 hd.c.cell (ac1 hd.s.cell (ac1 cr rfl))
   have hyj : SlA m y.jv 1 (y.joins.map icells) := hy
   have cy := hyj.cell
   obtain ⟨hmu1, hmu2⟩ := hmu s rfl
   obtain ⟨rr, off, c0, ex, row, hv, hlx, hr, htk⟩ := hsl.here hsp
   have htk : takeN 3 (dropN row (off + pre.length * 3)) = some [iv y.at_, y.jv, iv y.node] := htk
   have K : Kept (fun q => m.next ≤ q ∨ (lkS v r1 r2 r3) q) m m := Kept.refl hw
   have kk := Kept.refl (S := noS) hw
   refine gg ?_
   refine w_draw (.L 0 0 0 (.L 1 0 0 (.L 2 2 1 (.L 3 0 0 (.L 4 14 0 (.L 5 30 0 (.L 6 62 1 (.L 7 0 0 (.L 8 0 1 (.L 9 0 0 (.L 10 512 1 (.L 11 0 0 (.L 12 3584 0 (.L 13 7680 1 (.H 14 16128 3 (.L 15 32640 0 (.H 16 65535 3 .fin))))))))))))))))) rfl (by kernel_rfl) ?_
   refine gg ?_
   have ht2 := take_last htk
   have md : moreD d + broughtF d.chans y.joins = moreD d + broughtF d.chans y.joins := rfl
   have b1 : -(2 ^ 62) ≤ base + moreD d + broughtF d.chans y.joins := by omega
   have b2 : base + moreD d + broughtF d.chans y.joins < 2 ^ 62 := by omega
   refine d_light0 rfl rfl rfl rfl (o_indexAddr ((e_hit rfl).trans hv) v0 ElF.h hlx) ?_
   refine gg ?_
   refine d_light1 rfl rfl rfl rfl (o_loadRo1 v0 hr TyF.h TyF.z ht2) ?_
   refine gg ?_
   refine d_light1 rfl rfl rfl rfl (o_loadRowA (off := 0) (e_base rfl k4) h4r TyF.h (TyF.z (g := true)) (takeW rfl ad)) ?_
   refine gg ?_
   refine d_light0 rfl rfl rfl rfl (o_indexAddr ((e_hit rfl).trans hv) v0 ElF.h hlx) ?_
   refine d_light1 rfl rfl rfl rfl (o_loadRoA v0 hr (TyF.h (s := _)) (TyF.z (g := true)) htk) ?_
   refine d_callE K kk (o_calls (me2 v0 v0)) (more_ok hfl (d := d) (r := y) hd hy hO.c hyO.1 (by omega) K.wf) (lk_skip (by kernel_rfl) (lk_skip (by kernel_rfl) (lk_skip (by kernel_rfl) (lk_keep (by kernel_rfl) (lk_keep (by kernel_rfl) lk0))))) (fun m1 K kk => ?_)
   refine ⟨(ck_skip (by kernel_rfl) (ck_skip (by kernel_rfl) (ck_skip (by kernel_rfl) (ck_one (o_loadRo1 v0 (kk.ro _ _ hr) TyF.h TyF.z ht2) (aq_int _ _) (ck_one (o_loadRow v0 ((kk.get r4 l4 id).trans h4r) TyF.h TyF.z rfl (np_cell cr)) (aq_slA hd.r) ck0))))), ?_⟩
   refine d_light0 rfl rfl rfl rfl (o_addI v0 v0 b1 b2) ?_
   have kn := K.out
   have k1 : Kept noS m m1 := kk
   refine d_call rfl rfl rfl rfl (o_calls (me3 v0 v0 v0)) (by
    have e : base + moreD d + broughtF d.chans y.joins = base + (moreD d + broughtF d.chans y.joins) := by omega
    rw [e]
    exact ih0 (y.node, base + (moreD d + broughtF d.chans y.joins)) s hmu1 (by show 0 ≤ base + _; omega) (by show base + _ + _ ≤ _; omega) K.wf (hp.kept K) (hl.kept k1 hw)) (lk_skip (by kernel_rfl) (lk_skip (by kernel_rfl) lk0)) ?_ (by rintro _ _ _ ⟨_, _, _, h, _⟩; cases h)
   rintro _ _ m2 ⟨_, _, _, hret, k2, hl2⟩
   cases hret
   refine ⟨(ck_skip (by kernel_rfl) (ck_skip (by kernel_rfl) ck0)), ?_⟩
   have km : Kept (lkS v r1 r2 r3) m m2 := kn.trans k2
   refine gg ?_
   refine w_inLoop ?_
   refine Wp.gen (fun b' eb => ?_)
   rw [List.map_cons, thenF_cons] at hk
   exact ih (pre ++ [y]) (kidF p kf base s (ownR d y)) b' (by rw [hsp]; simp) k2.wf hl2 (hd.kept km) (hp.kept km) (hc40.kept km l4 h4) (fun s' e => by
    have := kid_mu e
    exact ⟨by omega, by omega⟩) (eqb eb (e_base rfl k0)) (eqb eb (e_base rfl k2')) (eqb eb (e_base rfl k4)) (eqb eb ((e_hit rfl).trans (by rw [List.length_append]; rfl))) (fun m' b' k h => hk m' b' (km.trans k) h)
end
noncomputable section
abbrev dsP : List Bool := [true, true, true, false, false]
theorem thenF_append {α : Type} {f : SV → α → St SV Empty} : ∀ (l1 l2 : List α) (r : St SV Empty), thenF f r (l1 ++ l2) = thenF f (thenF f r l1) l2
 | [], l2, r => by cases r <;> rfl
 | a :: l1, l2, .go s => by rw [List.cons_append, thenF_cons, thenF_cons]; exact thenF_append l1 l2 _
 | a :: l1, l2, .stop t => rfl
 | a :: l1, l2, .fail c => rfl
variable {fl : Fl} (hfl : Tab fl)
include hfl
theorem rd_spots {p : AProg} {v r1 r2 r3 r4 kf : Nat} {base : Int} {d : ADf} (ih0 : RNode fl p v r1 r2 r3 kf) (hm : 0 ≤ moreD d ∧ moreD d ≤ 60) (hb0 : 0 ≤ base) (hb1 : base ≤ 2 ^ 38) (h4 : ¬ lkS v r1 r2 r3 r4) (_cf : isCell p.fv = true) (_cn : isCell p.nv = true) (_cd : isCell p.dv = true) (k : List AItem) {Q : RR → Prop} {up : Chain} : ∀ (rest pre : List ASpot) (r : St SV Empty) {m : Mem} (b : T AVal), d.spots = pre ++ rest → Wf m → LookQ p v r1 r2 r3 r m → d.OK m → p.OK m → Cel m r4 d.cells → (∀ s, r = .go s → muP p s < kf ∧ base + 100 + 100 * (muP p s : Int) ≤ 2 ^ 38) → getT b 0 = .ptr v 0 → getT b 2 = iv (base + moreD d) → getT b 4 = .ptr r4 0 → getT b 7 = goI pre.length →
  (∀ (m' : Mem) (b' : T AVal), Kept (lkS v r1 r2 r3) m m' → LookQ p v r1 r2 r3 (thenF (kidF p kf base) r (rest.map (fun x => (x.node, moreD d)))) m' → getT b' 0 = .ptr v 0 → getT b' 2 = iv (base + moreD d) → getT b' 4 = .ptr r4 0 → Wp Tryz.prog fl (At ⟨50, 62, false, none⟩ k b' [] .run up m') Q) →
  Wp Tryz.prog fl (At ⟨50, 62, false, none⟩ (.code (cAt dsP (bodyF Tryz.f50)) :: .inLoop (cAt dsP (bodyF Tryz.f50)) :: .inBlock 2 :: k) (sets 62 b []) [] .run up m) Q := by
 have _ := hfl
 intro rest
 induction rest with
 | nil =>
  intro pre r m b hsp hw hl hd hp hc4 hmu k0 k2 k4 k6 hk
  have hlt : decide (Int.ofNat pre.length < Int.ofNat d.spots.length) = false := by rw [hsp]; simp
  have cr := hd.s.cell
  have lr : ∀ m', lenSl m' d.sv = .val (goI d.spots.length) m' := hd.s.lenM
  obtain ⟨⟨e4, h4r⟩, f4⟩ := hc4
  have h4r : m.heap.get r4 = some (.row e4 [d.cv, d.sv, d.rv] r4 0) := h4r
  have er : thenF (kidF p kf base) r (([] : List ASpot).map (fun x => (x.node, moreD d))) = r := by cases r <;> rfl
  rw [er] at hk
  refine gg ?_
  refine Wp.gen (fun b' eb => ?_)
  exact hk _ b' (Kept.refl hw) hl (eqb eb (e_base rfl k0)) (eqb eb (e_base rfl k2)) (eqb eb (e_base rfl k4))
 | cons y rest ih =>
  intro pre r m b hsp hw hl hd hp hc4 hmu k0 k2 k4 k6 hk
  have hlt : decide (Int.ofNat pre.length < Int.ofNat d.spots.length) = true := by rw [hsp]; simp; omega
  have cr := hd.s.cell
  have lr : ∀ m', lenSl m' d.sv = .val (goI d.spots.length) m' := hd.s.lenM
  have hc40 := hc4
  have l4 := hc4.lt hw
  obtain ⟨⟨e4, h4r⟩, f4⟩ := hc4
  have h4r : m.heap.get r4 = some (.row e4 [d.cv, d.sv, d.rv] r4 0) := h4r
  cases r with
  | stop t => exact t.elim
  | fail c =>
   obtain ⟨szs, nd, df, R⟩ := hl
   have hl : LookQ p v r1 r2 r3 (.fail c) m := ⟨szs, nd, df, R⟩
   obtain ⟨⟨ev, hvr⟩, fv⟩ := R.row
   have hvr : m.heap.get v = some (.row ev [p.fv, p.nv, p.dv, iv p.main, .slice r1 0 p.nodes.length p.nodes.length true, .slice r2 0 p.nodes.length p.nodes.length true, .slice r3 0 p.defs.length p.defs.length true, .lit (.bool true)] v 0) := hvr
   refine gg ?_
   refine Wp.gen (fun b' eb => ?_)
   exact hk _ b' (Kept.refl hw) hl (eqb eb (e_base rfl k0)) (eqb eb (e_base rfl k2)) (eqb eb (e_base rfl k4))
  | go s =>
   have k2' := k2
   obtain ⟨szs, nd, df, R, V⟩ := hl
   have hl : LookM p v r1 r2 r3 s m := ⟨szs, nd, df, R, V⟩
   obtain ⟨⟨ev, hvr⟩, fv⟩ := R.row
   have hvr : m.heap.get v = some (.row ev [p.fv, p.nv, p.dv, iv p.main, .slice r1 0 p.nodes.length p.nodes.length true, .slice r2 0 p.nodes.length p.nodes.length true, .slice r3 0 p.defs.length p.defs.length true, .lit (.bool false)] v 0) := hvr
   have hsl := hd.s
   have hln := hsl.lnT hsp
   obtain ⟨hmu1, hmu2⟩ := hmu s rfl
   obtain ⟨rr, off, c0, ex, row, hv, hlx, hr, htk⟩ := hsl.here hsp
   have htk : takeN 2 (dropN row (off + pre.length * 2)) = some [iv y.inn, iv y.node] := htk
   obtain ⟨ht0, ht1⟩ := take_two htk
   refine gg ?_
   refine s_val rfl rfl rfl rfl (o_indexAddr ((e_hit rfl).trans hv) v0 ElF.h hlx) ?_
   refine gg ?_
   refine s_val rfl rfl rfl rfl (o_loadRo1 v0 hr TyF.h TyF.z ht1) ?_
   refine gg ?_
   refine s_call rfl rfl rfl rfl (o_calls (me3 v0 v0 v0)) (ih0 (y.node, base + moreD d) s hmu1 (by show 0 ≤ base + _; omega) (by show base + _ + _ ≤ _; omega) hw hp hl) ?_ (by rintro _ _ _ ⟨_, _, _, h, _⟩; cases h)
   rintro _ _ m2 ⟨_, _, _, hret, km, hl2⟩
   cases hret
   refine gg ?_
   refine w_inLoop ?_
   refine Wp.gen (fun b' eb => ?_)
   rw [List.map_cons, thenF_cons] at hk
   exact ih (pre ++ [y]) (kidF p kf base s (y.node, moreD d)) b' (by rw [hsp]; simp) km.wf hl2 (hd.kept km) (hp.kept km) (hc40.kept km l4 h4) (fun s' e => by
    have := kid_mu e
    exact ⟨by omega, by omega⟩) (eqb eb (e_base rfl k0)) (eqb eb (e_base rfl k2')) (eqb eb (e_base rfl k4)) (eqb eb ((e_hit rfl).trans (by rw [List.length_append]; rfl))) (fun m' b' k h => hk m' b' (km.trans k) h)
def defL (d : ADf) : List (Int × Int) := d.rules.map (ownR d) ++ d.spots.map (fun x => (x.node, moreD d))
theorem rdefn_ok {p : AProg} {v r1 r2 r3 kf : Nat} {base : Int} {d : ADf} (ih0 : RNode fl p v r1 r2 r3 kf) (hO : OwnOK d) (hm : 0 ≤ moreD d ∧ moreD d ≤ 60) (hb0 : 0 ≤ base) (hb1 : base ≤ 2 ^ 38) (r : St SV Empty) {m : Mem} (hw : Wf m) (hl : LookQ p v r1 r2 r3 r m) (hlt4 : v < m.next ∧ r1 < m.next ∧ r2 < m.next ∧ r3 < m.next) (hd : d.OK m) (hp : p.OK m) (hmu : ∀ s, r = .go s → muP p s < kf ∧ base + 100 + 100 * (muP p s : Int) ≤ 2 ^ 38) : CallQ Tryz.prog fl 50 [.ptr v 0, .agg d.cells, iv (base + moreD d)] m (NodeQ p v r1 r2 r3 m (thenF (kidF p kf base) r (defL d))) := by
 have cf := hp.f.cell
 have cn := hp.n.cell
 have cd := hp.d.cell
 refine hfl.start (by decide) 62 Tryz.func50 rfl rfl (Nat.le_of_ble_eq_true rfl) ?_
 intro bs hb
 have ar0 := hb 0 _ rfl
 have ar1 := hb 1 _ rfl
 have ar2 := hb 2 _ rfl
 clear hb
 have K : Kept (fun q => m.next ≤ q ∨ noS q) m m := Kept.refl hw
 refine gg ?_
 refine s_new rfl rfl rfl rfl (o_box (e_base rfl ar1) rfl) (fun m1 g => ?_)
 have n1 := g.next
 have h1 := g.same
 have f1 := g.fam0 K.wf
 have K := K.g g
 have ko := K.out
 have k0 : Kept noS m m1 := ko
 have hl1 : LookQ p v r1 r2 r3 r m1 := by
  cases r with
  | go s => exact LookM.kept hl k0 hw
  | stop t => exact t.elim
  | fail c => obtain ⟨szs, nd, df, R⟩ := hl; exact ⟨szs, nd, df, R.kept k0 hw⟩
 have h4 : ¬ lkS v r1 r2 r3 m.next := by rintro (h | h | h | h) <;> omega
 refine gg ?_
 refine w_loop ?_
 refine Wp.gen (fun b1 eb => ?_)
 have x0 : getT b1 0 = .ptr v 0 := eqb eb (e_base rfl ar0)
 have x2 : getT b1 2 = iv (base + moreD d) := eqb eb (e_base rfl ar2)
 have x4 : getT b1 4 = .ptr m.next 0 := eqb eb v0
 change Wp Tryz.prog fl (At _ _ (sets 62 b1 []) _ _ _ _) _
 refine rd_rules hfl ih0 hO hm hb0 hb1 h4 cf cn cd _ d.rules [] r b1 rfl K.wf hl1 (hd.kept ko) (hp.kept ko) (Cel.of h1 f1) hmu x0 x2 x4 (eqb eb v0) (fun m2 b2 k2 hl2 x0 x2 x4 => ?_)
 have k02 := (k0.mono (fun _ _ h => h.elim)).trans k2
 change Wp Tryz.prog fl (At _ _ (sets 62 b2 []) _ _ _ _) _
 refine gg ?_
 refine w_loop ?_
 refine Wp.gen (fun b3 eb => ?_)
 have x0 : getT b3 0 = .ptr v 0 := eqb eb (e_base rfl x0)
 have x2 : getT b3 2 = iv (base + moreD d) := eqb eb (e_base rfl x2)
 have x4 : getT b3 4 = .ptr m.next 0 := eqb eb (e_base rfl x4)
 change Wp Tryz.prog fl (At _ _ (sets 62 b3 []) _ _ _ _) _
 have c4 := (Cel.of h1 f1).kept k2 (by omega) h4
 refine rd_spots hfl ih0 hm hb0 hb1 h4 cf cn cd _ d.spots [] (thenF (kidF p kf base) r (d.rules.map (ownR d))) b3 rfl k2.wf hl2 (hd.kept k02) (hp.kept k02) c4 (fun s' e => ?_) x0 x2 x4 (eqb eb v0) (fun m3 b4 k3 hl3 x0 x2 x4 => ?_)
 ·cases r with
  | go s =>
   have key : ∀ (l : List (Int × Int)) (a : SV), foldSt (kidF p kf base) a l = .go s' → muP p s' ≤ muP p a := by
    intro l
    induction l with
    | nil => intro a h; cases h; exact Nat.le_refl _
    | cons c l ih =>
     intro a h
     cases e2 : kidF p kf base a c with
     | go a2 => rw [fold_go e2] at h; exact Nat.le_trans (ih a2 h) (kid_mu e2)
     | stop t => exact t.elim
     | fail c => rw [fold_fail e2] at h; cases h
   have h1 := key _ _ e
   have h2 := hmu s rfl
   exact ⟨by omega, by omega⟩
  | stop t => exact t.elim
  | fail c => cases e
 change Wp Tryz.prog fl (At _ _ (sets 62 b4 []) _ _ _ _) _
 refine w_fall rfl ?_
 refine w_results Tryz.func50 rv0 ?_
 rw [← thenF_append] at hl3
 exact ⟨_, _, _, rfl, k02.trans k3, hl3⟩
end
noncomputable section
abbrev kiP : List Bool := [true, true, true, true, true, true, true, true, true, true, false, false]
variable {fl : Fl} (hfl : Tab fl)
include hfl
theorem rn_kids {p : AProg} {v r1 r2 r3 r4 kf : Nat} {base : Int} {els : List Int} {w op n : Int} {av kv : AVal} (ih0 : RNode fl p v r1 r2 r3 kf) (hm : 0 ≤ w ∧ w ≤ 60) (hb0 : 0 ≤ base) (hb1 : base ≤ 2 ^ 38) (h4 : ¬ lkS v r1 r2 r3 r4) (_cf : isCell p.fv = true) (_cn : isCell p.nv = true) (_cd : isCell p.dv = true) (k : List AItem) {Q : RR → Prop} {up : Chain} : ∀ (rest pre : List Int) (r : St SV Empty) {m : Mem} (b : T AVal), els = pre ++ rest → Wf m → LookQ p v r1 r2 r3 r m → SlA m kv 1 (els.map icells) → p.OK m → Cel m r4 [iv op, iv n, av, kv] → (∀ s, r = .go s → muP p s < kf ∧ base + 100 + 100 * (muP p s : Int) ≤ 2 ^ 38) → getT b 0 = .ptr v 0 → getT b 11 = iv (base + w) → getT b 6 = .ptr r4 0 → getT b 12 = goI pre.length →
  (∀ (m' : Mem) (b' : T AVal), Kept (lkS v r1 r2 r3) m m' → LookQ p v r1 r2 r3 (thenF (kidF p kf base) r (rest.map (fun x => (x, w)))) m' → getT b' 0 = .ptr v 0 → getT b' 11 = iv (base + w) → getT b' 6 = .ptr r4 0 → Wp Tryz.prog fl (At ⟨26, 249, false, none⟩ k b' [] .run up m') Q) →
  Wp Tryz.prog fl (At ⟨26, 249, false, none⟩ (.code (cAt kiP (bodyF Tryz.f26)) :: .inLoop (cAt kiP (bodyF Tryz.f26)) :: .inBlock 3 :: k) (sets 249 b []) [] .run up m) Q := by
 have _ := hfl
 intro rest
 induction rest with
 | nil =>
  intro pre r m b hsp hw hl hd hp hc4 hmu k0 k2 k4 k6 hk
  have hlt : decide (Int.ofNat pre.length < Int.ofNat els.length) = false := by rw [hsp]; simp
  have cr := hd.cell
  have lr : ∀ m', lenSl m' kv = .val (goI els.length) m' := hd.lenM
  obtain ⟨⟨e4, h4r⟩, f4⟩ := hc4
  have h4r : m.heap.get r4 = some (.row e4 [iv op, iv n, av, kv] r4 0) := h4r
  have er : thenF (kidF p kf base) r (([] : List Int).map (fun x => (x, w))) = r := by cases r <;> rfl
  rw [er] at hk
  refine gg ?_
  refine Wp.gen (fun b' eb => ?_)
  exact hk _ b' (Kept.refl hw) hl (eqb eb (e_base rfl k0)) (eqb eb (e_base rfl k2)) (eqb eb (e_base rfl k4))
 | cons y rest ih =>
  intro pre r m b hsp hw hl hd hp hc4 hmu k0 k2 k4 k6 hk
  have hlt : decide (Int.ofNat pre.length < Int.ofNat els.length) = true := by rw [hsp]; simp; omega
  have cr := hd.cell
  have lr : ∀ m', lenSl m' kv = .val (goI els.length) m' := hd.lenM
  have hc40 := hc4
  have l4 := hc4.lt hw
  obtain ⟨⟨e4, h4r⟩, f4⟩ := hc4
  have h4r : m.heap.get r4 = some (.row e4 [iv op, iv n, av, kv] r4 0) := h4r
  cases r with
  | stop t => exact t.elim
  | fail c =>
   obtain ⟨szs, nd, df, R⟩ := hl
   have hl : LookQ p v r1 r2 r3 (.fail c) m := ⟨szs, nd, df, R⟩
   obtain ⟨⟨ev, hvr⟩, fv⟩ := R.row
   have hvr : m.heap.get v = some (.row ev [p.fv, p.nv, p.dv, iv p.main, .slice r1 0 p.nodes.length p.nodes.length true, .slice r2 0 p.nodes.length p.nodes.length true, .slice r3 0 p.defs.length p.defs.length true, .lit (.bool true)] v 0) := hvr
   refine gg ?_
   refine Wp.gen (fun b' eb => ?_)
   exact hk _ b' (Kept.refl hw) hl (eqb eb (e_base rfl k0)) (eqb eb (e_base rfl k2)) (eqb eb (e_base rfl k4))
  | go s =>
   have k2' := k2
   obtain ⟨szs, nd, df, R, V⟩ := hl
   have hl : LookM p v r1 r2 r3 s m := ⟨szs, nd, df, R, V⟩
   obtain ⟨⟨ev, hvr⟩, fv⟩ := R.row
   have hvr : m.heap.get v = some (.row ev [p.fv, p.nv, p.dv, iv p.main, .slice r1 0 p.nodes.length p.nodes.length true, .slice r2 0 p.nodes.length p.nodes.length true, .slice r3 0 p.defs.length p.defs.length true, .lit (.bool false)] v 0) := hvr
   have hsl := hd
   have hln := hsl.lnT hsp
   obtain ⟨hmu1, hmu2⟩ := hmu s rfl
   obtain ⟨rr, off, c0, ex, row, hv, hlx, hr, htk⟩ := hsl.here hsp
   refine gg ?_
   refine s_val rfl rfl rfl rfl (o_indexAddr ((e_hit rfl).trans hv) v0 ElF.h hlx) ?_
   refine gg ?_
   refine s_val rfl rfl rfl rfl (o_loadRo1 v0 hr TyF.h TyF.z (by rw [Nat.mul_one] at htk ⊢; exact htk)) ?_
   refine gg ?_
   refine s_call rfl rfl rfl rfl (o_calls (me3 v0 v0 v0)) (ih0 (y, base + w) s hmu1 (by show 0 ≤ base + _; omega) (by show base + _ + _ ≤ _; omega) hw hp hl) ?_ (by rintro _ _ _ ⟨_, _, _, h, _⟩; cases h)
   rintro _ _ m2 ⟨_, _, _, hret, km, hl2⟩
   cases hret
   refine gg ?_
   refine w_inLoop ?_
   refine Wp.gen (fun b' eb => ?_)
   rw [List.map_cons, thenF_cons] at hk
   exact ih (pre ++ [y]) (kidF p kf base s (y, w)) b' (by rw [hsp]; simp) km.wf hl2 (hd.kept km) (hp.kept km) (hc40.kept km l4 h4) (fun s' e => by
    have := kid_mu e
    exact ⟨by omega, by omega⟩) (eqb eb (e_base rfl k0)) (eqb eb (e_base rfl k2')) (eqb eb (e_base rfl k4)) (eqb eb ((e_hit rfl).trans (by rw [List.length_append]; rfl))) (fun m' b' k h => hk m' b' (km.trans k) h)
end
noncomputable section
def refShape (op : Int) (la lk : Nat) : Bool := ((shapeF op).2.2 && (Int.ofNat lk == (shapeF op).2.1)) && (if (shapeF op).1 < 0 then decide (Int.ofNat la ≤ 3) else Int.ofNat la == (shapeF op).1)
def refN (nd sz op n : Int) : Bool := if op = 2 ∨ op = 6 ∨ op = 8 then decide (0 ≤ n) && decide (n < sz) else if op = 4 then decide (0 ≤ n) && decide (n < nd) else n == 0
theorem node_split (nd sz op n : Int) (la lk : Nat) : nodeB nd sz op n la lk = (refShape op la lk && refN nd sz op n) := by
 by_cases hh : op = 1 ∨ op = 2 ∨ op = 3 ∨ op = 4 ∨ op = 5 ∨ op = 6 ∨ op = 7 ∨ op = 8
 ·rw [Bool.eq_iff_iff]
  rcases hh with rfl | rfl | rfl | rfl | rfl | rfl | rfl | rfl
  all_goals
   unfold nodeB refShape refN shapeF
   simp only [Bool.and_eq_true, beq_iff_eq, decide_eq_true_eq, Int.reduceEq, or_false, or_true, if_true, if_false, Int.reduceLT, true_and, Int.ofNat_eq_natCast, or_self]
   omega
 ·have es : shapeF op = (0, 0, false) := by
   unfold shapeF
   rw [if_neg (by omega), if_neg (by omega), if_neg (by omega), if_neg (by omega), if_neg (by omega)]
  have e1 : nodeB nd sz op n la lk = false := by
   unfold nodeB
   rw [if_neg (by omega), if_neg (by omega), if_neg (by omega), if_neg (by omega), if_neg (by omega), if_neg (by omega)]
  rw [e1]
  unfold refShape
  rw [es]; rfl
theorem step_ref {p : AProg} (hD : ∀ d, d ∈ p.defs → defB d = true) (s : SV) (x : Int × Int) : (stepO p s x).isSome = ((decide (0 ≤ x.1) && decide (x.1 < Int.ofNat p.nodes.length)) && !inI x.1 s.1.1 && (refShape (ndAt p x.1).op (ndAt p x.1).args.length (ndAt p x.1).kids.length && (!argsBad x.2 (ndAt p x.1).args && (refN p.defs.length x.2 (ndAt p x.1).op (ndAt p x.1).n && (!decide ((ndAt p x.1).op = 4) || !inI (ndAt p x.1).n s.2.1))))) := by
 unfold stepO
 have e1 : decide (x.1 ≤ Int.ofNat p.nodes.length - 1) = decide (x.1 < Int.ofNat p.nodes.length) := by rw [decide_eq_decide]; omega
 have e2 : (ndAt p x.1).args.all (argB x.2) = !argsBad x.2 (ndAt p x.1).args := by
  unfold argsBad
  rw [List.any_eq_not_all_not, Bool.not_not]
  congr 1; funext e; rw [Bool.not_not]
 rw [e1, e2, node_split]
 cases hA : (decide (0 ≤ x.1) && decide (x.1 < Int.ofNat p.nodes.length)) && !inI x.1 s.1.1 with
 | false => rfl
 | true =>
  cases hB : refShape (ndAt p x.1).op (ndAt p x.1).args.length (ndAt p x.1).kids.length with
  | false => rfl
  | true =>
   cases hC : argsBad x.2 (ndAt p x.1).args with
   | true => simp
   | false =>
    cases hE : refN p.defs.length x.2 (ndAt p x.1).op (ndAt p x.1).n with
    | false => rfl
    | true =>
     show (kidsB p x s).isSome = _
     unfold kidsB
     by_cases h4 : (ndAt p x.1).op = 4
     ·rw [if_pos h4]
      unfold refN at hE
      rw [if_neg (by omega), if_pos h4, Bool.and_eq_true, decide_eq_true_eq, decide_eq_true_eq] at hE
      have hd : defB (dfAt p (ndAt p x.1).n) = true := by
       refine hD _ ?_
       unfold dfAt
       have hl : (ndAt p x.1).n.toNat < p.defs.length := by omega
       rw [List.getD_eq_getElem?_getD, List.getElem?_eq_getElem hl]
       exact List.getElem_mem hl
      rw [hd, Bool.and_true, show decide ((ndAt p x.1).op = 4) = true by simpa using h4]
      cases inI (ndAt p x.1).n s.2.1 <;> rfl
     ·rw [if_neg h4, show decide ((ndAt p x.1).op = 4) = false by simpa using h4]; rfl
end
noncomputable section
structure Dist (v r1 r2 r3 : Nat) : Prop where
 h : v ≠ r1 ∧ v ≠ r2 ∧ v ≠ r3 ∧ r1 ≠ r2 ∧ r1 ≠ r3 ∧ r2 ≠ r3
section
variable {p : AProg} {v r1 r2 r3 : Nat} {bad : Bool} {szs : List Int} {nd df : List Bool} {m m' : Mem}
theorem Cel.wo {r q : Nat} {o : AObj} {cells : List AVal} (h : Cel m q cells) (g : Wrote m m' r o) (hne : q ≠ r) : Cel m' q cells := by
 obtain ⟨⟨e, h1⟩, h2⟩ := h
 exact Cel.of ((g.other q hne).trans h1) ((g.famo q).trans h2)
theorem RowsM.setBad {e : Elem} {b : Bool} (D : Dist v r1 r2 r3) (h : RowsM p v r1 r2 r3 bad szs nd df m) (g : Wrote m m' v (.row e (lookC p r1 r2 r3 b) v 0)) : RowsM p v r1 r2 r3 b szs nd df m' := by
 obtain ⟨d1, d2, d3, d4, d5, d6⟩ := D.h
 exact ⟨Cel.of g.same ((g.famo v).trans h.row.fam), h.c1.wo g (by omega), h.c2.wo g (by omega), h.c3.wo g (by omega), h.l1, h.l2, h.l3⟩
theorem RowsM.set1 {e : Elem} {szs' : List Int} (D : Dist v r1 r2 r3) (h : RowsM p v r1 r2 r3 bad szs nd df m) (hl : szs'.length = szs.length) (g : Wrote m m' r1 (.row e (szs'.map iv) r1 0)) : RowsM p v r1 r2 r3 bad szs' nd df m' := by
 obtain ⟨d1, d2, d3, d4, d5, d6⟩ := D.h
 exact ⟨h.row.wo g (by omega), Cel.of g.same ((g.famo r1).trans h.c1.fam), h.c2.wo g (by omega), h.c3.wo g (by omega), hl.trans h.l1, h.l2, h.l3⟩
theorem RowsM.set2 {e : Elem} {nd' : List Bool} (D : Dist v r1 r2 r3) (h : RowsM p v r1 r2 r3 bad szs nd df m) (hl : nd'.length = nd.length) (g : Wrote m m' r2 (.row e (nd'.map cntA) r2 0)) : RowsM p v r1 r2 r3 bad szs nd' df m' := by
 obtain ⟨d1, d2, d3, d4, d5, d6⟩ := D.h
 exact ⟨h.row.wo g (by omega), h.c1.wo g (by omega), Cel.of g.same ((g.famo r2).trans h.c2.fam), h.c3.wo g (by omega), h.l1, hl.trans h.l2, h.l3⟩
theorem RowsM.set3 {e : Elem} {df' : List Bool} (D : Dist v r1 r2 r3) (h : RowsM p v r1 r2 r3 bad szs nd df m) (hl : df'.length = df.length) (g : Wrote m m' r3 (.row e (df'.map cntA) r3 0)) : RowsM p v r1 r2 r3 bad szs nd df' m' := by
 obtain ⟨d1, d2, d3, d4, d5, d6⟩ := D.h
 exact ⟨h.row.wo g (by omega), h.c1.wo g (by omega), h.c2.wo g (by omega), Cel.of g.same ((g.famo r3).trans h.c3.fam), h.l1, h.l2, hl.trans h.l3⟩
theorem RowsM.at2 (h : RowsM p v r1 r2 r3 bad szs nd df m) {i : Nat} (hi : i < p.nodes.length) : getO (nd.map cntA) (0 + i * 1) = some (cntA (nd.getD i false)) := by
 have hl : i < nd.length := by rw [h.l2]; exact hi
 rw [show 0 + i * 1 = i by omega, getO_eq, List.getElem?_map, List.getElem?_eq_getElem hl, List.getD_eq_getElem?_getD, List.getElem?_eq_getElem hl]; rfl
theorem RowsM.at3 (h : RowsM p v r1 r2 r3 bad szs nd df m) {i : Nat} (hi : i < p.defs.length) : getO (df.map cntA) (0 + i * 1) = some (cntA (df.getD i false)) := by
 have hl : i < df.length := by rw [h.l3]; exact hi
 rw [show 0 + i * 1 = i by omega, getO_eq, List.getElem?_map, List.getElem?_eq_getElem hl, List.getD_eq_getElem?_getD, List.getElem?_eq_getElem hl]; rfl
end
theorem stepV_none {p : AProg} {s : SV} {x : Int × Int} (h : (stepO p s x).isSome = false) : stepV p s x = .fail unfC := by
 unfold stepV
 cases e : stepO p s x with
 | none => rfl
 | some s' => rw [e] at h; cases h
theorem wk_fail {p : AProg} {k : Nat} {s : SV} {x : Int × Int} (h : (stepO p s x).isSome = false) : wkN p (stepV p) (k + 1) x s = .fail unfC := by rw [wkN, stepV_none h]
variable {fl : Fl} (hfl : Tab fl)
include hfl
abbrev shP : List Bool := [true, true, true, true, true]
abbrev afP : List Bool := [true, true, true, true, true, true]
theorem rn_shape {p : AProg} {v r1 r2 r3 r6 : Nat} {op nn sa sk : Int} {so : Bool} {av kv x1 x2 : AVal} {args kids : Nat} {m : Mem} {ev e6 : Elem} (hvr : m.heap.get v = some (.row ev (lookC p r1 r2 r3 false) v 0)) (fv : m.fams.get v = none) (h6 : m.heap.get r6 = some (.row e6 [iv op, iv nn, av, kv] r6 0)) (_cf : isCell p.fv = true) (_cn : isCell p.nv = true) (_cd : isCell p.dv = true) (ca : isCell av = true) (ck : isCell kv = true) (la : ∀ m', lenSl m' av = .val (goI args) m') (lk : ∀ m', lenSl m' kv = .val (goI kids) m') {Q : RR → Prop} {up : Chain} (b : T AVal) (k0 : getT b 0 = .ptr v 0) (k1 : getT b 1 = x1) (k2 : getT b 2 = x2) (k6 : getT b 6 = .ptr r6 0) (k7 : getT b 7 = iv sa) (k8 : getT b 8 = iv sk) (k9 : getT b 9 = .lit (.bool so))
  (good : ((so && (Int.ofNat kids == sk)) && (if sa < 0 then decide (Int.ofNat args ≤ 3) else Int.ofNat args == sa)) = true → ∀ b', getT b' 0 = .ptr v 0 → getT b' 1 = x1 → getT b' 2 = x2 → getT b' 6 = .ptr r6 0 → Wp Tryz.prog fl (At ⟨26, 249, false, none⟩ [.code (cAt afP (bodyF Tryz.f26))] b' [] .run up m) Q)
  (bad : ((so && (Int.ofNat kids == sk)) && (if sa < 0 then decide (Int.ofNat args ≤ 3) else Int.ofNat args == sa)) = false → ∀ {mX : Mem} (b' : T AVal), Wrote m mX v (.row ev (lookC p r1 r2 r3 true) v 0) → Wp Tryz.prog fl (At ⟨26, 249, false, none⟩ [] b' [] .returning up mX) Q) :
  Wp Tryz.prog fl (At ⟨26, 249, false, none⟩ [.code (cAt shP (bodyF Tryz.f26))] (sets 249 b []) [] .run up m) Q := by
 have _ := hfl
 have hvr : m.heap.get v = some (.row ev [p.fv, p.nv, p.dv, iv p.main, .slice r1 0 p.nodes.length p.nodes.length true, .slice r2 0 p.nodes.length p.nodes.length true, .slice r3 0 p.defs.length p.defs.length true, .lit (.bool false)] v 0) := hvr
 obtain ⟨kk, ek⟩ : ∃ kk, kk = [AItem.code (cAt afP (bodyF Tryz.f26))] := ⟨_, rfl⟩
 refine w_seq ?_
 change Wp Tryz.prog fl (At ⟨26, 249, false, none⟩ (.code (cAt [true, true, true, true, true, false] (bodyF Tryz.f26)) :: [.code (cAt afP (bodyF Tryz.f26))]) (sets 249 b []) [] .run up m) Q
 rw [← ek] at good ⊢
 cases so with
 | false =>
  refine gg ?_
  refine s_put0 rfl rfl rfl (o_store rfl v0 hvr fv TyF.z rfl rfl rfl rfl) (fun m6 g => ?_)
  refine gg ?_
  refine w_retAt rfl ?_
  exact bad rfl _ g
 | true =>
  rw [Bool.true_and] at good bad
  cases z1 : (Int.ofNat kids == sk) with
  | false =>
   have c1 : (Int.ofNat kids != sk) = true := by unfold bne; rw [z1]; rfl
   rw [z1] at bad
   refine gg ?_
   refine s_put0 rfl rfl rfl (o_store rfl v0 hvr fv TyF.z rfl rfl rfl rfl) (fun m6 g => ?_)
   refine gg ?_
   refine w_retAt rfl ?_
   exact bad rfl _ g
  | true =>
   have c1 : (Int.ofNat kids != sk) = false := by unfold bne; rw [z1]; rfl
   rw [z1, Bool.true_and] at good bad
   by_cases z2 : sa < 0
   ·have c2 : decide (sa < 0) = true := by simpa using z2
    have c3 : decide (sa ≥ 0) = false := by rw [decide_eq_false_iff_not]; omega
    rw [if_pos z2] at good bad
    by_cases z3 : Int.ofNat args > 3
    ·have c4 : decide (Int.ofNat args > 3) = true := by simpa using z3
     refine gg ?_
     refine s_put0 rfl rfl rfl (o_store rfl v0 hvr fv TyF.z rfl rfl rfl rfl) (fun m6 g => ?_)
     refine gg ?_
     refine w_retAt rfl ?_
     exact bad (by rw [decide_eq_false_iff_not]; omega) _ g
    ·have c4 : decide (Int.ofNat args > 3) = false := by rw [decide_eq_false_iff_not]; exact z3
     refine gg ?_
     refine Wp.gen (fun b' eb => ?_)
     exact good (by rw [decide_eq_true_eq]; omega) b' (eqb eb (e_base rfl k0)) (eqb eb (e_base rfl k1)) (eqb eb (e_base rfl k2)) (eqb eb (e_base rfl k6))
   ·have c2 : decide (sa < 0) = false := by rw [decide_eq_false_iff_not]; exact z2
    have c3 : decide (sa ≥ 0) = true := by rw [decide_eq_true_eq]; omega
    rw [if_neg z2] at good bad
    cases z3 : (Int.ofNat args == sa) with
    | false =>
     have c4 : (Int.ofNat args != sa) = true := by unfold bne; rw [z3]; rfl
     refine gg ?_
     refine s_put0 rfl rfl rfl (o_store rfl v0 hvr fv TyF.z rfl rfl rfl rfl) (fun m6 g => ?_)
     refine gg ?_
     refine w_retAt rfl ?_
     exact bad z3 _ g
    | true =>
     have c4 : (Int.ofNat args != sa) = false := by unfold bne; rw [z3]; rfl
     refine gg ?_
     refine Wp.gen (fun b' eb => ?_)
     exact good z3 b' (eqb eb (e_base rfl k0)) (eqb eb (e_base rfl k1)) (eqb eb (e_base rfl k2)) (eqb eb (e_base rfl k6))
end
end Go.Proofs.YtmbeijhnjaadhaaGreat
