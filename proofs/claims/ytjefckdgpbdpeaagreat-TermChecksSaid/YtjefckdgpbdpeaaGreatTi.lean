/- A part of the proof of TermChecks. -/
import Derived.Test.YtjefckdgpbdpeaaGreatTh
namespace Go.Proofs.YtjefckdgpbdpeaaGreat
open Go Go.Abs
open Go.RowKit (Below)
set_option maxRecDepth 10000
noncomputable section
theorem keysE_add {s : ByteArray} {l : List (ByteArray × Nat)} {c : Nat} (h : isIn s (keysE l) = false) : keysE (addE s l c) = keysE l ++ [s] := by
 unfold addE
 rw [h]
 show keysE (l ++ [(s, c)]) = _
 unfold keysE
 rw [List.map_append]; rfl
theorem names_eq : ∀ (names : List ByteArray) (st : Names), (namesF names st).map (fun st => keysE st.1) = rnamesF names (keysE st.1)
 | [], st => rfl
 | s :: r, st => by
  have e1 : namesF (s :: r) st = bif nameB s && !isIn s (keysE st.1) then namesF r (addE s st.1 st.2, addC s st.1 st.2) else none := rfl
  have e2 : rnamesF (s :: r) (keysE st.1) = bif !refNameB s || isIn s (keysE st.1) then none else rnamesF r (keysE st.1 ++ [s]) := rfl
  rw [e1, e2, name_same]
  cases h1 : refNameB s with
  | false => rfl
  | true =>
   cases h2 : isIn s (keysE st.1) with
   | true => rfl
   | false =>
    have := names_eq r (addE s st.1 st.2, addC s st.1 st.2)
    rw [← keysE_add (c := st.2) h2]
    exact this
theorem joins_eq : ∀ (js : List AMs) (st : Names × Names), (joinsF js st).map (fun st => (keysE st.1.1, keysE st.2.1)) = rjoinsF js (keysE st.1.1) (keysE st.2.1)
 | [], st => rfl
 | x :: r, st => by
  have e1 : joinsF (x :: r) st = bif (nameB x.text && !isIn x.text (keysE st.1.1)) && decide (Int.ofNat x.names.length ≤ 3) then (match namesF x.names st.2 with
   | some nm => joinsF r ((addE x.text st.1.1 st.1.2, addC x.text st.1.1 st.1.2), nm)
   | none => none) else none := rfl
  have e2 : rjoinsF (x :: r) (keysE st.1.1) (keysE st.2.1) = bif (!refNameB x.text || isIn x.text (keysE st.1.1)) || decide (Int.ofNat x.names.length > 3) then none else (match rnamesF x.names (keysE st.2.1) with
   | some l2' => rjoinsF r (keysE st.1.1 ++ [x.text]) l2'
   | none => none) := rfl
  rw [e1, e2, name_same]
  have hd : decide (Int.ofNat x.names.length > 3) = !decide (Int.ofNat x.names.length ≤ 3) := by
   by_cases h : Int.ofNat x.names.length ≤ 3
   ·rw [decide_eq_true h, decide_eq_false (by omega)]; rfl
   ·rw [decide_eq_false h, decide_eq_true (by omega)]; rfl
  rw [hd]
  cases h1 : refNameB x.text with
  | false => rfl
  | true =>
   cases h2 : isIn x.text (keysE st.1.1) with
   | true => rfl
   | false =>
    cases decide (Int.ofNat x.names.length ≤ 3) with
    | false => rfl
    | true =>
     have hn := names_eq x.names st.2
     simp only [Bool.not_false, Bool.not_true, Bool.and_self, Bool.or_self, cond_true, cond_false]
     cases h3 : namesF x.names st.2 with
     | none => rw [h3] at hn; rw [← hn]; rfl
     | some nm =>
      rw [h3] at hn
      rw [← hn, ← keysE_add (c := st.1.2) h2]
      exact joins_eq r ((addE x.text st.1.1 st.1.2, addC x.text st.1.1 st.1.2), nm)
theorem joins_some (js : List AMs) : (joinsF js (([], 0), ([], 0))).isSome = (rjoinsF js [] []).isSome := by
 have := joins_eq js (([], 0), ([], 0))
 rw [show rjoinsF js [] [] = _ from this.symm, Option.isSome_map]
theorem name_nonE {s : ByteArray} (h : refNameB s = true) : seq s ⟨#[]⟩ = false := by
 cases hs : seq s ⟨#[]⟩ with
 | false => rfl
 | true =>
  rw [seq_iff] at hs
  subst hs
  exact absurd h (by decide)
theorem agr_t (a1 j1 d1 k1 a2 j2 d2 k2 : Int) (s : ByteArray) : agrB (nonE s) a1 j1 d1 k1 true a2 j2 d2 k2 s = ((a1 == a2) && (j1 == j2) && (d1 == d2) && (k1 == k2) && oneB s true) := by
 unfold agrB oneB nonE
 rw [name_same]
 cases h : refNameB s with
 | false => simp
 | true => rw [name_nonE h]; simp [Bool.and_assoc]
theorem agr_f (a1 j1 d1 k1 a2 j2 d2 k2 : Int) (s : ByteArray) : agrB (nonE s) a1 j1 d1 k1 false a2 j2 d2 k2 s = ((a1 == a2) && (j1 == j2) && (d1 == d2) && (k1 == k2) && oneB s false) := by
 unfold agrB oneB nonE
 cases seq s ⟨#[]⟩ <;> simp [Bool.and_assoc]
theorem op_cases (op : Int) (h : 1 ≤ op ∧ op ≤ 8) : op = 1 ∨ op = 2 ∨ op = 3 ∨ op = 4 ∨ op = 5 ∨ op = 6 ∨ op = 7 ∨ op = 8 := by omega
theorem expr_head (op n : Int) (s : ByteArray) (nk : Int) : exprB op n s nk = exHead op n s nk := by
 by_cases h : 1 ≤ op ∧ op ≤ 8
 ·rcases op_cases op h with rfl | rfl | rfl | rfl | rfl | rfl | rfl | rfl
  all_goals
   simp only [exprB, exHead, agr_t, agr_f, kidsI, Int.reduceBEq]
   rw [Bool.eq_iff_iff]
   cases oneB s true <;> cases oneB s false <;> simp <;> omega
 ·have h1 : (decide (op ≥ 1) && decide (op ≤ 7)) = false := by
   rw [Bool.and_eq_false_iff, decide_eq_false_iff_not, decide_eq_false_iff_not]; omega
  have e : ∀ k : Int, 1 ≤ k ∧ k ≤ 8 → (op == k) = false := fun k hk => beq_eq_false_iff_ne.2 (by omega)
  unfold exprB exHead
  rw [h1, e 1 (by omega), e 2 (by omega), e 3 (by omega), e 4 (by omega), e 5 (by omega), e 6 (by omega), e 7 (by omega)]
  rfl
theorem clause_head (f : Int) (s : ByteArray) (js : List AMs) (nd nk : Int) (hd : 0 ≤ nd) : clauseB f s js nd nk = clHead f s js nd nk := by
 unfold clauseB clHead
 rw [joins_some]
 by_cases h1 : f = 1
 ·subst h1
  simp only [agr_f, rjoinsB, Int.reduceBEq, Bool.or_false, Bool.false_or, Bool.true_or, Bool.not_true]
  rw [Bool.eq_iff_iff]
  cases oneB s false <;> cases (rjoinsF js [] []).isSome <;> simp <;> omega
 ·by_cases h2 : f = 2
  ·subst h2
   simp only [agr_t, Int.reduceBEq, Bool.false_or, Bool.true_or, Bool.or_true, Bool.not_false]
   rw [Bool.eq_iff_iff]
   cases js with
   | nil => cases oneB s true <;> simp [rjoinsF] <;> omega
   | cons x js => cases oneB s true <;> cases (rjoinsF (x :: js) [] []).isSome <;> simp <;> omega
  ·have e1 : (f == 1) = false := beq_eq_false_iff_ne.2 h1
   have e2 : (f == 2) = false := beq_eq_false_iff_ne.2 h2
   rw [e1, e2]; rfl
theorem proc_head (op : Int) (s : ByteArray) (na nd nk : Int) (ha : 0 ≤ na) (hd : 0 ≤ nd) : procB op s na nd nk = tmHead2 (tmHead1 op s nk) op na nd := by
 by_cases h : 1 ≤ op ∧ op ≤ 8
 ·rcases op_cases op h with rfl | rfl | rfl | rfl | rfl | rfl | rfl | rfl
  all_goals
   simp only [procB, tmHead2, tmHead1, agr_t, agr_f, argsR, kidsR, defsR, Int.reduceBEq, Bool.or_false, Bool.or_self, Bool.or_true]
   rw [Bool.eq_iff_iff]
   cases oneB s true <;> cases oneB s false <;> simp <;> omega
 ·have h1 : (decide (op ≥ 1) && decide (op ≤ 8)) = false := by
   rw [Bool.and_eq_false_iff, decide_eq_false_iff_not, decide_eq_false_iff_not]; omega
  have e : ∀ k : Int, 1 ≤ k ∧ k ≤ 8 → (op == k) = false := fun k hk => beq_eq_false_iff_ne.2 (by omega)
  unfold procB tmHead2 tmHead1
  rw [h1, e 1 (by omega), e 2 (by omega), e 3 (by omega), e 4 (by omega), e 5 (by omega), e 6 (by omega), e 7 (by omega), e 8 (by omega)]
  rfl
theorem look_head (p : Part) : lookB p = hdB p := by
 cases p with
 | ex e => cases e with | mk op n s kv kids => exact expr_head op n s _
 | cl c => cases c with | mk f s jv dv kv joins defs kids => exact clause_head f s joins _ _ (Int.natCast_nonneg _)
 | tm t => cases t with | mk op s av dv kv args defs kids => exact proc_head op s _ _ _ (Int.natCast_nonneg _) (Int.natCast_nonneg _)
end
open Go.RowKit (Below)
set_option maxRecDepth 10000
noncomputable section
theorem refN_ge (n : Nat) (p : Part) : 1 ≤ (refN n p).1 ∧ 1 ≤ (refN n p).2.1 := by
 induction n generalizing p with
 | zero => exact ⟨Int.le_refl _, Int.le_refl _⟩
 | succ n ih =>
  have hr : refN (n + 1) p = bif hdB p then (let r := (p.subs.map (refN n)).foldl joinR (1, 0, true); (r.1, r.2.1 + 1, r.2.2)) else (1, 1, false) := rfl
  rw [hr]
  cases hdB p with
  | false => exact ⟨Int.le_refl _, Int.le_refl _⟩
  | true =>
   have key : ∀ (l : List R3) (s : R3), (∀ r, r ∈ l → 1 ≤ r.1) → s.1 ≤ (l.foldl joinR s).1 ∧ s.2.1 ≤ (l.foldl joinR s).2.1 := by
    intro l
    induction l with
    | nil => intro s _; exact ⟨Int.le_refl _, Int.le_refl _⟩
    | cons a l ihl =>
     intro s h
     have h1 := ihl (joinR s a) (fun r hr => h r (by simp [hr]))
     have h2 := h a (by simp)
     have e1 : (joinR s a).1 = s.1 + a.1 := rfl
     have e2 : (joinR s a).2.1 = max s.2.1 a.2.1 := rfl
     rw [List.foldl_cons]; omega
   have := key (p.subs.map (refN n)) (1, 0, true) (fun r hr => by
    obtain ⟨q, _, rfl⟩ := List.mem_map.1 hr
    exact (ih q).1)
   simp only [cond_true] at this ⊢
   omega
def outS (c d : Int) (b : Bool) : St (Int × Int) Empty := bif b && decide (c ≤ 60 ∧ d ≤ 12) then .go (c, d) else .fail unfC
theorem outS_bad {c d : Int} {b : Bool} (h : ¬ (b = true ∧ c ≤ 60 ∧ d ≤ 12)) : outS c d b = .fail unfC := by
 unfold outS
 cases b with
 | false => rfl
 | true =>
  rw [decide_eq_false (fun e => h ⟨rfl, e⟩)]; rfl
theorem outS_good {c d : Int} {b : Bool} (h : b = true ∧ c ≤ 60 ∧ d ≤ 12) : outS c d b = .go (c, d) := by
 unfold outS
 rw [h.1, decide_eq_true h.2]; rfl
theorem joinR_le : ∀ (n : Nat) (l : List Part) (s : R3), s.1 ≤ ((l.map (refN n)).foldl joinR s).1 ∧ s.2.1 ≤ ((l.map (refN n)).foldl joinR s).2.1 ∧ (((l.map (refN n)).foldl joinR s).2.2 = true → s.2.2 = true)
 | n, [], s => ⟨Int.le_refl _, Int.le_refl _, fun h => h⟩
 | n, a :: l, s => by
  have h1 := joinR_le n l (joinR s (refN n a))
  have h2 := refN_ge n a
  have e1 : (joinR s (refN n a)).1 = s.1 + (refN n a).1 := rfl
  have e2 : (joinR s (refN n a)).2.1 = max s.2.1 (refN n a).2.1 := rfl
  have e3 : (joinR s (refN n a)).2.2 = (s.2.2 && (refN n a).2.2) := rfl
  rw [List.map_cons, List.foldl_cons]
  refine ⟨by omega, by omega, fun h => ?_⟩
  have := h1.2.2 h
  rw [e3, Bool.and_eq_true] at this
  exact this.1
theorem vis1_fold {n : Nat} {i c0 d0 : Int} (ih : ∀ (p : Part) (s : Int × Int), SizeOf.sizeOf p < n → visN step1 n (i + 1) p s = outS (s.1 + (refN n p).1) (max s.2 ((i + 1) + (refN n p).2.1 - 1)) (refN n p).2.2) :
  ∀ (l : List Part) (x y : Int), (∀ q, q ∈ l → SizeOf.sizeOf q < n) → c0 + x ≤ 60 → max d0 (i + y) ≤ 12 → foldSt (fun s q => visN step1 n (i + 1) q s) (c0 + x, max d0 (i + y)) l =
   outS (c0 + ((l.map (refN n)).foldl joinR (x, y, true)).1) (max d0 (i + ((l.map (refN n)).foldl joinR (x, y, true)).2.1)) ((l.map (refN n)).foldl joinR (x, y, true)).2.2
 | [], x, y, _, h1, h2 => (outS_good ⟨rfl, h1, h2⟩).symm
 | q :: l, x, y, hs, h1, h2 => by
  rw [foldSt, ih q _ (hs q (by simp)), List.map_cons, List.foldl_cons]
  have ej : joinR (x, y, true) (refN n q) = (x + (refN n q).1, max y (refN n q).2.1, (refN n q).2.2) := rfl
  rw [ej]
  obtain ⟨a, d, b⟩ := refN n q
  dsimp only
  by_cases hg : b = true ∧ c0 + x + a ≤ 60 ∧ max (max d0 (i + y)) (i + 1 + d - 1) ≤ 12
  ·rw [outS_good hg, hg.1]
   have e1 : max (max d0 (i + y)) (i + 1 + d - 1) = max d0 (i + max y d) := by omega
   have e2 : c0 + x + a = c0 + (x + a) := by omega
   show foldSt (fun s q => visN step1 n (i + 1) q s) (c0 + x + a, max (max d0 (i + y)) (i + 1 + d - 1)) l = _
   rw [e1, e2]
   exact vis1_fold ih l (x + a) (max y d) (fun q hq => hs q (by simp [hq])) (by omega) (by omega)
  ·rw [outS_bad hg]
   dsimp only
   have hl := joinR_le n l (x + a, max y d, b)
   dsimp only at hl
   refine (outS_bad (fun h => hg ⟨hl.2.2 h.1, by omega, by omega⟩)).symm
theorem vis1 : ∀ (n : Nat) (p : Part) (i : Int) (s : Int × Int), SizeOf.sizeOf p < n → visN step1 n i p s = outS (s.1 + (refN n p).1) (max s.2 (i + (refN n p).2.1 - 1)) (refN n p).2.2
 | 0, p, i, s, h => by omega
 | n + 1, p, i, s, h => by
  have hr : refN (n + 1) p = bif hdB p then (let r := (p.subs.map (refN n)).foldl joinR (1, 0, true); (r.1, r.2.1 + 1, r.2.2)) else (1, 1, false) := rfl
  have es : step1 s (i, p) = bif decide (s.1 + 1 ≤ 60 ∧ max s.2 i ≤ 12) then (bif lookB p then .go (s.1 + 1, max s.2 i) else .fail unfC) else .fail unfC := rfl
  have hge := refN_ge (n + 1) p
  rw [visN, es, look_head]
  by_cases hl : s.1 + 1 ≤ 60 ∧ max s.2 i ≤ 12
  ·rw [decide_eq_true hl, cond_true]
   cases hb : hdB p with
   | false =>
    rw [hr, hb]
    exact (outS_bad (fun h => by cases h.1)).symm
   | true =>
    rw [hr, hb, cond_true, cond_true]
    have hf := vis1_fold (n := n) (i := i) (c0 := s.1) (d0 := s.2) (fun p s hp => vis1 n p (i + 1) s hp) p.subs 1 0 (fun q hq => by have := subs_size hq; omega) hl.1 (by rw [Int.add_zero]; exact hl.2)
    rw [Int.add_zero] at hf
    show foldSt (fun s q => visN step1 n (i + 1) q s) (s.1 + 1, max s.2 i) p.subs = _
    rw [hf]
    congr 2
    dsimp only; omega
  ·rw [decide_eq_false hl]
   refine (outS_bad (fun h => hl ⟨by omega, by omega⟩)).symm
theorem formed_nd : ∀ (n : Nat) (p : Part), (refN n p).2.2 = true → (refN n p).1 = ndN n p
 | 0, p, h => by cases h
 | n + 1, p, h => by
  have hr : refN (n + 1) p = bif hdB p then (let r := (p.subs.map (refN n)).foldl joinR (1, 0, true); (r.1, r.2.1 + 1, r.2.2)) else (1, 1, false) := rfl
  have hn : ndN (n + 1) p = 1 + (p.subs.map (ndN n)).sum := rfl
  obtain ⟨hb, hs⟩ := Fm.subs h
  rw [hr, hn, hb, cond_true]
  have key : ∀ (l : List Part) (s : R3), (∀ q, q ∈ l → Fm n q) → ((l.map (refN n)).foldl joinR s).1 = s.1 + ((l.map (ndN n)).sum : Nat) := by
   intro l
   induction l with
   | nil => intro s _; show s.1 = s.1 + ((0 : Nat) : Int); omega
   | cons a l ihl =>
    intro s hq
    rw [List.map_cons, List.foldl_cons, ihl _ (fun q h => hq q (by simp [h])), List.map_cons, List.sum_cons]
    have e1 : (joinR s (refN n a)).1 = s.1 + (refN n a).1 := rfl
    rw [e1, formed_nd n a (hq a (by simp))]
    omega
  have := key p.subs (1, 0, true) hs
  dsimp only at this ⊢
  rw [this]; omega
end
open Go.RowKit (Below)
set_option maxRecDepth 10000
noncomputable section
abbrev Pl := ByteArray × AVal × List ACl
def plN : Nat → List ACl → List Pl
 | 0, _ => []
 | n + 1, ds => (ds.map fun c => bif c.form == 2 then (c.text, c.dv, c.defs) :: plN n c.defs else []).flatten
def plC (n : Nat) (c : ACl) : List Pl := bif c.form == 2 then (c.text, c.dv, c.defs) :: plN n c.defs else []
theorem plN_cons (n : Nat) (c : ACl) (ds : List ACl) : plN (n + 1) (c :: ds) = plC n c ++ plN (n + 1) ds := by
 show ((c :: ds).map (plC n)).flatten = _
 rw [List.map_cons, List.flatten_cons]; rfl
theorem spP_cons (n : Nat) (c : ACl) (ds : List ACl) : spP (n + 1) (c :: ds) = spC n c ++ spP (n + 1) ds := by
 show ((c :: ds).map (spC n)).flatten = _
 rw [List.map_cons, List.flatten_cons]; rfl
theorem spP_pl : ∀ (n : Nat) (ds : List ACl), spP n ds = (plN n ds).map Prod.snd
 | 0, _ => rfl
 | n + 1, ds => by
  induction ds with
  | nil => rfl
  | cons c ds ih =>
   rw [spP_cons, plN_cons, List.map_append, ih]
   congr 1
   cases c with
   | mk f t jv dv kv js defs kids =>
    show (bif f == 2 then (dv, defs) :: spP n defs else []) = (bif f == 2 then (t, dv, defs) :: plN n defs else []).map Prod.snd
    cases f == 2 with
    | true => rw [cond_true, cond_true, List.map_cons, spP_pl n defs]
    | false => rfl
theorem plN_fuel : ∀ (n k : Nat) (ds : List ACl), SizeOf.sizeOf ds ≤ n → SizeOf.sizeOf ds ≤ k → plN n ds = plN k ds
 | 0, _, ds, h, _ => by cases ds <;> simp at h
 | n + 1, 0, ds, _, h => by cases ds <;> simp at h
 | n + 1, k + 1, ds, h1, h2 => by
  have key : ∀ c, c ∈ ds → plC n c = plC k c := by
   intro c hc
   have hs := List.sizeOf_lt_of_mem hc
   have hd := ACl.defs_size c
   unfold plC
   rw [plN_fuel n k c.defs (by omega) (by omega)]
  show (ds.map (plC n)).flatten = (ds.map (plC k)).flatten
  rw [List.map_congr_left key]
theorem grp_fold {σ τ : Type} (step : σ → Pl → St σ τ) : ∀ (n : Nat) (ds : List ACl) (s : σ), foldSt (fun s (c : ACl) => if c.form == 2 then grpN step n c.text c.dv c.defs s else .go s) s ds = foldSt step s (plN n ds)
 | 0, ds, s => by
  induction ds with
  | nil => rfl
  | cons c ds ih =>
   rw [foldSt]
   have e : (if (c.form == 2) = true then grpN step 0 c.text c.dv c.defs s else .go s) = .go s := by split <;> rfl
   rw [e]; exact ih
 | n + 1, ds, s => by
  induction ds generalizing s with
  | nil => rfl
  | cons c ds ih =>
   rw [foldSt, plN_cons, foldSt_append]
   have e : (if (c.form == 2) = true then grpN step (n + 1) c.text c.dv c.defs s else .go s) = foldSt step s (plC n c) := by
    unfold plC
    cases c.form == 2 with
    | false => rfl
    | true =>
     rw [cond_true, if_pos rfl, grpN, foldSt]
     cases step s (c.text, c.dv, c.defs) with
     | go s' => exact grp_fold step n c.defs s'
     | stop t => rfl
     | fail c => rfl
   rw [e]
   cases foldSt step s (plC n c) with
   | go s' => exact ih s'
   | stop t => rfl
   | fail c => rfl
theorem grp_pl {σ τ : Type} (step : σ → Pl → St σ τ) (n : Nat) (nm : ByteArray) (dv : AVal) (ds : List ACl) (s : σ) : grpN step (n + 1) nm dv ds s = foldSt step s ((nm, dv, ds) :: plN n ds) := by
 rw [grpN, foldSt]
 cases step s (nm, dv, ds) with
 | go s' => exact grp_fold step n ds s'
 | stop t => rfl
 | fail c => rfl
def nmS (s : Sn) (x : Pl) : Sn := ⟨s.ms, s.ru ++ [x.1], s.bad || isIn x.1 s.ru⟩
theorem nameF_pl : ∀ (n : Nat) (ds : List ACl) (s : Sn), nameF n ds s = (plN n ds).foldl nmS s
 | 0, _, _ => rfl
 | n + 1, ds, s => by
  induction ds generalizing s with
  | nil => rfl
  | cons c ds ih =>
   have e : nameF (n + 1) (c :: ds) s = nameF (n + 1) ds (nameC n s c) := rfl
   rw [e, ih, plN_cons, List.foldl_append]
   congr 1
   cases c with
   | mk f t jv dv kv js defs kids =>
    show (bif f == 2 then nameF n defs ⟨s.ms, s.ru ++ [t], s.bad || isIn t s.ru⟩ else s) = List.foldl nmS s (bif f == 2 then (t, dv, defs) :: plN n defs else [])
    cases f == 2 with
    | true => rw [cond_true, cond_true, List.foldl_cons, nameF_pl n defs]; rfl
    | false => rfl
theorem nm_ru : ∀ (P : List Pl) (s : Sn), (P.foldl nmS s).ru = s.ru ++ P.map Prod.fst
 | [], s => by simp
 | x :: P, s => by
  rw [List.foldl_cons, nm_ru P]
  show (s.ru ++ [x.1]) ++ _ = _
  simp
theorem nm_ms : ∀ (P : List Pl) (s : Sn), (P.foldl nmS s).ms = s.ms
 | [], _ => rfl
 | x :: P, s => (nm_ms P (nmS s x)).trans rfl
theorem nm_stay : ∀ (P : List Pl) (s : Sn), s.bad = true → (P.foldl nmS s).bad = true
 | [], _, h => h
 | x :: P, s, h => nm_stay P (nmS s x) (by show (s.bad || _) = true; rw [h]; rfl)
theorem nm_bad : ∀ (P : List Pl) (s : Sn), s.bad = false → s.ru.Nodup → ((P.foldl nmS s).bad = false ↔ (s.ru ++ P.map Prod.fst).Nodup)
 | [], s, hb, hn => by simp [hb, hn]
 | x :: P, s, hb, hn => by
  rw [List.foldl_cons]
  cases hx : isIn x.1 s.ru with
  | true =>
   have h1 : (nmS s x).bad = true := by show (s.bad || isIn x.1 s.ru) = true; rw [hx, Bool.or_true]
   have h2 := nm_stay P _ h1
   constructor
   ·intro h; rw [h2] at h; cases h
   ·intro h
    exfalso
    rw [List.nodup_append] at h
    exact h.2.2 _ ((isIn_iff _ _).1 hx) _ (by simp) rfl
  | false =>
   have h1 : (nmS s x).bad = false := by show (s.bad || isIn x.1 s.ru) = false; rw [hx, hb]; rfl
   have hxn : x.1 ∉ s.ru := fun h => by rw [(isIn_iff _ _).2 h] at hx; cases hx
   have h2 : (nmS s x).ru.Nodup := by
    show (s.ru ++ [x.1]).Nodup
    rw [List.nodup_append]
    refine ⟨hn, by simp, fun a ha b hb => ?_⟩
    simp only [List.mem_singleton] at hb
    subst hb
    exact fun e => hxn (e ▸ ha)
   rw [nm_bad P _ h1 h2]
   show ((s.ru ++ [x.1]) ++ P.map Prod.fst).Nodup ↔ _
   rw [List.append_assoc]; rfl
end
open Go.RowKit (Below)
set_option maxRecDepth 10000
noncomputable section
def Rm (N : List ByteArray) (x : ByteArray × Home × Nat) (t : ByteArray × Int × Int) : Prop := x.1 = t.1 ∧ x.2.1.2 = t.2.1 ∧ (∃ k : Nat, t.2.2 = Int.ofNat k ∧ N[k]? = some x.2.1.1) ∧ t.1 ≠ ⟨#[]⟩
inductive Rl (N : List ByteArray) : HL → List (ByteArray × Int × Int) → Prop
 | nil : Rl N [] []
 | cons {x : ByteArray × Home × Nat} {t : ByteArray × Int × Int} {h : HL} {ms : List (ByteArray × Int × Int)} : Rm N x t → Rl N h ms → Rl N (x :: h) (t :: ms)
theorem beq_seq (a b : ByteArray) : (a == b) = seq b a := by
 rw [Bool.eq_iff_iff, ba_beq, seq_iff]; exact eq_comm
theorem rl_find {N : List ByteArray} {h : HL} {ms : List (ByteArray × Int × Int)} (R : Rl N h ms) (s : ByteArray) : (findH s h = none ∧ ms.find? (hasM s) = none) ∨ ∃ u y, findH s h = some u ∧ ms.find? (hasM s) = some y ∧ u.2 = y.2.1 ∧ ∃ k : Nat, y.2.2 = Int.ofNat k ∧ N[k]? = some u.1 := by
 induction R with
 | nil => exact .inl ⟨rfl, rfl⟩
 | @cons x t h ms hx _ ih =>
  obtain ⟨h1, h2, ⟨k, h3, h4⟩, _⟩ := hx
  have e : hasM s t = (s == x.1) := by show seq t.1 s = _; rw [beq_seq, h1]
  unfold findH at *
  rw [List.find?_cons, List.find?_cons, e]
  cases s == x.1 with
  | true => exact .inr ⟨x.2.1, t, rfl, rfl, h2, k, h3, h4⟩
  | false => exact ih
theorem joinF_stay (s : Sn) (t : ByteArray) (a p : Int) (h : s.bad = true) : (joinF s t a p).bad = true := by
 unfold joinF
 cases s.ms.find? (hasM t) with
 | none => exact h
 | some y => show ((s.bad || _) || _) = true; rw [h]; rfl
theorem stay {β : Type} (F : Sn → β → Sn) (h : ∀ s x, s.bad = true → (F s x).bad = true) : ∀ (l : List β) (s : Sn), s.bad = true → (l.foldl F s).bad = true
 | [], _, hb => hb
 | x :: l, s, hb => stay F h l (F s x) (h s x hb)
theorem joinsC_stay (i : Int) (s : Sn) (c : ACl) (h : s.bad = true) : (joinsC i s c).bad = true := by
 cases c with
 | mk f t jv dv kv js defs kids => exact stay _ (fun s x h => joinF_stay s _ _ _ h) js s h
theorem spotsF_stay : ∀ (i : Nat) (l : List (AVal × List ACl)) (s : Sn), s.bad = true → (spotsF i l s).bad = true
 | _, [], _, h => h
 | i, x :: l, s, h => spotsF_stay (i + 1) l _ (stay _ (fun s c h => joinsC_stay _ s c h) x.2 s h)
structure Rs (N : List ByteArray) (h : HL) (s : Sn) : Prop where
 r : Rl N h s.ms
 ok : s.bad = false
theorem rl_app {N : List ByteArray} {h : HL} {ms : List (ByteArray × Int × Int)} (R : Rl N h ms) {x : ByteArray × Home × Nat} {t : ByteArray × Int × Int} (hx : Rm N x t) : Rl N (h ++ [x]) (ms ++ [t]) := by
 induction R with
 | nil => exact .cons hx .nil
 | cons h1 _ ih => exact .cons h1 ih
theorem joins_rel {N : List ByteArray} (hN : N.Nodup) {j : Nat} {pl : ByteArray} (hj : N[j]? = some pl) : ∀ (js : List AMs) (h : HL) (c : Nat) (s : Sn), (∀ x, x ∈ js → x.text ≠ ⟨#[]⟩) → Rs N h s →
  (∃ h' c', joinsH pl js (h, c) = some (h', c') ∧ Rs N h' (js.foldl (fun s x => joinF s x.text (Int.ofNat x.names.length) (Int.ofNat j)) s)) ∨ (joinsH pl js (h, c) = none ∧ (js.foldl (fun s x => joinF s x.text (Int.ofNat x.names.length) (Int.ofNat j)) s).bad = true)
 | [], h, c, s, _, R => .inl ⟨h, c, rfl, R⟩
 | x :: js, h, c, s, hne, R => by
  have e : joinsH pl (x :: js) (h, c) = bif okH x.text (pl, Int.ofNat x.names.length) h then joinsH pl js (addH x.text (pl, Int.ofNat x.names.length) h c, clkH x.text h c) else none := rfl
  rw [e, List.foldl_cons]
  have hne' : ∀ x, x ∈ js → x.text ≠ ⟨#[]⟩ := fun y hy => hne y (by simp [hy])
  rcases rl_find R.r x.text with ⟨h1, h2⟩ | ⟨u, y, h1, h2, h3, k, h4, h5⟩
  ·have e1 : okH x.text (pl, Int.ofNat x.names.length) h = true := by unfold okH; rw [h1]
   have e2 : addH x.text (pl, Int.ofNat x.names.length) h c = h ++ [(x.text, (pl, Int.ofNat x.names.length), c)] := by unfold addH; rw [h1]
   have e3 : joinF s x.text (Int.ofNat x.names.length) (Int.ofNat j) = ⟨s.ms ++ [(x.text, Int.ofNat x.names.length, Int.ofNat j)], s.ru, s.bad⟩ := by unfold joinF; rw [h2]
   rw [e1, cond_true, e2, e3]
   exact joins_rel hN hj js _ _ _ hne' ⟨rl_app R.r ⟨rfl, rfl, ⟨j, rfl, hj⟩, hne x (by simp)⟩, R.ok⟩
  ·have e1 : okH x.text (pl, Int.ofNat x.names.length) h = ((u.1 == pl) && ((u.2 == Int.ofNat x.names.length) && true)) := by unfold okH; rw [h1]
   have e2 : addH x.text (pl, Int.ofNat x.names.length) h c = h := by unfold addH; rw [h1]
   have e3 : joinF s x.text (Int.ofNat x.names.length) (Int.ofNat j) = ⟨s.ms, s.ru, (s.bad || (y.2.1 != Int.ofNat x.names.length)) || (y.2.2 != Int.ofNat j)⟩ := by unfold joinF; rw [h2]
   rw [e1, e2, e3, R.ok]
   by_cases hok : u.1 = pl ∧ u.2 = Int.ofNat x.names.length
   ·have b1 : (u.1 == pl) = true := (ba_beq _ _).2 hok.1
    have b2 : (u.2 == Int.ofNat x.names.length) = true := beq_iff_eq.2 hok.2
    have hkj : k = j := by
     have hk : N[k]? = N[j]? := by rw [h5, hj, hok.1]
     exact (List.getElem?_inj (List.getElem?_eq_some_iff.1 h5).1 hN).1 hk
    have b3 : (y.2.1 != Int.ofNat x.names.length) = false := by rw [bne_eq_false_iff_eq, ← h3]; exact hok.2
    have b4 : (y.2.2 != Int.ofNat j) = false := by rw [bne_eq_false_iff_eq, h4, hkj]
    rw [b1, b2, b3, b4]
    show (∃ h' c', joinsH pl js (h, clkH x.text h c) = some (h', c') ∧ _) ∨ _
    exact joins_rel hN hj js h _ ⟨s.ms, s.ru, false⟩ hne' ⟨R.r, rfl⟩
   ·right
    have b1 : ((u.1 == pl) && ((u.2 == Int.ofNat x.names.length) && true)) = false := by
     rw [Bool.eq_false_iff]
     intro hb
     simp only [Bool.and_true, Bool.and_eq_true, ba_beq, beq_iff_eq] at hb
     exact hok hb
    have b2 : ((false || (y.2.1 != Int.ofNat x.names.length)) || (y.2.2 != Int.ofNat j)) = true := by
     rw [Bool.false_or, Bool.or_eq_true, bne_iff_ne, bne_iff_ne]
     by_cases ha : y.2.1 = Int.ofNat x.names.length
     ·right
      intro hp
      refine hok ⟨?_, by rw [h3]; exact ha⟩
      have hkj : k = j := by rw [h4] at hp; exact Int.ofNat.inj hp
      rw [hkj, hj] at h5
      exact (Option.some.inj h5).symm
     ·exact .inl ha
    rw [b1, b2]
    exact ⟨rfl, stay _ (fun s x h => joinF_stay s _ _ _ h) js _ rfl⟩
theorem clauses_rel {N : List ByteArray} (hN : N.Nodup) {j : Nat} {pl : ByteArray} (hj : N[j]? = some pl) : ∀ (ds : List ACl) (h : HL) (c : Nat) (s : Sn), (∀ d, d ∈ ds → ∀ x, x ∈ d.joins → x.text ≠ ⟨#[]⟩) → Rs N h s →
  (∃ h' c', clausesH pl ds (h, c) = some (h', c') ∧ Rs N h' (ds.foldl (joinsC (Int.ofNat j)) s)) ∨ (clausesH pl ds (h, c) = none ∧ (ds.foldl (joinsC (Int.ofNat j)) s).bad = true)
 | [], h, c, s, _, R => .inl ⟨h, c, rfl, R⟩
 | d :: ds, h, c, s, hne, R => by
  have e : clausesH pl (d :: ds) (h, c) = match joinsH pl d.joins (h, c) with | some st' => clausesH pl ds st' | none => none := rfl
  have ej : joinsC (Int.ofNat j) s d = d.joins.foldl (fun s x => joinF s x.text (Int.ofNat x.names.length) (Int.ofNat j)) s := by cases d; rfl
  rw [e, List.foldl_cons, ej]
  rcases joins_rel hN hj d.joins h c s (hne d (by simp)) R with ⟨h', c', h1, h2⟩ | ⟨h1, h2⟩
  ·rw [h1]; exact clauses_rel hN hj ds h' c' _ (fun d hd => hne d (by simp [hd])) h2
  ·rw [h1]; exact .inr ⟨rfl, stay _ (fun s c h => joinsC_stay _ s c h) ds _ h2⟩
end
open Go.RowKit (Below)
set_option maxRecDepth 10000
noncomputable section
theorem notIn {s : ByteArray} {l : List ByteArray} (h : s ∉ l) : isIn s l = false := by
 cases hx : isIn s l with
 | false => rfl
 | true => exact absurd ((isIn_iff _ _).1 hx) h
theorem places_rel {N : List ByteArray} (hN : N.Nodup) : ∀ (L : List Pl) (st : DS) (s : Sn), N = keysE st.2.1 ++ L.map Prod.fst → (∀ p, p ∈ L → ∀ d, d ∈ p.2.2 → ∀ x, x ∈ d.joins → x.text ≠ ⟨#[]⟩) → Rs N st.1.1 s →
  (∃ st', foldSt stepD st L = .go st' ∧ Rs N st'.1.1 (spotsF (keysE st.2.1).length (L.map Prod.snd) s) ∧ keysE st'.2.1 = N) ∨ (foldSt stepD st L = .fail unfC ∧ (spotsF (keysE st.2.1).length (L.map Prod.snd) s).bad = true)
 | [], st, s, hk, _, R => .inl ⟨st, rfl, R, by rw [hk]; simp⟩
 | x :: L, st, s, hk, hne, R => by
  rw [foldSt]
  have hx : x.1 ∉ keysE st.2.1 := by
   intro h
   rw [hk, List.nodup_append] at hN
   exact hN.2.2 _ h _ (by simp) rfl
  have hj : N[(keysE st.2.1).length]? = some x.1 := by rw [hk]; simp
  have e : stepD st x = match clausesH x.1 x.2.2 (st.1.1, st.1.2) with
   | some h => .go (h, (addE x.1 st.2.1 st.2.2, addC x.1 st.2.1 st.2.2))
   | none => .fail unfC := by
   unfold stepD
   rw [notIn hx]; rfl
  rw [e, List.map_cons]
  have es : spotsF (keysE st.2.1).length (x.2 :: L.map Prod.snd) s = spotsF ((keysE st.2.1).length + 1) (L.map Prod.snd) (x.2.2.foldl (joinsC (Int.ofNat (keysE st.2.1).length)) s) := rfl
  rw [es]
  rcases clauses_rel hN hj x.2.2 st.1.1 st.1.2 s (hne x (by simp)) R with ⟨h', c', h1, h2⟩ | ⟨h1, h2⟩
  ·rw [h1]
   dsimp only
   have ek := keysE_add (c := st.2.2) (notIn hx)
   have := places_rel hN L ((h', c'), (addE x.1 st.2.1 st.2.2, addC x.1 st.2.1 st.2.2)) _ (by show N = keysE (addE x.1 st.2.1 st.2.2) ++ _; rw [ek, List.append_assoc]; exact hk) (fun p hp => hne p (by simp [hp])) h2
   dsimp only at this
   rw [ek, List.length_append] at this
   exact this
  ·rw [h1]
   exact .inr ⟨rfl, spotsF_stay _ _ _ h2⟩
theorem places_nodup : ∀ (L : List Pl) (st st' : DS), foldSt stepD st L = .go st' → (keysE st.2.1).Nodup → (keysE st.2.1 ++ L.map Prod.fst).Nodup
 | [], st, st', _, hn => by simpa using hn
 | x :: L, st, st', h, hn => by
  rw [foldSt] at h
  unfold stepD at h
  cases hx : isIn x.1 (keysE st.2.1) with
  | true => rw [hx] at h; cases h
  | false =>
   rw [hx] at h
   cases hc : clausesH x.1 x.2.2 st.1 with
   | none => rw [hc] at h; cases h
   | some hh =>
    rw [hc] at h
    have h' : foldSt stepD (hh, (addE x.1 st.2.1 st.2.2, addC x.1 st.2.1 st.2.2)) L = .go st' := h
    have ek := keysE_add (c := st.2.2) hx
    have hxn : x.1 ∉ keysE st.2.1 := fun h => by rw [(isIn_iff _ _).2 h] at hx; cases hx
    have h2 := places_nodup L _ st' h' (by
     show (keysE (addE x.1 st.2.1 st.2.2)).Nodup
     rw [ek, List.nodup_append]
     refine ⟨hn, by simp, fun a ha b hb => ?_⟩
     simp only [List.mem_singleton] at hb
     subst hb
     exact fun e => hxn (e ▸ ha))
    have h3 : (keysE (addE x.1 st.2.1 st.2.2) ++ L.map Prod.fst).Nodup := h2
    rw [ek, List.append_assoc] at h3
    exact h3
theorem clash_fold (ru : List ByteArray) : ∀ (ms : List (ByteArray × Int × Int)) (b : Bool), ms.foldl (clash ru) b = (b || ms.any fun t => isIn t.1 ru)
 | [], b => by simp
 | t :: ms, b => by
  rw [List.foldl_cons, clash_fold ru ms]
  show ((b || isIn t.1 ru) || _) = _
  rw [List.any_cons, Bool.or_assoc]
theorem all_any {N ru : List ByteArray} (e : N = ⟨#[]⟩ :: ru) {N' : List ByteArray} {h : HL} {ms : List (ByteArray × Int × Int)} (R : Rl N' h ms) : (h.all fun x => !isIn x.1 N) = !(ms.any fun t => isIn t.1 ru) := by
 induction R with
 | nil => rfl
 | @cons x t h ms hx _ ih =>
  obtain ⟨h1, _, _, h4⟩ := hx
  rw [List.all_cons, List.any_cons, ih, Bool.not_or]
  congr 2
  rw [h1, e, Bool.eq_iff_iff, isIn_iff, isIn_iff, List.mem_cons]
  exact ⟨fun h => h.resolve_left h4, fun h => .inr h⟩
theorem defined_clash {n : Nat} {dv : AVal} {ds : List ACl} (hn : SizeOf.sizeOf ds ≤ n) (hP : ∀ x, x ∈ plN n ds → x.1 ≠ ⟨#[]⟩) (hJ : ∀ p, p ∈ ((⟨#[]⟩, dv, ds) : Pl) :: plN n ds → ∀ d, d ∈ p.2.2 → ∀ x, x ∈ d.joins → x.text ≠ ⟨#[]⟩) : definedB dv ds = !clashB n dv ds := by
 obtain ⟨P, hPe⟩ : ∃ P, P = plN n ds := ⟨_, rfl⟩
 have eg : grpN stepD (SizeOf.sizeOf ds + 1) ⟨#[]⟩ dv ds (([], 0), ([], 0)) = foldSt stepD (([], 0), ([], 0)) (((⟨#[]⟩, dv, ds) : Pl) :: P) := by rw [grp_pl, plN_fuel _ n ds (Nat.le_refl _) hn, hPe]
 have es : seenF n dv ds = spotsF 0 ((((⟨#[]⟩, dv, ds) : Pl) :: P).map Prod.snd) (P.foldl nmS ⟨[], [], false⟩) := by unfold seenF; rw [spP_pl, nameF_pl, hPe]; rfl
 have er : (seenF n dv ds).ru = P.map Prod.fst := by rw [es, spotsF_ru, nm_ru]; rfl
 have ec : clashB n dv ds = ((seenF n dv ds).bad || (seenF n dv ds).ms.any fun t => isIn t.1 (P.map Prod.fst)) := by unfold clashB; rw [clash_fold, er]
 rw [← hPe] at hP hJ
 have hnm := nm_bad P ⟨[], [], false⟩ rfl List.nodup_nil
 have hnm' : (P.foldl nmS ⟨[], [], false⟩).bad = false ↔ (P.map Prod.fst).Nodup := by simpa using hnm
 by_cases hd : (P.map Prod.fst).Nodup
 ·have hN : ((⟨#[]⟩ : ByteArray) :: P.map Prod.fst).Nodup := by
   rw [List.nodup_cons]
   refine ⟨fun h => ?_, hd⟩
   obtain ⟨x, hx, e⟩ := List.mem_map.1 h
   exact hP x hx e
  rcases places_rel hN (((⟨#[]⟩, dv, ds) : Pl) :: P) (([], 0), ([], 0)) (P.foldl nmS ⟨[], [], false⟩) rfl hJ ⟨by rw [nm_ms]; exact .nil, hnm'.2 hd⟩ with ⟨st', h1, h2, h3⟩ | ⟨h1, h2⟩
  ·have ed : definedB dv ds = st'.1.1.all fun x => !isIn x.1 (keysE st'.2.1) := by unfold definedB; rw [eg, h1]
   rw [ed, ec]
   have h4 : Rs ((⟨#[]⟩ : ByteArray) :: P.map Prod.fst) st'.1.1 (seenF n dv ds) := by rw [es]; exact h2
   rw [h4.ok, Bool.false_or, h3]
   exact all_any rfl h4.r
  ·have ed : definedB dv ds = false := by unfold definedB; rw [eg, h1]
   rw [ed, ec]
   have h4 : (seenF n dv ds).bad = true := by rw [es]; exact h2
   rw [h4]; rfl
 ·have h4 : (seenF n dv ds).bad = true := by
   rw [es]
   refine spotsF_stay _ _ _ ?_
   cases hb : (P.foldl nmS ⟨[], [], false⟩).bad with
   | true => rfl
   | false => exact absurd (hnm'.1 hb) hd
  rw [ec, h4]
  show definedB dv ds = false
  cases hf : foldSt stepD (([], 0), ([], 0)) (((⟨#[]⟩, dv, ds) : Pl) :: P) with
  | go st =>
   have := places_nodup _ _ _ hf List.nodup_nil
   have h5 : ((⟨#[]⟩ : ByteArray) :: P.map Prod.fst).Nodup := this
   rw [List.nodup_cons] at h5
   exact absurd h5.2 hd
  | stop t => unfold definedB; rw [eg, hf]
  | fail c => unfold definedB; rw [eg, hf]
end
open Go.RowKit (Below)
set_option maxRecDepth 10000
noncomputable section
theorem name_ne {s : ByteArray} (h : refNameB s = true) : s ≠ ⟨#[]⟩ := fun e => by
 have h1 := name_nonE h
 rw [(seq_iff _ _).2 e] at h1; cases h1
theorem rj_texts : ∀ (js : List AMs) (l1 l2 : List ByteArray), (rjoinsF js l1 l2).isSome = true → ∀ x, x ∈ js → refNameB x.text = true
 | [], _, _, _, x, hx => by cases hx
 | y :: js, l1, l2, h, x, hx => by
  have e : rjoinsF (y :: js) l1 l2 = bif (!refNameB y.text || isIn y.text l1) || decide (Int.ofNat y.names.length > 3) then none else (match rnamesF y.names l2 with
   | some l2' => rjoinsF js (l1 ++ [y.text]) l2'
   | none => none) := rfl
  rw [e] at h
  cases hy : refNameB y.text with
  | false => rw [hy] at h; cases h
  | true =>
   rcases List.mem_cons.1 hx with rfl | hx
   ·exact hy
   ·cases hb : (!refNameB y.text || isIn y.text l1) || decide (Int.ofNat y.names.length > 3) with
    | true => rw [hb] at h; cases h
    | false =>
     rw [hb, cond_false] at h
     cases hn : rnamesF y.names l2 with
     | none => rw [hn] at h; cases h
     | some l2' => rw [hn] at h; exact rj_texts js _ _ h x hx
theorem cl_texts {f : Int} {s : ByteArray} {js : List AMs} {nd nk : Int} (h : clHead f s js nd nk = true) : ((f == 2) = true → s ≠ ⟨#[]⟩) ∧ ∀ x, x ∈ js → x.text ≠ ⟨#[]⟩ := by
 simp only [clHead, Bool.and_eq_true, Bool.or_eq_true] at h
 obtain ⟨⟨⟨⟨⟨_, h1⟩, _⟩, _⟩, h2⟩, h3⟩ := h
 constructor
 ·intro hf
  have hf2 : f = 2 := beq_iff_eq.1 hf
  subst hf2
  have h4 : oneB s true = true := h1
  unfold oneB at h4
  simp only [Bool.true_and, Bool.not_true, Bool.false_and, Bool.or_false] at h4
  exact name_ne h4
 ·intro x hx
  rcases h3 with h3 | h3
  ·rcases h2 with h2 | h2
   ·rw [h3] at h2; cases h2
   ·have h5 := h2.2
    unfold rjoinsB at h5
    rw [Bool.and_eq_true] at h5
    exact name_ne (rj_texts js [] [] h5.2 x hx)
  ·have h4 : (js.length : Int) = 0 := of_decide_eq_true h3
   have h5 : js = [] := List.length_eq_zero_iff.1 (by omega)
   rw [h5] at hx; cases hx
theorem fm_texts {n : Nat} {c : ACl} (h : Fm n (.cl c)) : ((c.form == 2) = true → c.text ≠ ⟨#[]⟩) ∧ ∀ x, x ∈ c.joins → x.text ≠ ⟨#[]⟩ := by
 cases n with
 | zero => cases h
 | succ n =>
  have hb := h.subs.1
  cases c with
  | mk f s jv dv kv js defs kids => exact cl_texts (show clHead f s js (Int.ofNat defs.length) (Int.ofNat kids.length) = true from hb)
theorem fm_defs {n : Nat} {c : ACl} (h : Fm (n + 1) (.cl c)) : ∀ d, d ∈ c.defs → Fm n (.cl d) := by
 intro d hd
 refine h.subs.2 _ ?_
 cases c with
 | mk f s jv dv kv js defs kids => exact List.mem_append.2 (.inl (List.mem_map_of_mem hd))
theorem pl_texts : ∀ (n : Nat) (ds : List ACl), (∀ c, c ∈ ds → Fm n (.cl c)) → ∀ x, x ∈ plN n ds → x.1 ≠ ⟨#[]⟩ ∧ ∀ d, d ∈ x.2.2 → ∀ j, j ∈ d.joins → j.text ≠ ⟨#[]⟩
 | 0, _, _, x, hx => by cases hx
 | n + 1, ds, h, x, hx => by
  have hx' : x ∈ (ds.map (plC n)).flatten := hx
  rw [List.mem_flatten] at hx'
  obtain ⟨l, hl, hxl⟩ := hx'
  obtain ⟨c, hc, rfl⟩ := List.mem_map.1 hl
  have hco := h c hc
  unfold plC at hxl
  cases hf : c.form == 2 with
  | false => rw [hf] at hxl; cases hxl
  | true =>
   rw [hf, cond_true] at hxl
   rcases List.mem_cons.1 hxl with rfl | hxl
   ·exact ⟨(fm_texts hco).1 hf, fun d hd => (fm_texts (fm_defs hco d hd)).2⟩
   ·exact pl_texts n c.defs (fm_defs hco) x hxl
def allP : Nat → Part → Bool
 | 0, _ => true
 | n + 1, p => part2B p && p.subs.all (allP n)
theorem vis2_fold {n : Nat} {i : Int} (ih : ∀ p, visN step2 n (i + 1) p () = bif allP n p then .go () else .fail unfC) : ∀ l : List Part, foldSt (fun s q => visN step2 n (i + 1) q s) () l = bif l.all (allP n) then .go () else .fail unfC
 | [] => rfl
 | q :: l => by
  rw [foldSt, ih q, List.all_cons]
  cases allP n q with
  | false => rfl
  | true => exact vis2_fold ih l
theorem vis2 : ∀ (n : Nat) (i : Int) (p : Part), visN step2 n i p () = bif allP n p then .go () else .fail unfC
 | 0, _, _ => rfl
 | n + 1, i, p => by
  have e : allP (n + 1) p = (part2B p && p.subs.all (allP n)) := rfl
  have es : step2 () (i, p) = bif part2B p then .go () else .fail unfC := rfl
  rw [visN, e, es]
  cases part2B p with
  | false => rfl
  | true => exact vis2_fold (fun q => vis2 n (i + 1) q) p.subs
theorem allP_ex : ∀ (n : Nat) (e : AEx), allP n (.ex e) = true
 | 0, _ => rfl
 | n + 1, e => by
  cases e with
  | mk op nn s kv kids =>
   show (true && (kids.map Part.ex).all (allP n)) = true
   rw [Bool.true_and, List.all_eq_true]
   intro q hq
   obtain ⟨k, _, rfl⟩ := List.mem_map.1 hq
   exact allP_ex n k
theorem all_congr {α : Type} {f g : α → Bool} {l : List α} (h : ∀ x, x ∈ l → f x = g x) : l.all f = l.all g := by
 rw [Bool.eq_iff_iff, List.all_eq_true, List.all_eq_true]
 exact ⟨fun k x hx => (h x hx) ▸ k x hx, fun k x hx => (h x hx).symm ▸ k x hx⟩
theorem df_all : ∀ (n : Nat) (p : Part), SizeOf.sizeOf p < n → Fm n p → dfB n p = allP n p
 | 0, p, h, _ => by omega
 | n + 1, p, h, hf => by
  have hs : ∀ q, q ∈ p.subs → dfB n q = allP n q := fun q hq => df_all n q (by have := subs_size hq; omega) (hf.subs.2 q hq)
  have hb := hf.subs.1
  have hF := hf.subs.2
  cases p with
  | ex e => exact (allP_ex (n + 1) e).symm
  | cl c =>
   cases c with
   | mk f s jv dv kv js defs kids =>
    have hk1 : kids.length = 1 := clHead_one (show clHead f s js (Int.ofNat defs.length) (Int.ofNat kids.length) = true from hb)
    obtain ⟨k0, rfl⟩ : ∃ k0, kids = [k0] := List.length_eq_one_iff.mp hk1
    show ((defs.all fun c => dfB n (.cl c)) && dfB n (.tm k0)) = (true && (defs.map Part.cl ++ [k0].map Part.tm).all (allP n))
    rw [Bool.true_and, List.all_append, List.all_map]
    congr 1
    ·exact all_congr (fun c hc => hs _ (by simp [Part.subs, hc]))
    ·rw [hs (.tm k0) (by simp [Part.subs])]; simp
  | tm t =>
   cases t with
   | mk op s av dv kv args defs kids =>
    show ((bif op == 4 then (!(clashB n dv defs)) && (defs.all fun c => dfB n (.cl c)) else true) && (kids.all fun k => dfB n (.tm k))) = ((bif op == 4 then definedB dv defs else true) && (args.map Part.ex ++ (defs.map Part.cl ++ kids.map Part.tm)).all (allP n))
    have ea : (args.map Part.ex).all (allP n) = true := by
     rw [List.all_eq_true]
     intro q hq
     obtain ⟨k, _, rfl⟩ := List.mem_map.1 hq
     exact allP_ex n k
    have ek : (kids.all fun k => dfB n (.tm k)) = (kids.map Part.tm).all (allP n) := by rw [List.all_map]; exact all_congr (fun c hc => hs _ (by simp [Part.subs, hc]))
    have ed : (defs.all fun c => dfB n (.cl c)) = (defs.map Part.cl).all (allP n) := by rw [List.all_map]; exact all_congr (fun c hc => hs _ (by simp [Part.subs, hc]))
    rw [List.all_append, List.all_append, ea, Bool.true_and, ek, ed]
    cases ho : op == 4 with
    | true =>
     have hdf : ∀ c, c ∈ defs → Fm n (.cl c) := fun c hc => hF _ (by simp [Part.subs, hc])
     have ht := pl_texts n defs hdf
     have hsz : SizeOf.sizeOf defs ≤ n := by simp at h; omega
     rw [cond_true, cond_true, defined_clash (n := n) hsz (fun x hx => (ht x hx).1) (fun p hp => by
      rcases List.mem_cons.1 hp with rfl | hp
      ·exact fun d hd => (fm_texts (hdf d hd)).2
      ·exact (ht p hp).2), Bool.and_assoc]
    | false =>
     have h2 : tmHead2 (tmHead1 op s (Int.ofNat kids.length)) op (Int.ofNat args.length) (Int.ofNat defs.length) = true := hb
     have e0 : defsR op = 0 := by
      unfold defsR
      rw [ho]
      cases op == 2 <;> cases op == 3 <;> rfl
     unfold tmHead2 at h2
     rw [e0, Bool.and_eq_true, Bool.or_eq_true] at h2
     have h3 : defs = [] := by
      rcases h2.2 with h4 | h4
      ·rw [show decide ((0 : Int) < 0) = false from rfl] at h4; cases h4
      ·have h5 : (defs.length : Int) = 0 := of_decide_eq_true h4
       exact List.length_eq_zero_iff.1 (by omega)
     rw [h3]; rfl
theorem meas_chk (p : Part) : measB p = bif chkB (SizeOf.sizeOf p + 1) p then some ((refN (SizeOf.sizeOf p + 1) p).1, (refN (SizeOf.sizeOf p + 1) p).2.1) else none := by
 obtain ⟨n, hn⟩ : ∃ n, n = SizeOf.sizeOf p + 1 := ⟨_, rfl⟩
 have e1 := vis1 n p 1 (0, 0) (by omega)
 have hge := refN_ge n p
 have e2 : visN step1 n 1 p (0, 0) = outS (refN n p).1 (refN n p).2.1 (refN n p).2.2 := by
  rw [e1]; congr 1
  ·show 0 + _ = _; omega
  ·show max 0 (1 + _ - 1) = _; omega
 have e3 := vis2 n 1 p
 unfold measB chkB
 rw [← hn, e2, e3, leftI_ge]
 by_cases hg : (refN n p).2.2 = true ∧ (refN n p).1 ≤ 60 ∧ (refN n p).2.1 ≤ 12
 ·have hnd := formed_nd n p hg.1
  rw [outS_good hg, hg.1, decide_eq_true (show ndN n p ≤ 60 by omega), decide_eq_false (show ¬ (refN n p).2.1 > 12 by omega), df_all n p (by omega) hg.1]
  cases allP n p <;> rfl
 ·rw [outS_bad hg]
  have : (decide (ndN n p ≤ 60) && ((refN n p).2.2 && ((!(decide ((refN n p).2.1 > 12))) && dfB n p))) = false := by
   cases hf : (refN n p).2.2 with
   | false => simp
   | true =>
    have hnd := formed_nd n p hf
    by_cases h1 : ndN n p ≤ 60
    ·rw [decide_eq_true (show (refN n p).2.1 > 12 by
      by_cases h2 : (refN n p).2.1 ≤ 12
      ·exact absurd ⟨hf, by omega, h2⟩ hg
      ·omega)]
     simp
    ·rw [decide_eq_false h1]; rfl
  rw [this]; rfl
end
open Go.RowKit (Below)
set_option maxRecDepth 10000
noncomputable section
variable {fl : Fl} (hfl : Tab fl)
include hfl
omit hfl in
theorem meas_vals (p : Part) : (sizeB p).1 = (bif chkB (SizeOf.sizeOf p + 1) p then (refN (SizeOf.sizeOf p + 1) p).1 else 0) ∧ (sizeB p).2 = (bif chkB (SizeOf.sizeOf p + 1) p then (refN (SizeOf.sizeOf p + 1) p).2.1 else 0) ∧ errB (measB p).isSome = errR (chkB (SizeOf.sizeOf p + 1) p) := by
 unfold sizeB
 rw [meas_chk]
 cases chkB (SizeOf.sizeOf p + 1) p with
 | true => exact ⟨rfl, rfl, rfl⟩
 | false => exact ⟨rfl, rfl, rfl⟩
omit hfl in
theorem aqs_cons {a : AVal} {l : List AVal} (h : aEq a a = true) (t : aEqs l l = true) : aEqs (a :: l) (a :: l) = true := by
 show (aEq a a && aEqs l l) = true
 rw [h, t]; rfl
omit hfl in
theorem aq_slA {m : Mem} {v : AVal} {k : Nat} {els : List (List AVal)} (h : SlA m v k els) : aEq v v = true := by
 rcases h with ⟨_, rfl | rfl⟩ | ⟨r, off, c, ex, row, rfl, _⟩
 ·rfl
 ·rfl
 ·show (r.beq r && off.beq off && els.length.beq els.length && c.beq c && (ex == ex)) = true
  rw [Nat.beq_refl, Nat.beq_refl, Nat.beq_refl, Nat.beq_refl]; cases ex <;> rfl
omit hfl in
theorem known14 (hk14 : ∀ m, fl.tb 14 [] m = some (.bool true)) {m : Mem} (hw : Wf m) : CallQ Tryz.prog fl 14 [] m (Rets noS m (.lit (.bool true))) := CallQ.known (hk14 m) ⟨_, _, rfl, Kept.refl hw⟩
theorem sNodes_ok {m : Mem} {op : Int} {s : ByteArray} {av dv kv : AVal} {args : List AEx} {defs : List ACl} {kids : List ATm} (hq : Part.OK m (.tm (.mk op s av dv kv args defs kids))) (hw : Wf m) {n : Nat} (hn : n = SizeOf.sizeOf ((.tm (.mk op s av dv kv args defs kids)) : Part) + 1) : CallQ Tryz.prog fl 19 [.agg [iv op, .lit (.string s), av, dv, kv]] m (Rets noS m (.tuple [iv (bif chkB n (.tm (.mk op s av dv kv args defs kids)) then (refN n (.tm (.mk op s av dv kv args defs kids))).1 else 0), iv (errR (chkB n (.tm (.mk op s av dv kv args defs kids))))])) := by
 have h := tNodes_ok hfl hq hw
 rw [(meas_vals _).1, (meas_vals _).2.2, ← hn] at h
 exact h
theorem sDepth_ok {m : Mem} {op : Int} {s : ByteArray} {av dv kv : AVal} {args : List AEx} {defs : List ACl} {kids : List ATm} (hq : Part.OK m (.tm (.mk op s av dv kv args defs kids))) (hw : Wf m) {n : Nat} (hn : n = SizeOf.sizeOf ((.tm (.mk op s av dv kv args defs kids)) : Part) + 1) : CallQ Tryz.prog fl 21 [.agg [iv op, .lit (.string s), av, dv, kv]] m (Rets noS m (.tuple [iv (bif chkB n (.tm (.mk op s av dv kv args defs kids)) then (refN n (.tm (.mk op s av dv kv args defs kids))).2.1 else 0), iv (errR (chkB n (.tm (.mk op s av dv kv args defs kids))))])) := by
 have h := tDepth_ok hfl hq hw
 rw [(meas_vals _).2.1, (meas_vals _).2.2, ← hn] at h
 exact h
theorem sCheck_ok {m : Mem} {op : Int} {s : ByteArray} {av dv kv : AVal} {args : List AEx} {defs : List ACl} {kids : List ATm} (hq : Part.OK m (.tm (.mk op s av dv kv args defs kids))) (hw : Wf m) {n : Nat} (hn : n = SizeOf.sizeOf ((.tm (.mk op s av dv kv args defs kids)) : Part) + 1) : CallQ Tryz.prog fl 23 [.agg [iv op, .lit (.string s), av, dv, kv]] m (Rets noS m (iv (errR (chkB n (.tm (.mk op s av dv kv args defs kids)))))) := by
 have h := tCheck_ok hfl hq hw
 rw [(meas_vals _).2.2, ← hn] at h
 exact h
theorem sCheckExp_ok {m : Mem} {eo en : Int} {es : ByteArray} {ek : AVal} {ekids : List AEx} (hq : Part.OK m (.ex (.mk eo en es ek ekids))) (hw : Wf m) {n : Nat} (hn : n = SizeOf.sizeOf ((.ex (.mk eo en es ek ekids)) : Part) + 1) : CallQ Tryz.prog fl 25 [.agg [iv eo, iv en, .lit (.string es), ek]] m (Rets noS m (iv (errR (chkB n (.ex (.mk eo en es ek ekids)))))) := by
 have h := tCheckExp_ok hfl hq hw
 rw [(meas_vals _).2.2, ← hn] at h
 exact h
theorem law_ok {m : Mem} (hk14 : ∀ m, fl.tb 14 [] m = some (.bool true)) {op : Int} {s : ByteArray} {av dv kv : AVal} {args : List AEx} {defs : List ACl} {kids : List ATm} {eo en : Int} {es : ByteArray} {ek : AVal} {ekids : List AEx} (hq : Part.OK m (.tm (.mk op s av dv kv args defs kids))) (hr : Part.OK m (.ex (.mk eo en es ek ekids))) (hw : Wf m) : CallQ Tryz.prog fl 4 [.agg [iv op, .lit (.string s), av, dv, kv], .agg [iv eo, iv en, .lit (.string es), ek]] m (Rets noS m (.lit (.bool true))) := by
 refine hfl.start (by decide) 68 Tryz.func4 rfl rfl (Nat.le_of_ble_eq_true rfl) ?_
 intro bs hb
 have ar0 := hb 0 _ rfl
 have ar1 := hb 1 _ rfl
 clear hb
 have K0 : Kept (fun q => m.next ≤ q ∨ (noS) q) m m := Kept.refl hw
 have hq0 := hq
 have hr0 := hr
 cases hq0 with | mk hq1 hq2 hq3 _ _ _ =>
 cases hr0 with | mk hr1 _ =>
 have ca := hq1.cell
 have cd := hq2.cell
 have ck := hq3.cell
 have ce := hr1.cell
 have aqT : aEq (.agg [iv op, .lit (.string s), av, dv, kv]) (.agg [iv op, .lit (.string s), av, dv, kv]) = true := aqs_cons (aq_int _ _) (aqs_cons (aq_str _) (aqs_cons (aq_slA hq1) (aqs_cons (aq_slA hq2) (aqs_cons (aq_slA hq3) rfl))))
 have aqE : aEq (.agg [iv eo, iv en, .lit (.string es), ek]) (.agg [iv eo, iv en, .lit (.string es), ek]) = true := aqs_cons (aq_int _ _) (aqs_cons (aq_int _ _) (aqs_cons (aq_str _) (aqs_cons (aq_slA hr1) rfl)))
 obtain ⟨n, hn⟩ : ∃ n, n = SizeOf.sizeOf ((.tm (.mk op s av dv kv args defs kids)) : Part) + 1 := ⟨_, rfl⟩
 obtain ⟨k, he⟩ : ∃ k, k = SizeOf.sizeOf ((.ex (.mk eo en es ek ekids)) : Part) + 1 := ⟨_, rfl⟩
 refine gg ?_
 refine s_new rfl rfl rfl rfl (o_box (e_base rfl ar0) rfl) (fun m1 g2 => ?_)
 have n3 := g2.next
 have K4 := K0.g g2
 refine s_new rfl rfl rfl rfl (o_box (e_base rfl ar1) rfl) (fun m5 g6 => ?_)
 have n7 := g6.next
 have K8 := K4.g g6
 refine gg ?_
 have h9 := hxM m5 m.next
 refine s_val rfl rfl rfl rfl (o_loadRowA (e_hit rfl) h9 tg_33 sz_33 (takeW rfl (ac1 rfl (ac1 rfl (ac1 ca (ac1 cd (ac1 ck rfl))))))) ?_
 refine s_callV rfl rfl rfl rfl (o_calls (me1 (e_hit rfl))) (sNodes_ok hfl (hq.kept K8) K8.wf hn) (fun m10 k11 => ?_)
 have n12 := k11.next
 have K13 := K8.k k11 (fun _ h => h.elim)
 refine gg ?_
 have h14 := hxM m10 m.next
 refine s_val rfl rfl rfl rfl (o_loadRowA (e_hit rfl) h14 tg_33 sz_33 (takeW rfl (ac1 rfl (ac1 rfl (ac1 ca (ac1 cd (ac1 ck rfl))))))) ?_
 refine s_callV rfl rfl rfl rfl (o_calls (me1 (e_hit rfl))) (rNodes_ok hfl (n := n) (by omega) (hq.kept K13) K13.wf) (fun m15 k16 => ?_)
 have n17 := k16.next
 have K18 := K13.k k16 (fun _ h => h.elim)
 refine gg ?_
 have h19 := hxM m15 m.next
 refine s_val rfl rfl rfl rfl (o_loadRowA (e_hit rfl) h19 tg_33 sz_33 (takeW rfl (ac1 rfl (ac1 rfl (ac1 ca (ac1 cd (ac1 ck rfl))))))) ?_
 refine s_callV rfl rfl rfl rfl (o_calls (me1 (e_hit rfl))) (sDepth_ok hfl (hq.kept K18) K18.wf hn) (fun m20 k21 => ?_)
 have n22 := k21.next
 have K23 := K18.k k21 (fun _ h => h.elim)
 refine gg ?_
 have h24 := hxM m20 m.next
 refine s_val rfl rfl rfl rfl (o_loadRowA (e_hit rfl) h24 tg_33 sz_33 (takeW rfl (ac1 rfl (ac1 rfl (ac1 ca (ac1 cd (ac1 ck rfl))))))) ?_
 refine s_callV rfl rfl rfl rfl (o_calls (me1 (e_hit rfl))) (rDepth_ok hfl (n := n) (by omega) (hq.kept K23) K23.wf) (fun m25 k26 => ?_)
 have n27 := k26.next
 have K28 := K23.k k26 (fun _ h => h.elim)
 refine gg ?_
 refine w_draw (.L 0 0 1 (.L 2 0 1 (.H 1 1 3 (.H 3 7 3 (.L 4 15 0 (.L 5 31 0 (.L 6 63 1 (.L 8 63 1 (.H 7 127 3 (.H 9 511 3 (.L 10 1023 0 (.L 11 2047 0 (.L 12 4095 0 (.L 13 8191 0 (.L 14 8191 0 (.L 15 32767 0 (.L 16 65535 0 (.L 17 131071 0 (.L 18 262143 0 (.L 19 262143 0 (.L 20 1048575 0 (.L 21 2097151 0 (.L 22 4194303 0 (.L 23 8388607 0 (.L 24 8388607 0 (.L 25 33554431 0 (.L 26 67108863 0 (.L 27 134217727 0 (.L 28 268435455 0 (.L 29 268435455 0 (.L 30 1073741823 0 (.L 31 2147483647 0 (.L 32 4294967295 0 (.H 33 8589934591 3 (.L 34 17179869183 0 (.L 35 34359738367 0 .fin)))))))))))))))))))))))))))))))))))) rfl (by kernel_rfl) ?_
 have h29 := hxM m25 m.next
 refine d_light1 rfl rfl rfl rfl (o_loadRowA (e_hit rfl) h29 tg_33 sz_33 (takeW rfl (ac1 rfl (ac1 rfl (ac1 ca (ac1 cd (ac1 ck rfl))))))) ?_
 refine d_light1 rfl rfl rfl rfl (o_loadRowA (e_hit rfl) h29 tg_33 sz_33 (takeW rfl (ac1 rfl (ac1 rfl (ac1 ca (ac1 cd (ac1 ck rfl))))))) ?_
 refine d_callV rfl rfl rfl rfl (o_calls (me1 (e_hit rfl))) (sCheck_ok hfl (hq.kept K28) K28.wf hn) (lk_keep (by kernel_rfl) (lk_skip (by kernel_rfl) lk0)) (fun m30 k31 => ?_)
 have n32 := k31.next
 have K33 := K28.k k31 (fun _ h => h.elim)
 have h34 := hxM m30 m.next
 refine ⟨(ck_one (o_loadRowA (e_hit rfl) h34 tg_33 sz_33 (takeW rfl (ac1 rfl (ac1 rfl (ac1 ca (ac1 cd (ac1 ck rfl))))))) aqT (ck_skip (by kernel_rfl) ck0)), ?_⟩
 refine d_callV rfl rfl rfl rfl (o_calls (me1 (e_hit rfl))) (rCheck_ok hfl (n := n) (by omega) (hq.kept K33) K33.wf) (lk_skip (by kernel_rfl) lk0) (fun m35 k36 => ?_)
 have n37 := k36.next
 have K38 := K33.k k36 (fun _ h => h.elim)
 refine ⟨(ck_skip (by kernel_rfl) ck0), ?_⟩
 refine gg ?_
 have h44 := hxM m35 m1.next
 refine d_light1 rfl rfl (g_onH rfl rfl (e_hit rfl) (beq_self_eq_true _)) rfl (o_loadRowA (e_hit rfl) h44 tg_36 sz_36 (takeW rfl (ac1 rfl (ac1 rfl (ac1 rfl (ac1 ce rfl)))))) ?_
 refine d_light1 rfl rfl (g_onH rfl rfl (e_hit rfl) (beq_self_eq_true _)) rfl (o_loadRowA (e_hit rfl) h44 tg_36 sz_36 (takeW rfl (ac1 rfl (ac1 rfl (ac1 rfl (ac1 ce rfl)))))) ?_
 refine d_callV rfl (g_onH rfl rfl (e_hit rfl) (beq_self_eq_true _)) rfl rfl (o_calls (me1 (e_hit rfl))) (sCheckExp_ok hfl (hr.kept K38) K38.wf he) (lk_keep (by kernel_rfl) (lk_skip (by kernel_rfl) lk0)) (fun m45 k46 => ?_)
 have K48 := K38.k k46 (fun _ h => h.elim)
 have h49 := hxM m45 m1.next
 refine ⟨(ck_one (o_loadRowA (e_hit rfl) h49 tg_36 sz_36 (takeW rfl (ac1 rfl (ac1 rfl (ac1 rfl (ac1 ce rfl)))))) aqE (ck_skip (by kernel_rfl) ck0)), ?_⟩
 refine d_callV rfl (g_onH rfl rfl (e_hit rfl) (beq_self_eq_true _)) rfl rfl (o_calls (me1 (e_hit rfl))) (rCheckExp_ok hfl (n := k) (by omega) (hr.kept K48) K48.wf) (lk_skip (by kernel_rfl) lk0) (fun m50 k51 => ?_)
 have K53 := K48.k k51 (fun _ h => h.elim)
 refine ⟨(ck_skip (by kernel_rfl) ck0), ?_⟩
 refine d_light0 rfl rfl (g_onH rfl rfl (e_hit rfl) (beq_self_eq_true _)) rfl (o_eqlI (e_hit rfl) (e_hit rfl)) ?_
 refine d_light0 rfl rfl rfl rfl (o_pickT (e_hit rfl) (beq_self_eq_true _) (e_hit rfl)) ?_
 refine gg ?_
 refine d_light0 rfl rfl (g_onH rfl rfl (e_hit rfl) (beq_self_eq_true _)) rfl (o_move (e_hit rfl)) ?_
 refine d_light0 rfl rfl (g_onH rfl rfl (e_hit rfl) (beq_self_eq_true _)) rfl (o_move (e_hit rfl)) ?_
 refine d_light0 rfl rfl (g_onH rfl rfl (e_hit rfl) (beq_self_eq_true _)) rfl (o_eqlI (e_hit rfl) (e_hit rfl)) ?_
 refine d_light0 rfl rfl rfl rfl (o_pickT (e_hit rfl) (beq_self_eq_true _) (e_hit rfl)) ?_
 refine gg ?_
 refine d_light0 rfl rfl (g_onH rfl rfl (e_hit rfl) (beq_self_eq_true _)) rfl (o_move (e_hit rfl)) ?_
 refine d_light0 rfl rfl (g_onH rfl rfl (e_hit rfl) (beq_self_eq_true _)) rfl (o_move (e_hit rfl)) ?_
 refine d_light0 rfl rfl (g_onH rfl rfl (e_hit rfl) (beq_self_eq_true _)) rfl (o_eqlI (e_hit rfl) (e_hit rfl)) ?_
 refine d_light0 rfl rfl rfl rfl (o_pickT (e_hit rfl) (beq_self_eq_true _) (e_hit rfl)) ?_
 refine gg ?_
 refine d_light0 rfl rfl (g_onH rfl rfl (e_hit rfl) (beq_self_eq_true _)) rfl (o_move (e_hit rfl)) ?_
 refine d_light0 rfl rfl (g_onH rfl rfl (e_hit rfl) (beq_self_eq_true _)) rfl (o_move (e_hit rfl)) ?_
 refine d_light0 rfl rfl (g_onH rfl rfl (e_hit rfl) (beq_self_eq_true _)) rfl (o_eqlI (e_hit rfl) (e_hit rfl)) ?_
 refine d_light0 rfl rfl rfl rfl (o_pickT (e_hit rfl) (beq_self_eq_true _) (e_hit rfl)) ?_
 refine gg ?_
 refine d_light0 rfl rfl (g_onH rfl rfl (e_hit rfl) (beq_self_eq_true _)) rfl (o_move (e_hit rfl)) ?_
 refine d_light0 rfl rfl (g_onH rfl rfl (e_hit rfl) (beq_self_eq_true _)) rfl (o_move (e_hit rfl)) ?_
 refine d_light0 rfl rfl (g_onH rfl rfl (e_hit rfl) (beq_self_eq_true _)) rfl (o_eqlI (e_hit rfl) (e_hit rfl)) ?_
 refine d_light0 rfl rfl rfl rfl (o_pickT (e_hit rfl) (beq_self_eq_true _) (e_hit rfl)) ?_
 refine gg ?_
 refine d_callV rfl (g_onH rfl rfl (e_hit rfl) (beq_self_eq_true _)) rfl rfl (o_calls me0) (known14 hk14 K53.wf) lk0 (fun m54 k55 => ?_)
 have K57 := K53.k k55 (fun _ h => h.elim)
 refine ⟨ck0, ?_⟩
 refine d_light0 rfl rfl rfl rfl (o_pickT (e_hit rfl) (beq_self_eq_true _) (e_hit rfl)) ?_
 refine gg ?_
 refine w_retAt rfl ?_
 refine w_results Tryz.func4 (rv1 (e_hit rfl)) ?_
 exact ⟨_, _, rfl, K57.out⟩
end
end Go.Proofs.YtjefckdgpbdpeaaGreat
