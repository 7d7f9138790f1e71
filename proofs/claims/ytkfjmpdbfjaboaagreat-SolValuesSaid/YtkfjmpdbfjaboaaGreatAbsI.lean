/- An executor whose runs hold in every world: a part of it and of what is proved of it. -/
import Derived.Test.YtkfjmpdbfjaboaaGreatAbsH
namespace Go.Abs
open Go
theorem sameObj_sound {a b : Option AObj} (h : sameObj a b = true) : a = b ∧ ((∃ e cs f p, a = some (.row e cs f p)) ∨ ∃ c, a = some (.map [] c)) := by
 unfold sameObj at h
 split at h
 ·rename_i e cs f p e' cs' f' p'
  rw [Bool.and_eq_true, Bool.and_eq_true, Bool.and_eq_true, Bool.and_eq_true, nat_beq, nat_beq, nat_beq, nat_beq] at h
  obtain ⟨⟨⟨⟨h1, h2⟩, h3⟩, h4⟩, h5⟩ := h
  obtain ⟨a1, a2⟩ := e
  obtain ⟨b1, b2⟩ := e'
  dsimp only at h1 h2
  subst h1 h2 h3 h4
  rw [aEqs_sound _ _ h5]
  exact ⟨rfl, .inl ⟨_, _, _, _, rfl⟩⟩
 ·rename_i c c'
  rw [nat_beq] at h
  subst h
  exact ⟨rfl, .inr ⟨_, rfl⟩⟩
 ·cases h
theorem ckAll_cons (P : Program) (mask : Nat) (m : Mem) (c : Ck) (cks : List Ck) : ckAll P mask m (c :: cks) = bif isBit mask c.ix then ckAll P mask m cks else bif ckOne P m c then ckAll P mask m cks else false := rfl
theorem ckAll_spec {P : Program} {mask : Nat} {m : Mem} : ∀ {cks : List Ck}, ckAll P mask m cks = true → ∀ c ∈ cks, mask.testBit c.ix = false → ckOne P m c = true
 | [], _, c, hc, _ => by cases hc
 | a :: cks, h, c, hc, hb => by
  rw [ckAll_cons] at h
  rcases List.mem_cons.1 hc with rfl | hc
  ·rw [isBit_eq, hb, cond_false] at h
   cases ho : ckOne P m c with
   | true => rfl
   | false => rw [ho] at h; cases h
  ·have h' : ckAll P mask m cks = true := by
    cases hi : isBit mask a.ix with
    | true => rw [hi] at h; exact h
    | false =>
     rw [hi, cond_false] at h
     cases ho : ckOne P m a with
     | true => rw [ho] at h; exact h
     | false => rw [ho] at h; cases h
   exact ckAll_spec h' c hc hb
theorem leftCk_mem {mask : Nat} : ∀ {cks : List Ck} {c : Ck}, c ∈ cks → mask.testBit c.ix = false → c ∈ leftCk mask cks
 | [], c, h, _ => by cases h
 | a :: cks, c, h, hb => by
  show c ∈ (bif isBit mask a.ix then leftCk mask cks else a :: leftCk mask cks)
  rcases List.mem_cons.1 h with rfl | h
  ·rw [isBit_eq, hb]; exact List.mem_cons_self ..
  ·cases isBit mask a.ix with
   | true => exact leftCk_mem h hb
   | false => exact List.mem_cons_of_mem _ (leftCk_mem h hb)
theorem ckVal_sound {v : AVal} {n : Nat} {o : Out} (h : ckVal v n o = true) : ∃ m, o = .val v m ∧ m.next = n := by
 unfold ckVal at h
 split at h
 ·rename_i v' m
  rw [Bool.and_eq_true, nat_beq] at h
  rw [aEq_sound _ _ h.1]
  exact ⟨m, rfl, h.2⟩
 ·cases h
theorem getT_setIn {nt : Nat} {t : T AVal} {d j : Nat} {v : AVal} : getT (setIn nt t d v) j = if d = j ∧ d < nt then v else getT t j := by
 unfold setIn
 cases h : d.succ.ble nt with
 | true =>
  have h' : d < nt := nat_ble.1 h
  rw [cond_true, getT_set]
  by_cases e : d = j
  ·rw [if_pos e, if_pos ⟨e, h'⟩]
  ·rw [if_neg e, if_neg (fun h => e h.1)]
 | false =>
  have h' : nt < d + 1 := nat_ble_f.1 h
  rw [cond_false, if_neg (fun h => by omega)]
theorem getT_setDst {nt : Nat} {t : T AVal} {dst : Option Tmp} {j : Nat} {v : AVal} : getT (setDst nt t v dst) j = if dst = some j ∧ j < nt then v else getT t j := by
 cases dst with
 | none => rw [if_neg (fun h => by cases h.1)]; rfl
 | some d =>
  show getT (setIn nt t d v) j = _
  rw [getT_setIn]
  by_cases e : d = j
  ·subst e; simp
  ·rw [if_neg (fun h => e h.1), if_neg (fun h => e (by cases h.1; rfl))]
theorem poisonDsts_cons (t : T AVal) (nt : Nat) (o : Oper) (ops : List Oper) : poisonDsts t nt (o :: ops) = (match o.dst with | some d => setIn nt (poisonDsts t nt ops) d .poison | none => poisonDsts t nt ops) := rfl
theorem getT_poisonDsts {nt : Nat} {t : T AVal} : ∀ (ops : List Oper) (j : Nat), getT (poisonDsts t nt ops) j = .poison ∨ (getT (poisonDsts t nt ops) j = getT t j ∧ (j < nt → ∀ o ∈ ops, o.dst ≠ some j))
 | [], j => .inr ⟨rfl, fun _ o ho => by cases ho⟩
 | o :: ops, j => by
  rw [poisonDsts_cons]
  cases hd : o.dst with
  | none =>
   rcases getT_poisonDsts ops j with h | ⟨h1, h2⟩
   ·exact .inl h
   ·refine .inr ⟨h1, fun hj q hq => ?_⟩
    rcases List.mem_cons.1 hq with rfl | hq
    ·rw [hd]; exact fun e => by cases e
    ·exact h2 hj q hq
  | some d =>
   dsimp only
   rw [getT_setIn]
   by_cases e : d = j ∧ d < nt
   ·rw [if_pos e]; exact .inl rfl
   ·rw [if_neg e]
    rcases getT_poisonDsts ops j with h | ⟨h1, h2⟩
    ·exact .inl h
    ·refine .inr ⟨h1, fun hj q hq => ?_⟩
     rcases List.mem_cons.1 hq with rfl | hq
     ·rw [hd]
      intro e2
      cases e2
      exact e ⟨rfl, hj⟩
     ·exact h2 hj q hq
open Go.RowKit (Below)
section
variable {P : Program} {w0 : Wo} {B : Nat} {ρ : Rho} {m : Mem} {w : World} {fr : Frame}
noncomputable def restrictT (t : T AVal) (l : List Tmp) : T AVal := l.foldr (fun d a => a.set d (getT t d)) .e
theorem getT_restrict (t : T AVal) (j : Nat) : ∀ l : List Tmp, getT (restrictT t l) j = if j ∈ l then getT t j else .poison
 | [] => by show getT .e j = _; unfold getT; rw [T.get_e]; simp
 | d :: l => by
  show getT ((restrictT t l).set d (getT t d)) j = _
  rw [getT_set, getT_restrict t j l]
  by_cases e : d = j
  ·subst e; simp
  ·rw [if_neg e]
   by_cases hj : j ∈ l
   ·rw [if_pos hj, if_pos (by simp [hj])]
   ·rw [if_neg hj, if_neg (by simp [hj, Ne.symm e])]
theorem mem_opTmps {o : Oper} {t : Tmp} : t ∈ opTmps o ↔ Operand.tmp t ∈ o.op.operands := by
 unfold opTmps
 rw [List.mem_filterMap]
 constructor
 ·rintro ⟨x, hx, e⟩
  cases x with
  | tmp s => cases e; simpa using hx
  | _ => cases e
 ·intro h
  exact ⟨.tmp t, by simpa using h, rfl⟩
theorem same_restrict (t : T AVal) (o : Oper) : SameAt t (restrictT t (opTmps o)) o.op.operands := by
 intro x hx
 cases x with
 | tmp s =>
  show getT t s = getT (restrictT t (opTmps o)) s
  rw [getT_restrict, if_pos (mem_opTmps.2 hx)]
 | _ => rfl
theorem eval_restrict {t : T AVal} {o : Oper} (h : ∀ s ∈ opTmps o, R ρ (getT t s) (fr.tmps.getD s undef)) (x : Operand) : R ρ (evalT (restrictT t (opTmps o)) x) (fr.eval x) := by
 cases x with
 | tmp s =>
  show R ρ (getT (restrictT t (opTmps o)) s) (fr.tmps.getD s undef)
  rw [getT_restrict]
  by_cases hs : s ∈ opTmps o
  ·rw [if_pos hs]; exact h s hs
  ·rw [if_neg hs]; simp [R]
 | const v => simp only [evalT, Frame.eval, R]
 | global g => simp only [evalT, Frame.eval, R]
 | func f => simp only [evalT, Frame.eval, R]
theorem light_run (h : MR w0 B ρ m w) {t : T AVal} {o : Oper} (hop : ∀ s ∈ opTmps o, R ρ (getT t s) (fr.tmps.getD s undef)) {v : AVal} (e : aop P t m o.op = .val v m) :
  ∃ x w' ρ', ((execOp fr.eval o).run P w = .ok (.value x) w' ∨ ((execOp fr.eval o).run P w = .ok .skip w' ∧ v = .poison)) ∧ ρ.le ρ' ∧ MR w0 B ρ' m w' ∧ R ρ' v x := by
 have h1 := aop_sound h (eval_restrict (ρ := ρ) hop) o (P := P)
 rw [← aop_congr o.op (same_restrict t o), e] at h1
 exact h1
theorem maker_run (h : MR w0 B ρ m w) {t : T AVal} {o : Oper} (hk : okind o.op = 2) (hop : ∀ s ∈ opTmps o, R ρ (getT t s) (fr.tmps.getD s undef)) {mc mc' : Mem} {v : AVal} (e : aop P t mc o.op = .val v mc')
  (hstill : m.heap.get mc.next = mc'.heap.get mc.next) (hno : ρ mc.next = none) (hnb : ¬ w0.N mc.next) :
  ∃ x w' ρ', (execOp fr.eval o).run P w = .ok (.value x) w' ∧ ρ.le ρ' ∧ MR w0 B ρ' m w' ∧ R ρ' v x ∧ (∀ q, q ≠ mc.next → ρ' q = ρ q) := by
 obtain ⟨s, hs, hmk⟩ := make_sound (P := P) (ρ := ρ) (m := mc) (w := w) o (eval_restrict (ρ := ρ) hop) hk
 rw [← aop_congr o.op (same_restrict t o), e] at hmk
 obtain ⟨g, hv, hcase⟩ := hmk
 rcases hcase with ⟨el, cells, cs, x, rfl, hCR, hrun, hR⟩ | ⟨x, rfl, hrun, hR⟩
 ·have ho : m.heap.get mc.next = some (.row el cells mc.next 0) := by
   rw [hstill]
   unfold Abs.newRow
   rw [new_heap, T.get_set_same]
  obtain ⟨h1, h2⟩ := h.place (p := ⟨w.heap.size, 0, cs.size, el.2⟩) (x := .cells cs el.1) rfl ho hno hnb
   ⟨h.size, rfl, cs, 0, 0, rfl, rfl, hCR.mono (Rho.le_add hno), fun i _ h1 => by omega, fun _ i _ h1 => by omega⟩
  refine ⟨x, _, _, ?_, h2, h1, ?_, fun q hq => Rho.add_other _ _ hq⟩
  ·rw [hs, run_bind, hrun]; rfl
  ·rw [hv]; exact hR _ _ (Rho.add_same _ _ _)
 ·have ho : m.heap.get mc.next = some (.map [] 0) := by
   rw [hstill, new_heap, T.get_set_same]
  obtain ⟨h1, h2⟩ := h.place (p := Pl.obj w.heap.size) (x := .map #[] 0) rfl ho hno hnb ⟨h.size, rfl, #[], rfl, rfl⟩
  refine ⟨x, _, _, ?_, h2, h1, ?_, fun q hq => Rho.add_other _ _ hq⟩
  ·rw [hs, run_bind, hrun]; rfl
  ·rw [hv]; exact hR _ _ (Rho.add_same _ _ _)
end
open Go.RowKit (Below)
section
variable {P : Program} {w0 : Wo} {B : Nat} {ρ : Rho} {m : Mem} {w : World}
theorem aop_re (tmps : T AVal) (op : Op) (hk : okind op = 0) (m m2 : Mem) : aop P tmps m2 op = (aop P tmps m op).re m2 := by
 cases op with
 | move x => rfl
 | assign x => rfl
 | pick c a b => exact (X_pickOp _ _ _ m m2).h
 | build t parts => exact (X_buildOp _ _ _ _ m m2).h
 | nilCheck x => exact (X_nilCheck _ _ m m2).h
 | binOp op t x y _ => exact (X_binOpA _ _ _ _ _ _ _ m m2).h
 | unOp op _ x => exact (X_lits1 _ _ _ m m2).h
 | makeInterface t x =>
  show (bif concreteT (P.underlying t) then mkIface t m2 (evalT tmps x) else .bad "makeInterface") = Out.re m2 (bif concreteT (P.underlying t) then mkIface t m (evalT tmps x) else .bad "makeInterface")
  cases concreteT (P.underlying t)
  ·rfl
  ·exact (X_mkIface _ _ m m2).h
 | makeFunc fn first captured =>
  show (bif isYield fn then .bad "makeFunc" else .val (.func fn (mapL (evalT tmps) first.toList) (mapL (evalT tmps) captured.toList)) m2) = Out.re m2 (bif isYield fn then .bad "makeFunc" else .val (.func fn (mapL (evalT tmps) first.toList) (mapL (evalT tmps) captured.toList)) m)
  cases isYield fn <;> rfl
 | fieldAddr s x f => exact (X_fieldAddr _ _ _ m m2).h
 | field s x f => exact (X_fieldOp _ _ _ m m2).h
 | indexAddr t x ix => exact (X_indexA _ _ _ _ m m2).h
 | index t x ix => exact (X_indexV _ _ _ _ m m2).h
 | typeAssert x t asserted ok => exact (X_typeAssert _ _ _ _ m m2).h
 | extract t ix => exact (X_extractOp _ _ m m2).h
 | call c =>
  obtain ⟨callee, args, ats⟩ := c
  cases callee with
  | builtin b =>
   have hb : ∀ m, aop P tmps m (.call ⟨.builtin b, args, ats⟩) = builtinOp P b ats (mapL (evalT tmps) args.toList) m := fun _ => rfl
   rw [hb, hb]
   generalize mapL (evalT tmps) args.toList = l
   cases b with
   | max =>
    match l with
    | [] => rfl
    | [x] => rfl
    | [x, y] => exact (X_litsOp _ _ _ _ m m2).h
    | _ :: _ :: _ :: _ => exact (X_litsOp _ _ _ _ m m2).h
   | min =>
    match l with
    | [] => rfl
    | [x] => rfl
    | [x, y] => exact (X_litsOp _ _ _ _ m m2).h
    | _ :: _ :: _ :: _ => exact (X_litsOp _ _ _ _ m m2).h
   | len => exact absurd (show (1 : Nat) = 0 from hk) (by decide)
   | _ => exact absurd (show (3 : Nat) = 0 from hk) (by decide)
  | _ => exact absurd (show (3 : Nat) = 0 from hk) (by decide)
 | alloc t => exact absurd (show (2 : Nat) = 0 from hk) (by decide)
 | box t x => exact absurd (show (2 : Nat) = 0 from hk) (by decide)
 | buildSlice t n ps => exact absurd (show (2 : Nat) = 0 from hk) (by decide)
 | makeMap t r => exact absurd (show (2 : Nat) = 0 from hk) (by decide)
 | makeSlice t l c => exact absurd (show (2 : Nat) = 0 from hk) (by decide)
 | load t a => exact absurd (show (1 : Nat) = 0 from hk) (by decide)
 | lookup t x k ok => exact absurd (show (1 : Nat) = 0 from hk) (by decide)
 | slice t x lo hi mx => exact absurd (show (1 : Nat) = 0 from hk) (by decide)
 | convert s d x => exact absurd (show (1 : Nat) = 0 from hk) (by decide)
 | _ => exact absurd (show (3 : Nat) = 0 from hk) (by decide)
def Makes (m : Mem) (out : Out) : Prop := ∀ v m', out = .val v m' → madeAt v = some m.next ∧ ∃ o, m' = m.new o ∧ ((∃ e cells, o = .row e cells m.next 0) ∨ o = .map [] 0)
theorem Makes.bad (why : String) : Makes m (.bad why) := fun v m' e => by cases e
theorem Makes.row {v : AVal} (e : Elem) (cells : List AVal) (h : madeAt v = some m.next) : Makes m (.val v (newRow m e cells)) := fun v' m' e' => by
 cases e'; exact ⟨h, _, rfl, .inl ⟨e, cells, rfl⟩⟩
theorem Makes.map : Makes m (.val (.map m.next) (m.new (.map [] 0))) := fun v' m' e' => by
 cases e'; exact ⟨rfl, _, rfl, .inr rfl⟩
theorem aop_makes (tmps : T AVal) (op : Op) (hk : okind op = 2) : Makes m (aop P tmps m op) := by
 cases op with
 | alloc t =>
  show Makes m (allocOp m t (zcells P t))
  cases zcells P t with
  | none => exact Makes.bad _
  | some z => exact Makes.row _ _ rfl
 | box t x =>
  show Makes m (boxOp m t (evalT tmps x))
  unfold boxOp
  cases isPoison (evalT tmps x) with
  | true => exact Makes.bad _
  | false => exact Makes.row _ _ rfl
 | buildSlice t len parts =>
  show Makes m (buildSlice P len (ev2 tmps parts.toList) m (sizedElem P (sliceElem P t)))
  cases sizedElem P (sliceElem P t) with
  | none => exact Makes.bad _
  | some es =>
   obtain ⟨e, size⟩ := es
   show Makes m (match zcells P e with
    | some z => bif (lenL z).beq size && (len.mul size).ble 10000 && !(size.beq 0) then bsWith m (e, size) len (fillL (fun i => some (i.mul size, size)) (ev2 tmps parts.toList) (repL z len)) else .bad "buildSlice"
    | none => .bad "buildSlice")
   cases zcells P e with
   | none => exact Makes.bad _
   | some z =>
    dsimp only
    cases ((lenL z).beq size && (len.mul size).ble 10000 && !(size.beq 0)) with
    | false => exact Makes.bad _
    | true =>
     rw [cond_true]
     unfold bsWith
     split
     ·exact Makes.row _ _ rfl
     ·exact Makes.bad _
 | makeMap t r =>
  show Makes m (makeMapOp P m t (r.map (evalT tmps)))
  unfold makeMapOp
  split
  ·exact Makes.map
  ·split
   ·exact Makes.map
   ·exact Makes.bad _
 | makeSlice t l c =>
  show Makes m (makeSl P m (natOf (evalT tmps l)) (natOf (evalT tmps c)) (sizedElem P (sliceElem P t)))
  unfold makeSl
  split
  ·split
   ·generalize (_ && growOK P _ _) = c
    cases c with
    | false => exact Makes.bad _
    | true => exact Makes.row _ _ rfl
   ·exact Makes.bad _
  ·exact Makes.bad _
 | call c =>
  obtain ⟨callee, args, ats⟩ := c
  exfalso
  cases callee with
  | builtin b => cases b <;> simp [okind] at hk
  | _ => simp [okind] at hk
 | _ => simp [okind] at hk
theorem MR.hold (h : MR w0 B ρ m w) {o : AObj} (ho : (∃ e cells, o = .row e cells m.next 0) ∨ o = .map [] 0) : MR w0 B ρ (m.new o) w := by
 have hg : ∀ r, (m.new o).heap.get r = if m.next = r then some o else m.heap.get r := by intro r; rw [new_heap, T.get_set]
 have hn : ρ m.next = none := h.dom _ (Nat.le_refl _)
 refine ⟨?_, ?_, ?_, ?_, ?_, ?_, ?_, ?_, h.below, h.base, fun q hq => ?_, h.globs (new_gl _ _) (Rho.le.refl ρ)⟩
 ·intro r o' p h1 h2
  rw [hg] at h1
  by_cases hr : m.next = r
  ·subst hr; rw [hn] at h2; cases h2
  ·rw [if_neg hr] at h1; exact h.obj r o' p h1 h2
 ·intro r r' o1 o2 p1 p2 hne h1 h2 h3 h4 h5
  rw [hg] at h1 h2
  by_cases hr : m.next = r
  ·subst hr; rw [hn] at h3; cases h3
  ·rw [if_neg hr] at h1
   by_cases hr' : m.next = r'
   ·subst hr'; rw [hn] at h4; cases h4
   ·rw [if_neg hr'] at h2; exact h.inj r r' o1 o2 p1 p2 hne h1 h2 h3 h4 h5
 ·intro r hr; rw [new_next] at hr; exact h.dom r (by omega)
 ·intro r hr; rw [new_next] at hr; rw [hg, if_neg (by omega)]; exact h.hdom r (by omega)
 ·intro f l hl
  rw [new_fams] at hl
  rw [new_next]
  have := h.famlt f l hl
  omega
 ·intro r e cs f q h1
  rw [hg] at h1
  rw [new_next]
  by_cases hr : m.next = r
  ·rw [if_pos hr] at h1
   cases h1
   rcases ho with ⟨e', cells, he⟩ | he
   ·cases he; omega
   ·cases he
  ·rw [if_neg hr] at h1; have := h.rowfam r e cs f q h1; omega
 ·intro r e cs f q l h1 h2
  rw [hg] at h1
  rw [new_fams] at h2
  by_cases hr : m.next = r
  ·rw [if_pos hr] at h1
   cases h1
   rcases ho with ⟨e', cells, he⟩ | he
   ·cases he; have := h.famlt _ _ h2; omega
   ·cases he
  ·rw [if_neg hr] at h1; exact h.fam r e cs f q l h1 h2
 ·intro r r' e e' cs cs' f q q' h1 h2 h3
  rw [hg] at h1 h2
  rw [new_fams] at h3
  have own : ∀ {e2 : Elem} {c2 : List AVal} {q2 : Nat}, o = .row e2 c2 f q2 → f = m.next := by
   intro e2 c2 q2 he2
   rcases ho with ⟨e', cells, he⟩ | he
   ·rw [he] at he2; cases he2; rfl
   ·rw [he] at he2; cases he2
  by_cases hr : m.next = r
  ·rw [if_pos hr] at h1
   cases h1
   have hf := own rfl
   by_cases hr' : m.next = r'
   ·omega
   ·rw [if_neg hr'] at h2; have := h.rowfam _ _ _ _ _ h2; omega
  ·rw [if_neg hr] at h1
   by_cases hr' : m.next = r'
   ·rw [if_pos hr'] at h2
    cases h2
    have hf := own rfl
    have := h.rowfam _ _ _ _ _ h1; omega
   ·rw [if_neg hr'] at h2; exact h.lone r r' e e' cs cs' f q q' h1 h2 h3
 ·rw [new_next]; have := h.ban q hq; exact ⟨by omega, this.2⟩
theorem MR.reban (h : MR w0 B ρ m w) {N : Nat → Prop} (hN : ∀ r, N r → r < m.next ∧ ρ r = none) : MR ⟨w0.w, N⟩ B ρ m w :=
 ⟨h.obj, h.inj, h.dom, h.hdom, h.famlt, h.rowfam, h.fam, h.lone, h.below, h.base, hN, h.glob⟩
theorem MR.unban {N N' : Nat → Prop} {u : World} (h : MR ⟨u, N⟩ B ρ m w) (hN : ∀ r, N' r → N r) : MR ⟨u, N'⟩ B ρ m w :=
 ⟨h.obj, h.inj, h.dom, h.hdom, h.famlt, h.rowfam, h.fam, h.lone, h.below, h.base, fun r hr => h.ban r (hN r hr), h.glob⟩
end
end Go.Abs
