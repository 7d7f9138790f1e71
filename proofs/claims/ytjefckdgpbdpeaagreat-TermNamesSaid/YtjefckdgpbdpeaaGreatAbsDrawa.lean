/- An executor whose runs hold in every world: a part of it and of what is proved of it. -/
import Derived.Test.YtjefckdgpbdpeaaGreatAbsOrder

namespace Go.Abs
open Go

theorem sameObj_sound {a b : Option AObj} (h : sameObj a b = true) : a = b ∧ ((∃ e cs f p, a = some (.row e cs f p)) ∨ ∃ c, a = some (.map [] c)) := by
  unfold sameObj at h
  split at h
  · rename_i e cs f p e' cs' f' p'
    rw [Bool.and_eq_true, Bool.and_eq_true, Bool.and_eq_true, Bool.and_eq_true, nat_beq, nat_beq, nat_beq, nat_beq] at h
    obtain ⟨⟨⟨⟨h1, h2⟩, h3⟩, h4⟩, h5⟩ := h
    obtain ⟨a1, a2⟩ := e
    obtain ⟨b1, b2⟩ := e'
    dsimp only at h1 h2
    subst h1 h2 h3 h4
    rw [aEqs_sound _ _ h5]
    exact ⟨rfl, .inl ⟨_, _, _, _, rfl⟩⟩
  · rename_i c c'
    rw [nat_beq] at h
    subst h
    exact ⟨rfl, .inr ⟨_, rfl⟩⟩
  · cases h
theorem ckAll_cons (P : Program) (mask : Nat) (m : Mem) (c : Ck) (cks : List Ck) : ckAll P mask m (c :: cks) = bif isBit mask c.ix then ckAll P mask m cks else bif ckOne P m c then ckAll P mask m cks else false := rfl
theorem ckAll_spec {P : Program} {mask : Nat} {m : Mem} : ∀ {cks : List Ck}, ckAll P mask m cks = true → ∀ c ∈ cks, mask.testBit c.ix = false → ckOne P m c = true
  | [], _, c, hc, _ => by cases hc
  | a :: cks, h, c, hc, hb => by
    rw [ckAll_cons] at h
    rcases List.mem_cons.1 hc with rfl | hc
    · rw [isBit_eq, hb, cond_false] at h
      cases ho : ckOne P m c with
      | true => rfl
      | false => rw [ho] at h; cases h
    · have h' : ckAll P mask m cks = true := by
        cases hi : isBit mask a.ix with
        | true => rw [hi] at h; exact h
        | false =>
          rw [hi, cond_false] at h
          cases ho : ckOne P m a with
          | true => rw [ho] at h; exact h
          | false => rw [ho] at h; cases h
      exact ckAll_spec h' c hc hb
theorem leftCk_mem {mask : Nat} : ∀ {cks : List Ck} {c : Ck}, c ∈ cks → mask.testBit c.ix = false → c ∈ leftCk mask cks
  | [], c, h, _ => by cases h
  | a :: cks, c, h, hb => by
    show c ∈ (bif isBit mask a.ix then leftCk mask cks else a :: leftCk mask cks)
    rcases List.mem_cons.1 h with rfl | h
    · rw [isBit_eq, hb]; exact List.mem_cons_self ..
    · cases isBit mask a.ix with
      | true => exact leftCk_mem h hb
      | false => exact List.mem_cons_of_mem _ (leftCk_mem h hb)
theorem ckVal_sound {v : AVal} {n : Nat} {o : Out} (h : ckVal v n o = true) : ∃ m, o = .val v m ∧ m.next = n := by
  unfold ckVal at h
  split at h
  · rename_i v' m
    rw [Bool.and_eq_true, nat_beq] at h
    rw [aEq_sound _ _ h.1]
    exact ⟨m, rfl, h.2⟩
  · cases h

theorem getT_setIn {nt : Nat} {t : T AVal} {d j : Nat} {v : AVal} : getT (setIn nt t d v) j = if d = j ∧ d < nt then v else getT t j := by
  unfold setIn
  cases h : d.succ.ble nt with
  | true =>
    have h' : d < nt := nat_ble.1 h
    rw [cond_true, getT_set]
    by_cases e : d = j
    · rw [if_pos e, if_pos ⟨e, h'⟩]
    · rw [if_neg e, if_neg (fun h => e h.1)]
  | false =>
    have h' : nt < d + 1 := nat_ble_f.1 h
    rw [cond_false, if_neg (fun h => by omega)]
theorem getT_setDst {nt : Nat} {t : T AVal} {dst : Option Tmp} {j : Nat} {v : AVal} : getT (setDst nt t v dst) j = if dst = some j ∧ j < nt then v else getT t j := by
  cases dst with
  | none => rw [if_neg (fun h => by cases h.1)]; rfl
  | some d =>
    show getT (setIn nt t d v) j = _
    rw [getT_setIn]
    by_cases e : d = j
    · subst e; simp
    · rw [if_neg (fun h => e h.1), if_neg (fun h => e (by cases h.1; rfl))]
theorem poisonDsts_cons (t : T AVal) (nt : Nat) (o : Oper) (ops : List Oper) : poisonDsts t nt (o :: ops) = (match o.dst with | some d => setIn nt (poisonDsts t nt ops) d .poison | none => poisonDsts t nt ops) := rfl
/-- poisoned, or as it was and no operation's -/
theorem getT_poisonDsts {nt : Nat} {t : T AVal} : ∀ (ops : List Oper) (j : Nat), getT (poisonDsts t nt ops) j = .poison ∨ (getT (poisonDsts t nt ops) j = getT t j ∧ (j < nt → ∀ o ∈ ops, o.dst ≠ some j))
  | [], j => .inr ⟨rfl, fun _ o ho => by cases ho⟩
  | o :: ops, j => by
    rw [poisonDsts_cons]
    cases hd : o.dst with
    | none =>
      rcases getT_poisonDsts ops j with h | ⟨h1, h2⟩
      · exact .inl h
      · refine .inr ⟨h1, fun hj q hq => ?_⟩
        rcases List.mem_cons.1 hq with rfl | hq
        · rw [hd]; exact fun e => by cases e
        · exact h2 hj q hq
    | some d =>
      dsimp only
      rw [getT_setIn]
      by_cases e : d = j ∧ d < nt
      · rw [if_pos e]; exact .inl rfl
      · rw [if_neg e]
        rcases getT_poisonDsts ops j with h | ⟨h1, h2⟩
        · exact .inl h
        · refine .inr ⟨h1, fun hj q hq => ?_⟩
          rcases List.mem_cons.1 hq with rfl | hq
          · rw [hd]
            intro e2
            cases e2
            exact e ⟨rfl, hj⟩
          · exact h2 hj q hq
end Go.Abs

namespace Go.Abs
open Go
open Go.RowKit (Below)

section
variable {P : Program} {w0 : Wo} {B : Nat} {ρ : Rho} {m : Mem} {w : World} {fr : Frame}

/-- the temporaries of some names alone -/
noncomputable def restrictT (t : T AVal) (l : List Tmp) : T AVal := l.foldr (fun d a => a.set d (getT t d)) .e
theorem getT_restrict (t : T AVal) (j : Nat) : ∀ l : List Tmp, getT (restrictT t l) j = if j ∈ l then getT t j else .poison
  | [] => by show getT .e j = _; unfold getT; rw [T.get_e]; simp
  | d :: l => by
    show getT ((restrictT t l).set d (getT t d)) j = _
    rw [getT_set, getT_restrict t j l]
    by_cases e : d = j
    · subst e; simp
    · rw [if_neg e]
      by_cases hj : j ∈ l
      · rw [if_pos hj, if_pos (by simp [hj])]
      · rw [if_neg hj, if_neg (by simp [hj, Ne.symm e])]
theorem mem_opTmps {o : Oper} {t : Tmp} : t ∈ opTmps o ↔ Operand.tmp t ∈ o.op.operands := by
  unfold opTmps
  rw [List.mem_filterMap]
  constructor
  · rintro ⟨x, hx, e⟩
    cases x with
    | tmp s => cases e; simpa using hx
    | _ => cases e
  · intro h
    exact ⟨.tmp t, by simpa using h, rfl⟩
theorem same_restrict (t : T AVal) (o : Oper) : SameAt t (restrictT t (opTmps o)) o.op.operands := by
  intro x hx
  cases x with
  | tmp s =>
    show getT t s = getT (restrictT t (opTmps o)) s
    rw [getT_restrict, if_pos (mem_opTmps.2 hx)]
  | _ => rfl
theorem eval_restrict {t : T AVal} {o : Oper} (h : ∀ s ∈ opTmps o, R ρ (getT t s) (fr.tmps.getD s undef)) (x : Operand) : R ρ (evalT (restrictT t (opTmps o)) x) (fr.eval x) := by
  cases x with
  | tmp s =>
    show R ρ (getT (restrictT t (opTmps o)) s) (fr.tmps.getD s undef)
    rw [getT_restrict]
    by_cases hs : s ∈ opTmps o
    · rw [if_pos hs]; exact h s hs
    · rw [if_neg hs]; simp [R]
  | const v => simp only [evalT, Frame.eval, R]
  | global g => simp only [evalT, Frame.eval, R]
  | func f => simp only [evalT, Frame.eval, R]

/-- a light operation that makes nothing, run by the machine -/
theorem light_run (h : MR w0 B ρ m w) {t : T AVal} {o : Oper} (hop : ∀ s ∈ opTmps o, R ρ (getT t s) (fr.tmps.getD s undef)) {v : AVal} (e : aop P t m o.op = .val v m) :
    ∃ x w' ρ', ((execOp fr.eval o).run P w = .ok (.value x) w' ∨ ((execOp fr.eval o).run P w = .ok .skip w' ∧ v = .poison)) ∧ ρ.le ρ' ∧ MR w0 B ρ' m w' ∧ R ρ' v x := by
  have h1 := aop_sound h (eval_restrict (ρ := ρ) hop) o (P := P)
  rw [← aop_congr o.op (same_restrict t o), e] at h1
  exact h1
/-- a maker, run by the machine: what it makes has stood in memory since the plan ran it -/
theorem maker_run (h : MR w0 B ρ m w) {t : T AVal} {o : Oper} (hk : okind o.op = 2) (hop : ∀ s ∈ opTmps o, R ρ (getT t s) (fr.tmps.getD s undef)) {mc mc' : Mem} {v : AVal} (e : aop P t mc o.op = .val v mc')
    (hstill : m.heap.get mc.next = mc'.heap.get mc.next) (hno : ρ mc.next = none) (hnb : ¬ w0.N mc.next) :
    ∃ x w' ρ', (execOp fr.eval o).run P w = .ok (.value x) w' ∧ ρ.le ρ' ∧ MR w0 B ρ' m w' ∧ R ρ' v x ∧ (∀ q, q ≠ mc.next → ρ' q = ρ q) := by
  obtain ⟨s, hs, hmk⟩ := make_sound (P := P) (ρ := ρ) (m := mc) (w := w) o (eval_restrict (ρ := ρ) hop) hk
  rw [← aop_congr o.op (same_restrict t o), e] at hmk
  obtain ⟨g, hv, hcase⟩ := hmk
  rcases hcase with ⟨el, cells, cs, x, rfl, hCR, hrun, hR⟩ | ⟨x, rfl, hrun, hR⟩
  · have ho : m.heap.get mc.next = some (.row el cells mc.next 0) := by
      rw [hstill]
      unfold Abs.newRow
      rw [new_heap, T.get_set_same]
    obtain ⟨h1, h2⟩ := h.place (p := ⟨w.heap.size, 0, cs.size, el.2⟩) (x := .cells cs el.1) rfl ho hno hnb
      ⟨h.size, rfl, cs, 0, 0, rfl, rfl, hCR.mono (Rho.le_add hno), fun i _ h1 => by omega⟩
    refine ⟨x, _, _, ?_, h2, h1, ?_, fun q hq => Rho.add_other _ _ hq⟩
    · rw [hs, run_bind, hrun]; rfl
    · rw [hv]; exact hR _ _ (Rho.add_same _ _ _)
  · have ho : m.heap.get mc.next = some (.map [] 0) := by
      rw [hstill, new_heap, T.get_set_same]
    obtain ⟨h1, h2⟩ := h.place (p := Pl.obj w.heap.size) (x := .map #[] 0) rfl ho hno hnb ⟨h.size, rfl, #[], rfl, rfl⟩
    refine ⟨x, _, _, ?_, h2, h1, ?_, fun q hq => Rho.add_other _ _ hq⟩
    · rw [hs, run_bind, hrun]; rfl
    · rw [hv]; exact hR _ _ (Rho.add_same _ _ _)
end
end Go.Abs
