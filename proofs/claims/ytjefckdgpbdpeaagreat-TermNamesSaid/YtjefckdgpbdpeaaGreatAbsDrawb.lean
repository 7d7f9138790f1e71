/- An executor whose runs hold in every world: a part of it and of what is proved of it. -/
import Derived.Test.YtjefckdgpbdpeaaGreatAbsDrawa

namespace Go.Abs
open Go
open Go.RowKit (Below)

section
variable {P : Program} {w0 : Wo} {B : Nat} {ρ : Rho} {m : Mem} {w : World}

/-- an operation that touches no memory -/
theorem aop_re (tmps : T AVal) (op : Op) (hk : okind op = 0) (m m2 : Mem) : aop P tmps m2 op = (aop P tmps m op).re m2 := by
  cases op with
  | move x => rfl
  | assign x => rfl
  | pick c a b => exact X_pickOp _ _ _ m m2
  | build t parts => exact X_buildOp _ _ _ _ m m2
  | nilCheck x => exact X_nilCheck _ _ m m2
  | binOp op t x y _ => exact X_binOpA _ _ _ _ _ _ _ m m2
  | unOp op _ x => exact X_lits1 _ _ _ m m2
  | makeInterface t x =>
    show (bif concreteT (P.underlying t) then mkIface t m2 (evalT tmps x) else .bad "makeInterface") = Out.re m2 (bif concreteT (P.underlying t) then mkIface t m (evalT tmps x) else .bad "makeInterface")
    cases concreteT (P.underlying t)
    · rfl
    · exact X_mkIface _ _ m m2
  | makeFunc fn first captured =>
    show (bif isYield fn then .bad "makeFunc" else .val (.func fn (mapL (evalT tmps) first.toList) (mapL (evalT tmps) captured.toList)) m2) = Out.re m2 (bif isYield fn then .bad "makeFunc" else .val (.func fn (mapL (evalT tmps) first.toList) (mapL (evalT tmps) captured.toList)) m)
    cases isYield fn <;> rfl
  | fieldAddr s x f => exact X_fieldAddr _ _ _ m m2
  | field s x f => exact X_fieldOp _ _ _ m m2
  | indexAddr t x ix => exact X_indexA _ _ _ _ m m2
  | index t x ix => exact X_indexV _ _ _ _ m m2
  | typeAssert x t asserted ok => exact X_typeAssert _ _ _ _ m m2
  | extract t ix => exact X_extractOp _ _ m m2
  | call c =>
    obtain ⟨callee, args, ats⟩ := c
    cases callee with
    | builtin b =>
      have hb : ∀ m, aop P tmps m (.call ⟨.builtin b, args, ats⟩) = builtinOp P b ats (mapL (evalT tmps) args.toList) m := fun _ => rfl
      rw [hb, hb]
      generalize mapL (evalT tmps) args.toList = l
      cases b with
      | max =>
        match l with
        | [] => rfl
        | [x] => rfl
        | [x, y] => exact X_litsOp _ _ _ _ m m2
        | _ :: _ :: _ :: _ => rfl
      | min =>
        match l with
        | [] => rfl
        | [x] => rfl
        | [x, y] => exact X_litsOp _ _ _ _ m m2
        | _ :: _ :: _ :: _ => rfl
      | len => exact absurd (show (1 : Nat) = 0 from hk) (by decide)
      | _ => exact absurd (show (3 : Nat) = 0 from hk) (by decide)
    | _ => exact absurd (show (3 : Nat) = 0 from hk) (by decide)
  | alloc t => exact absurd (show (2 : Nat) = 0 from hk) (by decide)
  | box t x => exact absurd (show (2 : Nat) = 0 from hk) (by decide)
  | buildSlice t n ps => exact absurd (show (2 : Nat) = 0 from hk) (by decide)
  | makeMap t r => exact absurd (show (2 : Nat) = 0 from hk) (by decide)
  | makeSlice t l c => exact absurd (show (2 : Nat) = 0 from hk) (by decide)
  | load t a => exact absurd (show (1 : Nat) = 0 from hk) (by decide)
  | lookup t x k ok => exact absurd (show (1 : Nat) = 0 from hk) (by decide)
  | slice t x lo hi mx => exact absurd (show (1 : Nat) = 0 from hk) (by decide)
  | convert s d x => exact absurd (show (1 : Nat) = 0 from hk) (by decide)
  | _ => exact absurd (show (3 : Nat) = 0 from hk) (by decide)

/-- what a maker leaves: one new object, of which nothing else knows -/
def Makes (m : Mem) (out : Out) : Prop := ∀ v m', out = .val v m' → madeAt v = some m.next ∧ ∃ o, m' = m.new o ∧ ((∃ e cells, o = .row e cells m.next 0) ∨ o = .map [] 0)
theorem Makes.bad (why : String) : Makes m (.bad why) := fun v m' e => by cases e
theorem Makes.row {v : AVal} (e : Elem) (cells : List AVal) (h : madeAt v = some m.next) : Makes m (.val v (newRow m e cells)) := fun v' m' e' => by
  cases e'; exact ⟨h, _, rfl, .inl ⟨e, cells, rfl⟩⟩
theorem Makes.map : Makes m (.val (.map m.next) (m.new (.map [] 0))) := fun v' m' e' => by
  cases e'; exact ⟨rfl, _, rfl, .inr rfl⟩
theorem aop_makes (tmps : T AVal) (op : Op) (hk : okind op = 2) : Makes m (aop P tmps m op) := by
  cases op with
  | alloc t =>
    show Makes m (allocOp m t (zcells P t))
    cases zcells P t with
    | none => exact Makes.bad _
    | some z => exact Makes.row _ _ rfl
  | box t x =>
    show Makes m (boxOp m t (evalT tmps x))
    unfold boxOp
    cases isPoison (evalT tmps x) with
    | true => exact Makes.bad _
    | false => exact Makes.row _ _ rfl
  | buildSlice t len parts =>
    show Makes m (buildSlice P len (ev2 tmps parts.toList) m (sizedElem P (sliceElem P t)))
    cases sizedElem P (sliceElem P t) with
    | none => exact Makes.bad _
    | some es =>
      obtain ⟨e, size⟩ := es
      show Makes m (match zcells P e with
        | some z => bif (lenL z).beq size && (len.mul size).ble 10000 && !(size.beq 0) then bsWith m (e, size) len (fillL (fun i => some (i.mul size, size)) (ev2 tmps parts.toList) (repL z len)) else .bad "buildSlice"
        | none => .bad "buildSlice")
      cases zcells P e with
      | none => exact Makes.bad _
      | some z =>
        dsimp only
        cases ((lenL z).beq size && (len.mul size).ble 10000 && !(size.beq 0)) with
        | false => exact Makes.bad _
        | true =>
          rw [cond_true]
          unfold bsWith
          split
          · exact Makes.row _ _ rfl
          · exact Makes.bad _
  | makeMap t r =>
    show Makes m (makeMapOp P m t (r.map (evalT tmps)))
    unfold makeMapOp
    split
    · exact Makes.map
    · split
      · exact Makes.map
      · exact Makes.bad _
  | makeSlice t l c =>
    show Makes m (makeSl P m (natOf (evalT tmps l)) (natOf (evalT tmps c)) (sizedElem P (sliceElem P t)))
    unfold makeSl
    split
    · split
      · generalize (_ && growOK P _ _) = c
        cases c with
        | false => exact Makes.bad _
        | true => exact Makes.row _ _ rfl
      · exact Makes.bad _
    · exact Makes.bad _
  | call c =>
    obtain ⟨callee, args, ats⟩ := c
    exfalso
    cases callee with
    | builtin b => cases b <;> simp [okind] at hk
    | _ => simp [okind] at hk
  | _ => simp [okind] at hk

/-- a new object that is not placed yet -/
theorem MR.hold (h : MR w0 B ρ m w) {o : AObj} (ho : (∃ e cells, o = .row e cells m.next 0) ∨ o = .map [] 0) : MR w0 B ρ (m.new o) w := by
  have hg : ∀ r, (m.new o).heap.get r = if m.next = r then some o else m.heap.get r := by intro r; rw [new_heap, T.get_set]
  have hn : ρ m.next = none := h.dom _ (Nat.le_refl _)
  refine ⟨?_, ?_, ?_, ?_, ?_, ?_, ?_, ?_, h.below, h.base, fun q hq => ?_⟩
  · intro r o' p h1 h2
    rw [hg] at h1
    by_cases hr : m.next = r
    · subst hr; rw [hn] at h2; cases h2
    · rw [if_neg hr] at h1; exact h.obj r o' p h1 h2
  · intro r r' o1 o2 p1 p2 hne h1 h2 h3 h4 h5
    rw [hg] at h1 h2
    by_cases hr : m.next = r
    · subst hr; rw [hn] at h3; cases h3
    · rw [if_neg hr] at h1
      by_cases hr' : m.next = r'
      · subst hr'; rw [hn] at h4; cases h4
      · rw [if_neg hr'] at h2; exact h.inj r r' o1 o2 p1 p2 hne h1 h2 h3 h4 h5
  · intro r hr; rw [new_next] at hr; exact h.dom r (by omega)
  · intro r hr; rw [new_next] at hr; rw [hg, if_neg (by omega)]; exact h.hdom r (by omega)
  · intro f l hl
    rw [new_fams] at hl
    rw [new_next]
    have := h.famlt f l hl
    omega
  · intro r e cs f q h1
    rw [hg] at h1
    rw [new_next]
    by_cases hr : m.next = r
    · rw [if_pos hr] at h1
      cases h1
      rcases ho with ⟨e', cells, he⟩ | he
      · cases he; omega
      · cases he
    · rw [if_neg hr] at h1; have := h.rowfam r e cs f q h1; omega
  · intro r e cs f q l h1 h2
    rw [hg] at h1
    rw [new_fams] at h2
    by_cases hr : m.next = r
    · rw [if_pos hr] at h1
      cases h1
      rcases ho with ⟨e', cells, he⟩ | he
      · cases he; have := h.famlt _ _ h2; omega
      · cases he
    · rw [if_neg hr] at h1; exact h.fam r e cs f q l h1 h2
  · intro r r' e e' cs cs' f q q' h1 h2 h3
    rw [hg] at h1 h2
    rw [new_fams] at h3
    have own : ∀ {e2 : Elem} {c2 : List AVal} {q2 : Nat}, o = .row e2 c2 f q2 → f = m.next := by
      intro e2 c2 q2 he2
      rcases ho with ⟨e', cells, he⟩ | he
      · rw [he] at he2; cases he2; rfl
      · rw [he] at he2; cases he2
    by_cases hr : m.next = r
    · rw [if_pos hr] at h1
      cases h1
      have hf := own rfl
      by_cases hr' : m.next = r'
      · omega
      · rw [if_neg hr'] at h2; have := h.rowfam _ _ _ _ _ h2; omega
    · rw [if_neg hr] at h1
      by_cases hr' : m.next = r'
      · rw [if_pos hr'] at h2
        cases h2
        have hf := own rfl
        have := h.rowfam _ _ _ _ _ h1; omega
      · rw [if_neg hr'] at h2; exact h.lone r r' e e' cs cs' f q q' h1 h2 h3
  · rw [new_next]; have := h.ban q hq; exact ⟨by omega, this.2⟩
/-- more numbers, or fewer, that nothing places -/
theorem MR.reban (h : MR w0 B ρ m w) {N : Nat → Prop} (hN : ∀ r, N r → r < m.next ∧ ρ r = none) : MR ⟨w0.w, N⟩ B ρ m w :=
  ⟨h.obj, h.inj, h.dom, h.hdom, h.famlt, h.rowfam, h.fam, h.lone, h.below, h.base, hN⟩
theorem MR.unban {N N' : Nat → Prop} {u : World} (h : MR ⟨u, N⟩ B ρ m w) (hN : ∀ r, N' r → N r) : MR ⟨u, N'⟩ B ρ m w :=
  ⟨h.obj, h.inj, h.dom, h.hdom, h.famlt, h.rowfam, h.fam, h.lone, h.below, h.base, fun r hr => h.ban r (hN r hr)⟩
end
end Go.Abs
