/- An executor whose runs hold in every world: a part of it and of what is proved of it. -/
import Derived.Test.YtjefckdgpbdpeaaGreatAbsMem

namespace Go.Abs
open Go
open Go.RowKit (Below)

section
variable {P : Program} {w0 : Wo} {B : Nat} {ρ : Rho} {m : Mem} {w : World}

theorem MR.lt (h : MR w0 B ρ m w) {r : Nat} {p : Pl} (hp : ρ r = some p) : r < m.next := by
  rcases Nat.lt_or_ge r m.next with h1 | h1
  · exact h1
  · rw [h.dom r h1] at hp; cases hp
theorem MR.hlt (h : MR w0 B ρ m w) {r : Nat} {o : AObj} (ho : m.heap.get r = some o) : r < m.next := by
  rcases Nat.lt_or_ge r m.next with h1 | h1
  · exact h1
  · rw [h.hdom r h1] at ho; cases ho
theorem OR.some {p : Pl} {x : Option Obj} {o : AObj} (h : OR ρ B p x o) : ∃ y, x = .some y := by
  unfold OR at h
  split at h
  · obtain ⟨_, _, cs, lo, hi, h1, _⟩ := h; exact ⟨_, h1⟩
  · obtain ⟨_, cs, e, fz, h1, _⟩ := h; exact ⟨_, h1⟩
  · obtain ⟨_, _, es, h1, _⟩ := h; exact ⟨_, h1⟩
  · obtain ⟨_, _, es, h1, _⟩ := h; exact ⟨_, h1⟩
  · exact ⟨_, h.2.2⟩
  · obtain ⟨_, _, es, h1, _⟩ := h; exact ⟨_, h1⟩
  · exact ⟨_, h.2.2⟩
  · obtain ⟨_, _, es, _, h1⟩ := h; exact ⟨_, h1⟩
  · exact ⟨_, h.2.2⟩
theorem MR.blk_lt (h : MR w0 B ρ m w) {r : Nat} {p : Pl} {o : AObj} (ho : m.heap.get r = some o) (hp : ρ r = some p) : p.b < w.heap.size := by
  obtain ⟨y, hy⟩ := (h.obj r o p ho hp).some
  exact (Array.getElem?_eq_some_iff.1 hy).1

theorem MR.drew (h : MR w0 B ρ m w) : MR w0 B ρ m w.drew := { h with below := h.below.drew }

/-- a world that differs by its clock of draws alone -/
theorem MR.at (h : MR w0 B ρ m w) {w' : World} (hh : w'.heap = w.heap) (hb : Below B w0.w w') : MR w0 B ρ m w' :=
  { h with obj := by rw [hh]; exact h.obj, below := hb }

/-- a new object in a new block -/
theorem MR.new (h : MR w0 B ρ m w) (o : AObj) (x : Obj) (p : Pl) (hb : p.b = w.heap.size) (ho : OR (ρ.add m.next p) B p (some x) o)
    (hf : ∀ e cs f q, o = .row e cs f q → f < m.next + 1 ∧ (∀ l, m.fams.get f = some l → m.next ∈ l) ∧
      (m.fams.get f = none → ∀ r' e' cs' p', m.heap.get r' ≠ some (.row e' cs' f p'))) :
    MR w0 B (ρ.add m.next p) (m.new o) (w.alloc x) ∧ ρ.le (ρ.add m.next p) := by
  have hn : ρ m.next = none := h.dom _ (Nat.le_refl _)
  have hle : ρ.le (ρ.add m.next p) := Rho.le_add hn
  have hg : ∀ r, (m.new o).heap.get r = if m.next = r then some o else m.heap.get r := by intro r; rw [new_heap, T.get_set]
  have hblk : ∀ r o' q, r ≠ m.next → m.heap.get r = some o' → ρ r = some q → q.b ≠ w.heap.size := fun r o' q _ h1 h2 => Nat.ne_of_lt (h.blk_lt h1 h2)
  refine ⟨⟨?_, ?_, ?_, ?_, ?_, ?_, ?_, ?_, ?_, h.base, fun q hq => ?_⟩, hle⟩
  · intro r o' q h1 h2
    rw [hg] at h1
    by_cases hr : m.next = r
    · subst hr
      rw [if_pos rfl] at h1; cases h1
      rw [Rho.add_same] at h2; cases h2
      rw [hb, alloc_new]; exact ho
    · rw [if_neg hr] at h1
      rw [Rho.add_other _ _ (Ne.symm hr)] at h2
      have := h.obj r o' q h1 h2
      rw [alloc_old (h.blk_lt h1 h2)]
      exact this.mono hle
  · intro r r' o1 o2 p1 p2 hne h1 h2 h3 h4 h5
    rw [hg] at h1 h2
    by_cases hr : m.next = r
    · subst hr
      rw [if_pos rfl] at h1; cases h1
      rw [Rho.add_same] at h3; cases h3
      rw [if_neg hne] at h2
      rw [Rho.add_other _ _ (Ne.symm hne)] at h4
      exact absurd (h5.symm.trans hb) (hblk r' o2 p2 (Ne.symm hne) h2 h4)
    · rw [if_neg hr] at h1
      rw [Rho.add_other _ _ (Ne.symm hr)] at h3
      by_cases hr' : m.next = r'
      · subst hr'
        rw [Rho.add_same] at h4; cases h4
        exact absurd (h5.trans hb) (hblk r o1 p1 hne h1 h3)
      · rw [if_neg hr'] at h2
        rw [Rho.add_other _ _ (Ne.symm hr')] at h4
        exact h.inj r r' o1 o2 p1 p2 hne h1 h2 h3 h4 h5
  · intro r hr
    rw [new_next] at hr
    rw [Rho.add_other _ _ (by omega)]
    exact h.dom r (by omega)
  · intro r hr
    rw [new_next] at hr
    rw [hg, if_neg (by omega)]
    exact h.hdom r (by omega)
  · intro f l hl
    rw [new_fams] at hl
    rw [new_next]
    have := h.famlt f l hl
    omega
  · intro r e cs f q h1
    rw [hg] at h1
    rw [new_next]
    by_cases hr : m.next = r
    · rw [if_pos hr] at h1; cases h1; exact (hf e cs f q rfl).1
    · rw [if_neg hr] at h1; have := h.rowfam r e cs f q h1; omega
  · intro r e cs f q l h1 h2
    rw [hg] at h1
    rw [new_fams] at h2
    by_cases hr : m.next = r
    · rw [if_pos hr] at h1; cases h1; rw [← hr]; exact (hf e cs f q rfl).2.1 l h2
    · rw [if_neg hr] at h1; exact h.fam r e cs f q l h1 h2
  · intro r r' e e' cs cs' f q q' h1 h2 h3
    rw [hg] at h1 h2
    rw [new_fams] at h3
    by_cases hr : m.next = r
    · rw [if_pos hr] at h1; cases h1
      by_cases hr' : m.next = r'
      · omega
      · rw [if_neg hr'] at h2; exact absurd h2 ((hf e cs f q rfl).2.2 h3 r' e' cs' q')
    · rw [if_neg hr] at h1
      by_cases hr' : m.next = r'
      · rw [if_pos hr'] at h2; cases h2; exact absurd h1 ((hf e' cs' f q' rfl).2.2 h3 r e cs q)
      · rw [if_neg hr'] at h2; exact h.lone r r' e e' cs cs' f q q' h1 h2 h3
  · exact h.below.alloc h.size x
  · have hq1 := h.ban q hq
    rw [new_next, Rho.add_other _ _ (Nat.ne_of_lt hq1.1)]
    exact ⟨Nat.lt_succ_of_lt hq1.1, hq1.2⟩

/-- a new row of its own family -/
theorem MR.newRow (h : MR w0 B ρ m w) (e : Elem) (cells : List AVal) (cs : Array Value) (hc : CR ρ cells cs 0) :
    MR w0 B (ρ.add m.next ⟨w.heap.size, 0, cs.size, e.2⟩) (newRow m e cells) (w.alloc (.cells cs e.1)) ∧ ρ.le (ρ.add m.next ⟨w.heap.size, 0, cs.size, e.2⟩) := by
  have hn : ρ m.next = none := h.dom _ (Nat.le_refl _)
  refine h.new _ _ _ rfl ⟨h.size, rfl, cs, 0, 0, rfl, rfl, hc.mono (Rho.le_add hn), fun i _ h1 => by omega⟩ ?_
  intro e' cs' f q he
  cases he
  refine ⟨by omega, fun l hl => ?_, fun _ r' e' cs' p' h1 => ?_⟩
  · have := h.famlt _ _ hl; omega
  · have := h.rowfam _ _ _ _ _ h1; omega
/-- a new object that is no row -/
theorem MR.newObj (h : MR w0 B ρ m w) (o : AObj) (x : Obj) (hr : ∀ e cs f q, o ≠ .row e cs f q)
    (ho : ∀ ρ', ρ.le ρ' → OR ρ' B (Pl.obj w.heap.size) (some x) o) :
    MR w0 B (ρ.add m.next (Pl.obj w.heap.size)) (m.new o) (w.alloc x) ∧ ρ.le (ρ.add m.next (Pl.obj w.heap.size)) :=
  h.new o x _ rfl (ho _ (Rho.le_add (h.dom _ (Nat.le_refl _)))) fun e cs f q he => absurd he (hr e cs f q)

/-- an object that is no row, changed in its block -/
theorem MR.put (h : MR w0 B ρ m w) {r : Nat} {p : Pl} {o o' : AObj} {x : Obj} (ho : m.heap.get r = some o) (hp : ρ r = some p)
    (hro : ∀ e cs f q, o ≠ .row e cs f q) (hcell : ∀ cs, o ≠ .ro cs) (hro' : ∀ e cs f q, o' ≠ .row e cs f q) (hB : B ≤ p.b)
    (hx : OR ρ B p (some x) o') : MR w0 B ρ (m.put r o') (setBlk w p.b x) := by
  have hg : ∀ q, (m.put r o').heap.get q = if r = q then some o' else m.heap.get q := by intro q; rw [put_heap, T.get_set]
  have hex : ∃ y, w.heap[p.b]? = some y := (h.obj r o p ho hp).some
  obtain ⟨y, hy⟩ := hex
  have hother : ∀ q o2 p2, r ≠ q → m.heap.get q = some o2 → ρ q = some p2 → p.b ≠ p2.b := by
    intro q o2 p2 hne h1 h2 h3
    have := h.inj r q o o2 p p2 hne ho h1 hp h2 h3
    unfold Kin2 at this
    cases o <;> cases o2 <;> first | exact this.elim | exact hro _ _ _ _ rfl | exact hcell _ rfl
  refine ⟨?_, ?_, ?_, ?_, ?_, ?_, ?_, ?_, below_setBlk h.below hB _, h.base, fun q hq => by rw [put_next]; exact h.ban q hq⟩
  · intro q o2 p2 h1 h2
    rw [hg] at h1
    by_cases hr : r = q
    · subst hr
      rw [if_pos rfl] at h1; cases h1
      rw [hp] at h2; cases h2
      rw [setBlk_same hy]; exact hx
    · rw [if_neg hr] at h1
      rw [setBlk_other (hother q o2 p2 hr h1 h2)]
      exact h.obj q o2 p2 h1 h2
  · intro q q' o1 o2 p1 p2 hne h1 h2 h3 h4 h5
    rw [hg] at h1 h2
    by_cases hr : r = q
    · subst hr
      rw [if_neg hne] at h2
      rw [hp] at h3; cases h3
      exact absurd h5 (hother q' o2 p2 hne h2 h4)
    · rw [if_neg hr] at h1
      by_cases hr' : r = q'
      · subst hr'
        rw [hp] at h4; cases h4
        exact absurd h5.symm (hother q o1 p1 hr h1 h3)
      · rw [if_neg hr'] at h2
        exact h.inj q q' o1 o2 p1 p2 hne h1 h2 h3 h4 h5
  · intro q hq; rw [put_next] at hq; exact h.dom q hq
  · intro q hq
    rw [put_next] at hq
    rw [hg]
    have := h.hlt ho
    rw [if_neg (by omega)]
    exact h.hdom q hq
  · intro f l hl; rw [put_fams] at hl; rw [put_next]; exact h.famlt f l hl
  · intro q e cs f z h1
    rw [hg] at h1; rw [put_next]
    by_cases hr : r = q
    · rw [if_pos hr] at h1; cases h1; exact absurd rfl (hro' e cs f z)
    · rw [if_neg hr] at h1; exact h.rowfam q e cs f z h1
  · intro q e cs f z l h1 h2
    rw [hg] at h1; rw [put_fams] at h2
    by_cases hr : r = q
    · rw [if_pos hr] at h1; cases h1; exact absurd rfl (hro' e cs f z)
    · rw [if_neg hr] at h1; exact h.fam q e cs f z l h1 h2
  · intro q q' e e' cs cs' f z z' h1 h2 h3
    rw [hg] at h1 h2; rw [put_fams] at h3
    by_cases hr : r = q
    · rw [if_pos hr] at h1; cases h1; exact absurd rfl (hro' e cs f z)
    · rw [if_neg hr] at h1
      by_cases hr' : r = q'
      · rw [if_pos hr'] at h2; cases h2; exact absurd rfl (hro' e' cs' f z')
      · rw [if_neg hr'] at h2; exact h.lone q q' e e' cs cs' f z z' h1 h2 h3

/-! ## poisoning: what it leaves -/
/-- o' is o, or o with some cells poisoned -/
def Weak : AObj → AObj → Prop
  | .row e cs f p, o' => ∃ cs', o' = .row e cs' f p ∧ cs'.length = cs.length ∧ ∀ (i : Nat) (v : AVal), cs'[i]? = some v → v = .poison ∨ cs[i]? = some v
  | o, o' => o' = o
/-- its cells at the family's places p .. p + n - 1 are poisoned -/
def Covers (p n : Nat) : AObj → Prop
  | .row _ cs _ pos => ∀ (i : Nat) (v : AVal), cs[i]? = some v → p ≤ pos + i → pos + i < p + n → v = .poison
  | _ => True
theorem Weak.refl (o : AObj) : Weak o o := by
  cases o <;> first | rfl | exact ⟨_, rfl, rfl, fun i v h => .inr h⟩
theorem Weak.trans {a b c : AObj} (h : Weak a b) (k : Weak b c) : Weak a c := by
  cases a with
  | row e cs f p =>
    obtain ⟨cs', rfl, h1, h2⟩ := h
    obtain ⟨cs'', rfl, h3, h4⟩ := k
    refine ⟨cs'', rfl, h3.trans h1, fun i v hv => ?_⟩
    rcases h4 i v hv with h5 | h5
    · exact .inl h5
    · exact h2 i v h5
  | _ => obtain rfl := h; exact k
theorem Covers.weak {p n : Nat} {a b : AObj} (h : Covers p n a) (k : Weak a b) : Covers p n b := by
  cases a with
  | row e cs f q =>
    obtain ⟨cs', rfl, h1, h2⟩ := k
    intro i v hv h3 h4
    rcases h2 i v hv with h5 | h5
    · exact h5
    · exact h i v h5 h3 h4
  | _ => obtain rfl := k; exact h

theorem poisonRow_spec (m : Mem) (r p n : Nat) : (poisonRow m r p n).next = m.next ∧ (poisonRow m r p n).fams = m.fams ∧
    (∀ q, q ≠ r → (poisonRow m r p n).heap.get q = m.heap.get q) ∧ (m.heap.get r = none → (poisonRow m r p n).heap.get r = none) ∧
    (∀ o, m.heap.get r = some o → ∃ o', (poisonRow m r p n).heap.get r = some o' ∧ Weak o o' ∧ Covers p n o') := by
  unfold poisonRow poisonAt
  split
  · rename_i e cells f pos ho
    cases h1 : (p.add n).ble pos with
    | true =>
      rw [cond_true]
      refine ⟨rfl, rfl, fun _ _ => rfl, fun h => h, fun o h => ⟨o, h, Weak.refl o, ?_⟩⟩
      rw [h] at ho; cases ho
      rw [nat_ble] at h1
      intro i v hv h2 h3
      have : p + n ≤ pos := h1
      omega
    | false =>
      rw [cond_false]
      cases h2 : (pos.add (lenL cells)).ble p with
      | true =>
        rw [cond_true]
        refine ⟨rfl, rfl, fun _ _ => rfl, fun h => h, fun o h => ⟨o, h, Weak.refl o, ?_⟩⟩
        rw [h] at ho; cases ho
        rw [nat_ble, lenL_eq] at h2
        have : pos + cells.length ≤ p := h2
        intro i v hv h3 h4
        have := (List.getElem?_eq_some_iff.1 hv).1
        omega
      | false =>
        rw [cond_false]
        have h1' : pos < p + n := by rw [nat_ble_f] at h1; exact h1
        refine ⟨put_next _ _ _, put_fams _ _ _, fun q hq => by rw [put_heap, T.get_set_other _ _ (Ne.symm hq)], (fun h => by rw [h] at ho; cases ho), fun o h => ?_⟩
        rw [h] at ho; cases ho
        refine ⟨_, by rw [put_heap, T.get_set_same], ⟨_, rfl, (poisonL_spec _ _ _).1, fun i v hv => ?_⟩, ?_⟩
        · rw [(poisonL_spec _ _ _).2 i] at hv
          split at hv
          · left
            cases hc : cells[i]? with
            | none => rw [hc] at hv; cases hv
            | some u => rw [hc] at hv; simpa using hv.symm
          · exact .inr hv
        · intro i v hv h3 h4
          rw [(poisonL_spec _ _ _).2 i] at hv
          rw [if_pos (by
            have e1 : p.sub pos = p - pos := rfl
            have e2 : (p.add n).sub (p.max pos) = p + n - max p pos := rfl
            rw [e1, e2]
            omega)] at hv
          cases hc : cells[i]? with
          | none => rw [hc] at hv; cases hv
          | some u => rw [hc] at hv; simpa using hv.symm
  · rename_i hno
    refine ⟨rfl, rfl, fun _ _ => rfl, fun h => h, fun o h => ⟨o, h, Weak.refl o, ?_⟩⟩
    cases o with
    | row e cs f q => exact absurd h (hno e cs f q)
    | _ => trivial

theorem poisonRows_nil (but p n : Nat) (m : Mem) : poisonRows [] but p n m = m := rfl
theorem poisonRows_cons (q : Nat) (rs : List Nat) (but p n : Nat) (m : Mem) :
    poisonRows (q :: rs) but p n m = bif q.beq but then poisonRows rs but p n m else poisonRows rs but p n (poisonRow m q p n) := rfl
theorem poisonRows_spec (but p n : Nat) : ∀ (rs : List Nat) (m : Mem), (poisonRows rs but p n m).next = m.next ∧ (poisonRows rs but p n m).fams = m.fams ∧
    (∀ q, m.heap.get q = none → (poisonRows rs but p n m).heap.get q = none) ∧
    (m.heap.get but = (poisonRows rs but p n m).heap.get but) ∧
    (∀ q o, m.heap.get q = some o → ∃ o', (poisonRows rs but p n m).heap.get q = some o' ∧ Weak o o' ∧ (q ∈ rs → q ≠ but → Covers p n o')) := by
  intro rs
  induction rs with
  | nil => intro m; rw [poisonRows_nil]; exact ⟨rfl, rfl, fun _ h => h, rfl, fun q o h => ⟨o, h, Weak.refl o, fun h => by cases h⟩⟩
  | cons r rs ih =>
    intro m
    rw [poisonRows_cons]
    cases hb : r.beq but with
    | true =>
      rw [nat_beq] at hb
      simp only [cond_true]
      obtain ⟨h1, h2, h3, h4, h5⟩ := ih m
      refine ⟨h1, h2, h3, h4, fun q o h => ?_⟩
      obtain ⟨o', h6, h7, h8⟩ := h5 q o h
      refine ⟨o', h6, h7, fun hm hne => ?_⟩
      rcases List.mem_cons.1 hm with rfl | hm
      · exact absurd hb hne
      · exact h8 hm hne
    | false =>
      rw [nat_beq_f] at hb
      simp only [cond_false]
      obtain ⟨k1, k2, k3, k4, k5⟩ := poisonRow_spec m r p n
      obtain ⟨h1, h2, h3, h4, h5⟩ := ih (poisonRow m r p n)
      refine ⟨h1.trans k1, h2.trans k2, fun q hq => ?_, (k3 but (Ne.symm hb)).symm.trans h4, fun q o h => ?_⟩
      · refine h3 q ?_
        by_cases hr : q = r
        · subst hr; exact k4 hq
        · rw [k3 q hr]; exact hq
      · by_cases hr : q = r
        · subst hr
          obtain ⟨o1, e1, e2, e3⟩ := k5 o h
          obtain ⟨o2, e4, e5, e6⟩ := h5 q o1 e1
          exact ⟨o2, e4, e2.trans e5, fun _ _ => e3.weak e5⟩
        · obtain ⟨o2, e4, e5, e6⟩ := h5 q o (by rw [k3 q hr]; exact h)
          refine ⟨o2, e4, e5, fun hm hne => ?_⟩
          rcases List.mem_cons.1 hm with rfl | hm
          · exact absurd rfl hr
          · exact e6 hm hne

end
end Go.Abs

namespace Go.Abs
open Go
open Go.RowKit (Below)

def Like : AObj → AObj → Prop
  | .row _ _ f p, o' => ∃ e' cs', o' = .row e' cs' f p
  | .ro _, o' => ∃ c, o' = .ro c
  | _, o' => (∀ e cs f p, o' ≠ .row e cs f p) ∧ (∀ c, o' ≠ .ro c)
theorem Weak.like {o o' : AObj} (h : Weak o o') : Like o o' := by
  cases o with
  | row e cs f p => obtain ⟨cs', rfl, _⟩ := h; exact ⟨e, cs', rfl⟩
  | ro c => obtain rfl := h; exact ⟨c, rfl⟩
  | _ => obtain rfl := h; exact ⟨fun _ _ _ _ e => (by cases e), fun _ e => (by cases e)⟩
theorem Like.kin {o1 o2 o1' o2' : AObj} {s s' : Nat} (h1 : Like o1 o1') (h2 : Like o2 o2') (k : Kin2 o1 o2 s s') : Kin2 o1' o2' s s' := by
  unfold Kin2 at k
  split at k
  · obtain ⟨e1, c1, rfl⟩ := h1
    obtain ⟨e2, c2, rfl⟩ := h2
    exact k
  · obtain ⟨c1, rfl⟩ := h1
    obtain ⟨c2, rfl⟩ := h2
    trivial
  · exact k.elim
theorem OR.weak {ρ : Rho} {B : Nat} {p : Pl} {x : Option Obj} {o o' : AObj} (h : OR ρ B p x o) (k : Weak o o') : OR ρ B p x o' := by
  cases o with
  | row e cs f q =>
    obtain ⟨cs', rfl, h1, h2⟩ := k
    obtain ⟨h3, h4, c, lo, hi, h5, h6, h7, h8⟩ := h
    refine ⟨h3, h4, c, lo, hi, h5, h6, fun i v hv => ?_, h8⟩
    rcases h2 i v hv with rfl | h9
    · have hi := (List.getElem?_eq_some_iff.1 hv).1
      obtain ⟨y, hy, _⟩ := h7 i cs[i] (List.getElem?_eq_getElem (by omega))
      exact ⟨y, hy, by simp [R]⟩
    · exact h7 i v h9
  | _ => obtain rfl := k; exact h

section
variable {P : Program} {w0 : Wo} {B : Nat} {ρ : Rho} {m : Mem} {w : World}

theorem MR.change (h : MR w0 B ρ m w) {m' : Mem} {w' : World} (hn : m'.next = m.next) (hf : m'.fams = m.fams)
    (hnone : ∀ q, m.heap.get q = none → m'.heap.get q = none) (hs : ∀ q o, m.heap.get q = some o → ∃ o', m'.heap.get q = some o' ∧ Like o o')
    (hobj : ∀ q o' p, m'.heap.get q = some o' → ρ q = some p → OR ρ B p (w'.heap[p.b]?) o') (hb : Below B w0.w w') : MR w0 B ρ m' w' := by
  have back : ∀ q o', m'.heap.get q = some o' → ∃ o, m.heap.get q = some o ∧ Like o o' := by
    intro q o' h1
    cases ho : m.heap.get q with
    | none => rw [hnone q ho] at h1; cases h1
    | some o =>
      obtain ⟨o2, h2, h3⟩ := hs q o ho
      rw [h1] at h2; cases h2
      exact ⟨o, rfl, h3⟩
  have backrow : ∀ q e cs f z, m'.heap.get q = some (.row e cs f z) → ∃ e' cs', m.heap.get q = some (.row e' cs' f z) := by
    intro q e cs f z h1
    obtain ⟨o, h2, h3⟩ := back q _ h1
    cases o with
    | row e' cs' f' z' => obtain ⟨e2, c2, h4⟩ := h3; cases h4; exact ⟨e', cs', h2⟩
    | ro c => obtain ⟨c2, h4⟩ := h3; cases h4
    | _ => exact absurd rfl (h3.1 e cs f z)
  refine ⟨hobj, ?_, ?_, ?_, ?_, ?_, ?_, ?_, hb, h.base, fun q hq => by rw [hn]; exact h.ban q hq⟩
  · intro q q' o1 o2 p1 p2 hne h1 h2 h3 h4 h5
    obtain ⟨o1', k1, k2⟩ := back q o1 h1
    obtain ⟨o2', k3, k4⟩ := back q' o2 h2
    exact Like.kin k2 k4 (h.inj q q' o1' o2' p1 p2 hne k1 k3 h3 h4 h5)
  · intro q hq; rw [hn] at hq; exact h.dom q hq
  · intro q hq; rw [hn] at hq; exact hnone q (h.hdom q hq)
  · intro f l hl; rw [hf] at hl; rw [hn]; exact h.famlt f l hl
  · intro q e cs f z h1
    obtain ⟨e', cs', h2⟩ := backrow q e cs f z h1
    rw [hn]; exact h.rowfam q e' cs' f z h2
  · intro q e cs f z l h1 h2
    obtain ⟨e', cs', h3⟩ := backrow q e cs f z h1
    rw [hf] at h2; exact h.fam q e' cs' f z l h3 h2
  · intro q q' e e' cs cs' f z z' h1 h2 h3
    obtain ⟨e1, c1, h4⟩ := backrow q e cs f z h1
    obtain ⟨e2, c2, h5⟩ := backrow q' e' cs' f z' h2
    rw [hf] at h3; exact h.lone q q' e1 e2 c1 c2 f z z' h4 h5 h3

theorem spoil_spec (r p n : Nat) (m : Mem) (l : Option (List Nat)) : (spoil r p n m l).next = m.next ∧ (spoil r p n m l).fams = m.fams ∧
    (∀ q, m.heap.get q = none → (spoil r p n m l).heap.get q = none) ∧ (m.heap.get r = (spoil r p n m l).heap.get r) ∧
    (∀ q o, m.heap.get q = some o → ∃ o', (spoil r p n m l).heap.get q = some o' ∧ Weak o o' ∧ (∀ rs, l = some rs → q ∈ rs → q ≠ r → Covers p n o')) := by
  cases l with
  | none => exact ⟨rfl, rfl, fun _ h => h, rfl, fun q o h => ⟨o, h, Weak.refl o, fun rs e => by cases e⟩⟩
  | some rs =>
    obtain ⟨h1, h2, h3, h4, h5⟩ := poisonRows_spec r p n rs m
    refine ⟨h1, h2, h3, h4, fun q o h => ?_⟩
    obtain ⟨o', h6, h7, h8⟩ := h5 q o h
    exact ⟨o', h6, h7, fun rs' e hm hne => by cases e; exact h8 hm hne⟩

/-- cells of a row are written: what lies over them in other rows is poisoned -/
theorem MR.write (h : MR w0 B ρ m w) {r : Nat} {p : Pl} {e : Elem} {cells : List AVal} {f pos : Nat} (ho : m.heap.get r = some (.row e cells f pos)) (hp : ρ r = some p)
    {cs : Array Value} {lo hi : Nat} (hw : w.heap[p.b]? = some (.cells cs e.1 (lo, hi))) (hclr : Clear lo hi p.z) {cells' : List AVal} {cs' : Array Value} {off n : Nat}
    (hc : CR ρ cells' cs' p.s) (hsz : cs'.size = p.z) (hsame : ∀ j, ¬ (off + p.s ≤ j ∧ j < off + p.s + n) → cs'[j]? = cs[j]?) :
    MR w0 B ρ (spoil r (pos + off) n (m.put r (.row e cells' f pos)) (m.fams.get f)) (setBlk w p.b (.cells cs' e.1 (lo, hi))) := by
  obtain ⟨k1, k2, k3, k4, k5⟩ := spoil_spec r (pos + off) n (m.put r (.row e cells' f pos)) (m.fams.get f)
  have hOR := h.obj r _ p ho hp
  obtain ⟨hB, hq, _, _, _, _, _, _, _⟩ := hOR
  have hg : ∀ q, (m.put r (.row e cells' f pos)).heap.get q = if r = q then some (.row e cells' f pos) else m.heap.get q := by intro q; rw [put_heap, T.get_set]
  refine h.change (k1.trans (put_next _ _ _)) (k2.trans (put_fams _ _ _)) ?_ ?_ ?_ (below_setBlk h.below hB _)
  · intro q hq
    refine k3 q ?_
    rw [hg]
    by_cases hr : r = q
    · subst hr; rw [ho] at hq; cases hq
    · rw [if_neg hr]; exact hq
  · intro q o h1
    by_cases hr : r = q
    · subst hr
      rw [ho] at h1; cases h1
      refine ⟨.row e cells' f pos, ?_, ⟨e, cells', rfl⟩⟩
      rw [← k4, hg, if_pos rfl]
    · obtain ⟨o', h2, h3, _⟩ := k5 q o (by rw [hg, if_neg hr]; exact h1)
      exact ⟨o', h2, h3.like⟩
  · intro q o' p2 h1 h2
    by_cases hr : r = q
    · subst hr
      rw [← k4, hg, if_pos rfl] at h1; cases h1
      rw [hp] at h2; cases h2
      rw [setBlk_same hw]
      exact ⟨hB, hq, cs', lo, hi, rfl, hsz, hc, hclr⟩
    · cases hqo : m.heap.get q with
      | none => rw [k3 q (by rw [hg, if_neg hr]; exact hqo)] at h1; cases h1
      | some o =>
        obtain ⟨o2, h3, h4, h5⟩ := k5 q o (by rw [hg, if_neg hr]; exact hqo)
        rw [h1] at h3; cases h3
        have hor := h.obj q o p2 hqo h2
        by_cases hbb : p.b = p2.b
        · have hk := h.inj r q _ _ p p2 hr ho hqo hp h2 hbb
          cases o with
          | row e2 c2 f2 z2 =>
            obtain ⟨rfl, hsh⟩ := hk
            have hcov : Covers (pos + off) n o' := by
              cases hl : m.fams.get f with
              | none => exact absurd (h.lone r q _ _ _ _ f pos z2 ho hqo hl) hr
              | some l => exact h5 l hl (h.fam q e2 c2 f z2 l hqo hl) (Ne.symm hr)
            obtain ⟨c3, rfl, h6, h7⟩ := h4
            obtain ⟨hB2, hq2, csx, lox, hix, hwx, hzx, hcx, hclx⟩ := hor
            rw [← hbb, hw] at hwx
            simp only [Option.some.injEq, Obj.cells.injEq, Prod.mk.injEq] at hwx
            obtain ⟨rfl, he, rfl, rfl⟩ := hwx
            refine ⟨hB2, hq2, cs', lo, hi, ?_, ?_, ?_, hclx⟩
            · rw [← hbb, setBlk_same hw, he]
            · rw [hsz, ← hzx]
              have := h.obj r _ p ho hp
              obtain ⟨_, _, cs5, lo5, hi5, hw5, hz5, _, _⟩ := this
              rw [hw] at hw5; cases hw5
              exact hz5.symm
            · intro i v hv
              rcases h7 i v hv with rfl | h8
              · have hi := (List.getElem?_eq_some_iff.1 hv).1
                obtain ⟨y, hy, _⟩ := hcx i c2[i] (List.getElem?_eq_getElem (by omega))
                have hlt := (Array.getElem?_eq_some_iff.1 hy).1
                have hzz : cs.size = p.z := by
                  obtain ⟨_, _, cs5, lo5, hi5, hw5, hz5, _, _⟩ := h.obj r _ p ho hp
                  rw [hw] at hw5; cases hw5; exact hz5
                exact ⟨cs'[i + p2.s]'(by omega), by simp, by simp [R]⟩
              · obtain ⟨y, hy, hR⟩ := hcx i v h8
                by_cases hv0 : v = .poison
                · subst hv0
                  have hlt := (Array.getElem?_eq_some_iff.1 hy).1
                  have hzz : cs.size = p.z := by
                    obtain ⟨_, _, cs5, lo5, hi5, hw5, hz5, _, _⟩ := h.obj r _ p ho hp
                    rw [hw] at hw5; cases hw5; exact hz5
                  exact ⟨cs'[i + p2.s]'(by omega), by simp, by simp [R]⟩
                · refine ⟨y, ?_, hR⟩
                  rw [hsame (i + p2.s) (fun hin => hv0 (hcov i v hv (by omega) (by omega)))]
                  exact hy
          | _ => exact hk.elim
        · rw [setBlk_other hbb]
          exact hor.weak h4

theorem allCells_spec : ∀ {vs : List AVal} {xs : List Value}, allCells vs = true → RL ρ vs xs → ∀ x ∈ xs, OneV x
  | [], xs, _, h => by simp only [RL] at h; subst h; simp
  | v :: vs, xs, ha, h => by
    simp only [RL] at h
    obtain ⟨y, ys, rfl, h1, h2⟩ := h
    have ha' : (bif isCell v then allCells vs else false) = true := ha
    cases hv : isCell v with
    | false => rw [hv] at ha'; cases ha'
    | true =>
      rw [hv] at ha'
      intro x hx
      rcases List.mem_cons.1 hx with rfl | hx
      · cases v with
        | lit v =>
          simp only [R] at h1
          subst h1
          cases x <;> first | trivial | (simp [isCell] at hv)
        | poison => simp [isCell] at hv
        | agg l => simp [isCell] at hv
        | tuple l => simp [isCell] at hv
        | ptr r off => simp only [R] at h1; obtain ⟨p, _, rfl⟩ := h1; trivial
        | slice r off n c ex => simp only [R] at h1; obtain ⟨p, c', _, _, _, _, rfl⟩ := h1; trivial
        | emptyS => simp only [R] at h1; obtain ⟨a, c', rfl⟩ := h1; trivial
        | map r => simp only [R] at h1; obtain ⟨b, _, rfl⟩ := h1; trivial
        | func fn a b => simp only [R] at h1; obtain ⟨_, f', c', rfl, _⟩ := h1; trivial
        | yield l => simp only [R] at h1; obtain ⟨b, _, rfl⟩ := h1; trivial
        | iface t u => simp only [R] at h1; obtain ⟨y, rfl, _⟩ := h1; trivial
      · exact allCells_spec ha' h2 x hx

theorem MR.storeCells (h : MR w0 B ρ m w) {r : Nat} {p : Pl} (hp : ρ r = some p) {off : Nat} {vs : List AVal} {m' : Mem} (e : Abs.storeCells m r off vs = some m') {xs : List Value}
    (hv : RL ρ vs xs) : ∃ w', (Go.storeCells ⟨p.b, off + p.s, none⟩ xs).run P w = .ok () w' ∧ MR w0 B ρ m' w' := by
  unfold Abs.storeCells at e
  split at e
  · rename_i el cells f pos ho
    cases ha : allCells vs with
    | false => rw [ha] at e; cases e
    | true =>
      rw [ha, cond_true] at e
      unfold storeIn at e
      split at e
      · cases e
      · rename_i cells' hpc
        simp only [Option.some.injEq] at e
        obtain ⟨h1, h2, h3⟩ := putCells_spec vs off cells cells' hpc
        have hl := hv.length
        obtain ⟨hB, hq, cs, lo, hi, hw, hz, hc, hclr⟩ := h.obj r _ p ho hp
        have hfit : vs = [] ∨ off + p.s + vs.length ≤ cs.size := by
          rcases Nat.eq_zero_or_pos vs.length with h0 | h0
          · exact .inl (List.length_eq_zero_iff.1 h0)
          · obtain ⟨y, hy, _⟩ := hc (off + vs.length - 1) cells[off + vs.length - 1] (List.getElem?_eq_getElem (by omega))
            have := (Array.getElem?_eq_some_iff.1 hy).1
            exact .inr (by omega)
        have hone := allCells_spec ha hv
        have hrun : ∃ cs', (Go.storeCells ⟨p.b, off + p.s, none⟩ xs).run P w = .ok () (setBlk w p.b (.cells cs' el.1 (lo, hi))) ∧ cs'.size = cs.size ∧
            ∀ j, cs'[j]? = if off + p.s ≤ j ∧ j < off + p.s + xs.length then xs[j - (off + p.s)]? else cs[j]? := by
          rcases hfit with h0 | h0
          · subst h0
            obtain rfl : xs = [] := by simp only [RL] at hv; exact hv
            refine ⟨cs, by rw [setBlk_self hw]; rfl, rfl, fun j => ?_⟩
            rw [if_neg (by simp)]
          · have := run_storeCells (P := P) (b := p.b) (o := off + p.s) xs 0 w cs hw (by omega) (by rw [hz]; exact hclr) hone
            simpa using this
        obtain ⟨cs', hr, hz', hg⟩ := hrun
        refine ⟨_, hr, ?_⟩
        rw [← e, lenL_eq]
        refine h.write ho hp hw hclr ?_ (hz'.trans hz) (fun j hj => by rw [hg j, if_neg (by omega)])
        intro i v hiv
        rw [h3 i] at hiv
        rw [hg (i + p.s)]
        by_cases hin : off ≤ i ∧ i < off + vs.length
        · rw [if_pos hin] at hiv
          rw [if_pos (by omega)]
          obtain ⟨y, hy, hR⟩ := hv.get hiv
          exact ⟨y, by rw [show i + p.s - (off + p.s) = i - off from by omega]; exact hy, hR⟩
        · rw [if_neg hin] at hiv
          rw [if_neg (by omega)]
          exact hc i v hiv
  · cases e
end
end Go.Abs
