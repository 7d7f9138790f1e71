/- An executor whose runs hold in every world: a part of it and of what is proved of it. -/
import Derived.Test.YtjefckdgpbdpeaaGreatAbsTrie

namespace Go.Abs
open Go
open Go.RowKit (Below)

/-! ## the world's side -/
def setBlk (w : World) (b : Nat) (o : Obj) : World := { w with heap := w.heap.setIfInBounds b o }
theorem setBlk_same {w : World} {b : Nat} {o x : Obj} (h : w.heap[b]? = some x) : (setBlk w b o).heap[b]? = some o := by
  have hb : b < w.heap.size := (Array.getElem?_eq_some_iff.1 h).1
  simp [setBlk, hb]
theorem setBlk_other {w : World} {b c : Nat} {o : Obj} (h : b ≠ c) : (setBlk w b o).heap[c]? = w.heap[c]? := by
  simp [setBlk, h]
theorem setBlk_size (w : World) (b : Nat) (o : Obj) : (setBlk w b o).heap.size = w.heap.size := by simp [setBlk]
theorem setBlk_setBlk (w : World) (b : Nat) (o o' : Obj) : setBlk (setBlk w b o) b o' = setBlk w b o' := by
  simp only [setBlk]
  congr 1
  apply Array.ext_getElem?
  intro i
  simp only [Array.getElem?_setIfInBounds]
  by_cases h : b = i <;> simp [h]
theorem setBlk_self {w : World} {b : Nat} {o : Obj} (h : w.heap[b]? = some o) : setBlk w b o = w := by
  have : w.heap.setIfInBounds b o = w.heap := by
    apply Array.ext_getElem?
    intro i
    have hb : b < w.heap.size := (Array.getElem?_eq_some_iff.1 h).1
    simp only [Array.getElem?_setIfInBounds]
    by_cases e : b = i
    · subst e; rw [if_pos rfl, if_pos hb, h]
    · rw [if_neg e]
  simp only [setBlk, this]
theorem below_setBlk {B : Nat} {a w : World} (h : Below B a w) {b : Nat} (hb : B ≤ b) (o : Obj) : Below B a (setBlk w b o) :=
  h.trans ⟨rfl, rfl, rfl, by simp [setBlk], fun k hk => setBlk_other (by omega)⟩
theorem alloc_old {w : World} {o : Obj} {k : Nat} (h : k < w.heap.size) : (w.alloc o).heap[k]? = w.heap[k]? := Below.heap_alloc w o k h
theorem alloc_new (w : World) (o : Obj) : (w.alloc o).heap[w.heap.size]? = some o := by
  show (w.heap.push o)[w.heap.size]? = _
  rw [Array.getElem?_push, if_pos rfl]

theorem run_load {P : Program} {w : World} {a : Addr} {v : Value} (h : w.cell? a = some v) : (load a).run P w = .ok v w := by
  simp [load, Sem.run, h]
theorem add_addr (b o i : Nat) : Addr.add ⟨b, o, none⟩ i = ⟨b, o + i, none⟩ := by
  unfold Addr.add
  by_cases h : i = 0 <;> simp [h]
theorem cell_of {w : World} {b i : Nat} {cs : Array Value} {e : TypeId} {fz : Nat × Nat} (h : w.heap[b]? = some (.cells cs e fz)) : w.cell? ⟨b, i, none⟩ = cs[i]? := by
  simp [World.cell?, h]
theorem run_bind {α β : Type} {P : Program} (s : Sem α) (f : α → Sem β) (w : World) :
    (s >>= f).run P w = match s.run P w with | .ok a w' => (f a).run P w' | .halt h w' => .halt h w' := by
  rw [Sem.run_bind]
  cases s.run P w <;> rfl
theorem run_pure {α : Type} {P : Program} (a : α) (w : World) : (pure a : Sem α).run P w = .ok a w := rfl

theorem run_loadCellsFrom {P : Program} {w : World} {b o : Nat} : ∀ (n i : Nat) (xs : List Value) (acc : Array Value), xs.length = n →
    (∀ j x, xs[j]? = some x → w.cell? ⟨b, o + i + j, none⟩ = some x) → (loadCellsFrom ⟨b, o, none⟩ i n acc).run P w = .ok (acc ++ xs.toArray) w := by
  intro n
  induction n with
  | zero =>
    intro i xs acc hl _
    obtain rfl : xs = [] := List.length_eq_zero_iff.1 hl
    simp [loadCellsFrom]
  | succ n ih =>
    intro i xs acc hl h
    cases xs with
    | nil => simp at hl
    | cons x xs =>
      have h0 := h 0 x rfl
      simp only [loadCellsFrom, run_bind, add_addr]
      rw [Nat.add_zero] at h0
      rw [run_load h0]
      simp only
      rw [ih (i + 1) xs (acc.push x) (by simpa using hl) fun j y e => by
        have := h (j + 1) y (by simpa using e)
        rw [show o + (i + 1) + j = o + i + (j + 1) from by omega]; exact this]
      simp
theorem run_loadCells {P : Program} {w : World} {b o n : Nat} (xs : List Value) (hl : xs.length = n)
    (h : ∀ j x, xs[j]? = some x → w.cell? ⟨b, o + j, none⟩ = some x) : (loadCells ⟨b, o, none⟩ n).run P w = .ok xs.toArray w := by
  unfold loadCells
  rw [run_loadCellsFrom n 0 xs #[] hl (by simpa using h)]
  simp

def OneV : Value → Prop
  | .agg _ => False
  | .tuple _ => False
  | _ => True
theorem run_store {P : Program} {w : World} {b o : Nat} {v : Value} {cs : Array Value} {e : TypeId} {lo hi : Nat} (hv : OneV v) (h : w.heap[b]? = some (.cells cs e (lo, hi)))
    (ho : o < cs.size) (hf : ¬ (lo ≤ o ∧ o < hi)) : (store ⟨b, o, none⟩ v).run P w = .ok () (setBlk w b (.cells (cs.setIfInBounds o v) e (lo, hi))) := by
  have hc : w.cell? ⟨b, o, none⟩ = some cs[o] := by rw [cell_of h]; simp [ho]
  have hz : w.frozen? ⟨b, o, none⟩ = false := by
    simp only [World.frozen?, h]
    simp
    omega
  have hs : w.setCell ⟨b, o, none⟩ v = setBlk w b (.cells (cs.setIfInBounds o v) e (lo, hi)) := by
    simp only [World.setCell, setBlk]
    congr 1
    apply Array.ext_getElem?
    intro i
    simp only [Array.getElem?_modify, Array.getElem?_setIfInBounds]
    have hb : b < w.heap.size := (Array.getElem?_eq_some_iff.1 h).1
    by_cases hi : b = i
    · subst hi; rw [if_pos rfl, if_pos rfl, if_pos hb, h]; rfl
    · rw [if_neg hi, if_neg hi]
  cases v <;> first
    | exact hv.elim
    | (simp only [store, Sem.run, hc, hz, Bool.false_eq_true, if_false, hs])

theorem run_storeCells {P : Program} {b o : Nat} {e : TypeId} {lo hi : Nat} : ∀ (vs : List Value) (i : Nat) (w : World) (cs : Array Value),
    w.heap[b]? = some (.cells cs e (lo, hi)) → o + i + vs.length ≤ cs.size → Clear lo hi cs.size → (∀ v ∈ vs, OneV v) →
    ∃ cs', (Go.storeCells ⟨b, o, none⟩ vs i).run P w = .ok () (setBlk w b (.cells cs' e (lo, hi))) ∧ cs'.size = cs.size ∧
      ∀ j, cs'[j]? = if o + i ≤ j ∧ j < o + i + vs.length then vs[j - (o + i)]? else cs[j]? := by
  intro vs
  induction vs with
  | nil =>
    intro i w cs h _ _ _
    refine ⟨cs, by simp only [Go.storeCells]; rw [setBlk_self h]; rfl, rfl, fun j => ?_⟩
    rw [if_neg (by simp)]
  | cons v vs ih =>
    intro i w cs h hl hc h1
    have hl' : o + i < cs.size := by simp at hl; omega
    have hst := run_store (P := P) (w := w) (b := b) (o := o + i) (v := v) (h1 v (by simp)) h hl' (hc _ hl')
    obtain ⟨cs', hr, hz, hg⟩ := ih (i + 1) (setBlk w b (.cells (cs.setIfInBounds (o + i) v) e (lo, hi))) (cs.setIfInBounds (o + i) v) (setBlk_same h)
      (by simp at hl ⊢; omega) (by simpa using hc) (fun u hu => h1 u (by simp [hu]))
    refine ⟨cs', ?_, by simpa using hz, fun j => ?_⟩
    · simp only [Go.storeCells, run_bind, add_addr, hst]
      rw [hr, setBlk_setBlk]
    · rw [hg j]
      simp only [List.length_cons]
      by_cases h2 : j = o + i
      · subst h2
        rw [if_neg (by omega), if_pos (by omega)]
        simp [hl']
      · by_cases h3 : o + (i + 1) ≤ j ∧ j < o + (i + 1) + vs.length
        · rw [if_pos h3, if_pos (by omega)]
          rw [show j - (o + i) = (j - (o + (i + 1))) + 1 from by omega]
          simp
        · rw [if_neg h3, if_neg (by omega)]
          simp only [Array.getElem?_setIfInBounds]
          rw [if_neg (by omega)]

/-! ## the abstract side -/
theorem takeN_zero (l : List AVal) : takeN 0 l = some [] := rfl
theorem takeN_nil (n : Nat) : takeN (n + 1) [] = none := rfl
theorem takeN_cons (n : Nat) (x : AVal) (l : List AVal) : takeN (n + 1) (x :: l) = bif isPoison x then none else (takeN n l).map (x :: ·) := rfl
theorem takeN_spec : ∀ (n : Nat) (l vs : List AVal), takeN n l = some vs → vs.length = n ∧ (∀ (i : Nat) (v : AVal), vs[i]? = some v → l[i]? = some v ∧ isPoison v = false) := by
  intro n
  induction n with
  | zero => intro l vs h; rw [takeN_zero] at h; cases h; simp
  | succ n ih =>
    intro l vs h
    cases l with
    | nil => rw [takeN_nil] at h; cases h
    | cons x l =>
      rw [takeN_cons] at h
      cases hp : isPoison x with
      | true => rw [hp] at h; cases h
      | false =>
        rw [hp] at h
        simp only [cond_false, Option.map_eq_some_iff] at h
        obtain ⟨us, h1, rfl⟩ := h
        obtain ⟨h2, h3⟩ := ih l us h1
        refine ⟨by simp [h2], fun i v e => ?_⟩
        cases i with
        | zero => simp only [List.getElem?_cons_zero, Option.some.injEq] at e ⊢; subst e; exact ⟨rfl, hp⟩
        | succ i => simp only [List.getElem?_cons_succ] at e ⊢; exact h3 i v e

theorem put0_nil (l : List AVal) : put0 [] l = some l := rfl
theorem put0_cons_nil (v : AVal) (vs : List AVal) : put0 (v :: vs) [] = none := rfl
theorem put0_cons (v : AVal) (vs : List AVal) (x : AVal) (l : List AVal) : put0 (v :: vs) (x :: l) = (put0 vs l).map (v :: ·) := rfl
theorem putCells_zero (vs l : List AVal) : putCells vs 0 l = put0 vs l := rfl
theorem putCells_nil (vs : List AVal) (n : Nat) : putCells vs (n + 1) [] = none := rfl
theorem putCells_cons (vs : List AVal) (n : Nat) (x : AVal) (l : List AVal) : putCells vs (n + 1) (x :: l) = (putCells vs n l).map (x :: ·) := rfl
theorem put0_spec : ∀ (vs l l' : List AVal), put0 vs l = some l' → l'.length = l.length ∧ vs.length ≤ l.length ∧ ∀ i, l'[i]? = if i < vs.length then vs[i]? else l[i]? := by
  intro vs
  induction vs with
  | nil => intro l l' h; rw [put0_nil] at h; cases h; simp
  | cons v vs ih =>
    intro l l' h
    cases l with
    | nil => rw [put0_cons_nil] at h; cases h
    | cons x l =>
      rw [put0_cons, Option.map_eq_some_iff] at h
      obtain ⟨us, h1, rfl⟩ := h
      obtain ⟨h2, h3, h4⟩ := ih l us h1
      refine ⟨by simp [h2], by simp [h3], fun i => ?_⟩
      cases i with
      | zero => simp
      | succ i =>
        simp only [List.getElem?_cons_succ, List.length_cons, h4 i]
        by_cases hi : i < vs.length
        · rw [if_pos hi, if_pos (by omega)]
        · rw [if_neg hi, if_neg (by omega)]
theorem putCells_spec (vs : List AVal) : ∀ (off : Nat) (l l' : List AVal), putCells vs off l = some l' →
    l'.length = l.length ∧ off + vs.length ≤ l.length ∧ ∀ i, l'[i]? = if off ≤ i ∧ i < off + vs.length then vs[i - off]? else l[i]? := by
  intro off
  induction off with
  | zero =>
    intro l l' h
    rw [putCells_zero] at h
    obtain ⟨h1, h2, h3⟩ := put0_spec vs l l' h
    exact ⟨h1, by omega, fun i => by rw [h3 i]; simp⟩
  | succ off ih =>
    intro l l' h
    cases l with
    | nil => rw [putCells_nil] at h; cases h
    | cons x l =>
      rw [putCells_cons, Option.map_eq_some_iff] at h
      obtain ⟨us, h1, rfl⟩ := h
      obtain ⟨h2, h3, h4⟩ := ih l us h1
      refine ⟨by simp [h2], by simp; omega, fun i => ?_⟩
      cases i with
      | zero => simp
      | succ i =>
        simp only [List.getElem?_cons_succ, h4 i]
        by_cases hi : off ≤ i ∧ i < off + vs.length
        · rw [if_pos hi, if_pos (by omega)]
          rw [show i + 1 - (off + 1) = i - off from by omega]
        · rw [if_neg hi, if_neg (by omega)]

theorem poison0_zero (l : List AVal) : poison0 0 l = l := rfl
theorem poison0_nil (n : Nat) : poison0 (n + 1) [] = [] := rfl
theorem poison0_cons (n : Nat) (x : AVal) (l : List AVal) : poison0 (n + 1) (x :: l) = .poison :: poison0 n l := rfl
theorem poisonL_zero (n : Nat) (l : List AVal) : poisonL n 0 l = poison0 n l := rfl
theorem poisonL_nil (n a : Nat) : poisonL n (a + 1) [] = [] := rfl
theorem poisonL_cons (n a : Nat) (x : AVal) (l : List AVal) : poisonL n (a + 1) (x :: l) = x :: poisonL n a l := rfl
theorem poison0_spec : ∀ (n : Nat) (l : List AVal), (poison0 n l).length = l.length ∧ ∀ i, (poison0 n l)[i]? = if i < n then l[i]?.map (fun _ => .poison) else l[i]? := by
  intro n
  induction n with
  | zero => intro l; simp [poison0_zero]
  | succ n ih =>
    intro l
    cases l with
    | nil => simp [poison0_nil]
    | cons x l =>
      rw [poison0_cons]
      refine ⟨by simp [(ih l).1], fun i => ?_⟩
      cases i with
      | zero => simp
      | succ i => simp only [List.getElem?_cons_succ, (ih l).2 i]; by_cases h : i < n <;> simp [h]
theorem poisonL_spec (n : Nat) : ∀ (a : Nat) (l : List AVal), (poisonL n a l).length = l.length ∧
    ∀ i, (poisonL n a l)[i]? = if a ≤ i ∧ i < a + n then l[i]?.map (fun _ => .poison) else l[i]? := by
  intro a
  induction a with
  | zero => intro l; rw [poisonL_zero]; refine ⟨(poison0_spec n l).1, fun i => ?_⟩; rw [(poison0_spec n l).2 i]; simp
  | succ a ih =>
    intro l
    cases l with
    | nil => simp [poisonL_nil]
    | cons x l =>
      rw [poisonL_cons]
      refine ⟨by simp [(ih l).1], fun i => ?_⟩
      cases i with
      | zero => simp
      | succ i =>
        simp only [List.getElem?_cons_succ, (ih l).2 i]
        by_cases h : a ≤ i ∧ i < a + n
        · rw [if_pos h, if_pos (by omega)]
        · rw [if_neg h, if_neg (by omega)]

theorem new_heap (m : Mem) (o : AObj) : (m.new o).heap = m.heap.set m.next o := by cases m; rfl
theorem new_next (m : Mem) (o : AObj) : (m.new o).next = m.next + 1 := by cases m; rfl
theorem new_fams (m : Mem) (o : AObj) : (m.new o).fams = m.fams := by cases m; rfl
theorem put_heap (m : Mem) (r : Nat) (o : AObj) : (m.put r o).heap = m.heap.set r o := by cases m; rfl
theorem put_next (m : Mem) (r : Nat) (o : AObj) : (m.put r o).next = m.next := by cases m; rfl
theorem put_fams (m : Mem) (r : Nat) (o : AObj) : (m.put r o).fams = m.fams := by cases m; rfl

/-! ## reading -/
section
variable {P : Program} {w0 : Wo} {B : Nat} {ρ : Rho} {m : Mem} {w : World}

/-- the cells of a row that can be read -/
theorem MR.row_cells (h : MR w0 B ρ m w) {r : Nat} {p : Pl} (hp : ρ r = some p) {o : AObj} (ho : m.heap.get r = some o) {cells : List AVal}
    (hc : (∃ e f pos, o = .row e cells f pos) ∨ o = .ro cells) : ∃ cs e fz, w.heap[p.b]? = some (.cells cs e fz) ∧ CR ρ cells cs p.s := by
  have := h.obj r o p ho hp
  rcases hc with ⟨e, f, pos, rfl⟩ | rfl
  · obtain ⟨_, _, cs, lo, hi, h1, _, h2, _⟩ := this
    exact ⟨cs, _, _, h1, h2⟩
  · obtain ⟨_, cs, e, fz, h1, h2⟩ := this
    exact ⟨cs, e, fz, h1, h2⟩

theorem cells_sound {cells vs : List AVal} {cs : Array Value} {s off n b : Nat} {e : TypeId} {fz : Nat × Nat} (hw : w.heap[b]? = some (.cells cs e fz)) (hc : CR ρ cells cs s)
    (ht : takeN n (dropN cells off) = some vs) : ∃ xs : List Value, (loadCells ⟨b, off + s, none⟩ n).run P w = .ok xs.toArray w ∧ RL ρ vs xs ∧ xs.length = n ∧
      (∀ j x, xs[j]? = some x → cs[off + s + j]? = some x) := by
  obtain ⟨h1, h2⟩ := takeN_spec _ _ _ ht
  rw [dropN_eq] at h2
  have hex : ∀ j, j < n → ∃ x, cs[off + s + j]? = some x ∧ ∀ v, vs[j]? = some v → R ρ v x := by
    intro j hj
    have hv : vs[j]? = some vs[j] := List.getElem?_eq_getElem (by omega)
    obtain ⟨h3, _⟩ := h2 j _ hv
    rw [List.getElem?_drop] at h3
    obtain ⟨x, h4, h5⟩ := hc _ _ h3
    refine ⟨x, by rw [show off + s + j = off + j + s from by omega]; exact h4, fun v hv' => ?_⟩
    rw [hv] at hv'; cases hv'; exact h5
  have hsz : n = 0 ∨ off + s + n ≤ cs.size := by
    rcases Nat.eq_zero_or_pos n with h0 | h0
    · exact .inl h0
    · obtain ⟨x, hx, _⟩ := hex (n - 1) (by omega)
      have := (Array.getElem?_eq_some_iff.1 hx).1
      exact .inr (by omega)
  refine ⟨(cs.toList.drop (off + s)).take n, ?_⟩
  have hlen : ((cs.toList.drop (off + s)).take n).length = n := by
    simp only [List.length_take, List.length_drop, Array.length_toList]
    rcases hsz with h0 | h0 <;> omega
  have hget : ∀ j x, ((cs.toList.drop (off + s)).take n)[j]? = some x → cs[off + s + j]? = some x := by
    intro j x hx
    rw [List.getElem?_take] at hx
    split at hx
    · rw [List.getElem?_drop] at hx; simpa using hx
    · cases hx
  refine ⟨run_loadCells _ hlen fun j x hx => by rw [cell_of hw]; exact hget j x hx, RL.of_get (by omega) fun i v hv => ?_, hlen, hget⟩
  have hi : i < n := by have := (List.getElem?_eq_some_iff.1 hv).1; omega
  obtain ⟨x, h3, h4⟩ := hex i hi
  refine ⟨x, ?_, h4 v hv⟩
  rw [List.getElem?_take, if_pos hi, List.getElem?_drop]
  simpa using h3

theorem MR.readCells (h : MR w0 B ρ m w) {r : Nat} {p : Pl} (hp : ρ r = some p) {off n : Nat} {vs : List AVal} (e : readCells m r off n = some vs) :
    ∃ xs : List Value, (loadCells ⟨p.b, off + p.s, none⟩ n).run P w = .ok xs.toArray w ∧ RL ρ vs xs ∧ xs.length = n ∧ (∀ j x, xs[j]? = some x → w.cell? ⟨p.b, off + p.s + j, none⟩ = some x) := by
  unfold Abs.readCells at e
  split at e
  · rename_i e0 cells f pos ho
    obtain ⟨cs, e1, fz, hw, hc⟩ := h.row_cells hp ho (.inl ⟨e0, f, pos, rfl⟩)
    obtain ⟨xs, h1, h2, h3, h4⟩ := cells_sound (P := P) hw hc e
    exact ⟨xs, h1, h2, h3, fun j x hx => by rw [cell_of hw]; exact h4 j x hx⟩
  · rename_i cells ho
    obtain ⟨cs, e1, fz, hw, hc⟩ := h.row_cells hp ho (.inr rfl)
    obtain ⟨xs, h1, h2, h3, h4⟩ := cells_sound (P := P) hw hc e
    exact ⟨xs, h1, h2, h3, fun j x hx => by rw [cell_of hw]; exact h4 j x hx⟩
  · cases e

theorem sound1_some {o : Option AVal} {v : AVal} (h : sound1 o = some v) : o = some v ∧ isPoison v = false := by
  unfold sound1 at h
  split at h
  · rename_i v'
    cases hp : isPoison v' with
    | true => rw [hp] at h; cases h
    | false => rw [hp] at h; cases h; exact ⟨rfl, hp⟩
  · cases h

theorem MR.read1 (h : MR w0 B ρ m w) {r : Nat} {p : Pl} (hp : ρ r = some p) {off : Nat} {v : AVal} (e : read1 m r off = some v) :
    ∃ x, (load ⟨p.b, off + p.s, none⟩).run P w = .ok x w ∧ R ρ v x := by
  unfold Abs.read1 at e
  split at e
  · rename_i e0 cells f pos ho
    obtain ⟨h1, _⟩ := sound1_some e
    rw [getO_eq] at h1
    obtain ⟨cs, e1, fz, hw, hc⟩ := h.row_cells hp ho (.inl ⟨e0, f, pos, rfl⟩)
    obtain ⟨x, h2, h3⟩ := hc _ _ h1
    exact ⟨x, run_load (by rw [cell_of hw]; exact h2), h3⟩
  · rename_i cells ho
    obtain ⟨h1, _⟩ := sound1_some e
    rw [getO_eq] at h1
    obtain ⟨cs, e1, fz, hw, hc⟩ := h.row_cells hp ho (.inr rfl)
    obtain ⟨x, h2, h3⟩ := hc _ _ h1
    exact ⟨x, run_load (by rw [cell_of hw]; exact h2), h3⟩
  · cases e
end
end Go.Abs
