/- An executor whose runs hold in every world: a part of it and of what is proved of it. -/
import Derived.Test.YtjefckdgpbdpeaaGreatAbsK
import Derived.Below

namespace Go.Abs
open Go

theorem bitsF_zero (k : Nat) : bitsF 0 k = [] := rfl
theorem bitsF_succ (f k : Nat) : bitsF (f + 1) k = bif k.beq 0 then [] else d4 ((k.sub 1).mod 4) :: bitsF f ((k.sub 1).div 4) := rfl

def und4 : D4 → Nat
  | .q0 => 0
  | .q1 => 1
  | .q2 => 2
  | .q3 => 3
theorem und4_d4 (n : Nat) (h : n < 4) : und4 (d4 n) = n := by
  have : n = 0 ∨ n = 1 ∨ n = 2 ∨ n = 3 := by omega
  rcases this with rfl | rfl | rfl | rfl <;> rfl
def unbits : List D4 → Nat
  | [] => 0
  | b :: p => 4 * unbits p + und4 b + 1

theorem unbits_bitsF : ∀ (f k : Nat), k ≤ f → unbits (bitsF f k) = k := by
  intro f
  induction f with
  | zero => intro k h; simp [bitsF_zero, unbits]; omega
  | succ f ih =>
    intro k h
    rw [bitsF_succ]
    cases k with
    | zero => rfl
    | succ k =>
      have h1 : (k + 1).beq 0 = false := rfl
      rw [h1]
      simp only [cond_false, unbits]
      have h2 : ((k + 1).sub 1).div 4 = k / 4 := rfl
      have h3 : ((k + 1).sub 1).mod 4 = k % 4 := rfl
      rw [h2, h3, ih (k / 4) (by omega), und4_d4 _ (Nat.mod_lt _ (by omega))]
      omega

theorem unbits_bits (k : Nat) : unbits (bits k) = k := unbits_bitsF k k (Nat.le_refl _)
theorem bits_inj {a b : Nat} (h : bits a = bits b) : a = b := by rw [← unbits_bits a, ← unbits_bits b, h]

section
variable {α : Type}
theorem T.getB_e (p : List D4) : (T.e : T α).getB p = none := rfl
theorem T.getB_n_nil (a b c d : T α) (v : Option α) : (T.n a b c d v).getB [] = v := rfl
theorem T.getB_n_cons (a b c d : T α) (v : Option α) (x : D4) (p : List D4) : (T.n a b c d v).getB (x :: p) = match x with | .q0 => a.getB p | .q1 => b.getB p | .q2 => c.getB p | .q3 => d.getB p := by cases x <;> rfl
theorem T.setB_nil_e (x : α) : T.setB x [] (T.e : T α) = .n .e .e .e .e (some x) := rfl
theorem T.setB_nil_n (x : α) (a b c d : T α) (v : Option α) : T.setB x [] (T.n a b c d v) = .n a b c d (some x) := rfl
theorem T.setB_cons_e (x : α) (y : D4) (p : List D4) : T.setB x (y :: p) (T.e : T α) = match y with
    | .q0 => .n (T.setB x p .e) .e .e .e none | .q1 => .n .e (T.setB x p .e) .e .e none | .q2 => .n .e .e (T.setB x p .e) .e none | .q3 => .n .e .e .e (T.setB x p .e) none := by cases y <;> rfl
theorem T.setB_cons_n (x : α) (y : D4) (p : List D4) (a b c d : T α) (v : Option α) : T.setB x (y :: p) (T.n a b c d v) = match y with
    | .q0 => .n (T.setB x p a) b c d v | .q1 => .n a (T.setB x p b) c d v | .q2 => .n a b (T.setB x p c) d v | .q3 => .n a b c (T.setB x p d) v := by cases y <;> rfl

theorem T.getB_setB_same (x : α) : ∀ (p : List D4) (t : T α), (T.setB x p t).getB p = some x := by
  intro p
  induction p with
  | nil => intro t; cases t <;> rfl
  | cons b p ih =>
    intro t
    cases t with
    | e => rw [T.setB_cons_e]; cases b <;> simp [T.getB_n_cons, ih]
    | n => rw [T.setB_cons_n]; cases b <;> simp [T.getB_n_cons, ih]

theorem T.getB_setB_other (x : α) : ∀ (p q : List D4) (t : T α), p ≠ q → (T.setB x p t).getB q = t.getB q := by
  intro p
  induction p with
  | nil =>
    intro q t h
    cases q with
    | nil => exact absurd rfl h
    | cons b q => cases t <;> cases b <;> simp [T.setB_nil_e, T.setB_nil_n, T.getB_n_cons, T.getB_e]
  | cons b p ih =>
    intro q t h
    cases q with
    | nil => cases t <;> cases b <;> simp [T.setB_cons_e, T.setB_cons_n, T.getB_n_nil, T.getB_e]
    | cons c q =>
      by_cases hb : b = c
      · subst hb
        have hp : p ≠ q := fun e => h (by rw [e])
        cases t <;> cases b <;> simp [T.setB_cons_e, T.setB_cons_n, T.getB_n_cons, ih _ _ hp, T.getB_e]
      · cases t <;> cases b <;> cases c <;> simp_all [T.setB_cons_e, T.setB_cons_n, T.getB_n_cons, T.getB_e]

theorem T.get_e (k : Nat) : (T.e : T α).get k = none := T.getB_e _
theorem T.get_set_same (t : T α) (k : Nat) (x : α) : (t.set k x).get k = some x := T.getB_setB_same _ _ _
theorem T.get_set_other (t : T α) {k j : Nat} (x : α) (h : k ≠ j) : (t.set k x).get j = t.get j :=
  T.getB_setB_other _ _ _ _ fun e => h (bits_inj e)
theorem T.get_set (t : T α) (k j : Nat) (x : α) : (t.set k x).get j = if k = j then some x else t.get j := by
  by_cases h : k = j
  · subst h; simp [T.get_set_same]
  · simp [h, T.get_set_other t x h]
end

/-! the lists' words -/
theorem mapL_eq {α β : Type} (f : α → β) (l : List α) : mapL f l = l.map f := by
  induction l with
  | nil => rfl
  | cons x l ih => show f x :: mapL f l = _; rw [ih]; rfl
theorem appL_eq {α : Type} (a b : List α) : appL a b = a ++ b := by
  induction a with
  | nil => rfl
  | cons x a ih => show x :: appL a b = _; rw [ih]; rfl
theorem lenL_eq {α : Type} (l : List α) : lenL l = l.length := by
  induction l with
  | nil => rfl
  | cons x l ih => show (lenL l).succ = _; rw [ih]; rfl
theorem getO_eq {α : Type} (l : List α) : ∀ n, getO l n = l[n]? := by
  induction l with
  | nil => intro n; rfl
  | cons x l ih =>
    intro n
    show (bif n.beq 0 then some x else getO l (n.sub 1)) = _
    cases n with
    | zero => rfl
    | succ n => show getO l n = _; rw [ih]; rfl
theorem dropN_eq {α : Type} : ∀ (n : Nat) (l : List α), dropN l n = l.drop n := by
  intro n
  induction n with
  | zero => intro l; rfl
  | succ n ih =>
    intro l
    cases l with
    | nil => rfl
    | cons x l => show dropN l n = _; rw [ih]; rfl
theorem repL_zero (z : List AVal) : repL z 0 = [] := rfl
theorem repL_succ (z : List AVal) (n : Nat) : repL z (n + 1) = z ++ repL z n := by show appL z (repL z n) = _; rw [appL_eq]
theorem isNil_eq {α : Type} (l : List α) : isNil l = l.isEmpty := by cases l <;> rfl
theorem hasN_eq (l : List Nat) (k : Nat) : hasN l k = l.contains k := by
  induction l with
  | nil => rfl
  | cons x l ih =>
    show (bif x.beq k then true else hasN l k) = _
    rw [ih, List.contains_cons]
    by_cases h : x = k
    · subst h; simp
    · have : x.beq k = false := by rw [← Bool.not_eq_true]; simpa using h
      have h2 : (k == x) = false := by simp; exact fun e => h e.symm
      rw [this, h2]; rfl
theorem fltL_eq {α : Type} (p : α → Bool) (l : List α) : fltL p l = l.filter p := by
  induction l with
  | nil => rfl
  | cons x l ih =>
    show (bif p x then x :: fltL p l else fltL p l) = _
    rw [ih, List.filter_cons]
    cases p x <;> rfl
theorem lastO_eq (l : List Nat) : lastO l = l.getLast? := by
  induction l with
  | nil => rfl
  | cons x l ih =>
    show some (match lastO l with | some y => y | none => x) = _
    rw [ih]
    cases l with
    | nil => rfl
    | cons y l =>
      rw [List.getLast?_cons_cons]
      cases h : (y :: l).getLast? with
      | none => simp at h
      | some z => rfl
theorem entFind_eq (b : Nat) (es : List AEnt) : entFind b es = es.find? (·.born == b) := by
  induction es with
  | nil => rfl
  | cons e es ih =>
    show (bif e.born.beq b then some e else entFind b es) = _
    rw [ih, List.find?_cons]
    show _ = match e.born == b with | true => _ | false => _
    have : e.born.beq b = (e.born == b) := by
      rw [Bool.eq_iff_iff]; simp
    rw [this]
    cases e.born == b <;> rfl

theorem nat_beq {a b : Nat} : a.beq b = true ↔ a = b := by simp
theorem nat_ble {a b : Nat} : a.ble b = true ↔ a ≤ b := by simp
theorem nat_beq_f {a b : Nat} : a.beq b = false ↔ a ≠ b := by rw [← Bool.not_eq_true, nat_beq]
theorem nat_ble_f {a b : Nat} : a.ble b = false ↔ b < a := by rw [← Bool.not_eq_true, nat_ble]; omega

theorem getT_set (t : T AVal) (k j : Nat) (v : AVal) : getT (t.set k v) j = if k = j then v else getT t j := by
  unfold getT
  rw [T.get_set]
  by_cases h : k = j <;> simp [h]
end Go.Abs

namespace Go.Abs
open Go
open Go.RowKit (Below)

/-- where a row lies: its block, where its cell 0 lies in it, how many cells the block has, how many an element takes (0: not known) -/
structure Pl where
  b : Nat
  s : Nat
  z : Nat
  q : Nat
def Pl.obj (b : Nat) : Pl := ⟨b, 0, 0, 0⟩
abbrev Rho := Nat → Option Pl
def Rho.le (ρ ρ' : Rho) : Prop := ∀ r p, ρ r = some p → ρ' r = some p
theorem Rho.le.refl (ρ : Rho) : ρ.le ρ := fun _ _ h => h
theorem Rho.le.trans {a b c : Rho} (h : a.le b) (k : b.le c) : a.le c := fun r p e => k r p (h r p e)
def Rho.add (ρ : Rho) (r : Nat) (p : Pl) : Rho := fun q => if q = r then some p else ρ q
theorem Rho.le_add {ρ : Rho} {r : Nat} {a : Pl} (h : ρ r = none) : ρ.le (ρ.add r a) := by
  intro q p e
  unfold Rho.add
  by_cases hq : q = r
  · subst hq; rw [h] at e; cases e
  · rw [if_neg hq]; exact e
theorem Rho.add_same (ρ : Rho) (r : Nat) (a : Pl) : ρ.add r a r = some a := by simp [Rho.add]
theorem Rho.add_other (ρ : Rho) {r q : Nat} (a : Pl) (h : q ≠ r) : ρ.add r a q = ρ q := by simp [Rho.add, h]

mutual
def R (ρ : Rho) : AVal → Value → Prop
  | .lit v, x => x = v
  | .poison, _ => True
  | .ptr r off, x => ∃ p, ρ r = some p ∧ x = .pointer (some ⟨p.b, off + p.s, none⟩)
  | .slice r off n c ex, x => ∃ p c', ρ r = some p ∧ c ≤ c' ∧ (ex = true → c' = c) ∧ (ex = false → off + p.s + c' * p.q ≤ p.z) ∧ x = .slice (some ⟨p.b, off + p.s, none⟩) n c'
  | .emptyS, x => ∃ a c', x = .slice (some a) 0 c'
  | .map r, x => ∃ b, ρ r = some (Pl.obj b) ∧ x = .map (some b)
  | .func fn f c, x => isYield fn = false ∧ ∃ f' c', x = .func fn f' c' ∧ RL ρ f f'.toList ∧ RL ρ c c'.toList
  | .yield l, x => ∃ b, ρ l = some (Pl.obj b) ∧ x = .func (.yield b) #[] #[]
  | .iface t v, x => ∃ y, x = .iface t y ∧ R ρ v y
  | .agg l, x => ∃ cs, x = .agg cs ∧ RL ρ l cs.toList
  | .tuple l, x => ∃ cs, x = .tuple cs ∧ RL ρ l cs.toList
def RL (ρ : Rho) : List AVal → List Value → Prop
  | [], l => l = []
  | v :: vs, l => ∃ x xs, l = x :: xs ∧ R ρ v x ∧ RL ρ vs xs
end

mutual
theorem R.mono {ρ ρ' : Rho} (h : ρ.le ρ') : ∀ (v : AVal) (x : Value), R ρ v x → R ρ' v x
  | .lit v, x, e => by simpa [R] using e
  | .poison, x, e => by simp [R]
  | .ptr r off, x, e => by
    simp only [R] at e ⊢
    obtain ⟨p, h1, h2⟩ := e
    exact ⟨p, h _ _ h1, h2⟩
  | .emptyS, x, e => by simpa [R] using e
  | .slice r off n c ex, x, e => by
    simp only [R] at e ⊢
    obtain ⟨p, c', h1, h2⟩ := e
    exact ⟨p, c', h _ _ h1, h2⟩
  | .map r, x, e => by
    simp only [R] at e ⊢
    obtain ⟨b, h1, h2⟩ := e
    exact ⟨b, h _ _ h1, h2⟩
  | .func fn f c, x, e => by
    simp only [R] at e ⊢
    obtain ⟨h0, f', c', h1, h2, h3⟩ := e
    exact ⟨h0, f', c', h1, RL.mono h f _ h2, RL.mono h c _ h3⟩
  | .yield l, x, e => by
    simp only [R] at e ⊢
    obtain ⟨b, h1, h2⟩ := e
    exact ⟨b, h _ _ h1, h2⟩
  | .iface t v, x, e => by
    simp only [R] at e ⊢
    obtain ⟨y, h1, h2⟩ := e
    exact ⟨y, h1, R.mono h v _ h2⟩
  | .agg l, x, e => by
    simp only [R] at e ⊢
    obtain ⟨cs, h1, h2⟩ := e
    exact ⟨cs, h1, RL.mono h l _ h2⟩
  | .tuple l, x, e => by
    simp only [R] at e ⊢
    obtain ⟨cs, h1, h2⟩ := e
    exact ⟨cs, h1, RL.mono h l _ h2⟩
theorem RL.mono {ρ ρ' : Rho} (h : ρ.le ρ') : ∀ (v : List AVal) (x : List Value), RL ρ v x → RL ρ' v x
  | [], x, e => by simpa [RL] using e
  | v :: vs, x, e => by
    simp only [RL] at e ⊢
    obtain ⟨y, ys, h1, h2, h3⟩ := e
    exact ⟨y, ys, h1, R.mono h v _ h2, RL.mono h vs _ h3⟩
end

theorem RL.length {ρ : Rho} : ∀ {l : List AVal} {x : List Value}, RL ρ l x → l.length = x.length
  | [], x, h => by simp only [RL] at h; simp [h]
  | v :: vs, x, h => by
    simp only [RL] at h
    obtain ⟨y, ys, rfl, _, h3⟩ := h
    simp [RL.length h3]
theorem RL.get {ρ : Rho} : ∀ {l : List AVal} {x : List Value}, RL ρ l x → ∀ {i : Nat} {v : AVal}, l[i]? = some v → ∃ y, x[i]? = some y ∧ R ρ v y
  | [], x, h, i, v, e => by simp at e
  | a :: vs, x, h, i, v, e => by
    simp only [RL] at h
    obtain ⟨y, ys, rfl, h2, h3⟩ := h
    cases i with
    | zero => simp only [List.getElem?_cons_zero, Option.some.injEq] at e ⊢; subst e; exact ⟨y, rfl, h2⟩
    | succ i => simp only [List.getElem?_cons_succ] at e ⊢; exact RL.get h3 e
theorem RL.append {ρ : Rho} : ∀ {l : List AVal} {x : List Value} {l' : List AVal} {x' : List Value}, RL ρ l x → RL ρ l' x' → RL ρ (l ++ l') (x ++ x')
  | [], x, _, _, h, h' => by simp only [RL] at h; subst h; simpa using h'
  | a :: vs, x, _, _, h, h' => by
    simp only [RL] at h
    obtain ⟨y, ys, rfl, h2, h3⟩ := h
    simp only [List.cons_append, RL]
    exact ⟨y, _, rfl, h2, RL.append h3 h'⟩
theorem RL.of_get {ρ : Rho} : ∀ {l : List AVal} {x : List Value}, l.length = x.length → (∀ (i : Nat) (v : AVal), l[i]? = some v → ∃ y, x[i]? = some y ∧ R ρ v y) → RL ρ l x
  | [], x, hl, _ => by simp only [RL]; exact List.length_eq_zero_iff.1 hl.symm
  | a :: vs, [], hl, _ => by simp at hl
  | a :: vs, y :: ys, hl, h => by
    simp only [RL]
    refine ⟨y, ys, rfl, ?_, RL.of_get (by simpa using hl) fun i v e => ?_⟩
    · obtain ⟨z, h1, h2⟩ := h 0 a rfl
      simp only [List.getElem?_cons_zero, Option.some.injEq] at h1
      subst h1; exact h2
    · exact h (i + 1) v e
theorem RL.lits {ρ : Rho} (l : List Value) : RL ρ (l.map .lit) l := by
  induction l with
  | nil => simp [RL]
  | cons x l ih => simp only [List.map_cons, RL]; exact ⟨x, l, rfl, by simp [R], ih⟩
theorem RL.map_of {ρ : Rho} {α : Type} (f : α → AVal) (g : α → Value) (l : List α) (h : ∀ a, a ∈ l → R ρ (f a) (g a)) : RL ρ (l.map f) (l.map g) := by
  induction l with
  | nil => simp [RL]
  | cons x l ih =>
    simp only [List.map_cons, RL]
    exact ⟨_, _, rfl, h x (by simp), ih fun a ha => h a (by simp [ha])⟩

mutual
theorem R.of_toLit {ρ : Rho} : ∀ (v : AVal) (x y : Value), R ρ v x → v.toLit = some y → x = y
  | .lit v, x, y, h, e => by simp only [R] at h; simp only [AVal.toLit, Option.some.injEq] at e; rw [h, e]
  | .agg l, x, y, h, e => by
    simp only [R] at h
    obtain ⟨cs, rfl, h2⟩ := h
    simp only [AVal.toLit, Option.map_eq_some_iff] at e
    obtain ⟨vs, h3, rfl⟩ := e
    rw [← RL.of_toLits l _ _ h2 h3]
  | .tuple l, x, y, h, e => by
    simp only [R] at h
    obtain ⟨cs, rfl, h2⟩ := h
    simp only [AVal.toLit, Option.map_eq_some_iff] at e
    obtain ⟨vs, h3, rfl⟩ := e
    rw [← RL.of_toLits l _ _ h2 h3]
  | .iface t v, x, y, h, e => by
    simp only [R] at h
    obtain ⟨z, rfl, h2⟩ := h
    simp only [AVal.toLit, Option.map_eq_some_iff] at e
    obtain ⟨u, h3, rfl⟩ := e
    rw [R.of_toLit v _ _ h2 h3]
  | .poison, _, _, _, e => by simp [AVal.toLit] at e
  | .ptr _ _, _, _, _, e => by simp [AVal.toLit] at e
  | .slice .., _, _, _, e => by simp [AVal.toLit] at e
  | .emptyS, _, _, _, e => by simp [AVal.toLit] at e
  | .map _, _, _, _, e => by simp [AVal.toLit] at e
  | .func .., _, _, _, e => by simp [AVal.toLit] at e
  | .yield _, _, _, _, e => by simp [AVal.toLit] at e
theorem RL.of_toLits {ρ : Rho} : ∀ (l : List AVal) (x y : List Value), RL ρ l x → toLits l = some y → x = y
  | [], x, y, h, e => by simp only [RL] at h; simp only [toLits, Option.some.injEq] at e; rw [h, e]
  | v :: vs, x, y, h, e => by
    simp only [RL] at h
    obtain ⟨z, zs, rfl, h2, h3⟩ := h
    simp only [toLits] at e
    cases hv : v.toLit with
    | none => rw [hv] at e; simp at e
    | some u =>
      rw [hv] at e
      simp only [Option.map_eq_some_iff] at e
      obtain ⟨us, h4, rfl⟩ := e
      rw [R.of_toLit v _ _ h2 hv, RL.of_toLits vs _ _ h3 h4]
end
theorem R.of_litOf {ρ : Rho} {v : AVal} {x y : Value} (h : R ρ v x) (e : litOf v = some y) : x = y := by
  unfold litOf at e
  split at e
  · simp only [R] at h; simp only [Option.some.injEq] at e; rw [h, e]
  · exact R.of_toLit v x y h e

theorem R.cells {ρ : Rho} {v : AVal} {x : Value} (h : R ρ v x) (hp : isPoison v = false) : RL ρ v.cells x.cells.toList := by
  cases v with
  | lit v =>
    simp only [R] at h
    subst h
    cases x <;> first
      | (simp only [AVal.cells, Value.cells, RL]; exact ⟨_, _, rfl, by simp [R], rfl⟩)
      | (simp only [AVal.cells, Value.cells, mapL_eq]; exact RL.lits _)
  | poison => simp [isPoison] at hp
  | ptr r off => simp only [R] at h; obtain ⟨p, h1, rfl⟩ := h; simp only [AVal.cells, Value.cells, RL]; exact ⟨_, _, rfl, by simp only [R]; exact ⟨p, h1, rfl⟩, rfl⟩
  | slice r off n c ex => simp only [R] at h; obtain ⟨p, c', h1, h2, h3, h4, rfl⟩ := h; simp only [AVal.cells, Value.cells, RL]; exact ⟨_, _, rfl, by simp only [R]; exact ⟨p, c', h1, h2, h3, h4, rfl⟩, rfl⟩
  | emptyS => simp only [R] at h; obtain ⟨a, c', rfl⟩ := h; simp only [AVal.cells, Value.cells, RL]; exact ⟨_, _, rfl, by simp only [R]; exact ⟨a, c', rfl⟩, rfl⟩
  | map r => simp only [R] at h; obtain ⟨b, h1, rfl⟩ := h; simp only [AVal.cells, Value.cells, RL]; exact ⟨_, _, rfl, by simp only [R]; exact ⟨b, h1, rfl⟩, rfl⟩
  | func fn f c => simp only [R] at h; obtain ⟨h0, f', c', rfl, h2⟩ := h; simp only [AVal.cells, Value.cells, RL]; exact ⟨_, _, rfl, by simp only [R]; exact ⟨h0, f', c', rfl, h2⟩, rfl⟩
  | yield l => simp only [R] at h; obtain ⟨b, h1, rfl⟩ := h; simp only [AVal.cells, Value.cells, RL]; exact ⟨_, _, rfl, by simp only [R]; exact ⟨b, h1, rfl⟩, rfl⟩
  | iface t v => simp only [R] at h; obtain ⟨y, rfl, h2⟩ := h; simp only [AVal.cells, Value.cells, RL]; exact ⟨_, _, rfl, by simp only [R]; exact ⟨y, rfl, h2⟩, rfl⟩
  | agg l => simp only [R] at h; obtain ⟨cs, rfl, h2⟩ := h; simpa only [AVal.cells, Value.cells] using h2
  | tuple l => simp only [R] at h; obtain ⟨cs, rfl, h2⟩ := h; simp only [AVal.cells, Value.cells, RL]; exact ⟨_, _, rfl, by simp only [R]; exact ⟨cs, rfl, h2⟩, rfl⟩

/-- cells of a row against those of a block -/
def CR (ρ : Rho) (cells : List AVal) (cs : Array Value) (s : Nat) : Prop := ∀ i v, cells[i]? = some v → ∃ x, cs[i + s]? = some x ∧ R ρ v x
def Clear (lo hi z : Nat) : Prop := ∀ i, i < z → ¬ (lo ≤ i ∧ i < hi)
def TR (ρ : Rho) (t : T AVal) (a : Array Value) : Prop := ∀ i, R ρ (getT t i) (a.getD i undef)
def ER (ρ : Rho) : List AEnt → List MapEntry → Prop
  | [], l => l = []
  | e :: es, l => ∃ x xs, l = x :: xs ∧ x.key = e.key ∧ x.born = e.born ∧ R ρ e.val x.val ∧ ER ρ es xs

def TgR (ρ : Rho) (t : Target) (cap : List AVal) (x : Target) : Prop :=
  match t with
  | .fn fn _ => (match fn with
    | .yield l => ∃ b, ρ l = some (Pl.obj b) ∧ x = .fn (.yield b) #[] ∧ cap = []
    | fn => ∃ cap', x = .fn fn cap' ∧ RL ρ cap cap'.toList)
  | .builtin b ats _ _ => ∃ ty cs, x = .builtin b ats ty cs
  | .nil => x = .nil
  | _ => False
def DR (ρ : Rho) (d : ADef) (x : Deferred) : Prop :=
  match d.coll with
  | some r => ∃ b, ρ r = some (Pl.obj b) ∧ x = { target := .collected b, args := #[] }
  | none => RL ρ d.args x.args.toList ∧ TgR ρ d.target d.cap x.target
def DsR (ρ : Rho) : List ADef → List Deferred → Prop
  | [], l => l = []
  | d :: ds, l => ∃ x xs, l = x :: xs ∧ DR ρ d x ∧ DsR ρ ds xs

structure LoopR (ρ : Rho) (l : ALoop) (x : Loop) : Prop where
  state : x.state = l.state
  pending : x.pending = l.pending
  fn : x.fn = l.fn
  size : x.tmps.size = l.nt
  tmps : TR ρ l.tmps x.tmps
  params : x.params.toList = l.params
  assign : x.assign = l.assign
  body : x.body = l.body
  defers : ρ l.defers = some (Pl.obj x.defers)

/-- an object against a block; 'B': the first new block -/
def OR (ρ : Rho) (B : Nat) (p : Pl) (o : Option Obj) : AObj → Prop
  | .row e cells _ _ => B ≤ p.b ∧ p.q = e.2 ∧ ∃ cs lo hi, o = some (.cells cs e.1 (lo, hi)) ∧ cs.size = p.z ∧ CR ρ cells cs p.s ∧ Clear lo hi p.z
  | .ro cells => p.b < B ∧ ∃ cs e fz, o = some (.cells cs e fz) ∧ CR ρ cells cs p.s
  | .map es clock => B ≤ p.b ∧ p = Pl.obj p.b ∧ ∃ es', o = some (.map es' clock) ∧ ER ρ es es'.toList
  | .loop l => B ≤ p.b ∧ p = Pl.obj p.b ∧ ∃ x, o = some (.loop x) ∧ LoopR ρ l x
  | .deferred none => B ≤ p.b ∧ p = Pl.obj p.b ∧ o = some (.deferred none)
  | .deferred (some ds) => B ≤ p.b ∧ p = Pl.obj p.b ∧ ∃ xs, o = some (.deferred (some xs)) ∧ DsR ρ ds xs
  | .mapIter none since seen st => B ≤ p.b ∧ p = Pl.obj p.b ∧ o = some (.mapIter none since seen.toArray st)
  | .mapIter (some q) since seen st => B ≤ p.b ∧ p = Pl.obj p.b ∧ ∃ c, ρ q = some (Pl.obj c) ∧ o = some (.mapIter (some c) since seen.toArray st)
  | .strIter t pos => B ≤ p.b ∧ p = Pl.obj p.b ∧ o = some (.stringIter t pos)

theorem CR.mono {ρ ρ' : Rho} (h : ρ.le ρ') {cells : List AVal} {cs : Array Value} {s : Nat} (c : CR ρ cells cs s) : CR ρ' cells cs s :=
  fun i v e => let ⟨x, h1, h2⟩ := c i v e; ⟨x, h1, R.mono h _ _ h2⟩
theorem TR.mono {ρ ρ' : Rho} (h : ρ.le ρ') {t : T AVal} {a : Array Value} (c : TR ρ t a) : TR ρ' t a := fun i => R.mono h _ _ (c i)
theorem ER.mono {ρ ρ' : Rho} (h : ρ.le ρ') : ∀ {es : List AEnt} {l : List MapEntry}, ER ρ es l → ER ρ' es l
  | [], l, e => e
  | a :: es, l, e => by
    obtain ⟨x, xs, h1, h2, h3, h4, h5⟩ := e
    exact ⟨x, xs, h1, h2, h3, R.mono h _ _ h4, ER.mono h h5⟩
theorem TgR.mono {ρ ρ' : Rho} (h : ρ.le ρ') {t : Target} {cap : List AVal} {x : Target} (c : TgR ρ t cap x) : TgR ρ' t cap x := by
  unfold TgR at c ⊢
  split at c
  · split at c
    · obtain ⟨b, h1, h2⟩ := c; exact ⟨b, h _ _ h1, h2⟩
    · obtain ⟨cap', h1, h2⟩ := c; exact ⟨cap', h1, RL.mono h _ _ h2⟩
  · exact c
  · exact c
  · exact c
theorem DR.mono {ρ ρ' : Rho} (h : ρ.le ρ') {d : ADef} {x : Deferred} (c : DR ρ d x) : DR ρ' d x := by
  unfold DR at c ⊢
  split at c
  · obtain ⟨b, h1, h2⟩ := c; exact ⟨b, h _ _ h1, h2⟩
  · exact ⟨RL.mono h _ _ c.1, c.2.mono h⟩
theorem DsR.mono {ρ ρ' : Rho} (h : ρ.le ρ') : ∀ {ds : List ADef} {l : List Deferred}, DsR ρ ds l → DsR ρ' ds l
  | [], l, e => e
  | a :: es, l, e => by
    obtain ⟨x, xs, h1, h2, h3⟩ := e
    exact ⟨x, xs, h1, h2.mono h, DsR.mono h h3⟩
theorem LoopR.mono {ρ ρ' : Rho} (h : ρ.le ρ') {l : ALoop} {x : Loop} (c : LoopR ρ l x) : LoopR ρ' l x :=
  { c with tmps := c.tmps.mono h, defers := h _ _ c.defers }
theorem OR.mono {ρ ρ' : Rho} (h : ρ.le ρ') {B : Nat} {p : Pl} {o : Option Obj} {a : AObj} (c : OR ρ B p o a) : OR ρ' B p o a := by
  unfold OR at c ⊢
  split at c
  · obtain ⟨h0, hq, cs, lo, hi, h1, hz, h2, h3⟩ := c; exact ⟨h0, hq, cs, lo, hi, h1, hz, h2.mono h, h3⟩
  · obtain ⟨h0, cs, e, fz, h1, h2⟩ := c; exact ⟨h0, cs, e, fz, h1, h2.mono h⟩
  · obtain ⟨h0, h1, es, h2, h3⟩ := c; exact ⟨h0, h1, es, h2, h3.mono h⟩
  · obtain ⟨h0, h1, x, h2, h3⟩ := c; exact ⟨h0, h1, x, h2, h3.mono h⟩
  · exact c
  · obtain ⟨h0, h1, x, h2, h3⟩ := c; exact ⟨h0, h1, x, h2, h3.mono h⟩
  · exact c
  · obtain ⟨h0, h1, x, h2, h3⟩ := c; exact ⟨h0, h1, x, h _ _ h2, h3⟩
  · exact c

/-- two objects that may lie in one block -/
def Kin2 (o o' : AObj) (s s' : Nat) : Prop :=
  match o, o' with
  | .row _ _ f p, .row _ _ f' p' => f = f' ∧ s + p' = s' + p
  | .ro _, .ro _ => True
  | _, _ => False

/-- the world in which the run began, and numbers of objects that nothing places -/
structure Wo where
  w : World
  N : Nat → Prop

/-- MEMORY AGAINST A WORLD. w0: the world in which the run began; B: its first new block. -/
structure MR (w0 : Wo) (B : Nat) (ρ : Rho) (m : Mem) (w : World) : Prop where
  obj : ∀ r o p, m.heap.get r = some o → ρ r = some p → OR ρ B p (w.heap[p.b]?) o
  inj : ∀ r r' o o' p p', r ≠ r' → m.heap.get r = some o → m.heap.get r' = some o' → ρ r = some p → ρ r' = some p' → p.b = p'.b → Kin2 o o' p.s p'.s
  dom : ∀ r, m.next ≤ r → ρ r = none
  hdom : ∀ r, m.next ≤ r → m.heap.get r = none
  famlt : ∀ f l, m.fams.get f = some l → f < m.next
  rowfam : ∀ r e cs f p, m.heap.get r = some (.row e cs f p) → f < m.next
  fam : ∀ r e cs f p l, m.heap.get r = some (.row e cs f p) → m.fams.get f = some l → r ∈ l
  lone : ∀ r r' e e' cs cs' f p p', m.heap.get r = some (.row e cs f p) → m.heap.get r' = some (.row e' cs' f p') → m.fams.get f = none → r = r'
  below : Below B w0.w w
  base : B ≤ w0.w.heap.size
  ban : ∀ r, w0.N r → r < m.next ∧ ρ r = none

theorem MR.size {w0 : Wo} {B : Nat} {ρ : Rho} {m : Mem} {w : World} (h : MR w0 B ρ m w) : B ≤ w.heap.size := Nat.le_trans h.base h.below.size
end Go.Abs
