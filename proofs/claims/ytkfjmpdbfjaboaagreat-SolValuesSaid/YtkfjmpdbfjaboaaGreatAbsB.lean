/- An executor whose runs hold in every world: a part of it and of what is proved of it. -/
import Derived.Test.YtkfjmpdbfjaboaaGreatAbsA
import Derived.Below
namespace Go.Abs
open Go
theorem bitsF_zero (k : Nat) : bitsF 0 k = [] := rfl
theorem bitsF_succ (f k : Nat) : bitsF (f + 1) k = bif k.beq 0 then [] else d4 ((k.sub 1).mod 4) :: bitsF f ((k.sub 1).div 4) := rfl
def und4 : D4 → Nat
 | .q0 => 0
 | .q1 => 1
 | .q2 => 2
 | .q3 => 3
theorem und4_d4 (n : Nat) (h : n < 4) : und4 (d4 n) = n := by
 have : n = 0 ∨ n = 1 ∨ n = 2 ∨ n = 3 := by omega
 rcases this with rfl | rfl | rfl | rfl <;> rfl
def unbits : List D4 → Nat
 | [] => 0
 | b :: p => 4 * unbits p + und4 b + 1
theorem unbits_bitsF : ∀ (f k : Nat), k ≤ f → unbits (bitsF f k) = k := by
 intro f
 induction f with
 | zero => intro k h; simp [bitsF_zero, unbits]; omega
 | succ f ih =>
  intro k h
  rw [bitsF_succ]
  cases k with
  | zero => rfl
  | succ k =>
   have h1 : (k + 1).beq 0 = false := rfl
   rw [h1]
   simp only [cond_false, unbits]
   have h2 : ((k + 1).sub 1).div 4 = k / 4 := rfl
   have h3 : ((k + 1).sub 1).mod 4 = k % 4 := rfl
   rw [h2, h3, ih (k / 4) (by omega), und4_d4 _ (Nat.mod_lt _ (by omega))]
   omega
theorem unbits_bits (k : Nat) : unbits (bits k) = k := unbits_bitsF k k (Nat.le_refl _)
theorem bits_inj {a b : Nat} (h : bits a = bits b) : a = b := by rw [← unbits_bits a, ← unbits_bits b, h]
section
variable {α : Type}
theorem T.getB_e (p : List D4) : (T.e : T α).getB p = none := rfl
theorem T.getB_n_nil (a b c d : T α) (v : Option α) : (T.n a b c d v).getB [] = v := rfl
theorem T.getB_n_cons (a b c d : T α) (v : Option α) (x : D4) (p : List D4) : (T.n a b c d v).getB (x :: p) = match x with | .q0 => a.getB p | .q1 => b.getB p | .q2 => c.getB p | .q3 => d.getB p := by cases x <;> rfl
theorem T.setB_nil_e (x : α) : T.setB x [] (T.e : T α) = .n .e .e .e .e (some x) := rfl
theorem T.setB_nil_n (x : α) (a b c d : T α) (v : Option α) : T.setB x [] (T.n a b c d v) = .n a b c d (some x) := rfl
theorem T.setB_cons_e (x : α) (y : D4) (p : List D4) : T.setB x (y :: p) (T.e : T α) = match y with
  | .q0 => .n (T.setB x p .e) .e .e .e none | .q1 => .n .e (T.setB x p .e) .e .e none | .q2 => .n .e .e (T.setB x p .e) .e none | .q3 => .n .e .e .e (T.setB x p .e) none := by cases y <;> rfl
theorem T.setB_cons_n (x : α) (y : D4) (p : List D4) (a b c d : T α) (v : Option α) : T.setB x (y :: p) (T.n a b c d v) = match y with
  | .q0 => .n (T.setB x p a) b c d v | .q1 => .n a (T.setB x p b) c d v | .q2 => .n a b (T.setB x p c) d v | .q3 => .n a b c (T.setB x p d) v := by cases y <;> rfl
theorem T.getB_setB_same (x : α) : ∀ (p : List D4) (t : T α), (T.setB x p t).getB p = some x := by
 intro p
 induction p with
 | nil => intro t; cases t <;> rfl
 | cons b p ih =>
  intro t
  cases t with
  | e => rw [T.setB_cons_e]; cases b <;> simp [T.getB_n_cons, ih]
  | n => rw [T.setB_cons_n]; cases b <;> simp [T.getB_n_cons, ih]
theorem T.getB_setB_other (x : α) : ∀ (p q : List D4) (t : T α), p ≠ q → (T.setB x p t).getB q = t.getB q := by
 intro p
 induction p with
 | nil =>
  intro q t h
  cases q with
  | nil => exact absurd rfl h
  | cons b q => cases t <;> cases b <;> simp [T.setB_nil_e, T.setB_nil_n, T.getB_n_cons, T.getB_e]
 | cons b p ih =>
  intro q t h
  cases q with
  | nil => cases t <;> cases b <;> simp [T.setB_cons_e, T.setB_cons_n, T.getB_n_nil, T.getB_e]
  | cons c q =>
   by_cases hb : b = c
   ·subst hb
    have hp : p ≠ q := fun e => h (by rw [e])
    cases t <;> cases b <;> simp [T.setB_cons_e, T.setB_cons_n, T.getB_n_cons, ih _ _ hp, T.getB_e]
   ·cases t <;> cases b <;> cases c <;> simp_all [T.setB_cons_e, T.setB_cons_n, T.getB_n_cons, T.getB_e]
theorem T.get_e (k : Nat) : (T.e : T α).get k = none := T.getB_e _
theorem T.get_set_same (t : T α) (k : Nat) (x : α) : (t.set k x).get k = some x := T.getB_setB_same _ _ _
theorem T.get_set_other (t : T α) {k j : Nat} (x : α) (h : k ≠ j) : (t.set k x).get j = t.get j :=
 T.getB_setB_other _ _ _ _ fun e => h (bits_inj e)
theorem T.get_set (t : T α) (k j : Nat) (x : α) : (t.set k x).get j = if k = j then some x else t.get j := by
 by_cases h : k = j
 ·subst h; simp [T.get_set_same]
 ·simp [h, T.get_set_other t x h]
end
theorem mapL_eq {α β : Type} (f : α → β) (l : List α) : mapL f l = l.map f := by
 induction l with
 | nil => rfl
 | cons x l ih => show f x :: mapL f l = _; rw [ih]; rfl
theorem appL_eq {α : Type} (a b : List α) : appL a b = a ++ b := by
 induction a with
 | nil => rfl
 | cons x a ih => show x :: appL a b = _; rw [ih]; rfl
theorem lenL_eq {α : Type} (l : List α) : lenL l = l.length := by
 induction l with
 | nil => rfl
 | cons x l ih => show (lenL l).succ = _; rw [ih]; rfl
theorem getO_eq {α : Type} (l : List α) : ∀ n, getO l n = l[n]? := by
 induction l with
 | nil => intro n; rfl
 | cons x l ih =>
  intro n
  show (bif n.beq 0 then some x else getO l (n.sub 1)) = _
  cases n with
  | zero => rfl
  | succ n => show getO l n = _; rw [ih]; rfl
theorem dropN_eq {α : Type} : ∀ (n : Nat) (l : List α), dropN l n = l.drop n := by
 intro n
 induction n with
 | zero => intro l; rfl
 | succ n ih =>
  intro l
  cases l with
  | nil => rfl
  | cons x l => show dropN l n = _; rw [ih]; rfl
theorem repL_zero (z : List AVal) : repL z 0 = [] := rfl
theorem repL_succ (z : List AVal) (n : Nat) : repL z (n + 1) = z ++ repL z n := by show appL z (repL z n) = _; rw [appL_eq]
theorem isNil_eq {α : Type} (l : List α) : isNil l = l.isEmpty := by cases l <;> rfl
theorem hasN_eq (l : List Nat) (k : Nat) : hasN l k = l.contains k := by
 induction l with
 | nil => rfl
 | cons x l ih =>
  show (bif x.beq k then true else hasN l k) = _
  rw [ih, List.contains_cons]
  by_cases h : x = k
  ·subst h; simp
  ·have : x.beq k = false := by rw [← Bool.not_eq_true]; simpa using h
   have h2 : (k == x) = false := by simp; exact fun e => h e.symm
   rw [this, h2]; rfl
theorem fltL_eq {α : Type} (p : α → Bool) (l : List α) : fltL p l = l.filter p := by
 induction l with
 | nil => rfl
 | cons x l ih =>
  show (bif p x then x :: fltL p l else fltL p l) = _
  rw [ih, List.filter_cons]
  cases p x <;> rfl
theorem lastO_eq (l : List Nat) : lastO l = l.getLast? := by
 induction l with
 | nil => rfl
 | cons x l ih =>
  show some (match lastO l with | some y => y | none => x) = _
  rw [ih]
  cases l with
  | nil => rfl
  | cons y l =>
   rw [List.getLast?_cons_cons]
   cases h : (y :: l).getLast? with
   | none => simp at h
   | some z => rfl
theorem entFind_eq (b : Nat) (es : List AEnt) : entFind b es = es.find? (·.born == b) := by
 induction es with
 | nil => rfl
 | cons e es ih =>
  show (bif e.born.beq b then some e else entFind b es) = _
  rw [ih, List.find?_cons]
  show _ = match e.born == b with | true => _ | false => _
  have : e.born.beq b = (e.born == b) := by
   rw [Bool.eq_iff_iff]; simp
  rw [this]
  cases e.born == b <;> rfl
theorem nat_beq {a b : Nat} : a.beq b = true ↔ a = b := by simp
theorem nat_ble {a b : Nat} : a.ble b = true ↔ a ≤ b := by simp
theorem nat_beq_f {a b : Nat} : a.beq b = false ↔ a ≠ b := by rw [← Bool.not_eq_true, nat_beq]
theorem nat_ble_f {a b : Nat} : a.ble b = false ↔ b < a := by rw [← Bool.not_eq_true, nat_ble]; omega
theorem getT_set (t : T AVal) (k j : Nat) (v : AVal) : getT (t.set k v) j = if k = j then v else getT t j := by
 unfold getT
 rw [T.get_set]
 by_cases h : k = j <;> simp [h]
open Go.RowKit (Below)
structure Pl where
 b : Nat
 s : Nat
 z : Nat
 q : Nat
def Pl.obj (b : Nat) : Pl := ⟨b, 0, 0, 0⟩
abbrev Rho := Nat → Option Pl
def Rho.le (ρ ρ' : Rho) : Prop := ∀ r p, ρ r = some p → ρ' r = some p
theorem Rho.le.refl (ρ : Rho) : ρ.le ρ := fun _ _ h => h
theorem Rho.le.trans {a b c : Rho} (h : a.le b) (k : b.le c) : a.le c := fun r p e => k r p (h r p e)
def Rho.add (ρ : Rho) (r : Nat) (p : Pl) : Rho := fun q => if q = r then some p else ρ q
theorem Rho.le_add {ρ : Rho} {r : Nat} {a : Pl} (h : ρ r = none) : ρ.le (ρ.add r a) := by
 intro q p e
 unfold Rho.add
 by_cases hq : q = r
 ·subst hq; rw [h] at e; cases e
 ·rw [if_neg hq]; exact e
theorem Rho.add_same (ρ : Rho) (r : Nat) (a : Pl) : ρ.add r a r = some a := by simp [Rho.add]
theorem Rho.add_other (ρ : Rho) {r q : Nat} (a : Pl) (h : q ≠ r) : ρ.add r a q = ρ q := by simp [Rho.add, h]
mutual
def R (ρ : Rho) : AVal → Value → Prop
 | .lit v, x => x = v
 | .poison, _ => True
 | .ptr r off, x => ∃ p, ρ r = some p ∧ x = .pointer (some ⟨p.b, off + p.s, none⟩)
 | .slice r off n c ex, x => ∃ p c', ρ r = some p ∧ c ≤ c' ∧ (ex = true → c' = c) ∧ (ex = false → off + p.s + c' * p.q ≤ p.z) ∧ x = .slice (some ⟨p.b, off + p.s, none⟩) n c'
 | .emptyS, x => ∃ a c', x = .slice (some a) 0 c'
 | .map r, x => ∃ b, ρ r = some (Pl.obj b) ∧ x = .map (some b)
 | .func fn f c, x => isYield fn = false ∧ ∃ f' c', x = .func fn f' c' ∧ RL ρ f f'.toList ∧ RL ρ c c'.toList
 | .yield l, x => ∃ b, ρ l = some (Pl.obj b) ∧ x = .func (.yield b) #[] #[]
 | .iface t v, x => ∃ y, x = .iface t y ∧ R ρ v y
 | .agg l, x => ∃ cs, x = .agg cs ∧ RL ρ l cs.toList
 | .tuple l, x => ∃ cs, x = .tuple cs ∧ RL ρ l cs.toList
def RL (ρ : Rho) : List AVal → List Value → Prop
 | [], l => l = []
 | v :: vs, l => ∃ x xs, l = x :: xs ∧ R ρ v x ∧ RL ρ vs xs
end
mutual
theorem R.mono {ρ ρ' : Rho} (h : ρ.le ρ') : ∀ (v : AVal) (x : Value), R ρ v x → R ρ' v x
 | .lit v, x, e => by simpa [R] using e
 | .poison, x, e => by simp [R]
 | .ptr r off, x, e => by
  simp only [R] at e ⊢
  obtain ⟨p, h1, h2⟩ := e
  exact ⟨p, h _ _ h1, h2⟩
 | .emptyS, x, e => by simpa [R] using e
 | .slice r off n c ex, x, e => by
  simp only [R] at e ⊢
  obtain ⟨p, c', h1, h2⟩ := e
  exact ⟨p, c', h _ _ h1, h2⟩
 | .map r, x, e => by
  simp only [R] at e ⊢
  obtain ⟨b, h1, h2⟩ := e
  exact ⟨b, h _ _ h1, h2⟩
 | .func fn f c, x, e => by
  simp only [R] at e ⊢
  obtain ⟨h0, f', c', h1, h2, h3⟩ := e
  exact ⟨h0, f', c', h1, RL.mono h f _ h2, RL.mono h c _ h3⟩
 | .yield l, x, e => by
  simp only [R] at e ⊢
  obtain ⟨b, h1, h2⟩ := e
  exact ⟨b, h _ _ h1, h2⟩
 | .iface t v, x, e => by
  simp only [R] at e ⊢
  obtain ⟨y, h1, h2⟩ := e
  exact ⟨y, h1, R.mono h v _ h2⟩
 | .agg l, x, e => by
  simp only [R] at e ⊢
  obtain ⟨cs, h1, h2⟩ := e
  exact ⟨cs, h1, RL.mono h l _ h2⟩
 | .tuple l, x, e => by
  simp only [R] at e ⊢
  obtain ⟨cs, h1, h2⟩ := e
  exact ⟨cs, h1, RL.mono h l _ h2⟩
theorem RL.mono {ρ ρ' : Rho} (h : ρ.le ρ') : ∀ (v : List AVal) (x : List Value), RL ρ v x → RL ρ' v x
 | [], x, e => by simpa [RL] using e
 | v :: vs, x, e => by
  simp only [RL] at e ⊢
  obtain ⟨y, ys, h1, h2, h3⟩ := e
  exact ⟨y, ys, h1, R.mono h v _ h2, RL.mono h vs _ h3⟩
end
theorem RL.length {ρ : Rho} : ∀ {l : List AVal} {x : List Value}, RL ρ l x → l.length = x.length
 | [], x, h => by simp only [RL] at h; simp [h]
 | v :: vs, x, h => by
  simp only [RL] at h
  obtain ⟨y, ys, rfl, _, h3⟩ := h
  simp [RL.length h3]
theorem RL.get {ρ : Rho} : ∀ {l : List AVal} {x : List Value}, RL ρ l x → ∀ {i : Nat} {v : AVal}, l[i]? = some v → ∃ y, x[i]? = some y ∧ R ρ v y
 | [], x, h, i, v, e => by simp at e
 | a :: vs, x, h, i, v, e => by
  simp only [RL] at h
  obtain ⟨y, ys, rfl, h2, h3⟩ := h
  cases i with
  | zero => simp only [List.getElem?_cons_zero, Option.some.injEq] at e ⊢; subst e; exact ⟨y, rfl, h2⟩
  | succ i => simp only [List.getElem?_cons_succ] at e ⊢; exact RL.get h3 e
theorem RL.append {ρ : Rho} : ∀ {l : List AVal} {x : List Value} {l' : List AVal} {x' : List Value}, RL ρ l x → RL ρ l' x' → RL ρ (l ++ l') (x ++ x')
 | [], x, _, _, h, h' => by simp only [RL] at h; subst h; simpa using h'
 | a :: vs, x, _, _, h, h' => by
  simp only [RL] at h
  obtain ⟨y, ys, rfl, h2, h3⟩ := h
  simp only [List.cons_append, RL]
  exact ⟨y, _, rfl, h2, RL.append h3 h'⟩
theorem RL.of_get {ρ : Rho} : ∀ {l : List AVal} {x : List Value}, l.length = x.length → (∀ (i : Nat) (v : AVal), l[i]? = some v → ∃ y, x[i]? = some y ∧ R ρ v y) → RL ρ l x
 | [], x, hl, _ => by simp only [RL]; exact List.length_eq_zero_iff.1 hl.symm
 | a :: vs, [], hl, _ => by simp at hl
 | a :: vs, y :: ys, hl, h => by
  simp only [RL]
  refine ⟨y, ys, rfl, ?_, RL.of_get (by simpa using hl) fun i v e => ?_⟩
  ·obtain ⟨z, h1, h2⟩ := h 0 a rfl
   simp only [List.getElem?_cons_zero, Option.some.injEq] at h1
   subst h1; exact h2
  ·exact h (i + 1) v e
theorem RL.lits {ρ : Rho} (l : List Value) : RL ρ (l.map .lit) l := by
 induction l with
 | nil => simp [RL]
 | cons x l ih => simp only [List.map_cons, RL]; exact ⟨x, l, rfl, by simp [R], ih⟩
theorem RL.map_of {ρ : Rho} {α : Type} (f : α → AVal) (g : α → Value) (l : List α) (h : ∀ a, a ∈ l → R ρ (f a) (g a)) : RL ρ (l.map f) (l.map g) := by
 induction l with
 | nil => simp [RL]
 | cons x l ih =>
  simp only [List.map_cons, RL]
  exact ⟨_, _, rfl, h x (by simp), ih fun a ha => h a (by simp [ha])⟩
mutual
theorem R.of_toLit {ρ : Rho} : ∀ (v : AVal) (x y : Value), R ρ v x → v.toLit = some y → x = y
 | .lit v, x, y, h, e => by simp only [R] at h; simp only [AVal.toLit, Option.some.injEq] at e; rw [h, e]
 | .agg l, x, y, h, e => by
  simp only [R] at h
  obtain ⟨cs, rfl, h2⟩ := h
  simp only [AVal.toLit, Option.map_eq_some_iff] at e
  obtain ⟨vs, h3, rfl⟩ := e
  rw [← RL.of_toLits l _ _ h2 h3]
 | .tuple l, x, y, h, e => by
  simp only [R] at h
  obtain ⟨cs, rfl, h2⟩ := h
  simp only [AVal.toLit, Option.map_eq_some_iff] at e
  obtain ⟨vs, h3, rfl⟩ := e
  rw [← RL.of_toLits l _ _ h2 h3]
 | .iface t v, x, y, h, e => by
  simp only [R] at h
  obtain ⟨z, rfl, h2⟩ := h
  simp only [AVal.toLit, Option.map_eq_some_iff] at e
  obtain ⟨u, h3, rfl⟩ := e
  rw [R.of_toLit v _ _ h2 h3]
 | .poison, _, _, _, e => by simp [AVal.toLit] at e
 | .ptr _ _, _, _, _, e => by simp [AVal.toLit] at e
 | .slice .., _, _, _, e => by simp [AVal.toLit] at e
 | .emptyS, _, _, _, e => by simp [AVal.toLit] at e
 | .map _, _, _, _, e => by simp [AVal.toLit] at e
 | .func .., _, _, _, e => by simp [AVal.toLit] at e
 | .yield _, _, _, _, e => by simp [AVal.toLit] at e
theorem RL.of_toLits {ρ : Rho} : ∀ (l : List AVal) (x y : List Value), RL ρ l x → toLits l = some y → x = y
 | [], x, y, h, e => by simp only [RL] at h; simp only [toLits, Option.some.injEq] at e; rw [h, e]
 | v :: vs, x, y, h, e => by
  simp only [RL] at h
  obtain ⟨z, zs, rfl, h2, h3⟩ := h
  simp only [toLits] at e
  cases hv : v.toLit with
  | none => rw [hv] at e; simp at e
  | some u =>
   rw [hv] at e
   simp only [Option.map_eq_some_iff] at e
   obtain ⟨us, h4, rfl⟩ := e
   rw [R.of_toLit v _ _ h2 hv, RL.of_toLits vs _ _ h3 h4]
end
theorem R.of_litOf {ρ : Rho} {v : AVal} {x y : Value} (h : R ρ v x) (e : litOf v = some y) : x = y := by
 unfold litOf at e
 split at e
 ·simp only [R] at h; simp only [Option.some.injEq] at e; rw [h, e]
 ·exact R.of_toLit v x y h e
theorem R.cells {ρ : Rho} {v : AVal} {x : Value} (h : R ρ v x) (hp : isPoison v = false) : RL ρ v.cells x.cells.toList := by
 cases v with
 | lit v =>
  simp only [R] at h
  subst h
  cases x <;> first
   | (simp only [AVal.cells, Value.cells, RL]; exact ⟨_, _, rfl, by simp [R], rfl⟩)
   | (simp only [AVal.cells, Value.cells, mapL_eq]; exact RL.lits _)
 | poison => simp [isPoison] at hp
 | ptr r off => simp only [R] at h; obtain ⟨p, h1, rfl⟩ := h; simp only [AVal.cells, Value.cells, RL]; exact ⟨_, _, rfl, by simp only [R]; exact ⟨p, h1, rfl⟩, rfl⟩
 | slice r off n c ex => simp only [R] at h; obtain ⟨p, c', h1, h2, h3, h4, rfl⟩ := h; simp only [AVal.cells, Value.cells, RL]; exact ⟨_, _, rfl, by simp only [R]; exact ⟨p, c', h1, h2, h3, h4, rfl⟩, rfl⟩
 | emptyS => simp only [R] at h; obtain ⟨a, c', rfl⟩ := h; simp only [AVal.cells, Value.cells, RL]; exact ⟨_, _, rfl, by simp only [R]; exact ⟨a, c', rfl⟩, rfl⟩
 | map r => simp only [R] at h; obtain ⟨b, h1, rfl⟩ := h; simp only [AVal.cells, Value.cells, RL]; exact ⟨_, _, rfl, by simp only [R]; exact ⟨b, h1, rfl⟩, rfl⟩
 | func fn f c => simp only [R] at h; obtain ⟨h0, f', c', rfl, h2⟩ := h; simp only [AVal.cells, Value.cells, RL]; exact ⟨_, _, rfl, by simp only [R]; exact ⟨h0, f', c', rfl, h2⟩, rfl⟩
 | yield l => simp only [R] at h; obtain ⟨b, h1, rfl⟩ := h; simp only [AVal.cells, Value.cells, RL]; exact ⟨_, _, rfl, by simp only [R]; exact ⟨b, h1, rfl⟩, rfl⟩
 | iface t v => simp only [R] at h; obtain ⟨y, rfl, h2⟩ := h; simp only [AVal.cells, Value.cells, RL]; exact ⟨_, _, rfl, by simp only [R]; exact ⟨y, rfl, h2⟩, rfl⟩
 | agg l => simp only [R] at h; obtain ⟨cs, rfl, h2⟩ := h; simpa only [AVal.cells, Value.cells] using h2
 | tuple l => simp only [R] at h; obtain ⟨cs, rfl, h2⟩ := h; simp only [AVal.cells, Value.cells, RL]; exact ⟨_, _, rfl, by simp only [R]; exact ⟨cs, rfl, h2⟩, rfl⟩
def CR (ρ : Rho) (cells : List AVal) (cs : Array Value) (s : Nat) : Prop := ∀ i v, cells[i]? = some v → ∃ x, cs[i + s]? = some x ∧ R ρ v x
def Clear (lo hi z : Nat) : Prop := ∀ i, i < z → ¬ (lo ≤ i ∧ i < hi)
def ClearR (q lo hi z : Nat) : Prop := Clear lo hi z ∧ (q = 0 → Clear lo hi (z + 1))
def KR (ρ : Rho) (k x : Value) : Prop := match ptrKey k with
 | some (r, o) => ∃ p, ρ r = some p ∧ x = .pointer (some ⟨p.b, o + p.s, none⟩)
 | none => x = k
theorem KR.mono {ρ ρ' : Rho} (h : ρ.le ρ') {k x : Value} (c : KR ρ k x) : KR ρ' k x := by
 unfold KR at c ⊢
 split at c
 ·obtain ⟨p, h1, h2⟩ := c; exact ⟨p, h _ _ h1, h2⟩
 ·exact c
def TR (ρ : Rho) (t : T AVal) (a : Array Value) : Prop := ∀ i, R ρ (getT t i) (a.getD i undef)
def ER (ρ : Rho) : List AEnt → List MapEntry → Prop
 | [], l => l = []
 | e :: es, l => ∃ x xs, l = x :: xs ∧ KR ρ e.key x.key ∧ x.born = e.born ∧ R ρ e.val x.val ∧ ER ρ es xs
def TgR (ρ : Rho) (t : Target) (cap : List AVal) (x : Target) : Prop :=
 match t with
 | .fn fn _ => (match fn with
  | .yield l => ∃ b, ρ l = some (Pl.obj b) ∧ x = .fn (.yield b) #[] ∧ cap = []
  | fn => ∃ cap', x = .fn fn cap' ∧ RL ρ cap cap'.toList)
 | .builtin b ats _ _ => ∃ ty cs, x = .builtin b ats ty cs
 | .nil => x = .nil
 | _ => False
def DR (ρ : Rho) (d : ADef) (x : Deferred) : Prop :=
 match d.coll with
 | some r => ∃ b, ρ r = some (Pl.obj b) ∧ x = { target := .collected b, args := #[] }
 | none => RL ρ d.args x.args.toList ∧ TgR ρ d.target d.cap x.target
def DsR (ρ : Rho) : List ADef → List Deferred → Prop
 | [], l => l = []
 | d :: ds, l => ∃ x xs, l = x :: xs ∧ DR ρ d x ∧ DsR ρ ds xs
structure LoopR (ρ : Rho) (l : ALoop) (x : Loop) : Prop where
 state : x.state = l.state
 pending : x.pending = l.pending
 fn : x.fn = l.fn
 size : x.tmps.size = l.nt
 tmps : TR ρ l.tmps x.tmps
 params : x.params.toList = l.params
 assign : x.assign = l.assign
 body : x.body = l.body
 defers : ρ l.defers = some (Pl.obj x.defers)
def OR (ρ : Rho) (B : Nat) (p : Pl) (o : Option Obj) : AObj → Prop
 | .row e cells _ _ => B ≤ p.b ∧ p.q = e.2 ∧ ∃ cs lo hi, o = some (.cells cs e.1 (lo, hi)) ∧ cs.size = p.z ∧ CR ρ cells cs p.s ∧ ClearR e.2 lo hi p.z
 | .ro cells => True ∧ ∃ cs e fz, o = some (.cells cs e fz) ∧ CR ρ cells cs p.s
 | .map es clock => B ≤ p.b ∧ p = Pl.obj p.b ∧ ∃ es', o = some (.map es' clock) ∧ ER ρ es es'.toList
 | .loop l => B ≤ p.b ∧ p = Pl.obj p.b ∧ ∃ x, o = some (.loop x) ∧ LoopR ρ l x
 | .deferred none => B ≤ p.b ∧ p = Pl.obj p.b ∧ o = some (.deferred none)
 | .deferred (some ds) => B ≤ p.b ∧ p = Pl.obj p.b ∧ ∃ xs, o = some (.deferred (some xs)) ∧ DsR ρ ds xs
 | .mapIter none since seen st => B ≤ p.b ∧ p = Pl.obj p.b ∧ o = some (.mapIter none since seen.toArray st)
 | .mapIter (some q) since seen st => B ≤ p.b ∧ p = Pl.obj p.b ∧ ∃ c, ρ q = some (Pl.obj c) ∧ o = some (.mapIter (some c) since seen.toArray st)
 | .strIter t pos => B ≤ p.b ∧ p = Pl.obj p.b ∧ o = some (.stringIter t pos)
theorem CR.mono {ρ ρ' : Rho} (h : ρ.le ρ') {cells : List AVal} {cs : Array Value} {s : Nat} (c : CR ρ cells cs s) : CR ρ' cells cs s :=
 fun i v e => let ⟨x, h1, h2⟩ := c i v e; ⟨x, h1, R.mono h _ _ h2⟩
theorem TR.mono {ρ ρ' : Rho} (h : ρ.le ρ') {t : T AVal} {a : Array Value} (c : TR ρ t a) : TR ρ' t a := fun i => R.mono h _ _ (c i)
theorem ER.mono {ρ ρ' : Rho} (h : ρ.le ρ') : ∀ {es : List AEnt} {l : List MapEntry}, ER ρ es l → ER ρ' es l
 | [], l, e => e
 | a :: es, l, e => by
  obtain ⟨x, xs, h1, h2, h3, h4, h5⟩ := e
  exact ⟨x, xs, h1, h2.mono h, h3, R.mono h _ _ h4, ER.mono h h5⟩
theorem TgR.mono {ρ ρ' : Rho} (h : ρ.le ρ') {t : Target} {cap : List AVal} {x : Target} (c : TgR ρ t cap x) : TgR ρ' t cap x := by
 unfold TgR at c ⊢
 split at c
 ·split at c
  ·obtain ⟨b, h1, h2⟩ := c; exact ⟨b, h _ _ h1, h2⟩
  ·obtain ⟨cap', h1, h2⟩ := c; exact ⟨cap', h1, RL.mono h _ _ h2⟩
 ·exact c
 ·exact c
 ·exact c
theorem DR.mono {ρ ρ' : Rho} (h : ρ.le ρ') {d : ADef} {x : Deferred} (c : DR ρ d x) : DR ρ' d x := by
 unfold DR at c ⊢
 split at c
 ·obtain ⟨b, h1, h2⟩ := c; exact ⟨b, h _ _ h1, h2⟩
 ·exact ⟨RL.mono h _ _ c.1, c.2.mono h⟩
theorem DsR.mono {ρ ρ' : Rho} (h : ρ.le ρ') : ∀ {ds : List ADef} {l : List Deferred}, DsR ρ ds l → DsR ρ' ds l
 | [], l, e => e
 | a :: es, l, e => by
  obtain ⟨x, xs, h1, h2, h3⟩ := e
  exact ⟨x, xs, h1, h2.mono h, DsR.mono h h3⟩
theorem LoopR.mono {ρ ρ' : Rho} (h : ρ.le ρ') {l : ALoop} {x : Loop} (c : LoopR ρ l x) : LoopR ρ' l x :=
 { c with tmps := c.tmps.mono h, defers := h _ _ c.defers }
theorem OR.mono {ρ ρ' : Rho} (h : ρ.le ρ') {B : Nat} {p : Pl} {o : Option Obj} {a : AObj} (c : OR ρ B p o a) : OR ρ' B p o a := by
 unfold OR at c ⊢
 split at c
 ·obtain ⟨h0, hq, cs, lo, hi, h1, hz, h2, h3⟩ := c; exact ⟨h0, hq, cs, lo, hi, h1, hz, h2.mono h, h3⟩
 ·obtain ⟨h0, cs, e, fz, h1, h2⟩ := c; exact ⟨h0, cs, e, fz, h1, h2.mono h⟩
 ·obtain ⟨h0, h1, es, h2, h3⟩ := c; exact ⟨h0, h1, es, h2, h3.mono h⟩
 ·obtain ⟨h0, h1, x, h2, h3⟩ := c; exact ⟨h0, h1, x, h2, h3.mono h⟩
 ·exact c
 ·obtain ⟨h0, h1, x, h2, h3⟩ := c; exact ⟨h0, h1, x, h2, h3.mono h⟩
 ·exact c
 ·obtain ⟨h0, h1, x, h2, h3⟩ := c; exact ⟨h0, h1, x, h _ _ h2, h3⟩
 ·exact c
def Kin2 (o o' : AObj) (s s' : Nat) : Prop :=
 match o, o' with
 | .row _ _ f p, .row _ _ f' p' => f = f' ∧ s + p' = s' + p
 | .ro _, .ro _ => True
 | _, _ => False
structure Wo where
 w : World
 N : Nat → Prop
structure MR (w0 : Wo) (B : Nat) (ρ : Rho) (m : Mem) (w : World) : Prop where
 obj : ∀ r o p, m.heap.get r = some o → ρ r = some p → OR ρ B p (w.heap[p.b]?) o
 inj : ∀ r r' o o' p p', r ≠ r' → m.heap.get r = some o → m.heap.get r' = some o' → ρ r = some p → ρ r' = some p' → p.b = p'.b → Kin2 o o' p.s p'.s
 dom : ∀ r, m.next ≤ r → ρ r = none
 hdom : ∀ r, m.next ≤ r → m.heap.get r = none
 famlt : ∀ f l, m.fams.get f = some l → f < m.next
 rowfam : ∀ r e cs f p, m.heap.get r = some (.row e cs f p) → f < m.next
 fam : ∀ r e cs f p l, m.heap.get r = some (.row e cs f p) → m.fams.get f = some l → r ∈ l
 lone : ∀ r r' e e' cs cs' f p p', m.heap.get r = some (.row e cs f p) → m.heap.get r' = some (.row e' cs' f p') → m.fams.get f = none → r = r'
 below : Below B w0.w w
 base : B ≤ w0.w.heap.size
 ban : ∀ r, w0.N r → r < m.next ∧ ρ r = none
 glob : ∀ g r, (g, r) ∈ m.gl → ∃ p, ρ r = some p ∧ p.b = g ∧ p.s = 0
theorem MR.size {w0 : Wo} {B : Nat} {ρ : Rho} {m : Mem} {w : World} (h : MR w0 B ρ m w) : B ≤ w.heap.size := Nat.le_trans h.base h.below.size
open Go.RowKit (Below)
def setBlk (w : World) (b : Nat) (o : Obj) : World := { w with heap := w.heap.setIfInBounds b o }
theorem setBlk_same {w : World} {b : Nat} {o x : Obj} (h : w.heap[b]? = some x) : (setBlk w b o).heap[b]? = some o := by
 have hb : b < w.heap.size := (Array.getElem?_eq_some_iff.1 h).1
 simp [setBlk, hb]
theorem setBlk_other {w : World} {b c : Nat} {o : Obj} (h : b ≠ c) : (setBlk w b o).heap[c]? = w.heap[c]? := by
 simp [setBlk, h]
theorem setBlk_setBlk (w : World) (b : Nat) (o o' : Obj) : setBlk (setBlk w b o) b o' = setBlk w b o' := by
 simp only [setBlk]
 congr 1
 apply Array.ext_getElem?
 intro i
 simp only [Array.getElem?_setIfInBounds]
 by_cases h : b = i <;> simp [h]
theorem setBlk_self {w : World} {b : Nat} {o : Obj} (h : w.heap[b]? = some o) : setBlk w b o = w := by
 have : w.heap.setIfInBounds b o = w.heap := by
  apply Array.ext_getElem?
  intro i
  have hb : b < w.heap.size := (Array.getElem?_eq_some_iff.1 h).1
  simp only [Array.getElem?_setIfInBounds]
  by_cases e : b = i
  ·subst e; rw [if_pos rfl, if_pos hb, h]
  ·rw [if_neg e]
 simp only [setBlk, this]
theorem below_setBlk {B : Nat} {a w : World} (h : Below B a w) {b : Nat} (hb : B ≤ b) (o : Obj) : Below B a (setBlk w b o) :=
 h.trans ⟨rfl, rfl, rfl, by simp [setBlk], fun k hk => setBlk_other (by omega)⟩
theorem alloc_old {w : World} {o : Obj} {k : Nat} (h : k < w.heap.size) : (w.alloc o).heap[k]? = w.heap[k]? := Below.heap_alloc w o k h
theorem alloc_new (w : World) (o : Obj) : (w.alloc o).heap[w.heap.size]? = some o := by
 show (w.heap.push o)[w.heap.size]? = _
 rw [Array.getElem?_push, if_pos rfl]
theorem run_load {P : Program} {w : World} {a : Addr} {v : Value} (h : w.cell? a = some v) : (load a).run P w = .ok v w := by
 simp [load, Sem.run, h]
theorem add_addr (b o i : Nat) : Addr.add ⟨b, o, none⟩ i = ⟨b, o + i, none⟩ := by
 unfold Addr.add
 by_cases h : i = 0 <;> simp [h]
theorem cell_of {w : World} {b i : Nat} {cs : Array Value} {e : TypeId} {fz : Nat × Nat} (h : w.heap[b]? = some (.cells cs e fz)) : w.cell? ⟨b, i, none⟩ = cs[i]? := by
 simp [World.cell?, h]
theorem run_bind {α β : Type} {P : Program} (s : Sem α) (f : α → Sem β) (w : World) :
  (s >>= f).run P w = match s.run P w with | .ok a w' => (f a).run P w' | .halt h w' => .halt h w' := by
 rw [Sem.run_bind]
 cases s.run P w <;> rfl
theorem run_pure {α : Type} {P : Program} (a : α) (w : World) : (pure a : Sem α).run P w = .ok a w := rfl
theorem run_loadCellsFrom {P : Program} {w : World} {b o : Nat} : ∀ (n i : Nat) (xs : List Value) (acc : Array Value), xs.length = n →
  (∀ j x, xs[j]? = some x → w.cell? ⟨b, o + i + j, none⟩ = some x) → (loadCellsFrom ⟨b, o, none⟩ i n acc).run P w = .ok (acc ++ xs.toArray) w := by
 intro n
 induction n with
 | zero =>
  intro i xs acc hl _
  obtain rfl : xs = [] := List.length_eq_zero_iff.1 hl
  simp [loadCellsFrom]
 | succ n ih =>
  intro i xs acc hl h
  cases xs with
  | nil => simp at hl
  | cons x xs =>
   have h0 := h 0 x rfl
   simp only [loadCellsFrom, run_bind, add_addr]
   rw [Nat.add_zero] at h0
   rw [run_load h0]
   simp only
   rw [ih (i + 1) xs (acc.push x) (by simpa using hl) fun j y e => by
    have := h (j + 1) y (by simpa using e)
    rw [show o + (i + 1) + j = o + i + (j + 1) from by omega]; exact this]
   simp
theorem run_loadCells {P : Program} {w : World} {b o n : Nat} (xs : List Value) (hl : xs.length = n)
  (h : ∀ j x, xs[j]? = some x → w.cell? ⟨b, o + j, none⟩ = some x) : (loadCells ⟨b, o, none⟩ n).run P w = .ok xs.toArray w := by
 unfold loadCells
 rw [run_loadCellsFrom n 0 xs #[] hl (by simpa using h)]
 simp
def OneV : Value → Prop
 | .agg _ => False
 | .tuple _ => False
 | _ => True
theorem run_store {P : Program} {w : World} {b o : Nat} {v : Value} {cs : Array Value} {e : TypeId} {lo hi : Nat} (hv : OneV v) (h : w.heap[b]? = some (.cells cs e (lo, hi)))
  (ho : o < cs.size) (hf : ¬ (lo ≤ o ∧ o < hi)) : (store ⟨b, o, none⟩ v).run P w = .ok () (setBlk w b (.cells (cs.setIfInBounds o v) e (lo, hi))) := by
 have hc : w.cell? ⟨b, o, none⟩ = some cs[o] := by rw [cell_of h]; simp [ho]
 have hz : w.frozen? ⟨b, o, none⟩ = false := by
  simp only [World.frozen?, h]
  simp
  omega
 have hs : w.setCell ⟨b, o, none⟩ v = setBlk w b (.cells (cs.setIfInBounds o v) e (lo, hi)) := by
  simp only [World.setCell, setBlk]
  congr 1
  apply Array.ext_getElem?
  intro i
  simp only [Array.getElem?_modify, Array.getElem?_setIfInBounds]
  have hb : b < w.heap.size := (Array.getElem?_eq_some_iff.1 h).1
  by_cases hi : b = i
  ·subst hi; rw [if_pos rfl, if_pos rfl, if_pos hb, h]; rfl
  ·rw [if_neg hi, if_neg hi]
 cases v <;> first
  | exact hv.elim
  | (simp only [store, Sem.run, hc, hz, Bool.false_eq_true, if_false, hs])
theorem run_storeCells {P : Program} {b o : Nat} {e : TypeId} {lo hi : Nat} : ∀ (vs : List Value) (i : Nat) (w : World) (cs : Array Value),
  w.heap[b]? = some (.cells cs e (lo, hi)) → o + i + vs.length ≤ cs.size → Clear lo hi cs.size → (∀ v ∈ vs, OneV v) →
  ∃ cs', (Go.storeCells ⟨b, o, none⟩ vs i).run P w = .ok () (setBlk w b (.cells cs' e (lo, hi))) ∧ cs'.size = cs.size ∧
   ∀ j, cs'[j]? = if o + i ≤ j ∧ j < o + i + vs.length then vs[j - (o + i)]? else cs[j]? := by
 intro vs
 induction vs with
 | nil =>
  intro i w cs h _ _ _
  refine ⟨cs, by simp only [Go.storeCells]; rw [setBlk_self h]; rfl, rfl, fun j => ?_⟩
  rw [if_neg (by simp)]
 | cons v vs ih =>
  intro i w cs h hl hc h1
  have hl' : o + i < cs.size := by simp at hl; omega
  have hst := run_store (P := P) (w := w) (b := b) (o := o + i) (v := v) (h1 v (by simp)) h hl' (hc _ hl')
  obtain ⟨cs', hr, hz, hg⟩ := ih (i + 1) (setBlk w b (.cells (cs.setIfInBounds (o + i) v) e (lo, hi))) (cs.setIfInBounds (o + i) v) (setBlk_same h)
   (by simp at hl ⊢; omega) (by simpa using hc) (fun u hu => h1 u (by simp [hu]))
  refine ⟨cs', ?_, by simpa using hz, fun j => ?_⟩
  ·simp only [Go.storeCells, run_bind, add_addr, hst]
   rw [hr, setBlk_setBlk]
  ·rw [hg j]
   simp only [List.length_cons]
   by_cases h2 : j = o + i
   ·subst h2
    rw [if_neg (by omega), if_pos (by omega)]
    simp [hl']
   ·by_cases h3 : o + (i + 1) ≤ j ∧ j < o + (i + 1) + vs.length
    ·rw [if_pos h3, if_pos (by omega)]
     rw [show j - (o + i) = (j - (o + (i + 1))) + 1 from by omega]
     simp
    ·rw [if_neg h3, if_neg (by omega)]
     simp only [Array.getElem?_setIfInBounds]
     rw [if_neg (by omega)]
theorem takeN_zero (l : List AVal) : takeN 0 l = some [] := rfl
theorem takeN_nil (n : Nat) : takeN (n + 1) [] = none := rfl
theorem takeN_cons (n : Nat) (x : AVal) (l : List AVal) : takeN (n + 1) (x :: l) = bif isPoison x then none else (takeN n l).map (x :: ·) := rfl
theorem takeN_spec : ∀ (n : Nat) (l vs : List AVal), takeN n l = some vs → vs.length = n ∧ (∀ (i : Nat) (v : AVal), vs[i]? = some v → l[i]? = some v ∧ isPoison v = false) := by
 intro n
 induction n with
 | zero => intro l vs h; rw [takeN_zero] at h; cases h; simp
 | succ n ih =>
  intro l vs h
  cases l with
  | nil => rw [takeN_nil] at h; cases h
  | cons x l =>
   rw [takeN_cons] at h
   cases hp : isPoison x with
   | true => rw [hp] at h; cases h
   | false =>
    rw [hp] at h
    simp only [cond_false, Option.map_eq_some_iff] at h
    obtain ⟨us, h1, rfl⟩ := h
    obtain ⟨h2, h3⟩ := ih l us h1
    refine ⟨by simp [h2], fun i v e => ?_⟩
    cases i with
    | zero => simp only [List.getElem?_cons_zero, Option.some.injEq] at e ⊢; subst e; exact ⟨rfl, hp⟩
    | succ i => simp only [List.getElem?_cons_succ] at e ⊢; exact h3 i v e
theorem put0_nil (l : List AVal) : put0 [] l = some l := rfl
theorem put0_cons_nil (v : AVal) (vs : List AVal) : put0 (v :: vs) [] = none := rfl
theorem put0_cons (v : AVal) (vs : List AVal) (x : AVal) (l : List AVal) : put0 (v :: vs) (x :: l) = (put0 vs l).map (v :: ·) := rfl
theorem putCells_zero (vs l : List AVal) : putCells vs 0 l = put0 vs l := rfl
theorem putCells_nil (vs : List AVal) (n : Nat) : putCells vs (n + 1) [] = none := rfl
theorem putCells_cons (vs : List AVal) (n : Nat) (x : AVal) (l : List AVal) : putCells vs (n + 1) (x :: l) = (putCells vs n l).map (x :: ·) := rfl
theorem put0_spec : ∀ (vs l l' : List AVal), put0 vs l = some l' → l'.length = l.length ∧ vs.length ≤ l.length ∧ ∀ i, l'[i]? = if i < vs.length then vs[i]? else l[i]? := by
 intro vs
 induction vs with
 | nil => intro l l' h; rw [put0_nil] at h; cases h; simp
 | cons v vs ih =>
  intro l l' h
  cases l with
  | nil => rw [put0_cons_nil] at h; cases h
  | cons x l =>
   rw [put0_cons, Option.map_eq_some_iff] at h
   obtain ⟨us, h1, rfl⟩ := h
   obtain ⟨h2, h3, h4⟩ := ih l us h1
   refine ⟨by simp [h2], by simp [h3], fun i => ?_⟩
   cases i with
   | zero => simp
   | succ i =>
    simp only [List.getElem?_cons_succ, List.length_cons, h4 i]
    by_cases hi : i < vs.length
    ·rw [if_pos hi, if_pos (by omega)]
    ·rw [if_neg hi, if_neg (by omega)]
theorem putCells_spec (vs : List AVal) : ∀ (off : Nat) (l l' : List AVal), putCells vs off l = some l' →
  l'.length = l.length ∧ off + vs.length ≤ l.length ∧ ∀ i, l'[i]? = if off ≤ i ∧ i < off + vs.length then vs[i - off]? else l[i]? := by
 intro off
 induction off with
 | zero =>
  intro l l' h
  rw [putCells_zero] at h
  obtain ⟨h1, h2, h3⟩ := put0_spec vs l l' h
  exact ⟨h1, by omega, fun i => by rw [h3 i]; simp⟩
 | succ off ih =>
  intro l l' h
  cases l with
  | nil => rw [putCells_nil] at h; cases h
  | cons x l =>
   rw [putCells_cons, Option.map_eq_some_iff] at h
   obtain ⟨us, h1, rfl⟩ := h
   obtain ⟨h2, h3, h4⟩ := ih l us h1
   refine ⟨by simp [h2], by simp; omega, fun i => ?_⟩
   cases i with
   | zero => simp
   | succ i =>
    simp only [List.getElem?_cons_succ, h4 i]
    by_cases hi : off ≤ i ∧ i < off + vs.length
    ·rw [if_pos hi, if_pos (by omega)]
     rw [show i + 1 - (off + 1) = i - off from by omega]
    ·rw [if_neg hi, if_neg (by omega)]
theorem poison0_zero (l : List AVal) : poison0 0 l = l := rfl
theorem poison0_nil (n : Nat) : poison0 (n + 1) [] = [] := rfl
theorem poison0_cons (n : Nat) (x : AVal) (l : List AVal) : poison0 (n + 1) (x :: l) = .poison :: poison0 n l := rfl
theorem poisonL_zero (n : Nat) (l : List AVal) : poisonL n 0 l = poison0 n l := rfl
theorem poisonL_nil (n a : Nat) : poisonL n (a + 1) [] = [] := rfl
theorem poisonL_cons (n a : Nat) (x : AVal) (l : List AVal) : poisonL n (a + 1) (x :: l) = x :: poisonL n a l := rfl
theorem poison0_spec : ∀ (n : Nat) (l : List AVal), (poison0 n l).length = l.length ∧ ∀ i, (poison0 n l)[i]? = if i < n then l[i]?.map (fun _ => .poison) else l[i]? := by
 intro n
 induction n with
 | zero => intro l; simp [poison0_zero]
 | succ n ih =>
  intro l
  cases l with
  | nil => simp [poison0_nil]
  | cons x l =>
   rw [poison0_cons]
   refine ⟨by simp [(ih l).1], fun i => ?_⟩
   cases i with
   | zero => simp
   | succ i => simp only [List.getElem?_cons_succ, (ih l).2 i]; by_cases h : i < n <;> simp [h]
theorem poisonL_spec (n : Nat) : ∀ (a : Nat) (l : List AVal), (poisonL n a l).length = l.length ∧
  ∀ i, (poisonL n a l)[i]? = if a ≤ i ∧ i < a + n then l[i]?.map (fun _ => .poison) else l[i]? := by
 intro a
 induction a with
 | zero => intro l; rw [poisonL_zero]; refine ⟨(poison0_spec n l).1, fun i => ?_⟩; rw [(poison0_spec n l).2 i]; simp
 | succ a ih =>
  intro l
  cases l with
  | nil => simp [poisonL_nil]
  | cons x l =>
   rw [poisonL_cons]
   refine ⟨by simp [(ih l).1], fun i => ?_⟩
   cases i with
   | zero => simp
   | succ i =>
    simp only [List.getElem?_cons_succ, (ih l).2 i]
    by_cases h : a ≤ i ∧ i < a + n
    ·rw [if_pos h, if_pos (by omega)]
    ·rw [if_neg h, if_neg (by omega)]
theorem new_heap (m : Mem) (o : AObj) : (m.new o).heap = m.heap.set m.next o := by cases m; rfl
theorem new_next (m : Mem) (o : AObj) : (m.new o).next = m.next + 1 := by cases m; rfl
theorem new_fams (m : Mem) (o : AObj) : (m.new o).fams = m.fams := by cases m; rfl
theorem put_heap (m : Mem) (r : Nat) (o : AObj) : (m.put r o).heap = m.heap.set r o := by cases m; rfl
theorem new_gl (m : Mem) (o : AObj) : (m.new o).gl = m.gl := by cases m; rfl
theorem put_gl (m : Mem) (r : Nat) (o : AObj) : (m.put r o).gl = m.gl := by cases m; rfl
theorem put_next (m : Mem) (r : Nat) (o : AObj) : (m.put r o).next = m.next := by cases m; rfl
theorem put_fams (m : Mem) (r : Nat) (o : AObj) : (m.put r o).fams = m.fams := by cases m; rfl
section
variable {P : Program} {w0 : Wo} {B : Nat} {ρ : Rho} {m : Mem} {w : World}
theorem MR.row_cells (h : MR w0 B ρ m w) {r : Nat} {p : Pl} (hp : ρ r = some p) {o : AObj} (ho : m.heap.get r = some o) {cells : List AVal}
  (hc : (∃ e f pos, o = .row e cells f pos) ∨ o = .ro cells) : ∃ cs e fz, w.heap[p.b]? = some (.cells cs e fz) ∧ CR ρ cells cs p.s := by
 have := h.obj r o p ho hp
 rcases hc with ⟨e, f, pos, rfl⟩ | rfl
 ·obtain ⟨_, _, cs, lo, hi, h1, _, h2, _⟩ := this
  exact ⟨cs, _, _, h1, h2⟩
 ·obtain ⟨_, cs, e, fz, h1, h2⟩ := this
  exact ⟨cs, e, fz, h1, h2⟩
theorem cells_sound {cells vs : List AVal} {cs : Array Value} {s off n b : Nat} {e : TypeId} {fz : Nat × Nat} (hw : w.heap[b]? = some (.cells cs e fz)) (hc : CR ρ cells cs s)
  (ht : takeN n (dropN cells off) = some vs) : ∃ xs : List Value, (loadCells ⟨b, off + s, none⟩ n).run P w = .ok xs.toArray w ∧ RL ρ vs xs ∧ xs.length = n ∧
   (∀ j x, xs[j]? = some x → cs[off + s + j]? = some x) := by
 obtain ⟨h1, h2⟩ := takeN_spec _ _ _ ht
 rw [dropN_eq] at h2
 have hex : ∀ j, j < n → ∃ x, cs[off + s + j]? = some x ∧ ∀ v, vs[j]? = some v → R ρ v x := by
  intro j hj
  have hv : vs[j]? = some vs[j] := List.getElem?_eq_getElem (by omega)
  obtain ⟨h3, _⟩ := h2 j _ hv
  rw [List.getElem?_drop] at h3
  obtain ⟨x, h4, h5⟩ := hc _ _ h3
  refine ⟨x, by rw [show off + s + j = off + j + s from by omega]; exact h4, fun v hv' => ?_⟩
  rw [hv] at hv'; cases hv'; exact h5
 have hsz : n = 0 ∨ off + s + n ≤ cs.size := by
  rcases Nat.eq_zero_or_pos n with h0 | h0
  ·exact .inl h0
  ·obtain ⟨x, hx, _⟩ := hex (n - 1) (by omega)
   have := (Array.getElem?_eq_some_iff.1 hx).1
   exact .inr (by omega)
 refine ⟨(cs.toList.drop (off + s)).take n, ?_⟩
 have hlen : ((cs.toList.drop (off + s)).take n).length = n := by
  simp only [List.length_take, List.length_drop, Array.length_toList]
  rcases hsz with h0 | h0 <;> omega
 have hget : ∀ j x, ((cs.toList.drop (off + s)).take n)[j]? = some x → cs[off + s + j]? = some x := by
  intro j x hx
  rw [List.getElem?_take] at hx
  split at hx
  ·rw [List.getElem?_drop] at hx; simpa using hx
  ·cases hx
 refine ⟨run_loadCells _ hlen fun j x hx => by rw [cell_of hw]; exact hget j x hx, RL.of_get (by omega) fun i v hv => ?_, hlen, hget⟩
 have hi : i < n := by have := (List.getElem?_eq_some_iff.1 hv).1; omega
 obtain ⟨x, h3, h4⟩ := hex i hi
 refine ⟨x, ?_, h4 v hv⟩
 rw [List.getElem?_take, if_pos hi, List.getElem?_drop]
 simpa using h3
theorem MR.readCells (h : MR w0 B ρ m w) {r : Nat} {p : Pl} (hp : ρ r = some p) {off n : Nat} {vs : List AVal} (e : readCells m r off n = some vs) :
  ∃ xs : List Value, (loadCells ⟨p.b, off + p.s, none⟩ n).run P w = .ok xs.toArray w ∧ RL ρ vs xs ∧ xs.length = n ∧ (∀ j x, xs[j]? = some x → w.cell? ⟨p.b, off + p.s + j, none⟩ = some x) := by
 unfold Abs.readCells at e
 split at e
 ·rename_i e0 cells f pos ho
  obtain ⟨cs, e1, fz, hw, hc⟩ := h.row_cells hp ho (.inl ⟨e0, f, pos, rfl⟩)
  obtain ⟨xs, h1, h2, h3, h4⟩ := cells_sound (P := P) hw hc e
  exact ⟨xs, h1, h2, h3, fun j x hx => by rw [cell_of hw]; exact h4 j x hx⟩
 ·rename_i cells ho
  obtain ⟨cs, e1, fz, hw, hc⟩ := h.row_cells hp ho (.inr rfl)
  obtain ⟨xs, h1, h2, h3, h4⟩ := cells_sound (P := P) hw hc e
  exact ⟨xs, h1, h2, h3, fun j x hx => by rw [cell_of hw]; exact h4 j x hx⟩
 ·cases e
theorem sound1_some {o : Option AVal} {v : AVal} (h : sound1 o = some v) : o = some v ∧ isPoison v = false := by
 unfold sound1 at h
 split at h
 ·rename_i v'
  cases hp : isPoison v' with
  | true => rw [hp] at h; cases h
  | false => rw [hp] at h; cases h; exact ⟨rfl, hp⟩
 ·cases h
theorem MR.read1 (h : MR w0 B ρ m w) {r : Nat} {p : Pl} (hp : ρ r = some p) {off : Nat} {v : AVal} (e : read1 m r off = some v) :
  ∃ x, (load ⟨p.b, off + p.s, none⟩).run P w = .ok x w ∧ R ρ v x := by
 unfold Abs.read1 at e
 split at e
 ·rename_i e0 cells f pos ho
  obtain ⟨h1, _⟩ := sound1_some e
  rw [getO_eq] at h1
  obtain ⟨cs, e1, fz, hw, hc⟩ := h.row_cells hp ho (.inl ⟨e0, f, pos, rfl⟩)
  obtain ⟨x, h2, h3⟩ := hc _ _ h1
  exact ⟨x, run_load (by rw [cell_of hw]; exact h2), h3⟩
 ·rename_i cells ho
  obtain ⟨h1, _⟩ := sound1_some e
  rw [getO_eq] at h1
  obtain ⟨cs, e1, fz, hw, hc⟩ := h.row_cells hp ho (.inr rfl)
  obtain ⟨x, h2, h3⟩ := hc _ _ h1
  exact ⟨x, run_load (by rw [cell_of hw]; exact h2), h3⟩
 ·cases e
end
open Go.RowKit (Below)
section
variable {P : Program} {w0 : Wo} {B : Nat} {ρ : Rho} {m : Mem} {w : World}
theorem MR.lt (h : MR w0 B ρ m w) {r : Nat} {p : Pl} (hp : ρ r = some p) : r < m.next := by
 rcases Nat.lt_or_ge r m.next with h1 | h1
 ·exact h1
 ·rw [h.dom r h1] at hp; cases hp
theorem MR.hlt (h : MR w0 B ρ m w) {r : Nat} {o : AObj} (ho : m.heap.get r = some o) : r < m.next := by
 rcases Nat.lt_or_ge r m.next with h1 | h1
 ·exact h1
 ·rw [h.hdom r h1] at ho; cases ho
theorem OR.some {p : Pl} {x : Option Obj} {o : AObj} (h : OR ρ B p x o) : ∃ y, x = .some y := by
 unfold OR at h
 split at h
 ·obtain ⟨_, _, cs, lo, hi, h1, _⟩ := h; exact ⟨_, h1⟩
 ·obtain ⟨_, cs, e, fz, h1, _⟩ := h; exact ⟨_, h1⟩
 ·obtain ⟨_, _, es, h1, _⟩ := h; exact ⟨_, h1⟩
 ·obtain ⟨_, _, es, h1, _⟩ := h; exact ⟨_, h1⟩
 ·exact ⟨_, h.2.2⟩
 ·obtain ⟨_, _, es, h1, _⟩ := h; exact ⟨_, h1⟩
 ·exact ⟨_, h.2.2⟩
 ·obtain ⟨_, _, es, _, h1⟩ := h; exact ⟨_, h1⟩
 ·exact ⟨_, h.2.2⟩
theorem MR.blk_lt (h : MR w0 B ρ m w) {r : Nat} {p : Pl} {o : AObj} (ho : m.heap.get r = some o) (hp : ρ r = some p) : p.b < w.heap.size := by
 obtain ⟨y, hy⟩ := (h.obj r o p ho hp).some
 exact (Array.getElem?_eq_some_iff.1 hy).1
theorem MR.globs (h : MR w0 B ρ m w) {m' : Mem} {ρ' : Rho} (hg : m'.gl = m.gl) (hle : ρ.le ρ') : ∀ g r, (g, r) ∈ m'.gl → ∃ p, ρ' r = some p ∧ p.b = g ∧ p.s = 0 := by
 intro g r hm
 rw [hg] at hm
 obtain ⟨p, h1, h2⟩ := h.glob g r hm
 exact ⟨p, hle _ _ h1, h2⟩
theorem MR.drew (h : MR w0 B ρ m w) : MR w0 B ρ m w.drew := { h with below := h.below.drew }
theorem MR.at (h : MR w0 B ρ m w) {w' : World} (hh : w'.heap = w.heap) (hb : Below B w0.w w') : MR w0 B ρ m w' :=
 { h with obj := by rw [hh]; exact h.obj, below := hb }
theorem MR.new (h : MR w0 B ρ m w) (o : AObj) (x : Obj) (p : Pl) (hb : p.b = w.heap.size) (ho : OR (ρ.add m.next p) B p (some x) o)
  (hf : ∀ e cs f q, o = .row e cs f q → f < m.next + 1 ∧ (∀ l, m.fams.get f = some l → m.next ∈ l) ∧
   (m.fams.get f = none → ∀ r' e' cs' p', m.heap.get r' ≠ some (.row e' cs' f p'))) :
  MR w0 B (ρ.add m.next p) (m.new o) (w.alloc x) ∧ ρ.le (ρ.add m.next p) := by
 have hn : ρ m.next = none := h.dom _ (Nat.le_refl _)
 have hle : ρ.le (ρ.add m.next p) := Rho.le_add hn
 have hg : ∀ r, (m.new o).heap.get r = if m.next = r then some o else m.heap.get r := by intro r; rw [new_heap, T.get_set]
 have hblk : ∀ r o' q, r ≠ m.next → m.heap.get r = some o' → ρ r = some q → q.b ≠ w.heap.size := fun r o' q _ h1 h2 => Nat.ne_of_lt (h.blk_lt h1 h2)
 refine ⟨⟨?_, ?_, ?_, ?_, ?_, ?_, ?_, ?_, ?_, h.base, fun q hq => ?_, h.globs (new_gl _ _) hle⟩, hle⟩
 ·intro r o' q h1 h2
  rw [hg] at h1
  by_cases hr : m.next = r
  ·subst hr
   rw [if_pos rfl] at h1; cases h1
   rw [Rho.add_same] at h2; cases h2
   rw [hb, alloc_new]; exact ho
  ·rw [if_neg hr] at h1
   rw [Rho.add_other _ _ (Ne.symm hr)] at h2
   have := h.obj r o' q h1 h2
   rw [alloc_old (h.blk_lt h1 h2)]
   exact this.mono hle
 ·intro r r' o1 o2 p1 p2 hne h1 h2 h3 h4 h5
  rw [hg] at h1 h2
  by_cases hr : m.next = r
  ·subst hr
   rw [if_pos rfl] at h1; cases h1
   rw [Rho.add_same] at h3; cases h3
   rw [if_neg hne] at h2
   rw [Rho.add_other _ _ (Ne.symm hne)] at h4
   exact absurd (h5.symm.trans hb) (hblk r' o2 p2 (Ne.symm hne) h2 h4)
  ·rw [if_neg hr] at h1
   rw [Rho.add_other _ _ (Ne.symm hr)] at h3
   by_cases hr' : m.next = r'
   ·subst hr'
    rw [Rho.add_same] at h4; cases h4
    exact absurd (h5.trans hb) (hblk r o1 p1 hne h1 h3)
   ·rw [if_neg hr'] at h2
    rw [Rho.add_other _ _ (Ne.symm hr')] at h4
    exact h.inj r r' o1 o2 p1 p2 hne h1 h2 h3 h4 h5
 ·intro r hr
  rw [new_next] at hr
  rw [Rho.add_other _ _ (by omega)]
  exact h.dom r (by omega)
 ·intro r hr
  rw [new_next] at hr
  rw [hg, if_neg (by omega)]
  exact h.hdom r (by omega)
 ·intro f l hl
  rw [new_fams] at hl
  rw [new_next]
  have := h.famlt f l hl
  omega
 ·intro r e cs f q h1
  rw [hg] at h1
  rw [new_next]
  by_cases hr : m.next = r
  ·rw [if_pos hr] at h1; cases h1; exact (hf e cs f q rfl).1
  ·rw [if_neg hr] at h1; have := h.rowfam r e cs f q h1; omega
 ·intro r e cs f q l h1 h2
  rw [hg] at h1
  rw [new_fams] at h2
  by_cases hr : m.next = r
  ·rw [if_pos hr] at h1; cases h1; rw [← hr]; exact (hf e cs f q rfl).2.1 l h2
  ·rw [if_neg hr] at h1; exact h.fam r e cs f q l h1 h2
 ·intro r r' e e' cs cs' f q q' h1 h2 h3
  rw [hg] at h1 h2
  rw [new_fams] at h3
  by_cases hr : m.next = r
  ·rw [if_pos hr] at h1; cases h1
   by_cases hr' : m.next = r'
   ·omega
   ·rw [if_neg hr'] at h2; exact absurd h2 ((hf e cs f q rfl).2.2 h3 r' e' cs' q')
  ·rw [if_neg hr] at h1
   by_cases hr' : m.next = r'
   ·rw [if_pos hr'] at h2; cases h2; exact absurd h1 ((hf e' cs' f q' rfl).2.2 h3 r e cs q)
   ·rw [if_neg hr'] at h2; exact h.lone r r' e e' cs cs' f q q' h1 h2 h3
 ·exact h.below.alloc h.size x
 ·have hq1 := h.ban q hq
  rw [new_next, Rho.add_other _ _ (Nat.ne_of_lt hq1.1)]
  exact ⟨Nat.lt_succ_of_lt hq1.1, hq1.2⟩
theorem MR.newRow (h : MR w0 B ρ m w) (e : Elem) (cells : List AVal) (cs : Array Value) (hc : CR ρ cells cs 0) :
  MR w0 B (ρ.add m.next ⟨w.heap.size, 0, cs.size, e.2⟩) (newRow m e cells) (w.alloc (.cells cs e.1)) ∧ ρ.le (ρ.add m.next ⟨w.heap.size, 0, cs.size, e.2⟩) := by
 have hn : ρ m.next = none := h.dom _ (Nat.le_refl _)
 refine h.new _ _ _ rfl ⟨h.size, rfl, cs, 0, 0, rfl, rfl, hc.mono (Rho.le_add hn), fun i _ h1 => by omega, fun _ i _ h1 => by omega⟩ ?_
 intro e' cs' f q he
 cases he
 refine ⟨by omega, fun l hl => ?_, fun _ r' e' cs' p' h1 => ?_⟩
 ·have := h.famlt _ _ hl; omega
 ·have := h.rowfam _ _ _ _ _ h1; omega
theorem MR.newObj (h : MR w0 B ρ m w) (o : AObj) (x : Obj) (hr : ∀ e cs f q, o ≠ .row e cs f q)
  (ho : ∀ ρ', ρ.le ρ' → OR ρ' B (Pl.obj w.heap.size) (some x) o) :
  MR w0 B (ρ.add m.next (Pl.obj w.heap.size)) (m.new o) (w.alloc x) ∧ ρ.le (ρ.add m.next (Pl.obj w.heap.size)) :=
 h.new o x _ rfl (ho _ (Rho.le_add (h.dom _ (Nat.le_refl _)))) fun e cs f q he => absurd he (hr e cs f q)
theorem MR.put (h : MR w0 B ρ m w) {r : Nat} {p : Pl} {o o' : AObj} {x : Obj} (ho : m.heap.get r = some o) (hp : ρ r = some p)
  (hro : ∀ e cs f q, o ≠ .row e cs f q) (hcell : ∀ cs, o ≠ .ro cs) (hro' : ∀ e cs f q, o' ≠ .row e cs f q) (hB : B ≤ p.b)
  (hx : OR ρ B p (some x) o') : MR w0 B ρ (m.put r o') (setBlk w p.b x) := by
 have hg : ∀ q, (m.put r o').heap.get q = if r = q then some o' else m.heap.get q := by intro q; rw [put_heap, T.get_set]
 have hex : ∃ y, w.heap[p.b]? = some y := (h.obj r o p ho hp).some
 obtain ⟨y, hy⟩ := hex
 have hother : ∀ q o2 p2, r ≠ q → m.heap.get q = some o2 → ρ q = some p2 → p.b ≠ p2.b := by
  intro q o2 p2 hne h1 h2 h3
  have := h.inj r q o o2 p p2 hne ho h1 hp h2 h3
  unfold Kin2 at this
  cases o <;> cases o2 <;> first | exact this.elim | exact hro _ _ _ _ rfl | exact hcell _ rfl
 refine ⟨?_, ?_, ?_, ?_, ?_, ?_, ?_, ?_, below_setBlk h.below hB _, h.base, fun q hq => by rw [put_next]; exact h.ban q hq, h.globs (put_gl _ _ _) (Rho.le.refl ρ)⟩
 ·intro q o2 p2 h1 h2
  rw [hg] at h1
  by_cases hr : r = q
  ·subst hr
   rw [if_pos rfl] at h1; cases h1
   rw [hp] at h2; cases h2
   rw [setBlk_same hy]; exact hx
  ·rw [if_neg hr] at h1
   rw [setBlk_other (hother q o2 p2 hr h1 h2)]
   exact h.obj q o2 p2 h1 h2
 ·intro q q' o1 o2 p1 p2 hne h1 h2 h3 h4 h5
  rw [hg] at h1 h2
  by_cases hr : r = q
  ·subst hr
   rw [if_neg hne] at h2
   rw [hp] at h3; cases h3
   exact absurd h5 (hother q' o2 p2 hne h2 h4)
  ·rw [if_neg hr] at h1
   by_cases hr' : r = q'
   ·subst hr'
    rw [hp] at h4; cases h4
    exact absurd h5.symm (hother q o1 p1 hr h1 h3)
   ·rw [if_neg hr'] at h2
    exact h.inj q q' o1 o2 p1 p2 hne h1 h2 h3 h4 h5
 ·intro q hq; rw [put_next] at hq; exact h.dom q hq
 ·intro q hq
  rw [put_next] at hq
  rw [hg]
  have := h.hlt ho
  rw [if_neg (by omega)]
  exact h.hdom q hq
 ·intro f l hl; rw [put_fams] at hl; rw [put_next]; exact h.famlt f l hl
 ·intro q e cs f z h1
  rw [hg] at h1; rw [put_next]
  by_cases hr : r = q
  ·rw [if_pos hr] at h1; cases h1; exact absurd rfl (hro' e cs f z)
  ·rw [if_neg hr] at h1; exact h.rowfam q e cs f z h1
 ·intro q e cs f z l h1 h2
  rw [hg] at h1; rw [put_fams] at h2
  by_cases hr : r = q
  ·rw [if_pos hr] at h1; cases h1; exact absurd rfl (hro' e cs f z)
  ·rw [if_neg hr] at h1; exact h.fam q e cs f z l h1 h2
 ·intro q q' e e' cs cs' f z z' h1 h2 h3
  rw [hg] at h1 h2; rw [put_fams] at h3
  by_cases hr : r = q
  ·rw [if_pos hr] at h1; cases h1; exact absurd rfl (hro' e cs f z)
  ·rw [if_neg hr] at h1
   by_cases hr' : r = q'
   ·rw [if_pos hr'] at h2; cases h2; exact absurd rfl (hro' e' cs' f z')
   ·rw [if_neg hr'] at h2; exact h.lone q q' e e' cs cs' f z z' h1 h2 h3
def Weak : AObj → AObj → Prop
 | .row e cs f p, o' => ∃ cs', o' = .row e cs' f p ∧ cs'.length = cs.length ∧ ∀ (i : Nat) (v : AVal), cs'[i]? = some v → v = .poison ∨ cs[i]? = some v
 | o, o' => o' = o
def Covers (p n : Nat) : AObj → Prop
 | .row _ cs _ pos => ∀ (i : Nat) (v : AVal), cs[i]? = some v → p ≤ pos + i → pos + i < p + n → v = .poison
 | _ => True
theorem Weak.refl (o : AObj) : Weak o o := by
 cases o <;> first | rfl | exact ⟨_, rfl, rfl, fun i v h => .inr h⟩
theorem Weak.trans {a b c : AObj} (h : Weak a b) (k : Weak b c) : Weak a c := by
 cases a with
 | row e cs f p =>
  obtain ⟨cs', rfl, h1, h2⟩ := h
  obtain ⟨cs'', rfl, h3, h4⟩ := k
  refine ⟨cs'', rfl, h3.trans h1, fun i v hv => ?_⟩
  rcases h4 i v hv with h5 | h5
  ·exact .inl h5
  ·exact h2 i v h5
 | _ => obtain rfl := h; exact k
theorem Covers.weak {p n : Nat} {a b : AObj} (h : Covers p n a) (k : Weak a b) : Covers p n b := by
 cases a with
 | row e cs f q =>
  obtain ⟨cs', rfl, h1, h2⟩ := k
  intro i v hv h3 h4
  rcases h2 i v hv with h5 | h5
  ·exact h5
  ·exact h i v h5 h3 h4
 | _ => obtain rfl := k; exact h
theorem poisonRow_spec (m : Mem) (r p n : Nat) : (poisonRow m r p n).next = m.next ∧ (poisonRow m r p n).fams = m.fams ∧
  (∀ q, q ≠ r → (poisonRow m r p n).heap.get q = m.heap.get q) ∧ (m.heap.get r = none → (poisonRow m r p n).heap.get r = none) ∧
  (∀ o, m.heap.get r = some o → ∃ o', (poisonRow m r p n).heap.get r = some o' ∧ Weak o o' ∧ Covers p n o') := by
 unfold poisonRow poisonAt
 split
 ·rename_i e cells f pos ho
  cases h1 : (p.add n).ble pos with
  | true =>
   rw [cond_true]
   refine ⟨rfl, rfl, fun _ _ => rfl, fun h => h, fun o h => ⟨o, h, Weak.refl o, ?_⟩⟩
   rw [h] at ho; cases ho
   rw [nat_ble] at h1
   intro i v hv h2 h3
   have : p + n ≤ pos := h1
   omega
  | false =>
   rw [cond_false]
   cases h2 : (pos.add (lenL cells)).ble p with
   | true =>
    rw [cond_true]
    refine ⟨rfl, rfl, fun _ _ => rfl, fun h => h, fun o h => ⟨o, h, Weak.refl o, ?_⟩⟩
    rw [h] at ho; cases ho
    rw [nat_ble, lenL_eq] at h2
    have : pos + cells.length ≤ p := h2
    intro i v hv h3 h4
    have := (List.getElem?_eq_some_iff.1 hv).1
    omega
   | false =>
    rw [cond_false]
    have h1' : pos < p + n := by rw [nat_ble_f] at h1; exact h1
    refine ⟨put_next _ _ _, put_fams _ _ _, fun q hq => by rw [put_heap, T.get_set_other _ _ (Ne.symm hq)], (fun h => by rw [h] at ho; cases ho), fun o h => ?_⟩
    rw [h] at ho; cases ho
    refine ⟨_, by rw [put_heap, T.get_set_same], ⟨_, rfl, (poisonL_spec _ _ _).1, fun i v hv => ?_⟩, ?_⟩
    ·rw [(poisonL_spec _ _ _).2 i] at hv
     split at hv
     ·left
      cases hc : cells[i]? with
      | none => rw [hc] at hv; cases hv
      | some u => rw [hc] at hv; simpa using hv.symm
     ·exact .inr hv
    ·intro i v hv h3 h4
     rw [(poisonL_spec _ _ _).2 i] at hv
     rw [if_pos (by
      have e1 : p.sub pos = p - pos := rfl
      have e2 : (p.add n).sub (p.max pos) = p + n - max p pos := rfl
      rw [e1, e2]
      omega)] at hv
     cases hc : cells[i]? with
     | none => rw [hc] at hv; cases hv
     | some u => rw [hc] at hv; simpa using hv.symm
 ·rename_i hno
  refine ⟨rfl, rfl, fun _ _ => rfl, fun h => h, fun o h => ⟨o, h, Weak.refl o, ?_⟩⟩
  cases o with
  | row e cs f q => exact absurd h (hno e cs f q)
  | _ => trivial
theorem poisonRows_nil (but p n : Nat) (m : Mem) : poisonRows [] but p n m = m := rfl
theorem poisonRows_cons (q : Nat) (rs : List Nat) (but p n : Nat) (m : Mem) :
  poisonRows (q :: rs) but p n m = bif q.beq but then poisonRows rs but p n m else poisonRows rs but p n (poisonRow m q p n) := rfl
theorem poisonRows_spec (but p n : Nat) : ∀ (rs : List Nat) (m : Mem), (poisonRows rs but p n m).next = m.next ∧ (poisonRows rs but p n m).fams = m.fams ∧
  (∀ q, m.heap.get q = none → (poisonRows rs but p n m).heap.get q = none) ∧
  (m.heap.get but = (poisonRows rs but p n m).heap.get but) ∧
  (∀ q o, m.heap.get q = some o → ∃ o', (poisonRows rs but p n m).heap.get q = some o' ∧ Weak o o' ∧ (q ∈ rs → q ≠ but → Covers p n o')) := by
 intro rs
 induction rs with
 | nil => intro m; rw [poisonRows_nil]; exact ⟨rfl, rfl, fun _ h => h, rfl, fun q o h => ⟨o, h, Weak.refl o, fun h => by cases h⟩⟩
 | cons r rs ih =>
  intro m
  rw [poisonRows_cons]
  cases hb : r.beq but with
  | true =>
   rw [nat_beq] at hb
   simp only [cond_true]
   obtain ⟨h1, h2, h3, h4, h5⟩ := ih m
   refine ⟨h1, h2, h3, h4, fun q o h => ?_⟩
   obtain ⟨o', h6, h7, h8⟩ := h5 q o h
   refine ⟨o', h6, h7, fun hm hne => ?_⟩
   rcases List.mem_cons.1 hm with rfl | hm
   ·exact absurd hb hne
   ·exact h8 hm hne
  | false =>
   rw [nat_beq_f] at hb
   simp only [cond_false]
   obtain ⟨k1, k2, k3, k4, k5⟩ := poisonRow_spec m r p n
   obtain ⟨h1, h2, h3, h4, h5⟩ := ih (poisonRow m r p n)
   refine ⟨h1.trans k1, h2.trans k2, fun q hq => ?_, (k3 but (Ne.symm hb)).symm.trans h4, fun q o h => ?_⟩
   ·refine h3 q ?_
    by_cases hr : q = r
    ·subst hr; exact k4 hq
    ·rw [k3 q hr]; exact hq
   ·by_cases hr : q = r
    ·subst hr
     obtain ⟨o1, e1, e2, e3⟩ := k5 o h
     obtain ⟨o2, e4, e5, e6⟩ := h5 q o1 e1
     exact ⟨o2, e4, e2.trans e5, fun _ _ => e3.weak e5⟩
    ·obtain ⟨o2, e4, e5, e6⟩ := h5 q o (by rw [k3 q hr]; exact h)
     refine ⟨o2, e4, e5, fun hm hne => ?_⟩
     rcases List.mem_cons.1 hm with rfl | hm
     ·exact absurd rfl hr
     ·exact e6 hm hne
end
open Go.RowKit (Below)
def Like : AObj → AObj → Prop
 | .row _ _ f p, o' => ∃ e' cs', o' = .row e' cs' f p
 | .ro _, o' => ∃ c, o' = .ro c
 | _, o' => (∀ e cs f p, o' ≠ .row e cs f p) ∧ (∀ c, o' ≠ .ro c)
theorem Weak.like {o o' : AObj} (h : Weak o o') : Like o o' := by
 cases o with
 | row e cs f p => obtain ⟨cs', rfl, _⟩ := h; exact ⟨e, cs', rfl⟩
 | ro c => obtain rfl := h; exact ⟨c, rfl⟩
 | _ => obtain rfl := h; exact ⟨fun _ _ _ _ e => (by cases e), fun _ e => (by cases e)⟩
theorem Like.kin {o1 o2 o1' o2' : AObj} {s s' : Nat} (h1 : Like o1 o1') (h2 : Like o2 o2') (k : Kin2 o1 o2 s s') : Kin2 o1' o2' s s' := by
 unfold Kin2 at k
 split at k
 ·obtain ⟨e1, c1, rfl⟩ := h1
  obtain ⟨e2, c2, rfl⟩ := h2
  exact k
 ·obtain ⟨c1, rfl⟩ := h1
  obtain ⟨c2, rfl⟩ := h2
  trivial
 ·exact k.elim
theorem OR.weak {ρ : Rho} {B : Nat} {p : Pl} {x : Option Obj} {o o' : AObj} (h : OR ρ B p x o) (k : Weak o o') : OR ρ B p x o' := by
 cases o with
 | row e cs f q =>
  obtain ⟨cs', rfl, h1, h2⟩ := k
  obtain ⟨h3, h4, c, lo, hi, h5, h6, h7, h8⟩ := h
  refine ⟨h3, h4, c, lo, hi, h5, h6, fun i v hv => ?_, h8⟩
  rcases h2 i v hv with rfl | h9
  ·have hi := (List.getElem?_eq_some_iff.1 hv).1
   obtain ⟨y, hy, _⟩ := h7 i cs[i] (List.getElem?_eq_getElem (by omega))
   exact ⟨y, hy, by simp [R]⟩
  ·exact h7 i v h9
 | _ => obtain rfl := k; exact h
section
variable {P : Program} {w0 : Wo} {B : Nat} {ρ : Rho} {m : Mem} {w : World}
theorem MR.change (h : MR w0 B ρ m w) {m' : Mem} {w' : World} (hn : m'.next = m.next) (hf : m'.fams = m.fams) (hgl : m'.gl = m.gl)
  (hnone : ∀ q, m.heap.get q = none → m'.heap.get q = none) (hs : ∀ q o, m.heap.get q = some o → ∃ o', m'.heap.get q = some o' ∧ Like o o')
  (hobj : ∀ q o' p, m'.heap.get q = some o' → ρ q = some p → OR ρ B p (w'.heap[p.b]?) o') (hb : Below B w0.w w') : MR w0 B ρ m' w' := by
 have back : ∀ q o', m'.heap.get q = some o' → ∃ o, m.heap.get q = some o ∧ Like o o' := by
  intro q o' h1
  cases ho : m.heap.get q with
  | none => rw [hnone q ho] at h1; cases h1
  | some o =>
   obtain ⟨o2, h2, h3⟩ := hs q o ho
   rw [h1] at h2; cases h2
   exact ⟨o, rfl, h3⟩
 have backrow : ∀ q e cs f z, m'.heap.get q = some (.row e cs f z) → ∃ e' cs', m.heap.get q = some (.row e' cs' f z) := by
  intro q e cs f z h1
  obtain ⟨o, h2, h3⟩ := back q _ h1
  cases o with
  | row e' cs' f' z' => obtain ⟨e2, c2, h4⟩ := h3; cases h4; exact ⟨e', cs', h2⟩
  | ro c => obtain ⟨c2, h4⟩ := h3; cases h4
  | _ => exact absurd rfl (h3.1 e cs f z)
 refine ⟨hobj, ?_, ?_, ?_, ?_, ?_, ?_, ?_, hb, h.base, fun q hq => by rw [hn]; exact h.ban q hq, h.globs hgl (Rho.le.refl ρ)⟩
 ·intro q q' o1 o2 p1 p2 hne h1 h2 h3 h4 h5
  obtain ⟨o1', k1, k2⟩ := back q o1 h1
  obtain ⟨o2', k3, k4⟩ := back q' o2 h2
  exact Like.kin k2 k4 (h.inj q q' o1' o2' p1 p2 hne k1 k3 h3 h4 h5)
 ·intro q hq; rw [hn] at hq; exact h.dom q hq
 ·intro q hq; rw [hn] at hq; exact hnone q (h.hdom q hq)
 ·intro f l hl; rw [hf] at hl; rw [hn]; exact h.famlt f l hl
 ·intro q e cs f z h1
  obtain ⟨e', cs', h2⟩ := backrow q e cs f z h1
  rw [hn]; exact h.rowfam q e' cs' f z h2
 ·intro q e cs f z l h1 h2
  obtain ⟨e', cs', h3⟩ := backrow q e cs f z h1
  rw [hf] at h2; exact h.fam q e' cs' f z l h3 h2
 ·intro q q' e e' cs cs' f z z' h1 h2 h3
  obtain ⟨e1, c1, h4⟩ := backrow q e cs f z h1
  obtain ⟨e2, c2, h5⟩ := backrow q' e' cs' f z' h2
  rw [hf] at h3; exact h.lone q q' e1 e2 c1 c2 f z z' h4 h5 h3
theorem poisonRow_gl (m : Mem) (r p n : Nat) : (poisonRow m r p n).gl = m.gl := by
 unfold poisonRow poisonAt
 try simp only [Bool.cond_eq_ite]
 repeat' split
 all_goals first | rfl | exact put_gl _ _ _
theorem poisonRows_gl (but p n : Nat) : ∀ (rs : List Nat) (m : Mem), (poisonRows rs but p n m).gl = m.gl := by
 intro rs
 induction rs with
 | nil => intro m; rw [poisonRows_nil]
 | cons r rs ih =>
  intro m
  rw [poisonRows_cons]
  cases r.beq but with
  | true => exact ih m
  | false => exact (ih _).trans (poisonRow_gl _ _ _ _)
theorem spoil_gl (r p n : Nat) (m : Mem) (l : Option (List Nat)) : (spoil r p n m l).gl = m.gl := by
 cases l with
 | none => rfl
 | some rs => exact poisonRows_gl _ _ _ _ _
theorem spoil_spec (r p n : Nat) (m : Mem) (l : Option (List Nat)) : (spoil r p n m l).next = m.next ∧ (spoil r p n m l).fams = m.fams ∧
  (∀ q, m.heap.get q = none → (spoil r p n m l).heap.get q = none) ∧ (m.heap.get r = (spoil r p n m l).heap.get r) ∧
  (∀ q o, m.heap.get q = some o → ∃ o', (spoil r p n m l).heap.get q = some o' ∧ Weak o o' ∧ (∀ rs, l = some rs → q ∈ rs → q ≠ r → Covers p n o')) := by
 cases l with
 | none => exact ⟨rfl, rfl, fun _ h => h, rfl, fun q o h => ⟨o, h, Weak.refl o, fun rs e => by cases e⟩⟩
 | some rs =>
  obtain ⟨h1, h2, h3, h4, h5⟩ := poisonRows_spec r p n rs m
  refine ⟨h1, h2, h3, h4, fun q o h => ?_⟩
  obtain ⟨o', h6, h7, h8⟩ := h5 q o h
  exact ⟨o', h6, h7, fun rs' e hm hne => by cases e; exact h8 hm hne⟩
theorem MR.write (h : MR w0 B ρ m w) {r : Nat} {p : Pl} {e : Elem} {cells : List AVal} {f pos : Nat} (ho : m.heap.get r = some (.row e cells f pos)) (hp : ρ r = some p)
  {cs : Array Value} {lo hi : Nat} (hw : w.heap[p.b]? = some (.cells cs e.1 (lo, hi))) (hclr : ClearR e.2 lo hi p.z) {cells' : List AVal} {cs' : Array Value} {off n : Nat}
  (hc : CR ρ cells' cs' p.s) (hsz : cs'.size = p.z) (hsame : ∀ j, ¬ (off + p.s ≤ j ∧ j < off + p.s + n) → cs'[j]? = cs[j]?) :
  MR w0 B ρ (spoil r (pos + off) n (m.put r (.row e cells' f pos)) (m.fams.get f)) (setBlk w p.b (.cells cs' e.1 (lo, hi))) := by
 obtain ⟨k1, k2, k3, k4, k5⟩ := spoil_spec r (pos + off) n (m.put r (.row e cells' f pos)) (m.fams.get f)
 have hOR := h.obj r _ p ho hp
 obtain ⟨hB, hq, _, _, _, _, _, _, _⟩ := hOR
 have hg : ∀ q, (m.put r (.row e cells' f pos)).heap.get q = if r = q then some (.row e cells' f pos) else m.heap.get q := by intro q; rw [put_heap, T.get_set]
 refine h.change (k1.trans (put_next _ _ _)) (k2.trans (put_fams _ _ _)) ((spoil_gl _ _ _ _ _).trans (put_gl _ _ _)) ?_ ?_ ?_ (below_setBlk h.below hB _)
 ·intro q hq
  refine k3 q ?_
  rw [hg]
  by_cases hr : r = q
  ·subst hr; rw [ho] at hq; cases hq
  ·rw [if_neg hr]; exact hq
 ·intro q o h1
  by_cases hr : r = q
  ·subst hr
   rw [ho] at h1; cases h1
   refine ⟨.row e cells' f pos, ?_, ⟨e, cells', rfl⟩⟩
   rw [← k4, hg, if_pos rfl]
  ·obtain ⟨o', h2, h3, _⟩ := k5 q o (by rw [hg, if_neg hr]; exact h1)
   exact ⟨o', h2, h3.like⟩
 ·intro q o' p2 h1 h2
  by_cases hr : r = q
  ·subst hr
   rw [← k4, hg, if_pos rfl] at h1; cases h1
   rw [hp] at h2; cases h2
   rw [setBlk_same hw]
   exact ⟨hB, hq, cs', lo, hi, rfl, hsz, hc, hclr⟩
  ·cases hqo : m.heap.get q with
   | none => rw [k3 q (by rw [hg, if_neg hr]; exact hqo)] at h1; cases h1
   | some o =>
    obtain ⟨o2, h3, h4, h5⟩ := k5 q o (by rw [hg, if_neg hr]; exact hqo)
    rw [h1] at h3; cases h3
    have hor := h.obj q o p2 hqo h2
    by_cases hbb : p.b = p2.b
    ·have hk := h.inj r q _ _ p p2 hr ho hqo hp h2 hbb
     cases o with
     | row e2 c2 f2 z2 =>
      obtain ⟨rfl, hsh⟩ := hk
      have hcov : Covers (pos + off) n o' := by
       cases hl : m.fams.get f with
       | none => exact absurd (h.lone r q _ _ _ _ f pos z2 ho hqo hl) hr
       | some l => exact h5 l hl (h.fam q e2 c2 f z2 l hqo hl) (Ne.symm hr)
      obtain ⟨c3, rfl, h6, h7⟩ := h4
      obtain ⟨hB2, hq2, csx, lox, hix, hwx, hzx, hcx, hclx⟩ := hor
      rw [← hbb, hw] at hwx
      simp only [Option.some.injEq, Obj.cells.injEq, Prod.mk.injEq] at hwx
      obtain ⟨rfl, he, rfl, rfl⟩ := hwx
      refine ⟨hB2, hq2, cs', lo, hi, ?_, ?_, ?_, hclx⟩
      ·rw [← hbb, setBlk_same hw, he]
      ·rw [hsz, ← hzx]
       have := h.obj r _ p ho hp
       obtain ⟨_, _, cs5, lo5, hi5, hw5, hz5, _, _⟩ := this
       rw [hw] at hw5; cases hw5
       exact hz5.symm
      ·intro i v hv
       rcases h7 i v hv with rfl | h8
       ·have hi := (List.getElem?_eq_some_iff.1 hv).1
        obtain ⟨y, hy, _⟩ := hcx i c2[i] (List.getElem?_eq_getElem (by omega))
        have hlt := (Array.getElem?_eq_some_iff.1 hy).1
        have hzz : cs.size = p.z := by
         obtain ⟨_, _, cs5, lo5, hi5, hw5, hz5, _, _⟩ := h.obj r _ p ho hp
         rw [hw] at hw5; cases hw5; exact hz5
        exact ⟨cs'[i + p2.s]'(by omega), by simp, by simp [R]⟩
       ·obtain ⟨y, hy, hR⟩ := hcx i v h8
        by_cases hv0 : v = .poison
        ·subst hv0
         have hlt := (Array.getElem?_eq_some_iff.1 hy).1
         have hzz : cs.size = p.z := by
          obtain ⟨_, _, cs5, lo5, hi5, hw5, hz5, _, _⟩ := h.obj r _ p ho hp
          rw [hw] at hw5; cases hw5; exact hz5
         exact ⟨cs'[i + p2.s]'(by omega), by simp, by simp [R]⟩
        ·refine ⟨y, ?_, hR⟩
         rw [hsame (i + p2.s) (fun hin => hv0 (hcov i v hv (by omega) (by omega)))]
         exact hy
     | _ => exact hk.elim
    ·rw [setBlk_other hbb]
     exact hor.weak h4
theorem allCells_spec : ∀ {vs : List AVal} {xs : List Value}, allCells vs = true → RL ρ vs xs → ∀ x ∈ xs, OneV x
 | [], xs, _, h => by simp only [RL] at h; subst h; simp
 | v :: vs, xs, ha, h => by
  simp only [RL] at h
  obtain ⟨y, ys, rfl, h1, h2⟩ := h
  have ha' : (bif isCell v then allCells vs else false) = true := ha
  cases hv : isCell v with
  | false => rw [hv] at ha'; cases ha'
  | true =>
   rw [hv] at ha'
   intro x hx
   rcases List.mem_cons.1 hx with rfl | hx
   ·cases v with
    | lit v =>
     simp only [R] at h1
     subst h1
     cases x <;> first | trivial | (simp [isCell] at hv)
    | poison => simp [isCell] at hv
    | agg l => simp [isCell] at hv
    | tuple l => simp [isCell] at hv
    | ptr r off => simp only [R] at h1; obtain ⟨p, _, rfl⟩ := h1; trivial
    | slice r off n c ex => simp only [R] at h1; obtain ⟨p, c', _, _, _, _, rfl⟩ := h1; trivial
    | emptyS => simp only [R] at h1; obtain ⟨a, c', rfl⟩ := h1; trivial
    | map r => simp only [R] at h1; obtain ⟨b, _, rfl⟩ := h1; trivial
    | func fn a b => simp only [R] at h1; obtain ⟨_, f', c', rfl, _⟩ := h1; trivial
    | yield l => simp only [R] at h1; obtain ⟨b, _, rfl⟩ := h1; trivial
    | iface t u => simp only [R] at h1; obtain ⟨y, rfl, _⟩ := h1; trivial
   ·exact allCells_spec ha' h2 x hx
theorem MR.storeCells (h : MR w0 B ρ m w) {r : Nat} {p : Pl} (hp : ρ r = some p) {off : Nat} {vs : List AVal} {m' : Mem} (e : Abs.storeCells m r off vs = some m') {xs : List Value}
  (hv : RL ρ vs xs) : ∃ w', (Go.storeCells ⟨p.b, off + p.s, none⟩ xs).run P w = .ok () w' ∧ MR w0 B ρ m' w' := by
 unfold Abs.storeCells at e
 split at e
 ·rename_i el cells f pos ho
  cases ha : allCells vs with
  | false => rw [ha] at e; cases e
  | true =>
   rw [ha, cond_true] at e
   unfold storeIn at e
   split at e
   ·cases e
   ·rename_i cells' hpc
    simp only [Option.some.injEq] at e
    obtain ⟨h1, h2, h3⟩ := putCells_spec vs off cells cells' hpc
    have hl := hv.length
    obtain ⟨hB, hq, cs, lo, hi, hw, hz, hc, hclr⟩ := h.obj r _ p ho hp
    have hfit : vs = [] ∨ off + p.s + vs.length ≤ cs.size := by
     rcases Nat.eq_zero_or_pos vs.length with h0 | h0
     ·exact .inl (List.length_eq_zero_iff.1 h0)
     ·obtain ⟨y, hy, _⟩ := hc (off + vs.length - 1) cells[off + vs.length - 1] (List.getElem?_eq_getElem (by omega))
      have := (Array.getElem?_eq_some_iff.1 hy).1
      exact .inr (by omega)
    have hone := allCells_spec ha hv
    have hrun : ∃ cs', (Go.storeCells ⟨p.b, off + p.s, none⟩ xs).run P w = .ok () (setBlk w p.b (.cells cs' el.1 (lo, hi))) ∧ cs'.size = cs.size ∧
      ∀ j, cs'[j]? = if off + p.s ≤ j ∧ j < off + p.s + xs.length then xs[j - (off + p.s)]? else cs[j]? := by
     rcases hfit with h0 | h0
     ·subst h0
      obtain rfl : xs = [] := by simp only [RL] at hv; exact hv
      refine ⟨cs, by rw [setBlk_self hw]; rfl, rfl, fun j => ?_⟩
      rw [if_neg (by simp)]
     ·have := run_storeCells (P := P) (b := p.b) (o := off + p.s) xs 0 w cs hw (by omega) (by rw [hz]; exact hclr.1) hone
      simpa using this
    obtain ⟨cs', hr, hz', hg⟩ := hrun
    refine ⟨_, hr, ?_⟩
    rw [← e, lenL_eq]
    refine h.write ho hp hw hclr ?_ (hz'.trans hz) (fun j hj => by rw [hg j, if_neg (by omega)])
    intro i v hiv
    rw [h3 i] at hiv
    rw [hg (i + p.s)]
    by_cases hin : off ≤ i ∧ i < off + vs.length
    ·rw [if_pos hin] at hiv
     rw [if_pos (by omega)]
     obtain ⟨y, hy, hR⟩ := hv.get hiv
     exact ⟨y, by rw [show i + p.s - (off + p.s) = i - off from by omega]; exact hy, hR⟩
    ·rw [if_neg hin] at hiv
     rw [if_neg (by omega)]
     exact hc i v hiv
 ·cases e
end
end Go.Abs
