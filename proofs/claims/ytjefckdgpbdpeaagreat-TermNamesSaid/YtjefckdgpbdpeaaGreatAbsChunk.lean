/- An executor whose runs hold in every world: a part of it and of what is proved of it. -/
import Derived.Test.YtjefckdgpbdpeaaGreatAbsDrawd

namespace Go.Abs
open Go
open Go.RowKit (Below)
/-! ## a closed call that is played in parts: the outermost frame's run goes on elsewhere -/
noncomputable section

/-- a piece of code -/
def cAt : List Bool → Code → Code
  | [], c => c
  | b :: p, c => match c with
    | .seq x y => cAt p (bif b then y else x)
    | .cond _ x y => cAt p (bif b then y else x)
    | .rangeFunc _ _ x y => cAt p (bif b then y else x)
    | .block _ x => cAt p x
    | .loop x => cAt p x
    | .scope x => cAt p x
    | c => c
def bodyOf (P : Program) (g : FuncId) : Code := match P.funcs[g]? with
  | some fn => (match fn.body with | some c => c | none => .skip)
  | none => .skip
def envOf (P : Program) (g : FuncId) : Env := ⟨g, (match P.funcs[g]? with | some fn => fn.ntmps | none => 0), false, none⟩
def isTrueR : RR → Bool
  | .ret (.lit (.bool true)) _ _ => true
  | _ => false
/-- the frame of function 'g' goes on for j items, then as K says; other frames run -/
def runTop (P : Program) (fl : Fl) (n : Nat) (g : FuncId) (K : Run) (j : Nat) : Run :=
  Nat.rec K (fun _ ih => bodyGo P fl (fun env => bif env.fn.beq g then ih env else run P fl n env)) j

def keepHeap (h : T AObj) (l : List Nat) : T AObj := List.rec .e (fun r _ ih => match h.get r with | some o => ih.set r o | none => ih) l
def keepFams (h : T (List Nat)) (l : List Nat) : T (List Nat) := List.rec .e (fun r _ ih => match h.get r with | some o => ih.set r o | none => ih) l
def keepTmps (t : T AVal) (l : List Nat) : T AVal := List.rec .e (fun r _ ih => match t.get r with | some o => ih.set r o | none => ih) l
def keepM (l lf : List Nat) (m : Mem) : Mem := match m with | ⟨h, n, fs, lo, d⟩ => ⟨keepHeap h l, n, keepFams fs lf, lo, d⟩
def famKept (lf : List Nat) (m : Mem) : Option AObj → Bool
  | some (.row _ _ f _) => hasN lf f || (match m.fams.get f with | some _ => false | none => true)
  | _ => true
def keepOK (lf : List Nat) (m : Mem) (l : List Nat) : Bool := List.rec (m.lo.beq 0) (fun r _ ih => bif famKept lf m (m.heap.get r) then ih else false) l
/-- what is needed no more is forgotten -/
def keepS (l lf lt : List Nat) (K : Run) : Run := fun env todo tmps ds mode up m => bif keepOK lf m l then K env todo (keepTmps tmps lt) ds mode up (keepM l lf m) else .bad "keep"
end

theorem getT_keep (t : T AVal) : ∀ (l : List Nat) (j : Nat), getT (keepTmps t l) j = getT t j ∨ getT (keepTmps t l) j = .poison
  | [], j => by right; show getT .e j = _; unfold getT; rw [T.get_e]
  | r :: l, j => by
    have e : keepTmps t (r :: l) = (match t.get r with | some o => (keepTmps t l).set r o | none => keepTmps t l) := rfl
    rw [e]
    cases h : t.get r with
    | none => exact getT_keep t l j
    | some o =>
      dsimp only
      rw [getT_set]
      by_cases hj : r = j
      · subst hj
        rw [if_pos rfl]
        left; unfold getT; rw [h]
      · rw [if_neg hj]; exact getT_keep t l j
theorem get_keepHeap (h : T AObj) : ∀ (l : List Nat) (q : Nat) (o : AObj), (keepHeap h l).get q = some o → h.get q = some o ∧ q ∈ l
  | [], q, o, e => by have e' : (T.e : T AObj).get q = some o := e; rw [T.get_e] at e'; cases e'
  | r :: l, q, o, e => by
    have e0 : keepHeap h (r :: l) = (match h.get r with | some o => (keepHeap h l).set r o | none => keepHeap h l) := rfl
    rw [e0] at e
    cases hr : h.get r with
    | none => rw [hr] at e; obtain ⟨a, b⟩ := get_keepHeap h l q o e; exact ⟨a, List.mem_cons_of_mem _ b⟩
    | some o' =>
      rw [hr] at e
      dsimp only at e
      rw [T.get_set] at e
      by_cases hq : r = q
      · subst hq
        rw [if_pos rfl] at e
        cases e
        exact ⟨hr, List.mem_cons_self ..⟩
      · rw [if_neg hq] at e
        obtain ⟨a, b⟩ := get_keepHeap h l q o e
        exact ⟨a, List.mem_cons_of_mem _ b⟩
theorem get_keepFams (h : T (List Nat)) : ∀ (l : List Nat) (q : Nat), (keepFams h l).get q = h.get q ∨ ((keepFams h l).get q = none ∧ q ∉ l)
  | [], q => by right; exact ⟨T.get_e _, by simp⟩
  | r :: l, q => by
    have e0 : keepFams h (r :: l) = (match h.get r with | some o => (keepFams h l).set r o | none => keepFams h l) := rfl
    rw [e0]
    by_cases hq : r = q
    · subst hq
      left
      cases hr : h.get r with
      | none =>
        dsimp only
        rcases get_keepFams h l r with a | ⟨a, b⟩
        · rw [a, hr]
        · exact a
      | some o' => dsimp only; rw [T.get_set_same]
    · have step : (match h.get r with | some o => (keepFams h l).set r o | none => keepFams h l).get q = (keepFams h l).get q := by
        cases h.get r with
        | none => rfl
        | some o' => exact T.get_set_other _ _ hq
      rw [step]
      rcases get_keepFams h l q with a | ⟨a, b⟩
      · exact .inl a
      · exact .inr ⟨a, fun hm => by rcases List.mem_cons.1 hm with e | e; exact hq e.symm; exact b e⟩
theorem hasN_mem {l : List Nat} {k : Nat} (h : hasN l k = true) : k ∈ l := by
  induction l with
  | nil => cases h
  | cons x l ih =>
    have h' : (bif x.beq k then true else hasN l k) = true := h
    cases hx : x.beq k with
    | true => rw [nat_beq] at hx; subst hx; exact List.mem_cons_self ..
    | false => rw [hx] at h'; exact List.mem_cons_of_mem _ (ih h')
theorem keepOK_cons (lf : List Nat) (m : Mem) (r : Nat) (l : List Nat) : keepOK lf m (r :: l) = bif famKept lf m (m.heap.get r) then keepOK lf m l else false := rfl
theorem keepOK_spec {lf : List Nat} {m : Mem} : ∀ {l : List Nat}, keepOK lf m l = true → m.lo = 0 ∧ ∀ r ∈ l, ∀ e cs f p, m.heap.get r = some (.row e cs f p) → f ∈ lf ∨ m.fams.get f = none
  | [], h => ⟨nat_beq.1 h, fun r hr => by cases hr⟩
  | a :: l, h => by
    rw [keepOK_cons] at h
    cases hf : famKept lf m (m.heap.get a) with
    | false => rw [hf] at h; cases h
    | true =>
      rw [hf, cond_true] at h
      obtain ⟨h1, h2⟩ := keepOK_spec h
      refine ⟨h1, fun r hr e cs f p ho => ?_⟩
      rcases List.mem_cons.1 hr with rfl | hr
      · rw [ho] at hf
        have hf' : (hasN lf f || (match m.fams.get f with | some _ => false | none => true)) = true := hf
        rw [Bool.or_eq_true] at hf'
        rcases hf' with h3 | h3
        · exact .inl (hasN_mem h3)
        · right
          cases hm : m.fams.get f with
          | none => rfl
          | some l => rw [hm] at h3; cases h3
      · exact h2 r hr e cs f p ho

section
variable {P : Program} {w0 : Wo} {B : Nat} {ρ : Rho} {m : Mem} {w : World} {fl : Fl}

theorem MR.keep (h : MR w0 B ρ m w) {l lf : List Nat} (hk : keepOK lf m l = true) : MR w0 B ρ (keepM l lf m) w := by
  obtain ⟨_, hrow⟩ := keepOK_spec hk
  have e1 : (keepM l lf m).heap = keepHeap m.heap l := by cases m; rfl
  have e2 : (keepM l lf m).next = m.next := by cases m; rfl
  have e3 : (keepM l lf m).fams = keepFams m.fams lf := by cases m; rfl
  have hin : ∀ {q o}, (keepM l lf m).heap.get q = some o → m.heap.get q = some o ∧ q ∈ l := by
    intro q o hq
    rw [e1] at hq
    exact get_keepHeap _ _ _ _ hq
  have hfam : ∀ {q e cs f p}, (keepM l lf m).heap.get q = some (.row e cs f p) → (keepM l lf m).fams.get f = m.fams.get f := by
    intro q e cs f p hq
    obtain ⟨h1, h2⟩ := hin hq
    rw [e3]
    rcases get_keepFams m.fams lf f with a | ⟨a, b⟩
    · exact a
    · rcases hrow q h2 e cs f p h1 with c | c
      · exact absurd c b
      · rw [a, c]
  refine ⟨?_, ?_, ?_, ?_, ?_, ?_, ?_, ?_, h.below, h.base, fun q hq => by rw [e2]; exact h.ban q hq⟩
  · intro q o p h1 h2; exact h.obj q o p (hin h1).1 h2
  · intro q q' o1 o2 p1 p2 hne h1 h2 h3 h4 h5; exact h.inj q q' o1 o2 p1 p2 hne (hin h1).1 (hin h2).1 h3 h4 h5
  · intro q hq; rw [e2] at hq; exact h.dom q hq
  · intro q hq
    rw [e2] at hq
    cases hg : (keepM l lf m).heap.get q with
    | none => rfl
    | some o => have := (hin hg).1; rw [h.hdom q hq] at this; cases this
  · intro f l' hl
    rw [e3] at hl
    rw [e2]
    rcases get_keepFams m.fams lf f with a | ⟨a, _⟩
    · rw [a] at hl; exact h.famlt f l' hl
    · rw [a] at hl; cases hl
  · intro q e cs f p h1; rw [e2]; exact h.rowfam q e cs f p (hin h1).1
  · intro q e cs f p l' h1 h2; rw [hfam h1] at h2; exact h.fam q e cs f p l' (hin h1).1 h2
  · intro q q' e e' cs cs' f p p' h1 h2 h3; rw [hfam h1] at h3; exact h.lone q q' e e' cs cs' f p p' (hin h1).1 (hin h2).1 h3

theorem keepS_sound {l lf lt : List Nat} {K : Run} (hK : Sound P w0 B K) : Sound P w0 B (keepS l lf lt K) := by
  intro env todo tmps ds mode up m ρ w fr cs h hF hU
  unfold keepS
  cases hk : keepOK lf m l with
  | false => exact trivial
  | true =>
    rw [cond_true]
    have hT : TR ρ (keepTmps tmps lt) fr.tmps := by
      intro j
      rcases getT_keep tmps lt j with e | e
      · rw [e]; exact hF.tmps j
      · rw [e]; simp [R]
    have e2 : (keepM l lf m).next = m.next := by cases m; rfl
    have e4 : (keepM l lf m).lo = m.lo := by cases m; rfl
    have e5 : (keepM l lf m).dirty = m.dirty := by cases m; rfl
    refine Res.later (Rho.le.refl ρ) ⟨e4, by rw [e2]; exact Nat.le_refl _, fun e => by rw [← e5]; exact e, fun _ _ r hr => ?_⟩ (SameCs.refl _ _) (hK env todo _ ds mode up _ ρ w fr cs (h.keep hk) (hF.retmps hT) hU)
    rw [(keepOK_spec hk).1] at hr
    omega

theorem run_ok (hnames : NamesOK P) (htb : TbOK P fl) (hmix : P.follows .mixedOrders = true) (n : Nat) (w0 : Wo) : Sound P w0 B (run P fl n) :=
  run_sound hnames htb (fun rec hrec w0 => draw_ok hnames htb hmix B rec hrec w0) n w0
theorem runTop_sound (hnames : NamesOK P) (htb : TbOK P fl) (hmix : P.follows .mixedOrders = true) {n : Nat} {g : FuncId} {K : Run} (hK : ∀ w0, Sound P w0 B K) : ∀ (j : Nat) (w0 : Wo), Sound P w0 B (runTop P fl n g K j) := by
  intro j
  induction j with
  | zero => exact hK
  | succ j ih =>
    intro w0
    have hrec : ∀ w0, Sound P w0 B (fun env => bif env.fn.beq g then runTop P fl n g K j env else run P fl n env) := by
      intro w0 env todo tmps ds mode up m ρ w fr cs h hF hU
      dsimp only
      cases env.fn.beq g with
      | true => exact ih w0 env todo tmps ds mode up m ρ w fr cs h hF hU
      | false => exact run_ok hnames htb hmix n w0 env todo tmps ds mode up m ρ w fr cs h hF hU
    exact body_sound hnames htb (hrec w0) (draw_ok hnames htb hmix B _ hrec w0)

theorem isTrueR_spec {r : RR} (h : isTrueR r = true) : ∃ up m, r = .ret (.lit (.bool true)) up m := by
  unfold isTrueR at h
  split at h
  · exact ⟨_, _, rfl⟩
  · cases h
/-- A CALL, PLAYED BY ANY SOUND RUN ON A MEMORY THAT FITS -/
theorem calls_by {Rn : Run} (hR : ∀ B w0, Sound P w0 B Rn) {f : FuncId} {args : List AVal} {xs : Array Value} {v : Value} {up' : Chain} {m' : Mem} {w : World} (h : MR ⟨w, fun _ => False⟩ w.heap.size ρ m w) (hl : RL ρ args xs.toList)
    (e : callBody0 Rn false f args [] m P.funcs[f]? = .ret (.lit v) up' m') : Calls P f xs w fun e w' => e = .returned v ∧ Below w.heap.size w w' := by
  intro cs
  rcases callBody0_sound (hR w.heap.size ⟨w, fun _ => False⟩) h hl false (up := []) (cs := cs) (fun e => by cases e) (f := f) with ⟨why, hb⟩ | ⟨fn, c, hf, hb, hr⟩
  · rw [e] at hb; cases hb
  · rw [e] at hr
    obtain ⟨_, ρ', w1, w', fr', cs', x, h1, h2, h3, h4, h5, h6, h7, h8, h9⟩ := hr
    obtain ⟨rfl, hm, hd, hfn, hres⟩ := h9 rfl
    have hcs := h5.1 rfl
    subst hcs
    simp only [R] at h4
    subst h4
    refine ⟨.returned x, w1, fr', ⟨rfl, h3.below⟩, h1, hfn, hm, hd, h7, hres⟩
/-- A CLOSED CALL, PLAYED BY ANY SOUND RUN -/
theorem closed_by {Rn : Run} (hR : ∀ B w0, Sound P w0 B Rn) {f : FuncId} {v : Value} {up' : Chain} {m' : Mem}
    (e : callBody0 Rn false f [] [] mem0 P.funcs[f]? = .ret (.lit v) up' m') (w : World) : Calls P f #[] w fun e w' => e = .returned v ∧ Below w.heap.size w w' := by
  intro cs
  rcases callBody0_sound (hR w.heap.size ⟨w, fun _ => False⟩) (MR.empty w) (args := []) (xs := #[]) (by simp [RL]) false (up := []) (cs := cs) (fun e => by cases e) (f := f) with ⟨why, hb⟩ | ⟨fn, c, hf, hb, hr⟩
  · rw [e] at hb; cases hb
  · rw [e] at hr
    obtain ⟨_, ρ', w1, w', fr', cs', x, h1, h2, h3, h4, h5, h6, h7, h8, h9⟩ := hr
    obtain ⟨rfl, hm, hd, hfn, hres⟩ := h9 rfl
    have hcs := h5.1 rfl
    subst hcs
    simp only [R] at h4
    subst h4
    refine ⟨.returned x, w1, fr', ⟨rfl, h3.below⟩, h1, hfn, hm, hd, h7, hres⟩
end
end Go.Abs
