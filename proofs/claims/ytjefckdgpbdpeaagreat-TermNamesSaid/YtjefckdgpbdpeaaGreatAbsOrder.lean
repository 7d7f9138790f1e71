/- An executor whose runs hold in every world: a part of it and of what is proved of it. -/
import Derived.Test.YtjefckdgpbdpeaaGreatAbsCongr
import Derived.Orders

namespace Go.Abs
open Go

/-! ## what must come before -/
theorem edgeBits_nil (bs : List Nat) : edgeBits bs [] = 0 := rfl
theorem edgeBits_cons (bs : List Nat) (e : Edge) (es : List Edge) : edgeBits bs (e :: es) =
    bif Region.binds .any e then (((Nat.pow 2 e.on).lor ((match getO bs e.on with | some b => b | none => 0))).lor (edgeBits bs es)) else edgeBits bs es := rfl
theorem edgeBits_spec (bs : List Nat) (b : Nat) : ∀ es : List Edge, (edgeBits bs es).testBit b = true →
    ∃ e ∈ es, Region.binds .any e = true ∧ (b = e.on ∨ ∃ mk, bs[e.on]? = some mk ∧ mk.testBit b = true)
  | [], h => by rw [edgeBits_nil] at h; simp at h
  | e :: es, h => by
    rw [edgeBits_cons] at h
    cases hb : Region.binds .any e with
    | false =>
      rw [hb] at h
      obtain ⟨e', h1, h2⟩ := edgeBits_spec bs b es h
      exact ⟨e', by simp [h1], h2⟩
    | true =>
      rw [hb, cond_true] at h
      have h' : (((2 ^ e.on) ||| (match getO bs e.on with | some b => b | none => 0)) ||| edgeBits bs es).testBit b = true := h
      rw [Nat.testBit_or, Nat.testBit_or, Bool.or_eq_true, Bool.or_eq_true] at h'
      rcases h' with (h1 | h1) | h1
      · rw [Nat.testBit_two_pow] at h1
        have : e.on = b := by simpa using h1
        exact ⟨e, by simp, hb, .inl this.symm⟩
      · rw [getO_eq] at h1
        cases hg : bs[e.on]? with
        | none => rw [hg] at h1; simp at h1
        | some mk => rw [hg] at h1; exact ⟨e, by simp, hb, .inr ⟨mk, hg, h1⟩⟩
      · obtain ⟨e', h2, h3⟩ := edgeBits_spec bs b es h1
        exact ⟨e', by simp [h2], h3⟩

theorem befores_prefix : ∀ (ops : List Oper) (acc : List Nat), ∃ t, beforesFrom acc ops = acc ++ t
  | [], acc => ⟨[], by simp [beforesFrom]⟩
  | o :: rest, acc => by
    obtain ⟨t, ht⟩ := befores_prefix rest (appL acc [edgeBits acc o.after.toList])
    exact ⟨_, by rw [beforesFrom, ht, appL_eq, List.append_assoc]⟩
theorem befores_get : ∀ (ops : List Oper) (acc : List Nat) (i : Nat) (o : Oper), ops[i]? = some o →
    ∃ acc', (beforesFrom acc ops)[acc.length + i]? = some (edgeBits acc' o.after.toList) ∧ ∃ t, beforesFrom acc ops = acc' ++ t
  | [], acc, i, o, h => by simp at h
  | a :: rest, acc, i, o, h => by
    cases i with
    | zero =>
      simp only [List.getElem?_cons_zero, Option.some.injEq] at h
      subst h
      obtain ⟨t, ht⟩ := befores_prefix rest (appL acc [edgeBits acc a.after.toList])
      refine ⟨acc, ?_, [edgeBits acc a.after.toList] ++ t, ?_⟩
      · rw [beforesFrom, ht, appL_eq]
        simp
      · rw [beforesFrom, ht, appL_eq, List.append_assoc]
    | succ i =>
      simp only [List.getElem?_cons_succ] at h
      obtain ⟨acc', h1, t, h2⟩ := befores_get rest (appL acc [edgeBits acc a.after.toList]) i o h
      refine ⟨acc', ?_, t, by rw [beforesFrom, h2]⟩
      rw [beforesFrom]
      rw [appL_eq] at h1 ⊢
      rw [List.length_append, List.length_singleton] at h1
      rw [show acc.length + (i + 1) = acc.length + 1 + i from by omega]
      exact h1
theorem befores_bit {ops : List Oper} {i : Nat} {o : Oper} (h : ops[i]? = some o) : ∃ mk, (befores ops)[i]? = some mk ∧
    ∀ b, mk.testBit b = true → ∃ e ∈ o.after.toList, Region.binds .any e = true ∧ (b = e.on ∨ ∃ mk', (befores ops)[e.on]? = some mk' ∧ mk'.testBit b = true) := by
  obtain ⟨acc', h1, t, h2⟩ := befores_get ops [] i o h
  simp only [List.length_nil, Nat.zero_add] at h1
  refine ⟨_, h1, fun b hb => ?_⟩
  obtain ⟨e, he, hbd, h3⟩ := edgeBits_spec acc' b _ hb
  refine ⟨e, he, hbd, ?_⟩
  rcases h3 with h3 | ⟨mk, h4, h5⟩
  · exact .inl h3
  · right
    refine ⟨mk, ?_, h5⟩
    unfold befores
    rw [h2]
    have hlt := (List.getElem?_eq_some_iff.1 h4).1
    rw [List.getElem?_append_left hlt]
    exact h4
theorem isBit_eq (m i : Nat) : isBit m i = m.testBit i := by
  unfold isBit
  have : (m.shiftRight i).mod 2 = (m >>> i) % 2 := rfl
  rw [this, Nat.testBit, Nat.and_comm, Nat.and_one_is_mod]
  cases Nat.mod_two_eq_zero_or_one (m >>> i) with
  | inl h => rw [h]; rfl
  | inr h => rw [h]; rfl

/-- what is listed is closed under what must come before -/
def Closed (ops : List Oper) (listed : Array Bool) : Prop :=
  ∀ j mk, listed.getD j false = true → (befores ops)[j]? = some mk → ∀ b, mk.testBit b = true → listed.getD b false = true
theorem ready_mask {ops : Array Oper} {listed : Array Bool} (hc : Closed ops.toList listed) {i : Nat} (hi : i ∈ Region.ready .any ops listed) {mk : Nat} (hm : (befores ops.toList)[i]? = some mk) :
    ∀ b, mk.testBit b = true → listed.getD b false = true := by
  obtain ⟨_, o, ho, hall⟩ := mem_ready.1 hi
  obtain ⟨mk', h1, h2⟩ := befores_bit (ops := ops.toList) (i := i) (o := o) (by simpa using ho)
  rw [hm] at h1
  cases h1
  intro b hb
  obtain ⟨e, he, hbd, h3⟩ := h2 b hb
  have hl := hall e (by simpa using he) hbd
  rcases h3 with rfl | ⟨mk2, h4, h5⟩
  · exact hl
  · exact hc _ _ hl h4 b h5
theorem getD_set_eq {l : Array Bool} {i j : Nat} (hi : i < l.size) (d : Bool) : (l.setIfInBounds i true).getD j d = if i = j then true else l.getD j d := by
  rw [Array.getD_eq_getD_getElem?, Array.getElem?_setIfInBounds]
  by_cases h : i = j
  · subst h; simp [hi]
  · rw [if_neg h, if_neg h, Array.getD_eq_getD_getElem?]
theorem Closed.set {ops : Array Oper} {listed : Array Bool} (hc : Closed ops.toList listed) (hs : listed.size = ops.size) {i : Nat} (hi : i ∈ Region.ready .any ops listed) : Closed ops.toList (listed.setIfInBounds i true) := by
  obtain ⟨_, o, ho, _⟩ := mem_ready.1 hi
  have hlt : i < listed.size := by rw [hs]; exact (Array.getElem?_eq_some_iff.1 ho).1
  intro j mk hj hm b hb
  rw [getD_set_eq hlt] at hj ⊢
  by_cases h : i = j
  · subst h
    have := ready_mask hc hi hm b hb
    rw [this]; simp
  · rw [if_neg h] at hj
    have := hc j mk hj hm b hb
    rw [this]; simp

/-- an order that the machine may take, from what is listed -/
def Ord (ops : Array Oper) : Array Bool → List Nat → Prop
  | listed, [] => Region.ready .any ops listed = []
  | listed, i :: L => i ∈ Region.ready .any ops listed ∧ Ord ops (listed.setIfInBounds i true) L

def unlisted (listed : Array Bool) : Nat := (listed.toList.filter (!·)).length
theorem unlisted_set {listed : Array Bool} {i : Nat} (h : listed[i]? = some false) : unlisted (listed.setIfInBounds i true) + 1 = unlisted listed := by
  unfold unlisted
  rw [Array.toList_setIfInBounds]
  obtain ⟨l⟩ := listed
  simp only [List.getElem?_toArray] at h
  dsimp only
  induction l generalizing i with
  | nil => simp at h
  | cons a l ih =>
    cases i with
    | zero => simp only [List.getElem?_cons_zero, Option.some.injEq] at h; subst h; simp
    | succ i =>
      simp only [List.getElem?_cons_succ] at h
      have := ih h
      cases a <;> simp [List.set_cons_succ] at this ⊢ <;> omega
theorem ord_go {ops : Array Oper} : ∀ (fuel t : Nat) (listed : Array Bool), listed.size = ops.size → unlisted listed ≤ fuel → Ord ops listed (Region.linearise.go .any ops fuel t listed [])
  | 0, t, listed, hs, hf => by
    show Region.ready .any ops listed = []
    rw [List.eq_nil_iff_forall_not_mem]
    intro j hj
    obtain ⟨h1, o, ho, _⟩ := mem_ready.1 hj
    have hlt : j < listed.size := by rw [hs]; exact (Array.getElem?_eq_some_iff.1 ho).1
    have h2 : listed[j]? = some false := by
      rw [Array.getD_eq_getD_getElem?] at h1
      rw [Array.getElem?_eq_getElem hlt] at h1 ⊢
      simpa using h1
    have := unlisted_set h2
    omega
  | fuel + 1, t, listed, hs, hf => by
    simp only [Region.linearise.go]
    change Ord ops listed (match (Region.ready .any ops listed)[t % (Region.ready .any ops listed).length]? with
      | some i => Region.linearise.go .any ops fuel (t / (Region.ready .any ops listed).length) (listed.setIfInBounds i true) [i]
      | none => [].reverse)
    cases hi : (Region.ready .any ops listed)[t % (Region.ready .any ops listed).length]? with
    | none =>
      show Region.ready .any ops listed = []
      cases hr : Region.ready .any ops listed with
      | nil => rfl
      | cons x xs =>
        rw [hr] at hi
        have hlt : t % (x :: xs).length < (x :: xs).length := Nat.mod_lt _ (by simp)
        rw [List.getElem?_eq_getElem hlt] at hi
        cases hi
    | some i =>
      have hmem := List.mem_of_getElem? hi
      dsimp only
      rw [linearise_go_acc, List.reverse_singleton, List.singleton_append]
      refine ⟨hmem, ord_go fuel _ _ (by simpa using hs) ?_⟩
      obtain ⟨h1, o, ho, _⟩ := mem_ready.1 hmem
      have hlt : i < listed.size := by rw [hs]; exact (Array.getElem?_eq_some_iff.1 ho).1
      have h2 : listed[i]? = some false := by
        rw [Array.getD_eq_getD_getElem?] at h1
        rw [Array.getElem?_eq_getElem hlt] at h1 ⊢
        simpa using h1
      have := unlisted_set h2
      omega
theorem ord_start (ops : Array Oper) (t : Nat) : Ord ops (Array.replicate ops.size false) (Region.linearise .any ops t) :=
  ord_go ops.size t _ (by simp) (by unfold unlisted; simp)
theorem closed_start (ops : Array Oper) : Closed ops.toList (Array.replicate ops.size false) := by
  intro j mk hj
  rw [Array.getD_eq_getD_getElem?, Array.getElem?_replicate] at hj
  split at hj <;> simp at hj

/-- the edges go back: what can't go on has listed all -/
theorem edgesOK_spec : ∀ (ops : List Oper) (i : Nat), edgesOK i ops = true → ∀ j o, ops[j]? = some o → (∀ e ∈ o.after.toList, Region.binds .any e = true → e.on < i + j) ∧
    (∀ g want, o.guard = some (g, want) → ∃ e ∈ o.after.toList, e.on = g ∧ Region.binds .any e = true)
  | [], i, _, j, o, h => by simp at h
  | a :: rest, i, hk, j, o, h => by
    unfold edgesOK at hk
    rw [Bool.and_eq_true, Bool.and_eq_true] at hk
    obtain ⟨⟨h1, h2⟩, h3⟩ := hk
    cases j with
    | zero =>
      simp only [List.getElem?_cons_zero, Option.some.injEq] at h
      subst h
      constructor
      · intro e he hb
        rw [List.all_eq_true] at h1
        have := h1 e he
        rw [hb] at this
        have h4 : e.on.blt i = true := by simpa using this
        simpa [Nat.blt_eq] using h4
      · intro g want hg
        rw [hg] at h2
        simp only [List.any_eq_true, Bool.and_eq_true] at h2
        obtain ⟨e, he, h4, h5⟩ := h2
        exact ⟨e, he, nat_beq.1 h4, h5⟩
    | succ j =>
      simp only [List.getElem?_cons_succ] at h
      obtain ⟨h4, h5⟩ := edgesOK_spec rest i.succ h3 j o h
      refine ⟨fun e he hb => ?_, h5⟩
      have := h4 e he hb
      have : e.on < i + 1 + j := this
      omega
theorem all_listed {ops : Array Oper} (hk : edgesOK 0 ops.toList = true) {listed : Array Bool} (hs : listed.size = ops.size) (hr : Region.ready .any ops listed = []) : ∀ j, j < ops.size → listed.getD j false = true := by
  intro j
  induction j using Nat.strongRecOn with
  | _ j ih =>
    intro hj
    cases hl : listed.getD j false with
    | true => rfl
    | false =>
      exfalso
      have hlt : j < listed.size := by omega
      have hmem : j ∈ Region.ready .any ops listed := by
        rw [mem_ready]
        refine ⟨?_, ops[j], Array.getElem?_eq_getElem hj, ?_⟩
        · rw [Array.getD_eq_getD_getElem?, Array.getElem?_eq_getElem hlt] at hl ⊢
          exact hl
        · intro e he hb
          have := (edgesOK_spec ops.toList 0 hk j ops[j] (by simp [hj])).1 e (by simpa using he) hb
          exact ih e.on (by omega) (by omega)
      rw [hr] at hmem
      cases hmem
end Go.Abs

namespace Go.Abs
open Go

/-- what a plan runs -/
def itemsT : PTree → List PItem
  | .fin => []
  | .light p r => p :: itemsT r
  | .heavy p r => p :: itemsT r
  | .either a b => itemsT a ++ itemsT b
theorem growT_mem : ∀ (f done : Nat) (left : List PItem) {p : PItem}, p ∈ itemsT (growT f done left) → p ∈ left
  | 0, _, _, p, h => by simp [growT, itemsT] at h
  | f + 1, done, left, p, h => by
    have sub : ∀ {q : PItem}, q ∈ left → ∀ {done'}, p ∈ q :: itemsT (growT f done' (left.filter fun x => !(x.ix.beq q.ix))) → p ∈ left := by
      intro q hq done' h
      rcases List.mem_cons.1 h with rfl | h
      · exact hq
      · exact (List.mem_filter.1 (growT_mem f _ _ h)).1
    have inF : ∀ {q : PItem}, q ∈ left.filter (readyP done) → q ∈ left := fun h => (List.mem_filter.1 h).1
    unfold growT at h
    split at h
    · rename_i q hq
      exact sub (List.mem_of_find?_eq_some hq) h
    · split at h
      · rename_i q hl
        exact sub (inF (by rw [hl]; simp)) h
      · rename_i q r hl
        rcases List.mem_append.1 h with h | h
        · exact sub (q := q) (inF (by rw [hl]; simp)) h
        · exact sub (q := r) (inF (by rw [hl]; simp)) h
      · simp [itemsT] at h
theorem items_mem {ops : List Oper} {p : PItem} (h : p ∈ items ops) : ops[p.ix]? = some p.o ∧ (befores ops)[p.ix]? = some p.mask ∧ p.kind = okind p.o.op := by
  unfold items at h
  rw [List.mem_map] at h
  obtain ⟨⟨⟨o, mk⟩, i⟩, hx, rfl⟩ := h
  have h1 := List.mem_zipIdx hx
  obtain ⟨_, _, h3⟩ := h1
  dsimp only at h3 ⊢
  have h4 : (ops.zip (befores ops))[i]? = some (o, mk) := by
    have hx' := List.mem_zipIdx_iff_getElem?.1 hx
    simpa using hx'
  rw [List.getElem?_zip_eq_some] at h4
  exact ⟨h4.1, h4.2, rfl⟩

theorem testBit_or_pow (m i b : Nat) : (m.lor (Nat.pow 2 i)).testBit b = (m.testBit b || (i == b)) := by
  have : m.lor (Nat.pow 2 i) = m ||| 2 ^ i := rfl
  rw [this, Nat.testBit_or, Nat.testBit_two_pow]
  congr 1
theorem land_eq {a b : Nat} (h : a.land b = a) {i : Nat} (ha : a.testBit i = true) : b.testBit i = true := by
  have h1 : a &&& b = a := h
  have := congrArg (·.testBit i) h1
  simp only [Nat.testBit_and, ha, Bool.true_and] at this
  exact this

theorem items_all {ops : Array Oper} {i : Nat} (h : i < ops.size) : ∃ q ∈ items ops.toList, q.ix = i := by
  have ho : ops.toList[i]? = some ops[i] := by simp [h]
  obtain ⟨mk, hm, _⟩ := befores_bit ho
  refine ⟨⟨i, ops[i], mk, okind ops[i].op⟩, ?_, rfl⟩
  unfold items
  rw [List.mem_map]
  refine ⟨((ops[i], mk), i), ?_, rfl⟩
  rw [List.mem_zipIdx_iff_getElem?]
  rw [List.getElem?_zip_eq_some]
  exact ⟨ho, hm⟩

theorem readyP_iff {done : Nat} {p : PItem} : readyP done p = true ↔ ∀ b, p.mask.testBit b = true → done.testBit b = true := by
  unfold readyP
  rw [nat_beq]
  constructor
  · intro h b hb; exact land_eq h hb
  · intro h
    have : p.mask &&& done = p.mask := by
      apply Nat.eq_of_testBit_eq
      intro b
      rw [Nat.testBit_and]
      cases hb : p.mask.testBit b with
      | false => rfl
      | true => rw [h b hb]; rfl
    exact this
theorem fitP_spec {done : Nat} {p : PItem} (h : fitP done p = true) : (∀ b, p.mask.testBit b = true → done.testBit b = true) ∧ done.testBit p.ix = false := by
  unfold fitP at h
  rw [Bool.and_eq_true, readyP_iff, isBit_eq] at h
  exact ⟨h.1, by simpa using h.2⟩

/-- the ways on from a heavy place -/
def branchesT : PTree → List (PItem × PTree)
  | .heavy p r => [(p, r)]
  | .either a b => branchesT a ++ branchesT b
  | _ => []
theorem headsT_eq : ∀ t : PTree, headsT t = (branchesT t).map (·.1.ix)
  | .fin => rfl
  | .light _ _ => rfl
  | .heavy _ _ => rfl
  | .either a b => by simp [headsT, branchesT, headsT_eq a, headsT_eq b]
theorem okT_branches {all : List PItem} {full : Nat} : ∀ (t : PTree) (top : Bool) (done : Nat), okT all full t top done = true → ∀ x ∈ branchesT t, fitP done x.1 = true ∧ okT all full x.2 true (done.lor (Nat.pow 2 x.1.ix)) = true
  | .fin, _, _, _, x, hx => by cases hx
  | .light _ _, _, _, _, x, hx => by cases hx
  | .heavy p r, top, done, h, x, hx => by
    simp only [branchesT, List.mem_singleton] at hx
    subst hx
    unfold okT at h
    rw [Bool.and_eq_true, Bool.and_eq_true] at h
    exact h.1
  | .either a b, top, done, h, x, hx => by
    unfold okT at h
    rw [Bool.and_eq_true, Bool.and_eq_true] at h
    rcases List.mem_append.1 hx with hx | hx
    · exact okT_branches a false done h.1.1 x hx
    · exact okT_branches b false done h.1.2 x hx
theorem okT_whole {all : List PItem} {full : Nat} {t : PTree} {done : Nat} (h : okT all full t true done = true) (hb : (∃ p r, t = .heavy p r) ∨ ∃ a b, t = .either a b) :
    ∀ q ∈ all, done.testBit q.ix = true ∨ readyP done q = false ∨ ∃ x ∈ branchesT t, x.1.ix = q.ix := by
  have key : wholeT all done (headsT t) = true := by
    rcases hb with ⟨p, r, rfl⟩ | ⟨a, b, rfl⟩
    · unfold okT at h
      rw [Bool.and_eq_true] at h
      simpa [headsT] using h.2
    · unfold okT at h
      simp only [Bool.and_eq_true, Bool.not_true, Bool.false_or] at h
      exact h.2.1
  intro q hq
  unfold wholeT at key
  rw [List.all_eq_true] at key
  have := key q hq
  rw [Bool.or_eq_true, Bool.or_eq_true, isBit_eq] at this
  rcases this with (h1 | h1) | h1
  · exact .inl h1
  · exact .inr (.inl (by simpa using h1))
  · right; right
    rw [List.contains_iff_mem, headsT_eq, List.mem_map] at h1
    obtain ⟨x, h2, h3⟩ := h1
    exact ⟨x, h2, h3⟩
theorem okT_some {all : List PItem} {full : Nat} {t : PTree} {top : Bool} {done : Nat} (h : okT all full t top done = true) (hb : (∃ p r, t = .heavy p r) ∨ ∃ a b, t = .either a b) : ∃ x, x ∈ branchesT t := by
  rcases hb with ⟨p, r, rfl⟩ | ⟨a, b, rfl⟩
  · exact ⟨_, List.mem_singleton.2 rfl⟩
  · unfold okT at h
    simp only [Bool.and_eq_true] at h
    have h1 := h.2.2
    have h2 : headsT a ++ headsT b = (branchesT (.either a b)).map (·.1.ix) := headsT_eq (.either a b)
    rw [h2] at h1
    cases hb : branchesT (.either a b) with
    | cons x _ => exact ⟨x, by simp⟩
    | nil => rw [hb] at h1; cases h1
theorem okT_light {all : List PItem} {full : Nat} {p : PItem} {r : PTree} {top : Bool} {done : Nat} (h : okT all full (.light p r) top done = true) : fitP done p = true ∧ p.kind < 3 ∧ okT all full r true (done.lor (Nat.pow 2 p.ix)) = true := by
  unfold okT at h
  rw [Bool.and_eq_true, Bool.and_eq_true] at h
  exact ⟨h.1.1, by simpa [Nat.blt_eq] using h.1.2, h.2⟩
theorem okT_fin {all : List PItem} {full : Nat} {top : Bool} {done : Nat} (h : okT all full .fin top done = true) : done = full := by
  unfold okT at h
  exact nat_beq.1 h

structure PlanOK (ops : Array Oper) (t : PTree) : Prop where
  item : ∀ p ∈ itemsT t, ops[p.ix]? = some p.o ∧ (befores ops.toList)[p.ix]? = some p.mask ∧ p.kind = okind p.o.op
  ord : okT (items ops.toList) (2 ^ ops.size - 1) t true 0 = true
  edges : edgesOK 0 ops.toList = true
  tmps : tmpsOK (befores ops.toList) (ops.toList.zipIdx.map fun x => (x.2, x.1)) = true
theorem plan_spec {ops : Array Oper} {its : PTree} (h : plan ops.toList = some its) : PlanOK ops its := by
  unfold plan at h
  cases hc : (okT (items ops.toList) ((Nat.pow 2 ops.toList.length).sub 1) (plan0 ops.toList) true 0 && edgesOK 0 ops.toList && tmpsOK (befores ops.toList) (ops.toList.zipIdx.map fun x => (x.2, x.1))) with
  | false => rw [hc] at h; cases h
  | true =>
    rw [hc] at h
    cases h
    rw [Bool.and_eq_true, Bool.and_eq_true] at hc
    obtain ⟨⟨h1, h2⟩, h3⟩ := hc
    refine ⟨fun p hp => ?_, ?_, h2, h3⟩
    · obtain ⟨a, b, c⟩ := items_mem (growT_mem _ _ _ hp)
      exact ⟨by simpa using a, b, c⟩
    · have : (Nat.pow 2 ops.toList.length).sub 1 = 2 ^ ops.size - 1 := by rw [Array.length_toList]; rfl
      rw [← this]
      exact h1
/-- temporaries of a region: each is written by one operation; who reads it is bound to the one that writes it -/
theorem tmps_spec {ops : Array Oper} {its : PTree} (h : PlanOK ops its) {i j : Nat} {q o : Oper} (hi : ops[i]? = some q) (hj : ops[j]? = some o) (hne : i ≠ j) {d : Tmp} (hd : q.dst = some d) :
    o.dst ≠ some d ∧ (d ∈ opTmps o → (∃ mk, (befores ops.toList)[j]? = some mk ∧ mk.testBit i = true) ∨ (∃ mk, (befores ops.toList)[i]? = some mk ∧ mk.testBit j = true)) := by
  have h1 := h.tmps
  unfold tmpsOK at h1
  have mem : ∀ {k : Nat} {x : Oper}, ops[k]? = some x → (k, x) ∈ ops.toList.zipIdx.map fun x => (x.2, x.1) := by
    intro k x hx
    rw [List.mem_map]
    exact ⟨(x, k), List.mem_zipIdx_iff_getElem?.2 (by simpa using hx), rfl⟩
  rw [List.all_eq_true] at h1
  have h2 := h1 (j, o) (mem hj)
  dsimp only at h2
  rw [List.all_eq_true] at h2
  have h3 := h2 (i, q) (mem hi)
  dsimp only at h3
  rw [hd] at h3
  rw [Bool.or_eq_true, nat_beq] at h3
  rcases h3 with h3 | h3
  · exact absurd h3 hne
  · dsimp only at h3
    rw [Bool.and_eq_true, Bool.or_eq_true, Bool.or_eq_true] at h3
    obtain ⟨h4, h5⟩ := h3
    refine ⟨fun e => by rw [e] at h4; simp at h4, fun hm => ?_⟩
    rcases h5 with (h5 | h5) | h5
    · exfalso
      have : (opTmps o).contains d = true := by simpa using hm
      rw [this] at h5
      cases h5
    · left
      rw [getO_eq, isBit_eq] at h5
      cases hb : (befores ops.toList)[j]? with
      | none => rw [hb] at h5; simp at h5
      | some mk => rw [hb] at h5; exact ⟨mk, rfl, h5⟩
    · right
      rw [getO_eq, isBit_eq] at h5
      cases hb : (befores ops.toList)[i]? with
      | none => rw [hb] at h5; simp at h5
      | some mk => rw [hb] at h5; exact ⟨mk, rfl, h5⟩
end Go.Abs
