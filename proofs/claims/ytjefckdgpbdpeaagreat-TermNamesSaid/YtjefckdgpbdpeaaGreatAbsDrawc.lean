/- An executor whose runs hold in every world: a part of it and of what is proved of it. -/
import Derived.Test.YtjefckdgpbdpeaaGreatAbsDrawb

namespace Go.Abs
open Go

/-! ## which temporaries an operation looks at -/
def Wr (nt : Nat) (o : Oper) (j : Nat) : Prop := o.dst = some j ∧ j < nt
def Rd (ops : Array Oper) (o : Oper) (s : Nat) : Prop := s ∈ opTmps o ∨ ∃ g want q, o.guard = some (g, want) ∧ ops[g]? = some q ∧ q.dst = some s

theorem edgeBits_on (bs : List Nat) : ∀ (es : List Edge) (e : Edge), e ∈ es → Region.binds .any e = true → (edgeBits bs es).testBit e.on = true
  | [], e, h, _ => by cases h
  | a :: es, e, h, hb => by
    rw [edgeBits_cons]
    have or3 : ∀ x y z : Nat, ((x.lor y).lor z).testBit e.on = (x.testBit e.on || y.testBit e.on || z.testBit e.on) := by
      intro x y z
      have : (x.lor y).lor z = (x ||| y) ||| z := rfl
      rw [this, Nat.testBit_or, Nat.testBit_or]
    rcases List.mem_cons.1 h with rfl | h
    · rw [hb, cond_true, or3]
      have : (Nat.pow 2 e.on).testBit e.on = true := by
        have : Nat.pow 2 e.on = 2 ^ e.on := rfl
        rw [this, Nat.testBit_two_pow]; simp
      rw [this]; rfl
    · cases Region.binds .any a with
      | false => exact edgeBits_on bs es e h hb
      | true => rw [cond_true, or3, edgeBits_on bs es e h hb, Bool.or_true]
theorem befores_on {ops : Array Oper} {j : Nat} {o : Oper} (hj : ops[j]? = some o) {e : Edge} (he : e ∈ o.after.toList) (hb : Region.binds .any e = true) : ∃ mk, (befores ops.toList)[j]? = some mk ∧ mk.testBit e.on = true := by
  obtain ⟨acc', h1, _⟩ := befores_get ops.toList [] j o (by simpa using hj)
  simp only [List.length_nil, Nat.zero_add] at h1
  exact ⟨_, h1, edgeBits_on _ _ e he hb⟩
theorem reads_spec {ops : Array Oper} {its : PTree} (h : PlanOK ops its) {i j : Nat} {q o : Oper} (hi : ops[i]? = some q) (hj : ops[j]? = some o) (hne : i ≠ j) {d : Tmp} (hd : q.dst = some d) (hr : Rd ops o d) :
    (∃ mk, (befores ops.toList)[j]? = some mk ∧ mk.testBit i = true) ∨ (∃ mk, (befores ops.toList)[i]? = some mk ∧ mk.testBit j = true) := by
  rcases hr with hr | ⟨g, want, q', hg, hq, hd'⟩
  · exact (tmps_spec h hi hj hne hd).2 hr
  · by_cases e : i = g
    · subst e
      obtain ⟨_, h2⟩ := edgesOK_spec ops.toList 0 h.edges j o (by simpa using hj)
      obtain ⟨ed, h3, h4, h5⟩ := h2 _ _ hg
      obtain ⟨mk, h6, h7⟩ := befores_on hj h3 h5
      rw [h4] at h7
      exact .inl ⟨mk, h6, h7⟩
    · exact absurd hd' (tmps_spec h hi hq e hd).1

/-- one that the plan has run and the machine has not -/
structure Pn where
  it : PItem
  T : Abs.T AVal
  v : AVal
  w : Bool
  mc : Mem

structure Inv (P : Program) (ops : Array Oper) (nt lo : Nat) (m : Mem) (tmps0 tmps Tm : Abs.T AVal) (listed : Array Bool) (done : Nat) (cks : List Ck) (pend : List Pn) : Prop where
  size : listed.size = ops.size
  closed : Closed ops.toList listed
  ld : ∀ i, listed.getD i false = true → done.testBit i = true
  dl : ∀ i, done.testBit i = true → listed.getD i false = true ∨ ∃ c ∈ pend, c.it.ix = i
  it : ∀ c ∈ pend, ops[c.it.ix]? = some c.it.o ∧ (befores ops.toList)[c.it.ix]? = some c.it.mask ∧ c.it.kind = okind c.it.o.op
  pnl : ∀ c ∈ pend, listed.getD c.it.ix false = false
  pdone : ∀ c ∈ pend, done.testBit c.it.ix = true
  pmask : ∀ c ∈ pend, ∀ b, c.it.mask.testBit b = true → done.testBit b = true
  pself : ∀ c ∈ pend, c.it.mask.testBit c.it.ix = false
  uniq : ∀ c ∈ pend, ∀ c' ∈ pend, c.it.ix = c'.it.ix → c = c'
  tr : ∀ j, (∀ c ∈ pend, ¬ Wr nt c.it.o j) → getT Tm j = getT tmps j
  val : ∀ c ∈ pend, ∀ j, Wr nt c.it.o j → getT tmps j = c.v
  rd1 : ∀ c ∈ pend, ∀ s, Rd ops c.it.o s → ∀ c' ∈ pend, Wr nt c'.it.o s → c.it.mask.testBit c'.it.ix = true → getT c.T s = c'.v
  rd2 : ∀ c ∈ pend, ∀ s, Rd ops c.it.o s → (∀ c' ∈ pend, Wr nt c'.it.o s → c.it.mask.testBit c'.it.ix = false) → getT Tm s = getT c.T s
  gd : ∀ c ∈ pend, Abs.gd ops.toList c.T c.it.o.guard = some c.w
  unw : ∀ c ∈ pend, c.w = false → c.v = undefA
  lt3 : ∀ c ∈ pend, c.w = true → c.it.kind < 3
  k01 : ∀ c ∈ pend, c.w = true → c.it.kind < 2 → aop P c.T m c.it.o.op = .val c.v m
  ck1 : ∀ c ∈ pend, c.w = true → c.it.kind = 1 → (⟨c.it.ix, 1, c.it.o.op, c.T, c.v, none⟩ : Ck) ∈ cks
  k2 : ∀ c ∈ pend, c.w = true → c.it.kind = 2 → ∃ mc', aop P c.T c.mc c.it.o.op = .val c.v mc' ∧ m.heap.get c.mc.next = mc'.heap.get c.mc.next ∧ lo ≤ c.mc.next ∧ c.mc.next < m.next ∧
    (⟨c.it.ix, 2, c.it.o.op, c.T, c.v, mc'.heap.get c.mc.next⟩ : Ck) ∈ cks
  k2d : ∀ c ∈ pend, ∀ c' ∈ pend, c.w = true → c'.w = true → c.it.kind = 2 → c'.it.kind = 2 → c.mc.next = c'.mc.next → c = c'
  t0 : ∀ j, (j < nt → ∀ o ∈ ops.toList, o.dst ≠ some j) → getT tmps j = getT tmps0 j
  lom : lo ≤ m.next

section
variable {P : Program} {ops : Array Oper} {its : PTree} {nt lo : Nat} {m : Mem} {tmps0 tmps Tm : Abs.T AVal} {listed : Array Bool} {done : Nat} {cks : List Ck} {pend : List Pn}

theorem getT_set_wr {nt : Nat} {t : Abs.T AVal} {o : Oper} {j : Nat} {v : AVal} (h : Wr nt o j) : getT (setDst nt t v o.dst) j = v := by unfold Wr at h; rw [getT_setDst, if_pos h]
theorem getT_set_no {nt : Nat} {t : Abs.T AVal} {o : Oper} {j : Nat} {v : AVal} (h : ¬ Wr nt o j) : getT (setDst nt t v o.dst) j = getT t j := by unfold Wr at h; rw [getT_setDst, if_neg h]

theorem Inv.start (tmps : Abs.T AVal) (m : Mem) : Inv P ops nt m.next m tmps tmps tmps (Array.replicate ops.size false) 0 [] [] := by
  have hl : ∀ i, (Array.replicate ops.size false).getD i false = false := by
    intro i
    rw [Array.getD_eq_getD_getElem?, Array.getElem?_replicate]
    split <;> rfl
  refine ⟨by simp, closed_start ops, fun i h => (by rw [hl] at h; cases h), fun i h => (by simp at h), ?_, ?_, ?_, ?_, ?_, ?_, fun j _ => rfl, ?_, ?_, ?_, ?_, ?_, ?_, ?_, ?_, ?_, ?_, fun j _ => rfl, Nat.le_refl _⟩
  all_goals (intro c hc; cases hc)

/-- a light operation, or one that is not wanted, is run by the plan -/
theorem Inv.join (hP : PlanOK ops its) (hI : Inv P ops nt lo m tmps0 tmps Tm listed done cks pend) {p : PItem} (hp : ops[p.ix]? = some p.o ∧ (befores ops.toList)[p.ix]? = some p.mask ∧ p.kind = okind p.o.op)
    (hmask : ∀ b, p.mask.testBit b = true → done.testBit b = true) (hnd : done.testBit p.ix = false) {v : AVal} {wd : Bool} {m' : Mem} {cks' : List Ck}
    (hg : Abs.gd ops.toList tmps p.o.guard = some wd) (hunw : wd = false → v = undefA) (hlt : wd = true → p.kind < 3)
    (hext : Ext m m') (hnx : m.next ≤ m'.next) (hsame : ∀ r, r < m.next → m'.heap.get r = m.heap.get r) (hcks : ∀ c ∈ cks, c ∈ cks')
    (h01 : wd = true → p.kind < 2 → aop P tmps m' p.o.op = .val v m') (hck1 : wd = true → p.kind = 1 → (⟨p.ix, 1, p.o.op, tmps, v, none⟩ : Ck) ∈ cks')
    (h2 : wd = true → p.kind = 2 → aop P tmps m p.o.op = .val v m' ∧ m.next < m'.next ∧ (⟨p.ix, 2, p.o.op, tmps, v, m'.heap.get m.next⟩ : Ck) ∈ cks') :
    Inv P ops nt lo m' tmps0 (setDst nt tmps v p.o.dst) Tm listed (done.lor (Nat.pow 2 p.ix)) cks' (⟨p, tmps, v, wd, m⟩ :: pend) := by
  have hdiff : ∀ c ∈ pend, c.it.ix ≠ p.ix := by
    intro c hc e
    have := hI.pdone c hc
    rw [e, hnd] at this
    cases this
  have hself : p.mask.testBit p.ix = false := by
    cases h : p.mask.testBit p.ix with
    | false => rfl
    | true => rw [hmask _ h] at hnd; cases hnd
  have hnomask : ∀ c ∈ pend, c.it.mask.testBit p.ix = false := by
    intro c hc
    cases h : c.it.mask.testBit p.ix with
    | false => rfl
    | true => have := hI.pmask c hc _ h; rw [hnd] at this; cases this
  have hdst : ∀ c ∈ pend, ∀ j, Wr nt c.it.o j → ¬ Wr nt p.o j := by
    intro c hc j h1 h3
    exact (tmps_spec hP (hI.it c hc).1 hp.1 (hdiff c hc) h1.1).1 h3.1
  have hor : ∀ i, done.testBit i = true → (done.lor (Nat.pow 2 p.ix)).testBit i = true := fun i h => by rw [testBit_or_pow, h]; rfl
  refine ⟨hI.size, hI.closed, fun i h => hor i (hI.ld i h), ?_, ?_, ?_, ?_, ?_, ?_, ?_, ?_, ?_, ?_, ?_, ?_, ?_, ?_, ?_, ?_, ?_, ?_, ?_, Nat.le_trans hI.lom hnx⟩
  · intro i h
    rw [testBit_or_pow, Bool.or_eq_true] at h
    rcases h with h | h
    · rcases hI.dl i h with h | ⟨c, hc, e⟩
      · exact .inl h
      · exact .inr ⟨c, List.mem_cons_of_mem _ hc, e⟩
    · exact .inr ⟨_, List.mem_cons_self .., by simpa using h⟩
  · intro c hc
    rcases List.mem_cons.1 hc with rfl | hc
    · exact hp
    · exact hI.it c hc
  · intro c hc
    rcases List.mem_cons.1 hc with rfl | hc
    · show listed.getD p.ix false = false
      cases h : listed.getD p.ix false with
      | false => rfl
      | true => rw [hI.ld _ h] at hnd; cases hnd
    · exact hI.pnl c hc
  · intro c hc
    rcases List.mem_cons.1 hc with rfl | hc
    · show (done.lor (Nat.pow 2 p.ix)).testBit p.ix = true
      rw [testBit_or_pow]; simp
    · exact hor _ (hI.pdone c hc)
  · intro c hc b hb
    rcases List.mem_cons.1 hc with rfl | hc
    · exact hor _ (hmask b hb)
    · exact hor _ (hI.pmask c hc b hb)
  · intro c hc
    rcases List.mem_cons.1 hc with rfl | hc
    · exact hself
    · exact hI.pself c hc
  · intro c hc c' hc' e
    rcases List.mem_cons.1 hc with rfl | hc <;> rcases List.mem_cons.1 hc' with rfl | hc'
    · rfl
    · exact absurd e.symm (hdiff c' hc')
    · exact absurd e (hdiff c hc)
    · exact hI.uniq c hc c' hc' e
  · intro j hj
    rw [getT_set_no (hj _ (List.mem_cons_self ..))]
    exact hI.tr j fun c hc => hj c (List.mem_cons_of_mem _ hc)
  · intro c hc j hj
    rcases List.mem_cons.1 hc with rfl | hc
    · exact getT_set_wr hj
    · rw [getT_set_no (hdst c hc j hj)]
      exact hI.val c hc j hj
  · intro c hc s hs c' hc' hw hb
    rcases List.mem_cons.1 hc with rfl | hc <;> rcases List.mem_cons.1 hc' with rfl | hc'
    · have hb' : p.mask.testBit p.ix = true := hb
      rw [hself] at hb'; cases hb'
    · exact hI.val c' hc' s hw
    · have hb' : c.it.mask.testBit p.ix = true := hb
      rw [hnomask c hc] at hb'; cases hb'
    · exact hI.rd1 c hc s hs c' hc' hw hb
  · intro c hc s hs hno
    rcases List.mem_cons.1 hc with rfl | hc
    · refine hI.tr s fun c' hc' hw => ?_
      have hb : p.mask.testBit c'.it.ix = false := hno c' (List.mem_cons_of_mem _ hc') hw
      rcases reads_spec hP (hI.it c' hc').1 hp.1 (hdiff c' hc') hw.1 hs with ⟨mk, h3, h4⟩ | ⟨mk, h3, h4⟩
      · rw [hp.2.1] at h3; cases h3; rw [hb] at h4; cases h4
      · rw [(hI.it c' hc').2.1] at h3; cases h3; rw [hnomask c' hc'] at h4; cases h4
    · exact hI.rd2 c hc s hs fun c' hc' => hno c' (List.mem_cons_of_mem _ hc')
  · intro c hc
    rcases List.mem_cons.1 hc with rfl | hc
    · exact hg
    · exact hI.gd c hc
  · intro c hc h
    rcases List.mem_cons.1 hc with rfl | hc
    · exact hunw h
    · exact hI.unw c hc h
  · intro c hc h
    rcases List.mem_cons.1 hc with rfl | hc
    · exact hlt h
    · exact hI.lt3 c hc h
  · intro c hc h hk
    rcases List.mem_cons.1 hc with rfl | hc
    · exact h01 h hk
    · exact (aop_sees (P := P) (m := m) c.T c.it.o.op (by rw [← (hI.it c hc).2.2]; exact hk) _ _ (hI.k01 c hc h hk) rfl).2 m' hext
  · intro c hc h hk
    rcases List.mem_cons.1 hc with rfl | hc
    · exact hck1 h hk
    · exact hcks _ (hI.ck1 c hc h hk)
  · intro c hc h hk
    rcases List.mem_cons.1 hc with rfl | hc
    · obtain ⟨h3, h4, h5⟩ := h2 h hk
      exact ⟨m', h3, rfl, hI.lom, h4, h5⟩
    · obtain ⟨mc', h3, h4, h5, h6, h7⟩ := hI.k2 c hc h hk
      exact ⟨mc', h3, by rw [hsame _ h6]; exact h4, h5, by omega, hcks _ h7⟩
  · intro c hc c' hc' h h' hk hk' e
    rcases List.mem_cons.1 hc with rfl | hc <;> rcases List.mem_cons.1 hc' with rfl | hc'
    · rfl
    · obtain ⟨_, _, _, _, h6, _⟩ := hI.k2 c' hc' h' hk'
      have e' : m.next = c'.mc.next := e
      omega
    · obtain ⟨_, _, _, _, h6, _⟩ := hI.k2 c hc h hk
      have e' : c.mc.next = m.next := e
      omega
    · exact hI.k2d c hc c' hc' h h' hk hk' e
  · intro j hj
    rw [getT_set_no (fun hw => hj hw.2 p.o (List.mem_of_getElem? (by simpa using hp.1)) hw.1)]
    exact hI.t0 j hj

/-- the machine runs one of those that the plan has run -/
theorem Inv.pop (hP : PlanOK ops its) (hI : Inv P ops nt lo m tmps0 tmps Tm listed done cks pend) {c : Pn} (hc : c ∈ pend) (hi : c.it.ix ∈ Region.ready .any ops listed) :
    Inv P ops nt lo m tmps0 tmps (setDst nt Tm c.v c.it.o.dst) (listed.setIfInBounds c.it.ix true) done cks (pend.filter fun c' => !(c'.it.ix == c.it.ix)) := by
  have hlt : c.it.ix < listed.size := by rw [hI.size]; exact (Array.getElem?_eq_some_iff.1 (hI.it c hc).1).1
  have hmem : ∀ {c'}, c' ∈ pend.filter (fun c' => !(c'.it.ix == c.it.ix)) → c' ∈ pend ∧ c'.it.ix ≠ c.it.ix := by
    intro c' h
    rw [List.mem_filter] at h
    exact ⟨h.1, by simpa using h.2⟩
  have hback : ∀ {c'}, c' ∈ pend → c'.it.ix ≠ c.it.ix → c' ∈ pend.filter (fun c' => !(c'.it.ix == c.it.ix)) := by
    intro c' h1 h2
    rw [List.mem_filter]
    exact ⟨h1, by simpa using h2⟩
  have hready := ready_mask hI.closed hi (hI.it c hc).2.1
  have hnomask : ∀ c' ∈ pend, c.it.mask.testBit c'.it.ix = false := by
    intro c' hc'
    cases h : c.it.mask.testBit c'.it.ix with
    | false => rfl
    | true => have := hready _ h; rw [hI.pnl c' hc'] at this; cases this
  have hdst : ∀ c' ∈ pend, c'.it.ix ≠ c.it.ix → ∀ j, Wr nt c'.it.o j → ¬ Wr nt c.it.o j := by
    intro c' hc' hne j h1 h3
    exact (tmps_spec hP (hI.it c' hc').1 (hI.it c hc).1 hne h1.1).1 h3.1
  refine ⟨by simpa using hI.size, hI.closed.set hI.size hi, ?_, ?_, fun c' h => hI.it c' (hmem h).1, ?_, fun c' h => hI.pdone c' (hmem h).1, fun c' h => hI.pmask c' (hmem h).1, fun c' h => hI.pself c' (hmem h).1,
    fun c1 h1 c2 h2 => hI.uniq c1 (hmem h1).1 c2 (hmem h2).1, ?_, fun c' h => hI.val c' (hmem h).1, fun c1 h1 s hs c2 h2 => hI.rd1 c1 (hmem h1).1 s hs c2 (hmem h2).1, ?_, fun c' h => hI.gd c' (hmem h).1, fun c' h => hI.unw c' (hmem h).1,
    fun c' h => hI.lt3 c' (hmem h).1, fun c' h => hI.k01 c' (hmem h).1, fun c' h => hI.ck1 c' (hmem h).1, fun c' h => hI.k2 c' (hmem h).1, fun c1 h1 c2 h2 => hI.k2d c1 (hmem h1).1 c2 (hmem h2).1, hI.t0, hI.lom⟩
  · intro i h
    rw [getD_set_eq hlt] at h
    by_cases e : c.it.ix = i
    · rw [← e]; exact hI.pdone c hc
    · rw [if_neg e] at h; exact hI.ld i h
  · intro i h
    rw [getD_set_eq hlt]
    by_cases e : c.it.ix = i
    · exact .inl (if_pos e)
    · rw [if_neg e]
      rcases hI.dl i h with h | ⟨c', h1, h2⟩
      · exact .inl h
      · exact .inr ⟨c', hback h1 (fun h3 => e (h3.symm.trans h2)), h2⟩
  · intro c' h
    rw [getD_set_eq hlt, if_neg (fun e => (hmem h).2 e.symm)]
    exact hI.pnl c' (hmem h).1
  · intro j hj
    by_cases hw : Wr nt c.it.o j
    · rw [getT_set_wr hw]; exact (hI.val c hc j hw).symm
    · rw [getT_set_no hw]
      refine hI.tr j fun c' hc' hw' => ?_
      by_cases e : c'.it.ix = c.it.ix
      · have := hI.uniq c' hc' c hc e
        subst this
        exact hw hw'
      · exact hj c' (hback hc' e) hw'
  · intro c1 h1 s hs hno
    obtain ⟨h1, hne⟩ := hmem h1
    by_cases hw : Wr nt c.it.o s
    · rw [getT_set_wr hw]
      cases hb : c1.it.mask.testBit c.it.ix with
      | true => exact (hI.rd1 c1 h1 s hs c hc hw hb).symm
      | false =>
        exfalso
        rcases reads_spec hP (hI.it c hc).1 (hI.it c1 h1).1 (Ne.symm hne) hw.1 hs with ⟨mk, h3, h4⟩ | ⟨mk, h3, h4⟩
        · rw [(hI.it c1 h1).2.1] at h3; cases h3; rw [hb] at h4; cases h4
        · rw [(hI.it c hc).2.1] at h3; cases h3; rw [hnomask c1 h1] at h4; cases h4
    · rw [getT_set_no hw]
      refine hI.rd2 c1 h1 s hs fun c' hc' hw' => ?_
      by_cases e : c'.it.ix = c.it.ix
      · have := hI.uniq c' hc' c hc e
        subst this
        exact absurd hw' hw
      · exact hno c' (hback hc' e) hw'

/-- both run a heavy operation -/
theorem Inv.heavy (hP : PlanOK ops its) (hI : Inv P ops nt lo m tmps0 tmps Tm listed done cks pend) {p : PItem} (hp : ops[p.ix]? = some p.o ∧ (befores ops.toList)[p.ix]? = some p.mask ∧ p.kind = okind p.o.op)
    (hi : p.ix ∈ Region.ready .any ops listed) (hnd : done.testBit p.ix = false) {m1 : Mem} (hnx : m.next ≤ m1.next) (hck : ckAll P p.mask m1 cks = true) (v : AVal) :
    Inv P ops nt lo m1 tmps0 (setDst nt tmps v p.o.dst) (setDst nt Tm v p.o.dst) (listed.setIfInBounds p.ix true) (done.lor (Nat.pow 2 p.ix)) (leftCk p.mask cks) pend := by
  have hlt : p.ix < listed.size := by rw [hI.size]; exact (Array.getElem?_eq_some_iff.1 hp.1).1
  have hready := ready_mask hI.closed hi hp.2.1
  have hdiff : ∀ c ∈ pend, c.it.ix ≠ p.ix := by
    intro c hc e
    have := hI.pdone c hc
    rw [e, hnd] at this
    cases this
  have hno1 : ∀ c ∈ pend, p.mask.testBit c.it.ix = false := by
    intro c hc
    cases h : p.mask.testBit c.it.ix with
    | false => rfl
    | true => have := hready _ h; rw [hI.pnl c hc] at this; cases this
  have hno2 : ∀ c ∈ pend, c.it.mask.testBit p.ix = false := by
    intro c hc
    cases h : c.it.mask.testBit p.ix with
    | false => rfl
    | true => have := hI.pmask c hc _ h; rw [hnd] at this; cases this
  have hdst : ∀ c ∈ pend, ∀ j, Wr nt c.it.o j → ¬ Wr nt p.o j := by
    intro c hc j h1 h3
    exact (tmps_spec hP (hI.it c hc).1 hp.1 (hdiff c hc) h1.1).1 h3.1
  have hor : ∀ i, done.testBit i = true → (done.lor (Nat.pow 2 p.ix)).testBit i = true := fun i h => by rw [testBit_or_pow, h]; rfl
  have hone := fun c hc hb => ckAll_spec hck c hc hb
  refine ⟨by simpa using hI.size, hI.closed.set hI.size hi, ?_, ?_, hI.it, ?_, fun c hc => hor _ (hI.pdone c hc), fun c hc b hb => hor _ (hI.pmask c hc b hb), hI.pself, hI.uniq, ?_, ?_, hI.rd1, ?_, hI.gd, hI.unw, hI.lt3, ?_, fun c hc h hk => leftCk_mem (hI.ck1 c hc h hk) (hno1 c hc), ?_, hI.k2d, ?_, Nat.le_trans hI.lom hnx⟩
  · intro i h
    rw [getD_set_eq hlt] at h
    rw [testBit_or_pow]
    by_cases e : p.ix = i
    · subst e; simp
    · rw [if_neg e] at h; rw [hI.ld i h]; rfl
  · intro i h
    rw [testBit_or_pow, Bool.or_eq_true] at h
    rw [getD_set_eq hlt]
    by_cases e : p.ix = i
    · exact .inl (if_pos e)
    · rw [if_neg e]
      rcases h with h | h
      · exact hI.dl i h
      · exact absurd (by simpa using h) e
  · intro c hc
    rw [getD_set_eq hlt, if_neg (fun e => hdiff c hc e.symm)]
    exact hI.pnl c hc
  · intro j hj
    by_cases hw : Wr nt p.o j
    · rw [getT_set_wr hw, getT_set_wr hw]
    · rw [getT_set_no hw, getT_set_no hw]; exact hI.tr j hj
  · intro c hc j hj
    rw [getT_set_no (hdst c hc j hj)]
    exact hI.val c hc j hj
  · intro c hc s hs hno
    have hw : ¬ Wr nt p.o s := by
      intro hw
      rcases reads_spec hP hp.1 (hI.it c hc).1 (fun e => hdiff c hc e.symm) hw.1 hs with ⟨mk, h3, h4⟩ | ⟨mk, h3, h4⟩
      · rw [(hI.it c hc).2.1] at h3; cases h3; rw [hno2 c hc] at h4; cases h4
      · rw [hp.2.1] at h3; cases h3; rw [hno1 c hc] at h4; cases h4
    rw [getT_set_no hw]
    exact hI.rd2 c hc s hs hno
  · intro c hc h hk
    have h1 := hI.k01 c hc h hk
    have hkk := (hI.it c hc).2.2
    rcases (by omega : c.it.kind = 0 ∨ c.it.kind = 1) with h0 | h0
    · have := aop_re (P := P) c.T c.it.o.op (by rw [← hkk]; exact h0) m m1
      rw [this, h1]; rfl
    · have h3 := hone _ (hI.ck1 c hc h h0) (hno1 c hc)
      have h4 : ckVal c.v m1.next (aop P c.T m1 c.it.o.op) = true := h3
      obtain ⟨m', h5, h6⟩ := ckVal_sound h4
      have := (aop_sees (P := P) (m := m1) c.T c.it.o.op (by rw [← hkk]; exact hk) _ _ h5 h6).1
      rw [this] at h5
      exact h5
  · intro c hc h hk
    obtain ⟨mc', h3, h4, h5, h6, h7⟩ := hI.k2 c hc h hk
    refine ⟨mc', h3, ?_, h5, by omega, leftCk_mem h7 (hno1 c hc)⟩
    have h8 := hone _ h7 (hno1 c hc)
    have hmade := (aop_makes (P := P) (m := c.mc) c.T c.it.o.op (by rw [← (hI.it c hc).2.2]; exact hk) _ _ h3).1
    have h9 : (match madeAt c.v with | some r => sameObj (mc'.heap.get c.mc.next) (m1.heap.get r) | none => false) = true := h8
    rw [hmade] at h9
    exact (sameObj_sound h9).1.symm
  · intro j hj
    rw [getT_set_no (fun hw => hj hw.2 p.o (List.mem_of_getElem? (by simpa using hp.1)) hw.1)]
    exact hI.t0 j hj
end
end Go.Abs
