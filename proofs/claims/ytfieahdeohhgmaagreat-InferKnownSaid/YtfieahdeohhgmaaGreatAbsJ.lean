/- An executor whose runs hold in every world: a part of it and of what is proved of it. -/
import Derived.Test.YtfieahdeohhgmaaGreatAbsI
namespace Go.Abs
open Go
def Wr (nt : Nat) (o : Oper) (j : Nat) : Prop := o.dst = some j ∧ j < nt
def Rd (ops : Array Oper) (o : Oper) (s : Nat) : Prop := s ∈ opTmps o ∨ ∃ g want q, o.guard = some (g, want) ∧ ops[g]? = some q ∧ q.dst = some s
theorem edgeBits_on (bs : List Nat) : ∀ (es : List Edge) (e : Edge), e ∈ es → Region.binds .any e = true → (edgeBits bs es).testBit e.on = true
  | [], e, h, _ => by cases h
  | a :: es, e, h, hb => by
    rw [edgeBits_cons]
    have or3 : ∀ x y z : Nat, ((x.lor y).lor z).testBit e.on = (x.testBit e.on || y.testBit e.on || z.testBit e.on) := by
      intro x y z
      have : (x.lor y).lor z = (x ||| y) ||| z := rfl
      rw [this, Nat.testBit_or, Nat.testBit_or]
    rcases List.mem_cons.1 h with rfl | h
    · rw [hb, cond_true, or3]
      have : (Nat.pow 2 e.on).testBit e.on = true := by
        have : Nat.pow 2 e.on = 2 ^ e.on := rfl
        rw [this, Nat.testBit_two_pow]; simp
      rw [this]; rfl
    · cases Region.binds .any a with
      | false => exact edgeBits_on bs es e h hb
      | true => rw [cond_true, or3, edgeBits_on bs es e h hb, Bool.or_true]
theorem befores_on {ops : Array Oper} {j : Nat} {o : Oper} (hj : ops[j]? = some o) {e : Edge} (he : e ∈ o.after.toList) (hb : Region.binds .any e = true) : ∃ mk, (befores ops.toList)[j]? = some mk ∧ mk.testBit e.on = true := by
  obtain ⟨acc', h1, _⟩ := befores_get ops.toList [] j o (by simpa using hj)
  simp only [List.length_nil, Nat.zero_add] at h1
  exact ⟨_, h1, edgeBits_on _ _ e he hb⟩
theorem reads_spec {ops : Array Oper} {its : PTree} (h : PlanOK ops its) {i j : Nat} {q o : Oper} (hi : ops[i]? = some q) (hj : ops[j]? = some o) (hne : i ≠ j) {d : Tmp} (hd : q.dst = some d) (hr : Rd ops o d) :
    (∃ mk, (befores ops.toList)[j]? = some mk ∧ mk.testBit i = true) ∨ (∃ mk, (befores ops.toList)[i]? = some mk ∧ mk.testBit j = true) := by
  rcases hr with hr | ⟨g, want, q', hg, hq, hd'⟩
  · exact (tmps_spec h hi hj hne hd).2 hr
  · by_cases e : i = g
    · subst e
      obtain ⟨_, h2⟩ := edgesOK_spec ops.toList 0 h.edges j o (by simpa using hj)
      obtain ⟨ed, h3, h4, h5⟩ := h2 _ _ hg
      obtain ⟨mk, h6, h7⟩ := befores_on hj h3 h5
      rw [h4] at h7
      exact .inl ⟨mk, h6, h7⟩
    · exact absurd hd' (tmps_spec h hi hq e hd).1
structure Pn where
  it : PItem
  T : Abs.T AVal
  v : AVal
  w : Bool
  mc : Mem
structure Inv (P : Program) (ops : Array Oper) (nt lo : Nat) (m : Mem) (tmps0 tmps Tm : Abs.T AVal) (listed : Array Bool) (done : Nat) (cks : List Ck) (pend : List Pn) : Prop where
  size : listed.size = ops.size
  closed : Closed ops.toList listed
  ld : ∀ i, listed.getD i false = true → done.testBit i = true
  dl : ∀ i, done.testBit i = true → listed.getD i false = true ∨ ∃ c ∈ pend, c.it.ix = i
  it : ∀ c ∈ pend, ops[c.it.ix]? = some c.it.o ∧ (befores ops.toList)[c.it.ix]? = some c.it.mask ∧ c.it.kind = okind c.it.o.op
  pnl : ∀ c ∈ pend, listed.getD c.it.ix false = false
  pdone : ∀ c ∈ pend, done.testBit c.it.ix = true
  pmask : ∀ c ∈ pend, ∀ b, c.it.mask.testBit b = true → done.testBit b = true
  pself : ∀ c ∈ pend, c.it.mask.testBit c.it.ix = false
  uniq : ∀ c ∈ pend, ∀ c' ∈ pend, c.it.ix = c'.it.ix → c = c'
  tr : ∀ j, (∀ c ∈ pend, ¬ Wr nt c.it.o j) → getT Tm j = getT tmps j
  val : ∀ c ∈ pend, ∀ j, Wr nt c.it.o j → getT tmps j = c.v
  rd1 : ∀ c ∈ pend, ∀ s, Rd ops c.it.o s → ∀ c' ∈ pend, Wr nt c'.it.o s → c.it.mask.testBit c'.it.ix = true → getT c.T s = c'.v
  rd2 : ∀ c ∈ pend, ∀ s, Rd ops c.it.o s → (∀ c' ∈ pend, Wr nt c'.it.o s → c.it.mask.testBit c'.it.ix = false) → getT Tm s = getT c.T s
  gd : ∀ c ∈ pend, Abs.gd ops.toList c.T c.it.o.guard = some c.w
  unw : ∀ c ∈ pend, c.w = false → c.v = undefA
  lt3 : ∀ c ∈ pend, c.w = true → c.it.kind < 3
  k01 : ∀ c ∈ pend, c.w = true → c.it.kind < 2 → aop P c.T m c.it.o.op = .val c.v m
  ck1 : ∀ c ∈ pend, c.w = true → c.it.kind = 1 → (⟨c.it.ix, 1, c.it.o.op, c.T, c.v, none⟩ : Ck) ∈ cks
  k2 : ∀ c ∈ pend, c.w = true → c.it.kind = 2 → ∃ mc', aop P c.T c.mc c.it.o.op = .val c.v mc' ∧ m.heap.get c.mc.next = mc'.heap.get c.mc.next ∧ lo ≤ c.mc.next ∧ c.mc.next < m.next ∧
    (⟨c.it.ix, 2, c.it.o.op, c.T, c.v, mc'.heap.get c.mc.next⟩ : Ck) ∈ cks
  k2d : ∀ c ∈ pend, ∀ c' ∈ pend, c.w = true → c'.w = true → c.it.kind = 2 → c'.it.kind = 2 → c.mc.next = c'.mc.next → c = c'
  t0 : ∀ j, (j < nt → ∀ o ∈ ops.toList, o.dst ≠ some j) → getT tmps j = getT tmps0 j
  lom : lo ≤ m.next
section
variable {P : Program} {ops : Array Oper} {its : PTree} {nt lo : Nat} {m : Mem} {tmps0 tmps Tm : Abs.T AVal} {listed : Array Bool} {done : Nat} {cks : List Ck} {pend : List Pn}
theorem getT_set_wr {nt : Nat} {t : Abs.T AVal} {o : Oper} {j : Nat} {v : AVal} (h : Wr nt o j) : getT (setDst nt t v o.dst) j = v := by unfold Wr at h; rw [getT_setDst, if_pos h]
theorem getT_set_no {nt : Nat} {t : Abs.T AVal} {o : Oper} {j : Nat} {v : AVal} (h : ¬ Wr nt o j) : getT (setDst nt t v o.dst) j = getT t j := by unfold Wr at h; rw [getT_setDst, if_neg h]
theorem Inv.start (tmps : Abs.T AVal) (m : Mem) : Inv P ops nt m.next m tmps tmps tmps (Array.replicate ops.size false) 0 [] [] := by
  have hl : ∀ i, (Array.replicate ops.size false).getD i false = false := by
    intro i
    rw [Array.getD_eq_getD_getElem?, Array.getElem?_replicate]
    split <;> rfl
  refine ⟨by simp, closed_start ops, fun i h => (by rw [hl] at h; cases h), fun i h => (by simp at h), ?_, ?_, ?_, ?_, ?_, ?_, fun j _ => rfl, ?_, ?_, ?_, ?_, ?_, ?_, ?_, ?_, ?_, ?_, fun j _ => rfl, Nat.le_refl _⟩
  all_goals (intro c hc; cases hc)
theorem Inv.join (hP : PlanOK ops its) (hI : Inv P ops nt lo m tmps0 tmps Tm listed done cks pend) {p : PItem} (hp : ops[p.ix]? = some p.o ∧ (befores ops.toList)[p.ix]? = some p.mask ∧ p.kind = okind p.o.op)
    (hmask : ∀ b, p.mask.testBit b = true → done.testBit b = true) (hnd : done.testBit p.ix = false) {v : AVal} {wd : Bool} {m' : Mem} {cks' : List Ck}
    (hg : Abs.gd ops.toList tmps p.o.guard = some wd) (hunw : wd = false → v = undefA) (hlt : wd = true → p.kind < 3)
    (hext : Ext m m') (hnx : m.next ≤ m'.next) (hsame : ∀ r, r < m.next → m'.heap.get r = m.heap.get r) (hcks : ∀ c ∈ cks, c ∈ cks')
    (h01 : wd = true → p.kind < 2 → aop P tmps m' p.o.op = .val v m') (hck1 : wd = true → p.kind = 1 → (⟨p.ix, 1, p.o.op, tmps, v, none⟩ : Ck) ∈ cks')
    (h2 : wd = true → p.kind = 2 → aop P tmps m p.o.op = .val v m' ∧ m.next < m'.next ∧ (⟨p.ix, 2, p.o.op, tmps, v, m'.heap.get m.next⟩ : Ck) ∈ cks') :
    Inv P ops nt lo m' tmps0 (setDst nt tmps v p.o.dst) Tm listed (done.lor (Nat.pow 2 p.ix)) cks' (⟨p, tmps, v, wd, m⟩ :: pend) := by
  have hdiff : ∀ c ∈ pend, c.it.ix ≠ p.ix := by
    intro c hc e
    have := hI.pdone c hc
    rw [e, hnd] at this
    cases this
  have hself : p.mask.testBit p.ix = false := by
    cases h : p.mask.testBit p.ix with
    | false => rfl
    | true => rw [hmask _ h] at hnd; cases hnd
  have hnomask : ∀ c ∈ pend, c.it.mask.testBit p.ix = false := by
    intro c hc
    cases h : c.it.mask.testBit p.ix with
    | false => rfl
    | true => have := hI.pmask c hc _ h; rw [hnd] at this; cases this
  have hdst : ∀ c ∈ pend, ∀ j, Wr nt c.it.o j → ¬ Wr nt p.o j := by
    intro c hc j h1 h3
    exact (tmps_spec hP (hI.it c hc).1 hp.1 (hdiff c hc) h1.1).1 h3.1
  have hor : ∀ i, done.testBit i = true → (done.lor (Nat.pow 2 p.ix)).testBit i = true := fun i h => by rw [testBit_or_pow, h]; rfl
  refine ⟨hI.size, hI.closed, fun i h => hor i (hI.ld i h), ?_, ?_, ?_, ?_, ?_, ?_, ?_, ?_, ?_, ?_, ?_, ?_, ?_, ?_, ?_, ?_, ?_, ?_, ?_, Nat.le_trans hI.lom hnx⟩
  · intro i h
    rw [testBit_or_pow, Bool.or_eq_true] at h
    rcases h with h | h
    · rcases hI.dl i h with h | ⟨c, hc, e⟩
      · exact .inl h
      · exact .inr ⟨c, List.mem_cons_of_mem _ hc, e⟩
    · exact .inr ⟨_, List.mem_cons_self .., by simpa using h⟩
  · intro c hc
    rcases List.mem_cons.1 hc with rfl | hc
    · exact hp
    · exact hI.it c hc
  · intro c hc
    rcases List.mem_cons.1 hc with rfl | hc
    · show listed.getD p.ix false = false
      cases h : listed.getD p.ix false with
      | false => rfl
      | true => rw [hI.ld _ h] at hnd; cases hnd
    · exact hI.pnl c hc
  · intro c hc
    rcases List.mem_cons.1 hc with rfl | hc
    · show (done.lor (Nat.pow 2 p.ix)).testBit p.ix = true
      rw [testBit_or_pow]; simp
    · exact hor _ (hI.pdone c hc)
  · intro c hc b hb
    rcases List.mem_cons.1 hc with rfl | hc
    · exact hor _ (hmask b hb)
    · exact hor _ (hI.pmask c hc b hb)
  · intro c hc
    rcases List.mem_cons.1 hc with rfl | hc
    · exact hself
    · exact hI.pself c hc
  · intro c hc c' hc' e
    rcases List.mem_cons.1 hc with rfl | hc <;> rcases List.mem_cons.1 hc' with rfl | hc'
    · rfl
    · exact absurd e.symm (hdiff c' hc')
    · exact absurd e (hdiff c hc)
    · exact hI.uniq c hc c' hc' e
  · intro j hj
    rw [getT_set_no (hj _ (List.mem_cons_self ..))]
    exact hI.tr j fun c hc => hj c (List.mem_cons_of_mem _ hc)
  · intro c hc j hj
    rcases List.mem_cons.1 hc with rfl | hc
    · exact getT_set_wr hj
    · rw [getT_set_no (hdst c hc j hj)]
      exact hI.val c hc j hj
  · intro c hc s hs c' hc' hw hb
    rcases List.mem_cons.1 hc with rfl | hc <;> rcases List.mem_cons.1 hc' with rfl | hc'
    · have hb' : p.mask.testBit p.ix = true := hb
      rw [hself] at hb'; cases hb'
    · exact hI.val c' hc' s hw
    · have hb' : c.it.mask.testBit p.ix = true := hb
      rw [hnomask c hc] at hb'; cases hb'
    · exact hI.rd1 c hc s hs c' hc' hw hb
  · intro c hc s hs hno
    rcases List.mem_cons.1 hc with rfl | hc
    · refine hI.tr s fun c' hc' hw => ?_
      have hb : p.mask.testBit c'.it.ix = false := hno c' (List.mem_cons_of_mem _ hc') hw
      rcases reads_spec hP (hI.it c' hc').1 hp.1 (hdiff c' hc') hw.1 hs with ⟨mk, h3, h4⟩ | ⟨mk, h3, h4⟩
      · rw [hp.2.1] at h3; cases h3; rw [hb] at h4; cases h4
      · rw [(hI.it c' hc').2.1] at h3; cases h3; rw [hnomask c' hc'] at h4; cases h4
    · exact hI.rd2 c hc s hs fun c' hc' => hno c' (List.mem_cons_of_mem _ hc')
  · intro c hc
    rcases List.mem_cons.1 hc with rfl | hc
    · exact hg
    · exact hI.gd c hc
  · intro c hc h
    rcases List.mem_cons.1 hc with rfl | hc
    · exact hunw h
    · exact hI.unw c hc h
  · intro c hc h
    rcases List.mem_cons.1 hc with rfl | hc
    · exact hlt h
    · exact hI.lt3 c hc h
  · intro c hc h hk
    rcases List.mem_cons.1 hc with rfl | hc
    · exact h01 h hk
    · exact (aop_sees (P := P) (m := m) c.T c.it.o.op (by rw [← (hI.it c hc).2.2]; exact hk) _ _ (hI.k01 c hc h hk) rfl).2 m' hext
  · intro c hc h hk
    rcases List.mem_cons.1 hc with rfl | hc
    · exact hck1 h hk
    · exact hcks _ (hI.ck1 c hc h hk)
  · intro c hc h hk
    rcases List.mem_cons.1 hc with rfl | hc
    · obtain ⟨h3, h4, h5⟩ := h2 h hk
      exact ⟨m', h3, rfl, hI.lom, h4, h5⟩
    · obtain ⟨mc', h3, h4, h5, h6, h7⟩ := hI.k2 c hc h hk
      exact ⟨mc', h3, by rw [hsame _ h6]; exact h4, h5, by omega, hcks _ h7⟩
  · intro c hc c' hc' h h' hk hk' e
    rcases List.mem_cons.1 hc with rfl | hc <;> rcases List.mem_cons.1 hc' with rfl | hc'
    · rfl
    · obtain ⟨_, _, _, _, h6, _⟩ := hI.k2 c' hc' h' hk'
      have e' : m.next = c'.mc.next := e
      omega
    · obtain ⟨_, _, _, _, h6, _⟩ := hI.k2 c hc h hk
      have e' : c.mc.next = m.next := e
      omega
    · exact hI.k2d c hc c' hc' h h' hk hk' e
  · intro j hj
    rw [getT_set_no (fun hw => hj hw.2 p.o (List.mem_of_getElem? (by simpa using hp.1)) hw.1)]
    exact hI.t0 j hj
theorem Inv.pop (hP : PlanOK ops its) (hI : Inv P ops nt lo m tmps0 tmps Tm listed done cks pend) {c : Pn} (hc : c ∈ pend) (hi : c.it.ix ∈ Region.ready .any ops listed) :
    Inv P ops nt lo m tmps0 tmps (setDst nt Tm c.v c.it.o.dst) (listed.setIfInBounds c.it.ix true) done cks (pend.filter fun c' => !(c'.it.ix == c.it.ix)) := by
  have hlt : c.it.ix < listed.size := by rw [hI.size]; exact (Array.getElem?_eq_some_iff.1 (hI.it c hc).1).1
  have hmem : ∀ {c'}, c' ∈ pend.filter (fun c' => !(c'.it.ix == c.it.ix)) → c' ∈ pend ∧ c'.it.ix ≠ c.it.ix := by
    intro c' h
    rw [List.mem_filter] at h
    exact ⟨h.1, by simpa using h.2⟩
  have hback : ∀ {c'}, c' ∈ pend → c'.it.ix ≠ c.it.ix → c' ∈ pend.filter (fun c' => !(c'.it.ix == c.it.ix)) := by
    intro c' h1 h2
    rw [List.mem_filter]
    exact ⟨h1, by simpa using h2⟩
  have hready := ready_mask hI.closed hi (hI.it c hc).2.1
  have hnomask : ∀ c' ∈ pend, c.it.mask.testBit c'.it.ix = false := by
    intro c' hc'
    cases h : c.it.mask.testBit c'.it.ix with
    | false => rfl
    | true => have := hready _ h; rw [hI.pnl c' hc'] at this; cases this
  have hdst : ∀ c' ∈ pend, c'.it.ix ≠ c.it.ix → ∀ j, Wr nt c'.it.o j → ¬ Wr nt c.it.o j := by
    intro c' hc' hne j h1 h3
    exact (tmps_spec hP (hI.it c' hc').1 (hI.it c hc).1 hne h1.1).1 h3.1
  refine ⟨by simpa using hI.size, hI.closed.set hI.size hi, ?_, ?_, fun c' h => hI.it c' (hmem h).1, ?_, fun c' h => hI.pdone c' (hmem h).1, fun c' h => hI.pmask c' (hmem h).1, fun c' h => hI.pself c' (hmem h).1,
    fun c1 h1 c2 h2 => hI.uniq c1 (hmem h1).1 c2 (hmem h2).1, ?_, fun c' h => hI.val c' (hmem h).1, fun c1 h1 s hs c2 h2 => hI.rd1 c1 (hmem h1).1 s hs c2 (hmem h2).1, ?_, fun c' h => hI.gd c' (hmem h).1, fun c' h => hI.unw c' (hmem h).1,
    fun c' h => hI.lt3 c' (hmem h).1, fun c' h => hI.k01 c' (hmem h).1, fun c' h => hI.ck1 c' (hmem h).1, fun c' h => hI.k2 c' (hmem h).1, fun c1 h1 c2 h2 => hI.k2d c1 (hmem h1).1 c2 (hmem h2).1, hI.t0, hI.lom⟩
  · intro i h
    rw [getD_set_eq hlt] at h
    by_cases e : c.it.ix = i
    · rw [← e]; exact hI.pdone c hc
    · rw [if_neg e] at h; exact hI.ld i h
  · intro i h
    rw [getD_set_eq hlt]
    by_cases e : c.it.ix = i
    · exact .inl (if_pos e)
    · rw [if_neg e]
      rcases hI.dl i h with h | ⟨c', h1, h2⟩
      · exact .inl h
      · exact .inr ⟨c', hback h1 (fun h3 => e (h3.symm.trans h2)), h2⟩
  · intro c' h
    rw [getD_set_eq hlt, if_neg (fun e => (hmem h).2 e.symm)]
    exact hI.pnl c' (hmem h).1
  · intro j hj
    by_cases hw : Wr nt c.it.o j
    · rw [getT_set_wr hw]; exact (hI.val c hc j hw).symm
    · rw [getT_set_no hw]
      refine hI.tr j fun c' hc' hw' => ?_
      by_cases e : c'.it.ix = c.it.ix
      · have := hI.uniq c' hc' c hc e
        subst this
        exact hw hw'
      · exact hj c' (hback hc' e) hw'
  · intro c1 h1 s hs hno
    obtain ⟨h1, hne⟩ := hmem h1
    by_cases hw : Wr nt c.it.o s
    · rw [getT_set_wr hw]
      cases hb : c1.it.mask.testBit c.it.ix with
      | true => exact (hI.rd1 c1 h1 s hs c hc hw hb).symm
      | false =>
        exfalso
        rcases reads_spec hP (hI.it c hc).1 (hI.it c1 h1).1 (Ne.symm hne) hw.1 hs with ⟨mk, h3, h4⟩ | ⟨mk, h3, h4⟩
        · rw [(hI.it c1 h1).2.1] at h3; cases h3; rw [hb] at h4; cases h4
        · rw [(hI.it c hc).2.1] at h3; cases h3; rw [hnomask c1 h1] at h4; cases h4
    · rw [getT_set_no hw]
      refine hI.rd2 c1 h1 s hs fun c' hc' hw' => ?_
      by_cases e : c'.it.ix = c.it.ix
      · have := hI.uniq c' hc' c hc e
        subst this
        exact absurd hw' hw
      · exact hno c' (hback hc' e) hw'
theorem Inv.heavy (hP : PlanOK ops its) (hI : Inv P ops nt lo m tmps0 tmps Tm listed done cks pend) {p : PItem} (hp : ops[p.ix]? = some p.o ∧ (befores ops.toList)[p.ix]? = some p.mask ∧ p.kind = okind p.o.op)
    (hi : p.ix ∈ Region.ready .any ops listed) (hnd : done.testBit p.ix = false) {m1 : Mem} (hnx : m.next ≤ m1.next) (hck : ckAll P p.mask m1 cks = true) (v : AVal) :
    Inv P ops nt lo m1 tmps0 (setDst nt tmps v p.o.dst) (setDst nt Tm v p.o.dst) (listed.setIfInBounds p.ix true) (done.lor (Nat.pow 2 p.ix)) (leftCk p.mask cks) pend := by
  have hlt : p.ix < listed.size := by rw [hI.size]; exact (Array.getElem?_eq_some_iff.1 hp.1).1
  have hready := ready_mask hI.closed hi hp.2.1
  have hdiff : ∀ c ∈ pend, c.it.ix ≠ p.ix := by
    intro c hc e
    have := hI.pdone c hc
    rw [e, hnd] at this
    cases this
  have hno1 : ∀ c ∈ pend, p.mask.testBit c.it.ix = false := by
    intro c hc
    cases h : p.mask.testBit c.it.ix with
    | false => rfl
    | true => have := hready _ h; rw [hI.pnl c hc] at this; cases this
  have hno2 : ∀ c ∈ pend, c.it.mask.testBit p.ix = false := by
    intro c hc
    cases h : c.it.mask.testBit p.ix with
    | false => rfl
    | true => have := hI.pmask c hc _ h; rw [hnd] at this; cases this
  have hdst : ∀ c ∈ pend, ∀ j, Wr nt c.it.o j → ¬ Wr nt p.o j := by
    intro c hc j h1 h3
    exact (tmps_spec hP (hI.it c hc).1 hp.1 (hdiff c hc) h1.1).1 h3.1
  have hor : ∀ i, done.testBit i = true → (done.lor (Nat.pow 2 p.ix)).testBit i = true := fun i h => by rw [testBit_or_pow, h]; rfl
  have hone := fun c hc hb => ckAll_spec hck c hc hb
  refine ⟨by simpa using hI.size, hI.closed.set hI.size hi, ?_, ?_, hI.it, ?_, fun c hc => hor _ (hI.pdone c hc), fun c hc b hb => hor _ (hI.pmask c hc b hb), hI.pself, hI.uniq, ?_, ?_, hI.rd1, ?_, hI.gd, hI.unw, hI.lt3, ?_, fun c hc h hk => leftCk_mem (hI.ck1 c hc h hk) (hno1 c hc), ?_, hI.k2d, ?_, Nat.le_trans hI.lom hnx⟩
  · intro i h
    rw [getD_set_eq hlt] at h
    rw [testBit_or_pow]
    by_cases e : p.ix = i
    · subst e; simp
    · rw [if_neg e] at h; rw [hI.ld i h]; rfl
  · intro i h
    rw [testBit_or_pow, Bool.or_eq_true] at h
    rw [getD_set_eq hlt]
    by_cases e : p.ix = i
    · exact .inl (if_pos e)
    · rw [if_neg e]
      rcases h with h | h
      · exact hI.dl i h
      · exact absurd (by simpa using h) e
  · intro c hc
    rw [getD_set_eq hlt, if_neg (fun e => hdiff c hc e.symm)]
    exact hI.pnl c hc
  · intro j hj
    by_cases hw : Wr nt p.o j
    · rw [getT_set_wr hw, getT_set_wr hw]
    · rw [getT_set_no hw, getT_set_no hw]; exact hI.tr j hj
  · intro c hc j hj
    rw [getT_set_no (hdst c hc j hj)]
    exact hI.val c hc j hj
  · intro c hc s hs hno
    have hw : ¬ Wr nt p.o s := by
      intro hw
      rcases reads_spec hP hp.1 (hI.it c hc).1 (fun e => hdiff c hc e.symm) hw.1 hs with ⟨mk, h3, h4⟩ | ⟨mk, h3, h4⟩
      · rw [(hI.it c hc).2.1] at h3; cases h3; rw [hno2 c hc] at h4; cases h4
      · rw [hp.2.1] at h3; cases h3; rw [hno1 c hc] at h4; cases h4
    rw [getT_set_no hw]
    exact hI.rd2 c hc s hs hno
  · intro c hc h hk
    have h1 := hI.k01 c hc h hk
    have hkk := (hI.it c hc).2.2
    rcases (by omega : c.it.kind = 0 ∨ c.it.kind = 1) with h0 | h0
    · have := aop_re (P := P) c.T c.it.o.op (by rw [← hkk]; exact h0) m m1
      rw [this, h1]; rfl
    · have h3 := hone _ (hI.ck1 c hc h h0) (hno1 c hc)
      have h4 : ckVal c.v m1.next (aop P c.T m1 c.it.o.op) = true := h3
      obtain ⟨m', h5, h6⟩ := ckVal_sound h4
      have := (aop_sees (P := P) (m := m1) c.T c.it.o.op (by rw [← hkk]; exact hk) _ _ h5 h6).1
      rw [this] at h5
      exact h5
  · intro c hc h hk
    obtain ⟨mc', h3, h4, h5, h6, h7⟩ := hI.k2 c hc h hk
    refine ⟨mc', h3, ?_, h5, by omega, leftCk_mem h7 (hno1 c hc)⟩
    have h8 := hone _ h7 (hno1 c hc)
    have hmade := (aop_makes (P := P) (m := c.mc) c.T c.it.o.op (by rw [← (hI.it c hc).2.2]; exact hk) _ _ h3).1
    have h9 : (match madeAt c.v with | some r => sameObj (mc'.heap.get c.mc.next) (m1.heap.get r) | none => false) = true := h8
    rw [hmade] at h9
    exact (sameObj_sound h9).1.symm
  · intro j hj
    rw [getT_set_no (fun hw => hj hw.2 p.o (List.mem_of_getElem? (by simpa using hp.1)) hw.1)]
    exact hI.t0 j hj
end
end Go.Abs
namespace Go.Abs
open Go
open Go.RowKit (Below)
def Nb (N : Nat → Prop) (pend : List Pn) (r : Nat) : Prop := N r ∨ ∃ c ∈ pend, c.w = true ∧ c.it.kind = 2 ∧ r = c.mc.next
theorem SameCs.trans {dfr : Bool} {a b c : List Frame} (hc : SameCs dfr a b) (h : SameCs dfr b c) : SameCs dfr a c := by
  refine ⟨fun hd => (h.1 hd).trans (hc.1 hd), fun c rest e => ?_, fun e => h.2.2 (hc.2.2 e)⟩
  obtain ⟨md, h1, h2, h3⟩ := hc.2.1 c rest e
  obtain ⟨md', h4, h5, h6⟩ := h.2.1 _ _ h1
  refine ⟨md', h4, fun hr => h5 (h2 hr), fun ch hp => ?_⟩
  obtain ⟨ch', h7⟩ := h3 ch hp
  exact h6 ch' h7
section
variable {P : Program} {w0 : Wo} {B : Nat} {rec : Run} {fl : Fl}
theorem FR.retmps {ρ : Rho} {env : Env} {its : List Item} {tmps t : T AVal} {ds : List ADef} {mo : AMode} {fr : Frame} (hF : FR P ρ env its tmps ds mo fr) (h : TR ρ t fr.tmps) : FR P ρ env its t ds mo fr := { hF with tmps := h }
theorem gd_congr {ops : Array Oper} {o : Oper} {T T' : Abs.T AVal} (h : ∀ s, Rd ops o s → getT T s = getT T' s) : gd ops.toList T o.guard = gd ops.toList T' o.guard := by
  cases hg : o.guard with
  | none => rfl
  | some jw =>
    obtain ⟨j, want⟩ := jw
    show (match dstOf ops.toList j with | some d => gdV want (getT T d) | none => some false) = (match dstOf ops.toList j with | some d => gdV want (getT T' d) | none => some false)
    have hdst : dstOf ops.toList j = (ops[j]?).bind (·.dst) := by
      unfold dstOf
      rw [getO_eq]
      simp
    rw [hdst]
    cases hq : ops[j]? with
    | none => rfl
    | some q =>
      rw [Option.bind_some]
      cases hd : q.dst with
      | none => rfl
      | some d =>
        dsimp only
        rw [h d (.inr ⟨j, want, q, hg, hq, hd⟩)]
structure DS (P : Program) (ops : Array Oper) (w0 : Wo) (B : Nat) (env : Env) (k : List AItem) (mb : Mem) (ρb : Rho) (csb : List Frame) (tmps0 : Abs.T AVal) (m : Mem) (tmps : Abs.T AVal) (ds : List ADef) (up : Chain) (done : Nat) (cks : List Ck) (cs : List Frame)
    (ρ : Rho) (w : World) (fr : Frame) (L : List Nat) (listed : Array Bool) (pend : List Pn) (Tm : Abs.T AVal) : Prop where
  inv : Inv P ops env.nt mb.next m tmps0 tmps Tm listed done cks pend
  mr : MR ⟨w0.w, Nb w0.N pend⟩ B ρ m w
  fr : FR P ρ env (.inRegion ops L :: k.map AItem.toItem) Tm ds .run fr
  up : UpR ρ env.dfr up cs
  ord : Ord ops listed L
  le : ρb.le ρ
  keeps : Keeps mb m
  same : SameCs env.dfr csb cs
variable {ops : Array Oper} {its0 : PTree} {env : Env} {k : List AItem} {mb : Mem} {ρb : Rho} {csb : List Frame} {tmps0 tmps : Abs.T AVal} {m : Mem} {ds : List ADef} {up : Chain} {done : Nat} {cks : List Ck} {cs : List Frame}
theorem okind_defer {op : Op} (h : okind op < 3) : ∀ c, op ≠ .defer c := by
  intro c e
  subst e
  exact absurd (show (3 : Nat) < 3 from h) (by decide)
theorem flush (hP : PlanOK ops its0) (hN0 : ∀ r, w0.N r → r < mb.next) {r : RR}
    (K : ∀ ρ w fr L listed pend Tm, DS P ops w0 B env k mb ρb csb tmps0 m tmps ds up done cks cs ρ w fr L listed pend Tm → (∀ c ∈ pend, L.head? ≠ some c.it.ix) → Res P w0 B ρb env csb mb (lone fr cs w) r) :
    ∀ L ρ w fr listed pend Tm, DS P ops w0 B env k mb ρb csb tmps0 m tmps ds up done cks cs ρ w fr L listed pend Tm → Res P w0 B ρb env csb mb (lone fr cs w) r := by
  intro L
  induction L with
  | nil => intro ρ w fr listed pend Tm hD; exact K ρ w fr [] listed pend Tm hD fun c _ => by simp
  | cons i L ih =>
    intro ρ w fr listed pend Tm hD
    by_cases hex : ∃ c ∈ pend, c.it.ix = i
    · obtain ⟨c, hc, rfl⟩ := hex
      have hi := hD.ord.1
      have ho := (hD.inv.it c hc).1
      have hm : fr.mode = .run := hD.fr.mode
      have ht := hD.fr.todo rfl
      have hready := ready_mask hD.inv.closed hi (hD.inv.it c hc).2.1
      have hread : ∀ s, Rd ops c.it.o s → getT Tm s = getT c.T s := by
        intro s hs
        refine hD.inv.rd2 c hc s hs fun c' hc' _ => ?_
        cases h : c.it.mask.testBit c'.it.ix with
        | false => rfl
        | true => have := hready _ h; rw [hD.inv.pnl c' hc'] at this; cases this
      have hop : ∀ s ∈ opTmps c.it.o, R ρ (getT c.T s) (fr.tmps.getD s undef) := by
        intro s hs
        rw [← hread s (.inl hs)]
        exact hD.fr.tmps s
      have hw : Region.wanted c.it.o (yielded ops fr.tmps) = c.w := gd_sound hD.fr (by rw [gd_congr hread]; exact hD.inv.gd c hc)
      have hpop := hD.inv.pop hP hc hi
      have hsub : ∀ r, Nb w0.N (pend.filter fun c' => !(c'.it.ix == c.it.ix)) r → Nb w0.N pend r := by
        rintro r (h | ⟨c', h1, h2⟩)
        · exact .inl h
        · exact .inr ⟨c', (List.mem_filter.1 h1).1, h2⟩
      cases hcw : c.w with
      | false =>
        rw [hcw] at hw
        refine Res.steps (.one (step_skip_op hm ht ho hw)) (ih ρ w _ _ _ _ ⟨hpop, hD.mr.unban hsub, ?_, hD.up, hD.ord.2, hD.le, hD.keeps, hD.same⟩)
        exact hD.fr.finish ho (Rho.le.refl ρ) (by rw [hD.inv.unw c hc hcw]; simp only [undefA, R]; rfl)
      | true =>
        rw [hcw] at hw
        have hlt3 := hD.inv.lt3 c hc hcw
        have hkk := (hD.inv.it c hc).2.2
        have hstep := stepG_oper (P := P) (cs := cs) (w := w) hm ht ho hw (.inl (okind_defer (by rw [← hkk]; exact hlt3)))
        by_cases hk : c.it.kind < 2
        · obtain ⟨x, w', ρ', h1, hle, hM, hR⟩ := light_run hD.mr hop (hD.inv.k01 c hc hcw hk)
          rcases h1 with h1 | ⟨h1, hv⟩
          · refine Res.steps (.one (step_lone_go (by rw [hstep]; exact apply_value h1))) (ih ρ' w' _ _ _ _ ⟨hpop, hM.unban hsub, ?_, hD.up.mono hle, hD.ord.2, hD.le.trans hle, hD.keeps, hD.same⟩)
            exact hD.fr.finish ho hle hR
          · refine Res.steps (.one (step_lone_go (by rw [hstep]; exact apply_skip h1))) (ih ρ' w' _ _ _ _ ⟨hpop, hM.unban hsub, ?_, hD.up.mono hle, hD.ord.2, hD.le.trans hle, hD.keeps, hD.same⟩)
            exact hD.fr.finish ho hle (by rw [hv]; simp [R])
        · have hk2 : c.it.kind = 2 := by omega
          obtain ⟨mc', e1, e2, e3, e4, _⟩ := hD.inv.k2 c hc hcw hk2
          have hno := (hD.mr.ban c.mc.next (.inr ⟨c, hc, hcw, hk2, rfl⟩)).2
          have hnb : ¬ Nb w0.N (pend.filter fun c' => !(c'.it.ix == c.it.ix)) c.mc.next := by
            rintro (h | ⟨c', h1, h2, h3, h4⟩)
            · have := hN0 _ h; omega
            · rw [List.mem_filter] at h1
              have := hD.inv.k2d c hc c' h1.1 hcw h2 hk2 h3 h4
              subst this
              simp at h1
          obtain ⟨x, w', ρ', h1, hle, hM, hR, _⟩ := maker_run (hD.mr.unban hsub) (by rw [← hkk]; exact hk2) hop e1 e2 hno hnb
          refine Res.steps (.one (step_lone_go (by rw [hstep]; exact apply_value h1))) (ih ρ' w' _ _ _ _ ⟨hpop, hM, ?_, hD.up.mono hle, hD.ord.2, hD.le.trans hle, hD.keeps, hD.same⟩)
          exact hD.fr.finish ho hle hR
    · refine K ρ w fr _ listed pend Tm hD fun c hc e => hex ⟨c, hc, ?_⟩
      simpa using e.symm
theorem ready_not {listed : Array Bool} {i : Nat} (hs : listed.size = ops.size) (h : i ∈ Region.ready .any ops listed) : listed.getD i false = false ∧ i < ops.size := by
  obtain ⟨h1, o, ho, _⟩ := mem_ready.1 h
  have hlt := (Array.getElem?_eq_some_iff.1 ho).1
  refine ⟨?_, hlt⟩
  rw [Array.getD_eq_getD_getElem?, Array.getElem?_eq_getElem (by omega)] at h1 ⊢
  exact h1
theorem full_bit {n i : Nat} (h : i < n) : (2 ^ n - 1).testBit i = true := by
  rw [Nat.testBit_two_pow_sub_one]; simpa using h
theorem lastV_eq {nt : Nat} {T T' : Abs.T AVal} (dst : Option Tmp) (v : AVal) : setDst nt T (match dst with | some d => getT (setDst nt T' v dst) d | none => .poison) dst = setDst nt T v dst := by
  cases dst with
  | none => rfl
  | some d =>
    dsimp only
    rw [getT_setDst]
    show setIn nt T d _ = setIn nt T d v
    by_cases h : d < nt
    · rw [if_pos ⟨rfl, h⟩]
    · unfold setIn
      have : d.succ.ble nt = false := nat_ble_f.2 (Nat.lt_succ_of_le (Nat.le_of_not_lt h))
      rw [this]; rfl
def FullT (P : Program) (ops : Array Oper) (w0 : Wo) (B : Nat) (fl : Fl) (rec : Run) (env : Env) (k : List AItem) (mb : Mem) (ρb : Rho) (csb : List Frame) (tmps0 : Abs.T AVal) (t : PTree) : Prop :=
  ∀ (top : Bool) (done : Nat) (cks : List Ck) (tmps : Abs.T AVal) (m : Mem) (ds : List ADef) (up : Chain) (cs : List Frame) (ρ : Rho) (w : World) (fr : Frame) (L : List Nat) (listed : Array Bool) (pend : List Pn) (Tm : Abs.T AVal),
    top = true → okT (items ops.toList) (2 ^ ops.size - 1) t top done = true →
    DS P ops w0 B env k mb ρb csb tmps0 m tmps ds up done cks cs ρ w fr L listed pend Tm →
    Res P w0 B ρb env csb mb (lone fr cs w) (drawGo P fl rec env ops.toList k tmps0 t cks tmps ds up m)
theorem drawGo_fin (cks : List Ck) : drawGo P fl rec env ops.toList k tmps0 .fin cks tmps ds up m = rec env k tmps ds .run up m := rfl
theorem drawGo_light (p : PItem) (r : PTree) (cks : List Ck) : drawGo P fl rec env ops.toList k tmps0 (.light p r) cks tmps ds up m = (match gd ops.toList tmps p.o.guard with
      | some true => lightR env p (drawGo P fl rec env ops.toList k tmps0 r) cks tmps ds up m (aop P tmps m p.o.op)
      | some false => drawGo P fl rec env ops.toList k tmps0 r cks (setDst env.nt tmps undefA p.o.dst) ds up m
      | none => .bad "guard") := rfl
theorem drawGo_heavy (p : PItem) (r : PTree) (cks : List Ck) : drawGo P fl rec env ops.toList k tmps0 (.heavy p r) cks tmps ds up m = (match gd ops.toList tmps p.o.guard with
      | some true => operR P fl rec env (fun c up m => rec env k (poisonDsts tmps0 env.nt ops.toList) ds (.panicking c) up m) p.o.dst (behindR P p (drawGo P fl rec env ops.toList k tmps0 r) cks) tmps ds up m p.o.op
      | some false => drawGo P fl rec env ops.toList k tmps0 r cks (setDst env.nt tmps undefA p.o.dst) ds up m
      | none => .bad "guard") := rfl
theorem drawGo_either (a b : PTree) (cks : List Ck) : drawGo P fl rec env ops.toList k tmps0 (.either a b) cks tmps ds up m = .alt (drawGo P fl rec env ops.toList k tmps0 a cks tmps ds up m) (drawGo P fl rec env ops.toList k tmps0 b cks tmps ds up m) := rfl
theorem pick_branch {wb : Wo} {M : Machine} : ∀ (t : PTree) (x : PItem × PTree), x ∈ branchesT t → Res P wb B ρb env csb mb M (drawGo P fl rec env ops.toList k tmps0 (.heavy x.1 x.2) cks tmps ds up m) →
    Res P wb B ρb env csb mb M (drawGo P fl rec env ops.toList k tmps0 t cks tmps ds up m)
  | .fin, x, hx, _ => by cases hx
  | .light _ _, x, hx, _ => by cases hx
  | .heavy p r, x, hx, h => by
    simp only [branchesT, List.mem_singleton] at hx
    subst hx
    exact h
  | .either a b, x, hx, h => by
    rw [drawGo_either]
    rcases List.mem_append.1 hx with hx | hx
    · exact .inl (pick_branch a x hx h)
    · exact .inr (pick_branch b x hx h)
theorem unwanted_step (hP : PlanOK ops its0) {p : PItem} {r : PTree} (hr : FullT P ops w0 B fl rec env k mb ρb csb tmps0 r) {ρ : Rho} {w : World} {fr : Frame} {L : List Nat} {listed : Array Bool} {pend : List Pn} {Tm : Abs.T AVal}
    (hp : ops[p.ix]? = some p.o ∧ (befores ops.toList)[p.ix]? = some p.mask ∧ p.kind = okind p.o.op) (hfit : fitP done p = true) (hok : okT (items ops.toList) (2 ^ ops.size - 1) r true (done.lor (Nat.pow 2 p.ix)) = true)
    (hg : gd ops.toList tmps p.o.guard = some false) (hD : DS P ops w0 B env k mb ρb csb tmps0 m tmps ds up done cks cs ρ w fr L listed pend Tm) :
    Res P w0 B ρb env csb mb (lone fr cs w) (drawGo P fl rec env ops.toList k tmps0 r cks (setDst env.nt tmps undefA p.o.dst) ds up m) := by
  obtain ⟨o1, o3⟩ := fitP_spec hfit
  refine hr true _ cks _ m ds up cs ρ w fr L listed (⟨p, tmps, undefA, false, m⟩ :: pend) Tm rfl hok ⟨?_, ?_, hD.fr, hD.up, hD.ord, hD.le, hD.keeps, hD.same⟩
  · exact hD.inv.join hP hp o1 o3 hg (fun _ => rfl) (fun h => by cases h) (Ext.refl m) (Nat.le_refl _) (fun _ _ => rfl) (fun _ h => h) (fun h => by cases h) (fun h => by cases h) (fun h => by cases h)
  · refine hD.mr.unban ?_
    rintro r (h | ⟨c, hc, h1, h2⟩)
    · exact .inl h
    · rcases List.mem_cons.1 hc with rfl | hc
      · cases h1
      · exact .inr ⟨c, hc, h1, h2⟩
theorem heavy_step (hnames : NamesOK P) (htb : TbOK P fl) (hrec : ∀ w0, Sound P w0 B rec) (hP : PlanOK ops its0) {p : PItem} {r : PTree} (hr : FullT P ops w0 B fl rec env k mb ρb csb tmps0 r) {ρ : Rho} {w : World} {fr : Frame} {L : List Nat} {listed : Array Bool} {pend : List Pn} {Tm : Abs.T AVal}
    (hp : ops[p.ix]? = some p.o ∧ (befores ops.toList)[p.ix]? = some p.mask ∧ p.kind = okind p.o.op) (hfit : fitP done p = true) (hok : okT (items ops.toList) (2 ^ ops.size - 1) r true (done.lor (Nat.pow 2 p.ix)) = true)
    (hg : gd ops.toList tmps p.o.guard = some true) (hD : DS P ops w0 B env k mb ρb csb tmps0 m tmps ds up done cks cs ρ w fr (p.ix :: L) listed pend Tm) :
    Res P w0 B ρb env csb mb (lone fr cs w) (operR P fl rec env (fun c up m => rec env k (poisonDsts tmps0 env.nt ops.toList) ds (.panicking c) up m) p.o.dst (behindR P p (drawGo P fl rec env ops.toList k tmps0 r) cks) tmps ds up m p.o.op) := by
  obtain ⟨o1, o3⟩ := fitP_spec hfit
  have hm : fr.mode = .run := hD.fr.mode
  have hready := ready_mask hD.inv.closed hD.ord.1 hp.2.1
  have hread : ∀ s, Rd ops p.o s → getT Tm s = getT tmps s := by
    intro s hs
    refine hD.inv.tr s fun c hc hw => ?_
    have hne : c.it.ix ≠ p.ix := by
      intro e
      have := hD.inv.pdone c hc
      rw [e, o3] at this; cases this
    rcases reads_spec hP (hD.inv.it c hc).1 hp.1 hne hw.1 hs with ⟨mk, h3, h4⟩ | ⟨mk, h3, h4⟩
    · rw [hp.2.1] at h3; cases h3
      have := hready _ h4
      rw [hD.inv.pnl c hc] at this; cases this
    · rw [(hD.inv.it c hc).2.1] at h3; cases h3
      have := hD.inv.pmask c hc _ h4
      rw [o3] at this; cases this
  have hw : Region.wanted p.o (yielded ops fr.tmps) = true := gd_sound hD.fr (by rw [gd_congr hread]; exact hg)
  have hsame : SameAt tmps Tm p.o.op.operands := by
    intro x hx
    cases x with
    | tmp s => exact (hread s (.inl (mem_opTmps.2 hx))).symm
    | _ => rfl
  rw [operR_congr (T := tmps) (T' := Tm) (panicked' := fun c up m => rec env k (poisonDsts tmps0 env.nt ops.toList) ds (.panicking c) up m)
    (cont' := fun t ds up m => behindR P p (drawGo P fl rec env ops.toList k tmps0 r) cks (setDst env.nt tmps (match p.o.dst with | some d => getT t d | none => .poison) p.o.dst) ds up m) p.o.op hsame
    (fun v ds up m => by rw [lastV_eq]) (fun _ _ _ => rfl)]
  refine operR_sound (wb := w0) (ρb := ρb) (csb := csb) (mb := mb) hnames (hrec _) (call_sound htb (hrec _)) hD.mr hD.fr hD.up hp.1 hw ?_ ?_
  · intro ρ1 m1 w1 fr1 v ds1 up1 cs1 hle hk hsc h3 hF1 hU1
    dsimp only
    rw [lastV_eq]
    show Res P w0 B ρb env csb mb (lone fr1 cs1 w1) (bif ckAll P p.mask m1 cks then drawGo P fl rec env ops.toList k tmps0 r (leftCk p.mask cks) (setDst env.nt tmps v p.o.dst) ds1 up1 m1 else .bad p.o.pos)
    cases hck : ckAll P p.mask m1 cks with
    | false => exact trivial
    | true =>
      rw [cond_true]
      exact hr true _ _ _ m1 ds1 up1 cs1 ρ1 w1 fr1 L _ pend _ rfl hok ⟨hD.inv.heavy hP hp hD.ord.1 o3 hk.next hck v, h3, hF1, hU1, hD.ord.2, hD.le.trans hle, hD.keeps.trans hk, hD.same.trans hsc⟩
  · intro ρ1 m1 w1 fr1 c up1 cs1 hle hk hsc h3 hF1 hU1
    have hT : TR ρ1 (poisonDsts tmps0 env.nt ops.toList) fr1.tmps := by
      intro j
      rcases getT_poisonDsts (nt := env.nt) (t := tmps0) ops.toList j with h4 | ⟨h4, h5⟩
      · rw [h4]; simp [R]
      · rw [h4, ← hD.inv.t0 j h5, ← hD.inv.tr j ?_]
        · exact hF1.tmps j
        · intro c hc hw
          exact h5 hw.2 c.it.o (List.mem_of_getElem? (by simpa using (hD.inv.it c hc).1)) hw.1
    exact Res.later (hD.le.trans hle) (hD.keeps.trans hk) (hD.same.trans hsc) (hrec w0 env k _ ds _ up1 m1 ρ1 w1 fr1 cs1 (h3.unban (N' := w0.N) fun r hr => .inl hr) (hF1.panicking.retmps hT) hU1)
theorem heavy_place (hnames : NamesOK P) (htb : TbOK P fl) (hrec : ∀ w0, Sound P w0 B rec) (hP : PlanOK ops its0) (hN0 : ∀ r, w0.N r → r < mb.next) {t : PTree} (ht : (∃ p r, t = .heavy p r) ∨ ∃ a b, t = .either a b)
    (hit : ∀ x ∈ branchesT t, ops[x.1.ix]? = some x.1.o ∧ (befores ops.toList)[x.1.ix]? = some x.1.mask ∧ x.1.kind = okind x.1.o.op) (hfull : ∀ x ∈ branchesT t, FullT P ops w0 B fl rec env k mb ρb csb tmps0 x.2) :
    FullT P ops w0 B fl rec env k mb ρb csb tmps0 t := by
  intro top done cks tmps m ds up cs ρ w fr L listed pend Tm htop hok hD
  subst htop
  have hbr := okT_branches t true done hok
  have hwhole := okT_whole hok ht
  by_cases hun : ∃ x ∈ branchesT t, gd ops.toList tmps x.1.o.guard ≠ some true
  · obtain ⟨x, hx, hg⟩ := hun
    refine pick_branch t x hx ?_
    rw [drawGo_heavy]
    cases hg' : gd ops.toList tmps x.1.o.guard with
    | none => exact trivial
    | some b =>
      cases b with
      | true => exact absurd hg' hg
      | false => exact unwanted_step hP (hfull x hx) (hit x hx) (hbr x hx).1 (hbr x hx).2 hg' hD
  · refine flush hP hN0 ?_ L ρ w fr listed pend Tm hD
    intro ρ w fr L listed pend Tm hD hhead
    cases L with
    | nil =>
      exfalso
      have hall := all_listed hP.edges hD.inv.size hD.ord
      have : ∃ x, x ∈ branchesT t := okT_some hok ht
      obtain ⟨x, hx⟩ := this
      have h1 := hall x.1.ix (Array.getElem?_eq_some_iff.1 (hit x hx).1).1
      have h2 := hD.inv.ld _ h1
      rw [(fitP_spec (hbr x hx).1).2] at h2; cases h2
    | cons i L =>
      obtain ⟨h1, h2⟩ := ready_not hD.inv.size hD.ord.1
      obtain ⟨q, hq, hqi⟩ := items_all h2
      have hqs := items_mem hq
      have hnd : done.testBit i = false := by
        cases hd : done.testBit i with
        | false => rfl
        | true =>
          exfalso
          rcases hD.inv.dl i hd with h4 | ⟨c, hc, e⟩
          · rw [h1] at h4; cases h4
          · exact hhead c hc (by simp [e])
      have hrd : readyP done q = true := by
        rw [readyP_iff]
        intro b hb
        exact hD.inv.ld _ (ready_mask hD.inv.closed hD.ord.1 (mk := q.mask) (by rw [← hqi]; exact hqs.2.1) b hb)
      rcases hwhole q hq with h3 | h3 | ⟨x, hx, h3⟩
      · rw [hqi, hnd] at h3; cases h3
      · rw [hrd] at h3; cases h3
      · have hxi : i = x.1.ix := by rw [h3, hqi]
        subst hxi
        refine pick_branch t x hx ?_
        rw [drawGo_heavy]
        have hg : gd ops.toList tmps x.1.o.guard = some true := Classical.byContradiction fun hne => hun ⟨x, hx, hne⟩
        rw [hg]
        exact heavy_step hnames htb hrec hP (hfull x hx) (hit x hx) (hbr x hx).1 (hbr x hx).2 hg hD
theorem full_all (hnames : NamesOK P) (htb : TbOK P fl) (hrec : ∀ w0, Sound P w0 B rec) (hP : PlanOK ops its0) (hN0 : ∀ r, w0.N r → r < mb.next) :
    ∀ t : PTree, (∀ p ∈ itemsT t, ops[p.ix]? = some p.o ∧ (befores ops.toList)[p.ix]? = some p.mask ∧ p.kind = okind p.o.op) →
      FullT P ops w0 B fl rec env k mb ρb csb tmps0 t ∧ (∀ x ∈ branchesT t, (ops[x.1.ix]? = some x.1.o ∧ (befores ops.toList)[x.1.ix]? = some x.1.mask ∧ x.1.kind = okind x.1.o.op) ∧ FullT P ops w0 B fl rec env k mb ρb csb tmps0 x.2) := by
  intro t
  induction t with
  | fin =>
    intro _
    refine ⟨?_, fun x hx => by cases hx⟩
    intro top done cks tmps m ds up cs ρ w fr L listed pend Tm _ hok hD
    refine flush hP hN0 ?_ L ρ w fr listed pend Tm hD
    intro ρ w fr L listed pend Tm hD hhead
    rw [drawGo_fin]
    have hdone := okT_fin hok
    cases L with
    | cons i L =>
      exfalso
      obtain ⟨h1, h2⟩ := ready_not hD.inv.size hD.ord.1
      rcases hD.inv.dl i (by rw [hdone]; exact full_bit h2) with h4 | ⟨c, hc, e⟩
      · rw [h1] at h4; cases h4
      · exact hhead c hc (by simp [e])
    | nil =>
      have hall := all_listed hP.edges hD.inv.size hD.ord
      have hpend : pend = [] := by
        cases pend with
        | nil => rfl
        | cons c rest =>
          have h1 := hD.inv.pnl c (List.mem_cons_self ..)
          have h2 := hall c.it.ix (Array.getElem?_eq_some_iff.1 (hD.inv.it c (List.mem_cons_self ..)).1).1
          rw [h1] at h2; cases h2
      subst hpend
      have hm : fr.mode = .run := hD.fr.mode
      have ht : fr.todo = .inRegion ops [] :: k.map AItem.toItem := hD.fr.todo rfl
      have hT : TR ρ tmps fr.tmps := fun j => by rw [← hD.inv.tr j fun c hc => (by cases hc)]; exact hD.fr.tmps j
      refine Res.later hD.le hD.keeps hD.same (go_on (hrec w0) (hD.mr.unban (N' := w0.N) fun r hr => .inl hr) ((hD.fr.retmps hT).goto _) hD.up (by simp [stepG, stepG.exec, hm, ht]))
  | light p r ih =>
    intro hit
    have hp := hit p (List.mem_cons_self ..)
    have hr := (ih fun q hq => hit q (List.mem_cons_of_mem _ hq)).1
    refine ⟨?_, fun x hx => by cases hx⟩
    intro top done cks tmps m ds up cs ρ w fr L listed pend Tm htop hok hD
    obtain ⟨hfit, hlt3, o4⟩ := okT_light hok
    obtain ⟨o1, o3⟩ := fitP_spec hfit
    rw [drawGo_light]
    cases hg : gd ops.toList tmps p.o.guard with
    | none => exact trivial
    | some b =>
      cases b with
      | false => exact unwanted_step hP hr hp hfit o4 hg hD
      | true =>
        dsimp only
        cases ha : aop P tmps m p.o.op with
        | val v m' =>
          show Res P w0 B ρb env csb mb (lone fr cs w) (bif p.kind.beq 2 || m'.next.beq m.next then drawGo P fl rec env ops.toList k tmps0 r (addCk tmps p v m' cks) (setDst env.nt tmps v p.o.dst) ds up m' else .bad "a light operation made something")
          cases hc : (p.kind.beq 2 || m'.next.beq m.next) with
          | false => exact trivial
          | true =>
            rw [cond_true]
            by_cases hk : p.kind < 2
            · have hne : p.kind.beq 2 = false := nat_beq_f.2 (by omega)
              rw [hne, Bool.false_or, nat_beq] at hc
              have hm' := (aop_sees (P := P) (m := m) tmps p.o.op (by rw [← hp.2.2]; exact hk) _ _ ha hc).1
              subst hm'
              refine hr true _ _ _ _ ds up cs ρ w fr L listed (⟨p, tmps, v, true, m'⟩ :: pend) Tm rfl o4 ⟨?_, ?_, hD.fr, hD.up, hD.ord, hD.le, hD.keeps, hD.same⟩
              · refine hD.inv.join hP hp o1 o3 hg (fun h => by cases h) (fun _ => hlt3) (Ext.refl _) (Nat.le_refl _) (fun _ _ => rfl) ?_ (fun _ _ => ha) ?_ (fun _ h => by omega)
                · intro c hc
                  unfold addCk
                  split
                  · exact List.mem_cons_of_mem _ hc
                  · exact List.mem_cons_of_mem _ hc
                  · exact hc
                · intro _ h1
                  unfold addCk
                  rw [h1]
                  exact List.mem_cons_self ..
              · refine hD.mr.unban ?_
                rintro r (h | ⟨c, hc, h1, h2, h3⟩)
                · exact .inl h
                · rcases List.mem_cons.1 hc with rfl | hc
                  · have h2' : p.kind = 2 := h2
                    omega
                  · exact .inr ⟨c, hc, h1, h2, h3⟩
            · have hk2 : p.kind = 2 := by omega
              obtain ⟨hmade, o, rfl, hob⟩ := aop_makes (P := P) (m := m) tmps p.o.op (by rw [← hp.2.2]; exact hk2) _ _ ha
              have hext : Ext m (m.new o) := ⟨fun q o' hq => by
                rw [new_heap, T.get_set_other _ _ (Nat.ne_of_gt (hD.mr.hlt hq))]
                exact hq, new_gl _ _⟩
              refine hr true _ _ _ _ ds up cs ρ w fr L listed (⟨p, tmps, v, true, m⟩ :: pend) Tm rfl o4 ⟨?_, ?_, hD.fr, hD.up, hD.ord, hD.le, hD.keeps.trans Keeps.new, hD.same⟩
              · refine hD.inv.join hP hp o1 o3 hg (fun h => by cases h) (fun _ => hlt3) hext (by rw [new_next]; omega) ?_ ?_ (fun _ h => by omega) (fun _ h => by omega) (fun _ _ => ⟨ha, by rw [new_next]; omega, ?_⟩)
                · intro q hq
                  rw [new_heap, T.get_set_other _ _ (Nat.ne_of_gt hq)]
                · intro c hc
                  unfold addCk
                  split
                  · exact List.mem_cons_of_mem _ hc
                  · exact List.mem_cons_of_mem _ hc
                  · exact hc
                · unfold addCk
                  rw [hk2, hmade]
                  exact List.mem_cons_self ..
              · refine ((hD.mr.hold hob).reban (N := Nb w0.N (⟨p, tmps, v, true, m⟩ :: pend)) ?_)
                rintro r (h | ⟨c, hc, h1, h2, h3⟩)
                · have := hD.mr.ban r (.inl h)
                  rw [new_next]
                  exact ⟨Nat.lt_succ_of_lt this.1, this.2⟩
                · rcases List.mem_cons.1 hc with rfl | hc
                  · have h3' : r = m.next := h3
                    subst h3'
                    rw [new_next]
                    exact ⟨Nat.lt_succ_self _, hD.mr.dom _ (Nat.le_refl _)⟩
                  · have := hD.mr.ban r (.inr ⟨c, hc, h1, h2, h3⟩)
                    rw [new_next]
                    exact ⟨Nat.lt_succ_of_lt this.1, this.2⟩
        | _ => exact trivial
  | heavy p r ih =>
    intro hit
    have hp := hit p (List.mem_cons_self ..)
    have hr := (ih fun q hq => hit q (List.mem_cons_of_mem _ hq)).1
    have hb : ∀ x ∈ branchesT (.heavy p r), (ops[x.1.ix]? = some x.1.o ∧ (befores ops.toList)[x.1.ix]? = some x.1.mask ∧ x.1.kind = okind x.1.o.op) ∧ FullT P ops w0 B fl rec env k mb ρb csb tmps0 x.2 := by
      intro x hx
      simp only [branchesT, List.mem_singleton] at hx
      subst hx
      exact ⟨hp, hr⟩
    exact ⟨heavy_place hnames htb hrec hP hN0 (.inl ⟨p, r, rfl⟩) (fun x hx => (hb x hx).1) (fun x hx => (hb x hx).2), hb⟩
  | either a b iha ihb =>
    intro hit
    have ha := (iha fun q hq => hit q (List.mem_append.2 (.inl hq))).2
    have hb := (ihb fun q hq => hit q (List.mem_append.2 (.inr hq))).2
    have hab : ∀ x ∈ branchesT (.either a b), (ops[x.1.ix]? = some x.1.o ∧ (befores ops.toList)[x.1.ix]? = some x.1.mask ∧ x.1.kind = okind x.1.o.op) ∧ FullT P ops w0 B fl rec env k mb ρb csb tmps0 x.2 := by
      intro x hx
      rcases List.mem_append.1 hx with hx | hx
      · exact ha x hx
      · exact hb x hx
    exact ⟨heavy_place hnames htb hrec hP hN0 (.inr ⟨a, b, rfl⟩) (fun x hx => (hab x hx).1) (fun x hx => (hab x hx).2), hab⟩
theorem draw_ok (hnames : NamesOK P) (htb : TbOK P fl) (hmix : P.follows .mixedOrders = true) (B : Nat) (rec : Run) (hrec : ∀ w0, Sound P w0 B rec) (w0 : Wo) : DrawOK P w0 B fl rec := by
  intro env id ops k ρ m w fr tmps ds up cs h hF hU
  cases hp : plan ops.toList with
  | none => exact trivial
  | some its =>
    have hP := plan_spec hp
    have hm : fr.mode = .run := hF.mode
    have ht : fr.todo = .code (.region id ops true) :: k.map AItem.toItem := hF.todo rfl
    have hstep : step P (lone fr cs w) = .next (lone { fr with todo := .inRegion ops (Region.linearise .any ops (w.tape w.drawn (.order fr.fn id))) :: k.map AItem.toItem } cs w.drew) := by
      refine step_lone_go ?_
      simp [stepG, stepG.exec, hm, ht, choose, Sem.run, Question.forced, Question.cut, Region.schedule, hmix]
    refine Res.steps (.one hstep) ?_
    show Res P w0 B ρ env cs m _ (drawGo P fl rec env ops.toList k tmps its [] tmps ds up m)
    refine (full_all (mb := m) (ρb := ρ) (csb := cs) hnames htb hrec hP (fun r hr => (h.ban r hr).1) its hP.item).1 true 0 [] tmps m ds up cs ρ w.drew _ (Region.linearise .any ops (w.tape w.drawn (.order fr.fn id))) (Array.replicate ops.size false) [] tmps rfl hP.ord ?_
    exact ⟨Inv.start tmps m, (h.drew).reban (fun r hr => by
      rcases hr with hr | ⟨c, hc, _⟩
      · exact h.ban r hr
      · cases hc), hF.goto _, hU, ord_start ops _, Rho.le.refl ρ, Keeps.refl m, SameCs.refl _ _⟩
theorem closed_calls (hnames : NamesOK P) (htb : TbOK P fl) (hmix : P.follows .mixedOrders = true) {n : Nat} {f : FuncId} {v : Value} {up' : Chain} {m' : Mem}
    (e : callA P fl n f [] mem0 = .ret (.lit v) up' m') (w : World) : Calls P f #[] w fun e w' => e = .returned v ∧ Below w.heap.size w w' :=
  closed_sound hnames htb (fun B rec hrec w0 => draw_ok hnames htb hmix B rec hrec w0) e w
end
end Go.Abs
namespace Go.Abs
open Go
open Go.RowKit (Below)
noncomputable section
def cAt : List Bool → Code → Code
  | [], c => c
  | b :: p, c => match c with
    | .seq x y => cAt p (bif b then y else x)
    | .cond _ x y => cAt p (bif b then y else x)
    | .rangeFunc _ _ x y => cAt p (bif b then y else x)
    | .block _ x => cAt p x
    | .loop x => cAt p x
    | .scope x => cAt p x
    | c => c
def bodyOf (P : Program) (g : FuncId) : Code := match P.funcs[g]? with
  | some fn => (match fn.body with | some c => c | none => .skip)
  | none => .skip
def envOf (P : Program) (g : FuncId) : Env := ⟨g, (match P.funcs[g]? with | some fn => fn.ntmps | none => 0), false, none⟩
def isTrueR : RR → Bool
  | .ret (.lit (.bool true)) _ _ => true
  | _ => false
def runTop (P : Program) (fl : Fl) (n : Nat) (g : FuncId) (K : Run) (j : Nat) : Run :=
  Nat.rec K (fun _ ih => bodyGo P fl (fun env => bif env.fn.beq g then ih env else run P fl n env)) j
def keepHeap (h : T AObj) (l : List Nat) : T AObj := List.rec .e (fun r _ ih => match h.get r with | some o => ih.set r o | none => ih) l
def keepFams (h : T (List Nat)) (l : List Nat) : T (List Nat) := List.rec .e (fun r _ ih => match h.get r with | some o => ih.set r o | none => ih) l
def keepTmps (t : T AVal) (l : List Nat) : T AVal := List.rec .e (fun r _ ih => match t.get r with | some o => ih.set r o | none => ih) l
def keepM (l lf : List Nat) (m : Mem) : Mem := match m with | ⟨h, n, fs, lo, d, g⟩ => ⟨keepHeap h l, n, keepFams fs lf, lo, d, g⟩
theorem keepM_gl (l lf : List Nat) (m : Mem) : (keepM l lf m).gl = m.gl := by cases m; rfl
def famKept (lf : List Nat) (m : Mem) : Option AObj → Bool
  | some (.row _ _ f _) => hasN lf f || (match m.fams.get f with | some _ => false | none => true)
  | _ => true
def keepOK (lf : List Nat) (m : Mem) (l : List Nat) : Bool := List.rec (m.lo.beq 0) (fun r _ ih => bif famKept lf m (m.heap.get r) then ih else false) l
def keepS (l lf lt : List Nat) (K : Run) : Run := fun env todo tmps ds mode up m => bif keepOK lf m l then K env todo (keepTmps tmps lt) ds mode up (keepM l lf m) else .bad "keep"
end
theorem getT_keep (t : T AVal) : ∀ (l : List Nat) (j : Nat), getT (keepTmps t l) j = getT t j ∨ getT (keepTmps t l) j = .poison
  | [], j => by right; show getT .e j = _; unfold getT; rw [T.get_e]
  | r :: l, j => by
    have e : keepTmps t (r :: l) = (match t.get r with | some o => (keepTmps t l).set r o | none => keepTmps t l) := rfl
    rw [e]
    cases h : t.get r with
    | none => exact getT_keep t l j
    | some o =>
      dsimp only
      rw [getT_set]
      by_cases hj : r = j
      · subst hj
        rw [if_pos rfl]
        left; unfold getT; rw [h]
      · rw [if_neg hj]; exact getT_keep t l j
theorem get_keepHeap (h : T AObj) : ∀ (l : List Nat) (q : Nat) (o : AObj), (keepHeap h l).get q = some o → h.get q = some o ∧ q ∈ l
  | [], q, o, e => by have e' : (T.e : T AObj).get q = some o := e; rw [T.get_e] at e'; cases e'
  | r :: l, q, o, e => by
    have e0 : keepHeap h (r :: l) = (match h.get r with | some o => (keepHeap h l).set r o | none => keepHeap h l) := rfl
    rw [e0] at e
    cases hr : h.get r with
    | none => rw [hr] at e; obtain ⟨a, b⟩ := get_keepHeap h l q o e; exact ⟨a, List.mem_cons_of_mem _ b⟩
    | some o' =>
      rw [hr] at e
      dsimp only at e
      rw [T.get_set] at e
      by_cases hq : r = q
      · subst hq
        rw [if_pos rfl] at e
        cases e
        exact ⟨hr, List.mem_cons_self ..⟩
      · rw [if_neg hq] at e
        obtain ⟨a, b⟩ := get_keepHeap h l q o e
        exact ⟨a, List.mem_cons_of_mem _ b⟩
theorem get_keepFams (h : T (List Nat)) : ∀ (l : List Nat) (q : Nat), (keepFams h l).get q = h.get q ∨ ((keepFams h l).get q = none ∧ q ∉ l)
  | [], q => by right; exact ⟨T.get_e _, by simp⟩
  | r :: l, q => by
    have e0 : keepFams h (r :: l) = (match h.get r with | some o => (keepFams h l).set r o | none => keepFams h l) := rfl
    rw [e0]
    by_cases hq : r = q
    · subst hq
      left
      cases hr : h.get r with
      | none =>
        dsimp only
        rcases get_keepFams h l r with a | ⟨a, b⟩
        · rw [a, hr]
        · exact a
      | some o' => dsimp only; rw [T.get_set_same]
    · have step : (match h.get r with | some o => (keepFams h l).set r o | none => keepFams h l).get q = (keepFams h l).get q := by
        cases h.get r with
        | none => rfl
        | some o' => exact T.get_set_other _ _ hq
      rw [step]
      rcases get_keepFams h l q with a | ⟨a, b⟩
      · exact .inl a
      · exact .inr ⟨a, fun hm => by rcases List.mem_cons.1 hm with e | e; exact hq e.symm; exact b e⟩
theorem hasN_mem {l : List Nat} {k : Nat} (h : hasN l k = true) : k ∈ l := by
  induction l with
  | nil => cases h
  | cons x l ih =>
    have h' : (bif x.beq k then true else hasN l k) = true := h
    cases hx : x.beq k with
    | true => rw [nat_beq] at hx; subst hx; exact List.mem_cons_self ..
    | false => rw [hx] at h'; exact List.mem_cons_of_mem _ (ih h')
theorem keepOK_cons (lf : List Nat) (m : Mem) (r : Nat) (l : List Nat) : keepOK lf m (r :: l) = bif famKept lf m (m.heap.get r) then keepOK lf m l else false := rfl
theorem keepOK_spec {lf : List Nat} {m : Mem} : ∀ {l : List Nat}, keepOK lf m l = true → m.lo = 0 ∧ ∀ r ∈ l, ∀ e cs f p, m.heap.get r = some (.row e cs f p) → f ∈ lf ∨ m.fams.get f = none
  | [], h => ⟨nat_beq.1 h, fun r hr => by cases hr⟩
  | a :: l, h => by
    rw [keepOK_cons] at h
    cases hf : famKept lf m (m.heap.get a) with
    | false => rw [hf] at h; cases h
    | true =>
      rw [hf, cond_true] at h
      obtain ⟨h1, h2⟩ := keepOK_spec h
      refine ⟨h1, fun r hr e cs f p ho => ?_⟩
      rcases List.mem_cons.1 hr with rfl | hr
      · rw [ho] at hf
        have hf' : (hasN lf f || (match m.fams.get f with | some _ => false | none => true)) = true := hf
        rw [Bool.or_eq_true] at hf'
        rcases hf' with h3 | h3
        · exact .inl (hasN_mem h3)
        · right
          cases hm : m.fams.get f with
          | none => rfl
          | some l => rw [hm] at h3; cases h3
      · exact h2 r hr e cs f p ho
section
variable {P : Program} {w0 : Wo} {B : Nat} {ρ : Rho} {m : Mem} {w : World} {fl : Fl}
theorem MR.keep (h : MR w0 B ρ m w) {l lf : List Nat} (hk : keepOK lf m l = true) : MR w0 B ρ (keepM l lf m) w := by
  obtain ⟨_, hrow⟩ := keepOK_spec hk
  have e1 : (keepM l lf m).heap = keepHeap m.heap l := by cases m; rfl
  have e2 : (keepM l lf m).next = m.next := by cases m; rfl
  have e3 : (keepM l lf m).fams = keepFams m.fams lf := by cases m; rfl
  have hin : ∀ {q o}, (keepM l lf m).heap.get q = some o → m.heap.get q = some o ∧ q ∈ l := by
    intro q o hq
    rw [e1] at hq
    exact get_keepHeap _ _ _ _ hq
  have hfam : ∀ {q e cs f p}, (keepM l lf m).heap.get q = some (.row e cs f p) → (keepM l lf m).fams.get f = m.fams.get f := by
    intro q e cs f p hq
    obtain ⟨h1, h2⟩ := hin hq
    rw [e3]
    rcases get_keepFams m.fams lf f with a | ⟨a, b⟩
    · exact a
    · rcases hrow q h2 e cs f p h1 with c | c
      · exact absurd c b
      · rw [a, c]
  refine ⟨?_, ?_, ?_, ?_, ?_, ?_, ?_, ?_, h.below, h.base, fun q hq => by rw [e2]; exact h.ban q hq, h.globs (keepM_gl _ _ _) (Rho.le.refl ρ)⟩
  · intro q o p h1 h2; exact h.obj q o p (hin h1).1 h2
  · intro q q' o1 o2 p1 p2 hne h1 h2 h3 h4 h5; exact h.inj q q' o1 o2 p1 p2 hne (hin h1).1 (hin h2).1 h3 h4 h5
  · intro q hq; rw [e2] at hq; exact h.dom q hq
  · intro q hq
    rw [e2] at hq
    cases hg : (keepM l lf m).heap.get q with
    | none => rfl
    | some o => have := (hin hg).1; rw [h.hdom q hq] at this; cases this
  · intro f l' hl
    rw [e3] at hl
    rw [e2]
    rcases get_keepFams m.fams lf f with a | ⟨a, _⟩
    · rw [a] at hl; exact h.famlt f l' hl
    · rw [a] at hl; cases hl
  · intro q e cs f p h1; rw [e2]; exact h.rowfam q e cs f p (hin h1).1
  · intro q e cs f p l' h1 h2; rw [hfam h1] at h2; exact h.fam q e cs f p l' (hin h1).1 h2
  · intro q q' e e' cs cs' f p p' h1 h2 h3; rw [hfam h1] at h3; exact h.lone q q' e e' cs cs' f p p' (hin h1).1 (hin h2).1 h3
theorem keepS_sound {l lf lt : List Nat} {K : Run} (hK : Sound P w0 B K) : Sound P w0 B (keepS l lf lt K) := by
  intro env todo tmps ds mode up m ρ w fr cs h hF hU
  unfold keepS
  cases hk : keepOK lf m l with
  | false => exact trivial
  | true =>
    rw [cond_true]
    have hT : TR ρ (keepTmps tmps lt) fr.tmps := by
      intro j
      rcases getT_keep tmps lt j with e | e
      · rw [e]; exact hF.tmps j
      · rw [e]; simp [R]
    have e2 : (keepM l lf m).next = m.next := by cases m; rfl
    have e4 : (keepM l lf m).lo = m.lo := by cases m; rfl
    have e5 : (keepM l lf m).dirty = m.dirty := by cases m; rfl
    refine Res.later (Rho.le.refl ρ) ⟨e4, by rw [e2]; exact Nat.le_refl _, fun e => by rw [← e5]; exact e, fun _ _ r hr => ?_⟩ (SameCs.refl _ _) (hK env todo _ ds mode up _ ρ w fr cs (h.keep hk) (hF.retmps hT) hU)
    rw [(keepOK_spec hk).1] at hr
    omega
theorem run_ok (hnames : NamesOK P) (htb : TbOK P fl) (hmix : P.follows .mixedOrders = true) (n : Nat) (w0 : Wo) : Sound P w0 B (run P fl n) :=
  run_sound hnames htb (fun rec hrec w0 => draw_ok hnames htb hmix B rec hrec w0) n w0
theorem runTop_sound (hnames : NamesOK P) (htb : TbOK P fl) (hmix : P.follows .mixedOrders = true) {n : Nat} {g : FuncId} {K : Run} (hK : ∀ w0, Sound P w0 B K) : ∀ (j : Nat) (w0 : Wo), Sound P w0 B (runTop P fl n g K j) := by
  intro j
  induction j with
  | zero => exact hK
  | succ j ih =>
    intro w0
    have hrec : ∀ w0, Sound P w0 B (fun env => bif env.fn.beq g then runTop P fl n g K j env else run P fl n env) := by
      intro w0 env todo tmps ds mode up m ρ w fr cs h hF hU
      dsimp only
      cases env.fn.beq g with
      | true => exact ih w0 env todo tmps ds mode up m ρ w fr cs h hF hU
      | false => exact run_ok hnames htb hmix n w0 env todo tmps ds mode up m ρ w fr cs h hF hU
    exact body_sound hnames htb (hrec w0) (draw_ok hnames htb hmix B _ hrec w0)
theorem isTrueR_spec {r : RR} (h : isTrueR r = true) : ∃ up m, r = .ret (.lit (.bool true)) up m := by
  unfold isTrueR at h
  split at h
  · exact ⟨_, _, rfl⟩
  · cases h
theorem calls_by {Rn : Run} (hR : ∀ B w0, Sound P w0 B Rn) {f : FuncId} {args : List AVal} {xs : Array Value} {v : Value} {up' : Chain} {m' : Mem} {w : World} (h : MR ⟨w, fun _ => False⟩ w.heap.size ρ m w) (hl : RL ρ args xs.toList)
    (e : callBody0 Rn false f args [] m P.funcs[f]? = .ret (.lit v) up' m') : Calls P f xs w fun e w' => e = .returned v ∧ Below w.heap.size w w' := by
  intro cs
  rcases callBody0_sound (hR w.heap.size ⟨w, fun _ => False⟩) h hl false (up := []) (cs := cs) (fun e => by cases e) (f := f) with ⟨why, hb⟩ | ⟨fn, c, hf, hb, hr⟩
  · rw [e] at hb; cases hb
  · rw [e] at hr
    obtain ⟨_, ρ', w1, w', fr', cs', x, h1, h2, h3, h4, h5, h6, h7, h8, h9⟩ := hr
    obtain ⟨rfl, hm, hd, hfn, hres⟩ := h9 rfl
    have hcs := h5.1 rfl
    subst hcs
    simp only [R] at h4
    subst h4
    refine ⟨.returned x, w1, fr', ⟨rfl, h3.below⟩, h1, hfn, hm, hd, h7, hres⟩
theorem closed_by {Rn : Run} (hR : ∀ B w0, Sound P w0 B Rn) {f : FuncId} {v : Value} {up' : Chain} {m' : Mem}
    (e : callBody0 Rn false f [] [] mem0 P.funcs[f]? = .ret (.lit v) up' m') (w : World) : Calls P f #[] w fun e w' => e = .returned v ∧ Below w.heap.size w w' := by
  intro cs
  rcases callBody0_sound (hR w.heap.size ⟨w, fun _ => False⟩) (MR.empty w) (args := []) (xs := #[]) (by simp [RL]) false (up := []) (cs := cs) (fun e => by cases e) (f := f) with ⟨why, hb⟩ | ⟨fn, c, hf, hb, hr⟩
  · rw [e] at hb; cases hb
  · rw [e] at hr
    obtain ⟨_, ρ', w1, w', fr', cs', x, h1, h2, h3, h4, h5, h6, h7, h8, h9⟩ := hr
    obtain ⟨rfl, hm, hd, hfn, hres⟩ := h9 rfl
    have hcs := h5.1 rfl
    subst hcs
    simp only [R] at h4
    subst h4
    refine ⟨.returned x, w1, fr', ⟨rfl, h3.below⟩, h1, hfn, hm, hd, h7, hres⟩
end
end Go.Abs
namespace Go.Abs
open Go
noncomputable section
def pEq (a b : AVal) : Bool := match a with
  | .poison => isPoison b
  | a => aEq a b
def pEqs (a : List AVal) : List AVal → Bool :=
  List.rec (fun b => List.rec true (fun _ _ _ => false) b) (fun x _ ih b => List.rec false (fun y ys _ => bif pEq x y then ih ys else false) b) a
def oEq (a b : AObj) : Bool := match a, b with
  | .row e cs f p, .row e' cs' f' p' => e.1.beq e'.1 && e.2.beq e'.2 && f.beq f' && p.beq p' && pEqs cs cs'
  | .ro cs, .ro cs' => pEqs cs cs'
  | .map es c, .map es' c' => c.beq c' && entsEq es es'
  | _, _ => false
def optEq {α : Type} (f : α → α → Bool) (a b : Option α) : Bool := match a, b with
  | some a, some b => f a b
  | none, none => true
  | _, _ => false
def T.eqB {α : Type} (f : α → α → Bool) (t : T α) : T α → Bool :=
  T.rec (fun u => T.rec true (fun _ _ _ _ _ _ _ _ _ => false) u)
    (fun _ _ _ _ v ia ib ic id u => T.rec false (fun a b c d v' _ _ _ _ => bif optEq f v v' then (bif ia a then (bif ib b then (bif ic c then id d else false) else false) else false) else false) u) t
def glEq (a b : List (Nat × Nat)) : Bool := natsEq (mapL (·.1) a) (mapL (·.1) b) && natsEq (mapL (·.2) a) (mapL (·.2) b)
def bEq (a b : Bool) : Bool := bif a then b else !b
def memEq (m n : Mem) : Bool := match m, n with
  | ⟨h, x, f, lo, d, g⟩, ⟨h', x', f', lo', d', g'⟩ => x.beq x' && lo.beq lo' && bEq d d' && glEq g g' && T.eqB natsEq f f' && T.eqB oEq h h'
structure Ent where
  f : FuncId
  args : List AVal
  m : Mem
  r : RR
def tcOf (l : List Ent) (f : FuncId) (args : List AVal) (m : Mem) : Option RR :=
  List.rec none (fun e _ ih => bif e.f.beq f then (bif pEqs e.args args && memEq e.m m then some e.r else ih) else ih) l
def hpOf {α : Type} (l : List (Nat × α)) : T α := List.rec .e (fun p _ ih => ih.set p.1 p.2) l
def vI (n : Nat) : AVal := .lit (.int .i64 (.ofNat n))
def vN (n : Nat) : AVal := .lit (.int .i64 (.negSucc n))
def vZ : AVal := .lit (.slice none 0 0)
def vT : AVal := .lit (.string ⟨#[]⟩)
def vB (b : Bool) : AVal := .lit (.bool b)
def vS (r n : Nat) : AVal := .slice r 0 n n false
def vX (r n : Nat) : AVal := .slice r 0 n n true
def vP (r : Nat) : AVal := .ptr r 0
def oR (t q : Nat) (cs : List AVal) (f : Nat) : AObj := .row (t, q) cs f 0
end
theorem pEq_sound {a b : AVal} (h : pEq a b = true) : a = b := by
  unfold pEq at h
  split at h
  · cases b <;> first | rfl | cases h
  · exact aEq_sound _ _ h
theorem pEqs_sound : ∀ {a b : List AVal}, pEqs a b = true → a = b
  | [], [], _ => rfl
  | [], _ :: _, h => by cases h
  | _ :: _, [], h => by cases h
  | x :: xs, y :: ys, h => by
    have h' : (bif pEq x y then pEqs xs ys else false) = true := h
    cases hx : pEq x y with
    | false => rw [hx] at h'; cases h'
    | true => rw [hx] at h'; rw [pEq_sound hx, pEqs_sound (a := xs) h']
theorem oEq_sound {a b : AObj} (h : oEq a b = true) : a = b := by
  unfold oEq at h
  split at h
  · rename_i e cs f p e' cs' f' p'
    simp only [Bool.and_eq_true, nat_beq] at h
    obtain ⟨⟨⟨⟨h1, h2⟩, h3⟩, h4⟩, h5⟩ := h
    obtain ⟨e1, e2⟩ := e; obtain ⟨e3, e4⟩ := e'
    dsimp only at h1 h2
    rw [h1, h2, h3, h4, pEqs_sound h5]
  · rw [pEqs_sound h]
  · simp only [Bool.and_eq_true, nat_beq] at h
    rw [h.1, entsEq_sound h.2]
  · cases h
theorem optEq_sound {α : Type} {f : α → α → Bool} (hf : ∀ {a b}, f a b = true → a = b) {a b : Option α} (h : optEq f a b = true) : a = b := by
  unfold optEq at h
  split at h
  · rw [hf h]
  · rfl
  · cases h
theorem T.eqB_sound {α : Type} {f : α → α → Bool} (hf : ∀ {a b}, f a b = true → a = b) : ∀ {t u : T α}, T.eqB f t u = true → t = u
  | .e, .e, _ => rfl
  | .e, .n .., h => by cases h
  | .n .., .e, h => by cases h
  | .n a b c d v, .n a' b' c' d' v', h => by
    have h' : (bif optEq f v v' then (bif T.eqB f a a' then (bif T.eqB f b b' then (bif T.eqB f c c' then T.eqB f d d' else false) else false) else false) else false) = true := h
    cases h1 : optEq f v v' with
    | false => rw [h1] at h'; cases h'
    | true =>
      rw [h1, cond_true] at h'
      cases h2 : T.eqB f a a' with
      | false => rw [h2] at h'; cases h'
      | true =>
        rw [h2, cond_true] at h'
        cases h3 : T.eqB f b b' with
        | false => rw [h3] at h'; cases h'
        | true =>
          rw [h3, cond_true] at h'
          cases h4 : T.eqB f c c' with
          | false => rw [h4] at h'; cases h'
          | true =>
            rw [h4, cond_true] at h'
            rw [optEq_sound hf h1, T.eqB_sound hf h2, T.eqB_sound hf h3, T.eqB_sound hf h4, T.eqB_sound hf h']
theorem glEq_sound : ∀ {a b : List (Nat × Nat)}, glEq a b = true → a = b := by
  intro a b h
  unfold glEq at h
  rw [Bool.and_eq_true, mapL_eq, mapL_eq, mapL_eq, mapL_eq] at h
  have h1 := natsEq_sound h.1
  have h2 := natsEq_sound h.2
  clear h
  induction a generalizing b with
  | nil => cases b with | nil => rfl | cons _ _ => cases h1
  | cons x a ih =>
    cases b with
    | nil => cases h1
    | cons y b =>
      obtain ⟨x1, x2⟩ := x; obtain ⟨y1, y2⟩ := y
      simp only [List.map_cons, List.cons.injEq] at h1 h2
      rw [h1.1, h2.1, ih h1.2 h2.2]
theorem memEq_sound {m n : Mem} (h : memEq m n = true) : m = n := by
  obtain ⟨a, b, c, d, e, g⟩ := m
  obtain ⟨a', b', c', d', e', g'⟩ := n
  unfold memEq at h
  dsimp only at h
  simp only [Bool.and_eq_true, nat_beq] at h
  obtain ⟨⟨⟨⟨⟨h1, h2⟩, h3⟩, h4⟩, h5⟩, h6⟩ := h
  have : e = e' := by cases e <;> cases e' <;> first | rfl | cases h3
  rw [h1, h2, this, glEq_sound h4, T.eqB_sound natsEq_sound h5, T.eqB_sound oEq_sound h6]
theorem tcOf_mem : ∀ {l : List Ent} {f : FuncId} {args : List AVal} {m : Mem} {r : RR}, tcOf l f args m = some r → ∃ e ∈ l, e.f = f ∧ e.args = args ∧ e.m = m ∧ e.r = r
  | [], _, _, _, _, h => by cases h
  | e :: l, f, args, m, r, h => by
    have h' : (bif e.f.beq f then (bif pEqs e.args args && memEq e.m m then some e.r else tcOf l f args m) else tcOf l f args m) = some r := h
    have next : tcOf l f args m = some r → ∃ x ∈ e :: l, x.f = f ∧ x.args = args ∧ x.m = m ∧ x.r = r := fun hh => by
      obtain ⟨x, hx, hr⟩ := tcOf_mem hh
      exact ⟨x, List.mem_cons_of_mem _ hx, hr⟩
    cases h1 : e.f.beq f with
    | false => rw [h1] at h'; exact next h'
    | true =>
      rw [h1, cond_true] at h'
      cases h2 : pEqs e.args args && memEq e.m m with
      | false => rw [h2] at h'; exact next h'
      | true =>
        rw [h2] at h'
        cases h'
        rw [Bool.and_eq_true] at h2
        exact ⟨e, List.mem_cons_self .., nat_beq.1 h1, pEqs_sound h2.1, memEq_sound h2.2, rfl⟩
def Ent.ok (P : Program) (e : Ent) : Prop := ∀ B w0, ∃ Rn, Sound P w0 B Rn ∧ Are e.r (callBody0 Rn false e.f e.args [] e.m P.funcs[e.f]?)
def entsOK (P : Program) : List Ent → Prop
  | [] => True
  | e :: l => e.ok P ∧ entsOK P l
theorem entsOK.mem {P : Program} : ∀ {l : List Ent}, entsOK P l → ∀ e ∈ l, e.ok P
  | [], _, _, h => by cases h
  | x :: l, h, e, he => by
    rcases List.mem_cons.1 he with rfl | he
    · exact h.1
    · exact entsOK.mem h.2 e he
theorem TbOK.with {P : Program} {fl : Fl} (h : TbOK P fl) {es : List Ent} (hes : entsOK P es) : TbOK P ⟨fl.l, fl.tb, tcOf es⟩ := by
  refine ⟨h.tb, fun f args m r ht B w0 => ?_⟩
  obtain ⟨e, he, rfl, rfl, rfl, rfl⟩ := tcOf_mem ht
  exact hes.mem e he B w0
theorem TbOK.trues {P : Program} (l : List Nat) (fs : List FuncId) (hf : ∀ f ∈ fs, (∃ fn c, P.funcs[f]? = some fn ∧ fn.body = some c) ∧ ∀ w : World, Calls P f #[] w fun e w' => e = .returned (.bool true) ∧ Go.RowKit.Below w.heap.size w w') :
    TbOK P ⟨l, fun f args _ => bif hasN fs f && isNil args then some (.bool true) else Option.none, fun _ _ _ => Option.none⟩ := by
  refine ⟨fun f args m v h => ?_, fun _ _ _ _ h => (by cases h)⟩
  have h' : (bif hasN fs f && isNil args then some (Value.bool true) else Option.none) = some v := h
  cases hb : hasN fs f && isNil args with
  | false => rw [hb] at h'; cases h'
  | true =>
    rw [hb] at h'; cases h'
    rw [Bool.and_eq_true] at hb
    obtain ⟨h1, h2⟩ := hf f (hasN_mem hb.1)
    refine ⟨h1, fun w0 B ρ w xs _ hl => ?_⟩
    cases args with
    | nil =>
      have : xs = #[] := by
        have h3 : xs.toList = [] := by simpa only [RL] using hl
        exact Array.ext' (by simpa using h3)
      subst this
      exact h2 w
    | cons _ _ => cases hb.2
end Go.Abs
namespace Go.Abs
open Go
open Go.RowKit (Below)
noncomputable section
mutual
def ren (f : Nat → Option Nat) : AVal → Option AVal
  | .lit v => some (.lit v)
  | .poison => some .poison
  | .emptyS => some .emptyS
  | .ptr r o => match f r with
    | some q => some (.ptr q o)
    | none => none
  | .slice r o n c e => match f r with
    | some q => some (.slice q o n c e)
    | none => none
  | .map r => match f r with
    | some q => some (.map q)
    | none => none
  | .yield r => match f r with
    | some q => some (.yield q)
    | none => none
  | .func fn a b => match renL f a, renL f b with
    | some a, some b => some (.func fn a b)
    | _, _ => none
  | .iface t v => match ren f v with
    | some v => some (.iface t v)
    | none => none
  | .agg l => match renL f l with
    | some l => some (.agg l)
    | none => none
  | .tuple l => match renL f l with
    | some l => some (.tuple l)
    | none => none
def renL (f : Nat → Option Nat) : List AVal → Option (List AVal)
  | [] => some []
  | v :: vs => match ren f v, renL f vs with
    | some v, some vs => some (v :: vs)
    | _, _ => none
end
mutual
def refsA : AVal → List Nat
  | .ptr r _ => [r]
  | .slice r _ _ _ _ => [r]
  | .map r => [r]
  | .yield r => [r]
  | .func _ a b => appL (refsL a) (refsL b)
  | .iface _ v => refsA v
  | .agg l => refsL l
  | .tuple l => refsL l
  | _ => []
def refsL : List AVal → List Nat
  | [] => []
  | v :: vs => appL (refsA v) (refsL vs)
end
def renK (f : Nat → Option Nat) (k : Value) : Option Value := match ptrKey k with
  | some (r, o) => (match f r with
    | some q => some (.pointer (some ⟨q, o, none⟩))
    | none => none)
  | none => some k
def renE (f : Nat → Option Nat) (es : List AEnt) : Option (List AEnt) :=
  List.rec (some []) (fun e _ ih => match renK f e.key, ren f e.val, ih with
    | some k, some v, some es => some (⟨k, v, e.born⟩ :: es)
    | _, _, _ => none) es
def renO (f : Nat → Option Nat) (q : Nat) : AObj → Option AObj
  | .row e cells _ pos => (match renL f cells with
    | some cells => some (.row e cells q pos)
    | none => none)
  | .map es c => (match renE f es with
    | some es => some (.map es c)
    | none => none)
  | _ => none
def keyRefs (k : Value) : List Nat := match ptrKey k with
  | some (r, _) => [r]
  | none => []
def refsO : Option AObj → List Nat
  | some (.row _ cells _ _) => refsL cells
  | some (.map es _) => List.rec [] (fun e _ ih => appL (keyRefs e.key) (appL (refsA e.val) ih)) es
  | _ => []
def reach (m : Mem) (base : Nat) (fuel : Nat) : List Nat → List Nat → List Nat :=
  Nat.rec (fun _ acc => acc) (fun _ ih work acc => List.rec acc (fun r rest _ => bif r.blt base then ih rest acc else bif hasN acc r then ih rest acc else ih (appL (refsO (m.heap.get r)) rest) (appL acc [r])) work) fuel
def ixOf (l : List Nat) : Nat → Nat → Option Nat :=
  List.rec (fun _ _ => none) (fun x _ ih base r => bif x.beq r then some base else ih base.succ r) l
def newIx (l : List Nat) (base N r : Nat) : Option Nat := bif r.blt base then some r else ixOf l N r
def allGe (base : Nat) (l : List Nat) : Bool := List.rec true (fun x _ ih => bif x.blt base then false else ih) l
def allLt (base : Nat) (l : List Nat) : Bool := List.rec true (fun x _ ih => bif x.blt base then ih else false) l
def nodupB (l : List Nat) : Bool := List.rec true (fun x rest ih => bif hasN rest x then false else ih) l
def famsOf (m : Mem) (l : List Nat) : List Nat := List.rec [] (fun r _ ih => match m.heap.get r with
  | some (.row _ _ f _) => f :: ih
  | _ => ih) l
def canH (m : Mem) (f : Nat → Option Nat) (l : List Nat) : Nat → Option (T AObj) :=
  List.rec (fun _ => some .e) (fun r _ ih q => match ih q.succ with
    | some h => (match m.heap.get r with
      | some o => (match renO f q o with
        | some o => some (h.set q o)
        | none => none)
      | none => some h)
    | none => none) l
def oldH (m : Mem) (f : Nat → Option Nat) (h0 : T AObj) (k : List Nat) : Option (T AObj) :=
  List.rec (some h0) (fun r _ ih => match ih with
    | some h => (match m.heap.get r with
      | some o => (match renO f r o with
        | some o => some (h.set r o)
        | none => none)
      | none => some h)
    | none => none) k
def withOld (m : Mem) (f : Nat → Option Nat) (k : List Nat) : Option (T AObj) → Option (T AObj)
  | some h => oldH m f h k
  | none => none
def canT (f : Nat → Option Nat) (tmps : T AVal) (lt : List Nat) : Option (T AVal) :=
  List.rec (some .e) (fun t _ ih => match ih, ren f (getT tmps t) with
    | some h, some v => some (h.set t v)
    | _, _ => none) lt
def rootsOf (tmps : T AVal) (lt : List Nat) : List Nat := List.rec [] (fun t _ ih => appL (refsA (getT tmps t)) ih) lt
def canM (m : Mem) (N : Nat) (l : List Nat) : Option (T AObj) → Option Mem
  | some h => some ⟨h, N.add (lenL l), .e, m.lo, m.dirty, []⟩
  | none => none
def canOK (m : Mem) (base N : Nat) (k l : List Nat) : Bool := m.lo.beq 0 && isNil m.gl && m.next.ble N && base.ble N && allLt base k && allGe base l && nodupB l && nodupB (famsOf m (appL k l))
def canGo (K : Run) (env : Env) (todo : List AItem) (ds : List ADef) (mode : AMode) (up : Chain) : Option (T AVal) → Option Mem → RR
  | some t, some m => K env todo t ds mode up m
  | _, _ => .bad "ways"
def canW (lt k : List Nat) (base N : Nat) (K : Run) (env : Env) (todo : List AItem) (tmps : T AVal) (ds : List ADef) (mode : AMode) (up : Chain) (m : Mem) (l : List Nat) : RR :=
  bif canOK m base N k l then canGo K env todo ds mode up (canT (newIx l base N) tmps lt) (canM m N l (withOld m (newIx l base N) k (canH m (newIx l base N) l N))) else .bad "ways"
def oldRefs (m : Mem) (k : List Nat) : List Nat := List.rec [] (fun r _ ih => appL (refsO (m.heap.get r)) ih) k
def canS (lt k : List Nat) (base N : Nat) (K : Run) : Run := fun env todo tmps ds mode up m => canW lt k base N K env todo tmps ds mode up m (reach m base 10000 (appL (rootsOf tmps lt) (oldRefs m k)) [])
end
def Ren (f : Nat → Option Nat) (ρ ρ' : Rho) : Prop := ∀ r q, f r = some q → ρ' q = ρ r
mutual
theorem R.ren {f : Nat → Option Nat} {ρ ρ' : Rho} (hf : Ren f ρ ρ') : ∀ (v : AVal) (v' : AVal) (x : Value), R ρ v x → Abs.ren f v = some v' → R ρ' v' x
  | .lit v, v', x, h, e => by simp only [Abs.ren, Option.some.injEq] at e; subst e; simpa only [R] using h
  | .poison, v', x, h, e => by simp only [Abs.ren, Option.some.injEq] at e; subst e; simp [R]
  | .emptyS, v', x, h, e => by simp only [Abs.ren, Option.some.injEq] at e; subst e; simpa only [R] using h
  | .ptr r o, v', x, h, e => by
    simp only [Abs.ren] at e
    cases hr : f r with
    | none => rw [hr] at e; cases e
    | some q =>
      rw [hr] at e; cases e
      simp only [R] at h ⊢
      rw [hf r q hr]; exact h
  | .slice r o n c ex, v', x, h, e => by
    simp only [Abs.ren] at e
    cases hr : f r with
    | none => rw [hr] at e; cases e
    | some q =>
      rw [hr] at e; cases e
      simp only [R] at h ⊢
      rw [hf r q hr]; exact h
  | .map r, v', x, h, e => by
    simp only [Abs.ren] at e
    cases hr : f r with
    | none => rw [hr] at e; cases e
    | some q =>
      rw [hr] at e; cases e
      simp only [R] at h ⊢
      rw [hf r q hr]; exact h
  | .yield r, v', x, h, e => by
    simp only [Abs.ren] at e
    cases hr : f r with
    | none => rw [hr] at e; cases e
    | some q =>
      rw [hr] at e; cases e
      simp only [R] at h ⊢
      rw [hf r q hr]; exact h
  | .func fn a b, v', x, h, e => by
    simp only [Abs.ren] at e
    cases ha : renL f a with
    | none => rw [ha] at e; cases e
    | some a' =>
      cases hb : renL f b with
      | none => rw [ha, hb] at e; cases e
      | some b' =>
        rw [ha, hb] at e; cases e
        simp only [R] at h ⊢
        obtain ⟨hy, f', c', h1, h2, h3⟩ := h
        exact ⟨hy, f', c', h1, RL.ren hf a _ _ h2 ha, RL.ren hf b _ _ h3 hb⟩
  | .iface t v, v', x, h, e => by
    simp only [Abs.ren] at e
    cases hv : Abs.ren f v with
    | none => rw [hv] at e; cases e
    | some u =>
      rw [hv] at e; cases e
      simp only [R] at h ⊢
      obtain ⟨y, h1, h2⟩ := h
      exact ⟨y, h1, R.ren hf v _ _ h2 hv⟩
  | .agg l, v', x, h, e => by
    simp only [Abs.ren] at e
    cases hv : renL f l with
    | none => rw [hv] at e; cases e
    | some u =>
      rw [hv] at e; cases e
      simp only [R] at h ⊢
      obtain ⟨y, h1, h2⟩ := h
      exact ⟨y, h1, RL.ren hf l _ _ h2 hv⟩
  | .tuple l, v', x, h, e => by
    simp only [Abs.ren] at e
    cases hv : renL f l with
    | none => rw [hv] at e; cases e
    | some u =>
      rw [hv] at e; cases e
      simp only [R] at h ⊢
      obtain ⟨y, h1, h2⟩ := h
      exact ⟨y, h1, RL.ren hf l _ _ h2 hv⟩
theorem RL.ren {f : Nat → Option Nat} {ρ ρ' : Rho} (hf : Ren f ρ ρ') : ∀ (l l' : List AVal) (x : List Value), RL ρ l x → renL f l = some l' → RL ρ' l' x
  | [], l', x, h, e => by simp only [renL, Option.some.injEq] at e; subst e; simpa only [RL] using h
  | v :: vs, l', x, h, e => by
    simp only [renL] at e
    cases hv : Abs.ren f v with
    | none => rw [hv] at e; cases e
    | some u =>
      cases hs : renL f vs with
      | none => rw [hv, hs] at e; cases e
      | some us =>
        rw [hv, hs] at e; cases e
        simp only [RL] at h ⊢
        obtain ⟨y, ys, h1, h2, h3⟩ := h
        exact ⟨y, ys, h1, R.ren hf v _ _ h2 hv, RL.ren hf vs _ _ h3 hs⟩
end
theorem renL_get {f : Nat → Option Nat} : ∀ {l l' : List AVal}, renL f l = some l' → ∀ {i : Nat} {v' : AVal}, l'[i]? = some v' → ∃ v, l[i]? = some v ∧ Abs.ren f v = some v'
  | [], l', e, i, v', h => by simp only [renL, Option.some.injEq] at e; subst e; simp at h
  | v :: vs, l', e, i, v', h => by
    simp only [renL] at e
    cases hv : Abs.ren f v with
    | none => rw [hv] at e; cases e
    | some u =>
      cases hs : renL f vs with
      | none => rw [hv, hs] at e; cases e
      | some us =>
        rw [hv, hs] at e; cases e
        cases i with
        | zero => simp only [List.getElem?_cons_zero, Option.some.injEq] at h ⊢; subst h; exact ⟨v, rfl, hv⟩
        | succ i => simp only [List.getElem?_cons_succ] at h ⊢; exact renL_get hs h
theorem CR.ren {f : Nat → Option Nat} {ρ ρ' : Rho} (hf : Ren f ρ ρ') {cells cells' : List AVal} {cs : Array Value} {s : Nat} (h : CR ρ cells cs s) (e : renL f cells = some cells') : CR ρ' cells' cs s := by
  intro i v' hv
  obtain ⟨v, h1, h2⟩ := renL_get e hv
  obtain ⟨x, h3, h4⟩ := h i v h1
  exact ⟨x, h3, R.ren hf v _ _ h4 h2⟩
theorem KR.ren {f : Nat → Option Nat} {ρ ρ' : Rho} (hf : Ren f ρ ρ') {k k' x : Value} (h : KR ρ k x) (e : renK f k = some k') : KR ρ' k' x := by
  unfold KR at h
  unfold renK at e
  cases hk : ptrKey k with
  | none =>
    rw [hk] at h e
    cases e
    unfold KR
    rw [hk]; exact h
  | some ro =>
    obtain ⟨r, o⟩ := ro
    rw [hk] at h e
    dsimp only at h e
    cases hr : f r with
    | none => rw [hr] at e; cases e
    | some q =>
      rw [hr] at e; cases e
      show ∃ p, ρ' q = some p ∧ _
      rw [hf r q hr]; exact h
theorem renE_cons (f : Nat → Option Nat) (e : AEnt) (es : List AEnt) : renE f (e :: es) = match renK f e.key, Abs.ren f e.val, renE f es with
    | some k, some v, some es => some (⟨k, v, e.born⟩ :: es)
    | _, _, _ => none := rfl
theorem ER.ren {f : Nat → Option Nat} {ρ ρ' : Rho} (hf : Ren f ρ ρ') : ∀ {es es' : List AEnt} {l : List MapEntry}, ER ρ es l → renE f es = some es' → ER ρ' es' l
  | [], es', l, h, e => by cases e; exact h
  | a :: es, es', l, h, e => by
    obtain ⟨x, xs, h1, h2, h3, h4, h5⟩ := h
    rw [renE_cons] at e
    cases hk : renK f a.key with
    | none => rw [hk] at e; cases e
    | some k =>
      cases hv : Abs.ren f a.val with
      | none => rw [hk, hv] at e; cases e
      | some v =>
        cases hs : renE f es with
        | none => rw [hk, hv, hs] at e; cases e
        | some us =>
          rw [hk, hv, hs] at e; cases e
          exact ⟨x, xs, h1, h2.ren hf hk, h3, R.ren hf _ _ _ h4 hv, ER.ren hf h5 hs⟩
theorem OR.ren {f : Nat → Option Nat} {ρ ρ' : Rho} (hf : Ren f ρ ρ') {B : Nat} {p : Pl} {ob : Option Obj} {o o' : AObj} {q : Nat} (h : OR ρ B p ob o) (e : renO f q o = Option.some o') : OR ρ' B p ob o' := by
  unfold renO at e
  split at e
  · split at e
    · rename_i hc
      cases e
      obtain ⟨h0, hq, cs, lo, hi, h1, hz, h2, h3⟩ := h
      exact ⟨h0, hq, cs, lo, hi, h1, hz, h2.ren hf hc, h3⟩
    · cases e
  · split at e
    · rename_i hc
      cases e
      obtain ⟨h0, h1, es, h2, h3⟩ := h
      exact ⟨h0, h1, es, h2, h3.ren hf hc⟩
    · cases e
  · cases e
theorem ixOf_cons (x : Nat) (l : List Nat) (base r : Nat) : ixOf (x :: l) base r = bif x.beq r then some base else ixOf l base.succ r := rfl
theorem ixOf_some : ∀ {l : List Nat} {base r q : Nat}, ixOf l base r = some q → ∃ i, q = base + i ∧ l[i]? = some r
  | [], _, _, _, h => by cases h
  | x :: l, base, r, q, h => by
    rw [ixOf_cons] at h
    cases hx : x.beq r with
    | true => rw [hx] at h; cases h; rw [nat_beq] at hx; exact ⟨0, rfl, by simp [hx]⟩
    | false =>
      rw [hx] at h
      obtain ⟨i, h1, h2⟩ := ixOf_some (l := l) h
      exact ⟨i + 1, by rw [h1]; omega, by simpa using h2⟩
theorem hasN_of : ∀ {l : List Nat} {k : Nat}, k ∈ l → hasN l k = true
  | x :: l, k, h => by
    show (bif x.beq k then true else hasN l k) = true
    cases hx : x.beq k with
    | true => rfl
    | false =>
      rw [nat_beq_f] at hx
      rcases List.mem_cons.1 h with e | h
      · exact absurd e.symm hx
      · exact hasN_of h
theorem nodup_ix : ∀ {l : List Nat} {i j r : Nat}, l.Nodup → l[i]? = some r → l[j]? = some r → i = j
  | x :: l, 0, 0, r, _, _, _ => rfl
  | x :: l, 0, j + 1, r, h, h1, h2 => by
    simp only [List.getElem?_cons_zero, Option.some.injEq, List.getElem?_cons_succ] at h1 h2
    subst h1
    exact absurd (List.mem_of_getElem? h2) (List.nodup_cons.1 h).1
  | x :: l, i + 1, 0, r, h, h1, h2 => by
    simp only [List.getElem?_cons_zero, Option.some.injEq, List.getElem?_cons_succ] at h1 h2
    subst h2
    exact absurd (List.mem_of_getElem? h1) (List.nodup_cons.1 h).1
  | x :: l, i + 1, j + 1, r, h, h1, h2 => by
    simp only [List.getElem?_cons_succ] at h1 h2
    rw [nodup_ix (List.nodup_cons.1 h).2 h1 h2]
  | [], _, _, _, _, h1, _ => by simp at h1
theorem nodupB_cons (x : Nat) (l : List Nat) : nodupB (x :: l) = bif hasN l x then false else nodupB l := rfl
theorem nodupB_spec : ∀ {l : List Nat}, nodupB l = true → l.Nodup
  | [], _ => List.nodup_nil
  | x :: l, h => by
    rw [nodupB_cons] at h
    cases hx : hasN l x with
    | true => rw [hx] at h; cases h
    | false =>
      rw [hx] at h
      refine List.nodup_cons.2 ⟨fun hm => ?_, nodupB_spec h⟩
      rw [hasN_of hm] at hx; cases hx
theorem canH_cons (m : Mem) (f : Nat → Option Nat) (r : Nat) (l : List Nat) (q : Nat) : canH m f (r :: l) q = match canH m f l q.succ with
    | some h => (match m.heap.get r with
      | some o => (match renO f q o with
        | some o => some (h.set q o)
        | none => none)
      | none => some h)
    | none => none := rfl
theorem canH_get {m : Mem} {f : Nat → Option Nat} : ∀ {l : List Nat} {q0 : Nat} {h : T AObj}, canH m f l q0 = some h → ∀ {q : Nat} {o' : AObj}, h.get q = some o' →
    ∃ i r o, q = q0 + i ∧ l[i]? = some r ∧ m.heap.get r = some o ∧ renO f q o = some o'
  | [], q0, h, e, q, o', hq => by
    have e' : some (T.e : T AObj) = some h := e
    cases e'
    rw [T.get_e] at hq; cases hq
  | r :: l, q0, h, e, q, o', hq => by
    rw [canH_cons] at e
    cases hl : canH m f l q0.succ with
    | none => rw [hl] at e; cases e
    | some h1 =>
      rw [hl] at e
      dsimp only at e
      have next : h1.get q = some o' → ∃ i r' o, q = q0 + i ∧ (r :: l)[i]? = some r' ∧ m.heap.get r' = some o ∧ renO f q o = some o' := fun hh => by
        obtain ⟨i, r', o, a1, a2, a3, a4⟩ := canH_get hl hh
        exact ⟨i + 1, r', o, by rw [a1]; omega, by simpa using a2, a3, a4⟩
      cases hr : m.heap.get r with
      | none => rw [hr] at e; cases e; exact next hq
      | some o =>
        rw [hr] at e
        dsimp only at e
        cases ho : renO f q0 o with
        | none => rw [ho] at e; cases e
        | some o1 =>
          rw [ho] at e; cases e
          rw [T.get_set] at hq
          by_cases hq0 : q0 = q
          · rw [if_pos hq0] at hq; cases hq
            exact ⟨0, r, o, by omega, rfl, hr, by rw [← hq0]; exact ho⟩
          · rw [if_neg hq0] at hq; exact next hq
theorem famsOf_cons (m : Mem) (r : Nat) (l : List Nat) : famsOf m (r :: l) = match m.heap.get r with
  | some (.row _ _ f _) => f :: famsOf m l
  | _ => famsOf m l := rfl
theorem famsOf_mem {m : Mem} : ∀ {l : List Nat} {r : Nat} {e : Elem} {cs : List AVal} {f p : Nat}, r ∈ l → m.heap.get r = some (.row e cs f p) → f ∈ famsOf m l
  | [], _, _, _, _, _, h, _ => by cases h
  | x :: l, r, e, cs, f, p, h, ho => by
    rw [famsOf_cons]
    rcases List.mem_cons.1 h with rfl | h
    · rw [ho]; exact List.mem_cons_self ..
    · have := famsOf_mem h ho
      split
      · exact List.mem_cons_of_mem _ this
      · exact this
theorem fams_apart {m : Mem} : ∀ {l : List Nat} {r r' : Nat} {e e' : Elem} {cs cs' : List AVal} {f p p' : Nat}, (famsOf m l).Nodup → r ∈ l → r' ∈ l →
    m.heap.get r = some (.row e cs f p) → m.heap.get r' = some (.row e' cs' f p') → r = r'
  | [], _, _, _, _, _, _, _, _, _, _, h, _, _, _ => by cases h
  | x :: l, r, r', e, e', cs, cs', f, p, p', hn, h1, h2, o1, o2 => by
    rw [famsOf_cons] at hn
    have hn' : (famsOf m l).Nodup := by
      revert hn
      split
      · intro hn; exact (List.nodup_cons.1 hn).2
      · intro hn; exact hn
    rcases List.mem_cons.1 h1 with e1 | k1
    · rcases List.mem_cons.1 h2 with e2 | k2
      · rw [e1, e2]
      · exfalso
        rw [← e1, o1] at hn
        exact (List.nodup_cons.1 hn).1 (famsOf_mem k2 o2)
    · rcases List.mem_cons.1 h2 with e2 | k2
      · exfalso
        rw [← e2, o2] at hn
        exact (List.nodup_cons.1 hn).1 (famsOf_mem k1 o1)
      · exact fams_apart hn' k1 k2 o1 o2
theorem blt_iff {a b : Nat} : a.blt b = true ↔ a < b := by
  show a.succ.ble b = true ↔ _
  rw [nat_ble]; exact Iff.rfl
theorem allGe_mem {base : Nat} : ∀ {l : List Nat}, allGe base l = true → ∀ r ∈ l, base ≤ r
  | x :: l, h, r, hr => by
    have h' : (bif x.blt base then false else allGe base l) = true := h
    cases hx : x.blt base with
    | true => rw [hx] at h'; cases h'
    | false =>
      rw [hx] at h'
      have hx' : ¬ x < base := fun hlt => by rw [blt_iff.2 hlt] at hx; cases hx
      rcases List.mem_cons.1 hr with rfl | hr
      · omega
      · exact allGe_mem h' r hr
theorem allLt_mem {base : Nat} : ∀ {l : List Nat}, allLt base l = true → ∀ r ∈ l, r < base
  | x :: l, h, r, hr => by
    have h' : (bif x.blt base then allLt base l else false) = true := h
    cases hx : x.blt base with
    | false => rw [hx] at h'; cases h'
    | true =>
      rw [hx] at h'
      rcases List.mem_cons.1 hr with rfl | hr
      · exact blt_iff.1 hx
      · exact allLt_mem h' r hr
theorem oldH_cons (m : Mem) (f : Nat → Option Nat) (h0 : T AObj) (r : Nat) (k : List Nat) : oldH m f h0 (r :: k) = match oldH m f h0 k with
    | some h => (match m.heap.get r with
      | some o => (match renO f r o with
        | some o => some (h.set r o)
        | none => none)
      | none => some h)
    | none => none := rfl
theorem oldH_get {m : Mem} {f : Nat → Option Nat} {h0 : T AObj} : ∀ {k : List Nat} {h : T AObj}, oldH m f h0 k = some h → ∀ {q : Nat} {o' : AObj}, h.get q = some o' →
    h0.get q = some o' ∨ (q ∈ k ∧ ∃ o, m.heap.get q = some o ∧ renO f q o = some o')
  | [], h, e, q, o', hq => by
    have e' : some h0 = some h := e
    cases e'
    exact .inl hq
  | r :: k, h, e, q, o', hq => by
    rw [oldH_cons] at e
    cases hl : oldH m f h0 k with
    | none => rw [hl] at e; cases e
    | some h1 =>
      rw [hl] at e
      dsimp only at e
      have next : h1.get q = some o' → h0.get q = some o' ∨ (q ∈ r :: k ∧ ∃ o, m.heap.get q = some o ∧ renO f q o = some o') := fun hh => by
        rcases oldH_get hl hh with a | ⟨a, b⟩
        · exact .inl a
        · exact .inr ⟨List.mem_cons_of_mem _ a, b⟩
      cases hr : m.heap.get r with
      | none => rw [hr] at e; cases e; exact next hq
      | some o =>
        rw [hr] at e
        dsimp only at e
        cases ho : renO f r o with
        | none => rw [ho] at e; cases e
        | some o1 =>
          rw [ho] at e; cases e
          rw [T.get_set] at hq
          by_cases hq0 : r = q
          · rw [if_pos hq0] at hq; cases hq
            subst hq0
            exact .inr ⟨List.mem_cons_self .., o, hr, ho⟩
          · rw [if_neg hq0] at hq; exact next hq
theorem renO_row {f : Nat → Option Nat} {q : Nat} {o : AObj} {e : Elem} {cs : List AVal} {g p : Nat} (h : renO f q o = some (.row e cs g p)) : g = q ∧ ∃ cs0 f0, o = .row e cs0 f0 p := by
  unfold renO at h
  split at h
  · split at h
    · cases h; exact ⟨rfl, _, _, rfl⟩
    · cases h
  · split at h
    · cases h
    · cases h
  · cases h
theorem renO_ro {f : Nat → Option Nat} {q : Nat} {o : AObj} {cs : List AVal} (h : renO f q o = some (.ro cs)) : False := by
  unfold renO at h
  split at h
  · split at h <;> cases h
  · split at h <;> cases h
  · cases h
section
variable {P : Program} {w0 : Wo} {B : Nat} {ρ : Rho} {m : Mem} {w : World}
def canRho (ρ : Rho) (N : Nat) (l : List Nat) : Rho := fun q => if q < N then ρ q else match l[q - N]? with | some r => ρ r | none => none
theorem canRho_ren (ρ : Rho) {base N : Nat} (hb : base ≤ N) (l : List Nat) : Ren (newIx l base N) ρ (canRho ρ N l) := by
  intro r q h
  unfold newIx at h
  cases hr : r.blt base with
  | true =>
    rw [hr] at h; cases h
    have := blt_iff.1 hr
    unfold canRho
    rw [if_pos (by omega)]
  | false =>
    rw [hr] at h
    obtain ⟨i, rfl, hi⟩ := ixOf_some h
    unfold canRho
    rw [if_neg (by omega), show N + i - N = i from by omega, hi]
theorem canRho_le (h : MR w0 B ρ m w) {N : Nat} (hN : m.next ≤ N) (l : List Nat) : ρ.le (canRho ρ N l) := by
  intro q p hq
  have : q < N := by
    by_cases hlt : q < m.next
    · omega
    · rw [h.dom q (by omega)] at hq; cases hq
  unfold canRho
  rw [if_pos this]; exact hq
theorem MR.can (h : MR w0 B ρ m w) {base N : Nat} {k l : List Nat} (hok : canOK m base N k l = true) {m' : Mem} (e : canM m N l (withOld m (newIx l base N) k (canH m (newIx l base N) l N)) = some m') : MR w0 B (canRho ρ N l) m' w := by
  unfold canOK at hok
  simp only [Bool.and_eq_true, nat_beq, nat_ble] at hok
  obtain ⟨⟨⟨⟨⟨⟨⟨h1, h2⟩, hN⟩, hbN⟩, hlt⟩, hge⟩, h4⟩, h5⟩ := hok
  rw [appL_eq] at h5
  have hnd := nodupB_spec h5
  have hndl := nodupB_spec h4
  have hlt' := allLt_mem hlt
  have hge' := allGe_mem hge
  cases hH : canH m (newIx l base N) l N with
  | none => rw [hH] at e; cases e
  | some hp0 =>
    rw [hH] at e
    have e1 : canM m N l (oldH m (newIx l base N) hp0 k) = some m' := e
    cases hO : oldH m (newIx l base N) hp0 k with
    | none => rw [hO] at e1; cases e1
    | some hp =>
      rw [hO] at e1
      cases e1
      rw [lenL_eq]
      have hlen : ∀ {i r : Nat}, l[i]? = some r → i < l.length := fun hi => (List.getElem?_eq_some_iff.1 hi).1
      have hρN : ∀ {i r}, l[i]? = some r → canRho ρ N l (N + i) = ρ r := by
        intro i r hi
        unfold canRho
        rw [if_neg (by omega), show N + i - N = i from by omega, hi]
      have hρ0 : ∀ {q}, q < N → canRho ρ N l q = ρ q := by
        intro q hq
        unfold canRho
        rw [if_pos hq]
      -- whence an object comes
      have hg : ∀ {q o'}, hp.get q = some o' → ∃ r o, m.heap.get r = some o ∧ renO (newIx l base N) q o = some o' ∧ canRho ρ N l q = ρ r ∧ q < N + l.length ∧ r ∈ k ++ l ∧ ((q < base ∧ r = q) ∨ (∃ i, q = N + i ∧ l[i]? = some r ∧ base ≤ r)) := by
        intro q o' hq
        rcases oldH_get hO hq with hq | ⟨hk, o, ho, hr⟩
        · obtain ⟨i, r, o, rfl, hi, hr, ho⟩ := canH_get hH hq
          have hm := List.mem_of_getElem? hi
          exact ⟨r, o, hr, ho, hρN hi, by have := hlen hi; omega, List.mem_append_right _ hm, .inr ⟨i, rfl, hi, hge' r hm⟩⟩
        · have := hlt' q hk
          exact ⟨q, o, ho, hr, hρ0 (by omega), by omega, List.mem_append_left _ hk, .inl ⟨this, rfl⟩⟩
      refine ⟨?_, ?_, ?_, ?_, ?_, ?_, ?_, ?_, h.below, h.base, ?_, ?_⟩
      · intro q o' p hq hpq
        obtain ⟨r, o, hr, ho, hρ, _⟩ := hg hq
        rw [hρ] at hpq
        exact (h.obj r o p hr hpq).ren (canRho_ren ρ hbN l) ho
      · intro q q' o1 o2 p1 p2 hne hq1 hq2 hp1 hp2 hb
        obtain ⟨r, a, hr, ho, hρ, _, hm, hs⟩ := hg hq1
        obtain ⟨r', a', hr', ho', hρ', _, hm', hs'⟩ := hg hq2
        rw [hρ] at hp1
        rw [hρ'] at hp2
        have hrr : r ≠ r' := by
          intro er
          subst er
          rcases hs with ⟨b1, rfl⟩ | ⟨i, rfl, hi, b1⟩
          · rcases hs' with ⟨b2, rfl⟩ | ⟨j, rfl, hj, b2⟩
            · exact hne rfl
            · omega
          · rcases hs' with ⟨b2, rfl⟩ | ⟨j, rfl, hj, b2⟩
            · omega
            · have := nodup_ix hndl hi hj
              omega
        have hk := h.inj r r' a a' p1 p2 hrr hr hr' hp1 hp2 hb
        exfalso
        unfold Kin2 at hk
        split at hk
        · obtain ⟨rfl, _⟩ := hk
          exact hrr (fams_apart hnd hm hm' hr hr')
        · exact absurd ho (fun ho => by unfold renO at ho; cases ho)
        · exact hk
      · intro q hq
        show canRho ρ N l q = none
        have hq' : N + l.length ≤ q := hq
        unfold canRho
        rw [if_neg (by omega), List.getElem?_eq_none (by omega)]
      · intro q hq
        have hq' : N + l.length ≤ q := hq
        show hp.get q = none
        cases hx : hp.get q with
        | none => rfl
        | some o' =>
          obtain ⟨_, _, _, _, _, hlt, _⟩ := hg hx
          omega
      · intro f l' hl
        have : (T.e : T (List Nat)).get f = some l' := hl
        rw [T.get_e] at this; cases this
      · intro q e cs f p hq
        obtain ⟨_, _, _, ho, _, hlt, _⟩ := hg hq
        obtain ⟨rfl, _⟩ := renO_row ho
        exact hlt
      · intro q e cs f p l' _ hl
        have : (T.e : T (List Nat)).get f = some l' := hl
        rw [T.get_e] at this; cases this
      · intro q q' e e' cs cs' f p p' hq hq' _
        obtain ⟨_, _, _, ho, _⟩ := hg hq
        obtain ⟨_, _, _, ho', _⟩ := hg hq'
        exact (renO_row ho).1.symm.trans (renO_row ho').1
      · intro q hq
        obtain ⟨b1, b2⟩ := h.ban q hq
        refine ⟨?_, ?_⟩
        · show q < N + l.length
          omega
        · show canRho ρ N l q = none
          rw [hρ0 (by omega)]; exact b2
      · intro g r hgr
        cases hgr
theorem canT_cons (f : Nat → Option Nat) (tmps : T AVal) (t : Nat) (lt : List Nat) : canT f tmps (t :: lt) = match canT f tmps lt, Abs.ren f (getT tmps t) with
    | some h, some v => some (h.set t v)
    | _, _ => none := rfl
theorem canT_get {f : Nat → Option Nat} {tmps : T AVal} : ∀ {lt : List Nat} {t' : T AVal}, canT f tmps lt = some t' → ∀ j, getT t' j = .poison ∨ Abs.ren f (getT tmps j) = some (getT t' j)
  | [], t', e, j => by
    have e' : some (T.e : T AVal) = some t' := e
    cases e'
    left; unfold getT; rw [T.get_e]
  | t :: lt, t', e, j => by
    rw [canT_cons] at e
    cases h1 : canT f tmps lt with
    | none => rw [h1] at e; cases e
    | some h =>
      cases h2 : Abs.ren f (getT tmps t) with
      | none => rw [h1, h2] at e; cases e
      | some v =>
        rw [h1, h2] at e; cases e
        rw [getT_set]
        by_cases hj : t = j
        · rw [if_pos hj]; right; rw [← hj]; exact h2
        · rw [if_neg hj]; exact canT_get h1 j
theorem canS_sound {lt k : List Nat} {base N : Nat} {K : Run} (hK : Sound P w0 B K) : Sound P w0 B (canS lt k base N K) := by
  intro env todo tmps ds mode up m ρ w fr cs h hF hU
  unfold canS
  generalize reach m base 10000 (appL (rootsOf tmps lt) (oldRefs m k)) [] = l
  unfold canW
  cases hok : canOK m base N k l with
  | false => exact trivial
  | true =>
    rw [cond_true]
    cases hT : canT (newIx l base N) tmps lt with
    | none => exact trivial
    | some t' =>
      cases hM : canM m N l (withOld m (newIx l base N) k (canH m (newIx l base N) l N)) with
      | none => exact trivial
      | some m' =>
        show Res P w0 B ρ env cs m (lone fr cs w) (K env todo t' ds mode up m')
        have hm' := h.can hok hM
        unfold canOK at hok
        simp only [Bool.and_eq_true, nat_beq, nat_ble] at hok
        obtain ⟨⟨⟨⟨⟨⟨⟨h1, h2⟩, hN⟩, hbN⟩, _⟩, _⟩, _⟩, _⟩ := hok
        have hle := canRho_le h hN l
        have hren := canRho_ren ρ hbN l
        have hTR : TR (canRho ρ N l) t' fr.tmps := by
          intro j
          rcases canT_get hT j with e | e
          · rw [e]; simp [R]
          · exact R.ren hren _ _ _ (hF.tmps j) e
        have hshape : m'.lo = m.lo ∧ m'.dirty = m.dirty ∧ m'.next = N + l.length := by
          cases hH : withOld m (newIx l base N) k (canH m (newIx l base N) l N) with
          | none => rw [hH] at hM; cases hM
          | some hp => rw [hH] at hM; cases hM; exact ⟨rfl, rfl, by rw [lenL_eq]; rfl⟩
        obtain ⟨s1, s2, s3⟩ := hshape
        refine Res.later hle ⟨s1, by rw [s3]; omega, fun e => by rw [← s2]; exact e, fun _ _ r hr => ?_⟩ (SameCs.refl _ _) (hK env todo _ ds mode up _ _ w fr cs hm' ((hF.mono hle).retmps hTR) (hU.mono hle))
        rw [h1] at hr
        omega
theorem closed_are {Rn : Run} (hR : ∀ B w0, Sound P w0 B Rn) {f : FuncId} {v : Value} {up' : Chain} {m' : Mem}
    (e : Are (.ret (.lit v) up' m') (callBody0 Rn false f [] [] mem0 P.funcs[f]?)) (w : World) : Calls P f #[] w fun e w' => e = .returned v ∧ Below w.heap.size w w' := by
  intro cs
  rcases callBody0_sound (hR w.heap.size ⟨w, fun _ => False⟩) (MR.empty w) (args := []) (xs := #[]) (by simp [RL]) false (up := []) (cs := cs) (fun e => by cases e) (f := f) with ⟨why, hb⟩ | ⟨fn, c, hf, hb, hr⟩
  · rw [hb] at e; cases (e : RR.bad why = _)
  · have hr := Res.are e hr
    obtain ⟨_, ρ', w1, w', fr', cs', x, h1, h2, h3, h4, h5, h6, h7, h8, h9⟩ := hr
    obtain ⟨rfl, hm, hd, hfn, hres⟩ := h9 rfl
    have hcs := h5.1 rfl
    subst hcs
    simp only [R] at h4
    subst h4
    refine ⟨.returned x, w1, fr', ⟨rfl, h3.below⟩, h1, hfn, hm, hd, h7, hres⟩
end
end Go.Abs
