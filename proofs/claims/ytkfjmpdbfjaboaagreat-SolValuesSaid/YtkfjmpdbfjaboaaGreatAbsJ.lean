/- An executor whose runs hold in every world: a part of it and of what is proved of it. -/
import Derived.Test.YtkfjmpdbfjaboaaGreatAbsI
import Derived.Laws.Strings
namespace Go.Abs
open Go
def Wr (nt : Nat) (o : Oper) (j : Nat) : Prop := o.dst = some j ∧ j < nt
def Rd (ops : Array Oper) (o : Oper) (s : Nat) : Prop := s ∈ opTmps o ∨ ∃ g want q, o.guard = some (g, want) ∧ ops[g]? = some q ∧ q.dst = some s
theorem edgeBits_on (bs : List Nat) : ∀ (es : List Edge) (e : Edge), e ∈ es → Region.binds .any e = true → (edgeBits bs es).testBit e.on = true
 | [], e, h, _ => by cases h
 | a :: es, e, h, hb => by
  rw [edgeBits_cons]
  have or3 : ∀ x y z : Nat, ((x.lor y).lor z).testBit e.on = (x.testBit e.on || y.testBit e.on || z.testBit e.on) := by
   intro x y z
   have : (x.lor y).lor z = (x ||| y) ||| z := rfl
   rw [this, Nat.testBit_or, Nat.testBit_or]
  rcases List.mem_cons.1 h with rfl | h
  ·rw [hb, cond_true, or3]
   have : (Nat.pow 2 e.on).testBit e.on = true := by
    have : Nat.pow 2 e.on = 2 ^ e.on := rfl
    rw [this, Nat.testBit_two_pow]; simp
   rw [this]; rfl
  ·cases Region.binds .any a with
   | false => exact edgeBits_on bs es e h hb
   | true => rw [cond_true, or3, edgeBits_on bs es e h hb, Bool.or_true]
theorem befores_on {ops : Array Oper} {j : Nat} {o : Oper} (hj : ops[j]? = some o) {e : Edge} (he : e ∈ o.after.toList) (hb : Region.binds .any e = true) : ∃ mk, (befores ops.toList)[j]? = some mk ∧ mk.testBit e.on = true := by
 obtain ⟨acc', h1, _⟩ := befores_get ops.toList [] j o (by simpa using hj)
 simp only [List.length_nil, Nat.zero_add] at h1
 exact ⟨_, h1, edgeBits_on _ _ e he hb⟩
theorem reads_spec {ops : Array Oper} {its : PTree} (h : PlanOK ops its) {i j : Nat} {q o : Oper} (hi : ops[i]? = some q) (hj : ops[j]? = some o) (hne : i ≠ j) {d : Tmp} (hd : q.dst = some d) (hr : Rd ops o d) :
  (∃ mk, (befores ops.toList)[j]? = some mk ∧ mk.testBit i = true) ∨ (∃ mk, (befores ops.toList)[i]? = some mk ∧ mk.testBit j = true) := by
 rcases hr with hr | ⟨g, want, q', hg, hq, hd'⟩
 ·exact (tmps_spec h hi hj hne hd).2 hr
 ·by_cases e : i = g
  ·subst e
   obtain ⟨_, h2⟩ := edgesOK_spec ops.toList 0 h.edges j o (by simpa using hj)
   obtain ⟨ed, h3, h4, h5⟩ := h2 _ _ hg
   obtain ⟨mk, h6, h7⟩ := befores_on hj h3 h5
   rw [h4] at h7
   exact .inl ⟨mk, h6, h7⟩
  ·exact absurd hd' (tmps_spec h hi hq e hd).1
structure Pn where
 it : PItem
 T : Abs.T AVal
 v : AVal
 w : Bool
 mc : Mem
structure Inv (P : Program) (ops : Array Oper) (nt lo : Nat) (m : Mem) (tmps0 tmps Tm : Abs.T AVal) (listed : Array Bool) (done : Nat) (cks : List Ck) (pend : List Pn) : Prop where
 size : listed.size = ops.size
 closed : Closed ops.toList listed
 ld : ∀ i, listed.getD i false = true → done.testBit i = true
 dl : ∀ i, done.testBit i = true → listed.getD i false = true ∨ ∃ c ∈ pend, c.it.ix = i
 it : ∀ c ∈ pend, ops[c.it.ix]? = some c.it.o ∧ (befores ops.toList)[c.it.ix]? = some c.it.mask ∧ c.it.kind = okind c.it.o.op
 pnl : ∀ c ∈ pend, listed.getD c.it.ix false = false
 pdone : ∀ c ∈ pend, done.testBit c.it.ix = true
 pmask : ∀ c ∈ pend, ∀ b, c.it.mask.testBit b = true → done.testBit b = true
 pself : ∀ c ∈ pend, c.it.mask.testBit c.it.ix = false
 uniq : ∀ c ∈ pend, ∀ c' ∈ pend, c.it.ix = c'.it.ix → c = c'
 tr : ∀ j, (∀ c ∈ pend, ¬ Wr nt c.it.o j) → getT Tm j = getT tmps j
 val : ∀ c ∈ pend, ∀ j, Wr nt c.it.o j → getT tmps j = c.v
 rd1 : ∀ c ∈ pend, ∀ s, Rd ops c.it.o s → ∀ c' ∈ pend, Wr nt c'.it.o s → c.it.mask.testBit c'.it.ix = true → getT c.T s = c'.v
 rd2 : ∀ c ∈ pend, ∀ s, Rd ops c.it.o s → (∀ c' ∈ pend, Wr nt c'.it.o s → c.it.mask.testBit c'.it.ix = false) → getT Tm s = getT c.T s
 gd : ∀ c ∈ pend, Abs.gd ops.toList c.T c.it.o.guard = some c.w
 unw : ∀ c ∈ pend, c.w = false → c.v = undefA
 lt3 : ∀ c ∈ pend, c.w = true → c.it.kind < 3
 k01 : ∀ c ∈ pend, c.w = true → c.it.kind < 2 → aop P c.T m c.it.o.op = .val c.v m
 ck1 : ∀ c ∈ pend, c.w = true → c.it.kind = 1 → (⟨c.it.ix, 1, c.it.o.op, c.T, c.v, none⟩ : Ck) ∈ cks
 k2 : ∀ c ∈ pend, c.w = true → c.it.kind = 2 → ∃ mc', aop P c.T c.mc c.it.o.op = .val c.v mc' ∧ m.heap.get c.mc.next = mc'.heap.get c.mc.next ∧ lo ≤ c.mc.next ∧ c.mc.next < m.next ∧
  (⟨c.it.ix, 2, c.it.o.op, c.T, c.v, mc'.heap.get c.mc.next⟩ : Ck) ∈ cks
 k2d : ∀ c ∈ pend, ∀ c' ∈ pend, c.w = true → c'.w = true → c.it.kind = 2 → c'.it.kind = 2 → c.mc.next = c'.mc.next → c = c'
 t0 : ∀ j, (j < nt → ∀ o ∈ ops.toList, o.dst ≠ some j) → getT tmps j = getT tmps0 j
 lom : lo ≤ m.next
section
variable {P : Program} {ops : Array Oper} {its : PTree} {nt lo : Nat} {m : Mem} {tmps0 tmps Tm : Abs.T AVal} {listed : Array Bool} {done : Nat} {cks : List Ck} {pend : List Pn}
theorem getT_set_wr {nt : Nat} {t : Abs.T AVal} {o : Oper} {j : Nat} {v : AVal} (h : Wr nt o j) : getT (setDst nt t v o.dst) j = v := by unfold Wr at h; rw [getT_setDst, if_pos h]
theorem getT_set_no {nt : Nat} {t : Abs.T AVal} {o : Oper} {j : Nat} {v : AVal} (h : ¬ Wr nt o j) : getT (setDst nt t v o.dst) j = getT t j := by unfold Wr at h; rw [getT_setDst, if_neg h]
theorem Inv.start (tmps : Abs.T AVal) (m : Mem) : Inv P ops nt m.next m tmps tmps tmps (Array.replicate ops.size false) 0 [] [] := by
 have hl : ∀ i, (Array.replicate ops.size false).getD i false = false := by
  intro i
  rw [Array.getD_eq_getD_getElem?, Array.getElem?_replicate]
  split <;> rfl
 refine ⟨by simp, closed_start ops, fun i h => (by rw [hl] at h; cases h), fun i h => (by simp at h), ?_, ?_, ?_, ?_, ?_, ?_, fun j _ => rfl, ?_, ?_, ?_, ?_, ?_, ?_, ?_, ?_, ?_, ?_, fun j _ => rfl, Nat.le_refl _⟩
 all_goals (intro c hc; cases hc)
theorem Inv.join (hP : PlanOK ops its) (hI : Inv P ops nt lo m tmps0 tmps Tm listed done cks pend) {p : PItem} (hp : ops[p.ix]? = some p.o ∧ (befores ops.toList)[p.ix]? = some p.mask ∧ p.kind = okind p.o.op)
  (hmask : ∀ b, p.mask.testBit b = true → done.testBit b = true) (hnd : done.testBit p.ix = false) {v : AVal} {wd : Bool} {m' : Mem} {cks' : List Ck}
  (hg : Abs.gd ops.toList tmps p.o.guard = some wd) (hunw : wd = false → v = undefA) (hlt : wd = true → p.kind < 3)
  (hext : Ext m m') (hnx : m.next ≤ m'.next) (hsame : ∀ r, r < m.next → m'.heap.get r = m.heap.get r) (hcks : ∀ c ∈ cks, c ∈ cks')
  (h01 : wd = true → p.kind < 2 → aop P tmps m' p.o.op = .val v m') (hck1 : wd = true → p.kind = 1 → (⟨p.ix, 1, p.o.op, tmps, v, none⟩ : Ck) ∈ cks')
  (h2 : wd = true → p.kind = 2 → aop P tmps m p.o.op = .val v m' ∧ m.next < m'.next ∧ (⟨p.ix, 2, p.o.op, tmps, v, m'.heap.get m.next⟩ : Ck) ∈ cks') :
  Inv P ops nt lo m' tmps0 (setDst nt tmps v p.o.dst) Tm listed (done.lor (Nat.pow 2 p.ix)) cks' (⟨p, tmps, v, wd, m⟩ :: pend) := by
 have hdiff : ∀ c ∈ pend, c.it.ix ≠ p.ix := by
  intro c hc e
  have := hI.pdone c hc
  rw [e, hnd] at this
  cases this
 have hself : p.mask.testBit p.ix = false := by
  cases h : p.mask.testBit p.ix with
  | false => rfl
  | true => rw [hmask _ h] at hnd; cases hnd
 have hnomask : ∀ c ∈ pend, c.it.mask.testBit p.ix = false := by
  intro c hc
  cases h : c.it.mask.testBit p.ix with
  | false => rfl
  | true => have := hI.pmask c hc _ h; rw [hnd] at this; cases this
 have hdst : ∀ c ∈ pend, ∀ j, Wr nt c.it.o j → ¬ Wr nt p.o j := by
  intro c hc j h1 h3
  exact (tmps_spec hP (hI.it c hc).1 hp.1 (hdiff c hc) h1.1).1 h3.1
 have hor : ∀ i, done.testBit i = true → (done.lor (Nat.pow 2 p.ix)).testBit i = true := fun i h => by rw [testBit_or_pow, h]; rfl
 refine ⟨hI.size, hI.closed, fun i h => hor i (hI.ld i h), ?_, ?_, ?_, ?_, ?_, ?_, ?_, ?_, ?_, ?_, ?_, ?_, ?_, ?_, ?_, ?_, ?_, ?_, ?_, Nat.le_trans hI.lom hnx⟩
 ·intro i h
  rw [testBit_or_pow, Bool.or_eq_true] at h
  rcases h with h | h
  ·rcases hI.dl i h with h | ⟨c, hc, e⟩
   ·exact .inl h
   ·exact .inr ⟨c, List.mem_cons_of_mem _ hc, e⟩
  ·exact .inr ⟨_, List.mem_cons_self .., by simpa using h⟩
 ·intro c hc
  rcases List.mem_cons.1 hc with rfl | hc
  ·exact hp
  ·exact hI.it c hc
 ·intro c hc
  rcases List.mem_cons.1 hc with rfl | hc
  ·show listed.getD p.ix false = false
   cases h : listed.getD p.ix false with
   | false => rfl
   | true => rw [hI.ld _ h] at hnd; cases hnd
  ·exact hI.pnl c hc
 ·intro c hc
  rcases List.mem_cons.1 hc with rfl | hc
  ·show (done.lor (Nat.pow 2 p.ix)).testBit p.ix = true
   rw [testBit_or_pow]; simp
  ·exact hor _ (hI.pdone c hc)
 ·intro c hc b hb
  rcases List.mem_cons.1 hc with rfl | hc
  ·exact hor _ (hmask b hb)
  ·exact hor _ (hI.pmask c hc b hb)
 ·intro c hc
  rcases List.mem_cons.1 hc with rfl | hc
  ·exact hself
  ·exact hI.pself c hc
 ·intro c hc c' hc' e
  rcases List.mem_cons.1 hc with rfl | hc <;> rcases List.mem_cons.1 hc' with rfl | hc'
  ·rfl
  ·exact absurd e.symm (hdiff c' hc')
  ·exact absurd e (hdiff c hc)
  ·exact hI.uniq c hc c' hc' e
 ·intro j hj
  rw [getT_set_no (hj _ (List.mem_cons_self ..))]
  exact hI.tr j fun c hc => hj c (List.mem_cons_of_mem _ hc)
 ·intro c hc j hj
  rcases List.mem_cons.1 hc with rfl | hc
  ·exact getT_set_wr hj
  ·rw [getT_set_no (hdst c hc j hj)]
   exact hI.val c hc j hj
 ·intro c hc s hs c' hc' hw hb
  rcases List.mem_cons.1 hc with rfl | hc <;> rcases List.mem_cons.1 hc' with rfl | hc'
  ·have hb' : p.mask.testBit p.ix = true := hb
   rw [hself] at hb'; cases hb'
  ·exact hI.val c' hc' s hw
  ·have hb' : c.it.mask.testBit p.ix = true := hb
   rw [hnomask c hc] at hb'; cases hb'
  ·exact hI.rd1 c hc s hs c' hc' hw hb
 ·intro c hc s hs hno
  rcases List.mem_cons.1 hc with rfl | hc
  ·refine hI.tr s fun c' hc' hw => ?_
   have hb : p.mask.testBit c'.it.ix = false := hno c' (List.mem_cons_of_mem _ hc') hw
   rcases reads_spec hP (hI.it c' hc').1 hp.1 (hdiff c' hc') hw.1 hs with ⟨mk, h3, h4⟩ | ⟨mk, h3, h4⟩
   ·rw [hp.2.1] at h3; cases h3; rw [hb] at h4; cases h4
   ·rw [(hI.it c' hc').2.1] at h3; cases h3; rw [hnomask c' hc'] at h4; cases h4
  ·exact hI.rd2 c hc s hs fun c' hc' => hno c' (List.mem_cons_of_mem _ hc')
 ·intro c hc
  rcases List.mem_cons.1 hc with rfl | hc
  ·exact hg
  ·exact hI.gd c hc
 ·intro c hc h
  rcases List.mem_cons.1 hc with rfl | hc
  ·exact hunw h
  ·exact hI.unw c hc h
 ·intro c hc h
  rcases List.mem_cons.1 hc with rfl | hc
  ·exact hlt h
  ·exact hI.lt3 c hc h
 ·intro c hc h hk
  rcases List.mem_cons.1 hc with rfl | hc
  ·exact h01 h hk
  ·exact (aop_sees (P := P) (m := m) c.T c.it.o.op (by rw [← (hI.it c hc).2.2]; exact hk) _ _ (hI.k01 c hc h hk) rfl).2 m' hext
 ·intro c hc h hk
  rcases List.mem_cons.1 hc with rfl | hc
  ·exact hck1 h hk
  ·exact hcks _ (hI.ck1 c hc h hk)
 ·intro c hc h hk
  rcases List.mem_cons.1 hc with rfl | hc
  ·obtain ⟨h3, h4, h5⟩ := h2 h hk
   exact ⟨m', h3, rfl, hI.lom, h4, h5⟩
  ·obtain ⟨mc', h3, h4, h5, h6, h7⟩ := hI.k2 c hc h hk
   exact ⟨mc', h3, by rw [hsame _ h6]; exact h4, h5, by omega, hcks _ h7⟩
 ·intro c hc c' hc' h h' hk hk' e
  rcases List.mem_cons.1 hc with rfl | hc <;> rcases List.mem_cons.1 hc' with rfl | hc'
  ·rfl
  ·obtain ⟨_, _, _, _, h6, _⟩ := hI.k2 c' hc' h' hk'
   have e' : m.next = c'.mc.next := e
   omega
  ·obtain ⟨_, _, _, _, h6, _⟩ := hI.k2 c hc h hk
   have e' : c.mc.next = m.next := e
   omega
  ·exact hI.k2d c hc c' hc' h h' hk hk' e
 ·intro j hj
  rw [getT_set_no (fun hw => hj hw.2 p.o (List.mem_of_getElem? (by simpa using hp.1)) hw.1)]
  exact hI.t0 j hj
theorem Inv.pop (hP : PlanOK ops its) (hI : Inv P ops nt lo m tmps0 tmps Tm listed done cks pend) {c : Pn} (hc : c ∈ pend) (hi : c.it.ix ∈ Region.ready .any ops listed) :
  Inv P ops nt lo m tmps0 tmps (setDst nt Tm c.v c.it.o.dst) (listed.setIfInBounds c.it.ix true) done cks (pend.filter fun c' => !(c'.it.ix == c.it.ix)) := by
 have hlt : c.it.ix < listed.size := by rw [hI.size]; exact (Array.getElem?_eq_some_iff.1 (hI.it c hc).1).1
 have hmem : ∀ {c'}, c' ∈ pend.filter (fun c' => !(c'.it.ix == c.it.ix)) → c' ∈ pend ∧ c'.it.ix ≠ c.it.ix := by
  intro c' h
  rw [List.mem_filter] at h
  exact ⟨h.1, by simpa using h.2⟩
 have hback : ∀ {c'}, c' ∈ pend → c'.it.ix ≠ c.it.ix → c' ∈ pend.filter (fun c' => !(c'.it.ix == c.it.ix)) := by
  intro c' h1 h2
  rw [List.mem_filter]
  exact ⟨h1, by simpa using h2⟩
 have hready := ready_mask hI.closed hi (hI.it c hc).2.1
 have hnomask : ∀ c' ∈ pend, c.it.mask.testBit c'.it.ix = false := by
  intro c' hc'
  cases h : c.it.mask.testBit c'.it.ix with
  | false => rfl
  | true => have := hready _ h; rw [hI.pnl c' hc'] at this; cases this
 have hdst : ∀ c' ∈ pend, c'.it.ix ≠ c.it.ix → ∀ j, Wr nt c'.it.o j → ¬ Wr nt c.it.o j := by
  intro c' hc' hne j h1 h3
  exact (tmps_spec hP (hI.it c' hc').1 (hI.it c hc).1 hne h1.1).1 h3.1
 refine ⟨by simpa using hI.size, hI.closed.set hI.size hi, ?_, ?_, fun c' h => hI.it c' (hmem h).1, ?_, fun c' h => hI.pdone c' (hmem h).1, fun c' h => hI.pmask c' (hmem h).1, fun c' h => hI.pself c' (hmem h).1,
  fun c1 h1 c2 h2 => hI.uniq c1 (hmem h1).1 c2 (hmem h2).1, ?_, fun c' h => hI.val c' (hmem h).1, fun c1 h1 s hs c2 h2 => hI.rd1 c1 (hmem h1).1 s hs c2 (hmem h2).1, ?_, fun c' h => hI.gd c' (hmem h).1, fun c' h => hI.unw c' (hmem h).1,
  fun c' h => hI.lt3 c' (hmem h).1, fun c' h => hI.k01 c' (hmem h).1, fun c' h => hI.ck1 c' (hmem h).1, fun c' h => hI.k2 c' (hmem h).1, fun c1 h1 c2 h2 => hI.k2d c1 (hmem h1).1 c2 (hmem h2).1, hI.t0, hI.lom⟩
 ·intro i h
  rw [getD_set_eq hlt] at h
  by_cases e : c.it.ix = i
  ·rw [← e]; exact hI.pdone c hc
  ·rw [if_neg e] at h; exact hI.ld i h
 ·intro i h
  rw [getD_set_eq hlt]
  by_cases e : c.it.ix = i
  ·exact .inl (if_pos e)
  ·rw [if_neg e]
   rcases hI.dl i h with h | ⟨c', h1, h2⟩
   ·exact .inl h
   ·exact .inr ⟨c', hback h1 (fun h3 => e (h3.symm.trans h2)), h2⟩
 ·intro c' h
  rw [getD_set_eq hlt, if_neg (fun e => (hmem h).2 e.symm)]
  exact hI.pnl c' (hmem h).1
 ·intro j hj
  by_cases hw : Wr nt c.it.o j
  ·rw [getT_set_wr hw]; exact (hI.val c hc j hw).symm
  ·rw [getT_set_no hw]
   refine hI.tr j fun c' hc' hw' => ?_
   by_cases e : c'.it.ix = c.it.ix
   ·have := hI.uniq c' hc' c hc e
    subst this
    exact hw hw'
   ·exact hj c' (hback hc' e) hw'
 ·intro c1 h1 s hs hno
  obtain ⟨h1, hne⟩ := hmem h1
  by_cases hw : Wr nt c.it.o s
  ·rw [getT_set_wr hw]
   cases hb : c1.it.mask.testBit c.it.ix with
   | true => exact (hI.rd1 c1 h1 s hs c hc hw hb).symm
   | false =>
    exfalso
    rcases reads_spec hP (hI.it c hc).1 (hI.it c1 h1).1 (Ne.symm hne) hw.1 hs with ⟨mk, h3, h4⟩ | ⟨mk, h3, h4⟩
    ·rw [(hI.it c1 h1).2.1] at h3; cases h3; rw [hb] at h4; cases h4
    ·rw [(hI.it c hc).2.1] at h3; cases h3; rw [hnomask c1 h1] at h4; cases h4
  ·rw [getT_set_no hw]
   refine hI.rd2 c1 h1 s hs fun c' hc' hw' => ?_
   by_cases e : c'.it.ix = c.it.ix
   ·have := hI.uniq c' hc' c hc e
    subst this
    exact absurd hw' hw
   ·exact hno c' (hback hc' e) hw'
theorem Inv.heavy (hP : PlanOK ops its) (hI : Inv P ops nt lo m tmps0 tmps Tm listed done cks pend) {p : PItem} (hp : ops[p.ix]? = some p.o ∧ (befores ops.toList)[p.ix]? = some p.mask ∧ p.kind = okind p.o.op)
  (hi : p.ix ∈ Region.ready .any ops listed) (hnd : done.testBit p.ix = false) {m1 : Mem} (hnx : m.next ≤ m1.next) (hck : ckAll P p.mask m1 cks = true) (v : AVal) :
  Inv P ops nt lo m1 tmps0 (setDst nt tmps v p.o.dst) (setDst nt Tm v p.o.dst) (listed.setIfInBounds p.ix true) (done.lor (Nat.pow 2 p.ix)) (leftCk p.mask cks) pend := by
 have hlt : p.ix < listed.size := by rw [hI.size]; exact (Array.getElem?_eq_some_iff.1 hp.1).1
 have hready := ready_mask hI.closed hi hp.2.1
 have hdiff : ∀ c ∈ pend, c.it.ix ≠ p.ix := by
  intro c hc e
  have := hI.pdone c hc
  rw [e, hnd] at this
  cases this
 have hno1 : ∀ c ∈ pend, p.mask.testBit c.it.ix = false := by
  intro c hc
  cases h : p.mask.testBit c.it.ix with
  | false => rfl
  | true => have := hready _ h; rw [hI.pnl c hc] at this; cases this
 have hno2 : ∀ c ∈ pend, c.it.mask.testBit p.ix = false := by
  intro c hc
  cases h : c.it.mask.testBit p.ix with
  | false => rfl
  | true => have := hI.pmask c hc _ h; rw [hnd] at this; cases this
 have hdst : ∀ c ∈ pend, ∀ j, Wr nt c.it.o j → ¬ Wr nt p.o j := by
  intro c hc j h1 h3
  exact (tmps_spec hP (hI.it c hc).1 hp.1 (hdiff c hc) h1.1).1 h3.1
 have hor : ∀ i, done.testBit i = true → (done.lor (Nat.pow 2 p.ix)).testBit i = true := fun i h => by rw [testBit_or_pow, h]; rfl
 have hone := fun c hc hb => ckAll_spec hck c hc hb
 refine ⟨by simpa using hI.size, hI.closed.set hI.size hi, ?_, ?_, hI.it, ?_, fun c hc => hor _ (hI.pdone c hc), fun c hc b hb => hor _ (hI.pmask c hc b hb), hI.pself, hI.uniq, ?_, ?_, hI.rd1, ?_, hI.gd, hI.unw, hI.lt3, ?_, fun c hc h hk => leftCk_mem (hI.ck1 c hc h hk) (hno1 c hc), ?_, hI.k2d, ?_, Nat.le_trans hI.lom hnx⟩
 ·intro i h
  rw [getD_set_eq hlt] at h
  rw [testBit_or_pow]
  by_cases e : p.ix = i
  ·subst e; simp
  ·rw [if_neg e] at h; rw [hI.ld i h]; rfl
 ·intro i h
  rw [testBit_or_pow, Bool.or_eq_true] at h
  rw [getD_set_eq hlt]
  by_cases e : p.ix = i
  ·exact .inl (if_pos e)
  ·rw [if_neg e]
   rcases h with h | h
   ·exact hI.dl i h
   ·exact absurd (by simpa using h) e
 ·intro c hc
  rw [getD_set_eq hlt, if_neg (fun e => hdiff c hc e.symm)]
  exact hI.pnl c hc
 ·intro j hj
  by_cases hw : Wr nt p.o j
  ·rw [getT_set_wr hw, getT_set_wr hw]
  ·rw [getT_set_no hw, getT_set_no hw]; exact hI.tr j hj
 ·intro c hc j hj
  rw [getT_set_no (hdst c hc j hj)]
  exact hI.val c hc j hj
 ·intro c hc s hs hno
  have hw : ¬ Wr nt p.o s := by
   intro hw
   rcases reads_spec hP hp.1 (hI.it c hc).1 (fun e => hdiff c hc e.symm) hw.1 hs with ⟨mk, h3, h4⟩ | ⟨mk, h3, h4⟩
   ·rw [(hI.it c hc).2.1] at h3; cases h3; rw [hno2 c hc] at h4; cases h4
   ·rw [hp.2.1] at h3; cases h3; rw [hno1 c hc] at h4; cases h4
  rw [getT_set_no hw]
  exact hI.rd2 c hc s hs hno
 ·intro c hc h hk
  have h1 := hI.k01 c hc h hk
  have hkk := (hI.it c hc).2.2
  rcases (by omega : c.it.kind = 0 ∨ c.it.kind = 1) with h0 | h0
  ·have := aop_re (P := P) c.T c.it.o.op (by rw [← hkk]; exact h0) m m1
   rw [this, h1]; rfl
  ·have h3 := hone _ (hI.ck1 c hc h h0) (hno1 c hc)
   have h4 : ckVal c.v m1.next (aop P c.T m1 c.it.o.op) = true := h3
   obtain ⟨m', h5, h6⟩ := ckVal_sound h4
   have := (aop_sees (P := P) (m := m1) c.T c.it.o.op (by rw [← hkk]; exact hk) _ _ h5 h6).1
   rw [this] at h5
   exact h5
 ·intro c hc h hk
  obtain ⟨mc', h3, h4, h5, h6, h7⟩ := hI.k2 c hc h hk
  refine ⟨mc', h3, ?_, h5, by omega, leftCk_mem h7 (hno1 c hc)⟩
  have h8 := hone _ h7 (hno1 c hc)
  have hmade := (aop_makes (P := P) (m := c.mc) c.T c.it.o.op (by rw [← (hI.it c hc).2.2]; exact hk) _ _ h3).1
  have h9 : (match madeAt c.v with | some r => sameObj (mc'.heap.get c.mc.next) (m1.heap.get r) | none => false) = true := h8
  rw [hmade] at h9
  exact (sameObj_sound h9).1.symm
 ·intro j hj
  rw [getT_set_no (fun hw => hj hw.2 p.o (List.mem_of_getElem? (by simpa using hp.1)) hw.1)]
  exact hI.t0 j hj
end
open Go.RowKit (Below)
def Nb (N : Nat → Prop) (pend : List Pn) (r : Nat) : Prop := N r ∨ ∃ c ∈ pend, c.w = true ∧ c.it.kind = 2 ∧ r = c.mc.next
theorem SameCs.trans {dfr : Bool} {a b c : List Frame} (hc : SameCs dfr a b) (h : SameCs dfr b c) : SameCs dfr a c := by
 refine ⟨fun hd => (h.1 hd).trans (hc.1 hd), fun c rest e => ?_, fun e => h.2.2 (hc.2.2 e)⟩
 obtain ⟨md, h1, h2, h3⟩ := hc.2.1 c rest e
 obtain ⟨md', h4, h5, h6⟩ := h.2.1 _ _ h1
 refine ⟨md', h4, fun hr => h5 (h2 hr), fun ch hp => ?_⟩
 obtain ⟨ch', h7⟩ := h3 ch hp
 exact h6 ch' h7
section
variable {P : Program} {w0 : Wo} {B : Nat} {rec : Run} {fl : Fl}
theorem FR.retmps {ρ : Rho} {env : Env} {its : List Item} {tmps t : T AVal} {ds : List ADef} {mo : AMode} {fr : Frame} (hF : FR P ρ env its tmps ds mo fr) (h : TR ρ t fr.tmps) : FR P ρ env its t ds mo fr := { hF with tmps := h }
theorem gd_congr {ops : Array Oper} {o : Oper} {T T' : Abs.T AVal} (h : ∀ s, Rd ops o s → getT T s = getT T' s) : gd ops.toList T o.guard = gd ops.toList T' o.guard := by
 cases hg : o.guard with
 | none => rfl
 | some jw =>
  obtain ⟨j, want⟩ := jw
  show (match dstOf ops.toList j with | some d => gdV want (getT T d) | none => some false) = (match dstOf ops.toList j with | some d => gdV want (getT T' d) | none => some false)
  have hdst : dstOf ops.toList j = (ops[j]?).bind (·.dst) := by
   unfold dstOf
   rw [getO_eq]
   simp
  rw [hdst]
  cases hq : ops[j]? with
  | none => rfl
  | some q =>
   rw [Option.bind_some]
   cases hd : q.dst with
   | none => rfl
   | some d =>
    dsimp only
    rw [h d (.inr ⟨j, want, q, hg, hq, hd⟩)]
structure DS (P : Program) (ops : Array Oper) (w0 : Wo) (B : Nat) (env : Env) (k : List AItem) (mb : Mem) (ρb : Rho) (csb : List Frame) (tmps0 : Abs.T AVal) (m : Mem) (tmps : Abs.T AVal) (ds : List ADef) (up : Chain) (done : Nat) (cks : List Ck) (cs : List Frame)
  (ρ : Rho) (w : World) (fr : Frame) (L : List Nat) (listed : Array Bool) (pend : List Pn) (Tm : Abs.T AVal) : Prop where
 inv : Inv P ops env.nt mb.next m tmps0 tmps Tm listed done cks pend
 mr : MR ⟨w0.w, Nb w0.N pend⟩ B ρ m w
 fr : FR P ρ env (.inRegion ops L :: k.map AItem.toItem) Tm ds .run fr
 up : UpR ρ env.dfr up cs
 ord : Ord ops listed L
 le : ρb.le ρ
 keeps : Keeps mb m
 same : SameCs env.dfr csb cs
variable {ops : Array Oper} {its0 : PTree} {env : Env} {k : List AItem} {mb : Mem} {ρb : Rho} {csb : List Frame} {tmps0 tmps : Abs.T AVal} {m : Mem} {ds : List ADef} {up : Chain} {done : Nat} {cks : List Ck} {cs : List Frame}
theorem okind_defer {op : Op} (h : okind op < 3) : ∀ c, op ≠ .defer c := by
 intro c e
 subst e
 exact absurd (show (3 : Nat) < 3 from h) (by decide)
theorem flush (hP : PlanOK ops its0) (hN0 : ∀ r, w0.N r → r < mb.next) {r : RR}
  (K : ∀ ρ w fr L listed pend Tm, DS P ops w0 B env k mb ρb csb tmps0 m tmps ds up done cks cs ρ w fr L listed pend Tm → (∀ c ∈ pend, L.head? ≠ some c.it.ix) → Res P w0 B ρb env csb mb (lone fr cs w) r) :
  ∀ L ρ w fr listed pend Tm, DS P ops w0 B env k mb ρb csb tmps0 m tmps ds up done cks cs ρ w fr L listed pend Tm → Res P w0 B ρb env csb mb (lone fr cs w) r := by
 intro L
 induction L with
 | nil => intro ρ w fr listed pend Tm hD; exact K ρ w fr [] listed pend Tm hD fun c _ => by simp
 | cons i L ih =>
  intro ρ w fr listed pend Tm hD
  by_cases hex : ∃ c ∈ pend, c.it.ix = i
  ·obtain ⟨c, hc, rfl⟩ := hex
   have hi := hD.ord.1
   have ho := (hD.inv.it c hc).1
   have hm : fr.mode = .run := hD.fr.mode
   have ht := hD.fr.todo rfl
   have hready := ready_mask hD.inv.closed hi (hD.inv.it c hc).2.1
   have hread : ∀ s, Rd ops c.it.o s → getT Tm s = getT c.T s := by
    intro s hs
    refine hD.inv.rd2 c hc s hs fun c' hc' _ => ?_
    cases h : c.it.mask.testBit c'.it.ix with
    | false => rfl
    | true => have := hready _ h; rw [hD.inv.pnl c' hc'] at this; cases this
   have hop : ∀ s ∈ opTmps c.it.o, R ρ (getT c.T s) (fr.tmps.getD s undef) := by
    intro s hs
    rw [← hread s (.inl hs)]
    exact hD.fr.tmps s
   have hw : Region.wanted c.it.o (yielded ops fr.tmps) = c.w := gd_sound hD.fr (by rw [gd_congr hread]; exact hD.inv.gd c hc)
   have hpop := hD.inv.pop hP hc hi
   have hsub : ∀ r, Nb w0.N (pend.filter fun c' => !(c'.it.ix == c.it.ix)) r → Nb w0.N pend r := by
    rintro r (h | ⟨c', h1, h2⟩)
    ·exact .inl h
    ·exact .inr ⟨c', (List.mem_filter.1 h1).1, h2⟩
   cases hcw : c.w with
   | false =>
    rw [hcw] at hw
    refine Res.steps (.one (step_skip_op hm ht ho hw)) (ih ρ w _ _ _ _ ⟨hpop, hD.mr.unban hsub, ?_, hD.up, hD.ord.2, hD.le, hD.keeps, hD.same⟩)
    exact hD.fr.finish ho (Rho.le.refl ρ) (by rw [hD.inv.unw c hc hcw]; simp only [undefA, R]; rfl)
   | true =>
    rw [hcw] at hw
    have hlt3 := hD.inv.lt3 c hc hcw
    have hkk := (hD.inv.it c hc).2.2
    have hstep := stepG_oper (P := P) (cs := cs) (w := w) hm ht ho hw (.inl (okind_defer (by rw [← hkk]; exact hlt3)))
    by_cases hk : c.it.kind < 2
    ·obtain ⟨x, w', ρ', h1, hle, hM, hR⟩ := light_run hD.mr hop (hD.inv.k01 c hc hcw hk)
     rcases h1 with h1 | ⟨h1, hv⟩
     ·refine Res.steps (.one (step_lone_go (by rw [hstep]; exact apply_value h1))) (ih ρ' w' _ _ _ _ ⟨hpop, hM.unban hsub, ?_, hD.up.mono hle, hD.ord.2, hD.le.trans hle, hD.keeps, hD.same⟩)
      exact hD.fr.finish ho hle hR
     ·refine Res.steps (.one (step_lone_go (by rw [hstep]; exact apply_skip h1))) (ih ρ' w' _ _ _ _ ⟨hpop, hM.unban hsub, ?_, hD.up.mono hle, hD.ord.2, hD.le.trans hle, hD.keeps, hD.same⟩)
      exact hD.fr.finish ho hle (by rw [hv]; simp [R])
    ·have hk2 : c.it.kind = 2 := by omega
     obtain ⟨mc', e1, e2, e3, e4, _⟩ := hD.inv.k2 c hc hcw hk2
     have hno := (hD.mr.ban c.mc.next (.inr ⟨c, hc, hcw, hk2, rfl⟩)).2
     have hnb : ¬ Nb w0.N (pend.filter fun c' => !(c'.it.ix == c.it.ix)) c.mc.next := by
      rintro (h | ⟨c', h1, h2, h3, h4⟩)
      ·have := hN0 _ h; omega
      ·rw [List.mem_filter] at h1
       have := hD.inv.k2d c hc c' h1.1 hcw h2 hk2 h3 h4
       subst this
       simp at h1
     obtain ⟨x, w', ρ', h1, hle, hM, hR, _⟩ := maker_run (hD.mr.unban hsub) (by rw [← hkk]; exact hk2) hop e1 e2 hno hnb
     refine Res.steps (.one (step_lone_go (by rw [hstep]; exact apply_value h1))) (ih ρ' w' _ _ _ _ ⟨hpop, hM, ?_, hD.up.mono hle, hD.ord.2, hD.le.trans hle, hD.keeps, hD.same⟩)
     exact hD.fr.finish ho hle hR
  ·refine K ρ w fr _ listed pend Tm hD fun c hc e => hex ⟨c, hc, ?_⟩
   simpa using e.symm
theorem ready_not {listed : Array Bool} {i : Nat} (hs : listed.size = ops.size) (h : i ∈ Region.ready .any ops listed) : listed.getD i false = false ∧ i < ops.size := by
 obtain ⟨h1, o, ho, _⟩ := mem_ready.1 h
 have hlt := (Array.getElem?_eq_some_iff.1 ho).1
 refine ⟨?_, hlt⟩
 rw [Array.getD_eq_getD_getElem?, Array.getElem?_eq_getElem (by omega)] at h1 ⊢
 exact h1
theorem full_bit {n i : Nat} (h : i < n) : (2 ^ n - 1).testBit i = true := by
 rw [Nat.testBit_two_pow_sub_one]; simpa using h
theorem lastV_eq {nt : Nat} {T T' : Abs.T AVal} (dst : Option Tmp) (v : AVal) : setDst nt T (match dst with | some d => getT (setDst nt T' v dst) d | none => .poison) dst = setDst nt T v dst := by
 cases dst with
 | none => rfl
 | some d =>
  dsimp only
  rw [getT_setDst]
  show setIn nt T d _ = setIn nt T d v
  by_cases h : d < nt
  ·rw [if_pos ⟨rfl, h⟩]
  ·unfold setIn
   have : d.succ.ble nt = false := nat_ble_f.2 (Nat.lt_succ_of_le (Nat.le_of_not_lt h))
   rw [this]; rfl
def FullT (P : Program) (ops : Array Oper) (w0 : Wo) (B : Nat) (fl : Fl) (rec : Run) (env : Env) (k : List AItem) (mb : Mem) (ρb : Rho) (csb : List Frame) (tmps0 : Abs.T AVal) (t : PTree) : Prop :=
 ∀ (top : Bool) (done : Nat) (cks : List Ck) (tmps : Abs.T AVal) (m : Mem) (ds : List ADef) (up : Chain) (cs : List Frame) (ρ : Rho) (w : World) (fr : Frame) (L : List Nat) (listed : Array Bool) (pend : List Pn) (Tm : Abs.T AVal),
  top = true → okT (items ops.toList) (2 ^ ops.size - 1) t top done = true →
  DS P ops w0 B env k mb ρb csb tmps0 m tmps ds up done cks cs ρ w fr L listed pend Tm →
  Res P w0 B ρb env csb mb (lone fr cs w) (drawGo P fl rec env ops.toList k tmps0 t cks tmps ds up m)
theorem drawGo_fin (cks : List Ck) : drawGo P fl rec env ops.toList k tmps0 .fin cks tmps ds up m = rec env k tmps ds .run up m := rfl
theorem drawGo_light (p : PItem) (r : PTree) (cks : List Ck) : drawGo P fl rec env ops.toList k tmps0 (.light p r) cks tmps ds up m = (match gd ops.toList tmps p.o.guard with
   | some true => lightR env p (drawGo P fl rec env ops.toList k tmps0 r) cks tmps ds up m (aop P tmps m p.o.op)
   | some false => drawGo P fl rec env ops.toList k tmps0 r cks (setDst env.nt tmps undefA p.o.dst) ds up m
   | none => .bad "guard") := rfl
theorem drawGo_heavy (p : PItem) (r : PTree) (cks : List Ck) : drawGo P fl rec env ops.toList k tmps0 (.heavy p r) cks tmps ds up m = (match gd ops.toList tmps p.o.guard with
   | some true => operR P fl rec env (fun c up m => rec env k (poisonDsts tmps0 env.nt ops.toList) ds (.panicking c) up m) p.o.dst (behindR P p (drawGo P fl rec env ops.toList k tmps0 r) cks) tmps ds up m p.o.op
   | some false => drawGo P fl rec env ops.toList k tmps0 r cks (setDst env.nt tmps undefA p.o.dst) ds up m
   | none => .bad "guard") := rfl
theorem drawGo_either (a b : PTree) (cks : List Ck) : drawGo P fl rec env ops.toList k tmps0 (.either a b) cks tmps ds up m = .alt (drawGo P fl rec env ops.toList k tmps0 a cks tmps ds up m) (drawGo P fl rec env ops.toList k tmps0 b cks tmps ds up m) := rfl
theorem pick_branch {wb : Wo} {M : Machine} : ∀ (t : PTree) (x : PItem × PTree), x ∈ branchesT t → Res P wb B ρb env csb mb M (drawGo P fl rec env ops.toList k tmps0 (.heavy x.1 x.2) cks tmps ds up m) →
  Res P wb B ρb env csb mb M (drawGo P fl rec env ops.toList k tmps0 t cks tmps ds up m)
 | .fin, x, hx, _ => by cases hx
 | .light _ _, x, hx, _ => by cases hx
 | .heavy p r, x, hx, h => by
  simp only [branchesT, List.mem_singleton] at hx
  subst hx
  exact h
 | .either a b, x, hx, h => by
  rw [drawGo_either]
  rcases List.mem_append.1 hx with hx | hx
  ·exact .inl (pick_branch a x hx h)
  ·exact .inr (pick_branch b x hx h)
theorem unwanted_step (hP : PlanOK ops its0) {p : PItem} {r : PTree} (hr : FullT P ops w0 B fl rec env k mb ρb csb tmps0 r) {ρ : Rho} {w : World} {fr : Frame} {L : List Nat} {listed : Array Bool} {pend : List Pn} {Tm : Abs.T AVal}
  (hp : ops[p.ix]? = some p.o ∧ (befores ops.toList)[p.ix]? = some p.mask ∧ p.kind = okind p.o.op) (hfit : fitP done p = true) (hok : okT (items ops.toList) (2 ^ ops.size - 1) r true (done.lor (Nat.pow 2 p.ix)) = true)
  (hg : gd ops.toList tmps p.o.guard = some false) (hD : DS P ops w0 B env k mb ρb csb tmps0 m tmps ds up done cks cs ρ w fr L listed pend Tm) :
  Res P w0 B ρb env csb mb (lone fr cs w) (drawGo P fl rec env ops.toList k tmps0 r cks (setDst env.nt tmps undefA p.o.dst) ds up m) := by
 obtain ⟨o1, o3⟩ := fitP_spec hfit
 refine hr true _ cks _ m ds up cs ρ w fr L listed (⟨p, tmps, undefA, false, m⟩ :: pend) Tm rfl hok ⟨?_, ?_, hD.fr, hD.up, hD.ord, hD.le, hD.keeps, hD.same⟩
 ·exact hD.inv.join hP hp o1 o3 hg (fun _ => rfl) (fun h => by cases h) (Ext.refl m) (Nat.le_refl _) (fun _ _ => rfl) (fun _ h => h) (fun h => by cases h) (fun h => by cases h) (fun h => by cases h)
 ·refine hD.mr.unban ?_
  rintro r (h | ⟨c, hc, h1, h2⟩)
  ·exact .inl h
  ·rcases List.mem_cons.1 hc with rfl | hc
   ·cases h1
   ·exact .inr ⟨c, hc, h1, h2⟩
theorem heavy_step (hnames : NamesOK P) (htb : TbOK P fl) (hrec : ∀ w0, Sound P w0 B rec) (hP : PlanOK ops its0) {p : PItem} {r : PTree} (hr : FullT P ops w0 B fl rec env k mb ρb csb tmps0 r) {ρ : Rho} {w : World} {fr : Frame} {L : List Nat} {listed : Array Bool} {pend : List Pn} {Tm : Abs.T AVal}
  (hp : ops[p.ix]? = some p.o ∧ (befores ops.toList)[p.ix]? = some p.mask ∧ p.kind = okind p.o.op) (hfit : fitP done p = true) (hok : okT (items ops.toList) (2 ^ ops.size - 1) r true (done.lor (Nat.pow 2 p.ix)) = true)
  (hg : gd ops.toList tmps p.o.guard = some true) (hD : DS P ops w0 B env k mb ρb csb tmps0 m tmps ds up done cks cs ρ w fr (p.ix :: L) listed pend Tm) :
  Res P w0 B ρb env csb mb (lone fr cs w) (operR P fl rec env (fun c up m => rec env k (poisonDsts tmps0 env.nt ops.toList) ds (.panicking c) up m) p.o.dst (behindR P p (drawGo P fl rec env ops.toList k tmps0 r) cks) tmps ds up m p.o.op) := by
 obtain ⟨o1, o3⟩ := fitP_spec hfit
 have hm : fr.mode = .run := hD.fr.mode
 have hready := ready_mask hD.inv.closed hD.ord.1 hp.2.1
 have hread : ∀ s, Rd ops p.o s → getT Tm s = getT tmps s := by
  intro s hs
  refine hD.inv.tr s fun c hc hw => ?_
  have hne : c.it.ix ≠ p.ix := by
   intro e
   have := hD.inv.pdone c hc
   rw [e, o3] at this; cases this
  rcases reads_spec hP (hD.inv.it c hc).1 hp.1 hne hw.1 hs with ⟨mk, h3, h4⟩ | ⟨mk, h3, h4⟩
  ·rw [hp.2.1] at h3; cases h3
   have := hready _ h4
   rw [hD.inv.pnl c hc] at this; cases this
  ·rw [(hD.inv.it c hc).2.1] at h3; cases h3
   have := hD.inv.pmask c hc _ h4
   rw [o3] at this; cases this
 have hw : Region.wanted p.o (yielded ops fr.tmps) = true := gd_sound hD.fr (by rw [gd_congr hread]; exact hg)
 have hsame : SameAt tmps Tm p.o.op.operands := by
  intro x hx
  cases x with
  | tmp s => exact (hread s (.inl (mem_opTmps.2 hx))).symm
  | _ => rfl
 rw [operR_congr (T := tmps) (T' := Tm) (panicked' := fun c up m => rec env k (poisonDsts tmps0 env.nt ops.toList) ds (.panicking c) up m)
  (cont' := fun t ds up m => behindR P p (drawGo P fl rec env ops.toList k tmps0 r) cks (setDst env.nt tmps (match p.o.dst with | some d => getT t d | none => .poison) p.o.dst) ds up m) p.o.op hsame
  (fun v ds up m => by rw [lastV_eq]) (fun _ _ _ => rfl)]
 refine operR_sound (wb := w0) (ρb := ρb) (csb := csb) (mb := mb) hnames (hrec _) (call_sound htb (hrec _)) hD.mr hD.fr hD.up hp.1 hw ?_ ?_
 ·intro ρ1 m1 w1 fr1 v ds1 up1 cs1 hle hk hsc h3 hF1 hU1
  dsimp only
  rw [lastV_eq]
  show Res P w0 B ρb env csb mb (lone fr1 cs1 w1) (bif ckAll P p.mask m1 cks then drawGo P fl rec env ops.toList k tmps0 r (leftCk p.mask cks) (setDst env.nt tmps v p.o.dst) ds1 up1 m1 else .bad p.o.pos)
  cases hck : ckAll P p.mask m1 cks with
  | false => exact trivial
  | true =>
   rw [cond_true]
   exact hr true _ _ _ m1 ds1 up1 cs1 ρ1 w1 fr1 L _ pend _ rfl hok ⟨hD.inv.heavy hP hp hD.ord.1 o3 hk.next hck v, h3, hF1, hU1, hD.ord.2, hD.le.trans hle, hD.keeps.trans hk, hD.same.trans hsc⟩
 ·intro ρ1 m1 w1 fr1 c up1 cs1 hle hk hsc h3 hF1 hU1
  have hT : TR ρ1 (poisonDsts tmps0 env.nt ops.toList) fr1.tmps := by
   intro j
   rcases getT_poisonDsts (nt := env.nt) (t := tmps0) ops.toList j with h4 | ⟨h4, h5⟩
   ·rw [h4]; simp [R]
   ·rw [h4, ← hD.inv.t0 j h5, ← hD.inv.tr j ?_]
    ·exact hF1.tmps j
    ·intro c hc hw
     exact h5 hw.2 c.it.o (List.mem_of_getElem? (by simpa using (hD.inv.it c hc).1)) hw.1
  exact Res.later (hD.le.trans hle) (hD.keeps.trans hk) (hD.same.trans hsc) (hrec w0 env k _ ds _ up1 m1 ρ1 w1 fr1 cs1 (h3.unban (N' := w0.N) fun r hr => .inl hr) (hF1.panicking.retmps hT) hU1)
theorem heavy_place (hnames : NamesOK P) (htb : TbOK P fl) (hrec : ∀ w0, Sound P w0 B rec) (hP : PlanOK ops its0) (hN0 : ∀ r, w0.N r → r < mb.next) {t : PTree} (ht : (∃ p r, t = .heavy p r) ∨ ∃ a b, t = .either a b)
  (hit : ∀ x ∈ branchesT t, ops[x.1.ix]? = some x.1.o ∧ (befores ops.toList)[x.1.ix]? = some x.1.mask ∧ x.1.kind = okind x.1.o.op) (hfull : ∀ x ∈ branchesT t, FullT P ops w0 B fl rec env k mb ρb csb tmps0 x.2) :
  FullT P ops w0 B fl rec env k mb ρb csb tmps0 t := by
 intro top done cks tmps m ds up cs ρ w fr L listed pend Tm htop hok hD
 subst htop
 have hbr := okT_branches t true done hok
 have hwhole := okT_whole hok ht
 by_cases hun : ∃ x ∈ branchesT t, gd ops.toList tmps x.1.o.guard ≠ some true
 ·obtain ⟨x, hx, hg⟩ := hun
  refine pick_branch t x hx ?_
  rw [drawGo_heavy]
  cases hg' : gd ops.toList tmps x.1.o.guard with
  | none => exact trivial
  | some b =>
   cases b with
   | true => exact absurd hg' hg
   | false => exact unwanted_step hP (hfull x hx) (hit x hx) (hbr x hx).1 (hbr x hx).2 hg' hD
 ·refine flush hP hN0 ?_ L ρ w fr listed pend Tm hD
  intro ρ w fr L listed pend Tm hD hhead
  cases L with
  | nil =>
   exfalso
   have hall := all_listed hP.edges hD.inv.size hD.ord
   have : ∃ x, x ∈ branchesT t := okT_some hok ht
   obtain ⟨x, hx⟩ := this
   have h1 := hall x.1.ix (Array.getElem?_eq_some_iff.1 (hit x hx).1).1
   have h2 := hD.inv.ld _ h1
   rw [(fitP_spec (hbr x hx).1).2] at h2; cases h2
  | cons i L =>
   obtain ⟨h1, h2⟩ := ready_not hD.inv.size hD.ord.1
   obtain ⟨q, hq, hqi⟩ := items_all h2
   have hqs := items_mem hq
   have hnd : done.testBit i = false := by
    cases hd : done.testBit i with
    | false => rfl
    | true =>
     exfalso
     rcases hD.inv.dl i hd with h4 | ⟨c, hc, e⟩
     ·rw [h1] at h4; cases h4
     ·exact hhead c hc (by simp [e])
   have hrd : readyP done q = true := by
    rw [readyP_iff]
    intro b hb
    exact hD.inv.ld _ (ready_mask hD.inv.closed hD.ord.1 (mk := q.mask) (by rw [← hqi]; exact hqs.2.1) b hb)
   rcases hwhole q hq with h3 | h3 | ⟨x, hx, h3⟩
   ·rw [hqi, hnd] at h3; cases h3
   ·rw [hrd] at h3; cases h3
   ·have hxi : i = x.1.ix := by rw [h3, hqi]
    subst hxi
    refine pick_branch t x hx ?_
    rw [drawGo_heavy]
    have hg : gd ops.toList tmps x.1.o.guard = some true := Classical.byContradiction fun hne => hun ⟨x, hx, hne⟩
    rw [hg]
    exact heavy_step hnames htb hrec hP (hfull x hx) (hit x hx) (hbr x hx).1 (hbr x hx).2 hg hD
theorem full_all (hnames : NamesOK P) (htb : TbOK P fl) (hrec : ∀ w0, Sound P w0 B rec) (hP : PlanOK ops its0) (hN0 : ∀ r, w0.N r → r < mb.next) :
  ∀ t : PTree, (∀ p ∈ itemsT t, ops[p.ix]? = some p.o ∧ (befores ops.toList)[p.ix]? = some p.mask ∧ p.kind = okind p.o.op) →
   FullT P ops w0 B fl rec env k mb ρb csb tmps0 t ∧ (∀ x ∈ branchesT t, (ops[x.1.ix]? = some x.1.o ∧ (befores ops.toList)[x.1.ix]? = some x.1.mask ∧ x.1.kind = okind x.1.o.op) ∧ FullT P ops w0 B fl rec env k mb ρb csb tmps0 x.2) := by
 intro t
 induction t with
 | fin =>
  intro _
  refine ⟨?_, fun x hx => by cases hx⟩
  intro top done cks tmps m ds up cs ρ w fr L listed pend Tm _ hok hD
  refine flush hP hN0 ?_ L ρ w fr listed pend Tm hD
  intro ρ w fr L listed pend Tm hD hhead
  rw [drawGo_fin]
  have hdone := okT_fin hok
  cases L with
  | cons i L =>
   exfalso
   obtain ⟨h1, h2⟩ := ready_not hD.inv.size hD.ord.1
   rcases hD.inv.dl i (by rw [hdone]; exact full_bit h2) with h4 | ⟨c, hc, e⟩
   ·rw [h1] at h4; cases h4
   ·exact hhead c hc (by simp [e])
  | nil =>
   have hall := all_listed hP.edges hD.inv.size hD.ord
   have hpend : pend = [] := by
    cases pend with
    | nil => rfl
    | cons c rest =>
     have h1 := hD.inv.pnl c (List.mem_cons_self ..)
     have h2 := hall c.it.ix (Array.getElem?_eq_some_iff.1 (hD.inv.it c (List.mem_cons_self ..)).1).1
     rw [h1] at h2; cases h2
   subst hpend
   have hm : fr.mode = .run := hD.fr.mode
   have ht : fr.todo = .inRegion ops [] :: k.map AItem.toItem := hD.fr.todo rfl
   have hT : TR ρ tmps fr.tmps := fun j => by rw [← hD.inv.tr j fun c hc => (by cases hc)]; exact hD.fr.tmps j
   refine Res.later hD.le hD.keeps hD.same (go_on (hrec w0) (hD.mr.unban (N' := w0.N) fun r hr => .inl hr) ((hD.fr.retmps hT).goto _) hD.up (by simp [stepG, stepG.exec, hm, ht]))
 | light p r ih =>
  intro hit
  have hp := hit p (List.mem_cons_self ..)
  have hr := (ih fun q hq => hit q (List.mem_cons_of_mem _ hq)).1
  refine ⟨?_, fun x hx => by cases hx⟩
  intro top done cks tmps m ds up cs ρ w fr L listed pend Tm htop hok hD
  obtain ⟨hfit, hlt3, o4⟩ := okT_light hok
  obtain ⟨o1, o3⟩ := fitP_spec hfit
  rw [drawGo_light]
  cases hg : gd ops.toList tmps p.o.guard with
  | none => exact trivial
  | some b =>
   cases b with
   | false => exact unwanted_step hP hr hp hfit o4 hg hD
   | true =>
    dsimp only
    cases ha : aop P tmps m p.o.op with
    | val v m' =>
     show Res P w0 B ρb env csb mb (lone fr cs w) (bif p.kind.beq 2 || m'.next.beq m.next then drawGo P fl rec env ops.toList k tmps0 r (addCk tmps p v m' cks) (setDst env.nt tmps v p.o.dst) ds up m' else .bad "a light operation made something")
     cases hc : (p.kind.beq 2 || m'.next.beq m.next) with
     | false => exact trivial
     | true =>
      rw [cond_true]
      by_cases hk : p.kind < 2
      ·have hne : p.kind.beq 2 = false := nat_beq_f.2 (by omega)
       rw [hne, Bool.false_or, nat_beq] at hc
       have hm' := (aop_sees (P := P) (m := m) tmps p.o.op (by rw [← hp.2.2]; exact hk) _ _ ha hc).1
       subst hm'
       refine hr true _ _ _ _ ds up cs ρ w fr L listed (⟨p, tmps, v, true, m'⟩ :: pend) Tm rfl o4 ⟨?_, ?_, hD.fr, hD.up, hD.ord, hD.le, hD.keeps, hD.same⟩
       ·refine hD.inv.join hP hp o1 o3 hg (fun h => by cases h) (fun _ => hlt3) (Ext.refl _) (Nat.le_refl _) (fun _ _ => rfl) ?_ (fun _ _ => ha) ?_ (fun _ h => by omega)
        ·intro c hc
         unfold addCk
         split
         ·exact List.mem_cons_of_mem _ hc
         ·exact List.mem_cons_of_mem _ hc
         ·exact hc
        ·intro _ h1
         unfold addCk
         rw [h1]
         exact List.mem_cons_self ..
       ·refine hD.mr.unban ?_
        rintro r (h | ⟨c, hc, h1, h2, h3⟩)
        ·exact .inl h
        ·rcases List.mem_cons.1 hc with rfl | hc
         ·have h2' : p.kind = 2 := h2
          omega
         ·exact .inr ⟨c, hc, h1, h2, h3⟩
      ·have hk2 : p.kind = 2 := by omega
       obtain ⟨hmade, o, rfl, hob⟩ := aop_makes (P := P) (m := m) tmps p.o.op (by rw [← hp.2.2]; exact hk2) _ _ ha
       have hext : Ext m (m.new o) := ⟨fun q o' hq => by
        rw [new_heap, T.get_set_other _ _ (Nat.ne_of_gt (hD.mr.hlt hq))]
        exact hq, new_gl _ _⟩
       refine hr true _ _ _ _ ds up cs ρ w fr L listed (⟨p, tmps, v, true, m⟩ :: pend) Tm rfl o4 ⟨?_, ?_, hD.fr, hD.up, hD.ord, hD.le, hD.keeps.trans Keeps.new, hD.same⟩
       ·refine hD.inv.join hP hp o1 o3 hg (fun h => by cases h) (fun _ => hlt3) hext (by rw [new_next]; omega) ?_ ?_ (fun _ h => by omega) (fun _ h => by omega) (fun _ _ => ⟨ha, by rw [new_next]; omega, ?_⟩)
        ·intro q hq
         rw [new_heap, T.get_set_other _ _ (Nat.ne_of_gt hq)]
        ·intro c hc
         unfold addCk
         split
         ·exact List.mem_cons_of_mem _ hc
         ·exact List.mem_cons_of_mem _ hc
         ·exact hc
        ·unfold addCk
         rw [hk2, hmade]
         exact List.mem_cons_self ..
       ·refine ((hD.mr.hold hob).reban (N := Nb w0.N (⟨p, tmps, v, true, m⟩ :: pend)) ?_)
        rintro r (h | ⟨c, hc, h1, h2, h3⟩)
        ·have := hD.mr.ban r (.inl h)
         rw [new_next]
         exact ⟨Nat.lt_succ_of_lt this.1, this.2⟩
        ·rcases List.mem_cons.1 hc with rfl | hc
         ·have h3' : r = m.next := h3
          subst h3'
          rw [new_next]
          exact ⟨Nat.lt_succ_self _, hD.mr.dom _ (Nat.le_refl _)⟩
         ·have := hD.mr.ban r (.inr ⟨c, hc, h1, h2, h3⟩)
          rw [new_next]
          exact ⟨Nat.lt_succ_of_lt this.1, this.2⟩
    | _ => exact trivial
 | heavy p r ih =>
  intro hit
  have hp := hit p (List.mem_cons_self ..)
  have hr := (ih fun q hq => hit q (List.mem_cons_of_mem _ hq)).1
  have hb : ∀ x ∈ branchesT (.heavy p r), (ops[x.1.ix]? = some x.1.o ∧ (befores ops.toList)[x.1.ix]? = some x.1.mask ∧ x.1.kind = okind x.1.o.op) ∧ FullT P ops w0 B fl rec env k mb ρb csb tmps0 x.2 := by
   intro x hx
   simp only [branchesT, List.mem_singleton] at hx
   subst hx
   exact ⟨hp, hr⟩
  exact ⟨heavy_place hnames htb hrec hP hN0 (.inl ⟨p, r, rfl⟩) (fun x hx => (hb x hx).1) (fun x hx => (hb x hx).2), hb⟩
 | either a b iha ihb =>
  intro hit
  have ha := (iha fun q hq => hit q (List.mem_append.2 (.inl hq))).2
  have hb := (ihb fun q hq => hit q (List.mem_append.2 (.inr hq))).2
  have hab : ∀ x ∈ branchesT (.either a b), (ops[x.1.ix]? = some x.1.o ∧ (befores ops.toList)[x.1.ix]? = some x.1.mask ∧ x.1.kind = okind x.1.o.op) ∧ FullT P ops w0 B fl rec env k mb ρb csb tmps0 x.2 := by
   intro x hx
   rcases List.mem_append.1 hx with hx | hx
   ·exact ha x hx
   ·exact hb x hx
  exact ⟨heavy_place hnames htb hrec hP hN0 (.inr ⟨a, b, rfl⟩) (fun x hx => (hab x hx).1) (fun x hx => (hab x hx).2), hab⟩
theorem draw_ok (hnames : NamesOK P) (htb : TbOK P fl) (hmix : P.follows .mixedOrders = true) (B : Nat) (rec : Run) (hrec : ∀ w0, Sound P w0 B rec) (w0 : Wo) : DrawOK P w0 B fl rec := by
 intro env id ops k ρ m w fr tmps ds up cs h hF hU
 cases hp : plan ops.toList with
 | none => exact trivial
 | some its =>
  have hP := plan_spec hp
  have hm : fr.mode = .run := hF.mode
  have ht : fr.todo = .code (.region id ops true) :: k.map AItem.toItem := hF.todo rfl
  have hstep : step P (lone fr cs w) = .next (lone { fr with todo := .inRegion ops (Region.linearise .any ops (w.tape w.drawn (.order fr.fn id))) :: k.map AItem.toItem } cs w.drew) := by
   refine step_lone_go ?_
   simp [stepG, stepG.exec, hm, ht, choose, Sem.run, Question.forced, Question.cut, Region.schedule, hmix]
  refine Res.steps (.one hstep) ?_
  show Res P w0 B ρ env cs m _ (drawGo P fl rec env ops.toList k tmps its [] tmps ds up m)
  refine (full_all (mb := m) (ρb := ρ) (csb := cs) hnames htb hrec hP (fun r hr => (h.ban r hr).1) its hP.item).1 true 0 [] tmps m ds up cs ρ w.drew _ (Region.linearise .any ops (w.tape w.drawn (.order fr.fn id))) (Array.replicate ops.size false) [] tmps rfl hP.ord ?_
  exact ⟨Inv.start tmps m, (h.drew).reban (fun r hr => by
   rcases hr with hr | ⟨c, hc, _⟩
   ·exact h.ban r hr
   ·cases hc), hF.goto _, hU, ord_start ops _, Rho.le.refl ρ, Keeps.refl m, SameCs.refl _ _⟩
end
open Go.RowKit (Below)
noncomputable section
def cAt : List Bool → Code → Code
 | [], c => c
 | b :: p, c => match c with
  | .seq x y => cAt p (bif b then y else x)
  | .cond _ x y => cAt p (bif b then y else x)
  | .rangeFunc _ _ x y => cAt p (bif b then y else x)
  | .block _ x => cAt p x
  | .loop x => cAt p x
  | .scope x => cAt p x
  | c => c
def bodyOf (P : Program) (g : FuncId) : Code := match P.funcs[g]? with
 | some fn => (match fn.body with | some c => c | none => .skip)
 | none => .skip
def envOf (P : Program) (g : FuncId) : Env := ⟨g, (match P.funcs[g]? with | some fn => fn.ntmps | none => 0), false, none⟩
def isTrueR : RR → Bool
 | .ret (.lit (.bool true)) _ _ => true
 | _ => false
def runTop (P : Program) (fl : Fl) (n : Nat) (g : FuncId) (K : Run) (j : Nat) : Run :=
 Nat.rec K (fun _ ih => bodyGo P fl (fun env => bif env.fn.beq g then ih env else run P fl n env)) j
def keepHeap (h : T AObj) (l : List Nat) : T AObj := List.rec .e (fun r _ ih => match h.get r with | some o => ih.set r o | none => ih) l
def keepFams (h : T (List Nat)) (l : List Nat) : T (List Nat) := List.rec .e (fun r _ ih => match h.get r with | some o => ih.set r o | none => ih) l
def keepTmps (t : T AVal) (l : List Nat) : T AVal := List.rec .e (fun r _ ih => match t.get r with | some o => ih.set r o | none => ih) l
def keepM (l lf : List Nat) (m : Mem) : Mem := match m with | ⟨h, n, fs, lo, d, g⟩ => ⟨keepHeap h l, n, keepFams fs lf, lo, d, g⟩
theorem keepM_gl (l lf : List Nat) (m : Mem) : (keepM l lf m).gl = m.gl := by cases m; rfl
def famKept (lf : List Nat) (m : Mem) : Option AObj → Bool
 | some (.row _ _ f _) => hasN lf f || (match m.fams.get f with | some _ => false | none => true)
 | _ => true
def keepOK (lf : List Nat) (m : Mem) (l : List Nat) : Bool := List.rec (m.lo.beq 0) (fun r _ ih => bif famKept lf m (m.heap.get r) then ih else false) l
def keepS (l lf lt : List Nat) (K : Run) : Run := fun env todo tmps ds mode up m => bif keepOK lf m l then K env todo (keepTmps tmps lt) ds mode up (keepM l lf m) else .bad "keep"
end
theorem getT_keep (t : T AVal) : ∀ (l : List Nat) (j : Nat), getT (keepTmps t l) j = getT t j ∨ getT (keepTmps t l) j = .poison
 | [], j => by right; show getT .e j = _; unfold getT; rw [T.get_e]
 | r :: l, j => by
  have e : keepTmps t (r :: l) = (match t.get r with | some o => (keepTmps t l).set r o | none => keepTmps t l) := rfl
  rw [e]
  cases h : t.get r with
  | none => exact getT_keep t l j
  | some o =>
   dsimp only
   rw [getT_set]
   by_cases hj : r = j
   ·subst hj
    rw [if_pos rfl]
    left; unfold getT; rw [h]
   ·rw [if_neg hj]; exact getT_keep t l j
theorem get_keepHeap (h : T AObj) : ∀ (l : List Nat) (q : Nat) (o : AObj), (keepHeap h l).get q = some o → h.get q = some o ∧ q ∈ l
 | [], q, o, e => by have e' : (T.e : T AObj).get q = some o := e; rw [T.get_e] at e'; cases e'
 | r :: l, q, o, e => by
  have e0 : keepHeap h (r :: l) = (match h.get r with | some o => (keepHeap h l).set r o | none => keepHeap h l) := rfl
  rw [e0] at e
  cases hr : h.get r with
  | none => rw [hr] at e; obtain ⟨a, b⟩ := get_keepHeap h l q o e; exact ⟨a, List.mem_cons_of_mem _ b⟩
  | some o' =>
   rw [hr] at e
   dsimp only at e
   rw [T.get_set] at e
   by_cases hq : r = q
   ·subst hq
    rw [if_pos rfl] at e
    cases e
    exact ⟨hr, List.mem_cons_self ..⟩
   ·rw [if_neg hq] at e
    obtain ⟨a, b⟩ := get_keepHeap h l q o e
    exact ⟨a, List.mem_cons_of_mem _ b⟩
theorem get_keepFams (h : T (List Nat)) : ∀ (l : List Nat) (q : Nat), (keepFams h l).get q = h.get q ∨ ((keepFams h l).get q = none ∧ q ∉ l)
 | [], q => by right; exact ⟨T.get_e _, by simp⟩
 | r :: l, q => by
  have e0 : keepFams h (r :: l) = (match h.get r with | some o => (keepFams h l).set r o | none => keepFams h l) := rfl
  rw [e0]
  by_cases hq : r = q
  ·subst hq
   left
   cases hr : h.get r with
   | none =>
    dsimp only
    rcases get_keepFams h l r with a | ⟨a, b⟩
    ·rw [a, hr]
    ·exact a
   | some o' => dsimp only; rw [T.get_set_same]
  ·have step : (match h.get r with | some o => (keepFams h l).set r o | none => keepFams h l).get q = (keepFams h l).get q := by
    cases h.get r with
    | none => rfl
    | some o' => exact T.get_set_other _ _ hq
   rw [step]
   rcases get_keepFams h l q with a | ⟨a, b⟩
   ·exact .inl a
   ·exact .inr ⟨a, fun hm => by rcases List.mem_cons.1 hm with e | e; exact hq e.symm; exact b e⟩
theorem hasN_mem {l : List Nat} {k : Nat} (h : hasN l k = true) : k ∈ l := by
 induction l with
 | nil => cases h
 | cons x l ih =>
  have h' : (bif x.beq k then true else hasN l k) = true := h
  cases hx : x.beq k with
  | true => rw [nat_beq] at hx; subst hx; exact List.mem_cons_self ..
  | false => rw [hx] at h'; exact List.mem_cons_of_mem _ (ih h')
theorem keepOK_cons (lf : List Nat) (m : Mem) (r : Nat) (l : List Nat) : keepOK lf m (r :: l) = bif famKept lf m (m.heap.get r) then keepOK lf m l else false := rfl
theorem keepOK_spec {lf : List Nat} {m : Mem} : ∀ {l : List Nat}, keepOK lf m l = true → m.lo = 0 ∧ ∀ r ∈ l, ∀ e cs f p, m.heap.get r = some (.row e cs f p) → f ∈ lf ∨ m.fams.get f = none
 | [], h => ⟨nat_beq.1 h, fun r hr => by cases hr⟩
 | a :: l, h => by
  rw [keepOK_cons] at h
  cases hf : famKept lf m (m.heap.get a) with
  | false => rw [hf] at h; cases h
  | true =>
   rw [hf, cond_true] at h
   obtain ⟨h1, h2⟩ := keepOK_spec h
   refine ⟨h1, fun r hr e cs f p ho => ?_⟩
   rcases List.mem_cons.1 hr with rfl | hr
   ·rw [ho] at hf
    have hf' : (hasN lf f || (match m.fams.get f with | some _ => false | none => true)) = true := hf
    rw [Bool.or_eq_true] at hf'
    rcases hf' with h3 | h3
    ·exact .inl (hasN_mem h3)
    ·right
     cases hm : m.fams.get f with
     | none => rfl
     | some l => rw [hm] at h3; cases h3
   ·exact h2 r hr e cs f p ho
section
variable {P : Program} {w0 : Wo} {B : Nat} {ρ : Rho} {m : Mem} {w : World} {fl : Fl}
theorem MR.keep (h : MR w0 B ρ m w) {l lf : List Nat} (hk : keepOK lf m l = true) : MR w0 B ρ (keepM l lf m) w := by
 obtain ⟨_, hrow⟩ := keepOK_spec hk
 have e1 : (keepM l lf m).heap = keepHeap m.heap l := by cases m; rfl
 have e2 : (keepM l lf m).next = m.next := by cases m; rfl
 have e3 : (keepM l lf m).fams = keepFams m.fams lf := by cases m; rfl
 have hin : ∀ {q o}, (keepM l lf m).heap.get q = some o → m.heap.get q = some o ∧ q ∈ l := by
  intro q o hq
  rw [e1] at hq
  exact get_keepHeap _ _ _ _ hq
 have hfam : ∀ {q e cs f p}, (keepM l lf m).heap.get q = some (.row e cs f p) → (keepM l lf m).fams.get f = m.fams.get f := by
  intro q e cs f p hq
  obtain ⟨h1, h2⟩ := hin hq
  rw [e3]
  rcases get_keepFams m.fams lf f with a | ⟨a, b⟩
  ·exact a
  ·rcases hrow q h2 e cs f p h1 with c | c
   ·exact absurd c b
   ·rw [a, c]
 refine ⟨?_, ?_, ?_, ?_, ?_, ?_, ?_, ?_, h.below, h.base, fun q hq => by rw [e2]; exact h.ban q hq, h.globs (keepM_gl _ _ _) (Rho.le.refl ρ)⟩
 ·intro q o p h1 h2; exact h.obj q o p (hin h1).1 h2
 ·intro q q' o1 o2 p1 p2 hne h1 h2 h3 h4 h5; exact h.inj q q' o1 o2 p1 p2 hne (hin h1).1 (hin h2).1 h3 h4 h5
 ·intro q hq; rw [e2] at hq; exact h.dom q hq
 ·intro q hq
  rw [e2] at hq
  cases hg : (keepM l lf m).heap.get q with
  | none => rfl
  | some o => have := (hin hg).1; rw [h.hdom q hq] at this; cases this
 ·intro f l' hl
  rw [e3] at hl
  rw [e2]
  rcases get_keepFams m.fams lf f with a | ⟨a, _⟩
  ·rw [a] at hl; exact h.famlt f l' hl
  ·rw [a] at hl; cases hl
 ·intro q e cs f p h1; rw [e2]; exact h.rowfam q e cs f p (hin h1).1
 ·intro q e cs f p l' h1 h2; rw [hfam h1] at h2; exact h.fam q e cs f p l' (hin h1).1 h2
 ·intro q q' e e' cs cs' f p p' h1 h2 h3; rw [hfam h1] at h3; exact h.lone q q' e e' cs cs' f p p' (hin h1).1 (hin h2).1 h3
theorem keepS_sound {l lf lt : List Nat} {K : Run} (hK : Sound P w0 B K) : Sound P w0 B (keepS l lf lt K) := by
 intro env todo tmps ds mode up m ρ w fr cs h hF hU
 unfold keepS
 cases hk : keepOK lf m l with
 | false => exact trivial
 | true =>
  rw [cond_true]
  have hT : TR ρ (keepTmps tmps lt) fr.tmps := by
   intro j
   rcases getT_keep tmps lt j with e | e
   ·rw [e]; exact hF.tmps j
   ·rw [e]; simp [R]
  have e2 : (keepM l lf m).next = m.next := by cases m; rfl
  have e4 : (keepM l lf m).lo = m.lo := by cases m; rfl
  have e5 : (keepM l lf m).dirty = m.dirty := by cases m; rfl
  refine Res.later (Rho.le.refl ρ) ⟨e4, by rw [e2]; exact Nat.le_refl _, fun e => by rw [← e5]; exact e, fun _ _ r hr => ?_⟩ (SameCs.refl _ _) (hK env todo _ ds mode up _ ρ w fr cs (h.keep hk) (hF.retmps hT) hU)
  rw [(keepOK_spec hk).1] at hr
  omega
theorem run_ok (hnames : NamesOK P) (htb : TbOK P fl) (hmix : P.follows .mixedOrders = true) (n : Nat) (w0 : Wo) : Sound P w0 B (run P fl n) :=
 run_sound hnames htb (fun rec hrec w0 => draw_ok hnames htb hmix B rec hrec w0) n w0
theorem runTop_sound (hnames : NamesOK P) (htb : TbOK P fl) (hmix : P.follows .mixedOrders = true) {n : Nat} {g : FuncId} {K : Run} (hK : ∀ w0, Sound P w0 B K) : ∀ (j : Nat) (w0 : Wo), Sound P w0 B (runTop P fl n g K j) := by
 intro j
 induction j with
 | zero => exact hK
 | succ j ih =>
  intro w0
  have hrec : ∀ w0, Sound P w0 B (fun env => bif env.fn.beq g then runTop P fl n g K j env else run P fl n env) := by
   intro w0 env todo tmps ds mode up m ρ w fr cs h hF hU
   dsimp only
   cases env.fn.beq g with
   | true => exact ih w0 env todo tmps ds mode up m ρ w fr cs h hF hU
   | false => exact run_ok hnames htb hmix n w0 env todo tmps ds mode up m ρ w fr cs h hF hU
  exact body_sound hnames htb (hrec w0) (draw_ok hnames htb hmix B _ hrec w0)
theorem isTrueR_spec {r : RR} (h : isTrueR r = true) : ∃ up m, r = .ret (.lit (.bool true)) up m := by
 unfold isTrueR at h
 split at h
 ·exact ⟨_, _, rfl⟩
 ·cases h
theorem closed_by {Rn : Run} (hR : ∀ B w0, Sound P w0 B Rn) {f : FuncId} {v : Value} {up' : Chain} {m' : Mem}
  (e : callBody0 Rn false f [] [] mem0 P.funcs[f]? = .ret (.lit v) up' m') (w : World) : Calls P f #[] w fun e w' => e = .returned v ∧ Below w.heap.size w w' := by
 intro cs
 rcases callBody0_sound (hR w.heap.size ⟨w, fun _ => False⟩) (MR.empty w) (args := []) (xs := #[]) (by simp [RL]) false (up := []) (cs := cs) (fun e => by cases e) (f := f) with ⟨why, hb⟩ | ⟨fn, c, hf, hb, hr⟩
 ·rw [e] at hb; cases hb
 ·rw [e] at hr
  obtain ⟨_, ρ', w1, w', fr', cs', x, h1, h2, h3, h4, h5, h6, h7, h8, h9⟩ := hr
  obtain ⟨rfl, hm, hd, hfn, hres⟩ := h9 rfl
  have hcs := h5.1 rfl
  subst hcs
  simp only [R] at h4
  subst h4
  refine ⟨.returned x, w1, fr', ⟨rfl, h3.below⟩, h1, hfn, hm, hd, h7, hres⟩
end
noncomputable section
def pEq (a b : AVal) : Bool := match a with
 | .poison => isPoison b
 | a => aEq a b
def pEqs (a : List AVal) : List AVal → Bool :=
 List.rec (fun b => List.rec true (fun _ _ _ => false) b) (fun x _ ih b => List.rec false (fun y ys _ => bif pEq x y then ih ys else false) b) a
def oEq (a b : AObj) : Bool := match a, b with
 | .row e cs f p, .row e' cs' f' p' => e.1.beq e'.1 && e.2.beq e'.2 && f.beq f' && p.beq p' && pEqs cs cs'
 | .ro cs, .ro cs' => pEqs cs cs'
 | .map es c, .map es' c' => c.beq c' && entsEq es es'
 | _, _ => false
def optEq {α : Type} (f : α → α → Bool) (a b : Option α) : Bool := match a, b with
 | some a, some b => f a b
 | none, none => true
 | _, _ => false
def T.eqB {α : Type} (f : α → α → Bool) (t : T α) : T α → Bool :=
 T.rec (fun u => T.rec true (fun _ _ _ _ _ _ _ _ _ => false) u)
  (fun _ _ _ _ v ia ib ic id u => T.rec false (fun a b c d v' _ _ _ _ => bif optEq f v v' then (bif ia a then (bif ib b then (bif ic c then id d else false) else false) else false) else false) u) t
def glEq (a b : List (Nat × Nat)) : Bool := natsEq (mapL (·.1) a) (mapL (·.1) b) && natsEq (mapL (·.2) a) (mapL (·.2) b)
def bEq (a b : Bool) : Bool := bif a then b else !b
def memEq (m n : Mem) : Bool := match m, n with
 | ⟨h, x, f, lo, d, g⟩, ⟨h', x', f', lo', d', g'⟩ => x.beq x' && lo.beq lo' && bEq d d' && glEq g g' && T.eqB natsEq f f' && T.eqB oEq h h'
structure Ent where
 f : FuncId
 args : List AVal
 m : Mem
 r : RR
def tcOf (l : List Ent) (f : FuncId) (args : List AVal) (m : Mem) : Option RR :=
 List.rec none (fun e _ ih => bif e.f.beq f then (bif pEqs e.args args && memEq e.m m then some e.r else ih) else ih) l
def hpOf {α : Type} (l : List (Nat × α)) : T α := List.rec .e (fun p _ ih => ih.set p.1 p.2) l
def vI (n : Nat) : AVal := .lit (.int .i64 (.ofNat n))
def vN (n : Nat) : AVal := .lit (.int .i64 (.negSucc n))
def vZ : AVal := .lit (.slice none 0 0)
def vB (b : Bool) : AVal := .lit (.bool b)
def vS (r n : Nat) : AVal := .slice r 0 n n false
def vX (r n : Nat) : AVal := .slice r 0 n n true
def vP (r : Nat) : AVal := .ptr r 0
def oR (t q : Nat) (cs : List AVal) (f : Nat) : AObj := .row (t, q) cs f 0
end
theorem pEq_sound {a b : AVal} (h : pEq a b = true) : a = b := by
 unfold pEq at h
 split at h
 ·cases b <;> first | rfl | cases h
 ·exact aEq_sound _ _ h
theorem pEqs_sound : ∀ {a b : List AVal}, pEqs a b = true → a = b
 | [], [], _ => rfl
 | [], _ :: _, h => by cases h
 | _ :: _, [], h => by cases h
 | x :: xs, y :: ys, h => by
  have h' : (bif pEq x y then pEqs xs ys else false) = true := h
  cases hx : pEq x y with
  | false => rw [hx] at h'; cases h'
  | true => rw [hx] at h'; rw [pEq_sound hx, pEqs_sound (a := xs) h']
theorem oEq_sound {a b : AObj} (h : oEq a b = true) : a = b := by
 unfold oEq at h
 split at h
 ·rename_i e cs f p e' cs' f' p'
  simp only [Bool.and_eq_true, nat_beq] at h
  obtain ⟨⟨⟨⟨h1, h2⟩, h3⟩, h4⟩, h5⟩ := h
  obtain ⟨e1, e2⟩ := e; obtain ⟨e3, e4⟩ := e'
  dsimp only at h1 h2
  rw [h1, h2, h3, h4, pEqs_sound h5]
 ·rw [pEqs_sound h]
 ·simp only [Bool.and_eq_true, nat_beq] at h
  rw [h.1, entsEq_sound h.2]
 ·cases h
theorem optEq_sound {α : Type} {f : α → α → Bool} (hf : ∀ {a b}, f a b = true → a = b) {a b : Option α} (h : optEq f a b = true) : a = b := by
 unfold optEq at h
 split at h
 ·rw [hf h]
 ·rfl
 ·cases h
theorem T.eqB_sound {α : Type} {f : α → α → Bool} (hf : ∀ {a b}, f a b = true → a = b) : ∀ {t u : T α}, T.eqB f t u = true → t = u
 | .e, .e, _ => rfl
 | .e, .n .., h => by cases h
 | .n .., .e, h => by cases h
 | .n a b c d v, .n a' b' c' d' v', h => by
  have h' : (bif optEq f v v' then (bif T.eqB f a a' then (bif T.eqB f b b' then (bif T.eqB f c c' then T.eqB f d d' else false) else false) else false) else false) = true := h
  cases h1 : optEq f v v' with
  | false => rw [h1] at h'; cases h'
  | true =>
   rw [h1, cond_true] at h'
   cases h2 : T.eqB f a a' with
   | false => rw [h2] at h'; cases h'
   | true =>
    rw [h2, cond_true] at h'
    cases h3 : T.eqB f b b' with
    | false => rw [h3] at h'; cases h'
    | true =>
     rw [h3, cond_true] at h'
     cases h4 : T.eqB f c c' with
     | false => rw [h4] at h'; cases h'
     | true =>
      rw [h4, cond_true] at h'
      rw [optEq_sound hf h1, T.eqB_sound hf h2, T.eqB_sound hf h3, T.eqB_sound hf h4, T.eqB_sound hf h']
theorem glEq_sound : ∀ {a b : List (Nat × Nat)}, glEq a b = true → a = b := by
 intro a b h
 unfold glEq at h
 rw [Bool.and_eq_true, mapL_eq, mapL_eq, mapL_eq, mapL_eq] at h
 have h1 := natsEq_sound h.1
 have h2 := natsEq_sound h.2
 clear h
 induction a generalizing b with
 | nil => cases b with | nil => rfl | cons _ _ => cases h1
 | cons x a ih =>
  cases b with
  | nil => cases h1
  | cons y b =>
   obtain ⟨x1, x2⟩ := x; obtain ⟨y1, y2⟩ := y
   simp only [List.map_cons, List.cons.injEq] at h1 h2
   rw [h1.1, h2.1, ih h1.2 h2.2]
theorem memEq_sound {m n : Mem} (h : memEq m n = true) : m = n := by
 obtain ⟨a, b, c, d, e, g⟩ := m
 obtain ⟨a', b', c', d', e', g'⟩ := n
 unfold memEq at h
 dsimp only at h
 simp only [Bool.and_eq_true, nat_beq] at h
 obtain ⟨⟨⟨⟨⟨h1, h2⟩, h3⟩, h4⟩, h5⟩, h6⟩ := h
 have : e = e' := by cases e <;> cases e' <;> first | rfl | cases h3
 rw [h1, h2, this, glEq_sound h4, T.eqB_sound natsEq_sound h5, T.eqB_sound oEq_sound h6]
theorem tcOf_mem : ∀ {l : List Ent} {f : FuncId} {args : List AVal} {m : Mem} {r : RR}, tcOf l f args m = some r → ∃ e ∈ l, e.f = f ∧ e.args = args ∧ e.m = m ∧ e.r = r
 | [], _, _, _, _, h => by cases h
 | e :: l, f, args, m, r, h => by
  have h' : (bif e.f.beq f then (bif pEqs e.args args && memEq e.m m then some e.r else tcOf l f args m) else tcOf l f args m) = some r := h
  have next : tcOf l f args m = some r → ∃ x ∈ e :: l, x.f = f ∧ x.args = args ∧ x.m = m ∧ x.r = r := fun hh => by
   obtain ⟨x, hx, hr⟩ := tcOf_mem hh
   exact ⟨x, List.mem_cons_of_mem _ hx, hr⟩
  cases h1 : e.f.beq f with
  | false => rw [h1] at h'; exact next h'
  | true =>
   rw [h1, cond_true] at h'
   cases h2 : pEqs e.args args && memEq e.m m with
   | false => rw [h2] at h'; exact next h'
   | true =>
    rw [h2] at h'
    cases h'
    rw [Bool.and_eq_true] at h2
    exact ⟨e, List.mem_cons_self .., nat_beq.1 h1, pEqs_sound h2.1, memEq_sound h2.2, rfl⟩
def Ent.ok (P : Program) (e : Ent) : Prop := ∀ B w0, ∃ Rn, Sound P w0 B Rn ∧ Are e.r (callBody0 Rn false e.f e.args [] e.m P.funcs[e.f]?)
def entsOK (P : Program) : List Ent → Prop
 | [] => True
 | e :: l => e.ok P ∧ entsOK P l
theorem entsOK.mem {P : Program} : ∀ {l : List Ent}, entsOK P l → ∀ e ∈ l, e.ok P
 | [], _, _, h => by cases h
 | x :: l, h, e, he => by
  rcases List.mem_cons.1 he with rfl | he
  ·exact h.1
  ·exact entsOK.mem h.2 e he
theorem TbOK.with {P : Program} {fl : Fl} (h : TbOK P fl) {es : List Ent} (hes : entsOK P es) : TbOK P ⟨fl.l, fl.tb, tcOf es⟩ := by
 refine ⟨h.tb, fun f args m r ht B w0 => ?_⟩
 obtain ⟨e, he, rfl, rfl, rfl, rfl⟩ := tcOf_mem ht
 exact hes.mem e he B w0
open Go.RowKit (Below)
section
variable {P : Program} {fl : Fl} {rec : Run} {env : Env} {k : List AItem} {tmps : T AVal} {ds : List ADef} {up : Chain} {m : Mem} {r : RR} {mode : AMode} {todo : List AItem}
theorem run_succ (n : Nat) : run P fl (n + 1) = bodyGo P fl (run P fl n) := rfl
theorem b_skip : bodyGo P fl rec env (.code .skip :: k) tmps ds .run up m = rec env k tmps ds .run up m := rfl
theorem b_seq (a b : Code) : bodyGo P fl rec env (.code (.seq a b) :: k) tmps ds .run up m = rec env (.code a :: .code b :: k) tmps ds .run up m := rfl
theorem b_block (i : Nat) (b : Code) : bodyGo P fl rec env (.code (.block i b) :: k) tmps ds .run up m = rec env (.code b :: .inBlock i :: k) tmps ds .run up m := rfl
theorem b_loop (b : Code) : bodyGo P fl rec env (.code (.loop b) :: k) tmps ds .run up m = rec env (.code b :: .inLoop b :: k) tmps ds .run up m := rfl
theorem b_inBlock (i : Nat) : bodyGo P fl rec env (.inBlock i :: k) tmps ds .run up m = rec env k tmps ds .run up m := rfl
theorem b_inLoop (b : Code) : bodyGo P fl rec env (.inLoop b :: k) tmps ds .run up m = rec env (.code b :: .inLoop b :: k) tmps ds .run up m := rfl
theorem b_cond {c : Operand} {a b : Code} {t : Bool} (h : evalT tmps c = .lit (.bool t)) : bodyGo P fl rec env (.code (.cond c a b) :: k) tmps ds .run up m = rec env (.code (bif t then a else b) :: k) tmps ds .run up m := by
 show condGo rec env a b k tmps ds up m (boolOf (evalT tmps c)) = _
 rw [h]; rfl
theorem b_exit {id : Nat} {k' : List AItem} (h : exitTo id k = some k') : bodyGo P fl rec env (.code (.exit id) :: k) tmps ds .run up m = rec env k' tmps ds .run up m := by
 show jumpTo rec env (.exit id) tmps ds up m (exitTo id k) = _
 rw [h]; rfl
theorem b_ret (h : env.roundOf = none) : bodyGo P fl rec env (.code .ret :: k) tmps ds .run up m = rec env [] tmps ds .returning up m := by
 show leave rec env (some .ret) tmps ds up m = _
 unfold leave
 rw [h]; rfl
theorem b_results {vs : List AVal} {fn : Func} (hf : P.funcs[env.fn]? = some fn) (h : resVals P tmps m fn.results.toList = some vs) : bodyGo P fl rec env todo tmps [] .returning up m = .ret (one vs) up m := by
 show retGo P tmps up m P.funcs[env.fn]? = _
 rw [hf]
 show retVals up m (resVals P tmps m fn.results.toList) = _
 rw [h]; rfl
theorem b_region (id : Nat) (ops : Array Oper) : bodyGo P fl rec env (.code (.region id ops false) :: k) tmps ds .run up m = regionGo P fl rec env ops.toList k ops.toList tmps ds up m := rfl
def plainOp : Op → Bool
 | .defer _ => false
 | .next _ _ => false
 | _ => true
theorem r_val {all : List Oper} {o : Oper} {rest : List Oper} {v : AVal} {m' : Mem} (hg : gd all tmps o.guard = some true) (hp : plainOp o.op = true) (ha : aop P tmps m o.op = .val v m') :
  regionGo P fl rec env all k (o :: rest) tmps ds up m = regionGo P fl rec env all k rest (setDst env.nt tmps v o.dst) ds up m' := by
 show (match gd all tmps o.guard with
   | some true => operR P fl rec env (fun c up m => rec env k tmps ds (.panicking c) up m) o.dst (regionGo P fl rec env all k rest) tmps ds up m o.op
   | some false => regionGo P fl rec env all k rest (setDst env.nt tmps undefA o.dst) ds up m
   | none => .bad "guard") = _
 rw [hg]
 dsimp only
 unfold operR
 split
 ·rename_i c hop; rw [hop] at hp; cases hp
 ·rename_i it s hop; rw [hop] at hp; cases hp
 ·rw [aop2_of ha (fun _ h => by cases h)]; rfl
theorem r_off {all : List Oper} {o : Oper} {rest : List Oper} (hg : gd all tmps o.guard = some false) :
  regionGo P fl rec env all k (o :: rest) tmps ds up m = regionGo P fl rec env all k rest (setDst env.nt tmps undefA o.dst) ds up m := by
 show (match gd all tmps o.guard with
   | some true => operR P fl rec env (fun c up m => rec env k tmps ds (.panicking c) up m) o.dst (regionGo P fl rec env all k rest) tmps ds up m o.op
   | some false => regionGo P fl rec env all k rest (setDst env.nt tmps undefA o.dst) ds up m
   | none => .bad "guard") = _
 rw [hg]
noncomputable def mem1 (cells : List AVal) : Mem := ⟨(T.e : T AObj).set 0 (.ro cells), 1, .e, 0, false, []⟩
theorem mem1_get (cells : List AVal) (q : Nat) : (mem1 cells).heap.get q = if 0 = q then some (.ro cells) else none := by
 show ((T.e : T AObj).set 0 (.ro cells)).get q = _
 rw [T.get_set, T.get_e]
theorem MR.one {w : World} {b s : Nat} {cells : List AVal} {cs : Array Value} {e : TypeId} {fz : Nat × Nat} (hw : w.heap[b]? = some (.cells cs e fz)) (hc : ∀ ρ, CR ρ cells cs s) :
  MR ⟨w, fun _ => False⟩ w.heap.size (fun q => if q = 0 then some ⟨b, s, 0, 0⟩ else none) (mem1 cells) w := by
 have hlt : b < w.heap.size := (Array.getElem?_eq_some_iff.1 hw).1
 have hf : ∀ q, (mem1 cells).fams.get q = none := fun q => T.get_e q
 have hg := mem1_get cells
 refine ⟨?_, ?_, ?_, ?_, ?_, ?_, ?_, ?_, Below.refl _ _, Nat.le_refl _, fun _ h => h.elim, fun _ _ hm => by cases hm⟩
 ·intro r o p h1 h2
  rw [hg] at h1
  by_cases h0 : 0 = r
  ·subst h0
   rw [if_pos rfl] at h1 h2
   cases h1; cases h2
   exact ⟨trivial, cs, e, fz, hw, hc _⟩
  ·rw [if_neg h0] at h1; cases h1
 ·intro r r' o o' p p' hne h1 h2 h3 h4 h5
  rw [hg] at h1 h2
  by_cases h0 : 0 = r
  ·subst h0
   rw [if_neg hne] at h2; cases h2
  ·rw [if_neg h0] at h1; cases h1
 ·intro r hr
  have hr' : 1 ≤ r := hr
  rw [if_neg (by omega)]
 ·intro r hr
  have hr' : 1 ≤ r := hr
  rw [hg, if_neg (by omega)]
 ·intro f l h; rw [hf] at h; cases h
 ·intro r e cs f p h; rw [hg] at h; split at h <;> cases h
 ·intro r e cs f p l h; rw [hg] at h; split at h <;> cases h
 ·intro r r' e e' cs cs' f p p' h; rw [hg] at h; split at h <;> cases h
end
open Go.RowKit (Below)
section
variable {P : Program} {tmps : T AVal} {m : Mem}
theorem dlt (a b : Nat) : decide ((Int.ofNat a) < Int.ofNat b) = decide (a < b) := by
 by_cases h : a < b
 ·rw [decide_eq_true h]; exact decide_eq_true (by exact Int.ofNat_lt.2 h)
 ·rw [decide_eq_false h]; exact decide_eq_false (fun h2 => h (Int.ofNat_lt.1 h2))
theorem o_add {t : TypeId} {x y : Operand} {z : TypeId} {a b : Nat} (hx : evalT tmps x = goI a) (hy : evalT tmps y = goI b) (hab : a + b < 2 ^ 62) : aop P tmps m (.binOp .add t x y z) = .val (goI (a + b)) m := by
 show lits2 P m (binF .add t x y) (litOf (evalT tmps x)) (litOf (evalT tmps y)) = _
 rw [hx, hy]
 have : lits2 P m (binF .add t x y) (litOf (goI a)) (litOf (goI b)) = .val (.lit (.int .i64 (IntKind.i64.wrap (Int.ofNat a + Int.ofNat b)))) m := rfl
 rw [this]
 have hw : IntKind.i64.wrap (Int.ofNat a + Int.ofNat b) = Int.ofNat (a + b) := by
  unfold IntKind.wrap
  simp [IntKind.bits, IntKind.signed]
  omega
 rw [hw]; rfl
abbrev gk (k : IntKind) (n : Nat) : AVal := .lit (.int k (.ofNat n))
theorem o_lssK {t : TypeId} {x y : Operand} {z : TypeId} (k : IntKind) {a b : Nat} (hx : evalT tmps x = gk k a) (hy : evalT tmps y = gk k b) : aop P tmps m (.binOp .lss t x y z) = .val (.lit (.bool (decide (a < b)))) m := by
 show lits2 P m (binF .lss t x y) (litOf (evalT tmps x)) (litOf (evalT tmps y)) = _
 rw [hx, hy, ← dlt]
 cases k <;> rfl
theorem o_gtrK {t : TypeId} {x y : Operand} {z : TypeId} (k : IntKind) {a b : Nat} (hx : evalT tmps x = gk k a) (hy : evalT tmps y = gk k b) : aop P tmps m (.binOp .gtr t x y z) = .val (.lit (.bool (decide (b < a)))) m := by
 show lits2 P m (binF .gtr t x y) (litOf (evalT tmps x)) (litOf (evalT tmps y)) = _
 rw [hx, hy, ← dlt]
 cases k <;> rfl
theorem o_not {t : TypeId} {x : Operand} {b : Bool} (hx : evalT tmps x = .lit (.bool b)) : aop P tmps m (.unOp .not t x) = .val (.lit (.bool (!b))) m := by
 show lits1 P m (Op.unary .not) (litOf (evalT tmps x)) = _
 rw [hx]; rfl
theorem o_indexS {t : TypeId} {x ix : Operand} {s : ByteArray} {i : Nat} {b : UInt8} (hx : evalT tmps x = .lit (.string s)) (hi : evalT tmps ix = goI i) (hu : P.underlying t = some .string) (hb : s.data.toList[i]? = some b) : aop P tmps m (.index t x ix) = .val (gk .u8 b.toNat) m := by
 show indexV P t m (evalT tmps x) (intOf (evalT tmps ix)) = _
 rw [hx, hi]
 show (bif isStrD (P.underlying t) then ixStr P m s (Int.ofNat i) else .bad "index") = _
 rw [hu]
 show (match getO s.data.toList i with | some b => Out.val (.lit (.int .u8 (.ofNat b.toNat))) m | none => boundsPanic P m) = _
 rw [getO_eq, hb]
def seq (a b : ByteArray) : Bool := a.toList == b.toList
theorem o_eqlS {t : TypeId} {x y : Operand} {z : TypeId} {a b : ByteArray} (hx : evalT tmps x = .lit (.string a)) (hy : evalT tmps y = .lit (.string b)) : aop P tmps m (.binOp .eql t x y z) = .val (.lit (.bool (seq a b))) m := by
 show eqOp P .eql false t x y (evalT tmps x) (evalT tmps y) m = _
 rw [hx, hy]
 rfl
theorem o_lenS {x : Operand} {t : TypeId} {s : ByteArray} (hx : evalT tmps x = .lit (.string s)) (hu : P.underlying t = some .string) : aop P tmps m (.call ⟨.builtin .len, #[x], #[t]⟩) = .val (goI s.size) m := by
 show lenD m (evalT tmps x) (P.underlying t) = _
 rw [hx, hu]; rfl
theorem o_indexAddr {x ix : Operand} {t e : TypeId} {r off n c size i : Nat} {ex : Bool} (hx : evalT tmps x = .slice r off n c ex) (hi : evalT tmps ix = goI i) (hz : sizedElem P (sliceElem P t) = some (e, size)) (hlt : i < n) :
  aop P tmps m (.indexAddr t x ix) = .val (.ptr r (off + i * size)) m := by
 show indexA P t m (evalT tmps x) (intOf (evalT tmps ix)) = _
 rw [hx, hi]
 show (match sizedElem P (sliceElem P t) with | some (_, size) => ixAt P m r off size n (Int.ofNat i) | none => .bad "indexAddr") = _
 rw [hz]
 show (bif (i.succ).ble n then Out.val (.ptr r (off.add (i.mul size))) m else boundsPanic P m) = _
 have : i.succ.ble n = true := by rw [nat_ble]; omega
 rw [this]; rfl
theorem o_move {x : Operand} {v : AVal} (h : evalT tmps x = v) : aop P tmps m (.move x) = .val v m := by rw [← h]; rfl
theorem o_assign {x : Operand} {v : AVal} (h : evalT tmps x = v) : aop P tmps m (.assign x) = .val v m := by rw [← h]; rfl
theorem o_pick {c a b : Operand} {t : Bool} {va vb : AVal} (hc : evalT tmps c = .lit (.bool t)) (ha : evalT tmps a = va) (hb : evalT tmps b = vb) : aop P tmps m (.pick c a b) = .val (bif t then va else vb) m := by
 show pickOp m (evalT tmps a) (evalT tmps b) (boolOf (evalT tmps c)) = _
 rw [hc, ha, hb]; rfl
theorem gd_true {all : List Oper} {j : Nat} {want : Bool} {d : Tmp} (hd : dstOf all j = some d) (h : getT tmps d = .lit (.bool want)) : gd all tmps (some (j, want)) = some true := by
 show (match dstOf all j with | some d => gdV want (getT tmps d) | none => some false) = _
 rw [hd]; dsimp only; rw [h]; cases want <;> rfl
theorem gd_false {all : List Oper} {j : Nat} {want : Bool} {d : Tmp} (hd : dstOf all j = some d) (h : getT tmps d = .lit (.bool (!want))) : gd all tmps (some (j, want)) = some false := by
 show (match dstOf all j with | some d => gdV want (getT tmps d) | none => some false) = _
 rw [hd]; dsimp only; rw [h]; cases want <;> rfl
theorem g_set {nt : Nat} {v : AVal} {d j : Nat} : getT (setDst nt tmps v (some d)) j = if d = j ∧ j < nt then v else getT tmps j := by
 rw [getT_setDst]
 by_cases h : d = j
 ·subst h; simp
 ·rw [if_neg (fun e => h (by cases e.1; rfl)), if_neg (fun e => h e.1)]
end
structure Known (P : Program) where
 f : FuncId
 tb : List AVal → Mem → Option Value
 fn : ∃ fn c, P.funcs[f]? = some fn ∧ fn.body = some c
 ok : ∀ (args : List AVal) (m : Mem) (v : Value), tb args m = some v → ∀ (w0 : Wo) (B : Nat) (ρ : Rho) (w : World) (xs : Array Value), MR w0 B ρ m w → RL ρ args xs.toList → Calls P f xs w fun e w' => e = .returned v ∧ Below w.heap.size w w'
def findK {P : Program} : List (Known P) → FuncId → List AVal → Mem → Option Value
 | [], _, _, _ => none
 | k :: ks, f, args, m => if k.f = f then k.tb args m else findK ks f args m
def flK {P : Program} (ks : List (Known P)) : Fl := ⟨[], findK ks, fun _ _ _ => none⟩
theorem flK_ok {P : Program} (ks : List (Known P)) : TbOK P (flK ks) := by
 have key : ∀ (ks : List (Known P)) (f : FuncId) (args : List AVal) (m : Mem) (v : Value), findK ks f args m = some v → ∃ k ∈ ks, k.f = f ∧ k.tb args m = some v := by
  intro ks
  induction ks with
  | nil => intro f args m v h; cases h
  | cons k ks ih =>
   intro f args m v h
   unfold findK at h
   split at h
   ·rename_i hf; exact ⟨k, by simp, hf, h⟩
   ·obtain ⟨k', h1, h2⟩ := ih f args m v h; exact ⟨k', by simp [h1], h2⟩
 refine ⟨?_, fun _ _ _ _ h => (by cases h)⟩
 intro f args m v h
 obtain ⟨k, _, rfl, h2⟩ := key ks f args m v h
 exact ⟨k.fn, k.ok args m v h2⟩
theorem RL.one {ρ : Rho} {a : AVal} {xs : Array Value} (h : RL ρ [a] xs.toList) : ∃ x, xs = #[x] ∧ R ρ a x := by
 simp only [RL] at h
 obtain ⟨x, l, h1, h2, rfl⟩ := h
 exact ⟨x, Array.ext' h1, h2⟩
theorem RL.two {ρ : Rho} {a b : AVal} {xs : Array Value} (h : RL ρ [a, b] xs.toList) : ∃ x y, xs = #[x, y] ∧ R ρ a x ∧ R ρ b y := by
 simp only [RL] at h
 obtain ⟨x, l, h1, h2, y, l', rfl, h3, rfl⟩ := h
 exact ⟨x, y, Array.ext' h1, h2, h3⟩
section
variable {P : Program} {tmps : T AVal} {m : Mem}
end
open Go.RowKit (Below)
noncomputable def roT : List (List AVal) → Nat → T AObj
 | [], _ => .e
 | c :: l, i => (roT l (i + 1)).set i (.ro c)
theorem roT_get : ∀ (l : List (List AVal)) (i q : Nat), (roT l i).get q = if i ≤ q then (l[q - i]?).map AObj.ro else none := by
 intro l
 induction l with
 | nil => intro i q; show (T.e : T AObj).get q = _; rw [T.get_e]; split <;> rfl
 | cons c l ih =>
  intro i q
  show ((roT l (i + 1)).set i (.ro c)).get q = _
  rw [T.get_set]
  by_cases h : i = q
  ·subst h
   rw [if_pos rfl, if_pos (Nat.le_refl _), Nat.sub_self]
   rfl
  ·rw [if_neg h, ih]
   by_cases h2 : i ≤ q
   ·rw [if_pos h2, if_pos (by omega), show q - i = (q - (i + 1)) + 1 from by omega]
    rfl
   ·rw [if_neg h2, if_neg (by omega)]
structure LaidRow where
 b : Nat
 s : Nat
 cells : List AVal
noncomputable def memR (l : List (List AVal)) (gl : List (Nat × Nat)) : Mem := ⟨roT l 0, l.length, .e, 0, false, gl⟩
def roRho (L : List LaidRow) : Rho := fun q => (L[q]?).map fun x => ⟨x.b, x.s, 0, 0⟩
theorem MR.ros {w : World} (L : List LaidRow) (gl : List (Nat × Nat))
  (hL : ∀ x ∈ L, ∃ cs e fz, w.heap[x.b]? = some (.cells cs e fz) ∧ CR (roRho L) x.cells cs x.s)
  (hgl : ∀ g r, (g, r) ∈ gl → ∃ x, L[r]? = some x ∧ x.b = g ∧ x.s = 0) :
  MR ⟨w, fun _ => False⟩ w.heap.size (roRho L) (memR (L.map LaidRow.cells) gl) w := by
 have hg : ∀ q, (memR (L.map LaidRow.cells) gl).heap.get q = (L[q]?).map fun x => AObj.ro x.cells := by
  intro q
  show (roT _ 0).get q = _
  rw [roT_get, if_pos (Nat.zero_le _), Nat.sub_zero, List.getElem?_map, Option.map_map]
  rfl
 have hf : ∀ q, (memR (L.map LaidRow.cells) gl).fams.get q = none := fun q => T.get_e q
 have hnx : (memR (L.map LaidRow.cells) gl).next = L.length := List.length_map ..
 have hro : ∀ {q o}, (memR (L.map LaidRow.cells) gl).heap.get q = some o → ∃ x, L[q]? = some x ∧ o = .ro x.cells := by
  intro q o h
  rw [hg, Option.map_eq_some_iff] at h
  obtain ⟨x, h1, h2⟩ := h
  exact ⟨x, h1, h2.symm⟩
 refine ⟨?_, ?_, ?_, ?_, ?_, ?_, ?_, ?_, Below.refl _ _, Nat.le_refl _, fun _ h => h.elim, ?_⟩
 ·intro r o p h1 h2
  obtain ⟨x, h3, rfl⟩ := hro h1
  unfold roRho at h2
  rw [h3] at h2
  cases h2
  obtain ⟨cs, e, fz, h4, h5⟩ := hL x (List.mem_of_getElem? h3)
  exact ⟨trivial, cs, e, fz, h4, h5⟩
 ·intro r r' o o' p p' _ h1 h2 _ _ _
  obtain ⟨x, _, rfl⟩ := hro h1
  obtain ⟨x', _, rfl⟩ := hro h2
  exact trivial
 ·intro r hr
  rw [hnx] at hr
  unfold roRho
  rw [List.getElem?_eq_none hr]
  rfl
 ·intro r hr
  rw [hnx] at hr
  rw [hg, List.getElem?_eq_none hr]
  rfl
 ·intro f l h; rw [hf] at h; cases h
 ·intro r e cs f p h; obtain ⟨x, _, h⟩ := hro h; cases h
 ·intro r e cs f p l h; obtain ⟨x, _, h⟩ := hro h; cases h
 ·intro r r' e e' cs cs' f p p' h; obtain ⟨x, _, h⟩ := hro h; cases h
 ·intro g r h
  obtain ⟨x, h1, h2, h3⟩ := hgl g r h
  exact ⟨⟨x.b, x.s, 0, 0⟩, by unfold roRho; rw [h1]; rfl, h2, h3⟩
end Go.Abs
