/- An executor whose runs hold in every world: a part of it and of what is proved of it. -/
import Derived.Test.YtjefckdgpbdpeaaGreatAbsOpsf

namespace Go.Abs
open Go
open Go.RowKit (Below)

section
variable {P : Program} {w0 : Wo} {B : Nat} {ρ : Rho} {m : Mem} {w : World}

theorem appNew_sound (h : MR w0 B ρ m w) {size : Nat} {a : AVal} {x : Value} (hx : R ρ a x) {cs : List AVal} {k : Nat} (e : appNew size m a = some (cs, k)) :
    (Builtin.lenOf x).run P w = .ok k w ∧ ∃ xs : List Value, (Builtin.firstCells size k x).run P w = .ok xs.toArray w ∧ RL ρ cs xs ∧ xs.length = k * size := by
  unfold appNew at e
  split at e
  · cases e; simp only [R] at hx; subst hx
    exact ⟨rfl, [], rfl, by simp [RL], by simp⟩
  · rename_i r off n c ex
    simp only [R] at hx
    obtain ⟨p, c', hp, _, _, _, rfl⟩ := hx
    split at e
    · rename_i cs' hcs
      cases e
      obtain ⟨xs, h1, h2, h3, _⟩ := h.readCells (P := P) hp hcs
      exact ⟨rfl, xs, h1, h2, h3⟩
    · cases e
  · cases e
    simp only [R] at hx
    obtain ⟨a, c', rfl⟩ := hx
    refine ⟨rfl, [], ?_, by simp [RL], by simp⟩
    unfold Builtin.firstCells
    dsimp only
    rw [Nat.zero_mul]
    rfl
  · rename_i s
    simp only [R] at hx; subst hx
    cases hb : size.beq 1 with
    | false => rw [hb] at e; cases e
    | true =>
      rw [nat_beq] at hb
      subst hb
      have e' : some (mapL (fun (b : UInt8) => AVal.lit (.int .u8 (.ofNat b.toNat))) s.data.toList, s.size) = some (cs, k) := e
      cases e'
      refine ⟨rfl, s.data.toList.map (fun b => .int .u8 b.toNat), ?_, ?_, ?_⟩
      · show Result.ok ((s.extract 0 s.size).data.map fun b => Value.int .u8 b.toNat) w = _
        rw [ByteArray.extract_zero_size]
        congr 1
        apply Array.ext'
        simp
      · rw [mapL_eq]
        exact RL.map_of _ _ _ fun b _ => by simp [R]
      · rw [List.length_map, Nat.mul_one]
        rfl
  · cases e

theorem nextcap_small {need cap : Nat} (h : cap < need) (hs : need ≤ 100000) : Builtin.nextslicecap need cap ≤ 200000 + 768 := by
  unfold Builtin.nextslicecap
  split
  · omega
  · split
    · omega
    · have hg : ∀ (r c : Nat), c ≤ 200000 + 768 → Builtin.growBy need r c ≤ 200000 + 768 := by
        intro r
        induction r with
        | zero => intro c hc; exact hc
        | succ r ih =>
          intro c hc
          unfold Builtin.growBy
          split
          · exact hc
          · exact ih _ (by omega)
      exact hg 4 cap (by omega)

theorem zeroCells_size (z : Array Value) (n : Nat) : (Builtin.zeroCells z n).size = n * z.size := by
  unfold Builtin.zeroCells
  simp

/-- the run of an append that must grow -/
theorem run_append_grow {e : TypeId} {i : TypeInfo} {z : Value} {size : Nat} (hi : P.info? e = some i) (hz : i.zero = some z) (hsz : i.size = size) (_hzs : z.cells.size = size)
    (hby : i.bytes ≤ 65536) {st : TypeId} (hu : P.underlying st = some (.slice e)) {ats : Array TypeId} (ha : ats[0]? = some st) (hnz : ∀ t, ats[1]? = some t → ∃ d, P.underlying t = some d ∧ ∀ k, d ≠ .int k)
    {base : Option Addr} {n c k : Nat} {x : Value} (hlen : (Builtin.lenOf x).run P w = .ok k w) {old new : List Value}
    (hold : (Builtin.firstCells size n (.slice base n c)).run P w.drew = .ok old.toArray w.drew) (hnew : (Builtin.firstCells size k x).run P w.drew = .ok new.toArray w.drew)
    (hgrow : c < n + k) (hsmall : n + k ≤ 100000) (ty : TypeId) :
    ∃ c' : Nat, n + k ≤ c' ∧
      (Builtin.append_ ats ty #[.slice base n c, x]).run P w = .ok (.slice (some ⟨w.heap.size, 0, none⟩) (n + k) c') ((w.drew).alloc (.cells (old ++ new ++ (Builtin.zeroCells z.cells (c' - (n + k))).toList).toArray e)) := by
  have hzero : tzero P e = some z := by unfold tzero; rw [hi]; exact hz
  have hsize : tsz P e = some size := by unfold tsz; rw [hi]; simp [hsz]
  let q : Question := .appendCap (n + k) c e
  let c' := q.cut (w.tape w.drawn q)
  refine ⟨c', ?_, ?_⟩
  · show n + k ≤ (n + k) + (w.tape w.drawn q) % (2 ^ 63 - (n + k))
    omega
  · have hncap := nextcap_small hgrow hsmall
    have hprod : Builtin.nextslicecap (n + k) c * i.bytes ≤ (200000 + 768) * 65536 := Nat.mul_le_mul hncap hby
    have g1 : ¬ (n + k ≤ c) := by omega
    have g2 : ¬ (((n + k : Nat) : Int) > IntKind.i64.max ∧ (False ∨ i.bytes = 0)) := by
      rintro ⟨h1, _⟩
      have : IntKind.i64.max = 9223372036854775807 := by decide
      rw [this] at h1
      omega
    have g3 : ¬ (Builtin.nextslicecap (n + k) c * i.bytes > 2 ^ 48) := by omega
    have hch : (choose (.appendCap (n + k) c e)).run P w = .ok c' w.drew := rfl
    have hfin : (old.toArray ++ new.toArray ++ Builtin.zeroCells z.cells (c' - (n + k))) = (old ++ new ++ (Builtin.zeroCells z.cells (c' - (n + k))).toList).toArray := by
      apply Array.ext'
      simp
    unfold Builtin.append_
    simp only [ha, List.getElem?_toArray, List.getElem?_cons_zero, List.getElem?_cons_succ]
    cases hat : ats[1]? with
    | none =>
      simp only [run_bind, run_underlying' hu, run_sizeOf' hsize, run_pure, Bool.false_eq_true, if_false, hlen, g1, run_typeInfo' hi, g2, g3, hch, run_askRoom, hold, hnew, Bool.not_false, if_true, run_zeroValue' hzero, run_newRow', hfin]
      rfl
    | some t =>
      obtain ⟨d, hd, hk⟩ := hnz t hat
      have hd0 : (match d with | .int _ => true | _ => false) = false := by
        cases d <;> first | rfl | (exact absurd rfl (hk _))
      simp only [run_bind, run_underlying' hu, run_sizeOf' hsize, run_underlying' hd, run_pure, Bool.false_eq_true, if_false, hlen, g1, run_typeInfo' hi, g2, g3, hch, run_askRoom, hold, hnew, Bool.not_false, if_true, run_zeroValue' hzero, run_newRow', hfin]
      rfl
/-- the run of an append in place -/
theorem run_append_place {e : TypeId} {size : Nat} (hsize : tsz P e = some size) {st : TypeId} (hu : P.underlying st = some (.slice e)) {ats : Array TypeId} (ha : ats[0]? = some st)
    (hnz : ∀ t, ats[1]? = some t → ∃ d, P.underlying t = some d ∧ ∀ k, d ≠ .int k)
    {base : Option Addr} {n c k : Nat} {x : Value} (hlen : (Builtin.lenOf x).run P w = .ok k w) {new : List Value} (hnew : (Builtin.firstCells size k x).run P w = .ok new.toArray w)
    (hfit : n + k ≤ c) {w' : World} (hst : (match base with | some a => Go.storeCells (a.add (n * size)) new | none => pure ()).run P w = .ok () w') (ty : TypeId) :
    (Builtin.append_ ats ty #[.slice base n c, x]).run P w = .ok (.slice base (n + k) c) w' := by
  unfold Builtin.append_
  simp only [ha, List.getElem?_toArray, List.getElem?_cons_zero, List.getElem?_cons_succ]
  cases hat : ats[1]? with
  | none =>
    simp only [run_bind, run_underlying' hu, run_sizeOf' hsize, run_pure, Bool.false_eq_true, if_false, hlen, hfit, if_true, hnew, Bool.not_false]
    cases base with
    | none => cases hst; rfl
    | some a =>
      dsimp only at hst ⊢
      simp only [run_bind, hst, run_pure]
  | some t =>
    obtain ⟨d, hd, hk⟩ := hnz t hat
    have hd0 : (match d with | .int _ => true | _ => false) = false := by
      cases d <;> first | rfl | (exact absurd rfl (hk _))
    simp only [run_bind, run_underlying' hu, run_sizeOf' hsize, run_underlying' hd, run_pure, Bool.false_eq_true, if_false, hlen, hfit, if_true, hnew, Bool.not_false]
    cases base with
    | none => cases hst; rfl
    | some a =>
      dsimp only at hst ⊢
      simp only [run_bind, hst, run_pure]

theorem growOK_spec {e : TypeId} {size : Nat} (h : growOK P e size = true) : ∃ i z, P.info? e = some i ∧ i.zero = some z ∧ z.cells.size = size ∧ i.bytes ≤ 65536 := by
  unfold growOK at h
  split at h
  · rename_i i hi
    rw [Bool.and_eq_true, Bool.and_eq_true] at h
    obtain ⟨⟨h1, h2⟩, h3⟩ := h
    split at h3
    · rename_i z hz
      refine ⟨i, z, hi, hz, ?_, nat_ble.1 h1⟩
      rw [nat_beq, lenL_eq] at h3
      rw [← h3]
      have := (R.cells (ρ := fun _ => none) (v := .lit z) (x := z) (by simp [R]) rfl).length
      simpa using this.symm
    · cases h3
  · cases h
theorem arg2OK_spec {o : Option TypeId} (h : arg2OK P o = true) : ∀ t, o = some t → ∃ d, P.underlying t = some d ∧ ∀ k, d ≠ .int k := by
  intro t e
  subst e
  have h' : notIntD (P.underlying t) = true := h
  unfold notIntD at h'
  split at h'
  · cases h'
  · rename_i d hno hd
    exact ⟨d, hd, fun k e => hno k e⟩
  · cases h'

/-- the family of a row learns of a row to come -/
theorem addFam_heap (f : Nat) (l : List Nat) (m : Mem) : (addFam f l m).heap = m.heap := by cases m; rfl
theorem addFam_next (f : Nat) (l : List Nat) (m : Mem) : (addFam f l m).next = m.next := by cases m; rfl
theorem addFam_fams (f : Nat) (l : List Nat) (m : Mem) : (addFam f l m).fams = m.fams.set f (m.next :: l) := by cases m; rfl

theorem MR.addFam (h : MR w0 B ρ m w) {f : Nat} {l : List Nat} (hf : f < m.next) (hl : ∀ r e cs p, m.heap.get r = some (.row e cs f p) → r ∈ l) : MR w0 B ρ (addFam f l m) w := by
  have hg : ∀ k, (Abs.addFam f l m).fams.get k = if f = k then some (m.next :: l) else m.fams.get k := by intro k; rw [addFam_fams, T.get_set]
  refine ⟨?_, ?_, ?_, ?_, ?_, ?_, ?_, ?_, h.below, h.base, fun q hq => by rw [addFam_next]; exact h.ban q hq⟩
  · rw [addFam_heap]; exact h.obj
  · rw [addFam_heap]; exact h.inj
  · rw [addFam_next]; exact h.dom
  · rw [addFam_heap, addFam_next]; exact h.hdom
  · intro k l' hk
    rw [addFam_next]
    rw [hg] at hk
    by_cases e : f = k
    · rw [← e]; exact hf
    · rw [if_neg e] at hk; exact h.famlt k l' hk
  · rw [addFam_heap, addFam_next]; exact h.rowfam
  · intro r e cs k p l' h1 h2
    rw [addFam_heap] at h1
    rw [hg] at h2
    by_cases ek : f = k
    · rw [if_pos ek] at h2; cases h2; subst ek
      exact List.mem_cons_of_mem _ (hl r e cs p h1)
    · rw [if_neg ek] at h2; exact h.fam r e cs k p l' h1 h2
  · intro r r' e e' cs cs' k p p' h1 h2 h3
    rw [addFam_heap] at h1 h2
    rw [hg] at h3
    by_cases ek : f = k
    · rw [if_pos ek] at h3; cases h3
    · rw [if_neg ek] at h3; exact h.lone r r' e e' cs cs' k p p' h1 h2 h3

/-- rows are poisoned: nothing changes in the world -/
theorem MR.poison (h : MR w0 B ρ m w) (rs : List Nat) (but p n : Nat) : MR w0 B ρ (poisonRows rs but p n m) w := by
  obtain ⟨h1, h2, h3, h4, h5⟩ := poisonRows_spec but p n rs m
  refine h.change h1 h2 h3 (fun q o ho => ?_) (fun q o' pl ho' hp => ?_) h.below
  · obtain ⟨o', k1, k2, _⟩ := h5 q o ho; exact ⟨o', k1, k2.like⟩
  · cases hq : m.heap.get q with
    | none => rw [h3 q hq] at ho'; cases ho'
    | some o =>
      obtain ⟨o2, k1, k2, _⟩ := h5 q o hq
      rw [ho'] at k1; cases k1
      exact (h.obj q o pl hq hp).weak k2

theorem mem_famOf (h : MR w0 B ρ m w) {r : Nat} {e : Elem} {cells : List AVal} {f pos : Nat} (ho : m.heap.get r = some (.row e cells f pos)) :
    ∀ q e' cs' p', m.heap.get q = some (.row e' cs' f p') → q ∈ famOf m f r := by
  intro q e' cs' p' hq
  unfold famOf
  cases hl : m.fams.get f with
  | some l => exact h.fam q e' cs' f p' l hq hl
  | none => rw [h.lone q r e' e cs' cells f p' pos hq ho hl]; simp

/-- a new row that may lie over another: it does -/
theorem MR.alias (h : MR w0 B ρ m w) {r : Nat} {p : Pl} {e : Elem} {cells : List AVal} {f pos : Nat} (ho : m.heap.get r = some (.row e cells f pos)) (hp : ρ r = some p) {l : List Nat}
    (hfm : m.fams.get f = some l) (hin : m.next ∈ l) {off N D : Nat} {cs : Array Value} {lo hi : Nat} (hw : w.heap[p.b]? = some (.cells cs e.1 (lo, hi)))
    (hcov : ∀ q o, m.heap.get q = some o → q ∈ l → Covers (pos + D) N o) {cells' : List AVal} {cs' : Array Value} (hc : CR ρ cells' cs' (p.s + off)) (hsz : cs'.size = p.z)
    (hsame : ∀ j, ¬ (D + p.s ≤ j ∧ j < D + p.s + N) → cs'[j]? = cs[j]?) :
    MR w0 B (ρ.add m.next ⟨p.b, p.s + off, p.z, p.q⟩) (m.new (.row e cells' f (pos + off))) (setBlk w p.b (.cells cs' e.1 (lo, hi))) ∧ ρ.le (ρ.add m.next ⟨p.b, p.s + off, p.z, p.q⟩) := by
  have hn : ρ m.next = none := h.dom _ (Nat.le_refl _)
  have hle : ρ.le (ρ.add m.next ⟨p.b, p.s + off, p.z, p.q⟩) := Rho.le_add hn
  obtain ⟨hB, hq, cs5, lo5, hi5, hw5, hz5, hcr, hclr⟩ := h.obj r _ p ho hp
  rw [hw] at hw5; cases hw5
  have hg : ∀ q, (m.new (.row e cells' f (pos + off))).heap.get q = if m.next = q then some (.row e cells' f (pos + off)) else m.heap.get q := by intro q; rw [new_heap, T.get_set]
  -- the old rows in the new world
  have hold : ∀ q o2 p2, m.heap.get q = some o2 → ρ q = some p2 → OR ρ B p2 ((setBlk w p.b (.cells cs' e.1 (lo, hi))).heap[p2.b]?) o2 := by
    intro q o2 p2 h1 h2
    by_cases hbb : p.b = p2.b
    · have hrow : ∃ e2 c2 z2, o2 = .row e2 c2 f z2 ∧ p.s + z2 = p2.s + pos := by
        by_cases hr : r = q
        · subst hr; rw [ho] at h1; cases h1; rw [hp] at h2; cases h2; exact ⟨_, _, _, rfl, rfl⟩
        · have hk := h.inj r q _ o2 p p2 hr ho h1 hp h2 hbb
          cases o2 with
          | row e2 c2 f2 z2 => obtain ⟨rfl, hsh⟩ := hk; exact ⟨_, _, _, rfl, hsh⟩
          | _ => exact hk.elim
      obtain ⟨e2, c2, z2, rfl, hsh⟩ := hrow
      have hc2 := hcov q _ h1 (h.fam q e2 c2 f z2 l h1 hfm)
      obtain ⟨hB2, hq2, csx, lox, hix, hwx, hzx, hcx, hclx⟩ := h.obj q _ p2 h1 h2
      rw [← hbb, hw] at hwx
      simp only [Option.some.injEq, Obj.cells.injEq, Prod.mk.injEq] at hwx
      obtain ⟨rfl, he, rfl, rfl⟩ := hwx
      refine ⟨hB2, hq2, cs', lo, hi, by rw [← hbb, setBlk_same hw, he], by rw [hsz, ← hz5, hzx], fun i v hv => ?_, hclx⟩
      obtain ⟨y, hy, hR⟩ := hcx i v hv
      by_cases hv0 : v = .poison
      · subst hv0
        have hlt := (Array.getElem?_eq_some_iff.1 hy).1
        exact ⟨cs'[i + p2.s]'(by omega), by simp, by simp [R]⟩
      · refine ⟨y, ?_, hR⟩
        rw [hsame (i + p2.s) (fun hin => hv0 (hc2 i v hv (by omega) (by omega)))]
        exact hy
    · rw [setBlk_other hbb]; exact h.obj q o2 p2 h1 h2
  have hkin : ∀ q o2 p2, m.heap.get q = some o2 → ρ q = some p2 → p.b = p2.b → Kin2 (.row e cells' f (pos + off)) o2 (p.s + off) p2.s ∧ Kin2 o2 (.row e cells' f (pos + off)) p2.s (p.s + off) := by
    intro q o2 p2 h1 h2 hbb
    by_cases hr : r = q
    · subst hr; rw [ho] at h1; cases h1; rw [hp] at h2; cases h2; exact ⟨⟨rfl, by omega⟩, ⟨rfl, by omega⟩⟩
    · have hk := h.inj r q _ o2 p p2 hr ho h1 hp h2 hbb
      cases o2 with
      | row e2 c2 f2 z2 => obtain ⟨rfl, hsh⟩ := hk; exact ⟨⟨rfl, by omega⟩, ⟨rfl, by omega⟩⟩
      | _ => exact hk.elim
  refine ⟨⟨?_, ?_, ?_, ?_, ?_, ?_, ?_, ?_, below_setBlk h.below hB _, h.base, fun q hq => ?_⟩, hle⟩
  · intro q o' q2 h1 h2
    rw [hg] at h1
    by_cases hr : m.next = q
    · subst hr
      rw [if_pos rfl] at h1; cases h1
      rw [Rho.add_same] at h2; cases h2
      show OR _ B _ ((setBlk w p.b _).heap[p.b]?) _
      rw [setBlk_same hw]
      exact ⟨hB, hq, cs', lo, hi, rfl, hsz, hc.mono hle, hclr⟩
    · rw [if_neg hr] at h1
      rw [Rho.add_other _ _ (Ne.symm hr)] at h2
      exact (hold q o' q2 h1 h2).mono hle
  · intro q q' o1 o2 p1 p2 hne h1 h2 h3 h4 h5
    rw [hg] at h1 h2
    by_cases hr : m.next = q
    · subst hr
      rw [if_pos rfl] at h1; cases h1
      rw [Rho.add_same] at h3; cases h3
      rw [if_neg hne] at h2
      rw [Rho.add_other _ _ (Ne.symm hne)] at h4
      exact (hkin q' o2 p2 h2 h4 h5).1
    · rw [if_neg hr] at h1
      rw [Rho.add_other _ _ (Ne.symm hr)] at h3
      by_cases hr' : m.next = q'
      · subst hr'
        rw [if_pos rfl] at h2; cases h2
        rw [Rho.add_same] at h4; cases h4
        exact (hkin q o1 p1 h1 h3 h5.symm).2
      · rw [if_neg hr'] at h2
        rw [Rho.add_other _ _ (Ne.symm hr')] at h4
        exact h.inj q q' o1 o2 p1 p2 hne h1 h2 h3 h4 h5
  · intro q hq'
    rw [new_next] at hq'
    rw [Rho.add_other _ _ (by omega)]
    exact h.dom q (by omega)
  · intro q hq'
    rw [new_next] at hq'
    rw [hg, if_neg (by omega)]
    exact h.hdom q (by omega)
  · intro k l' hl
    rw [new_fams] at hl
    rw [new_next]
    have := h.famlt k l' hl
    omega
  · intro q e' cs2 k z h1
    rw [hg] at h1
    rw [new_next]
    have hf0 := h.rowfam r _ _ _ _ ho
    by_cases hr : m.next = q
    · rw [if_pos hr] at h1; cases h1; omega
    · rw [if_neg hr] at h1; have := h.rowfam q e' cs2 k z h1; omega
  · intro q e' cs2 k z l' h1 h2
    rw [hg] at h1
    rw [new_fams] at h2
    by_cases hr : m.next = q
    · rw [if_pos hr] at h1; cases h1; rw [hfm] at h2; cases h2; rw [← hr]; exact hin
    · rw [if_neg hr] at h1; exact h.fam q e' cs2 k z l' h1 h2
  · intro q q' e1 e2 c1 c2 k z z' h1 h2 h3
    rw [hg] at h1 h2
    rw [new_fams] at h3
    by_cases hr : m.next = q
    · rw [if_pos hr] at h1; cases h1; rw [hfm] at h3; cases h3
    · rw [if_neg hr] at h1
      by_cases hr' : m.next = q'
      · rw [if_pos hr'] at h2; cases h2; rw [hfm] at h3; cases h3
      · rw [if_neg hr'] at h2; exact h.lone q q' e1 e2 c1 c2 k z z' h1 h2 h3
  · have hq1 := h.ban q hq
    rw [new_next, Rho.add_other _ _ (Nat.ne_of_lt hq1.1)]
    exact ⟨Nat.lt_succ_of_lt hq1.1, hq1.2⟩

end
end Go.Abs
