/- An executor whose runs hold in every world: a part of it and of what is proved of it. -/
import Derived.Test.YtjefckdgpbdpeaaGreatAbsOpsg

namespace Go.Abs
open Go
open Go.RowKit (Below)

section
variable {P : Program} {w0 : Wo} {B : Nat} {ρ : Rho} {m : Mem} {w : World}

theorem appAt_def (m : Mem) (elem : TypeId) (size r off n c k : Nat) (ex : Bool) (cs : List AVal) : appAt m elem size r off n c k ex cs =
    bif k.beq 0 && n.ble c then .val (.slice r off n c ex) m else
    bif (n.add k).ble c then (match storeCells m r (off.add (n.mul size)) cs with
      | some m => .val (.slice r off (n.add k) c ex) m
      | none => .bad "append in place")
    else bif ex then appCopy m elem n k size cs (readCells m r off (n.mul size))
    else appGrow m elem r off n k size cs (m.heap.get r) (readCells m r off (n.mul size)) := rfl

theorem R.slice_intro {r : Nat} {p : Pl} (hp : ρ r = some p) {off n c c' : Nat} {ex : Bool} (h1 : c ≤ c') (h2 : ex = true → c' = c) (h3 : ex = false → off + p.s + c' * p.q ≤ p.z) :
    R ρ (.slice r off n c ex) (.slice (some ⟨p.b, off + p.s, none⟩) n c') := by simp only [R]; exact ⟨p, c', hp, h1, h2, h3, rfl⟩

/-- a grown slice: a new row of its own -/
theorem grown (h : MR w0 B ρ m w) {e : TypeId} {size n k c' : Nat} {old new : List Value} {oldA cs : List AVal} (ho : RL ρ oldA old) (hc : RL ρ cs new) (hol : old.length = n * size) (hnl : new.length = k * size)
    {z : Value} (hzs : z.cells.size = size) (hcap : n + k ≤ c') {r : Result Value}
    (hr : r = .ok (.slice (some ⟨w.heap.size, 0, none⟩) (n + k) c') ((w.drew).alloc (.cells (old ++ new ++ (Builtin.zeroCells z.cells (c' - (n + k))).toList).toArray e))) :
    VR w0 B ρ (.val (.slice m.next 0 (n.add k) (n.add k) false) (Abs.newRow m (e, size) (appL oldA cs))) r := by
  have hCR : CR ρ (appL oldA cs) (old ++ new ++ (Builtin.zeroCells z.cells (c' - (n + k))).toList).toArray 0 := by
    rw [appL_eq]
    intro i v hv
    obtain ⟨y, hy, hR⟩ := (ho.append hc).get hv
    refine ⟨y, ?_, hR⟩
    have hlt := (List.getElem?_eq_some_iff.1 hy).1
    simp only [Nat.add_zero, List.getElem?_toArray]
    rw [List.getElem?_append_left hlt]
    exact hy
  obtain ⟨h1, h2⟩ := h.drew.newRow (e, size) (appL oldA cs) _ hCR
  refine ⟨_, _, _, hr, h2, h1, ?_⟩
  have := R.slice_intro (ρ := ρ.add m.next ⟨w.heap.size, 0, (old ++ new ++ (Builtin.zeroCells z.cells (c' - (n + k))).toList).toArray.size, size⟩) (r := m.next) (Rho.add_same _ _ _)
    (off := 0) (n := n + k) (c := n + k) (c' := c') (ex := false) hcap (fun e => by cases e) (fun _ => by
      simp only [List.size_toArray, List.length_append, Array.length_toList, zeroCells_size, hol, hnl, hzs]
      rw [← Nat.add_mul, ← Nat.add_mul]
      have : n + k + (c' - (n + k)) = c' := by omega
      rw [this]; omega)
  exact this

theorem append_sound (h : MR w0 B ρ m w) (ats : Array TypeId) (ty : TypeId) {s x : AVal} {vs vx : Value} (hs : R ρ s vs) (hx : R ρ x vx) :
    VR w0 B ρ (bif arg2OK P ats[1]? then appendOp P m s x (sizedElem P ((ats[0]?).bind (sliceElem P))) else .bad "append of a make") ((Builtin.append_ ats ty #[vs, vx]).run P w) := by
  cases h2 : arg2OK P ats[1]? with
  | false => exact trivial
  | true =>
    rw [cond_true]
    have hnz := arg2OK_spec h2
    unfold appendOp
    split
    case h_2 => exact trivial
    rename_i e size hse
    obtain ⟨h3, hsize⟩ := sizedElem_some hse
    rw [Option.bind_eq_some_iff] at h3
    obtain ⟨st, ha, h4⟩ := h3
    have hu := sliceElem_some h4
    cases hg : growOK P e size && !(size.beq 0) && smallNew (appNew size m x) s with
    | false => exact trivial
    | true =>
      rw [cond_true]
      rw [Bool.and_eq_true, Bool.and_eq_true] at hg
      obtain ⟨⟨hg1, _⟩, hg2⟩ := hg
      obtain ⟨i, z, hi, hz, hzs, hby⟩ := growOK_spec hg1
      have hisz : i.size = size := by
        obtain ⟨i', hi', h5⟩ := tsz_some hsize
        rw [hi] at hi'; cases hi'; exact h5
      unfold appWith
      split
      case h_2 => exact trivial
      rename_i cs k hnew
      obtain ⟨hlen, new, hfc, hRL, hnl⟩ := appNew_sound (P := P) h hx hnew
      obtain ⟨hlend, new', hfcd, _, _⟩ := appNew_sound (P := P) h.drew hx hnew
      rw [hnew] at hg2
      split
      · -- nil
        simp only [R] at hs
        subst hs
        unfold appNil
        cases hk : k.beq 0 with
        | true =>
          rw [cond_true]
          rw [nat_beq] at hk
          subst hk
          exact (VR.lit h).of_eq (run_append_place (base := none) (n := 0) (c := 0) hsize hu ha hnz hlen hfc (by omega) rfl ty)
        | false =>
          rw [cond_false]
          rw [nat_beq_f] at hk
          obtain ⟨hl2, new2, hfc2, hRL2, hnl2⟩ := appNew_sound (P := P) h.drew hx hnew
          obtain ⟨c', hc', hrun⟩ := run_append_grow hi hz hisz hzs hby hu ha hnz (base := none) (n := 0) (c := 0) hlen (old := []) rfl hfc2 (by omega) (by
            have : k ≤ 100000 := nat_ble.1 hg2
            omega) ty
          have := grown (n := 0) (oldA := []) h (e := e) (by simp [RL]) hRL2 (by simp) hnl2 hzs hc' hrun
          simp only [Nat.add_eq, Nat.zero_add] at this
          exact this
      · rename_i r off n c ex
        have hs0 := hs
        simp only [R] at hs
        obtain ⟨p, c', hp, hcc, hex, hnex, rfl⟩ := hs
        have hg3 : n + k ≤ 100000 := nat_ble.1 hg2
        rw [appAt_def]
        cases hk : k.beq 0 && n.ble c with
        | true =>
          rw [cond_true]
          rw [Bool.and_eq_true, nat_beq, nat_ble] at hk
          obtain ⟨rfl, hnc⟩ := hk
          have hnew0 : new = [] := List.length_eq_zero_iff.1 (by omega)
          subst hnew0
          exact (VR.same h hs0).of_eq (run_append_place (base := some ⟨p.b, off + p.s, none⟩) (n := n) (c := c') hsize hu ha hnz hlen hfc (by omega) rfl ty)
        | false =>
          rw [cond_false]
          clear hk
          cases hfit : (n.add k).ble c with
          | true =>
            rw [cond_true]
            have hfit' : n + k ≤ c := nat_ble.1 hfit
            split
            · rename_i m' hst
              obtain ⟨w', hrun, hm'⟩ := h.storeCells (P := P) hp hst hRL
              refine ⟨_, w', ρ, run_append_place (base := some ⟨p.b, off + p.s, none⟩) (n := n) (c := c') hsize hu ha hnz hlen hfc (by omega) (w' := w') ?_ ty, Rho.le.refl ρ, hm', R.slice_intro hp hcc hex hnex⟩
              dsimp only
              rw [add_addr, show off + p.s + n * size = off.add (n.mul size) + p.s from by simp; omega]
              exact hrun
            · exact trivial
          | false =>
            rw [cond_false]
            have hfit' : c < n + k := nat_ble_f.1 hfit
            have hgrow : ∀ {oldA : List AVal}, Abs.readCells m r off (n.mul size) = some oldA → c' < n + k →
                VR w0 B ρ (.val (.slice m.next 0 (n.add k) (n.add k) false) (Abs.newRow m (e, size) (appL oldA cs))) ((Builtin.append_ ats ty #[.slice (some ⟨p.b, off + p.s, none⟩) n c', vx]).run P w) := by
              intro oldA hold hlt
              obtain ⟨old, ho1, ho2, ho3, _⟩ := h.drew.readCells (P := P) hp hold
              obtain ⟨_, new2, hfc2, hRL2, hnl2⟩ := appNew_sound (P := P) h.drew hx hnew
              obtain ⟨c'', hc'', hrun⟩ := run_append_grow hi hz hisz hzs hby hu ha hnz (base := some ⟨p.b, off + p.s, none⟩) (n := n) (c := c') hlen (old := old) ho1 hfc2 hlt hg3 ty
              exact grown h ho2 hRL2 ho3 hnl2 hzs hc'' hrun
            cases ex with
            | true =>
              rw [cond_true]
              unfold appCopy
              split
              · rename_i old hold
                rw [hex rfl] at hgrow ⊢
                exact hgrow hold hfit'
              · exact trivial
            | false =>
              rw [cond_false]
              unfold appGrow
              split
              case h_2 => exact trivial
              rename_i el cells f pos old hrow hold
              cases hel : el.1.beq e && el.2.beq size && allCells cs with
              | false => exact trivial
              | true =>
                rw [cond_true]
                rw [Bool.and_eq_true, Bool.and_eq_true, nat_beq, nat_beq] at hel
                obtain ⟨⟨he1, he2⟩, hall⟩ := hel
                obtain ⟨ea, eb⟩ := el
                dsimp only at he1 he2
                subst he1 he2
                -- the memory with the family softened
                have hs1 := h.poison (famOf m f r) m.next ((pos + off) + n * eb) (k * eb)
                obtain ⟨q1, q2, q3, q4, q5⟩ := poisonRows_spec m.next ((pos + off) + n * eb) (k * eb) (famOf m f r) m
                have hrows : ∀ q e' cs' p', (poisonRows (famOf m f r) m.next ((pos + off) + n * eb) (k * eb) m).heap.get q = some (.row e' cs' f p') → q ∈ famOf m f r ∧ q ≠ m.next := by
                  intro q e' cs' p' hq
                  cases hq0 : m.heap.get q with
                  | none => rw [q3 q hq0] at hq; cases hq
                  | some o =>
                    obtain ⟨o', k1, k2, _⟩ := q5 q o hq0
                    rw [hq] at k1; cases k1
                    have hne : q ≠ m.next := by have := h.hlt hq0; omega
                    cases o with
                    | row e2 c2 f2 z2 => obtain ⟨c3, hh, _⟩ := k2; cases hh; exact ⟨mem_famOf h hrow _ _ _ _ hq0, hne⟩
                    | _ => cases k2
                have hs2 := hs1.addFam (f := f) (l := famOf m f r) (by rw [q1]; exact h.rowfam r _ _ _ _ hrow) (fun q e' cs' p' hq => (hrows q e' cs' p' hq).1)
                have hnext : (Abs.addFam f (famOf m f r) (poisonRows (famOf m f r) m.next ((pos + off) + n * eb) (k * eb) m)).next = m.next := by rw [addFam_next, q1]
                have hfams : (Abs.addFam f (famOf m f r) (poisonRows (famOf m f r) m.next ((pos + off) + n * eb) (k * eb) m)).fams.get f = some (m.next :: famOf m f r) := by
                  rw [addFam_fams, T.get_set_same, q1]
                obtain ⟨m1, hm1⟩ : ∃ m1, m1 = Abs.addFam f (famOf m f r) (poisonRows (famOf m f r) m.next ((pos + off) + n * eb) (k * eb) m) := ⟨_, rfl⟩
                rw [← hm1] at hs2 hnext hfams
                show VR w0 B ρ (.val (.slice m.next 0 (n.add k) (n.add k) false) ((Abs.addFam f (famOf m f r) (poisonRows (famOf m f r) m.next ((pos + off) + n * eb) (k * eb) m)).new (.row (ea, eb) (appL old cs) f (pos + off)))) _
                rw [← hm1]
                have hm1heap : m1.heap = (poisonRows (famOf m f r) m.next ((pos + off) + n * eb) (k * eb) m).heap := by rw [hm1, addFam_heap]
                have hcov : ∀ q o, m1.heap.get q = some o → q ∈ m.next :: famOf m f r → Covers (pos + (off + n * eb)) (k * eb) o := by
                  intro q o hq hmem
                  rw [hm1heap] at hq
                  cases hq0 : m.heap.get q with
                  | none => rw [q3 q hq0] at hq; cases hq
                  | some o0 =>
                    obtain ⟨o', k1, k2, k3⟩ := q5 q o0 hq0
                    rw [hq] at k1; cases k1
                    have hne : q ≠ m.next := by have := h.hlt hq0; omega
                    rcases List.mem_cons.1 hmem with h9 | h9
                    · exact absurd h9 hne
                    · have := k3 h9 hne
                      rw [Nat.add_assoc] at this
                      exact this
                have hrow1 : ∃ cells1, m1.heap.get r = some (.row (ea, eb) cells1 f pos) := by
                  rw [hm1heap]
                  obtain ⟨o', k1, k2, _⟩ := q5 r _ hrow
                  obtain ⟨c3, rfl, _⟩ := k2
                  exact ⟨c3, k1⟩
                obtain ⟨cells1, hrow1⟩ := hrow1
                obtain ⟨hB, hq, wcs, lo, hi', hw, hzz, hcr, hclr⟩ := h.obj r _ p hrow hp
                dsimp only at hq hw
                rcases Nat.lt_or_ge c' (n + k) with hlt | hge
                · -- it grows
                  obtain ⟨oldv, ho1, ho2, ho3, _⟩ := h.drew.readCells (P := P) hp hold
                  obtain ⟨_, new2, hfc2, hRL2, hnl2⟩ := appNew_sound (P := P) h.drew hx hnew
                  obtain ⟨c'', hc'', hrun⟩ := run_append_grow hi hz hisz hzs hby hu ha hnz (base := some ⟨p.b, off + p.s, none⟩) (n := n) (c := c') hlen (old := oldv) ho1 hfc2 hlt hg3 ty
                  have hCR : CR ρ (appL old cs) (oldv ++ new2 ++ (Builtin.zeroCells z.cells (c'' - (n + k))).toList).toArray 0 := by
                    rw [appL_eq]
                    intro i v hv
                    obtain ⟨y, hy, hR⟩ := (ho2.append hRL2).get hv
                    refine ⟨y, ?_, hR⟩
                    have hlt := (List.getElem?_eq_some_iff.1 hy).1
                    simp only [Nat.add_zero, List.getElem?_toArray]
                    rw [List.getElem?_append_left hlt]
                    exact hy
                  obtain ⟨pl, hpl⟩ : ∃ pl : Pl, pl = ⟨w.heap.size, 0, (oldv ++ new2 ++ (Builtin.zeroCells z.cells (c'' - (n + k))).toList).toArray.size, eb⟩ := ⟨_, rfl⟩
                  have hle0 : ρ.le (ρ.add m1.next pl) := Rho.le_add (hs2.dom _ (Nat.le_refl _))
                  obtain ⟨h8, h9⟩ := hs2.drew.new (.row (ea, eb) (appL old cs) f (pos + off)) (.cells (oldv ++ new2 ++ (Builtin.zeroCells z.cells (c'' - (n + k))).toList).toArray ea) pl
                    (by rw [hpl]; rfl) (by
                      refine ⟨?_, by rw [hpl], _, 0, 0, rfl, by rw [hpl], ?_, fun i _ h1 => by omega⟩
                      · rw [hpl]; exact h.size
                      · have : pl.s = 0 := by rw [hpl]
                        rw [this]; exact hCR.mono hle0) (by
                      intro e' cs' f' q' he
                      cases he
                      refine ⟨?_, fun l hl => ?_, fun hl => ?_⟩
                      · have := h.rowfam r _ _ _ _ hrow; omega
                      · rw [hfams] at hl; cases hl; rw [hnext]; simp
                      · rw [hfams] at hl; cases hl)
                  refine ⟨_, _, _, hrun, h9, h8, ?_⟩
                  have hat : (ρ.add m1.next pl) m.next = some pl := by rw [hnext]; exact Rho.add_same _ _ _
                  have := R.slice_intro hat (off := 0) (n := n + k) (c := n + k) (c' := c'') (ex := false) hc'' (fun e => by cases e) (fun _ => by
                    rw [hpl]
                    simp only [List.size_toArray, List.length_append, Array.length_toList, zeroCells_size, ho3, hnl2, hzs, Nat.mul_eq]
                    rw [← Nat.add_mul, ← Nat.add_mul]
                    have : n + k + (c'' - (n + k)) = c'' := by omega
                    rw [this]; omega)
                  rw [hpl] at this ⊢
                  exact this
                · -- in place
                  have hroom := hnex rfl
                  rw [hq] at hroom
                  have hmul : n * eb + k * eb ≤ c' * eb := by rw [← Nat.add_mul]; exact Nat.mul_le_mul_right _ hge
                  have hone : ∀ v ∈ new, OneV v := allCells_spec hall hRL
                  obtain ⟨cs', hrun, hz', hg'⟩ := run_storeCells (P := P) (b := p.b) (o := off + p.s + n * eb) new 0 w wcs hw (by rw [hzz, hnl]; omega) (by rw [hzz]; exact hclr) hone
                  simp only [Nat.add_zero] at hg'
                  obtain ⟨old', ho1, ho2, ho3, ho4⟩ := h.readCells (P := P) hp hold
                  have hCR : CR ρ (appL old cs) cs' (p.s + off) := by
                    rw [appL_eq]
                    intro i v hv
                    rw [hg' (i + (p.s + off))]
                    have hol := ho2.length
                    rw [ho3, Nat.mul_eq] at hol
                    rcases Nat.lt_or_ge i old.length with hi1 | hi1
                    · rw [List.getElem?_append_left hi1] at hv
                      rw [if_neg (by omega)]
                      obtain ⟨y, hy, hR⟩ := ho2.get hv
                      refine ⟨y, ?_, hR⟩
                      have := ho4 i y hy
                      rw [cell_of hw] at this
                      rw [show i + (p.s + off) = off + p.s + i from by omega]; exact this
                    · rw [List.getElem?_append_right hi1] at hv
                      obtain ⟨y, hy, hR⟩ := hRL.get hv
                      have := (List.getElem?_eq_some_iff.1 hy).1
                      rw [if_pos (by omega)]
                      exact ⟨y, by rw [show i + (p.s + off) - (off + p.s + n * eb) = i - old.length from by omega]; exact hy, hR⟩
                  obtain ⟨h8, h9⟩ := hs2.alias hrow1 hp hfams (by rw [hnext]; simp) (off := off) (N := k * eb) (D := off + n * eb) (cs := wcs) (lo := lo) (hi := hi') hw hcov hCR (by rw [hz', hzz])
                    (fun j hj => by rw [hg' j, if_neg (by omega)])
                  refine ⟨_, _, _, run_append_place (base := some ⟨p.b, off + p.s, none⟩) (n := n) (c := c') hsize hu ha hnz hlen hfc hge (w' := setBlk w p.b (.cells cs' ea (lo, hi'))) ?_ ty, h9, h8, ?_⟩
                  · dsimp only
                    rw [add_addr]
                    exact hrun
                  · have hat : (ρ.add m1.next ⟨p.b, p.s + off, p.z, p.q⟩) m.next = some ⟨p.b, p.s + off, p.z, p.q⟩ := by rw [hnext]; exact Rho.add_same _ _ _
                    have := R.slice_intro hat (off := 0) (n := n + k) (c := n + k) (c' := c') (ex := false) hge (fun e => by cases e) (fun _ => by
                      dsimp only; rw [hq]; omega)
                    rw [show 0 + (p.s + off) = off + p.s from by omega] at this
                    exact this
      · exact trivial
end
end Go.Abs
