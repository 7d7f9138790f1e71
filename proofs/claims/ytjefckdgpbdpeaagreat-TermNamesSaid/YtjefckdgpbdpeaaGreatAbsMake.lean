/- An executor whose runs hold in every world: a part of it and of what is proved of it. -/
import Derived.Test.YtjefckdgpbdpeaaGreatAbsLight

namespace Go.Abs
open Go

/-- what an operation that makes something says, wherever what it makes will stand -/
def MkR (ρ : Rho) (m : Mem) (w : World) (out : Out) (r : Result Value) : Prop :=
  match out with
  | .val v m' => ∃ g : Nat → AVal, v = g m.next ∧
      ((∃ (e : Elem) (cells : List AVal) (cs : Array Value) (x : Value), m' = Abs.newRow m e cells ∧ CR ρ cells cs 0 ∧ r = .ok x (w.alloc (.cells cs e.1)) ∧ ∀ (ρ2 : Rho) q, ρ2 q = some ⟨w.heap.size, 0, cs.size, e.2⟩ → R ρ2 (g q) x) ∨
       (∃ x : Value, m' = m.new (.map [] 0) ∧ r = .ok x (w.alloc (.map #[] 0)) ∧ ∀ (ρ2 : Rho) q, ρ2 q = some (Pl.obj w.heap.size) → R ρ2 (g q) x))
  | _ => True

section
variable {P : Program} {ρ : Rho} {m : Mem} {w : World}

theorem alloc_mk (t : TypeId) : MkR ρ m w (allocOp m t (zcells P t)) ((Instr.alloc t true (.tuple #[])).run P w) := by
  cases e : zcells P t with
  | none => exact trivial
  | some l =>
    obtain ⟨z, hz, rfl⟩ := zcells_some e
    refine ⟨fun q => .ptr q 0, rfl, .inl ⟨(t, 0), _, z.cells, .pointer (some ⟨w.heap.size, 0, none⟩), rfl, RL.cr (RL.lits _) rfl, ?_, fun ρ2 q hq => R.ptr hq 0⟩⟩
    show ((do let zero ← zeroValue t; pure (.pointer (some (← newVar t zero)))) : Sem Value).run P w = _
    rw [run_bind, run_zeroValue' hz]
    rfl
theorem box_mk (t : TypeId) {v : AVal} {x : Value} (hx : R ρ v x) : MkR ρ m w (boxOp m t v) ((Instr.box t x).run P w) := by
  unfold boxOp
  cases hp : isPoison v with
  | true => exact trivial
  | false =>
    rw [cond_false]
    exact ⟨fun q => .ptr q 0, rfl, .inl ⟨(t, 0), _, x.cells, .pointer (some ⟨w.heap.size, 0, none⟩), rfl, RL.cr (hx.cells hp) rfl, rfl, fun ρ2 q hq => R.ptr hq 0⟩⟩
theorem makeMap_mk (t : TypeId) (a : Option AVal) (x : Option Value) (hx : ∀ v, a = some v → ∃ y, x = some y ∧ R ρ v y) (hn : a = none → x = none) :
    MkR ρ m w (makeMapOp P m t a) ((Instr.makeMap t x).run P w) := by
  have key : ∀ res, res = .ok (.map (some w.heap.size)) (w.alloc (.map #[] 0)) → MkR ρ m w (.val (.map m.next) (m.new (.map [] 0))) res := fun res e => by
    rw [e]; exact ⟨fun q => .map q, rfl, .inr ⟨_, rfl, rfl, fun ρ2 q hq => by simp only [R]; exact ⟨_, hq, rfl⟩⟩⟩
  cases a with
  | none => rw [hn rfl]; exact key _ rfl
  | some v =>
    obtain ⟨y, rfl, hR⟩ := hx v rfl
    cases hu : P.underlying t with
    | none => unfold makeMapOp; rw [hu]; exact trivial
    | some d =>
      cases d with
      | map kt et =>
        cases v with
        | lit z =>
          simp only [R] at hR; subst hR
          cases y with
          | int k i =>
            have : makeMapOp P m t (some (.lit (.int k i))) = .val (.map m.next) (m.new (.map [] 0)) := by unfold makeMapOp; rw [hu]; rfl
            rw [this]
            refine key _ ?_
            unfold Instr.makeMap
            simp only [run_bind, run_underlying' hu, asInt, asIntOf, run_pure]
            rfl
          | _ => unfold makeMapOp; rw [hu]; exact trivial
        | _ => unfold makeMapOp; rw [hu]; exact trivial
      | _ => unfold makeMapOp; rw [hu]; exact trivial
theorem makeSl_mk (t : TypeId) {l c : AVal} {x y : Value} (hx : R ρ l x) (hy : R ρ c y) :
    MkR ρ m w (makeSl P m (natOf l) (natOf c) (sizedElem P (sliceElem P t))) ((Instr.makeSlice t x y).run P w) := by
  cases hs : sizedElem P (sliceElem P t) with
  | none => exact trivial
  | some es =>
    obtain ⟨e, size⟩ := es
    obtain ⟨h1, h2⟩ := sizedElem_some hs
    have hu := sliceElem_some h1
    have nat : ∀ {a : AVal} {v : Value} {n : Nat}, R ρ a v → natOf a = some n → ∃ k, v = .int k (.ofNat n) := by
      intro a v n ha hn
      unfold natOf at hn
      split at hn
      · simp only [R] at ha; cases hn; exact ⟨_, ha⟩
      · cases hn
    cases hl : natOf l with
    | none => exact trivial
    | some ln =>
      cases hc : natOf c with
      | none => exact trivial
      | some cn =>
        obtain ⟨k1, rfl⟩ := nat hx hl
        obtain ⟨k2, rfl⟩ := nat hy hc
        show MkR ρ m w (match some ln, some cn, zcells P e with
          | some l, some c, some z => bif (lenL z).beq size && !(size.beq 0) && l.ble c && c.ble 100000 && growOK P e size then .val (.slice m.next 0 l c true) (newRow m (e, size) (repL z c)) else .bad "makeSlice range"
          | _, _, _ => .bad "makeSlice") _
        cases hz : zcells P e with
        | none => exact trivial
        | some z =>
          dsimp only
          cases hg : ((lenL z).beq size && !(size.beq 0) && ln.ble cn && cn.ble 100000 && growOK P e size) with
          | false => exact trivial
          | true =>
            rw [cond_true]
            simp only [Bool.and_eq_true, nat_beq, nat_ble, lenL_eq, Bool.not_eq_true', nat_beq_f] at hg
            obtain ⟨⟨⟨⟨g1, g2⟩, g3⟩, g4⟩, g5⟩ := hg
            obtain ⟨zv, hz1, rfl⟩ := zcells_some hz
            have g1' : zv.cells.size = size := by simpa using g1
            have hgrow := g5
            unfold growOK at hgrow
            obtain ⟨i, hi, hsz⟩ := tsz_some h2
            rw [hi] at hgrow
            simp only [Bool.and_eq_true, nat_ble, Bool.not_eq_true', nat_beq_f] at hgrow
            obtain ⟨⟨b1, b2⟩, _⟩ := hgrow
            have hcs : ((Array.range (cn * size)).map (zv.cells[· % zv.cells.size]!)).toList = (List.replicate cn zv.cells.toList).flatten := range_rep (by omega) g1'
            refine ⟨fun q => .slice q 0 ln cn true, rfl, .inl ⟨(e, size), _, (Array.range (cn * size)).map (zv.cells[· % zv.cells.size]!), .slice (some ⟨w.heap.size, 0, none⟩) ln cn, rfl, RL.cr (RL.rep (RL.lits _) cn) hcs, ?_, fun ρ2 q hq => by
              simp only [R]
              exact ⟨_, cn, hq, Nat.le_refl _, fun _ => rfl, (fun hh => by cases hh), rfl⟩⟩⟩
            unfold Instr.makeSlice
            have wr : ∀ n : Nat, n ≤ 100000 → IntKind.i64.wrap (Int.ofNat n) = n := by
              intro n hn
              unfold IntKind.wrap
              simp [IntKind.bits, IntKind.signed]
              omega
            have hmul : (i.bytes : Int) * (cn : Int) ≤ 65536 * 100000 := by
              have : i.bytes * cn ≤ 65536 * 100000 := Nat.mul_le_mul b1 g4
              omega
            simp only [run_bind, run_underlying' hu, asInt, asIntOf, run_pure, run_typeInfo' hi, wr ln (by omega), wr cn g4]
            rw [if_neg (by
              simp only [Bool.or_eq_true, decide_eq_true_eq, not_or]
              refine ⟨⟨⟨by omega, by omega⟩, by omega⟩, by omega⟩)]
            rw [run_bind, run_askRoom]
            dsimp only
            rw [run_bind, run_sizeOf' h2]
            dsimp only
            simp only [Int.toNat_natCast]
            by_cases h0 : cn * size = 0
            · rw [if_pos h0, h0]
              simp only [run_bind, run_pure, show Array.range 0 = (#[] : Array Nat) from rfl, Array.map_empty]
              rfl
            · rw [if_neg h0]
              rw [run_bind, run_zeroValue' hz1]
              rfl

theorem buildSlice_mk (t : TypeId) (len : Nat) {ρ' : Operand → Value} {tmps : T AVal} (he : ∀ x, R ρ (evalT tmps x) (ρ' x)) (parts : Array (Nat × Operand)) :
    MkR ρ m w (buildSlice P len (ev2 tmps parts.toList) m (sizedElem P (sliceElem P t))) ((Instr.buildSlice t len (parts.map fun (i, x) => (i, ρ' x))).run P w) := by
  cases hs : sizedElem P (sliceElem P t) with
  | none => exact trivial
  | some es =>
    obtain ⟨e, size⟩ := es
    obtain ⟨h1, h2⟩ := sizedElem_some hs
    have hu := sliceElem_some h1
    show MkR ρ m w (match zcells P e with
      | some z => bif (lenL z).beq size && (len.mul size).ble 10000 && !(size.beq 0) then bsWith m (e, size) len (fillL (fun i => some (i.mul size, size)) (ev2 tmps parts.toList) (repL z len)) else .bad "buildSlice"
      | none => .bad "buildSlice") _
    cases hz : zcells P e with
    | none => exact trivial
    | some z =>
      obtain ⟨zv, hz1, rfl⟩ := zcells_some hz
      dsimp only
      cases hg : ((lenL (zv.cells.toList.map AVal.lit)).beq size && (len.mul size).ble 10000 && !(size.beq 0)) with
      | false => exact trivial
      | true =>
        rw [cond_true]
        simp only [Bool.and_eq_true, nat_beq, nat_ble, lenL_eq, Bool.not_eq_true', nat_beq_f, List.length_map, Array.length_toList] at hg
        obtain ⟨⟨g1, g2⟩, g3⟩ := hg
        have g2' : len * size ≤ 10000 := g2
        obtain ⟨hl, hp⟩ := mem_parts he parts.toList
        have htl : (parts.map fun (i, x) => (i, ρ' x)).toList = parts.toList.map fun x => (x.1, ρ' x.2) := by simp
        cases hf : fillL (fun i => some (i.mul size, size)) (ev2 tmps parts.toList) (repL (zv.cells.toList.map .lit) len) with
        | none => exact trivial
        | some cells' =>
          have hcs := range_rep (z := zv.cells) (q := size) (n := len) (by omega) g1
          obtain ⟨cs', r1, r2⟩ := fill_sound (ρ := ρ) (pa := fun i => some (i.mul size, size)) (pc := fun i => some (i * size, size)) (fun i q e => e) _ _ _
            ((Array.range (len * size)).map (zv.cells[· % zv.cells.size]!)) hf hl hp (by rw [hcs]; exact RL.rep (RL.lits _) len)
          refine ⟨fun q => .slice q 0 len len true, rfl, .inl ⟨(e, size), _, cs', .slice (some ⟨w.heap.size, 0, none⟩) len len, rfl, RL.cr r2 rfl, ?_, fun ρ2 q hq => by
            simp only [R]
            exact ⟨_, len, hq, Nat.le_refl _, fun _ => rfl, (fun hh => by cases hh), rfl⟩⟩⟩
          unfold Instr.buildSlice
          simp only [run_bind, run_underlying' hu, run_sizeOf' h2]
          rw [if_neg (by omega)]
          by_cases h0 : len * size = 0
          · rw [if_pos h0]
            simp only [run_bind, run_pure]
            rw [h0] at r1 ⊢
            simp only [show Array.range 0 = (#[] : Array Nat) from rfl, Array.map_empty] at r1 ⊢
            rw [htl, r1]
            rfl
          · rw [if_neg h0]
            simp only [run_bind, run_zeroValue' hz1, run_pure]
            rw [htl, r1]
            rfl
theorem make_sound {ρ' : Operand → Value} {tmps : T AVal} (o : Oper) (hev : ∀ x, R ρ (evalT tmps x) (ρ' x)) (hk : okind o.op = 2) :
    ∃ s : Sem Value, execOp ρ' o = (do pure (Next.value (← s))) ∧ MkR ρ m w (aop P tmps m o.op) (s.run P w) := by
  cases ho : o.op with
  | alloc t => exact ⟨_, by simp only [execOp, ho], alloc_mk t⟩
  | box t x => exact ⟨_, by simp only [execOp, ho], box_mk t (hev x)⟩
  | buildSlice t len parts => exact ⟨_, by simp only [execOp, ho], buildSlice_mk t len hev parts⟩
  | makeSlice t l c => exact ⟨_, by simp only [execOp, ho], makeSl_mk t (hev l) (hev c)⟩
  | makeMap t r =>
    refine ⟨_, by simp only [execOp, ho], makeMap_mk t (r.map (evalT tmps)) (r.map ρ') ?_ ?_⟩
    · intro v hv
      rw [Option.map_eq_some_iff] at hv
      obtain ⟨x, rfl, rfl⟩ := hv
      exact ⟨_, rfl, hev x⟩
    · intro hv
      rw [Option.map_eq_none_iff] at hv
      rw [hv]; rfl
  | call c =>
    rw [ho] at hk
    obtain ⟨callee, args, ats⟩ := c
    exfalso
    cases callee with
    | builtin b => cases b <;> simp [okind] at hk
    | _ => simp [okind] at hk
  | _ => rw [ho] at hk; simp [okind] at hk
end

/-- an object that nobody has placed yet gets its block -/
theorem MR.place {w0 : Wo} {B : Nat} {ρ : Rho} {m : Mem} {w : World} (h : MR w0 B ρ m w) {r : Nat} {o : AObj} {x : Obj} {p : Pl} (hb : p.b = w.heap.size) (ho : m.heap.get r = some o) (hr : ρ r = none) (hnb : ¬ w0.N r)
    (hx : OR (ρ.add r p) B p (some x) o) : MR w0 B (ρ.add r p) m (w.alloc x) ∧ ρ.le (ρ.add r p) := by
  have hle : ρ.le (ρ.add r p) := Rho.le_add hr
  have hblk : ∀ q o2 p2, m.heap.get q = some o2 → ρ q = some p2 → p2.b ≠ w.heap.size := fun q o2 p2 h1 h2 => Nat.ne_of_lt (h.blk_lt h1 h2)
  refine ⟨⟨?_, ?_, ?_, h.hdom, h.famlt, h.rowfam, h.fam, h.lone, h.below.alloc h.size x, h.base, fun q hq => ⟨(h.ban q hq).1, by
    have hne : q ≠ r := by intro e; subst e; exact hnb hq
    rw [Rho.add_other _ _ hne]; exact (h.ban q hq).2⟩⟩, hle⟩
  · intro q o2 p2 h1 h2
    by_cases hq : q = r
    · subst hq
      rw [ho] at h1; cases h1
      rw [Rho.add_same] at h2; cases h2
      rw [hb, alloc_new]; exact hx
    · rw [Rho.add_other _ _ hq] at h2
      have := h.obj q o2 p2 h1 h2
      rw [alloc_old (h.blk_lt h1 h2)]
      exact this.mono hle
  · intro q q' o1 o2 p1 p2 hne h1 h2 h3 h4 h5
    by_cases hq : q = r
    · subst hq
      rw [Rho.add_same] at h3; cases h3
      rw [Rho.add_other _ _ (Ne.symm hne)] at h4
      exact absurd (h5.symm.trans hb) (hblk q' o2 p2 h2 h4)
    · rw [Rho.add_other _ _ hq] at h3
      by_cases hq' : q' = r
      · subst hq'
        rw [Rho.add_same] at h4; cases h4
        exact absurd (h5.trans hb) (hblk q o1 p1 h1 h3)
      · rw [Rho.add_other _ _ hq'] at h4
        exact h.inj q q' o1 o2 p1 p2 hne h1 h2 h3 h4 h5
  · intro q hq
    have := h.hlt ho
    rw [Rho.add_other _ _ (by omega)]
    exact h.dom q hq
end Go.Abs
