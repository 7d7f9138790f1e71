/- An executor whose runs hold in every world: a part of it and of what is proved of it. -/
import Derived.Test.YtjefckdgpbdpeaaGreatAbsOpsb

namespace Go.Abs
open Go
open Go.RowKit (Below)

section
variable {P : Program} {w0 : Wo} {B : Nat} {ρ : Rho} {m : Mem} {w : World}

theorem mkIface_sound (h : MR w0 B ρ m w) (t : TypeId) {a : AVal} {x : Value} (hx : R ρ a x) :
    VR w0 B ρ (bif concreteT (P.underlying t) then mkIface t m a else .bad "makeInterface") ((Instr.makeInterface t x).run P w) := by
  cases hd : P.underlying t with
  | none => exact trivial
  | some d =>
    have key : concreteT (some d) = true → VR w0 B ρ (mkIface t m a) ((Instr.makeInterface t x).run P w) := by
      intro hc
      have hr : (Instr.makeInterface t x).run P w = .ok (.iface t x) w := by
        unfold Instr.makeInterface
        rw [run_bind, run_underlying' hd]
        cases d <;> first | rfl | (cases hc)
      rw [hr]
      cases a with
      | lit v => simp only [R] at hx; subst hx; exact VR.lit h
      | _ => exact VR.same h (by simp only [R]; exact ⟨_, rfl, hx⟩)
    cases hc : concreteT (some d) with
    | true => exact key hc
    | false => exact trivial

theorem makeMap_sound (h : MR w0 B ρ m w) (t : TypeId) (a : Option AVal) (x : Option Value) (hx : ∀ v, a = some v → ∃ y, x = some y ∧ R ρ v y) (hn : a = none → x = none) :
    VR w0 B ρ (makeMapOp P m t a) ((Instr.makeMap t x).run P w) := by
  obtain ⟨h1, h2⟩ := h.newObj (.map [] 0) (.map #[] 0) (fun _ _ _ _ e => by cases e) (fun ρ' _ => ⟨h.size, rfl, #[], rfl, rfl⟩)
  have key : ∀ res, res = .ok (.map (some w.heap.size)) (w.alloc (.map #[] 0)) → VR w0 B ρ (.val (.map m.next) (m.new (.map [] 0))) res := fun res e => by
    rw [e]; exact ⟨_, _, _, rfl, h2, h1, by simp only [R]; exact ⟨_, Rho.add_same _ _ _, rfl⟩⟩
  cases a with
  | none => rw [hn rfl]; exact key _ rfl
  | some v =>
    obtain ⟨y, rfl, hR⟩ := hx v rfl
    cases hu : P.underlying t with
    | none => unfold makeMapOp; rw [hu]; exact trivial
    | some d =>
      cases d with
      | map kt et =>
        cases v with
        | lit z =>
          simp only [R] at hR; subst hR
          cases y with
          | int k i =>
            have : makeMapOp P m t (some (.lit (.int k i))) = .val (.map m.next) (m.new (.map [] 0)) := by unfold makeMapOp; rw [hu]; rfl
            rw [this]
            refine key _ ?_
            unfold Instr.makeMap
            simp only [run_bind, run_underlying' hu, asInt, asIntOf, run_pure]
            rfl
          | _ => unfold makeMapOp; rw [hu]; exact trivial
        | _ => unfold makeMapOp; rw [hu]; exact trivial
      | _ => unfold makeMapOp; rw [hu]; exact trivial

theorem RL.rep {z : List AVal} {zs : List Value} (h : RL ρ z zs) : ∀ n, RL ρ (repL z n) ((List.replicate n zs).flatten)
  | 0 => by simp [RL, repL_zero]
  | n + 1 => by
    rw [repL_succ, List.replicate_succ, List.flatten_cons]
    exact RL.append h (RL.rep h n)

theorem flatten_get {zs : List Value} {q : Nat} (_hq : 0 < q) (hz : zs.length = q) : ∀ (n i : Nat), i < n * q → ((List.replicate n zs).flatten)[i]? = zs[i % q]? := by
  intro n
  induction n with
  | zero => intro i h; omega
  | succ n ih =>
    intro i h
    rw [List.replicate_succ, List.flatten_cons, List.getElem?_append]
    by_cases hi : i < zs.length
    · rw [if_pos hi, Nat.mod_eq_of_lt (by omega)]
    · rw [if_neg hi, hz, ih (i - q) (by rw [Nat.add_mul] at h; omega)]
      have : i = (i - q) + q := by omega
      conv => rhs; rw [this, Nat.add_mod_right]

theorem range_rep {z : Array Value} {q n : Nat} (hq : 0 < q) (hz : z.size = q) :
    ((Array.range (n * q)).map (z[· % z.size]!)).toList = (List.replicate n z.toList).flatten := by
  apply List.ext_getElem?
  intro i
  by_cases hi : i < n * q
  · rw [flatten_get hq (by simpa using hz) n i hi]
    simp only [Array.toList_map, Array.toList_range, List.getElem?_map, List.getElem?_range hi, Option.map_some]
    have hlt : i % q < z.size := by rw [hz]; exact Nat.mod_lt _ hq
    rw [hz]
    have e1 : z[i % q]! = z[i % q] := by simp [hlt]
    rw [e1]
    simp [hlt]
  · rw [List.getElem?_eq_none (by simp; omega)]
    rw [List.getElem?_eq_none]
    simp only [List.length_flatten, List.map_replicate, List.sum_replicate_nat, Array.length_toList]
    rw [hz]
    omega

theorem run_askRoom (n : Nat) (w : World) : (askRoom n).run P w = .ok () w := by
  unfold askRoom
  split <;> rfl

theorem makeSl_sound (h : MR w0 B ρ m w) (t : TypeId) {l c : AVal} {x y : Value} (hx : R ρ l x) (hy : R ρ c y) :
    VR w0 B ρ (makeSl P m (natOf l) (natOf c) (sizedElem P (sliceElem P t))) ((Instr.makeSlice t x y).run P w) := by
  cases hs : sizedElem P (sliceElem P t) with
  | none => exact trivial
  | some es =>
    obtain ⟨e, size⟩ := es
    obtain ⟨h1, h2⟩ := sizedElem_some hs
    have hu := sliceElem_some h1
    have nat : ∀ {a : AVal} {v : Value} {n : Nat}, R ρ a v → natOf a = some n → ∃ k, v = .int k (.ofNat n) := by
      intro a v n ha hn
      unfold natOf at hn
      split at hn
      · simp only [R] at ha; cases hn; exact ⟨_, ha⟩
      · cases hn
    cases hl : natOf l with
    | none => exact trivial
    | some ln =>
      cases hc : natOf c with
      | none => exact trivial
      | some cn =>
        obtain ⟨k1, rfl⟩ := nat hx hl
        obtain ⟨k2, rfl⟩ := nat hy hc
        show VR w0 B ρ (match some ln, some cn, zcells P e with
          | some l, some c, some z => bif (lenL z).beq size && !(size.beq 0) && l.ble c && c.ble 100000 && growOK P e size then .val (.slice m.next 0 l c true) (newRow m (e, size) (repL z c)) else .bad "makeSlice range"
          | _, _, _ => .bad "makeSlice") _
        cases hz : zcells P e with
        | none => exact trivial
        | some z =>
          dsimp only
          cases hg : ((lenL z).beq size && !(size.beq 0) && ln.ble cn && cn.ble 100000 && growOK P e size) with
          | false => exact trivial
          | true =>
            rw [cond_true]
            simp only [Bool.and_eq_true, nat_beq, nat_ble, lenL_eq, Bool.not_eq_true', nat_beq_f] at hg
            obtain ⟨⟨⟨⟨g1, g2⟩, g3⟩, g4⟩, g5⟩ := hg
            obtain ⟨zv, hz1, rfl⟩ := zcells_some hz
            have g1' : zv.cells.size = size := by simpa using g1
            have hgrow := g5
            unfold growOK at hgrow
            obtain ⟨i, hi, hsz⟩ := tsz_some h2
            rw [hi] at hgrow
            simp only [Bool.and_eq_true, nat_ble, Bool.not_eq_true', nat_beq_f] at hgrow
            obtain ⟨⟨b1, b2⟩, _⟩ := hgrow
            have hcs : ((Array.range (cn * size)).map (zv.cells[· % zv.cells.size]!)).toList = (List.replicate cn zv.cells.toList).flatten := range_rep (by omega) g1'
            obtain ⟨k3, k4⟩ := h.newRow (e, size) (repL (zv.cells.toList.map .lit) cn) ((Array.range (cn * size)).map (zv.cells[· % zv.cells.size]!)) (RL.cr (RL.rep (RL.lits _) cn) hcs)
            refine ⟨_, _, _, ?_, k4, k3, by
              simp only [R]
              exact ⟨_, cn, Rho.add_same _ _ _, Nat.le_refl _, fun _ => rfl, (fun hh => by cases hh), rfl⟩⟩
            unfold Instr.makeSlice
            have wr : ∀ n : Nat, n ≤ 100000 → IntKind.i64.wrap (Int.ofNat n) = n := by
              intro n hn
              unfold IntKind.wrap
              simp [IntKind.bits, IntKind.signed]
              omega
            have hmul : (i.bytes : Int) * (cn : Int) ≤ 65536 * 100000 := by
              have : i.bytes * cn ≤ 65536 * 100000 := Nat.mul_le_mul b1 g4
              omega
            simp only [run_bind, run_underlying' hu, asInt, asIntOf, run_pure, run_typeInfo' hi, wr ln (by omega), wr cn g4]
            rw [if_neg (by
              simp only [Bool.or_eq_true, decide_eq_true_eq, not_or]
              refine ⟨⟨⟨by omega, by omega⟩, by omega⟩, by omega⟩)]
            rw [run_bind, run_askRoom]
            dsimp only
            rw [run_bind, run_sizeOf' h2]
            dsimp only
            simp only [Int.toNat_natCast]
            by_cases h0 : cn * size = 0
            · rw [if_pos h0, h0]
              simp only [run_bind, run_pure, show Array.range 0 = (#[] : Array Nat) from rfl, Array.map_empty]
              rfl
            · rw [if_neg h0]
              rw [run_bind, run_zeroValue' hz1]
              rfl

/-- a field's places -/
theorem placesOf_sound : ∀ (fs : List Field) {pl : List (Nat × Nat)}, placesOf P fs = some pl → ∀ w : World,
    (fs.mapM (fun f => do pure (f.offset, ← sizeOf f.type)) : Sem (List (Nat × Nat))).run P w = .ok pl w := by
  intro fs
  induction fs with
  | nil => intro pl h w; have : some ([] : List (Nat × Nat)) = some pl := h; cases this; rfl
  | cons f fs ih =>
    intro pl h w
    have h' : (match tsz P f.type, placesOf P fs with | some n, some l => some ((f.offset, n) :: l) | _, _ => none) = some pl := h
    cases hn : tsz P f.type with
    | none => rw [hn] at h'; cases h'
    | some n =>
      cases hl : placesOf P fs with
      | none => rw [hn, hl] at h'; cases h'
      | some l =>
        rw [hn, hl] at h'
        cases h'
        rw [List.mapM_cons]
        simp only [run_bind, run_sizeOf' hn, run_pure, ih hl w]

theorem fillL_nil (place : Nat → Option (Nat × Nat)) (cells : List AVal) : fillL place [] cells = some cells := rfl
theorem fillL_cons (place : Nat → Option (Nat × Nat)) (p : Nat × AVal) (rest : List (Nat × AVal)) (cells : List AVal) :
    fillL place (p :: rest) cells = match place p.1 with | none => none | some q => fill1 (fillL place rest) p.2 cells q.1 q.2 := rfl

theorem foldl_put (off : Nat) : ∀ (l : List Value) (j : Nat) (cs : Array Value), off + j + l.length ≤ cs.size →
    ((l.zipIdx j).foldl (fun cs (x : Value × Nat) => cs.setIfInBounds (off + x.2) x.1) cs).size = cs.size ∧
    ∀ i, ((l.zipIdx j).foldl (fun cs (x : Value × Nat) => cs.setIfInBounds (off + x.2) x.1) cs)[i]? = if off + j ≤ i ∧ i < off + j + l.length then l[i - (off + j)]? else cs[i]? := by
  intro l
  induction l with
  | nil => intro j cs _; simp; intro i h1 h2; omega
  | cons x l ih =>
    intro j cs hl
    simp only [List.zipIdx_cons, List.foldl_cons, List.length_cons] at hl ⊢
    obtain ⟨h1, h2⟩ := ih (j + 1) (cs.setIfInBounds (off + j) x) (by simp; omega)
    refine ⟨by rw [h1]; simp, fun i => ?_⟩
    rw [h2 i]
    by_cases h3 : i = off + j
    · subst h3
      rw [if_neg (by omega), if_pos (by omega), Array.getElem?_setIfInBounds, if_pos rfl, if_pos (by omega)]
      simp
    · by_cases h4 : off + (j + 1) ≤ i ∧ i < off + (j + 1) + l.length
      · rw [if_pos h4, if_pos (by omega), show i - (off + j) = (i - (off + (j + 1))) + 1 from by omega]
        simp
      · rw [if_neg h4, if_neg (by omega), Array.getElem?_setIfInBounds, if_neg (by omega)]

theorem fill_sound {pa pc : Nat → Option (Nat × Nat)} (hpl : ∀ i q, pa i = some q → pc i = some q) : ∀ (parts : List (Nat × AVal)) (xs : List (Nat × Value)) (cells : List AVal) (cs : Array Value) {cells' : List AVal},
    fillL pa parts cells = some cells' → parts.length = xs.length → (∀ (i : Nat) (a : Nat × AVal), parts[i]? = some a → ∃ x, xs[i]? = some x ∧ x.1 = a.1 ∧ R ρ a.2 x.2) →
    RL ρ cells cs.toList → ∃ cs', Instr.fill pc cs xs = some cs' ∧ RL ρ cells' cs'.toList := by
  intro parts
  induction parts with
  | nil =>
    intro xs cells cs cells' h hl _ hc
    rw [fillL_nil] at h; cases h
    obtain rfl : xs = [] := List.length_eq_zero_iff.1 hl.symm
    exact ⟨cs, rfl, hc⟩
  | cons a rest ih =>
    intro xs cells cs cells' h hl hx hc
    cases xs with
    | nil => simp at hl
    | cons x xs =>
      obtain ⟨y, hy, e1, e2⟩ := hx 0 a rfl
      simp only [List.getElem?_cons_zero, Option.some.injEq] at hy
      subst hy
      rw [fillL_cons] at h
      cases hq : pa a.1 with
      | none => rw [hq] at h; cases h
      | some q =>
        rw [hq] at h
        dsimp only at h
        unfold fill1 at h
        cases hz : (!(isPoison a.2) && (lenL a.2.cells).beq q.2) with
        | false => rw [hz] at h; cases h
        | true =>
          rw [hz, cond_true] at h
          simp only [Bool.and_eq_true, Bool.not_eq_true', nat_beq, lenL_eq] at hz
          obtain ⟨e3, hz⟩ := hz
          cases hp : putCells a.2.cells q.1 cells with
          | none => rw [hp] at h; cases h
          | some cells1 =>
            rw [hp] at h
            dsimp only at h
            obtain ⟨k1, k2, k3⟩ := putCells_spec _ _ _ _ hp
            have hcl := hc.length
            have hac := e2.cells e3
            have hal := hac.length
            simp at hcl hal
            have hsz : x.2.cells.size = q.2 := by omega
            obtain ⟨f1, f2⟩ := foldl_put q.1 x.2.cells.toList 0 cs (by simp; omega)
            have hnew : RL ρ cells1 (((x.2.cells.toList.zipIdx 0).foldl (fun cs (x : Value × Nat) => cs.setIfInBounds (q.1 + x.2) x.1) cs)).toList := by
              refine RL.of_get (by simp; omega) fun i v hv => ?_
              rw [k3 i] at hv
              rw [Array.getElem?_toList, f2 i]
              by_cases hin : q.1 ≤ i ∧ i < q.1 + a.2.cells.length
              · rw [if_pos hin] at hv
                obtain ⟨u, hu, hR⟩ := hac.get hv
                refine ⟨u, ?_, hR⟩
                rw [if_pos (by simp; omega)]
                simpa using hu
              · rw [if_neg hin] at hv
                obtain ⟨u, hu, hR⟩ := hc.get hv
                refine ⟨u, ?_, hR⟩
                rw [if_neg (by simp; omega)]
                simpa using hu
            obtain ⟨cs', r1, r2⟩ := ih xs cells1 _ h (by simpa using hl) (fun i b hb => hx (i + 1) b (by simpa using hb)) hnew
            refine ⟨cs', ?_, r2⟩
            obtain ⟨x1, x2⟩ := x
            dsimp only at e1 e2 hsz r1
            subst e1
            unfold Instr.fill
            rw [hpl _ _ hq]
            dsimp only
            rw [if_neg (by simp; omega)]
            rw [← r1]
            congr 1
            rw [← Array.foldl_toList]
            simp
theorem mem_parts {ρ' : Operand → Value} {tmps : T AVal} (he : ∀ x, R ρ (evalT tmps x) (ρ' x)) (parts : List (Nat × Operand)) :
    (ev2 tmps parts).length = (parts.map fun x => (x.1, ρ' x.2)).length ∧
    ∀ (i : Nat) (a : Nat × AVal), (ev2 tmps parts)[i]? = some a → ∃ x, (parts.map fun x => (x.1, ρ' x.2))[i]? = some x ∧ x.1 = a.1 ∧ R ρ a.2 x.2 := by
  unfold ev2
  rw [mapL_eq]
  refine ⟨by simp, fun i a ha => ?_⟩
  rw [List.getElem?_map] at ha ⊢
  cases hp : parts[i]? with
  | none => rw [hp] at ha; cases ha
  | some q =>
    rw [hp] at ha
    simp only [Option.map_some, Option.some.injEq] at ha
    subst ha
    exact ⟨_, rfl, rfl, he q.2⟩

theorem build_sound (h : MR w0 B ρ m w) (t : TypeId) {ρ' : Operand → Value} {tmps : T AVal} (he : ∀ x, R ρ (evalT tmps x) (ρ' x)) (parts : Array (Nat × Operand)) :
    VR w0 B ρ (buildOp P t (ev2 tmps parts.toList) m (zcells P t)) ((Instr.build t (parts.map fun (i, x) => (i, ρ' x))).run P w) := by
  cases hz : zcells P t with
  | none => exact trivial
  | some z =>
    obtain ⟨zv, hz1, rfl⟩ := zcells_some hz
    show VR w0 B ρ (buildIn P (ev2 tmps parts.toList) m (zv.cells.toList.map .lit) (P.underlying t)) _
    obtain ⟨hl, hp⟩ := mem_parts he parts.toList
    have htl : (parts.map fun (i, x) => (i, ρ' x)).toList = parts.toList.map fun x => (x.1, ρ' x.2) := by simp
    have fin : ∀ (pa pc : Nat → Option (Nat × Nat)) (res : Result Value), (∀ i q, pa i = some q → pc i = some q) →
        (∀ cs', Instr.fill pc zv.cells (parts.map fun (i, x) => (i, ρ' x)).toList = some cs' → res = .ok (.agg cs') w) →
        VR w0 B ρ (buildWith m (fillL pa (ev2 tmps parts.toList) (zv.cells.toList.map .lit))) res := by
      intro pa pc res hpl hres
      cases hf : fillL pa (ev2 tmps parts.toList) (zv.cells.toList.map .lit) with
      | none => exact trivial
      | some cells' =>
        obtain ⟨cs', r1, r2⟩ := fill_sound (ρ := ρ) hpl _ _ _ zv.cells hf hl hp (RL.lits _)
        rw [hres cs' (by rw [htl]; exact r1)]
        exact VR.same h (by simp only [R]; exact ⟨_, rfl, r2⟩)
    cases hu : P.underlying t with
    | none => exact trivial
    | some d =>
      cases d with
      | struct fs =>
        show VR w0 B ρ (buildPl (ev2 tmps parts.toList) m (zv.cells.toList.map .lit) (placesOf P fs.toList)) _
        cases hpl : placesOf P fs.toList with
        | none => exact trivial
        | some pl =>
          refine fin _ (fun i => (pl.toArray)[i]?) _ (fun i q e => by rw [getO_eq] at e; simpa using e) fun cs' hcs => ?_
          unfold Instr.build
          simp only [run_bind, run_zeroValue' hz1, run_underlying' hu]
          have hm : (fs.mapM (fun f => do pure (f.offset, ← sizeOf f.type)) : Sem (Array (Nat × Nat))).run P w = .ok pl.toArray w := by
            rw [Array.mapM_eq_mapM_toList]
            show ((List.toArray <$> _) : Sem _).run P w = _
            rw [map_eq_pure_bind, run_bind, placesOf_sound fs.toList hpl w]
            rfl
          rw [hm]
          simp only [hcs]
          rfl
      | array n e =>
        show VR w0 B ρ (buildArr (ev2 tmps parts.toList) m (zv.cells.toList.map .lit) (tsz P e)) _
        cases hs : tsz P e with
        | none => exact trivial
        | some size =>
          refine fin _ (fun i => some (i * size, size)) _ (fun i q e => e) fun cs' hcs => ?_
          unfold Instr.build
          simp only [run_bind, run_zeroValue' hz1, run_underlying' hu, run_sizeOf' hs, hcs]
          rfl
      | _ => exact trivial

theorem buildSlice_sound (h : MR w0 B ρ m w) (t : TypeId) (len : Nat) {ρ' : Operand → Value} {tmps : T AVal} (he : ∀ x, R ρ (evalT tmps x) (ρ' x)) (parts : Array (Nat × Operand)) :
    VR w0 B ρ (buildSlice P len (ev2 tmps parts.toList) m (sizedElem P (sliceElem P t))) ((Instr.buildSlice t len (parts.map fun (i, x) => (i, ρ' x))).run P w) := by
  cases hs : sizedElem P (sliceElem P t) with
  | none => exact trivial
  | some es =>
    obtain ⟨e, size⟩ := es
    obtain ⟨h1, h2⟩ := sizedElem_some hs
    have hu := sliceElem_some h1
    show VR w0 B ρ (match zcells P e with
      | some z => bif (lenL z).beq size && (len.mul size).ble 10000 && !(size.beq 0) then bsWith m (e, size) len (fillL (fun i => some (i.mul size, size)) (ev2 tmps parts.toList) (repL z len)) else .bad "buildSlice"
      | none => .bad "buildSlice") _
    cases hz : zcells P e with
    | none => exact trivial
    | some z =>
      obtain ⟨zv, hz1, rfl⟩ := zcells_some hz
      dsimp only
      cases hg : ((lenL (zv.cells.toList.map AVal.lit)).beq size && (len.mul size).ble 10000 && !(size.beq 0)) with
      | false => exact trivial
      | true =>
        rw [cond_true]
        simp only [Bool.and_eq_true, nat_beq, nat_ble, lenL_eq, Bool.not_eq_true', nat_beq_f, List.length_map, Array.length_toList] at hg
        obtain ⟨⟨g1, g2⟩, g3⟩ := hg
        have g2' : len * size ≤ 10000 := g2
        obtain ⟨hl, hp⟩ := mem_parts he parts.toList
        have htl : (parts.map fun (i, x) => (i, ρ' x)).toList = parts.toList.map fun x => (x.1, ρ' x.2) := by simp
        cases hf : fillL (fun i => some (i.mul size, size)) (ev2 tmps parts.toList) (repL (zv.cells.toList.map .lit) len) with
        | none => exact trivial
        | some cells' =>
          have hcs := range_rep (z := zv.cells) (q := size) (n := len) (by omega) g1
          obtain ⟨cs', r1, r2⟩ := fill_sound (ρ := ρ) (pa := fun i => some (i.mul size, size)) (pc := fun i => some (i * size, size)) (fun i q e => e) _ _ _
            ((Array.range (len * size)).map (zv.cells[· % zv.cells.size]!)) hf hl hp (by rw [hcs]; exact RL.rep (RL.lits _) len)
          obtain ⟨k3, k4⟩ := h.newRow (e, size) cells' cs' (RL.cr r2 rfl)
          refine ⟨_, _, _, ?_, k4, k3, by
            simp only [R]
            exact ⟨_, len, Rho.add_same _ _ _, Nat.le_refl _, fun _ => rfl, (fun hh => by cases hh), rfl⟩⟩
          unfold Instr.buildSlice
          simp only [run_bind, run_underlying' hu, run_sizeOf' h2]
          rw [if_neg (by omega)]
          by_cases h0 : len * size = 0
          · rw [if_pos h0]
            simp only [run_bind, run_pure]
            rw [h0] at r1 ⊢
            simp only [show Array.range 0 = (#[] : Array Nat) from rfl, Array.map_empty] at r1 ⊢
            rw [htl, r1]
            rfl
          · rw [if_neg h0]
            simp only [run_bind, run_zeroValue' hz1, run_pure]
            rw [htl, r1]
            rfl
end
end Go.Abs
