/- An executor whose runs hold in every world: a part of it and of what is proved of it. -/
import Derived.Test.YtjefckdgpbdpeaaGreatAbsStore

namespace Go.Abs
open Go
open Go.RowKit (Below)

section
variable {P : Program} {w0 : Wo} {B : Nat} {ρ : Rho} {m : Mem} {w : World}

theorem value_ok {α : Type} : ∀ (s : Sem α) {a : α}, value? P s = .ok a → ∀ w : World, s.run P w = .ok a w := by
  intro s
  induction s with
  | pure b => intro a h w; simp only [value?] at h; cases h; rfl
  | program k ih => intro a h w; simp only [value?] at h; simp only [Sem.run]; exact ih P h w
  | mark m k ih => intro a h w; simp only [value?] at h; simp only [Sem.run]; exact ih h w
  | halt x => intro a h w; cases x <;> simp [value?] at h
  | _ => intro a h w; simp [value?] at h
theorem value_panic {α : Type} : ∀ (s : Sem α) {v : Value}, value? P s = .error (some v) → ∀ w : World, s.run P w = .halt (.panic v) w := by
  intro s
  induction s with
  | pure b => intro v h w; simp [value?] at h
  | program k ih => intro v h w; simp only [value?] at h; simp only [Sem.run]; exact ih P h w
  | mark m k ih => intro v h w; simp only [value?] at h; simp only [Sem.run]; exact ih h w
  | halt x => intro v h w; cases x <;> simp [value?] at h; subst h; rfl
  | _ => intro v h w; simp [value?] at h

/-- what an operation on abstract memory says of its run -/
def VR (w0 : Wo) (B : Nat) (ρ : Rho) (out : Out) (r : Result Value) : Prop :=
  match out with
  | .val v m' => ∃ x w' ρ', r = .ok x w' ∧ ρ.le ρ' ∧ MR w0 B ρ' m' w' ∧ R ρ' v x
  | .panic v m' => ∃ x w' ρ', r = .halt (.panic x) w' ∧ ρ.le ρ' ∧ MR w0 B ρ' m' w' ∧ R ρ' v x
  | .bad _ => True
  | _ => False
theorem VR.bad {why : String} {r : Result Value} : VR w0 B ρ (.bad why) r := trivial
theorem VR.same {v : AVal} {x : Value} (h : MR w0 B ρ m w) (hv : R ρ v x) : VR w0 B ρ (.val v m) (.ok x w) := ⟨x, w, ρ, rfl, Rho.le.refl ρ, h, hv⟩
theorem VR.lit {v : Value} (h : MR w0 B ρ m w) : VR w0 B ρ (.val (.lit v) m) (.ok v w) := VR.same h (by simp [R])
theorem VR.panic {v : AVal} {x : Value} (h : MR w0 B ρ m w) (hv : R ρ v x) : VR w0 B ρ (.panic v m) (.halt (.panic x) w) := ⟨x, w, ρ, rfl, Rho.le.refl ρ, h, hv⟩
theorem VR.of_eq {out : Out} {r r' : Result Value} (h : VR w0 B ρ out r) (e : r' = r) : VR w0 B ρ out r' := e ▸ h

theorem pureOp_sound (h : MR w0 B ρ m w) (s : Sem Value) (why : String) : VR w0 B ρ (pureOp P s m why) (s.run P w) := by
  unfold pureOp outOf
  cases e : value? P s with
  | ok v => rw [value_ok s e w]; exact VR.lit h
  | error o =>
    cases o with
    | some v => rw [value_panic s e w]; exact VR.panic h (by simp [R])
    | none => exact trivial

/-! ## tables -/
theorem run_underlying' {t : TypeId} {d : TypeDesc} (e : P.underlying t = some d) (w : World) : (underlying t).run P w = .ok d w := by
  show ((do match (← program).underlying t with | some d => pure d | none => stuck "no such type") : Sem TypeDesc).run P w = _
  rw [run_bind]
  simp only [program, Sem.run, e]
  rfl
theorem run_typeInfo' {t : TypeId} {i : TypeInfo} (e : P.info? t = some i) (w : World) : (typeInfo t).run P w = .ok i w := by
  show ((do match (← program).info? t with | some i => pure i | none => stuck "no such type") : Sem TypeInfo).run P w = _
  rw [run_bind]
  simp only [program, Sem.run, e]
  rfl
theorem tsz_some {t n : Nat} (e : tsz P t = some n) : ∃ i, P.info? t = some i ∧ i.size = n := by
  unfold tsz at e
  split at e
  · rename_i i hi; cases e; exact ⟨i, hi, rfl⟩
  · cases e
theorem run_sizeOf' {t n : Nat} (e : tsz P t = some n) (w : World) : (sizeOf t).run P w = .ok n w := by
  obtain ⟨i, hi, rfl⟩ := tsz_some e
  show ((do pure (← typeInfo t).size) : Sem Nat).run P w = _
  rw [run_bind, run_typeInfo' hi]
  rfl
theorem run_isAgg' {t : TypeId} {b : Bool} (e : tagg P t = some b) (w : World) : (isAgg t).run P w = .ok b w := by
  unfold tagg at e
  split at e
  · rename_i d hd
    cases e
    show ((do match ← underlying t with | .struct _ | .array _ _ => pure true | _ => pure false) : Sem Bool).run P w = _
    rw [run_bind, run_underlying' hd]
    cases d <;> rfl
  · cases e
theorem tzero_some {t : TypeId} {z : Value} (e : tzero P t = some z) : ∃ i, P.info? t = some i ∧ i.zero = some z := by
  unfold tzero at e
  split at e
  · rename_i i hi; exact ⟨i, hi, e⟩
  · cases e
theorem run_zeroValue' {t : TypeId} {z : Value} (e : tzero P t = some z) (w : World) : (zeroValue t).run P w = .ok z w := by
  obtain ⟨i, hi, hz⟩ := tzero_some e
  show ((do match (← typeInfo t).zero with | some v => pure v | none => unsupported (.resourceLimit "a value of more than 2^22 cells")) : Sem Value).run P w = _
  rw [run_bind, run_typeInfo' hi]
  simp only [hz]
  rfl
theorem zcells_some {t : TypeId} {l : List AVal} (e : zcells P t = some l) : ∃ z, tzero P t = some z ∧ l = z.cells.toList.map .lit := by
  unfold zcells at e
  split at e
  · rename_i z hz
    cases e
    refine ⟨z, hz, ?_⟩
    cases z <;> simp [AVal.cells, Value.cells, mapL_eq]
  · cases e
theorem sliceElem_some {t e : TypeId} (h : sliceElem P t = some e) : P.underlying t = some (.slice e) := by
  unfold sliceElem at h
  split at h
  · rename_i e' he; cases h; exact he
  · cases h
theorem sizedElem_some {o : Option TypeId} {e n : Nat} (h : sizedElem P o = some (e, n)) : o = some e ∧ tsz P e = some n := by
  unfold sizedElem at h
  split at h
  · split at h
    · rename_i hn; cases h; exact ⟨rfl, hn⟩
    · cases h
  · cases h
theorem fieldOf_some {s : TypeId} {f : Nat} {fd : Field} (h : fieldOf P s f = some fd) : ∃ fs, P.underlying s = some (.struct fs) ∧ fs[f]? = some fd := by
  unfold fieldOf at h
  split at h
  · rename_i fs hs; exact ⟨fs, hs, h⟩
  · cases h

/-! ## loads and parts -/
theorem aggO_some {o : Option (List AVal)} {v : AVal} (h : aggO o = some v) : ∃ l, o = some l ∧ v = .agg l := by
  unfold aggO at h
  split at h
  · rename_i l; cases h; exact ⟨l, rfl, rfl⟩
  · cases h
theorem loadVar_sound (h : MR w0 B ρ m w) {t : TypeId} {r off : Nat} {p : Pl} (hp : ρ r = some p) {v : AVal} (e : Abs.loadVar P m t r off = some v) :
    ∃ x, (Go.loadVar t ⟨p.b, off + p.s, none⟩).run P w = .ok x w ∧ R ρ v x := by
  unfold Abs.loadVar loadAs at e
  show ∃ x, ((do if ← isAgg t then pure (.agg (← loadCells ⟨p.b, off + p.s, none⟩ (← sizeOf t))) else load ⟨p.b, off + p.s, none⟩) : Sem Value).run P w = .ok x w ∧ R ρ v x
  split at e
  · rename_i n ha hn
    obtain ⟨l, hl, rfl⟩ := aggO_some e
    obtain ⟨xs, h1, h2, _⟩ := h.readCells (P := P) hp hl
    refine ⟨.agg xs.toArray, ?_, by simp only [R]; exact ⟨_, rfl, h2⟩⟩
    rw [run_bind, run_isAgg' ha]
    simp only [if_true]
    rw [run_bind, run_sizeOf' hn]
    simp only
    rw [run_bind, h1]
    rfl
  · rename_i ha
    obtain ⟨x, h1, h2⟩ := h.read1 (P := P) hp e
    refine ⟨x, ?_, h2⟩
    rw [run_bind, run_isAgg' ha]
    simp only [Bool.false_eq_true, if_false]
    exact h1
  · cases e
theorem part_sound {t : TypeId} {cs : List AVal} {xs : Array Value} {off : Nat} {v : AVal} (hc : RL ρ cs xs.toList) (e : Abs.part P t cs off = some v) (w : World) :
    ∃ x, (Go.part t xs off).run P w = .ok x w ∧ R ρ v x := by
  unfold Abs.part partAs at e
  show ∃ x, ((do if ← isAgg t then pure (.agg (xs.extract off (off + (← sizeOf t)))) else match xs[off]? with | some v => pure v | none => stuck "part: no such cell") : Sem Value).run P w = .ok x w ∧ R ρ v x
  split at e
  · rename_i n ha hn
    obtain ⟨l, hl, rfl⟩ := aggO_some e
    obtain ⟨h1, h2⟩ := takeN_spec _ _ _ hl
    rw [dropN_eq] at h2
    refine ⟨.agg (xs.extract off (off + n)), ?_, ?_⟩
    · rw [run_bind, run_isAgg' ha]
      simp only [if_true]
      rw [run_bind, run_sizeOf' hn]
      rfl
    · simp only [R]
      refine ⟨_, rfl, ?_⟩
      have hlen := hc.length
      have hsz : n = 0 ∨ off + n ≤ xs.size := by
        rcases Nat.eq_zero_or_pos n with h0 | h0
        · exact .inl h0
        · obtain ⟨h3, _⟩ := h2 (n - 1) l[n - 1] (List.getElem?_eq_getElem (by omega))
          rw [List.getElem?_drop] at h3
          have := (List.getElem?_eq_some_iff.1 h3).1
          simp at hlen
          exact .inr (by omega)
      refine RL.of_get ?_ fun i u hu => ?_
      · simp only [Array.toList_extract, List.extract_eq_take_drop, List.length_take, List.length_drop, Array.length_toList]
        omega
      · obtain ⟨h3, _⟩ := h2 i u hu
        rw [List.getElem?_drop] at h3
        obtain ⟨y, hy, hR⟩ := hc.get h3
        refine ⟨y, ?_, hR⟩
        have hi := (List.getElem?_eq_some_iff.1 hu).1
        simp only [Array.toList_extract, List.extract_eq_take_drop, List.getElem?_take, List.getElem?_drop]
        rw [if_pos (by omega)]
        exact hy
  · rename_i ha
    obtain ⟨h1, _⟩ := sound1_some e
    rw [getO_eq] at h1
    obtain ⟨y, hy, hR⟩ := hc.get h1
    refine ⟨y, ?_, hR⟩
    rw [run_bind, run_isAgg' ha]
    simp only [Bool.false_eq_true, if_false]
    have : xs[off]? = some y := by simpa using hy
    rw [this]
    rfl
  · cases e
end
end Go.Abs

namespace Go.Abs
open Go
open Go.RowKit (Below)

section
variable {P : Program} {w0 : Wo} {B : Nat} {ρ : Rho} {m : Mem} {w : World}

theorem RL.cr {cells : List AVal} {xs : List Value} (h : RL ρ cells xs) {a : Array Value} (ha : a.toList = xs) : CR ρ cells a 0 := by
  intro i v hv
  obtain ⟨y, hy, hR⟩ := h.get hv
  exact ⟨y, by rw [← ha] at hy; simpa using hy, hR⟩
theorem run_newObj' (o : Obj) (w : World) : (Go.newObj o).run P w = .ok w.heap.size (w.alloc o) := rfl
theorem run_newRow' (t : TypeId) (cs : Array Value) (w : World) : (Go.newRow t cs).run P w = .ok ⟨w.heap.size, 0, none⟩ (w.alloc (.cells cs t)) := rfl
theorem R.ptr {r : Nat} {p : Pl} (hp : ρ r = some p) (off : Nat) : R ρ (.ptr r off) (.pointer (some ⟨p.b, off + p.s, none⟩)) := by simp only [R]; exact ⟨p, hp, rfl⟩

theorem nilDeref_sound (_h : MR w0 B ρ m w) {α : Type} (_e : (runtimePanic .nilDeref : Sem α).run P w = .halt (.panic (.iface P.rt.errorString (strVal "invalid memory address or nil pointer dereference"))) w → Prop) : True := trivial
theorem run_nilDeref {α : Type} (w : World) : (runtimePanic .nilDeref : Sem α).run P w = .halt (.panic (.iface P.rt.errorString (strVal "invalid memory address or nil pointer dereference"))) w := rfl
theorem VR.nil (h : MR w0 B ρ m w) : VR w0 B ρ (nilDeref P m) (.halt (.panic (.iface P.rt.errorString (strVal "invalid memory address or nil pointer dereference"))) w) :=
  VR.panic h (by simp [R, rtErr])

theorem load_sound (h : MR w0 B ρ m w) (t : TypeId) {a : AVal} {x : Value} (hx : R ρ a x) : VR w0 B ρ (loadOp P t m a) ((Instr.loadAt t x).run P w) := by
  cases a with
  | ptr r off =>
    simp only [R] at hx
    obtain ⟨p, hp, rfl⟩ := hx
    show VR w0 B ρ (valO m "load" (Abs.loadVar P m t r off)) _
    cases e : Abs.loadVar P m t r off with
    | none => exact trivial
    | some v =>
      obtain ⟨y, h1, h2⟩ := loadVar_sound h hp e
      refine (VR.same h h2).of_eq ?_
      show ((do Go.loadVar t (← Instr.sureAddr _)) : Sem Value).run P w = _
      rw [run_bind]
      exact h1
  | _ => exact trivial

theorem alloc_sound (h : MR w0 B ρ m w) (t : TypeId) : VR w0 B ρ (allocOp m t (zcells P t)) ((Instr.alloc t true (.tuple #[])).run P w) := by
  cases e : zcells P t with
  | none => exact trivial
  | some l =>
    obtain ⟨z, hz, rfl⟩ := zcells_some e
    obtain ⟨h1, h2⟩ := h.newRow (t, 0) (z.cells.toList.map .lit) z.cells (RL.cr (RL.lits _) rfl)
    refine ⟨_, _, _, ?_, h2, h1, R.ptr (Rho.add_same _ _ _) 0⟩
    show ((do let zero ← zeroValue t; pure (.pointer (some (← newVar t zero)))) : Sem Value).run P w = _
    rw [run_bind, run_zeroValue' hz]
    rfl

theorem box_sound (h : MR w0 B ρ m w) (t : TypeId) {v : AVal} {x : Value} (hx : R ρ v x) : VR w0 B ρ (boxOp m t v) ((Instr.box t x).run P w) := by
  unfold boxOp
  cases hp : isPoison v with
  | true => exact trivial
  | false =>
    rw [cond_false]
    obtain ⟨h1, h2⟩ := h.newRow (t, 0) v.cells x.cells (RL.cr (hx.cells hp) rfl)
    exact ⟨_, _, _, rfl, h2, h1, R.ptr (Rho.add_same _ _ _) 0⟩

/-- what a store says -/
def UR (w0 : Wo) (B : Nat) (ρ : Rho) (out : Out) (r : Result Unit) : Prop :=
  match out with
  | .val v m' => v = .poison ∧ ∃ w' ρ', r = .ok () w' ∧ ρ.le ρ' ∧ MR w0 B ρ' m' w'
  | .panic v m' => ∃ x w' ρ', r = .halt (.panic x) w' ∧ ρ.le ρ' ∧ MR w0 B ρ' m' w' ∧ R ρ' v x
  | .bad _ => True
  | _ => False

theorem store_sound (h : MR w0 B ρ m w) (t : TypeId) {a v : AVal} {x y : Value} (hx : R ρ a x) (hy : R ρ v y) : UR w0 B ρ (storeOp P t m v a) ((Instr.storeAt t x y).run P w) := by
  cases a with
  | ptr r off =>
    simp only [R] at hx
    obtain ⟨p, hp, rfl⟩ := hx
    show UR w0 B ρ (bif isPoison v then .bad "store poison" else storeAs m r off v.cells (tsz P t)) _
    cases hpo : isPoison v with
    | true => exact trivial
    | false =>
      rw [cond_false]
      cases hn : tsz P t with
      | some n =>
        show UR w0 B ρ (bif (lenL v.cells).beq n then skipO "store" (Abs.storeCells m r off v.cells) else .bad "store size") _
        cases hl : (lenL v.cells).beq n with
        | false => exact trivial
        | true =>
          rw [cond_true]
          rw [nat_beq, lenL_eq] at hl
          unfold skipO
          cases e : Abs.storeCells m r off v.cells with
          | none => exact trivial
          | some m' =>
            have hc := hy.cells hpo
            obtain ⟨w', h1, h2⟩ := h.storeCells (P := P) hp e hc
            refine ⟨rfl, w', ρ, ?_, Rho.le.refl ρ, h2⟩
            have hsz : y.cells.size = n := by have := hc.length; simp at this; omega
            unfold Instr.storeAt
            rw [run_bind]
            simp only [Instr.sureAddr, run_pure]
            unfold Go.storeVar
            rw [run_bind, run_sizeOf' hn]
            simp only [hsz, ne_eq, not_true_eq_false, if_false]
            exact h1
      | none => exact trivial
  | _ => exact trivial

theorem nilCheck_sound (_h : MR w0 B ρ m w) {v : AVal} {x : Value} (hx : R ρ v x) (o : Oper) (ρ' : Operand → Value) (a : Operand) (ho : o.op = .nilCheck a) (ha : ρ' a = x) :
    match nilCheck P m v with
    | .val u m' => m' = m ∧ R ρ u x ∧ (execOp ρ' o).run P w = .ok (.value x) w
    | .panic u m' => m' = m ∧ ∃ y, R ρ u y ∧ (execOp ρ' o).run P w = .halt (.panic y) w
    | .bad _ => True
    | _ => False := by
  have nilp : (execOp ρ' o).run P w = .halt (.panic (.iface P.rt.errorString (strVal "invalid memory address or nil pointer dereference"))) w →
      ∃ y, R ρ (rtErr P "invalid memory address or nil pointer dereference") y ∧ (execOp ρ' o).run P w = .halt (.panic y) w := fun e => ⟨_, by simp [R, rtErr], e⟩
  cases v with
  | lit v =>
    have hx' := hx
    simp only [R] at hx; subst hx
    cases x with
    | pointer b =>
      cases b with
      | none => exact ⟨rfl, nilp (by unfold execOp; rw [ho]; simp only [ha]; rfl)⟩
      | some b => exact trivial
    | nilIface => exact ⟨rfl, nilp (by unfold execOp; rw [ho]; simp only [ha]; rfl)⟩
    | nilFunc => exact ⟨rfl, nilp (by unfold execOp; rw [ho]; simp only [ha]; rfl)⟩
    | iface t y => exact ⟨rfl, hx', by unfold execOp; rw [ho]; simp only [ha]; rfl⟩
    | func fn f c =>
      cases fn with
      | method n => exact trivial
      | _ => exact ⟨rfl, hx', by unfold execOp; rw [ho]; simp only [ha]; rfl⟩
    | _ => exact trivial
  | ptr r off => have hx' := hx; simp only [R] at hx; obtain ⟨p, hp, rfl⟩ := hx; exact ⟨rfl, hx', by unfold execOp; rw [ho]; simp only [ha]; rfl⟩
  | func fn f c =>
    have hx' := hx
    simp only [R] at hx
    obtain ⟨h0, f', c', rfl, _⟩ := hx
    cases fn with
    | method n => exact trivial
    | _ => exact ⟨rfl, hx', by unfold execOp; rw [ho]; simp only [ha]; rfl⟩
  | yield l => have hx' := hx; simp only [R] at hx; obtain ⟨p, hp, rfl⟩ := hx; exact ⟨rfl, hx', by unfold execOp; rw [ho]; simp only [ha]; rfl⟩
  | iface t v => have hx' := hx; simp only [R] at hx; obtain ⟨p, rfl, _⟩ := hx; exact ⟨rfl, hx', by unfold execOp; rw [ho]; simp only [ha]; rfl⟩
  | _ => exact trivial

theorem pick_sound (h : MR w0 B ρ m w) {a b c : AVal} {x y z : Value} (hx : R ρ a x) (hy : R ρ b y) (hz : R ρ c z) :
    VR w0 B ρ (pickOp m a b (boolOf c)) ((do pure (if ← asBool z then x else y) : Sem Value).run P w) := by
  cases c with
  | lit c =>
    simp only [R] at hz; subst hz
    cases z with
    | bool t =>
      show VR w0 B ρ (.val (bif t then a else b) m) _
      rw [run_bind]
      simp only [asBool, run_pure]
      cases t
      · exact VR.same h hy
      · exact VR.same h hx
    | _ => exact trivial
  | _ => exact trivial

theorem fieldAddr_sound (h : MR w0 B ρ m w) (s : TypeId) (f : Nat) {a : AVal} {x : Value} (hx : R ρ a x) :
    VR w0 B ρ (fieldAddr m (fieldOf P s f) (fsize P (fieldOf P s f)) a) ((Instr.fieldAt s x f).run P w) := by
  cases hf : fieldOf P s f with
  | none => exact trivial
  | some fd =>
    obtain ⟨fs, h1, h2⟩ := fieldOf_some hf
    show VR w0 B ρ (fieldAddr m (some fd) (tsz P fd.type) a) _
    cases hn : tsz P fd.type with
    | none => exact trivial
    | some n =>
      cases a with
      | ptr r off =>
        simp only [R] at hx
        obtain ⟨p, hp, rfl⟩ := hx
        show VR w0 B ρ (bif n.beq 0 then .bad "fieldAddr 0" else .val (.ptr r (off.add fd.offset)) m) _
        cases h0 : n.beq 0 with
        | true => exact trivial
        | false =>
          rw [nat_beq_f] at h0
          rw [cond_false]
          refine (VR.same h (R.ptr hp (off + fd.offset))).of_eq ?_
          unfold Instr.fieldAt
          rw [run_bind, run_underlying' h1]
          simp only [h2, run_bind, Instr.sureAddr, run_pure]
          unfold Go.fieldPlace
          rw [run_bind, run_sizeOf' hn]
          simp only [h0, if_false, run_pure, add_addr]
          rw [show off + p.s + fd.offset = off + fd.offset + p.s from by omega]
      | _ => exact trivial

theorem isAggV_cells {v : AVal} {x : Value} (hx : R ρ v x) (hv : isAggV v = true) : ∃ cs, x = .agg cs ∧ RL ρ v.cells cs.toList := by
  cases v with
  | lit v =>
    simp only [R] at hx; subst hx
    cases x <;> simp [isAggV] at hv
    exact ⟨_, rfl, by simp only [AVal.cells, mapL_eq]; exact RL.lits _⟩
  | agg l => simp only [R] at hx; obtain ⟨cs, rfl, h2⟩ := hx; exact ⟨cs, rfl, h2⟩
  | _ => simp [isAggV] at hv

theorem field_sound (h : MR w0 B ρ m w) (s : TypeId) (f : Nat) {a : AVal} {x : Value} (hx : R ρ a x) :
    VR w0 B ρ (fieldOp P m a (fieldOf P s f)) ((Instr.field s x f).run P w) := by
  cases hf : fieldOf P s f with
  | none => exact trivial
  | some fd =>
    obtain ⟨fs, h1, h2⟩ := fieldOf_some hf
    show VR w0 B ρ (bif isAggV a then valO m "field" (Abs.part P fd.type a.cells fd.offset) else .bad "field") _
    cases hv : isAggV a with
    | false => exact trivial
    | true =>
      rw [cond_true]
      obtain ⟨cs, rfl, hc⟩ := isAggV_cells hx hv
      cases e : Abs.part P fd.type a.cells fd.offset with
      | none => exact trivial
      | some u =>
        obtain ⟨y, h3, h4⟩ := part_sound hc e w
        refine (VR.same h h4).of_eq ?_
        unfold Instr.field
        rw [run_bind, run_underlying' h1]
        simp only [h2, run_bind, asAgg, run_pure]
        exact h3
end
end Go.Abs
