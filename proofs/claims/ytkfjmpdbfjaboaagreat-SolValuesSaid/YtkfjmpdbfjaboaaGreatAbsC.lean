/- An executor whose runs hold in every world: a part of it and of what is proved of it. -/
import Derived.Test.YtkfjmpdbfjaboaaGreatAbsB
namespace Go.Abs
open Go
open Go.RowKit (Below)
section
variable {P : Program} {w0 : Wo} {B : Nat} {ρ : Rho} {m : Mem} {w : World}
theorem value_ok {α : Type} : ∀ (s : Sem α) {a : α}, value? P s = .ok a → ∀ w : World, s.run P w = .ok a w := by
 intro s
 induction s with
 | pure b => intro a h w; simp only [value?] at h; cases h; rfl
 | program k ih => intro a h w; simp only [value?] at h; simp only [Sem.run]; exact ih P h w
 | mark m k ih => intro a h w; simp only [value?] at h; simp only [Sem.run]; exact ih h w
 | halt x => intro a h w; cases x <;> simp [value?] at h
 | _ => intro a h w; simp [value?] at h
theorem value_panic {α : Type} : ∀ (s : Sem α) {v : Value}, value? P s = .error (some v) → ∀ w : World, s.run P w = .halt (.panic v) w := by
 intro s
 induction s with
 | pure b => intro v h w; simp [value?] at h
 | program k ih => intro v h w; simp only [value?] at h; simp only [Sem.run]; exact ih P h w
 | mark m k ih => intro v h w; simp only [value?] at h; simp only [Sem.run]; exact ih h w
 | halt x => intro v h w; cases x <;> simp [value?] at h; subst h; rfl
 | _ => intro v h w; simp [value?] at h
def VR (w0 : Wo) (B : Nat) (ρ : Rho) (out : Out) (r : Result Value) : Prop :=
 match out with
 | .val v m' => ∃ x w' ρ', r = .ok x w' ∧ ρ.le ρ' ∧ MR w0 B ρ' m' w' ∧ R ρ' v x
 | .panic v m' => ∃ x w' ρ', r = .halt (.panic x) w' ∧ ρ.le ρ' ∧ MR w0 B ρ' m' w' ∧ R ρ' v x
 | .bad _ => True
 | _ => False
theorem VR.bad {why : String} {r : Result Value} : VR w0 B ρ (.bad why) r := trivial
theorem VR.same {v : AVal} {x : Value} (h : MR w0 B ρ m w) (hv : R ρ v x) : VR w0 B ρ (.val v m) (.ok x w) := ⟨x, w, ρ, rfl, Rho.le.refl ρ, h, hv⟩
theorem VR.lit {v : Value} (h : MR w0 B ρ m w) : VR w0 B ρ (.val (.lit v) m) (.ok v w) := VR.same h (by simp [R])
theorem VR.panic {v : AVal} {x : Value} (h : MR w0 B ρ m w) (hv : R ρ v x) : VR w0 B ρ (.panic v m) (.halt (.panic x) w) := ⟨x, w, ρ, rfl, Rho.le.refl ρ, h, hv⟩
theorem VR.of_eq {out : Out} {r r' : Result Value} (h : VR w0 B ρ out r) (e : r' = r) : VR w0 B ρ out r' := e ▸ h
theorem pureOp_sound (h : MR w0 B ρ m w) (s : Sem Value) (why : String) : VR w0 B ρ (pureOp P s m why) (s.run P w) := by
 unfold pureOp outOf
 cases e : value? P s with
 | ok v => rw [value_ok s e w]; exact VR.lit h
 | error o =>
  cases o with
  | some v => rw [value_panic s e w]; exact VR.panic h (by simp [R])
  | none => exact trivial
theorem run_underlying' {t : TypeId} {d : TypeDesc} (e : P.underlying t = some d) (w : World) : (underlying t).run P w = .ok d w := by
 show ((do match (← program).underlying t with | some d => pure d | none => stuck "no such type") : Sem TypeDesc).run P w = _
 rw [run_bind]
 simp only [program, Sem.run, e]
 rfl
theorem run_typeInfo' {t : TypeId} {i : TypeInfo} (e : P.info? t = some i) (w : World) : (typeInfo t).run P w = .ok i w := by
 show ((do match (← program).info? t with | some i => pure i | none => stuck "no such type") : Sem TypeInfo).run P w = _
 rw [run_bind]
 simp only [program, Sem.run, e]
 rfl
theorem tsz_some {t n : Nat} (e : tsz P t = some n) : ∃ i, P.info? t = some i ∧ i.size = n := by
 unfold tsz at e
 split at e
 ·rename_i i hi; cases e; exact ⟨i, hi, rfl⟩
 ·cases e
theorem run_sizeOf' {t n : Nat} (e : tsz P t = some n) (w : World) : (sizeOf t).run P w = .ok n w := by
 obtain ⟨i, hi, rfl⟩ := tsz_some e
 show ((do pure (← typeInfo t).size) : Sem Nat).run P w = _
 rw [run_bind, run_typeInfo' hi]
 rfl
theorem run_isAgg' {t : TypeId} {b : Bool} (e : tagg P t = some b) (w : World) : (isAgg t).run P w = .ok b w := by
 unfold tagg at e
 split at e
 ·rename_i d hd
  cases e
  show ((do match ← underlying t with | .struct _ | .array _ _ => pure true | _ => pure false) : Sem Bool).run P w = _
  rw [run_bind, run_underlying' hd]
  cases d <;> rfl
 ·cases e
theorem tzero_some {t : TypeId} {z : Value} (e : tzero P t = some z) : ∃ i, P.info? t = some i ∧ i.zero = some z := by
 unfold tzero at e
 split at e
 ·rename_i i hi; exact ⟨i, hi, e⟩
 ·cases e
theorem run_zeroValue' {t : TypeId} {z : Value} (e : tzero P t = some z) (w : World) : (zeroValue t).run P w = .ok z w := by
 obtain ⟨i, hi, hz⟩ := tzero_some e
 show ((do match (← typeInfo t).zero with | some v => pure v | none => unsupported (.resourceLimit "a value of more than 2^22 cells")) : Sem Value).run P w = _
 rw [run_bind, run_typeInfo' hi]
 simp only [hz]
 rfl
theorem zcells_some {t : TypeId} {l : List AVal} (e : zcells P t = some l) : ∃ z, tzero P t = some z ∧ l = z.cells.toList.map .lit := by
 unfold zcells at e
 split at e
 ·rename_i z hz
  cases e
  refine ⟨z, hz, ?_⟩
  cases z <;> simp [AVal.cells, Value.cells, mapL_eq]
 ·cases e
theorem sliceElem_some {t e : TypeId} (h : sliceElem P t = some e) : P.underlying t = some (.slice e) := by
 unfold sliceElem at h
 split at h
 ·rename_i e' he; cases h; exact he
 ·cases h
theorem sizedElem_some {o : Option TypeId} {e n : Nat} (h : sizedElem P o = some (e, n)) : o = some e ∧ tsz P e = some n := by
 unfold sizedElem at h
 split at h
 ·split at h
  ·rename_i hn; cases h; exact ⟨rfl, hn⟩
  ·cases h
 ·cases h
theorem fieldOf_some {s : TypeId} {f : Nat} {fd : Field} (h : fieldOf P s f = some fd) : ∃ fs, P.underlying s = some (.struct fs) ∧ fs[f]? = some fd := by
 unfold fieldOf at h
 split at h
 ·rename_i fs hs; exact ⟨fs, hs, h⟩
 ·cases h
theorem aggO_some {o : Option (List AVal)} {v : AVal} (h : aggO o = some v) : ∃ l, o = some l ∧ v = .agg l := by
 unfold aggO at h
 split at h
 ·rename_i l; cases h; exact ⟨l, rfl, rfl⟩
 ·cases h
theorem loadVar_sound (h : MR w0 B ρ m w) {t : TypeId} {r off : Nat} {p : Pl} (hp : ρ r = some p) {v : AVal} (e : Abs.loadVar P m t r off = some v) :
  ∃ x, (Go.loadVar t ⟨p.b, off + p.s, none⟩).run P w = .ok x w ∧ R ρ v x := by
 unfold Abs.loadVar loadAs at e
 show ∃ x, ((do if ← isAgg t then pure (.agg (← loadCells ⟨p.b, off + p.s, none⟩ (← sizeOf t))) else load ⟨p.b, off + p.s, none⟩) : Sem Value).run P w = .ok x w ∧ R ρ v x
 split at e
 ·rename_i n ha hn
  obtain ⟨l, hl, rfl⟩ := aggO_some e
  obtain ⟨xs, h1, h2, _⟩ := h.readCells (P := P) hp hl
  refine ⟨.agg xs.toArray, ?_, by simp only [R]; exact ⟨_, rfl, h2⟩⟩
  rw [run_bind, run_isAgg' ha]
  simp only [if_true]
  rw [run_bind, run_sizeOf' hn]
  simp only
  rw [run_bind, h1]
  rfl
 ·rename_i ha
  obtain ⟨x, h1, h2⟩ := h.read1 (P := P) hp e
  refine ⟨x, ?_, h2⟩
  rw [run_bind, run_isAgg' ha]
  simp only [Bool.false_eq_true, if_false]
  exact h1
 ·cases e
theorem part_sound {t : TypeId} {cs : List AVal} {xs : Array Value} {off : Nat} {v : AVal} (hc : RL ρ cs xs.toList) (e : Abs.part P t cs off = some v) (w : World) :
  ∃ x, (Go.part t xs off).run P w = .ok x w ∧ R ρ v x := by
 unfold Abs.part partAs at e
 show ∃ x, ((do if ← isAgg t then pure (.agg (xs.extract off (off + (← sizeOf t)))) else match xs[off]? with | some v => pure v | none => stuck "part: no such cell") : Sem Value).run P w = .ok x w ∧ R ρ v x
 split at e
 ·rename_i n ha hn
  obtain ⟨l, hl, rfl⟩ := aggO_some e
  obtain ⟨h1, h2⟩ := takeN_spec _ _ _ hl
  rw [dropN_eq] at h2
  refine ⟨.agg (xs.extract off (off + n)), ?_, ?_⟩
  ·rw [run_bind, run_isAgg' ha]
   simp only [if_true]
   rw [run_bind, run_sizeOf' hn]
   rfl
  ·simp only [R]
   refine ⟨_, rfl, ?_⟩
   have hlen := hc.length
   have hsz : n = 0 ∨ off + n ≤ xs.size := by
    rcases Nat.eq_zero_or_pos n with h0 | h0
    ·exact .inl h0
    ·obtain ⟨h3, _⟩ := h2 (n - 1) l[n - 1] (List.getElem?_eq_getElem (by omega))
     rw [List.getElem?_drop] at h3
     have := (List.getElem?_eq_some_iff.1 h3).1
     simp at hlen
     exact .inr (by omega)
   refine RL.of_get ?_ fun i u hu => ?_
   ·simp only [Array.toList_extract, List.extract_eq_take_drop, List.length_take, List.length_drop, Array.length_toList]
    omega
   ·obtain ⟨h3, _⟩ := h2 i u hu
    rw [List.getElem?_drop] at h3
    obtain ⟨y, hy, hR⟩ := hc.get h3
    refine ⟨y, ?_, hR⟩
    have hi := (List.getElem?_eq_some_iff.1 hu).1
    simp only [Array.toList_extract, List.extract_eq_take_drop, List.getElem?_take, List.getElem?_drop]
    rw [if_pos (by omega)]
    exact hy
 ·rename_i ha
  obtain ⟨h1, _⟩ := sound1_some e
  rw [getO_eq] at h1
  obtain ⟨y, hy, hR⟩ := hc.get h1
  refine ⟨y, ?_, hR⟩
  rw [run_bind, run_isAgg' ha]
  simp only [Bool.false_eq_true, if_false]
  have : xs[off]? = some y := by simpa using hy
  rw [this]
  rfl
 ·cases e
end
open Go.RowKit (Below)
section
variable {P : Program} {w0 : Wo} {B : Nat} {ρ : Rho} {m : Mem} {w : World}
theorem RL.cr {cells : List AVal} {xs : List Value} (h : RL ρ cells xs) {a : Array Value} (ha : a.toList = xs) : CR ρ cells a 0 := by
 intro i v hv
 obtain ⟨y, hy, hR⟩ := h.get hv
 exact ⟨y, by rw [← ha] at hy; simpa using hy, hR⟩
theorem run_newObj' (o : Obj) (w : World) : (Go.newObj o).run P w = .ok w.heap.size (w.alloc o) := rfl
theorem run_newRow' (t : TypeId) (cs : Array Value) (w : World) : (Go.newRow t cs).run P w = .ok ⟨w.heap.size, 0, none⟩ (w.alloc (.cells cs t)) := rfl
theorem R.ptr {r : Nat} {p : Pl} (hp : ρ r = some p) (off : Nat) : R ρ (.ptr r off) (.pointer (some ⟨p.b, off + p.s, none⟩)) := by simp only [R]; exact ⟨p, hp, rfl⟩
theorem VR.nil (h : MR w0 B ρ m w) : VR w0 B ρ (nilDeref P m) (.halt (.panic (.iface P.rt.errorString (strVal "invalid memory address or nil pointer dereference"))) w) :=
 VR.panic h (by simp [R, rtErr])
theorem glAt_mem {g : Nat} : ∀ {l : List (Nat × Nat)} {r : Nat}, glAt g l = some r → (g, r) ∈ l := by
 intro l
 induction l with
 | nil => intro r h; cases h
 | cons x l ih =>
  intro r h
  have h' : (bif x.1.beq g then some x.2 else glAt g l) = some r := h
  cases hb : x.1.beq g with
  | true =>
   rw [hb] at h'
   cases h'
   rw [nat_beq] at hb
   subst hb
   exact List.mem_cons_self
  | false => rw [hb] at h'; exact List.mem_cons_of_mem _ (ih h')
theorem load_sound (h : MR w0 B ρ m w) (t : TypeId) {a : AVal} {x : Value} (hx : R ρ a x) : VR w0 B ρ (loadOp P t m a) ((Instr.loadAt t x).run P w) := by
 cases a with
 | ptr r off =>
  simp only [R] at hx
  obtain ⟨p, hp, rfl⟩ := hx
  show VR w0 B ρ (valO m "load" (Abs.loadVar P m t r off)) _
  cases e : Abs.loadVar P m t r off with
  | none => exact trivial
  | some v =>
   obtain ⟨y, h1, h2⟩ := loadVar_sound h hp e
   refine (VR.same h h2).of_eq ?_
   show ((do Go.loadVar t (← Instr.sureAddr _)) : Sem Value).run P w = _
   rw [run_bind]
   exact h1
 | lit lx =>
  simp only [R] at hx
  subst hx
  cases x with
  | pointer q =>
   cases q with
   | none => exact trivial
   | some q =>
    obtain ⟨g, off, k⟩ := q
    cases k with
    | some k => exact trivial
    | none =>
     show VR w0 B ρ (loadGl P t m off (glAt g m.gl)) _
     cases hg : glAt g m.gl with
     | none => exact trivial
     | some r =>
      obtain ⟨p, hp, rfl, hs⟩ := h.glob _ _ (glAt_mem hg)
      show VR w0 B ρ (valO m "load" (Abs.loadVar P m t r off)) _
      cases e : Abs.loadVar P m t r off with
      | none => exact trivial
      | some v =>
       obtain ⟨y, h1, h2⟩ := loadVar_sound h hp e
       refine (VR.same h h2).of_eq ?_
       show ((do Go.loadVar t (← Instr.sureAddr _)) : Sem Value).run P w = _
       rw [run_bind]
       rw [hs, Nat.add_zero] at h1
       exact h1
  | _ => exact trivial
 | _ => exact trivial
theorem alloc_sound (h : MR w0 B ρ m w) (t : TypeId) : VR w0 B ρ (allocOp m t (zcells P t)) ((Instr.alloc t true (.tuple #[])).run P w) := by
 cases e : zcells P t with
 | none => exact trivial
 | some l =>
  obtain ⟨z, hz, rfl⟩ := zcells_some e
  obtain ⟨h1, h2⟩ := h.newRow (t, 0) (z.cells.toList.map .lit) z.cells (RL.cr (RL.lits _) rfl)
  refine ⟨_, _, _, ?_, h2, h1, R.ptr (Rho.add_same _ _ _) 0⟩
  show ((do let zero ← zeroValue t; pure (.pointer (some (← newVar t zero)))) : Sem Value).run P w = _
  rw [run_bind, run_zeroValue' hz]
  rfl
theorem box_sound (h : MR w0 B ρ m w) (t : TypeId) {v : AVal} {x : Value} (hx : R ρ v x) : VR w0 B ρ (boxOp m t v) ((Instr.box t x).run P w) := by
 unfold boxOp
 cases hp : isPoison v with
 | true => exact trivial
 | false =>
  rw [cond_false]
  obtain ⟨h1, h2⟩ := h.newRow (t, 0) v.cells x.cells (RL.cr (hx.cells hp) rfl)
  exact ⟨_, _, _, rfl, h2, h1, R.ptr (Rho.add_same _ _ _) 0⟩
def UR (w0 : Wo) (B : Nat) (ρ : Rho) (out : Out) (r : Result Unit) : Prop :=
 match out with
 | .val v m' => v = .poison ∧ ∃ w' ρ', r = .ok () w' ∧ ρ.le ρ' ∧ MR w0 B ρ' m' w'
 | .panic v m' => ∃ x w' ρ', r = .halt (.panic x) w' ∧ ρ.le ρ' ∧ MR w0 B ρ' m' w' ∧ R ρ' v x
 | .bad _ => True
 | _ => False
theorem store_sound (h : MR w0 B ρ m w) (t : TypeId) {a v : AVal} {x y : Value} (hx : R ρ a x) (hy : R ρ v y) : UR w0 B ρ (storeOp P t m v a) ((Instr.storeAt t x y).run P w) := by
 cases a with
 | ptr r off =>
  simp only [R] at hx
  obtain ⟨p, hp, rfl⟩ := hx
  show UR w0 B ρ (bif isPoison v then .bad "store poison" else storeAs m r off v.cells (tsz P t)) _
  cases hpo : isPoison v with
  | true => exact trivial
  | false =>
   rw [cond_false]
   cases hn : tsz P t with
   | some n =>
    show UR w0 B ρ (bif (lenL v.cells).beq n then skipO "store" (Abs.storeCells m r off v.cells) else .bad "store size") _
    cases hl : (lenL v.cells).beq n with
    | false => exact trivial
    | true =>
     rw [cond_true]
     rw [nat_beq, lenL_eq] at hl
     unfold skipO
     cases e : Abs.storeCells m r off v.cells with
     | none => exact trivial
     | some m' =>
      have hc := hy.cells hpo
      obtain ⟨w', h1, h2⟩ := h.storeCells (P := P) hp e hc
      refine ⟨rfl, w', ρ, ?_, Rho.le.refl ρ, h2⟩
      have hsz : y.cells.size = n := by have := hc.length; simp at this; omega
      unfold Instr.storeAt
      rw [run_bind]
      simp only [Instr.sureAddr, run_pure]
      unfold Go.storeVar
      rw [run_bind, run_sizeOf' hn]
      simp only [hsz, ne_eq, not_true_eq_false, if_false]
      exact h1
   | none => exact trivial
 | _ => exact trivial
theorem nilCheck_sound (_h : MR w0 B ρ m w) {v : AVal} {x : Value} (hx : R ρ v x) (o : Oper) (ρ' : Operand → Value) (a : Operand) (ho : o.op = .nilCheck a) (ha : ρ' a = x) :
  match nilCheck P m v with
  | .val u m' => m' = m ∧ R ρ u x ∧ (execOp ρ' o).run P w = .ok (.value x) w
  | .panic u m' => m' = m ∧ ∃ y, R ρ u y ∧ (execOp ρ' o).run P w = .halt (.panic y) w
  | .bad _ => True
  | _ => False := by
 have nilp : (execOp ρ' o).run P w = .halt (.panic (.iface P.rt.errorString (strVal "invalid memory address or nil pointer dereference"))) w →
   ∃ y, R ρ (rtErr P "invalid memory address or nil pointer dereference") y ∧ (execOp ρ' o).run P w = .halt (.panic y) w := fun e => ⟨_, by simp [R, rtErr], e⟩
 cases v with
 | lit v =>
  have hx' := hx
  simp only [R] at hx; subst hx
  cases x with
  | pointer b =>
   cases b with
   | none => exact ⟨rfl, nilp (by unfold execOp; rw [ho]; simp only [ha]; rfl)⟩
   | some b => exact ⟨rfl, hx', by unfold execOp; rw [ho]; simp only [ha]; rfl⟩
  | nilIface => exact ⟨rfl, nilp (by unfold execOp; rw [ho]; simp only [ha]; rfl)⟩
  | nilFunc => exact ⟨rfl, nilp (by unfold execOp; rw [ho]; simp only [ha]; rfl)⟩
  | iface t y => exact ⟨rfl, hx', by unfold execOp; rw [ho]; simp only [ha]; rfl⟩
  | func fn f c =>
   cases fn with
   | method n => exact trivial
   | _ => exact ⟨rfl, hx', by unfold execOp; rw [ho]; simp only [ha]; rfl⟩
  | _ => exact trivial
 | ptr r off => have hx' := hx; simp only [R] at hx; obtain ⟨p, hp, rfl⟩ := hx; exact ⟨rfl, hx', by unfold execOp; rw [ho]; simp only [ha]; rfl⟩
 | func fn f c =>
  have hx' := hx
  simp only [R] at hx
  obtain ⟨h0, f', c', rfl, _⟩ := hx
  cases fn with
  | method n => exact trivial
  | _ => exact ⟨rfl, hx', by unfold execOp; rw [ho]; simp only [ha]; rfl⟩
 | yield l => have hx' := hx; simp only [R] at hx; obtain ⟨p, hp, rfl⟩ := hx; exact ⟨rfl, hx', by unfold execOp; rw [ho]; simp only [ha]; rfl⟩
 | iface t v => have hx' := hx; simp only [R] at hx; obtain ⟨p, rfl, _⟩ := hx; exact ⟨rfl, hx', by unfold execOp; rw [ho]; simp only [ha]; rfl⟩
 | _ => exact trivial
theorem pick_sound (h : MR w0 B ρ m w) {a b c : AVal} {x y z : Value} (hx : R ρ a x) (hy : R ρ b y) (hz : R ρ c z) :
  VR w0 B ρ (pickOp m a b (boolOf c)) ((do pure (if ← asBool z then x else y) : Sem Value).run P w) := by
 cases c with
 | lit c =>
  simp only [R] at hz; subst hz
  cases z with
  | bool t =>
   show VR w0 B ρ (.val (bif t then a else b) m) _
   rw [run_bind]
   simp only [asBool, run_pure]
   cases t
   ·exact VR.same h hy
   ·exact VR.same h hx
  | _ => exact trivial
 | _ => exact trivial
theorem fieldAddr_sound (h : MR w0 B ρ m w) (s : TypeId) (f : Nat) {a : AVal} {x : Value} (hx : R ρ a x) :
  VR w0 B ρ (fieldAddr m (fieldOf P s f) (fsize P (fieldOf P s f)) a) ((Instr.fieldAt s x f).run P w) := by
 cases hf : fieldOf P s f with
 | none => exact trivial
 | some fd =>
  obtain ⟨fs, h1, h2⟩ := fieldOf_some hf
  show VR w0 B ρ (fieldAddr m (some fd) (tsz P fd.type) a) _
  cases hn : tsz P fd.type with
  | none => exact trivial
  | some n =>
   cases a with
   | ptr r off =>
    simp only [R] at hx
    obtain ⟨p, hp, rfl⟩ := hx
    show VR w0 B ρ (bif n.beq 0 then .bad "fieldAddr 0" else .val (.ptr r (off.add fd.offset)) m) _
    cases h0 : n.beq 0 with
    | true => exact trivial
    | false =>
     rw [nat_beq_f] at h0
     rw [cond_false]
     refine (VR.same h (R.ptr hp (off + fd.offset))).of_eq ?_
     unfold Instr.fieldAt
     rw [run_bind, run_underlying' h1]
     simp only [h2, run_bind, Instr.sureAddr, run_pure]
     unfold Go.fieldPlace
     rw [run_bind, run_sizeOf' hn]
     simp only [h0, if_false, run_pure, add_addr]
     rw [show off + p.s + fd.offset = off + fd.offset + p.s from by omega]
   | lit lx =>
    simp only [R] at hx
    subst hx
    cases x with
    | pointer q =>
     cases q with
     | none => exact trivial
     | some q =>
      obtain ⟨g, off, k⟩ := q
      cases k with
      | some k => exact trivial
      | none =>
       show VR w0 B ρ (bif n.beq 0 then .bad "fieldAddr 0" else .val (.lit (.pointer (some ⟨g, off.add fd.offset, none⟩))) m) _
       cases h0 : n.beq 0 with
       | true => exact trivial
       | false =>
        rw [nat_beq_f] at h0
        rw [cond_false]
        refine (VR.same h (v := .lit (.pointer (some ⟨g, off.add fd.offset, none⟩))) rfl).of_eq ?_
        unfold Instr.fieldAt
        rw [run_bind, run_underlying' h1]
        simp only [h2, run_bind, Instr.sureAddr, run_pure]
        unfold Go.fieldPlace
        rw [run_bind, run_sizeOf' hn]
        simp only [h0, if_false, run_pure, add_addr]
        rfl
    | _ => exact trivial
   | _ => exact trivial
theorem isAggV_cells {v : AVal} {x : Value} (hx : R ρ v x) (hv : isAggV v = true) : ∃ cs, x = .agg cs ∧ RL ρ v.cells cs.toList := by
 cases v with
 | lit v =>
  simp only [R] at hx; subst hx
  cases x <;> simp [isAggV] at hv
  exact ⟨_, rfl, by simp only [AVal.cells, mapL_eq]; exact RL.lits _⟩
 | agg l => simp only [R] at hx; obtain ⟨cs, rfl, h2⟩ := hx; exact ⟨cs, rfl, h2⟩
 | _ => simp [isAggV] at hv
theorem field_sound (h : MR w0 B ρ m w) (s : TypeId) (f : Nat) {a : AVal} {x : Value} (hx : R ρ a x) :
  VR w0 B ρ (fieldOp P m a (fieldOf P s f)) ((Instr.field s x f).run P w) := by
 cases hf : fieldOf P s f with
 | none => exact trivial
 | some fd =>
  obtain ⟨fs, h1, h2⟩ := fieldOf_some hf
  show VR w0 B ρ (bif isAggV a then valO m "field" (Abs.part P fd.type a.cells fd.offset) else .bad "field") _
  cases hv : isAggV a with
  | false => exact trivial
  | true =>
   rw [cond_true]
   obtain ⟨cs, rfl, hc⟩ := isAggV_cells hx hv
   cases e : Abs.part P fd.type a.cells fd.offset with
   | none => exact trivial
   | some u =>
    obtain ⟨y, h3, h4⟩ := part_sound hc e w
    refine (VR.same h h4).of_eq ?_
    unfold Instr.field
    rw [run_bind, run_underlying' h1]
    simp only [h2, run_bind, asAgg, run_pure]
    exact h3
end
open Go.RowKit (Below)
section
variable {P : Program} {w0 : Wo} {B : Nat} {ρ : Rho} {m : Mem} {w : World}
theorem boundsPanic_sound (h : MR w0 B ρ m w) (k : IntKind) (x y : Int) (c : BoundsCode) : VR w0 B ρ (Abs.boundsPanic P m) ((Go.boundsPanic k x y c : Sem Value).run P w) := by
 have fin : ∀ (w' : World) (b : Bool), MR w0 B ρ m w' →
   VR w0 B ρ (Abs.boundsPanic P m) (.halt (.panic (.iface P.rt.boundsError (.agg #[.int .i64 (IntKind.i64.wrap x), .int .i64 y, .bool b, .int .u8 c.toNat]))) w') := fun w' b h' =>
  VR.panic h' (by simp only [R, RL]; exact ⟨_, rfl, _, rfl, _, _, rfl, trivial, _, _, rfl, trivial, _, _, rfl, trivial, _, _, rfl, trivial, rfl⟩)
 unfold Go.boundsPanic
 dsimp only
 by_cases hc : (k != .u64 && 0 ≤ x && x ≤ 31) = true
 ·rw [if_pos hc]
  exact fin w.drew ((Question.cut (.extern "runtime.boundsError.signed" 2) (w.tape w.drawn (.extern "runtime.boundsError.signed" 2))) == 1) h.drew
 ·rw [if_neg hc]
  exact (fin w _ h).of_eq rfl
theorem ixAt_sound (h : MR w0 B ρ m w) {r off n size : Nat} {p : Pl} (hp : ρ r = some p) (i : Int) {res : Result Value}
  (hin : ∀ j : Nat, i = j → j < n → res = .ok (.pointer (some ⟨p.b, off + p.s + j * size, none⟩)) w)
  (hout : ¬ (0 ≤ i ∧ i < n) → VR w0 B ρ (Abs.boundsPanic P m) res) : VR w0 B ρ (ixAt P m r off size n i) res := by
 cases i with
 | ofNat j =>
  show VR w0 B ρ (bif (j.succ).ble n then .val (.ptr r (off.add (j.mul size))) m else Abs.boundsPanic P m) res
  cases hb : (j.succ).ble n with
  | true =>
   rw [nat_ble] at hb
   rw [cond_true, hin j rfl (by omega)]
   refine (VR.same h (R.ptr hp (off + j * size))).of_eq ?_
   rw [show off + p.s + j * size = off + j * size + p.s from by omega]
  | false =>
   rw [nat_ble_f] at hb
   rw [cond_false]
   exact hout (fun hh => by have := hh.2; simp at this; omega)
 | negSucc j => exact hout (fun hh => by have := hh.1; simp at this)
theorem indexAddr_sound (h : MR w0 B ρ m w) (t : TypeId) {a ix : AVal} {x y : Value} (hx : R ρ a x) (hy : R ρ ix y) :
  VR w0 B ρ (indexA P t m a (intOf ix)) ((Instr.indexAt t x y).run P w) := by
 cases ix with
 | lit iy =>
  simp only [R] at hy; subst hy
  cases y with
  | int k i =>
   show VR w0 B ρ (Abs.indexAddr P t m i a) _
   unfold Instr.indexAt
   rw [run_bind]
   simp only [asIntOf, run_pure]
   cases a with
   | slice r off n c ex =>
    simp only [R] at hx
    obtain ⟨p, c', hp, _, _, _, rfl⟩ := hx
    show VR w0 B ρ (match sizedElem P (sliceElem P t) with | some (_, size) => ixAt P m r off size n i | none => .bad "indexAddr") _
    cases hs : sizedElem P (sliceElem P t) with
    | none => exact trivial
    | some es =>
     obtain ⟨e, size⟩ := es
     obtain ⟨h1, h2⟩ := sizedElem_some hs
     have hu := sliceElem_some h1
     refine ixAt_sound h hp i (fun j hj hlt => ?_) (fun hno => ?_)
     ·subst hj
      simp only [run_bind, run_underlying' hu, run_pure]
      rw [if_pos (by omega)]
      simp only [run_bind, run_sizeOf' h2, run_pure, add_addr, Int.toNat_natCast]
     ·simp only [run_bind, run_underlying' hu, run_pure]
      rw [if_neg hno]
      simp only [Bool.and_false, Bool.false_eq_true, if_false]
      exact boundsPanic_sound h _ _ _ _
   | emptyS =>
    simp only [R] at hx
    obtain ⟨a, c', rfl⟩ := hx
    show VR w0 B ρ (match sliceElem P t with | some _ => Abs.boundsPanic P m | none => .bad "indexAddr") _
    cases hs : sliceElem P t with
    | none => exact trivial
    | some e =>
     have hu := sliceElem_some hs
     simp only [run_bind, run_underlying' hu, run_pure]
     rw [if_neg (by omega)]
     simp only [Bool.and_false, Bool.false_eq_true, if_false]
     exact boundsPanic_sound h _ _ _ _
   | ptr r off =>
    simp only [R] at hx
    obtain ⟨p, hp, rfl⟩ := hx
    show VR w0 B ρ (match P.underlying t with
     | some (.array n e) => (match tsz P e with
      | some size => (match i with
       | .ofNat j => bif (j.succ).ble n then .val (.ptr r (off.add (j.mul size))) m else .bad "array bounds"
       | _ => .bad "array bounds")
      | none => .bad "indexAddr")
     | _ => .bad "indexAddr") _
    cases hu : P.underlying t with
    | none => exact trivial
    | some d =>
     cases d with
     | array n e =>
      dsimp only
      cases hs : tsz P e with
      | none => exact trivial
      | some size =>
       dsimp only
       cases i with
       | negSucc j => exact trivial
       | ofNat j =>
        show VR w0 B ρ (bif (j.succ).ble n then .val (.ptr r (off.add (j.mul size))) m else .bad "array bounds") _
        cases hb : (j.succ).ble n with
        | false => exact trivial
        | true =>
         rw [nat_ble] at hb
         rw [cond_true]
         refine (VR.same h (R.ptr hp (off + j * size))).of_eq ?_
         simp only [run_bind, run_underlying' hu, run_pure, Instr.sureAddr]
         rw [if_pos (by simp; omega)]
         simp only [run_bind, run_sizeOf' hs, run_pure, add_addr]
         rw [show off + p.s + (Int.ofNat j).toNat * size = off + j * size + p.s from by simp; omega]
     | _ => exact trivial
   | lit a =>
    simp only [R] at hx; subst hx
    cases x with
    | slice b n c =>
     cases b with
     | some b => exact trivial
     | none =>
      cases n with
      | succ n => exact trivial
      | zero =>
       cases c with
       | succ c => exact trivial
       | zero =>
        show VR w0 B ρ (match sliceElem P t with | some _ => Abs.boundsPanic P m | none => .bad "indexAddr") _
        cases hs : sliceElem P t with
        | none => exact trivial
        | some e =>
         have hu := sliceElem_some hs
         simp only [run_bind, run_underlying' hu, run_pure]
         exact boundsPanic_sound h _ _ _ _
    | pointer q =>
     cases q with
     | none => exact trivial
     | some q =>
      obtain ⟨g, off, k⟩ := q
      cases k with
      | some k => exact trivial
      | none =>
       show VR w0 B ρ (ixLit P m g off i (P.underlying t)) _
       cases hu : P.underlying t with
       | none => exact trivial
       | some d =>
        cases d with
        | array n e =>
         show VR w0 B ρ (match tsz P e with
          | some size => (match i with
           | .ofNat j => bif (j.succ).ble n then .val (.lit (.pointer (some ⟨g, off.add (j.mul size), none⟩))) m else .bad "array bounds"
           | _ => .bad "array bounds")
          | none => .bad "indexAddr") _
         cases hs : tsz P e with
         | none => exact trivial
         | some size =>
          dsimp only
          cases i with
          | negSucc j => exact trivial
          | ofNat j =>
           show VR w0 B ρ (bif (j.succ).ble n then .val (.lit (.pointer (some ⟨g, off.add (j.mul size), none⟩))) m else .bad "array bounds") _
           cases hb : (j.succ).ble n with
           | false => exact trivial
           | true =>
            rw [nat_ble] at hb
            rw [cond_true]
            refine (VR.same h (v := .lit (.pointer (some ⟨g, off.add (j.mul size), none⟩))) rfl).of_eq ?_
            simp only [run_bind, run_underlying' hu, run_pure, Instr.sureAddr]
            rw [if_pos (by simp; omega)]
            simp only [run_bind, run_sizeOf' hs, run_pure, add_addr]
            rfl
        | _ => exact trivial
    | _ => exact trivial
   | _ => exact trivial
  | _ => exact trivial
 | _ => exact trivial
theorem ixPart_sound (h : MR w0 B ρ m w) {v : AVal} {cs : Array Value} (hc : RL ρ v.cells cs.toList) (e : TypeId) (j : Nat) {res : Result Value}
  (hres : ∀ size, tsz P e = some size → res = (Go.part e cs (j * size)).run P w) : VR w0 B ρ (ixPart P m v e j (tsz P e)) res := by
 cases hs : tsz P e with
 | none => exact trivial
 | some size =>
  rw [hres size hs]
  show VR w0 B ρ (match Abs.part P e v.cells (j.mul size) with | some v => .val v m | none => .bad "index") _
  cases hp : Abs.part P e v.cells (j.mul size) with
  | none => exact trivial
  | some u =>
   obtain ⟨y, h1, h2⟩ := part_sound hc hp w
   exact (VR.same h h2).of_eq h1
theorem index_sound (h : MR w0 B ρ m w) (t : TypeId) {a ix : AVal} {x y : Value} (hx : R ρ a x) (hy : R ρ ix y) :
  VR w0 B ρ (indexV P t m a (intOf ix)) ((Instr.index t x y).run P w) := by
 cases ix with
 | lit iy =>
  simp only [R] at hy; subst hy
  cases y with
  | int k i =>
   show VR w0 B ρ (Abs.indexOp P t m i a) _
   have arr : ∀ v, R ρ v x → VR w0 B ρ (ixArr P m v i (P.underlying t)) ((Instr.index t x (.int k i)).run P w) := by
    intro v hv
    cases hu : P.underlying t with
    | none => exact trivial
    | some d =>
     cases d with
     | array n e =>
      show VR w0 B ρ (bif isAggV v then (match i with
       | .ofNat i => bif (i.succ).ble n then ixPart P m v e i (tsz P e) else Abs.boundsPanic P m
       | i => Abs.boundsPanic P m) else .bad "index") _
      cases ha : isAggV v with
      | false => exact trivial
      | true =>
       rw [cond_true]
       obtain ⟨cs, rfl, hc⟩ := isAggV_cells hv ha
       unfold Instr.index
       simp only [run_bind, asIntOf, run_pure, run_underlying' hu]
       cases i with
       | ofNat j =>
        show VR w0 B ρ (bif (j.succ).ble n then ixPart P m v e j (tsz P e) else Abs.boundsPanic P m) _
        cases hb : (j.succ).ble n with
        | true =>
         rw [nat_ble] at hb
         rw [cond_true, if_pos (by simp; omega)]
         refine ixPart_sound h hc e j fun size hs => ?_
         simp only [run_bind, run_sizeOf' hs]
         rfl
        | false =>
         rw [nat_ble_f] at hb
         rw [cond_false, if_neg (by simp; omega)]
         exact boundsPanic_sound h _ _ _ _
       | negSucc j =>
        rw [if_neg (by omega)]
        exact boundsPanic_sound h _ _ _ _
     | _ => exact trivial
   cases a with
   | lit v =>
    have hx' := hx
    simp only [R] at hx; subst hx
    cases x with
    | string s =>
     show VR w0 B ρ (bif isStrD (P.underlying t) then ixStr P m s i else .bad "index") _
     cases hs : isStrD (P.underlying t) with
     | false => exact trivial
     | true =>
      rw [cond_true]
      have hu : P.underlying t = some .string := by
       unfold isStrD at hs
       split at hs
       ·assumption
       ·cases hs
      unfold Instr.index
      simp only [run_bind, asIntOf, run_pure, run_underlying' hu]
      cases i with
      | ofNat j =>
       show VR w0 B ρ (match getO s.data.toList j with | some b => .val (.lit (.int .u8 (.ofNat b.toNat))) m | none => Abs.boundsPanic P m) _
       rw [getO_eq, if_pos (by simp)]
       have hg : s[(Int.ofNat j).toNat]? = s.data.toList[j]? := by
        show s[j]? = _
        rw [Array.getElem?_toList]
        rfl
       rw [hg]
       cases e : s.data.toList[j]? with
       | none => exact boundsPanic_sound h _ _ _ _
       | some b => exact (VR.lit h).of_eq rfl
      | negSucc j =>
       rw [if_neg (by omega)]
       exact boundsPanic_sound h _ _ _ _
    | _ => exact arr _ hx'
   | _ => exact arr _ hx
  | _ => exact trivial
 | _ => exact trivial
theorem extract_sound (h : MR w0 B ρ m w) (ix : Nat) {a : AVal} {x : Value} (hx : R ρ a x) : VR w0 B ρ (extractOp ix m a) ((Instr.extract x ix).run P w) := by
 cases a with
 | tuple vs =>
  simp only [R] at hx
  obtain ⟨cs, rfl, hc⟩ := hx
  show VR w0 B ρ (valO m "extract" (getO vs ix)) _
  rw [getO_eq]
  cases e : vs[ix]? with
  | none => exact trivial
  | some v =>
   obtain ⟨y, h1, h2⟩ := hc.get e
   refine (VR.same h h2).of_eq ?_
   have : cs[ix]? = some y := by simpa using h1
   simp only [Instr.extract, this]
   rfl
 | lit v =>
  simp only [R] at hx; subst hx
  cases x with
  | tuple vs =>
   show VR w0 B ρ (valO m "extract" ((getO vs.toList ix).map .lit)) _
   rw [getO_eq]
   cases e : vs.toList[ix]? with
   | none => exact trivial
   | some v =>
    refine (VR.lit h).of_eq ?_
    have : vs[ix]? = some v := by simpa using e
    simp only [Instr.extract, this]
    rfl
  | _ => exact trivial
 | _ => exact trivial
end
open Go.RowKit (Below)
section
variable {P : Program} {w0 : Wo} {B : Nat} {ρ : Rho} {m : Mem} {w : World}
theorem mkIface_sound (h : MR w0 B ρ m w) (t : TypeId) {a : AVal} {x : Value} (hx : R ρ a x) :
  VR w0 B ρ (bif concreteT (P.underlying t) then mkIface t m a else .bad "makeInterface") ((Instr.makeInterface t x).run P w) := by
 cases hd : P.underlying t with
 | none => exact trivial
 | some d =>
  have key : concreteT (some d) = true → VR w0 B ρ (mkIface t m a) ((Instr.makeInterface t x).run P w) := by
   intro hc
   have hr : (Instr.makeInterface t x).run P w = .ok (.iface t x) w := by
    unfold Instr.makeInterface
    rw [run_bind, run_underlying' hd]
    cases d <;> first | rfl | (cases hc)
   rw [hr]
   cases a with
   | lit v => simp only [R] at hx; subst hx; exact VR.lit h
   | _ => exact VR.same h (by simp only [R]; exact ⟨_, rfl, hx⟩)
  cases hc : concreteT (some d) with
  | true => exact key hc
  | false => exact trivial
theorem makeMap_sound (h : MR w0 B ρ m w) (t : TypeId) (a : Option AVal) (x : Option Value) (hx : ∀ v, a = some v → ∃ y, x = some y ∧ R ρ v y) (hn : a = none → x = none) :
  VR w0 B ρ (makeMapOp P m t a) ((Instr.makeMap t x).run P w) := by
 obtain ⟨h1, h2⟩ := h.newObj (.map [] 0) (.map #[] 0) (fun _ _ _ _ e => by cases e) (fun ρ' _ => ⟨h.size, rfl, #[], rfl, rfl⟩)
 have key : ∀ res, res = .ok (.map (some w.heap.size)) (w.alloc (.map #[] 0)) → VR w0 B ρ (.val (.map m.next) (m.new (.map [] 0))) res := fun res e => by
  rw [e]; exact ⟨_, _, _, rfl, h2, h1, by simp only [R]; exact ⟨_, Rho.add_same _ _ _, rfl⟩⟩
 cases a with
 | none => rw [hn rfl]; exact key _ rfl
 | some v =>
  obtain ⟨y, rfl, hR⟩ := hx v rfl
  cases hu : P.underlying t with
  | none => unfold makeMapOp; rw [hu]; exact trivial
  | some d =>
   cases d with
   | map kt et =>
    cases v with
    | lit z =>
     simp only [R] at hR; subst hR
     cases y with
     | int k i =>
      have : makeMapOp P m t (some (.lit (.int k i))) = .val (.map m.next) (m.new (.map [] 0)) := by unfold makeMapOp; rw [hu]; rfl
      rw [this]
      refine key _ ?_
      unfold Instr.makeMap
      simp only [run_bind, run_underlying' hu, asInt, asIntOf, run_pure]
      rfl
     | _ => unfold makeMapOp; rw [hu]; exact trivial
    | _ => unfold makeMapOp; rw [hu]; exact trivial
   | _ => unfold makeMapOp; rw [hu]; exact trivial
theorem RL.rep {z : List AVal} {zs : List Value} (h : RL ρ z zs) : ∀ n, RL ρ (repL z n) ((List.replicate n zs).flatten)
 | 0 => by simp [RL, repL_zero]
 | n + 1 => by
  rw [repL_succ, List.replicate_succ, List.flatten_cons]
  exact RL.append h (RL.rep h n)
theorem flatten_get {zs : List Value} {q : Nat} (_hq : 0 < q) (hz : zs.length = q) : ∀ (n i : Nat), i < n * q → ((List.replicate n zs).flatten)[i]? = zs[i % q]? := by
 intro n
 induction n with
 | zero => intro i h; omega
 | succ n ih =>
  intro i h
  rw [List.replicate_succ, List.flatten_cons, List.getElem?_append]
  by_cases hi : i < zs.length
  ·rw [if_pos hi, Nat.mod_eq_of_lt (by omega)]
  ·rw [if_neg hi, hz, ih (i - q) (by rw [Nat.add_mul] at h; omega)]
   have : i = (i - q) + q := by omega
   conv => rhs; rw [this, Nat.add_mod_right]
theorem range_rep {z : Array Value} {q n : Nat} (hq : 0 < q) (hz : z.size = q) :
  ((Array.range (n * q)).map (z[· % z.size]!)).toList = (List.replicate n z.toList).flatten := by
 apply List.ext_getElem?
 intro i
 by_cases hi : i < n * q
 ·rw [flatten_get hq (by simpa using hz) n i hi]
  simp only [Array.toList_map, Array.toList_range, List.getElem?_map, List.getElem?_range hi, Option.map_some]
  have hlt : i % q < z.size := by rw [hz]; exact Nat.mod_lt _ hq
  rw [hz]
  have e1 : z[i % q]! = z[i % q] := by simp [hlt]
  rw [e1]
  simp [hlt]
 ·rw [List.getElem?_eq_none (by simp; omega)]
  rw [List.getElem?_eq_none]
  simp only [List.length_flatten, List.map_replicate, List.sum_replicate_nat, Array.length_toList]
  rw [hz]
  omega
theorem run_askRoom (n : Nat) (w : World) : (askRoom n).run P w = .ok () w := by
 unfold askRoom
 split <;> rfl
theorem makeSl_sound (h : MR w0 B ρ m w) (t : TypeId) {l c : AVal} {x y : Value} (hx : R ρ l x) (hy : R ρ c y) :
  VR w0 B ρ (makeSl P m (natOf l) (natOf c) (sizedElem P (sliceElem P t))) ((Instr.makeSlice t x y).run P w) := by
 cases hs : sizedElem P (sliceElem P t) with
 | none => exact trivial
 | some es =>
  obtain ⟨e, size⟩ := es
  obtain ⟨h1, h2⟩ := sizedElem_some hs
  have hu := sliceElem_some h1
  have nat : ∀ {a : AVal} {v : Value} {n : Nat}, R ρ a v → natOf a = some n → ∃ k, v = .int k (.ofNat n) := by
   intro a v n ha hn
   unfold natOf at hn
   split at hn
   ·simp only [R] at ha; cases hn; exact ⟨_, ha⟩
   ·cases hn
  cases hl : natOf l with
  | none => exact trivial
  | some ln =>
   cases hc : natOf c with
   | none => exact trivial
   | some cn =>
    obtain ⟨k1, rfl⟩ := nat hx hl
    obtain ⟨k2, rfl⟩ := nat hy hc
    show VR w0 B ρ (match some ln, some cn, zcells P e with
     | some l, some c, some z => bif (lenL z).beq size && !(size.beq 0) && l.ble c && c.ble 100000 && growOK P e size then .val (.slice m.next 0 l c true) (newRow m (e, size) (repL z c)) else .bad "makeSlice range"
     | _, _, _ => .bad "makeSlice") _
    cases hz : zcells P e with
    | none => exact trivial
    | some z =>
     dsimp only
     cases hg : ((lenL z).beq size && !(size.beq 0) && ln.ble cn && cn.ble 100000 && growOK P e size) with
     | false => exact trivial
     | true =>
      rw [cond_true]
      simp only [Bool.and_eq_true, nat_beq, nat_ble, lenL_eq, Bool.not_eq_true', nat_beq_f] at hg
      obtain ⟨⟨⟨⟨g1, g2⟩, g3⟩, g4⟩, g5⟩ := hg
      obtain ⟨zv, hz1, rfl⟩ := zcells_some hz
      have g1' : zv.cells.size = size := by simpa using g1
      have hgrow := g5
      unfold growOK at hgrow
      obtain ⟨i, hi, hsz⟩ := tsz_some h2
      rw [hi] at hgrow
      simp only [Bool.and_eq_true, nat_ble, Bool.not_eq_true', nat_beq_f] at hgrow
      obtain ⟨⟨b1, b2⟩, _⟩ := hgrow
      have hcs : ((Array.range (cn * size)).map (zv.cells[· % zv.cells.size]!)).toList = (List.replicate cn zv.cells.toList).flatten := range_rep (by omega) g1'
      obtain ⟨k3, k4⟩ := h.newRow (e, size) (repL (zv.cells.toList.map .lit) cn) ((Array.range (cn * size)).map (zv.cells[· % zv.cells.size]!)) (RL.cr (RL.rep (RL.lits _) cn) hcs)
      refine ⟨_, _, _, ?_, k4, k3, by
       simp only [R]
       exact ⟨_, cn, Rho.add_same _ _ _, Nat.le_refl _, fun _ => rfl, (fun hh => by cases hh), rfl⟩⟩
      unfold Instr.makeSlice
      have wr : ∀ n : Nat, n ≤ 100000 → IntKind.i64.wrap (Int.ofNat n) = n := by
       intro n hn
       unfold IntKind.wrap
       simp [IntKind.bits, IntKind.signed]
       omega
      have hmul : (i.bytes : Int) * (cn : Int) ≤ 65536 * 100000 := by
       have : i.bytes * cn ≤ 65536 * 100000 := Nat.mul_le_mul b1 g4
       omega
      simp only [run_bind, run_underlying' hu, asInt, asIntOf, run_pure, run_typeInfo' hi, wr ln (by omega), wr cn g4]
      rw [if_neg (by
       simp only [Bool.or_eq_true, decide_eq_true_eq, not_or]
       refine ⟨⟨⟨by omega, by omega⟩, by omega⟩, by omega⟩)]
      rw [run_bind, run_askRoom]
      dsimp only
      rw [run_bind, run_sizeOf' h2]
      dsimp only
      simp only [Int.toNat_natCast]
      by_cases h0 : cn * size = 0
      ·rw [if_pos h0, h0]
       simp only [run_bind, run_pure, show Array.range 0 = (#[] : Array Nat) from rfl, Array.map_empty]
       rfl
      ·rw [if_neg h0]
       rw [run_bind, run_zeroValue' hz1]
       rfl
theorem placesOf_sound : ∀ (fs : List Field) {pl : List (Nat × Nat)}, placesOf P fs = some pl → ∀ w : World,
  (fs.mapM (fun f => do pure (f.offset, ← sizeOf f.type)) : Sem (List (Nat × Nat))).run P w = .ok pl w := by
 intro fs
 induction fs with
 | nil => intro pl h w; have : some ([] : List (Nat × Nat)) = some pl := h; cases this; rfl
 | cons f fs ih =>
  intro pl h w
  have h' : (match tsz P f.type, placesOf P fs with | some n, some l => some ((f.offset, n) :: l) | _, _ => none) = some pl := h
  cases hn : tsz P f.type with
  | none => rw [hn] at h'; cases h'
  | some n =>
   cases hl : placesOf P fs with
   | none => rw [hn, hl] at h'; cases h'
   | some l =>
    rw [hn, hl] at h'
    cases h'
    rw [List.mapM_cons]
    simp only [run_bind, run_sizeOf' hn, run_pure, ih hl w]
theorem fillL_nil (place : Nat → Option (Nat × Nat)) (cells : List AVal) : fillL place [] cells = some cells := rfl
theorem fillL_cons (place : Nat → Option (Nat × Nat)) (p : Nat × AVal) (rest : List (Nat × AVal)) (cells : List AVal) :
  fillL place (p :: rest) cells = match place p.1 with | none => none | some q => fill1 (fillL place rest) p.2 cells q.1 q.2 := rfl
theorem foldl_put (off : Nat) : ∀ (l : List Value) (j : Nat) (cs : Array Value), off + j + l.length ≤ cs.size →
  ((l.zipIdx j).foldl (fun cs (x : Value × Nat) => cs.setIfInBounds (off + x.2) x.1) cs).size = cs.size ∧
  ∀ i, ((l.zipIdx j).foldl (fun cs (x : Value × Nat) => cs.setIfInBounds (off + x.2) x.1) cs)[i]? = if off + j ≤ i ∧ i < off + j + l.length then l[i - (off + j)]? else cs[i]? := by
 intro l
 induction l with
 | nil => intro j cs _; simp; intro i h1 h2; omega
 | cons x l ih =>
  intro j cs hl
  simp only [List.zipIdx_cons, List.foldl_cons, List.length_cons] at hl ⊢
  obtain ⟨h1, h2⟩ := ih (j + 1) (cs.setIfInBounds (off + j) x) (by simp; omega)
  refine ⟨by rw [h1]; simp, fun i => ?_⟩
  rw [h2 i]
  by_cases h3 : i = off + j
  ·subst h3
   rw [if_neg (by omega), if_pos (by omega), Array.getElem?_setIfInBounds, if_pos rfl, if_pos (by omega)]
   simp
  ·by_cases h4 : off + (j + 1) ≤ i ∧ i < off + (j + 1) + l.length
   ·rw [if_pos h4, if_pos (by omega), show i - (off + j) = (i - (off + (j + 1))) + 1 from by omega]
    simp
   ·rw [if_neg h4, if_neg (by omega), Array.getElem?_setIfInBounds, if_neg (by omega)]
theorem fill_sound {pa pc : Nat → Option (Nat × Nat)} (hpl : ∀ i q, pa i = some q → pc i = some q) : ∀ (parts : List (Nat × AVal)) (xs : List (Nat × Value)) (cells : List AVal) (cs : Array Value) {cells' : List AVal},
  fillL pa parts cells = some cells' → parts.length = xs.length → (∀ (i : Nat) (a : Nat × AVal), parts[i]? = some a → ∃ x, xs[i]? = some x ∧ x.1 = a.1 ∧ R ρ a.2 x.2) →
  RL ρ cells cs.toList → ∃ cs', Instr.fill pc cs xs = some cs' ∧ RL ρ cells' cs'.toList := by
 intro parts
 induction parts with
 | nil =>
  intro xs cells cs cells' h hl _ hc
  rw [fillL_nil] at h; cases h
  obtain rfl : xs = [] := List.length_eq_zero_iff.1 hl.symm
  exact ⟨cs, rfl, hc⟩
 | cons a rest ih =>
  intro xs cells cs cells' h hl hx hc
  cases xs with
  | nil => simp at hl
  | cons x xs =>
   obtain ⟨y, hy, e1, e2⟩ := hx 0 a rfl
   simp only [List.getElem?_cons_zero, Option.some.injEq] at hy
   subst hy
   rw [fillL_cons] at h
   cases hq : pa a.1 with
   | none => rw [hq] at h; cases h
   | some q =>
    rw [hq] at h
    dsimp only at h
    unfold fill1 at h
    cases hz : (!(isPoison a.2) && (lenL a.2.cells).beq q.2) with
    | false => rw [hz] at h; cases h
    | true =>
     rw [hz, cond_true] at h
     simp only [Bool.and_eq_true, Bool.not_eq_true', nat_beq, lenL_eq] at hz
     obtain ⟨e3, hz⟩ := hz
     cases hp : putCells a.2.cells q.1 cells with
     | none => rw [hp] at h; cases h
     | some cells1 =>
      rw [hp] at h
      dsimp only at h
      obtain ⟨k1, k2, k3⟩ := putCells_spec _ _ _ _ hp
      have hcl := hc.length
      have hac := e2.cells e3
      have hal := hac.length
      simp at hcl hal
      have hsz : x.2.cells.size = q.2 := by omega
      obtain ⟨f1, f2⟩ := foldl_put q.1 x.2.cells.toList 0 cs (by simp; omega)
      have hnew : RL ρ cells1 (((x.2.cells.toList.zipIdx 0).foldl (fun cs (x : Value × Nat) => cs.setIfInBounds (q.1 + x.2) x.1) cs)).toList := by
       refine RL.of_get (by simp; omega) fun i v hv => ?_
       rw [k3 i] at hv
       rw [Array.getElem?_toList, f2 i]
       by_cases hin : q.1 ≤ i ∧ i < q.1 + a.2.cells.length
       ·rw [if_pos hin] at hv
        obtain ⟨u, hu, hR⟩ := hac.get hv
        refine ⟨u, ?_, hR⟩
        rw [if_pos (by simp; omega)]
        simpa using hu
       ·rw [if_neg hin] at hv
        obtain ⟨u, hu, hR⟩ := hc.get hv
        refine ⟨u, ?_, hR⟩
        rw [if_neg (by simp; omega)]
        simpa using hu
      obtain ⟨cs', r1, r2⟩ := ih xs cells1 _ h (by simpa using hl) (fun i b hb => hx (i + 1) b (by simpa using hb)) hnew
      refine ⟨cs', ?_, r2⟩
      obtain ⟨x1, x2⟩ := x
      dsimp only at e1 e2 hsz r1
      subst e1
      unfold Instr.fill
      rw [hpl _ _ hq]
      dsimp only
      rw [if_neg (by simp; omega)]
      rw [← r1]
      congr 1
      rw [← Array.foldl_toList]
      simp
theorem mem_parts {ρ' : Operand → Value} {tmps : T AVal} (he : ∀ x, R ρ (evalT tmps x) (ρ' x)) (parts : List (Nat × Operand)) :
  (ev2 tmps parts).length = (parts.map fun x => (x.1, ρ' x.2)).length ∧
  ∀ (i : Nat) (a : Nat × AVal), (ev2 tmps parts)[i]? = some a → ∃ x, (parts.map fun x => (x.1, ρ' x.2))[i]? = some x ∧ x.1 = a.1 ∧ R ρ a.2 x.2 := by
 unfold ev2
 rw [mapL_eq]
 refine ⟨by simp, fun i a ha => ?_⟩
 rw [List.getElem?_map] at ha ⊢
 cases hp : parts[i]? with
 | none => rw [hp] at ha; cases ha
 | some q =>
  rw [hp] at ha
  simp only [Option.map_some, Option.some.injEq] at ha
  subst ha
  exact ⟨_, rfl, rfl, he q.2⟩
theorem build_sound (h : MR w0 B ρ m w) (t : TypeId) {ρ' : Operand → Value} {tmps : T AVal} (he : ∀ x, R ρ (evalT tmps x) (ρ' x)) (parts : Array (Nat × Operand)) :
  VR w0 B ρ (buildOp P t (ev2 tmps parts.toList) m (zcells P t)) ((Instr.build t (parts.map fun (i, x) => (i, ρ' x))).run P w) := by
 cases hz : zcells P t with
 | none => exact trivial
 | some z =>
  obtain ⟨zv, hz1, rfl⟩ := zcells_some hz
  show VR w0 B ρ (buildIn P (ev2 tmps parts.toList) m (zv.cells.toList.map .lit) (P.underlying t)) _
  obtain ⟨hl, hp⟩ := mem_parts he parts.toList
  have htl : (parts.map fun (i, x) => (i, ρ' x)).toList = parts.toList.map fun x => (x.1, ρ' x.2) := by simp
  have fin : ∀ (pa pc : Nat → Option (Nat × Nat)) (res : Result Value), (∀ i q, pa i = some q → pc i = some q) →
    (∀ cs', Instr.fill pc zv.cells (parts.map fun (i, x) => (i, ρ' x)).toList = some cs' → res = .ok (.agg cs') w) →
    VR w0 B ρ (buildWith m (fillL pa (ev2 tmps parts.toList) (zv.cells.toList.map .lit))) res := by
   intro pa pc res hpl hres
   cases hf : fillL pa (ev2 tmps parts.toList) (zv.cells.toList.map .lit) with
   | none => exact trivial
   | some cells' =>
    obtain ⟨cs', r1, r2⟩ := fill_sound (ρ := ρ) hpl _ _ _ zv.cells hf hl hp (RL.lits _)
    rw [hres cs' (by rw [htl]; exact r1)]
    exact VR.same h (by simp only [R]; exact ⟨_, rfl, r2⟩)
  cases hu : P.underlying t with
  | none => exact trivial
  | some d =>
   cases d with
   | struct fs =>
    show VR w0 B ρ (buildPl (ev2 tmps parts.toList) m (zv.cells.toList.map .lit) (placesOf P fs.toList)) _
    cases hpl : placesOf P fs.toList with
    | none => exact trivial
    | some pl =>
     refine fin _ (fun i => (pl.toArray)[i]?) _ (fun i q e => by rw [getO_eq] at e; simpa using e) fun cs' hcs => ?_
     unfold Instr.build
     simp only [run_bind, run_zeroValue' hz1, run_underlying' hu]
     have hm : (fs.mapM (fun f => do pure (f.offset, ← sizeOf f.type)) : Sem (Array (Nat × Nat))).run P w = .ok pl.toArray w := by
      rw [Array.mapM_eq_mapM_toList]
      show ((List.toArray <$> _) : Sem _).run P w = _
      rw [map_eq_pure_bind, run_bind, placesOf_sound fs.toList hpl w]
      rfl
     rw [hm]
     simp only [hcs]
     rfl
   | array n e =>
    show VR w0 B ρ (buildArr (ev2 tmps parts.toList) m (zv.cells.toList.map .lit) (tsz P e)) _
    cases hs : tsz P e with
    | none => exact trivial
    | some size =>
     refine fin _ (fun i => some (i * size, size)) _ (fun i q e => e) fun cs' hcs => ?_
     unfold Instr.build
     simp only [run_bind, run_zeroValue' hz1, run_underlying' hu, run_sizeOf' hs, hcs]
     rfl
   | _ => exact trivial
theorem buildSlice_sound (h : MR w0 B ρ m w) (t : TypeId) (len : Nat) {ρ' : Operand → Value} {tmps : T AVal} (he : ∀ x, R ρ (evalT tmps x) (ρ' x)) (parts : Array (Nat × Operand)) :
  VR w0 B ρ (buildSlice P len (ev2 tmps parts.toList) m (sizedElem P (sliceElem P t))) ((Instr.buildSlice t len (parts.map fun (i, x) => (i, ρ' x))).run P w) := by
 cases hs : sizedElem P (sliceElem P t) with
 | none => exact trivial
 | some es =>
  obtain ⟨e, size⟩ := es
  obtain ⟨h1, h2⟩ := sizedElem_some hs
  have hu := sliceElem_some h1
  show VR w0 B ρ (match zcells P e with
   | some z => bif (lenL z).beq size && (len.mul size).ble 10000 && !(size.beq 0) then bsWith m (e, size) len (fillL (fun i => some (i.mul size, size)) (ev2 tmps parts.toList) (repL z len)) else .bad "buildSlice"
   | none => .bad "buildSlice") _
  cases hz : zcells P e with
  | none => exact trivial
  | some z =>
   obtain ⟨zv, hz1, rfl⟩ := zcells_some hz
   dsimp only
   cases hg : ((lenL (zv.cells.toList.map AVal.lit)).beq size && (len.mul size).ble 10000 && !(size.beq 0)) with
   | false => exact trivial
   | true =>
    rw [cond_true]
    simp only [Bool.and_eq_true, nat_beq, nat_ble, lenL_eq, Bool.not_eq_true', nat_beq_f, List.length_map, Array.length_toList] at hg
    obtain ⟨⟨g1, g2⟩, g3⟩ := hg
    have g2' : len * size ≤ 10000 := g2
    obtain ⟨hl, hp⟩ := mem_parts he parts.toList
    have htl : (parts.map fun (i, x) => (i, ρ' x)).toList = parts.toList.map fun x => (x.1, ρ' x.2) := by simp
    cases hf : fillL (fun i => some (i.mul size, size)) (ev2 tmps parts.toList) (repL (zv.cells.toList.map .lit) len) with
    | none => exact trivial
    | some cells' =>
     have hcs := range_rep (z := zv.cells) (q := size) (n := len) (by omega) g1
     obtain ⟨cs', r1, r2⟩ := fill_sound (ρ := ρ) (pa := fun i => some (i.mul size, size)) (pc := fun i => some (i * size, size)) (fun i q e => e) _ _ _
      ((Array.range (len * size)).map (zv.cells[· % zv.cells.size]!)) hf hl hp (by rw [hcs]; exact RL.rep (RL.lits _) len)
     obtain ⟨k3, k4⟩ := h.newRow (e, size) cells' cs' (RL.cr r2 rfl)
     refine ⟨_, _, _, ?_, k4, k3, by
      simp only [R]
      exact ⟨_, len, Rho.add_same _ _ _, Nat.le_refl _, fun _ => rfl, (fun hh => by cases hh), rfl⟩⟩
     unfold Instr.buildSlice
     simp only [run_bind, run_underlying' hu, run_sizeOf' h2]
     rw [if_neg (by omega)]
     by_cases h0 : len * size = 0
     ·rw [if_pos h0]
      simp only [run_bind, run_pure]
      rw [h0] at r1 ⊢
      simp only [show Array.range 0 = (#[] : Array Nat) from rfl, Array.map_empty] at r1 ⊢
      rw [htl, r1]
      rfl
     ·rw [if_neg h0]
      simp only [run_bind, run_zeroValue' hz1, run_pure]
      rw [htl, r1]
      rfl
end
open Go.RowKit (Below)
section
variable {P : Program} {w0 : Wo} {B : Nat} {ρ : Rho} {m : Mem} {w : World}
theorem nat_of {a : AVal} {v : Value} {n : Nat} (ha : R ρ a v) (hn : natOf a = some n) : ∃ k, v = .int k (.ofNat n) := by
 unfold natOf at hn
 split at hn
 ·simp only [R] at ha; cases hn; exact ⟨_, ha⟩
 ·cases hn
def OptR (ρ : Rho) (a : Option AVal) (x : Option Value) : Prop := match a, x with
 | none, none => True
 | some v, some y => R ρ v y
 | _, _ => False
theorem run_sliceBound {v : Value} {k : IntKind} {n y : Nat} (hv : v = .int k (.ofNat n)) (h : n ≤ y) (c : BoundsCode) (w : World) : (Instr.sliceBound v y c).run P w = .ok n w := by
 subst hv
 unfold Instr.sliceBound
 simp only [run_bind, asIntOf, run_pure]
 rw [if_pos (by simp; omega)]
 rfl
theorem nDef_some {ρ : Rho} {a : Option AVal} {x : Option Value} {d n : Nat} (h : OptR ρ a x) (hn : nDef d a = some n) :
  (a = none ∧ x = none ∧ n = d) ∨ (∃ v k, a = some v ∧ x = some (.int k (.ofNat n))) := by
 cases a with
 | none => cases x with
  | none => left; simp only [nDef, Option.some.injEq] at hn; exact ⟨rfl, rfl, hn.symm⟩
  | some y => exact h.elim
 | some v => cases x with
  | none => exact h.elim
  | some y =>
   right
   obtain ⟨k, rfl⟩ := nat_of h hn
   exact ⟨v, k, rfl, rfl⟩
theorem bounds_sound {lo hi mx : Option AVal} {xl xh xm : Option Value} (hl : OptR ρ lo xl) (hh : OptR ρ hi xh) (hm : OptR ρ mx xm) {n c c' l h k : Nat}
  (el : nDef 0 lo = some l) (eh : nDef n hi = some h) (em : nDef c mx = some k) (hc : c ≤ c') (h1 : l ≤ h) (h2 : h ≤ k) (h3 : k ≤ c) (hmx : mx.isSome = true → hi.isSome = true)
  (b : Bool) (w : World) : (Instr.sliceBounds b n c' xl xh xm).run P w = .ok (l, h, if mx.isSome then k else c') w := by
 have s1 : ∀ kk cd, (Instr.sliceBound (.int kk (l : Int)) h cd).run P w = .ok l w := fun kk cd => run_sliceBound rfl h1 cd w
 have s2 : ∀ kk cd, (Instr.sliceBound (.int kk (h : Int)) k cd).run P w = .ok h w := fun kk cd => run_sliceBound rfl h2 cd w
 have s3 : ∀ kk cd, (Instr.sliceBound (.int kk (h : Int)) c' cd).run P w = .ok h w := fun kk cd => run_sliceBound rfl (by omega) cd w
 have s4 : ∀ kk cd, (Instr.sliceBound (.int kk (k : Int)) c' cd).run P w = .ok k w := fun kk cd => run_sliceBound rfl (by omega) cd w
 unfold Instr.sliceBounds
 rcases nDef_some hm em with ⟨rfl, rfl, rfl⟩ | ⟨vm, km, rfl, rfl⟩
 ·rcases nDef_some hh eh with ⟨rfl, rfl, rfl⟩ | ⟨vh, kh, rfl, rfl⟩
  ·rcases nDef_some hl el with ⟨rfl, rfl, rfl⟩ | ⟨vl, kl, rfl, rfl⟩
   ·simp
   ·simp [s1]
  ·rcases nDef_some hl el with ⟨rfl, rfl, rfl⟩ | ⟨vl, kl, rfl, rfl⟩
   ·simp [s3]
   ·simp [s1, s3]
 ·rcases nDef_some hh eh with ⟨rfl, rfl, rfl⟩ | ⟨vh, kh, rfl, rfl⟩
  ·exact absurd (hmx rfl) (by simp)
  ·rcases nDef_some hl el with ⟨rfl, rfl, rfl⟩ | ⟨vl, kl, rfl, rfl⟩
   ·simp [s2, s4]
   ·simp [s1, s2, s4]
theorem sliceAt_sound (h : MR w0 B ρ m w) {r off n c c' size : Nat} {p : Pl} (hp : ρ r = some p) {ex ex' : Bool} {lo hi mx : Option AVal} {xl xh xm : Option Value}
  (hl : OptR ρ lo xl) (hh : OptR ρ hi xh) (hm : OptR ρ mx xm) (hmx : mx.isSome = true → hi.isSome = true) (hex' : ex' = (mx.isSome || ex)) (hc : c ≤ c') (hexc : ex = true → c' = c)
  (hopen : ex = false → off + p.s + c' * p.q ≤ p.z) (b : Bool) (res : Result Value)
  (hres : ∀ l h' k, (Instr.sliceBounds b n c' xl xh xm).run P w = .ok (l, h', k) w →
   res = .ok (.slice (some (if k = l then ⟨p.b, off + p.s, none⟩ else ⟨p.b, off + p.s + l * size, none⟩)) (h' - l) (k - l)) w) :
  VR w0 B ρ (sliceAt m r off c size ex ex' (nDef 0 lo) (nDef n hi) (nDef c mx)) res := by
 cases el : nDef 0 lo with
 | none => unfold sliceAt; exact trivial
 | some l =>
  cases eh : nDef n hi with
  | none => unfold sliceAt; exact trivial
  | some h' =>
   cases em : nDef c mx with
   | none => unfold sliceAt; exact trivial
   | some k =>
    show VR w0 B ρ (bif (l.ble h' && h'.ble k && k.ble c) then
     bif k.beq l then (bif ex' then .val (.slice r off (h'.sub l) (k.sub l) true) m else .val .emptyS m)
     else bif ex' || ex then .val (.slice r (off.add (l.mul size)) (h'.sub l) (k.sub l) true) m
     else sliceOpen m r (off.add (l.mul size)) (h'.sub l) (k.sub l) size (m.heap.get r) else .bad "slice bounds") res
    cases hb : (l.ble h' && h'.ble k && k.ble c) with
    | false => exact trivial
    | true =>
     simp only [Bool.and_eq_true, nat_ble] at hb
     obtain ⟨⟨b1, b2⟩, b3⟩ := hb
     rw [cond_true]
     have hr := hres l h' _ (bounds_sound hl hh hm el eh em hc b1 b2 b3 hmx b w)
     -- what the capacity is
     have hcap : ex' = true → (if mx.isSome then k else c') = k := by
      intro he
      cases hs : mx.isSome with
      | true => simp
      | false =>
       rw [hs, Bool.false_or] at hex'
       have := hexc (hex' ▸ he)
       rcases nDef_some hm em with ⟨rfl, _, rfl⟩ | ⟨v, kk, rfl, _⟩
       ·simp [this]
       ·simp at hs
     cases hkl : k.beq l with
     | true =>
      rw [nat_beq] at hkl
      subst hkl
      rw [cond_true]
      cases he : ex' with
      | true =>
       rw [cond_true, hr, hcap he, if_pos rfl]
       refine VR.same h ?_
       simp only [R]
       refine ⟨p, k - k, hp, ?_, fun _ => ?_, (fun hh => by cases hh), rfl⟩
       ·show k - k ≤ k - k; omega
       ·show k - k = k - k; rfl
      | false =>
       rw [cond_false, hr]
       have hz : h' - k = 0 := by omega
       rw [hz]
       refine VR.same h ?_
       simp only [R]
       exact ⟨_, _, rfl⟩
     | false =>
      rw [nat_beq_f] at hkl
      rw [cond_false]
      cases he : (ex' || ex) with
      | true =>
       rw [cond_true]
       have he' : ex' = true := by
        cases ex' with
        | true => rfl
        | false => simp at he; rw [he] at hex'; simp at hex'
       rw [hr, hcap he', if_neg hkl]
       refine VR.same h ?_
       simp only [R]
       refine ⟨p, k - l, hp, ?_, fun _ => rfl, (fun hh => by cases hh), ?_⟩
       ·show k - l ≤ k - l; omega
       ·show Value.slice (some ⟨p.b, off + p.s + l * size, none⟩) (h' - l) (k - l) = .slice (some ⟨p.b, off + l * size + p.s, none⟩) (h' - l) (k - l)
        rw [show off + p.s + l * size = off + l * size + p.s from by omega]
      | false =>
       rw [cond_false]
       have hx : ex' = false ∧ ex = false := by simpa using he
       have hms : mx.isSome = false := by
        cases hs : mx.isSome with
        | false => rfl
        | true => rw [hs, hx.1] at hex'; simp at hex'
       have hkc : k = c := by
        rcases nDef_some hm em with ⟨_, _, rfl⟩ | ⟨v, kk, rfl, _⟩
        ·rfl
        ·simp at hms
       unfold sliceOpen
       split
       ·rename_i e cells f pos ho
        cases hes : e.2.beq size with
        | false => exact trivial
        | true =>
         rw [nat_beq] at hes
         rw [cond_true, hr]
         simp only [hms, Bool.false_eq_true, if_false]
         have hq : p.q = e.2 := (h.obj r _ p ho hp).2.1
         have hop := hopen hx.2
         rw [if_neg (by omega)]
         refine VR.same h ?_
         simp only [R]
         refine ⟨p, c' - l, hp, ?_, (fun hh => by cases hh), fun _ => ?_, ?_⟩
         ·show k - l ≤ c' - l; omega
         ·show off + l * size + p.s + (c' - l) * p.q ≤ p.z
          have : c' * p.q = l * size + (c' - l) * p.q := by
           rw [hq, hes, ← Nat.add_mul]; congr 1; omega
          omega
         ·show Value.slice (some ⟨p.b, off + p.s + l * size, none⟩) (h' - l) (c' - l) = .slice (some ⟨p.b, off + l * size + p.s, none⟩) (h' - l) (c' - l)
          rw [show off + p.s + l * size = off + l * size + p.s from by omega]
       ·exact trivial
theorem slice_sound (h : MR w0 B ρ m w) (t : TypeId) {a : AVal} {x : Value} (hx : R ρ a x) {lo hi mx : Option AVal} {xl xh xm : Option Value}
  (hl : OptR ρ lo xl) (hh : OptR ρ hi xh) (hm : OptR ρ mx xm) : VR w0 B ρ (sliceOp P t lo hi mx m a) ((Instr.sliceAt t x xl xh xm).run P w) := by
 unfold sliceOp
 cases hmh : (mx.isSome && !hi.isSome) with
 | true => exact trivial
 | false =>
  rw [cond_false]
  have hmx : mx.isSome = true → hi.isSome = true := by
   intro e
   rw [e] at hmh
   simpa using hmh
  have arr : ∀ (r off : Nat) (p : Pl), ρ r = some p → x = .pointer (some ⟨p.b, off + p.s, none⟩) →
    VR w0 B ρ (sliceArr P m r off lo hi mx (arrOf P t)) ((Instr.sliceAt t x xl xh xm).run P w) := by
   intro r off p hp hxp
   subst hxp
   cases hu : P.underlying t with
   | none => unfold arrOf; rw [hu]; exact trivial
   | some d =>
    have go : ∀ n e, arrOf P t = some (.array n e) →
      (∀ size l h' k, tsz P e = some size → (Instr.sliceBounds false n n xl xh xm).run P w = .ok (l, h', k) w →
       (Instr.sliceAt t (.pointer (some ⟨p.b, off + p.s, none⟩)) xl xh xm).run P w =
        .ok (.slice (some (if k = l then ⟨p.b, off + p.s, none⟩ else ⟨p.b, off + p.s + l * size, none⟩)) (h' - l) (k - l)) w) →
      VR w0 B ρ (sliceArr P m r off lo hi mx (arrOf P t)) ((Instr.sliceAt t (.pointer (some ⟨p.b, off + p.s, none⟩)) xl xh xm).run P w) := by
     intro n e harr hrun
     rw [harr]
     show VR w0 B ρ (match tsz P e with | some size => sliceAt m r off n size true true (nDef 0 lo) (nDef n hi) (nDef n mx) | none => .bad "slice arr") _
     cases hs : tsz P e with
     | none => exact trivial
     | some size =>
      exact sliceAt_sound (P := P) h hp hl hh hm hmx (by simp) (Nat.le_refl _) (fun _ => rfl) (fun hh => by cases hh) false _ fun l h' k hb => hrun size l h' k hs hb
    cases d with
    | array n e =>
     refine go n e (by unfold arrOf; rw [hu]) fun size l h' k hs hb => ?_
     unfold Instr.sliceAt
     simp only [run_bind, run_underlying' hu, Instr.sureAddr, run_pure, hb, run_sizeOf' hs, add_addr]
    | pointer arr =>
     cases hu2 : P.underlying arr with
     | none => unfold arrOf; rw [hu]; dsimp only; rw [hu2]; exact trivial
     | some d2 =>
      cases d2 with
      | array n e =>
       refine go n e (by unfold arrOf; rw [hu]; exact hu2) fun size l h' k hs hb => ?_
       unfold Instr.sliceAt
       simp only [run_bind, run_underlying' hu]
       unfold Instr.slice
       simp only [run_bind, run_underlying' hu, run_underlying' hu2, asAddr, run_pure, hb, run_sizeOf' hs, add_addr]
      | _ => unfold arrOf; rw [hu]; dsimp only; rw [hu2]; exact trivial
    | _ => unfold arrOf; rw [hu]; exact trivial
  cases a with
  | slice r off n c ex =>
   simp only [R] at hx
   obtain ⟨p, c', hp, h1, h2, h3, rfl⟩ := hx
   show VR w0 B ρ (match sizedElem P (sliceElem P t) with | some (_, size) => sliceAt m r off c size ex (mx.isSome || ex) (nDef 0 lo) (nDef n hi) (nDef c mx) | none => .bad "slice type") _
   cases hs : sizedElem P (sliceElem P t) with
   | none => exact trivial
   | some es =>
    obtain ⟨e, size⟩ := es
    obtain ⟨k1, k2⟩ := sizedElem_some hs
    have hu := sliceElem_some k1
    refine sliceAt_sound (P := P) h hp hl hh hm hmx rfl h1 h2 h3 true _ fun l h' k hb => ?_
    unfold Instr.sliceAt
    simp only [run_bind, run_underlying' hu]
    unfold Instr.slice
    simp only [run_bind, run_underlying' hu, hb, run_sizeOf' k2, run_pure, add_addr, Option.map_some]
    by_cases hk : k = l
    ·simp [hk]
    ·simp [hk]
  | ptr r off =>
   simp only [R] at hx
   obtain ⟨p, hp, hxp⟩ := hx
   exact arr r off p hp hxp
  | lit v =>
   simp only [R] at hx; subst hx
   cases x with
   | string s =>
    show VR w0 B ρ (bif mx.isSome || !(isStrD (P.underlying t)) then .bad "slice of a string" else sliceStr m s (nDef 0 lo) (nDef s.size hi)) _
    cases hb : (mx.isSome || !(isStrD (P.underlying t))) with
    | true => exact trivial
    | false =>
     rw [cond_false]
     simp only [Bool.or_eq_false_iff, Bool.not_eq_false'] at hb
     obtain ⟨b1, b2⟩ := hb
     have hu : P.underlying t = some .string := by
      unfold isStrD at b2
      split at b2
      ·assumption
      ·cases b2
     have hmn : mx = none := by cases mx <;> simp at b1; rfl
     subst hmn
     have hxm : xm = none := by cases xm with
      | none => rfl
      | some y => exact hm.elim
     subst hxm
     cases el : nDef 0 lo with
     | none => exact trivial
     | some l =>
      cases eh : nDef s.size hi with
      | none => exact trivial
      | some h' =>
       show VR w0 B ρ (bif (l.ble h' && h'.ble s.size) then .val (.lit (.string (s.extract l h'))) m else .bad "slice bounds") _
       cases hc : (l.ble h' && h'.ble s.size) with
       | false => exact trivial
       | true =>
        simp only [Bool.and_eq_true, nat_ble] at hc
        rw [cond_true]
        have hbd := bounds_sound (P := P) hl hh (show OptR ρ none none from trivial) (c := s.size) el eh rfl (Nat.le_refl _) hc.1 hc.2 (Nat.le_refl _) (fun e => by cases e) false w
        refine (VR.lit h).of_eq ?_
        unfold Instr.sliceAt
        simp only [run_bind, run_underlying' hu]
        unfold Instr.slice
        simp only [run_bind, run_underlying' hu, Option.isSome_none, Bool.false_eq_true, if_false, hbd]
        rfl
   | slice b n c =>
    cases b with
    | some b => exact trivial
    | none =>
     cases n with
     | succ n => exact trivial
     | zero =>
      cases c with
      | succ c => exact trivial
      | zero =>
       show VR w0 B ρ (sliceNil P t m (nDef 0 lo) (nDef 0 hi) (nDef 0 mx)) _
       unfold sliceNil
       split
       ·rename_i el eh em
        cases hs : sizedElem P (sliceElem P t) with
        | none => exact trivial
        | some es =>
         obtain ⟨e, size⟩ := es
         obtain ⟨k1, k2⟩ := sizedElem_some hs
         have hu := sliceElem_some k1
         have hbd := bounds_sound (P := P) hl hh hm (c := 0) el eh em (Nat.le_refl 0) (Nat.le_refl _) (Nat.le_refl _) (Nat.le_refl _) hmx true w
         refine (VR.lit h).of_eq ?_
         unfold Instr.sliceAt
         simp only [run_bind, run_underlying' hu]
         unfold Instr.slice
         simp only [run_bind, run_underlying' hu, hbd, run_sizeOf' k2, run_pure]
         simp
       ·exact trivial
   | _ => exact trivial
  | _ => exact trivial
end
end Go.Abs
