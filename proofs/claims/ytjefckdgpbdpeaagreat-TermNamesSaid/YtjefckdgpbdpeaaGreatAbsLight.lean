/- An executor whose runs hold in every world: a part of it and of what is proved of it. -/
import Derived.Test.YtjefckdgpbdpeaaGreatAbsBody

namespace Go.Abs
open Go

/-- an outcome, with another memory -/
def Out.re (m2 : Mem) : Out → Out
  | .val v _ => .val v m2
  | .enter f a _ => .enter f a m2
  | .round l f nt t a b _ => .round l f nt t a b m2
  | .recov => .recov
  | .panic v _ => .panic v m2
  | .bad w => .bad w

/-! ## operations that don't look at memory -/
theorem X_outOf (why : String) (e : Except (Option Value) Value) (m m2 : Mem) : outOf m2 why e = (outOf m why e).re m2 := by
  unfold outOf
  try simp only [Bool.cond_eq_ite]
  repeat' split
  all_goals first
    | rfl
    | simp_all [Out.re]
theorem X_pureOp (P : Program) (s : Sem Value) (why : String) (m m2 : Mem) : pureOp P s m2 why = (pureOp P s m why).re m2 := X_outOf _ _ _ _
theorem X_nilDeref (P : Program) (m m2 : Mem) : nilDeref P m2 = (nilDeref P m).re m2 := rfl
theorem X_boundsPanic (P : Program) (m m2 : Mem) : Abs.boundsPanic P m2 = (Abs.boundsPanic P m).re m2 := rfl
theorem X_lits1 (P : Program) (f : Value → Sem Value) (o : Option Value) (m m2 : Mem) : lits1 P m2 f o = (lits1 P m f o).re m2 := by
  unfold lits1
  try simp only [Bool.cond_eq_ite]
  repeat' split
  all_goals first
    | rfl
    | exact X_pureOp _ _ _ _ _
    | simp_all [Out.re]
theorem X_lits2 (P : Program) (f : Value → Value → Sem Value) (o q : Option Value) (m m2 : Mem) : lits2 P m2 f o q = (lits2 P m f o q).re m2 := by
  unfold lits2
  try simp only [Bool.cond_eq_ite]
  repeat' split
  all_goals first
    | rfl
    | exact X_pureOp _ _ _ _ _
    | simp_all [Out.re]
theorem X_litsOp (P : Program) (f : Array Value → Sem Value) (why : String) (o : Option (List Value)) (m m2 : Mem) : litsOp P m2 f why o = (litsOp P m f why o).re m2 := by
  unfold litsOp
  try simp only [Bool.cond_eq_ite]
  repeat' split
  all_goals first
    | rfl
    | exact X_pureOp _ _ _ _ _
    | simp_all [Out.re]
theorem X_eqPtr (neq : Bool) (r o q p : Nat) (x : Option Nat) (m m2 : Mem) : eqPtr neq m2 r o q p x = (eqPtr neq m r o q p x).re m2 := by
  unfold eqPtr
  try simp only [Bool.cond_eq_ite]
  repeat' split
  all_goals first
    | rfl
    | simp_all [Out.re]
theorem X_eqNil (neq : Bool) (k : Nat) (d : Option TypeDesc) (m m2 : Mem) : eqNil neq m2 k d = (eqNil neq m k d).re m2 := by
  unfold eqNil
  try simp only [Bool.cond_eq_ite]
  repeat' split
  all_goals first
    | rfl
    | simp_all [Out.re]
theorem X_eqOp (P : Program) (op : BinOp) (neq : Bool) (t : TypeId) (ox oy : Operand) (a b : AVal) (m m2 : Mem) : eqOp P op neq t ox oy a b m2 = (eqOp P op neq t ox oy a b m).re m2 := by
  unfold eqOp
  try simp only [Bool.cond_eq_ite]
  repeat' split
  all_goals first
    | rfl
    | exact X_lits2 _ _ _ _ _ _
    | exact X_eqPtr _ _ _ _ _ _ _ _
    | exact X_eqNil _ _ _ _ _
    | simp_all [Out.re]
theorem X_binOpA (P : Program) (op : BinOp) (t : TypeId) (ox oy : Operand) (a b : AVal) (m m2 : Mem) : binOpA P op t ox oy a b m2 = (binOpA P op t ox oy a b m).re m2 := by
  unfold binOpA
  try simp only [Bool.cond_eq_ite]
  repeat' split
  all_goals first
    | rfl
    | exact X_eqOp _ _ _ _ _ _ _ _ _ _
    | exact X_lits2 _ _ _ _ _ _
    | simp_all [Out.re]
theorem X_valO (why : String) (o : Option AVal) (m m2 : Mem) : valO m2 why o = (valO m why o).re m2 := by
  unfold valO
  try simp only [Bool.cond_eq_ite]
  repeat' split
  all_goals first
    | rfl
    | simp_all [Out.re]
theorem X_ixAt (P : Program) (r off size n : Nat) (i : Int) (m m2 : Mem) : ixAt P m2 r off size n i = (ixAt P m r off size n i).re m2 := by
  unfold ixAt
  try simp only [Bool.cond_eq_ite]
  repeat' split
  all_goals first
    | rfl
    | exact X_boundsPanic _ _ _
    | simp_all [Out.re]
theorem X_indexAddr (P : Program) (t : TypeId) (i : Int) (x : AVal) (m m2 : Mem) : indexAddr P t m2 i x = (indexAddr P t m i x).re m2 := by
  unfold indexAddr
  try simp only [Bool.cond_eq_ite]
  repeat' split
  all_goals first
    | rfl
    | exact X_boundsPanic _ _ _
    | exact X_ixAt _ _ _ _ _ _ _ _
    | simp_all [Out.re]
theorem X_ixStr (P : Program) (s : ByteArray) (i : Int) (m m2 : Mem) : ixStr P m2 s i = (ixStr P m s i).re m2 := by
  unfold ixStr
  try simp only [Bool.cond_eq_ite]
  repeat' split
  all_goals first
    | rfl
    | exact X_boundsPanic _ _ _
    | simp_all [Out.re]
theorem X_ixPart (P : Program) (v : AVal) (e : TypeId) (j : Nat) (o : Option Nat) (m m2 : Mem) : ixPart P m2 v e j o = (ixPart P m v e j o).re m2 := by
  unfold ixPart
  try simp only [Bool.cond_eq_ite]
  repeat' split
  all_goals first
    | rfl
    | simp_all [Out.re]
theorem X_ixArr (P : Program) (v : AVal) (i : Int) (d : Option TypeDesc) (m m2 : Mem) : ixArr P m2 v i d = (ixArr P m v i d).re m2 := by
  unfold ixArr
  try simp only [Bool.cond_eq_ite]
  repeat' split
  all_goals first
    | rfl
    | exact X_boundsPanic _ _ _
    | exact X_ixPart _ _ _ _ _ _ _
    | simp_all [Out.re]
theorem X_indexOp (P : Program) (t : TypeId) (i : Int) (x : AVal) (m m2 : Mem) : indexOp P t m2 i x = (indexOp P t m i x).re m2 := by
  unfold indexOp
  try simp only [Bool.cond_eq_ite]
  repeat' split
  all_goals first
    | rfl
    | exact X_ixStr _ _ _ _ _
    | exact X_ixArr _ _ _ _ _ _
    | simp_all [Out.re]
theorem X_indexA (P : Program) (t : TypeId) (x : AVal) (o : Option Int) (m m2 : Mem) : indexA P t m2 x o = (indexA P t m x o).re m2 := by
  unfold indexA
  try simp only [Bool.cond_eq_ite]
  repeat' split
  all_goals first
    | rfl
    | exact X_indexAddr _ _ _ _ _ _
    | simp_all [Out.re]
theorem X_indexV (P : Program) (t : TypeId) (x : AVal) (o : Option Int) (m m2 : Mem) : indexV P t m2 x o = (indexV P t m x o).re m2 := by
  unfold indexV
  try simp only [Bool.cond_eq_ite]
  repeat' split
  all_goals first
    | rfl
    | exact X_indexOp _ _ _ _ _ _
    | simp_all [Out.re]
theorem X_taFails (P : Program) (asserted : TypeId) (ok : Bool) (m m2 : Mem) : taFails P asserted ok m2 = (taFails P asserted ok m).re m2 := by
  unfold taFails
  try simp only [Bool.cond_eq_ite]
  repeat' split
  all_goals first
    | rfl
    | simp_all [Out.re]
theorem X_taHolds (ok : Bool) (v : AVal) (m m2 : Mem) : taHolds ok v m2 = (taHolds ok v m).re m2 := rfl
theorem X_taWith (P : Program) (asserted : TypeId) (ok : Bool) (x v : AVal) (o : Option Bool) (m m2 : Mem) : taWith P asserted ok x v m2 o = (taWith P asserted ok x v m o).re m2 := by
  unfold taWith
  try simp only [Bool.cond_eq_ite]
  repeat' split
  all_goals first
    | rfl
    | exact X_taHolds _ _ _ _
    | exact X_taFails _ _ _ _ _
    | simp_all [Out.re]
theorem X_typeAssert (P : Program) (asserted : TypeId) (ok : Bool) (x : AVal) (m m2 : Mem) : typeAssert P asserted ok m2 x = (typeAssert P asserted ok m x).re m2 := by
  unfold typeAssert
  try simp only [Bool.cond_eq_ite]
  repeat' split
  all_goals first
    | rfl
    | exact X_taFails _ _ _ _ _
    | exact X_taWith _ _ _ _ _ _ _ _
    | simp_all [Out.re]
theorem X_buildWith (o : Option (List AVal)) (m m2 : Mem) : buildWith m2 o = (buildWith m o).re m2 := by
  unfold buildWith
  try simp only [Bool.cond_eq_ite]
  repeat' split
  all_goals first
    | rfl
    | simp_all [Out.re]
theorem X_buildPl (parts : List (Nat × AVal)) (z : List AVal) (o : Option (List (Nat × Nat))) (m m2 : Mem) : buildPl parts m2 z o = (buildPl parts m z o).re m2 := by
  unfold buildPl
  try simp only [Bool.cond_eq_ite]
  repeat' split
  all_goals first
    | rfl
    | exact X_buildWith _ _ _
    | simp_all [Out.re]
theorem X_buildArr (parts : List (Nat × AVal)) (z : List AVal) (o : Option Nat) (m m2 : Mem) : buildArr parts m2 z o = (buildArr parts m z o).re m2 := by
  unfold buildArr
  try simp only [Bool.cond_eq_ite]
  repeat' split
  all_goals first
    | rfl
    | exact X_buildWith _ _ _
    | simp_all [Out.re]
theorem X_buildIn (P : Program) (parts : List (Nat × AVal)) (z : List AVal) (o : Option TypeDesc) (m m2 : Mem) : buildIn P parts m2 z o = (buildIn P parts m z o).re m2 := by
  unfold buildIn
  try simp only [Bool.cond_eq_ite]
  repeat' split
  all_goals first
    | rfl
    | exact X_buildPl _ _ _ _ _
    | exact X_buildArr _ _ _ _ _
    | simp_all [Out.re]
theorem X_buildOp (P : Program) (t : TypeId) (parts : List (Nat × AVal)) (o : Option (List AVal)) (m m2 : Mem) : buildOp P t parts m2 o = (buildOp P t parts m o).re m2 := by
  unfold buildOp
  try simp only [Bool.cond_eq_ite]
  repeat' split
  all_goals first
    | rfl
    | exact X_buildIn _ _ _ _ _ _
    | simp_all [Out.re]
theorem X_nilCheck (P : Program) (v : AVal) (m m2 : Mem) : nilCheck P m2 v = (nilCheck P m v).re m2 := by
  unfold nilCheck
  try simp only [Bool.cond_eq_ite]
  repeat' split
  all_goals first
    | rfl
    | exact X_nilDeref _ _ _
    | simp_all [Out.re]
theorem X_mkIface (t : TypeId) (v : AVal) (m m2 : Mem) : mkIface t m2 v = (mkIface t m v).re m2 := by
  unfold mkIface
  try simp only [Bool.cond_eq_ite]
  repeat' split
  all_goals first
    | rfl
    | simp_all [Out.re]
theorem X_fieldAddr (f : Option Field) (o : Option Nat) (x : AVal) (m m2 : Mem) : fieldAddr m2 f o x = (fieldAddr m f o x).re m2 := by
  unfold fieldAddr
  try simp only [Bool.cond_eq_ite]
  repeat' split
  all_goals first
    | rfl
    | simp_all [Out.re]
theorem X_fieldOp (P : Program) (v : AVal) (o : Option Field) (m m2 : Mem) : fieldOp P m2 v o = (fieldOp P m v o).re m2 := by
  unfold fieldOp
  try simp only [Bool.cond_eq_ite]
  repeat' split
  all_goals first
    | rfl
    | exact X_valO _ _ _ _
    | simp_all [Out.re]
theorem X_extractOp (ix : Nat) (x : AVal) (m m2 : Mem) : extractOp ix m2 x = (extractOp ix m x).re m2 := by
  unfold extractOp
  try simp only [Bool.cond_eq_ite]
  repeat' split
  all_goals first
    | rfl
    | exact X_valO _ _ _ _
    | simp_all [Out.re]
theorem X_pickOp (a b : AVal) (o : Option Bool) (m m2 : Mem) : pickOp m2 a b o = (pickOp m a b o).re m2 := by
  unfold pickOp
  try simp only [Bool.cond_eq_ite]
  repeat' split
  all_goals first
    | rfl
    | simp_all [Out.re]
theorem X_luRes (ok : Bool) (z : Value) (o : Option AVal) (m m2 : Mem) : luRes ok z m2 o = (luRes ok z m o).re m2 := by
  unfold luRes
  try simp only [Bool.cond_eq_ite]
  repeat' split
  all_goals first
    | rfl
    | simp_all [Out.re]
theorem X_luAt (ok : Bool) (z : Value) (es : List AEnt) (o : Option (Option Nat)) (m m2 : Mem) : luAt ok z m2 es o = (luAt ok z m es o).re m2 := by
  unfold luAt
  try simp only [Bool.cond_eq_ite]
  repeat' split
  all_goals first
    | rfl
    | exact X_luRes _ _ _ _ _
    | simp_all [Out.re]
theorem X_luIn (P : Program) (ok : Bool) (k : Value) (kt et : TypeId) (es : List AEnt) (o : Option Value) (m m2 : Mem) : luIn P ok m2 k kt et es o = (luIn P ok m k kt et es o).re m2 := by
  unfold luIn
  try simp only [Bool.cond_eq_ite]
  repeat' split
  all_goals first
    | rfl
    | exact X_luAt _ _ _ _ _ _
    | simp_all [Out.re]
theorem X_lookupOp (P : Program) (ok : Bool) (a : Option (List AEnt)) (b : Option Value) (c : Option (TypeId × TypeId)) (m m2 : Mem) : lookupOp P ok m2 a b c = (lookupOp P ok m a b c).re m2 := by
  unfold lookupOp
  try simp only [Bool.cond_eq_ite]
  repeat' split
  all_goals first
    | rfl
    | exact X_luIn _ _ _ _ _ _ _ _ _
    | simp_all [Out.re]
theorem X_sliceStr (s : ByteArray) (a b : Option Nat) (m m2 : Mem) : sliceStr m2 s a b = (sliceStr m s a b).re m2 := by
  unfold sliceStr
  try simp only [Bool.cond_eq_ite]
  repeat' split
  all_goals first
    | rfl
    | simp_all [Out.re]
theorem X_sliceNil (P : Program) (t : TypeId) (a b c : Option Nat) (m m2 : Mem) : sliceNil P t m2 a b c = (sliceNil P t m a b c).re m2 := by
  unfold sliceNil
  try simp only [Bool.cond_eq_ite]
  repeat' split
  all_goals first
    | rfl
    | simp_all [Out.re]
theorem X_sliceOpen (r off n c size : Nat) (o : Option AObj) (m m2 : Mem) : sliceOpen m2 r off n c size o = (sliceOpen m r off n c size o).re m2 := by
  unfold sliceOpen
  try simp only [Bool.cond_eq_ite]
  repeat' split
  all_goals first
    | rfl
    | simp_all [Out.re]
theorem X_bytesStr (o : Option (List Value)) (m m2 : Mem) : bytesStr m2 o = (bytesStr m o).re m2 := by
  unfold bytesStr
  try simp only [Bool.cond_eq_ite]
  repeat' split
  all_goals first
    | rfl
    | simp_all [Out.re]
theorem X_lenMap (o : Option AObj) (m m2 : Mem) : lenMap m2 o = (lenMap m o).re m2 := by
  unfold lenMap
  try simp only [Bool.cond_eq_ite]
  repeat' split
  all_goals first
    | rfl
    | simp_all [Out.re]
end Go.Abs

namespace Go.Abs
open Go

/-- memory with more in it -/
def Ext (m m2 : Mem) : Prop := ∀ r o, m.heap.get r = some o → m2.heap.get r = some o
theorem Ext.refl (m : Mem) : Ext m m := fun _ _ h => h
theorem Ext.trans {a b c : Mem} (h : Ext a b) (k : Ext b c) : Ext a c := fun r o e => k r o (h r o e)

/-- a value, and memory as it was: in memory with more in it too -/
def Sees (m : Mem) (f : Mem → Out) : Prop := ∀ v m', f m = .val v m' → m'.next = m.next → m' = m ∧ ∀ m2, Ext m m2 → f m2 = .val v m2

theorem Sees.of_re {m : Mem} {f : Mem → Out} (h : ∀ m m2, f m2 = (f m).re m2) : Sees m f := by
  intro v m' e _
  have h1 := h m m
  rw [e] at h1
  have : m' = m := by cases h1; rfl
  exact ⟨this, fun m2 _ => by rw [h m m2, e]; rfl⟩

section
variable {P : Program} {m m2 : Mem}

theorem readCells_ext (h : Ext m m2) {r off n : Nat} {l : List AVal} (e : readCells m r off n = some l) : readCells m2 r off n = some l := by
  unfold readCells at e ⊢
  split at e
  · rename_i hr; rw [h _ _ hr]; exact e
  · rename_i hr; rw [h _ _ hr]; exact e
  · cases e
theorem read1_ext (h : Ext m m2) {r off : Nat} {l : AVal} (e : read1 m r off = some l) : read1 m2 r off = some l := by
  unfold read1 at e ⊢
  split at e
  · rename_i hr; rw [h _ _ hr]; exact e
  · rename_i hr; rw [h _ _ hr]; exact e
  · cases e
theorem loadVar_ext (h : Ext m m2) {t : TypeId} {r off : Nat} {v : AVal} (e : Abs.loadVar P m t r off = some v) : Abs.loadVar P m2 t r off = some v := by
  unfold Abs.loadVar loadAs at e ⊢
  split at e
  · obtain ⟨l, hl, rfl⟩ := aggO_some e
    rename_i ha hn
    simp only [readCells_ext h hl]
    rfl
  · exact read1_ext h e
  · cases e
theorem load_sees (t : TypeId) (x : AVal) : Sees m fun m => loadOp P t m x := by
  intro v m' e _
  cases x with
  | ptr r off =>
    have e' : valO m "load" (Abs.loadVar P m t r off) = .val v m' := e
    cases hl : Abs.loadVar P m t r off with
    | none => rw [hl] at e'; cases e'
    | some u =>
      rw [hl] at e'
      cases e'
      refine ⟨rfl, fun m2 h => ?_⟩
      show valO m2 "load" (Abs.loadVar P m2 t r off) = _
      rw [loadVar_ext h hl]; rfl
  | _ => cases e
theorem entriesOf_ext (h : Ext m m2) {x : AVal} {es : List AEnt} (e : entriesOf m x = some es) : entriesOf m2 x = some es := by
  unfold entriesOf at e ⊢
  split at e
  · exact e
  · split at e
    · rename_i hr; simp only [h _ _ hr]; exact e
    · cases e
  · cases e
theorem lookup_sees (ok : Bool) (x : AVal) (k : Option Value) (t : Option (TypeId × TypeId)) : Sees m fun m => lookupOp P ok m (entriesOf m x) k t := by
  intro v m' e hn
  cases he : entriesOf m x with
  | none => simp only [he] at e; cases e
  | some es =>
    simp only [he] at e
    have := Sees.of_re (m := m) (f := fun m => lookupOp P ok m (some es) k t) (fun m m2 => X_lookupOp P ok (some es) k t m m2) v m' e hn
    refine ⟨this.1, fun m2 h => ?_⟩
    show lookupOp P ok m2 (entriesOf m2 x) k t = _
    rw [entriesOf_ext h he]
    exact this.2 m2 h
theorem sliceOpen_sees (r off n c size : Nat) : Sees m fun m => sliceOpen m r off n c size (m.heap.get r) := by
  intro v m' e hn
  cases hr : m.heap.get r with
  | none => simp only [hr] at e; cases e
  | some o =>
    simp only [hr] at e
    have := Sees.of_re (m := m) (f := fun m => sliceOpen m r off n c size (some o)) (fun m m2 => X_sliceOpen r off n c size (some o) m m2) v m' e hn
    refine ⟨this.1, fun m2 h => ?_⟩
    show sliceOpen m2 r off n c size (m2.heap.get r) = _
    rw [h _ _ hr]
    exact this.2 m2 h
theorem sliceAt_sees (r off c size : Nat) (ex ex' : Bool) (a b d : Option Nat) : Sees m fun m => sliceAt m r off c size ex ex' a b d := by
  cases a with
  | none => intro v m' e _; cases e
  | some l =>
    cases b with
    | none => intro v m' e _; cases e
    | some hh =>
      cases d with
      | none => intro v m' e _; cases e
      | some k =>
        show Sees m fun m => (bif (l.ble hh && hh.ble k && k.ble c) then
          bif k.beq l then (bif ex' then .val (.slice r off (hh.sub l) (k.sub l) true) m else .val .emptyS m)
          else bif ex' || ex then .val (.slice r (off.add (l.mul size)) (hh.sub l) (k.sub l) true) m
          else sliceOpen m r (off.add (l.mul size)) (hh.sub l) (k.sub l) size (m.heap.get r) else .bad "slice bounds")
        cases (l.ble hh && hh.ble k && k.ble c) with
        | false => intro v m' e _; cases e
        | true =>
          cases k.beq l with
          | true => cases ex' <;> exact Sees.of_re fun _ _ => rfl
          | false =>
            cases ex' || ex with
            | true => exact Sees.of_re fun _ _ => rfl
            | false => exact sliceOpen_sees _ _ _ _ _
theorem sliceArr_sees (r off : Nat) (lo hi mx : Option AVal) (d : Option TypeDesc) : Sees m fun m => sliceArr P m r off lo hi mx d := by
  cases d with
  | none => intro v m' e _; cases e
  | some d =>
    cases d with
    | array n e =>
      show Sees m fun m => (match tsz P e with | some size => sliceAt m r off n size true true (nDef 0 lo) (nDef n hi) (nDef n mx) | none => .bad "slice arr")
      cases tsz P e with
      | none => intro v m' e _; cases e
      | some size => exact sliceAt_sees _ _ _ _ _ _ _ _ _
    | _ => intro v m' e _; cases e
theorem sliceGo_sees (t : TypeId) (lo hi mx : Option AVal) (x : AVal) : Sees m fun m => sliceGo P t lo hi mx m x := by
  unfold sliceGo
  split
  · cases (mx.isSome || !(isStrD (P.underlying t))) with
    | true => intro v m' e _; cases e
    | false => exact Sees.of_re fun m m2 => X_sliceStr _ _ _ m m2
  · exact Sees.of_re fun m m2 => X_sliceNil _ _ _ _ _ m m2
  · split
    · exact sliceAt_sees _ _ _ _ _ _ _ _ _
    · intro v m' e _; cases e
  · exact sliceArr_sees _ _ _ _ _ _
  · intro v m' e _; cases e
theorem slice_sees (t : TypeId) (lo hi mx : Option AVal) (x : AVal) : Sees m fun m => sliceOp P t lo hi mx m x := by
  unfold sliceOp
  cases (mx.isSome && !hi.isSome) with
  | true => intro v m' e _; cases e
  | false => exact sliceGo_sees _ _ _ _ _
theorem conv_sees (src dst : TypeId) (x : AVal) (a b : Option TypeDesc) : Sees m fun m => convOp P src dst x m a b := by
  unfold convOp
  split
  · rename_i e
    cases isU8 P e with
    | false => intro v m' e _; cases e
    | true =>
      show Sees m fun m => bytesStrOf m x
      intro v m' e hn
      unfold bytesStrOf at e
      split at e
      · cases e; exact ⟨rfl, fun _ _ => rfl⟩
      · rename_i r off n c ex
        dsimp only at e
        cases hb : (readCells m r off n).bind toLits with
        | none => rw [hb] at e; cases e
        | some vs =>
          rw [hb] at e
          have := Sees.of_re (m := m) (f := fun m => bytesStr m (some vs)) (fun m m2 => X_bytesStr (some vs) m m2) v m' e hn
          refine ⟨this.1, fun m2 h => ?_⟩
          rw [Option.bind_eq_some_iff] at hb
          obtain ⟨l, h1, h2⟩ := hb
          show bytesStr m2 ((readCells m2 r off n).bind toLits) = _
          rw [readCells_ext h h1, Option.bind_some, h2]
          exact this.2 m2 h
      · cases e; exact ⟨rfl, fun _ _ => rfl⟩
      · cases e
  · rename_i e
    cases isU8 P e with
    | false => intro v m' e _; cases e
    | true =>
      intro v m' h hn
      exfalso
      have h' : strBytes m e x = .val v m' := h
      unfold strBytes at h'
      split at h'
      · cases h'
        unfold Abs.newRow at hn
        rw [new_next] at hn
        omega
      · cases h'
  · exact Sees.of_re fun m m2 => X_lits1 _ _ _ m m2
theorem len_sees (x : AVal) (o : Option TypeId) : Sees m fun m => lenOp P m x o := by
  cases o with
  | none => intro v m' e _; cases e
  | some t =>
    show Sees m fun m => lenD m x (P.underlying t)
    unfold lenD
    split
    · unfold lenStr; split
      · exact Sees.of_re fun _ _ => rfl
      · intro v m' e _; cases e
    · unfold lenSl; split
      · exact Sees.of_re fun _ _ => rfl
      · exact Sees.of_re fun _ _ => rfl
      · exact Sees.of_re fun _ _ => rfl
      · intro v m' e _; cases e
    · unfold lenMp; split
      · exact Sees.of_re fun _ _ => rfl
      · rename_i r
        intro v m' e hn
        cases hr : m.heap.get r with
        | none => simp only [hr] at e; cases e
        | some o =>
          simp only [hr] at e
          have := Sees.of_re (m := m) (f := fun m => lenMap m (some o)) (fun m m2 => X_lenMap (some o) m m2) v m' e hn
          refine ⟨this.1, fun m2 h => ?_⟩
          show lenMap m2 (m2.heap.get r) = _
          rw [h _ _ hr]
          exact this.2 m2 h
      · intro v m' e _; cases e
    · exact Sees.of_re fun _ _ => rfl
    · intro v m' e _; cases e

theorem aop_sees (tmps : T AVal) (op : Op) (hk : okind op < 2) : Sees m fun m => aop P tmps m op := by
  cases op with
  | move x => exact Sees.of_re fun _ _ => rfl
  | assign x => exact Sees.of_re fun _ _ => rfl
  | pick c a b => exact Sees.of_re fun m m2 => X_pickOp _ _ _ m m2
  | build t parts => exact Sees.of_re fun m m2 => X_buildOp _ _ _ _ m m2
  | load t a => exact load_sees _ _
  | nilCheck x => exact Sees.of_re fun m m2 => X_nilCheck _ _ m m2
  | binOp op t x y _ => exact Sees.of_re fun m m2 => X_binOpA _ _ _ _ _ _ _ m m2
  | unOp op _ x => exact Sees.of_re fun m m2 => X_lits1 _ _ _ m m2
  | convert src dst x => exact conv_sees _ _ _ _ _
  | makeInterface t x =>
    show Sees m fun m => (bif concreteT (P.underlying t) then mkIface t m (evalT tmps x) else .bad "makeInterface")
    cases concreteT (P.underlying t)
    · intro v m' e _; cases e
    · exact Sees.of_re fun m m2 => X_mkIface _ _ m m2
  | makeFunc fn first captured =>
    show Sees m fun m => (bif isYield fn then .bad "makeFunc" else .val (.func fn (mapL (evalT tmps) first.toList) (mapL (evalT tmps) captured.toList)) m)
    cases isYield fn
    · exact Sees.of_re fun _ _ => rfl
    · intro v m' e _; cases e
  | slice t x lo hi mx => exact slice_sees _ _ _ _ _
  | fieldAddr s x f => exact Sees.of_re fun m m2 => X_fieldAddr _ _ _ m m2
  | field s x f => exact Sees.of_re fun m m2 => X_fieldOp _ _ _ m m2
  | indexAddr t x ix => exact Sees.of_re fun m m2 => X_indexA _ _ _ _ m m2
  | index t x ix => exact Sees.of_re fun m m2 => X_indexV _ _ _ _ m m2
  | lookup t x k ok => exact lookup_sees _ _ _ _
  | typeAssert x t asserted ok => exact Sees.of_re fun m m2 => X_typeAssert _ _ _ _ m m2
  | extract t ix => exact Sees.of_re fun m m2 => X_extractOp _ _ m m2
  | call c =>
    obtain ⟨callee, args, ats⟩ := c
    cases callee with
    | builtin b =>
      have hone : ∀ (f : Mem → Out), (∀ m, f m = callD P m (resolveC tmps ⟨.builtin b, args, ats⟩)) → Sees m f → Sees m fun m => aop P tmps m (.call ⟨.builtin b, args, ats⟩) := by
        intro f hf hs
        have : (fun m => aop P tmps m (.call ⟨.builtin b, args, ats⟩)) = f := by funext m; rw [hf]; rfl
        rw [this]; exact hs
      have hb : (fun m => aop P tmps m (.call ⟨.builtin b, args, ats⟩)) = fun m => builtinOp P b ats (mapL (evalT tmps) args.toList) m := rfl
      rw [hb]
      generalize mapL (evalT tmps) args.toList = l
      cases b with
      | len =>
        match l with
        | [] => intro v m' e _; cases e
        | [x] => exact len_sees _ _
        | [x, y] => intro v m' e _; cases e
        | _ :: _ :: _ :: _ => intro v m' e _; cases e
      | max =>
        match l with
        | [] => intro v m' e _; cases e
        | [x] => intro v m' e _; cases e
        | [x, y] => exact Sees.of_re fun m m2 => X_litsOp _ _ _ _ m m2
        | _ :: _ :: _ :: _ => intro v m' e _; cases e
      | min =>
        match l with
        | [] => intro v m' e _; cases e
        | [x] => intro v m' e _; cases e
        | [x, y] => exact Sees.of_re fun m m2 => X_litsOp _ _ _ _ m m2
        | _ :: _ :: _ :: _ => intro v m' e _; cases e
      | _ => exact absurd (show (3 : Nat) < 2 from hk) (by decide)
    | _ => exact absurd (show (3 : Nat) < 2 from hk) (by decide)
  | alloc t => exact absurd (show (2 : Nat) < 2 from hk) (by decide)
  | box t x => exact absurd (show (2 : Nat) < 2 from hk) (by decide)
  | buildSlice t n ps => exact absurd (show (2 : Nat) < 2 from hk) (by decide)
  | makeMap t r => exact absurd (show (2 : Nat) < 2 from hk) (by decide)
  | makeSlice t l c => exact absurd (show (2 : Nat) < 2 from hk) (by decide)
  | _ => exact absurd (show (3 : Nat) < 2 from hk) (by decide)
end
end Go.Abs
