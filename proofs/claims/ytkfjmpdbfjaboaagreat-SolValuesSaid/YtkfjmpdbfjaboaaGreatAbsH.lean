/- An executor whose runs hold in every world: a part of it and of what is proved of it. -/
import Derived.Test.YtkfjmpdbfjaboaaGreatAbsG
import Derived.Orders
namespace Go.Abs
open Go
def Out.re (m2 : Mem) : Out → Out
 | .val v _ => .val v m2
 | .enter f a _ => .enter f a m2
 | .round l f nt t a b _ => .round l f nt t a b m2
 | .recov => .recov
 | .panic v _ => .panic v m2
 | .bad w => .bad w
class XO (m2 : Mem) (a b : Out) : Prop where
 h : a = b.re m2
theorem x0 {p : Prop} (h : p := by
 try simp only [Bool.cond_eq_ite]
 repeat' split
 all_goals first
  | rfl
  | exact XO.h
  | simp_all [Out.re]) : p := h
instance X_outOf (why : String) (e : Except (Option Value) Value) (m m2 : Mem)  : XO m2 (outOf m2 why e) (outOf m why e) := ⟨by unfold outOf; exact x0⟩
instance X_pureOp (P : Program) (s : Sem Value) (why : String) (m m2 : Mem)  : XO m2 (pureOp P s m2 why) (pureOp P s m why) := ⟨(X_outOf _ _ _ _).h⟩
instance X_lits1 (P : Program) (f : Value → Sem Value) (o : Option Value) (m m2 : Mem)  : XO m2 (lits1 P m2 f o) (lits1 P m f o) := ⟨by unfold lits1; exact x0⟩
instance X_lits2 (P : Program) (f : Value → Value → Sem Value) (o q : Option Value) (m m2 : Mem)  : XO m2 (lits2 P m2 f o q) (lits2 P m f o q) := ⟨by unfold lits2; exact x0⟩
instance X_litsOp (P : Program) (f : Array Value → Sem Value) (why : String) (o : Option (List Value)) (m m2 : Mem)  : XO m2 (litsOp P m2 f why o) (litsOp P m f why o) := ⟨by unfold litsOp; exact x0⟩
instance X_eqPtr (neq : Bool) (r o q p : Nat) (x : Option Nat) (m m2 : Mem)  : XO m2 (eqPtr neq m2 r o q p x) (eqPtr neq m r o q p x) := ⟨by unfold eqPtr; exact x0⟩
instance X_eqNil (neq : Bool) (k : Nat) (d : Option TypeDesc) (m m2 : Mem)  : XO m2 (eqNil neq m2 k d) (eqNil neq m k d) := ⟨by unfold eqNil; exact x0⟩
instance X_eqOp (P : Program) (op : BinOp) (neq : Bool) (t : TypeId) (ox oy : Operand) (a b : AVal) (m m2 : Mem)  : XO m2 (eqOp P op neq t ox oy a b m2) (eqOp P op neq t ox oy a b m) := ⟨by unfold eqOp; exact x0⟩
instance X_binOpA (P : Program) (op : BinOp) (t : TypeId) (ox oy : Operand) (a b : AVal) (m m2 : Mem)  : XO m2 (binOpA P op t ox oy a b m2) (binOpA P op t ox oy a b m) := ⟨by unfold binOpA; exact x0⟩
instance X_valO (why : String) (o : Option AVal) (m m2 : Mem)  : XO m2 (valO m2 why o) (valO m why o) := ⟨by unfold valO; exact x0⟩
instance X_ixAt (P : Program) (r off size n : Nat) (i : Int) (m m2 : Mem)  : XO m2 (ixAt P m2 r off size n i) (ixAt P m r off size n i) := ⟨by unfold ixAt; exact x0⟩
instance X_ixLit (P : Program) (g off : Nat) (i : Int) (d : Option TypeDesc) (m m2 : Mem)  : XO m2 (ixLit P m2 g off i d) (ixLit P m g off i d) := ⟨by unfold ixLit; exact x0⟩
instance X_indexAddr (P : Program) (t : TypeId) (i : Int) (x : AVal) (m m2 : Mem)  : XO m2 (indexAddr P t m2 i x) (indexAddr P t m i x) := ⟨by unfold indexAddr; exact x0⟩
instance X_ixStr (P : Program) (s : ByteArray) (i : Int) (m m2 : Mem)  : XO m2 (ixStr P m2 s i) (ixStr P m s i) := ⟨by unfold ixStr; exact x0⟩
instance X_ixPart (P : Program) (v : AVal) (e : TypeId) (j : Nat) (o : Option Nat) (m m2 : Mem)  : XO m2 (ixPart P m2 v e j o) (ixPart P m v e j o) := ⟨by unfold ixPart; exact x0⟩
instance X_ixArr (P : Program) (v : AVal) (i : Int) (d : Option TypeDesc) (m m2 : Mem)  : XO m2 (ixArr P m2 v i d) (ixArr P m v i d) := ⟨by unfold ixArr; exact x0⟩
instance X_indexOp (P : Program) (t : TypeId) (i : Int) (x : AVal) (m m2 : Mem)  : XO m2 (indexOp P t m2 i x) (indexOp P t m i x) := ⟨by unfold indexOp; exact x0⟩
instance X_indexA (P : Program) (t : TypeId) (x : AVal) (o : Option Int) (m m2 : Mem)  : XO m2 (indexA P t m2 x o) (indexA P t m x o) := ⟨by unfold indexA; exact x0⟩
instance X_indexV (P : Program) (t : TypeId) (x : AVal) (o : Option Int) (m m2 : Mem)  : XO m2 (indexV P t m2 x o) (indexV P t m x o) := ⟨by unfold indexV; exact x0⟩
instance X_taFails (P : Program) (asserted : TypeId) (ok : Bool) (m m2 : Mem)  : XO m2 (taFails P asserted ok m2) (taFails P asserted ok m) := ⟨by unfold taFails; exact x0⟩
instance X_taWith (P : Program) (asserted : TypeId) (ok : Bool) (x v : AVal) (o : Option Bool) (m m2 : Mem)  : XO m2 (taWith P asserted ok x v m2 o) (taWith P asserted ok x v m o) := ⟨by unfold taWith; exact x0⟩
instance X_typeAssert (P : Program) (asserted : TypeId) (ok : Bool) (x : AVal) (m m2 : Mem)  : XO m2 (typeAssert P asserted ok m2 x) (typeAssert P asserted ok m x) := ⟨by unfold typeAssert; exact x0⟩
instance X_buildWith (o : Option (List AVal)) (m m2 : Mem)  : XO m2 (buildWith m2 o) (buildWith m o) := ⟨by unfold buildWith; exact x0⟩
instance X_buildPl (parts : List (Nat × AVal)) (z : List AVal) (o : Option (List (Nat × Nat))) (m m2 : Mem)  : XO m2 (buildPl parts m2 z o) (buildPl parts m z o) := ⟨by unfold buildPl; exact x0⟩
instance X_buildArr (parts : List (Nat × AVal)) (z : List AVal) (o : Option Nat) (m m2 : Mem)  : XO m2 (buildArr parts m2 z o) (buildArr parts m z o) := ⟨by unfold buildArr; exact x0⟩
instance X_buildIn (P : Program) (parts : List (Nat × AVal)) (z : List AVal) (o : Option TypeDesc) (m m2 : Mem)  : XO m2 (buildIn P parts m2 z o) (buildIn P parts m z o) := ⟨by unfold buildIn; exact x0⟩
instance X_buildOp (P : Program) (t : TypeId) (parts : List (Nat × AVal)) (o : Option (List AVal)) (m m2 : Mem)  : XO m2 (buildOp P t parts m2 o) (buildOp P t parts m o) := ⟨by unfold buildOp; exact x0⟩
instance X_nilCheck (P : Program) (v : AVal) (m m2 : Mem)  : XO m2 (nilCheck P m2 v) (nilCheck P m v) := ⟨by unfold nilCheck; exact x0⟩
instance X_mkIface (t : TypeId) (v : AVal) (m m2 : Mem)  : XO m2 (mkIface t m2 v) (mkIface t m v) := ⟨by unfold mkIface; exact x0⟩
instance X_fieldAddr (f : Option Field) (o : Option Nat) (x : AVal) (m m2 : Mem)  : XO m2 (fieldAddr m2 f o x) (fieldAddr m f o x) := ⟨by unfold fieldAddr; exact x0⟩
instance X_fieldOp (P : Program) (v : AVal) (o : Option Field) (m m2 : Mem)  : XO m2 (fieldOp P m2 v o) (fieldOp P m v o) := ⟨by unfold fieldOp; exact x0⟩
instance X_extractOp (ix : Nat) (x : AVal) (m m2 : Mem)  : XO m2 (extractOp ix m2 x) (extractOp ix m x) := ⟨by unfold extractOp; exact x0⟩
instance X_pickOp (a b : AVal) (o : Option Bool) (m m2 : Mem)  : XO m2 (pickOp m2 a b o) (pickOp m a b o) := ⟨by unfold pickOp; exact x0⟩
instance X_luAt (ok : Bool) (z : Value) (es : List AEnt) (o : Option (Option Nat)) (m m2 : Mem)  : XO m2 (luAt ok z m2 es o) (luAt ok z m es o) := ⟨by unfold luAt; exact x0⟩
instance X_sliceStr (s : ByteArray) (a b : Option Nat) (m m2 : Mem)  : XO m2 (sliceStr m2 s a b) (sliceStr m s a b) := ⟨by unfold sliceStr; exact x0⟩
instance X_sliceNil (P : Program) (t : TypeId) (a b c : Option Nat) (m m2 : Mem)  : XO m2 (sliceNil P t m2 a b c) (sliceNil P t m a b c) := ⟨by unfold sliceNil; exact x0⟩
instance X_sliceOpen (r off n c size : Nat) (o : Option AObj) (m m2 : Mem)  : XO m2 (sliceOpen m2 r off n c size o) (sliceOpen m r off n c size o) := ⟨by unfold sliceOpen; exact x0⟩
instance X_bytesStr (o : Option (List Value)) (m m2 : Mem)  : XO m2 (bytesStr m2 o) (bytesStr m o) := ⟨by unfold bytesStr; exact x0⟩
instance X_lenMap (o : Option AObj) (m m2 : Mem)  : XO m2 (lenMap m2 o) (lenMap m o) := ⟨by unfold lenMap; exact x0⟩
def Ext (m m2 : Mem) : Prop := (∀ r o, m.heap.get r = some o → m2.heap.get r = some o) ∧ m2.gl = m.gl
theorem Ext.refl (m : Mem) : Ext m m := ⟨fun _ _ h => h, rfl⟩
theorem Ext.trans {a b c : Mem} (h : Ext a b) (k : Ext b c) : Ext a c := ⟨fun r o e => k.1 r o (h.1 r o e), k.2.trans h.2⟩
def Sees (m : Mem) (f : Mem → Out) : Prop := ∀ v m', f m = .val v m' → m'.next = m.next → m' = m ∧ ∀ m2, Ext m m2 → f m2 = .val v m2
theorem Sees.of_re {m : Mem} {f : Mem → Out} (h : ∀ m m2, f m2 = (f m).re m2) : Sees m f := by
 intro v m' e _
 have h1 := h m m
 rw [e] at h1
 have : m' = m := by cases h1; rfl
 exact ⟨this, fun m2 _ => by rw [h m m2, e]; rfl⟩
section
variable {P : Program} {m m2 : Mem}
theorem readCells_ext (h : Ext m m2) {r off n : Nat} {l : List AVal} (e : readCells m r off n = some l) : readCells m2 r off n = some l := by
 unfold readCells at e ⊢
 split at e
 ·rename_i hr; rw [h.1 _ _ hr]; exact e
 ·rename_i hr; rw [h.1 _ _ hr]; exact e
 ·cases e
theorem read1_ext (h : Ext m m2) {r off : Nat} {l : AVal} (e : read1 m r off = some l) : read1 m2 r off = some l := by
 unfold read1 at e ⊢
 split at e
 ·rename_i hr; rw [h.1 _ _ hr]; exact e
 ·rename_i hr; rw [h.1 _ _ hr]; exact e
 ·cases e
theorem loadVar_ext (h : Ext m m2) {t : TypeId} {r off : Nat} {v : AVal} (e : Abs.loadVar P m t r off = some v) : Abs.loadVar P m2 t r off = some v := by
 unfold Abs.loadVar loadAs at e ⊢
 split at e
 ·obtain ⟨l, hl, rfl⟩ := aggO_some e
  rename_i ha hn
  simp only [readCells_ext h hl]
  rfl
 ·exact read1_ext h e
 ·cases e
theorem load_sees (t : TypeId) (x : AVal) : Sees m fun m => loadOp P t m x := by
 intro v m' e _
 cases x with
 | ptr r off =>
  have e' : valO m "load" (Abs.loadVar P m t r off) = .val v m' := e
  cases hl : Abs.loadVar P m t r off with
  | none => rw [hl] at e'; cases e'
  | some u =>
   rw [hl] at e'
   cases e'
   refine ⟨rfl, fun m2 h => ?_⟩
   show valO m2 "load" (Abs.loadVar P m2 t r off) = _
   rw [loadVar_ext h hl]; rfl
 | lit y =>
  have hw : (∃ g off, y = .pointer (some ⟨g, off, none⟩)) ∨ loadOp P t m (.lit y) = .bad "load addr" := by
   cases y with
   | pointer q =>
    cases q with
    | none => exact .inr rfl
    | some q =>
     obtain ⟨g, off, k⟩ := q
     cases k with
     | none => exact .inl ⟨g, off, rfl⟩
     | some k => exact .inr rfl
   | _ => exact .inr rfl
  rcases hw with ⟨g, off, rfl⟩ | hw
  ·have e' : loadGl P t m off (glAt g m.gl) = .val v m' := e
   cases hg : glAt g m.gl with
   | none => rw [hg] at e'; cases e'
   | some r =>
    rw [hg] at e'
    have e2 : valO m "load" (Abs.loadVar P m t r off) = .val v m' := e'
    cases hl : Abs.loadVar P m t r off with
    | none => rw [hl] at e2; cases e2
    | some u =>
     rw [hl] at e2
     cases e2
     refine ⟨rfl, fun m2 h => ?_⟩
     show loadGl P t m2 off (glAt g m2.gl) = _
     rw [h.2, hg]
     show valO m2 "load" (Abs.loadVar P m2 t r off) = _
     rw [loadVar_ext h hl]; rfl
  ·have e3 : loadOp P t m (.lit y) = .val v m' := e
   rw [hw] at e3; cases e3
 | _ => cases e
theorem entriesOf_ext (h : Ext m m2) {x : AVal} {es : List AEnt} (e : entriesOf m x = some es) : entriesOf m2 x = some es := by
 unfold entriesOf at e ⊢
 split at e
 ·exact e
 ·split at e
  ·rename_i hr; simp only [h.1 _ _ hr]; exact e
  ·cases e
 ·cases e
theorem ownVar_ext (h : Ext m m2) {r o : Nat} (e : ownVar m r o = true) : ownVar m2 r o = true := by
 unfold ownVar at e ⊢
 cases hr : m.heap.get r with
 | none => rw [hr] at e; cases e
 | some x => rw [hr] at e; rw [h.1 _ _ hr]; exact e
theorem ownKeys_ext (h : Ext m m2) : ∀ {es : List MapEntry}, ownKeys m es = true → ownKeys m2 es = true
 | [], _ => rfl
 | a :: es, e => by
  rw [ownKeys_cons] at e ⊢
  cases ha : ptrKey a.key with
  | none => rw [ha] at e; cases e
  | some x =>
   obtain ⟨r, o⟩ := x
   rw [ha] at e
   dsimp only at e ⊢
   cases ho : ownVar m r o with
   | false => rw [ho] at e; cases e
   | true =>
    rw [ho, cond_true] at e
    rw [ownVar_ext h ho, cond_true]
    exact ownKeys_ext h e
theorem findIx_ext (h : Ext m m2) {b : Bool} {kt : TypeId} {k : Value} {es : List MapEntry} {r : Option Nat} (e : findIx P m b kt k es = some r) : findIx P m2 b kt k es = some r := by
 unfold findIx at e ⊢
 split
 ·rename_i q o hk
  rw [hk] at e
  dsimp only at e
  cases hc : isPtrT P kt && ownVar m q o && ownKeys m es with
  | false => rw [hc] at e; cases e
  | true =>
   rw [hc] at e
   rw [Bool.and_eq_true, Bool.and_eq_true] at hc
   rw [hc.1.1, ownVar_ext h hc.1.2, ownKeys_ext h hc.2]
   exact e
 ·rename_i hk
  rw [hk] at e
  exact e
theorem lookup_sees (ok : Bool) (x : AVal) (k : Option Value) (t : Option (TypeId × TypeId)) : Sees m fun m => lookupOp P ok m (entriesOf m x) k t := by
 intro v m' e hn
 dsimp only at e
 cases he : entriesOf m x with
 | none => rw [he] at e; cases e
 | some es =>
  rw [he] at e
  cases k with
  | none => cases e
  | some kv =>
   cases t with
   | none => cases e
   | some kk =>
    obtain ⟨kt, et⟩ := kk
    have e1 : luIn P ok m kv kt et es (tzero P et) = .val v m' := e
    cases hz : tzero P et with
    | none => rw [hz] at e1; cases e1
    | some z =>
     rw [hz] at e1
     have e2 : luAt ok z m es (findIx P m (isNil es) kt kv (dummies es)) = .val v m' := e1
     cases hf : findIx P m (isNil es) kt kv (dummies es) with
     | none => rw [hf] at e2; cases e2
     | some r =>
      rw [hf] at e2
      have := Sees.of_re (m := m) (f := fun m => luAt ok z m es (some r)) (fun m m2 => (X_luAt ok z es (some r) m m2).h) v m' e2 hn
      refine ⟨this.1, fun m2 h => ?_⟩
      show lookupOp P ok m2 (entriesOf m2 x) (some kv) (some (kt, et)) = _
      rw [entriesOf_ext h he]
      show luIn P ok m2 kv kt et es (tzero P et) = _
      rw [hz]
      show luAt ok z m2 es (findIx P m2 (isNil es) kt kv (dummies es)) = _
      rw [findIx_ext h hf]
      exact this.2 m2 h
theorem sliceOpen_sees (r off n c size : Nat) : Sees m fun m => sliceOpen m r off n c size (m.heap.get r) := by
 intro v m' e hn
 cases hr : m.heap.get r with
 | none => simp only [hr] at e; cases e
 | some o =>
  simp only [hr] at e
  have := Sees.of_re (m := m) (f := fun m => sliceOpen m r off n c size (some o)) (fun m m2 => (X_sliceOpen r off n c size (some o) m m2).h) v m' e hn
  refine ⟨this.1, fun m2 h => ?_⟩
  show sliceOpen m2 r off n c size (m2.heap.get r) = _
  rw [h.1 _ _ hr]
  exact this.2 m2 h
theorem sliceAt_sees (r off c size : Nat) (ex ex' : Bool) (a b d : Option Nat) : Sees m fun m => sliceAt m r off c size ex ex' a b d := by
 cases a with
 | none => intro v m' e _; cases e
 | some l =>
  cases b with
  | none => intro v m' e _; cases e
  | some hh =>
   cases d with
   | none => intro v m' e _; cases e
   | some k =>
    show Sees m fun m => (bif (l.ble hh && hh.ble k && k.ble c) then
     bif k.beq l then (bif ex' then .val (.slice r off (hh.sub l) (k.sub l) true) m else .val .emptyS m)
     else bif ex' || ex then .val (.slice r (off.add (l.mul size)) (hh.sub l) (k.sub l) true) m
     else sliceOpen m r (off.add (l.mul size)) (hh.sub l) (k.sub l) size (m.heap.get r) else .bad "slice bounds")
    cases (l.ble hh && hh.ble k && k.ble c) with
    | false => intro v m' e _; cases e
    | true =>
     cases k.beq l with
     | true => cases ex' <;> exact Sees.of_re fun _ _ => rfl
     | false =>
      cases ex' || ex with
      | true => exact Sees.of_re fun _ _ => rfl
      | false => exact sliceOpen_sees _ _ _ _ _
theorem sliceArr_sees (r off : Nat) (lo hi mx : Option AVal) (d : Option TypeDesc) : Sees m fun m => sliceArr P m r off lo hi mx d := by
 cases d with
 | none => intro v m' e _; cases e
 | some d =>
  cases d with
  | array n e =>
   show Sees m fun m => (match tsz P e with | some size => sliceAt m r off n size true true (nDef 0 lo) (nDef n hi) (nDef n mx) | none => .bad "slice arr")
   cases tsz P e with
   | none => intro v m' e _; cases e
   | some size => exact sliceAt_sees _ _ _ _ _ _ _ _ _
  | _ => intro v m' e _; cases e
theorem sliceGo_sees (t : TypeId) (lo hi mx : Option AVal) (x : AVal) : Sees m fun m => sliceGo P t lo hi mx m x := by
 unfold sliceGo
 split
 ·cases (mx.isSome || !(isStrD (P.underlying t))) with
  | true => intro v m' e _; cases e
  | false => exact Sees.of_re fun m m2 => (X_sliceStr _ _ _ m m2).h
 ·exact Sees.of_re fun m m2 => (X_sliceNil _ _ _ _ _ m m2).h
 ·split
  ·exact sliceAt_sees _ _ _ _ _ _ _ _ _
  ·intro v m' e _; cases e
 ·exact sliceArr_sees _ _ _ _ _ _
 ·intro v m' e _; cases e
theorem slice_sees (t : TypeId) (lo hi mx : Option AVal) (x : AVal) : Sees m fun m => sliceOp P t lo hi mx m x := by
 unfold sliceOp
 cases (mx.isSome && !hi.isSome) with
 | true => intro v m' e _; cases e
 | false => exact sliceGo_sees _ _ _ _ _
theorem conv_sees (src dst : TypeId) (x : AVal) (a b : Option TypeDesc) : Sees m fun m => convOp P src dst x m a b := by
 unfold convOp
 split
 ·rename_i e
  cases isU8 P e with
  | false => intro v m' e _; cases e
  | true =>
   show Sees m fun m => bytesStrOf m x
   intro v m' e hn
   unfold bytesStrOf at e
   split at e
   ·cases e; exact ⟨rfl, fun _ _ => rfl⟩
   ·rename_i r off n c ex
    dsimp only at e
    cases hb : (readCells m r off n).bind toLits with
    | none => rw [hb] at e; cases e
    | some vs =>
     rw [hb] at e
     have := Sees.of_re (m := m) (f := fun m => bytesStr m (some vs)) (fun m m2 => (X_bytesStr (some vs) m m2).h) v m' e hn
     refine ⟨this.1, fun m2 h => ?_⟩
     rw [Option.bind_eq_some_iff] at hb
     obtain ⟨l, h1, h2⟩ := hb
     show bytesStr m2 ((readCells m2 r off n).bind toLits) = _
     rw [readCells_ext h h1, Option.bind_some, h2]
     exact this.2 m2 h
   ·cases e; exact ⟨rfl, fun _ _ => rfl⟩
   ·cases e
 ·rename_i e
  cases isU8 P e with
  | false => intro v m' e _; cases e
  | true =>
   intro v m' h hn
   exfalso
   have h' : strBytes m e x = .val v m' := h
   unfold strBytes at h'
   split at h'
   ·cases h'
    unfold Abs.newRow at hn
    rw [new_next] at hn
    omega
   ·cases h'
 ·exact Sees.of_re fun m m2 => (X_lits1 _ _ _ m m2).h
theorem len_sees (x : AVal) (o : Option TypeId) : Sees m fun m => lenOp P m x o := by
 cases o with
 | none => intro v m' e _; cases e
 | some t =>
  show Sees m fun m => lenD m x (P.underlying t)
  unfold lenD
  split
  ·unfold lenStr; split
   ·exact Sees.of_re fun _ _ => rfl
   ·intro v m' e _; cases e
  ·unfold lenSl; split
   ·exact Sees.of_re fun _ _ => rfl
   ·exact Sees.of_re fun _ _ => rfl
   ·exact Sees.of_re fun _ _ => rfl
   ·intro v m' e _; cases e
  ·unfold lenMp; split
   ·exact Sees.of_re fun _ _ => rfl
   ·rename_i r
    intro v m' e hn
    cases hr : m.heap.get r with
    | none => simp only [hr] at e; cases e
    | some o =>
     simp only [hr] at e
     have := Sees.of_re (m := m) (f := fun m => lenMap m (some o)) (fun m m2 => (X_lenMap (some o) m m2).h) v m' e hn
     refine ⟨this.1, fun m2 h => ?_⟩
     show lenMap m2 (m2.heap.get r) = _
     rw [h.1 _ _ hr]
     exact this.2 m2 h
   ·intro v m' e _; cases e
  ·exact Sees.of_re fun _ _ => rfl
  ·intro v m' e _; cases e
theorem aop_sees (tmps : T AVal) (op : Op) (hk : okind op < 2) : Sees m fun m => aop P tmps m op := by
 cases op with
 | move x => exact Sees.of_re fun _ _ => rfl
 | assign x => exact Sees.of_re fun _ _ => rfl
 | pick c a b => exact Sees.of_re fun m m2 => (X_pickOp _ _ _ m m2).h
 | build t parts => exact Sees.of_re fun m m2 => (X_buildOp _ _ _ _ m m2).h
 | load t a => exact load_sees _ _
 | nilCheck x => exact Sees.of_re fun m m2 => (X_nilCheck _ _ m m2).h
 | binOp op t x y _ => exact Sees.of_re fun m m2 => (X_binOpA _ _ _ _ _ _ _ m m2).h
 | unOp op _ x => exact Sees.of_re fun m m2 => (X_lits1 _ _ _ m m2).h
 | convert src dst x => exact conv_sees _ _ _ _ _
 | makeInterface t x =>
  show Sees m fun m => (bif concreteT (P.underlying t) then mkIface t m (evalT tmps x) else .bad "makeInterface")
  cases concreteT (P.underlying t)
  ·intro v m' e _; cases e
  ·exact Sees.of_re fun m m2 => (X_mkIface _ _ m m2).h
 | makeFunc fn first captured =>
  show Sees m fun m => (bif isYield fn then .bad "makeFunc" else .val (.func fn (mapL (evalT tmps) first.toList) (mapL (evalT tmps) captured.toList)) m)
  cases isYield fn
  ·exact Sees.of_re fun _ _ => rfl
  ·intro v m' e _; cases e
 | slice t x lo hi mx => exact slice_sees _ _ _ _ _
 | fieldAddr s x f => exact Sees.of_re fun m m2 => (X_fieldAddr _ _ _ m m2).h
 | field s x f => exact Sees.of_re fun m m2 => (X_fieldOp _ _ _ m m2).h
 | indexAddr t x ix => exact Sees.of_re fun m m2 => (X_indexA _ _ _ _ m m2).h
 | index t x ix => exact Sees.of_re fun m m2 => (X_indexV _ _ _ _ m m2).h
 | lookup t x k ok => exact lookup_sees _ _ _ _
 | typeAssert x t asserted ok => exact Sees.of_re fun m m2 => (X_typeAssert _ _ _ _ m m2).h
 | extract t ix => exact Sees.of_re fun m m2 => (X_extractOp _ _ m m2).h
 | call c =>
  obtain ⟨callee, args, ats⟩ := c
  cases callee with
  | builtin b =>
   have hone : ∀ (f : Mem → Out), (∀ m, f m = callD P m (resolveC tmps ⟨.builtin b, args, ats⟩)) → Sees m f → Sees m fun m => aop P tmps m (.call ⟨.builtin b, args, ats⟩) := by
    intro f hf hs
    have : (fun m => aop P tmps m (.call ⟨.builtin b, args, ats⟩)) = f := by funext m; rw [hf]; rfl
    rw [this]; exact hs
   have hb : (fun m => aop P tmps m (.call ⟨.builtin b, args, ats⟩)) = fun m => builtinOp P b ats (mapL (evalT tmps) args.toList) m := rfl
   rw [hb]
   generalize mapL (evalT tmps) args.toList = l
   cases b with
   | len =>
    match l with
    | [] => intro v m' e _; cases e
    | [x] => exact len_sees _ _
    | [x, y] => intro v m' e _; cases e
    | _ :: _ :: _ :: _ => intro v m' e _; cases e
   | max =>
    match l with
    | [] => intro v m' e _; cases e
    | [x] => intro v m' e _; cases e
    | [x, y] => exact Sees.of_re fun m m2 => (X_litsOp _ _ _ _ m m2).h
    | _ :: _ :: _ :: _ => exact Sees.of_re fun m m2 => (X_litsOp _ _ _ _ m m2).h
   | min =>
    match l with
    | [] => intro v m' e _; cases e
    | [x] => intro v m' e _; cases e
    | [x, y] => exact Sees.of_re fun m m2 => (X_litsOp _ _ _ _ m m2).h
    | _ :: _ :: _ :: _ => exact Sees.of_re fun m m2 => (X_litsOp _ _ _ _ m m2).h
   | _ => exact absurd (show (3 : Nat) < 2 from hk) (by decide)
  | _ => exact absurd (show (3 : Nat) < 2 from hk) (by decide)
 | alloc t => exact absurd (show (2 : Nat) < 2 from hk) (by decide)
 | box t x => exact absurd (show (2 : Nat) < 2 from hk) (by decide)
 | buildSlice t n ps => exact absurd (show (2 : Nat) < 2 from hk) (by decide)
 | makeMap t r => exact absurd (show (2 : Nat) < 2 from hk) (by decide)
 | makeSlice t l c => exact absurd (show (2 : Nat) < 2 from hk) (by decide)
 | _ => exact absurd (show (3 : Nat) < 2 from hk) (by decide)
end
def MkR (ρ : Rho) (m : Mem) (w : World) (out : Out) (r : Result Value) : Prop :=
 match out with
 | .val v m' => ∃ g : Nat → AVal, v = g m.next ∧
   ((∃ (e : Elem) (cells : List AVal) (cs : Array Value) (x : Value), m' = Abs.newRow m e cells ∧ CR ρ cells cs 0 ∧ r = .ok x (w.alloc (.cells cs e.1)) ∧ ∀ (ρ2 : Rho) q, ρ2 q = some ⟨w.heap.size, 0, cs.size, e.2⟩ → R ρ2 (g q) x) ∨
    (∃ x : Value, m' = m.new (.map [] 0) ∧ r = .ok x (w.alloc (.map #[] 0)) ∧ ∀ (ρ2 : Rho) q, ρ2 q = some (Pl.obj w.heap.size) → R ρ2 (g q) x))
 | _ => True
section
variable {P : Program} {ρ : Rho} {m : Mem} {w : World}
theorem alloc_mk (t : TypeId) : MkR ρ m w (allocOp m t (zcells P t)) ((Instr.alloc t true (.tuple #[])).run P w) := by
 cases e : zcells P t with
 | none => exact trivial
 | some l =>
  obtain ⟨z, hz, rfl⟩ := zcells_some e
  refine ⟨fun q => .ptr q 0, rfl, .inl ⟨(t, 0), _, z.cells, .pointer (some ⟨w.heap.size, 0, none⟩), rfl, RL.cr (RL.lits _) rfl, ?_, fun ρ2 q hq => R.ptr hq 0⟩⟩
  show ((do let zero ← zeroValue t; pure (.pointer (some (← newVar t zero)))) : Sem Value).run P w = _
  rw [run_bind, run_zeroValue' hz]
  rfl
theorem box_mk (t : TypeId) {v : AVal} {x : Value} (hx : R ρ v x) : MkR ρ m w (boxOp m t v) ((Instr.box t x).run P w) := by
 unfold boxOp
 cases hp : isPoison v with
 | true => exact trivial
 | false =>
  rw [cond_false]
  exact ⟨fun q => .ptr q 0, rfl, .inl ⟨(t, 0), _, x.cells, .pointer (some ⟨w.heap.size, 0, none⟩), rfl, RL.cr (hx.cells hp) rfl, rfl, fun ρ2 q hq => R.ptr hq 0⟩⟩
theorem makeMap_mk (t : TypeId) (a : Option AVal) (x : Option Value) (hx : ∀ v, a = some v → ∃ y, x = some y ∧ R ρ v y) (hn : a = none → x = none) :
  MkR ρ m w (makeMapOp P m t a) ((Instr.makeMap t x).run P w) := by
 have key : ∀ res, res = .ok (.map (some w.heap.size)) (w.alloc (.map #[] 0)) → MkR ρ m w (.val (.map m.next) (m.new (.map [] 0))) res := fun res e => by
  rw [e]; exact ⟨fun q => .map q, rfl, .inr ⟨_, rfl, rfl, fun ρ2 q hq => by simp only [R]; exact ⟨_, hq, rfl⟩⟩⟩
 cases a with
 | none => rw [hn rfl]; exact key _ rfl
 | some v =>
  obtain ⟨y, rfl, hR⟩ := hx v rfl
  cases hu : P.underlying t with
  | none => unfold makeMapOp; rw [hu]; exact trivial
  | some d =>
   cases d with
   | map kt et =>
    cases v with
    | lit z =>
     simp only [R] at hR; subst hR
     cases y with
     | int k i =>
      have : makeMapOp P m t (some (.lit (.int k i))) = .val (.map m.next) (m.new (.map [] 0)) := by unfold makeMapOp; rw [hu]; rfl
      rw [this]
      refine key _ ?_
      unfold Instr.makeMap
      simp only [run_bind, run_underlying' hu, asInt, asIntOf, run_pure]
      rfl
     | _ => unfold makeMapOp; rw [hu]; exact trivial
    | _ => unfold makeMapOp; rw [hu]; exact trivial
   | _ => unfold makeMapOp; rw [hu]; exact trivial
theorem makeSl_mk (t : TypeId) {l c : AVal} {x y : Value} (hx : R ρ l x) (hy : R ρ c y) :
  MkR ρ m w (makeSl P m (natOf l) (natOf c) (sizedElem P (sliceElem P t))) ((Instr.makeSlice t x y).run P w) := by
 cases hs : sizedElem P (sliceElem P t) with
 | none => exact trivial
 | some es =>
  obtain ⟨e, size⟩ := es
  obtain ⟨h1, h2⟩ := sizedElem_some hs
  have hu := sliceElem_some h1
  have nat : ∀ {a : AVal} {v : Value} {n : Nat}, R ρ a v → natOf a = some n → ∃ k, v = .int k (.ofNat n) := by
   intro a v n ha hn
   unfold natOf at hn
   split at hn
   ·simp only [R] at ha; cases hn; exact ⟨_, ha⟩
   ·cases hn
  cases hl : natOf l with
  | none => exact trivial
  | some ln =>
   cases hc : natOf c with
   | none => exact trivial
   | some cn =>
    obtain ⟨k1, rfl⟩ := nat hx hl
    obtain ⟨k2, rfl⟩ := nat hy hc
    show MkR ρ m w (match some ln, some cn, zcells P e with
     | some l, some c, some z => bif (lenL z).beq size && !(size.beq 0) && l.ble c && c.ble 100000 && growOK P e size then .val (.slice m.next 0 l c true) (newRow m (e, size) (repL z c)) else .bad "makeSlice range"
     | _, _, _ => .bad "makeSlice") _
    cases hz : zcells P e with
    | none => exact trivial
    | some z =>
     dsimp only
     cases hg : ((lenL z).beq size && !(size.beq 0) && ln.ble cn && cn.ble 100000 && growOK P e size) with
     | false => exact trivial
     | true =>
      rw [cond_true]
      simp only [Bool.and_eq_true, nat_beq, nat_ble, lenL_eq, Bool.not_eq_true', nat_beq_f] at hg
      obtain ⟨⟨⟨⟨g1, g2⟩, g3⟩, g4⟩, g5⟩ := hg
      obtain ⟨zv, hz1, rfl⟩ := zcells_some hz
      have g1' : zv.cells.size = size := by simpa using g1
      have hgrow := g5
      unfold growOK at hgrow
      obtain ⟨i, hi, hsz⟩ := tsz_some h2
      rw [hi] at hgrow
      simp only [Bool.and_eq_true, nat_ble, Bool.not_eq_true', nat_beq_f] at hgrow
      obtain ⟨⟨b1, b2⟩, _⟩ := hgrow
      have hcs : ((Array.range (cn * size)).map (zv.cells[· % zv.cells.size]!)).toList = (List.replicate cn zv.cells.toList).flatten := range_rep (by omega) g1'
      refine ⟨fun q => .slice q 0 ln cn true, rfl, .inl ⟨(e, size), _, (Array.range (cn * size)).map (zv.cells[· % zv.cells.size]!), .slice (some ⟨w.heap.size, 0, none⟩) ln cn, rfl, RL.cr (RL.rep (RL.lits _) cn) hcs, ?_, fun ρ2 q hq => by
       simp only [R]
       exact ⟨_, cn, hq, Nat.le_refl _, fun _ => rfl, (fun hh => by cases hh), rfl⟩⟩⟩
      unfold Instr.makeSlice
      have wr : ∀ n : Nat, n ≤ 100000 → IntKind.i64.wrap (Int.ofNat n) = n := by
       intro n hn
       unfold IntKind.wrap
       simp [IntKind.bits, IntKind.signed]
       omega
      have hmul : (i.bytes : Int) * (cn : Int) ≤ 65536 * 100000 := by
       have : i.bytes * cn ≤ 65536 * 100000 := Nat.mul_le_mul b1 g4
       omega
      simp only [run_bind, run_underlying' hu, asInt, asIntOf, run_pure, run_typeInfo' hi, wr ln (by omega), wr cn g4]
      rw [if_neg (by
       simp only [Bool.or_eq_true, decide_eq_true_eq, not_or]
       refine ⟨⟨⟨by omega, by omega⟩, by omega⟩, by omega⟩)]
      rw [run_bind, run_askRoom]
      dsimp only
      rw [run_bind, run_sizeOf' h2]
      dsimp only
      simp only [Int.toNat_natCast]
      by_cases h0 : cn * size = 0
      ·rw [if_pos h0, h0]
       simp only [run_bind, run_pure, show Array.range 0 = (#[] : Array Nat) from rfl, Array.map_empty]
       rfl
      ·rw [if_neg h0]
       rw [run_bind, run_zeroValue' hz1]
       rfl
theorem buildSlice_mk (t : TypeId) (len : Nat) {ρ' : Operand → Value} {tmps : T AVal} (he : ∀ x, R ρ (evalT tmps x) (ρ' x)) (parts : Array (Nat × Operand)) :
  MkR ρ m w (buildSlice P len (ev2 tmps parts.toList) m (sizedElem P (sliceElem P t))) ((Instr.buildSlice t len (parts.map fun (i, x) => (i, ρ' x))).run P w) := by
 cases hs : sizedElem P (sliceElem P t) with
 | none => exact trivial
 | some es =>
  obtain ⟨e, size⟩ := es
  obtain ⟨h1, h2⟩ := sizedElem_some hs
  have hu := sliceElem_some h1
  show MkR ρ m w (match zcells P e with
   | some z => bif (lenL z).beq size && (len.mul size).ble 10000 && !(size.beq 0) then bsWith m (e, size) len (fillL (fun i => some (i.mul size, size)) (ev2 tmps parts.toList) (repL z len)) else .bad "buildSlice"
   | none => .bad "buildSlice") _
  cases hz : zcells P e with
  | none => exact trivial
  | some z =>
   obtain ⟨zv, hz1, rfl⟩ := zcells_some hz
   dsimp only
   cases hg : ((lenL (zv.cells.toList.map AVal.lit)).beq size && (len.mul size).ble 10000 && !(size.beq 0)) with
   | false => exact trivial
   | true =>
    rw [cond_true]
    simp only [Bool.and_eq_true, nat_beq, nat_ble, lenL_eq, Bool.not_eq_true', nat_beq_f, List.length_map, Array.length_toList] at hg
    obtain ⟨⟨g1, g2⟩, g3⟩ := hg
    have g2' : len * size ≤ 10000 := g2
    obtain ⟨hl, hp⟩ := mem_parts he parts.toList
    have htl : (parts.map fun (i, x) => (i, ρ' x)).toList = parts.toList.map fun x => (x.1, ρ' x.2) := by simp
    cases hf : fillL (fun i => some (i.mul size, size)) (ev2 tmps parts.toList) (repL (zv.cells.toList.map .lit) len) with
    | none => exact trivial
    | some cells' =>
     have hcs := range_rep (z := zv.cells) (q := size) (n := len) (by omega) g1
     obtain ⟨cs', r1, r2⟩ := fill_sound (ρ := ρ) (pa := fun i => some (i.mul size, size)) (pc := fun i => some (i * size, size)) (fun i q e => e) _ _ _
      ((Array.range (len * size)).map (zv.cells[· % zv.cells.size]!)) hf hl hp (by rw [hcs]; exact RL.rep (RL.lits _) len)
     refine ⟨fun q => .slice q 0 len len true, rfl, .inl ⟨(e, size), _, cs', .slice (some ⟨w.heap.size, 0, none⟩) len len, rfl, RL.cr r2 rfl, ?_, fun ρ2 q hq => by
      simp only [R]
      exact ⟨_, len, hq, Nat.le_refl _, fun _ => rfl, (fun hh => by cases hh), rfl⟩⟩⟩
     unfold Instr.buildSlice
     simp only [run_bind, run_underlying' hu, run_sizeOf' h2]
     rw [if_neg (by omega)]
     by_cases h0 : len * size = 0
     ·rw [if_pos h0]
      simp only [run_bind, run_pure]
      rw [h0] at r1 ⊢
      simp only [show Array.range 0 = (#[] : Array Nat) from rfl, Array.map_empty] at r1 ⊢
      rw [htl, r1]
      rfl
     ·rw [if_neg h0]
      simp only [run_bind, run_zeroValue' hz1, run_pure]
      rw [htl, r1]
      rfl
theorem make_sound {ρ' : Operand → Value} {tmps : T AVal} (o : Oper) (hev : ∀ x, R ρ (evalT tmps x) (ρ' x)) (hk : okind o.op = 2) :
  ∃ s : Sem Value, execOp ρ' o = (do pure (Next.value (← s))) ∧ MkR ρ m w (aop P tmps m o.op) (s.run P w) := by
 cases ho : o.op with
 | alloc t => exact ⟨_, by simp only [execOp, ho], alloc_mk t⟩
 | box t x => exact ⟨_, by simp only [execOp, ho], box_mk t (hev x)⟩
 | buildSlice t len parts => exact ⟨_, by simp only [execOp, ho], buildSlice_mk t len hev parts⟩
 | makeSlice t l c => exact ⟨_, by simp only [execOp, ho], makeSl_mk t (hev l) (hev c)⟩
 | makeMap t r =>
  refine ⟨_, by simp only [execOp, ho], makeMap_mk t (r.map (evalT tmps)) (r.map ρ') ?_ ?_⟩
  ·intro v hv
   rw [Option.map_eq_some_iff] at hv
   obtain ⟨x, rfl, rfl⟩ := hv
   exact ⟨_, rfl, hev x⟩
  ·intro hv
   rw [Option.map_eq_none_iff] at hv
   rw [hv]; rfl
 | call c =>
  rw [ho] at hk
  obtain ⟨callee, args, ats⟩ := c
  exfalso
  cases callee with
  | builtin b => cases b <;> simp [okind] at hk
  | _ => simp [okind] at hk
 | _ => rw [ho] at hk; simp [okind] at hk
end
theorem MR.place {w0 : Wo} {B : Nat} {ρ : Rho} {m : Mem} {w : World} (h : MR w0 B ρ m w) {r : Nat} {o : AObj} {x : Obj} {p : Pl} (hb : p.b = w.heap.size) (ho : m.heap.get r = some o) (hr : ρ r = none) (hnb : ¬ w0.N r)
  (hx : OR (ρ.add r p) B p (some x) o) : MR w0 B (ρ.add r p) m (w.alloc x) ∧ ρ.le (ρ.add r p) := by
 have hle : ρ.le (ρ.add r p) := Rho.le_add hr
 have hblk : ∀ q o2 p2, m.heap.get q = some o2 → ρ q = some p2 → p2.b ≠ w.heap.size := fun q o2 p2 h1 h2 => Nat.ne_of_lt (h.blk_lt h1 h2)
 refine ⟨⟨?_, ?_, ?_, h.hdom, h.famlt, h.rowfam, h.fam, h.lone, h.below.alloc h.size x, h.base, fun q hq => ⟨(h.ban q hq).1, by
  have hne : q ≠ r := by intro e; subst e; exact hnb hq
  rw [Rho.add_other _ _ hne]; exact (h.ban q hq).2⟩, h.globs rfl hle⟩, hle⟩
 ·intro q o2 p2 h1 h2
  by_cases hq : q = r
  ·subst hq
   rw [ho] at h1; cases h1
   rw [Rho.add_same] at h2; cases h2
   rw [hb, alloc_new]; exact hx
  ·rw [Rho.add_other _ _ hq] at h2
   have := h.obj q o2 p2 h1 h2
   rw [alloc_old (h.blk_lt h1 h2)]
   exact this.mono hle
 ·intro q q' o1 o2 p1 p2 hne h1 h2 h3 h4 h5
  by_cases hq : q = r
  ·subst hq
   rw [Rho.add_same] at h3; cases h3
   rw [Rho.add_other _ _ (Ne.symm hne)] at h4
   exact absurd (h5.symm.trans hb) (hblk q' o2 p2 h2 h4)
  ·rw [Rho.add_other _ _ hq] at h3
   by_cases hq' : q' = r
   ·subst hq'
    rw [Rho.add_same] at h4; cases h4
    exact absurd (h5.trans hb) (hblk q o1 p1 h1 h3)
   ·rw [Rho.add_other _ _ hq'] at h4
    exact h.inj q q' o1 o2 p1 p2 hne h1 h2 h3 h4 h5
 ·intro q hq
  have := h.hlt ho
  rw [Rho.add_other _ _ (by omega)]
  exact h.dom q hq
def SameAt (T T' : Abs.T AVal) (xs : Array Operand) : Prop := ∀ x ∈ xs, evalT T x = evalT T' x
theorem mapL_congr {T T' : Abs.T AVal} {xs : Array Operand} (h : SameAt T T' xs) : mapL (evalT T) xs.toList = mapL (evalT T') xs.toList := by
 rw [mapL_eq, mapL_eq]
 exact List.map_congr_left fun x hx => h x (by simpa using hx)
theorem resolveC_congr {T T' : Abs.T AVal} (c : Call) (h : SameAt T T' c.operands) : resolveC T c = resolveC T' c := by
 have hargs := mapL_congr (T := T) (T' := T') (xs := c.args) fun x hx => h x (by simp [Call.operands, hx])
 unfold resolveC
 rw [hargs]
 cases hc : c.callee with
 | value f => have hf : evalT T f = evalT T' f := h f (by simp [Call.operands, hc]); simp only [hf]
 | invoke r m => have hr : evalT T r = evalT T' r := h r (by simp [Call.operands, hc]); simp only [hr]
 | builtin b => rfl
theorem ev2_congr {T T' : Abs.T AVal} {ps : Array (Nat × Operand)} (h : ∀ x ∈ ps.toList.map (·.2), evalT T x = evalT T' x) : ev2 T ps.toList = ev2 T' ps.toList := by
 unfold ev2
 rw [mapL_eq, mapL_eq]
 exact List.map_congr_left fun p hp => by rw [h p.2 (List.mem_map.2 ⟨p, hp, rfl⟩)]
theorem optE_congr {T T' : Abs.T AVal} {o : Option Operand} (h : ∀ x, o = some x → evalT T x = evalT T' x) : o.map (evalT T) = o.map (evalT T') := by
 cases o with
 | none => rfl
 | some x => simp [h x rfl]
theorem aop_congr {P : Program} {m : Mem} {T T' : Abs.T AVal} (op : Op) (h : SameAt T T' op.operands) : aop P T m op = aop P T' m op := by
 cases op with
 | move x => have h1 := h x (by simp [Op.operands]); simp only [aop, h1]
 | assign x => have h1 := h x (by simp [Op.operands]); simp only [aop, h1]
 | pick c a b => have h1 := h c (by simp [Op.operands]); have h2 := h a (by simp [Op.operands]); have h3 := h b (by simp [Op.operands]); simp only [aop, h1, h2, h3]
 | box t x => have h1 := h x (by simp [Op.operands]); simp only [aop, h1]
 | build t ps => simp only [aop]; rw [ev2_congr fun x hx => h x (by simpa [Op.operands] using hx)]
 | buildSlice t n ps => simp only [aop]; rw [ev2_congr fun x hx => h x (by simpa [Op.operands] using hx)]
 | load t x => have h1 := h x (by simp [Op.operands]); simp only [aop, h1]
 | store t a x => have h1 := h a (by simp [Op.operands]); have h2 := h x (by simp [Op.operands]); simp only [aop, h1, h2]
 | nilCheck x => have h1 := h x (by simp [Op.operands]); simp only [aop, h1]
 | binOp op t x y z => have h1 := h x (by simp [Op.operands]); have h2 := h y (by simp [Op.operands]); simp only [aop, h1, h2]
 | unOp op t x => have h1 := h x (by simp [Op.operands]); simp only [aop, h1]
 | convert s d x => have h1 := h x (by simp [Op.operands]); simp only [aop, h1]
 | makeInterface t x => have h1 := h x (by simp [Op.operands]); simp only [aop, h1]
 | makeFunc fn first captured =>
  have h1 := mapL_congr (T := T) (T' := T') (xs := first) fun x hx => h x (by simp [Op.operands, hx])
  have h2 := mapL_congr (T := T) (T' := T') (xs := captured) fun x hx => h x (by simp [Op.operands, hx])
  simp only [aop, h1, h2]
 | makeMap t r => have h1 := optE_congr (T := T) (T' := T') (o := r) fun x hx => h x (by simp [Op.operands, hx]); simp only [aop, h1]
 | makeSlice t l c => have h1 := h l (by simp [Op.operands]); have h2 := h c (by simp [Op.operands]); simp only [aop, h1, h2]
 | slice t x lo hi mx =>
  have h1 := h x (by simp [Op.operands])
  have h2 := optE_congr (T := T) (T' := T') (o := lo) fun x hx => h x (by simp [Op.operands, hx])
  have h3 := optE_congr (T := T) (T' := T') (o := hi) fun x hx => h x (by simp [Op.operands, hx])
  have h4 := optE_congr (T := T) (T' := T') (o := mx) fun x hx => h x (by simp [Op.operands, hx])
  simp only [aop, h1, h2, h3, h4]
 | fieldAddr s x f => have h1 := h x (by simp [Op.operands]); simp only [aop, h1]
 | field s x f => have h1 := h x (by simp [Op.operands]); simp only [aop, h1]
 | indexAddr t x ix => have h1 := h x (by simp [Op.operands]); have h2 := h ix (by simp [Op.operands]); simp only [aop, h1, h2]
 | index t x ix => have h1 := h x (by simp [Op.operands]); have h2 := h ix (by simp [Op.operands]); simp only [aop, h1, h2]
 | lookup t x k ok => have h1 := h x (by simp [Op.operands]); have h2 := h k (by simp [Op.operands]); simp only [aop, h1, h2]
 | mapUpdate t mp k x => have h1 := h mp (by simp [Op.operands]); have h2 := h k (by simp [Op.operands]); have h3 := h x (by simp [Op.operands]); simp only [aop, h1, h2, h3]
 | insert t mp k x => have h1 := h mp (by simp [Op.operands]); have h2 := h k (by simp [Op.operands]); have h3 := h x (by simp [Op.operands]); simp only [aop, h1, h2, h3]
 | range t x => have h1 := h x (by simp [Op.operands]); simp only [aop, h1]
 | entry x => have h1 := h x (by simp [Op.operands]); simp only [aop, h1]
 | typeAssert x t a ok => have h1 := h x (by simp [Op.operands]); simp only [aop, h1]
 | extract x ix => have h1 := h x (by simp [Op.operands]); simp only [aop, h1]
 | call c => simp only [aop]; rw [resolveC_congr c h]
 | panic x => have h1 := h x (by simp [Op.operands]); simp only [aop, h1]
 | _ => rfl
theorem aop2_congr {P : Program} {m : Mem} {T T' : Abs.T AVal} (op : Op) (h : SameAt T T' op.operands) : aop2 P T m op = aop2 P T' m op := by
 have hp : ptrCmp P T m op = ptrCmp P T' m op := by
  unfold ptrCmp
  split
  ·rename_i t x y z
   rw [h x (by simp [Op.operands]), h y (by simp [Op.operands])]
  ·rename_i t x y z
   rw [h x (by simp [Op.operands]), h y (by simp [Op.operands])]
  ·rfl
 unfold aop2
 rw [aop_congr op h, hp]
theorem operR_congr {P : Program} {fl : Fl} {rec : Run} {env : Env} {T T' : Abs.T AVal} {dst : Option Tmp} {cont cont' : Cont} {panicked panicked' : Chain → Chain → Mem → RR} {ds : List ADef} {up : Chain} {m : Mem} (op : Op)
  (h : SameAt T T' op.operands) (hc : ∀ v ds up m, cont (setDst env.nt T v dst) ds up m = cont' (setDst env.nt T' v dst) ds up m) (hp : ∀ c up m, panicked c up m = panicked' c up m) :
  operR P fl rec env panicked dst cont T ds up m op = operR P fl rec env panicked' dst cont' T' ds up m op := by
 have hpp : panicked = panicked' := by funext c up m; exact hp c up m
 subst hpp
 have hgot : ∀ r, gotR panicked env.nt dst cont T ds up r = gotR panicked env.nt dst cont' T' ds up r := by
  intro r
  rw [gotR_eq, gotR_eq]
  induction r with
  | ret v up' m' => exact hc v ds up m'
  | panicked c up' m' => rfl
  | bad _ => rfl
  | alt a b iha ihb =>
   dsimp only at iha ihb ⊢
   rw [iha, ihb]
 have hout : ∀ out, outR P fl rec env panicked dst cont T ds up m out = outR P fl rec env panicked dst cont' T' ds up m out := by
  intro out
  cases out with
  | val v m' => exact hc v ds up m'
  | enter f a m' =>
   show enterR _ _ (extV P fl f a m') = enterR _ _ (extV P fl f a m')
   cases extV P fl f a m' with
   | none => exact hgot _
   | some v => exact hc v ds up m'
  | round l f nt tm a b m' =>
   show (bif _ then _ else _) = (bif _ then _ else _)
   rw [hgot]
  | recov =>
   show (bif env.roundOf.isSome then RR.bad "recover in a round" else recovR env dst cont T ds m up) = (bif env.roundOf.isSome then RR.bad "recover in a round" else recovR env dst cont' T' ds m up)
   have : recovR env dst cont T ds m up = recovR env dst cont' T' ds m up := by
    unfold recovR
    split
    ·rw [hc, hc]
    ·rw [hc]
   rw [this]
  | panic v m' => rfl
  | bad _ => rfl
 unfold operR
 split
 ·rename_i c
  unfold dferR
  rw [resolveC_congr c h]
  split
  ·split
   ·rw [hc]
   ·rfl
  ·rfl
 ·rename_i it s
  have h1 := h it (by simp [Op.operands])
  rw [h1]
  unfold nextR
  split
  ·exact hout _
  ·congr 1
   funext e
   exact hout _
 ·rw [aop2_congr op h]
  exact hout _
theorem edgeBits_nil (bs : List Nat) : edgeBits bs [] = 0 := rfl
theorem edgeBits_cons (bs : List Nat) (e : Edge) (es : List Edge) : edgeBits bs (e :: es) =
  bif Region.binds .any e then (((Nat.pow 2 e.on).lor ((match getO bs e.on with | some b => b | none => 0))).lor (edgeBits bs es)) else edgeBits bs es := rfl
theorem edgeBits_spec (bs : List Nat) (b : Nat) : ∀ es : List Edge, (edgeBits bs es).testBit b = true →
  ∃ e ∈ es, Region.binds .any e = true ∧ (b = e.on ∨ ∃ mk, bs[e.on]? = some mk ∧ mk.testBit b = true)
 | [], h => by rw [edgeBits_nil] at h; simp at h
 | e :: es, h => by
  rw [edgeBits_cons] at h
  cases hb : Region.binds .any e with
  | false =>
   rw [hb] at h
   obtain ⟨e', h1, h2⟩ := edgeBits_spec bs b es h
   exact ⟨e', by simp [h1], h2⟩
  | true =>
   rw [hb, cond_true] at h
   have h' : (((2 ^ e.on) ||| (match getO bs e.on with | some b => b | none => 0)) ||| edgeBits bs es).testBit b = true := h
   rw [Nat.testBit_or, Nat.testBit_or, Bool.or_eq_true, Bool.or_eq_true] at h'
   rcases h' with (h1 | h1) | h1
   ·rw [Nat.testBit_two_pow] at h1
    have : e.on = b := by simpa using h1
    exact ⟨e, by simp, hb, .inl this.symm⟩
   ·rw [getO_eq] at h1
    cases hg : bs[e.on]? with
    | none => rw [hg] at h1; simp at h1
    | some mk => rw [hg] at h1; exact ⟨e, by simp, hb, .inr ⟨mk, hg, h1⟩⟩
   ·obtain ⟨e', h2, h3⟩ := edgeBits_spec bs b es h1
    exact ⟨e', by simp [h2], h3⟩
theorem befores_prefix : ∀ (ops : List Oper) (acc : List Nat), ∃ t, beforesFrom acc ops = acc ++ t
 | [], acc => ⟨[], by simp [beforesFrom]⟩
 | o :: rest, acc => by
  obtain ⟨t, ht⟩ := befores_prefix rest (appL acc [edgeBits acc o.after.toList])
  exact ⟨_, by rw [beforesFrom, ht, appL_eq, List.append_assoc]⟩
theorem befores_get : ∀ (ops : List Oper) (acc : List Nat) (i : Nat) (o : Oper), ops[i]? = some o →
  ∃ acc', (beforesFrom acc ops)[acc.length + i]? = some (edgeBits acc' o.after.toList) ∧ ∃ t, beforesFrom acc ops = acc' ++ t
 | [], acc, i, o, h => by simp at h
 | a :: rest, acc, i, o, h => by
  cases i with
  | zero =>
   simp only [List.getElem?_cons_zero, Option.some.injEq] at h
   subst h
   obtain ⟨t, ht⟩ := befores_prefix rest (appL acc [edgeBits acc a.after.toList])
   refine ⟨acc, ?_, [edgeBits acc a.after.toList] ++ t, ?_⟩
   ·rw [beforesFrom, ht, appL_eq]
    simp
   ·rw [beforesFrom, ht, appL_eq, List.append_assoc]
  | succ i =>
   simp only [List.getElem?_cons_succ] at h
   obtain ⟨acc', h1, t, h2⟩ := befores_get rest (appL acc [edgeBits acc a.after.toList]) i o h
   refine ⟨acc', ?_, t, by rw [beforesFrom, h2]⟩
   rw [beforesFrom]
   rw [appL_eq] at h1 ⊢
   rw [List.length_append, List.length_singleton] at h1
   rw [show acc.length + (i + 1) = acc.length + 1 + i from by omega]
   exact h1
theorem befores_bit {ops : List Oper} {i : Nat} {o : Oper} (h : ops[i]? = some o) : ∃ mk, (befores ops)[i]? = some mk ∧
  ∀ b, mk.testBit b = true → ∃ e ∈ o.after.toList, Region.binds .any e = true ∧ (b = e.on ∨ ∃ mk', (befores ops)[e.on]? = some mk' ∧ mk'.testBit b = true) := by
 obtain ⟨acc', h1, t, h2⟩ := befores_get ops [] i o h
 simp only [List.length_nil, Nat.zero_add] at h1
 refine ⟨_, h1, fun b hb => ?_⟩
 obtain ⟨e, he, hbd, h3⟩ := edgeBits_spec acc' b _ hb
 refine ⟨e, he, hbd, ?_⟩
 rcases h3 with h3 | ⟨mk, h4, h5⟩
 ·exact .inl h3
 ·right
  refine ⟨mk, ?_, h5⟩
  unfold befores
  rw [h2]
  have hlt := (List.getElem?_eq_some_iff.1 h4).1
  rw [List.getElem?_append_left hlt]
  exact h4
theorem isBit_eq (m i : Nat) : isBit m i = m.testBit i := by
 unfold isBit
 have : (m.shiftRight i).mod 2 = (m >>> i) % 2 := rfl
 rw [this, Nat.testBit, Nat.and_comm, Nat.and_one_is_mod]
 cases Nat.mod_two_eq_zero_or_one (m >>> i) with
 | inl h => rw [h]; rfl
 | inr h => rw [h]; rfl
def Closed (ops : List Oper) (listed : Array Bool) : Prop :=
 ∀ j mk, listed.getD j false = true → (befores ops)[j]? = some mk → ∀ b, mk.testBit b = true → listed.getD b false = true
theorem ready_mask {ops : Array Oper} {listed : Array Bool} (hc : Closed ops.toList listed) {i : Nat} (hi : i ∈ Region.ready .any ops listed) {mk : Nat} (hm : (befores ops.toList)[i]? = some mk) :
  ∀ b, mk.testBit b = true → listed.getD b false = true := by
 obtain ⟨_, o, ho, hall⟩ := mem_ready.1 hi
 obtain ⟨mk', h1, h2⟩ := befores_bit (ops := ops.toList) (i := i) (o := o) (by simpa using ho)
 rw [hm] at h1
 cases h1
 intro b hb
 obtain ⟨e, he, hbd, h3⟩ := h2 b hb
 have hl := hall e (by simpa using he) hbd
 rcases h3 with rfl | ⟨mk2, h4, h5⟩
 ·exact hl
 ·exact hc _ _ hl h4 b h5
theorem getD_set_eq {l : Array Bool} {i j : Nat} (hi : i < l.size) (d : Bool) : (l.setIfInBounds i true).getD j d = if i = j then true else l.getD j d := by
 rw [Array.getD_eq_getD_getElem?, Array.getElem?_setIfInBounds]
 by_cases h : i = j
 ·subst h; simp [hi]
 ·rw [if_neg h, if_neg h, Array.getD_eq_getD_getElem?]
theorem Closed.set {ops : Array Oper} {listed : Array Bool} (hc : Closed ops.toList listed) (hs : listed.size = ops.size) {i : Nat} (hi : i ∈ Region.ready .any ops listed) : Closed ops.toList (listed.setIfInBounds i true) := by
 obtain ⟨_, o, ho, _⟩ := mem_ready.1 hi
 have hlt : i < listed.size := by rw [hs]; exact (Array.getElem?_eq_some_iff.1 ho).1
 intro j mk hj hm b hb
 rw [getD_set_eq hlt] at hj ⊢
 by_cases h : i = j
 ·subst h
  have := ready_mask hc hi hm b hb
  rw [this]; simp
 ·rw [if_neg h] at hj
  have := hc j mk hj hm b hb
  rw [this]; simp
def Ord (ops : Array Oper) : Array Bool → List Nat → Prop
 | listed, [] => Region.ready .any ops listed = []
 | listed, i :: L => i ∈ Region.ready .any ops listed ∧ Ord ops (listed.setIfInBounds i true) L
def unlisted (listed : Array Bool) : Nat := (listed.toList.filter (!·)).length
theorem unlisted_set {listed : Array Bool} {i : Nat} (h : listed[i]? = some false) : unlisted (listed.setIfInBounds i true) + 1 = unlisted listed := by
 unfold unlisted
 rw [Array.toList_setIfInBounds]
 obtain ⟨l⟩ := listed
 simp only [List.getElem?_toArray] at h
 dsimp only
 induction l generalizing i with
 | nil => simp at h
 | cons a l ih =>
  cases i with
  | zero => simp only [List.getElem?_cons_zero, Option.some.injEq] at h; subst h; simp
  | succ i =>
   simp only [List.getElem?_cons_succ] at h
   have := ih h
   cases a <;> simp [List.set_cons_succ] at this ⊢ <;> omega
theorem ord_go {ops : Array Oper} : ∀ (fuel t : Nat) (listed : Array Bool), listed.size = ops.size → unlisted listed ≤ fuel → Ord ops listed (Region.linearise.go .any ops fuel t listed [])
 | 0, t, listed, hs, hf => by
  show Region.ready .any ops listed = []
  rw [List.eq_nil_iff_forall_not_mem]
  intro j hj
  obtain ⟨h1, o, ho, _⟩ := mem_ready.1 hj
  have hlt : j < listed.size := by rw [hs]; exact (Array.getElem?_eq_some_iff.1 ho).1
  have h2 : listed[j]? = some false := by
   rw [Array.getD_eq_getD_getElem?] at h1
   rw [Array.getElem?_eq_getElem hlt] at h1 ⊢
   simpa using h1
  have := unlisted_set h2
  omega
 | fuel + 1, t, listed, hs, hf => by
  simp only [Region.linearise.go]
  change Ord ops listed (match (Region.ready .any ops listed)[t % (Region.ready .any ops listed).length]? with
   | some i => Region.linearise.go .any ops fuel (t / (Region.ready .any ops listed).length) (listed.setIfInBounds i true) [i]
   | none => [].reverse)
  cases hi : (Region.ready .any ops listed)[t % (Region.ready .any ops listed).length]? with
  | none =>
   show Region.ready .any ops listed = []
   cases hr : Region.ready .any ops listed with
   | nil => rfl
   | cons x xs =>
    rw [hr] at hi
    have hlt : t % (x :: xs).length < (x :: xs).length := Nat.mod_lt _ (by simp)
    rw [List.getElem?_eq_getElem hlt] at hi
    cases hi
  | some i =>
   have hmem := List.mem_of_getElem? hi
   dsimp only
   rw [linearise_go_acc, List.reverse_singleton, List.singleton_append]
   refine ⟨hmem, ord_go fuel _ _ (by simpa using hs) ?_⟩
   obtain ⟨h1, o, ho, _⟩ := mem_ready.1 hmem
   have hlt : i < listed.size := by rw [hs]; exact (Array.getElem?_eq_some_iff.1 ho).1
   have h2 : listed[i]? = some false := by
    rw [Array.getD_eq_getD_getElem?] at h1
    rw [Array.getElem?_eq_getElem hlt] at h1 ⊢
    simpa using h1
   have := unlisted_set h2
   omega
theorem ord_start (ops : Array Oper) (t : Nat) : Ord ops (Array.replicate ops.size false) (Region.linearise .any ops t) :=
 ord_go ops.size t _ (by simp) (by unfold unlisted; simp)
theorem closed_start (ops : Array Oper) : Closed ops.toList (Array.replicate ops.size false) := by
 intro j mk hj
 rw [Array.getD_eq_getD_getElem?, Array.getElem?_replicate] at hj
 split at hj <;> simp at hj
theorem edgesOK_spec : ∀ (ops : List Oper) (i : Nat), edgesOK i ops = true → ∀ j o, ops[j]? = some o → (∀ e ∈ o.after.toList, Region.binds .any e = true → e.on < i + j) ∧
  (∀ g want, o.guard = some (g, want) → ∃ e ∈ o.after.toList, e.on = g ∧ Region.binds .any e = true)
 | [], i, _, j, o, h => by simp at h
 | a :: rest, i, hk, j, o, h => by
  unfold edgesOK at hk
  rw [Bool.and_eq_true, Bool.and_eq_true] at hk
  obtain ⟨⟨h1, h2⟩, h3⟩ := hk
  cases j with
  | zero =>
   simp only [List.getElem?_cons_zero, Option.some.injEq] at h
   subst h
   constructor
   ·intro e he hb
    rw [List.all_eq_true] at h1
    have := h1 e he
    rw [hb] at this
    have h4 : e.on.blt i = true := by simpa using this
    simpa [Nat.blt_eq] using h4
   ·intro g want hg
    rw [hg] at h2
    simp only [List.any_eq_true, Bool.and_eq_true] at h2
    obtain ⟨e, he, h4, h5⟩ := h2
    exact ⟨e, he, nat_beq.1 h4, h5⟩
  | succ j =>
   simp only [List.getElem?_cons_succ] at h
   obtain ⟨h4, h5⟩ := edgesOK_spec rest i.succ h3 j o h
   refine ⟨fun e he hb => ?_, h5⟩
   have := h4 e he hb
   have : e.on < i + 1 + j := this
   omega
theorem all_listed {ops : Array Oper} (hk : edgesOK 0 ops.toList = true) {listed : Array Bool} (hs : listed.size = ops.size) (hr : Region.ready .any ops listed = []) : ∀ j, j < ops.size → listed.getD j false = true := by
 intro j
 induction j using Nat.strongRecOn with
 | _ j ih =>
  intro hj
  cases hl : listed.getD j false with
  | true => rfl
  | false =>
   exfalso
   have hlt : j < listed.size := by omega
   have hmem : j ∈ Region.ready .any ops listed := by
    rw [mem_ready]
    refine ⟨?_, ops[j], Array.getElem?_eq_getElem hj, ?_⟩
    ·rw [Array.getD_eq_getD_getElem?, Array.getElem?_eq_getElem hlt] at hl ⊢
     exact hl
    ·intro e he hb
     have := (edgesOK_spec ops.toList 0 hk j ops[j] (by simp [hj])).1 e (by simpa using he) hb
     exact ih e.on (by omega) (by omega)
   rw [hr] at hmem
   cases hmem
def itemsT : PTree → List PItem
 | .fin => []
 | .light p r => p :: itemsT r
 | .heavy p r => p :: itemsT r
 | .either a b => itemsT a ++ itemsT b
theorem growT_mem : ∀ (f done : Nat) (left : List PItem) {p : PItem}, p ∈ itemsT (growT f done left) → p ∈ left
 | 0, _, _, p, h => by simp [growT, itemsT] at h
 | f + 1, done, left, p, h => by
  have sub : ∀ {q : PItem}, q ∈ left → ∀ {done'}, p ∈ q :: itemsT (growT f done' (left.filter fun x => !(x.ix.beq q.ix))) → p ∈ left := by
   intro q hq done' h
   rcases List.mem_cons.1 h with rfl | h
   ·exact hq
   ·exact (List.mem_filter.1 (growT_mem f _ _ h)).1
  have inF : ∀ {q : PItem}, q ∈ left.filter (readyP done) → q ∈ left := fun h => (List.mem_filter.1 h).1
  unfold growT at h
  split at h
  ·rename_i q hq
   exact sub (List.mem_of_find?_eq_some hq) h
  ·split at h
   ·rename_i q hl
    exact sub (inF (by rw [hl]; simp)) h
   ·rename_i q r hl
    rcases List.mem_append.1 h with h | h
    ·exact sub (q := q) (inF (by rw [hl]; simp)) h
    ·exact sub (q := r) (inF (by rw [hl]; simp)) h
   ·simp [itemsT] at h
theorem items_mem {ops : List Oper} {p : PItem} (h : p ∈ items ops) : ops[p.ix]? = some p.o ∧ (befores ops)[p.ix]? = some p.mask ∧ p.kind = okind p.o.op := by
 unfold items at h
 rw [List.mem_map] at h
 obtain ⟨⟨⟨o, mk⟩, i⟩, hx, rfl⟩ := h
 have h1 := List.mem_zipIdx hx
 obtain ⟨_, _, h3⟩ := h1
 dsimp only at h3 ⊢
 have h4 : (ops.zip (befores ops))[i]? = some (o, mk) := by
  have hx' := List.mem_zipIdx_iff_getElem?.1 hx
  simpa using hx'
 rw [List.getElem?_zip_eq_some] at h4
 exact ⟨h4.1, h4.2, rfl⟩
theorem testBit_or_pow (m i b : Nat) : (m.lor (Nat.pow 2 i)).testBit b = (m.testBit b || (i == b)) := by
 have : m.lor (Nat.pow 2 i) = m ||| 2 ^ i := rfl
 rw [this, Nat.testBit_or, Nat.testBit_two_pow]
 congr 1
theorem land_eq {a b : Nat} (h : a.land b = a) {i : Nat} (ha : a.testBit i = true) : b.testBit i = true := by
 have h1 : a &&& b = a := h
 have := congrArg (·.testBit i) h1
 simp only [Nat.testBit_and, ha, Bool.true_and] at this
 exact this
theorem items_all {ops : Array Oper} {i : Nat} (h : i < ops.size) : ∃ q ∈ items ops.toList, q.ix = i := by
 have ho : ops.toList[i]? = some ops[i] := by simp [h]
 obtain ⟨mk, hm, _⟩ := befores_bit ho
 refine ⟨⟨i, ops[i], mk, okind ops[i].op⟩, ?_, rfl⟩
 unfold items
 rw [List.mem_map]
 refine ⟨((ops[i], mk), i), ?_, rfl⟩
 rw [List.mem_zipIdx_iff_getElem?]
 rw [List.getElem?_zip_eq_some]
 exact ⟨ho, hm⟩
theorem readyP_iff {done : Nat} {p : PItem} : readyP done p = true ↔ ∀ b, p.mask.testBit b = true → done.testBit b = true := by
 unfold readyP
 rw [nat_beq]
 constructor
 ·intro h b hb; exact land_eq h hb
 ·intro h
  have : p.mask &&& done = p.mask := by
   apply Nat.eq_of_testBit_eq
   intro b
   rw [Nat.testBit_and]
   cases hb : p.mask.testBit b with
   | false => rfl
   | true => rw [h b hb]; rfl
  exact this
theorem fitP_spec {done : Nat} {p : PItem} (h : fitP done p = true) : (∀ b, p.mask.testBit b = true → done.testBit b = true) ∧ done.testBit p.ix = false := by
 unfold fitP at h
 rw [Bool.and_eq_true, readyP_iff, isBit_eq] at h
 exact ⟨h.1, by simpa using h.2⟩
def branchesT : PTree → List (PItem × PTree)
 | .heavy p r => [(p, r)]
 | .either a b => branchesT a ++ branchesT b
 | _ => []
theorem headsT_eq : ∀ t : PTree, headsT t = (branchesT t).map (·.1.ix)
 | .fin => rfl
 | .light _ _ => rfl
 | .heavy _ _ => rfl
 | .either a b => by simp [headsT, branchesT, headsT_eq a, headsT_eq b]
theorem okT_branches {all : List PItem} {full : Nat} : ∀ (t : PTree) (top : Bool) (done : Nat), okT all full t top done = true → ∀ x ∈ branchesT t, fitP done x.1 = true ∧ okT all full x.2 true (done.lor (Nat.pow 2 x.1.ix)) = true
 | .fin, _, _, _, x, hx => by cases hx
 | .light _ _, _, _, _, x, hx => by cases hx
 | .heavy p r, top, done, h, x, hx => by
  simp only [branchesT, List.mem_singleton] at hx
  subst hx
  unfold okT at h
  rw [Bool.and_eq_true, Bool.and_eq_true] at h
  exact h.1
 | .either a b, top, done, h, x, hx => by
  unfold okT at h
  rw [Bool.and_eq_true, Bool.and_eq_true] at h
  rcases List.mem_append.1 hx with hx | hx
  ·exact okT_branches a false done h.1.1 x hx
  ·exact okT_branches b false done h.1.2 x hx
theorem okT_whole {all : List PItem} {full : Nat} {t : PTree} {done : Nat} (h : okT all full t true done = true) (hb : (∃ p r, t = .heavy p r) ∨ ∃ a b, t = .either a b) :
  ∀ q ∈ all, done.testBit q.ix = true ∨ readyP done q = false ∨ ∃ x ∈ branchesT t, x.1.ix = q.ix := by
 have key : wholeT all done (headsT t) = true := by
  rcases hb with ⟨p, r, rfl⟩ | ⟨a, b, rfl⟩
  ·unfold okT at h
   rw [Bool.and_eq_true] at h
   simpa [headsT] using h.2
  ·unfold okT at h
   simp only [Bool.and_eq_true, Bool.not_true, Bool.false_or] at h
   exact h.2.1
 intro q hq
 unfold wholeT at key
 rw [List.all_eq_true] at key
 have := key q hq
 rw [Bool.or_eq_true, Bool.or_eq_true, isBit_eq] at this
 rcases this with (h1 | h1) | h1
 ·exact .inl h1
 ·exact .inr (.inl (by simpa using h1))
 ·right; right
  rw [List.contains_iff_mem, headsT_eq, List.mem_map] at h1
  obtain ⟨x, h2, h3⟩ := h1
  exact ⟨x, h2, h3⟩
theorem okT_some {all : List PItem} {full : Nat} {t : PTree} {top : Bool} {done : Nat} (h : okT all full t top done = true) (hb : (∃ p r, t = .heavy p r) ∨ ∃ a b, t = .either a b) : ∃ x, x ∈ branchesT t := by
 rcases hb with ⟨p, r, rfl⟩ | ⟨a, b, rfl⟩
 ·exact ⟨_, List.mem_singleton.2 rfl⟩
 ·unfold okT at h
  simp only [Bool.and_eq_true] at h
  have h1 := h.2.2
  have h2 : headsT a ++ headsT b = (branchesT (.either a b)).map (·.1.ix) := headsT_eq (.either a b)
  rw [h2] at h1
  cases hb : branchesT (.either a b) with
  | cons x _ => exact ⟨x, by simp⟩
  | nil => rw [hb] at h1; cases h1
theorem okT_light {all : List PItem} {full : Nat} {p : PItem} {r : PTree} {top : Bool} {done : Nat} (h : okT all full (.light p r) top done = true) : fitP done p = true ∧ p.kind < 3 ∧ okT all full r true (done.lor (Nat.pow 2 p.ix)) = true := by
 unfold okT at h
 rw [Bool.and_eq_true, Bool.and_eq_true] at h
 exact ⟨h.1.1, by simpa [Nat.blt_eq] using h.1.2, h.2⟩
theorem okT_fin {all : List PItem} {full : Nat} {top : Bool} {done : Nat} (h : okT all full .fin top done = true) : done = full := by
 unfold okT at h
 exact nat_beq.1 h
structure PlanOK (ops : Array Oper) (t : PTree) : Prop where
 item : ∀ p ∈ itemsT t, ops[p.ix]? = some p.o ∧ (befores ops.toList)[p.ix]? = some p.mask ∧ p.kind = okind p.o.op
 ord : okT (items ops.toList) (2 ^ ops.size - 1) t true 0 = true
 edges : edgesOK 0 ops.toList = true
 tmps : tmpsOK (befores ops.toList) (ops.toList.zipIdx.map fun x => (x.2, x.1)) = true
theorem plan_spec {ops : Array Oper} {its : PTree} (h : plan ops.toList = some its) : PlanOK ops its := by
 unfold plan at h
 cases hc : (okT (items ops.toList) ((Nat.pow 2 ops.toList.length).sub 1) (plan0 ops.toList) true 0 && edgesOK 0 ops.toList && tmpsOK (befores ops.toList) (ops.toList.zipIdx.map fun x => (x.2, x.1))) with
 | false => rw [hc] at h; cases h
 | true =>
  rw [hc] at h
  cases h
  rw [Bool.and_eq_true, Bool.and_eq_true] at hc
  obtain ⟨⟨h1, h2⟩, h3⟩ := hc
  refine ⟨fun p hp => ?_, ?_, h2, h3⟩
  ·obtain ⟨a, b, c⟩ := items_mem (growT_mem _ _ _ hp)
   exact ⟨by simpa using a, b, c⟩
  ·have : (Nat.pow 2 ops.toList.length).sub 1 = 2 ^ ops.size - 1 := by rw [Array.length_toList]; rfl
   rw [← this]
   exact h1
theorem tmps_spec {ops : Array Oper} {its : PTree} (h : PlanOK ops its) {i j : Nat} {q o : Oper} (hi : ops[i]? = some q) (hj : ops[j]? = some o) (hne : i ≠ j) {d : Tmp} (hd : q.dst = some d) :
  o.dst ≠ some d ∧ (d ∈ opTmps o → (∃ mk, (befores ops.toList)[j]? = some mk ∧ mk.testBit i = true) ∨ (∃ mk, (befores ops.toList)[i]? = some mk ∧ mk.testBit j = true)) := by
 have h1 := h.tmps
 unfold tmpsOK at h1
 have mem : ∀ {k : Nat} {x : Oper}, ops[k]? = some x → (k, x) ∈ ops.toList.zipIdx.map fun x => (x.2, x.1) := by
  intro k x hx
  rw [List.mem_map]
  exact ⟨(x, k), List.mem_zipIdx_iff_getElem?.2 (by simpa using hx), rfl⟩
 rw [List.all_eq_true] at h1
 have h2 := h1 (j, o) (mem hj)
 dsimp only at h2
 rw [List.all_eq_true] at h2
 have h3 := h2 (i, q) (mem hi)
 dsimp only at h3
 rw [hd] at h3
 rw [Bool.or_eq_true, nat_beq] at h3
 rcases h3 with h3 | h3
 ·exact absurd h3 hne
 ·dsimp only at h3
  rw [Bool.and_eq_true, Bool.or_eq_true, Bool.or_eq_true] at h3
  obtain ⟨h4, h5⟩ := h3
  refine ⟨fun e => by rw [e] at h4; simp at h4, fun hm => ?_⟩
  rcases h5 with (h5 | h5) | h5
  ·exfalso
   have : (opTmps o).contains d = true := by simpa using hm
   rw [this] at h5
   cases h5
  ·left
   rw [getO_eq, isBit_eq] at h5
   cases hb : (befores ops.toList)[j]? with
   | none => rw [hb] at h5; simp at h5
   | some mk => rw [hb] at h5; exact ⟨mk, rfl, h5⟩
  ·right
   rw [getO_eq, isBit_eq] at h5
   cases hb : (befores ops.toList)[i]? with
   | none => rw [hb] at h5; simp at h5
   | some mk => rw [hb] at h5; exact ⟨mk, rfl, h5⟩
end Go.Abs
