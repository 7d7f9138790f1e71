/- An executor whose runs hold in every world: a part of it and of what is proved of it. -/
import Derived.Test.YtjefckdgpbdpeaaGreatAbsOper

namespace Go.Abs
open Go

/-- what memory an operation leaves -/
def OutK (m : Mem) : Out → Prop
  | .val _ m' => Keeps m m'
  | .panic _ m' => Keeps m m'
  | .enter _ _ m' => m' = m
  | .round _ _ _ _ _ _ m' => m' = m
  | _ => True

section
variable {m : Mem}
theorem K_outOf (why : String) (e : Except (Option Value) Value) : OutK m (outOf m why e) := by
  unfold outOf
  try simp only [Bool.cond_eq_ite]
  repeat' split
  all_goals first
    | exact trivial
    | exact Keeps.refl _
    | exact Keeps.new
    | exact Keeps.put_new
    | exact rfl
    | skip
theorem K_pureOp (P : Program) (s : Sem Value) (why : String) : OutK m (pureOp P s m why) := K_outOf _ _
theorem K_nilDeref (P : Program) : OutK m (nilDeref P m) := Keeps.refl _
theorem K_lits1 (P : Program) (f : Value → Sem Value) (o : Option Value) : OutK m (lits1 P m f o) := by
  unfold lits1
  try simp only [Bool.cond_eq_ite]
  repeat' split
  all_goals first
    | exact trivial
    | exact Keeps.refl _
    | exact Keeps.new
    | exact Keeps.put_new
    | exact rfl
    | exact K_pureOp _ _ _
    | skip
theorem K_lits2 (P : Program) (f : Value → Value → Sem Value) (o q : Option Value) : OutK m (lits2 P m f o q) := by
  unfold lits2
  try simp only [Bool.cond_eq_ite]
  repeat' split
  all_goals first
    | exact trivial
    | exact Keeps.refl _
    | exact Keeps.new
    | exact Keeps.put_new
    | exact rfl
    | exact K_pureOp _ _ _
    | skip
theorem K_litsOp (P : Program) (f : Array Value → Sem Value) (why : String) (o : Option (List Value)) : OutK m (litsOp P m f why o) := by
  unfold litsOp
  try simp only [Bool.cond_eq_ite]
  repeat' split
  all_goals first
    | exact trivial
    | exact Keeps.refl _
    | exact Keeps.new
    | exact Keeps.put_new
    | exact rfl
    | exact K_pureOp _ _ _
    | skip
theorem K_poisonRow (r p n : Nat) : Keeps m (poisonRow m r p n) := by
  unfold poisonRow poisonAt
  try simp only [Bool.cond_eq_ite]
  repeat' split
  all_goals first
    | exact Keeps.refl _
    | exact Keeps.put_new
theorem K_poisonRows (but p n : Nat) : ∀ (rs : List Nat) (m : Mem), Keeps m (poisonRows rs but p n m) := by
  intro rs
  induction rs with
  | nil => intro m; exact Keeps.refl _
  | cons q rs ih =>
    intro m
    rw [poisonRows_cons]
    cases q.beq but with
    | true => exact ih m
    | false => exact (K_poisonRow q p n).trans (ih _)
theorem K_addFam (f : Nat) (l : List Nat) : Keeps m (addFam f l m) := by
  obtain ⟨h, n, fs, lo, d⟩ := m
  exact ⟨rfl, Nat.le_refl _, fun e => e, fun _ _ _ _ => rfl⟩
theorem K_spoil (r p n : Nat) (l : Option (List Nat)) : Keeps m (spoil r p n m l) := by
  cases l with
  | none => exact Keeps.refl _
  | some l => exact K_poisonRows _ _ _ _ _
theorem K_storeCells {r off : Nat} {vs : List AVal} {m' : Mem} (e : Abs.storeCells m r off vs = some m') : Keeps m m' := by
  unfold Abs.storeCells at e
  split at e
  · cases ha : allCells vs with
    | false => rw [ha] at e; cases e
    | true =>
      rw [ha, cond_true] at e
      unfold storeIn at e
      split at e
      · cases e
      · cases e
        exact Keeps.put_new.trans (K_spoil _ _ _ _)
  · cases e
theorem K_appGrow (elem : TypeId) (r off n k size : Nat) (cs : List AVal) (o : Option AObj) (q : Option (List AVal)) : OutK m (appGrow m elem r off n k size cs o q) := by
  unfold appGrow
  try simp only [Bool.cond_eq_ite]
  repeat' split
  all_goals first
    | exact trivial
    | exact ((K_poisonRows _ _ _ _ _).trans (K_addFam _ _)).trans Keeps.new
theorem K_newRow (e : Elem) (cells : List AVal) : Keeps m (Abs.newRow m e cells) := Keeps.new
theorem K_appCopy (elem : TypeId) (n k size : Nat) (cs : List AVal) (o : Option (List AVal)) : OutK m (appCopy m elem n k size cs o) := by
  unfold appCopy
  try simp only [Bool.cond_eq_ite]
  repeat' split
  all_goals first
    | exact trivial
    | exact Keeps.refl _
    | exact Keeps.new
    | exact Keeps.put_new
    | exact rfl
    | exact K_newRow _ _
    | skip
theorem K_appAt (elem : TypeId) (size r off n c k : Nat) (ex : Bool) (cs : List AVal) : OutK m (appAt m elem size r off n c k ex cs) := by
  unfold appAt
  try simp only [Bool.cond_eq_ite]
  repeat' split
  all_goals first
    | exact trivial
    | exact Keeps.refl _
    | exact Keeps.new
    | exact Keeps.put_new
    | exact rfl
    | (rename_i hst; exact K_storeCells hst)
    | exact K_appCopy _ _ _ _ _ _
    | exact K_appGrow _ _ _ _ _ _ _ _ _
    | skip
theorem K_appNil (elem : TypeId) (size : Nat) (cs : List AVal) (k : Nat) : OutK m (appNil m elem size cs k) := by
  unfold appNil
  try simp only [Bool.cond_eq_ite]
  repeat' split
  all_goals first
    | exact trivial
    | exact Keeps.refl _
    | exact Keeps.new
    | exact Keeps.put_new
    | exact rfl
    | exact K_newRow _ _
    | skip
theorem K_appWith (elem : TypeId) (size : Nat) (s : AVal) (o : Option (List AVal × Nat)) : OutK m (appWith m elem size s o) := by
  unfold appWith
  try simp only [Bool.cond_eq_ite]
  repeat' split
  all_goals first
    | exact trivial
    | exact Keeps.refl _
    | exact Keeps.new
    | exact Keeps.put_new
    | exact rfl
    | exact K_appNil _ _ _ _
    | exact K_appAt _ _ _ _ _ _ _ _ _
    | skip
theorem K_appendOp (P : Program) (s x : AVal) (o : Option (TypeId × Nat)) : OutK m (appendOp P m s x o) := by
  unfold appendOp
  try simp only [Bool.cond_eq_ite]
  repeat' split
  all_goals first
    | exact trivial
    | exact Keeps.refl _
    | exact Keeps.new
    | exact Keeps.put_new
    | exact rfl
    | exact K_appWith _ _ _ _
    | skip
theorem K_lenMap (o : Option AObj) : OutK m (lenMap m o) := by
  unfold lenMap
  try simp only [Bool.cond_eq_ite]
  repeat' split
  all_goals first
    | exact trivial
    | exact Keeps.refl _
    | exact Keeps.new
    | exact Keeps.put_new
    | exact rfl
    | skip
theorem K_lenStr (x : AVal) : OutK m (lenStr m x) := by
  unfold lenStr
  try simp only [Bool.cond_eq_ite]
  repeat' split
  all_goals first
    | exact trivial
    | exact Keeps.refl _
    | exact Keeps.new
    | exact Keeps.put_new
    | exact rfl
    | skip
theorem K_lenSl (x : AVal) : OutK m (lenSl m x) := by
  unfold lenSl
  try simp only [Bool.cond_eq_ite]
  repeat' split
  all_goals first
    | exact trivial
    | exact Keeps.refl _
    | exact Keeps.new
    | exact Keeps.put_new
    | exact rfl
    | skip
theorem K_lenMp (x : AVal) : OutK m (lenMp m x) := by
  unfold lenMp
  try simp only [Bool.cond_eq_ite]
  repeat' split
  all_goals first
    | exact trivial
    | exact Keeps.refl _
    | exact Keeps.new
    | exact Keeps.put_new
    | exact rfl
    | exact K_lenMap _
    | skip
theorem K_lenD (x : AVal) (o : Option TypeDesc) : OutK m (lenD m x o) := by
  unfold lenD
  try simp only [Bool.cond_eq_ite]
  repeat' split
  all_goals first
    | exact trivial
    | exact Keeps.refl _
    | exact Keeps.new
    | exact Keeps.put_new
    | exact rfl
    | exact K_lenStr _
    | exact K_lenSl _
    | exact K_lenMp _
    | skip
theorem K_lenOp (P : Program) (x : AVal) (o : Option TypeId) : OutK m (lenOp P m x o) := by
  unfold lenOp
  try simp only [Bool.cond_eq_ite]
  repeat' split
  all_goals first
    | exact trivial
    | exact Keeps.refl _
    | exact Keeps.new
    | exact Keeps.put_new
    | exact rfl
    | exact K_lenD _ _
    | skip
theorem K_copyTo (n : Nat) (d : AVal) (o : Option (List AVal)) : OutK m (copyTo m n d o) := by
  unfold copyTo
  try simp only [Bool.cond_eq_ite]
  repeat' split
  all_goals first
    | exact trivial
    | exact Keeps.refl _
    | exact Keeps.new
    | exact Keeps.put_new
    | exact rfl
    | (rename_i hst; exact K_storeCells hst)
    | skip
theorem K_copyN (size : Nat) (d x : AVal) (o : Option Nat) : OutK m (copyN m size d x o) := by
  unfold copyN
  try simp only [Bool.cond_eq_ite]
  repeat' split
  all_goals first
    | exact trivial
    | exact Keeps.refl _
    | exact Keeps.new
    | exact Keeps.put_new
    | exact rfl
    | exact K_copyTo _ _ _
    | skip
theorem K_copyOp (d x : AVal) (o : Option (TypeId × Nat)) : OutK m (copyOp m d x o) := by
  unfold copyOp
  try simp only [Bool.cond_eq_ite]
  repeat' split
  all_goals first
    | exact trivial
    | exact Keeps.refl _
    | exact Keeps.new
    | exact Keeps.put_new
    | exact rfl
    | exact K_copyN _ _ _ _
    | skip
theorem K_delAt (r : Nat) (es : List AEnt) (clock : Nat) (o : Option (Option Nat)) : OutK m (delAt m r es clock o) := by
  unfold delAt
  try simp only [Bool.cond_eq_ite]
  repeat' split
  all_goals first
    | exact trivial
    | exact Keeps.refl _
    | exact Keeps.new
    | exact Keeps.put_new
    | exact rfl
    | skip
theorem K_delOp (P : Program) (r : Nat) (o : Option AObj) (k : Option Value) (t : Option (TypeId × TypeId)) : OutK m (delOp P m r o k t) := by
  unfold delOp
  try simp only [Bool.cond_eq_ite]
  repeat' split
  all_goals first
    | exact trivial
    | exact Keeps.refl _
    | exact Keeps.new
    | exact Keeps.put_new
    | exact rfl
    | exact K_delAt _ _ _ _
    | skip
theorem K_deleteOp (P : Program) (kt : Option (TypeId × TypeId)) (k x : AVal) : OutK m (deleteOp P m kt k x) := by
  unfold deleteOp
  try simp only [Bool.cond_eq_ite]
  repeat' split
  all_goals first
    | exact trivial
    | exact Keeps.refl _
    | exact Keeps.new
    | exact Keeps.put_new
    | exact rfl
    | exact K_delOp _ _ _ _ _
    | skip
theorem K_builtin1 (P : Program) (b : Builtin) (ats : Array TypeId) (x : AVal) : OutK m (builtin1 P b ats x m) := by
  unfold builtin1
  try simp only [Bool.cond_eq_ite]
  repeat' split
  all_goals first
    | exact trivial
    | exact Keeps.refl _
    | exact Keeps.new
    | exact Keeps.put_new
    | exact rfl
    | exact K_lenOp _ _ _
    | skip
theorem K_builtin2 (P : Program) (b : Builtin) (ats : Array TypeId) (x y : AVal) : OutK m (builtin2 P b ats x y m) := by
  unfold builtin2
  try simp only [Bool.cond_eq_ite]
  repeat' split
  all_goals first
    | exact trivial
    | exact Keeps.refl _
    | exact Keeps.new
    | exact Keeps.put_new
    | exact rfl
    | exact K_appendOp _ _ _ _
    | exact K_copyOp _ _ _
    | exact K_deleteOp _ _ _ _
    | exact K_litsOp _ _ _ _
    | skip
theorem K_builtinOp (P : Program) (b : Builtin) (ats : Array TypeId) (args : List AVal) : OutK m (builtinOp P b ats args m) := by
  unfold builtinOp
  try simp only [Bool.cond_eq_ite]
  repeat' split
  all_goals first
    | exact trivial
    | exact Keeps.refl _
    | exact Keeps.new
    | exact Keeps.put_new
    | exact rfl
    | exact K_builtin1 _ _ _ _
    | exact K_builtin2 _ _ _ _ _
    | skip
theorem K_calledM (args : List AVal) (o : Option (FuncId × AVal)) : OutK m (calledM args m o) := by
  unfold calledM
  try simp only [Bool.cond_eq_ite]
  repeat' split
  all_goals first
    | exact trivial
    | exact Keeps.refl _
    | exact Keeps.new
    | exact Keeps.put_new
    | exact rfl
    | skip
theorem K_methodCall (P : Program) (name : String) (args : List AVal) (x : AVal) : OutK m (methodCall P name args m x) := by
  unfold methodCall
  try simp only [Bool.cond_eq_ite]
  repeat' split
  all_goals first
    | exact trivial
    | exact Keeps.refl _
    | exact Keeps.new
    | exact Keeps.put_new
    | exact rfl
    | exact K_calledM _ _
    | exact K_nilDeref _
    | skip
theorem K_yieldOp (l : Nat) (args : List AVal) : OutK m (yieldOp m l args) := by
  unfold yieldOp
  try simp only [Bool.cond_eq_ite]
  repeat' split
  all_goals first
    | exact trivial
    | exact Keeps.refl _
    | exact Keeps.new
    | exact Keeps.put_new
    | exact rfl
    | skip
theorem K_viaCall (P : Program) (f : FuncId) (pr : Bool) (rest : List AVal) (o : Option (TypeId × AVal)) : OutK m (viaCall P f pr rest m o) := by
  unfold viaCall
  try simp only [Bool.cond_eq_ite]
  repeat' split
  all_goals first
    | exact trivial
    | exact Keeps.refl _
    | exact Keeps.new
    | exact Keeps.put_new
    | exact rfl
    | exact K_calledM _ _
    | skip
theorem K_fnCall (P : Program) (cap args : List AVal) (fn : Fn) : OutK m (fnCall P cap args m fn) := by
  unfold fnCall
  try simp only [Bool.cond_eq_ite]
  repeat' split
  all_goals first
    | exact trivial
    | exact Keeps.refl _
    | exact Keeps.new
    | exact Keeps.put_new
    | exact rfl
    | exact K_methodCall _ _ _ _
    | exact K_viaCall _ _ _ _ _
    | exact K_yieldOp _ _
    | skip
theorem K_callTarget (P : Program) (cap args : List AVal) (t : Target) : OutK m (callTarget P cap args m t) := by
  unfold callTarget
  try simp only [Bool.cond_eq_ite]
  repeat' split
  all_goals first
    | exact trivial
    | exact Keeps.refl _
    | exact Keeps.new
    | exact Keeps.put_new
    | exact rfl
    | exact K_fnCall _ _ _ _
    | exact K_builtinOp _ _ _ _
    | exact K_nilDeref _
    | skip
theorem K_callD (P : Program) (o : Option ADef) : OutK m (callD P m o) := by
  unfold callD
  try simp only [Bool.cond_eq_ite]
  repeat' split
  all_goals first
    | exact trivial
    | exact Keeps.refl _
    | exact Keeps.new
    | exact Keeps.put_new
    | exact rfl
    | exact K_callTarget _ _ _ _
    | skip
theorem K_eqPtr (neq : Bool) (r o q p : Nat) (x : Option Nat) : OutK m (eqPtr neq m r o q p x) := by
  unfold eqPtr
  try simp only [Bool.cond_eq_ite]
  repeat' split
  all_goals first
    | exact trivial
    | exact Keeps.refl _
    | exact Keeps.new
    | exact Keeps.put_new
    | exact rfl
    | skip
theorem K_eqNil (neq : Bool) (k : Nat) (d : Option TypeDesc) : OutK m (eqNil neq m k d) := by
  unfold eqNil
  try simp only [Bool.cond_eq_ite]
  repeat' split
  all_goals first
    | exact trivial
    | exact Keeps.refl _
    | exact Keeps.new
    | exact Keeps.put_new
    | exact rfl
    | skip
theorem K_eqOp (P : Program) (op : BinOp) (neq : Bool) (t : TypeId) (ox oy : Operand) (a b : AVal) : OutK m (eqOp P op neq t ox oy a b m) := by
  unfold eqOp
  try simp only [Bool.cond_eq_ite]
  repeat' split
  all_goals first
    | exact trivial
    | exact Keeps.refl _
    | exact Keeps.new
    | exact Keeps.put_new
    | exact rfl
    | exact K_lits2 _ _ _ _
    | exact K_eqPtr _ _ _ _ _ _
    | exact K_eqNil _ _ _
    | skip
theorem K_binOpA (P : Program) (op : BinOp) (t : TypeId) (ox oy : Operand) (a b : AVal) : OutK m (binOpA P op t ox oy a b m) := by
  unfold binOpA
  try simp only [Bool.cond_eq_ite]
  repeat' split
  all_goals first
    | exact trivial
    | exact Keeps.refl _
    | exact Keeps.new
    | exact Keeps.put_new
    | exact rfl
    | exact K_eqOp _ _ _ _ _ _ _ _
    | exact K_lits2 _ _ _ _
    | skip
theorem K_sliceOpen (r off n c size : Nat) (o : Option AObj) : OutK m (sliceOpen m r off n c size o) := by
  unfold sliceOpen
  try simp only [Bool.cond_eq_ite]
  repeat' split
  all_goals first
    | exact trivial
    | exact Keeps.refl _
    | exact Keeps.new
    | exact Keeps.put_new
    | exact rfl
    | skip
theorem K_sliceAt (r off c size : Nat) (ex ex' : Bool) (a b d : Option Nat) : OutK m (sliceAt m r off c size ex ex' a b d) := by
  unfold sliceAt
  try simp only [Bool.cond_eq_ite]
  repeat' split
  all_goals first
    | exact trivial
    | exact Keeps.refl _
    | exact Keeps.new
    | exact Keeps.put_new
    | exact rfl
    | exact K_sliceOpen _ _ _ _ _ _
    | skip
theorem K_sliceStr (s : ByteArray) (a b : Option Nat) : OutK m (sliceStr m s a b) := by
  unfold sliceStr
  try simp only [Bool.cond_eq_ite]
  repeat' split
  all_goals first
    | exact trivial
    | exact Keeps.refl _
    | exact Keeps.new
    | exact Keeps.put_new
    | exact rfl
    | skip
theorem K_sliceNil (P : Program) (t : TypeId) (a b c : Option Nat) : OutK m (sliceNil P t m a b c) := by
  unfold sliceNil
  try simp only [Bool.cond_eq_ite]
  repeat' split
  all_goals first
    | exact trivial
    | exact Keeps.refl _
    | exact Keeps.new
    | exact Keeps.put_new
    | exact rfl
    | skip
theorem K_sliceArr (P : Program) (r off : Nat) (lo hi mx : Option AVal) (d : Option TypeDesc) : OutK m (sliceArr P m r off lo hi mx d) := by
  unfold sliceArr
  try simp only [Bool.cond_eq_ite]
  repeat' split
  all_goals first
    | exact trivial
    | exact Keeps.refl _
    | exact Keeps.new
    | exact Keeps.put_new
    | exact rfl
    | exact K_sliceAt _ _ _ _ _ _ _ _ _
    | skip
theorem K_sliceGo (P : Program) (t : TypeId) (lo hi mx : Option AVal) (v : AVal) : OutK m (sliceGo P t lo hi mx m v) := by
  unfold sliceGo
  try simp only [Bool.cond_eq_ite]
  repeat' split
  all_goals first
    | exact trivial
    | exact Keeps.refl _
    | exact Keeps.new
    | exact Keeps.put_new
    | exact rfl
    | exact K_sliceStr _ _ _
    | exact K_sliceNil _ _ _ _ _
    | exact K_sliceAt _ _ _ _ _ _ _ _ _
    | exact K_sliceArr _ _ _ _ _ _ _
    | skip
theorem K_sliceOp (P : Program) (t : TypeId) (lo hi mx : Option AVal) (v : AVal) : OutK m (sliceOp P t lo hi mx m v) := by
  unfold sliceOp
  try simp only [Bool.cond_eq_ite]
  repeat' split
  all_goals first
    | exact trivial
    | exact Keeps.refl _
    | exact Keeps.new
    | exact Keeps.put_new
    | exact rfl
    | exact K_sliceGo _ _ _ _ _ _
    | skip
theorem K_boundsPanic (P : Program) : OutK m (Abs.boundsPanic P m) := Keeps.refl _
theorem K_ixAt (P : Program) (r off size n : Nat) (i : Int) : OutK m (ixAt P m r off size n i) := by
  unfold ixAt
  try simp only [Bool.cond_eq_ite]
  repeat' split
  all_goals first
    | exact trivial
    | exact Keeps.refl _
    | exact Keeps.new
    | exact Keeps.put_new
    | exact rfl
    | exact K_boundsPanic _
    | skip
theorem K_indexAddr (P : Program) (t : TypeId) (i : Int) (x : AVal) : OutK m (indexAddr P t m i x) := by
  unfold indexAddr
  try simp only [Bool.cond_eq_ite]
  repeat' split
  all_goals first
    | exact trivial
    | exact Keeps.refl _
    | exact Keeps.new
    | exact Keeps.put_new
    | exact rfl
    | exact K_boundsPanic _
    | exact K_ixAt _ _ _ _ _ _
    | skip
theorem K_ixStr (P : Program) (s : ByteArray) (i : Int) : OutK m (ixStr P m s i) := by
  unfold ixStr
  try simp only [Bool.cond_eq_ite]
  repeat' split
  all_goals first
    | exact trivial
    | exact Keeps.refl _
    | exact Keeps.new
    | exact Keeps.put_new
    | exact rfl
    | exact K_boundsPanic _
    | skip
theorem K_ixPart (P : Program) (v : AVal) (e : TypeId) (j : Nat) (o : Option Nat) : OutK m (ixPart P m v e j o) := by
  unfold ixPart
  try simp only [Bool.cond_eq_ite]
  repeat' split
  all_goals first
    | exact trivial
    | exact Keeps.refl _
    | exact Keeps.new
    | exact Keeps.put_new
    | exact rfl
    | skip
theorem K_ixArr (P : Program) (v : AVal) (i : Int) (d : Option TypeDesc) : OutK m (ixArr P m v i d) := by
  unfold ixArr
  try simp only [Bool.cond_eq_ite]
  repeat' split
  all_goals first
    | exact trivial
    | exact Keeps.refl _
    | exact Keeps.new
    | exact Keeps.put_new
    | exact rfl
    | exact K_boundsPanic _
    | exact K_ixPart _ _ _ _ _
    | skip
theorem K_indexOp (P : Program) (t : TypeId) (i : Int) (x : AVal) : OutK m (indexOp P t m i x) := by
  unfold indexOp
  try simp only [Bool.cond_eq_ite]
  repeat' split
  all_goals first
    | exact trivial
    | exact Keeps.refl _
    | exact Keeps.new
    | exact Keeps.put_new
    | exact rfl
    | exact K_ixStr _ _ _
    | exact K_ixArr _ _ _ _
    | skip
theorem K_taFails (P : Program) (asserted : TypeId) (ok : Bool) : OutK m (taFails P asserted ok m) := by
  unfold taFails
  try simp only [Bool.cond_eq_ite]
  repeat' split
  all_goals first
    | exact trivial
    | exact Keeps.refl _
    | exact Keeps.new
    | exact Keeps.put_new
    | exact rfl
    | skip
theorem K_taHolds (ok : Bool) (v : AVal) : OutK m (taHolds ok v m) := Keeps.refl _
theorem K_taWith (P : Program) (asserted : TypeId) (ok : Bool) (x v : AVal) (o : Option Bool) : OutK m (taWith P asserted ok x v m o) := by
  unfold taWith
  try simp only [Bool.cond_eq_ite]
  repeat' split
  all_goals first
    | exact trivial
    | exact Keeps.refl _
    | exact Keeps.new
    | exact Keeps.put_new
    | exact rfl
    | exact K_taHolds _ _
    | exact K_taFails _ _ _
    | skip
theorem K_typeAssert (P : Program) (asserted : TypeId) (ok : Bool) (x : AVal) : OutK m (typeAssert P asserted ok m x) := by
  unfold typeAssert
  try simp only [Bool.cond_eq_ite]
  repeat' split
  all_goals first
    | exact trivial
    | exact Keeps.refl _
    | exact Keeps.new
    | exact Keeps.put_new
    | exact rfl
    | exact K_taFails _ _ _
    | exact K_taWith _ _ _ _ _ _
    | skip
theorem K_buildWith (o : Option (List AVal)) : OutK m (buildWith m o) := by
  unfold buildWith
  try simp only [Bool.cond_eq_ite]
  repeat' split
  all_goals first
    | exact trivial
    | exact Keeps.refl _
    | exact Keeps.new
    | exact Keeps.put_new
    | exact rfl
    | skip
theorem K_buildPl (parts : List (Nat × AVal)) (z : List AVal) (o : Option (List (Nat × Nat))) : OutK m (buildPl parts m z o) := by
  unfold buildPl
  try simp only [Bool.cond_eq_ite]
  repeat' split
  all_goals first
    | exact trivial
    | exact Keeps.refl _
    | exact Keeps.new
    | exact Keeps.put_new
    | exact rfl
    | exact K_buildWith _
    | skip
theorem K_buildArr (parts : List (Nat × AVal)) (z : List AVal) (o : Option Nat) : OutK m (buildArr parts m z o) := by
  unfold buildArr
  try simp only [Bool.cond_eq_ite]
  repeat' split
  all_goals first
    | exact trivial
    | exact Keeps.refl _
    | exact Keeps.new
    | exact Keeps.put_new
    | exact rfl
    | exact K_buildWith _
    | skip
theorem K_buildIn (P : Program) (parts : List (Nat × AVal)) (z : List AVal) (o : Option TypeDesc) : OutK m (buildIn P parts m z o) := by
  unfold buildIn
  try simp only [Bool.cond_eq_ite]
  repeat' split
  all_goals first
    | exact trivial
    | exact Keeps.refl _
    | exact Keeps.new
    | exact Keeps.put_new
    | exact rfl
    | exact K_buildPl _ _ _
    | exact K_buildArr _ _ _
    | skip
theorem K_buildOp (P : Program) (t : TypeId) (parts : List (Nat × AVal)) (o : Option (List AVal)) : OutK m (buildOp P t parts m o) := by
  unfold buildOp
  try simp only [Bool.cond_eq_ite]
  repeat' split
  all_goals first
    | exact trivial
    | exact Keeps.refl _
    | exact Keeps.new
    | exact Keeps.put_new
    | exact rfl
    | exact K_buildIn _ _ _ _
    | skip
theorem K_bsWith (e : Elem) (len : Nat) (o : Option (List AVal)) : OutK m (bsWith m e len o) := by
  unfold bsWith
  try simp only [Bool.cond_eq_ite]
  repeat' split
  all_goals first
    | exact trivial
    | exact Keeps.refl _
    | exact Keeps.new
    | exact Keeps.put_new
    | exact rfl
    | exact K_newRow _ _
    | skip
theorem K_buildSlice (P : Program) (len : Nat) (parts : List (Nat × AVal)) (o : Option (TypeId × Nat)) : OutK m (buildSlice P len parts m o) := by
  unfold buildSlice
  try simp only [Bool.cond_eq_ite]
  repeat' split
  all_goals first
    | exact trivial
    | exact Keeps.refl _
    | exact Keeps.new
    | exact Keeps.put_new
    | exact rfl
    | exact K_bsWith _ _ _
    | skip
theorem K_allocOp (t : TypeId) (o : Option (List AVal)) : OutK m (allocOp m t o) := by
  unfold allocOp
  try simp only [Bool.cond_eq_ite]
  repeat' split
  all_goals first
    | exact trivial
    | exact Keeps.refl _
    | exact Keeps.new
    | exact Keeps.put_new
    | exact rfl
    | exact K_newRow _ _
    | skip
theorem K_valO (why : String) (o : Option AVal) : OutK m (valO m why o) := by
  unfold valO
  try simp only [Bool.cond_eq_ite]
  repeat' split
  all_goals first
    | exact trivial
    | exact Keeps.refl _
    | exact Keeps.new
    | exact Keeps.put_new
    | exact rfl
    | skip
theorem K_loadOp (P : Program) (t : TypeId) (x : AVal) : OutK m (loadOp P t m x) := by
  unfold loadOp
  try simp only [Bool.cond_eq_ite]
  repeat' split
  all_goals first
    | exact trivial
    | exact Keeps.refl _
    | exact Keeps.new
    | exact Keeps.put_new
    | exact rfl
    | exact K_valO _ _
    | skip
theorem K_skipO {why : String} {o : Option Mem} (h : ∀ m', o = some m' → Keeps m m') : OutK m (skipO why o) := by
  cases o with
  | none => exact trivial
  | some m' => exact h m' rfl
theorem K_storeAs (r off : Nat) (cs : List AVal) (o : Option Nat) : OutK m (storeAs m r off cs o) := by
  unfold storeAs
  try simp only [Bool.cond_eq_ite]
  repeat' split
  all_goals first
    | exact trivial
    | exact Keeps.refl _
    | exact Keeps.new
    | exact Keeps.put_new
    | exact rfl
    | exact K_skipO fun _ h => K_storeCells h
    | skip
theorem K_storeOp (P : Program) (t : TypeId) (v x : AVal) : OutK m (storeOp P t m v x) := by
  unfold storeOp
  try simp only [Bool.cond_eq_ite]
  repeat' split
  all_goals first
    | exact trivial
    | exact Keeps.refl _
    | exact Keeps.new
    | exact Keeps.put_new
    | exact rfl
    | exact K_storeAs _ _ _ _
    | skip
theorem K_boxOp (t : TypeId) (v : AVal) : OutK m (boxOp m t v) := by
  unfold boxOp
  try simp only [Bool.cond_eq_ite]
  repeat' split
  all_goals first
    | exact trivial
    | exact Keeps.refl _
    | exact Keeps.new
    | exact Keeps.put_new
    | exact rfl
    | exact K_newRow _ _
    | skip
theorem K_nilCheck (P : Program) (v : AVal) : OutK m (nilCheck P m v) := by
  unfold nilCheck
  try simp only [Bool.cond_eq_ite]
  repeat' split
  all_goals first
    | exact trivial
    | exact Keeps.refl _
    | exact Keeps.new
    | exact Keeps.put_new
    | exact rfl
    | exact K_nilDeref _
    | skip
theorem K_bytesStr (o : Option (List Value)) : OutK m (bytesStr m o) := by
  unfold bytesStr
  try simp only [Bool.cond_eq_ite]
  repeat' split
  all_goals first
    | exact trivial
    | exact Keeps.refl _
    | exact Keeps.new
    | exact Keeps.put_new
    | exact rfl
    | skip
theorem K_strBytes (e : TypeId) (v : AVal) : OutK m (strBytes m e v) := by
  unfold strBytes
  try simp only [Bool.cond_eq_ite]
  repeat' split
  all_goals first
    | exact trivial
    | exact Keeps.refl _
    | exact Keeps.new
    | exact Keeps.put_new
    | exact rfl
    | exact K_newRow _ _
    | skip
theorem K_bytesStrOf (v : AVal) : OutK m (bytesStrOf m v) := by
  unfold bytesStrOf
  try simp only [Bool.cond_eq_ite]
  repeat' split
  all_goals first
    | exact trivial
    | exact Keeps.refl _
    | exact Keeps.new
    | exact Keeps.put_new
    | exact rfl
    | exact K_bytesStr _
    | skip
theorem K_convOp (P : Program) (src dst : TypeId) (v : AVal) (a b : Option TypeDesc) : OutK m (convOp P src dst v m a b) := by
  unfold convOp
  try simp only [Bool.cond_eq_ite]
  repeat' split
  all_goals first
    | exact trivial
    | exact Keeps.refl _
    | exact Keeps.new
    | exact Keeps.put_new
    | exact rfl
    | exact K_bytesStrOf _
    | exact K_strBytes _ _
    | exact K_lits1 _ _ _
    | skip
theorem K_makeMapOp (P : Program) (t : TypeId) (o : Option AVal) : OutK m (makeMapOp P m t o) := by
  unfold makeMapOp
  try simp only [Bool.cond_eq_ite]
  repeat' split
  all_goals first
    | exact trivial
    | exact Keeps.refl _
    | exact Keeps.new
    | exact Keeps.put_new
    | exact rfl
    | skip
theorem K_mkIface (t : TypeId) (v : AVal) : OutK m (mkIface t m v) := by
  unfold mkIface
  try simp only [Bool.cond_eq_ite]
  repeat' split
  all_goals first
    | exact trivial
    | exact Keeps.refl _
    | exact Keeps.new
    | exact Keeps.put_new
    | exact rfl
    | skip
theorem K_makeSl (P : Program) (l c : Option Nat) (o : Option (TypeId × Nat)) : OutK m (makeSl P m l c o) := by
  unfold makeSl
  try simp only [Bool.cond_eq_ite]
  repeat' split
  all_goals first
    | exact trivial
    | exact Keeps.refl _
    | exact Keeps.new
    | exact Keeps.put_new
    | exact rfl
    | exact K_newRow _ _
    | skip
theorem K_fieldAddr (f : Option Field) (o : Option Nat) (x : AVal) : OutK m (fieldAddr m f o x) := by
  unfold fieldAddr
  try simp only [Bool.cond_eq_ite]
  repeat' split
  all_goals first
    | exact trivial
    | exact Keeps.refl _
    | exact Keeps.new
    | exact Keeps.put_new
    | exact rfl
    | skip
theorem K_fieldOp (P : Program) (v : AVal) (o : Option Field) : OutK m (fieldOp P m v o) := by
  unfold fieldOp
  try simp only [Bool.cond_eq_ite]
  repeat' split
  all_goals first
    | exact trivial
    | exact Keeps.refl _
    | exact Keeps.new
    | exact Keeps.put_new
    | exact rfl
    | exact K_valO _ _
    | skip
theorem K_luRes (ok : Bool) (z : Value) (o : Option AVal) : OutK m (luRes ok z m o) := by
  unfold luRes
  try simp only [Bool.cond_eq_ite]
  repeat' split
  all_goals first
    | exact trivial
    | exact Keeps.refl _
    | exact Keeps.new
    | exact Keeps.put_new
    | exact rfl
    | skip
theorem K_luAt (ok : Bool) (z : Value) (es : List AEnt) (o : Option (Option Nat)) : OutK m (luAt ok z m es o) := by
  unfold luAt
  try simp only [Bool.cond_eq_ite]
  repeat' split
  all_goals first
    | exact trivial
    | exact Keeps.refl _
    | exact Keeps.new
    | exact Keeps.put_new
    | exact rfl
    | exact K_luRes _ _ _
    | skip
theorem K_luIn (P : Program) (ok : Bool) (k : Value) (kt et : TypeId) (es : List AEnt) (o : Option Value) : OutK m (luIn P ok m k kt et es o) := by
  unfold luIn
  try simp only [Bool.cond_eq_ite]
  repeat' split
  all_goals first
    | exact trivial
    | exact Keeps.refl _
    | exact Keeps.new
    | exact Keeps.put_new
    | exact rfl
    | exact K_luAt _ _ _ _
    | skip
theorem K_lookupOp (P : Program) (ok : Bool) (a : Option (List AEnt)) (b : Option Value) (c : Option (TypeId × TypeId)) : OutK m (lookupOp P ok m a b c) := by
  unfold lookupOp
  try simp only [Bool.cond_eq_ite]
  repeat' split
  all_goals first
    | exact trivial
    | exact Keeps.refl _
    | exact Keeps.new
    | exact Keeps.put_new
    | exact rfl
    | exact K_luIn _ _ _ _ _ _ _
    | skip
theorem K_muSet (r : Nat) (k : Value) (v : AVal) (es : List AEnt) (clock i : Nat) (o : Option AEnt) : OutK m (muSet m r k v es clock i o) := by
  unfold muSet
  try simp only [Bool.cond_eq_ite]
  repeat' split
  all_goals first
    | exact trivial
    | exact Keeps.refl _
    | exact Keeps.new
    | exact Keeps.put_new
    | exact rfl
    | skip
theorem K_muAt (r : Nat) (k : Value) (v : AVal) (es : List AEnt) (clock : Nat) (o : Option (Option Nat)) : OutK m (muAt m r k v es clock o) := by
  unfold muAt
  try simp only [Bool.cond_eq_ite]
  repeat' split
  all_goals first
    | exact trivial
    | exact Keeps.refl _
    | exact Keeps.new
    | exact Keeps.put_new
    | exact rfl
    | exact K_muSet _ _ _ _ _ _ _
    | skip
theorem K_mapPut (P : Program) (r : Nat) (v : AVal) (a : Option AObj) (b : Option Value) (c : Option (TypeId × TypeId)) : OutK m (mapPut P m r v a b c) := by
  unfold mapPut
  try simp only [Bool.cond_eq_ite]
  repeat' split
  all_goals first
    | exact trivial
    | exact Keeps.refl _
    | exact Keeps.new
    | exact Keeps.put_new
    | exact rfl
    | exact K_muAt _ _ _ _ _ _
    | skip
theorem K_mapUpdate (P : Program) (kt : Option (TypeId × TypeId)) (k v x : AVal) : OutK m (mapUpdate P m kt k v x) := by
  unfold mapUpdate
  try simp only [Bool.cond_eq_ite]
  repeat' split
  all_goals first
    | exact trivial
    | exact Keeps.refl _
    | exact Keeps.new
    | exact Keeps.put_new
    | exact rfl
    | exact K_mapPut _ _ _ _ _ _
    | skip
theorem K_rangeMap (q : Nat) (o : Option AObj) : OutK m (rangeMap m q o) := by
  unfold rangeMap
  try simp only [Bool.cond_eq_ite]
  repeat' split
  all_goals first
    | exact trivial
    | exact Keeps.refl _
    | exact Keeps.new
    | exact Keeps.put_new
    | exact rfl
    | skip
theorem K_rangeOp (a b : Bool) (x : AVal) : OutK m (rangeOp m a b x) := by
  unfold rangeOp
  try simp only [Bool.cond_eq_ite]
  repeat' split
  all_goals first
    | exact trivial
    | exact Keeps.refl _
    | exact Keeps.new
    | exact Keeps.put_new
    | exact rfl
    | exact K_rangeMap _ _
    | skip
theorem K_tookE (r q since : Nat) (seen : List Nat) (clock : Nat) (e : AEnt) : OutK m (tookE m r q since seen clock e) := Keeps.put_new
theorem K_nextStr (r : Nat) (s : ByteArray) (pos : Nat) : OutK m (nextStr m r s pos) := by
  unfold nextStr
  try simp only [Bool.cond_eq_ite]
  repeat' split
  all_goals first
    | exact trivial
    | exact Keeps.refl _
    | exact Keeps.new
    | exact Keeps.put_new
    | exact rfl
    | skip
theorem K_entryRes (o : Option AEnt) : OutK m (entryRes m o) := by
  unfold entryRes
  try simp only [Bool.cond_eq_ite]
  repeat' split
  all_goals first
    | exact trivial
    | exact Keeps.refl _
    | exact Keeps.new
    | exact Keeps.put_new
    | exact rfl
    | skip
theorem K_entryIn (stepped : Nat) (a : Option Nat) (b : Option AObj) : OutK m (entryIn m stepped a b) := by
  unfold entryIn
  try simp only [Bool.cond_eq_ite]
  repeat' split
  all_goals first
    | exact trivial
    | exact Keeps.refl _
    | exact Keeps.new
    | exact Keeps.put_new
    | exact rfl
    | exact K_entryRes _
    | skip
theorem K_entryAt (b : Option AObj) : OutK m (entryAt m b) := by
  unfold entryAt
  try simp only [Bool.cond_eq_ite]
  repeat' split
  all_goals first
    | exact trivial
    | exact Keeps.refl _
    | exact Keeps.new
    | exact Keeps.put_new
    | exact rfl
    | exact K_entryIn _ _ _
    | skip
theorem K_entryOp (x : AVal) : OutK m (entryOp m x) := by
  unfold entryOp
  try simp only [Bool.cond_eq_ite]
  repeat' split
  all_goals first
    | exact trivial
    | exact Keeps.refl _
    | exact Keeps.new
    | exact Keeps.put_new
    | exact rfl
    | exact K_entryAt _
    | skip
theorem K_extractOp (ix : Nat) (x : AVal) : OutK m (extractOp ix m x) := by
  unfold extractOp
  try simp only [Bool.cond_eq_ite]
  repeat' split
  all_goals first
    | exact trivial
    | exact Keeps.refl _
    | exact Keeps.new
    | exact Keeps.put_new
    | exact rfl
    | exact K_valO _ _
    | skip
theorem K_panicOp (x : AVal) : OutK m (panicOp m x) := by
  unfold panicOp
  try simp only [Bool.cond_eq_ite]
  repeat' split
  all_goals first
    | exact trivial
    | exact Keeps.refl _
    | exact Keeps.new
    | exact Keeps.put_new
    | exact rfl
    | skip
theorem K_pickOp (a b : AVal) (o : Option Bool) : OutK m (pickOp m a b o) := by
  unfold pickOp
  try simp only [Bool.cond_eq_ite]
  repeat' split
  all_goals first
    | exact trivial
    | exact Keeps.refl _
    | exact Keeps.new
    | exact Keeps.put_new
    | exact rfl
    | skip
theorem K_indexA (P : Program) (t : TypeId) (x : AVal) (o : Option Int) : OutK m (indexA P t m x o) := by
  unfold indexA
  try simp only [Bool.cond_eq_ite]
  repeat' split
  all_goals first
    | exact trivial
    | exact Keeps.refl _
    | exact Keeps.new
    | exact Keeps.put_new
    | exact rfl
    | exact K_indexAddr _ _ _ _
    | skip
theorem K_indexV (P : Program) (t : TypeId) (x : AVal) (o : Option Int) : OutK m (indexV P t m x o) := by
  unfold indexV
  try simp only [Bool.cond_eq_ite]
  repeat' split
  all_goals first
    | exact trivial
    | exact Keeps.refl _
    | exact Keeps.new
    | exact Keeps.put_new
    | exact rfl
    | exact K_indexOp _ _ _ _
    | skip
theorem K_aop (P : Program) (tmps : T AVal) (op : Op) : OutK m (aop P tmps m op) := by
  cases op with
  | move x => exact Keeps.refl _
  | assign x => exact Keeps.refl _
  | pick c a b => exact K_pickOp _ _ _
  | alloc t => exact K_allocOp _ _
  | box t x => exact K_boxOp _ _
  | build t parts => exact K_buildOp _ _ _ _
  | buildSlice t len parts => exact K_buildSlice _ _ _ _
  | load t a => exact K_loadOp _ _ _
  | store t a x => exact K_storeOp _ _ _ _
  | nilCheck x => exact K_nilCheck _ _
  | binOp op t x y _ => exact K_binOpA _ _ _ _ _ _ _
  | unOp op _ x => exact K_lits1 _ _ _
  | convert src dst x => exact K_convOp _ _ _ _ _ _
  | makeInterface t x =>
    show OutK m (bif concreteT (P.underlying t) then mkIface t m (evalT tmps x) else .bad "makeInterface")
    cases concreteT (P.underlying t)
    · exact trivial
    · exact K_mkIface _ _
  | makeFunc fn first captured =>
    show OutK m (bif isYield fn then .bad "makeFunc" else .val (.func fn (mapL (evalT tmps) first.toList) (mapL (evalT tmps) captured.toList)) m)
    cases isYield fn
    · exact Keeps.refl _
    · exact trivial
  | makeMap t r => exact K_makeMapOp _ _ _
  | makeSlice t l c => exact K_makeSl _ _ _ _
  | slice t x lo hi mx => exact K_sliceOp _ _ _ _ _ _
  | fieldAddr s x f => exact K_fieldAddr _ _ _
  | field s x f => exact K_fieldOp _ _ _
  | indexAddr t x ix => exact K_indexA _ _ _ _
  | index t x ix => exact K_indexV _ _ _ _
  | lookup t x k ok => exact K_lookupOp _ _ _ _ _
  | mapUpdate t mp k x => exact K_mapUpdate _ _ _ _ _
  | insert t mp k x => exact K_mapUpdate _ _ _ _ _
  | range t x => exact K_rangeOp _ _ _
  | entry it => exact K_entryOp _
  | typeAssert x t asserted ok => exact K_typeAssert _ _ _ _
  | extract t ix => exact K_extractOp _ _
  | call c => exact K_callD _ _
  | panic x => exact K_panicOp _
  | _ => exact trivial
end
end Go.Abs
