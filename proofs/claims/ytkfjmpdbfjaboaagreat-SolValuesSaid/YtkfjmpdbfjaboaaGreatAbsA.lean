/- An executor whose runs hold in every world: a part of it and of what is proved of it. -/
import GoSem.Step
namespace Go.Abs
open Go
noncomputable section
inductive D4 where
 | q0 | q1 | q2 | q3
inductive T (α : Type) where
 | e
 | n (a b c d : T α) (v : Option α)
def d4 (n : Nat) : D4 := bif n.beq 0 then .q0 else bif n.beq 1 then .q1 else bif n.beq 2 then .q2 else .q3
def bitsF (f : Nat) : Nat → List D4 :=
 Nat.rec (fun _ => []) (fun _ ih k => bif k.beq 0 then [] else d4 ((k.sub 1).mod 4) :: ih ((k.sub 1).div 4)) f
def bits (k : Nat) : List D4 := bitsF k k
def T.getB {α : Type} (t : T α) : List D4 → Option α :=
 T.rec (fun _ => none) (fun _ _ _ _ v ga gb gc gd p => List.rec v (fun x q _ => D4.rec (ga q) (gb q) (gc q) (gd q) x) p) t
def T.setB {α : Type} (x : α) (p : List D4) : T α → T α :=
 List.rec (fun t => T.rec (.n .e .e .e .e (some x)) (fun a b c d _ _ _ _ _ => .n a b c d (some x)) t)
  (fun y _ ih t => T.rec (D4.rec (.n (ih .e) .e .e .e none) (.n .e (ih .e) .e .e none) (.n .e .e (ih .e) .e none) (.n .e .e .e (ih .e) none) y)
   (fun a b c d v _ _ _ _ => D4.rec (.n (ih a) b c d v) (.n a (ih b) c d v) (.n a b (ih c) d v) (.n a b c (ih d) v) y) t) p
def T.get {α : Type} (t : T α) (k : Nat) : Option α := t.getB (bits k)
def T.set {α : Type} (t : T α) (k : Nat) (x : α) : T α := T.setB x (bits k) t
inductive AVal where
 | lit (v : Value)
 | poison
 | ptr (r off : Nat)
 | slice (r off len cap : Nat) (exact : Bool)
 | emptyS
 | map (r : Nat)
 | func (fn : Fn) (first captured : List AVal)
 | yield (l : Nat)
 | iface (t : TypeId) (v : AVal)
 | agg (cells : List AVal)
 | tuple (vs : List AVal)
 deriving Inhabited
structure ADef where
 target : Target
 cap : List AVal
 coll : Option Nat
 args : List AVal
 deriving Inhabited
structure ALoop where
 state : LoopState
 pending : Option Code
 fn : FuncId
 nt : Nat
 tmps : T AVal
 params : List Tmp
 assign : Code
 body : Code
 defers : Nat
structure AEnt where
 key : Value
 val : AVal
 born : Nat
abbrev Elem := TypeId × Nat
inductive AObj where
 | row (elem : Elem) (cells : List AVal) (fam pos : Nat)
 | ro (cells : List AVal)
 | map (entries : List AEnt) (clock : Nat)
 | loop (l : ALoop)
 | deferred (calls : Option (List ADef))
 | mapIter (map : Option Nat) (since : Nat) (seen : List Nat) (stepped : Nat)
 | strIter (s : ByteArray) (pos : Nat)
structure Mem where
 heap : T AObj
 next : Nat
 fams : T (List Nat)
 lo : Nat
 dirty : Bool
 gl : List (Nat × Nat)
abbrev Chain := List (AVal × Bool)
inductive AMode where
 | run
 | returning
 | panicking (chain : Chain)
inductive AItem where
 | code (c : Code)
 | inBlock (id : Nat)
 | inLoop (body : Code)
 | inScope (body : Code)
 | beginRound
structure Env where
 fn : FuncId
 nt : Nat
 dfr : Bool
 roundOf : Option Nat
inductive Out where
 | val (v : AVal) (m : Mem)
 | enter (f : FuncId) (args : List AVal) (m : Mem)
 | round (l : Nat) (f : FuncId) (nt : Nat) (tmps : T AVal) (assign body : Code) (m : Mem)
 | recov
 | panic (v : AVal) (m : Mem)
 | bad (why : String)
inductive RR where
 | ret (v : AVal) (up : Chain) (m : Mem)
 | panicked (c : Chain) (up : Chain) (m : Mem)
 | bad (why : String)
 | alt (a b : RR)
def getT (t : T AVal) (k : Nat) : AVal := match t.get k with | some v => v | none => .poison
def getO {α : Type} (l : List α) : Nat → Option α :=
 List.rec (fun _ => none) (fun x _ ih n => bif n.beq 0 then some x else ih (n.sub 1)) l
def evalT (tmps : T AVal) : Operand → AVal
 | .tmp t => getT tmps t
 | .const v => .lit v
 | .global g => .lit (.pointer (some ⟨g, 0, none⟩))
 | .func f => .lit (.func (.func f) #[] #[])
def mapL {α β : Type} (f : α → β) (l : List α) : List β := List.rec [] (fun x _ ih => f x :: ih) l
def appL {α : Type} (a b : List α) : List α := List.rec b (fun x _ ih => x :: ih) a
def lenL {α : Type} (l : List α) : Nat := List.rec 0 (fun _ _ ih => ih.succ) l
def AVal.cells (v : AVal) : List AVal := match v with
 | .lit (.agg cs) => mapL .lit cs.toList
 | .agg cs => cs
 | v => [v]
mutual
def AVal.toLit : AVal → Option Value
 | .lit v => some v
 | .agg l => (toLits l).map fun vs => .agg vs.toArray
 | .tuple l => (toLits l).map fun vs => .tuple vs.toArray
 | .iface t v => v.toLit.map fun v => .iface t v
 | _ => none
def toLits : List AVal → Option (List Value)
 | [] => some []
 | v :: vs => match v.toLit with
  | some x => (toLits vs).map (x :: ·)
  | none => none
end
def litOf (v : AVal) : Option Value := match v with
 | .lit v => some v
 | v => v.toLit
def bytesEq (a : List UInt8) : List UInt8 → Bool :=
 List.rec (fun b => List.rec true (fun _ _ _ => false) b) (fun x _ ih b => List.rec false (fun y ys _ => bif x.toNat.beq y.toNat then ih ys else false) b) a
mutual
def litEq : Value → Value → Bool
 | .bool a, .bool b => a == b
 | .int _ a, .int _ b => a == b
 | .string a, .string b => bytesEq a.data.toList b.data.toList
 | .agg a, .agg b => litEqs a.toList b.toList
 | .iface t v, .iface u w => t.beq u && litEq v w
 | .nilIface, .nilIface => true
 | _, _ => false
def litEqs : List Value → List Value → Bool
 | [], [] => true
 | a :: x, b :: y => litEq a b && litEqs x y
 | _, _ => false
end
def keyEq (a b : Value) : Bool := match a, b with
 | .string a, .string b => bytesEq a.data.toList b.data.toList
 | .int _ a, .int _ b => a == b
 | a, b => litEq a b
def value? {α : Type} (P : Program) : Sem α → Except (Option Value) α
 | .pure a => .ok a
 | .program k => value? P (k P)
 | .mark _ k => value? P k
 | .halt (.panic v) => .error (some v)
 | _ => .error none
def outOf (m : Mem) (why : String) : Except (Option Value) Value → Out
 | .ok v => .val (.lit v) m
 | .error (some v) => .panic (.lit v) m
 | .error none => .bad why
def pureOp (P : Program) (s : Sem Value) (m : Mem) (why : String) : Out := outOf m why (value? P s)
section
variable (P : Program)
def tsz (t : TypeId) : Option Nat := match P.info? t with | some i => some i.size | none => none
def aggD : TypeDesc → Bool
 | .struct _ => true
 | .array _ _ => true
 | _ => false
def tagg (t : TypeId) : Option Bool := match P.underlying t with | some d => some (aggD d) | none => none
def tzero (t : TypeId) : Option Value := match P.info? t with | some i => i.zero | none => none
def zcells (t : TypeId) : Option (List AVal) := match tzero P t with | some z => some (AVal.lit z).cells | none => none
def sliceElem (t : TypeId) : Option TypeId := match P.underlying t with | some (.slice e) => some e | _ => none
def sizedElem (e : Option TypeId) : Option (TypeId × Nat) := match e with
 | some e => (match tsz P e with | some n => some (e, n) | none => none)
 | none => none
def fieldOf (s : TypeId) (f : Nat) : Option Field := match P.underlying s with | some (.struct fs) => fs[f]? | _ => none
end
def soil (r lo : Nat) (d : Bool) : Bool := bif r.blt lo then true else d
def Mem.put (m : Mem) (r : Nat) (o : AObj) : Mem := match m with | ⟨h, n, f, lo, d, g⟩ => ⟨h.set r o, n, f, lo, soil r lo d, g⟩
def Mem.new (m : Mem) (o : AObj) : Mem := match m with | ⟨h, n, f, lo, d, g⟩ => ⟨h.set n o, n.succ, f, lo, d, g⟩
def newRow (m : Mem) (elem : Elem) (cells : List AVal) : Mem := m.new (.row elem cells m.next 0)
def dropN {α : Type} (xs : List α) (n : Nat) : List α :=
 Nat.rec (fun xs => xs) (fun _ ih xs => List.rec [] (fun _ ys _ => ih ys) xs) n xs
def isPoison : AVal → Bool
 | .poison => true
 | _ => false
def takeN (n : Nat) : List AVal → Option (List AVal) :=
 Nat.rec (fun _ => some []) (fun _ ih xs => List.rec none (fun x ys _ => bif isPoison x then none else (ih ys).map (x :: ·)) xs) n
def readCells (m : Mem) (r off n : Nat) : Option (List AVal) :=
 match m.heap.get r with
 | some (.row _ cells _ _) => takeN n (dropN cells off)
 | some (.ro cells) => takeN n (dropN cells off)
 | _ => none
def sound1 : Option AVal → Option AVal
 | some v => bif isPoison v then none else some v
 | none => none
def read1 (m : Mem) (r off : Nat) : Option AVal :=
 match m.heap.get r with
 | some (.row _ cells _ _) => sound1 (getO cells off)
 | some (.ro cells) => sound1 (getO cells off)
 | _ => none
def aggO : Option (List AVal) → Option AVal
 | some l => some (.agg l)
 | none => none
def loadAs (m : Mem) (r off : Nat) : Option Bool → Option Nat → Option AVal
 | some true, some n => aggO (readCells m r off n)
 | some false, _ => read1 m r off
 | _, _ => none
def loadVar (P : Program) (m : Mem) (t : TypeId) (r off : Nat) : Option AVal := loadAs m r off (tagg P t) (tsz P t)
def put0 (vs : List AVal) : List AVal → Option (List AVal) :=
 List.rec (fun cells => some cells) (fun v _ ih cells => List.rec none (fun _ cs _ => (ih cs).map (v :: ·)) cells) vs
def putCells (vs : List AVal) (off : Nat) (cells : List AVal) : Option (List AVal) :=
 Nat.rec (fun cells => put0 vs cells) (fun _ ih cells => List.rec none (fun x cs _ => (ih cs).map (x :: ·)) cells) off cells
def poison0 (n : Nat) : List AVal → List AVal :=
 Nat.rec (fun xs => xs) (fun _ ih xs => List.rec [] (fun _ ys _ => .poison :: ih ys) xs) n
def poisonL (n : Nat) (a : Nat) (cells : List AVal) : List AVal :=
 Nat.rec (fun xs => poison0 n xs) (fun _ ih xs => List.rec [] (fun x ys _ => x :: ih ys) xs) a cells
def poisonAt (m : Mem) (r : Nat) (p n : Nat) : Option AObj → Mem
 | some (.row e cells f pos) =>
  bif (p.add n).ble pos then m else bif (pos.add (lenL cells)).ble p then m else m.put r (.row e (poisonL ((p.add n).sub (Nat.max p pos)) (p.sub pos) cells) f pos)
 | _ => m
def poisonRow (m : Mem) (r p n : Nat) : Mem := poisonAt m r p n (m.heap.get r)
def poisonRows (rs : List Nat) (but p n : Nat) : Mem → Mem :=
 List.rec (fun m => m) (fun q _ ih m => bif q.beq but then ih m else ih (poisonRow m q p n)) rs
def spoil (r p n : Nat) (m : Mem) : Option (List Nat) → Mem
 | none => m
 | some rs => poisonRows rs r p n m
def storeIn (m : Mem) (r : Nat) (e : Elem) (f pos off n : Nat) : Option (List AVal) → Option Mem
 | none => none
 | some cells => some (spoil r (pos.add off) n (m.put r (.row e cells f pos)) (m.fams.get f))
def isCell : AVal → Bool
 | .lit (.agg _) => false
 | .lit (.tuple _) => false
 | .poison => false
 | .agg _ => false
 | .tuple _ => false
 | _ => true
def allCells (vs : List AVal) : Bool := List.rec true (fun v _ ih => bif isCell v then ih else false) vs
def storeCells (m : Mem) (r off : Nat) (vs : List AVal) : Option Mem :=
 match m.heap.get r with
 | some (.row e cells f pos) => bif allCells vs then storeIn m r e f pos off (lenL vs) (putCells vs off cells) else none
 | _ => none
def rtErr (P : Program) (s : String) : AVal := .lit (.iface P.rt.errorString (strVal s))
def nilDeref (P : Program) (m : Mem) : Out := .panic (rtErr P "invalid memory address or nil pointer dereference") m
def partAs (cs : List AVal) (off : Nat) : Option Bool → Option Nat → Option AVal
 | some true, some n => aggO (takeN n (dropN cs off))
 | some false, _ => sound1 (getO cs off)
 | _, _ => none
def part (P : Program) (t : TypeId) (cs : List AVal) (off : Nat) : Option AVal := partAs cs off (tagg P t) (tsz P t)
def fill1 (ih : List AVal → Option (List AVal)) (v : AVal) (cells : List AVal) (off size : Nat) : Option (List AVal) :=
 bif !(isPoison v) && (lenL v.cells).beq size then (match putCells v.cells off cells with
  | some cells => ih cells
  | none => none) else none
def fillL (place : Nat → Option (Nat × Nat)) (parts : List (Nat × AVal)) : List AVal → Option (List AVal) :=
 List.rec (fun cells => some cells) (fun p _ ih cells => match place p.1 with
  | none => none
  | some q => fill1 ih p.2 cells q.1 q.2) parts
def repL (z : List AVal) (n : Nat) : List AVal := Nat.rec [] (fun _ ih => appL z ih) n
def keyOf (v : AVal) : Option Value := match v with
 | .ptr r o => some (.pointer (some ⟨r, o, none⟩))
 | .lit (.pointer (some _)) => none
 | v => litOf v
def keyBack (v : Value) : AVal := match v with
 | .pointer (some ⟨r, o, none⟩) => .ptr r o
 | v => .lit v
def ptrKey (v : Value) : Option (Nat × Nat) := match v with
 | .pointer (some ⟨r, o, none⟩) => some (r, o)
 | _ => none
def isCellAt (o : Nat) (cells : List AVal) : Bool := match getO cells o with
 | some _ => true
 | none => false
def ownVar (m : Mem) (r o : Nat) : Bool := match m.heap.get r with
 | some (.row e cells f _) => e.2.beq 0 && f.beq r && isCellAt o cells
 | _ => false
def dummies (es : List AEnt) : List MapEntry := mapL (fun e => ⟨e.key, .nilFunc, e.born⟩) es
def findLit (P : Program) (empty : Bool) (kt : TypeId) (k : Value) (es : List MapEntry) : Option (Option Nat) :=
 match value? P (Instr.checkKey empty 10000 kt k) with
 | .ok _ => (match value? P (Instr.findKey kt k es) with
  | .ok (some p) => some (some p.1)
  | .ok none => some none
  | .error _ => none)
 | .error _ => none
def noPtrs (es : List MapEntry) : Bool := List.rec true (fun e _ ih => match ptrKey e.key with | some _ => false | none => ih) es
def ownKeys (m : Mem) (es : List MapEntry) : Bool := List.rec true (fun e _ ih => match ptrKey e.key with | some (r, o) => bif ownVar m r o then ih else false | none => false) es
def findPtr (r o : Nat) (es : List MapEntry) : Nat → Option Nat :=
 List.rec (fun _ => none) (fun e _ ih i => match ptrKey e.key with | some (q, p) => bif q.beq r && p.beq o then some i else ih i.succ | none => ih i.succ) es
def isPtrT (P : Program) (t : TypeId) : Bool := match P.underlying t with
 | some (.pointer e) => (match tsz P e with | some n => !(n.beq 0) | none => false)
 | _ => false
def findIx (P : Program) (m : Mem) (empty : Bool) (kt : TypeId) (k : Value) (es : List MapEntry) : Option (Option Nat) :=
 match ptrKey k with
 | some (r, o) => bif isPtrT P kt && ownVar m r o && ownKeys m es then some (findPtr r o es 0) else none
 | none => bif noPtrs es then findLit P empty kt k es else none
def setEnt (i : Nat) (k : Value) (v : AVal) (es : List AEnt) : List AEnt :=
 Nat.rec (fun es => List.rec [] (fun e rest _ => ⟨k, v, e.born⟩ :: rest) es) (fun _ ih es => List.rec [] (fun e rest _ => e :: ih rest) es) i es
def delEnt (i : Nat) (es : List AEnt) : List AEnt :=
 Nat.rec (fun es => List.rec [] (fun _ rest _ => rest) es) (fun _ ih es => List.rec [] (fun e rest _ => e :: ih rest) es) i es
def isNil {α : Type} (l : List α) : Bool := List.rec true (fun _ _ _ => false) l
def intOf : AVal → Option Int
 | .lit (.int _ n) => some n
 | _ => none
def natOf : AVal → Option Nat
 | .lit (.int _ (.ofNat n)) => some n
 | _ => none
def boolOf : AVal → Option Bool
 | .lit (.bool b) => some b
 | _ => none
def goI (n : Nat) : AVal := .lit (.int .i64 (.ofNat n))
def appNew (size : Nat) (m : Mem) : AVal → Option (List AVal × Nat)
 | .lit (.slice none 0 0) => some ([], 0)
 | .slice r off n _ _ => (match readCells m r off (n.mul size) with | some cs => some (cs, n) | none => none)
 | .emptyS => some ([], 0)
 | .lit (.string s) => bif size.beq 1 then some (mapL (fun b => .lit (.int .u8 (.ofNat b.toNat))) s.data.toList, s.size) else none
 | _ => none
def famOf (m : Mem) (f r : Nat) : List Nat := match m.fams.get f with | some l => l | none => [r]
def addFam (f : Nat) (l : List Nat) (m : Mem) : Mem := match m with | ⟨h, n, fs, lo, d, g⟩ => ⟨h, n, fs.set f (n :: l), lo, d, g⟩
def appGrow (m : Mem) (elem : TypeId) (r off n k size : Nat) (cs : List AVal) : Option AObj → Option (List AVal) → Out
 | some (.row e _ f pos), some old => bif e.1.beq elem && e.2.beq size && allCells cs then
  .val (.slice m.next 0 (n.add k) (n.add k) false) ((addFam f (famOf m f r) (poisonRows (famOf m f r) m.next ((pos.add off).add (n.mul size)) (k.mul size) m)).new (.row (elem, size) (appL old cs) f (pos.add off))) else .bad "append size"
 | _, _ => .bad "append base"
def appCopy (m : Mem) (elem : TypeId) (n k size : Nat) (cs : List AVal) : Option (List AVal) → Out
 | some old => .val (.slice m.next 0 (n.add k) (n.add k) false) (newRow m (elem, size) (appL old cs))
 | none => .bad "append base"
def appAt (m : Mem) (elem : TypeId) (size r off n c k : Nat) (ex : Bool) (cs : List AVal) : Out :=
 bif k.beq 0 && n.ble c then .val (.slice r off n c ex) m else
 bif (n.add k).ble c then (match storeCells m r (off.add (n.mul size)) cs with
  | some m => .val (.slice r off (n.add k) c ex) m
  | none => .bad "append in place")
 else bif ex then appCopy m elem n k size cs (readCells m r off (n.mul size))
 else appGrow m elem r off n k size cs (m.heap.get r) (readCells m r off (n.mul size))
def appNil (m : Mem) (elem : TypeId) (size : Nat) (cs : List AVal) (k : Nat) : Out :=
 bif k.beq 0 then .val (.lit (.slice none 0 0)) m else .val (.slice m.next 0 k k false) (newRow m (elem, size) cs)
def appWith (m : Mem) (elem : TypeId) (size : Nat) (s : AVal) : Option (List AVal × Nat) → Out
 | some (cs, k) => (match s with
  | .lit (.slice none 0 0) => appNil m elem size cs k
  | .slice r off n c ex => appAt m elem size r off n c k ex cs
  | _ => .bad "append to")
 | none => .bad "append what"
def growOK (P : Program) (e : TypeId) (size : Nat) : Bool := match P.info? e with
 | some i => i.bytes.ble 65536 && !(i.bytes.beq 0) && (match i.zero with | some z => (lenL (AVal.lit z).cells).beq size | none => false)
 | none => false
def smallNew : Option (List AVal × Nat) → AVal → Bool
 | some (_, k), .slice _ _ n _ _ => (n.add k).ble 100000
 | some (_, k), _ => k.ble 100000
 | none, _ => false
def notIntD : Option TypeDesc → Bool
 | some (.int _) => false
 | some _ => true
 | none => false
def arg2OK (P : Program) : Option TypeId → Bool
 | some t => notIntD (P.underlying t)
 | none => true
def appendOp (P : Program) (m : Mem) (s x : AVal) : Option (TypeId × Nat) → Out
 | some (e, size) => bif growOK P e size && !(size.beq 0) && smallNew (appNew size m x) s then appWith m e size s (appNew size m x) else .bad "append large"
 | none => .bad "append type"
def isIntO (P : Program) : Option TypeId → Bool
 | some t => (match P.underlying t with | some (.int _) => true | _ => false)
 | none => false
def appZero (m : Mem) (e : TypeId) (size k : Nat) : Option (List AVal) → Out
 | some z => appNil m e size (repL z k) k
 | none => .bad "append of a make"
def appMake (P : Program) (m : Mem) (s : AVal) : Option Nat → Bool → Option (TypeId × Nat) → Out
 | some k, true, some (e, size) => (match s with
  | .lit (.slice none 0 0) => bif growOK P e size && !(size.beq 0) && k.ble 100000 then appZero m e size k (zcells P e) else .bad "append of a make"
  | _ => .bad "append of a make")
 | _, _, _ => .bad "append of a make"
def lenMap (m : Mem) : Option AObj → Out
 | some (.map es _) => .val (goI (lenL es)) m
 | _ => .bad "len map"
def lenStr (m : Mem) : AVal → Out
 | .lit (.string s) => .val (goI s.size) m
 | _ => .bad "len"
def lenSl (m : Mem) : AVal → Out
 | .lit (.slice none n _) => .val (goI n) m
 | .slice _ _ n _ _ => .val (goI n) m
 | .emptyS => .val (goI 0) m
 | _ => .bad "len"
def lenMp (m : Mem) : AVal → Out
 | .lit (.map none) => .val (goI 0) m
 | .map r => lenMap m (m.heap.get r)
 | _ => .bad "len"
def lenD (m : Mem) (x : AVal) : Option TypeDesc → Out
 | some .string => lenStr m x
 | some (.slice _) => lenSl m x
 | some (.map _ _) => lenMp m x
 | some (.array n _) => .val (goI n) m
 | _ => .bad "len"
def capSl (m : Mem) : AVal → Out
 | .lit (.slice none _ n) => .val (goI n) m
 | .slice _ _ _ c true => .val (goI c) m
 | _ => .bad "cap"
def capD (m : Mem) (x : AVal) : Option TypeDesc → Out
 | some (.slice _) => capSl m x
 | _ => .bad "cap"
def capOp (P : Program) (m : Mem) (x : AVal) : Option TypeId → Out
 | some t => capD m x (P.underlying t)
 | none => .bad "cap"
def lenOp (P : Program) (m : Mem) (x : AVal) : Option TypeId → Out
 | some t => lenD m x (P.underlying t)
 | none => .bad "len"
def copyTo (m : Mem) (n : Nat) (d : AVal) : Option (List AVal) → Out
 | none => .bad "copy"
 | some cs => match d with
  | .slice r off _ _ _ => (match storeCells m r off cs with
   | some m => .val (goI n) m
   | none => .bad "copy store")
  | .lit (.slice none 0 0) => .val (goI 0) m
  | _ => .bad "copy"
def sliceLen : AVal → Nat
 | .slice _ _ n _ _ => n
 | _ => 0
def srcLen : AVal → Option Nat
 | .lit (.slice none 0 0) => some 0
 | .lit (.string s) => some s.size
 | .slice _ _ n _ _ => some n
 | .emptyS => some 0
 | _ => none
def copySrc (m : Mem) (k size : Nat) : AVal → Option (List AVal)
 | .lit (.slice none 0 0) => some []
 | .lit (.string s) => some (mapL (fun b => .lit (.int .u8 (.ofNat b.toNat))) (s.data.toList.take k))
 | .slice r off _ _ _ => readCells m r off (k.mul size)
 | .emptyS => some []
 | _ => none
def copyN (m : Mem) (size : Nat) (d x : AVal) : Option Nat → Out
 | some n => copyTo m (Nat.min n (sliceLen d)) d (copySrc m (Nat.min n (sliceLen d)) size x)
 | none => .bad "copy source"
def copyOp (m : Mem) (d x : AVal) : Option (TypeId × Nat) → Out
 | none => .bad "copy type"
 | some (_, size) => copyN m size d x (srcLen x)
def litsOp (P : Program) (m : Mem) (f : Array Value → Sem Value) (why : String) : Option (List Value) → Out
 | some vs => pureOp P (f vs.toArray) m why
 | none => .bad why
def mapKey (P : Program) (t : TypeId) : Option (TypeId × TypeId) := match P.underlying t with | some (.map k e) => some (k, e) | _ => none
def delAt (m : Mem) (r : Nat) (es : List AEnt) (clock : Nat) : Option (Option Nat) → Out
 | some (some i) => .val (.lit (.tuple #[])) (m.put r (.map (delEnt i es) clock))
 | some none => .val (.lit (.tuple #[])) m
 | none => .bad "delete key"
def delOp (P : Program) (m : Mem) (r : Nat) : Option AObj → Option Value → Option (TypeId × TypeId) → Out
 | some (.map es clock), some k, some (kt, _) => delAt m r es clock (findIx P m (isNil es) kt k (dummies es))
 | _, _, _ => .bad "delete"
def deleteOp (P : Program) (m : Mem) (kt : Option (TypeId × TypeId)) (k : AVal) : AVal → Out
 | .map r => delOp P m r (m.heap.get r) (keyOf k) kt
 | _ => .bad "delete"
def clearWith (m : Mem) (n size : Nat) (r off : Nat) : Option (List AVal) → Out
 | some z => bif (lenL z).beq size && !(size.beq 0) then (match storeCells m r off (repL z n) with
  | some m => .val (.lit (.tuple #[])) m
  | none => .bad "clear store") else .bad "clear size"
 | none => .bad "clear type"
def clearOp (P : Program) (m : Mem) (x : AVal) : Option (TypeId × Nat) → Out
 | some (e, size) => (match x with
  | .lit (.slice none _ _) => .val (.lit (.tuple #[])) m
  | .slice r off n _ _ => bif n.beq 0 then .val (.lit (.tuple #[])) m else clearWith m n size r off (zcells P e)
  | _ => .bad "clear")
 | none => .bad "clear type"
def builtin1 (P : Program) (b : Builtin) (ats : Array TypeId) (x : AVal) (m : Mem) : Out :=
 match b with
 | .len => lenOp P m x ats[0]?
 | .cap => capOp P m x ats[0]?
 | .clear => clearOp P m x (sizedElem P ((ats[0]?).bind (sliceElem P)))
 | _ => .bad "builtin1"
def builtin2 (P : Program) (b : Builtin) (ats : Array TypeId) (x y : AVal) (m : Mem) : Out :=
 match b with
 | .append => bif arg2OK P ats[1]? then appendOp P m x y (sizedElem P ((ats[0]?).bind (sliceElem P))) else appMake P m x (natOf y) (isIntO P ats[1]?) (sizedElem P ((ats[0]?).bind (sliceElem P)))
 | .copy => copyOp m x y (sizedElem P ((ats[0]?).bind (sliceElem P)))
 | .delete => deleteOp P m ((ats[0]?).bind (mapKey P)) y x
 | .max => litsOp P m (Go.Builtin.max_ #[] 0) "max" (toLits [x, y])
 | .min => litsOp P m (Go.Builtin.min_ #[] 0) "min" (toLits [x, y])
 | _ => .bad "builtin2"
def builtinOp (P : Program) (b : Builtin) (ats : Array TypeId) (args : List AVal) (m : Mem) : Out :=
 match args with
 | [] => (match b with | .recover => .recov | _ => .bad "builtin0")
 | [x] => builtin1 P b ats x m
 | [x, y] => builtin2 P b ats x y m
 | args => (match b with
  | .max => litsOp P m (Go.Builtin.max_ #[] 0) "max" (toLits args)
  | .min => litsOp P m (Go.Builtin.min_ #[] 0) "min" (toLits args)
  | _ => .bad "builtin")
def isAggV : AVal → Bool
 | .lit (.agg _) => true
 | .agg _ => true
 | _ => false
def cell1 : Option AVal → Option AVal
 | some v => bif isCell v then some v else none
 | none => none
def derefAs (m : Mem) (r off : Nat) : Option Bool → Option Nat → Option AVal
 | some true, some n => bif n.beq 0 then none else aggO (readCells m r off n)
 | some false, some n => bif n.beq 0 then none else cell1 (read1 m r off)
 | _, _ => none
def partAt (cs : List AVal) (off : Nat) : Option Bool → Option Nat → Option AVal
 | some true, some n => bif n.beq 0 then none else aggO (takeN n (dropN cs off))
 | some false, some n => bif n.beq 0 then none else cell1 (sound1 (getO cs off))
 | _, _ => none
def stepF (P : Program) (m : Mem) (f : Field) (deref : Bool) (v : AVal) : Option AVal :=
 match v with
 | .ptr r off => bif deref then derefAs m r (off.add f.offset) (tagg P f.type) (tsz P f.type) else none
 | v => bif !deref && isAggV v then partAt v.cells f.offset (tagg P f.type) (tsz P f.type) else none
def follow (P : Program) (m : Mem) : List FieldStep → TypeId → AVal → Option (TypeId × AVal)
 | [], t, v => some (t, v)
 | s :: rest, _, v => match fieldOf P s.struct s.index with
  | none => none
  | some f => match stepF P m f s.deref v with
   | some w => follow P m rest f.type w
   | none => none
def recvAt (P : Program) (m : Mem) (f : FuncId) (xt : TypeId) (ptrRecv : Bool) (x : AVal) : Option (FuncId × AVal) :=
 match P.underlying xt, ptrRecv with
 | some (.pointer _), true => some (f, x)
 | some (.pointer elem), false => (match x with
  | .ptr r off => (loadVar P m elem r off).map (f, ·)
  | _ => none)
 | some _, false => some (f, x)
 | _, _ => none
def methodRow (P : Program) (t : TypeId) (name : String) : Option Method := (P.info? t).bind fun i => i.methods.find? (·.name == name)
def methodOf (P : Program) (m : Mem) : Nat → TypeId → AVal → String → Option (FuncId × AVal)
 | 0, _, _, _ => none
 | fuel + 1, t, v, name => match methodRow P t name with
  | none => none
  | some mt => match follow P m mt.path.toList t v with
   | none => none
   | some (xt, x) => match mt.func with
    | none => (match x with
     | .iface t' v' => methodOf P m fuel t' v' name
     | .lit (.iface t' v') => methodOf P m fuel t' (.lit v') name
     | _ => none)
    | some (f, pr) => recvAt P m f xt pr x
def enterO (f : FuncId) (args : List AVal) (m : Mem) : Out := .enter f args m
def calledM (args : List AVal) (m : Mem) : Option (FuncId × AVal) → Out
 | some (f, r) => .enter f (r :: args) m
 | none => .bad "method"
def methodCall (P : Program) (name : String) (args : List AVal) (m : Mem) : AVal → Out
 | .iface t v => calledM args m (methodOf P m 8 t v name)
 | .lit (.iface t v) => calledM args m (methodOf P m 8 t (.lit v) name)
 | .lit .nilIface => nilDeref P m
 | _ => .bad "invoke"
def setIn (nt : Nat) (tm : T AVal) (t : Tmp) (v : AVal) : T AVal := bif t.succ.ble nt then tm.set t v else tm
def setMany (nt : Nat) (ts : List Tmp) : List AVal → T AVal → T AVal :=
 List.rec (fun _ tm => tm) (fun t _ ih vs tm => List.rec tm (fun v vs' _ => ih vs' (setIn nt tm t v)) vs) ts
def yieldOp (m : Mem) (l : Nat) (args : List AVal) : Out :=
 match m.heap.get l with
 | some (.loop ⟨_, _, fn, nt, tm, ps, a, b, _⟩) => bif (lenL ps).beq (lenL args) then .round l fn nt (setMany nt ps args tm) a b m else .bad "yield"
 | _ => .bad "yield loop"
def viaCall (P : Program) (f : FuncId) (pr : Bool) (rest : List AVal) (m : Mem) : Option (TypeId × AVal) → Out
 | some (xt, x) => calledM rest m (recvAt P m f xt pr x)
 | none => .bad "via"
def fnCall (P : Program) (cap : List AVal) (args : List AVal) (m : Mem) : Fn → Out
 | .func f => .enter f (appL args cap) m
 | .method name => (match args with | r :: rest => methodCall P name rest m r | [] => .bad "method")
 | .via t path f pr => (match args with | x :: rest => viaCall P f pr rest m (follow P m path.toList t x) | [] => .bad "via")
 | .methodOf t name => (match args with
  | x :: rest => (match P.underlying t with
   | some (.interface _) => methodCall P name rest m x
   | some _ => methodCall P name rest m (.iface t x)
   | none => .bad "methodOf")
  | [] => .bad "methodOf")
 | .yield l => yieldOp m l args
def callTarget (P : Program) (cap args : List AVal) (m : Mem) : Target → Out
 | .fn fn _ => fnCall P cap args m fn
 | .builtin b ats _ _ => builtinOp P b ats args m
 | .nil => nilDeref P m
 | _ => .bad "target"
def isYield : Fn → Bool
 | .yield _ => true
 | _ => false
def fnDef (args : List AVal) : AVal → Option ADef
 | .lit (.func fn first captured) => bif isYield fn then none else some ⟨.fn fn #[], mapL .lit captured.toList, none, appL (mapL .lit first.toList) args⟩
 | .func fn first captured => some ⟨.fn fn #[], captured, none, appL first args⟩
 | .yield l => some ⟨.fn (.yield l) #[], [], none, args⟩
 | .lit .nilFunc => some ⟨.nil, [], none, args⟩
 | _ => none
def resolveC (tmps : T AVal) (c : Call) : Option ADef :=
 match c.callee with
 | .builtin b => some ⟨.builtin b c.argTypes 0 #[], [], none, mapL (evalT tmps) c.args.toList⟩
 | .invoke recv name => some ⟨.fn (.method name) #[], [], none, evalT tmps recv :: mapL (evalT tmps) c.args.toList⟩
 | .value f => fnDef (mapL (evalT tmps) c.args.toList) (evalT tmps f)
def callD (P : Program) (m : Mem) : Option ADef → Out
 | some ⟨t, cap, _, args⟩ => callTarget P cap args m t
 | none => .bad "call"
def eqRes (neq : Bool) (m : Mem) (x : Bool) : Out := .val (.lit (.bool (bif neq then !x else x))) m
def lits2 (P : Program) (m : Mem) (f : Value → Value → Sem Value) : Option Value → Option Value → Out
 | some a, some b => pureOp P (f a b) m "binOp"
 | _, _ => .bad "binOp"
def binF (op : BinOp) (t : TypeId) (ox oy : Operand) (a b : Value) : Sem Value := do eqGuard op t ox oy a b; binOp op t a b
def ptrSize (P : Program) : Option TypeDesc → Option Nat
 | some (.pointer e) => tsz P e
 | _ => none
def eqPtr (neq : Bool) (m : Mem) (r o q p : Nat) : Option Nat → Out
 | some n => bif r.beq q && !(n.beq 0) then eqRes neq m (o.beq p) else .bad "pointer equality"
 | none => .bad "pointer equality"
def descK : Option TypeDesc → Nat
 | some (.pointer _) => 1
 | some (.slice _) => 2
 | some (.map _ _) => 3
 | some (.func _ _ _) => 4
 | some (.interface _) => 5
 | _ => 0
def eqNil (neq : Bool) (m : Mem) (k : Nat) (d : Option TypeDesc) : Out := bif (descK d).beq k then eqRes neq m false else .bad "nil equality"
def eqOp (P : Program) (op : BinOp) (neq : Bool) (t : TypeId) (ox oy : Operand) (a b : AVal) (m : Mem) : Out :=
 match a, b with
 | .lit x, .lit y => lits2 P m (binF op t ox oy) (some x) (some y)
 | .ptr r o, .ptr q p => eqPtr neq m r o q p (ptrSize P (P.underlying t))
 | .ptr _ _, .lit (.pointer none) => eqNil neq m 1 (P.underlying t)
 | .slice .., .lit (.slice none _ _) => eqNil neq m 2 (P.underlying t)
 | .emptyS, .lit (.slice none _ _) => eqNil neq m 2 (P.underlying t)
 | .map .., .lit (.map none) => eqNil neq m 3 (P.underlying t)
 | .func .., .lit .nilFunc => eqNil neq m 4 (P.underlying t)
 | .yield _, .lit .nilFunc => eqNil neq m 4 (P.underlying t)
 | .iface .., .lit .nilIface => eqNil neq m 5 (P.underlying t)
 | .lit .nilIface, .iface .. => eqNil neq m 5 (P.underlying t)
 | a, b => lits2 P m (binF op t ox oy) (litOf a) (litOf b)
def binOpA (P : Program) (op : BinOp) (t : TypeId) (ox oy : Operand) (a b : AVal) (m : Mem) : Out :=
 match op with
 | .eql => eqOp P .eql false t ox oy a b m
 | .neq => eqOp P .neq true t ox oy a b m
 | op => lits2 P m (binF op t ox oy) (litOf a) (litOf b)
def nDef (d : Nat) : Option AVal → Option Nat
 | none => some d
 | some v => natOf v
def sliceOpen (m : Mem) (r off n c size : Nat) : Option AObj → Out
 | some (.row e _ _ _) => bif e.2.beq size then .val (.slice r off n c false) m else .bad "slice size"
 | _ => .bad "slice base"
def sliceAt (m : Mem) (r off c size : Nat) (ex ex' : Bool) : Option Nat → Option Nat → Option Nat → Out
 | some l, some h, some k => bif (l.ble h && h.ble k && k.ble c) then
   bif k.beq l then (bif ex' then .val (.slice r off (h.sub l) (k.sub l) true) m else .val .emptyS m)
   else bif ex' || ex then .val (.slice r (off.add (l.mul size)) (h.sub l) (k.sub l) true) m
   else sliceOpen m r (off.add (l.mul size)) (h.sub l) (k.sub l) size (m.heap.get r) else .bad "slice bounds"
 | _, _, _ => .bad "slice bounds"
def isStrD : Option TypeDesc → Bool
 | some .string => true
 | _ => false
def sliceStr (m : Mem) (s : ByteArray) : Option Nat → Option Nat → Out
 | some l, some h => bif (l.ble h && h.ble s.size) then .val (.lit (.string (s.extract l h))) m else .bad "slice bounds"
 | _, _ => .bad "slice bounds"
def sliceNil (P : Program) (t : TypeId) (m : Mem) : Option Nat → Option Nat → Option Nat → Out
 | some 0, some 0, some 0 => (match sizedElem P (sliceElem P t) with
  | some _ => .val (.lit (.slice none 0 0)) m
  | none => .bad "slice type")
 | _, _, _ => .bad "slice bounds"
def arrOf (P : Program) (t : TypeId) : Option TypeDesc := match P.underlying t with | some (.pointer a) => P.underlying a | d => d
def sliceArr (P : Program) (m : Mem) (r off : Nat) (lo hi mx : Option AVal) : Option TypeDesc → Out
 | some (.array n e) => (match tsz P e with
  | some size => sliceAt m r off n size true true (nDef 0 lo) (nDef n hi) (nDef n mx)
  | none => .bad "slice arr")
 | _ => .bad "slice arr"
def sliceGo (P : Program) (t : TypeId) (lo hi mx : Option AVal) (m : Mem) : AVal → Out
 | .lit (.string s) => bif mx.isSome || !(isStrD (P.underlying t)) then .bad "slice of a string" else sliceStr m s (nDef 0 lo) (nDef s.size hi)
 | .lit (.slice none 0 0) => sliceNil P t m (nDef 0 lo) (nDef 0 hi) (nDef 0 mx)
 | .slice r off n c ex => (match sizedElem P (sliceElem P t) with
  | some (_, size) => sliceAt m r off c size ex (mx.isSome || ex) (nDef 0 lo) (nDef n hi) (nDef c mx)
  | none => .bad "slice type")
 | .ptr r off => sliceArr P m r off lo hi mx (arrOf P t)
 | _ => .bad "slice"
def sliceOp (P : Program) (t : TypeId) (lo hi mx : Option AVal) (m : Mem) (v : AVal) : Out :=
 bif mx.isSome && !hi.isSome then .bad "slice" else sliceGo P t lo hi mx m v
def boundsPanic (P : Program) (m : Mem) : Out :=
 .panic (.iface P.rt.boundsError (.agg [.poison, .poison, .poison, .poison])) m
def ixAt (P : Program) (m : Mem) (r off size n : Nat) : Int → Out
 | .ofNat i => bif (i.succ).ble n then .val (.ptr r (off.add (i.mul size))) m else boundsPanic P m
 | _ => boundsPanic P m
def ixLit (P : Program) (m : Mem) (g off : Nat) (i : Int) : Option TypeDesc → Out
 | some (.array n e) => (match tsz P e with
  | some size => (match i with
   | .ofNat j => bif (j.succ).ble n then .val (.lit (.pointer (some ⟨g, off.add (j.mul size), none⟩))) m else .bad "array bounds"
   | _ => .bad "array bounds")
  | none => .bad "indexAddr")
 | _ => .bad "indexAddr"
def indexAddr (P : Program) (t : TypeId) (m : Mem) (i : Int) : AVal → Out
 | .lit (.pointer (some ⟨g, off, none⟩)) => ixLit P m g off i (P.underlying t)
 | .emptyS => (match sliceElem P t with
  | some _ => boundsPanic P m
  | none => .bad "indexAddr")
 | .slice r off n _ _ => (match sizedElem P (sliceElem P t) with
  | some (_, size) => ixAt P m r off size n i
  | none => .bad "indexAddr")
 | .lit (.slice none 0 0) => (match sliceElem P t with
  | some _ => boundsPanic P m
  | none => .bad "indexAddr")
 | .ptr r off => (match P.underlying t with
  | some (.array n e) => (match tsz P e with
   | some size => (match i with
    | .ofNat j => bif (j.succ).ble n then .val (.ptr r (off.add (j.mul size))) m else .bad "array bounds"
    | _ => .bad "array bounds")
   | none => .bad "indexAddr")
  | _ => .bad "indexAddr")
 | _ => .bad "indexAddr"
def ixStr (P : Program) (m : Mem) (s : ByteArray) : Int → Out
 | .ofNat i => (match getO s.data.toList i with
  | some b => .val (.lit (.int .u8 (.ofNat b.toNat))) m
  | none => boundsPanic P m)
 | _ => boundsPanic P m
def ixPart (P : Program) (m : Mem) (v : AVal) (e : TypeId) (j : Nat) : Option Nat → Out
 | some size => (match part P e v.cells (j.mul size) with | some v => .val v m | none => .bad "index")
 | none => .bad "index"
def ixArr (P : Program) (m : Mem) (v : AVal) (i : Int) : Option TypeDesc → Out
 | some (.array n e) => bif isAggV v then (match i with
  | .ofNat i => bif (i.succ).ble n then ixPart P m v e i (tsz P e) else boundsPanic P m
  | _ => boundsPanic P m) else .bad "index"
 | _ => .bad "index"
def indexOp (P : Program) (t : TypeId) (m : Mem) (i : Int) : AVal → Out
 | .lit (.string s) => bif isStrD (P.underlying t) then ixStr P m s i else .bad "index"
 | v => ixArr P m v i (P.underlying t)
def fitsI (want : Array (String × TypeId)) : Option TypeInfo → Option Bool
 | some i => some (Instr.missingMethod want i.methods).isNone
 | none => none
def fits (P : Program) (asserted t : TypeId) : Option Bool :=
 match P.underlying asserted with
 | some (.interface want) => fitsI want (P.info? t)
 | some _ => some (t.beq asserted)
 | none => none
def isIfaceT (P : Program) (t : TypeId) : Bool := match P.underlying t with | some (.interface _) => true | _ => false
def taFails (P : Program) (asserted : TypeId) (ok : Bool) (m : Mem) : Out :=
 bif ok then (match tzero P asserted with | some z => .val (.tuple [.lit z, .lit (.bool false)]) m | none => .bad "zero") else .bad "assert panics"
def taHolds (ok : Bool) (v : AVal) (m : Mem) : Out := .val (bif ok then .tuple [v, .lit (.bool true)] else v) m
def taWith (P : Program) (asserted : TypeId) (ok : Bool) (x v : AVal) (m : Mem) : Option Bool → Out
 | some true => taHolds ok (bif isIfaceT P asserted then x else v) m
 | some false => taFails P asserted ok m
 | none => .bad "typeAssert"
def typeAssert (P : Program) (asserted : TypeId) (ok : Bool) (m : Mem) (x : AVal) : Out :=
 match x with
 | .lit .nilIface => bif (P.underlying asserted).isSome then taFails P asserted ok m else .bad "typeAssert"
 | .iface t v => taWith P asserted ok x v m (fits P asserted t)
 | .lit (.iface t v) => taWith P asserted ok x (.lit v) m (fits P asserted t)
 | _ => .bad "typeAssert"
def ev2 (tmps : T AVal) : List (Nat × Operand) → List (Nat × AVal) := mapL fun p => (p.1, evalT tmps p.2)
def buildWith (m : Mem) : Option (List AVal) → Out
 | some cs => .val (.agg cs) m
 | none => .bad "build"
def placesOf (P : Program) (fs : List Field) : Option (List (Nat × Nat)) :=
 List.rec (some []) (fun f _ ih => match tsz P f.type, ih with
  | some n, some l => some ((f.offset, n) :: l)
  | _, _ => none) fs
def buildPl (parts : List (Nat × AVal)) (m : Mem) (z : List AVal) : Option (List (Nat × Nat)) → Out
 | some pl => buildWith m (fillL (fun i => getO pl i) parts z)
 | none => .bad "build"
def buildArr (parts : List (Nat × AVal)) (m : Mem) (z : List AVal) : Option Nat → Out
 | some size => buildWith m (fillL (fun i => some (i.mul size, size)) parts z)
 | none => .bad "build"
def buildIn (P : Program) (parts : List (Nat × AVal)) (m : Mem) (z : List AVal) : Option TypeDesc → Out
 | some (.struct fs) => buildPl parts m z (placesOf P fs.toList)
 | some (.array _ e) => buildArr parts m z (tsz P e)
 | _ => .bad "build"
def buildOp (P : Program) (t : TypeId) (parts : List (Nat × AVal)) (m : Mem) : Option (List AVal) → Out
 | some z => buildIn P parts m z (P.underlying t)
 | none => .bad "build"
def bsWith (m : Mem) (e : Elem) (len : Nat) : Option (List AVal) → Out
 | some cs => .val (.slice m.next 0 len len true) (newRow m e cs)
 | none => .bad "buildSlice"
def buildSlice (P : Program) (len : Nat) (parts : List (Nat × AVal)) (m : Mem) : Option (TypeId × Nat) → Out
 | some (e, size) => (match zcells P e with
  | some z => bif (lenL z).beq size && (len.mul size).ble 10000 && !(size.beq 0) then bsWith m (e, size) len (fillL (fun i => some (i.mul size, size)) parts (repL z len)) else .bad "buildSlice"
  | none => .bad "buildSlice")
 | none => .bad "buildSlice"
def allocOp (m : Mem) (t : TypeId) : Option (List AVal) → Out
 | some z => .val (.ptr m.next 0) (newRow m (t, 0) z)
 | none => .bad "alloc"
def valO (m : Mem) (why : String) : Option AVal → Out
 | some v => .val v m
 | none => .bad why
def glAt (g : Nat) (l : List (Nat × Nat)) : Option Nat := List.rec none (fun x _ ih => bif x.1.beq g then some x.2 else ih) l
def loadGl (P : Program) (t : TypeId) (m : Mem) (off : Nat) : Option Nat → Out
 | some r => valO m "load" (loadVar P m t r off)
 | none => .bad "load of a variable"
def loadOp (P : Program) (t : TypeId) (m : Mem) : AVal → Out
 | .ptr r off => valO m "load" (loadVar P m t r off)
 | .lit (.pointer (some ⟨g, off, none⟩)) => loadGl P t m off (glAt g m.gl)
 | _ => .bad "load addr"
def skipO (why : String) : Option Mem → Out
 | some m => .val .poison m
 | none => .bad why
def storeAs (m : Mem) (r off : Nat) (cs : List AVal) : Option Nat → Out
 | some n => bif (lenL cs).beq n then skipO "store" (storeCells m r off cs) else .bad "store size"
 | none => .bad "store type"
def storeOp (P : Program) (t : TypeId) (m : Mem) (v : AVal) : AVal → Out
 | .ptr r off => bif isPoison v then .bad "store poison" else storeAs m r off v.cells (tsz P t)
 | _ => .bad "store addr"
def boxOp (m : Mem) (t : TypeId) (v : AVal) : Out :=
 bif isPoison v then .bad "box poison" else .val (.ptr m.next 0) (newRow m (t, 0) v.cells)
def isMethod : Fn → Bool
 | .method _ => true
 | _ => false
def nilCheck (P : Program) (m : Mem) : AVal → Out
 | .lit (.pointer none) => nilDeref P m
 | .lit .nilIface => nilDeref P m
 | .lit .nilFunc => nilDeref P m
 | .lit (.func fn a b) => bif isMethod fn then .bad "nilCheck method" else .val (.lit (.func fn a b)) m
 | .lit (.iface t v) => .val (.lit (.iface t v)) m
 | .lit (.pointer (some a)) => .val (.lit (.pointer (some a))) m
 | .ptr r off => .val (.ptr r off) m
 | .func fn a b => bif isMethod fn then .bad "nilCheck method" else .val (.func fn a b) m
 | .yield l => .val (.yield l) m
 | .iface t v => .val (.iface t v) m
 | _ => .bad "nilCheck"
def lits1 (P : Program) (m : Mem) (f : Value → Sem Value) : Option Value → Out
 | some a => pureOp P (f a) m "op1"
 | none => .bad "op1"
def byteOf (v : Value) : UInt8 := match v with | .int _ n => UInt8.ofNat n.toNat | _ => 0
def isByte : Value → Bool
 | .int .u8 _ => true
 | _ => false
def allBytes (vs : List Value) : Bool := List.rec true (fun v _ ih => bif isByte v then ih else false) vs
def bytesStr (m : Mem) : Option (List Value) → Out
 | some vs => bif allBytes vs then .val (.lit (.string ⟨(mapL byteOf vs).toArray⟩)) m else .bad "bytes"
 | none => .bad "bytes"
def isU8 (P : Program) (e : TypeId) : Bool := match P.underlying e with
 | some (.int .u8) => true
 | _ => false
def strBytes (m : Mem) (e : TypeId) : AVal → Out
 | .lit (.string s) => .val (.slice m.next 0 s.size s.size false) (newRow m (e, 1) (mapL (fun b => .lit (.int .u8 (.ofNat b.toNat))) s.data.toList))
 | _ => .bad "convert"
def bytesStrOf (m : Mem) : AVal → Out
 | .emptyS => .val (.lit (.string .empty)) m
 | .slice r off n _ _ => bytesStr m ((readCells m r off n).bind toLits)
 | .lit (.slice none 0 0) => .val (.lit (.string .empty)) m
 | _ => .bad "convert"
def convOp (P : Program) (src dst : TypeId) (v : AVal) (m : Mem) : Option TypeDesc → Option TypeDesc → Out
 | some (.slice e), some .string => bif isU8 P e then bytesStrOf m v else .bad "convert"
 | some .string, some (.slice e) => bif isU8 P e then strBytes m e v else .bad "convert"
 | _, _ => lits1 P m (convert src dst) (litOf v)
def concreteT : Option TypeDesc → Bool
 | some (.interface _) => false
 | some _ => true
 | none => false
def makeMapOp (P : Program) (m : Mem) (t : TypeId) : Option AVal → Out
 | none => .val (.map m.next) (m.new (.map [] 0))
 | some v => (match P.underlying t, intOf v with
  | some (.map _ _), some _ => .val (.map m.next) (m.new (.map [] 0))
  | _, _ => .bad "makeMap")
def mkIface (t : TypeId) (m : Mem) : AVal → Out
 | .lit v => .val (.lit (.iface t v)) m
 | v => .val (.iface t v) m
def makeSl (P : Program) (m : Mem) (l c : Option Nat) : Option (TypeId × Nat) → Out
 | some (e, size) => (match l, c, zcells P e with
  | some l, some c, some z => bif (lenL z).beq size && !(size.beq 0) && l.ble c && c.ble 100000 && growOK P e size then .val (.slice m.next 0 l c true) (newRow m (e, size) (repL z c)) else .bad "makeSlice range"
  | _, _, _ => .bad "makeSlice")
 | none => .bad "makeSlice"
def fieldAddr (m : Mem) (f : Option Field) : Option Nat → AVal → Out
 | some size, .ptr r off => (match f with
  | some fd => bif size.beq 0 then .bad "fieldAddr 0" else .val (.ptr r (off.add fd.offset)) m
  | none => .bad "fieldAddr")
 | some size, .lit (.pointer (some ⟨g, off, none⟩)) => (match f with
  | some fd => bif size.beq 0 then .bad "fieldAddr 0" else .val (.lit (.pointer (some ⟨g, off.add fd.offset, none⟩))) m
  | none => .bad "fieldAddr")
 | _, _ => .bad "fieldAddr addr"
def fsize (P : Program) : Option Field → Option Nat
 | some f => tsz P f.type
 | none => none
def fieldOp (P : Program) (m : Mem) (v : AVal) : Option Field → Out
 | some fd => bif isAggV v then valO m "field" (part P fd.type v.cells fd.offset) else .bad "field"
 | none => .bad "field"
def entriesOf (m : Mem) : AVal → Option (List AEnt)
 | .lit (.map none) => some []
 | .map r => (match m.heap.get r with | some (.map es _) => some es | _ => none)
 | _ => none
def luRes (ok : Bool) (z : Value) (m : Mem) : Option AVal → Out
 | some v => .val (bif ok then .tuple [v, .lit (.bool true)] else v) m
 | none => .val (bif ok then .lit (.tuple #[z, .bool false]) else .lit z) m
def luAt (ok : Bool) (z : Value) (m : Mem) (es : List AEnt) : Option (Option Nat) → Out
 | some (some i) => (match getO es i with
  | some e => luRes ok z m (some e.val)
  | none => .bad "lookup")
 | some none => luRes ok z m none
 | none => .bad "lookup key"
def luIn (P : Program) (ok : Bool) (m : Mem) (k : Value) (kt _et : TypeId) (es : List AEnt) : Option Value → Out
 | some z => luAt ok z m es (findIx P m (isNil es) kt k (dummies es))
 | none => .bad "lookup zero"
def lookupOp (P : Program) (ok : Bool) (m : Mem) : Option (List AEnt) → Option Value → Option (TypeId × TypeId) → Out
 | some es, some k, some (kt, et) => luIn P ok m k kt et es (tzero P et)
 | _, _, _ => .bad "lookup"
def keyStays (a b : Value) : Bool := match ptrKey a, ptrKey b with
 | some (r, o), some (q, p) => r.beq q && o.beq p
 | none, none => Instr.sameBits 10000 a b
 | _, _ => false
def muSet (m : Mem) (r : Nat) (k : Value) (v : AVal) (es : List AEnt) (clock i : Nat) : Option AEnt → Out
 | some e => bif keyStays e.key k then .val .poison (m.put r (.map (setEnt i k v es) clock)) else .bad "mapUpdate key"
 | none => .bad "mapUpdate key"
def muAt (m : Mem) (r : Nat) (k : Value) (v : AVal) (es : List AEnt) (clock : Nat) : Option (Option Nat) → Out
 | some (some i) => muSet m r k v es clock i (getO es i)
 | some none => .val .poison (m.put r (.map (appL es [⟨k, v, clock⟩]) clock.succ))
 | none => .bad "mapUpdate key"
def mapPut (P : Program) (m : Mem) (r : Nat) (v : AVal) : Option AObj → Option Value → Option (TypeId × TypeId) → Out
 | some (.map es clock), some k, some (kt, _) => muAt m r k v es clock (findIx P m false kt k (dummies es))
 | _, _, _ => .bad "mapUpdate"
def mapUpdate (P : Program) (m : Mem) (kt : Option (TypeId × TypeId)) (k v : AVal) : AVal → Out
 | .map r => mapPut P m r v (m.heap.get r) (keyOf k) kt
 | _ => .bad "mapUpdate nil"
def rangeMap (m : Mem) (q : Nat) : Option AObj → Out
 | some (.map _ clock) => .val (.ptr m.next 0) (m.new (.mapIter (some q) clock [] clock))
 | _ => .bad "range"
def rangeOp (m : Mem) (str mp : Bool) : AVal → Out
 | .lit (.string s) => bif str then .val (.ptr m.next 0) (m.new (.strIter s 0)) else .bad "range"
 | .lit (.map none) => bif mp then .val (.ptr m.next 0) (m.new (.mapIter none 0 [] 0)) else .bad "range"
 | .map q => bif mp then rangeMap m q (m.heap.get q) else .bad "range"
 | _ => .bad "range"
def hasN (l : List Nat) (k : Nat) : Bool := List.rec false (fun x _ ih => bif x.beq k then true else ih) l
def fltL {α : Type} (p : α → Bool) (l : List α) : List α := List.rec [] (fun x _ ih => bif p x then x :: ih else ih) l
def overV : AVal := .lit (.tuple #[.bool false])
def tookE (m : Mem) (r q since : Nat) (seen : List Nat) (clock : Nat) (e : AEnt) : Out :=
 .val (.tuple [.lit (.bool true), keyBack e.key, e.val]) (m.put r (.mapIter (some q) since (appL seen [e.born]) clock))
inductive Nx where
 | out (o : Out)
 | alts (m : Mem) (r q since : Nat) (seen : List Nat) (clock : Nat) (es : List AEnt)
def nextPick (m : Mem) (r q since : Nat) (seen : List Nat) (clock : Nat) : List AEnt → Nx
 | [] => .out (.val overV m)
 | e :: es => .alts m r q since seen clock (e :: es)
def nextMap (m : Mem) (r q since : Nat) (seen : List Nat) (stepped : Nat) : Option AObj → Nx
 | some (.map es clock) =>
  bif isNil (fltL (fun e => !hasN seen e.born && !(e.born.succ.ble since)) es) && (isNil seen || isNil es || !isNil (fltL (fun e => e.born.succ.ble stepped) es))
  then nextPick m r q since seen clock (fltL (fun e => !hasN seen e.born) es)
  else .out (.bad "next new entries")
 | _ => .out (.bad "next")
def nextStr (m : Mem) (r : Nat) (s : ByteArray) (pos : Nat) : Out :=
 bif (pos.succ).ble s.size then
  .val (.tuple [.lit (.bool true), goI pos, .lit (.int .i32 (Utf8.decode s pos).1)]) (m.put r (.strIter s (pos.add (Utf8.decode s pos).2)))
 else .val overV m
def nextAt (m : Mem) (r : Nat) (str : Bool) : Option AObj → Nx
 | some (.strIter s pos) => bif str then .out (nextStr m r s pos) else .out (.bad "next")
 | some (.mapIter none _ _ _) => bif str then .out (.bad "next") else .out (.val overV m)
 | some (.mapIter (some q) since seen stepped) => bif str then .out (.bad "next") else nextMap m r q since seen stepped (m.heap.get q)
 | _ => .out (.bad "next")
def nextOp (m : Mem) (str : Bool) : AVal → Nx
 | .ptr r 0 => nextAt m r str (m.heap.get r)
 | _ => .out (.bad "next")
def lastO (l : List Nat) : Option Nat := List.rec none (fun x _ ih => some (match ih with | some y => y | none => x)) l
def entFind (b : Nat) (es : List AEnt) : Option AEnt := List.rec none (fun e _ ih => bif e.born.beq b then some e else ih) es
def entryRes (m : Mem) : Option AEnt → Out
 | some e => .val (.tuple [keyBack e.key, e.val]) m
 | none => .bad "entry"
def entryIn (m : Mem) (stepped : Nat) : Option Nat → Option AObj → Out
 | some b, some (.map es clock) => bif clock.beq stepped then entryRes m (entFind b es) else .bad "entry insertion"
 | _, _ => .bad "entry"
def entryAt (m : Mem) : Option AObj → Out
 | some (.mapIter (some q) _ seen stepped) => entryIn m stepped (lastO seen) (m.heap.get q)
 | _ => .bad "entry"
def entryOp (m : Mem) : AVal → Out
 | .ptr r 0 => entryAt m (m.heap.get r)
 | _ => .bad "entry"
def extractOp (ix : Nat) (m : Mem) : AVal → Out
 | .tuple vs => valO m "extract" (getO vs ix)
 | .lit (.tuple vs) => valO m "extract" ((getO vs.toList ix).map .lit)
 | _ => .bad "extract"
def panicOp (m : Mem) : AVal → Out
 | .iface t v => .panic (.iface t v) m
 | .lit (.iface t v) => .panic (.lit (.iface t v)) m
 | _ => .bad "panic"
def pickOp (m : Mem) (a b : AVal) : Option Bool → Out
 | some c => .val (bif c then a else b) m
 | none => .bad "pick"
def indexA (P : Program) (t : TypeId) (m : Mem) (x : AVal) : Option Int → Out
 | some i => indexAddr P t m i x
 | none => .bad "index"
def indexV (P : Program) (t : TypeId) (m : Mem) (x : AVal) : Option Int → Out
 | some i => indexOp P t m i x
 | none => .bad "index"
def aop (P : Program) (tmps : T AVal) (m : Mem) : Op → Out
 | .move x => .val (evalT tmps x) m
 | .assign x => .val (evalT tmps x) m
 | .pick c a b => pickOp m (evalT tmps a) (evalT tmps b) (boolOf (evalT tmps c))
 | .alloc t => allocOp m t (zcells P t)
 | .box t x => boxOp m t (evalT tmps x)
 | .build t parts => buildOp P t (ev2 tmps parts.toList) m (zcells P t)
 | .buildSlice t len parts => buildSlice P len (ev2 tmps parts.toList) m (sizedElem P (sliceElem P t))
 | .load t a => loadOp P t m (evalT tmps a)
 | .store t a x => storeOp P t m (evalT tmps x) (evalT tmps a)
 | .nilCheck x => nilCheck P m (evalT tmps x)
 | .binOp op t x y _ => binOpA P op t x y (evalT tmps x) (evalT tmps y) m
 | .unOp op _ x => lits1 P m (Op.unary op) (litOf (evalT tmps x))
 | .convert src dst x => convOp P src dst (evalT tmps x) m (P.underlying src) (P.underlying dst)
 | .makeInterface t x => bif concreteT (P.underlying t) then mkIface t m (evalT tmps x) else .bad "makeInterface"
 | .makeFunc fn first captured => bif isYield fn then .bad "makeFunc" else .val (.func fn (mapL (evalT tmps) first.toList) (mapL (evalT tmps) captured.toList)) m
 | .makeMap t r => makeMapOp P m t (r.map (evalT tmps))
 | .makeSlice t l c => makeSl P m (natOf (evalT tmps l)) (natOf (evalT tmps c)) (sizedElem P (sliceElem P t))
 | .slice t x lo hi mx => sliceOp P t (lo.map (evalT tmps)) (hi.map (evalT tmps)) (mx.map (evalT tmps)) m (evalT tmps x)
 | .fieldAddr s x f => fieldAddr m (fieldOf P s f) (fsize P (fieldOf P s f)) (evalT tmps x)
 | .field s x f => fieldOp P m (evalT tmps x) (fieldOf P s f)
 | .indexAddr t x ix => indexA P t m (evalT tmps x) (intOf (evalT tmps ix))
 | .index t x ix => indexV P t m (evalT tmps x) (intOf (evalT tmps ix))
 | .lookup t x k ok => lookupOp P ok m (entriesOf m (evalT tmps x)) (keyOf (evalT tmps k)) (mapKey P t)
 | .mapUpdate t mp k x => mapUpdate P m (mapKey P t) (evalT tmps k) (evalT tmps x) (evalT tmps mp)
 | .insert t mp k x => mapUpdate P m (mapKey P t) (evalT tmps k) (evalT tmps x) (evalT tmps mp)
 | .range t x => rangeOp m (isStrD (P.underlying t)) (mapKey P t).isSome (evalT tmps x)
 | .entry it => entryOp m (evalT tmps it)
 | .typeAssert x _ asserted ok => typeAssert P asserted ok m (evalT tmps x)
 | .extract t ix => extractOp ix m (evalT tmps t)
 | .call c => callD P m (resolveC tmps c)
 | .panic x => panicOp m (evalT tmps x)
 | _ => .bad "op"
def ptrNe (P : Program) (m : Mem) (neq : Bool) (t : TypeId) : AVal → AVal → Option Bool
 | .ptr r o, .ptr q p => bif !(r.beq q) && isPtrT P t && ownVar m r o && ownVar m q p then some neq else none
 | _, _ => none
def ptrCmp (P : Program) (tmps : T AVal) (m : Mem) : Op → Option Bool
 | .binOp .eql t x y _ => ptrNe P m false t (evalT tmps x) (evalT tmps y)
 | .binOp .neq t x y _ => ptrNe P m true t (evalT tmps x) (evalT tmps y)
 | _ => none
def orCmp (w : String) (m : Mem) : Option Bool → Out
 | some b => .val (.lit (.bool b)) m
 | none => .bad w
def aop2 (P : Program) (tmps : T AVal) (m : Mem) (op : Op) : Out := match aop P tmps m op with
 | .bad w => orCmp w m (ptrCmp P tmps m op)
 | o => o
def setDst (nt : Nat) (tmps : T AVal) (v : AVal) : Option Tmp → T AVal
 | some d => setIn nt tmps d v
 | none => tmps
def argsT (args : List AVal) (i : Nat) : T AVal → T AVal :=
 List.rec (fun _ t => t) (fun v _ ih i t => ih i.succ (t.set i v)) args i
def exit1 (id : Nat) (k : List AItem) (ih : Option (List AItem)) : AItem → Option (List AItem)
 | .inBlock id' => bif id'.beq id then some k else ih
 | _ => ih
def exitTo (id : Nat) (k : List AItem) : Option (List AItem) := List.rec none (fun x k ih => exit1 id k ih x) k
def goto1 (l : Nat) (k : List AItem) (ih : Option (List AItem)) : AItem → Option (List AItem)
 | .inScope body => (match findLabel body l with
  | some rest => some (.code rest :: .inScope body :: k)
  | none => ih)
 | _ => ih
def gotoIn (l : Nat) (k : List AItem) : Option (List AItem) := List.rec none (fun x k ih => goto1 l k ih x) k
def dstOf (ops : List Oper) (j : Nat) : Option Tmp := (getO ops j).bind (·.dst)
def undefA : AVal := .lit (.tuple #[])
def gdV (want : Bool) : AVal → Option Bool
 | .poison => none
 | .lit (.bool b) => some (b == want)
 | _ => some false
def gd (ops : List Oper) (tmps : T AVal) : Option (Nat × Bool) → Option Bool
 | none => some true
 | some (j, want) => match dstOf ops j with
  | some d => gdV want (getT tmps d)
  | none => some false
def isBit (mask i : Nat) : Bool := (((mask.shiftRight i).mod 2).beq 1)
def orL (l : List Nat) : Nat := List.rec 0 (fun x _ ih => x.lor ih) l
def edgeBits (bs : List Nat) (es : List Edge) : Nat :=
 List.rec 0 (fun e _ ih => bif Region.binds .any e then (((Nat.pow 2 e.on).lor ((match getO bs e.on with | some b => b | none => 0))).lor ih) else ih) es
def beforesFrom (bs : List Nat) (ops : List Oper) : List Nat := match ops with
 | [] => bs
 | o :: rest => beforesFrom (appL bs [edgeBits bs o.after.toList]) rest
def befores (ops : List Oper) : List Nat := beforesFrom [] ops
def okind : Op → Nat
 | .move _ | .assign _ | .pick .. | .build .. | .nilCheck _ | .binOp .. | .unOp .. | .makeInterface .. | .makeFunc .. | .fieldAddr ..
 | .field .. | .indexAddr .. | .index .. | .typeAssert .. | .extract .. => 0
 | .load .. | .lookup .. | .slice .. | .convert .. => 1
 | .alloc _ | .box .. | .buildSlice .. | .makeMap .. | .makeSlice .. => 2
 | .call { callee := .builtin .len, .. } => 1
 | .call { callee := .builtin .max, .. } => 0
 | .call { callee := .builtin .min, .. } => 0
 | _ => 3
structure PItem where
 ix : Nat
 o : Oper
 mask : Nat
 kind : Nat
def opTmps (o : Oper) : List Nat := o.op.operands.toList.filterMap fun | .tmp t => some t | _ => none
inductive PTree where
 | fin
 | light (p : PItem) (rest : PTree)
 | heavy (p : PItem) (rest : PTree)
 | either (a b : PTree)
def readyP (done : Nat) (p : PItem) : Bool := (p.mask.land done).beq p.mask
def growT : Nat → Nat → List PItem → PTree
 | 0, _, _ => .fin
 | f + 1, done, left => match left.find? (fun p => p.kind.blt 3 && readyP done p) with
  | some p => .light p (growT f (done.lor (Nat.pow 2 p.ix)) (left.filter fun q => !(q.ix.beq p.ix)))
  | none => match left.filter (readyP done) with
   | [p] => .heavy p (growT f (done.lor (Nat.pow 2 p.ix)) (left.filter fun q => !(q.ix.beq p.ix)))
   | [p, r] => .either (.heavy p (growT f (done.lor (Nat.pow 2 p.ix)) (left.filter fun q => !(q.ix.beq p.ix)))) (.heavy r (growT f (done.lor (Nat.pow 2 r.ix)) (left.filter fun q => !(q.ix.beq r.ix))))
   | _ => .fin
def items (ops : List Oper) : List PItem := (ops.zip (befores ops)).zipIdx.map fun x => ⟨x.2, x.1.1, x.1.2, okind x.1.1.op⟩
def plan0 (ops : List Oper) : PTree := growT ops.length 0 (items ops)
def headsT : PTree → List Nat
 | .heavy p _ => [p.ix]
 | .either a b => headsT a ++ headsT b
 | _ => []
def fitP (done : Nat) (p : PItem) : Bool := readyP done p && !(isBit done p.ix)
def wholeT (all : List PItem) (done : Nat) (hs : List Nat) : Bool := all.all fun q => isBit done q.ix || !(readyP done q) || hs.contains q.ix
def okT (all : List PItem) (full : Nat) : PTree → Bool → Nat → Bool
 | .fin, _, done => done.beq full
 | .light p r, _, done => fitP done p && p.kind.blt 3 && okT all full r true (done.lor (Nat.pow 2 p.ix))
 | .heavy p r, top, done => fitP done p && okT all full r true (done.lor (Nat.pow 2 p.ix)) && (!top || wholeT all done [p.ix])
 | .either a b, top, done => okT all full a false done && okT all full b false done && ((!top || wholeT all done (headsT a ++ headsT b)) && !(isNil (headsT a ++ headsT b)))
def edgesOK (i : Nat) (ops : List Oper) : Bool := match ops with
 | [] => true
 | o :: rest => o.after.toList.all (fun e => !(Region.binds .any e) || e.on.blt i) &&
  (match o.guard with | none => true | some (j, _) => o.after.toList.any (fun e => e.on.beq j && Region.binds .any e)) && edgesOK i.succ rest
def tmpsOK (bs : List Nat) (all : List (Nat × Oper)) : Bool :=
 all.all fun (j, o) => all.all fun (i, q) => i.beq j || match q.dst with
  | none => true
  | some d => !(o.dst == some d) && (!((opTmps o).contains d) || isBit ((getO bs j).getD 0) i || isBit ((getO bs i).getD 0) j)
def plan (ops : List Oper) : Option PTree :=
 bif okT (items ops) ((Nat.pow 2 ops.length).sub 1) (plan0 ops) true 0 && edgesOK 0 ops && tmpsOK (befores ops) (ops.zipIdx.map fun x => (x.2, x.1)) then some (plan0 ops) else none
mutual
def vEq : Value → Value → Bool
 | .bool a, .bool b => a == b
 | .int j a, .int k b => j == k && a == b
 | .string a, .string b => bytesEq a.data.toList b.data.toList
 | .pointer none, .pointer none => true
 | .slice none a b, .slice none c d => a.beq c && b.beq d
 | .map none, .map none => true
 | .nilFunc, .nilFunc => true
 | .func (.func f) a b, .func (.func g) c d => f.beq g && vEqs a.toList c.toList && vEqs b.toList d.toList
 | .iface t v, .iface u w => t.beq u && vEq v w
 | .nilIface, .nilIface => true
 | .agg a, .agg b => vEqs a.toList b.toList
 | .tuple a, .tuple b => vEqs a.toList b.toList
 | _, _ => false
def vEqs : List Value → List Value → Bool
 | [], [] => true
 | a :: x, b :: y => vEq a b && vEqs x y
 | _, _ => false
end
mutual
def aEq : AVal → AVal → Bool
 | .lit a, .lit b => vEq a b
 | .ptr r o, .ptr q p => r.beq q && o.beq p
 | .slice r o n c x, .slice q p k d y => r.beq q && o.beq p && n.beq k && c.beq d && (x == y)
 | .emptyS, .emptyS => true
 | .map r, .map q => r.beq q
 | .func f a b, .func g c d => decide (f = g) && aEqs a c && aEqs b d
 | .yield l, .yield k => l.beq k
 | .iface t v, .iface u w => t.beq u && aEq v w
 | .agg a, .agg b => aEqs a b
 | .tuple a, .tuple b => aEqs a b
 | _, _ => false
def aEqs : List AVal → List AVal → Bool
 | [], [] => true
 | a :: x, b :: y => aEq a b && aEqs x y
 | _, _ => false
end
structure Ck where
 ix : Nat
 kind : Nat
 op : Op
 tmps : T AVal
 v : AVal
 made : Option AObj
def sameObj : Option AObj → Option AObj → Bool
 | some (.row e cs f p), some (.row e' cs' f' p') => e.1.beq e'.1 && e.2.beq e'.2 && f.beq f' && p.beq p' && aEqs cs cs'
 | some (.map [] c), some (.map [] c') => c.beq c'
 | _, _ => false
def madeAt : AVal → Option Nat
 | .ptr r _ => some r
 | .slice r _ _ _ _ => some r
 | .map r => some r
 | _ => none
def ckVal (v : AVal) (n : Nat) : Out → Bool
 | .val v' m => aEq v v' && m.next.beq n
 | _ => false
def ckOne (P : Program) (m : Mem) (c : Ck) : Bool :=
 bif c.kind.beq 1 then ckVal c.v m.next (aop P c.tmps m c.op) else (match madeAt c.v with
  | some r => sameObj c.made (m.heap.get r)
  | none => false)
def ckAll (P : Program) (mask : Nat) (m : Mem) (cks : List Ck) : Bool :=
 List.rec true (fun c _ ih => bif isBit mask c.ix then ih else bif ckOne P m c then ih else false) cks
def leftCk (mask : Nat) (cks : List Ck) : List Ck := List.rec [] (fun c _ ih => bif isBit mask c.ix then ih else c :: ih) cks
def addCk (tmps : T AVal) (it : PItem) (v : AVal) (m : Mem) (cks : List Ck) : List Ck :=
 match it.kind with
 | 1 => ⟨it.ix, 1, it.o.op, tmps, v, none⟩ :: cks
 | 2 => ⟨it.ix, 2, it.o.op, tmps, v, (madeAt v).bind (m.heap.get ·)⟩ :: cks
 | _ => cks
def poisonDsts (tmps : T AVal) (nt : Nat) (ops : List Oper) : T AVal :=
 List.rec tmps (fun o _ ih => match o.dst with | some d => setIn nt ih d .poison | none => ih) ops
abbrev Run := Env → List AItem → T AVal → List ADef → AMode → Chain → Mem → RR
abbrev Cont := T AVal → List ADef → Chain → Mem → RR
structure Fl where
 l : List Nat
 tb : FuncId → List AVal → Mem → Option Value
 tc : FuncId → List AVal → Mem → Option RR
def T.mapT {α : Type} (g : α → α) (t : T α) : T α := T.rec .e (fun _ _ _ _ v a b c d => .n a b c d (v.map g)) t
def frzO (fams : T (List Nat)) : AObj → AObj
 | .row e cells f p => bif (fams.get f).isNone then .ro cells else .row e cells f p
 | o => o
def frz (m : Mem) : Mem := match m with | ⟨h, n, fs, lo, _, g⟩ => ⟨h.mapT (frzO fs), n, fs, lo, true, g⟩
def zIn (fl : Fl) (f : FuncId) (m : Mem) : Mem := bif hasN fl.l (f.add 1000000) then frz m else m
section
variable (P : Program) (fl : Fl) (rec : Run)
def callBody0 (dfr : Bool) (f : FuncId) (args : List AVal) (up : Chain) (m : Mem) : Option Func → RR
 | some fn => bif (lenL args).ble fn.ntmps then (match fn.body with
  | some c => rec ⟨f, fn.ntmps, dfr, none⟩ [.code c] (argsT args 0 .e) [] .run up m
  | none => .bad "extern") else .bad "arguments"
 | none => .bad "no function"
def watched (m : Mem) : Mem := match m with | ⟨h, n, fs, _, _, g⟩ => ⟨h, n, fs, n, false, g⟩
def litRow (lo : Nat) (e : Elem) : Option AObj → Option (List Value)
 | some (.row e' cells f _) => bif e'.1.beq e.1 && e'.2.beq e.2 && lo.ble f then toLits cells else none
 | _ => none
inductive Kin where
 | none
 | row (r : Nat) (e : Elem) (cells : List Value)
 | bad
def rowKin (lo r : Nat) : Option AObj → Kin
 | some (.row e cells f _) => bif lo.ble r && lo.ble f then (match toLits cells with
  | some vs => .row r e vs
  | Option.none => .bad) else .bad
 | _ => .bad
def kinOf (lo : Nat) (m : Mem) : AVal → Kin
 | .lit _ => .none
 | .poison => .none
 | .slice r _ _ _ _ => rowKin lo r (m.heap.get r)
 | v => (match v.toLit with
  | some _ => .none
  | Option.none => .bad)
def sameKin (lo : Nat) (m : Mem) : Kin → Bool
 | .none => true
 | .row r e cells => (match litRow lo e (m.heap.get r) with
  | some vs => vEqs vs cells
  | Option.none => false)
 | .bad => false
def agrees (lo : Nat) (v : AVal) (kin : Kin) (r : RR) : Bool :=
 RR.rec (fun v' _ m => !m.dirty && (aEq v v' || (isPoison v && isPoison v')) && sameKin lo m kin) (fun _ _ _ => false) (fun _ => false) (fun _ _ a b => a && b) r
def graft (m0 m : Mem) : Kin → Mem
 | .row r e cells => match m0 with | ⟨h, _, fs, lo, d, g⟩ => ⟨h.set r (.row e (mapL .lit cells) r 0), m.next, fs, lo, d, g⟩
 | _ => m0
def goodKin (m : Mem) : Kin → Bool
 | .row r _ _ => r.blt m.next
 | .none => true
 | .bad => false
def firstR (r : RR) : RR := RR.rec (fun v up m => .ret v up m) (fun c up m => .panicked c up m) (fun w => .bad w) (fun _ _ a _ => a) r
def natsEq (a : List Nat) : List Nat → Bool :=
 List.rec (fun b => List.rec true (fun _ _ _ => false) b) (fun x _ ih b => List.rec false (fun y ys _ => bif x.beq y then ih ys else false) b) a
def famEq : Option (List Nat) → Option (List Nat) → Bool
 | some a, some b => natsEq a b
 | none, none => true
 | _, _ => false
def entsEq : List AEnt → List AEnt → Bool
 | [], [] => true
 | a :: x, b :: y => vEq a.key b.key && aEq a.val b.val && a.born.beq b.born && entsEq x y
 | _, _ => false
def keptEq (lo : Nat) (m1 m : Mem) (o : AObj) (o' : Option AObj) : Bool :=
 match o, o' with
 | .row e cs f p, some (.row e' cs' f' p') => e.1.beq e'.1 && e.2.beq e'.2 && f.beq f' && p.beq p' && aEqs cs cs' && famEq (m1.fams.get f) (m.fams.get f) && (lo.ble f || (m1.fams.get f).isSome)
 | .map es c, some (.map es' c') => c.beq c' && entsEq es es'
 | _, _ => false
def isKept : AObj → Bool
 | .row _ _ _ _ => true
 | .map _ _ => true
 | _ => false
def sameAt (lo : Nat) (m1 m : Mem) (r : Nat) : Option AObj → Bool
 | some o => bif isKept o then keptEq lo m1 m o (m.heap.get r) else true
 | none => true
def sameNew (lo : Nat) (m1 m : Mem) (n : Nat) : Bool := Nat.rec true (fun i ih => bif sameAt lo m1 m (lo.add i) (m1.heap.get (lo.add i)) then ih else false) n
def addFams (f : Nat) (fs : T (List Nat)) : Option (List Nat) → T (List Nat)
 | some l => fs.set f l
 | none => fs
def addKept (m1 : Mem) (r : Nat) (m : Mem) : Option AObj → Mem
 | some (.row e cs f p) => (match m with | ⟨h, n, fs, lo, d, g⟩ => ⟨h.set r (.row e cs f p), n, addFams f fs (m1.fams.get f), lo, d, g⟩)
 | some (.map es c) => (match m with | ⟨h, n, fs, lo, d, g⟩ => ⟨h.set r (.map es c), n, fs, lo, d, g⟩)
 | _ => m
def addNew (lo : Nat) (m1 : Mem) (m : Mem) (n : Nat) : Mem := Nat.rec m (fun i ih => addKept m1 (lo.add i) ih (m1.heap.get (lo.add i))) n
def upTo (m : Mem) (n : Nat) : Mem := match m with | ⟨h, _, fs, lo, d, g⟩ => ⟨h, n, fs, lo, d, g⟩
def agreesM (lo : Nat) (v : AVal) (m1 : Mem) (r : RR) : Bool :=
 RR.rec (fun v' _ m => !m.dirty && aEq v v' && m1.next.beq m.next && sameNew lo m1 m (m1.next.sub lo)) (fun _ _ _ => false) (fun _ => false) (fun _ _ a b => a && b) r
def mergeM (m0 : Mem) (r : RR) (v : AVal) (up : Chain) (m : Mem) : RR :=
 bif agreesM m0.next v m r then .ret v up (addNew m0.next m (upTo m0 m.next) (m.next.sub m0.next)) else .bad "the ways part"
def mergeAs (m0 : Mem) (r : RR) : RR → RR
 | .ret v up m => bif goodKin m (kinOf m0.next m v) && agrees m0.next v (kinOf m0.next m v) r then .ret v up (graft m0 m (kinOf m0.next m v)) else mergeM m0 r v up m
 | _ => .bad "merge"
def mergeR (m0 : Mem) (r : RR) : RR := mergeAs m0 r (firstR r)
def callIn (f : FuncId) (args : List AVal) (up : Chain) (m : Mem) (fn : Option Func) : Option RR → RR
 | some r => r
 | none => bif hasN fl.l f then mergeR m (callBody0 rec false f args up (watched m) fn) else callBody0 rec false f args up (zIn fl f m) fn
def callBody (dfr : Bool) (f : FuncId) (args : List AVal) (up : Chain) (m : Mem) (fn : Option Func) : RR :=
 bif dfr then callBody0 rec dfr f args up m fn else match fl.tb f args m with
  | some v => .ret (.lit v) up m
  | none => callIn fl rec f args up m fn (bif isNil up then fl.tc f args m else none)
def gotR (panicked : Chain → Chain → Mem → RR) (nt : Nat) (dst : Option Tmp) (cont : Cont) (tmps : T AVal) (ds : List ADef) (up : Chain) (r : RR) : RR :=
 RR.rec (fun v _ m => cont (setDst nt tmps v dst) ds up m) (fun c _ m => panicked c up m) (fun w => .bad w) (fun _ _ a b => .alt a b) r
def recovR (env : Env) (dst : Option Tmp) (cont : Cont) (tmps : T AVal) (ds : List ADef) (m : Mem) : Chain → RR
 | (v, false) :: older => bif env.dfr then cont (setDst env.nt tmps v dst) ds ((v, true) :: older) m else cont (setDst env.nt tmps (.lit .nilIface) dst) ds ((v, false) :: older) m
 | up => cont (setDst env.nt tmps (.lit .nilIface) dst) ds up m
def extV1 (P : Program) (f : FuncId) : Option (List Value) → Option AVal
 | some vs => (match value? P (callFunc f vs.toArray) with
  | .ok (.value v) => some (.lit v)
  | _ => none)
 | none => none
def extV (P : Program) (fl : Fl) (f : FuncId) (args : List AVal) (m : Mem) : Option AVal := match fl.tb f args m with
 | some _ => none
 | none => match P.funcs[f]? with
  | some fn => bif fn.body.isNone then extV1 P f (toLits args) else none
  | none => none
def enterR (call : RR) (cont : AVal → RR) : Option AVal → RR
 | some v => cont v
 | none => call
def outR (env : Env) (panicked : Chain → Chain → Mem → RR) (dst : Option Tmp) (cont : Cont) (tmps : T AVal) (ds : List ADef) (up : Chain) (m0 : Mem) : Out → RR
 | .val v m => cont (setDst env.nt tmps v dst) ds up m
 | .enter f args m => enterR (gotR panicked env.nt dst cont tmps ds up (callBody fl rec false f args [] m P.funcs[f]?)) (fun v => cont (setDst env.nt tmps v dst) ds up m) (extV P fl f args m)
 | .round l f nt tm a b m => bif (P.funcs[f]?).isSome then gotR panicked env.nt dst cont tmps ds up (rec ⟨f, nt, false, some l⟩ [.code a, .beginRound, .code b] tm [] .run [] m) else .bad "round"
 | .recov => bif env.roundOf.isSome then .bad "recover in a round" else recovR env dst cont tmps ds m0 up
 | .panic v m => panicked [(v, false)] up m
 | .bad w => .bad w
def dferR (env : Env) (cont : Cont) (tmps : T AVal) (ds : List ADef) (up : Chain) (m : Mem) (dst : Option Tmp) : Option ADef → RR
 | some d => (match env.roundOf with
  | none => cont (setDst env.nt tmps .poison dst) (d :: ds) up m
  | some _ => .bad "defer")
 | none => .bad "defer"
def altsR (cont : AEnt → RR) (es : List AEnt) : RR :=
 List.rec (.bad "no entry") (fun e rest ih => bif isNil rest then cont e else .alt (cont e) ih) es
def nextR (env : Env) (panicked : Chain → Chain → Mem → RR) (dst : Option Tmp) (cont : Cont) (tmps : T AVal) (ds : List ADef) (up : Chain) (m0 : Mem) : Nx → RR
 | .out o => outR P fl rec env panicked dst cont tmps ds up m0 o
 | .alts m r q since seen clock es => altsR (fun e => outR P fl rec env panicked dst cont tmps ds up m0 (tookE m r q since seen clock e)) es
def operR (env : Env) (panicked : Chain → Chain → Mem → RR) (dst : Option Tmp) (cont : Cont) (tmps : T AVal) (ds : List ADef) (up : Chain) (m : Mem) : Op → RR
 | .defer c => dferR env cont tmps ds up m dst (resolveC tmps c)
 | .next it s => nextR P fl rec env panicked dst cont tmps ds up m (nextOp m s (evalT tmps it))
 | op => outR P fl rec env panicked dst cont tmps ds up m (aop2 P tmps m op)
def regionGo (env : Env) (all : List Oper) (k : List AItem) (ops : List Oper) : Cont :=
 List.rec (fun tmps ds up m => rec env k tmps ds .run up m)
  (fun o _ ih tmps ds up m => match gd all tmps o.guard with
   | some true => operR P fl rec env (fun c up m => rec env k tmps ds (.panicking c) up m) o.dst ih tmps ds up m o.op
   | some false => ih (setDst env.nt tmps undefA o.dst) ds up m
   | none => .bad "guard") ops
def lightR (env : Env) (it : PItem) (cont : List Ck → Cont) (cks : List Ck) (tmps : T AVal) (ds : List ADef) (up : Chain) (m0 : Mem) : Out → RR
 | .val v m => bif it.kind.beq 2 || m.next.beq m0.next then cont (addCk tmps it v m cks) (setDst env.nt tmps v it.o.dst) ds up m else .bad "a light operation made something"
 | .bad w => .bad w
 | _ => .bad "a light operation"
def behindR (it : PItem) (cont : List Ck → Cont) (cks : List Ck) : Cont := fun tmps ds up m =>
 bif ckAll P it.mask m cks then cont (leftCk it.mask cks) tmps ds up m else .bad it.o.pos
def drawGo (env : Env) (all : List Oper) (k : List AItem) (tmps0 : T AVal) (t : PTree) : List Ck → Cont :=
 PTree.rec (fun _ tmps ds up m => rec env k tmps ds .run up m)
  (fun it _ ih cks tmps ds up m => match gd all tmps it.o.guard with
   | some true => lightR env it ih cks tmps ds up m (aop P tmps m it.o.op)
   | some false => ih cks (setDst env.nt tmps undefA it.o.dst) ds up m
   | none => .bad "guard")
  (fun it _ ih cks tmps ds up m => match gd all tmps it.o.guard with
   | some true => operR P fl rec env (fun c up m => rec env k (poisonDsts tmps0 env.nt all) ds (.panicking c) up m) it.o.dst (behindR P it ih cks) tmps ds up m it.o.op
   | some false => ih cks (setDst env.nt tmps undefA it.o.dst) ds up m
   | none => .bad "guard")
  (fun _ _ iha ihb cks tmps ds up m => .alt (iha cks tmps ds up m) (ihb cks tmps ds up m)) t
def drawWith (env : Env) (all : List Oper) (k : List AItem) (tmps : T AVal) (ds : List ADef) (up : Chain) (m : Mem) : Option PTree → RR
 | some t => drawGo P fl rec env all k tmps t [] tmps ds up m
 | none => .bad "no plan"
def leaveR (l : Nat) (jump : Option Code) (up : Chain) (m : Mem) : Option AObj → RR
 | some (.loop ⟨_, _, fn, nt, tm, ps, a, b, d⟩) => .ret (.lit (.bool jump.isNone)) up (m.put l (.loop ⟨bif jump.isNone then .ready else .done, jump, fn, nt, tm, ps, a, b, d⟩))
 | _ => .bad "endRound"
def isRet : Option Code → Bool
 | none => true
 | some .ret => true
 | _ => false
def leave (env : Env) (jump : Option Code) (tmps : T AVal) (ds : List ADef) (up : Chain) (m : Mem) : RR :=
 match env.roundOf with
 | none => bif isRet jump then rec env [] tmps ds .returning up m else .bad "lost"
 | some l => bif isNil ds then leaveR l jump up m (m.heap.get l) else .bad "round deferred"
def pend (pe : Option Code) (k : List AItem) : List AItem := match pe with
 | some c => .code c :: k
 | none => k
def afterLoop (env : Env) (l : Nat) (k : List AItem) (tmps : T AVal) (ds : List ADef) (up : Chain) (m : Mem) : Option AObj → RR
 | some (.loop ⟨st, pe, fn, nt, tm, ps, a, b, d⟩) => (match st with
  | .busy => .bad "endLoop busy"
  | _ => rec env (pend pe k) tmps ds .run up (m.put l (.loop ⟨.exhausted, pe, fn, nt, tm, ps, a, b, d⟩)))
 | _ => .bad "endLoop"
def ranF (env : Env) (l : Nat) (k : List AItem) (tmps : T AVal) (ds : List ADef) (up : Chain) (r : RR) : RR :=
 RR.rec (fun _ _ m => afterLoop rec env l k tmps ds up m (m.heap.get l)) (fun c _ m => rec env k tmps ds (.panicking c) up m) (fun w => .bad w) (fun _ _ a b => .alt a b) r
def ranO (env : Env) (l : Nat) (k : List AItem) (tmps : T AVal) (ds : List ADef) (up : Chain) : Out → RR
 | .enter f args m => ranF rec env l k tmps ds up (callBody fl rec false f args [] m P.funcs[f]?)
 | .bad w => .bad w
 | _ => .bad "rangeFunc"
def ranD (env : Env) (l : Nat) (k : List AItem) (tmps : T AVal) (ds : List ADef) (up : Chain) (m : Mem) : Option ADef → RR
 | some ⟨t, cap, _, args⟩ => ranO P fl rec env l k tmps ds up (callTarget P cap (appL args [.yield l]) m t)
 | none => .bad "rangeFunc"
def rangeIn (env : Env) (f : Operand) (k : List AItem) (lp : ALoop) (tmps : T AVal) (ds : List ADef) (up : Chain) (m : Mem) : RR :=
 ranD P fl rec env m.next k tmps ds up (m.new (.loop lp)) (fnDef [] (evalT tmps f))
def rangeF (env : Env) (f : Operand) (ps : List Tmp) (a b : Code) (k : List AItem) (tmps : T AVal) (ds : List ADef) (up : Chain) (m : Mem) : RR :=
 match env.roundOf with
 | none => rangeIn P fl rec env f k ⟨.ready, none, env.fn, env.nt, tmps, ps, a, b, m.next⟩ tmps (⟨.nil, [], some m.next, []⟩ :: ds) up (m.new (.deferred (some [])))
 | some l => match m.heap.get l with
  | some (.loop ⟨_, _, _, _, _, _, _, _, d⟩) => rangeIn P fl rec env f k ⟨.ready, none, env.fn, env.nt, tmps, ps, a, b, d⟩ tmps ds up m
  | _ => .bad "enterLoop"
def condGo (env : Env) (a b : Code) (k : List AItem) (tmps : T AVal) (ds : List ADef) (up : Chain) (m : Mem) : Option Bool → RR
 | some t => rec env (.code (bif t then a else b) :: k) tmps ds .run up m
 | none => .bad "cond"
def jumpTo (env : Env) (c : Code) (tmps : T AVal) (ds : List ADef) (up : Chain) (m : Mem) : Option (List AItem) → RR
 | some k => rec env k tmps ds .run up m
 | none => leave rec env (some c) tmps ds up m
def codeGo (env : Env) (k : List AItem) (tmps : T AVal) (ds : List ADef) (up : Chain) (m : Mem) : Code → RR
 | .skip => rec env k tmps ds .run up m
 | .label _ => rec env k tmps ds .run up m
 | .seq a b => rec env (.code a :: .code b :: k) tmps ds .run up m
 | .cond c a b => condGo rec env a b k tmps ds up m (boolOf (evalT tmps c))
 | .block id body => rec env (.code body :: .inBlock id :: k) tmps ds .run up m
 | .loop body => rec env (.code body :: .inLoop body :: k) tmps ds .run up m
 | .scope body => rec env (.code body :: .inScope body :: k) tmps ds .run up m
 | .exit id => jumpTo rec env (.exit id) tmps ds up m (exitTo id k)
 | .goto l => jumpTo rec env (.goto l) tmps ds up m (gotoIn l k)
 | .ret => leave rec env (some .ret) tmps ds up m
 | .rangeFunc f ps a b => rangeF P fl rec env f ps.toList a b k tmps ds up m
 | .region _ ops draw => bif draw then drawWith P fl rec env ops.toList k tmps ds up m (plan ops.toList) else regionGo P fl rec env ops.toList k ops.toList tmps ds up m
 | .refuse w => .bad w
def beginR (env : Env) (k : List AItem) (tmps : T AVal) (ds : List ADef) (up : Chain) (m : Mem) (l : Nat) : Option AObj → RR
 | some (.loop ⟨st, pe, fn, nt, tm, ps, a, b, d⟩) => (match st with
  | .ready => rec env k tmps ds .run up (m.put l (.loop ⟨.busy, pe, fn, nt, tm, ps, a, b, d⟩))
  | _ => .bad "beginRound state")
 | _ => .bad "beginRound"
def itemGo (env : Env) (k : List AItem) (tmps : T AVal) (ds : List ADef) (up : Chain) (m : Mem) : AItem → RR
 | .code c => codeGo P fl rec env k tmps ds up m c
 | .inBlock _ => rec env k tmps ds .run up m
 | .inScope _ => rec env k tmps ds .run up m
 | .inLoop body => rec env (.code body :: .inLoop body :: k) tmps ds .run up m
 | .beginRound => match env.roundOf with
  | some l => beginR rec env k tmps ds up m l (m.heap.get l)
  | none => .bad "beginRound"
def todoGo (env : Env) (tmps : T AVal) (ds : List ADef) (up : Chain) (m : Mem) : List AItem → RR
 | [] => leave rec env none tmps ds up m
 | x :: k => itemGo P fl rec env k tmps ds up m x
def resVal (tmps : T AVal) (m : Mem) : ResultVar → Option AVal
 | .tmp t => some (getT tmps t)
 | .cell a t => match getT tmps a with
  | .ptr r off => loadVar P m t r off
  | _ => none
def resVals (tmps : T AVal) (m : Mem) : List ResultVar → Option (List AVal)
 | [] => some []
 | x :: xs => match resVal P tmps m x with
  | some v => (resVals tmps m xs).map (v :: ·)
  | none => none
def one : List AVal → AVal
 | [v] => v
 | vs => .tuple vs
def retVals (up : Chain) (m : Mem) : Option (List AVal) → RR
 | some vs => .ret (one vs) up m
 | none => .bad "results"
def retGo (tmps : T AVal) (up : Chain) (m : Mem) : Option Func → RR
 | some fn => retVals up m (resVals P tmps m fn.results.toList)
 | none => .bad "fn"
def behind (mode : AMode) (up' : Chain) : AMode :=
 match mode with
 | .panicking _ => (match up' with
  | (_, true) :: _ => .returning
  | c => .panicking c)
 | x => x
def chainOf : AMode → Chain
 | .panicking c => c
 | _ => []
def raised (c up' : Chain) : AMode → AMode
 | .panicking _ => .panicking (appL c up')
 | _ => .panicking c
def dRan (env : Env) (tmps : T AVal) (ds : List ADef) (mode : AMode) (up : Chain) (r : RR) : RR :=
 RR.rec (fun _ up' m => rec env [] tmps ds (behind mode up') up m) (fun c up' m => rec env [] tmps ds (raised c up' mode) up m) (fun w => .bad w) (fun _ _ a b => .alt a b) r
def dGo (env : Env) (tmps : T AVal) (ds : List ADef) (mode : AMode) (up : Chain) : Out → RR
 | .enter f args m => dRan rec env tmps ds mode up (callBody fl rec true f args (chainOf mode) m P.funcs[f]?)
 | .val _ m => rec env [] tmps ds mode up m
 | .panic v m => rec env [] tmps ds (raised [(v, false)] (chainOf mode) mode) up m
 | .bad w => .bad w
 | _ => .bad "deferred"
def collGo (env : Env) (b : Nat) (tmps : T AVal) (ds : List ADef) (mode : AMode) (up : Chain) (m : Mem) : Option AObj → RR
 | some (.deferred (some calls)) => rec env [] tmps (appL calls ds) mode up (m.put b (.deferred none))
 | _ => .bad "takeDeferred"
def isNilT : Target → Bool
 | .nil => true
 | _ => false
def isPan : AMode → Bool
 | .panicking _ => true
 | _ => false
def unwindD (env : Env) (tmps : T AVal) (mode : AMode) (up : Chain) (m : Mem) : List ADef → RR
 | ⟨t, cap, coll, args⟩ :: ds => (match coll with
  | some b => collGo rec env b tmps ds mode up m (m.heap.get b)
  | none => bif isNilT t && isPan mode then .bad "a deferred call of nil" else dGo P fl rec env tmps ds mode up (callTarget P cap args m t))
 | [] => match mode with
  | .returning => retGo P tmps up m P.funcs[env.fn]?
  | .panicking c => .panicked c up m
  | .run => .bad "unwind"
def bodyGo : Run := fun env todo tmps ds mode up m =>
 match mode with
 | .run => todoGo P fl rec env tmps ds up m todo
 | mode => unwindD P fl rec env tmps mode up m ds
end
def run (P : Program) (fl : Fl) (n : Nat) : Run := Nat.rec (fun _ _ _ _ _ _ _ => .bad "fuel") (fun _ ih => bodyGo P fl ih) n
def mem0 : Mem := ⟨.e, 0, .e, 0, false, []⟩
def callA (P : Program) (fl : Fl) (n : Nat) (f : FuncId) (args : List AVal) (m : Mem) : RR := callBody fl (run P fl n) false f args [] m P.funcs[f]?
end
end Go.Abs
