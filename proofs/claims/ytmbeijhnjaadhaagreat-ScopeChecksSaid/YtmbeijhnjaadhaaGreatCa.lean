/- A part of the proof of ScopeChecks. -/
import Derived.Test.YtmbeijhnjaadhaaGreatSp
import Derived.Test.YtmbeijhnjaadhaaGreatAbsM
namespace Go.Proofs.YtmbeijhnjaadhaaGreat
open Go Go.Abs
open Go.RowKit (Below)
set_option maxRecDepth 10000
noncomputable section
instance : TyF Tryz.prog 26 true 4 := ⟨by kernel_rfl, by kernel_rfl⟩
instance : FdF Tryz.prog 26 0 0 22 := ⟨by kernel_rfl⟩
instance : FdF Tryz.prog 26 1 1 23 := ⟨by kernel_rfl⟩
instance : FdF Tryz.prog 26 2 2 24 := ⟨by kernel_rfl⟩
instance : FdF Tryz.prog 26 3 3 3 := ⟨by kernel_rfl⟩
instance : PlF Tryz.prog 26 [(0, 1), (1, 1), (2, 1), (3, 1)] := ⟨by kernel_rfl⟩
instance : ZcF Tryz.prog 26 [.lit (.slice none 0 0), .lit (.slice none 0 0), .lit (.slice none 0 0), .lit (.int .i64 0)] := ⟨by kernel_rfl⟩
instance : TyF Tryz.prog 35 true 4 := ⟨by kernel_rfl, by kernel_rfl⟩
instance : FdF Tryz.prog 35 0 0 26 := ⟨by kernel_rfl⟩
instance : PlF Tryz.prog 35 [(0, 4)] := ⟨by kernel_rfl⟩
instance : ZcF Tryz.prog 35 [.lit (.slice none 0 0), .lit (.slice none 0 0), .lit (.slice none 0 0), .lit (.int .i64 0)] := ⟨by kernel_rfl⟩
instance : TyF Tryz.prog 76 true 6 := ⟨by kernel_rfl, by kernel_rfl⟩
instance : FdF Tryz.prog 76 0 0 35 := ⟨by kernel_rfl⟩
instance : FdF Tryz.prog 76 1 4 73 := ⟨by kernel_rfl⟩
instance : FdF Tryz.prog 76 2 5 74 := ⟨by kernel_rfl⟩
instance : PlF Tryz.prog 76 [(0, 4), (4, 1), (5, 1)] := ⟨by kernel_rfl⟩
instance : ZcF Tryz.prog 76 [.lit (.slice none 0 0), .lit (.slice none 0 0), .lit (.slice none 0 0), .lit (.int .i64 0), .lit (.map none), .lit (.map none)] := ⟨by kernel_rfl⟩
instance : TyF Tryz.prog 69 true 4 := ⟨by kernel_rfl, by kernel_rfl⟩
instance : FdF Tryz.prog 69 0 0 42 := ⟨by kernel_rfl⟩
instance : FdF Tryz.prog 69 1 1 3 := ⟨by kernel_rfl⟩
instance : FdF Tryz.prog 69 2 2 67 := ⟨by kernel_rfl⟩
instance : FdF Tryz.prog 69 3 3 31 := ⟨by kernel_rfl⟩
instance : PlF Tryz.prog 69 [(0, 1), (1, 1), (2, 1), (3, 1)] := ⟨by kernel_rfl⟩
instance : ZcF Tryz.prog 69 [.lit (.int .i64 0), .lit (.int .i64 0), .lit (.slice none 0 0), .lit (.slice none 0 0)] := ⟨by kernel_rfl⟩
instance : TyF Tryz.prog 42 false 1 := ⟨by kernel_rfl, by kernel_rfl⟩
instance : ZcF Tryz.prog 42 [.lit (.int .i64 0)] := ⟨by kernel_rfl⟩
instance : TyF Tryz.prog 22 false 1 := ⟨by kernel_rfl, by kernel_rfl⟩
instance : SlF Tryz.prog 22 9 := ⟨by kernel_rfl⟩
instance : ElF Tryz.prog 22 9 1 := ⟨by kernel_rfl⟩
instance : ZcF Tryz.prog 22 [.lit (.slice none 0 0)] := ⟨by kernel_rfl⟩
instance : TyF Tryz.prog 9 false 1 := ⟨by kernel_rfl, by kernel_rfl⟩
instance : StF Tryz.prog 9 := ⟨by kernel_rfl⟩
instance : ZcF Tryz.prog 9 [.lit (.string .empty)] := ⟨by kernel_rfl⟩
instance : TyF Tryz.prog 23 false 1 := ⟨by kernel_rfl, by kernel_rfl⟩
instance : SlF Tryz.prog 23 69 := ⟨by kernel_rfl⟩
instance : ElF Tryz.prog 23 69 4 := ⟨by kernel_rfl⟩
instance : ZcF Tryz.prog 23 [.lit (.slice none 0 0)] := ⟨by kernel_rfl⟩
instance : TyF Tryz.prog 24 false 1 := ⟨by kernel_rfl, by kernel_rfl⟩
instance : SlF Tryz.prog 24 66 := ⟨by kernel_rfl⟩
instance : ElF Tryz.prog 24 66 3 := ⟨by kernel_rfl⟩
instance : ZcF Tryz.prog 24 [.lit (.slice none 0 0)] := ⟨by kernel_rfl⟩
instance : TyF Tryz.prog 66 true 3 := ⟨by kernel_rfl, by kernel_rfl⟩
instance : FdF Tryz.prog 66 0 0 62 := ⟨by kernel_rfl⟩
instance : FdF Tryz.prog 66 1 1 63 := ⟨by kernel_rfl⟩
instance : FdF Tryz.prog 66 2 2 64 := ⟨by kernel_rfl⟩
instance : PlF Tryz.prog 66 [(0, 1), (1, 1), (2, 1)] := ⟨by kernel_rfl⟩
instance : ZcF Tryz.prog 66 [.lit (.slice none 0 0), .lit (.slice none 0 0), .lit (.slice none 0 0)] := ⟨by kernel_rfl⟩
instance : TyF Tryz.prog 62 false 1 := ⟨by kernel_rfl, by kernel_rfl⟩
instance : SlF Tryz.prog 62 61 := ⟨by kernel_rfl⟩
instance : ElF Tryz.prog 62 61 2 := ⟨by kernel_rfl⟩
instance : ZcF Tryz.prog 62 [.lit (.slice none 0 0)] := ⟨by kernel_rfl⟩
instance : TyF Tryz.prog 63 false 1 := ⟨by kernel_rfl, by kernel_rfl⟩
instance : SlF Tryz.prog 63 117 := ⟨by kernel_rfl⟩
instance : ElF Tryz.prog 63 117 2 := ⟨by kernel_rfl⟩
instance : ZcF Tryz.prog 63 [.lit (.slice none 0 0)] := ⟨by kernel_rfl⟩
instance : TyF Tryz.prog 64 false 1 := ⟨by kernel_rfl, by kernel_rfl⟩
instance : SlF Tryz.prog 64 120 := ⟨by kernel_rfl⟩
instance : ElF Tryz.prog 64 120 3 := ⟨by kernel_rfl⟩
instance : ZcF Tryz.prog 64 [.lit (.slice none 0 0)] := ⟨by kernel_rfl⟩
instance : TyF Tryz.prog 61 true 2 := ⟨by kernel_rfl, by kernel_rfl⟩
instance : FdF Tryz.prog 61 0 0 3 := ⟨by kernel_rfl⟩
instance : FdF Tryz.prog 61 1 1 3 := ⟨by kernel_rfl⟩
instance : PlF Tryz.prog 61 [(0, 1), (1, 1)] := ⟨by kernel_rfl⟩
instance : ZcF Tryz.prog 61 [.lit (.int .i64 0), .lit (.int .i64 0)] := ⟨by kernel_rfl⟩
instance : TyF Tryz.prog 117 true 2 := ⟨by kernel_rfl, by kernel_rfl⟩
instance : FdF Tryz.prog 117 0 0 3 := ⟨by kernel_rfl⟩
instance : FdF Tryz.prog 117 1 1 3 := ⟨by kernel_rfl⟩
instance : PlF Tryz.prog 117 [(0, 1), (1, 1)] := ⟨by kernel_rfl⟩
instance : ZcF Tryz.prog 117 [.lit (.int .i64 0), .lit (.int .i64 0)] := ⟨by kernel_rfl⟩
instance : TyF Tryz.prog 120 true 3 := ⟨by kernel_rfl, by kernel_rfl⟩
instance : FdF Tryz.prog 120 0 0 3 := ⟨by kernel_rfl⟩
instance : FdF Tryz.prog 120 1 1 31 := ⟨by kernel_rfl⟩
instance : FdF Tryz.prog 120 2 2 3 := ⟨by kernel_rfl⟩
instance : PlF Tryz.prog 120 [(0, 1), (1, 1), (2, 1)] := ⟨by kernel_rfl⟩
instance : ZcF Tryz.prog 120 [.lit (.int .i64 0), .lit (.slice none 0 0), .lit (.int .i64 0)] := ⟨by kernel_rfl⟩
instance : TyF Tryz.prog 31 false 1 := ⟨by kernel_rfl, by kernel_rfl⟩
instance : SlF Tryz.prog 31 3 := ⟨by kernel_rfl⟩
instance : ElF Tryz.prog 31 3 1 := ⟨by kernel_rfl⟩
instance : ZcF Tryz.prog 31 [.lit (.slice none 0 0)] := ⟨by kernel_rfl⟩
instance : TyF Tryz.prog 110 true 4 := ⟨by kernel_rfl, by kernel_rfl⟩
instance : FdF Tryz.prog 110 0 0 69 := ⟨by kernel_rfl⟩
instance : PlF Tryz.prog 110 [(0, 4)] := ⟨by kernel_rfl⟩
instance : ZcF Tryz.prog 110 [.lit (.int .i64 0), .lit (.int .i64 0), .lit (.slice none 0 0), .lit (.slice none 0 0)] := ⟨by kernel_rfl⟩
instance : TyF Tryz.prog 174 true 3 := ⟨by kernel_rfl, by kernel_rfl⟩
instance : FdF Tryz.prog 174 0 0 112 := ⟨by kernel_rfl⟩
instance : PlF Tryz.prog 174 [(0, 3)] := ⟨by kernel_rfl⟩
instance : ZcF Tryz.prog 174 [.lit (.int .i64 0), .lit (.int .i64 0), .lit (.slice none 0 0)] := ⟨by kernel_rfl⟩
instance : TyF Tryz.prog 150 false 1 := ⟨by kernel_rfl, by kernel_rfl⟩
instance : ZcF Tryz.prog 150 [.lit .nilIface] := ⟨by kernel_rfl⟩
instance : TyF Tryz.prog 73 false 1 := ⟨by kernel_rfl, by kernel_rfl⟩
instance : ZcF Tryz.prog 73 [.lit (.map none)] := ⟨by kernel_rfl⟩
instance : TyF Tryz.prog 74 false 1 := ⟨by kernel_rfl, by kernel_rfl⟩
instance : ZcF Tryz.prog 74 [.lit (.map none)] := ⟨by kernel_rfl⟩
instance : TyF Tryz.prog 71 true 0 := ⟨by kernel_rfl, by kernel_rfl⟩
instance : PlF Tryz.prog 71 [] := ⟨by kernel_rfl⟩
instance : ZcF Tryz.prog 71 [] := ⟨by kernel_rfl⟩
instance : TyF Tryz.prog 103 false 1 := ⟨by kernel_rfl, by kernel_rfl⟩
instance : ZcF Tryz.prog 103 [.lit (.pointer none)] := ⟨by kernel_rfl⟩
instance : TyF Tryz.prog 104 false 1 := ⟨by kernel_rfl, by kernel_rfl⟩
instance : ZcF Tryz.prog 104 [.lit .nilFunc] := ⟨by kernel_rfl⟩
instance : TyF Tryz.prog 200 false 1 := ⟨by kernel_rfl, by kernel_rfl⟩
instance : ZcF Tryz.prog 200 [.lit .nilFunc] := ⟨by kernel_rfl⟩
instance : TyF Tryz.prog 27 false 1 := ⟨by kernel_rfl, by kernel_rfl⟩
instance : ZcF Tryz.prog 27 [.lit (.int .i64 0)] := ⟨by kernel_rfl⟩
instance : ZcF Tryz.prog 93 [.lit (.int .i64 0)] := ⟨by kernel_rfl⟩
instance : ZcF Tryz.prog 4 [.lit (.bool false)] := ⟨by kernel_rfl⟩
instance : ZcF Tryz.prog 67 [.lit (.slice none 0 0)] := ⟨by kernel_rfl⟩
instance : PlF Tryz.prog 112 [(0, 1), (1, 1), (2, 1)] := ⟨by kernel_rfl⟩
instance : ZcF Tryz.prog 112 [.lit (.int .i64 0), .lit (.int .i64 0), .lit (.slice none 0 0)] := ⟨by kernel_rfl⟩
theorem co_213 : concreteT (Tryz.prog.underlying 71) = true := by kernel_rfl
theorem co_244 : concreteT (Tryz.prog.underlying 110) = true := by kernel_rfl
theorem co_258 : concreteT (Tryz.prog.underlying 174) = true := by kernel_rfl
theorem mk_215 : Abs.mapKey Tryz.prog 73 = some (3, 3) := by kernel_rfl
theorem mk_216 : Abs.mapKey Tryz.prog 74 = some (3, 4) := by kernel_rfl
theorem ui3 : Tryz.prog.underlying 3 = some (.int .i64) := by kernel_rfl
theorem tz3 : tzero Tryz.prog 3 = some (.int .i64 0) := by kernel_rfl
theorem tz4 : tzero Tryz.prog 4 = some (.bool false) := by kernel_rfl
abbrev unfC : Chain := [(.iface 71 (.agg []), false)]
def StepQ (S : Nat → Prop) (m : Mem) (ok : Bool) (post : Mem → Prop) : RR → Prop := fun r =>
 (ok = true ∧ ∃ u m', r = .ret (.tuple []) u m' ∧ Kept S m m' ∧ post m') ∨ (ok = false ∧ ∃ u m', r = .panicked unfC u m' ∧ Kept S m m')
theorem s_step {fl : Fl} {Q : RR → Prop} {env : Env} {k : List AItem} {ds : List ADef} {up : Chain} {m : Mem} {nt : Nat} {b : T AVal} {l : List (Nat × AVal)} {all rest : List Oper} {o : Oper} {d : Nat} {f : FuncId} {args : List AVal} {m1 : Mem} {S : Nat → Prop} {ok : Bool} {post : Mem → Prop}
  (hn : env.nt = nt) (hg : gd all (sets nt b l) o.guard = some true) (hp : plainOp o.op = true) (hd : o.dst = some d) (ha : aop Tryz.prog (sets nt b l) m o.op = .enter f args m1) (hc : CallQ Tryz.prog fl f args m1 (StepQ S m1 ok post))
  (wt : ok = true → ∀ m', Kept S m1 m' → post m' → Wp Tryz.prog fl (Rg Tryz.prog fl env all k rest (sets nt b ((d, .tuple []) :: l)) ds up m') Q)
  (wf : ok = false → ∀ m', Kept S m1 m' → Wp Tryz.prog fl (At env k (sets nt b l) ds (.panicking unfC) up m') Q) : Wp Tryz.prog fl (Rg Tryz.prog fl env all k (o :: rest) (sets nt b l) ds up m) Q := by
 refine s_call hn hg hp hd ha hc ?_ ?_
 ·rintro v u m' (⟨h, _, _, e, h1, h2⟩ | ⟨h, _, _, e, _⟩)
  ·cases e; exact wt h _ h1 h2
  ·cases e
 ·rintro c u m' (⟨h, _, _, e, _⟩ | ⟨h, _, _, e, h1⟩)
  ·cases e
  ·cases e; exact wf h _ h1
theorem d_step {fl : Fl} {Q : RR → Prop} {env : Env} {k : List AItem} {ds : List ADef} {up : Chain} {m : Mem} {nt : Nat} {b tmps0 : T AVal} {l : List (Nat × AVal)} {all : List Oper} {cks left : List Ck} {it : PItem} {rest : PTree} {d : Nat} {f : FuncId} {args : List AVal} {m1 : Mem} {S : Nat → Prop} {ok : Bool} {post : Mem → Prop}
  (hn : env.nt = nt) (hg : gd all (sets nt b l) it.o.guard = some true) (hp : plainOp it.o.op = true) (hd : it.o.dst = some d) (ha : aop Tryz.prog (sets nt b l) m it.o.op = .enter f args m1) (hc : CallQ Tryz.prog fl f args m1 (StepQ S m1 ok post)) (hl : leftCk it.mask cks = left)
  (wt : ok = true → ∀ m', Kept S m1 m' → post m' → ckAll Tryz.prog it.mask m' cks = true ∧ Wp Tryz.prog fl (Dg Tryz.prog fl env all k tmps0 rest left (sets nt b ((d, .tuple []) :: l)) ds up m') Q)
  (wf : ok = false → ∀ m', Kept S m1 m' → Wp Tryz.prog fl (At env k (poisonDsts tmps0 nt all) ds (.panicking unfC) up m') Q) : Wp Tryz.prog fl (Dg Tryz.prog fl env all k tmps0 (.heavy it rest) cks (sets nt b l) ds up m) Q := by
 refine d_call hn hg hp hd ha hc hl ?_ ?_
 ·rintro v u m' (⟨h, _, _, e, h1, h2⟩ | ⟨h, _, _, e, _⟩)
  ·cases e; exact wt h _ h1 h2
  ·cases e
 ·rintro c u m' (⟨h, _, _, e, _⟩ | ⟨h, _, _, e, h1⟩)
  ·cases e
  ·cases e; exact wf h _ h1
theorem s_stepE {fl : Fl} {Q : RR → Prop} {env : Env} {k : List AItem} {ds : List ADef} {up : Chain} {m m0 m2 : Mem} {nt : Nat} {b : T AVal} {l : List (Nat × AVal)} {all rest : List Oper} {o : Oper} {d : Nat} {f : FuncId} {args : List AVal} {S : Nat → Prop} {ok : Bool} {post : Mem → Prop} (K : Kept (fun q => m0.next ≤ q ∨ S q) m0 m) (kk : Kept noS m2 m) (ha : aop Tryz.prog (sets nt b l) m o.op = .enter f args m) (hc : CallQ Tryz.prog fl f args m (StepQ noS m ok post))
  (wt : ok = true → ∀ m', Kept (fun q => m0.next ≤ q ∨ S q) m0 m' → Kept noS m2 m' → post m' → Wp Tryz.prog fl (Rg Tryz.prog fl env all k rest (sets nt b ((d, .tuple []) :: l)) ds up m') Q)
  (wf : ok = false → ∀ m', Kept (fun q => m0.next ≤ q ∨ S q) m0 m' → Kept noS m2 m' → Wp Tryz.prog fl (At env k (sets nt b l) ds (.panicking unfC) up m') Q) (hg : GD all (sets nt b l) o.guard true := by first | exact gT0 | (apply gT; exact rfl; (first | exact ⟨e_hit rfl⟩ | exact ⟨e_base rfl (by assumption)⟩ | exact ⟨rfl⟩); (first | assumption | decide))) (hp : plainOp o.op = true := by rfl) (hd : o.dst = some d := by rfl) (hn : env.nt = nt := by rfl) : Wp Tryz.prog fl (Rg Tryz.prog fl env all k (o :: rest) (sets nt b l) ds up m) Q :=
 s_step hn hg.h hp hd ha hc (fun e m' h => wt e m' (K.k h fun _ h => h.elim) (kk.then h fun _ _ h => h)) (fun e m' h => wf e m' (K.k h fun _ h => h.elim) (kk.then h fun _ _ h => h))
theorem d_stepE {fl : Fl} {Q : RR → Prop} {env : Env} {k : List AItem} {ds : List ADef} {up : Chain} {m m0 m2 : Mem} {nt : Nat} {b tmps0 : T AVal} {l : List (Nat × AVal)} {all : List Oper} {d : Nat} {f : FuncId} {args : List AVal} {S : Nat → Prop} {ok : Bool} {post : Mem → Prop} {cks left : List Ck} {it : PItem} {rt : PTree} (K : Kept (fun q => m0.next ≤ q ∨ S q) m0 m) (kk : Kept noS m2 m) (ha : aop Tryz.prog (sets nt b l) m it.o.op = .enter f args m) (hc : CallQ Tryz.prog fl f args m (StepQ noS m ok post)) (hl : leftCk it.mask cks = left)
  (wt : ok = true → ∀ m', Kept (fun q => m0.next ≤ q ∨ S q) m0 m' → Kept noS m2 m' → post m' → ckAll Tryz.prog it.mask m' cks = true ∧ Wp Tryz.prog fl (Dg Tryz.prog fl env all k tmps0 rt left (sets nt b ((d, .tuple []) :: l)) ds up m') Q)
  (wf : ok = false → ∀ m', Kept (fun q => m0.next ≤ q ∨ S q) m0 m' → Kept noS m2 m' → Wp Tryz.prog fl (At env k (poisonDsts tmps0 nt all) ds (.panicking unfC) up m') Q) (hg : GD all (sets nt b l) it.o.guard true := by first | exact gT0 | (apply gT; exact rfl; (first | exact ⟨e_hit rfl⟩ | exact ⟨e_base rfl (by assumption)⟩ | exact ⟨rfl⟩); (first | assumption | decide))) (hp : plainOp it.o.op = true := by rfl) (hd : it.o.dst = some d := by rfl) (hn : env.nt = nt := by rfl) : Wp Tryz.prog fl (Dg Tryz.prog fl env all k tmps0 (.heavy it rt) cks (sets nt b l) ds up m) Q :=
 d_step hn hg.h hp hd ha hc hl (fun e m' h => wt e m' (K.k h fun _ h => h.elim) (kk.then h fun _ _ h => h)) (fun e m' h => wf e m' (K.k h fun _ h => h.elim) (kk.then h fun _ _ h => h))
structure AChan where
 at_ : Int
 many : Int
def AChan.cells (x : AChan) : List AVal := [iv x.at_, iv x.many]
structure ASpot where
 inn : Int
 node : Int
def ASpot.cells (x : ASpot) : List AVal := [iv x.inn, iv x.node]
def icells (i : Int) : List AVal := [iv i]
structure ARule where
 at_ : Int
 jv : AVal
 joins : List Int
 node : Int
def ARule.cells (x : ARule) : List AVal := [iv x.at_, x.jv, iv x.node]
def ARule.OK (m : Mem) (x : ARule) : Prop := SlA m x.jv 1 (x.joins.map icells)
structure ADf where
 cv : AVal
 sv : AVal
 rv : AVal
 chans : List AChan
 spots : List ASpot
 rules : List ARule
def ADf.cells (x : ADf) : List AVal := [x.cv, x.sv, x.rv]
structure ADf.OK (m : Mem) (x : ADf) : Prop where
 c : SlA m x.cv 2 (x.chans.map AChan.cells)
 s : SlA m x.sv 2 (x.spots.map ASpot.cells)
 r : SlA m x.rv 3 (x.rules.map ARule.cells)
 j : ∀ r, r ∈ x.rules → r.OK m
structure ANode where
 op : Int
 n : Int
 av : AVal
 kv : AVal
 args : List AX
 kids : List Int
def ANode.cells (x : ANode) : List AVal := [iv x.op, iv x.n, x.av, x.kv]
structure ANode.OK (m : Mem) (x : ANode) : Prop where
 a : SlA m x.av 3 (x.args.map AX.cells)
 k : SlA m x.kv 1 (x.kids.map icells)
 e : ∀ e, e ∈ x.args → e.OK m
structure AProg where
 fv : AVal
 nv : AVal
 dv : AVal
 free : List ByteArray
 nodes : List ANode
 defs : List ADf
 main : Int
def scells (s : ByteArray) : List AVal := [.lit (.string s)]
def AProg.cells (x : AProg) : List AVal := [x.fv, x.nv, x.dv, iv x.main]
structure AProg.OK (m : Mem) (x : AProg) : Prop where
 f : SlA m x.fv 1 (x.free.map scells)
 n : SlA m x.nv 4 (x.nodes.map ANode.cells)
 d : SlA m x.dv 3 (x.defs.map ADf.cells)
 no : ∀ y, y ∈ x.nodes → y.OK m
 do_ : ∀ y, y ∈ x.defs → y.OK m
section
variable {S : Nat → Prop} {m m' : Mem}
theorem ARule.OK.kept {x : ARule} (h : x.OK m) (k : Kept S m m') : x.OK m' := SlA.kept h k
theorem ADf.OK.kept {x : ADf} (h : x.OK m) (k : Kept S m m') : x.OK m' := ⟨h.c.kept k, h.s.kept k, h.r.kept k, fun r hr => (h.j r hr).kept k⟩
theorem ANode.OK.kept {x : ANode} (h : x.OK m) (k : Kept S m m') : x.OK m' := ⟨h.a.kept k, h.k.kept k, fun r hr => AX.OK.kept (h.e r hr) k⟩
theorem AProg.OK.kept {x : AProg} (h : x.OK m) (k : Kept S m m') : x.OK m' := ⟨h.f.kept k, h.n.kept k, h.d.kept k, fun r hr => (h.no r hr).kept k, fun r hr => (h.do_ r hr).kept k⟩
end
variable {fl : Fl} (hfl : Tab fl)
include hfl
theorem demand_ok {m : Mem} (t : Bool) (hw : Wf m) : CallQ Tryz.prog fl 23 [.lit (.bool t)] m (StepQ noS m t (fun _ => True)) := by
 refine hfl.start (by decide) 6 Tryz.func23 rfl rfl (Nat.le_of_ble_eq_true rfl) ?_
 intro bs hb
 have ar0 := hb 0 _ rfl
 clear hb
 have K : Kept (fun q => m.next ≤ q ∨ noS q) m m := Kept.refl hw
 cases t with
 | true =>
  refine gg ?_
  refine w_fall rfl ?_
  refine w_results Tryz.func23 rv0 ?_
  exact .inl ⟨rfl, _, _, rfl, K.out, trivial⟩
 | false =>
  refine gg ?_
  refine s_val rfl rfl rfl rfl (o_makeI v0 co_213 rfl) ?_
  refine q_panic rfl rfl (o_panic v0 rfl) ?_
  refine w_panics ?_
  exact .inr ⟨rfl, _, _, rfl, K.out⟩
theorem among_ok {m : Mem} (a b c : Int) (hw : Wf m) : CallQ Tryz.prog fl 42 [iv a, iv b, iv c] m (Rets noS m (.lit (.bool (decide (b ≤ a) && decide (a ≤ c))))) := by
 refine hfl.start (by decide) 15 Tryz.func42 rfl rfl (Nat.le_of_ble_eq_true rfl) ?_
 intro bs hb
 have ar0 := hb 0 _ rfl
 have ar1 := hb 1 _ rfl
 have ar2 := hb 2 _ rfl
 clear hb
 have K : Kept (fun q => m.next ≤ q ∨ noS q) m m := Kept.refl hw
 refine gg ?_
 refine sg (fun c1 => ?_) (fun c1 => ?_) <;> refine gg ?_
 all_goals
  refine w_retAt rfl ?_
  refine w_results Tryz.func42 (rv1 v0) ?_
  exact ⟨_, _, congrArg (fun b => RR.ret (.lit (.bool b)) _ _) (by simp_all; try omega), K.out⟩
end
noncomputable section
def exprB (sz op n : Int) (lk : Nat) : Bool :=
 if op = 1 then (Int.ofNat lk == 0) && (decide (-1000000000 ≤ n) && decide (n ≤ 1000000000))
 else if op = 2 then (Int.ofNat lk == 0) && (decide (0 ≤ n) && decide (n ≤ sz - 1))
 else if 3 ≤ op ∧ op ≤ 7 then (Int.ofNat lk == 2) && (decide (0 ≤ n) && decide (n ≤ 0)) else false
def nodeB (nd sz op n : Int) (la lk : Nat) : Bool :=
 if op = 1 ∨ op = 7 then (Int.ofNat la == 0) && ((Int.ofNat lk == 0) && (decide (0 ≤ n) && decide (n ≤ 0)))
 else if op = 2 then (Int.ofNat la == min (Int.ofNat la) 3) && ((Int.ofNat lk == 0) && (decide (0 ≤ n) && decide (n ≤ sz - 1)))
 else if op = 3 then (Int.ofNat la == 0) && ((Int.ofNat lk == 2) && (decide (0 ≤ n) && decide (n ≤ 0)))
 else if op = 4 then (Int.ofNat la == 0) && ((Int.ofNat lk == 1) && (decide (0 ≤ n) && decide (n ≤ nd - 1)))
 else if op = 5 then (Int.ofNat la == 1) && ((Int.ofNat lk == 2) && (decide (0 ≤ n) && decide (n ≤ 0)))
 else if op = 6 ∨ op = 8 then (Int.ofNat la == 0) && ((Int.ofNat lk == 1) && (decide (0 ≤ n) && decide (n ≤ sz - 1)))
 else false
variable {fl : Fl} (hfl : Tab fl)
include hfl
theorem expression_ok {m : Mem} {c : AVal} {sz : Int} {e : AX} (hs1 : 0 ≤ sz) (hs2 : sz ≤ 2 ^ 40) (hok : e.OK m) (hw : Wf m) : CallQ Tryz.prog fl 75 [c, .agg e.cells, iv sz] m (StepQ noS m (exprB sz e.op e.n e.kids.length) (fun _ => True)) := by
 obtain ⟨op, nn, kv, kids⟩ := e
 cases hok with
 | mk hsl hkids =>
 show CallQ Tryz.prog fl 75 [c, .agg [iv op, iv nn, kv], iv sz] m (StepQ noS m (exprB sz op nn kids.length) (fun _ => True))
 have ck := hsl.cell
 have hlen := hsl.lenM
 have b1 : -(2 ^ 62) ≤ sz - 1 := by omega
 have b2 : sz - 1 < 2 ^ 62 := by omega
 refine hfl.start (by decide) 38 Tryz.func75 rfl rfl (Nat.le_of_ble_eq_true rfl) ?_
 intro bs hb
 have ar1 := hb 1 _ rfl
 have ar2 := hb 2 _ rfl
 clear hb
 have K : Kept (fun q => m.next ≤ q ∨ noS q) m m := Kept.refl hw
 refine gg ?_
 refine s_new rfl rfl rfl rfl (o_box (e_base rfl ar1) rfl) (fun m1 g => ?_)
 have n1 := g.next
 have h := g.same
 have f := g.fam0 K.wf
 have K := K.g g
 refine gg ?_
 refine w_cond v0 (fun z1 => ?_) (fun z1 => ?_)
 rotate_left
 have z1 := ne_of_beq_false z1
 refine gg ?_
 refine w_cond v0 (fun z2 => ?_) (fun z2 => ?_)
 rotate_left
 have z2 := ne_of_beq_false z2
 refine gg ?_
 refine w_cond v0 (fun z3 => ?_) (fun z3 => ?_)
 rotate_left
 refine gg ?_
 refine w_cond v0 (fun z4 => ?_) (fun z4 => ?_)
 rotate_left
 refine gg ?_
 refine w_cond v0 (fun z5 => ?_) (fun z5 => ?_)
 rotate_left
 refine gg ?_
 refine w_cond v0 (fun z6 => ?_) (fun z6 => ?_)
 rotate_left
 refine gg ?_
 refine w_cond v0 (fun z7 => ?_) (fun z7 => ?_)
 rotate_left
 ·refine gg ?_
  refine s_val rfl rfl rfl rfl (o_makeI v0 co_213 rfl) ?_
  refine q_panic rfl rfl (o_panic v0 rfl) ?_
  refine w_panics ?_
  have e3 := ne_of_beq_false z3; have e4 := ne_of_beq_false z4; have e5 := ne_of_beq_false z5; have e6 := ne_of_beq_false z6; have e7 := ne_of_beq_false z7
  exact .inr ⟨by unfold exprB; rw [if_neg z1, if_neg z2, if_neg (by omega)], _, _, rfl, K.out⟩
 all_goals
  refine gg ?_
  refine sg (fun c => ?_) (fun c => ?_) <;> refine gg ?_
  ·refine s_callD K h f (o_calls (me3 v0 v0 v0)) (among_ok hfl _ _ _ K.wf) (fun m k K h f => ?_)
   refine gg ?_
   refine s_stepE K (Kept.refl (S := noS) K.wf) (o_calls (me1 v0)) (demand_ok hfl _ K.wf) (fun z m' K _ _ => ?_) (fun z m' K _ => ?_)
   ·refine gg ?_
    refine w_fall rfl ?_
    refine w_results Tryz.func75 rv0 ?_
    exact .inl ⟨by unfold exprB; simp_all, _, _, rfl, K.out, trivial⟩
   ·refine w_panics ?_
    exact .inr ⟨by unfold exprB; simp_all, _, _, rfl, K.out⟩
  ·refine s_stepE K (Kept.refl (S := noS) K.wf) (o_calls (me1 v0)) (demand_ok hfl _ K.wf) (fun z m' K _ _ => ?_) (fun z m' K _ => ?_)
   ·cases z
   ·refine w_panics ?_
    exact .inr ⟨by unfold exprB; simp_all, _, _, rfl, K.out⟩
omit hfl in
def chkC (p : AProg) (ws wk : Nat) : List AVal := [p.fv, p.nv, p.dv, iv p.main, .map ws, .map wk]
omit hfl in
theorem nb_nil {nd sz op n : Int} {la lk : Nat} (h : op = 1 ∨ op = 7) : nodeB nd sz op n la lk = ((Int.ofNat la == 0) && ((Int.ofNat lk == 0) && (decide (0 ≤ n) && decide (n ≤ 0)))) := by
 unfold nodeB; rw [if_pos h]
omit hfl in
theorem nb_send {nd sz op n : Int} {la lk : Nat} (h : op = 2) : nodeB nd sz op n la lk = ((Int.ofNat la == min (Int.ofNat la) 3) && ((Int.ofNat lk == 0) && (decide (0 ≤ n) && decide (n ≤ sz - 1)))) := by
 unfold nodeB; rw [if_neg (by omega), if_pos h]
omit hfl in
theorem nb_par {nd sz op n : Int} {la lk : Nat} (h : op = 3) : nodeB nd sz op n la lk = ((Int.ofNat la == 0) && ((Int.ofNat lk == 2) && (decide (0 ≤ n) && decide (n ≤ 0)))) := by
 unfold nodeB; rw [if_neg (by omega), if_neg (by omega), if_pos h]
omit hfl in
theorem nb_def {nd sz op n : Int} {la lk : Nat} (h : op = 4) : nodeB nd sz op n la lk = ((Int.ofNat la == 0) && ((Int.ofNat lk == 1) && (decide (0 ≤ n) && decide (n ≤ nd - 1)))) := by
 unfold nodeB; rw [if_neg (by omega), if_neg (by omega), if_neg (by omega), if_pos h]
omit hfl in
theorem nb_if {nd sz op n : Int} {la lk : Nat} (h : op = 5) : nodeB nd sz op n la lk = ((Int.ofNat la == 1) && ((Int.ofNat lk == 2) && (decide (0 ≤ n) && decide (n ≤ 0)))) := by
 unfold nodeB; rw [if_neg (by omega), if_neg (by omega), if_neg (by omega), if_neg (by omega), if_pos h]
omit hfl in
theorem nb_go {nd sz op n : Int} {la lk : Nat} (h : op = 6 ∨ op = 8) : nodeB nd sz op n la lk = ((Int.ofNat la == 0) && ((Int.ofNat lk == 1) && (decide (0 ≤ n) && decide (n ≤ sz - 1)))) := by
 unfold nodeB; rw [if_neg (by omega), if_neg (by omega), if_neg (by omega), if_neg (by omega), if_neg (by omega), if_pos h]
set_option maxHeartbeats 1000000 in
theorem node_ok {m : Mem} {c ws wk : Nat} {p : AProg} {sz : Int} {e : ANode} (hs1 : 0 ≤ sz) (hs2 : sz ≤ 2 ^ 40) (hc : Cel m c (chkC p ws wk)) (hp : p.OK m) (hok : e.OK m) (hw : Wf m) : CallQ Tryz.prog fl 74 [.ptr c 0, .agg e.cells, iv sz] m (StepQ noS m (nodeB p.defs.length sz e.op e.n e.args.length e.kids.length) (fun _ => True)) := by
 obtain ⟨op, nn, av, kv, args, kids⟩ := e
 obtain ⟨hsa, hsk, _⟩ := hok
 show CallQ Tryz.prog fl 74 [.ptr c 0, .agg [iv op, iv nn, av, kv], iv sz] m (StepQ noS m (nodeB p.defs.length sz op nn args.length kids.length) (fun _ => True))
 have ca := hsa.cell
 have ck := hsk.cell
 have la := hsa.lenM
 have lk := hsk.lenM
 have cd := hp.d.cell
 have ld := hp.d.lenM
 have hdl := hp.d.lt
 rw [List.length_map] at hdl
 have b1 : -(2 ^ 62) ≤ sz - 1 := by omega
 have b2 : sz - 1 < 2 ^ 62 := by omega
 have b3 : -(2 ^ 62) ≤ (Int.ofNat p.defs.length) - 1 := by have : Int.ofNat p.defs.length = (p.defs.length : Int) := rfl; omega
 have b4 : (Int.ofNat p.defs.length) - 1 < 2 ^ 62 := by have : Int.ofNat p.defs.length = (p.defs.length : Int) := rfl; omega
 have ltc := hc.lt hw
 obtain ⟨⟨ec, hcr⟩, fc⟩ := hc
 refine hfl.start (by decide) 62 Tryz.func74 rfl rfl (Nat.le_of_ble_eq_true rfl) ?_
 intro bs hb
 have ar0 := hb 0 _ rfl
 have ar1 := hb 1 _ rfl
 have ar2 := hb 2 _ rfl
 clear hb
 have K : Kept (fun q => m.next ≤ q ∨ noS q) m m := Kept.refl hw
 refine gg ?_
 refine s_new rfl rfl rfl rfl (o_box (e_base rfl ar1) rfl) (fun m1 g => ?_)
 have n1 := g.next
 have h := g.same
 have f := g.fam0 K.wf
 have K := K.g g
 have hcr : m1.heap.get c = some (.row ec [p.fv, p.nv, p.dv, iv p.main, .map ws, .map wk] c 0) := (g.other c (by omega)).trans hcr
 refine gg ?_
 refine w_cond v0 (fun z1 => ?_) (fun z1 => ?_)
 rotate_left
 have z1 := ne_of_beq_false z1
 refine gg ?_
 refine w_cond v0 (fun z7 => ?_) (fun z7 => ?_)
 rotate_left
 have z7 := ne_of_beq_false z7
 refine gg ?_
 refine w_cond v0 (fun z2 => ?_) (fun z2 => ?_)
 rotate_left
 have z2 := ne_of_beq_false z2
 refine gg ?_
 refine w_cond v0 (fun z3 => ?_) (fun z3 => ?_)
 rotate_left
 have z3 := ne_of_beq_false z3
 refine gg ?_
 refine w_cond v0 (fun z4 => ?_) (fun z4 => ?_)
 rotate_left
 have z4 := ne_of_beq_false z4
 refine gg ?_
 refine w_cond v0 (fun z5 => ?_) (fun z5 => ?_)
 rotate_left
 have z5 := ne_of_beq_false z5
 refine gg ?_
 refine w_cond v0 (fun z6 => ?_) (fun z6 => ?_)
 rotate_left
 have z6 := ne_of_beq_false z6
 refine gg ?_
 refine w_cond v0 (fun z8 => ?_) (fun z8 => ?_)
 rotate_left
 ·have z8 := ne_of_beq_false z8
  refine gg ?_
  refine s_val rfl rfl rfl rfl (o_makeI v0 co_213 rfl) ?_
  refine q_panic rfl rfl (o_panic v0 rfl) ?_
  refine w_panics ?_
  exact .inr ⟨by unfold nodeB; rw [if_neg (by omega), if_neg (by omega), if_neg (by omega), if_neg (by omega), if_neg (by omega), if_neg (by omega)], _, _, rfl, K.out⟩
 all_goals
  rw [show nodeB p.defs.length sz op nn args.length kids.length = _ from by first | exact nb_nil (.inl (eq_of_beq z1)) | exact nb_nil (.inr (eq_of_beq z7)) | exact nb_send (eq_of_beq z2) | exact nb_par (eq_of_beq z3) | exact nb_def (eq_of_beq z4) | exact nb_if (eq_of_beq z5) | exact nb_go (.inl (eq_of_beq z6)) | exact nb_go (.inr (eq_of_beq z8))]
  refine gg ?_
  try
   refine w_draw (.L 0 0 0 (.L 1 1 0 (.L 2 3 0 (.L 3 7 0 (.L 4 15 0 (.L 5 31 1 (.L 6 63 1 (.L 7 127 0 (.L 8 0 0 (.L 9 511 0 .fin)))))))))) rfl (by kernel_rfl) ?_
   refine gg ?_
  refine sg (fun c1 => ?_) (fun c1 => ?_) <;> refine gg ?_
  ·refine sg (fun c2 => ?_) (fun c2 => ?_) <;> refine gg ?_
   ·refine s_callD K h f (o_calls (me3 v0 rfl v0)) (among_ok hfl _ _ _ K.wf) (fun m k K h f => ?_)
    refine gg ?_
    refine s_stepE K (Kept.refl (S := noS) K.wf) (o_calls (me1 v0)) (demand_ok hfl _ K.wf) (fun z m' K _ _ => ?_) (fun z m' K _ => ?_)
    ·refine gg ?_
     refine w_fall rfl ?_
     refine w_results Tryz.func74 rv0 ?_
     exact .inl ⟨(by rw [c1, c2, Bool.true_and, Bool.true_and]; exact z), _, _, rfl, K.out, trivial⟩
    ·refine w_panics ?_
     exact .inr ⟨(by rw [c1, c2, Bool.true_and, Bool.true_and]; exact z), _, _, rfl, K.out⟩
   ·refine s_stepE K (Kept.refl (S := noS) K.wf) (o_calls (me1 v0)) (demand_ok hfl _ K.wf) (fun z m' K _ _ => ?_) (fun z m' K _ => ?_)
    ·cases z
    ·refine w_panics ?_
     exact .inr ⟨(by simp only [c1, c2, Bool.not_true, Bool.true_and, Bool.false_and]), _, _, rfl, K.out⟩
  ·refine s_stepE K (Kept.refl (S := noS) K.wf) (o_calls (me1 v0)) (demand_ok hfl _ K.wf) (fun z m' K _ _ => ?_) (fun z m' K _ => ?_)
   ·cases z
   ·refine w_panics ?_
    exact .inr ⟨(by simp only [c1, Bool.not_true, Bool.false_and]), _, _, rfl, K.out⟩
end
noncomputable section
def setI (l : List EntI) : Prop := ∀ x, x ∈ l → x.2.1 = .lit (.bool true)
def inI (j : Int) (l : List EntI) : Bool := (findI j l).isSome
theorem findI_set {j : Int} : ∀ {l : List EntI}, setI l → ∀ u, findI j l = some u → u = .lit (.bool true)
 | l, h, u, e => by
  unfold findI at e
  rw [Option.map_eq_some_iff] at e
  obtain ⟨x, hx, rfl⟩ := e
  exact h x (List.mem_of_find?_eq_some hx)
theorem look_set {j : Int} {l : List EntI} (h : setI l) : (match findI j l with | some v => v | none => .lit (.bool false)) = AVal.lit (.bool (inI j l)) := by
 unfold inI
 cases hf : findI j l with
 | none => rfl
 | some v => rw [findI_set h v hf]; rfl
theorem setI_add {j : Int} {l : List EntI} {c : Nat} (h : setI l) : setI (addI j (.lit (.bool true)) l c) := by
 unfold addI
 cases findI j l with
 | some _ => exact h
 | none =>
  intro x hx
  rcases List.mem_append.1 hx with hx | hx
  ·exact h x hx
  ·rw [List.mem_singleton.1 hx]
theorem setI_nil : setI [] := fun x hx => by cases hx
abbrev SI := List EntI × Nat
def putI (j : Int) (s : SI) : SI := (addI j (.lit (.bool true)) s.1 s.2, clkI j s.1 s.2)
def chAt (chans : List AChan) (j : Int) : AChan := chans.getD j.toNat ⟨0, 0⟩
def joinB (chans : List AChan) (at_ j : Int) (l : List EntI) : Bool := (decide (0 ≤ j) && decide (j ≤ Int.ofNat chans.length - 1)) && (!inI j l && ((chAt chans j).at_ == at_))
def joinsF (chans : List AChan) (at_ : Int) : List Int → SI → Option SI
 | [], s => some s
 | j :: r, s => bif joinB chans at_ j s.1 then joinsF chans at_ r (putI j s) else none
def joinsB (chans : List AChan) (at_ : Int) (l : List Int) : Bool := (decide (1 ≤ Int.ofNat l.length) && decide (Int.ofNat l.length ≤ 3)) && (joinsF chans at_ l ([], 0)).isSome
def broughtF (chans : List AChan) (joins : List Int) : Int := (joins.map fun j => (chAt chans j).many).sum
theorem chAt_mem {chans : List AChan} {j : Int} (h0 : 0 ≤ j) (h1 : j < chans.length) : chAt chans j ∈ chans := by
 have hl : j.toNat < chans.length := by omega
 unfold chAt
 rw [List.getD_eq_getElem?_getD, List.getElem?_eq_getElem hl]
 exact List.getElem_mem hl
theorem ch_at {m : Mem} {cv : AVal} {chans : List AChan} (h : SlA m cv 2 (chans.map AChan.cells)) {i : Nat} (hi : i < chans.length) : ∃ r off c ex row, cv = .slice r off chans.length c ex ∧ m.heap.get r = some (.ro row) ∧ takeN 2 (dropN row (off + i * 2)) = some [iv (chAt chans i).at_, iv (chAt chans i).many] := by
 obtain ⟨r, off, c, ex, row, h1, h2, h3, h4⟩ := h.at (i := i) (e := (chAt chans i).cells) (by
  rw [List.getElem?_map, List.getElem?_eq_getElem hi]
  unfold chAt
  rw [List.getD_eq_getElem?_getD, Int.toNat_natCast, List.getElem?_eq_getElem hi]; rfl)
 rw [List.length_map] at h1
 exact ⟨r, off, c, ex, row, h1, h3, h4⟩
theorem take_two {row : List AVal} {k : Nat} {x y : AVal} (h : takeN 2 (dropN row k) = some [x, y]) : takeN 1 (dropN row (k + 0)) = some [x] ∧ takeN 1 (dropN row (k + 1)) = some [y] := by
 obtain ⟨_, h2⟩ := takeN_spec _ _ _ h
 obtain ⟨_, hx⟩ := h2 0 x rfl
 obtain ⟨_, hy⟩ := h2 1 y rfl
 have e : ∀ j, (dropN row k).drop j = dropN row (k + j) := fun j => by rw [dropN_eq, dropN_eq, List.drop_drop]
 refine ⟨?_, ?_⟩
 ·rw [← e 0]
  exact takeN_sub h (off := 0) (by show takeN 1 [x, y] = _; rw [takeN_cons, hx]; rfl)
 ·rw [← e 1]
  exact takeN_sub h (off := 1) (by show takeN 1 [y] = _; rw [takeN_cons, hy]; rfl)
variable {fl : Fl} (hfl : Tab fl)
include hfl
theorem joins_loop {chans : List AChan} {at_ : Int} {cv z1 z2 jv z4 : AVal} {d4 r5 w : Nat} (nd : d4 ≠ w) (nr : r5 ≠ w) {els : List Int} (k : List AItem) {Q : RR → Prop} {up : Chain} : ∀ (rest pre : List Int) (s : SI) {m : Mem} (b : T AVal), els = pre ++ rest → Wf m → setI s.1 → Cel m d4 [cv, z1, z2] → Cel m r5 [iv at_, jv, z4] → m.heap.get w = some (.map (entsI s.1) s.2) → SlA m cv 2 (chans.map AChan.cells) → SlA m jv 1 (els.map icells) → getT b 4 = .ptr d4 0 → getT b 5 = .ptr r5 0 → getT b 6 = .map w → getT b 16 = jv → getT b 17 = goI els.length → getT b 18 = goI pre.length →
  (∀ (m' : Mem) (b' : T AVal), Kept (fun q => q = w) m m' → (joinsF chans at_ rest s).isSome = true → Wp Tryz.prog fl (At ⟨76, 49, false, none⟩ k b' [] .run up m') Q) →
  (∀ (m' : Mem) (t : List AItem) (b' : T AVal), Kept (fun q => q = w) m m' → (joinsF chans at_ rest s).isSome = false → Wp Tryz.prog fl (At ⟨76, 49, false, none⟩ t b' [] (.panicking unfC) up m') Q) →
  Wp Tryz.prog fl (At ⟨76, 49, false, none⟩ (.code (cAt [true, true, true, true, false, false] (bodyF Tryz.f76)) :: .inLoop (cAt [true, true, true, true, false, false] (bodyF Tryz.f76)) :: .inBlock 0 :: k) (sets 49 b []) [] .run up m) Q := by
 intro rest
 induction rest with
 | nil =>
  intro pre s m b hsp hw hset hd hr5 hm hcs hsl k4 k5 k6 k16 k17 k18 hk hp
  have hlt : decide (Int.ofNat pre.length < Int.ofNat els.length) = false := by subst hsp; simp
  refine gg ?_
  refine Wp.gen (fun b' eb => ?_)
  exact hk _ b' (Kept.refl hw) rfl
 | cons j rest ih =>
  intro pre s m b hsp hw hset hd hr5 hm hcs hsl k4 k5 k6 k16 k17 k18 hk hp
  have hlt : decide (Int.ofNat pre.length < Int.ofNat els.length) = true := by subst hsp; simp; omega
  have hln := hsl.lnT hsp
  have K : Kept (fun q => m.next ≤ q ∨ (fun q => q = w) q) m m := Kept.refl hw
  have kk := Kept.refl (S := noS) hw
  have hd0 := hd
  have hr50 := hr5
  have ld := hd.lt hw
  have lr := hr5.lt hw
  have lw := hw.lt hm
  obtain ⟨⟨ed, hdr⟩, fd⟩ := hd
  obtain ⟨⟨er, hrr⟩, fr⟩ := hr5
  have lc := hcs.lenM
  have cc := hcs.cell
  have cl := hcs.lt
  rw [List.length_map] at cl
  have b1 : -(2 ^ 62) ≤ Int.ofNat chans.length - 1 := by have : Int.ofNat chans.length = (chans.length : Int) := rfl; omega
  have b2 : Int.ofNat chans.length - 1 < 2 ^ 62 := by have : Int.ofNat chans.length = (chans.length : Int) := rfl; omega
  obtain ⟨r, off, c0, ex, row, hv, hlx, hr, htk⟩ := hsl.here hsp
  refine gg ?_
  refine s_val rfl rfl rfl rfl (o_indexAddr ((e_base rfl k16).trans hv) (e_base rfl k18) ElF.h hlx) ?_
  refine s_val rfl rfl rfl rfl (o_loadRo1 v0 hr TyF.h TyF.z (by rw [Nat.mul_one] at htk ⊢; exact htk)) ?_
  refine gg ?_
  refine w_draw (.L 0 0 0 (.L 1 0 0 (.L 2 2 1 (.L 3 6 1 (.L 4 14 0 (.H 5 31 3 (.L 6 63 0 (.L 7 127 0 (.L 8 127 0 (.L 9 511 1 (.L 10 1023 0 (.L 11 2047 0 (.L 12 4095 0 (.L 13 8191 0 (.L 14 16383 1 (.L 15 8191 0 (.L 16 65535 0 (.L 17 131071 0 (.L 18 262143 1 (.L 19 8191 0 (.L 20 532479 1 (.L 21 2097151 0 (.L 22 4194303 0 (.H 23 8388607 3 .fin)))))))))))))))))))))))) rfl (by kernel_rfl) ?_
  refine gg ?_
  refine d_callE K kk (o_calls (me3 v0 rfl v0)) (among_ok hfl _ _ _ K.wf) (lk_skip (by kernel_rfl) (lk_skip (by kernel_rfl) lk0)) (fun m1 K kk => ?_)
  refine ⟨(ck_skip (by kernel_rfl) (ck_skip (by kernel_rfl) ck0)), ?_⟩
  have hm1 := (kk.get w lw id).trans hm
  have hrr1 := (kk.get r5 lr id).trans hrr
  have hdr1 := (kk.get d4 ld id).trans hdr
  by_cases cr : 0 ≤ j ∧ j ≤ Int.ofNat chans.length - 1
  rotate_left
  ·have cr' : (decide (0 ≤ j) && decide (j ≤ Int.ofNat chans.length - 1)) = false := by rw [Bool.and_eq_false_iff, decide_eq_false_iff_not, decide_eq_false_iff_not]; omega
   refine gg ?_
   refine d_stepE K kk (o_calls (me1 v0)) (demand_ok hfl _ K.wf) lk0 (fun z m' K kk _ => ?_) (fun z m' K kk => ?_)
   ·cases z
   ·exact hp _ _ _ K.out (by simp only [joinsF, joinB, cr', Bool.false_and, cond_false]; rfl)
  have cr' : (decide (0 ≤ j) && decide (j ≤ Int.ofNat chans.length - 1)) = true := by rw [Bool.and_eq_true, decide_eq_true_eq, decide_eq_true_eq]; exact cr
  refine gg ?_
  refine d_light1 rfl rfl (gT rfl ⟨v0⟩ (by assumption)).h rfl (o_lookupI v0 v0 hm1 mk_216 ui3 tz4 (look_set hset)) ?_
  by_cases ci : inI j s.1 = true
  ·refine gg ?_
   refine d_stepE K kk (o_calls (me1 v0)) (demand_ok hfl _ K.wf) (lk_skip (by kernel_rfl) lk0) (fun z m' K kk _ => ?_) (fun z m' K kk => ?_)
   ·first | cases z | (rw [ci] at z; cases z)
   ·exact hp _ _ _ K.out (by simp only [joinsF, joinB, cr', ci, Bool.not_true, Bool.true_and, Bool.false_and, cond_false]; rfl)
  have ci : inI j s.1 = false := by simpa using ci
  obtain ⟨i, rfl⟩ : ∃ i : Nat, j = Int.ofNat i := ⟨j.toNat, by show j = (j.toNat : Int); omega⟩
  have hi : i < chans.length := by have h : (i : Int) ≤ (chans.length : Int) - 1 := cr.2; omega
  obtain ⟨rc, oc, cc1, ec1, rowc, hvc, hrc, htc⟩ := ch_at hcs hi
  obtain ⟨ht0, ht1⟩ := take_two htc
  have ci' : (!inI (Int.ofNat i) s.1) = true := by rw [ci]; rfl
  refine gg ?_
  subst hvc
  refine d_light0 rfl rfl (gT rfl ⟨v0⟩ (by assumption)).h rfl (o_indexAddr v0 v0 ElF.h hi) ?_
  refine gg ?_
  refine d_light1 rfl rfl (gT rfl ⟨v0⟩ (by assumption)).h rfl (o_loadRo1 v0 (K.ro _ _ hrc) TyF.h TyF.z ht0) ?_
  refine gg ?_
  refine d_stepE K kk (o_calls (me1 v0)) (demand_ok hfl _ K.wf) (lk_skip (by kernel_rfl) (lk_skip (by kernel_rfl) (lk_skip (by kernel_rfl) (lk_skip (by kernel_rfl) lk0)))) (fun z m' K kk _ => ?_) (fun z m' K kk => ?_)
  rotate_left
  ·exact hp _ _ _ K.out (by
    have z : ((chAt chans (Int.ofNat i)).at_ == at_) = false := z
    simp only [joinsF, joinB, cr', ci', z, Bool.true_and, cond_false]; rfl)
  have z : ((chAt chans (Int.ofNat i)).at_ == at_) = true := z
  refine ⟨(ck_skip (by kernel_rfl) (ck_skip (by kernel_rfl) (ck_skip (by kernel_rfl) (ck_skip (by kernel_rfl) ck0)))), ?_⟩
  have hm2 := (kk.get w lw id).trans hm
  refine gg ?_
  refine s_put0 rfl rfl rfl (o_updateI v0 v0 rfl hm2 mk_216 ui3 (fun u e => findI_set hset u e)) (fun m3 g => ?_)
  have K := K.w g hm2 (fun _ h => by cases h) (Or.inr rfl)
  have hm3 := g.same
  refine gg ?_
  refine w_inLoop ?_
  refine Wp.gen (fun b' eb => ?_)
  have e : joinsF chans at_ (Int.ofNat i :: rest) s = joinsF chans at_ rest (putI (Int.ofNat i) s) := by simp only [joinsF, joinB, cr', ci', z, Bool.true_and, cond_true]
  rw [e] at hk hp
  exact ih (pre ++ [Int.ofNat i]) (putI (Int.ofNat i) s) b' (by simp [hsp]) K.wf (setI_add hset) (hd0.kept K ld (by rintro (h | h); omega; exact nd h)) (hr50.kept K lr (by rintro (h | h); omega; exact nr h)) hm3 (hcs.kept K) (hsl.kept K) (eqb eb (e_base rfl k4)) (eqb eb (e_base rfl k5)) (eqb eb (e_base rfl k6)) (eqb eb (e_base rfl k16)) (eqb eb (e_base rfl k17)) (eqb eb ((e_hit rfl).trans (by rw [List.length_append]; rfl))) (fun m' b' k h => hk m' b' (K.out.trans k) h) (fun m' t b' k h => hp m' t b' (K.out.trans k) h)
theorem joins_ok {m : Mem} {c : AVal} {d : ADf} {r : ARule} (hd : d.OK m) (hr : r.OK m) (hw : Wf m) : CallQ Tryz.prog fl 76 [c, .agg d.cells, .agg r.cells] m (StepQ noS m (joinsB d.chans r.at_ r.joins) (fun _ => True)) := by
 obtain ⟨cv, sv, rv, chans, spots, rules⟩ := d
 obtain ⟨at_, jv, joins, node⟩ := r
 have hcs := hd.c
 have hsl : SlA m jv 1 (joins.map icells) := hr
 show CallQ Tryz.prog fl 76 [c, .agg [cv, sv, rv], .agg [iv at_, jv, iv node]] m (StepQ noS m (joinsB chans at_ joins) (fun _ => True))
 have cj := hsl.cell
 have lj := hsl.lenM
 refine hfl.start (by decide) 49 Tryz.func76 rfl rfl (Nat.le_of_ble_eq_true rfl) ?_
 intro bs hb
 have ar1 := hb 1 _ rfl
 have ar2 := hb 2 _ rfl
 clear hb
 have K : Kept (fun q => m.next ≤ q ∨ noS q) m m := Kept.refl hw
 refine gg ?_
 refine s_new rfl rfl rfl rfl (o_box (e_base rfl ar1) rfl) (fun m1 g => ?_)
 have n1 := g.next
 have f1 := g.fam0 K.wf
 have h1 := g.same
 have K := K.g g
 refine s_new rfl rfl rfl rfl (o_box (e_base rfl ar2) rfl) (fun m2 g => ?_)
 have n2 := g.next
 have f2 := g.fam0 K.wf
 have h2 := g.same
 have h1 := (g.other m.next (by omega)).trans h1
 have f1 := (g.famo m.next).trans f1
 have K := K.g g
 refine gg ?_
 have kk := Kept.refl (S := noS) K.wf
 have l1 := K.wf.lt h1
 have l2 := K.wf.lt h2
 refine s_callE K kk (o_calls (me3 v0 rfl rfl)) (among_ok hfl _ _ _ K.wf) (fun m3 K kk => ?_)
 refine gg ?_
 refine s_stepE K kk (o_calls (me1 v0)) (demand_ok hfl _ K.wf) (fun z m3 K kk _ => ?_) (fun z m3 K kk => ?_)
 rotate_left
 ·refine w_panics ?_
  exact .inr ⟨by unfold joinsB; rw [show (decide (1 ≤ Int.ofNat joins.length) && decide (Int.ofNat joins.length ≤ 3)) = false from z]; rfl, _, _, rfl, K.out⟩
 have z : (decide (1 ≤ Int.ofNat joins.length) && decide (Int.ofNat joins.length ≤ 3)) = true := z
 have h1 := (kk.get _ l1 id).trans h1
 have f1 := (kk.fam _ l1 id).trans f1
 have h2 := (kk.get _ l2 id).trans h2
 have f2 := (kk.fam _ l2 id).trans f2
 have nx := K.next
 have nk := kk.next
 refine gg ?_
 refine s_new rfl rfl rfl rfl o_makeMap0 (fun m4 g => ?_)
 have h1 : m4.heap.get m.next = some (.row (66, 0) [cv, sv, rv] m.next 0) := (g.other _ (by omega)).trans h1
 have h2 : m4.heap.get m1.next = some (.row (120, 0) [iv at_, jv, iv node] m1.next 0) := (g.other _ (by omega)).trans h2
 have f1 := (g.famo m.next).trans f1
 have f2 := (g.famo m1.next).trans f2
 have hm := g.same
 have K := K.g g
 refine gg ?_
 refine w_loop ?_
 refine Wp.gen (fun b0 eb => ?_)
 have e : joinsB chans at_ joins = (joinsF chans at_ joins ([], 0)).isSome := by unfold joinsB; rw [z, Bool.true_and]
 rw [e]
 refine joins_loop hfl (chans := chans) (at_ := at_) (nd := by omega) (nr := by omega) (els := joins) _ joins [] ([], 0) b0 rfl K.wf setI_nil (Cel.of h1 f1) (Cel.of h2 f2) hm (hcs.kept K) (hsl.kept K) (eqb eb v0) (eqb eb v0) (eqb eb v0) (eqb eb v0) (eqb eb v0) (eqb eb v0) (fun m' b' k h => ?_) (fun m' t b' k h => ?_)
 ·have K := K.k k (fun q h => Or.inl (by omega))
  change Wp Tryz.prog fl (At _ _ (sets 49 b' []) _ _ _ _) _
  refine w_fall rfl ?_
  refine w_results Tryz.func76 rv0 ?_
  exact .inl ⟨h, _, _, rfl, K.out, trivial⟩
 ·have K := K.k k (fun q h => Or.inl (by omega))
  refine w_panics ?_
  exact .inr ⟨h, _, _, rfl, K.out⟩
theorem brought_loop {chans : List AChan} {cv z1 z2 jv : AVal} {d2 : Nat} (hch : ∀ c, c ∈ chans → 0 ≤ c.many ∧ c.many ≤ 3) {els : List Int} (hel : ∀ j, j ∈ els → 0 ≤ j ∧ j < chans.length) (k : List AItem) {Q : RR → Prop} {up : Chain} : ∀ (rest pre : List Int) (x : Int) {m : Mem} (b : T AVal), els = pre ++ rest → Wf m → 0 ≤ x → x ≤ 1000 * pre.length → els.length ≤ 1000 → Cel m d2 [cv, z1, z2] → SlA m cv 2 (chans.map AChan.cells) → SlA m jv 1 (els.map icells) → getT b 2 = .ptr d2 0 → getT b 5 = iv x → getT b 9 = jv → getT b 10 = goI els.length → getT b 11 = goI pre.length →
  (∀ (b' : T AVal), getT b' 5 = iv (x + broughtF chans rest) → Wp Tryz.prog fl (At ⟨73, 25, false, none⟩ k b' [] .run up m) Q) →
  Wp Tryz.prog fl (At ⟨73, 25, false, none⟩ (.code (cAt [true, true, false, true, false, false] (bodyF Tryz.f73)) :: .inLoop (cAt [true, true, false, true, false, false] (bodyF Tryz.f73)) :: .inBlock 0 :: k) (sets 25 b []) [] .run up m) Q := by
 have _ := hfl
 intro rest
 induction rest with
 | nil =>
  intro pre x m b hsp hw hx0 hx1 hll hd hcs hsl k2 k5 k9 k10 k11 hk
  have hlt : decide (Int.ofNat pre.length < Int.ofNat els.length) = false := by subst hsp; simp
  refine gg ?_
  refine Wp.gen (fun b' eb => ?_)
  exact hk _ ((eqb eb (e_base rfl k5)).trans (congrArg iv (by show x = x + 0; omega)))
 | cons j rest ih =>
  intro pre x m b hsp hw hx0 hx1 hll hd hcs hsl k2 k5 k9 k10 k11 hk
  have hlt : decide (Int.ofNat pre.length < Int.ofNat els.length) = true := by subst hsp; simp; omega
  have hln := hsl.lnT hsp
  have hpl : pre.length < els.length := by rw [hsp]; simp
  have hd0 := hd
  obtain ⟨⟨ed, hdr⟩, fd⟩ := hd
  have cc := hcs.cell
  obtain ⟨h0, h1⟩ := hel j (by rw [hsp]; simp)
  obtain ⟨r, off, c0, ex, row, hv, hlx, hr, htk⟩ := hsl.here hsp
  obtain ⟨i, rfl⟩ : ∃ i : Nat, j = Int.ofNat i := ⟨j.toNat, by show j = (j.toNat : Int); omega⟩
  have hi : i < chans.length := by have h : (i : Int) < (chans.length : Int) := h1; omega
  have hmany := hch _ (chAt_mem h0 h1)
  obtain ⟨rc, oc, cc1, ec1, rowc, hvc, hrc, htc⟩ := ch_at hcs hi
  obtain ⟨ht0, ht1⟩ := take_two htc
  have b1 : -(2 ^ 62) ≤ x + (chAt chans (Int.ofNat i)).many := by omega
  have b2 : x + (chAt chans (Int.ofNat i)).many < 2 ^ 62 := by omega
  refine gg ?_
  refine s_val rfl rfl rfl rfl (o_indexAddr ((e_base rfl k9).trans hv) (e_base rfl k11) ElF.h hlx) ?_
  refine s_val rfl rfl rfl rfl (o_loadRo1 v0 hr TyF.h TyF.z (by rw [Nat.mul_one] at htk ⊢; exact htk)) ?_
  subst hvc
  refine gg ?_
  refine s_val rfl rfl rfl rfl (o_indexAddr v0 v0 ElF.h hi) ?_
  refine gg ?_
  refine s_val rfl rfl rfl rfl (o_loadRo1 v0 hrc TyF.h TyF.z ht1) ?_
  refine s_val rfl rfl rfl rfl (o_addI v0 v0 b1 b2) ?_
  refine gg ?_
  refine w_inLoop ?_
  refine Wp.gen (fun b' eb => ?_)
  refine ih (pre ++ [Int.ofNat i]) (x + (chAt chans (Int.ofNat i)).many) b' (by simp [hsp]) hw (by omega) (by rw [List.length_append, List.length_singleton]; omega) hll hd0 hcs hsl (eqb eb (e_base rfl k2)) (eqb eb v0) (eqb eb (e_base rfl k9)) (eqb eb (e_base rfl k10)) (eqb eb ((e_hit rfl).trans (by rw [List.length_append]; rfl))) (fun b' h => hk b' (h.trans (congrArg iv ?_)))
  unfold broughtF
  rw [List.map_cons, List.sum_cons]; omega
theorem brought_ok {m : Mem} {d : ADf} {r : ARule} (hd : d.OK m) (hr : r.OK m) (hch : ∀ c, c ∈ d.chans → 0 ≤ c.many ∧ c.many ≤ 3) (hel : ∀ j, j ∈ r.joins → 0 ≤ j ∧ j < d.chans.length) (hll : r.joins.length ≤ 1000) (hw : Wf m) : CallQ Tryz.prog fl 73 [.agg d.cells, .agg r.cells] m (Rets noS m (iv (broughtF d.chans r.joins))) := by
 obtain ⟨cv, sv, rv, chans, spots, rules⟩ := d
 obtain ⟨at_, jv, joins, node⟩ := r
 have hcs := hd.c
 have hsl : SlA m jv 1 (joins.map icells) := hr
 show CallQ Tryz.prog fl 73 [.agg [cv, sv, rv], .agg [iv at_, jv, iv node]] m (Rets noS m (iv (broughtF chans joins)))
 have cj := hsl.cell
 have lj := hsl.lenM
 refine hfl.start (by decide) 25 Tryz.func73 rfl rfl (Nat.le_of_ble_eq_true rfl) ?_
 intro bs hb
 have ar0 := hb 0 _ rfl
 have ar1 := hb 1 _ rfl
 clear hb
 have K : Kept (fun q => m.next ≤ q ∨ noS q) m m := Kept.refl hw
 refine gg ?_
 refine s_new rfl rfl rfl rfl (o_box (e_base rfl ar0) rfl) (fun m1 g => ?_)
 have n1 := g.next
 have f1 := g.fam0 K.wf
 have h1 := g.same
 have K := K.g g
 refine s_new rfl rfl rfl rfl (o_box (e_base rfl ar1) rfl) (fun m2 g => ?_)
 have n2 := g.next
 have h2 := g.same
 have h1 := (g.other m.next (by omega)).trans h1
 have f1 := (g.famo m.next).trans f1
 have K := K.g g
 refine gg ?_
 refine w_loop ?_
 refine Wp.gen (fun b0 eb => ?_)
 refine brought_loop hfl (chans := chans) hch (els := joins) hel _ joins [] 0 b0 rfl K.wf (by omega) (by simp) hll (Cel.of h1 f1) (hcs.kept K) (hsl.kept K) (eqb eb v0) (eqb eb v0) (eqb eb v0) (eqb eb v0) (eqb eb v0) (fun b' h => ?_)
 change Wp Tryz.prog fl (At _ _ (sets 25 b' []) _ _ _ _) _
 refine gg ?_
 refine w_retAt rfl ?_
 refine w_results Tryz.func73 (rv1 v0) ?_
 exact ⟨_, _, congrArg (fun i => RR.ret (iv i) _ _) (by omega), K.out⟩
end
noncomputable section
theorem o_max3 {P : Program} {tmps : T AVal} {m : Mem} {x y z : Operand} {ats : Array TypeId} {a b c : Int} (hx : evalT tmps x = iv a) (hy : evalT tmps y = iv b) (hz : evalT tmps z = iv c) : aop P tmps m (.call ⟨.builtin .max, #[x, y, z], ats⟩) = .val (iv (max (max a b) c)) m := by
 show litsOp P m (Go.Builtin.max_ #[] 0) "max" (toLits [evalT tmps x, evalT tmps y, evalT tmps z]) = _
 rw [hx, hy, hz]
 show pureOp P (Go.Builtin.max_ #[] 0 #[.int .i64 a, .int .i64 b, .int .i64 c]) m "max" = _
 have e : (if c > (if b > a then b else a) then c else (if b > a then b else a)) = max (max a b) c := by split <;> split <;> omega
 rw [← e]; rfl
theorem um_216 : ∃ k e, Tryz.prog.underlying 74 = some (.map k e) := ⟨3, 4, by kernel_rfl⟩
theorem um_215 : ∃ k e, Tryz.prog.underlying 73 = some (.map k e) := ⟨3, 3, by kernel_rfl⟩
theorem o_lenMap {tmps : T AVal} {m : Mem} {x : Operand} {t : TypeId} {r c : Nat} {l : List EntI} (hu : ∃ k e, Tryz.prog.underlying t = some (.map k e)) (hx : evalT tmps x = .map r) (hr : m.heap.get r = some (.map (entsI l) c)) : aop Tryz.prog tmps m (.call ⟨.builtin .len, #[x], #[t]⟩) = .val (goI l.length) m := by
 obtain ⟨k, e, hu⟩ := hu
 show lenD m (evalT tmps x) (Tryz.prog.underlying t) = _
 rw [hx, hu]
 show lenMap m (m.heap.get r) = _
 rw [hr]
 show Out.val (AVal.lit (.int .i64 (Int.ofNat (lenL (entsI l))))) m = _
 rw [lenL_eq]
 unfold entsI
 rw [List.length_map]; rfl
def chB (ns : Nat) (c : AChan) : Bool := (decide (0 ≤ c.at_) && decide (c.at_ ≤ Int.ofNat ns)) && (decide (0 ≤ c.many) && decide (c.many ≤ 3))
def spotsF : Nat → List ASpot → Bool
 | _, [] => true
 | i, s :: r => (decide (0 ≤ s.inn) && decide (s.inn ≤ Int.ofNat i)) && spotsF (i + 1) r
def rulesF (chans : List AChan) : List ARule → SI → Option SI
 | [], s => some s
 | r :: l, s => bif joinsB chans r.at_ r.joins then rulesF chans l (r.joins.foldl (fun s j => putI j s) s) else none
def endB (chans : List AChan) : Option SI → Bool
 | some s => Int.ofNat s.1.length == Int.ofNat chans.length
 | none => false
def defB (d : ADf) : Bool := decide (max (max (Int.ofNat d.chans.length) (Int.ofNat d.spots.length)) (Int.ofNat d.rules.length) ≤ 30) && (d.chans.all (chB d.spots.length) && (spotsF 0 d.spots && endB d.chans (rulesF d.chans d.rules ([], 0))))
variable {fl : Fl} (hfl : Tab fl)
include hfl
theorem chans_loop {cv sv rv : AVal} {spots : List ASpot} {d3 : Nat} {els : List AChan} (k : List AItem) {Q : RR → Prop} {up : Chain} {z : AVal} : ∀ (rest pre : List AChan) {m : Mem} (b : T AVal), els = pre ++ rest → Wf m → Cel m d3 [cv, sv, rv] → SlA m cv 2 (els.map AChan.cells) → SlA m sv 2 (spots.map ASpot.cells) → getT b 0 = z → getT b 3 = .ptr d3 0 → getT b 26 = cv → getT b 27 = goI els.length → getT b 28 = goI pre.length →
  (∀ (m' : Mem) (b' : T AVal), Kept noS m m' → rest.all (chB spots.length) = true → getT b' 0 = z → getT b' 3 = .ptr d3 0 → Wp Tryz.prog fl (At ⟨45, 89, false, none⟩ k b' [] .run up m') Q) →
  (∀ (m' : Mem) (t : List AItem) (b' : T AVal), Kept noS m m' → rest.all (chB spots.length) = false → Wp Tryz.prog fl (At ⟨45, 89, false, none⟩ t b' [] (.panicking unfC) up m') Q) →
  Wp Tryz.prog fl (At ⟨45, 89, false, none⟩ (.code (cAt [true, true, false, true, false, false] (bodyF Tryz.f45)) :: .inLoop (cAt [true, true, false, true, false, false] (bodyF Tryz.f45)) :: .inBlock 0 :: k) (sets 89 b []) [] .run up m) Q := by
 intro rest
 induction rest with
 | nil =>
  intro pre m b hsp hw hd hsl hss k0 k3 k26 k27 k28 hk hp
  have hlt : decide (Int.ofNat pre.length < Int.ofNat els.length) = false := by subst hsp; simp
  refine gg ?_
  refine Wp.gen (fun b' eb => ?_)
  exact hk _ b' (Kept.refl hw) rfl (eqb eb (e_base rfl k0)) (eqb eb (e_base rfl k3))
 | cons y rest ih =>
  intro pre m b hsp hw hd hsl hss k0 k3 k26 k27 k28 hk hp
  have hlt : decide (Int.ofNat pre.length < Int.ofNat els.length) = true := by subst hsp; simp; omega
  have hln := hsl.lnT hsp
  have K : Kept (fun q => m.next ≤ q ∨ noS q) m m := Kept.refl hw
  have hd0 := hd
  have ld := hd.lt hw
  have cs := hss.cell
  have ls := hss.lenM
  have cc := hsl.cell
  obtain ⟨⟨ed, hdr⟩, fd⟩ := hd
  have hsl0 := hsl
  obtain ⟨r, off, c0, ex, row, hv, hlx, hr, htk⟩ := hsl.here hsp
  subst hv
  refine gg ?_
  refine s_val rfl rfl rfl rfl (o_indexAddr (e_base rfl k26) (e_base rfl k28) ElF.h hlx) ?_
  refine s_val rfl rfl rfl rfl (o_loadRoA v0 hr (TyF.h (s := _)) (TyF.z (g := true)) htk) ?_
  refine gg ?_
  refine s_new rfl rfl rfl rfl (o_alloc ZcF.h) (fun m1 g => ?_)
  have n1 := g.next
  have h := g.same
  have f := g.fam0 K.wf
  have K := K.g g
  have hdr := (g.other d3 (by omega)).trans hdr
  refine gg ?_
  refine s_put0 rfl rfl rfl (o_store v0 v0 h f TyF.z rfl rfl rfl rfl) (fun m2 g2 => ?_)
  have K := K.w g2 h (fun _ h => by cases h) (Or.inl (by omega))
  have f := (g2.famo m.next).trans f
  have hdr := (g2.other d3 (by omega)).trans hdr
  have h : m2.heap.get m.next = some (.row (61, 0) [iv y.at_, iv y.many] m.next 0) := g2.same
  refine gg ?_
  refine s_callD K h f (o_calls (me3 v0 rfl v0)) (among_ok hfl _ _ _ K.wf) (fun m3 kx K h f => ?_)
  refine gg ?_
  have e : (y :: rest).all (chB spots.length) = (chB spots.length y && rest.all (chB spots.length)) := rfl
  rw [e] at hk hp
  refine sg (fun c1 => ?_) (fun c1 => ?_)
  rotate_left
  ·have c1 : (decide (0 ≤ y.at_) && decide (y.at_ ≤ Int.ofNat spots.length)) = false := c1
   refine gg ?_
   refine s_stepE K (Kept.refl (S := noS) K.wf) (o_calls (me1 v0)) (demand_ok hfl _ K.wf) (fun z m' K _ _ => ?_) (fun z m' K _ => ?_)
   ·first | cases z | (rw [c1] at z; cases z)
   ·exact hp _ _ _ K.out (by unfold chB; rw [c1]; rfl)
  have c1 : (decide (0 ≤ y.at_) && decide (y.at_ ≤ Int.ofNat spots.length)) = true := c1
  refine gg ?_
  refine s_callD K h f (o_calls (me3 v0 rfl rfl)) (among_ok hfl _ _ _ K.wf) (fun m3 kx K h f => ?_)
  refine gg ?_
  refine s_stepE K (Kept.refl (S := noS) K.wf) (o_calls (me1 v0)) (demand_ok hfl _ K.wf) (fun z m' K _ _ => ?_) (fun z m' K _ => ?_)
  rotate_left
  ·have z : (decide (0 ≤ y.many) && decide (y.many ≤ 3)) = false := z
   exact hp _ _ _ K.out (by unfold chB; rw [c1, z]; rfl)
  have z : (decide (0 ≤ y.many) && decide (y.many ≤ 3)) = true := z
  refine gg ?_
  refine w_inLoop ?_
  refine Wp.gen (fun b' eb => ?_)
  have c2 : chB spots.length y = true := by unfold chB; rw [c1, z]; rfl
  rw [c2, Bool.true_and] at hk hp
  exact ih (pre ++ [y]) b' (by simp [hsp]) K.wf (hd0.kept K ld (by rintro (h | h); omega; exact h)) (hsl0.kept K) (hss.kept K) (eqb eb (e_base rfl k0)) (eqb eb (e_base rfl k3)) (eqb eb (e_base rfl k26)) (eqb eb (e_base rfl k27)) (eqb eb ((e_hit rfl).trans (by rw [List.length_append]; rfl))) (fun m' b' k h => hk m' b' (K.out.trans k) h) (fun m' t b' k h => hp m' t b' (K.out.trans k) h)
theorem spots_loop {cv sv rv : AVal} {d3 : Nat} {els : List ASpot} (k : List AItem) {Q : RR → Prop} {up : Chain} {z : AVal} : ∀ (rest pre : List ASpot) {m : Mem} (b : T AVal), els = pre ++ rest → Wf m → Cel m d3 [cv, sv, rv] → SlA m sv 2 (els.map ASpot.cells) → getT b 0 = z → getT b 3 = .ptr d3 0 → getT b 46 = sv → getT b 47 = goI els.length → getT b 48 = goI pre.length →
  (∀ (m' : Mem) (b' : T AVal), Kept noS m m' → spotsF pre.length rest = true → getT b' 0 = z → getT b' 3 = .ptr d3 0 → Wp Tryz.prog fl (At ⟨45, 89, false, none⟩ k b' [] .run up m') Q) →
  (∀ (m' : Mem) (t : List AItem) (b' : T AVal), Kept noS m m' → spotsF pre.length rest = false → Wp Tryz.prog fl (At ⟨45, 89, false, none⟩ t b' [] (.panicking unfC) up m') Q) →
  Wp Tryz.prog fl (At ⟨45, 89, false, none⟩ (.code (cAt [true, true, true, false, true, false, false] (bodyF Tryz.f45)) :: .inLoop (cAt [true, true, true, false, true, false, false] (bodyF Tryz.f45)) :: .inBlock 2 :: k) (sets 89 b []) [] .run up m) Q := by
 intro rest
 induction rest with
 | nil =>
  intro pre m b hsp hw hd hsl k0 k3 k26 k27 k28 hk hp
  have hlt : decide (Int.ofNat pre.length < Int.ofNat els.length) = false := by subst hsp; simp
  refine gg ?_
  refine Wp.gen (fun b' eb => ?_)
  exact hk _ b' (Kept.refl hw) rfl (eqb eb (e_base rfl k0)) (eqb eb (e_base rfl k3))
 | cons y rest ih =>
  intro pre m b hsp hw hd hsl k0 k3 k26 k27 k28 hk hp
  have hlt : decide (Int.ofNat pre.length < Int.ofNat els.length) = true := by subst hsp; simp; omega
  have hln := hsl.lnT hsp
  have K : Kept (fun q => m.next ≤ q ∨ noS q) m m := Kept.refl hw
  have hd0 := hd
  have ld := hd.lt hw
  have cc := hsl.cell
  have hsl0 := hsl
  obtain ⟨r, off, c0, ex, row, hv, hlx, hr, htk⟩ := hsl.here hsp
  subst hv
  refine gg ?_
  refine s_val rfl rfl rfl rfl (o_indexAddr (e_base rfl k26) (e_base rfl k28) ElF.h hlx) ?_
  refine s_val rfl rfl rfl rfl (o_loadRoA v0 hr (TyF.h (s := _)) (TyF.z (g := true)) htk) ?_
  refine gg ?_
  refine s_new rfl rfl rfl rfl (o_alloc ZcF.h) (fun m1 g => ?_)
  have n1 := g.next
  have h := g.same
  have f := g.fam0 K.wf
  have K := K.g g
  refine gg ?_
  refine s_put0 rfl rfl rfl (o_store v0 v0 h f TyF.z rfl rfl rfl rfl) (fun m2 g2 => ?_)
  have K := K.w g2 h (fun _ h => by cases h) (Or.inl (by omega))
  have f := (g2.famo m.next).trans f
  have h : m2.heap.get m.next = some (.row (117, 0) [iv y.inn, iv y.node] m.next 0) := g2.same
  refine gg ?_
  refine s_callD K h f (o_calls (me3 v0 rfl v0)) (among_ok hfl _ _ _ K.wf) (fun m3 kx K h f => ?_)
  refine gg ?_
  refine s_stepE K (Kept.refl (S := noS) K.wf) (o_calls (me1 v0)) (demand_ok hfl _ K.wf) (fun z m' K _ _ => ?_) (fun z m' K _ => ?_)
  rotate_left
  ·have z : (decide (0 ≤ y.inn) && decide (y.inn ≤ Int.ofNat pre.length)) = false := z
   exact hp _ _ _ K.out (by show (_ && _) = false; rw [z]; rfl)
  have z : (decide (0 ≤ y.inn) && decide (y.inn ≤ Int.ofNat pre.length)) = true := z
  refine gg ?_
  refine w_inLoop ?_
  refine Wp.gen (fun b' eb => ?_)
  have e : spotsF pre.length (y :: rest) = spotsF (pre ++ [y]).length rest := by
   show (_ && spotsF (pre.length + 1) rest) = _
   rw [z, List.length_append]; rfl
  rw [e] at hk hp
  exact ih (pre ++ [y]) b' (by simp [hsp]) K.wf (hd0.kept K ld (by rintro (h | h); omega; exact h)) (hsl0.kept K) (eqb eb (e_base rfl k0)) (eqb eb (e_base rfl k3)) (eqb eb (e_base rfl k26)) (eqb eb (e_base rfl k27)) (eqb eb ((e_hit rfl).trans (by rw [List.length_append]; rfl))) (fun m' b' k h => hk m' b' (K.out.trans k) h) (fun m' t b' k h => hp m' t b' (K.out.trans k) h)
end
noncomputable section
theorem setI_fold : ∀ (l : List Int) (s : SI), setI s.1 → setI (l.foldl (fun s j => putI j s) s).1
 | [], _s, h => h
 | j :: l, s, h => setI_fold l (putI j s) (setI_add h)
variable {fl : Fl} (hfl : Tab fl)
include hfl
omit hfl in
theorem join_loop {jv z0 z62 : AVal} {w d3 : Nat} {rv x63 : AVal} {els : List Int} (k : List AItem) {Q : RR → Prop} {up : Chain} : ∀ (rest pre : List Int) (s : SI) {m : Mem} (b : T AVal), els = pre ++ rest → Wf m → setI s.1 → m.heap.get w = some (.map (entsI s.1) s.2) → SlA m jv 1 (els.map icells) → getT b 0 = z0 → getT b 3 = .ptr d3 0 → getT b 8 = .map w → getT b 61 = rv → getT b 62 = z62 → getT b 63 = x63 → getT b 72 = jv → getT b 73 = goI els.length → getT b 74 = goI pre.length →
  (∀ (m' : Mem) (b' : T AVal), Kept (fun q => q = w) m m' → m'.heap.get w = some (.map (entsI (rest.foldl (fun s j => putI j s) s).1) (rest.foldl (fun s j => putI j s) s).2) → getT b' 0 = z0 → getT b' 3 = .ptr d3 0 → getT b' 8 = .map w → getT b' 61 = rv → getT b' 62 = z62 → getT b' 63 = x63 → Wp Tryz.prog fl (At ⟨45, 89, false, none⟩ k b' [] .run up m') Q) →
  Wp Tryz.prog fl (At ⟨45, 89, false, none⟩ (.code (cAt [true, true, true, true, true, false, true, false, false, true, true, false, false, true, true, true, false, false] (bodyF Tryz.f45)) :: .inLoop (cAt [true, true, true, true, true, false, true, false, false, true, true, false, false, true, true, true, false, false] (bodyF Tryz.f45)) :: .inBlock 6 :: k) (sets 89 b []) [] .run up m) Q := by
 intro rest
 induction rest with
 | nil =>
  intro pre s m b hsp hw hset hm hsl k0 k3 k8 k61 k62 k63 k72 k73 k74 hk
  have hlt : decide (Int.ofNat pre.length < Int.ofNat els.length) = false := by subst hsp; simp
  refine gg ?_
  refine Wp.gen (fun b' eb => ?_)
  exact hk _ b' (Kept.refl hw) hm (eqb eb (e_base rfl k0)) (eqb eb (e_base rfl k3)) (eqb eb (e_base rfl k8)) (eqb eb (e_base rfl k61)) (eqb eb (e_base rfl k62)) (eqb eb (e_base rfl k63))
 | cons j rest ih =>
  intro pre s m b hsp hw hset hm hsl k0 k3 k8 k61 k62 k63 k72 k73 k74 hk
  have hlt : decide (Int.ofNat pre.length < Int.ofNat els.length) = true := by subst hsp; simp; omega
  have hln := hsl.lnT hsp
  have K : Kept (fun q => m.next ≤ q ∨ (fun q => q = w) q) m m := Kept.refl hw
  obtain ⟨r, off, c0, ex, row, hv, hlx, hr, htk⟩ := hsl.here hsp
  refine gg ?_
  refine s_val rfl rfl rfl rfl (o_indexAddr ((e_base rfl k72).trans hv) (e_base rfl k74) ElF.h hlx) ?_
  refine s_val rfl rfl rfl rfl (o_loadRo1 v0 hr TyF.h TyF.z (by rw [Nat.mul_one] at htk ⊢; exact htk)) ?_
  refine gg ?_
  refine s_put0 rfl rfl rfl (o_updateI v0 v0 rfl hm mk_216 ui3 (fun u e => findI_set hset u e)) (fun m3 g => ?_)
  have K := K.w g hm (fun _ h => by cases h) (Or.inr rfl)
  refine gg ?_
  refine w_inLoop ?_
  refine Wp.gen (fun b' eb => ?_)
  exact ih (pre ++ [j]) (putI j s) b' (by simp [hsp]) K.wf (setI_add hset) g.same (hsl.kept K) (eqb eb (e_base rfl k0)) (eqb eb (e_base rfl k3)) (eqb eb (e_base rfl k8)) (eqb eb (e_base rfl k61)) (eqb eb (e_base rfl k62)) (eqb eb (e_base rfl k63)) (eqb eb (e_base rfl k72)) (eqb eb (e_base rfl k73)) (eqb eb ((e_hit rfl).trans (by rw [List.length_append]; rfl))) (fun m' b' k h => hk m' b' (K.out.trans k) h)
theorem rules_loop {chans : List AChan} {cv sv rv z0 : AVal} {spots : List ASpot} {els : List ARule} {d3 w : Nat} (nd : d3 ≠ w) (k : List AItem) {Q : RR → Prop} {up : Chain} : ∀ (rest pre : List ARule) (s : SI) {m : Mem} (b : T AVal), els = pre ++ rest → Wf m → setI s.1 → Cel m d3 [cv, sv, rv] → m.heap.get w = some (.map (entsI s.1) s.2) → ADf.OK m ⟨cv, sv, rv, chans, spots, els⟩ → getT b 0 = z0 → getT b 3 = .ptr d3 0 → getT b 8 = .map w → getT b 61 = rv → getT b 62 = goI els.length → getT b 63 = goI pre.length →
  (∀ (m' : Mem) (b' : T AVal) (s' : SI), Kept (fun q => q = w) m m' → rulesF chans rest s = some s' → m'.heap.get w = some (.map (entsI s'.1) s'.2) → getT b' 3 = .ptr d3 0 → getT b' 8 = .map w → Wp Tryz.prog fl (At ⟨45, 89, false, none⟩ k b' [] .run up m') Q) →
  (∀ (m' : Mem) (t : List AItem) (b' : T AVal), Kept (fun q => q = w) m m' → rulesF chans rest s = none → Wp Tryz.prog fl (At ⟨45, 89, false, none⟩ t b' [] (.panicking unfC) up m') Q) →
  Wp Tryz.prog fl (At ⟨45, 89, false, none⟩ (.code (cAt [true, true, true, true, true, false, true, false, false] (bodyF Tryz.f45)) :: .inLoop (cAt [true, true, true, true, true, false, true, false, false] (bodyF Tryz.f45)) :: .inBlock 4 :: k) (sets 89 b []) [] .run up m) Q := by
 intro rest
 induction rest with
 | nil =>
  intro pre s m b hsp hw hset hd hm hok k0 k3 k8 k61 k62 k63 hk hp
  have hlt : decide (Int.ofNat pre.length < Int.ofNat els.length) = false := by subst hsp; simp
  refine gg ?_
  refine Wp.gen (fun b' eb => ?_)
  exact hk _ b' s (Kept.refl hw) rfl hm (eqb eb (e_base rfl k3)) (eqb eb (e_base rfl k8))
 | cons y rest ih =>
  intro pre s m b hsp hw hset hd hm hok k0 k3 k8 k61 k62 k63 hk hp
  have hlt : decide (Int.ofNat pre.length < Int.ofNat els.length) = true := by subst hsp; simp; omega
  have hsl : SlA m rv 3 (els.map ARule.cells) := hok.r
  have hln := hsl.lnT hsp
  have K : Kept (fun q => m.next ≤ q ∨ (fun q => q = w) q) m m := Kept.refl hw
  have kk := Kept.refl (S := noS) hw
  have hd0 := hd
  have ld := hd.lt hw
  have lw := hw.lt hm
  obtain ⟨⟨ed, hdr⟩, fd⟩ := hd
  have hy : y.OK m := hok.j y (by show y ∈ els; rw [hsp]; simp)
  have hyj : SlA m y.jv 1 (y.joins.map icells) := hy
  have c1 := hok.c.cell
  have c2 := hok.s.cell
  have c3 := hok.r.cell
  have cy := hyj.cell
  have lyj := hyj.lenM
  have ac : allCells [cv, sv, rv] = true := ac1 c1 (ac1 c2 (ac1 c3 rfl))
  have ay : allCells [iv y.at_, y.jv, iv y.node] = true := ac1 rfl (ac1 cy (ac1 rfl rfl))
  obtain ⟨r, off, c0, ex, row, hv, hlx, hr, htk⟩ := hsl.here hsp
  refine gg ?_
  refine s_val rfl rfl rfl rfl (o_indexAddr ((e_base rfl k61).trans hv) (e_base rfl k63) ElF.h hlx) ?_
  refine s_val rfl rfl rfl rfl (o_loadRoA v0 hr (TyF.h (s := _)) (TyF.z (g := true)) htk) ?_
  refine gg ?_
  refine s_new rfl rfl rfl rfl (o_alloc ZcF.h) (fun m1 g => ?_)
  have n1 := g.next
  have h := g.same
  have f := g.fam0 K.wf
  have K := K.g g
  have hdr := (g.other d3 (by omega)).trans hdr
  have hm1 := (g.other w (by omega)).trans hm
  refine gg ?_
  refine s_put0 rfl rfl rfl (o_store (v := .agg [iv y.at_, y.jv, iv y.node]) v0 v0 h f TyF.z rfl rfl ay rfl) (fun m2 g2 => ?_)
  have n2 := g2.next
  have K := K.w g2 h (fun _ h => by cases h) (Or.inl (by omega))
  have f := (g2.famo m.next).trans f
  have hdr := (g2.other d3 (by omega)).trans hdr
  have hm1 := (g2.other w (by omega)).trans hm1
  have h : m2.heap.get m.next = some (.row (120, 0) [iv y.at_, y.jv, iv y.node] m.next 0) := g2.same
  refine gg ?_
  refine s_val rfl rfl rfl rfl (o_loadRowA (off := 0) (e_base rfl k3) hdr TyF.h (TyF.z (g := true)) (takeW rfl ac)) ?_
  refine s_val rfl rfl rfl rfl (o_loadRowA (off := 0) v0 h TyF.h (TyF.z (g := true)) (takeW rfl ay)) ?_
  refine gg ?_
  have kk := Kept.refl (S := noS) K.wf
  have lh := K.wf.lt h
  have lw2 := K.wf.lt hm1
  refine s_stepE K kk (o_calls (me3 v0 v0 v0)) (joins_ok hfl (d := ⟨cv, sv, rv, chans, spots, els⟩) (r := y) (hok.kept K) (hy.kept K) K.wf) (fun z m3 K kk _ => ?_) (fun z m3 K kk => ?_)
  rotate_left
  ·have z : joinsB chans y.at_ y.joins = false := z
   exact hp _ _ _ K.out (by show (bif _ then _ else _) = _; rw [z]; rfl)
  have z : joinsB chans y.at_ y.joins = true := z
  have h := (kk.get _ lh id).trans h
  have hm3 := (kk.get _ lw2 id).trans hm1
  have e : rulesF chans (y :: rest) s = rulesF chans rest (y.joins.foldl (fun s j => putI j s) s) := by show (bif _ then _ else _) = _; rw [z]; rfl
  rw [e] at hk hp
  refine gg ?_
  refine w_loop ?_
  refine Wp.gen (fun b0 eb => ?_)
  refine join_loop (z0 := z0) (d3 := d3) (rv := rv) (z62 := goI els.length) (x63 := goI pre.length) (els := y.joins) _ y.joins [] s b0 rfl K.wf hset hm3 (hyj.kept K) (eqb eb (e_base rfl k0)) (eqb eb (e_base rfl k3)) (eqb eb (e_base rfl k8)) (eqb eb (e_base rfl k61)) (eqb eb (e_base rfl k62)) (eqb eb (e_base rfl k63)) (eqb eb v0) (eqb eb v0) (eqb eb v0) (fun m4 b4 k4 hm4 q0 q3 q8 q61 q62 q63 => ?_)
  have K := K.k k4 (fun q h => Or.inr h)
  change Wp Tryz.prog fl (At _ _ (sets 89 b4 []) _ _ _ _) _
  refine gg ?_
  refine w_inLoop ?_
  refine Wp.gen (fun b' eb => ?_)
  exact ih (pre ++ [y]) _ b' (by simp [hsp]) K.wf (setI_fold _ _ hset) (hd0.kept K ld (by rintro (h | h); omega; exact nd h)) hm4 (hok.kept K) (eqb eb (e_base rfl q0)) (eqb eb (e_base rfl q3)) (eqb eb (e_base rfl q8)) (eqb eb (e_base rfl q61)) (eqb eb (e_base rfl q62)) (eqb eb ((e_hit rfl).trans (by rw [List.length_append]; rfl))) (fun m' b' s' k h => hk m' b' s' (K.out.trans k) h) (fun m' t b' k h => hp m' t b' (K.out.trans k) h)
theorem definition_ok {m : Mem} {c : AVal} {d : ADf} (hd : d.OK m) (hw : Wf m) : CallQ Tryz.prog fl 45 [c, .agg d.cells] m (StepQ noS m (defB d) (fun _ => True)) := by
 obtain ⟨cv, sv, rv, chans, spots, rules⟩ := d
 show CallQ Tryz.prog fl 45 [c, .agg [cv, sv, rv]] m (StepQ noS m (defB ⟨cv, sv, rv, chans, spots, rules⟩) (fun _ => True))
 have hc := hd.c
 have hs := hd.s
 have hr := hd.r
 have c1 := hc.cell
 have c2 := hs.cell
 have c3 := hr.cell
 have l1 := hc.lenM
 have l2 := hs.lenM
 have l3 := hr.lenM
 refine hfl.start (by decide) 89 Tryz.func45 rfl rfl (Nat.le_of_ble_eq_true rfl) ?_
 intro bs hb
 have ar0 := hb 0 _ rfl
 have ar1 := hb 1 _ rfl
 clear hb
 have K : Kept (fun q => m.next ≤ q ∨ noS q) m m := Kept.refl hw
 refine gg ?_
 refine s_new rfl rfl rfl rfl (o_box (e_base rfl ar1) rfl) (fun m1 g => ?_)
 have n1 := g.next
 have f := g.fam0 K.wf
 have h : m1.heap.get m.next = some (.row (66, 0) [cv, sv, rv] m.next 0) := g.same
 have K := K.g g
 refine gg ?_
 refine s_val rfl rfl rfl rfl (o_max3 v0 v0 v0) ?_
 refine gg ?_
 refine s_stepE K (Kept.refl (S := noS) K.wf) (o_calls (me1 v0)) (demand_ok hfl _ K.wf) (fun z1 m2 K kk _ => ?_) (fun z1 m2 K kk => ?_)
 rotate_left
 ·have z1 : decide (max (max (Int.ofNat chans.length) (Int.ofNat spots.length)) (Int.ofNat rules.length) ≤ 30) = false := z1
  refine w_panics ?_
  exact .inr ⟨by unfold defB; dsimp only; rw [z1]; rfl, _, _, rfl, K.out⟩
 have z1 : decide (max (max (Int.ofNat chans.length) (Int.ofNat spots.length)) (Int.ofNat rules.length) ≤ 30) = true := z1
 have hc2 : Cel m2 m.next [cv, sv, rv] := Cel.of ((kk.get _ (by omega) id).trans h) ((kk.fam _ (by omega) id).trans f)
 have h := (kk.get _ (by omega) id).trans h
 have nk := kk.next
 refine gg ?_
 refine w_loop ?_
 refine Wp.gen (fun b0 eb => ?_)
 refine chans_loop hfl (z := c) _ chans [] b0 rfl K.wf hc2 (hc.kept K) (hs.kept K) (eqb eb (e_base rfl ar0)) (eqb eb v0) (eqb eb v0) (eqb eb v0) (eqb eb v0) (fun m3 b3 k3 z2 q0 q3 => ?_) (fun m3 t b3 k3 z2 => ?_)
 rotate_left
 ·have K := K.k k3 (fun _ h => h.elim)
  refine w_panics ?_
  exact .inr ⟨by unfold defB; dsimp only; rw [z2, Bool.false_and, Bool.and_false], _, _, rfl, K.out⟩
 have hc3 := hc2.kept k3 (by omega) id
 have K := K.k k3 (fun _ h => h.elim)
 have n3 := k3.next
 change Wp Tryz.prog fl (At _ _ (sets 89 b3 []) _ _ _ _) _
 obtain ⟨⟨e3, h3⟩, f3⟩ := id hc3
 refine gg ?_
 refine w_loop ?_
 refine Wp.gen (fun b0 eb => ?_)
 refine spots_loop hfl (z := c) _ spots [] b0 rfl K.wf hc3 (hs.kept K) (eqb eb (e_base rfl q0)) (eqb eb (e_base rfl q3)) (eqb eb v0) (eqb eb v0) (eqb eb v0) (fun m4 b4 k4 z3 q0 q3 => ?_) (fun m4 t b4 k4 z3 => ?_)
 rotate_left
 ·have K := K.k k4 (fun _ h => h.elim)
  refine w_panics ?_
  exact .inr ⟨by unfold defB; dsimp only; rw [show spotsF 0 spots = false from z3, Bool.false_and, Bool.and_false, Bool.and_false], _, _, rfl, K.out⟩
 have z3 : spotsF 0 spots = true := z3
 have hc4 := hc3.kept k4 (by omega) id
 have K := K.k k4 (fun _ h => h.elim)
 have n4 := k4.next
 change Wp Tryz.prog fl (At _ _ (sets 89 b4 []) _ _ _ _) _
 obtain ⟨⟨e4, h4⟩, f4⟩ := hc4
 refine gg ?_
 refine s_new rfl rfl rfl rfl o_makeMap0 (fun m5 g => ?_)
 have n5 := g.next
 have hm5 := g.same
 have h5 := (g.other m.next (by omega)).trans h4
 have f5 := (g.famo m.next).trans f4
 have K := K.g g
 refine gg ?_
 refine w_loop ?_
 refine Wp.gen (fun b0 eb => ?_)
 have ed : defB ⟨cv, sv, rv, chans, spots, rules⟩ = endB chans (rulesF chans rules ([], 0)) := by unfold defB; dsimp only; rw [z1, z2, z3, Bool.true_and, Bool.true_and, Bool.true_and]
 rw [ed]
 refine rules_loop hfl (chans := chans) (spots := spots) (z0 := c) (d3 := m.next) (w := m4.next) (by omega) _ rules [] ([], 0) b0 rfl K.wf setI_nil (Cel.of h5 f5) hm5 (hd.kept K) (eqb eb (e_base rfl q0)) (eqb eb (e_base rfl q3)) (eqb eb v0) (eqb eb v0) (eqb eb v0) (eqb eb v0) (fun m6 b6 s' k6 z4 hm6 q3 q8 => ?_) (fun m6 t b6 k6 z4 => ?_)
 rotate_left
 ·have K := K.k k6 (fun q h => Or.inl (by omega))
  refine w_panics ?_
  exact .inr ⟨by rw [z4]; rfl, _, _, rfl, K.out⟩
 rw [z4]
 have h6 := (k6.get m.next (by omega) (by omega)).trans h5
 have K := K.k k6 (fun q h => Or.inl (by omega))
 change Wp Tryz.prog fl (At _ _ (sets 89 b6 []) _ _ _ _) _
 refine gg ?_
 refine s_val rfl rfl rfl rfl (o_lenMap um_216 v0 hm6) ?_
 refine gg ?_
 refine s_stepE K (Kept.refl (S := noS) K.wf) (o_calls (me1 v0)) (demand_ok hfl _ K.wf) (fun z5 m7 K kk _ => ?_) (fun z5 m7 K kk => ?_)
 ·refine gg ?_
  refine w_fall rfl ?_
  refine w_results Tryz.func45 rv0 ?_
  exact .inl ⟨z5, _, _, rfl, K.out, trivial⟩
 ·refine w_panics ?_
  exact .inr ⟨z5, _, _, rfl, K.out⟩
end
noncomputable section
def qv (e : AX) : AVal := .iface 174 (.agg e.cells)
theorem AX.OK.kids' {m : Mem} {e : AX} (h : e.OK m) : ∀ q, q ∈ e.kids → q.OK m := by
 cases h with
 | mk _ hk => exact hk
theorem ax_size' {e q : AX} (h : q ∈ e.kids) : SizeOf.sizeOf q < SizeOf.sizeOf e := by
 obtain ⟨op, n, kv, kids⟩ := e
 exact ax_size h
variable {fl : Fl} (hfl : Tab fl)
include hfl
omit hfl in
theorem within_loop {ok : AX → Mem → Prop} {σ τ : Type} {l : Nat} {L : Lp} {S : Nat → Prop} {B : Nat} {I : σ → Mem → Prop} {J : τ → Mem → Prop} {pe : τ → Code} {step : σ → AX → St σ τ} (hR : RoundOK Tryz.prog fl l L S B I J pe (fun q => [qv q]) ok step) (hok : ∀ q m m', ok q m → Kept (fun q => B ≤ q) m m' → ok q m') (hok' : ∀ q m m', ok q m → Kept S m m' → ok q m') (hokc : ∀ q m, ok q m → q.OK m) {kv : AVal} (els : List AX) (k : List AItem) {Q : RR → Prop} {up : Chain} : ∀ (rest pre : List AX) (s : σ) {m : Mem} (b : T AVal), els = pre ++ rest → Wf m → B ≤ m.next → I s m → m.heap.get l = some (L.obj .ready none) → SlA m kv 3 (els.map AX.cells) → (∀ q, q ∈ els → ok q m) → getT b 1 = .yield l → getT b 6 = kv → getT b 7 = goI els.length → getT b 8 = goI pre.length →
  (∀ (s' : σ) (m' : Mem) (b' : T AVal), foldSt step s rest = .go s' → Kept S m m' → I s' m' → m'.heap.get l = some (L.obj .ready none) → Wp Tryz.prog fl (At ⟨207, 19, false, none⟩ k b' [] .run up m') Q) →
  (∀ (t : τ) (m' : Mem) (b' : T AVal), foldSt step s rest = .stop t → Kept S m m' → J t m' → m'.heap.get l = some (L.obj .done (some (pe t))) → Wp Tryz.prog fl (At ⟨207, 19, false, none⟩ [] b' [] .returning up m') Q) →
  (∀ (c : Chain) (t' : List AItem) (m' : Mem) (b' : T AVal), foldSt step s rest = .fail c → Kept S m m' → Wp Tryz.prog fl (At ⟨207, 19, false, none⟩ t' b' [] (.panicking c) up m') Q) → Wp Tryz.prog fl (At ⟨207, 19, false, none⟩ (.code (cAt [true, false, false] (bodyF Tryz.f207)) :: .inLoop (cAt [true, false, false] (bodyF Tryz.f207)) :: .inBlock 0 :: k) (sets 19 b []) [] .run up m) Q := by
 intro rest
 induction rest with
 | nil =>
  intro pre s m b hsp hw hBm hI hl hsl hall kf1 kf3 kf4 hix hk hs hp
  have hlt : decide (Int.ofNat pre.length < Int.ofNat els.length) = false := by subst hsp; simp
  refine gg ?_
  refine Wp.gen (fun b' eb => ?_)
  exact hk s _ b' rfl (Kept.refl hw) hI hl
 | cons x rest ih =>
  intro pre s m b hsp hw hBm hI hl hsl hall kf1 kf3 kf4 hix hk hs hp
  have K : Kept (fun q => m.next ≤ q ∨ noS q) m m := Kept.refl hw
  have llt : l < B := hR.low l hR.here
  have hlt : decide (Int.ofNat pre.length < Int.ofNat els.length) = true := by subst hsp; simp; omega
  have hln := hsl.lnT hsp
  have hsl0 := hsl
  obtain ⟨r, off, cc, ex, row, hv, hlx, hr, htk⟩ := hsl.here hsp
  have hxall : x ∈ els := by simp [hsp]
  have hxo := hokc _ _ (hall _ hxall)
  obtain ⟨op, nn, kv2, kids⟩ := x
  have ha : allCells [iv op, iv nn, kv2] = true := ax_cells hxo
  refine gg ?_
  refine s_val rfl rfl rfl rfl (o_indexAddr ((e_base rfl kf3).trans hv) (e_base rfl hix) ElF.h hlx) ?_
  refine s_val rfl rfl rfl rfl (o_loadRoA v0 hr (TyF.h (s := _)) (TyF.z (g := true)) htk) ?_
  refine s_new rfl rfl rfl rfl (o_alloc ZcF.h) (fun m1 g => ?_)
  have n := g.next
  have f := g.fam0 K.wf
  have K := K.g g
  refine s_put0 rfl rfl rfl (o_store (v := .agg [iv op, iv nn, kv2]) v0 v0 g.same f (TyF.z (g := true)) rfl rfl ha rfl) (fun m2 g2 => ?_)
  have n := g2.next
  have K := K.w g2 g.same (fun _ h => by cases h) (Or.inl (by omega))
  have h : m2.heap.get m.next = some (.row (112, 0) [iv op, iv nn, kv2] m.next 0) := g2.same
  refine gg ?_
  refine s_val rfl rfl rfl rfl (o_loadRowA (off := 0) v0 h (TyF.h (s := _)) (TyF.z (g := true)) (takeW rfl ha)) ?_
  refine gg ?_
  refine s_val rfl rfl rfl rfl (o_makeI v0 co_258 rfl) ?_
  have kb : Kept (fun q => B ≤ q) m m2 := K.out.mono (fun _ _ h => h.elim)
  refine s_yield hR (s := s) (x := .mk op nn kv2 kids) rfl rfl rfl rfl v0 (me1 v0) K.wf (by omega) (hR.stab s m _ hI kb) (hok _ _ _ (hall _ hxall) kb) ((K.out.get l (by omega) (fun h => h)).trans hl) ?_ ?_ ?_
  ·intro s' e m9 k9 hI9 hl9
   have n9 := k9.next
   have K9 : Kept S m m9 := (K.out.mono (fun _ _ h => h.elim)).trans k9
   refine gg ?_
   refine w_inLoop ?_
   refine Wp.gen (fun b' eb => ?_)
   exact ih (pre ++ [_]) s' b' (by simp only [List.append_assoc, List.singleton_append]; exact hsp) K9.wf (by have := K9.next; omega) hI9 hl9 (hsl0.kept K9) (fun q hq => hok' q _ _ (hall q hq) K9) (eqb eb (e_base rfl kf1)) (eqb eb (e_base rfl kf3)) (eqb eb (e_base rfl kf4)) (eqb eb ((e_hit rfl).trans (by rw [List.length_append]; rfl))) (fun st' m' b' h hk' => hk st' m' b' (by simp only [foldSt, e]; exact h) (K9.trans hk')) (fun t m' b' h hk' => hs t m' b' (by simp only [foldSt, e]; exact h) (K9.trans hk')) (fun c t' m' b' h hk' => hp c t' m' b' (by simp only [foldSt, e]; exact h) (K9.trans hk'))
  ·intro t e m9 k9 hJ9 hl9
   have K9 : Kept S m m9 := (K.out.mono (fun _ _ h => h.elim)).trans k9
   refine gg ?_
   refine w_retAt rfl ?_
   exact hs t _ _ (by simp only [foldSt, e]) K9 hJ9 hl9
  ·intro c e m9 k9
   have K9 : Kept S m m9 := (K.out.mono (fun _ _ h => h.elim)).trans k9
   exact hp c _ _ _ (by simp only [foldSt, e]) K9
theorem within_ok {ok : AX → Mem → Prop} {σ τ : Type} {l : Nat} {L : Lp} {S : Nat → Prop} {B : Nat} {I : σ → Mem → Prop} {J : τ → Mem → Prop} {pe : τ → Code} {step : σ → AX → St σ τ} (hR : RoundOK Tryz.prog fl l L S B I J pe (fun q => [qv q]) ok step) (hok : ∀ q m m', ok q m → Kept (fun q => B ≤ q) m m' → ok q m') (hok' : ∀ q m m', ok q m → Kept S m m' → ok q m') (hokc : ∀ q m, ok q m → q.OK m) {kv : AVal} (els : List AX) {s : σ} {m : Mem} (hw : Wf m) (hB : B ≤ m.next) (hI : I s m) (hl : m.heap.get l = some (L.obj .ready none)) (hsl : SlA m kv 3 (els.map AX.cells)) (hall : ∀ q, q ∈ els → ok q m) : CallQ Tryz.prog fl 207 [kv, .yield l] m (EndC l L S I J pe m (foldSt step s els)) := by
 have ck := hsl.cell
 have lk := hsl.lenM
 refine hfl.start (by decide) 19 Tryz.func207 rfl rfl (Nat.le_of_ble_eq_true rfl) ?_
 intro bs hb
 have ar0 := hb 0 _ rfl
 have ar1 := hb 1 _ rfl
 clear hb
 refine gg ?_
 refine w_loop ?_
 refine Wp.gen (fun b0 eb => ?_)
 refine within_loop hR hok hok' hokc els _ els [] s b0 rfl hw hB hI hl hsl hall (eqb eb (e_base rfl ar1)) (eqb eb v0) (eqb eb v0) (eqb eb v0) (fun s' m' b' e k h1 h2 => ?_) (fun t m' b' e k h1 h2 => ?_) (fun c t' m' b' e k => ?_)
 ·change Wp Tryz.prog fl (At _ _ (sets 19 b' []) _ _ _ _) _
  refine w_fall rfl ?_
  refine w_results Tryz.func207 rv0 ?_
  rw [e]; exact ⟨_, _, _, rfl, k, h1, h2⟩
 ·change Wp Tryz.prog fl (At _ _ (sets 19 b' []) _ _ _ _) _
  refine w_results Tryz.func207 rv0 ?_
  rw [e]; exact ⟨_, _, _, rfl, k, h1, h2⟩
 ·refine w_panics ?_
  rw [e]; exact ⟨_, _, rfl, k⟩
theorem inside_ok {ok : AX → Mem → Prop} {σ τ : Type} {l : Nat} {L : Lp} {S : Nat → Prop} {B : Nat} {I : σ → Mem → Prop} {J : τ → Mem → Prop} {pe : τ → Code} {step : σ → AX → St σ τ} (hR : RoundOK Tryz.prog fl l L S B I J pe (fun q => [qv q]) ok step) (hok : ∀ q m m', ok q m → Kept (fun q => B ≤ q) m m' → ok q m') (hok' : ∀ q m m', ok q m → Kept S m m' → ok q m') (hokc : ∀ q m, ok q m → q.OK m) {p : AX} {s : σ} {m : Mem} (hp : p.OK m) (hw : Wf m) (hB : B ≤ m.next) (hI : I s m) (hl : m.heap.get l = some (L.obj .ready none)) (hall : ∀ q, q ∈ p.kids → ok q m) : CallQ Tryz.prog fl 211 [.agg p.cells, .yield l] m (EndC l L S I J pe m (foldSt step s p.kids)) := by
 obtain ⟨op, nn, kv, kids⟩ := p
 cases hp with
 | mk hsl hk =>
 have ck := hsl.cell
 have llt : l < B := hR.low l hR.here
 refine hfl.start (by decide) 9 Tryz.func211 rfl rfl (Nat.le_of_ble_eq_true rfl) ?_
 intro bs hb
 have ar0 := hb 0 _ rfl
 have ar1 := hb 1 _ rfl
 clear hb
 have K : Kept (fun q => m.next ≤ q ∨ noS q) m m := Kept.refl hw
 refine gg ?_
 refine s_new rfl rfl rfl rfl (o_box (e_base rfl ar0) rfl) (fun m1 g => ?_)
 have n1 := g.next
 have h : m1.heap.get m.next = some (.row (174, 0) [iv op, iv nn, kv] m.next 0) := g.same
 have K := K.g g
 have kb : Kept (fun q => B ≤ q) m m1 := K.out.mono (fun _ _ h => h.elim)
 refine gg ?_
 refine s_call rfl rfl rfl rfl (o_calls (me2 v0 v0)) (within_ok hfl hR hok hok' hokc kids (s := s) K.wf (by omega) (hR.stab s m _ hI kb) ((kb.get l (by omega) (by show ¬ (B ≤ l); omega)).trans hl) (hsl.kept kb) (fun q hq => hok q _ _ (hall q hq) kb)) ?_ ?_
 ·intro v u m' he
  show Wp _ _ _ (EndC l L S I J pe m (foldSt step s kids))
  cases hf : foldSt step s kids with
  | go s' =>
   rw [hf] at he
   obtain ⟨_, _, _, e, k, h1, h2⟩ := he
   cases e
   refine gg ?_
   refine w_fall rfl ?_
   refine w_results Tryz.func211 rv0 ?_
   exact ⟨_, _, _, rfl, (K.out.mono (fun _ _ h => h.elim)).trans k, h1, h2⟩
  | stop t =>
   rw [hf] at he
   obtain ⟨_, _, _, e, k, h1, h2⟩ := he
   cases e
   refine gg ?_
   refine w_fall rfl ?_
   refine w_results Tryz.func211 rv0 ?_
   exact ⟨_, _, _, rfl, (K.out.mono (fun _ _ h => h.elim)).trans k, h1, h2⟩
  | fail c => rw [hf] at he; obtain ⟨_, _, e, _⟩ := he; cases e
 ·intro c u m' he
  show Wp _ _ _ (EndC l L S I J pe m (foldSt step s kids))
  cases hf : foldSt step s kids with
  | go s' => rw [hf] at he; obtain ⟨_, _, _, e, _⟩ := he; cases e
  | stop t => rw [hf] at he; obtain ⟨_, _, _, e, _⟩ := he; cases e
  | fail c' =>
   rw [hf] at he
   obtain ⟨_, _, e, k⟩ := he
   cases e
   refine w_panics ?_
   exact ⟨_, _, rfl, (K.out.mono (fun _ _ h => h.elim)).trans k⟩
end
end Go.Proofs.YtmbeijhnjaadhaaGreat
