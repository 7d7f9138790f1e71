/- A part of the proof of SolValues. -/
import Derived.Test.YtkfjmpdbfjaboaaGreatProg
import Derived.KernelRfl
import Derived.Test.YtkfjmpdbfjaboaaGreatAbsM
namespace Go.Proofs.YtkfjmpdbfjaboaaGreat
open Go Go.Abs
noncomputable section
def bodyF (f : Func) : Code := match f.body with | some c => c | none => .skip
noncomputable def okNames : Bool := (List.range Tryz.prog.funcs.size).all fun i => match Tryz.prog.funcs[i]? with | some fn => !fn.body.isSome || !(fn.name == "runtime.NumGoroutine") | none => true
theorem okNames_true : okNames = true := by kernel_rfl
theorem names : NamesOK Tryz.prog := by
 intro f fn hf hb
 have hlt := (Array.getElem?_eq_some_iff.1 hf).1
 have h := okNames_true
 unfold okNames at h
 rw [List.all_eq_true] at h
 have h2 := h f (List.mem_range.2 hlt)
 rw [hf] at h2
 dsimp only at h2
 rw [hb] at h2
 simpa using h2
theorem mixed : Tryz.prog.follows .mixedOrders = true := by kernel_rfl
structure Tab (fl : Fl) : Prop where
 plain : fl.l = []
 tb : ∀ f args m, f ≠ 15 → fl.tb f args m = none
 tc : ∀ f args m, fl.tc f args m = none
theorem Tab.start {fl : Fl} (hfl : Tab fl) {m : Mem} {Q : RR → Prop} {f : FuncId} (h1 : f ≠ 15) {fn : Func} {c : Code} {args : List AVal} (nt : Nat) (hf : Tryz.prog.funcs[f]? = some fn) (hb : fn.body = some c) (hnt : fn.ntmps = nt) (hlen : args.length ≤ nt)
  (w : ∀ b, (∀ i v, args[i]? = some v → getT b i = v) → Wp Tryz.prog fl (At ⟨f, nt, false, none⟩ [.code c] (sets nt b []) [] .run [] m) Q) : CallQ Tryz.prog fl f args m Q := by
 subst hnt
 exact CallQ.body (hfl.tb _ _ _ h1) (hfl.tc _ _ _) (by rw [hfl.plain]; rfl) (by rw [hfl.plain]; rfl) hf hb hlen (w _ (fun i v h => getA h))
structure Cel (m : Mem) (r : Nat) (cells : List AVal) : Prop where
 row : ∃ e, m.heap.get r = some (.row e cells r 0)
 fam : m.fams.get r = none
theorem Cel.of {m : Mem} {r : Nat} {e : Elem} {cells : List AVal} (h : m.heap.get r = some (.row e cells r 0)) (hf : m.fams.get r = none) : Cel m r cells := ⟨⟨e, h⟩, hf⟩
theorem Cel.kept {S : Nat → Prop} {m m' : Mem} {r : Nat} {cells : List AVal} (h : Cel m r cells) (k : Kept S m m') (hlt : r < m.next) (hS : ¬ S r) : Cel m' r cells := by
 obtain ⟨⟨e, h1⟩, h2⟩ := h
 exact ⟨⟨e, (k.get r hlt hS).trans h1⟩, (k.fam r hlt hS).trans h2⟩
theorem Cel.lt {m : Mem} {r : Nat} {cells : List AVal} (h : Cel m r cells) (hw : Wf m) : r < m.next := by
 obtain ⟨⟨e, h1⟩, _⟩ := h
 exact hw.lt h1
theorem o_mulI {tmps : T AVal} {m : Mem} {P : Program} {t : TypeId} {x y : Operand} {z : TypeId} {a b : Int} (hx : evalT tmps x = iv a) (hy : evalT tmps y = iv b) (h1 : -(2 ^ 62) ≤ a * b) (h2 : a * b < 2 ^ 62) : aop P tmps m (.binOp .mul t x y z) = .val (iv (a * b)) m := by
 show lits2 P m (binF .mul t x y) (litOf (evalT tmps x)) (litOf (evalT tmps y)) = _
 rw [hx, hy]
 have : lits2 P m (binF .mul t x y) (litOf (iv a)) (litOf (iv b)) = .val (.lit (.int .i64 (IntKind.i64.wrap (a * b)))) m := rfl
 rw [this]
 have hw : IntKind.i64.wrap (a * b) = a * b := by
  generalize a * b = c at *
  unfold IntKind.wrap
  simp [IntKind.bits, IntKind.signed]
  omega
 rw [hw]
instance : TyF Tryz.prog 3 false 1 := ⟨by kernel_rfl, by kernel_rfl⟩
instance : TyF Tryz.prog 4 false 1 := ⟨by kernel_rfl, by kernel_rfl⟩
instance : TyF Tryz.prog 43 false 1 := ⟨by kernel_rfl, by kernel_rfl⟩
instance : TyF Tryz.prog 44 false 1 := ⟨by kernel_rfl, by kernel_rfl⟩
instance : TyF Tryz.prog 46 true 3 := ⟨by kernel_rfl, by kernel_rfl⟩
instance : TyF Tryz.prog 47 false 1 := ⟨by kernel_rfl, by kernel_rfl⟩
instance : TyF Tryz.prog 48 false 1 := ⟨by kernel_rfl, by kernel_rfl⟩
instance : TyF Tryz.prog 50 true 2 := ⟨by kernel_rfl, by kernel_rfl⟩
instance : TyF Tryz.prog 123 false 1 := ⟨by kernel_rfl, by kernel_rfl⟩
instance : FdF Tryz.prog 46 0 0 43 := ⟨by kernel_rfl⟩
instance : FdF Tryz.prog 46 1 1 3 := ⟨by kernel_rfl⟩
instance : FdF Tryz.prog 46 2 2 44 := ⟨by kernel_rfl⟩
instance : FdF Tryz.prog 50 0 0 48 := ⟨by kernel_rfl⟩
instance : FdF Tryz.prog 50 1 1 3 := ⟨by kernel_rfl⟩
instance : SlF Tryz.prog 44 46 := ⟨by kernel_rfl⟩
instance : SlF Tryz.prog 47 50 := ⟨by kernel_rfl⟩
instance : ElF Tryz.prog 44 46 3 := ⟨by kernel_rfl⟩
instance : ElF Tryz.prog 47 50 2 := ⟨by kernel_rfl⟩
instance : PlF Tryz.prog 50 [(0, 1), (1, 1)] := ⟨by kernel_rfl⟩
instance : ZcF Tryz.prog 3 [.lit (.int .i64 0)] := ⟨by kernel_rfl⟩
instance : ZcF Tryz.prog 50 [.lit (.int .i64 0), .lit (.int .i64 0)] := ⟨by kernel_rfl⟩
instance : ZcF Tryz.prog 123 [.lit .nilFunc] := ⟨by kernel_rfl⟩
theorem pl_50 : eqPlan Tryz.prog 50 = some [(0, 1), (1, 1)] := by kernel_rfl
end
noncomputable section
inductive AX where
 | mk (op n : Int) (kv : AVal) (kids : List AX)
def AX.op : AX → Int | .mk op _ _ _ => op
def AX.n : AX → Int | .mk _ n _ _ => n
def AX.kv : AX → AVal | .mk _ _ kv _ => kv
def AX.kids : AX → List AX | .mk _ _ _ kids => kids
def AX.cells : AX → List AVal | .mk op n kv _ => [iv op, iv n, kv]
inductive AX.OK (m : Mem) : AX → Prop
 | mk {op n : Int} {kv : AVal} {kids : List AX} (h : SlA m kv 3 (kids.map AX.cells)) (hk : ∀ e, e ∈ kids → AX.OK m e) : AX.OK m (.mk op n kv kids)
theorem ax_size {op n : Int} {kv : AVal} {kids : List AX} {e : AX} (h : e ∈ kids) : SizeOf.sizeOf e < SizeOf.sizeOf (AX.mk op n kv kids) := by
 have := List.sizeOf_lt_of_mem h
 simp only [AX.mk.sizeOf_spec]; omega
def ndN : Nat → AX → Nat
 | 0, _ => 0
 | n + 1, e => 1 + (e.kids.map (ndN n)).sum
def dpN : Nat → AX → Nat
 | 0, _ => 0
 | n + 1, e => (e.kids.map (dpN n)).foldl max 0 + 1
def ranged (n : Int) : Bool := decide (-1000000000 ≤ n) && decide (n ≤ 1000000000)
def fmN (sz : Int) : Nat → AX → Bool
 | 0, _ => false
 | n + 1, e => match e with
  | .mk op nn _ kids => if op = 1 then kids.isEmpty && ranged nn else if op = 2 then kids.isEmpty && (decide (0 ≤ nn) && decide (nn < sz)) else match kids with
   | [a, b] => (decide (3 ≤ op) && decide (op ≤ 7)) && (decide (nn = 0) && (fmN sz n a && fmN sz n b))
   | _ => false
def visN (sz : Int) : Nat → Int → AX → Int → Bool × Int
 | 0, _, _, c => (false, c)
 | n + 1, d, e, c => match e with
  | .mk op nn _ kids => if 60 < c + 1 ∨ 12 < d then (false, c + 1) else if op = 1 then (kids.isEmpty && ranged nn, c + 1) else if op = 2 then (kids.isEmpty && (decide (0 ≤ nn) && decide (nn < sz)), c + 1) else match kids with
   | [a, b] => if (3 ≤ op ∧ op ≤ 7) ∧ nn = 0 then (let r := visN sz n (d + 1) a (c + 1); if r.1 = true then visN sz n (d + 1) b r.2 else (false, r.2)) else (false, c + 1)
   | _ => (false, c + 1)
theorem nd_pos {n : Nat} {e : AX} (h : SizeOf.sizeOf e < n) : 1 ≤ ndN n e := by
 cases n with
 | zero => omega
 | succ n => show 1 ≤ 1 + _; omega
theorem fold_max : ∀ (l : List Nat) (a b : Nat), (l.foldl max a ≤ b) = (a ≤ b ∧ ∀ x, x ∈ l → x ≤ b)
 | [], a, b => by simp
 | x :: l, a, b => by rw [List.foldl_cons, fold_max l]; simp only [List.mem_cons, forall_eq_or_imp, eq_iff_iff]; constructor <;> rintro ⟨h1, h2⟩ <;> refine ⟨by omega, ?_⟩ <;> first | exact ⟨by omega, h2⟩ | exact h2.2
theorem vis_ok (sz : Int) : ∀ (n : Nat) (e : AX) (d c : Int), SizeOf.sizeOf e < n → 1 ≤ d →
  ((visN sz n d e c).1 = (fmN sz n e && (decide (c + ndN n e ≤ 60) && decide (d + dpN n e ≤ 13)))) ∧ ((visN sz n d e c).1 = true → (visN sz n d e c).2 = c + ndN n e)
 | 0, e, d, c, h, _ => by omega
 | n + 1, .mk op nn kv kids, d, c, hs, hd => by
  have e1 : ndN (n + 1) (.mk op nn kv kids) = 1 + (kids.map (ndN n)).sum := rfl
  have e2 : dpN (n + 1) (.mk op nn kv kids) = (kids.map (dpN n)).foldl max 0 + 1 := rfl
  rw [e1, e2]
  unfold visN fmN
  dsimp only
  by_cases h0 : 60 < c + 1 ∨ 12 < d
  ·rw [if_pos h0]
   refine ⟨?_, fun h => by cases h⟩
   rw [show (decide (c + ((1 + (kids.map (ndN n)).sum : Nat) : Int) ≤ 60) && decide (d + (((kids.map (dpN n)).foldl max 0 + 1 : Nat) : Int) ≤ 13)) = false by
    rw [Bool.and_eq_false_iff, decide_eq_false_iff_not, decide_eq_false_iff_not]; omega]
   simp
  ·rw [if_neg h0]
   by_cases h1 : op = 1
   ·rw [if_pos h1, if_pos h1]
    cases kids with
    | nil => simp; omega
    | cons a l => simp
   ·rw [if_neg h1, if_neg h1]
    by_cases h2 : op = 2
    ·rw [if_pos h2, if_pos h2]
     cases kids with
     | nil => simp; omega
     | cons a l => simp
    ·rw [if_neg h2, if_neg h2]
     rcases kids with _ | ⟨a, _ | ⟨b, _ | ⟨x, l⟩⟩⟩
     ·simp
     ·simp
     ·dsimp only
      have ha := vis_ok sz n a (d + 1) (c + 1) (by have := ax_size (op := op) (n := nn) (kv := kv) (kids := [a, b]) (e := a) (by simp); omega) (by omega)
      have na := nd_pos (n := n) (e := a) (by have := ax_size (op := op) (n := nn) (kv := kv) (kids := [a, b]) (e := a) (by simp); omega)
      have hb := vis_ok sz n b (d + 1) (visN sz n (d + 1) a (c + 1)).2 (by have := ax_size (op := op) (n := nn) (kv := kv) (kids := [a, b]) (e := b) (by simp); omega) (by omega)
      have nb := nd_pos (n := n) (e := b) (by have := ax_size (op := op) (n := nn) (kv := kv) (kids := [a, b]) (e := b) (by simp); omega)
      generalize visN sz n (d + 1) a (c + 1) = ra at *
      generalize visN sz n (d + 1) b ra.2 = rb at *
      obtain ⟨ra1, ra2⟩ := ra
      obtain ⟨rb1, rb2⟩ := rb
      dsimp only at *
      obtain ⟨ha1, ha2⟩ := ha
      obtain ⟨hb1, hb2⟩ := hb
      have e3 : ([a, b].map (ndN n)).sum = ndN n a + ndN n b := by simp
      have e4 : ([a, b].map (dpN n)).foldl max 0 = max (dpN n a) (dpN n b) := by simp
      rw [e3, e4]
      by_cases h3 : (3 ≤ op ∧ op ≤ 7) ∧ nn = 0
      ·rw [if_pos h3, decide_eq_true h3.1.1, decide_eq_true h3.1.2, decide_eq_true h3.2]
       simp only [Bool.true_and]
       cases hr : ra1 with
       | false =>
        rw [if_neg (by simp)]
        refine ⟨?_, fun h => by cases h⟩
        rw [hr] at ha1
        cases hf : fmN sz n a with
        | false => simp
        | true =>
         rw [hf, Bool.true_and] at ha1
         have h4 := Bool.and_eq_false_iff.1 ha1.symm
         rw [decide_eq_false_iff_not, decide_eq_false_iff_not] at h4
         symm
         rw [Bool.and_eq_false_iff, Bool.and_eq_false_iff (x := decide _), decide_eq_false_iff_not, decide_eq_false_iff_not]
         right; omega
       | true =>
        rw [if_pos rfl]
        dsimp only
        have h5 := ha2 hr
        rw [hr] at ha1
        have h6 := ha1.symm
        rw [Bool.and_eq_true, Bool.and_eq_true, decide_eq_true_eq, decide_eq_true_eq] at h6
        refine ⟨?_, fun h => by rw [hb2 h, h5]; omega⟩
        rw [hb1, h6.1, Bool.true_and]
        congr 1
        rw [Bool.eq_iff_iff]
        simp only [Bool.and_eq_true, decide_eq_true_eq]
        omega
      ·rw [if_neg h3]
       refine ⟨?_, fun h => by cases h⟩
       have : ((decide (3 ≤ op) && decide (op ≤ 7)) && (decide (nn = 0) && (fmN sz n a && fmN sz n b))) = false := by
        rw [Bool.eq_false_iff]
        intro h
        simp only [Bool.and_eq_true, decide_eq_true_eq] at h
        exact h3 ⟨h.1, h.2.1⟩
       rw [this]; rfl
     ·simp
theorem vis_top {sz : Int} {n : Nat} {e : AX} (h : SizeOf.sizeOf e < n) : (visN sz n 1 e 0).1 = (decide (ndN n e ≤ 60) && (decide (dpN n e ≤ 12) && fmN sz n e)) := by
 rw [(vis_ok sz n e 1 0 h (by omega)).1, Bool.eq_iff_iff]
 simp only [Bool.and_eq_true, decide_eq_true_eq]
 constructor
 ·rintro ⟨h1, h2, h3⟩; exact ⟨by omega, by omega, h1⟩
 ·rintro ⟨h1, h2, h3⟩; exact ⟨h3, by omega, by omega⟩
theorem sum_mem {l : List AX} {f : AX → Nat} {a : AX} (h : a ∈ l) : f a ≤ (l.map f).sum := by
 induction l with
 | nil => cases h
 | cons b l ih =>
  rw [List.map_cons, List.sum_cons]
  rcases List.mem_cons.1 h with rfl | h
  ·omega
  ·have := ih h; omega
theorem dp_le : ∀ (n : Nat) (e : AX), SizeOf.sizeOf e < n → 1 ≤ dpN n e ∧ dpN n e ≤ ndN n e
 | 0, e, h => by omega
 | n + 1, .mk op nn kv kids, h => by
  have e1 : ndN (n + 1) (.mk op nn kv kids) = 1 + (kids.map (ndN n)).sum := rfl
  have e2 : dpN (n + 1) (.mk op nn kv kids) = (kids.map (dpN n)).foldl max 0 + 1 := rfl
  rw [e1, e2]
  refine ⟨by omega, ?_⟩
  have : (kids.map (dpN n)).foldl max 0 ≤ (kids.map (ndN n)).sum := by
   rw [fold_max]
   refine ⟨by omega, fun x hx => ?_⟩
   obtain ⟨k, hk, rfl⟩ := List.mem_map.1 hx
   have h1 := sum_mem (f := ndN n) hk
   have h2 := dp_le n k (by have := ax_size (op := op) (n := nn) (kv := kv) hk; omega)
   omega
  omega
abbrev VP := Int × Int
def vcells (p : VP) : List AVal := [iv p.1, iv p.2]
def isVal (p : VP) : Bool := if p.1 = 1 then ranged p.2 else decide (1 < p.1) && decide (p.1 ≤ 4)
def num (p : VP) : Int := if p.1 = 1 then p.2 else 0
def clampI (n : Int) : Int := max (-1000000000) (min n 1000000000)
def valN (env : List VP) : Nat → AX → VP
 | 0, _ => (0, 0)
 | n + 1, e => match e with
  | .mk op nn _ kids => if op = 1 then (1, nn) else if op = 2 then env.getD nn.toNat (0, 0) else match kids with
   | [a, b] =>
    let x := num (valN env n a)
    let y := num (valN env n b)
    if op = 3 then (1, clampI (x + y)) else if op = 4 then (1, clampI (x - y)) else if op = 5 then (1, clampI (x * y)) else if op = 6 then (1, if x < y then 1 else 0) else (1, if x = y then 1 else 0)
   | _ => (0, 0)
theorem num_le {p : VP} (h : isVal p = true) : -1000000000 ≤ num p ∧ num p ≤ 1000000000 := by
 unfold isVal at h
 unfold num
 split
 ·rename_i h1
  rw [if_pos h1] at h
  unfold ranged at h
  simp only [Bool.and_eq_true, decide_eq_true_eq] at h
  exact h
 ·omega
theorem clamp_val (x : Int) : isVal (1, clampI x) = true := by
 unfold isVal ranged clampI
 rw [if_pos rfl]
 simp only [Bool.and_eq_true, decide_eq_true_eq]
 omega
theorem mul_le {x y : Int} (hx : -1000000000 ≤ x ∧ x ≤ 1000000000) (hy : -1000000000 ≤ y ∧ y ≤ 1000000000) : -1000000000000000000 ≤ x * y ∧ x * y ≤ 1000000000000000000 := by
 have h1 : (x * y).natAbs ≤ 1000000000 * 1000000000 := by
  rw [Int.natAbs_mul]
  exact Nat.mul_le_mul (by omega) (by omega)
 omega
theorem val_val {env : List VP} {sz : Int} (hsz : sz = env.length) (he : ∀ p, p ∈ env → isVal p = true) : ∀ (n : Nat) (e : AX), fmN sz n e = true → isVal (valN env n e) = true
 | 0, e, h => by cases h
 | n + 1, .mk op nn kv kids, h => by
  unfold fmN at h
  unfold valN
  dsimp only at h ⊢
  by_cases h1 : op = 1
  ·rw [if_pos h1] at h ⊢
   rw [Bool.and_eq_true] at h
   unfold isVal
   rw [if_pos rfl]; exact h.2
  ·rw [if_neg h1] at h ⊢
   by_cases h2 : op = 2
   ·rw [if_pos h2] at h ⊢
    simp only [Bool.and_eq_true, decide_eq_true_eq] at h
    have hl : nn.toNat < env.length := by omega
    rw [List.getD_eq_getElem?_getD, List.getElem?_eq_getElem hl]
    exact he _ (List.getElem_mem hl)
   ·rw [if_neg h2] at h ⊢
    rcases kids with _ | ⟨a, _ | ⟨b, _ | ⟨x, l⟩⟩⟩
    ·cases h
    ·cases h
    ·dsimp only at h ⊢
     repeat' split
     all_goals first | exact clamp_val _ | rfl
    ·cases h
end
noncomputable section
variable {fl : Fl} (hfl : Tab fl)
include hfl
theorem ranged_ok {m : Mem} (n : Int) (hw : Wf m) : CallQ Tryz.prog fl 90 [iv n] m (Rets noS m (.lit (.bool (ranged n)))) := by
 refine hfl.start (by decide) 9 Tryz.func90 rfl rfl (Nat.le_of_ble_eq_true rfl) ?_
 intro bs hb
 have ar0 := hb 0 _ rfl
 clear hb
 have K : Kept (fun q => m.next ≤ q ∨ noS q) m m := Kept.refl hw
 refine gg ?_
 refine sg (fun c => ?_) (fun c => ?_) <;> refine gg ?_
 all_goals
  refine w_retAt rfl ?_
  refine w_results Tryz.func90 (rv1 v0) ?_
  exact ⟨_, _, congrArg (fun b => RR.ret (.lit (.bool b)) _ _) (by simp_all [ranged]; try omega), K.out⟩
theorem numbered_ok {m : Mem} (a b : Int) (hw : Wf m) : CallQ Tryz.prog fl 71 [iv a, iv b] m (Rets noS m (.lit (.bool (decide (0 ≤ a) && decide (a < b))))) := by
 refine hfl.start (by decide) 12 Tryz.func71 rfl rfl (Nat.le_of_ble_eq_true rfl) ?_
 intro bs hb
 have ar0 := hb 0 _ rfl
 have ar1 := hb 1 _ rfl
 clear hb
 have K : Kept (fun q => m.next ≤ q ∨ noS q) m m := Kept.refl hw
 refine gg ?_
 refine sg (fun c => ?_) (fun c => ?_) <;> refine gg ?_
 all_goals
  refine w_retAt rfl ?_
  refine w_results Tryz.func71 (rv1 v0) ?_
  exact ⟨_, _, congrArg (fun b => RR.ret (.lit (.bool b)) _ _) (by simp_all; try omega), K.out⟩
theorem integer_ok {m : Mem} (n : Int) (hw : Wf m) : CallQ Tryz.prog fl 92 [iv n] m (Rets noS m (.agg [iv 1, iv n])) := by
 refine hfl.start (by decide) 5 Tryz.func92 rfl rfl (Nat.le_of_ble_eq_true rfl) ?_
 intro bs hb
 have ar0 := hb 0 _ rfl
 clear hb
 have K : Kept (fun q => m.next ≤ q ∨ noS q) m m := Kept.refl hw
 refine gg ?_
 refine s_new rfl rfl rfl rfl (o_alloc ZcF.h) (fun m1 g => ?_)
 have n1 := g.next
 have f := g.fam0 K.wf
 have K := K.g g
 refine gg ?_
 refine s_put0 rfl rfl rfl (o_store v0 v0 g.same f TyF.z rfl rfl rfl rfl) (fun m2 g2 => ?_)
 have K := K.w g2 g.same (fun _ h => by cases h) (Or.inl (by omega))
 refine gg ?_
 refine w_retAt rfl ?_
 refine w_results Tryz.func92 (rvc1 v0 (lvA g2.same TyF.h TyF.z rfl)) ?_
 exact ⟨_, _, rfl, K.out⟩
theorem number_ok {m : Mem} (p : VP) (hw : Wf m) : CallQ Tryz.prog fl 93 [.agg (vcells p)] m (Rets noS m (iv (num p))) := by
 obtain ⟨k, n⟩ := p
 refine hfl.start (by decide) 8 Tryz.func93 rfl rfl (Nat.le_of_ble_eq_true rfl) ?_
 intro bs hb
 have ar0 := hb 0 _ rfl
 clear hb
 have K : Kept (fun q => m.next ≤ q ∨ noS q) m m := Kept.refl hw
 refine gg ?_
 refine s_new rfl rfl rfl rfl (o_box (e_base rfl ar0) rfl) (fun m1 g => ?_)
 have h := g.same
 have K := K.g g
 refine gg ?_
 refine w_cond v0 (fun c => ?_) (fun c => ?_) <;> refine gg ?_
 all_goals
  refine w_retAt rfl ?_
  refine w_results Tryz.func93 (rv1 v0) ?_
  exact ⟨_, _, congrArg (fun b => RR.ret (iv b) _ _) (by simp_all [num]), K.out⟩
theorem rnumber_ok {m : Mem} (p : VP) (hw : Wf m) : CallQ Tryz.prog fl 99 [.agg (vcells p)] m (Rets noS m (iv (num p))) := by
 obtain ⟨k, n⟩ := p
 refine hfl.start (by decide) 8 Tryz.func99 rfl rfl (Nat.le_of_ble_eq_true rfl) ?_
 intro bs hb
 have ar0 := hb 0 _ rfl
 clear hb
 have K : Kept (fun q => m.next ≤ q ∨ noS q) m m := Kept.refl hw
 refine gg ?_
 refine s_new rfl rfl rfl rfl (o_box (e_base rfl ar0) rfl) (fun m1 g => ?_)
 have h := g.same
 have K := K.g g
 refine gg ?_
 refine w_cond v0 (fun c => ?_) (fun c => ?_) <;> refine gg ?_
 all_goals
  refine w_retAt rfl ?_
  refine w_results Tryz.func99 (rv1 v0) ?_
  exact ⟨_, _, congrArg (fun b => RR.ret (iv b) _ _) (by simp_all [num]), K.out⟩
theorem rclamp_ok {m : Mem} (n : Int) (hw : Wf m) : CallQ Tryz.prog fl 59 [iv n] m (Rets noS m (iv (clampI n))) := by
 refine hfl.start (by decide) 6 Tryz.func59 rfl rfl (Nat.le_of_ble_eq_true rfl) ?_
 intro bs hb
 have ar0 := hb 0 _ rfl
 clear hb
 have K : Kept (fun q => m.next ≤ q ∨ noS q) m m := Kept.refl hw
 refine gg ?_
 refine w_retAt rfl ?_
 refine w_results Tryz.func59 (rv1 v0) ?_
 exact ⟨_, _, congrArg (fun b => RR.ret (iv b) _ _) (by show min (max n (-1000000000)) 1000000000 = clampI n; unfold clampI; omega), K.out⟩
theorem nearest_ok {m : Mem} (n : Int) (hw : Wf m) : CallQ Tryz.prog fl 94 [iv n] m (Rets noS m (.agg [iv 1, iv (clampI n)])) := by
 refine hfl.start (by decide) 7 Tryz.func94 rfl rfl (Nat.le_of_ble_eq_true rfl) ?_
 intro bs hb
 have ar0 := hb 0 _ rfl
 clear hb
 have K : Kept (fun q => m.next ≤ q ∨ noS q) m m := Kept.refl hw
 refine gg ?_
 refine s_new rfl rfl rfl rfl (o_alloc ZcF.h) (fun m1 g => ?_)
 have n1 := g.next
 have h := g.same
 have f := g.fam0 K.wf
 have K := K.g g
 refine gg ?_
 refine s_callC K h f (o_calls (me1 v0)) (integer_ok hfl _ K.wf) (fun m K h f => ?_)
 refine gg ?_
 refine s_put0 rfl rfl rfl (o_store v0 v0 h f TyF.z rfl rfl rfl rfl) (fun m2 g2 => ?_)
 have K := K.w g2 h (fun _ h => by cases h) (Or.inl (by omega))
 refine gg ?_
 refine w_retAt rfl ?_
 refine w_results Tryz.func94 (rvc1 v0 (lvA g2.same TyF.h TyF.z rfl)) ?_
 exact ⟨_, _, rfl, K.out⟩
theorem truth_ok {m : Mem} (t : Bool) (hw : Wf m) : CallQ Tryz.prog fl 95 [.lit (.bool t)] m (Rets noS m (.agg [iv 1, iv (if t = true then 1 else 0)])) := by
 refine hfl.start (by decide) 6 Tryz.func95 rfl rfl (Nat.le_of_ble_eq_true rfl) ?_
 intro bs hb
 have ar0 := hb 0 _ rfl
 clear hb
 have K : Kept (fun q => m.next ≤ q ∨ noS q) m m := Kept.refl hw
 refine gg ?_
 refine s_new rfl rfl rfl rfl (o_alloc ZcF.h) (fun m1 g => ?_)
 have n1 := g.next
 have h := g.same
 have f := g.fam0 K.wf
 have K := K.g g
 refine gg ?_
 refine w_cond v0 (fun c => ?_) (fun c => ?_) <;> refine gg ?_
 all_goals
  refine s_callC K h f (o_calls (me1 rfl)) (integer_ok hfl _ K.wf) (fun m K h f => ?_)
  refine gg ?_
  refine s_put0 rfl rfl rfl (o_store v0 v0 h f TyF.z rfl rfl rfl rfl) (fun m2 g2 => ?_)
  have K := K.w g2 h (fun _ h => by cases h) (Or.inl (by omega))
  refine gg ?_
  refine w_retAt rfl ?_
  refine w_results Tryz.func95 (rvc1 v0 (lvA g2.same TyF.h TyF.z rfl)) ?_
  subst c
  exact ⟨_, _, rfl, K.out⟩
theorem isValue_ok {m : Mem} (p : VP) (hw : Wf m) : CallQ Tryz.prog fl 55 [.agg (vcells p)] m (Rets noS m (.lit (.bool (isVal p)))) := by
 obtain ⟨k, n⟩ := p
 refine hfl.start (by decide) 17 Tryz.func55 rfl rfl (Nat.le_of_ble_eq_true rfl) ?_
 intro bs hb
 have ar0 := hb 0 _ rfl
 clear hb
 have K : Kept (fun q => m.next ≤ q ∨ noS q) m m := Kept.refl hw
 refine gg ?_
 refine s_new rfl rfl rfl rfl (o_box (e_base rfl ar0) rfl) (fun m1 g => ?_)
 have h := g.same
 have f := g.fam0 K.wf
 have K := K.g g
 refine gg ?_
 refine w_cond v0 (fun c => ?_) (fun c => ?_) <;> refine gg ?_
 ·refine s_callC K h f (o_calls (me1 v0)) (ranged_ok hfl _ K.wf) (fun m K h f => ?_)
  refine gg ?_
  refine w_retAt rfl ?_
  refine w_results Tryz.func55 (rv1 v0) ?_
  exact ⟨_, _, congrArg (fun b => RR.ret (.lit (.bool b)) _ _) (by simp_all [isVal]), K.out⟩
 ·refine sg (fun c => ?_) (fun c => ?_) <;> refine gg ?_
  all_goals
   refine w_retAt rfl ?_
   refine w_results Tryz.func55 (rv1 v0) ?_
   exact ⟨_, _, congrArg (fun b => RR.ret (.lit (.bool b)) _ _) (by simp_all [isVal]; try omega), K.out⟩
omit hfl in
theorem o_callL {P : Program} {tmps : T AVal} {m : Mem} {g : Operand} {f : FuncId} {ats : Array TypeId} {xs : Array Operand} {vs : List AVal} (hg : evalT tmps g = .lit (.func (.func f) #[] #[])) (hx : mapL (evalT tmps) xs.toList = vs) : aop P tmps m (.call ⟨.value g, xs, ats⟩) = .enter f (appL vs []) m := by
 show callD P m (fnDef (mapL (evalT tmps) xs.toList) (evalT tmps g)) = _
 rw [hg, hx]; rfl
omit hfl in
theorem all_cons {p : VP} {l : List VP} : (p :: l).all isVal = (isVal p && l.all isVal) := rfl
theorem all_loop {ev : AVal} {els : List VP} (k : List AItem) {Q : RR → Prop} {up : Chain} : ∀ (rest pre : List VP) {m : Mem} (b : T AVal), els = pre ++ rest → Wf m → SlA m ev 2 (els.map vcells) → getT b 1 = .lit (.func (.func 55) #[] #[]) → getT b 7 = ev → getT b 8 = goI els.length → getT b 9 = goI pre.length →
  (∀ (m' : Mem) (b' : T AVal), Kept noS m m' → rest.all isVal = true → Wp Tryz.prog fl (At ⟨54, 18, false, none⟩ k b' [] .run up m') Q) →
  (∀ (m' : Mem) (b' : T AVal), Kept noS m m' → rest.all isVal = false → getT b' 4 = .lit (.bool false) → Wp Tryz.prog fl (At ⟨54, 18, false, none⟩ [] b' [] .returning up m') Q) →
  Wp Tryz.prog fl (At ⟨54, 18, false, none⟩ (.code (cAt [true, false, true, false, false] (bodyF Tryz.f54)) :: .inLoop (cAt [true, false, true, false, false] (bodyF Tryz.f54)) :: .inBlock 0 :: k) (sets 18 b []) [] .run up m) Q := by
 intro rest
 induction rest with
 | nil =>
  intro pre m b hsp hw hsl k1 k7 k8 k9 hk ht
  have hlt : decide (Int.ofNat pre.length < Int.ofNat els.length) = false := by subst hsp; simp
  refine gg ?_
  refine Wp.gen (fun b' eb => ?_)
  exact hk _ b' (Kept.refl hw) rfl
 | cons y rest ih =>
  intro pre m b hsp hw hsl k1 k7 k8 k9 hk ht
  have hlt : decide (Int.ofNat pre.length < Int.ofNat els.length) = true := by subst hsp; simp; omega
  have hln := hsl.lnT hsp
  have K : Kept (fun q => m.next ≤ q ∨ noS q) m m := Kept.refl hw
  have hsl0 := hsl
  obtain ⟨r, off, cc, ex, row, hv, hlx, hr, htk⟩ := hsl.here hsp
  subst hv
  refine gg ?_
  refine s_val rfl rfl rfl rfl (o_indexAddr (e_base rfl k7) (e_base rfl k9) ElF.h (by simpa using hlx)) ?_
  refine s_val rfl rfl rfl rfl (o_loadRoA v0 hr (TyF.h (s := _)) (TyF.z (g := true)) htk) ?_
  refine gg ?_
  refine s_new rfl rfl rfl rfl (o_alloc ZcF.h) (fun m1 g => ?_)
  have n1 := g.next
  have h := g.same
  have f := g.fam0 K.wf
  have K := K.g g
  refine gg ?_
  refine s_put0 rfl rfl rfl (o_store v0 v0 h f TyF.z rfl rfl rfl rfl) (fun m2 g2 => ?_)
  have K := K.w g2 h (fun _ h => by cases h) (Or.inl (by omega))
  have h := g2.same
  refine gg ?_
  refine s_callV rfl rfl rfl rfl (o_callL v0 (me1 v0)) (isValue_ok hfl y K.wf) (fun m3 k => ?_)
  have K := K.k k (fun _ h => h.elim)
  refine gg ?_
  refine w_cond v0 (fun c => ?_) (fun c => ?_)
  ·refine gg ?_
   refine w_retAt rfl ?_
   refine Wp.gen (fun b' eb => ?_)
   exact ht _ b' K.out (by simp_all) (eqb eb v0)
  ·refine gg ?_
   refine w_inLoop ?_
   refine Wp.gen (fun b' eb => ?_)
   have c' : isVal y = true := by simpa using c
   exact ih (pre ++ [y]) b' (by simp [hsp]) K.wf (hsl0.kept K) (eqb eb (e_base rfl k1)) (eqb eb (e_base rfl k7)) (eqb eb (e_base rfl k8)) (eqb eb ((e_hit rfl).trans (by rw [List.length_append]; rfl))) (fun m' b' k h => hk m' b' (K.out.trans k) (by rw [all_cons, c', h]; rfl)) (fun m' b' k h h2 => ht m' b' (K.out.trans k) (by rw [all_cons, c', h]; rfl) h2)
theorem all_ok {m : Mem} {ev : AVal} {els : List VP} (hsl : SlA m ev 2 (els.map vcells)) (hw : Wf m) : CallQ Tryz.prog fl 54 [ev, .lit (.func (.func 55) #[] #[])] m (Rets noS m (.lit (.bool (els.all isVal)))) := by
 refine hfl.start (by decide) 18 Tryz.func54 rfl rfl (Nat.le_of_ble_eq_true rfl) ?_
 intro bs hb
 have ar0 := hb 0 _ rfl
 have ar1 := hb 1 _ rfl
 clear hb
 have K : Kept (fun q => m.next ≤ q ∨ noS q) m m := Kept.refl hw
 have hlen := hsl.lenM
 refine gg ?_
 refine w_loop ?_
 refine Wp.gen (fun b0 eb => ?_)
 refine all_loop hfl _ els [] b0 rfl K.wf hsl (eqb eb (e_base rfl ar1)) (eqb eb v0) (eqb eb v0) (eqb eb v0) (fun m' b' k h => ?_) (fun m' b' k h h2 => ?_)
 ·change Wp Tryz.prog fl (At _ _ (sets 18 b' []) _ _ _ _) _
  refine gg ?_
  refine w_retAt rfl ?_
  refine w_results Tryz.func54 (rv1 v0) ?_
  rw [h]; exact ⟨_, _, rfl, k⟩
 ·change Wp Tryz.prog fl (At _ _ (sets 18 b' []) _ _ _ _) _
  refine w_results Tryz.func54 (rv1 (e_base rfl h2)) ?_
  rw [h]; exact ⟨_, _, rfl, k⟩
end
noncomputable section
variable {fl : Fl} (hfl : Tab fl)
include hfl
omit hfl in
theorem aqs_cons {a : AVal} {l : List AVal} (h : aEq a a = true) (t : aEqs l l = true) : aEqs (a :: l) (a :: l) = true := by
 show (aEq a a && aEqs l l) = true
 rw [h, t]; rfl
omit hfl in
theorem aq_slA {m : Mem} {v : AVal} {k : Nat} {els : List (List AVal)} (h : SlA m v k els) : aEq v v = true := by
 rcases h with ⟨_, rfl | rfl⟩ | ⟨r, off, c, ex, row, rfl, _⟩
 ·rfl
 ·rfl
 ·show (r.beq r && off.beq off && els.length.beq els.length && c.beq c && (ex == ex)) = true
  rw [Nat.beq_refl, Nat.beq_refl, Nat.beq_refl, Nat.beq_refl]; cases ex <;> rfl
omit hfl in
theorem ax_aq {m : Mem} {e : AX} (h : e.OK m) : aEq (.agg e.cells) (.agg e.cells) = true := by
 cases h with
 | mk h _ => exact aqs_cons (aq_int _ _) (aqs_cons (aq_int _ _) (aqs_cons (aq_slA h) rfl))
omit hfl in
theorem AX.OK.kept {S : Nat → Prop} {m m' : Mem} : ∀ {e : AX}, e.OK m → Kept S m m' → e.OK m' := by
 intro e h k
 induction h with
 | mk h _ ih => exact .mk (h.kept k) (fun e he => ih e he)
omit hfl in
theorem ax_cells {m : Mem} {e : AX} (h : e.OK m) : allCells e.cells = true := by
 cases h with
 | mk h _ => exact ac1 rfl (ac1 rfl (ac1 h.cell rfl))
omit hfl in
theorem two_kids {m : Mem} {kv : AVal} {a b : AX} (h : SlA m kv 3 ([a, b].map AX.cells)) : ∃ r off c ex row, kv = .slice r off 2 c ex ∧ m.heap.get r = some (.ro row) ∧ takeN 3 (dropN row (off + 0 * 3)) = some a.cells ∧ takeN 3 (dropN row (off + 1 * 3)) = some b.cells := by
 rcases h with ⟨h, _⟩ | ⟨r, off, c, ex, row, h1, h2, h3, h4⟩
 ·cases h
 ·exact ⟨r, off, c, ex, row, h1, h3, h4 0 _ rfl, h4 1 _ rfl⟩
omit hfl in
theorem env_at {m : Mem} {ev : AVal} {env : List VP} (h : SlA m ev 2 (env.map vcells)) {i : Nat} (hi : i < env.length) : ∃ r off c ex row, ev = .slice r off env.length c ex ∧ m.heap.get r = some (.ro row) ∧ takeN 2 (dropN row (off + i * 2)) = some (vcells (env.getD i (0, 0))) := by
 rcases h with ⟨h, _⟩ | ⟨r, off, c, ex, row, h1, h2, h3, h4⟩
 ·cases env with
  | nil => simp at hi
  | cons a l => cases h
 ·rw [List.length_map] at h1
  refine ⟨r, off, c, ex, row, h1, h3, h4 i _ ?_⟩
  rw [List.getElem?_map, List.getElem?_eq_getElem hi, List.getD_eq_getElem?_getD, List.getElem?_eq_getElem hi]; rfl
theorem value_ok {env : List VP} (he : ∀ p, p ∈ env → isVal p = true) : ∀ (n : Nat) (e : AX) {m : Mem} {ev : AVal}, fmN env.length n e = true → e.OK m → SlA m ev 2 (env.map vcells) → Wf m → CallQ Tryz.prog fl 57 [.agg e.cells, ev] m (Rets noS m (.agg (vcells (valN env n e)))) := by
 intro n
 induction n with
 | zero => intro e m ev h; cases h
 | succ n ih =>
  intro e m ev hf hok hev hw
  obtain ⟨op, nn, kv, kids⟩ := e
  have hok0 := hok
  cases hok with
  | mk hsl hkids =>
  have ck := hsl.cell
  refine hfl.start (by decide) 65 Tryz.func57 rfl rfl (Nat.le_of_ble_eq_true rfl) ?_
  intro bs hb
  have ar0 := hb 0 _ rfl
  have ar1 := hb 1 _ rfl
  clear hb
  have K : Kept (fun q => m.next ≤ q ∨ noS q) m m := Kept.refl hw
  refine gg ?_
  refine s_new rfl rfl rfl rfl (o_box (e_base rfl ar0) rfl) (fun m1 g => ?_)
  have n1 := g.next
  have hp := g.same
  have K := K.g g
  refine gg ?_
  refine s_new rfl rfl rfl rfl (o_alloc ZcF.h) (fun m2 g2 => ?_)
  have n2 := g2.next
  have f := g2.fam0 K.wf
  have hp := (g2.other m.next (by omega)).trans hp
  have hq := g2.same
  have K := K.g g2
  unfold fmN at hf
  dsimp only at hf
  refine gg ?_
  refine w_cond v0 (fun z => ?_) (fun z => ?_)
  ·have z := eq_of_beq z
   rw [if_pos z] at hf
   refine gg ?_
   refine s_callC K hq f (o_calls (me1 v0)) (integer_ok hfl _ K.wf) (fun m K hq f => ?_)
   refine gg ?_
   refine s_put0 rfl rfl rfl (o_store v0 v0 hq f TyF.z rfl rfl rfl rfl) (fun m' g => ?_)
   have K := K.w g hq (fun _ h => by cases h) (Or.inl (by omega))
   refine gg ?_
   refine w_retAt rfl ?_
   refine w_results Tryz.func57 (rvc1 v0 (lvA g.same TyF.h TyF.z rfl)) ?_
   rw [show valN env (n + 1) (.mk op nn kv kids) = (1, nn) by unfold valN; dsimp only; rw [if_pos z]]
   exact ⟨_, _, rfl, K.out⟩
  ·have z := ne_of_beq_false z
   rw [if_neg z] at hf
   refine gg ?_
   refine w_cond v0 (fun y => ?_) (fun y => ?_)
   ·have y := eq_of_beq y
    rw [if_pos y] at hf
    simp only [Bool.and_eq_true, decide_eq_true_eq] at hf
    obtain ⟨i, rfl⟩ : ∃ i : Nat, nn = Int.ofNat i := ⟨nn.toNat, by have := hf.2.1; show nn = (nn.toNat : Int); omega⟩
    have hi : i < env.length := by have h := hf.2.2; have h : (i : Int) < env.length := h; omega
    obtain ⟨r, off, c, ex, row, hv, hr, ht⟩ := env_at hev hi
    subst hv
    refine gg ?_
    refine s_val rfl rfl rfl rfl (o_indexAddr v0 v0 ElF.h hi) ?_
    refine s_val rfl rfl rfl rfl (o_loadRoA v0 (K.ro _ _ hr) (TyF.h (s := _)) (TyF.z (g := true)) ht) ?_
    refine s_put0 rfl rfl rfl (o_store v0 v0 hq f TyF.z rfl rfl rfl rfl) (fun m' g => ?_)
    have K := K.w g hq (fun _ h => by cases h) (Or.inl (by omega))
    refine gg ?_
    refine w_retAt rfl ?_
    refine w_results Tryz.func57 (rvc1 v0 (lvA g.same TyF.h TyF.z rfl)) ?_
    rw [show valN env (n + 1) (.mk op (Int.ofNat i) kv kids) = env.getD i (0, 0) by unfold valN; dsimp only; rw [if_neg z, if_pos y]; rfl]
    exact ⟨_, _, rfl, K.out⟩
   ·have y := ne_of_beq_false y
    rw [if_neg y] at hf
    rcases kids with _ | ⟨a, _ | ⟨b, _ | ⟨x, l⟩⟩⟩
    ·cases hf
    ·cases hf
    ·dsimp only at hf
     simp only [Bool.and_eq_true, decide_eq_true_eq] at hf
     obtain ⟨⟨h3, h7⟩, h0, fa, fb⟩ := hf
     obtain ⟨r, off, c, ex, row, hv, hr, ta, tb⟩ := two_kids hsl
     subst hv
     have oka := hkids a (by simp)
     have okb := hkids b (by simp)
     have va := num_le (val_val rfl he n a fa)
     have vb := num_le (val_val rfl he n b fb)
     have vm := mul_le va vb
     have kk := Kept.refl (S := noS) K.wf
     have l1 := K.wf.lt hp
     have l2 := K.wf.lt hq
     refine gg ?_
     refine w_draw (.L 0 0 0 (.L 1 1 1 (.L 2 3 0 (.L 3 7 1 (.L 4 0 0 (.L 7 0 0 (.L 8 128 1 (.L 9 384 0 (.L 10 896 1 (.L 11 0 0 (.H 5 31 3 (.H 6 63 3 (.H 12 4095 3 (.H 13 8191 3 (.L 14 16383 0 (.L 15 32767 0 .fin)))))))))))))))) rfl (by kernel_rfl) ?_
     refine gg ?_
     refine d_light0 rfl rfl rfl rfl (o_indexAddr v0 rfl ElF.h (by decide)) ?_
     refine d_light1 rfl rfl rfl rfl (o_loadRoA v0 (K.ro _ _ hr) (TyF.h (s := _)) (TyF.z (g := true)) ta) ?_
     refine gg ?_
     refine d_light0 rfl rfl rfl rfl (o_indexAddr v0 rfl ElF.h (by decide)) ?_
     refine d_light1 rfl rfl rfl rfl (o_loadRoA v0 (K.ro _ _ hr) (TyF.h (s := _)) (TyF.z (g := true)) tb) ?_
     refine gg ?_
     refine d_callE K kk (o_calls (me2 v0 v0)) (ih a fa (oka.kept K) (hev.kept K) K.wf) (lk_keep (by kernel_rfl) (lk_keep (by kernel_rfl) (lk_skip (by kernel_rfl) (lk_skip (by kernel_rfl) lk0)))) (fun m3 K kk => ?_)
     refine ⟨(ck_one (o_loadRoA v0 (K.ro _ _ hr) (TyF.h (s := _)) (TyF.z (g := true)) tb) (ax_aq okb) (ck_one (o_loadRow v0 ((kk.get _ l1 id).trans hp) TyF.h TyF.z rfl rfl) (aq_slA hsl) (ck_skip (by kernel_rfl) (ck_skip (by kernel_rfl) ck0)))), ?_⟩
     refine d_callE K kk (o_calls (me1 v0)) (number_ok hfl _ K.wf) (lk_keep (by kernel_rfl) (lk_keep (by kernel_rfl) lk0)) (fun m4 K kk => ?_)
     refine ⟨(ck_one (o_loadRoA v0 (K.ro _ _ hr) (TyF.h (s := _)) (TyF.z (g := true)) tb) (ax_aq okb) (ck_one (o_loadRow v0 ((kk.get _ l1 id).trans hp) TyF.h TyF.z rfl rfl) (aq_slA hsl) ck0)), ?_⟩
     refine d_callE K kk (o_calls (me2 v0 v0)) (ih b fb (okb.kept K) (hev.kept K) K.wf) (lk_skip (by kernel_rfl) (lk_skip (by kernel_rfl) lk0)) (fun m5 K kk => ?_)
     refine ⟨(ck_skip (by kernel_rfl) (ck_skip (by kernel_rfl) ck0)), ?_⟩
     refine d_callE K kk (o_calls (me1 v0)) (number_ok hfl _ K.wf) lk0 (fun m6 K kk => ?_)
     refine ⟨ck0, ?_⟩
     have f := (kk.fam _ l2 id).trans f
     have hp := (kk.get _ l1 id).trans hp
     have hq := (kk.get _ l2 id).trans hq
     have b1 : -(2 ^ 62) ≤ num (valN env n a) + num (valN env n b) := by omega
     have b2 : num (valN env n a) + num (valN env n b) < 2 ^ 62 := by omega
     have b3 : -(2 ^ 62) ≤ num (valN env n a) - num (valN env n b) := by omega
     have b4 : num (valN env n a) - num (valN env n b) < 2 ^ 62 := by omega
     refine gg ?_
     have ev : valN env (n + 1) (.mk op nn (.slice r off 2 c ex) [a, b]) = (if op = 3 then (1, clampI (num (valN env n a) + num (valN env n b))) else if op = 4 then (1, clampI (num (valN env n a) - num (valN env n b))) else if op = 5 then (1, clampI (num (valN env n a) * num (valN env n b))) else if op = 6 then (1, if num (valN env n a) < num (valN env n b) then 1 else 0) else (1, if num (valN env n a) = num (valN env n b) then 1 else 0)) := by
      rw [valN]; dsimp only; rw [if_neg z, if_neg y]
     rw [ev]
     have lq := K.next
     refine w_cond v0 (fun z3 => ?_) (fun z3 => ?_)
     ·refine gg ?_
      refine s_callC K hq f (o_calls (me1 v0)) (nearest_ok hfl _ K.wf) (fun m K hq f => ?_)
      refine gg ?_
      refine s_put0 rfl rfl rfl (o_store v0 v0 hq f TyF.z rfl rfl rfl rfl) (fun m' g => ?_)
      have K := K.w g hq (fun _ h => by cases h) (Or.inl (by omega))
      refine gg ?_
      refine w_retAt rfl ?_
      refine w_results Tryz.func57 (rvc1 v0 (lvA g.same TyF.h TyF.z rfl)) ?_
      rw [if_pos (eq_of_beq z3)]
      exact ⟨_, _, rfl, K.out⟩
     rw [if_neg (ne_of_beq_false z3)]
     refine gg ?_
     refine w_cond v0 (fun z4 => ?_) (fun z4 => ?_)
     ·refine gg ?_
      refine s_callC K hq f (o_calls (me1 v0)) (nearest_ok hfl _ K.wf) (fun m K hq f => ?_)
      refine gg ?_
      refine s_put0 rfl rfl rfl (o_store v0 v0 hq f TyF.z rfl rfl rfl rfl) (fun m' g => ?_)
      have K := K.w g hq (fun _ h => by cases h) (Or.inl (by omega))
      refine gg ?_
      refine w_retAt rfl ?_
      refine w_results Tryz.func57 (rvc1 v0 (lvA g.same TyF.h TyF.z rfl)) ?_
      rw [if_pos (eq_of_beq z4)]
      exact ⟨_, _, rfl, K.out⟩
     rw [if_neg (ne_of_beq_false z4)]
     refine gg ?_
     refine w_cond v0 (fun z5 => ?_) (fun z5 => ?_)
     ·refine gg ?_
      refine s_val rfl rfl rfl rfl (o_mulI v0 v0 (by omega) (by omega)) ?_
      refine s_callC K hq f (o_calls (me1 v0)) (nearest_ok hfl _ K.wf) (fun m K hq f => ?_)
      refine gg ?_
      refine s_put0 rfl rfl rfl (o_store v0 v0 hq f TyF.z rfl rfl rfl rfl) (fun m' g => ?_)
      have K := K.w g hq (fun _ h => by cases h) (Or.inl (by omega))
      refine gg ?_
      refine w_retAt rfl ?_
      refine w_results Tryz.func57 (rvc1 v0 (lvA g.same TyF.h TyF.z rfl)) ?_
      rw [if_pos (eq_of_beq z5)]
      exact ⟨_, _, rfl, K.out⟩
     rw [if_neg (ne_of_beq_false z5)]
     refine gg ?_
     refine w_cond v0 (fun z6 => ?_) (fun z6 => ?_)
     ·refine gg ?_
      refine s_callC K hq f (o_calls (me1 v0)) (truth_ok hfl _ K.wf) (fun m K hq f => ?_)
      refine gg ?_
      refine s_put0 rfl rfl rfl (o_store v0 v0 hq f TyF.z rfl rfl rfl rfl) (fun m' g => ?_)
      have K := K.w g hq (fun _ h => by cases h) (Or.inl (by omega))
      refine gg ?_
      refine w_retAt rfl ?_
      refine w_results Tryz.func57 (rvc1 v0 (lvA g.same TyF.h TyF.z rfl)) ?_
      rw [if_pos (eq_of_beq z6)]
      simp only [decide_eq_true_eq]
      exact ⟨_, _, rfl, K.out⟩
     rw [if_neg (ne_of_beq_false z6)]
     refine gg ?_
     refine s_callC K hq f (o_calls (me1 v0)) (truth_ok hfl _ K.wf) (fun m K hq f => ?_)
     refine gg ?_
     refine s_put0 rfl rfl rfl (o_store v0 v0 hq f TyF.z rfl rfl rfl rfl) (fun m' g => ?_)
     have K := K.w g hq (fun _ h => by cases h) (Or.inl (by omega))
     refine gg ?_
     refine w_retAt rfl ?_
     refine w_results Tryz.func57 (rvc1 v0 (lvA g.same TyF.h TyF.z rfl)) ?_
     simp only [beq_iff_eq]
     exact ⟨_, _, rfl, K.out⟩
    ·cases hf
end
noncomputable section
variable {fl : Fl} (hfl : Tab fl)
include hfl
theorem rvalue_ok {env : List VP} (he : ∀ p, p ∈ env → isVal p = true) : ∀ (n : Nat) (e : AX) {m : Mem} {ev : AVal}, fmN env.length n e = true → e.OK m → SlA m ev 2 (env.map vcells) → Wf m → CallQ Tryz.prog fl 60 [.agg e.cells, ev] m (Rets noS m (.agg (vcells (valN env n e)))) := by
 intro n
 induction n with
 | zero => intro e m ev h; cases h
 | succ n ih =>
  intro e m ev hf hok hev hw
  obtain ⟨op, nn, kv, kids⟩ := e
  have hok0 := hok
  cases hok with
  | mk hsl hkids =>
  have ck := hsl.cell
  refine hfl.start (by decide) 66 Tryz.func60 rfl rfl (Nat.le_of_ble_eq_true rfl) ?_
  intro bs hb
  have ar0 := hb 0 _ rfl
  have ar1 := hb 1 _ rfl
  clear hb
  have K : Kept (fun q => m.next ≤ q ∨ noS q) m m := Kept.refl hw
  refine gg ?_
  refine s_new rfl rfl rfl rfl (o_box (e_base rfl ar0) rfl) (fun m1 g => ?_)
  have n1 := g.next
  have hp := g.same
  have K := K.g g
  refine gg ?_
  refine s_new rfl rfl rfl rfl (o_alloc ZcF.h) (fun m2 g2 => ?_)
  have n2 := g2.next
  have f := g2.fam0 K.wf
  have hp := (g2.other m.next (by omega)).trans hp
  have hq := g2.same
  have K := K.g g2
  unfold fmN at hf
  dsimp only at hf
  refine gg ?_
  refine w_cond v0 (fun z => ?_) (fun z => ?_)
  ·have z := eq_of_beq z
   rw [if_pos z] at hf
   refine gg ?_
   refine s_put0 rfl rfl rfl (o_store v0 v0 hq f TyF.z rfl rfl rfl rfl) (fun m' g => ?_)
   have K := K.w g hq (fun _ h => by cases h) (Or.inl (by omega))
   refine gg ?_
   refine w_retAt rfl ?_
   refine w_results Tryz.func60 (rvc1 v0 (lvA g.same TyF.h TyF.z rfl)) ?_
   rw [show valN env (n + 1) (.mk op nn kv kids) = (1, nn) by unfold valN; dsimp only; rw [if_pos z]]
   exact ⟨_, _, rfl, K.out⟩
  ·have z := ne_of_beq_false z
   rw [if_neg z] at hf
   refine gg ?_
   refine w_cond v0 (fun y => ?_) (fun y => ?_)
   ·have y := eq_of_beq y
    rw [if_pos y] at hf
    simp only [Bool.and_eq_true, decide_eq_true_eq] at hf
    obtain ⟨i, rfl⟩ : ∃ i : Nat, nn = Int.ofNat i := ⟨nn.toNat, by have := hf.2.1; show nn = (nn.toNat : Int); omega⟩
    have hi : i < env.length := by have h := hf.2.2; have h : (i : Int) < env.length := h; omega
    obtain ⟨r, off, c, ex, row, hv, hr, ht⟩ := env_at hev hi
    subst hv
    refine gg ?_
    refine s_val rfl rfl rfl rfl (o_indexAddr v0 v0 ElF.h hi) ?_
    refine s_val rfl rfl rfl rfl (o_loadRoA v0 (K.ro _ _ hr) (TyF.h (s := _)) (TyF.z (g := true)) ht) ?_
    refine s_put0 rfl rfl rfl (o_store v0 v0 hq f TyF.z rfl rfl rfl rfl) (fun m' g => ?_)
    have K := K.w g hq (fun _ h => by cases h) (Or.inl (by omega))
    refine gg ?_
    refine w_retAt rfl ?_
    refine w_results Tryz.func60 (rvc1 v0 (lvA g.same TyF.h TyF.z rfl)) ?_
    rw [show valN env (n + 1) (.mk op (Int.ofNat i) kv kids) = env.getD i (0, 0) by unfold valN; dsimp only; rw [if_neg z, if_pos y]; rfl]
    exact ⟨_, _, rfl, K.out⟩
   ·have y := ne_of_beq_false y
    rw [if_neg y] at hf
    rcases kids with _ | ⟨a, _ | ⟨b, _ | ⟨x, l⟩⟩⟩
    ·cases hf
    ·cases hf
    ·dsimp only at hf
     simp only [Bool.and_eq_true, decide_eq_true_eq] at hf
     obtain ⟨⟨h3, h7⟩, h0, fa, fb⟩ := hf
     obtain ⟨r, off, c, ex, row, hv, hr, ta, tb⟩ := two_kids hsl
     subst hv
     have oka := hkids a (by simp)
     have okb := hkids b (by simp)
     have va := num_le (val_val rfl he n a fa)
     have vb := num_le (val_val rfl he n b fb)
     have vm := mul_le va vb
     have kk := Kept.refl (S := noS) K.wf
     have l1 := K.wf.lt hp
     have l2 := K.wf.lt hq
     refine gg ?_
     refine w_draw (.L 0 0 0 (.L 1 1 1 (.L 2 3 0 (.L 3 7 1 (.L 4 0 0 (.L 7 0 0 (.L 8 128 1 (.L 9 384 0 (.L 10 896 1 (.L 11 0 0 (.H 5 31 3 (.H 6 63 3 (.H 12 4095 3 (.H 13 8191 3 (.L 14 16383 0 (.L 15 32767 0 .fin)))))))))))))))) rfl (by kernel_rfl) ?_
     refine gg ?_
     refine d_light0 rfl rfl rfl rfl (o_indexAddr v0 rfl ElF.h (by decide)) ?_
     refine d_light1 rfl rfl rfl rfl (o_loadRoA v0 (K.ro _ _ hr) (TyF.h (s := _)) (TyF.z (g := true)) ta) ?_
     refine gg ?_
     refine d_light0 rfl rfl rfl rfl (o_indexAddr v0 rfl ElF.h (by decide)) ?_
     refine d_light1 rfl rfl rfl rfl (o_loadRoA v0 (K.ro _ _ hr) (TyF.h (s := _)) (TyF.z (g := true)) tb) ?_
     refine gg ?_
     refine d_callE K kk (o_calls (me2 v0 v0)) (ih a fa (oka.kept K) (hev.kept K) K.wf) (lk_keep (by kernel_rfl) (lk_keep (by kernel_rfl) (lk_skip (by kernel_rfl) (lk_skip (by kernel_rfl) lk0)))) (fun m3 K kk => ?_)
     refine ⟨(ck_one (o_loadRoA v0 (K.ro _ _ hr) (TyF.h (s := _)) (TyF.z (g := true)) tb) (ax_aq okb) (ck_one (o_loadRow v0 ((kk.get _ l1 id).trans hp) TyF.h TyF.z rfl rfl) (aq_slA hsl) (ck_skip (by kernel_rfl) (ck_skip (by kernel_rfl) ck0)))), ?_⟩
     refine d_callE K kk (o_calls (me1 v0)) (rnumber_ok hfl _ K.wf) (lk_keep (by kernel_rfl) (lk_keep (by kernel_rfl) lk0)) (fun m4 K kk => ?_)
     refine ⟨(ck_one (o_loadRoA v0 (K.ro _ _ hr) (TyF.h (s := _)) (TyF.z (g := true)) tb) (ax_aq okb) (ck_one (o_loadRow v0 ((kk.get _ l1 id).trans hp) TyF.h TyF.z rfl rfl) (aq_slA hsl) ck0)), ?_⟩
     refine d_callE K kk (o_calls (me2 v0 v0)) (ih b fb (okb.kept K) (hev.kept K) K.wf) (lk_skip (by kernel_rfl) (lk_skip (by kernel_rfl) lk0)) (fun m5 K kk => ?_)
     refine ⟨(ck_skip (by kernel_rfl) (ck_skip (by kernel_rfl) ck0)), ?_⟩
     refine d_callE K kk (o_calls (me1 v0)) (rnumber_ok hfl _ K.wf) lk0 (fun m6 K kk => ?_)
     refine ⟨ck0, ?_⟩
     have f := (kk.fam _ l2 id).trans f
     have hp := (kk.get _ l1 id).trans hp
     have hq := (kk.get _ l2 id).trans hq
     have b1 : -(2 ^ 62) ≤ num (valN env n a) + num (valN env n b) := by omega
     have b2 : num (valN env n a) + num (valN env n b) < 2 ^ 62 := by omega
     have b3 : -(2 ^ 62) ≤ num (valN env n a) - num (valN env n b) := by omega
     have b4 : num (valN env n a) - num (valN env n b) < 2 ^ 62 := by omega
     refine gg ?_
     have ev : valN env (n + 1) (.mk op nn (.slice r off 2 c ex) [a, b]) = (if op = 3 then (1, clampI (num (valN env n a) + num (valN env n b))) else if op = 4 then (1, clampI (num (valN env n a) - num (valN env n b))) else if op = 5 then (1, clampI (num (valN env n a) * num (valN env n b))) else if op = 6 then (1, if num (valN env n a) < num (valN env n b) then 1 else 0) else (1, if num (valN env n a) = num (valN env n b) then 1 else 0)) := by
      rw [valN]; dsimp only; rw [if_neg z, if_neg y]
     rw [ev]
     have lq := K.next
     refine w_cond v0 (fun z3 => ?_) (fun z3 => ?_)
     ·refine gg ?_
      refine s_callC K hq f (o_calls (me1 v0)) (rclamp_ok hfl _ K.wf) (fun m K hq f => ?_)
      refine gg ?_
      refine s_put0 rfl rfl rfl (o_store v0 v0 hq f TyF.z rfl rfl rfl rfl) (fun m' g => ?_)
      have K := K.w g hq (fun _ h => by cases h) (Or.inl (by omega))
      refine gg ?_
      refine w_retAt rfl ?_
      refine w_results Tryz.func60 (rvc1 v0 (lvA g.same TyF.h TyF.z rfl)) ?_
      rw [if_pos (eq_of_beq z3)]
      exact ⟨_, _, rfl, K.out⟩
     rw [if_neg (ne_of_beq_false z3)]
     refine gg ?_
     refine w_cond v0 (fun z4 => ?_) (fun z4 => ?_)
     ·refine gg ?_
      refine s_callC K hq f (o_calls (me1 v0)) (rclamp_ok hfl _ K.wf) (fun m K hq f => ?_)
      refine gg ?_
      refine s_put0 rfl rfl rfl (o_store v0 v0 hq f TyF.z rfl rfl rfl rfl) (fun m' g => ?_)
      have K := K.w g hq (fun _ h => by cases h) (Or.inl (by omega))
      refine gg ?_
      refine w_retAt rfl ?_
      refine w_results Tryz.func60 (rvc1 v0 (lvA g.same TyF.h TyF.z rfl)) ?_
      rw [if_pos (eq_of_beq z4)]
      exact ⟨_, _, rfl, K.out⟩
     rw [if_neg (ne_of_beq_false z4)]
     refine gg ?_
     refine w_cond v0 (fun z5 => ?_) (fun z5 => ?_)
     ·refine gg ?_
      refine s_val rfl rfl rfl rfl (o_mulI v0 v0 (by omega) (by omega)) ?_
      refine gg ?_
      refine s_callC K hq f (o_calls (me1 v0)) (rclamp_ok hfl _ K.wf) (fun m K hq f => ?_)
      refine gg ?_
      refine s_put0 rfl rfl rfl (o_store v0 v0 hq f TyF.z rfl rfl rfl rfl) (fun m' g => ?_)
      have K := K.w g hq (fun _ h => by cases h) (Or.inl (by omega))
      refine gg ?_
      refine w_retAt rfl ?_
      refine w_results Tryz.func60 (rvc1 v0 (lvA g.same TyF.h TyF.z rfl)) ?_
      rw [if_pos (eq_of_beq z5)]
      exact ⟨_, _, rfl, K.out⟩
     rw [if_neg (ne_of_beq_false z5)]
     refine gg ?_
     refine w_cond v0 (fun z6 => ?_) (fun z6 => ?_)
     ·refine gg ?_
      rw [if_pos (eq_of_beq z6)]
      refine w_cond v0 (fun c => ?_) (fun c => ?_) <;> refine gg ?_
      all_goals
       refine s_callC K hq f (o_calls (me1 v0)) (rclamp_ok hfl _ K.wf) (fun m K hq f => ?_)
       refine gg ?_
       refine s_put0 rfl rfl rfl (o_store v0 v0 hq f TyF.z rfl rfl rfl rfl) (fun m' g => ?_)
       have K := K.w g hq (fun _ h => by cases h) (Or.inl (by omega))
       refine gg ?_
       refine w_retAt rfl ?_
       refine w_results Tryz.func60 (rvc1 v0 (lvA g.same TyF.h TyF.z rfl)) ?_
       simp only [decide_eq_true_eq, decide_eq_false_iff_not] at c
       first | rw [if_pos c] | rw [if_neg c]
       exact ⟨_, _, rfl, K.out⟩
     rw [if_neg (ne_of_beq_false z6)]
     refine gg ?_
     refine w_cond v0 (fun z7 => ?_) (fun z7 => ?_)
     ·refine gg ?_
      refine w_cond v0 (fun c => ?_) (fun c => ?_) <;> refine gg ?_
      all_goals
       refine s_callC K hq f (o_calls (me1 v0)) (rclamp_ok hfl _ K.wf) (fun m K hq f => ?_)
       refine gg ?_
       refine s_put0 rfl rfl rfl (o_store v0 v0 hq f TyF.z rfl rfl rfl rfl) (fun m' g => ?_)
       have K := K.w g hq (fun _ h => by cases h) (Or.inl (by omega))
       refine gg ?_
       refine w_retAt rfl ?_
       refine w_results Tryz.func60 (rvc1 v0 (lvA g.same TyF.h TyF.z rfl)) ?_
       first | rw [if_pos (eq_of_beq c)] | rw [if_neg (ne_of_beq_false c)]
       exact ⟨_, _, rfl, K.out⟩
     ·have e3 := ne_of_beq_false z3
      have e4 := ne_of_beq_false z4
      have e5 := ne_of_beq_false z5
      have e6 := ne_of_beq_false z6
      have e7 := ne_of_beq_false z7
      omega
    ·cases hf
end
end Go.Proofs.YtkfjmpdbfjaboaaGreat
