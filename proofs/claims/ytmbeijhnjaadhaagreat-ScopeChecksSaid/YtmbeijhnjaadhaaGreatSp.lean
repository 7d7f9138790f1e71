/- A part of the proof of ScopeChecks. -/
import Derived.Test.YtmbeijhnjaadhaaGreatProg
import Derived.KernelRfl
import Derived.Test.YtmbeijhnjaadhaaGreatAbsM
namespace Go.Proofs.YtmbeijhnjaadhaaGreat
open Go Go.Abs
noncomputable section
def bodyF (f : Func) : Code := match f.body with | some c => c | none => .skip
noncomputable def okNames : Bool := (List.range Tryz.prog.funcs.size).all fun i => match Tryz.prog.funcs[i]? with | some fn => !fn.body.isSome || !(fn.name == "runtime.NumGoroutine") | none => true
theorem okNames_true : okNames = true := by kernel_rfl
theorem names : NamesOK Tryz.prog := by
 intro f fn hf hb
 have hlt := (Array.getElem?_eq_some_iff.1 hf).1
 have h := okNames_true
 unfold okNames at h
 rw [List.all_eq_true] at h
 have h2 := h f (List.mem_range.2 hlt)
 rw [hf] at h2
 dsimp only at h2
 rw [hb] at h2
 simpa using h2
theorem mixed : Tryz.prog.follows .mixedOrders = true := by kernel_rfl
structure Tab (fl : Fl) : Prop where
 plain : fl.l = []
 tb : ∀ f args m, f ≠ 6 → fl.tb f args m = none
 tc : ∀ f args m, fl.tc f args m = none
theorem Tab.start {fl : Fl} (hfl : Tab fl) {m : Mem} {Q : RR → Prop} {f : FuncId} (h1 : f ≠ 6) {fn : Func} {c : Code} {args : List AVal} (nt : Nat) (hf : Tryz.prog.funcs[f]? = some fn) (hb : fn.body = some c) (hnt : fn.ntmps = nt) (hlen : args.length ≤ nt)
  (w : ∀ b, (∀ i v, args[i]? = some v → getT b i = v) → Wp Tryz.prog fl (At ⟨f, nt, false, none⟩ [.code c] (sets nt b []) [] .run [] m) Q) : CallQ Tryz.prog fl f args m Q := by
 subst hnt
 exact CallQ.body (hfl.tb _ _ _ h1) (hfl.tc _ _ _) (by rw [hfl.plain]; rfl) (by rw [hfl.plain]; rfl) hf hb hlen (w _ (fun i v h => getA h))
structure Cel (m : Mem) (r : Nat) (cells : List AVal) : Prop where
 row : ∃ e, m.heap.get r = some (.row e cells r 0)
 fam : m.fams.get r = none
theorem Cel.of {m : Mem} {r : Nat} {e : Elem} {cells : List AVal} (h : m.heap.get r = some (.row e cells r 0)) (hf : m.fams.get r = none) : Cel m r cells := ⟨⟨e, h⟩, hf⟩
theorem Cel.kept {S : Nat → Prop} {m m' : Mem} {r : Nat} {cells : List AVal} (h : Cel m r cells) (k : Kept S m m') (hlt : r < m.next) (hS : ¬ S r) : Cel m' r cells := by
 obtain ⟨⟨e, h1⟩, h2⟩ := h
 exact ⟨⟨e, (k.get r hlt hS).trans h1⟩, (k.fam r hlt hS).trans h2⟩
theorem Cel.lt {m : Mem} {r : Nat} {cells : List AVal} (h : Cel m r cells) (hw : Wf m) : r < m.next := by
 obtain ⟨⟨e, h1⟩, _⟩ := h
 exact hw.lt h1
instance : TyF Tryz.prog 3 false 1 := ⟨by kernel_rfl, by kernel_rfl⟩
instance : TyF Tryz.prog 4 false 1 := ⟨by kernel_rfl, by kernel_rfl⟩
instance : TyF Tryz.prog 93 false 1 := ⟨by kernel_rfl, by kernel_rfl⟩
instance : TyF Tryz.prog 67 false 1 := ⟨by kernel_rfl, by kernel_rfl⟩
instance : TyF Tryz.prog 112 true 3 := ⟨by kernel_rfl, by kernel_rfl⟩
instance : FdF Tryz.prog 112 0 0 93 := ⟨by kernel_rfl⟩
instance : FdF Tryz.prog 112 1 1 3 := ⟨by kernel_rfl⟩
instance : FdF Tryz.prog 112 2 2 67 := ⟨by kernel_rfl⟩
instance : SlF Tryz.prog 67 112 := ⟨by kernel_rfl⟩
instance : ElF Tryz.prog 67 112 3 := ⟨by kernel_rfl⟩
instance : ZcF Tryz.prog 3 [.lit (.int .i64 0)] := ⟨by kernel_rfl⟩
end
noncomputable section
inductive AX where
 | mk (op n : Int) (kv : AVal) (kids : List AX)
def AX.op : AX → Int | .mk op _ _ _ => op
def AX.n : AX → Int | .mk _ n _ _ => n
def AX.kv : AX → AVal | .mk _ _ kv _ => kv
def AX.kids : AX → List AX | .mk _ _ _ kids => kids
def AX.cells : AX → List AVal | .mk op n kv _ => [iv op, iv n, kv]
inductive AX.OK (m : Mem) : AX → Prop
 | mk {op n : Int} {kv : AVal} {kids : List AX} (h : SlA m kv 3 (kids.map AX.cells)) (hk : ∀ e, e ∈ kids → AX.OK m e) : AX.OK m (.mk op n kv kids)
theorem ax_size {op n : Int} {kv : AVal} {kids : List AX} {e : AX} (h : e ∈ kids) : SizeOf.sizeOf e < SizeOf.sizeOf (AX.mk op n kv kids) := by
 have := List.sizeOf_lt_of_mem h
 simp only [AX.mk.sizeOf_spec]; omega
def ndN : Nat → AX → Nat
 | 0, _ => 0
 | n + 1, e => 1 + (e.kids.map (ndN n)).sum
def dpN : Nat → AX → Nat
 | 0, _ => 0
 | n + 1, e => (e.kids.map (dpN n)).foldl max 0 + 1
def ranged (n : Int) : Bool := decide (-1000000000 ≤ n) && decide (n ≤ 1000000000)
def fmN (sz : Int) : Nat → AX → Bool
 | 0, _ => false
 | n + 1, e => match e with
  | .mk op nn _ kids => if op = 1 then kids.isEmpty && ranged nn else if op = 2 then kids.isEmpty && (decide (0 ≤ nn) && decide (nn < sz)) else match kids with
   | [a, b] => (decide (3 ≤ op) && decide (op ≤ 7)) && (decide (nn = 0) && (fmN sz n a && fmN sz n b))
   | _ => false
theorem nd_pos {n : Nat} {e : AX} (h : SizeOf.sizeOf e < n) : 1 ≤ ndN n e := by
 cases n with
 | zero => omega
 | succ n => show 1 ≤ 1 + _; omega
theorem fold_max : ∀ (l : List Nat) (a b : Nat), (l.foldl max a ≤ b) = (a ≤ b ∧ ∀ x, x ∈ l → x ≤ b)
 | [], a, b => by simp
 | x :: l, a, b => by rw [List.foldl_cons, fold_max l]; simp only [List.mem_cons, forall_eq_or_imp, eq_iff_iff]; constructor <;> rintro ⟨h1, h2⟩ <;> refine ⟨by omega, ?_⟩ <;> first | exact ⟨by omega, h2⟩ | exact h2.2
theorem sum_mem {l : List AX} {f : AX → Nat} {a : AX} (h : a ∈ l) : f a ≤ (l.map f).sum := by
 induction l with
 | nil => cases h
 | cons b l ih =>
  rw [List.map_cons, List.sum_cons]
  rcases List.mem_cons.1 h with rfl | h
  ·omega
  ·have := ih h; omega
theorem dp_le : ∀ (n : Nat) (e : AX), SizeOf.sizeOf e < n → 1 ≤ dpN n e ∧ dpN n e ≤ ndN n e
 | 0, e, h => by omega
 | n + 1, .mk op nn kv kids, h => by
  have e1 : ndN (n + 1) (.mk op nn kv kids) = 1 + (kids.map (ndN n)).sum := rfl
  have e2 : dpN (n + 1) (.mk op nn kv kids) = (kids.map (dpN n)).foldl max 0 + 1 := rfl
  rw [e1, e2]
  refine ⟨by omega, ?_⟩
  have : (kids.map (dpN n)).foldl max 0 ≤ (kids.map (ndN n)).sum := by
   rw [fold_max]
   refine ⟨by omega, fun x hx => ?_⟩
   obtain ⟨k, hk, rfl⟩ := List.mem_map.1 hx
   have h1 := sum_mem (f := ndN n) hk
   have h2 := dp_le n k (by have := ax_size (op := op) (n := nn) (kv := kv) hk; omega)
   omega
  omega
abbrev VP := Int × Int
def isVal (p : VP) : Bool := if p.1 = 1 then ranged p.2 else decide (1 < p.1) && decide (p.1 ≤ 4)
end
noncomputable section
variable {fl : Fl} (hfl : Tab fl)
include hfl
omit hfl in
theorem all_cons {p : VP} {l : List VP} : (p :: l).all isVal = (isVal p && l.all isVal) := rfl
end
noncomputable section
variable {fl : Fl} (hfl : Tab fl)
include hfl
omit hfl in
theorem aqs_cons {a : AVal} {l : List AVal} (h : aEq a a = true) (t : aEqs l l = true) : aEqs (a :: l) (a :: l) = true := by
 show (aEq a a && aEqs l l) = true
 rw [h, t]; rfl
omit hfl in
theorem aq_slA {m : Mem} {v : AVal} {k : Nat} {els : List (List AVal)} (h : SlA m v k els) : aEq v v = true := by
 rcases h with ⟨_, rfl | rfl⟩ | ⟨r, off, c, ex, row, rfl, _⟩
 ·rfl
 ·rfl
 ·show (r.beq r && off.beq off && els.length.beq els.length && c.beq c && (ex == ex)) = true
  rw [Nat.beq_refl, Nat.beq_refl, Nat.beq_refl, Nat.beq_refl]; cases ex <;> rfl
omit hfl in
theorem AX.OK.kept {S : Nat → Prop} {m m' : Mem} : ∀ {e : AX}, e.OK m → Kept S m m' → e.OK m' := by
 intro e h k
 induction h with
 | mk h _ ih => exact .mk (h.kept k) (fun e he => ih e he)
omit hfl in
theorem ax_cells {m : Mem} {e : AX} (h : e.OK m) : allCells e.cells = true := by
 cases h with
 | mk h _ => exact ac1 rfl (ac1 rfl (ac1 h.cell rfl))
omit hfl in
theorem two_kids {m : Mem} {kv : AVal} {a b : AX} (h : SlA m kv 3 ([a, b].map AX.cells)) : ∃ r off c ex row, kv = .slice r off 2 c ex ∧ m.heap.get r = some (.ro row) ∧ takeN 3 (dropN row (off + 0 * 3)) = some a.cells ∧ takeN 3 (dropN row (off + 1 * 3)) = some b.cells := by
 rcases h with ⟨h, _⟩ | ⟨r, off, c, ex, row, h1, h2, h3, h4⟩
 ·cases h
 ·exact ⟨r, off, c, ex, row, h1, h3, h4 0 _ rfl, h4 1 _ rfl⟩
end
noncomputable section
variable {fl : Fl} (hfl : Tab fl)
include hfl
end
noncomputable section
variable {fl : Fl} (hfl : Tab fl)
include hfl
omit hfl in
theorem len_emp {kids : List AX} : (Int.ofNat kids.length == 0) = kids.isEmpty := by
 cases kids with
 | nil => rfl
 | cons a l => show (Int.ofNat (l.length + 1) == 0) = false; rw [beq_eq_false_iff_ne]; show ((l.length + 1 : Nat) : Int) ≠ 0; omega
omit hfl in
end
noncomputable section
variable {fl : Fl} (hfl : Tab fl)
include hfl
omit hfl in
theorem nodes_loop {n : Nat} {most : Int} (hm1 : most ≤ 60) (ih : ∀ (e : AX) (most : Int) {m : Mem}, SizeOf.sizeOf e < n → 0 ≤ most → most ≤ 60 → e.OK m → Wf m → CallQ Tryz.prog fl 77 [.agg e.cells, iv most] m (Rets noS m (iv (min (ndN n e) (most + 1))))) {els : List AX} (hsz : ∀ c, c ∈ els → SizeOf.sizeOf c < n) {r2 : Nat} {z0 z1 kv : AVal} (k : List AItem) {Q : RR → Prop} {up : Chain} : ∀ (rest pre : List AX) (x : Int) {m : Mem} (b : T AVal), els = pre ++ rest → Wf m → 1 ≤ x → x ≤ most + 1 → Cel m r2 [z0, z1, kv] → SlA m kv 3 (els.map AX.cells) → (∀ c, c ∈ els → AX.OK m c) → getT b 1 = iv most → getT b 2 = .ptr r2 0 → getT b 5 = iv x → getT b 6 = goI pre.length →
  (∀ (m' : Mem) (b' : T AVal), Kept noS m m' → getT b' 5 = iv (min (x + ((rest.map (ndN n)).sum : Nat)) (most + 1)) → Wp Tryz.prog fl (At ⟨77, 31, false, none⟩ k b' [] .run up m') Q) → Wp Tryz.prog fl (At ⟨77, 31, false, none⟩ (.code (cAt [true, true, false, true, false, false] (bodyF Tryz.f77)) :: .inLoop (cAt [true, true, false, true, false, false] (bodyF Tryz.f77)) :: .inBlock 0 :: k) (sets 31 b []) [] .run up m) Q := by
 intro rest
 induction rest with
 | nil =>
  intro pre x m b hsp hw hx0 hx1 h2 hsl hok k1 k2 k5 k6 hk
  have K : Kept (fun q => m.next ≤ q ∨ noS q) m m := Kept.refl hw
  obtain ⟨⟨e2, h2r⟩, f2⟩ := h2
  have ck := hsl.cell
  have hlen := hsl.lenM
  have hlt : decide (Int.ofNat pre.length < Int.ofNat els.length) = false := by subst hsp; simp
  refine gg ?_
  refine Wp.gen (fun b' eb => ?_)
  exact hk _ b' K.out ((eqb eb (e_base rfl k5)).trans (congrArg iv (by simp only [List.map_nil, List.sum_nil]; omega)))
 | cons y rest ih0 =>
  intro pre x m b hsp hw hx0 hx1 h2 hsl hok k1 k2 k5 k6 hk
  have K : Kept (fun q => m.next ≤ q ∨ noS q) m m := Kept.refl hw
  have lt2 := h2.lt hw
  have h20 := h2
  obtain ⟨⟨e2, h2r⟩, f2⟩ := h2
  have ck := hsl.cell
  have hlen := hsl.lenM
  have hlt : decide (Int.ofNat pre.length < Int.ofNat els.length) = true := by subst hsp; simp; omega
  have hln := hsl.lnT hsp
  have hsl0 := hsl
  obtain ⟨r, off, cc, ex, row, hv, hlx, hr, htk⟩ := hsl.here hsp
  subst hv
  have hym : y ∈ els := by simp [hsp]
  have hny := nd_pos (hsz y hym)
  refine gg ?_
  refine w_cond v0 (fun c => ?_) (fun c => ?_)
  ·have c := of_decide_eq_true c
   have b1 : -(2 ^ 62) ≤ most - x := by omega
   have b2 : most - x < 2 ^ 62 := by omega
   have b3 : -(2 ^ 62) ≤ x + min ((ndN n y : Nat) : Int) (most - x + 1) := by omega
   have b4 : x + min ((ndN n y : Nat) : Int) (most - x + 1) < 2 ^ 62 := by omega
   refine gg ?_
   refine s_val rfl rfl rfl rfl (o_indexAddr v0 v0 ElF.h (by simpa using hlx)) ?_
   refine s_val rfl rfl rfl rfl (o_loadRoA v0 hr (TyF.h (s := _)) (TyF.z (g := true)) htk) ?_
   refine gg ?_
   refine s_callV rfl rfl rfl rfl (o_calls (me2 v0 v0)) (ih y (most - x) (hsz y hym) (by omega) (by omega) (hok y hym) K.wf) (fun m1 k => ?_)
   have K := K.k k (fun _ h => h.elim)
   refine gg ?_
   refine w_inLoop ?_
   refine Wp.gen (fun b' eb => ?_)
   refine ih0 (pre ++ [y]) (x + min ((ndN n y : Nat) : Int) (most - x + 1)) b' (by simp [hsp]) K.wf (by omega) (by omega) (h20.kept K lt2 (by rintro (h | h); omega; exact h)) (hsl0.kept K) (fun c hc => (hok c hc).kept K) (eqb eb (e_base rfl k1)) (eqb eb (e_base rfl k2)) (eqb eb v0) (eqb eb ((e_hit rfl).trans (by rw [List.length_append]; rfl))) (fun m' b' k h => hk m' b' (K.out.trans k) (h.trans (congrArg iv ?_)))
   rw [List.map_cons, List.sum_cons]; omega
  ·have c := of_decide_eq_false c
   refine gg ?_
   refine Wp.gen (fun b' eb => ?_)
   exact hk _ b' K.out ((eqb eb (e_base rfl k5)).trans (congrArg iv (by rw [List.map_cons, List.sum_cons]; omega)))
theorem nodes_ok : ∀ (n : Nat) (e : AX) (most : Int) {m : Mem}, SizeOf.sizeOf e < n → 0 ≤ most → most ≤ 60 → e.OK m → Wf m → CallQ Tryz.prog fl 77 [.agg e.cells, iv most] m (Rets noS m (iv (min (ndN n e) (most + 1)))) := by
 intro n
 induction n with
 | zero => intro e most m h; omega
 | succ n ih =>
  intro e most m hsz hm0 hm1 hok hw
  obtain ⟨op, nn, kv, kids⟩ := e
  cases hok with
  | mk hsl hkids =>
  refine hfl.start (by decide) 31 Tryz.func77 rfl rfl (Nat.le_of_ble_eq_true rfl) ?_
  intro bs hb
  have ar0 := hb 0 _ rfl
  have ar1 := hb 1 _ rfl
  clear hb
  have K : Kept (fun q => m.next ≤ q ∨ noS q) m m := Kept.refl hw
  refine gg ?_
  refine s_new rfl rfl rfl rfl (o_box (e_base rfl ar0) rfl) (fun m1 g => ?_)
  have n1 := g.next
  have f := g.fam0 K.wf
  have K := K.g g
  refine gg ?_
  refine w_loop ?_
  refine Wp.gen (fun b0 eb => ?_)
  refine nodes_loop hm1 ih (els := kids) (fun c hc => by have := ax_size (op := op) (n := nn) (kv := kv) hc; omega) _ kids [] 1 b0 rfl K.wf (by omega) (by omega) (Cel.of g.same f) (hsl.kept K) (fun c hc => (hkids c hc).kept K) (eqb eb (e_base rfl ar1)) (eqb eb v0) (eqb eb v0) (eqb eb v0) (fun m' b' k h => ?_)
  have K := K.k k (fun _ h => h.elim)
  change Wp Tryz.prog fl (At _ _ (sets 31 b' []) _ _ _ _) _
  refine gg ?_
  refine w_retAt rfl ?_
  refine w_results Tryz.func77 (rv1 v0) ?_
  exact ⟨_, _, congrArg (fun i => RR.ret (iv i) _ _) (by show min (1 + (((kids.map (ndN n)).sum : Nat) : Int)) (most + 1) = min (((1 + (kids.map (ndN n)).sum : Nat)) : Int) (most + 1); omega), K.out⟩
end
noncomputable section
variable {fl : Fl} (hfl : Tab fl)
include hfl
omit hfl in
theorem depth_loop {n : Nat} (ih : ∀ (e : AX) {m : Mem}, SizeOf.sizeOf e < n → ndN n e ≤ 60 → e.OK m → Wf m → CallQ Tryz.prog fl 78 [.agg e.cells] m (Rets noS m (iv (dpN n e)))) {els : List AX} (hsz : ∀ c, c ∈ els → SizeOf.sizeOf c < n ∧ ndN n c ≤ 60) {r2 : Nat} {z0 z1 kv : AVal} (k : List AItem) {Q : RR → Prop} {up : Chain} : ∀ (rest pre : List AX) (x : Nat) {m : Mem} (b : T AVal), els = pre ++ rest → Wf m → Cel m r2 [z0, z1, kv] → SlA m kv 3 (els.map AX.cells) → (∀ c, c ∈ els → AX.OK m c) → getT b 1 = .ptr r2 0 → getT b 3 = iv x → getT b 4 = goI pre.length →
  (∀ (m' : Mem) (b' : T AVal), Kept noS m m' → getT b' 3 = iv ((rest.map (dpN n)).foldl max x : Nat) → Wp Tryz.prog fl (At ⟨78, 22, false, none⟩ k b' [] .run up m') Q) → Wp Tryz.prog fl (At ⟨78, 22, false, none⟩ (.code (cAt [true, true, false, true, false, false] (bodyF Tryz.f78)) :: .inLoop (cAt [true, true, false, true, false, false] (bodyF Tryz.f78)) :: .inBlock 0 :: k) (sets 22 b []) [] .run up m) Q := by
 intro rest
 induction rest with
 | nil =>
  intro pre x m b hsp hw h2 hsl hok k1 k3 k4 hk
  have K : Kept (fun q => m.next ≤ q ∨ noS q) m m := Kept.refl hw
  obtain ⟨⟨e2, h2r⟩, f2⟩ := h2
  have ck := hsl.cell
  have hlen := hsl.lenM
  have hlt : decide (Int.ofNat pre.length < Int.ofNat els.length) = false := by subst hsp; simp
  refine gg ?_
  refine Wp.gen (fun b' eb => ?_)
  exact hk _ b' K.out (eqb eb (e_base rfl k3))
 | cons y rest ih0 =>
  intro pre x m b hsp hw h2 hsl hok k1 k3 k4 hk
  have K : Kept (fun q => m.next ≤ q ∨ noS q) m m := Kept.refl hw
  have lt2 := h2.lt hw
  have h20 := h2
  obtain ⟨⟨e2, h2r⟩, f2⟩ := h2
  have ck := hsl.cell
  have hlen := hsl.lenM
  have hlt : decide (Int.ofNat pre.length < Int.ofNat els.length) = true := by subst hsp; simp; omega
  have hln := hsl.lnT hsp
  have hsl0 := hsl
  obtain ⟨r, off, cc, ex, row, hv, hlx, hr, htk⟩ := hsl.here hsp
  subst hv
  have hym : y ∈ els := by simp [hsp]
  refine gg ?_
  refine s_val rfl rfl rfl rfl (o_indexAddr v0 v0 ElF.h (by simpa using hlx)) ?_
  refine s_val rfl rfl rfl rfl (o_loadRoA v0 hr (TyF.h (s := _)) (TyF.z (g := true)) htk) ?_
  refine s_callV rfl rfl rfl rfl (o_calls (me1 v0)) (ih y (hsz y hym).1 (hsz y hym).2 (hok y hym) K.wf) (fun m1 k => ?_)
  have K := K.k k (fun _ h => h.elim)
  refine gg ?_
  refine w_inLoop ?_
  refine Wp.gen (fun b' eb => ?_)
  exact ih0 (pre ++ [y]) (max x (dpN n y)) b' (by simp [hsp]) K.wf (h20.kept K lt2 (by rintro (h | h); omega; exact h)) (hsl0.kept K) (fun c hc => (hok c hc).kept K) (eqb eb (e_base rfl k1)) ((eqb eb v0).trans (congrArg iv (by omega))) (eqb eb ((e_hit rfl).trans (by rw [List.length_append]; rfl))) (fun m' b' k h => hk m' b' (K.out.trans k) h)
theorem depth_ok : ∀ (n : Nat) (e : AX) {m : Mem}, SizeOf.sizeOf e < n → ndN n e ≤ 60 → e.OK m → Wf m → CallQ Tryz.prog fl 78 [.agg e.cells] m (Rets noS m (iv (dpN n e))) := by
 intro n
 induction n with
 | zero => intro e m h; omega
 | succ n ih =>
  intro e m hsz hnd hok hw
  have hdp := dp_le _ e hsz
  obtain ⟨op, nn, kv, kids⟩ := e
  have e1 : ndN (n + 1) (.mk op nn kv kids) = 1 + (kids.map (ndN n)).sum := rfl
  have e2 : dpN (n + 1) (.mk op nn kv kids) = (kids.map (dpN n)).foldl max 0 + 1 := rfl
  rw [e1] at hnd
  rw [e2] at hdp ⊢
  rw [e1] at hdp
  cases hok with
  | mk hsl hkids =>
  refine hfl.start (by decide) 22 Tryz.func78 rfl rfl (Nat.le_of_ble_eq_true rfl) ?_
  intro bs hb
  have ar0 := hb 0 _ rfl
  clear hb
  have K : Kept (fun q => m.next ≤ q ∨ noS q) m m := Kept.refl hw
  refine gg ?_
  refine s_new rfl rfl rfl rfl (o_box (e_base rfl ar0) rfl) (fun m1 g => ?_)
  have n1 := g.next
  have f := g.fam0 K.wf
  have K := K.g g
  refine gg ?_
  refine w_loop ?_
  refine Wp.gen (fun b0 eb => ?_)
  refine depth_loop ih (els := kids) (fun c hc => ⟨by have := ax_size (op := op) (n := nn) (kv := kv) hc; omega, by have := sum_mem (f := ndN n) hc; omega⟩) _ kids [] 0 b0 rfl K.wf (Cel.of g.same f) (hsl.kept K) (fun c hc => (hkids c hc).kept K) (eqb eb v0) (eqb eb v0) (eqb eb v0) (fun m' b' k h => ?_)
  have K := K.k k (fun _ h => h.elim)
  change Wp Tryz.prog fl (At _ _ (sets 22 b' []) _ _ _ _) _
  have b1 : -(2 ^ 62) ≤ ((List.foldl max 0 (kids.map (dpN n)) : Nat) : Int) + 1 := by omega
  have b2 : ((List.foldl max 0 (kids.map (dpN n)) : Nat) : Int) + 1 < 2 ^ 62 := by omega
  refine gg ?_
  refine w_retAt rfl ?_
  refine w_results Tryz.func78 (rv1 v0) ?_
  exact ⟨_, _, rfl, K.out⟩
omit hfl in
theorem fm_int {sz : Int} {n : Nat} {op nn : Int} {kv : AVal} {kids : List AX} (z : op = 1) : fmN sz (n + 1) (.mk op nn kv kids) = (kids.isEmpty && ranged nn) := by
 unfold fmN; dsimp only; rw [if_pos z]
omit hfl in
theorem fm_name {sz : Int} {n : Nat} {op nn : Int} {kv : AVal} {kids : List AX} (z : op ≠ 1) (y : op = 2) : fmN sz (n + 1) (.mk op nn kv kids) = (kids.isEmpty && (decide (0 ≤ nn) && decide (nn < sz))) := by
 unfold fmN; dsimp only; rw [if_neg z, if_pos y]
omit hfl in
theorem fm_two {sz : Int} {n : Nat} {op nn : Int} {kv : AVal} {a b : AX} (z : 3 ≤ op ∧ op ≤ 7) (y : nn = 0) : fmN sz (n + 1) (.mk op nn kv [a, b]) = (fmN sz n a && fmN sz n b) := by
 rw [fmN]; rw [if_neg (by omega), if_neg (by omega), decide_eq_true z.1, decide_eq_true z.2, decide_eq_true y, Bool.true_and, Bool.true_and, Bool.true_and]
omit hfl in
theorem fm_not {sz : Int} {n : Nat} {op nn : Int} {kv : AVal} {kids : List AX} (z : op ≠ 1) (y : op ≠ 2) (x : ¬ (3 ≤ op ∧ op ≤ 7) ∨ kids.length ≠ 2 ∨ nn ≠ 0) : fmN sz (n + 1) (.mk op nn kv kids) = false := by
 unfold fmN; dsimp only; rw [if_neg z, if_neg y]
 rcases kids with _ | ⟨a, _ | ⟨b, _ | ⟨w, l⟩⟩⟩
 ·rfl
 ·rfl
 ·dsimp only
  rw [Bool.eq_false_iff]
  intro h
  simp only [Bool.and_eq_true, decide_eq_true_eq] at h
  rcases x with x | x | x
  ·exact x h.1
  ·exact x rfl
  ·exact x h.2.1
 ·rfl
theorem formed_ok {sz : Int} : ∀ (n : Nat) (e : AX) {m : Mem}, SizeOf.sizeOf e < n → e.OK m → Wf m → CallQ Tryz.prog fl 79 [.agg e.cells, iv sz] m (Rets noS m (.lit (.bool (fmN sz n e)))) := by
 intro n
 induction n with
 | zero => intro e m h; omega
 | succ n ih =>
  intro e m hsz hok hw
  obtain ⟨op, nn, kv, kids⟩ := e
  cases hok with
  | mk hsl hkids =>
  have ck := hsl.cell
  have hlen := hsl.lenM
  refine hfl.start (by decide) 76 Tryz.func79 rfl rfl (Nat.le_of_ble_eq_true rfl) ?_
  intro bs hb
  have ar0 := hb 0 _ rfl
  have ar1 := hb 1 _ rfl
  clear hb
  have K : Kept (fun q => m.next ≤ q ∨ noS q) m m := Kept.refl hw
  refine gg ?_
  refine s_new rfl rfl rfl rfl (o_box (e_base rfl ar0) rfl) (fun m1 g => ?_)
  have n1 := g.next
  have h := g.same
  have f := g.fam0 K.wf
  have K := K.g g
  refine gg ?_
  refine w_cond v0 (fun z => ?_) (fun z => ?_)
  ·rw [fm_int (eq_of_beq z), ← len_emp]
   refine gg ?_
   repeat' (refine sg (fun c => ?_) (fun c => ?_) <;> refine gg ?_)
   all_goals
    refine w_retAt rfl ?_
    refine w_results Tryz.func79 (rv1 v0) ?_
    exact ⟨_, _, congrArg (fun b => RR.ret (.lit (.bool b)) _ _) (by simp_all [ranged]; try omega), K.out⟩
  have z := ne_of_beq_false z
  refine gg ?_
  refine w_cond v0 (fun y => ?_) (fun y => ?_)
  ·rw [fm_name z (eq_of_beq y), ← len_emp]
   refine gg ?_
   repeat' (refine sg (fun c => ?_) (fun c => ?_) <;> refine gg ?_)
   all_goals
    refine w_retAt rfl ?_
    refine w_results Tryz.func79 (rv1 v0) ?_
    exact ⟨_, _, congrArg (fun b => RR.ret (.lit (.bool b)) _ _) (by simp_all; try omega), K.out⟩
  have y := ne_of_beq_false y
  refine gg ?_
  refine sg (fun c1 => ?_) (fun c1 => ?_)
  rotate_left
  ·refine gg ?_
   refine w_retAt rfl ?_
   refine w_results Tryz.func79 (rv1 v0) ?_
   rw [fm_not z y (.inl (by have := of_decide_eq_true c1; omega))]
   exact ⟨_, _, rfl, K.out⟩
  have c1 := of_decide_eq_false c1
  refine gg ?_
  refine sg (fun c2 => ?_) (fun c2 => ?_)
  rotate_left
  ·refine gg ?_
   refine w_retAt rfl ?_
   refine w_results Tryz.func79 (rv1 v0) ?_
   rw [fm_not z y (.inl (by have := of_decide_eq_true c2; omega))]
   exact ⟨_, _, rfl, K.out⟩
  have c2 := of_decide_eq_false c2
  refine gg ?_
  refine sg (fun c3 => ?_) (fun c3 => ?_)
  rotate_left
  ·refine gg ?_
   refine w_retAt rfl ?_
   refine w_results Tryz.func79 (rv1 v0) ?_
   rw [fm_not z y (.inr (.inl (fun e => by rw [e] at c3; cases c3)))]
   exact ⟨_, _, rfl, K.out⟩
  refine gg ?_
  refine w_cond v0 (fun c4 => ?_) (fun c4 => ?_)
  ·refine gg ?_
   refine w_retAt rfl ?_
   refine w_results Tryz.func79 (rv1 v0) ?_
   rw [fm_not z y (.inr (.inr (by simpa using c4)))]
   exact ⟨_, _, rfl, K.out⟩
  have c4 : nn = 0 := by simpa using c4
  have h2 : kids.length = 2 := by
   have h : (kids.length : Int) = 2 := by simpa using c3
   omega
  obtain ⟨a, b, rfl⟩ : ∃ a b, kids = [a, b] := by
   rcases kids with _ | ⟨a, _ | ⟨b, _ | ⟨w, l⟩⟩⟩
   ·cases h2
   ·cases h2
   ·exact ⟨a, b, rfl⟩
   ·simp at h2
  rw [fm_two ⟨by omega, by omega⟩ c4]
  obtain ⟨r, off, c0, ex, row, hv, hr, ta, tb⟩ := two_kids hsl
  subst hv
  have oka := hkids a (by simp)
  have okb := hkids b (by simp)
  have sa := ax_size (op := op) (n := nn) (kv := .slice r off 2 c0 ex) (kids := [a, b]) (e := a) (by simp)
  have sb := ax_size (op := op) (n := nn) (kv := .slice r off 2 c0 ex) (kids := [a, b]) (e := b) (by simp)
  refine gg ?_
  refine s_val rfl rfl rfl rfl (o_indexAddr v0 rfl ElF.h (by decide)) ?_
  refine s_val rfl rfl rfl rfl (o_loadRoA v0 (K.ro _ _ hr) (TyF.h (s := _)) (TyF.z (g := true)) ta) ?_
  refine gg ?_
  refine s_callD K h f (o_calls (me2 v0 v0)) (ih a (by omega) (oka.kept K) K.wf) (fun m k K h f => ?_)
  refine gg ?_
  refine sg (fun w => ?_) (fun w => ?_)
  ·refine gg ?_
   refine s_val rfl (gT rfl ⟨v0⟩ (by assumption)).h rfl rfl (o_indexAddr v0 rfl ElF.h (by decide)) ?_
   refine s_val rfl (gT rfl ⟨v0⟩ (by assumption)).h rfl rfl (o_loadRoA v0 (K.ro _ _ hr) (TyF.h (s := _)) (TyF.z (g := true)) tb) ?_
   refine gg ?_
   refine s_callD K h f (o_calls (me2 v0 v0)) (ih b (by omega) (okb.kept K) K.wf) (fun m k K h f => ?_)
   refine gg ?_
   refine w_retAt rfl ?_
   refine w_results Tryz.func79 (rv1 v0) ?_
   rw [w, Bool.true_and]
   exact ⟨_, _, rfl, K.out⟩
  ·refine gg ?_
   refine w_retAt rfl ?_
   refine w_results Tryz.func79 (rv1 v0) ?_
   rw [w]
   exact ⟨_, _, rfl, K.out⟩
theorem expFormed_ok {m : Mem} {sz : Int} {n : Nat} {e : AX} (hsz : SizeOf.sizeOf e < n) (hok : e.OK m) (hw : Wf m) : CallQ Tryz.prog fl 48 [.agg e.cells, iv sz] m (Rets noS m (.lit (.bool (decide (ndN n e ≤ 60) && (decide (dpN n e ≤ 12) && fmN sz n e))))) := by
 obtain ⟨op, nn, kv, kids⟩ := e
 have ha : allCells [iv op, iv nn, kv] = true := ax_cells hok
 refine hfl.start (by decide) 18 Tryz.func48 rfl rfl (Nat.le_of_ble_eq_true rfl) ?_
 intro bs hb
 have ar0 := hb 0 _ rfl
 have ar1 := hb 1 _ rfl
 clear hb
 have K : Kept (fun q => m.next ≤ q ∨ noS q) m m := Kept.refl hw
 refine gg ?_
 refine s_new rfl rfl rfl rfl (o_box (e_base rfl ar0) rfl) (fun m1 g => ?_)
 have n1 := g.next
 have h : m1.heap.get m.next = some (.row (112, 0) [iv op, iv nn, kv] m.next 0) := g.same
 have f := g.fam0 K.wf
 have K := K.g g
 generalize hx : AX.mk op nn kv kids = x at *
 have hc : x.cells = [iv op, iv nn, kv] := by subst hx; rfl
 have hnd := nd_pos hsz
 refine gg ?_
 refine s_val rfl rfl rfl rfl (o_loadRowA (off := 0) v0 h TyF.h (TyF.z (g := true)) (takeW rfl ha)) ?_
 refine s_callD K h f (o_calls (me2 v0 rfl)) (by have := nodes_ok hfl n x 60 hsz (by omega) (by omega) (hok.kept K) K.wf; rw [hc] at this; exact this) (fun m k K h f => ?_)
 refine gg ?_
 refine sg (fun c1 => ?_) (fun c1 => ?_)
 rotate_left
 ·refine gg ?_
  refine w_retAt rfl ?_
  refine w_results Tryz.func48 (rv1 v0) ?_
  rw [decide_eq_false (by have := of_decide_eq_false c1; omega)]
  exact ⟨_, _, rfl, K.out⟩
 have c1 := of_decide_eq_true c1
 have l1 : ndN n x ≤ 60 := by omega
 refine gg ?_
 refine s_val rfl (gT rfl ⟨v0⟩ (by assumption)).h rfl rfl (o_loadRowA (off := 0) v0 h TyF.h (TyF.z (g := true)) (takeW rfl ha)) ?_
 refine s_callD K h f (o_calls (me1 v0)) (by have := depth_ok hfl n x hsz l1 (hok.kept K) K.wf; rw [hc] at this; exact this) (fun m k K h f => ?_)
 refine gg ?_
 refine sg (fun c2 => ?_) (fun c2 => ?_)
 rotate_left
 ·refine gg ?_
  refine w_retAt rfl ?_
  refine w_results Tryz.func48 (rv1 v0) ?_
  rw [decide_eq_false (show ¬ dpN n x ≤ 12 by have := of_decide_eq_false c2; omega), Bool.false_and, Bool.and_false]
  exact ⟨_, _, rfl, K.out⟩
 have c2 := of_decide_eq_true c2
 rw [decide_eq_true l1, decide_eq_true (show dpN n x ≤ 12 by omega), Bool.true_and, Bool.true_and]
 refine gg ?_
 refine s_val rfl (gT rfl ⟨v0⟩ (decide_eq_true c2)).h rfl rfl (o_loadRowA (off := 0) v0 h TyF.h (TyF.z (g := true)) (takeW rfl ha)) ?_
 refine gg ?_
 refine s_callD K h f (o_calls (me2 v0 v0)) (by have := formed_ok hfl (sz := sz) n x hsz (hok.kept K) K.wf; rw [hc] at this; exact this) (fun m k K h f => ?_)
 refine gg ?_
 refine w_retAt rfl ?_
 refine w_results Tryz.func48 (rv1 v0) ?_
 exact ⟨_, _, rfl, K.out⟩
end
end Go.Proofs.YtmbeijhnjaadhaaGreat
