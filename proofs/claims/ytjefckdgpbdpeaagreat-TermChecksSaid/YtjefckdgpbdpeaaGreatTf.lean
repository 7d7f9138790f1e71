/- A part of the proof of TermChecks. -/
import Derived.Test.YtjefckdgpbdpeaaGreatTe
namespace Go.Proofs.YtjefckdgpbdpeaaGreat
open Go Go.Abs
open Go.RowKit (Below)
set_option maxRecDepth 10000
noncomputable section
variable {fl : Fl} (hfl : Tab fl)
include hfl
theorem ex_mid {m m1 : Mem} {r1 : Nat} {n : Nat} {op nn : Int} {s : ByteArray} {kv : AVal} {kids : List AEx} (ih : ∀ (p : Part) {m : Mem}, SizeOf.sizeOf p < n → ndN n p ≤ 1000 → p.OK m → Wf m → CallQ Tryz.prog fl (match p with | .ex _ => 62 | .cl _ => 99 | .tm _ => 58) [.agg p.cells] m (Rets noS m (tupR (refN n p)))) (hsz : ∀ c, c ∈ kids → SizeOf.sizeOf (Part.ex c) < n) (hnd : 1 + (kids.map fun c => ndN n (Part.ex c)).sum ≤ 1000) (hsl : SlA m1 kv 4 (kids.map AEx.cells)) (hok : ∀ c, c ∈ kids → Part.OK m1 (Part.ex c)) (h1 : Cel m1 r1 [iv op, iv nn, .lit (.string s), kv]) (hw : Wf m) (K0 : Kept (fun q => m.next ≤ q ∨ noS q) m m1) (b : T AVal) (k1 : getT b 1 = .ptr r1 0) (k5 : getT b 5 = iv (kidsI op)) : Wp Tryz.prog fl (At ⟨62, 97, false, none⟩ [.code (cAt [true, true, true] (bodyF Tryz.f62))] (sets 97 b []) [] .run [] m1) (Rets noS m (tupR (resR (exHead op nn s (Int.ofNat kids.length)) ((kids.map fun c => refN n (Part.ex c)).foldl joinR (1, 0, true))))) := by
 have _ := hfl
 have lhsl := hsl.lenM
 have chsl := hsl.cell
 obtain ⟨⟨e1, h⟩, f⟩ := h1
 have K := K0
 refine gg ?_
 repeat' first
  | (refine s_callD K h f (o_calls (me2 v0 v0)) (one_ok hfl _ _ K.wf) (fun m k K h f => ?_)
     have hsl := hsl.kept k
     have hok := fun c hc => (hok c hc).kept k
     refine gr ?_)
  | (refine sg (fun c => ?_) (fun c => ?_) <;> refine gr ?_)
 all_goals
  refine q_nil ?_
  refine w_seq ?_
  refine Wp.gen (fun b' eb => ?_)
  exact ex_rest hfl ih hsz hnd (Cel.of h f) hsl hok hw K b' (eqb eb (e_base rfl k1)) ((eqb eb v0).trans (congrArg (fun b => AVal.lit (.bool b)) (by simp only [exHead, *, Bool.or_true, Bool.true_or, Bool.or_false, Bool.and_true, Bool.true_and, Bool.and_false, Bool.false_and, Bool.not_true, Bool.not_false])))
theorem ex_head {m : Mem} {n : Nat} {op nn : Int} {s : ByteArray} {kv : AVal} {kids : List AEx} (ih : ∀ (p : Part) {m : Mem}, SizeOf.sizeOf p < n → ndN n p ≤ 1000 → p.OK m → Wf m → CallQ Tryz.prog fl (match p with | .ex _ => 62 | .cl _ => 99 | .tm _ => 58) [.agg p.cells] m (Rets noS m (tupR (refN n p)))) (hsz : ∀ c, c ∈ kids → SizeOf.sizeOf (Part.ex c) < n) (hnd : 1 + (kids.map fun c => ndN n (Part.ex c)).sum ≤ 1000) (hsl : SlA m kv 4 (kids.map AEx.cells)) (hok : ∀ c, c ∈ kids → Part.OK m (Part.ex c)) (hw : Wf m) : CallQ Tryz.prog fl 62 [.agg [iv op, iv nn, .lit (.string s), kv]] m (Rets noS m (tupR (resR (exHead op nn s (Int.ofNat kids.length)) ((kids.map fun c => refN n (Part.ex c)).foldl joinR (1, 0, true))))) := by
 refine hfl.start (by decide) 97 Tryz.func62 rfl rfl (Nat.le_of_ble_eq_true rfl) ?_
 intro bs hb
 have ar0 := hb 0 _ rfl
 clear hb
 have K : Kept (fun q => m.next ≤ q ∨ (noS) q) m m := Kept.refl hw
 refine gg ?_
 refine s_new rfl rfl rfl rfl (o_box (e_base rfl ar0) rfl) (fun m1 g => ?_)
 have f := g.fam0 K.wf
 have K := K.g g
 refine gg ?_
 refine sg (fun c => ?_) (fun c => ?_) <;> refine gr ?_ <;> refine q_nil ?_
 ·refine w_cond v0 (fun c => ?_) (fun c => ?_)
  ·refine w_region rfl ?_
   refine gr ?_
   refine q_nil ?_
   refine Wp.gen (fun b' eb => ?_)
   exact ex_mid hfl ih hsz hnd (hsl.kept K) (fun c hc => (hok c hc).kept K) (Cel.of g.same f) hw K b' (eqb eb v0) ((eqb eb v0).trans (congrArg iv (by simp [kidsI, *])))
  ·refine w_skip ?_
   refine Wp.gen (fun b' eb => ?_)
   exact ex_mid hfl ih hsz hnd (hsl.kept K) (fun c hc => (hok c hc).kept K) (Cel.of g.same f) hw K b' (eqb eb v0) ((eqb eb v0).trans (congrArg iv (by simp [kidsI, *])))
 ·refine w_condF v0 rfl ?_
  refine w_skip ?_
  refine Wp.gen (fun b' eb => ?_)
  exact ex_mid hfl ih hsz hnd (hsl.kept K) (fun c hc => (hok c hc).kept K) (Cel.of g.same f) hw K b' (eqb eb v0) ((eqb eb v0).trans (congrArg iv (by simp [kidsI, *])))
end
open Go.RowKit (Below)
set_option maxRecDepth 10000
set_option maxHeartbeats 1000000
noncomputable section
variable {fl : Fl} (hfl : Tab fl)
include hfl
omit hfl in
theorem clHead_one {f : Int} {s : ByteArray} {js : List AMs} {nd : Int} {k : Nat} (h : clHead f s js nd (Int.ofNat k) = true) : k = 1 := by
 simp only [clHead, Bool.and_eq_true] at h
 have h1 := h.1.1.1.2
 have h2 := of_decide_eq_true h1
 have : (k : Int) = 1 := h2
 omega
theorem cl_head {m : Mem} {n : Nat} {fm : Int} {s : ByteArray} {jv dv kv : AVal} {joins : List AMs} {defs : List ACl} {kids : List ATm} (ih : ∀ (p : Part) {m : Mem}, SizeOf.sizeOf p < n → ndN n p ≤ 1000 → p.OK m → Wf m → CallQ Tryz.prog fl (match p with | .ex _ => 62 | .cl _ => 99 | .tm _ => 58) [.agg p.cells] m (Rets noS m (tupR (refN n p)))) (hszd : ∀ c, c ∈ defs → SizeOf.sizeOf (Part.cl c) < n) (hszk : ∀ c, c ∈ kids → SizeOf.sizeOf (Part.tm c) < n) (hnd : 1 + ((defs.map fun c => ndN n (Part.cl c)).sum + (kids.map fun c => ndN n (Part.tm c)).sum) ≤ 1000) (hjs : SlA m jv 2 (joins.map AMs.cells)) (hds : SlA m dv 5 (defs.map ACl.cells)) (hks : SlA m kv 5 (kids.map ATm.cells)) (hoj : ∀ y, y ∈ joins → AMs.OK m y) (hod : ∀ c, c ∈ defs → Part.OK m (Part.cl c)) (hok : ∀ c, c ∈ kids → Part.OK m (Part.tm c)) (hw : Wf m) : CallQ Tryz.prog fl 99 [.agg [iv fm, .lit (.string s), jv, dv, kv]] m (Rets noS m (tupR (resR (clHead fm s joins (Int.ofNat defs.length) (Int.ofNat kids.length)) ((kids.map fun c => refN n (Part.tm c)).foldl joinR ((defs.map fun c => refN n (Part.cl c)).foldl joinR (1, 0, true)))))) := by
 refine hfl.start (by decide) 117 Tryz.func99 rfl rfl (Nat.le_of_ble_eq_true rfl) ?_
 intro bs hb
 have ar0 := hb 0 _ rfl
 clear hb
 have K : Kept (fun q => m.next ≤ q ∨ (noS) q) m m := Kept.refl hw
 have chjs := hjs.cell
 have lhjs : ∀ {m' : Mem}, lenSl m' jv = .val (goI joins.length) m' := by intro m'; have := hjs.len (m' := m'); rwa [List.length_map] at this
 have chds := hds.cell
 have lhds : ∀ {m' : Mem}, lenSl m' dv = .val (goI defs.length) m' := by intro m'; have := hds.len (m' := m'); rwa [List.length_map] at this
 have chks := hks.cell
 have lhks : ∀ {m' : Mem}, lenSl m' kv = .val (goI kids.length) m' := by intro m'; have := hks.len (m' := m'); rwa [List.length_map] at this
 refine gg ?_
 refine s_new rfl rfl rfl rfl (o_box (e_base rfl ar0) rfl) (fun m1 g => ?_)
 have h := g.same
 have f := g.fam0 K.wf
 have K := K.g g
 refine gg ?_
 repeat' first
  | (refine s_callC K h f (o_calls (me2 v0 v0)) (one_ok hfl _ _ K.wf) (fun m K h f => ?_); refine gr ?_)
  | (refine s_callC K h f (o_calls (me1 v0)) (rjoins_ok hfl joins (hjs.kept K) (fun y hy => (hoj y hy).kept K) K.wf) (fun m K h f => ?_); refine gr ?_)
  | (refine sg (fun c => ?_) (fun c => ?_) <;> refine gr ?_)
 all_goals
  refine q_nil ?_
  refine w_seq ?_
  refine Wp.gen (fun b' eb => ?_)
  exact cl_rest hfl ih hszd hszk hnd (fun h => clHead_one h) (Cel.of h f) (hjs.kept K) (hds.kept K) (hks.kept K) (fun c hc => (hod c hc).kept K) (fun c hc => (hok c hc).kept K) hw K b' (eqb eb v0) ((eqb eb v0).trans (congrArg (fun b => AVal.lit (.bool b)) (by simp only [clHead, *, Bool.or_true, Bool.true_or, Bool.false_or, Bool.or_false, Bool.and_true, Bool.true_and, Bool.and_false, Bool.false_and, Bool.not_true, Bool.not_false])))
theorem tm_mid2 {m m1 : Mem} {r1 : Nat} {n : Nat} {op : Int} {s : ByteArray} {av dv kv : AVal} {args : List AEx} {defs : List ACl} {kids : List ATm} {hb : Bool} (ih : ∀ (p : Part) {m : Mem}, SizeOf.sizeOf p < n → ndN n p ≤ 1000 → p.OK m → Wf m → CallQ Tryz.prog fl (match p with | .ex _ => 62 | .cl _ => 99 | .tm _ => 58) [.agg p.cells] m (Rets noS m (tupR (refN n p)))) (hsza : ∀ c, c ∈ args → SizeOf.sizeOf (Part.ex c) < n) (hszd : ∀ c, c ∈ defs → SizeOf.sizeOf (Part.cl c) < n) (hszk : ∀ c, c ∈ kids → SizeOf.sizeOf (Part.tm c) < n) (hnd : 1 + ((args.map fun c => ndN n (Part.ex c)).sum + (defs.map fun c => ndN n (Part.cl c)).sum + (kids.map fun c => ndN n (Part.tm c)).sum) ≤ 1000) (has : SlA m1 av 4 (args.map AEx.cells)) (hds : SlA m1 dv 5 (defs.map ACl.cells)) (hks : SlA m1 kv 5 (kids.map ATm.cells)) (hoa : ∀ c, c ∈ args → Part.OK m1 (Part.ex c)) (hod : ∀ c, c ∈ defs → Part.OK m1 (Part.cl c)) (hok : ∀ c, c ∈ kids → Part.OK m1 (Part.tm c)) (h1 : Cel m1 r1 [iv op, .lit (.string s), av, dv, kv]) (hw : Wf m) (K0 : Kept (fun q => m.next ≤ q ∨ noS q) m m1) (b : T AVal) (k1 : getT b 1 = .ptr r1 0) (k5 : getT b 5 = iv (argsR op)) (k7 : getT b 7 = iv (defsR op)) (k8 : getT b 8 = .lit (.bool hb)) : Wp Tryz.prog fl (At ⟨58, 197, false, none⟩ [.code (cAt [true, true, true, true] (bodyF Tryz.f58))] (sets 197 b []) [] .run [] m1) (Rets noS m (tupR (resR (tmHead2 (hb) op (Int.ofNat args.length) (Int.ofNat defs.length)) ((kids.map fun c => refN n (Part.tm c)).foldl joinR ((defs.map fun c => refN n (Part.cl c)).foldl joinR ((args.map fun c => refN n (Part.ex c)).foldl joinR (1, 0, true))))))) := by
 have _ := hfl
 have lhas := has.lenM
 have lhds := hds.lenM
 have lhks := hks.lenM
 have chas := has.cell
 have chds := hds.cell
 have chks := hks.cell
 obtain ⟨⟨e1, h1r⟩, f1⟩ := h1
 refine gg ?_
 repeat' (refine sg (fun c => ?_) (fun c => ?_) <;> refine gr ?_)
 all_goals
  refine q_nil ?_
  refine w_seq ?_
  refine Wp.gen (fun b' eb => ?_)
  exact tm_rest hfl ih hsza hszd hszk hnd (Cel.of h1r f1) has hds hks hoa hod hok hw K0 b' (eqb eb (e_base rfl k1)) ((eqb eb v0).trans (congrArg (fun b => AVal.lit (.bool b)) (by simp only [tmHead2, *, Bool.or_true, Bool.true_or, Bool.false_or, Bool.or_false, Bool.and_true, Bool.true_and, Bool.and_false, Bool.false_and, Bool.not_true, Bool.not_false])))
theorem tm_mid1 {m m1 : Mem} {r1 : Nat} {n : Nat} {op : Int} {s : ByteArray} {av dv kv : AVal} {args : List AEx} {defs : List ACl} {kids : List ATm} (ih : ∀ (p : Part) {m : Mem}, SizeOf.sizeOf p < n → ndN n p ≤ 1000 → p.OK m → Wf m → CallQ Tryz.prog fl (match p with | .ex _ => 62 | .cl _ => 99 | .tm _ => 58) [.agg p.cells] m (Rets noS m (tupR (refN n p)))) (hsza : ∀ c, c ∈ args → SizeOf.sizeOf (Part.ex c) < n) (hszd : ∀ c, c ∈ defs → SizeOf.sizeOf (Part.cl c) < n) (hszk : ∀ c, c ∈ kids → SizeOf.sizeOf (Part.tm c) < n) (hnd : 1 + ((args.map fun c => ndN n (Part.ex c)).sum + (defs.map fun c => ndN n (Part.cl c)).sum + (kids.map fun c => ndN n (Part.tm c)).sum) ≤ 1000) (has : SlA m1 av 4 (args.map AEx.cells)) (hds : SlA m1 dv 5 (defs.map ACl.cells)) (hks : SlA m1 kv 5 (kids.map ATm.cells)) (hoa : ∀ c, c ∈ args → Part.OK m1 (Part.ex c)) (hod : ∀ c, c ∈ defs → Part.OK m1 (Part.cl c)) (hok : ∀ c, c ∈ kids → Part.OK m1 (Part.tm c)) (h1 : Cel m1 r1 [iv op, .lit (.string s), av, dv, kv]) (hw : Wf m) (K0 : Kept (fun q => m.next ≤ q ∨ noS q) m m1) (b : T AVal) (k1 : getT b 1 = .ptr r1 0) (k5 : getT b 5 = iv (argsR op)) (k6 : getT b 6 = iv (kidsR op)) (k7 : getT b 7 = iv (defsR op)) : Wp Tryz.prog fl (At ⟨58, 197, false, none⟩ [.code (cAt [true, true, true] (bodyF Tryz.f58))] (sets 197 b []) [] .run [] m1) (Rets noS m (tupR (resR (tmHead2 (tmHead1 op s (Int.ofNat kids.length)) op (Int.ofNat args.length) (Int.ofNat defs.length)) ((kids.map fun c => refN n (Part.tm c)).foldl joinR ((defs.map fun c => refN n (Part.cl c)).foldl joinR ((args.map fun c => refN n (Part.ex c)).foldl joinR (1, 0, true))))))) := by
 have _ := hfl
 have lhas := has.lenM
 have lhds := hds.lenM
 have lhks := hks.lenM
 have chas := has.cell
 have chds := hds.cell
 have chks := hks.cell
 obtain ⟨⟨e1, h⟩, f⟩ := h1
 have K := K0
 refine gg ?_
 repeat' first
  | (refine s_callD K h f (o_calls (me2 v0 v0)) (one_ok hfl _ _ K.wf) (fun m k K h f => ?_)
     have has := has.kept k
     have hds := hds.kept k
     have hks := hks.kept k
     have hoa := fun c hc => (hoa c hc).kept k
     have hod := fun c hc => (hod c hc).kept k
     have hok := fun c hc => (hok c hc).kept k
     refine gr ?_)
  | (refine sg (fun c => ?_) (fun c => ?_) <;> refine gr ?_)
 all_goals
  refine q_nil ?_
  refine Wp.gen (fun b' eb => ?_)
  exact tm_mid2 hfl ih hsza hszd hszk hnd has hds hks hoa hod hok (Cel.of h f) hw K b' (eqb eb (e_base rfl k1)) (eqb eb (e_base rfl k5)) (eqb eb (e_base rfl k7)) ((eqb eb v0).trans (congrArg (fun b => AVal.lit (.bool b)) (by simp [tmHead1, *])))
theorem tm_head {m : Mem} {n : Nat} {op : Int} {s : ByteArray} {av dv kv : AVal} {args : List AEx} {defs : List ACl} {kids : List ATm} (ih : ∀ (p : Part) {m : Mem}, SizeOf.sizeOf p < n → ndN n p ≤ 1000 → p.OK m → Wf m → CallQ Tryz.prog fl (match p with | .ex _ => 62 | .cl _ => 99 | .tm _ => 58) [.agg p.cells] m (Rets noS m (tupR (refN n p)))) (hsza : ∀ c, c ∈ args → SizeOf.sizeOf (Part.ex c) < n) (hszd : ∀ c, c ∈ defs → SizeOf.sizeOf (Part.cl c) < n) (hszk : ∀ c, c ∈ kids → SizeOf.sizeOf (Part.tm c) < n) (hnd : 1 + ((args.map fun c => ndN n (Part.ex c)).sum + (defs.map fun c => ndN n (Part.cl c)).sum + (kids.map fun c => ndN n (Part.tm c)).sum) ≤ 1000) (has : SlA m av 4 (args.map AEx.cells)) (hds : SlA m dv 5 (defs.map ACl.cells)) (hks : SlA m kv 5 (kids.map ATm.cells)) (hoa : ∀ c, c ∈ args → Part.OK m (Part.ex c)) (hod : ∀ c, c ∈ defs → Part.OK m (Part.cl c)) (hok : ∀ c, c ∈ kids → Part.OK m (Part.tm c)) (hw : Wf m) : CallQ Tryz.prog fl 58 [.agg [iv op, .lit (.string s), av, dv, kv]] m (Rets noS m (tupR (resR (tmHead2 (tmHead1 op s (Int.ofNat kids.length)) op (Int.ofNat args.length) (Int.ofNat defs.length)) ((kids.map fun c => refN n (Part.tm c)).foldl joinR ((defs.map fun c => refN n (Part.cl c)).foldl joinR ((args.map fun c => refN n (Part.ex c)).foldl joinR (1, 0, true))))))) := by
 refine hfl.start (by decide) 197 Tryz.func58 rfl rfl (Nat.le_of_ble_eq_true rfl) ?_
 intro bs hb
 have ar0 := hb 0 _ rfl
 clear hb
 have K : Kept (fun q => m.next ≤ q ∨ (noS) q) m m := Kept.refl hw
 refine gg ?_
 refine s_new rfl rfl rfl rfl (o_box (e_base rfl ar0) rfl) (fun m1 g => ?_)
 have f := g.fam0 K.wf
 have K := K.g g
 refine gg ?_
 iterate 5
  refine w_cond v0 (fun c => ?_) (fun c => ?_)
  rotate_left
  refine gg ?_
 refine w_cond v0 (fun c => ?_) (fun c => ?_)
 rotate_left
 refine w_skip ?_
 all_goals
  try (refine w_skip ?_; refine w_condT v0 (by assumption) ?_)
  try (refine w_region rfl ?_; refine gr ?_; refine q_nil ?_)
  refine w_inBlock ?_
  refine Wp.gen (fun b' eb => ?_)
  exact tm_mid1 hfl ih hsza hszd hszk hnd (has.kept K) (hds.kept K) (hks.kept K) (fun c hc => (hoa c hc).kept K) (fun c hc => (hod c hc).kept K) (fun c hc => (hok c hc).kept K) (Cel.of g.same f) hw K b' (eqb eb v0) ((eqb eb v0).trans (congrArg iv (by simp [argsR, *]))) ((eqb eb v0).trans (congrArg iv (by simp [kidsR, *]))) ((eqb eb v0).trans (congrArg iv (by simp [defsR, *])))
theorem refN_ok : ∀ (n : Nat) (p : Part) {m : Mem}, SizeOf.sizeOf p < n → ndN n p ≤ 1000 → p.OK m → Wf m → CallQ Tryz.prog fl (match p with | .ex _ => 62 | .cl _ => 99 | .tm _ => 58) [.agg p.cells] m (Rets noS m (tupR (refN n p))) := by
 intro n
 induction n with
 | zero => intro p m h; omega
 | succ n ih =>
  intro p m hsz hnd hp hw
  have hsub : ∀ r, r ∈ p.subs → SizeOf.sizeOf r < n := fun r hr => by have := subs_size hr; omega
  cases p with
  | ex e => cases e with | mk op nn s kv kids => cases hp with | mk h1 h2 =>
   have e1 : ndN (n + 1) (.ex (.mk op nn s kv kids)) = 1 + (kids.map fun c => ndN n (Part.ex c)).sum := by show 1 + ((Part.subs (.ex (.mk op nn s kv kids))).map (ndN n)).sum = _; simp only [Part.subs, List.map_map, Function.comp_def]
   have e2 : refN (n + 1) (.ex (.mk op nn s kv kids)) = resR (exHead op nn s (Int.ofNat kids.length)) ((kids.map fun c => refN n (Part.ex c)).foldl joinR (1, 0, true)) := by show resR _ (((Part.subs (.ex (.mk op nn s kv kids))).map (refN n)).foldl joinR (1, 0, true)) = _; simp only [Part.subs, List.map_map, Function.comp_def]; rfl
   rw [e1] at hnd; rw [e2]
   exact ex_head hfl (fun p _ a b c d => ih p a b c d) (fun c hc => hsub _ (by simp [Part.subs, hc])) hnd h1 h2 hw
  | cl e => cases e with | mk f s jv dv kv joins defs kids => cases hp with | mk h1 h2 h3 h4 h5 h6 =>
   have e1 : ndN (n + 1) (.cl (.mk f s jv dv kv joins defs kids)) = 1 + ((defs.map fun c => ndN n (Part.cl c)).sum + (kids.map fun c => ndN n (Part.tm c)).sum) := by show 1 + ((Part.subs (.cl (.mk f s jv dv kv joins defs kids))).map (ndN n)).sum = _; simp only [Part.subs, List.map_append, List.sum_append, List.map_map, Function.comp_def]
   have e2 : refN (n + 1) (.cl (.mk f s jv dv kv joins defs kids)) = resR (clHead f s joins (Int.ofNat defs.length) (Int.ofNat kids.length)) ((kids.map fun c => refN n (Part.tm c)).foldl joinR ((defs.map fun c => refN n (Part.cl c)).foldl joinR (1, 0, true))) := by show resR _ (((Part.subs (.cl (.mk f s jv dv kv joins defs kids))).map (refN n)).foldl joinR (1, 0, true)) = _; simp only [Part.subs, List.map_append, List.foldl_append, List.map_map, Function.comp_def]; rfl
   rw [e1] at hnd; rw [e2]
   exact cl_head hfl (fun p _ a b c d => ih p a b c d) (fun c hc => hsub _ (by simp [Part.subs, hc])) (fun c hc => hsub _ (by simp [Part.subs, hc])) hnd h1 h2 h3 h4 h5 h6 hw
  | tm e => cases e with | mk op s av dv kv args defs kids => cases hp with | mk h1 h2 h3 h4 h5 h6 =>
   have e1 : ndN (n + 1) (.tm (.mk op s av dv kv args defs kids)) = 1 + ((args.map fun c => ndN n (Part.ex c)).sum + (defs.map fun c => ndN n (Part.cl c)).sum + (kids.map fun c => ndN n (Part.tm c)).sum) := by show 1 + ((Part.subs (.tm (.mk op s av dv kv args defs kids))).map (ndN n)).sum = _; simp only [Part.subs, List.map_append, List.sum_append, List.map_map, Function.comp_def]; omega
   have e2 : refN (n + 1) (.tm (.mk op s av dv kv args defs kids)) = resR (tmHead2 (tmHead1 op s (Int.ofNat kids.length)) op (Int.ofNat args.length) (Int.ofNat defs.length)) ((kids.map fun c => refN n (Part.tm c)).foldl joinR ((defs.map fun c => refN n (Part.cl c)).foldl joinR ((args.map fun c => refN n (Part.ex c)).foldl joinR (1, 0, true)))) := by show resR _ (((Part.subs (.tm (.mk op s av dv kv args defs kids))).map (refN n)).foldl joinR (1, 0, true)) = _; simp only [Part.subs, List.map_append, List.foldl_append, List.map_map, Function.comp_def]; rfl
   rw [e1] at hnd; rw [e2]
   exact tm_head hfl (fun p _ a b c d => ih p a b c d) (fun c hc => hsub _ (by simp [Part.subs, hc])) (fun c hc => hsub _ (by simp [Part.subs, hc])) (fun c hc => hsub _ (by simp [Part.subs, hc])) hnd h1 h2 h3 h4 h5 h6 hw
end
end Go.Proofs.YtjefckdgpbdpeaaGreat
