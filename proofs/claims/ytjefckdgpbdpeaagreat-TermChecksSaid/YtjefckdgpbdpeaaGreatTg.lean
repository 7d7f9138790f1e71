/- A part of the proof of TermChecks. -/
import Derived.Test.YtjefckdgpbdpeaaGreatTf
import Derived.Test.YtjefckdgpbdpeaaGreatAbsM
namespace Go.Proofs.YtjefckdgpbdpeaaGreat
open Go Go.Abs
open Go.RowKit (Below)
set_option maxRecDepth 10000
noncomputable section
theorem el_156 : sizedElem Tryz.prog (sliceElem Tryz.prog 156) = some (30, 1) := by kernel_rfl
variable {fl : Fl} (hfl : Tab fl)
include hfl
omit hfl in
theorem o_bsL {tmps : T AVal} {m : Mem} {x : Operand} {v : AVal} (hx : evalT tmps x = v) (hc : isCell v = true) : aop Tryz.prog tmps m (.buildSlice 156 1 #[(0, x)]) = .val (.slice m.next 0 1 1 true) (m.new (.row (30, 1) [v] m.next 0)) := by
 show buildSlice Tryz.prog 1 (ev2 tmps #[(0, x)].toList) m (sizedElem Tryz.prog (sliceElem Tryz.prog 156)) = _
 rw [ev1 hx, el_156]
 show (match zcells Tryz.prog 30 with | some z => bif (lenL z).beq 1 && (Nat.mul 1 1).ble 10000 && !(Nat.beq 1 0) then bsWith m (30, 1) 1 (fillL (fun i => some (i.mul 1, 1)) [(0, v)] (repL z 1)) else .bad "buildSlice" | none => .bad "buildSlice") = _
 rw [show zcells Tryz.prog 30 = some [.lit (.slice none 0 0)] by kernel_rfl]
 cases v <;> first | rfl | (cases hc; done) | (rename_i x; cases x <;> first | rfl | cases hc)
omit hfl in
theorem g30 : growOK Tryz.prog 30 1 = true := by kernel_rfl
omit hfl in
theorem a156 : arg2OK Tryz.prog (some 156) = true := by kernel_rfl
omit hfl in
def spP : Nat → List ACl → List (AVal × List ACl)
 | 0, _ => []
 | n + 1, ds => (ds.map fun c => match c with | .mk f _ _ dv _ _ defs _ => bif f == 2 then (dv, defs) :: spP n defs else []).flatten
omit hfl in
def spC (n : Nat) (c : ACl) : List (AVal × List ACl) := match c with | .mk f _ _ dv _ _ defs _ => bif f == 2 then (dv, defs) :: spP n defs else []
omit hfl in
def SpQ (fl : Fl) (B n : Nat) (ds : List ACl) (dv v : AVal) (cells : List AVal) (m : Mem) : Prop := CallQ Tryz.prog fl 150 [v, dv] m (fun r => ∃ v' f' u m', r = .ret v' u m' ∧ Gx 30 B m' v' f' (cells ++ (spP n ds).map Prod.fst) ∧ Kept (fun q => B ≤ q) m m')
theorem sps_loop {B n N : Nat} {dv : AVal} (ih : ∀ (ds : List ACl) (dv v : AVal) (f : Nat) (cells : List AVal) {m : Mem}, SizeOf.sizeOf ds < N → Gx 30 B m v f cells → Wf m → B ≤ m.next → cells.length + (spP n ds).length < 99999 → SlA m dv 5 (ds.map ACl.cells) → (∀ c, c ∈ ds → ACl.OK m c) → SpQ fl B n ds dv v cells m) (els : List ACl) (hsz : SizeOf.sizeOf els ≤ N) (k : List AItem) {Q : RR → Prop} : ∀ (rest pre : List ACl) (v : AVal) (f : Nat) (cells : List AVal) {m : Mem} (b : T AVal), els = pre ++ rest → Wf m → B ≤ m.next → Gx 30 B m v f cells → cells.length + ((rest.map (spC n)).flatten).length < 99999 → SlA m dv 5 (els.map ACl.cells) → (∀ c, c ∈ els → ACl.OK m c) → getT b 0 = v → getT b 1 = dv → getT b 5 = goI pre.length →
  (∀ (v' : AVal) (f' : Nat) (m' : Mem) (b' : T AVal), Kept (fun q => B ≤ q) m m' → Gx 30 B m' v' f' (cells ++ ((rest.map (spC n)).flatten).map Prod.fst) → getT b' 0 = v' → Wp Tryz.prog fl (At ⟨150, 34, false, none⟩ k b' [] .run [] m') Q) → Wp Tryz.prog fl (At ⟨150, 34, false, none⟩ (.code (cAt [true, false, true, false, false] (bodyF Tryz.f150)) :: .inLoop (cAt [true, false, true, false, false] (bodyF Tryz.f150)) :: .inBlock 0 :: k) (sets 34 b []) [] .run [] m) Q := by
 have _ := hfl
 intro rest
 induction rest with
 | nil =>
  intro pre v f cells m b hsp hw hB hg hln9 hsl hok k0 k1 k5 hk
  have hlt : decide (Int.ofNat pre.length < Int.ofNat (els.map ACl.cells).length) = false := by rw [List.length_map, dlt]; simp [hsp]
  refine w_seq ?_
  refine w_seq ?_
  refine w_region rfl ?_
  refine gr ?_
  refine q_nil ?_
  refine w_condF (e_hit rfl) hlt ?_
  refine w_exit rfl ?_
  refine Wp.gen (fun b' eb => ?_)
  exact hk v f _ b' (Kept.refl hw) (by simpa using hg) (eqb eb (e_base rfl k0))
 | cons y rest ih0 =>
  intro pre v f cells m b hsp hw hB hg hln9 hsl hok k0 k1 k5 hk
  have K0 : Kept (fun q => m.next ≤ q ∨ noS q) m m := Kept.refl hw
  have hlt : decide (Int.ofNat pre.length < Int.ofNat (els.map ACl.cells).length) = true := by rw [List.length_map, dlt]; simp [hsp]
  have hln : pre.length + 1 < 2 ^ 62 := by have := hsl.lt; simp [hsp] at this; omega
  have hsl0 := hsl
  have hym : y ∈ els := by simp [hsp]
  have hyo := hok y hym
  have hys := List.sizeOf_lt_of_mem hym
  cases y with
  | mk fm s jv dv2 kv joins defs kids =>
  cases hyo with
  | mk h1 h2 h3 h4 h5 h6 =>
  have c2 := h2.cell
  have hsz2 : SizeOf.sizeOf defs < N := by simp at hys; omega
  rw [List.map_cons, List.flatten_cons, List.length_append] at hln9
  have hsc : spC n (.mk fm s jv dv2 kv joins defs kids) = bif fm == 2 then (dv2, defs) :: spP n defs else [] := rfl
  obtain ⟨r, off, cc, ex, row, hv, hlx, hr, htk⟩ := hsl.at (i := pre.length) (e := ACl.cells (.mk fm s jv dv2 kv joins defs kids)) (by simp [hsp])
  subst hv
  have ltr := hw.lt hr
  refine gg ?_
  refine s_val rfl rfl rfl rfl (o_indexAddr (e_hit rfl) (e_hit rfl) el_30 (by simpa using hlx)) ?_
  refine gg ?_
  refine s_val rfl rfl rfl rfl (o_loadRoJ (e_hit rfl) hr tg_115 sz_115 htk rfl) ?_
  refine gg ?_
  refine w_cond (e_hit rfl) (fun c1 => ?_) (fun c1 => ?_)
  ·
   refine gg ?_
   refine s_val rfl rfl rfl rfl (o_indexAddr (e_hit rfl) (e_hit rfl) el_30 (by simpa using hlx)) ?_
   refine gg ?_
   refine s_val rfl rfl rfl rfl (o_loadRoJ (e_hit rfl) hr tg_30 sz_30 htk rfl) ?_
   refine s_new rfl rfl rfl rfl (o_bsL (e_hit rfl) c2) (fun m2 g3 => ?_)
   have n4 := g3.next
   have K5 := K0.g g3
   refine s_appx (B := B) rfl rfl rfl rfl (hg.up0 K5.out hw) K5.wf (by omega) (e_hit rfl) (e_hit rfl) g3.same c2 el_156 a156 g30 (by omega) (fun v9 m9 f9 hgs9 happ hBf => ?_)
   have n9 := happ.next
   have kA : Kept (fun q => B ≤ q) m m9 := (K5.mono (fun q _ h => by rcases h with h | h; omega; exact h.elim)).trans (Kept.appd K5.wf happ hBf)
   refine gg ?_
   refine s_val rfl rfl rfl rfl (o_indexAddr (e_hit rfl) (e_hit rfl) el_30 (by simpa using hlx)) ?_
   refine gg ?_
   have hrA := kA.ro _ _ hr
   refine s_val rfl rfl rfl rfl (o_loadRoJ (e_hit rfl) hrA tg_30 sz_30 htk rfl) ?_
   have hfm : (fm == 2) = true := c1
   rw [hsc, hfm, cond_true, List.length_cons] at hln9
   have hcall := ih defs dv2 v9 f9 (cells ++ [dv2]) hsz2 (.inl hgs9) kA.wf (by omega) (by rw [List.length_append]; show cells.length + 1 + _ < _; omega) (h2.kept kA) (fun c hc => (h5 c hc).kept kA)
   refine s_call rfl rfl rfl rfl (o_calls (me2 (e_hit rfl) (e_hit rfl))) hcall ?_ (by rintro c u m' ⟨_, _, _, _, h, _⟩; cases h)
   rintro v u mq ⟨v5, f5, _, _, hret, hg5, kq⟩
   cases hret
   have nq := kq.next
   have KQ := kA.trans kq
   refine gg ?_
   refine w_inLoop ?_
   refine Wp.gen (fun b' eb => ?_)
   have e : cells ++ ((((ACl.mk fm s jv dv2 kv joins defs kids) :: rest).map (spC n)).flatten).map Prod.fst = ((cells ++ [dv2]) ++ (spP n defs).map Prod.fst) ++ ((rest.map (spC n)).flatten).map Prod.fst := by rw [List.map_cons, List.flatten_cons, hsc, hfm]; simp
   exact ih0 (pre ++ [ACl.mk fm s jv dv2 kv joins defs kids]) _ f5 ((cells ++ [dv2]) ++ (spP n defs).map Prod.fst) b' (by simp [hsp]) KQ.wf (by omega) hg5 (by simp only [List.length_append, List.length_map, List.length_cons, List.length_nil]; omega) (hsl0.kept KQ) (fun c hc => (hok c hc).kept KQ) (eqb eb (e_hit rfl)) (eqb eb (e_base rfl k1)) (eqb eb ((e_hit rfl).trans (by rw [List.length_append]; rfl))) (fun v' f' m' b' h1 h2 h3 => hk v' f' m' b' (KQ.trans h1) (e ▸ h2) h3)
  ·
   refine gg ?_
   refine w_inLoop ?_
   refine Wp.gen (fun b' eb => ?_)
   have hfm : (fm == 2) = false := c1
   have e : ((((ACl.mk fm s jv dv2 kv joins defs kids) :: rest).map (spC n)).flatten) = ((rest.map (spC n)).flatten) := by rw [List.map_cons, List.flatten_cons, hsc, hfm]; rfl
   exact ih0 (pre ++ [ACl.mk fm s jv dv2 kv joins defs kids]) v f cells b' (by simp [hsp]) hw hB hg (by omega) hsl0 hok (eqb eb (e_base rfl k0)) (eqb eb (e_base rfl k1)) (eqb eb ((e_hit rfl).trans (by rw [List.length_append]; rfl))) (fun v' f' m' b' h1 h2 h3 => hk v' f' m' b' h1 (e ▸ h2) h3)
theorem spots_ok {B : Nat} : ∀ (n : Nat) (ds : List ACl) (dv v : AVal) (f : Nat) (cells : List AVal) {m : Mem}, SizeOf.sizeOf ds < n → Gx 30 B m v f cells → Wf m → B ≤ m.next → cells.length + (spP n ds).length < 99999 → SlA m dv 5 (ds.map ACl.cells) → (∀ c, c ∈ ds → ACl.OK m c) → SpQ fl B n ds dv v cells m := by
 intro n
 induction n with
 | zero => intro ds dv v f cells m h; omega
 | succ n ih =>
  intro ds dv v f cells m hsz hg hw hB hln9 hsl hok
  refine hfl.start (f := 150) (by decide) 34 Tryz.func150 rfl rfl (Nat.le_of_ble_eq_true rfl) ?_
  intro bs hb
  have ar0 := hb 0 _ rfl
  have ar1 := hb 1 _ rfl
  clear hb
  refine gg ?_
  refine w_loop ?_
  refine Wp.gen (fun b0 eb => ?_)
  refine sps_loop hfl ih ds (Nat.le_of_lt_succ hsz) _ ds [] v f cells b0 (by rfl) hw hB hg hln9 hsl hok (eqb eb (e_base rfl ar0)) (eqb eb (e_base rfl ar1)) (eqb eb (e_hit rfl)) ?_
  intro v5 f5 mq bq kq hg5 z0
  change Wp Tryz.prog fl (At _ _ (sets 34 bq []) _ _ _ _) _
  refine gg ?_
  refine w_retAt rfl ?_
  refine w_results Tryz.func150 (rv1 (e_hit rfl)) ?_
  exact ⟨_, _, _, _, rfl, hg5, kq⟩
end
open Go.RowKit (Below)
set_option maxRecDepth 10000
noncomputable section
variable {fl : Fl} (hfl : Tab fl)
include hfl
omit hfl in
theorem gx_one {m : Mem} {rx fx : Nat} {B : Nat} {v : AVal} (hc : isCell v = true) (hB : B ≤ rx) (h : m.heap.get rx = some (.row (30, 1) [v] fx 0)) : Gx 30 B m (.slice rx 0 1 1 true) 0 [v] :=
 .inr ⟨rx, fx, rfl, by simp, by show (bif isCell v then true else false) = true; rw [hc]; rfl, h, hB⟩
theorem spots1_ok {m : Mem} {n : Nat} (ds : List ACl) {dv : AVal} (hsz : SizeOf.sizeOf ds < n) (hb : (spP n ds).length < 9999) (hsl : SlA m dv 5 (ds.map ACl.cells)) (hok : ∀ c, c ∈ ds → ACl.OK m c) (hw : Wf m) : CallQ Tryz.prog fl 109 [dv] m (fun r => ∃ v f u m', r = .ret v u m' ∧ Gx 30 m.next m' v f (dv :: (spP n ds).map Prod.fst) ∧ Kept noS m m') := by
 have cs := hsl.cell
 have o_bsL9 : ∀ {tmps : T AVal} {m : Mem} {x : Operand} (_ : evalT tmps x = dv), aop Tryz.prog tmps m (.buildSlice 156 1 #[(0, x)]) = .val (.slice m.next 0 1 1 true) (m.new (.row (30, 1) [dv] m.next 0)) := fun h => o_bsL h cs
 refine hfl.start (by decide) 9 Tryz.func109 rfl rfl (Nat.le_of_ble_eq_true rfl) ?_
 intro bs hb
 have ar0 := hb 0 _ rfl
 clear hb
 have K0 : Kept (fun q => m.next ≤ q ∨ (noS) q) m m := Kept.refl hw
 refine gg ?_
 refine s_new rfl rfl rfl rfl (o_bsL9 (e_hit rfl)) (fun m1 g2 => ?_)
 have n3 := g2.next
 have K4 := K0.g g2
 refine gg ?_
 have hcall := spots_ok hfl (B := m.next) n ds dv (.slice m.next 0 1 1 true) 0 [dv] hsz (gx_one cs (Nat.le_refl _) g2.same) K4.wf (by omega) (by show 1 + _ < _; omega) (hsl.kept K4) (fun c hc => (hok c hc).kept K4)
 refine s_call rfl rfl rfl rfl (o_calls (me2 (e_hit rfl) (e_hit rfl))) hcall ?_ (by rintro c u m' ⟨_, _, _, _, h, _⟩; cases h)
 rintro vq u mq ⟨_, f5, _, _, hret, hg5, kq⟩
 cases hret
 have KQ := K4.out.then kq (fun q h1 h2 => by have : m.next ≤ q := h2; omega)
 refine gg ?_
 refine w_retAt rfl ?_
 refine w_results Tryz.func109 (rv1 (e_hit rfl)) ?_
 exact ⟨_, _, _, _, rfl, hg5, KQ⟩
omit hfl in
def upd {α : Type} (g : Nat → α) (i : Nat) (x : α) : Nat → α := fun j => if j = i then x else g j
omit hfl in
theorem upd_same {α : Type} {g : Nat → α} {i : Nat} {x : α} : upd g i x i = x := by simp [upd]
omit hfl in
theorem upd_other {α : Type} {g : Nat → α} {i j : Nat} {x : α} (h : j ≠ i) : upd g i x j = g j := by simp [upd, h]
omit hfl in
def seenT : Nat → TypeId
 | 0 => 9
 | 1 => 3
 | 2 => 3
 | _ => 9
structure SeenAt (B : Nat) (m : Mem) (r : Nat) (v : Nat → AVal) (f : Nat → Nat) (c : Nat → List AVal) (bad : Bool) : Prop where
 cel : Cel m r [v 0, v 1, v 2, v 3, .lit (.bool bad)]
 gs : ∀ i, i < 4 → Gs (seenT i) B m (v i) (f i) (c i)
 ap : ∀ i j, i < 4 → j < 4 → i ≠ j → c i = [] ∨ c j = [] ∨ f i ≠ f j
 own : ∀ i, i < 4 → c i = [] ∨ f i ≠ r
section
variable {B : Nat} {m m1 m2 : Mem} {r : Nat} {v : Nat → AVal} {f : Nat → Nat} {c c' : Nat → List AVal} {bad bad' : Bool} {e : Elem}
omit hfl in
theorem SeenAt.congr (h : SeenAt B m r v f c bad) (hc : ∀ i, i < 4 → c i = c' i) : SeenAt B m r v f c' bad :=
 ⟨h.cel, fun i hi => hc i hi ▸ h.gs i hi, fun i j hi hj hn => hc i hi ▸ hc j hj ▸ h.ap i j hi hj hn, fun i hi => hc i hi ▸ h.own i hi⟩
omit hfl in
theorem SeenAt.up (h : SeenAt B m r v f c bad) (k : Kept (fun _ => False) m m1) (hw : Wf m) : SeenAt B m1 r v f c bad :=
 ⟨h.cel.kept k (h.cel.lt hw) (fun h => h), fun i hi => (h.gs i hi).up0 k hw, h.ap, h.own⟩
omit hfl in
theorem SeenAt.grew {o : AObj} (h : SeenAt B m r v f c bad) (g : Grew m m1 o) (hw : Wf m) : SeenAt B m1 r v f c bad := h.up (Kept.grew hw g) hw
omit hfl in
theorem SeenAt.flag (h : SeenAt B m r v f c bad) (hw : Wf m) (g : Wrote m m1 r (.row e [v 0, v 1, v 2, v 3, .lit (.bool bad')] r 0)) : SeenAt B m1 r v f c bad' := by
 obtain ⟨⟨e0, h1⟩, h2⟩ := h.cel
 exact ⟨⟨⟨e, g.same⟩, by rw [g.fams]; exact h2⟩, fun i hi => (h.gs i hi).wrote hw g h1 (h.own i hi), h.ap, h.own⟩
omit hfl in
theorem own_ne {i f9 : Nat} (hi : i < 4) (h : SeenAt B m r v f c bad) (hw : Wf m) (he : c i ≠ [] → f9 = f i) (hn : c i = [] → f9 = m.next) : r ≠ f9 := by
 have lr := h.cel.lt hw
 by_cases h0 : c i = []
 ·have := hn h0; omega
 ·rw [he h0]; rcases h.own i hi with h1 | h1
  ·exact absurd h1 h0
  ·exact Ne.symm h1
omit hfl in
theorem SeenAt.app {i f9 : Nat} {v9 x : AVal} (hi : i < 4) (h : SeenAt B m r v f c bad) (hw : Wf m) (a : Appd m m1 f9) (hg : Gs (seenT i) B m1 v9 f9 (c i ++ [x])) (he : c i ≠ [] → f9 = f i) (hn : c i = [] → f9 = m.next)
  (g : Wrote m1 m2 r (.row e [upd v i v9 0, upd v i v9 1, upd v i v9 2, upd v i v9 3, .lit (.bool bad)] r 0)) : SeenAt B m2 r (upd v i v9) (upd f i f9) (upd c i (c i ++ [x])) bad := by
 have hr := own_ne hi h hw he hn
 have lr := h.cel.lt hw
 obtain ⟨⟨e0, h1⟩, h2⟩ := h.cel
 have h11 := (a.heap r (by omega)).trans h1
 have hw1 := hw.appd a
 have key : ∀ j, j < 4 → j ≠ i → c j = [] ∨ f j ≠ f9 := by
  intro j hj hne
  by_cases h3 : c j = []
  ·exact .inl h3
  ·right
   by_cases h0 : c i = []
   ·have := hn h0; have := (h.gs j hj).flt h3; omega
   ·rw [he h0]; rcases h.ap j i hj hi hne with h4 | h4 | h4
    ·exact absurd h4 h3
    ·exact absurd h4 h0
    ·exact h4
 refine ⟨⟨⟨e, g.same⟩, by rw [g.fams, a.fams r hr]; exact h2⟩, fun j hj => ?_, fun j k hj hk hne => ?_, fun j hj => ?_⟩
 ·by_cases hji : j = i
  ·subst hji
   rw [upd_same, upd_same, upd_same]
   exact hg.wrote hw1 g h11 (.inr (Ne.symm hr))
  ·rw [upd_other hji, upd_other hji, upd_other hji]
   exact ((h.gs j hj).other hw a (key j hj hji)).wrote hw1 g h11 (h.own j hj)
 ·by_cases hji : j = i
  ·subst hji
   have hki : k ≠ j := fun e => hne e.symm
   rw [upd_same, upd_same, upd_other hki, upd_other hki]
   rcases key k hk hki with h5 | h5
   ·exact .inr (.inl h5)
   ·exact .inr (.inr (Ne.symm h5))
  ·by_cases hki : k = i
   ·subst hki
    rw [upd_same, upd_same, upd_other hji, upd_other hji]
    rcases key j hj hji with h5 | h5
    ·exact .inl h5
    ·exact .inr (.inr h5)
   ·rw [upd_other hji, upd_other hji, upd_other hki, upd_other hki]
    exact h.ap j k hj hk hne
 ·by_cases hji : j = i
  ·subst hji
   rw [upd_same, upd_same]
   exact .inr (Ne.symm hr)
  ·rw [upd_other hji, upd_other hji]
   exact h.own j hj
end
structure Sn where
 ms : List (ByteArray × Int × Int)
 ru : List ByteArray
 bad : Bool
omit hfl in
def Sn.cells (s : Sn) : Nat → List AVal
 | 0 => s.ms.map fun t => .lit (.string t.1)
 | 1 => s.ms.map fun t => iv t.2.1
 | 2 => s.ms.map fun t => iv t.2.2
 | _ => strs s.ru
omit hfl in
def Seen (S : Nat → Prop) (B : Nat) (m : Mem) (r : Nat) (s : Sn) : Prop := ∃ v f, SeenAt B m r v f s.cells s.bad ∧ S r ∧ ∀ i, i < 4 → s.cells i ≠ [] → S (f i)
omit hfl in
theorem seenS_upd {S : Nat → Prop} {c c' : Nat → List AVal} {f : Nat → Nat} {k f9 : Nat} (hSf : ∀ i, i < 4 → c i ≠ [] → S (f i)) (h9 : S f9) (hcc : ∀ i, i < 4 → i ≠ k → c' i = c i) : ∀ i, i < 4 → c' i ≠ [] → S (upd f k f9 i) := by
 intro i hi h
 by_cases e : i = k
 ·subst e; rw [upd_same]; exact h9
 ·rw [upd_other e]; exact hSf i hi (by rw [← hcc i hi e]; exact h)
end
open Go.RowKit (Below)
set_option maxRecDepth 10000
noncomputable section
theorem fd_101_3 : fieldOT Tryz.prog 101 3 = some (3, 22) := by kernel_rfl
theorem fs_101_3 : tsz Tryz.prog 22 = some 1 := by kernel_rfl
theorem fd_101_4 : fieldOT Tryz.prog 101 4 = some (4, 4) := by kernel_rfl
theorem fs_101_4 : tsz Tryz.prog 4 = some 1 := by kernel_rfl
variable {fl : Fl} (hfl : Tab fl)
include hfl
omit hfl in
theorem cells_cell {v : AVal} (hc : isCell v = true) : v.cells = [v] := by
 cases v <;> first | rfl | (cases hc; done) | (rename_i x; cases x <;> first | rfl | cases hc)
omit hfl in
theorem o_storeC {tmps : T AVal} {m : Mem} {t : TypeId} {a x : Operand} {r off f p : Nat} {e : Elem} {cells cells' : List AVal} {v : AVal} (hx : evalT tmps x = v) (ha : evalT tmps a = .ptr r off) (hr : m.heap.get r = some (.row e cells f p)) (hf : m.fams.get f = none) (hs : tsz Tryz.prog t = some 1) (hc : isCell v = true) (hput : putCells [v] off cells = some cells') :
  aop Tryz.prog tmps m (.store t a x) = .val .poison (m.put r (.row e cells' f p)) :=
 o_store hx ha hr hf hs (np_cell hc) (by rw [cells_cell hc]; rfl) (by rw [cells_cell hc]; show (bif isCell v then true else false) = true; rw [hc]; rfl) (by rw [cells_cell hc]; exact hput)
omit hfl in
def nameF : Nat → List ACl → Sn → Sn
 | 0, _, s => s
 | n + 1, ds, s => ds.foldl (fun s c => match c with | .mk f t _ _ _ _ defs _ => bif f == 2 then nameF n defs ⟨s.ms, s.ru ++ [t], s.bad || isIn t s.ru⟩ else s) s
omit hfl in
def nameC (n : Nat) (s : Sn) (c : ACl) : Sn := match c with | .mk f t _ _ _ _ defs _ => bif f == 2 then nameF n defs ⟨s.ms, s.ru ++ [t], s.bad || isIn t s.ru⟩ else s
omit hfl in
theorem fold_len {n : Nat} (h : ∀ ds s, (nameF n ds s).ru.length = s.ru.length + (spP n ds).length) : ∀ (ds : List ACl) (s : Sn), (ds.foldl (nameC n) s).ru.length = s.ru.length + ((ds.map (spC n)).flatten).length
 | [], s => by simp
 | .mk f t jv dv kv js defs kids :: ds, s => by
  rw [List.foldl_cons, fold_len h ds, List.map_cons, List.flatten_cons, List.length_append]
  have e1 : nameC n s (.mk f t jv dv kv js defs kids) = bif f == 2 then nameF n defs ⟨s.ms, s.ru ++ [t], s.bad || isIn t s.ru⟩ else s := rfl
  have e2 : spC n (.mk f t jv dv kv js defs kids) = bif f == 2 then (dv, defs) :: spP n defs else [] := rfl
  rw [e1, e2]
  cases f == 2 with
  | true => rw [cond_true, cond_true, h]; simp only [List.length_append, List.length_cons, List.length_nil]; omega
  | false => rw [cond_false, cond_false]; simp
omit hfl in
theorem nameF_len : ∀ (n : Nat) (ds : List ACl) (s : Sn), (nameF n ds s).ru.length = s.ru.length + (spP n ds).length
 | 0, ds, s => rfl
 | n + 1, ds, s => fold_len (nameF_len n) ds s
omit hfl in
def NmQ (fl : Fl) (S : Nat → Prop) (B n r : Nat) (ds : List ACl) (dv : AVal) (s : Sn) (m : Mem) : Prop := CallQ Tryz.prog fl 108 [.ptr r 0, dv] m (fun q => ∃ v u m', q = .ret v u m' ∧ Seen S B m' r (nameF n ds s) ∧ Kept S m m')
theorem nm_loop {B n N rs : Nat} {C : Nat} {S : Nat → Prop} (hC : ∀ q, C ≤ q → S q) (hBC : B ≤ C) {dv : AVal} (ih : ∀ (ds : List ACl) (dv : AVal) (s : Sn) {m : Mem}, SizeOf.sizeOf ds < N → Seen S B m rs s → Wf m → C ≤ m.next → s.ru.length + (spP n ds).length < 9999 → SlA m dv 5 (ds.map ACl.cells) → (∀ c, c ∈ ds → ACl.OK m c) → NmQ fl S B n rs ds dv s m) (els : List ACl) (hsz : SizeOf.sizeOf els ≤ N) (k : List AItem) {Q : RR → Prop} : ∀ (rest pre : List ACl) (σ : Sn) {m : Mem} (b : T AVal), els = pre ++ rest → Wf m → C ≤ m.next → Seen S B m rs σ → σ.ru.length + ((rest.map (spC n)).flatten).length < 9999 → SlA m dv 5 (els.map ACl.cells) → (∀ c, c ∈ els → ACl.OK m c) → getT b 0 = .ptr rs 0 → getT b 1 = dv → getT b 4 = goI pre.length →
  (∀ (m' : Mem) (b' : T AVal), Kept S m m' → Seen S B m' rs (rest.foldl (nameC n) σ) → Wp Tryz.prog fl (At ⟨108, 57, false, none⟩ k b' [] .run [] m') Q) → Wp Tryz.prog fl (At ⟨108, 57, false, none⟩ (.code (cAt [true, false, false] (bodyF Tryz.f108)) :: .inLoop (cAt [true, false, false] (bodyF Tryz.f108)) :: .inBlock 0 :: k) (sets 57 b []) [] .run [] m) Q := by
 have _ := hfl
 intro rest
 induction rest with
 | nil =>
  intro pre σ m b hsp hw hB hS hln9 hsl hok kz0 kz1 kz4 hk
  have hlt : decide (Int.ofNat pre.length < Int.ofNat (els.map ACl.cells).length) = false := by rw [List.length_map, dlt]; simp [hsp]
  refine gg ?_
  exact hk _ _ (Kept.refl hw) hS
 | cons y rest ih0 =>
  intro pre σ m b hsp hw hB hS hln9 hsl hok kz0 kz1 kz4 hk
  have K0 : Kept (fun q => m.next ≤ q ∨ S q) m m := Kept.refl hw
  have hlt : decide (Int.ofNat pre.length < Int.ofNat (els.map ACl.cells).length) = true := by rw [List.length_map, dlt]; simp [hsp]
  have hln : pre.length + 1 < 2 ^ 62 := by have := hsl.lt; simp [hsp] at this; omega
  have hsl0 := hsl
  have hS0 := hS
  have hym : y ∈ els := by simp [hsp]
  have hyo := hok y hym
  have hys := List.sizeOf_lt_of_mem hym
  cases y with
  | mk fm s jv dv2 kv joins defs kids =>
  cases hyo with
  | mk h1 h2 h3 h4 h5 h6 =>
  have c2 := h2.cell
  have hsz2 : SizeOf.sizeOf defs < N := by simp at hys; omega
  rw [List.map_cons, List.flatten_cons, List.length_append] at hln9
  have hsc : spC n (.mk fm s jv dv2 kv joins defs kids) = bif fm == 2 then (dv2, defs) :: spP n defs else [] := rfl
  have hnc : nameC n σ (.mk fm s jv dv2 kv joins defs kids) = bif fm == 2 then nameF n defs ⟨σ.ms, σ.ru ++ [s], σ.bad || isIn s σ.ru⟩ else σ := rfl
  obtain ⟨r, off, cc, ex, row, hv, hlx, hr, htk⟩ := hsl.at (i := pre.length) (e := ACl.cells (.mk fm s jv dv2 kv joins defs kids)) (by simp [hsp])
  subst hv
  have ltr := hw.lt hr
  obtain ⟨v, f, hA, hSr, hSf⟩ := hS
  have lts := hA.cel.lt hw
  have cg0 := (hA.gs 0 (by decide)).cell
  have cg1 := (hA.gs 1 (by decide)).cell
  have cg2 := (hA.gs 2 (by decide)).cell
  have cg3 := (hA.gs 3 (by decide)).cell
  obtain ⟨⟨es, hrs⟩, frs⟩ := hA.cel
  have hne : r ≠ rs := by rintro rfl; rw [hr] at hrs; cases hrs
  refine gg ?_
  refine s_val rfl rfl rfl rfl (o_indexAddr (e_hit rfl) (e_hit rfl) el_30 (by simpa using hlx)) ?_
  refine gg ?_
  refine s_val rfl rfl rfl rfl (o_loadRoJ (e_hit rfl) hr tg_115 sz_115 htk rfl) ?_
  refine gg ?_
  refine w_cond (e_hit rfl) (fun c1 => ?_) (fun c1 => ?_)
  ·
   refine gg ?_
   refine w_draw (.L 0 0 0 (.L 1 0 0 (.L 2 2 0 (.L 3 6 0 (.L 4 14 1 (.L 5 30 0 (.L 6 62 0 (.L 7 126 0 (.L 8 254 0 (.L 9 510 1 (.L 10 62 0 (.L 11 62 0 (.L 12 3134 0 (.L 13 7230 0 (.L 14 15422 1 (.H 15 32766 3 (.L 16 65534 0 (.L 17 131071 0 (.L 18 262143 0 (.H 19 524287 3 .fin)))))))))))))))))))) rfl (by kernel_rfl) ?_
   refine gg ?_
   refine d_light0 rfl rfl rfl rfl (o_fieldAddr (e_hit rfl) fd_101_4 fs_101_4 rfl) ?_
   refine gg ?_
   refine d_guardS (d := 22) (want := false) (e_hit rfl) (fun c2 => ?_) (fun c2 => ?_)
   ·
    refine gg ?_
    refine d_light0 rfl rfl (g_onH rfl rfl (e_hit rfl) c2) rfl (o_fieldAddr (e_hit rfl) fd_101_3 fs_101_3 rfl) ?_
    refine gg ?_
    refine d_light0 rfl rfl (g_onH rfl rfl (e_hit rfl) c2) rfl (o_indexAddr (e_hit rfl) (e_hit rfl) el_30 (by simpa using hlx)) ?_
    refine gg ?_
    refine d_light1 rfl rfl (g_onH rfl rfl (e_hit rfl) c2) rfl (o_loadRoJ (e_hit rfl) hr tg_9 sz_9 htk rfl) ?_
    refine d_callV rfl (g_onH rfl rfl (e_hit rfl) c2) rfl rfl (o_calls (me2 (e_hit rfl) (e_hit rfl))) (has_ok hfl σ.ru _ (by omega) (hA.gs 3 (by decide)) K0.wf) (lk_skip (by kernel_rfl) (lk_skip (by kernel_rfl) (lk_skip (by kernel_rfl) lk0))) (fun m3 k4 => ?_)
    have n5 := k4.next
    have K6 := K0.k k4 (fun _ h => h.elim)
    refine ⟨(ck_skip (by kernel_rfl) (ck_skip (by kernel_rfl) (ck_skip (by kernel_rfl) ck0))), ?_⟩
    refine gg ?_
    refine d_light0 rfl rfl rfl rfl (o_fieldAddr (e_hit rfl) fd_101_4 fs_101_4 rfl) ?_
    have h7 := hxM m3 rs
    have f8 := fxM m3 rs
    refine d_put0 rfl rfl rfl (o_store (e_hit rfl) (e_hit rfl) h7 f8 sz_4 rfl rfl rfl rfl) lk0 (fun m9 g10 => ?_)
    refine ⟨ck0, ?_⟩
    have n11 := g10.next
    have K12 := K6.w g10 h7 (fun _ h => by cases h) (Or.inr hSr)
    refine gg ?_
    refine w_draw (.L 0 0 0 (.L 1 0 0 (.L 2 2 0 (.L 3 6 0 (.L 4 14 1 (.L 5 0 0 (.L 6 0 0 (.L 7 96 0 (.L 8 224 0 (.L 9 480 1 (.L 10 992 2 (.H 11 2046 3 (.L 12 4095 0 (.L 13 8191 0 (.H 14 16383 3 .fin))))))))))))))) rfl (by kernel_rfl) ?_
    refine gg ?_
    refine d_light0 rfl rfl rfl rfl (o_fieldAddr (e_hit rfl) fd_101_3 fs_101_3 rfl) ?_
    refine gg ?_
    refine d_light0 rfl rfl rfl rfl (o_indexAddr (e_hit rfl) (e_hit rfl) el_30 (by simpa using hlx)) ?_
    refine gg ?_
    have h14 := hxM m9 r
    refine d_light1 rfl rfl rfl rfl (o_loadRoJ (e_hit rfl) h14 tg_9 sz_9 htk rfl) ?_
    refine d_light2 rfl rfl rfl rfl (o_bs1 (e_hit rfl)) (fun m15 g16 => ?_)
    have n17 := g16.next
    have K18 := K12.g g16
    have a19 := hA.up k4 K0.wf
    have a20 := a19.flag (bad' := isIn s σ.ru) K6.wf g10
    have a21 := a20.grew g16 K12.wf
    have h22 := hxM m15 rs
    have f24 := fxM m15 rs
    refine d_append (B := B) rfl rfl rfl rfl (a21.gs 3 (by decide)) K18.wf (by omega) (e_hit rfl) (e_hit rfl) g16.same rfl el_22 a22 g9 (by show (strs σ.ru).length < _; rw [strs_length]; omega) (lk_skip (by kernel_rfl) (lk_skip (by kernel_rfl) (lk_skip (by kernel_rfl) lk0))) (fun v9 m9 f9 hgs9 happ hfe hfn hBf => ?_)
    refine ⟨(ck_skip (by kernel_rfl) (ck_skip (by kernel_rfl) (ck_skip (by kernel_rfl) ck0))), ?_⟩
    have n9 := happ.next
    have hne9 := own_ne (i := 3) (by decide) a21 K18.wf hfe hfn
    have nKA := K18.next
    have hSf9 : S f9 := by
     by_cases h : σ.cells 3 = []
     ·rw [hfn h]; exact hC _ (by omega)
     ·rw [hfe h]; exact hSf 3 (by decide) h
    have hwA := K18.wf
    have KA := K18.trans ((Kept.appdS K18.wf happ hSf9).mono (fun q _ h => (Or.inr h : m.next ≤ q ∨ S q)))
    have hrs9 := (happ.heap rs (by omega)).trans h22
    have frs9 := (happ.fams rs hne9).trans f24
    have hr9 := KA.ro _ _ hr
    have c9 := hgs9.cell
    refine gg ?_
    refine d_light0 rfl rfl rfl rfl (o_fieldAddr (e_hit rfl) fd_101_3 fs_101_3 rfl) ?_
    refine d_put0 rfl rfl rfl (o_storeC (e_hit rfl) (e_hit rfl) hrs9 frs9 sz_22 c9 rfl) lk0 (fun m25 g26 => ?_)
    refine ⟨ck0, ?_⟩
    have n27 := g26.next
    have K28 := KA.w g26 hrs9 (fun _ h => by cases h) (Or.inr hSr)
    have hS9 : Seen S B m25 rs ⟨σ.ms, σ.ru ++ [s], σ.bad || isIn s σ.ru⟩ := by
     have e : (σ.bad || isIn s σ.ru) = isIn s σ.ru := by simp [c2]
     rw [e]; exact ⟨_, _, (SeenAt.app (i := 3) (by decide) a21 hwA happ hgs9 hfe hfn g26).congr (by rintro (_|_|_|_|i) hi <;> first | rfl | exact (strs_app _ _).symm | omega), hSr, seenS_upd hSf hSf9 (by rintro (_|_|_|_|i) hi hne <;> first | rfl | exact absurd rfl hne | omega)⟩
    have nS := (K28).wf
    refine gg ?_
    refine s_val rfl rfl rfl rfl (o_indexAddr (e_hit rfl) (e_hit rfl) el_30 (by simpa using hlx)) ?_
    refine gg ?_
    have h29 := hxM m25 r
    refine s_val rfl rfl rfl rfl (o_loadRoJ (e_hit rfl) h29 tg_30 sz_30 htk rfl) ?_
    have hfm : (fm == 2) = true := c1
    rw [hsc, hfm, cond_true, List.length_cons] at hln9
    have hcall := ih defs dv2 ⟨σ.ms, σ.ru ++ [s], σ.bad || isIn s σ.ru⟩ hsz2 hS9 K28.wf (by omega) (by show (σ.ru ++ [s]).length + _ < _; rw [List.length_append]; show σ.ru.length + 1 + _ < _; omega) (h2.kept K28) (fun c hc => (h5 c hc).kept K28)
    refine s_call rfl rfl rfl rfl (o_calls (me2 (e_hit rfl) (e_hit rfl))) hcall ?_ (by rintro c u m' ⟨_, _, _, h, _⟩; cases h)
    rintro vq u mq ⟨_, _, _, hret, hSq, kq⟩
    cases hret
    have nq := kq.next
    have KQ := K28.out.trans kq
    refine gg ?_
    refine w_inLoop ?_
    refine Wp.gen (fun b' eb => ?_)
    have e : rest.foldl (nameC n) (nameF n defs ⟨σ.ms, σ.ru ++ [s], σ.bad || isIn s σ.ru⟩) = ((ACl.mk fm s jv dv2 kv joins defs kids) :: rest).foldl (nameC n) σ := by rw [List.foldl_cons, hnc, hfm]; rfl
    exact ih0 (pre ++ [(ACl.mk fm s jv dv2 kv joins defs kids)]) _ b' (by simp [hsp]) KQ.wf (by omega) hSq (by rw [nameF_len]; show (σ.ru ++ [s]).length + _ + _ < _; rw [List.length_append]; show σ.ru.length + 1 + _ + _ < _; omega) (hsl0.kept KQ) (fun c hc => (hok c hc).kept KQ) (eqb eb (e_base rfl kz0)) (eqb eb (e_base rfl kz1)) (eqb eb ((e_hit rfl).trans (by rw [List.length_append]; rfl))) (fun m' b' h1 h2 => hk m' b' (KQ.trans h1) (e ▸ h2))
   ·
    refine gg ?_
    refine d_light0 rfl rfl rfl rfl (o_fieldAddr (e_hit rfl) fd_101_4 fs_101_4 rfl) ?_
    refine d_put0 rfl rfl rfl (o_store (e_hit rfl) (e_hit rfl) hrs frs sz_4 rfl rfl rfl rfl) (lk_skip (by kernel_rfl) lk0) (fun m30 g31 => ?_)
    refine ⟨(ck_skip (by kernel_rfl) ck0), ?_⟩
    have n32 := g31.next
    have K33 := K0.w g31 hrs (fun _ h => by cases h) (Or.inr hSr)
    refine gg ?_
    refine w_draw (.L 0 0 0 (.L 1 0 0 (.L 2 2 0 (.L 3 6 0 (.L 4 14 1 (.L 5 0 0 (.L 6 0 0 (.L 7 96 0 (.L 8 224 0 (.L 9 480 1 (.L 10 992 2 (.H 11 2046 3 (.L 12 4095 0 (.L 13 8191 0 (.H 14 16383 3 .fin))))))))))))))) rfl (by kernel_rfl) ?_
    refine gg ?_
    refine d_light0 rfl rfl rfl rfl (o_fieldAddr (e_hit rfl) fd_101_3 fs_101_3 rfl) ?_
    refine gg ?_
    refine d_light0 rfl rfl rfl rfl (o_indexAddr (e_hit rfl) (e_hit rfl) el_30 (by simpa using hlx)) ?_
    refine gg ?_
    have h34 := hxM m30 r
    refine d_light1 rfl rfl rfl rfl (o_loadRoJ (e_hit rfl) h34 tg_9 sz_9 htk rfl) ?_
    refine d_light2 rfl rfl rfl rfl (o_bs1 (e_hit rfl)) (fun m35 g36 => ?_)
    have n37 := g36.next
    have K38 := K33.g g36
    have a39 := hA.flag (bad' := true) K0.wf g31
    have a40 := a39.grew g36 K33.wf
    have h41 := hxM m35 rs
    have f43 := fxM m35 rs
    refine d_append (B := B) rfl rfl rfl rfl (a40.gs 3 (by decide)) K38.wf (by omega) (e_hit rfl) (e_hit rfl) g36.same rfl el_22 a22 g9 (by show (strs σ.ru).length < _; rw [strs_length]; omega) (lk_skip (by kernel_rfl) (lk_skip (by kernel_rfl) (lk_skip (by kernel_rfl) lk0))) (fun v9 m9 f9 hgs9 happ hfe hfn hBf => ?_)
    refine ⟨(ck_skip (by kernel_rfl) (ck_skip (by kernel_rfl) (ck_skip (by kernel_rfl) ck0))), ?_⟩
    have n9 := happ.next
    have hne9 := own_ne (i := 3) (by decide) a40 K38.wf hfe hfn
    have nKA := K38.next
    have hSf9 : S f9 := by
     by_cases h : σ.cells 3 = []
     ·rw [hfn h]; exact hC _ (by omega)
     ·rw [hfe h]; exact hSf 3 (by decide) h
    have hwA := K38.wf
    have KA := K38.trans ((Kept.appdS K38.wf happ hSf9).mono (fun q _ h => (Or.inr h : m.next ≤ q ∨ S q)))
    have hrs9 := (happ.heap rs (by omega)).trans h41
    have frs9 := (happ.fams rs hne9).trans f43
    have hr9 := KA.ro _ _ hr
    have c9 := hgs9.cell
    refine gg ?_
    refine d_light0 rfl rfl rfl rfl (o_fieldAddr (e_hit rfl) fd_101_3 fs_101_3 rfl) ?_
    refine d_put0 rfl rfl rfl (o_storeC (e_hit rfl) (e_hit rfl) hrs9 frs9 sz_22 c9 rfl) lk0 (fun m44 g45 => ?_)
    refine ⟨ck0, ?_⟩
    have n46 := g45.next
    have K47 := KA.w g45 hrs9 (fun _ h => by cases h) (Or.inr hSr)
    have hS9 : Seen S B m44 rs ⟨σ.ms, σ.ru ++ [s], σ.bad || isIn s σ.ru⟩ := by
     have e : (σ.bad || isIn s σ.ru) = true := by simp [c2]
     rw [e]; exact ⟨_, _, (SeenAt.app (i := 3) (by decide) a40 hwA happ hgs9 hfe hfn g45).congr (by rintro (_|_|_|_|i) hi <;> first | rfl | exact (strs_app _ _).symm | omega), hSr, seenS_upd hSf hSf9 (by rintro (_|_|_|_|i) hi hne <;> first | rfl | exact absurd rfl hne | omega)⟩
    have nS := (K47).wf
    refine gg ?_
    refine s_val rfl rfl rfl rfl (o_indexAddr (e_hit rfl) (e_hit rfl) el_30 (by simpa using hlx)) ?_
    refine gg ?_
    have h48 := hxM m44 r
    refine s_val rfl rfl rfl rfl (o_loadRoJ (e_hit rfl) h48 tg_30 sz_30 htk rfl) ?_
    have hfm : (fm == 2) = true := c1
    rw [hsc, hfm, cond_true, List.length_cons] at hln9
    have hcall := ih defs dv2 ⟨σ.ms, σ.ru ++ [s], σ.bad || isIn s σ.ru⟩ hsz2 hS9 K47.wf (by omega) (by show (σ.ru ++ [s]).length + _ < _; rw [List.length_append]; show σ.ru.length + 1 + _ < _; omega) (h2.kept K47) (fun c hc => (h5 c hc).kept K47)
    refine s_call rfl rfl rfl rfl (o_calls (me2 (e_hit rfl) (e_hit rfl))) hcall ?_ (by rintro c u m' ⟨_, _, _, h, _⟩; cases h)
    rintro vq u mq ⟨_, _, _, hret, hSq, kq⟩
    cases hret
    have nq := kq.next
    have KQ := K47.out.trans kq
    refine gg ?_
    refine w_inLoop ?_
    refine Wp.gen (fun b' eb => ?_)
    have e : rest.foldl (nameC n) (nameF n defs ⟨σ.ms, σ.ru ++ [s], σ.bad || isIn s σ.ru⟩) = ((ACl.mk fm s jv dv2 kv joins defs kids) :: rest).foldl (nameC n) σ := by rw [List.foldl_cons, hnc, hfm]; rfl
    exact ih0 (pre ++ [(ACl.mk fm s jv dv2 kv joins defs kids)]) _ b' (by simp [hsp]) KQ.wf (by omega) hSq (by rw [nameF_len]; show (σ.ru ++ [s]).length + _ + _ < _; rw [List.length_append]; show σ.ru.length + 1 + _ + _ < _; omega) (hsl0.kept KQ) (fun c hc => (hok c hc).kept KQ) (eqb eb (e_base rfl kz0)) (eqb eb (e_base rfl kz1)) (eqb eb ((e_hit rfl).trans (by rw [List.length_append]; rfl))) (fun m' b' h1 h2 => hk m' b' (KQ.trans h1) (e ▸ h2))
  ·
   refine gg ?_
   refine w_inLoop ?_
   refine Wp.gen (fun b' eb => ?_)
   have hfm : (fm == 2) = false := c1
   have e : rest.foldl (nameC n) σ = ((ACl.mk fm s jv dv2 kv joins defs kids) :: rest).foldl (nameC n) σ := by rw [List.foldl_cons, hnc, hfm]; rfl
   exact ih0 (pre ++ [(ACl.mk fm s jv dv2 kv joins defs kids)]) σ b' (by simp [hsp]) hw hB hS0 (by omega) hsl0 hok (eqb eb (e_base rfl kz0)) (eqb eb (e_base rfl kz1)) (eqb eb ((e_hit rfl).trans (by rw [List.length_append]; rfl))) (fun m' b' h1 h2 => hk m' b' h1 (e ▸ h2))
theorem name_ok {B rs : Nat} {C : Nat} {S : Nat → Prop} (hC : ∀ q, C ≤ q → S q) (hBC : B ≤ C) : ∀ (n : Nat) (ds : List ACl) (dv : AVal) (σ : Sn) {m : Mem}, SizeOf.sizeOf ds < n → Seen S B m rs σ → Wf m → C ≤ m.next → σ.ru.length + (spP n ds).length < 9999 → SlA m dv 5 (ds.map ACl.cells) → (∀ c, c ∈ ds → ACl.OK m c) → NmQ fl S B n rs ds dv σ m := by
 intro n
 induction n with
 | zero => intro ds dv σ m h; omega
 | succ n ih =>
  intro ds dv σ m hsz hS hw hB hln9 hsl hok
  refine hfl.start (f := 108) (by decide) 57 Tryz.func108 rfl rfl (Nat.le_of_ble_eq_true rfl) ?_
  intro bs hb
  have ar0 := hb 0 _ rfl
  have ar1 := hb 1 _ rfl
  clear hb
  refine gg ?_
  refine w_loop ?_
  refine Wp.gen (fun b0 eb => ?_)
  refine nm_loop hfl hC hBC ih ds (Nat.le_of_lt_succ hsz) _ ds [] σ b0 (by rfl) hw hB hS hln9 hsl hok (eqb eb (e_base rfl ar0)) (eqb eb (e_base rfl ar1)) (eqb eb (e_hit rfl)) ?_
  intro mq bq kq hSq
  change Wp Tryz.prog fl (At _ _ (sets 57 bq []) _ _ _ _) _
  refine w_fall rfl ?_
  refine w_results Tryz.func108 rv0 ?_
  exact ⟨_, _, _, rfl, hSq, kq⟩
end
open Go.RowKit (Below)
set_option maxRecDepth 10000
noncomputable section
theorem el_99 : sizedElem Tryz.prog (sliceElem Tryz.prog 99) = some (3, 1) := by kernel_rfl
theorem fd_101_0 : fieldOT Tryz.prog 101 0 = some (0, 22) := by kernel_rfl
theorem fs_101_0 : tsz Tryz.prog 22 = some 1 := by kernel_rfl
theorem fd_101_1 : fieldOT Tryz.prog 101 1 = some (1, 99) := by kernel_rfl
theorem fs_101_1 : tsz Tryz.prog 99 = some 1 := by kernel_rfl
theorem fd_101_2 : fieldOT Tryz.prog 101 2 = some (2, 99) := by kernel_rfl
theorem fs_101_2 : tsz Tryz.prog 99 = some 1 := by kernel_rfl
theorem tg_99 : tagg Tryz.prog 99 = some false := by kernel_rfl
theorem sz_99 : tsz Tryz.prog 99 = some 1 := by kernel_rfl
variable {fl : Fl} (hfl : Tab fl)
include hfl
omit hfl in
theorem o_bsI {tmps : T AVal} {m : Mem} {x : Operand} {n : Int} (hx : evalT tmps x = iv n) : aop Tryz.prog tmps m (.buildSlice 99 1 #[(0, x)]) = .val (.slice m.next 0 1 1 true) (m.new (.row (3, 1) [iv n] m.next 0)) := by
 show buildSlice Tryz.prog 1 (ev2 tmps #[(0, x)].toList) m (sizedElem Tryz.prog (sliceElem Tryz.prog 99)) = _
 rw [ev1 hx, el_99]
 show (match zcells Tryz.prog 3 with | some z => bif (lenL z).beq 1 && (Nat.mul 1 1).ble 10000 && !(Nat.beq 1 0) then bsWith m (3, 1) 1 (fillL (fun i => some (i.mul 1, 1)) [(0, iv n)] (repL z 1)) else .bad "buildSlice" | none => .bad "buildSlice") = _
 rw [show zcells Tryz.prog 3 = some [iv 0] by kernel_rfl]
 rfl
omit hfl in
theorem g3 : growOK Tryz.prog 3 1 = true := by kernel_rfl
omit hfl in
theorem a99 : arg2OK Tryz.prog (some 99) = true := by kernel_rfl
omit hfl in
def hasM (t : ByteArray) (y : ByteArray × Int × Int) : Bool := seq y.1 t
omit hfl in
def joinF (s : Sn) (t : ByteArray) (a p : Int) : Sn := match s.ms.find? (hasM t) with
 | some y => ⟨s.ms, s.ru, (s.bad || (y.2.1 != a)) || (y.2.2 != p)⟩
 | none => ⟨s.ms ++ [(t, a, p)], s.ru, s.bad⟩
omit hfl in
theorem joinF_len (s : Sn) (t : ByteArray) (a p : Int) : (joinF s t a p).ms.length ≤ s.ms.length + 1 := by
 unfold joinF
 cases s.ms.find? (hasM t) with
 | none => simp
 | some y => simp
omit hfl in
theorem joinF_ru (s : Sn) (t : ByteArray) (a p : Int) : (joinF s t a p).ru = s.ru := by
 unfold joinF
 cases s.ms.find? (hasM t) <;> rfl
omit hfl in
theorem get_mid (g : ByteArray × Int × Int → AVal) {l pre rest : List (ByteArray × Int × Int)} {y : ByteArray × Int × Int} (h : l = pre ++ y :: rest) : getO (l.map g) (0 + pre.length * 1) = some (g y) := by
 rw [getO_eq, Nat.zero_add, Nat.mul_one, h]; simp
theorem jn_loop {B rs rm : Nat} {C : Nat} {S : Nat → Prop} (hC : ∀ q, C ≤ q → S q) (hBC : B ≤ C) {text : ByteArray} {nv : AVal} {names : List ByteArray} {spot : Int} {σ : Sn} {m : Mem} {v : Nat → AVal} {f : Nat → Nat} (hA : SeenAt B m rs v f σ.cells σ.bad) (hSr : S rs) (hSf : ∀ i, i < 4 → σ.cells i ≠ [] → S (f i)) (hw : Wf m) (hB : C ≤ m.next) (hn : SlA m nv 1 (names.map strCells)) (hm : Cel m rm [.lit (.string text), nv]) (hlen9 : σ.ms.length < 9999) (k : List AItem) {Q : RR → Prop} : ∀ (rest pre : List (ByteArray × Int × Int)) (b : T AVal), σ.ms = pre ++ rest → getT b 0 = .ptr rs 0 → getT b 2 = iv spot → getT b 4 = .ptr rm 0 → getT b 6 = goI pre.length →
  (∀ (b' : T AVal), rest.find? (hasM text) = none → getT b' 0 = .ptr rs 0 → getT b' 2 = iv spot → getT b' 4 = .ptr rm 0 → Wp Tryz.prog fl (At ⟨110, 90, false, none⟩ k b' [] .run [] m) Q) → (∀ (y : ByteArray × Int × Int) (m' : Mem) (b' : T AVal), rest.find? (hasM text) = some y → Kept S m m' → Seen S B m' rs ⟨σ.ms, σ.ru, (σ.bad || (y.2.1 != Int.ofNat names.length)) || (y.2.2 != spot)⟩ → Wp Tryz.prog fl (At ⟨110, 90, false, none⟩ [] b' [] .returning [] m') Q) → Wp Tryz.prog fl (At ⟨110, 90, false, none⟩ (.code (cAt [true, false, true, false, false] (bodyF Tryz.f110)) :: .inLoop (cAt [true, false, true, false, false] (bodyF Tryz.f110)) :: .inBlock 0 :: k) (sets 90 b []) [] .run [] m) Q := by
 have _ := hfl
 intro rest
 induction rest with
 | nil =>
  intro pre b hsp kz0 kz2 kz4 kz6 hk ht
  have cg0 := (hA.gs 0 (by decide)).cell
  obtain ⟨⟨es, hrs⟩, frs⟩ := hA.cel
  obtain ⟨⟨em, hrm⟩, frm⟩ := hm
  have hlt : decide (Int.ofNat pre.length < Int.ofNat (σ.cells 0).length) = false := by rw [show (σ.cells 0).length = σ.ms.length from List.length_map .., dlt]; simp [hsp]
  refine gg ?_
  refine s_val rfl rfl rfl rfl (o_fieldAddr (e_hit rfl) fd_101_0 fs_101_0 rfl) ?_
  refine gg ?_
  refine s_val rfl rfl rfl rfl (o_lenSl (e_hit rfl) un_22 (hA.gs 0 (by decide)).len) ?_
  refine gr ?_
  refine q_nil ?_
  refine w_condF (e_hit rfl) hlt ?_
  refine w_exit rfl ?_
  refine Wp.gen (fun b' eb => ?_)
  exact hk b' rfl (eqb eb (e_base rfl kz0)) (eqb eb (e_base rfl kz2)) (eqb eb (e_base rfl kz4))
 | cons y rest ih0 =>
  intro pre b hsp kz0 kz2 kz4 kz6 hk ht
  have K0 : Kept (fun q => m.next ≤ q ∨ S q) m m := Kept.refl hw
  have cn := hn.cell
  have hnl : ∀ {m' : Mem}, lenSl m' nv = .val (goI names.length) m' := by intro m'; have := hn.len (m' := m'); rwa [List.length_map] at this
  have cg0 := (hA.gs 0 (by decide)).cell
  have cg1 := (hA.gs 1 (by decide)).cell
  have cg2 := (hA.gs 2 (by decide)).cell
  obtain ⟨⟨es, hrs⟩, frs⟩ := hA.cel
  obtain ⟨⟨em, hrm⟩, frm⟩ := hm
  have hlt : decide (Int.ofNat pre.length < Int.ofNat (σ.cells 0).length) = true := by rw [show (σ.cells 0).length = σ.ms.length from List.length_map .., dlt]; simp [hsp]
  have hln : pre.length + 1 < 2 ^ 62 := by have := hlen9; simp [hsp] at this; omega
  have hpl : pre.length < σ.ms.length := by simp [hsp]
  have hc0 : ∀ i, i < 3 → σ.cells i ≠ [] := by
   have h0 : σ.ms ≠ [] := by rw [hsp]; simp
   rintro (_|_|_|i) hi
   ·exact fun h => h0 (List.map_eq_nil_iff.1 h)
   ·exact fun h => h0 (List.map_eq_nil_iff.1 h)
   ·exact fun h => h0 (List.map_eq_nil_iff.1 h)
   ·omega
  obtain ⟨r0, hv0, hr0⟩ := (hA.gs 0 (by decide)).row (hc0 0 (by decide))
  obtain ⟨r1, hv1, hr1⟩ := (hA.gs 1 (by decide)).row (hc0 1 (by decide))
  obtain ⟨r2, hv2, hr2⟩ := (hA.gs 2 (by decide)).row (hc0 2 (by decide))
  have gt0 : getO (σ.cells 0) (0 + pre.length * 1) = some (.lit (.string y.1)) := get_mid (fun t => .lit (.string t.1)) hsp
  have gt1 : getO (σ.cells 1) (0 + pre.length * 1) = some (iv y.2.1) := get_mid (fun t => iv t.2.1) hsp
  have gt2 : getO (σ.cells 2) (0 + pre.length * 1) = some (iv y.2.2) := get_mid (fun t => iv t.2.2) hsp
  have lp0 : pre.length < (σ.cells 0).length := by rw [show (σ.cells 0).length = σ.ms.length from List.length_map ..]; exact hpl
  have lp1 : pre.length < (σ.cells 1).length := by rw [show (σ.cells 1).length = σ.ms.length from List.length_map ..]; exact hpl
  have lp2 : pre.length < (σ.cells 2).length := by rw [show (σ.cells 2).length = σ.ms.length from List.length_map ..]; exact hpl
  have hfd : (y :: rest).find? (hasM text) = bif seq y.1 text then some y else rest.find? (hasM text) := by rw [List.find?_cons]; show (match seq y.1 text with | true => _ | false => _) = _; cases seq y.1 text <;> rfl
  refine gg ?_
  refine s_val rfl rfl rfl rfl (o_fieldAddr (e_hit rfl) fd_101_0 fs_101_0 rfl) ?_
  refine gg ?_
  refine s_val rfl rfl rfl rfl (o_lenSl (e_hit rfl) un_22 (hA.gs 0 (by decide)).len) ?_
  refine gg ?_
  refine w_draw (.L 0 0 0 (.L 1 1 0 (.L 2 3 0 (.L 3 7 1 (.L 4 0 0 (.L 5 31 0 (.L 6 63 1 (.L 7 0 0 (.L 8 128 1 (.L 9 511 0 .fin)))))))))) rfl (by kernel_rfl) ?_
  refine gg ?_
  refine d_light0 rfl rfl rfl rfl (o_fieldAddr (e_hit rfl) fd_101_0 fs_101_0 rfl) ?_
  refine gg ?_
  refine d_light0 rfl rfl rfl rfl (o_indexAddr ((e_hit rfl).trans hv0) (e_hit rfl) el_22 lp0) ?_
  refine d_light1 rfl rfl rfl rfl (o_loadRow (e_hit rfl) hr0 tg_9 sz_9 gt0 rfl) ?_
  refine gg ?_
  refine w_cond (e_hit rfl) (fun c1 => ?_) (fun c1 => ?_)
  ·
   refine gg ?_
   refine w_draw (.L 0 0 0 (.L 1 0 0 (.L 2 2 0 (.L 3 6 0 (.L 4 14 1 (.L 5 30 0 (.L 6 62 0 (.L 7 126 0 (.L 8 254 0 (.L 9 510 1 (.L 10 62 0 (.L 11 2046 0 (.L 12 4094 1 (.L 13 62 0 (.L 14 8254 1 (.L 15 24638 1 (.L 16 65534 0 (.L 17 131070 0 (.L 18 262142 0 (.L 19 524286 0 (.L 20 1048574 0 (.L 21 2097150 0 (.L 22 4194302 1 (.L 23 524286 0 (.L 24 16777214 0 (.L 25 33554430 1 (.L 26 524286 0 (.L 27 134217726 0 (.L 28 268435454 0 (.L 29 536870911 0 (.L 30 1073741823 0 (.H 31 2147483647 3 .fin)))))))))))))))))))))))))))))))) rfl (by kernel_rfl) ?_
   refine gg ?_
   refine d_light0 rfl rfl rfl rfl (o_fieldAddr (e_hit rfl) fd_101_4 fs_101_4 rfl) ?_
   refine gg ?_
   refine d_guardS (d := 31) (want := false) (e_hit rfl) (fun c2 => ?_) (fun c2 => ?_)
   ·
    refine gg ?_
    refine d_light0 rfl rfl (g_onH rfl rfl (e_hit rfl) c2) rfl (o_fieldAddr (e_hit rfl) fd_101_1 fs_101_1 rfl) ?_
    refine d_light1 rfl rfl (g_onH rfl rfl (e_hit rfl) c2) rfl (o_loadRow (e_hit rfl) hrs tg_99 sz_99 rfl (np_cell cg1)) ?_
    refine gg ?_
    refine d_light0 rfl rfl (g_onH rfl rfl (e_hit rfl) c2) rfl (o_indexAddr ((e_hit rfl).trans hv1) (e_hit rfl) el_99 lp1) ?_
    refine d_light1 rfl rfl (g_onH rfl rfl (e_hit rfl) c2) rfl (o_loadRow (e_hit rfl) hr1 tg_3 sz_3 gt1 rfl) ?_
    refine gg ?_
    refine d_guardS (d := 44) (want := false) (e_hit rfl) (fun c3 => ?_) (fun c3 => ?_)
    ·
     refine gg ?_
     refine d_light0 rfl rfl (g_onH rfl rfl (e_hit rfl) c3) rfl (o_fieldAddr (e_hit rfl) fd_101_2 fs_101_2 rfl) ?_
     refine d_light1 rfl rfl (g_onH rfl rfl (e_hit rfl) c3) rfl (o_loadRow (e_hit rfl) hrs tg_99 sz_99 rfl (np_cell cg2)) ?_
     refine gg ?_
     refine d_light0 rfl rfl (g_onH rfl rfl (e_hit rfl) c3) rfl (o_indexAddr ((e_hit rfl).trans hv2) (e_hit rfl) el_99 lp2) ?_
     refine d_light1 rfl rfl (g_onH rfl rfl (e_hit rfl) c3) rfl (o_loadRow (e_hit rfl) hr2 tg_3 sz_3 gt2 rfl) ?_
     refine gg ?_
     refine d_light0 rfl rfl rfl rfl (o_fieldAddr (e_hit rfl) fd_101_4 fs_101_4 rfl) ?_
     refine d_put0 rfl rfl rfl (o_store (e_hit rfl) (e_hit rfl) hrs frs sz_4 rfl rfl rfl rfl) (lk_skip (by kernel_rfl) (lk_skip (by kernel_rfl) (lk_skip (by kernel_rfl) (lk_skip (by kernel_rfl) (lk_skip (by kernel_rfl) (lk_skip (by kernel_rfl) (lk_skip (by kernel_rfl) lk0))))))) (fun m4 g5 => ?_)
     refine ⟨(ck_skip (by kernel_rfl) (ck_skip (by kernel_rfl) (ck_skip (by kernel_rfl) (ck_skip (by kernel_rfl) (ck_skip (by kernel_rfl) (ck_skip (by kernel_rfl) (ck_skip (by kernel_rfl) ck0))))))), ?_⟩
     have K7 := K0.w g5 hrs (fun _ h => by cases h) (Or.inr hSr)
     refine gg ?_
     refine w_retAt rfl ?_
     have hS9 := SeenAt.flag hA hw g5
     refine ht y _ _ (by rw [hfd, show seq y.1 text = true from c1]; rfl) K7.out ?_
     have e : ((σ.bad || (y.2.1 != Int.ofNat names.length)) || (y.2.2 != spot)) = (y.2.2 != spot) := by simp only [c2, c3, Bool.false_or, Bool.or_false]
     rw [e]; exact ⟨_, _, hS9, hSr, hSf⟩
    ·
     refine gg ?_
     refine d_light0 rfl rfl rfl rfl (o_fieldAddr (e_hit rfl) fd_101_4 fs_101_4 rfl) ?_
     refine d_put0 rfl rfl rfl (o_store (e_hit rfl) (e_hit rfl) hrs frs sz_4 rfl rfl rfl rfl) (lk_skip (by kernel_rfl) (lk_skip (by kernel_rfl) (lk_skip (by kernel_rfl) (lk_skip (by kernel_rfl) (lk_skip (by kernel_rfl) lk0))))) (fun m8 g9 => ?_)
     refine ⟨(ck_skip (by kernel_rfl) (ck_skip (by kernel_rfl) (ck_skip (by kernel_rfl) (ck_skip (by kernel_rfl) (ck_skip (by kernel_rfl) ck0))))), ?_⟩
     have K11 := K0.w g9 hrs (fun _ h => by cases h) (Or.inr hSr)
     refine gg ?_
     refine w_retAt rfl ?_
     have hS9 := SeenAt.flag hA hw g9
     refine ht y _ _ (by rw [hfd, show seq y.1 text = true from c1]; rfl) K11.out ?_
     have e : ((σ.bad || (y.2.1 != Int.ofNat names.length)) || (y.2.2 != spot)) = true := by simp only [c2, c3, Bool.or_true, Bool.true_or, Bool.not_false]
     rw [e]; exact ⟨_, _, hS9, hSr, hSf⟩
   ·
    refine gg ?_
    refine d_light0 rfl rfl rfl rfl (o_fieldAddr (e_hit rfl) fd_101_4 fs_101_4 rfl) ?_
    refine d_put0 rfl rfl rfl (o_store (e_hit rfl) (e_hit rfl) hrs frs sz_4 rfl rfl rfl rfl) (lk_skip (by kernel_rfl) lk0) (fun m12 g13 => ?_)
    refine ⟨(ck_skip (by kernel_rfl) ck0), ?_⟩
    have K15 := K0.w g13 hrs (fun _ h => by cases h) (Or.inr hSr)
    refine gg ?_
    refine w_retAt rfl ?_
    have hS9 := SeenAt.flag hA hw g13
    refine ht y _ _ (by rw [hfd, show seq y.1 text = true from c1]; rfl) K15.out ?_
    have e : ((σ.bad || (y.2.1 != Int.ofNat names.length)) || (y.2.2 != spot)) = true := by simp [c2]
    rw [e]; exact ⟨_, _, hS9, hSr, hSf⟩
  ·
   refine gg ?_
   refine w_inLoop ?_
   refine Wp.gen (fun b' eb => ?_)
   have e : (y :: rest).find? (hasM text) = rest.find? (hasM text) := by rw [hfd, show seq y.1 text = false from c1]; rfl
   exact ih0 (pre ++ [y]) b' (by simp [hsp]) (eqb eb (e_base rfl kz0)) (eqb eb (e_base rfl kz2)) (eqb eb (e_base rfl kz4)) (eqb eb ((e_hit rfl).trans (by rw [List.length_append]; rfl))) (fun b' h => hk b' (e.trans h)) (fun y' m' b' h => ht y' m' b' (e.trans h))
end
open Go.RowKit (Below)
set_option maxRecDepth 10000
noncomputable section
variable {fl : Fl} (hfl : Tab fl)
include hfl
omit hfl in
theorem ms_app (g : ByteArray × Int × Int → AVal) (l : List (ByteArray × Int × Int)) (y : ByteArray × Int × Int) : l.map g ++ [g y] = (l ++ [y]).map g := by simp
theorem join_ok {B rs : Nat} {C : Nat} {S : Nat → Prop} (hC : ∀ q, C ≤ q → S q) (hBC : B ≤ C) {text : ByteArray} {nv : AVal} {names : List ByteArray} {spot : Int} {σ : Sn} {m : Mem} (hS : Seen S B m rs σ) (hw : Wf m) (hB : C ≤ m.next) (hn : SlA m nv 1 (names.map strCells)) (hlen9 : σ.ms.length < 9999) : CallQ Tryz.prog fl 110 [.ptr rs 0, .agg [.lit (.string text), nv], iv spot] m (fun q => ∃ v u m', q = .ret v u m' ∧ Seen S B m' rs (joinF σ text (Int.ofNat names.length) spot) ∧ Kept S m m') := by
 obtain ⟨v, f, hA, hSr, hSf⟩ := hS
 have cn := hn.cell
 have lts := hA.cel.lt hw
 have hnl : ∀ {m' : Mem}, lenSl m' nv = .val (goI names.length) m' := by intro m'; have := hn.len (m' := m'); rwa [List.length_map] at this
 refine hfl.start (f := 110) (by decide) 90 Tryz.func110 rfl rfl (Nat.le_of_ble_eq_true rfl) ?_
 intro bs hb
 have ar0 := hb 0 _ rfl
 have ar1 := hb 1 _ rfl
 have ar2 := hb 2 _ rfl
 clear hb
 have K0 : Kept (fun q => m.next ≤ q ∨ S q) m m := Kept.refl hw
 refine gg ?_
 refine s_new rfl rfl rfl rfl (o_box (e_base rfl ar1) rfl) (fun m1 g2 => ?_)
 have n3 := g2.next
 have K4 := K0.g g2
 refine gg ?_
 have a5 := hA.grew g2 K0.wf
 refine w_loop ?_
 refine Wp.gen (fun b0 eb => ?_)
 refine jn_loop hfl hC hBC a5 hSr hSf K4.wf (by omega) (hn.kept K4) (Cel.of g2.same (g2.fam0 K0.wf)) hlen9 _ σ.ms [] b0 (by rfl) (eqb eb (e_base rfl ar0)) (eqb eb (e_base rfl ar2)) (eqb eb (e_hit rfl)) (eqb eb (e_hit rfl)) ?_ ?_
 ·
  intro bq hf z0 z2 z4
  change Wp Tryz.prog fl (At _ _ (sets 90 bq []) _ _ _ _) _
  obtain ⟨rm, erm⟩ : ∃ r, r = m.next := ⟨_, rfl⟩
  have hrm := g2.same
  have frm := (g2.fam0 K0.wf)
  rw [← erm] at z4 hrm frm
  have hmne : rm ≠ rs := by rw [erm]; omega
  obtain ⟨⟨es0, hrs0⟩, frs0⟩ := a5.cel
  have cg0_0 := (a5.gs 0 (by decide)).cell
  refine gg ?_
  refine w_draw (.L 0 0 0 (.L 1 0 0 (.L 2 2 0 (.L 3 6 0 (.L 4 14 1 (.L 5 0 0 (.L 6 32 1 (.L 7 96 2 (.H 8 254 3 (.L 9 511 0 (.L 10 1023 0 (.H 11 2047 3 .fin)))))))))))) rfl (by kernel_rfl) ?_
  refine gg ?_
  refine d_light0 rfl rfl rfl rfl (o_fieldAddr (e_hit rfl) fd_101_0 fs_101_0 rfl) ?_
  refine gg ?_
  refine d_light2 rfl rfl rfl rfl (o_bs1 (e_hit rfl)) (fun m6 g7 => ?_)
  have n8 := g7.next
  have K9 := K4.g g7
  have a10 := a5.grew g7 K4.wf
  have h11 := hxM m6 rs
  have f12 := fxM m6 rs
  have h13 := hxM m6 rm
  refine d_append (B := B) rfl rfl rfl rfl (a10.gs 0 (by decide)) K9.wf (by omega) (e_hit rfl) (e_hit rfl) g7.same rfl el_22 a22 g9 (by show (σ.ms.map _).length < _; rw [List.length_map]; omega) (lk_skip (by kernel_rfl) (lk_skip (by kernel_rfl) (lk_skip (by kernel_rfl) lk0))) (fun v90 m90 f90 hgs90 happ0 hfe0 hfn0 hBf0 => ?_)
  refine ⟨(ck_skip (by kernel_rfl) (ck_skip (by kernel_rfl) (ck_skip (by kernel_rfl) ck0))), ?_⟩
  have n90 := happ0.next
  have hne90 := own_ne (i := 0) (by decide) a10 K9.wf hfe0 hfn0
  have hSf90 : S f90 := by
   by_cases h : σ.cells 0 = []
   ·rw [hfn0 h]; exact hC _ (by omega)
   ·rw [hfe0 h]; exact hSf 0 (by decide) h
  have hwA0 := K9.wf
  have KA0 := K9.trans ((Kept.appdS K9.wf happ0 hSf90).mono (fun q _ h => (Or.inr h : m.next ≤ q ∨ S q)))
  have hrs90 := (happ0.heap rs (by omega)).trans h11
  have frs90 := (happ0.fams rs hne90).trans f12
  have hrm90 := (happ0.heap rm (by omega)).trans h13
  have c90 := hgs90.cell
  refine gg ?_
  refine d_light0 rfl rfl rfl rfl (o_fieldAddr (e_hit rfl) fd_101_0 fs_101_0 rfl) ?_
  refine d_put0 rfl rfl rfl (o_storeC (e_hit rfl) (e_hit rfl) hrs90 frs90 sz_22 c90 rfl) lk0 (fun m14 g15 => ?_)
  refine ⟨ck0, ?_⟩
  have n16 := g15.next
  have K17 := KA0.w g15 hrs90 (fun _ h => by cases h) (Or.inr hSr)
  have hA1 := SeenAt.app (i := 0) (x := (.lit (.string text))) (by decide) a10 hwA0 happ0 hgs90 hfe0 hfn0 g15
  have hSf1 := seenS_upd (k := 0) (c' := upd σ.cells 0 (σ.cells 0 ++ [.lit (.string text)])) hSf hSf90 (fun j hj hne => upd_other hne)
  have h18 := (g15.other rm (by omega)).trans hrm90
  obtain ⟨⟨es1, hrs1⟩, frs1⟩ := hA1.cel
  have cg1_1 := (hA1.gs 1 (by decide)).cell
  refine gg ?_
  refine w_draw (.L 0 0 0 (.L 1 0 0 (.L 2 2 0 (.L 3 6 0 (.L 4 14 1 (.L 5 0 0 (.L 6 32 1 (.L 7 96 1 (.L 8 224 2 (.H 9 510 3 (.L 10 1023 0 (.L 11 2047 0 (.H 12 4095 3 .fin))))))))))))) rfl (by kernel_rfl) ?_
  refine gg ?_
  refine d_light0 rfl rfl rfl rfl (o_fieldAddr (e_hit rfl) fd_101_1 fs_101_1 rfl) ?_
  refine d_light1 rfl rfl rfl rfl (o_loadRow (e_hit rfl) hrs1 tg_99 sz_99 rfl (np_cell cg1_1)) ?_
  refine gg ?_
  refine d_light2 rfl rfl rfl rfl (o_bsI (e_hit rfl)) (fun m19 g20 => ?_)
  have n21 := g20.next
  have K22 := K17.g g20
  have a23 := hA1.grew g20 K17.wf
  have h24 := hxM m19 rs
  have f25 := fxM m19 rs
  have h26 := hxM m19 rm
  refine d_append (B := B) rfl rfl rfl rfl (a23.gs 1 (by decide)) K22.wf (by omega) (e_hit rfl) (e_hit rfl) g20.same rfl el_99 a99 g3 (by show (σ.ms.map _).length < _; rw [List.length_map]; omega) (lk_skip (by kernel_rfl) (lk_skip (by kernel_rfl) (lk_skip (by kernel_rfl) (lk_skip (by kernel_rfl) lk0)))) (fun v91 m91 f91 hgs91 happ1 hfe1 hfn1 hBf1 => ?_)
  refine ⟨(ck_skip (by kernel_rfl) (ck_skip (by kernel_rfl) (ck_skip (by kernel_rfl) (ck_skip (by kernel_rfl) ck0)))), ?_⟩
  have n91 := happ1.next
  have hne91 := own_ne (i := 1) (by decide) a23 K22.wf hfe1 hfn1
  have hSf91 : S f91 := by
   by_cases h : upd σ.cells 0 (σ.cells 0 ++ [.lit (.string text)]) 1 = []
   ·rw [hfn1 h]; exact hC _ (by omega)
   ·rw [hfe1 h]; exact hSf1 1 (by decide) h
  have hwA1 := K22.wf
  have KA1 := K22.trans ((Kept.appdS K22.wf happ1 hSf91).mono (fun q _ h => (Or.inr h : m.next ≤ q ∨ S q)))
  have hrs91 := (happ1.heap rs (by omega)).trans h24
  have frs91 := (happ1.fams rs hne91).trans f25
  have hrm91 := (happ1.heap rm (by omega)).trans h26
  have c91 := hgs91.cell
  refine gg ?_
  refine d_light0 rfl rfl rfl rfl (o_fieldAddr (e_hit rfl) fd_101_1 fs_101_1 rfl) ?_
  refine d_put0 rfl rfl rfl (o_storeC (e_hit rfl) (e_hit rfl) hrs91 frs91 sz_99 c91 rfl) lk0 (fun m27 g28 => ?_)
  refine ⟨ck0, ?_⟩
  have n29 := g28.next
  have K30 := KA1.w g28 hrs91 (fun _ h => by cases h) (Or.inr hSr)
  have hA2 := SeenAt.app (i := 1) (x := (iv (Int.ofNat names.length))) (by decide) a23 hwA1 happ1 hgs91 hfe1 hfn1 g28
  have hSf2 := seenS_upd (k := 1) (c' := upd (upd σ.cells 0 (σ.cells 0 ++ [.lit (.string text)])) 1 (σ.cells 1 ++ [iv (Int.ofNat names.length)])) hSf1 hSf91 (fun j hj hne => upd_other hne)
  obtain ⟨⟨es2, hrs2⟩, frs2⟩ := hA2.cel
  have cg2_2 := (hA2.gs 2 (by decide)).cell
  refine gg ?_
  refine s_val rfl rfl rfl rfl (o_fieldAddr (e_hit rfl) fd_101_2 fs_101_2 rfl) ?_
  refine s_val rfl rfl rfl rfl (o_loadRow (e_hit rfl) hrs2 tg_99 sz_99 rfl (np_cell cg2_2)) ?_
  refine gg ?_
  refine s_new rfl rfl rfl rfl (o_bsI (e_hit rfl)) (fun m32 g33 => ?_)
  have n34 := g33.next
  have K35 := K30.g g33
  have a36 := hA2.grew g33 K30.wf
  have h37 := hxM m32 rs
  have f38 := fxM m32 rs
  have h39 := hxM m32 rm
  refine s_append (B := B) rfl rfl rfl rfl (a36.gs 2 (by decide)) K35.wf (by omega) (e_hit rfl) (e_hit rfl) g33.same rfl el_99 a99 g3 (by show (σ.ms.map _).length < _; rw [List.length_map]; omega) (fun v92 m92 f92 hgs92 happ2 hfe2 hfn2 hBf2 => ?_)
  have n92 := happ2.next
  have hne92 := own_ne (i := 2) (by decide) a36 K35.wf hfe2 hfn2
  have hSf92 : S f92 := by
   by_cases h : upd (upd σ.cells 0 (σ.cells 0 ++ [.lit (.string text)])) 1 (σ.cells 1 ++ [iv (Int.ofNat names.length)]) 2 = []
   ·rw [hfn2 h]; exact hC _ (by omega)
   ·rw [hfe2 h]; exact hSf2 2 (by decide) h
  have hwA2 := K35.wf
  have KA2 := K35.trans ((Kept.appdS K35.wf happ2 hSf92).mono (fun q _ h => (Or.inr h : m.next ≤ q ∨ S q)))
  have hrs92 := (happ2.heap rs (by omega)).trans h37
  have frs92 := (happ2.fams rs hne92).trans f38
  have c92 := hgs92.cell
  refine gg ?_
  refine s_val rfl rfl rfl rfl (o_fieldAddr (e_hit rfl) fd_101_2 fs_101_2 rfl) ?_
  refine s_put0 rfl rfl rfl (o_storeC (e_hit rfl) (e_hit rfl) hrs92 frs92 sz_99 c92 rfl) (fun m40 g41 => ?_)
  have K43 := KA2.w g41 hrs92 (fun _ h => by cases h) (Or.inr hSr)
  have hA3 := SeenAt.app (i := 2) (x := (iv spot)) (by decide) a36 hwA2 happ2 hgs92 hfe2 hfn2 g41
  have hSf3 := seenS_upd (k := 2) (c' := upd (upd (upd σ.cells 0 (σ.cells 0 ++ [.lit (.string text)])) 1 (σ.cells 1 ++ [iv (Int.ofNat names.length)])) 2 (σ.cells 2 ++ [iv spot])) hSf2 hSf92 (fun j hj hne => upd_other hne)
  obtain ⟨⟨es3, hrs3⟩, frs3⟩ := hA3.cel
  refine gg ?_
  refine w_fall rfl ?_
  refine w_results Tryz.func110 rv0 ?_
  have e : joinF σ text (Int.ofNat names.length) spot = ⟨σ.ms ++ [(text, Int.ofNat names.length, spot)], σ.ru, σ.bad⟩ := by unfold joinF; rw [hf]
  have hcc : ∀ i, i < 4 → upd (upd (upd σ.cells 0 (σ.cells 0 ++ [.lit (.string text)])) 1 (σ.cells 1 ++ [iv (Int.ofNat names.length)])) 2 (σ.cells 2 ++ [iv spot]) i = Sn.cells ⟨σ.ms ++ [(text, Int.ofNat names.length, spot)], σ.ru, σ.bad⟩ i := by
   rintro (_|_|_|_|i) hi
   ·exact ms_app (fun t => AVal.lit (.string t.1)) σ.ms (text, Int.ofNat names.length, spot)
   ·exact ms_app (fun t => iv t.2.1) σ.ms (text, Int.ofNat names.length, spot)
   ·exact ms_app (fun t => iv t.2.2) σ.ms (text, Int.ofNat names.length, spot)
   ·rfl
   ·omega
  rw [e]; exact ⟨_, _, _, rfl, ⟨_, _, hA3.congr hcc, hSr, fun i hi h => hSf3 i hi (by rw [hcc i hi]; exact h)⟩, K43.out⟩
 ·
  intro y mq bq hf kq hSq
  have e : joinF σ text (Int.ofNat names.length) spot = ⟨σ.ms, σ.ru, (σ.bad || (y.2.1 != Int.ofNat names.length)) || (y.2.2 != spot)⟩ := by unfold joinF; rw [hf]
  refine w_results Tryz.func110 rv0 ?_
  rw [e]; exact ⟨_, _, _, rfl, hSq, K4.out.trans kq⟩
end
open Go.RowKit (Below)
set_option maxRecDepth 10000
noncomputable section
variable {fl : Fl} (hfl : Tab fl)
include hfl
omit hfl in
def joinsC (i : Int) (s : Sn) : ACl → Sn
 | .mk _ _ _ _ _ joins _ _ => joins.foldl (fun s x => joinF s x.text (Int.ofNat x.names.length) i) s
omit hfl in
def jc : ACl → Nat
 | .mk _ _ _ _ _ joins _ _ => joins.length
omit hfl in
theorem foldj_len (i : Int) : ∀ (js : List AMs) (s : Sn), (js.foldl (fun s x => joinF s x.text (Int.ofNat x.names.length) i) s).ms.length ≤ s.ms.length + js.length
 | [], s => by simp
 | x :: js, s => by
  have h1 := foldj_len i js (joinF s x.text (Int.ofNat x.names.length) i)
  have h2 := joinF_len s x.text (Int.ofNat x.names.length) i
  rw [List.foldl_cons, List.length_cons]; omega
omit hfl in
theorem joinsC_len (i : Int) (s : Sn) (c : ACl) : (joinsC i s c).ms.length ≤ s.ms.length + jc c := by
 cases c with
 | mk f t jv dv kv joins defs kids => exact foldj_len i joins s
omit hfl in
theorem foldC_len (i : Int) : ∀ (ds : List ACl) (s : Sn), (ds.foldl (joinsC i) s).ms.length ≤ s.ms.length + (ds.map jc).sum
 | [], s => by simp
 | c :: ds, s => by
  have h1 := foldC_len i ds (joinsC i s c)
  have h2 := joinsC_len i s c
  rw [List.foldl_cons, List.map_cons, List.sum_cons]; omega
omit hfl in
def spotsF : Nat → List (AVal × List ACl) → Sn → Sn
 | _, [], s => s
 | i, x :: l, s => spotsF (i + 1) l (x.2.foldl (joinsC (Int.ofNat i)) s)
structure Lk (r5 fx : Nat) (L : List (AVal × List ACl)) (m : Mem) : Prop where
 row : m.heap.get r5 = some (.row (30, 1) (L.map Prod.fst) fx 0)
 sl : ∀ x, x ∈ L → SlA m x.1 5 (x.2.map ACl.cells)
 ok : ∀ x, x ∈ L → ∀ c, c ∈ x.2 → ACl.OK m c
omit hfl in
theorem Lk.kept {S : Nat → Prop} {r5 fx : Nat} {L : List (AVal × List ACl)} {m m1 : Mem} (h : Lk r5 fx L m) (k : Kept S m m1) (h5 : ¬ S r5) (hw : Wf m) : Lk r5 fx L m1 :=
 ⟨(k.get r5 (hw.lt h.row) h5).trans h.row, fun x hx => (h.sl x hx).kept k, fun x hx c hc => (h.ok x hx c hc).kept k⟩
omit hfl in
theorem get_fst {L : List (AVal × List ACl)} {i : Nat} {x : AVal × List ACl} (h : L[i]? = some x) : getO (L.map Prod.fst) (0 + i * 1) = some x.1 := by
 rw [getO_eq, Nat.zero_add, Nat.mul_one, List.getElem?_map, h]; rfl
theorem lk_C {B rs C r5 fx n5 : Nat} {ex5 : Bool} {S : Nat → Prop} (hC : ∀ q, C ≤ q → S q) (hBC : B ≤ C) (h5 : ¬ S r5) {v5 : AVal} (L : List (AVal × List ACl)) (hv5 : v5 = .slice r5 0 (L.map Prod.fst).length n5 ex5) {i j : Nat} {dvi : AVal} {dsi : List ACl} (hi : L[i]? = some (dvi, dsi)) {fm : Int} {s : ByteArray} {jv dv2 kv : AVal} {joins : List AMs} {defs : List ACl} {kids : List ATm} (hj : dsi[j]? = some (.mk fm s jv dv2 kv joins defs kids)) (k : List AItem) {Q : RR → Prop} : ∀ (rest pre : List (AMs)) (σ : Sn) {m : Mem} (b : T AVal), joins = pre ++ rest → Wf m → C ≤ m.next → Seen S B m rs σ → Lk r5 fx L m → σ.ms.length + rest.length < 9999 → getT b 4 = .ptr rs 0 → getT b 5 = v5 → getT b 6 = goI i → getT b 7 = goI j → getT b 8 = goI pre.length →
  (∀ (m' : Mem) (b' : T AVal), Kept S m m' → Seen S B m' rs (rest.foldl (fun s (x : AMs) => joinF s x.text (Int.ofNat x.names.length) (Int.ofNat i)) σ) → getT b' 4 = .ptr rs 0 → getT b' 5 = v5 → getT b' 6 = goI i → getT b' 7 = goI j → Wp Tryz.prog fl (At ⟨68, 95, false, none⟩ k b' [] .run [] m') Q) → Wp Tryz.prog fl (At ⟨68, 95, false, none⟩ (.code (cAt [true, true, true, true, false, true, false, false, true, false, false, true, false, false, true, false, false, true, false, false] (bodyF Tryz.f68)) :: .inLoop (cAt [true, true, true, true, false, true, false, false, true, false, false, true, false, false, true, false, false, true, false, false] (bodyF Tryz.f68)) :: .inBlock 4 :: k) (sets 95 b []) [] .run [] m) Q := by
 have _ := hfl
 intro rest
 induction rest with
 | nil =>
  intro pre σ m b hsp hw hB hS hL hln9 kz4 kz5 kz6 kz7 kzo hk
  have hxi := List.mem_of_getElem? hi
  have hsi := hL.sl _ hxi
  have ci := hsi.cell
  have hr5 := hL.row
  have gti : getO (L.map Prod.fst) (0 + i * 1) = some dvi := get_fst hi
  have lpi : i < (L.map Prod.fst).length := by rw [List.length_map]; exact (List.getElem?_eq_some_iff.1 hi).1
  obtain ⟨ri, offi, cci, exi, rowi, hvi, hlxi, hri, htki⟩ := hsi.at (i := j) (e := ACl.cells (.mk fm s jv dv2 kv joins defs kids)) (by rw [List.getElem?_map, hj]; rfl)
  have hco := hL.ok _ hxi _ (List.mem_of_getElem? hj)
  have h1 : SlA m jv 2 (joins.map AMs.cells) := by cases hco with | mk h1 _ _ _ _ _ => exact h1
  have hjl : ∀ {m' : Mem}, lenSl m' jv = .val (goI joins.length) m' := by intro m'; have := h1.len (m' := m'); rwa [List.length_map] at this
  have hlt : decide (Int.ofNat pre.length < Int.ofNat joins.length) = false := by rw [dlt]; simp [hsp]
  refine gg ?_
  refine s_val rfl rfl rfl rfl (o_indexAddr ((e_hit rfl).trans hv5) (e_hit rfl) el_156 lpi) ?_
  refine s_val rfl rfl rfl rfl (o_loadRow (e_hit rfl) hr5 tg_30 sz_30 gti (np_cell ci)) ?_
  refine gg ?_
  refine s_val rfl rfl rfl rfl (o_indexAddr ((e_hit rfl).trans hvi) (e_hit rfl) el_30 (by simpa using hlxi)) ?_
  refine gg ?_
  refine s_val rfl rfl rfl rfl (o_loadRoJ (e_hit rfl) hri tg_116 sz_116 htki rfl) ?_
  refine gr ?_
  refine q_nil ?_
  refine w_condF (e_hit rfl) hlt ?_
  refine w_exit rfl ?_
  refine Wp.gen (fun b' eb => ?_)
  exact hk _ b' (Kept.refl hw) hS (eqb eb (e_base rfl kz4)) (eqb eb (e_base rfl kz5)) (eqb eb (e_base rfl kz6)) (eqb eb (e_base rfl kz7))
 | cons x rest ih0 =>
  intro pre σ m b hsp hw hB hS hL hln9 kz4 kz5 kz6 kz7 kzo hk
  have K0 : Kept (fun q => m.next ≤ q ∨ S q) m m := Kept.refl hw
  have hxi := List.mem_of_getElem? hi
  have hsi := hL.sl _ hxi
  have ci := hsi.cell
  have hli : ∀ {m' : Mem}, lenSl m' dvi = .val (goI dsi.length) m' := by intro m'; have := hsi.len (m' := m'); rwa [List.length_map] at this
  have hr5 := hL.row
  have lt5 := hw.lt hr5
  have gti : getO (L.map Prod.fst) (0 + i * 1) = some dvi := get_fst hi
  have lpi : i < (L.map Prod.fst).length := by rw [List.length_map]; exact (List.getElem?_eq_some_iff.1 hi).1
  obtain ⟨ri, offi, cci, exi, rowi, hvi, hlxi, hri, htki⟩ := hsi.at (i := j) (e := ACl.cells (.mk fm s jv dv2 kv joins defs kids)) (by rw [List.getElem?_map, hj]; rfl)
  have ltri := hw.lt hri
  have hco := hL.ok _ hxi _ (List.mem_of_getElem? hj)
  have h1 : SlA m jv 2 (joins.map AMs.cells) := by cases hco with | mk h1 _ _ _ _ _ => exact h1
  have h4 : ∀ y, y ∈ joins → AMs.OK m y := by cases hco with | mk _ _ _ h4 _ _ => exact h4
  have cj := h1.cell
  have hjl : ∀ {m' : Mem}, lenSl m' jv = .val (goI joins.length) m' := by intro m'; have := h1.len (m' := m'); rwa [List.length_map] at this
  have hxj : joins[pre.length]? = some x := by rw [hsp]; simp
  have hxm : x ∈ joins := by rw [hsp]; simp
  have hnv : SlA m x.nv 1 (x.names.map strCells) := h4 x hxm
  have cnv := hnv.cell
  have hnl : ∀ {m' : Mem}, lenSl m' x.nv = .val (goI x.names.length) m' := by intro m'; have := hnv.len (m' := m'); rwa [List.length_map] at this
  obtain ⟨rj, offj, ccj, exj, rowj, hvj, hlxj, hrj, htkj⟩ := h1.at (i := pre.length) (e := AMs.cells x) (by rw [List.getElem?_map, hxj]; rfl)
  have ltrj := hw.lt hrj
  have hln : pre.length + 1 < 2 ^ 62 := by have := h1.lt; simp [hsp] at this; omega
  rw [List.length_cons] at hln9
  have hlt : decide (Int.ofNat pre.length < Int.ofNat joins.length) = true := by rw [dlt]; simp [hsp]
  refine gg ?_
  refine s_val rfl rfl rfl rfl (o_indexAddr ((e_hit rfl).trans hv5) (e_hit rfl) el_156 lpi) ?_
  refine s_val rfl rfl rfl rfl (o_loadRow (e_hit rfl) hr5 tg_30 sz_30 gti (np_cell ci)) ?_
  refine gg ?_
  refine s_val rfl rfl rfl rfl (o_indexAddr ((e_hit rfl).trans hvi) (e_hit rfl) el_30 (by simpa using hlxi)) ?_
  refine gg ?_
  refine s_val rfl rfl rfl rfl (o_loadRoJ (e_hit rfl) hri tg_116 sz_116 htki rfl) ?_
  refine gg ?_
  refine s_val rfl rfl rfl rfl (o_indexAddr ((e_hit rfl).trans hv5) (e_hit rfl) el_156 lpi) ?_
  refine s_val rfl rfl rfl rfl (o_loadRow (e_hit rfl) hr5 tg_30 sz_30 gti (np_cell ci)) ?_
  refine gg ?_
  refine s_val rfl rfl rfl rfl (o_indexAddr ((e_hit rfl).trans hvi) (e_hit rfl) el_30 (by simpa using hlxi)) ?_
  refine gg ?_
  refine s_val rfl rfl rfl rfl (o_loadRoJ (e_hit rfl) hri tg_116 sz_116 htki rfl) ?_
  refine gg ?_
  refine s_val rfl rfl rfl rfl (o_indexAddr ((e_hit rfl).trans hvj) (e_hit rfl) el_116 (by simpa using hlxj)) ?_
  refine s_val rfl rfl rfl rfl (o_loadRoA (e_hit rfl) hrj tg_126 sz_126 htkj) ?_
  refine gg ?_
  have hcall := join_ok hfl hC hBC (text := x.text) (spot := Int.ofNat i) hS K0.wf (by omega) (SlA.kept hnv K0) (by omega)
  refine s_call rfl rfl rfl rfl (o_calls (me3 (e_hit rfl) (e_hit rfl) (e_hit rfl))) hcall ?_ (by rintro c u m' ⟨_, _, _, h, _⟩; cases h)
  rintro vq u mq ⟨_, _, _, hret, hSq, kq⟩
  cases hret
  have nq := kq.next
  have KQ := K0.out.trans kq
  have hjl9 := joinF_len σ x.text (Int.ofNat x.names.length) (Int.ofNat i)
  refine gg ?_
  refine w_inLoop ?_
  refine Wp.gen (fun b' eb => ?_)
  exact ih0 (pre ++ [x]) _ b' (by simp [hsp]) KQ.wf (by omega) hSq (hL.kept KQ h5 hw) (by omega) (eqb eb (e_base rfl kz4)) (eqb eb (e_base rfl kz5)) (eqb eb (e_base rfl kz6)) (eqb eb (e_base rfl kz7)) (eqb eb ((e_hit rfl).trans (by rw [List.length_append]; rfl))) (fun m' b' h1 h2 => hk m' b' (KQ.trans h1) h2)
theorem lk_B {B rs C r5 fx n5 : Nat} {ex5 : Bool} {S : Nat → Prop} (hC : ∀ q, C ≤ q → S q) (hBC : B ≤ C) (h5 : ¬ S r5) {v5 : AVal} (L : List (AVal × List ACl)) (hv5 : v5 = .slice r5 0 (L.map Prod.fst).length n5 ex5) {i : Nat} {dvi : AVal} {dsi : List ACl} (hi : L[i]? = some (dvi, dsi)) (k : List AItem) {Q : RR → Prop} : ∀ (rest pre : List (ACl)) (σ : Sn) {m : Mem} (b : T AVal), dsi = pre ++ rest → Wf m → C ≤ m.next → Seen S B m rs σ → Lk r5 fx L m → σ.ms.length + (rest.map jc).sum < 9999 → getT b 4 = .ptr rs 0 → getT b 5 = v5 → getT b 6 = goI i → getT b 7 = goI pre.length →
  (∀ (m' : Mem) (b' : T AVal), Kept S m m' → Seen S B m' rs (rest.foldl (joinsC (Int.ofNat i)) σ) → getT b' 4 = .ptr rs 0 → getT b' 5 = v5 → getT b' 6 = goI i → Wp Tryz.prog fl (At ⟨68, 95, false, none⟩ k b' [] .run [] m') Q) → Wp Tryz.prog fl (At ⟨68, 95, false, none⟩ (.code (cAt [true, true, true, true, false, true, false, false, true, false, false, true, false, false] (bodyF Tryz.f68)) :: .inLoop (cAt [true, true, true, true, false, true, false, false, true, false, false, true, false, false] (bodyF Tryz.f68)) :: .inBlock 2 :: k) (sets 95 b []) [] .run [] m) Q := by
 have _ := hfl
 intro rest
 induction rest with
 | nil =>
  intro pre σ m b hsp hw hB hS hL hln9 kz4 kz5 kz6 kzo hk
  have hxi := List.mem_of_getElem? hi
  have hsi := hL.sl _ hxi
  have ci := hsi.cell
  have hli : ∀ {m' : Mem}, lenSl m' dvi = .val (goI dsi.length) m' := by intro m'; have := hsi.len (m' := m'); rwa [List.length_map] at this
  have hr5 := hL.row
  have gti : getO (L.map Prod.fst) (0 + i * 1) = some dvi := get_fst hi
  have lpi : i < (L.map Prod.fst).length := by rw [List.length_map]; exact (List.getElem?_eq_some_iff.1 hi).1
  have hlt : decide (Int.ofNat pre.length < Int.ofNat dsi.length) = false := by rw [dlt]; simp [hsp]
  refine gg ?_
  refine s_val rfl rfl rfl rfl (o_indexAddr ((e_hit rfl).trans hv5) (e_hit rfl) el_156 lpi) ?_
  refine s_val rfl rfl rfl rfl (o_loadRow (e_hit rfl) hr5 tg_30 sz_30 gti (np_cell ci)) ?_
  refine gr ?_
  refine q_nil ?_
  refine w_condF (e_hit rfl) hlt ?_
  refine w_exit rfl ?_
  refine Wp.gen (fun b' eb => ?_)
  exact hk _ b' (Kept.refl hw) hS (eqb eb (e_base rfl kz4)) (eqb eb (e_base rfl kz5)) (eqb eb (e_base rfl kz6))
 | cons x rest ih0 =>
  intro pre σ m b hsp hw hB hS hL hln9 kz4 kz5 kz6 kzo hk
  have K0 : Kept (fun q => m.next ≤ q ∨ S q) m m := Kept.refl hw
  have hxi := List.mem_of_getElem? hi
  have hsi := hL.sl _ hxi
  have ci := hsi.cell
  have hli : ∀ {m' : Mem}, lenSl m' dvi = .val (goI dsi.length) m' := by intro m'; have := hsi.len (m' := m'); rwa [List.length_map] at this
  have hr5 := hL.row
  have lt5 := hw.lt hr5
  have gti : getO (L.map Prod.fst) (0 + i * 1) = some dvi := get_fst hi
  have lpi : i < (L.map Prod.fst).length := by rw [List.length_map]; exact (List.getElem?_eq_some_iff.1 hi).1
  have hxj : dsi[pre.length]? = some x := by rw [hsp]; simp
  have hln : pre.length + 1 < 2 ^ 62 := by have := hsi.lt; simp [hsp] at this; omega
  rw [List.map_cons, List.sum_cons] at hln9
  have hlt : decide (Int.ofNat pre.length < Int.ofNat dsi.length) = true := by rw [dlt]; simp [hsp]
  refine gg ?_
  refine s_val rfl rfl rfl rfl (o_indexAddr ((e_hit rfl).trans hv5) (e_hit rfl) el_156 lpi) ?_
  refine s_val rfl rfl rfl rfl (o_loadRow (e_hit rfl) hr5 tg_30 sz_30 gti (np_cell ci)) ?_
  refine gg ?_
  refine w_loop ?_
  refine Wp.gen (fun b0 eb => ?_)
  cases x with
  | mk fm s jv dv2 kv joins defs kids =>
  have hjc : jc (ACl.mk fm s jv dv2 kv joins defs kids) = joins.length := rfl
  rw [hjc] at hln9
  refine lk_C hfl hC hBC h5 L hv5 hi hxj _ joins [] σ b0 (by rfl) K0.wf (by omega) hS (hL.kept (S := S) K0.out h5 hw) (by omega) (eqb eb (e_base rfl kz4)) (eqb eb (e_base rfl kz5)) (eqb eb (e_base rfl kz6)) (eqb eb (e_base rfl kzo)) (eqb eb (e_hit rfl)) ?_
  intro mq bq kq hSq z4 z5 z6 z7
  change Wp Tryz.prog fl (At _ _ (sets 95 bq []) _ _ _ _) _
  have nq := kq.next
  have KQ := K0.out.trans kq
  have hjl9 := foldj_len (Int.ofNat i) joins σ
  refine gg ?_
  refine w_inLoop ?_
  refine Wp.gen (fun b' eb => ?_)
  exact ih0 (pre ++ [ACl.mk fm s jv dv2 kv joins defs kids]) _ b' (by simp [hsp]) KQ.wf (by omega) hSq (hL.kept KQ h5 hw) (by omega) (eqb eb (e_base rfl z4)) (eqb eb (e_base rfl z5)) (eqb eb (e_base rfl z6)) (eqb eb ((e_hit rfl).trans (by rw [List.length_append]; rfl))) (fun m' b' h1 h2 => hk m' b' (KQ.trans h1) h2)
end
end Go.Proofs.YtjefckdgpbdpeaaGreat
