/- A part of the proof of TermChecks. -/
import Derived.Test.YtjefckdgpbdpeaaGreatTg
namespace Go.Proofs.YtjefckdgpbdpeaaGreat
open Go Go.Abs
open Go.RowKit (Below)
set_option maxRecDepth 10000
noncomputable section
theorem un_156 : Tryz.prog.underlying 156 = some (.slice 30) := by kernel_rfl
variable {fl : Fl} (hfl : Tab fl)
include hfl
theorem lk_A {B rs C r5 fx n5 : Nat} {ex5 : Bool} {S : Nat → Prop} (hC : ∀ q, C ≤ q → S q) (hBC : B ≤ C) (h5 : ¬ S r5) {v5 : AVal} (L : List (AVal × List ACl)) (hv5 : v5 = .slice r5 0 (L.map Prod.fst).length n5 ex5) (hLl : L.length < 2 ^ 60) (k : List AItem) {Q : RR → Prop} : ∀ (rest pre : List (AVal × List ACl)) (σ : Sn) {m : Mem} (b : T AVal), L = pre ++ rest → Wf m → C ≤ m.next → Seen S B m rs σ → Lk r5 fx L m → σ.ms.length + (rest.map fun x => (x.2.map jc).sum).sum < 9999 → getT b 4 = .ptr rs 0 → getT b 5 = v5 → getT b 6 = goI pre.length →
  (∀ (m' : Mem) (b' : T AVal), Kept S m m' → Seen S B m' rs (spotsF pre.length rest σ) → getT b' 4 = .ptr rs 0 → getT b' 5 = v5 → Wp Tryz.prog fl (At ⟨68, 95, false, none⟩ k b' [] .run [] m') Q) → Wp Tryz.prog fl (At ⟨68, 95, false, none⟩ (.code (cAt [true, true, true, true, false, true, false, false] (bodyF Tryz.f68)) :: .inLoop (cAt [true, true, true, true, false, true, false, false] (bodyF Tryz.f68)) :: .inBlock 0 :: k) (sets 95 b []) [] .run [] m) Q := by
 have _ := hfl
 intro rest
 induction rest with
 | nil =>
  intro pre σ m b hsp hw hB hS hL hln9 kz4 kz5 kzo hk
  have hlt : decide (Int.ofNat pre.length < Int.ofNat (L.map Prod.fst).length) = false := by rw [dlt]; simp [hsp]
  refine gg ?_
  refine s_val rfl rfl rfl rfl (o_lenSl (e_hit rfl) un_156 (by rw [hv5]; rfl)) ?_
  refine gr ?_
  refine q_nil ?_
  refine w_condF (e_hit rfl) hlt ?_
  refine w_exit rfl ?_
  refine Wp.gen (fun b' eb => ?_)
  exact hk _ b' (Kept.refl hw) hS (eqb eb (e_base rfl kz4)) (eqb eb (e_base rfl kz5))
 | cons x rest ih0 =>
  intro pre σ m b hsp hw hB hS hL hln9 kz4 kz5 kzo hk
  have K0 : Kept (fun q => m.next ≤ q ∨ S q) m m := Kept.refl hw
  have hln : pre.length + 1 < 2 ^ 62 := by have := hLl; simp [hsp] at this; omega
  rw [List.map_cons, List.sum_cons] at hln9
  have hlt : decide (Int.ofNat pre.length < Int.ofNat (L.map Prod.fst).length) = true := by rw [dlt]; simp [hsp]
  refine gg ?_
  refine s_val rfl rfl rfl rfl (o_lenSl (e_hit rfl) un_156 (by rw [hv5]; rfl)) ?_
  refine gg ?_
  refine w_loop ?_
  refine Wp.gen (fun b0 eb => ?_)
  obtain ⟨dvi, dsi⟩ := x
  dsimp only at hln9
  have hxi : L[pre.length]? = some (dvi, dsi) := by rw [hsp]; simp
  refine lk_B hfl hC hBC h5 L hv5 hxi _ dsi [] σ b0 (by rfl) K0.wf (by omega) hS (hL.kept (S := S) K0.out h5 hw) (by omega) (eqb eb (e_base rfl kz4)) (eqb eb (e_base rfl kz5)) (eqb eb (e_base rfl kzo)) (eqb eb (e_hit rfl)) ?_
  intro mq bq kq hSq z4 z5 z6
  change Wp Tryz.prog fl (At _ _ (sets 95 bq []) _ _ _ _) _
  have nq := kq.next
  have KQ := K0.out.trans kq
  have hjl9 := foldC_len (Int.ofNat pre.length) dsi σ
  refine gg ?_
  refine w_inLoop ?_
  refine Wp.gen (fun b' eb => ?_)
  exact ih0 (pre ++ [(dvi, dsi)]) _ b' (by simp [hsp]) KQ.wf (by omega) hSq (hL.kept KQ h5 hw) (by omega) (eqb eb (e_base rfl z4)) (eqb eb (e_base rfl z5)) (eqb eb ((e_hit rfl).trans (by rw [List.length_append]; rfl))) (fun m' b' h1 h2 => hk m' b' (KQ.trans h1) (by rw [List.length_append] at h2; exact h2))
omit hfl in
def clash (ru : List ByteArray) (b : Bool) (t : ByteArray × Int × Int) : Bool := b || isIn t.1 ru
theorem lk_D {B rs C : Nat} {S : Nat → Prop} (hC : ∀ q, C ≤ q → S q) (hBC : B ≤ C) {ms : List (ByteArray × Int × Int)} {ru : List ByteArray} (hlr : ru.length < 9999) (hlm : ms.length < 99999) (k : List AItem) {Q : RR → Prop} : ∀ (rest pre : List (ByteArray × Int × Int)) (bad : Bool) {m : Mem} (b : T AVal), ms = pre ++ rest → Wf m → C ≤ m.next → Seen S B m rs ⟨ms, ru, bad⟩ → getT b 4 = .ptr rs 0 → getT b 9 = goI pre.length →
  (∀ (m' : Mem) (b' : T AVal), Kept S m m' → Seen S B m' rs ⟨ms, ru, rest.foldl (clash ru) bad⟩ → getT b' 4 = .ptr rs 0 → Wp Tryz.prog fl (At ⟨68, 95, false, none⟩ k b' [] .run [] m') Q) → Wp Tryz.prog fl (At ⟨68, 95, false, none⟩ (.code (cAt [true, true, true, true, true, false, true, false, false] (bodyF Tryz.f68)) :: .inLoop (cAt [true, true, true, true, true, false, true, false, false] (bodyF Tryz.f68)) :: .inBlock 6 :: k) (sets 95 b []) [] .run [] m) Q := by
 have _ := hfl
 have _ := hC
 have _ := hBC
 intro rest
 induction rest with
 | nil =>
  intro pre bad m b hsp hw hB hS kz4 kz9 hk
  have hS0 := hS
  obtain ⟨v, f, hA, hSr, hSf⟩ := hS
  have cg0 := (hA.gs 0 (by decide)).cell
  obtain ⟨⟨es, hrs⟩, frs⟩ := hA.cel
  have hlt : decide (Int.ofNat pre.length < Int.ofNat (Sn.cells ⟨ms, ru, bad⟩ 0).length) = false := by rw [show (Sn.cells ⟨ms, ru, bad⟩ 0).length = ms.length from List.length_map .., dlt]; simp [hsp]
  refine gg ?_
  refine s_val rfl rfl rfl rfl (o_fieldAddr (e_hit rfl) fd_101_0 fs_101_0 rfl) ?_
  refine gg ?_
  refine s_val rfl rfl rfl rfl (o_lenSl (e_hit rfl) un_22 (hA.gs 0 (by decide)).len) ?_
  refine gr ?_
  refine q_nil ?_
  refine w_condF (e_hit rfl) hlt ?_
  refine w_exit rfl ?_
  refine Wp.gen (fun b' eb => ?_)
  exact hk _ b' (Kept.refl hw) hS0 (eqb eb (e_base rfl kz4))
 | cons y rest ih0 =>
  intro pre bad m b hsp hw hB hS kz4 kz9 hk
  have K0 : Kept (fun q => m.next ≤ q ∨ S q) m m := Kept.refl hw
  obtain ⟨v, f, hA, hSr, hSf⟩ := hS
  have lts := hA.cel.lt hw
  have cg0 := (hA.gs 0 (by decide)).cell
  have cg3 := (hA.gs 3 (by decide)).cell
  obtain ⟨⟨es, hrs⟩, frs⟩ := hA.cel
  have hlt : decide (Int.ofNat pre.length < Int.ofNat (Sn.cells ⟨ms, ru, bad⟩ 0).length) = true := by rw [show (Sn.cells ⟨ms, ru, bad⟩ 0).length = ms.length from List.length_map .., dlt]; simp [hsp]
  have hln : pre.length + 1 < 2 ^ 62 := by have := hlm; simp [hsp] at this; omega
  have hpl : pre.length < ms.length := by simp [hsp]
  have hc0 : Sn.cells ⟨ms, ru, bad⟩ 0 ≠ [] := by
   have h0 : ms ≠ [] := by rw [hsp]; simp
   exact fun h => h0 (List.map_eq_nil_iff.1 h)
  obtain ⟨r0, hv0, hr0⟩ := (hA.gs 0 (by decide)).row hc0
  have gt0 : getO (Sn.cells ⟨ms, ru, bad⟩ 0) (0 + pre.length * 1) = some (.lit (.string y.1)) := get_mid (fun t => .lit (.string t.1)) hsp
  have lp0 : pre.length < (Sn.cells ⟨ms, ru, bad⟩ 0).length := by rw [show (Sn.cells ⟨ms, ru, bad⟩ 0).length = ms.length from List.length_map ..]; exact hpl
  refine gg ?_
  refine s_val rfl rfl rfl rfl (o_fieldAddr (e_hit rfl) fd_101_0 fs_101_0 rfl) ?_
  refine gg ?_
  refine s_val rfl rfl rfl rfl (o_lenSl (e_hit rfl) un_22 (hA.gs 0 (by decide)).len) ?_
  refine gg ?_
  refine w_draw (.L 0 0 0 (.L 1 0 0 (.L 2 2 0 (.L 3 6 0 (.L 4 14 1 (.L 5 30 0 (.L 6 62 0 (.L 7 126 0 (.L 8 254 0 (.L 9 510 1 (.L 10 62 0 (.L 11 1086 0 (.L 12 3134 0 (.L 13 7230 1 (.L 14 62 0 (.L 15 31806 0 (.L 16 64574 1 (.H 17 131070 3 (.L 18 262142 0 (.L 19 524287 0 (.L 20 1048575 0 (.H 21 2097151 3 .fin)))))))))))))))))))))) rfl (by kernel_rfl) ?_
  refine gg ?_
  refine d_light0 rfl rfl rfl rfl (o_fieldAddr (e_hit rfl) fd_101_4 fs_101_4 rfl) ?_
  refine gg ?_
  refine d_guardS (d := 73) (want := false) (e_hit rfl) (fun c1 => ?_) (fun c1 => ?_)
  ·
   refine gg ?_
   refine d_light0 rfl rfl (g_onH rfl rfl (e_hit rfl) c1) rfl (o_fieldAddr (e_hit rfl) fd_101_3 fs_101_3 rfl) ?_
   refine gg ?_
   refine d_light0 rfl rfl (g_onH rfl rfl (e_hit rfl) c1) rfl (o_fieldAddr (e_hit rfl) fd_101_0 fs_101_0 rfl) ?_
   refine gg ?_
   refine d_light0 rfl rfl (g_onH rfl rfl (e_hit rfl) c1) rfl (o_indexAddr ((e_hit rfl).trans hv0) (e_hit rfl) el_22 lp0) ?_
   refine d_light1 rfl rfl (g_onH rfl rfl (e_hit rfl) c1) rfl (o_loadRow (e_hit rfl) hr0 tg_9 sz_9 gt0 rfl) ?_
   refine d_callV rfl (g_onH rfl rfl (e_hit rfl) c1) rfl rfl (o_calls (me2 (e_hit rfl) (e_hit rfl))) (has_ok hfl ru _ (by omega) (hA.gs 3 (by decide)) K0.wf) (lk_skip (by kernel_rfl) (lk_skip (by kernel_rfl) (lk_skip (by kernel_rfl) (lk_skip (by kernel_rfl) lk0)))) (fun m2 k3 => ?_)
   have n4 := k3.next
   have K5 := K0.k k3 (fun _ h => h.elim)
   refine ⟨(ck_skip (by kernel_rfl) (ck_skip (by kernel_rfl) (ck_skip (by kernel_rfl) (ck_skip (by kernel_rfl) ck0)))), ?_⟩
   refine gg ?_
   refine d_light0 rfl rfl rfl rfl (o_fieldAddr (e_hit rfl) fd_101_4 fs_101_4 rfl) ?_
   have h6 := hxM m2 rs
   have f7 := fxM m2 rs
   refine d_put0 rfl rfl rfl (o_store (e_hit rfl) (e_hit rfl) h6 f7 sz_4 rfl rfl rfl rfl) lk0 (fun m8 g9 => ?_)
   refine ⟨ck0, ?_⟩
   have n10 := g9.next
   have K11 := K5.w g9 h6 (fun _ h => by cases h) (Or.inr hSr)
   refine gg ?_
   have a12 := hA.up k3 K0.wf
   have a13 := a12.flag (bad' := isIn y.1 ru) K5.wf g9
   have e : clash ru bad y = isIn y.1 ru := by simp [clash, (show bad = false from c1)]
   have hS9 : Seen S B m8 rs ⟨ms, ru, clash ru bad y⟩ := by rw [e]; exact ⟨_, _, a13.congr (by rintro (_|_|_|_|i) hi <;> first | rfl | omega), hSr, hSf⟩
   refine w_inLoop ?_
   refine Wp.gen (fun b' eb => ?_)
   exact ih0 (pre ++ [y]) _ b' (by simp [hsp]) K11.wf (by omega) hS9 (eqb eb (e_base rfl kz4)) (eqb eb ((e_hit rfl).trans (by rw [List.length_append]; rfl))) (fun m' b' h1 h2 h3 => hk m' b' (K11.out.trans h1) h2 h3)
  ·
   refine gg ?_
   refine d_light0 rfl rfl rfl rfl (o_fieldAddr (e_hit rfl) fd_101_4 fs_101_4 rfl) ?_
   refine d_put0 rfl rfl rfl (o_store (e_hit rfl) (e_hit rfl) hrs frs sz_4 rfl rfl rfl rfl) (lk_skip (by kernel_rfl) lk0) (fun m14 g15 => ?_)
   refine ⟨(ck_skip (by kernel_rfl) ck0), ?_⟩
   have n16 := g15.next
   have K17 := K0.w g15 hrs (fun _ h => by cases h) (Or.inr hSr)
   refine gg ?_
   have a18 := hA.flag (bad' := true) K0.wf g15
   have e : clash ru bad y = true := by simp [clash, (show bad = true from c1)]
   have hS9 : Seen S B m14 rs ⟨ms, ru, clash ru bad y⟩ := by rw [e]; exact ⟨_, _, a18.congr (by rintro (_|_|_|_|i) hi <;> first | rfl | omega), hSr, hSf⟩
   refine w_inLoop ?_
   refine Wp.gen (fun b' eb => ?_)
   exact ih0 (pre ++ [y]) _ b' (by simp [hsp]) K17.wf (by omega) hS9 (eqb eb (e_base rfl kz4)) (eqb eb ((e_hit rfl).trans (by rw [List.length_append]; rfl))) (fun m' b' h1 h2 h3 => hk m' b' (K17.out.trans h1) h2 h3)
end
open Go.RowKit (Below)
set_option maxRecDepth 10000
noncomputable section
theorem un_101 : placesT Tryz.prog 101 = some [(0, 1), (1, 1), (2, 1), (3, 1), (4, 1)] := by kernel_rfl
theorem zc_101 : zcells Tryz.prog 101 = some [.lit (.slice none 0 0), .lit (.slice none 0 0), .lit (.slice none 0 0), .lit (.slice none 0 0), .lit (.bool false)] := by kernel_rfl
variable {fl : Fl} (hfl : Tab fl)
include hfl
omit hfl in
theorem foldl_keep {α β γ : Type} (g : α → γ) (F : α → β → α) (h : ∀ s x, g (F s x) = g s) : ∀ (l : List β) (s : α), g (l.foldl F s) = g s
 | [], s => rfl
 | x :: l, s => (foldl_keep g F h l (F s x)).trans (h s x)
omit hfl in
theorem joinsC_ru (i : Int) (s : Sn) (c : ACl) : (joinsC i s c).ru = s.ru := by
 cases c with
 | mk f t jv dv kv joins defs kids => exact foldl_keep Sn.ru _ (fun s x => joinF_ru s _ _ _) joins s
omit hfl in
theorem spotsF_ru : ∀ (i : Nat) (l : List (AVal × List ACl)) (s : Sn), (spotsF i l s).ru = s.ru
 | _, [], s => rfl
 | i, x :: l, s => (spotsF_ru (i + 1) l _).trans (foldl_keep Sn.ru _ (fun s c => joinsC_ru _ s c) x.2 s)
omit hfl in
theorem spotsF_len : ∀ (i : Nat) (l : List (AVal × List ACl)) (s : Sn), (spotsF i l s).ms.length ≤ s.ms.length + (l.map fun x => (x.2.map jc).sum).sum
 | _, [], s => Nat.le_refl _
 | i, x :: l, s => by
  have h1 := spotsF_len (i + 1) l (x.2.foldl (joinsC (Int.ofNat i)) s)
  have h2 := foldC_len (Int.ofNat i) x.2 s
  have e : spotsF i (x :: l) s = spotsF (i + 1) l (x.2.foldl (joinsC (Int.ofNat i)) s) := rfl
  rw [e, List.map_cons, List.sum_cons]; omega
omit hfl in
theorem nameF_ms : ∀ (n : Nat) (ds : List ACl) (s : Sn), (nameF n ds s).ms = s.ms
 | 0, _, _ => rfl
 | n + 1, ds, s => by
  refine foldl_keep Sn.ms (nameC n) (fun s c => ?_) ds s
  cases c with
  | mk f t jv dv kv js defs kids =>
   show (bif f == 2 then nameF n defs ⟨s.ms, s.ru ++ [t], s.bad || isIn t s.ru⟩ else s).ms = s.ms
   cases f == 2 with
   | true => exact nameF_ms n defs _
   | false => rfl
omit hfl in
theorem spP_ok {m : Mem} : ∀ (n : Nat) (ds : List ACl), (∀ c, c ∈ ds → ACl.OK m c) → ∀ x, x ∈ spP n ds → SlA m x.1 5 (x.2.map ACl.cells) ∧ ∀ c, c ∈ x.2 → ACl.OK m c
 | 0, _, _, x, hx => by cases hx
 | n + 1, ds, h, x, hx => by
  have hx' : x ∈ (ds.map (spC n)).flatten := hx
  rw [List.mem_flatten] at hx'
  obtain ⟨l, hl, hxl⟩ := hx'
  obtain ⟨c, hc, rfl⟩ := List.mem_map.1 hl
  have hco := h c hc
  cases c with
  | mk f t jv dv kv js defs kids =>
   cases hco with
   | mk h1 h2 h3 h4 h5 h6 =>
    have e2 : spC n (.mk f t jv dv kv js defs kids) = bif f == 2 then (dv, defs) :: spP n defs else [] := rfl
    rw [e2] at hxl
    cases hf : f == 2 with
    | false => rw [hf] at hxl; cases hxl
    | true =>
     rw [hf, cond_true] at hxl
     rcases List.mem_cons.1 hxl with rfl | hxl
     ·exact ⟨h2, h5⟩
     ·exact spP_ok n defs h5 x hxl
omit hfl in
def seenF (n : Nat) (dv : AVal) (ds : List ACl) : Sn := spotsF 0 ((dv, ds) :: spP n ds) (nameF n ds ⟨[], [], false⟩)
omit hfl in
def clashB (n : Nat) (dv : AVal) (ds : List ACl) : Bool := (seenF n dv ds).ms.foldl (clash (seenF n dv ds).ru) (seenF n dv ds).bad
omit hfl in
theorem nil_cells : ∀ i, Sn.cells ⟨[], [], false⟩ i = []
 | 0 => rfl
 | 1 => rfl
 | 2 => rfl
 | _ + 3 => rfl
omit hfl in
theorem gs_fB {et : TypeId} {B f : Nat} {m : Mem} {v : AVal} {cells : List AVal} (h : Gs et B m v f cells) (hne : cells ≠ []) : B ≤ f := by
 rcases h with ⟨h, _⟩ | ⟨r, h1, h0, h2, h3, h4, _⟩
 ·exact absurd h hne
 ·exact h3
omit hfl in
theorem seen_nil {S : Nat → Prop} {B r : Nat} {m : Mem} (hc : Cel m r [.lit (.slice none 0 0), .lit (.slice none 0 0), .lit (.slice none 0 0), .lit (.slice none 0 0), .lit (.bool false)]) (hS : S r) : Seen S B m r ⟨[], [], false⟩ :=
 ⟨fun _ => .lit (.slice none 0 0), fun _ => 0, ⟨hc, fun i _ => by rw [nil_cells]; exact Gs.nil, fun i _ _ _ _ => .inl (nil_cells i), fun i _ => .inl (nil_cells i)⟩, hS, fun i _ h => absurd (nil_cells i) h⟩
theorem rlook_ok {m : Mem} {n : Nat} (ds : List ACl) {dv : AVal} (hsz : SizeOf.sizeOf ds < n) (hb9 : (spP n ds).length < 999) (hj9 : (((dv, ds) :: spP n ds).map fun x => (x.2.map jc).sum).sum < 9999) (hsl : SlA m dv 5 (ds.map ACl.cells)) (hok : ∀ c, c ∈ ds → ACl.OK m c) (hw : Wf m) : CallQ Tryz.prog fl 68 [dv] m (fun q => ∃ v u m', q = .ret (.tuple [v, .lit (.bool (!(clashB n dv ds)))]) u m' ∧ Kept noS m m') := by
 refine hfl.start (by decide) 95 Tryz.func68 rfl rfl (Nat.le_of_ble_eq_true rfl) ?_
 intro bs hb
 have ar0 := hb 0 _ rfl
 clear hb
 have K0 : Kept (fun q => m.next ≤ q ∨ (noS) q) m m := Kept.refl hw
 refine gg ?_
 refine s_val rfl rfl rfl rfl (o_build ev0 zc_101 un_101 rfl) ?_
 refine s_new rfl rfl rfl rfl (o_box (e_hit rfl) rfl) (fun m1 g2 => ?_)
 have n3 := g2.next
 have K4 := K0.g g2
 refine gg ?_
 have hcall := name_ok hfl (C := m.next) (S := fun q => m.next ≤ q) (fun q h => h) (Nat.le_refl _) n ds dv ⟨[], [], false⟩ hsz (seen_nil (Cel.of g2.same (g2.fam0 K0.wf)) (Nat.le_refl _)) K4.wf (by omega) (by show 0 + _ < _; omega) (hsl.kept K4) (fun c hc => (hok c hc).kept K4)
 refine s_call rfl rfl rfl rfl (o_calls (me2 (e_hit rfl) (e_hit rfl))) hcall ?_ (by rintro c u m' ⟨_, _, _, h, _⟩; cases h)
 rintro vq u mq ⟨_, _, _, hret, hSq, kq⟩
 cases hret
 have nq := kq.next
 have K1 := K4.out.then kq (fun q h1 h2 => by have : m.next ≤ q := h2; omega)
 refine gg ?_
 have hcall := spots1_ok hfl ds hsz (by omega) (hsl.kept K1) (fun c hc => (hok c hc).kept K1) K1.wf
 refine s_call rfl rfl rfl rfl (o_calls (me1 (e_hit rfl))) hcall ?_ (by rintro c u m' ⟨_, _, _, _, h, _⟩; cases h)
 rintro v5 u m5 ⟨_, _, _, _, hret, hg5, k5⟩
 cases hret
 have n5 := k5.next
 have K2 := K1.then k5 (fun q _ h => h)
 obtain ⟨v, f, hA, hSr, hSf⟩ := hSq
 have hA2 := hA.up k5 K1.wf
 obtain ⟨r5, w5, ex5, fx5, hv5, hr5, hB5⟩ := hg5.row (by simp)
 have lr5 := K2.wf.lt hr5
 have hms : (nameF n ds ⟨[], [], false⟩).ms = [] := nameF_ms n ds _
 obtain ⟨σ, hσ⟩ : ∃ σ, σ = nameF n ds ⟨[], [], false⟩ := ⟨_, rfl⟩
 have hrl : σ.ru.length < 999 := by rw [hσ, nameF_len]; show 0 + _ < _; omega
 rw [← hσ] at hA hA2 hSf hms
 have hf3 : σ.ru ≠ [] → m.next ≤ f 3 ∧ f 3 < mq.next := fun h => by
  have h0 : σ.cells 3 ≠ [] := fun e => h (List.map_eq_nil_iff.1 e)
  exact ⟨gs_fB (hA.gs 3 (by decide)) h0, (hA.gs 3 (by decide)).flt h0⟩
 have hC2 : ∀ q, m5.next ≤ q → (fun q => q = m.next ∨ (σ.ru ≠ [] ∧ q = f 3) ∨ m5.next ≤ q) q := fun q h => .inr (.inr h)
 have h5 : ¬ (fun q => q = m.next ∨ (σ.ru ≠ [] ∧ q = f 3) ∨ m5.next ≤ q) r5 := by
  rintro (h | ⟨h, h'⟩ | h)
  ·omega
  ·have := hf3 h; omega
  ·omega
 have hS2 : Seen (fun q => q = m.next ∨ (σ.ru ≠ [] ∧ q = f 3) ∨ m5.next ≤ q) m.next m5 m.next σ := ⟨v, f, hA2, .inl rfl, by
  rintro (_|_|_|_|i) hi h
  ·exact absurd (by show σ.ms.map _ = []; rw [hms]; rfl) h
  ·exact absurd (by show σ.ms.map _ = []; rw [hms]; rfl) h
  ·exact absurd (by show σ.ms.map _ = []; rw [hms]; rfl) h
  ·exact .inr (.inl ⟨fun e => h (by show strs σ.ru = []; rw [e]; rfl), rfl⟩)
  ·omega⟩
 have hLk : Lk r5 fx5 ((dv, ds) :: spP n ds) m5 := ⟨hr5, fun x hx => by
  rcases List.mem_cons.1 hx with rfl | hx
  ·exact hsl.kept K2
  ·exact (spP_ok n ds hok x hx).1.kept K2, fun x hx c hc => by
  rcases List.mem_cons.1 hx with rfl | hx
  ·exact (hok c hc).kept K2
  ·exact ((spP_ok n ds hok x hx).2 c hc).kept K2⟩
 have hLl : ((dv, ds) :: spP n ds).length < 2 ^ 60 := by rw [List.length_cons]; omega
 have hml : σ.ms.length = 0 := by rw [hms]; rfl
 refine gg ?_
 refine w_loop ?_
 refine Wp.gen (fun b0 eb => ?_)
 refine lk_A hfl hC2 (by omega) h5 ((dv, ds) :: spP n ds) hv5 hLl _ ((dv, ds) :: spP n ds) [] σ b0 (by rfl) K2.wf (Nat.le_refl _) hS2 hLk (by omega) (eqb eb (e_hit rfl)) (eqb eb (e_hit rfl)) (eqb eb (e_hit rfl)) ?_
 intro mA bA kA hSA z4 z5
 change Wp Tryz.prog fl (At _ _ (sets 95 bA []) _ _ _ _) _
 have nA := kA.next
 have hS2m : ∀ q, q < m.next → (fun q => q = m.next ∨ (σ.ru ≠ [] ∧ q = f 3) ∨ m5.next ≤ q) q → noS q := by
  rintro q h1 (h | ⟨h, h'⟩ | h)
  ·omega
  ·have := hf3 h; omega
  ·omega
 have K3 := K2.then kA hS2m
 have hru : (spotsF 0 ((dv, ds) :: spP n ds) σ).ru = σ.ru := spotsF_ru _ _ _
 have hmm := spotsF_len 0 ((dv, ds) :: spP n ds) σ
 refine gg ?_
 refine w_loop ?_
 refine Wp.gen (fun b0 eb => ?_)
 obtain ⟨τ, hτ⟩ : ∃ τ, τ = spotsF 0 ((dv, ds) :: spP n ds) σ := ⟨_, rfl⟩
 rw [← hτ] at hru hmm
 have hSB : Seen (fun q => q = m.next ∨ (σ.ru ≠ [] ∧ q = f 3) ∨ m5.next ≤ q) m.next mA m.next ⟨τ.ms, τ.ru, τ.bad⟩ := by rw [hτ]; exact hSA
 refine lk_D hfl hC2 (by omega) (ms := τ.ms) (ru := τ.ru) (by rw [hru]; omega) (by omega) _ τ.ms [] τ.bad b0 (by rfl) K3.wf (by omega) hSB (eqb eb (e_base rfl z4)) (eqb eb (e_hit rfl)) ?_
 intro mD bD kD hSD z4
 change Wp Tryz.prog fl (At _ _ (sets 95 bD []) _ _ _ _) _
 have K4 := K3.then kD (fun q h1 h2 => hS2m q h1 h2)
 obtain ⟨v9, f9, hA9, _, _⟩ := hSD
 obtain ⟨⟨es, hrs⟩, frs⟩ := hA9.cel
 refine gg ?_
 refine w_draw (.L 0 0 0 (.L 1 0 0 (.L 2 2 0 (.L 3 6 0 (.L 4 14 1 (.L 5 30 0 (.L 6 1 0 (.L 7 127 0 .fin)))))))) rfl (by kernel_rfl) ?_
 refine gg ?_
 refine d_light0 rfl rfl rfl rfl (o_fieldAddr (e_hit rfl) fd_101_4 fs_101_4 rfl) ?_
 refine gg ?_
 refine w_retAt rfl ?_
 refine w_results Tryz.func68 (rv2 (e_hit rfl) (e_hit rfl)) ?_
 have e : clashB n dv ds = τ.ms.foldl (clash τ.ru) τ.bad := by rw [hτ, hσ]; rfl
 rw [e]; exact ⟨_, _, _, rfl, K4⟩
end
open Go.RowKit (Below)
set_option maxRecDepth 10000
noncomputable section
variable {fl : Fl} (hfl : Tab fl)
include hfl
omit hfl in
def dfB : Nat → Part → Bool
 | 0, _ => true
 | _ + 1, .ex _ => true
 | n + 1, .cl (.mk _ _ _ _ _ _ defs kids) => (defs.all fun c => dfB n (.cl c)) && (match kids with | k :: _ => dfB n (.tm k) | [] => true)
 | n + 1, .tm (.mk op _ _ dv _ _ defs kids) => (bif op == 4 then (!(clashB n dv defs)) && (defs.all fun c => dfB n (.cl c)) else true) && (kids.all fun k => dfB n (.tm k))
omit hfl in
abbrev Fm (n : Nat) (p : Part) : Prop := (refN n p).2.2 = true
omit hfl in
theorem fold_ok : ∀ (l : List R3) (s : R3), (l.foldl joinR s).2.2 = true → s.2.2 = true ∧ ∀ r, r ∈ l → r.2.2 = true
 | [], s, h => ⟨h, fun r hr => by cases hr⟩
 | a :: l, s, h => by
  obtain ⟨h1, h2⟩ := fold_ok l (joinR s a) h
  have h3 : (s.2.2 && a.2.2) = true := h1
  rw [Bool.and_eq_true] at h3
  refine ⟨h3.1, fun r hr => ?_⟩
  rcases List.mem_cons.1 hr with rfl | hr
  ·exact h3.2
  ·exact h2 r hr
omit hfl in
theorem Fm.subs {n : Nat} {p : Part} (h : Fm (n + 1) p) : hdB p = true ∧ ∀ q, q ∈ p.subs → Fm n q := by
 have e : refN (n + 1) p = bif hdB p then (let r := (p.subs.map (refN n)).foldl joinR (1, 0, true); (r.1, r.2.1 + 1, r.2.2)) else (1, 1, false) := rfl
 unfold Fm at h
 rw [e] at h
 cases hb : hdB p with
 | false => rw [hb] at h; cases h
 | true =>
  rw [hb] at h
  have h' : ((p.subs.map (refN n)).foldl joinR (1, 0, true)).2.2 = true := h
  exact ⟨rfl, fun q hq => (fold_ok _ _ h').2 _ (List.mem_map_of_mem hq)⟩
omit hfl in
theorem sum_mem {l : List Nat} {x : Nat} (h : x ∈ l) : x ≤ l.sum := by
 induction l with
 | nil => cases h
 | cons a l ih =>
  rw [List.sum_cons]
  rcases List.mem_cons.1 h with rfl | h
  ·omega
  ·have := ih h; omega
omit hfl in
theorem ndN_sub {n : Nat} {p q : Part} (h : q ∈ p.subs) : ndN n q < ndN (n + 1) p := by
 have e : ndN (n + 1) p = 1 + (p.subs.map (ndN n)).sum := rfl
 have := sum_mem (List.mem_map_of_mem (f := ndN n) h)
 omega
omit hfl in
theorem ndN_defs {n : Nat} {f : Int} {s : ByteArray} {jv dv kv : AVal} {joins : List AMs} {defs : List ACl} {kids : List ATm} : 1 + (defs.map fun c => ndN n (.cl c)).sum ≤ ndN (n + 1) (.cl (.mk f s jv dv kv joins defs kids)) := by
 show _ ≤ 1 + ((Part.subs (.cl (.mk f s jv dv kv joins defs kids))).map (ndN n)).sum
 simp only [Part.subs, List.map_append, List.sum_append, List.map_map, Function.comp_def]; omega
omit hfl in
theorem spP_len : ∀ (n : Nat) (ds : List ACl), (spP n ds).length ≤ (ds.map fun c => ndN n (.cl c)).sum
 | 0, ds => Nat.zero_le _
 | n + 1, ds => by
  have e : spP (n + 1) ds = (ds.map (spC n)).flatten := rfl
  rw [e]
  clear e
  induction ds with
  | nil => exact Nat.zero_le _
  | cons c ds ih =>
   rw [List.map_cons, List.flatten_cons, List.length_append, List.map_cons, List.sum_cons]
   have : (spC n c).length ≤ ndN (n + 1) (.cl c) := by
    cases c with
    | mk f t jv dv kv js defs kids =>
     have h1 := spP_len n defs
     have h2 := ndN_defs (n := n) (f := f) (s := t) (jv := jv) (dv := dv) (kv := kv) (joins := js) (defs := defs) (kids := kids)
     have e2 : spC n (.mk f t jv dv kv js defs kids) = bif f == 2 then (dv, defs) :: spP n defs else [] := rfl
     rw [e2]
     cases f == 2 with
     | true => rw [cond_true, List.length_cons]; omega
     | false => rw [cond_false]; exact Nat.zero_le _
   omega
omit hfl in
theorem jc_le {n : Nat} {c : ACl} (h : Fm (n + 1) (.cl c)) : jc c ≤ 3 := by
 have hb := h.subs.1
 cases c with
 | mk f s jv dv kv js defs kids =>
  have hb' : clHead f s js (Int.ofNat defs.length) (Int.ofNat kids.length) = true := hb
  show js.length ≤ 3
  simp only [clHead, Bool.and_eq_true, Bool.or_eq_true] at hb'
  obtain ⟨⟨_, h1⟩, h2⟩ := hb'
  rcases h2 with h2 | h2
  ·rcases h1 with h1 | h1
   ·rw [h2] at h1; cases h1
   ·have h3 := h1.2
    unfold rjoinsB at h3
    rw [Bool.and_eq_true] at h3
    have h4 := h3.1
    simp only [Bool.not_eq_true', Bool.or_eq_false_iff, decide_eq_false_iff_not] at h4
    have h5 : ¬ ((js.length : Int) > 3) := h4.2
    omega
  ·have h3 := of_decide_eq_true h2
   have h4 : (js.length : Int) = 0 := h3
   omega
omit hfl in
theorem jc_sum : ∀ (n : Nat) (dv : AVal) (ds : List ACl), (∀ c, c ∈ ds → Fm n (.cl c)) → (((dv, ds) :: spP n ds).map fun x => (x.2.map jc).sum).sum ≤ 3 * (ds.map fun c => ndN n (.cl c)).sum
 | 0, dv, ds, h => by
  cases ds with
  | nil => exact Nat.le_refl _
  | cons c ds => have h1 : false = true := h c (by simp); cases h1
 | n + 1, dv, ds, h => by
  have e : spP (n + 1) ds = (ds.map (spC n)).flatten := rfl
  rw [e, List.map_cons, List.sum_cons]
  show (ds.map jc).sum + _ ≤ _
  clear e
  induction ds with
  | nil => exact Nat.le_refl _
  | cons c ds ih =>
   have ih' := ih (fun c hc => h c (by simp [hc]))
   rw [List.map_cons, List.map_cons, List.flatten_cons, List.map_append, List.sum_append, List.map_cons, List.sum_cons, List.sum_cons]
   have hc := h c (by simp)
   have h1 := jc_le hc
   have : jc c + ((spC n c).map fun x => (x.2.map jc).sum).sum ≤ 3 * ndN (n + 1) (.cl c) := by
    have hs := hc.subs.2
    cases c with
    | mk f t jv dv2 kv js defs kids =>
     have h2 := jc_sum n dv2 defs (fun c hc => hs _ (by simp [Part.subs, hc]))
     have h3 := ndN_defs (n := n) (f := f) (s := t) (jv := jv) (dv := dv2) (kv := kv) (joins := js) (defs := defs) (kids := kids)
     have e2 : spC n (.mk f t jv dv2 kv js defs kids) = bif f == 2 then (dv2, defs) :: spP n defs else [] := rfl
     rw [e2]
     cases f == 2 with
     | true => rw [cond_true]; omega
     | false => rw [cond_false]; show _ + 0 ≤ _; omega
   omega
theorem wi_loop {n : Nat} {dv : AVal} (ihd : ∀ (t : ATm) {m : Mem}, SizeOf.sizeOf (Part.tm t) < n → Fm n (.tm t) → ndN n (.tm t) ≤ 900 → ATm.OK m t → Wf m → CallQ Tryz.prog fl 60 [.agg (ATm.cells t)] m (Rets noS m (.lit (.bool (dfB n (.tm t)))))) (ihw : ∀ (ds : List ACl) {dv : AVal} {m : Mem}, 0 < n → (∀ c, c ∈ ds → SizeOf.sizeOf (Part.cl c) < n) → (∀ c, c ∈ ds → Fm n (.cl c)) → (∀ c, c ∈ ds → ndN n (.cl c) ≤ 900) → SlA m dv 5 (ds.map ACl.cells) → (∀ c, c ∈ ds → ACl.OK m c) → Wf m → CallQ Tryz.prog fl 101 [dv] m (Rets noS m (.lit (.bool (ds.all fun c => dfB n (.cl c)))))) (els : List ACl) (hsz : ∀ c, c ∈ els → SizeOf.sizeOf (Part.cl c) < n + 1) (hfm : ∀ c, c ∈ els → Fm (n + 1) (.cl c)) (hnd : ∀ c, c ∈ els → ndN (n + 1) (.cl c) ≤ 900) (k : List AItem) {Q : RR → Prop} : ∀ (rest pre : List ACl) {m : Mem} (b : T AVal), els = pre ++ rest → Wf m → SlA m dv 5 (els.map ACl.cells) → (∀ c, c ∈ els → ACl.OK m c) → getT b 0 = dv → getT b 3 = goI pre.length →
  ((rest.all fun c => dfB (n + 1) (.cl c)) = true → ∀ (m' : Mem) (b' : T AVal), Kept noS m m' → Wp Tryz.prog fl (At ⟨101, 28, false, none⟩ k b' [] .run [] m') Q) → ((rest.all fun c => dfB (n + 1) (.cl c)) = false → ∀ (m' : Mem) (b' : T AVal), Kept noS m m' → getT b' 2 = .lit (.bool false) → Wp Tryz.prog fl (At ⟨101, 28, false, none⟩ [] b' [] .returning [] m') Q) → Wp Tryz.prog fl (At ⟨101, 28, false, none⟩ (.code (cAt [true, false, true, false, false] (bodyF Tryz.f101)) :: .inLoop (cAt [true, false, true, false, false] (bodyF Tryz.f101)) :: .inBlock 0 :: k) (sets 28 b []) [] .run [] m) Q := by
 have _ := hfl
 intro rest
 induction rest with
 | nil =>
  intro pre m b hsp hw hsl hok kz0 kz3 hk ht
  have hlt : decide (Int.ofNat pre.length < Int.ofNat (els.map ACl.cells).length) = false := by rw [List.length_map, dlt]; simp [hsp]
  refine gg ?_
  exact hk rfl _ _ (Kept.refl hw)
 | cons y rest ih0 =>
  intro pre m b hsp hw hsl hok kz0 kz3 hk ht
  have K0 : Kept (fun q => m.next ≤ q ∨ noS q) m m := Kept.refl hw
  have hlt : decide (Int.ofNat pre.length < Int.ofNat (els.map ACl.cells).length) = true := by rw [List.length_map, dlt]; simp [hsp]
  have hln : pre.length + 1 < 2 ^ 62 := by have := hsl.lt; simp [hsp] at this; omega
  have hsl0 := hsl
  have hym : y ∈ els := by simp [hsp]
  have hyo := hok y hym
  have hys := hsz y hym
  have hyf := (hfm y hym).subs
  have hyn := hnd y hym
  have hnsub := fun q (hq : q ∈ (Part.cl y).subs) => ndN_sub (n := n) hq
  have hssub := fun q (hq : q ∈ (Part.cl y).subs) => subs_size hq
  cases y with
  | mk fm s jv dv2 kv joins defs kids =>
  cases hyo with
  | mk hq1 hq2 hq3 hq4 hq5 hq6 =>
  have hk1 : kids.length = 1 := clHead_one (show clHead fm s joins (Int.ofNat defs.length) (Int.ofNat kids.length) = true from hyf.1)
  obtain ⟨k0, rfl⟩ : ∃ k0, kids = [k0] := List.length_eq_one_iff.mp hk1
  have hk0 : Part.tm k0 ∈ (Part.cl (.mk fm s jv dv2 kv joins defs [k0])).subs := by simp [Part.subs]
  have hd0 : ∀ c, c ∈ defs → Part.cl c ∈ (Part.cl (.mk fm s jv dv2 kv joins defs [k0])).subs := fun c hc => by simp [Part.subs, hc]
  obtain ⟨r, off, cc, ex, row, hv, hlx, hr, htk⟩ := hsl.at (i := pre.length) (e := ACl.cells (.mk fm s jv dv2 kv joins defs [k0])) (by simp [hsp])
  subst hv
  have ltr := hw.lt hr
  obtain ⟨rk, offk, cck, exk, rowk, hvk, hlxk, hrk, htkk⟩ := hq3.at (i := 0) (e := ATm.cells k0) (by simp)
  have ltk := hw.lt hrk
  have hdf : dfB (n + 1) (.cl (.mk fm s jv dv2 kv joins defs [k0])) = ((defs.all fun c => dfB n (.cl c)) && dfB n (.tm k0)) := rfl
  refine gg ?_
  refine s_val rfl rfl rfl rfl (o_indexAddr (e_hit rfl) (e_hit rfl) el_30 (by simpa using hlx)) ?_
  refine gg ?_
  refine s_val rfl rfl rfl rfl (o_loadRoJ (e_hit rfl) hr tg_30 sz_30 htk rfl) ?_
  refine s_callV rfl rfl rfl rfl (o_calls (me1 (e_hit rfl))) (ihw defs (by have := hssub _ hk0; omega) (fun c hc => by have := hssub _ (hd0 c hc); omega) (fun c hc => hyf.2 _ (hd0 c hc)) (fun c hc => by have := hnsub _ (hd0 c hc); omega) (hq2.kept K0) (fun c hc => (hq5 c hc).kept K0) K0.wf) (fun m1 k2 => ?_)
  have K4 := K0.k k2 (fun _ h => h.elim)
  refine gg ?_
  refine s_guardS rfl rfl (e_hit rfl) (fun c5 => ?_) (fun c5 => ?_)
  ·
   refine gg ?_
   refine s_val rfl (g_onH rfl rfl (e_hit rfl) c5) rfl rfl (o_indexAddr (e_hit rfl) (e_hit rfl) el_30 (by simpa using hlx)) ?_
   refine gg ?_
   have h6 := hxM m1 r
   refine s_val rfl (g_onH rfl rfl (e_hit rfl) c5) rfl rfl (o_loadRoJ (e_hit rfl) h6 tg_31 sz_31 htk rfl) ?_
   refine s_val rfl (g_onH rfl rfl (e_hit rfl) c5) rfl rfl (o_indexAddr ((e_hit rfl).trans hvk) rfl el_31 (by simp)) ?_
   have h7 := hxM m1 rk
   refine s_val rfl (g_onH rfl rfl (e_hit rfl) c5) rfl rfl (o_loadRoA (e_hit rfl) h7 tg_33 sz_33 htkk) ?_
   refine s_callV rfl (g_onH rfl rfl (e_hit rfl) c5) rfl rfl (o_calls (me1 (e_hit rfl))) (ihd k0 (by have := hssub _ hk0; omega) (hyf.2 _ hk0) (by have := hnsub _ hk0; omega) ((hq6 k0 (by simp)).kept K4) K4.wf) (fun m8 k9 => ?_)
   have K11 := K4.k k9 (fun _ h => h.elim)
   refine gg ?_
   refine w_cond (e_hit rfl) (fun c12 => ?_) (fun c12 => ?_)
   ·
    refine gg ?_
    refine w_retAt rfl ?_
    have e : (((ACl.mk fm s jv dv2 kv joins defs [k0]) :: rest).all fun c => dfB (n + 1) (.cl c)) = false := by show (dfB (n + 1) (.cl (.mk fm s jv dv2 kv joins defs [k0])) && (rest.all fun c => dfB (n + 1) (.cl c))) = _; rw [hdf]; revert c5 c12; cases (defs.all fun c => dfB n (.cl c)) <;> cases dfB n (.tm k0) <;> simp
    exact ht e _ _ K11.out (e_hit rfl)
   ·
    refine gg ?_
    have e : (((ACl.mk fm s jv dv2 kv joins defs [k0]) :: rest).all fun c => dfB (n + 1) (.cl c)) = (rest.all fun c => dfB (n + 1) (.cl c)) := by show (dfB (n + 1) (.cl (.mk fm s jv dv2 kv joins defs [k0])) && (rest.all fun c => dfB (n + 1) (.cl c))) = _; rw [hdf]; revert c5 c12; cases (defs.all fun c => dfB n (.cl c)) <;> cases dfB n (.tm k0) <;> simp
    refine w_inLoop ?_
    refine Wp.gen (fun b' eb => ?_)
    exact ih0 (pre ++ [_]) b' (by rw [hsp, List.append_assoc]; rfl) K11.wf (hsl0.kept K11) (fun c hc => (hok c hc).kept K11) (eqb eb (e_base rfl kz0)) (eqb eb ((e_hit rfl).trans (by rw [List.length_append]; rfl))) (fun h m' b' h1 => hk (e.trans h) m' b' (K11.out.trans h1)) (fun h m' b' h1 h2 => ht (e.trans h) m' b' (K11.out.trans h1) h2)
  ·
   refine gg ?_
   refine w_retAt rfl ?_
   have e : (((ACl.mk fm s jv dv2 kv joins defs [k0]) :: rest).all fun c => dfB (n + 1) (.cl c)) = false := by show (dfB (n + 1) (.cl (.mk fm s jv dv2 kv joins defs [k0])) && (rest.all fun c => dfB (n + 1) (.cl c))) = _; rw [hdf]; revert c5; cases (defs.all fun c => dfB n (.cl c)) <;> cases dfB n (.tm k0) <;> simp
   exact ht e _ _ K4.out (e_hit rfl)
end
open Go.RowKit (Below)
set_option maxRecDepth 10000
noncomputable section
variable {fl : Fl} (hfl : Tab fl)
include hfl
theorem withinS {n : Nat} (ihd : ∀ (t : ATm) {m : Mem}, SizeOf.sizeOf (Part.tm t) < n → Fm n (.tm t) → ndN n (.tm t) ≤ 900 → ATm.OK m t → Wf m → CallQ Tryz.prog fl 60 [.agg (ATm.cells t)] m (Rets noS m (.lit (.bool (dfB n (.tm t)))))) (ihw : ∀ (ds : List ACl) {dv : AVal} {m : Mem}, 0 < n → (∀ c, c ∈ ds → SizeOf.sizeOf (Part.cl c) < n) → (∀ c, c ∈ ds → Fm n (.cl c)) → (∀ c, c ∈ ds → ndN n (.cl c) ≤ 900) → SlA m dv 5 (ds.map ACl.cells) → (∀ c, c ∈ ds → ACl.OK m c) → Wf m → CallQ Tryz.prog fl 101 [dv] m (Rets noS m (.lit (.bool (ds.all fun c => dfB n (.cl c)))))) (ds : List ACl) {dv : AVal} {m : Mem} (hsz : ∀ c, c ∈ ds → SizeOf.sizeOf (Part.cl c) < n + 1) (hfm : ∀ c, c ∈ ds → Fm (n + 1) (.cl c)) (hnd : ∀ c, c ∈ ds → ndN (n + 1) (.cl c) ≤ 900) (hsl : SlA m dv 5 (ds.map ACl.cells)) (hok : ∀ c, c ∈ ds → ACl.OK m c) (hw : Wf m) : CallQ Tryz.prog fl 101 [dv] m (Rets noS m (.lit (.bool (ds.all fun c => dfB (n + 1) (.cl c))))) := by
 refine hfl.start (by decide) 28 Tryz.func101 rfl rfl (Nat.le_of_ble_eq_true rfl) ?_
 intro bs hb
 have ar0 := hb 0 _ rfl
 clear hb
 have K0 : Kept (fun q => m.next ≤ q ∨ (noS) q) m m := Kept.refl hw
 refine gg ?_
 refine w_loop ?_
 refine Wp.gen (fun b0 eb => ?_)
 refine wi_loop hfl ihd ihw ds hsz hfm hnd _ ds [] b0 (by rfl) K0.wf hsl hok (eqb eb (e_base rfl ar0)) (eqb eb (e_hit rfl)) ?_ ?_
 ·
  intro hf mq bq kq
  change Wp Tryz.prog fl (At _ _ (sets 28 bq []) _ _ _ _) _
  refine gg ?_
  refine w_retAt rfl ?_
  refine w_results Tryz.func101 (rv1 (e_hit rfl)) ?_
  rw [hf]; exact ⟨_, _, rfl, kq⟩
 ·
  intro hf mq bq kq z2
  refine w_results Tryz.func101 (rv1 z2) ?_
  rw [hf]; exact ⟨_, _, rfl, kq⟩
theorem df_loop {r1 n : Nat} {z0 z1 z2 z3 kv : AVal} (hcz : allCells [z0, z1, z2, z3, kv] = true) (ihd : ∀ (t : ATm) {m : Mem}, SizeOf.sizeOf (Part.tm t) < n → Fm n (.tm t) → ndN n (.tm t) ≤ 900 → ATm.OK m t → Wf m → CallQ Tryz.prog fl 60 [.agg (ATm.cells t)] m (Rets noS m (.lit (.bool (dfB n (.tm t)))))) (els : List ATm) (hsz : ∀ c, c ∈ els → SizeOf.sizeOf (Part.tm c) < n) (hfm : ∀ c, c ∈ els → Fm n (.tm c)) (hnd : ∀ c, c ∈ els → ndN n (.tm c) ≤ 900) (k : List AItem) {Q : RR → Prop} : ∀ (rest pre : List ATm) {m : Mem} (b : T AVal), els = pre ++ rest → Wf m → Cel m r1 [z0, z1, z2, z3, kv] → SlA m kv 5 (els.map ATm.cells) → (∀ c, c ∈ els → ATm.OK m c) → getT b 1 = .ptr r1 0 → getT b 5 = goI pre.length →
  ((rest.all fun k => dfB n (.tm k)) = true → ∀ (m' : Mem) (b' : T AVal), Kept noS m m' → Wp Tryz.prog fl (At ⟨60, 37, false, none⟩ k b' [] .run [] m') Q) → ((rest.all fun k => dfB n (.tm k)) = false → ∀ (m' : Mem) (b' : T AVal), Kept noS m m' → getT b' 2 = .lit (.bool false) → Wp Tryz.prog fl (At ⟨60, 37, false, none⟩ [] b' [] .returning [] m') Q) → Wp Tryz.prog fl (At ⟨60, 37, false, none⟩ (.code (cAt [true, true, false, true, false, false] (bodyF Tryz.f60)) :: .inLoop (cAt [true, true, false, true, false, false] (bodyF Tryz.f60)) :: .inBlock 0 :: k) (sets 37 b []) [] .run [] m) Q := by
 have _ := hfl
 intro rest
 induction rest with
 | nil =>
  intro pre m b hsp hw hc hsl hok kz1 kz5 hk ht
  obtain ⟨⟨e1, hr1⟩, fr1⟩ := hc
  have ckv := hsl.cell
  have hlt : decide (Int.ofNat pre.length < Int.ofNat (els.map ATm.cells).length) = false := by rw [List.length_map, dlt]; simp [hsp]
  refine gg ?_
  exact hk rfl _ _ (Kept.refl hw)
 | cons y rest ih0 =>
  intro pre m b hsp hw hc hsl hok kz1 kz5 hk ht
  have K0 : Kept (fun q => m.next ≤ q ∨ noS q) m m := Kept.refl hw
  have hc1 := hc
  have lt1 := hc.lt hw
  obtain ⟨⟨e1, hr1⟩, fr1⟩ := hc
  have ckv := hsl.cell
  have hlt : decide (Int.ofNat pre.length < Int.ofNat (els.map ATm.cells).length) = true := by rw [List.length_map, dlt]; simp [hsp]
  have hln : pre.length + 1 < 2 ^ 62 := by have := hsl.lt; simp [hsp] at this; omega
  have hsl0 := hsl
  have hym : y ∈ els := by simp [hsp]
  obtain ⟨r, off, cc, ex, row, hv, hlx, hr, htk⟩ := hsl.at (i := pre.length) (e := ATm.cells y) (by simp [hsp])
  subst hv
  refine gg ?_
  refine s_val rfl rfl rfl rfl (o_indexAddr (e_hit rfl) (e_hit rfl) el_31 (by simpa using hlx)) ?_
  refine s_val rfl rfl rfl rfl (o_loadRoA (e_hit rfl) hr tg_33 sz_33 htk) ?_
  refine s_callV rfl rfl rfl rfl (o_calls (me1 (e_hit rfl))) (ihd y (hsz y hym) (hfm y hym) (hnd y hym) ((hok y hym).kept K0) K0.wf) (fun m1 k2 => ?_)
  have K4 := K0.k k2 (fun _ h => h.elim)
  refine gg ?_
  refine w_cond (e_hit rfl) (fun c5 => ?_) (fun c5 => ?_)
  ·
   refine gg ?_
   refine w_retAt rfl ?_
   have e : ((y :: rest).all fun k => dfB n (.tm k)) = false := by show (dfB n (.tm y) && (rest.all fun k => dfB n (.tm k))) = _; revert c5; cases dfB n (.tm y) <;> simp
   exact ht e _ _ K4.out (e_hit rfl)
  ·
   refine gg ?_
   have e : ((y :: rest).all fun k => dfB n (.tm k)) = (rest.all fun k => dfB n (.tm k)) := by show (dfB n (.tm y) && (rest.all fun k => dfB n (.tm k))) = _; revert c5; cases dfB n (.tm y) <;> simp
   have h6 := hxM m1 r1
   have f7 := fxM m1 r1
   refine w_inLoop ?_
   refine Wp.gen (fun b' eb => ?_)
   exact ih0 (pre ++ [y]) b' (by simp [hsp]) K4.wf (Cel.of h6 f7) (hsl0.kept K4) (fun c hc => (hok c hc).kept K4) (eqb eb (e_base rfl kz1)) (eqb eb ((e_hit rfl).trans (by rw [List.length_append]; rfl))) (fun h m' b' h1 => hk (e.trans h) m' b' (K4.out.trans h1)) (fun h m' b' h1 h2 => ht (e.trans h) m' b' (K4.out.trans h1) h2)
theorem defsS {n : Nat} (ihd : ∀ (t : ATm) {m : Mem}, SizeOf.sizeOf (Part.tm t) < n → Fm n (.tm t) → ndN n (.tm t) ≤ 900 → ATm.OK m t → Wf m → CallQ Tryz.prog fl 60 [.agg (ATm.cells t)] m (Rets noS m (.lit (.bool (dfB n (.tm t)))))) (ihw : ∀ (ds : List ACl) {dv : AVal} {m : Mem}, 0 < n → (∀ c, c ∈ ds → SizeOf.sizeOf (Part.cl c) < n) → (∀ c, c ∈ ds → Fm n (.cl c)) → (∀ c, c ∈ ds → ndN n (.cl c) ≤ 900) → SlA m dv 5 (ds.map ACl.cells) → (∀ c, c ∈ ds → ACl.OK m c) → Wf m → CallQ Tryz.prog fl 101 [dv] m (Rets noS m (.lit (.bool (ds.all fun c => dfB n (.cl c)))))) (t : ATm) {m : Mem} (hsz : SizeOf.sizeOf (Part.tm t) < n + 1) (hfm : Fm (n + 1) (.tm t)) (hnd : ndN (n + 1) (.tm t) ≤ 900) (hok : ATm.OK m t) (hw : Wf m) : CallQ Tryz.prog fl 60 [.agg (ATm.cells t)] m (Rets noS m (.lit (.bool (dfB (n + 1) (.tm t))))) := by
 have hF := hfm.subs.2
 have hN := fun q (hq : q ∈ (Part.tm t).subs) => ndN_sub (n := n) hq
 have hZ := fun q (hq : q ∈ (Part.tm t).subs) => subs_size hq
 cases t with
 | mk op s av dv kv args defs kids =>
 cases hok with
 | mk hq1 hq2 hq3 hq4 hq5 hq6 =>
 have ca := hq1.cell
 have cd := hq2.cell
 have ck := hq3.cell
 have hd0 : ∀ c, c ∈ defs → Part.cl c ∈ (Part.tm (.mk op s av dv kv args defs kids)).subs := fun c hc => by simp [Part.subs, hc]
 have hk0 : ∀ c, c ∈ kids → Part.tm c ∈ (Part.tm (.mk op s av dv kv args defs kids)).subs := fun c hc => by simp [Part.subs, hc]
 have hsd : (defs.map fun c => ndN n (.cl c)).sum ≤ 900 := by
  have : ndN (n + 1) (.tm (.mk op s av dv kv args defs kids)) = 1 + ((Part.subs (.tm (.mk op s av dv kv args defs kids))).map (ndN n)).sum := rfl
  simp only [Part.subs, List.map_append, List.sum_append, List.map_map, Function.comp_def] at this
  omega
 have hb9 := spP_len n defs
 have hj9 := jc_sum n dv defs (fun c hc => hF _ (hd0 c hc))
 have hsz3 : SizeOf.sizeOf defs < n := by have h := hsz; simp at h; omega
 have hdf : dfB (n + 1) (.tm (.mk op s av dv kv args defs kids)) = ((bif op == 4 then (!(clashB n dv defs)) && (defs.all fun c => dfB n (.cl c)) else true) && (kids.all fun k => dfB n (.tm k))) := rfl
 refine hfl.start (by decide) 37 Tryz.func60 rfl rfl (Nat.le_of_ble_eq_true rfl) ?_
 intro bs hb
 have ar0 := hb 0 _ rfl
 clear hb
 have K0 : Kept (fun q => m.next ≤ q ∨ (noS) q) m m := Kept.refl hw
 refine gg ?_
 refine s_new rfl rfl rfl rfl (o_box (e_base rfl ar0) rfl) (fun m8 g9 => ?_)
 have n10 := g9.next
 have K11 := K0.g g9
 refine gg ?_
 refine w_cond (e_hit rfl) (fun c12 => ?_) (fun c12 => ?_)
 ·
  refine gg ?_
  have hcall := rlook_ok hfl defs hsz3 (by omega) (by omega) (hq2.kept K11) (fun c hc => (hq5 c hc).kept K11) K11.wf
  refine s_call rfl rfl rfl rfl (o_calls (me1 (e_hit rfl))) hcall ?_ (by rintro c u m' ⟨_, _, _, h, _⟩; cases h)
  rintro vq u m13 ⟨v9, _, _, hret, k14⟩
  cases hret
  have n15 := k14.next
  have K16 := K11.k k14 (fun _ h => h.elim)
  refine gg ?_
  refine s_guardS rfl rfl (e_hit rfl) (fun c17 => ?_) (fun c17 => ?_)
  ·
   refine gg ?_
   have h18 := (k14.get m.next (by omega) (fun h => h)).trans g9.same
   refine gg ?_
   refine s_callV rfl (g_onH rfl rfl (e_hit rfl) c17) rfl rfl (o_calls (me1 (e_hit rfl))) (ihw defs (by omega) (fun c hc => by have := hZ _ (hd0 c hc); omega) (fun c hc => hF _ (hd0 c hc)) (fun c hc => by have := hN _ (hd0 c hc); omega) (hq2.kept K16) (fun c hc => (hq5 c hc).kept K16) K16.wf) (fun m19 k20 => ?_)
   have K22 := K16.k k20 (fun _ h => h.elim)
   refine gg ?_
   refine w_cond (e_hit rfl) (fun c23 => ?_) (fun c23 => ?_)
   ·
    refine gg ?_
    refine w_retAt rfl ?_
    refine w_results Tryz.func60 (rv1 (e_hit rfl)) ?_
    have e : dfB (n + 1) (.tm (.mk op s av dv kv args defs kids)) = false := by rw [hdf]; revert c12 c17 c23; cases op == 4 <;> cases clashB n dv defs <;> cases (defs.all fun c => dfB n (.cl c)) <;> cases (kids.all fun k => dfB n (.tm k)) <;> simp
    rw [e]; exact ⟨_, _, rfl, K22.out⟩
   ·
    refine gg ?_
    have h24 := hxM m19 m.next
    have f25 := (k14.fam m.next (by omega) (fun h => h)).trans (g9.fam0 K0.wf)
    have f26 := fxM m19 m.next
    refine w_loop ?_
    refine Wp.gen (fun b0 eb => ?_)
    refine df_loop hfl (by simp only [allCells_cons, ca, cd, ck]; rfl) ihd kids (fun c hc => by have := hZ _ (hk0 c hc); omega) (fun c hc => hF _ (hk0 c hc)) (fun c hc => by have := hN _ (hk0 c hc); omega) _ kids [] b0 (by rfl) K22.wf (Cel.of h24 f26) (hq3.kept K22) (fun c hc => (hq6 c hc).kept K22) (eqb eb (e_hit rfl)) (eqb eb (e_hit rfl)) ?_ ?_
    ·
     intro hf mq bq kq
     change Wp Tryz.prog fl (At _ _ (sets 37 bq []) _ _ _ _) _
     have KQ := K22.out.trans kq
     refine gg ?_
     refine w_retAt rfl ?_
     refine w_results Tryz.func60 (rv1 (e_hit rfl)) ?_
     have e : dfB (n + 1) (.tm (.mk op s av dv kv args defs kids)) = true := by rw [hdf]; revert c12 c17 c23 hf; cases op == 4 <;> cases clashB n dv defs <;> cases (defs.all fun c => dfB n (.cl c)) <;> cases (kids.all fun k => dfB n (.tm k)) <;> simp
     rw [e]; exact ⟨_, _, rfl, KQ⟩
    ·
     intro hf mq bq kq z2
     have e : dfB (n + 1) (.tm (.mk op s av dv kv args defs kids)) = false := by rw [hdf]; revert c12 c17 c23 hf; cases op == 4 <;> cases clashB n dv defs <;> cases (defs.all fun c => dfB n (.cl c)) <;> cases (kids.all fun k => dfB n (.tm k)) <;> simp
     refine w_results Tryz.func60 (rv1 z2) ?_
     rw [e]; exact ⟨_, _, rfl, K22.out.trans kq⟩
  ·
   refine gg ?_
   refine w_retAt rfl ?_
   refine w_results Tryz.func60 (rv1 (e_hit rfl)) ?_
   have e : dfB (n + 1) (.tm (.mk op s av dv kv args defs kids)) = false := by rw [hdf]; revert c12 c17; cases op == 4 <;> cases clashB n dv defs <;> cases (defs.all fun c => dfB n (.cl c)) <;> cases (kids.all fun k => dfB n (.tm k)) <;> simp
   rw [e]; exact ⟨_, _, rfl, K16.out⟩
 ·
  refine gg ?_
  refine w_loop ?_
  refine Wp.gen (fun b0 eb => ?_)
  refine df_loop hfl (by simp only [allCells_cons, ca, cd, ck]; rfl) ihd kids (fun c hc => by have := hZ _ (hk0 c hc); omega) (fun c hc => hF _ (hk0 c hc)) (fun c hc => by have := hN _ (hk0 c hc); omega) _ kids [] b0 (by rfl) K11.wf (Cel.of g9.same (g9.fam0 K0.wf)) (hq3.kept K11) (fun c hc => (hq6 c hc).kept K11) (eqb eb (e_hit rfl)) (eqb eb (e_hit rfl)) ?_ ?_
  ·
   intro hf mq bq kq
   change Wp Tryz.prog fl (At _ _ (sets 37 bq []) _ _ _ _) _
   have KQ := K11.out.trans kq
   refine gg ?_
   refine w_retAt rfl ?_
   refine w_results Tryz.func60 (rv1 (e_hit rfl)) ?_
   have e : dfB (n + 1) (.tm (.mk op s av dv kv args defs kids)) = true := by rw [hdf]; revert c12 hf; cases op == 4 <;> cases clashB n dv defs <;> cases (defs.all fun c => dfB n (.cl c)) <;> cases (kids.all fun k => dfB n (.tm k)) <;> simp
   rw [e]; exact ⟨_, _, rfl, KQ⟩
  ·
   intro hf mq bq kq z2
   have e : dfB (n + 1) (.tm (.mk op s av dv kv args defs kids)) = false := by rw [hdf]; revert c12 hf; cases op == 4 <;> cases clashB n dv defs <;> cases (defs.all fun c => dfB n (.cl c)) <;> cases (kids.all fun k => dfB n (.tm k)) <;> simp
   refine w_results Tryz.func60 (rv1 z2) ?_
   rw [e]; exact ⟨_, _, rfl, K11.out.trans kq⟩
theorem defs_both : ∀ n : Nat, (∀ (t : ATm) {m : Mem}, SizeOf.sizeOf (Part.tm t) < n → Fm n (.tm t) → ndN n (.tm t) ≤ 900 → ATm.OK m t → Wf m → CallQ Tryz.prog fl 60 [.agg (ATm.cells t)] m (Rets noS m (.lit (.bool (dfB n (.tm t)))))) ∧ (∀ (ds : List ACl) {dv : AVal} {m : Mem}, 0 < n → (∀ c, c ∈ ds → SizeOf.sizeOf (Part.cl c) < n) → (∀ c, c ∈ ds → Fm n (.cl c)) → (∀ c, c ∈ ds → ndN n (.cl c) ≤ 900) → SlA m dv 5 (ds.map ACl.cells) → (∀ c, c ∈ ds → ACl.OK m c) → Wf m → CallQ Tryz.prog fl 101 [dv] m (Rets noS m (.lit (.bool (ds.all fun c => dfB n (.cl c))))))
 | 0 => ⟨fun t m h => by omega, fun ds dv m h0 => by omega⟩
 | n + 1 => ⟨fun t m a b c d e => defsS hfl (defs_both n).1 (defs_both n).2 t a b c d e, fun ds dv m _ a b c d e f => withinS hfl (defs_both n).1 (defs_both n).2 ds a b c d e f⟩
end
open Go.RowKit (Below)
set_option maxRecDepth 10000
noncomputable section
theorem zc_3 : zcells Tryz.prog 3 = some [.lit (.int .i64 0)] := by kernel_rfl
variable {fl : Fl} (hfl : Tab fl)
include hfl
omit hfl in
def chkB (n : Nat) (p : Part) : Bool := decide (leftI 60 (ndN n p) ≥ 0) && ((refN n p).2.2 && ((!(decide ((refN n p).2.1 > 12))) && dfB n p))
omit hfl in
theorem leftI_ge {k : Nat} : decide (leftI 60 k ≥ 0) = decide (k ≤ 60) := by unfold leftI; simp only [decide_eq_decide]; omega
omit hfl in
theorem leftI_lt {k : Nat} : decide (leftI 60 k < 0) = !(decide (leftI 60 k ≥ 0)) := by
 by_cases h : leftI 60 k ≥ 0
 ·rw [decide_eq_true h, decide_eq_false (by omega)]; rfl
 ·rw [decide_eq_false h, decide_eq_true (by omega)]; rfl
omit hfl in
def errR (b : Bool) : Int := bif b then 0 else 2
theorem rCheck_ok {m : Mem} {n : Nat} {op : Int} {s : ByteArray} {av dv kv : AVal} {args : List AEx} {defs : List ACl} {kids : List ATm} (hsz : SizeOf.sizeOf ((.tm (.mk op s av dv kv args defs kids)) : Part) < n) (hq : Part.OK m (.tm (.mk op s av dv kv args defs kids))) (hw : Wf m) : CallQ Tryz.prog fl 24 [.agg [iv op, .lit (.string s), av, dv, kv]] m (Rets noS m (iv (errR (chkB n (.tm (.mk op s av dv kv args defs kids)))))) := by
 refine hfl.start (by decide) 27 Tryz.func24 rfl rfl (Nat.le_of_ble_eq_true rfl) ?_
 intro bs hb
 have ar0 := hb 0 _ rfl
 clear hb
 have K0 : Kept (fun q => m.next ≤ q ∨ (noS) q) m m := Kept.refl hw
 have hq0 := hq
 cases hq0 with | mk hq1 hq2 hq3 _ _ _ =>
 have ca := hq1.cell
 have cd := hq2.cell
 have ck := hq3.cell
 refine gg ?_
 refine s_new rfl rfl rfl rfl (o_box (e_base rfl ar0) rfl) (fun m1 g2 => ?_)
 have n3 := g2.next
 have K4 := K0.g g2
 refine gg ?_
 refine s_new rfl rfl rfl rfl (o_alloc zc_3) (fun m5 g6 => ?_)
 have n7 := g6.next
 have K8 := K4.g g6
 refine s_put0 rfl rfl rfl (o_store rfl (e_hit rfl) g6.same (g6.fam0 K4.wf) sz_3 rfl rfl rfl rfl) (fun m9 g10 => ?_)
 have n11 := g10.next
 have K12 := K8.w g10 g6.same (fun _ h => by cases h) (Or.inl (by omega))
 refine gg ?_
 have h14 := hxM m9 m.next
 refine s_val rfl rfl rfl rfl (o_loadRowA (e_hit rfl) h14 tg_33 sz_33 (takeW rfl (ac1 rfl (ac1 rfl (ac1 ca (ac1 cd (ac1 ck rfl))))))) ?_
 have f15 := fxM m9 m1.next
 have hcall := small_ok hfl n (.tm (.mk op s av dv kv args defs kids)) 60 hsz (Cel.of g10.same f15) (by decide) (by decide) (hq.kept K12) K12.wf
 refine s_call rfl rfl rfl rfl (o_calls (me2 (e_hit rfl) (e_hit rfl))) hcall ?_ (by rintro c u m' ⟨_, _, _, h, _⟩; cases h)
 rintro vq u m16 ⟨_, _, _, hret, hvq, k17, hlq⟩
 cases hret
 have hvq := hvq ⟨_, rfl⟩
 subst hvq
 have n18 := k17.next
 have K19 := K12.k k17 (fun q h => Or.inl (by have : q = m1.next := h; omega))
 obtain ⟨⟨elq, hlr⟩, flr⟩ := hlq
 refine gg ?_
 refine w_cond (e_hit rfl) (fun c20 => ?_) (fun c20 => ?_)
 ·
  refine gg ?_
  refine w_retAt rfl ?_
  refine w_results Tryz.func24 (rv1 (e_hit rfl)) ?_
  have e : chkB n (.tm (.mk op s av dv kv args defs kids)) = false := by unfold chkB; revert c20; cases decide (leftI 60 (ndN n (.tm (.mk op s av dv kv args defs kids))) ≥ 0) <;> cases (refN n (.tm (.mk op s av dv kv args defs kids))).2.2 <;> cases decide ((refN n (.tm (.mk op s av dv kv args defs kids))).2.1 > 12) <;> cases dfB n (.tm (.mk op s av dv kv args defs kids)) <;> simp
  rw [e]; exact ⟨_, _, rfl, K19.out⟩
 ·
  refine gg ?_
  have h21 := (k17.get m.next (by omega) (by show ¬ (_ = m1.next); omega)).trans h14
  refine s_val rfl rfl rfl rfl (o_loadRowA (e_hit rfl) h21 tg_33 sz_33 (takeW rfl (ac1 rfl (ac1 rfl (ac1 ca (ac1 cd (ac1 ck rfl))))))) ?_
  have hA : decide (leftI 60 (ndN n (.tm (.mk op s av dv kv args defs kids))) ≥ 0) = true := by have h := c20; revert h; cases decide (leftI 60 (ndN n (.tm (.mk op s av dv kv args defs kids))) ≥ 0) <;> simp
  have hnd : ndN n (.tm (.mk op s av dv kv args defs kids)) ≤ 60 := by rw [leftI_ge] at hA; exact of_decide_eq_true hA
  refine s_callV rfl rfl rfl rfl (o_calls (me1 (e_hit rfl))) (refN_ok hfl n (.tm (.mk op s av dv kv args defs kids)) hsz (by omega) (hq.kept K19) K19.wf) (fun m22 k23 => ?_)
  have K25 := K19.k k23 (fun _ h => h.elim)
  refine gg ?_
  refine s_guardS rfl rfl (e_hit rfl) (fun c26 => ?_) (fun c26 => ?_)
  ·
   refine gg ?_
   refine s_guardS rfl rfl (e_hit rfl) (fun c27 => ?_) (fun c27 => ?_)
   ·
    have h28 := hxM m22 m.next
    refine s_val rfl (g_onH rfl rfl (e_hit rfl) c27) rfl rfl (o_loadRowA (e_hit rfl) h28 tg_33 sz_33 (takeW rfl (ac1 rfl (ac1 rfl (ac1 ca (ac1 cd (ac1 ck rfl))))))) ?_
    have hFm : Fm n (.tm (.mk op s av dv kv args defs kids)) := by have h := c26; show (refN n (.tm (.mk op s av dv kv args defs kids))).2.2 = true; revert h; cases (refN n (.tm (.mk op s av dv kv args defs kids))).2.2 <;> simp
    refine s_callV rfl (g_onH rfl rfl (e_hit rfl) c27) rfl rfl (o_calls (me1 (e_hit rfl))) ((defs_both hfl n).1 _ hsz hFm (by omega) (hq.kept K25) K25.wf) (fun m29 k30 => ?_)
    have K32 := K25.k k30 (fun _ h => h.elim)
    refine gg ?_
    refine w_cond (e_hit rfl) (fun c33 => ?_) (fun c33 => ?_)
    ·
     refine gg ?_
     refine w_retAt rfl ?_
     refine w_results Tryz.func24 (rv1 (e_hit rfl)) ?_
     have e : chkB n (.tm (.mk op s av dv kv args defs kids)) = false := by unfold chkB; revert c20 c26 c27 c33; cases decide (leftI 60 (ndN n (.tm (.mk op s av dv kv args defs kids))) ≥ 0) <;> cases (refN n (.tm (.mk op s av dv kv args defs kids))).2.2 <;> cases decide ((refN n (.tm (.mk op s av dv kv args defs kids))).2.1 > 12) <;> cases dfB n (.tm (.mk op s av dv kv args defs kids)) <;> simp
     rw [e]; exact ⟨_, _, rfl, K32.out⟩
    ·
     refine gg ?_
     refine w_retAt rfl ?_
     refine w_results Tryz.func24 (rv1 (e_hit rfl)) ?_
     have e : chkB n (.tm (.mk op s av dv kv args defs kids)) = true := by unfold chkB; revert c20 c26 c27 c33; cases decide (leftI 60 (ndN n (.tm (.mk op s av dv kv args defs kids))) ≥ 0) <;> cases (refN n (.tm (.mk op s av dv kv args defs kids))).2.2 <;> cases decide ((refN n (.tm (.mk op s av dv kv args defs kids))).2.1 > 12) <;> cases dfB n (.tm (.mk op s av dv kv args defs kids)) <;> simp
     rw [e]; exact ⟨_, _, rfl, K32.out⟩
   ·
    refine gg ?_
    refine w_retAt rfl ?_
    refine w_results Tryz.func24 (rv1 (e_hit rfl)) ?_
    have e : chkB n (.tm (.mk op s av dv kv args defs kids)) = false := by unfold chkB; revert c20 c26 c27; cases decide (leftI 60 (ndN n (.tm (.mk op s av dv kv args defs kids))) ≥ 0) <;> cases (refN n (.tm (.mk op s av dv kv args defs kids))).2.2 <;> cases decide ((refN n (.tm (.mk op s av dv kv args defs kids))).2.1 > 12) <;> cases dfB n (.tm (.mk op s av dv kv args defs kids)) <;> simp
    rw [e]; exact ⟨_, _, rfl, K25.out⟩
  ·
   refine gg ?_
   refine w_retAt rfl ?_
   refine w_results Tryz.func24 (rv1 (e_hit rfl)) ?_
   have e : chkB n (.tm (.mk op s av dv kv args defs kids)) = false := by unfold chkB; revert c20 c26; cases decide (leftI 60 (ndN n (.tm (.mk op s av dv kv args defs kids))) ≥ 0) <;> cases (refN n (.tm (.mk op s av dv kv args defs kids))).2.2 <;> cases decide ((refN n (.tm (.mk op s av dv kv args defs kids))).2.1 > 12) <;> cases dfB n (.tm (.mk op s av dv kv args defs kids)) <;> simp
   rw [e]; exact ⟨_, _, rfl, K25.out⟩
theorem rCheckExp_ok {m : Mem} {n : Nat} {op nn : Int} {s : ByteArray} {kv : AVal} {kids : List AEx} (hsz : SizeOf.sizeOf ((.ex (.mk op nn s kv kids)) : Part) < n) (hq : Part.OK m (.ex (.mk op nn s kv kids))) (hw : Wf m) : CallQ Tryz.prog fl 26 [.agg [iv op, iv nn, .lit (.string s), kv]] m (Rets noS m (iv (errR (chkB n (.ex (.mk op nn s kv kids)))))) := by
 refine hfl.start (by decide) 23 Tryz.func26 rfl rfl (Nat.le_of_ble_eq_true rfl) ?_
 intro bs hb
 have ar0 := hb 0 _ rfl
 clear hb
 have K0 : Kept (fun q => m.next ≤ q ∨ (noS) q) m m := Kept.refl hw
 have hq0 := hq
 cases hq0 with | mk hq1 _ =>
 have ck := hq1.cell
 refine gg ?_
 refine s_new rfl rfl rfl rfl (o_box (e_base rfl ar0) rfl) (fun m34 g35 => ?_)
 have n36 := g35.next
 have K37 := K0.g g35
 refine gg ?_
 refine s_new rfl rfl rfl rfl (o_alloc zc_3) (fun m38 g39 => ?_)
 have n40 := g39.next
 have K41 := K37.g g39
 refine s_put0 rfl rfl rfl (o_store rfl (e_hit rfl) g39.same (g39.fam0 K37.wf) sz_3 rfl rfl rfl rfl) (fun m42 g43 => ?_)
 have n44 := g43.next
 have K45 := K41.w g43 g39.same (fun _ h => by cases h) (Or.inl (by omega))
 refine gg ?_
 have h47 := hxM m42 m.next
 refine s_val rfl rfl rfl rfl (o_loadRowA (e_hit rfl) h47 tg_36 sz_36 (takeW rfl (ac1 rfl (ac1 rfl (ac1 rfl (ac1 ck rfl)))))) ?_
 have f48 := fxM m42 m34.next
 have hcall := small_ok hfl n (.ex (.mk op nn s kv kids)) 60 hsz (Cel.of g43.same f48) (by decide) (by decide) (hq.kept K45) K45.wf
 refine s_call rfl rfl rfl rfl (o_calls (me2 (e_hit rfl) (e_hit rfl))) hcall ?_ (by rintro c u m' ⟨_, _, _, h, _⟩; cases h)
 rintro vq u m49 ⟨_, _, _, hret, hvq, k50, hlq⟩
 cases hret
 have K52 := K45.k k50 (fun q h => Or.inl (by have : q = m34.next := h; omega))
 obtain ⟨⟨elq, hlr⟩, flr⟩ := hlq
 refine gg ?_
 refine w_cond (e_hit rfl) (fun c53 => ?_) (fun c53 => ?_)
 ·
  refine gg ?_
  refine w_retAt rfl ?_
  refine w_results Tryz.func26 (rv1 (e_hit rfl)) ?_
  rw [leftI_lt] at c53
  have hdx : dfB n (.ex (.mk op nn s kv kids)) = true := by cases n with | zero => omega | succ n => rfl
  have e : chkB n (.ex (.mk op nn s kv kids)) = false := by unfold chkB; rw [hdx]; revert c53; cases decide (leftI 60 (ndN n (.ex (.mk op nn s kv kids))) ≥ 0) <;> cases (refN n (.ex (.mk op nn s kv kids))).2.2 <;> cases decide ((refN n (.ex (.mk op nn s kv kids))).2.1 > 12) <;> simp
  rw [e]; exact ⟨_, _, rfl, K52.out⟩
 ·
  refine gg ?_
  have h54 := (k50.get m.next (by omega) (by show ¬ (_ = m34.next); omega)).trans h47
  refine s_val rfl rfl rfl rfl (o_loadRowA (e_hit rfl) h54 tg_36 sz_36 (takeW rfl (ac1 rfl (ac1 rfl (ac1 rfl (ac1 ck rfl)))))) ?_
  have hA : decide (leftI 60 (ndN n (.ex (.mk op nn s kv kids))) ≥ 0) = true := by have h := c53; rw [leftI_lt] at h; revert h; cases decide (leftI 60 (ndN n (.ex (.mk op nn s kv kids))) ≥ 0) <;> simp
  have hnd : ndN n (.ex (.mk op nn s kv kids)) ≤ 60 := by rw [leftI_ge] at hA; exact of_decide_eq_true hA
  refine s_callV rfl rfl rfl rfl (o_calls (me1 (e_hit rfl))) (refN_ok hfl n (.ex (.mk op nn s kv kids)) hsz (by omega) (hq.kept K52) K52.wf) (fun m55 k56 => ?_)
  have n57 := k56.next
  have K58 := K52.k k56 (fun _ h => h.elim)
  refine gg ?_
  refine s_guardS rfl rfl (e_hit rfl) (fun c59 => ?_) (fun c59 => ?_)
  ·
   refine gg ?_
   refine w_cond (e_hit rfl) (fun c60 => ?_) (fun c60 => ?_)
   ·
    refine gg ?_
    refine w_retAt rfl ?_
    refine w_results Tryz.func26 (rv1 (e_hit rfl)) ?_
    rw [leftI_lt] at c53
    have hdx : dfB n (.ex (.mk op nn s kv kids)) = true := by cases n with | zero => omega | succ n => rfl
    have e : chkB n (.ex (.mk op nn s kv kids)) = false := by unfold chkB; rw [hdx]; revert c53 c59 c60; cases decide (leftI 60 (ndN n (.ex (.mk op nn s kv kids))) ≥ 0) <;> cases (refN n (.ex (.mk op nn s kv kids))).2.2 <;> cases decide ((refN n (.ex (.mk op nn s kv kids))).2.1 > 12) <;> simp
    rw [e]; exact ⟨_, _, rfl, K58.out⟩
   ·
    refine gg ?_
    refine w_retAt rfl ?_
    refine w_results Tryz.func26 (rv1 (e_hit rfl)) ?_
    rw [leftI_lt] at c53
    have hdx : dfB n (.ex (.mk op nn s kv kids)) = true := by cases n with | zero => omega | succ n => rfl
    have e : chkB n (.ex (.mk op nn s kv kids)) = true := by unfold chkB; rw [hdx]; revert c53 c59 c60; cases decide (leftI 60 (ndN n (.ex (.mk op nn s kv kids))) ≥ 0) <;> cases (refN n (.ex (.mk op nn s kv kids))).2.2 <;> cases decide ((refN n (.ex (.mk op nn s kv kids))).2.1 > 12) <;> simp
    rw [e]; exact ⟨_, _, rfl, K58.out⟩
  ·
   refine gg ?_
   refine w_retAt rfl ?_
   refine w_results Tryz.func26 (rv1 (e_hit rfl)) ?_
   rw [leftI_lt] at c53
   have hdx : dfB n (.ex (.mk op nn s kv kids)) = true := by cases n with | zero => omega | succ n => rfl
   have e : chkB n (.ex (.mk op nn s kv kids)) = false := by unfold chkB; rw [hdx]; revert c53 c59; cases decide (leftI 60 (ndN n (.ex (.mk op nn s kv kids))) ≥ 0) <;> cases (refN n (.ex (.mk op nn s kv kids))).2.2 <;> cases decide ((refN n (.ex (.mk op nn s kv kids))).2.1 > 12) <;> simp
   rw [e]; exact ⟨_, _, rfl, K58.out⟩
theorem rNodes_ok {m : Mem} {n : Nat} {op : Int} {s : ByteArray} {av dv kv : AVal} {args : List AEx} {defs : List ACl} {kids : List ATm} (hsz : SizeOf.sizeOf ((.tm (.mk op s av dv kv args defs kids)) : Part) < n) (hq : Part.OK m (.tm (.mk op s av dv kv args defs kids))) (hw : Wf m) : CallQ Tryz.prog fl 20 [.agg [iv op, .lit (.string s), av, dv, kv]] m (Rets noS m (.tuple [iv (bif chkB n (.tm (.mk op s av dv kv args defs kids)) then (refN n (.tm (.mk op s av dv kv args defs kids))).1 else 0), iv (errR (chkB n (.tm (.mk op s av dv kv args defs kids))))])) := by
 refine hfl.start (by decide) 17 Tryz.func20 rfl rfl (Nat.le_of_ble_eq_true rfl) ?_
 intro bs hb
 have ar0 := hb 0 _ rfl
 clear hb
 have K0 : Kept (fun q => m.next ≤ q ∨ (noS) q) m m := Kept.refl hw
 have hq0 := hq
 cases hq0 with | mk hq1 hq2 hq3 _ _ _ =>
 have ca := hq1.cell
 have cd := hq2.cell
 have ck := hq3.cell
 refine gg ?_
 refine s_new rfl rfl rfl rfl (o_box (e_base rfl ar0) rfl) (fun m61 g62 => ?_)
 have n63 := g62.next
 have K64 := K0.g g62
 refine gg ?_
 refine s_val rfl rfl rfl rfl (o_loadRowA (e_hit rfl) g62.same tg_33 sz_33 (takeW rfl (ac1 rfl (ac1 rfl (ac1 ca (ac1 cd (ac1 ck rfl))))))) ?_
 refine s_callV rfl rfl rfl rfl (o_calls (me1 (e_hit rfl))) (rCheck_ok hfl hsz (hq.kept K64) K64.wf) (fun m65 k66 => ?_)
 have K68 := K64.k k66 (fun _ h => h.elim)
 refine gg ?_
 refine w_cond (e_hit rfl) (fun c69 => ?_) (fun c69 => ?_)
 ·
  refine gg ?_
  refine w_retAt rfl ?_
  refine w_results Tryz.func20 (rv2 (e_hit rfl) (e_hit rfl)) ?_
  have hC : chkB n (.tm (.mk op s av dv kv args defs kids)) = false := by have h := c69; revert h; cases chkB n (.tm (.mk op s av dv kv args defs kids)) <;> decide
  rw [hC]; exact ⟨_, _, rfl, K68.out⟩
 ·
  refine gg ?_
  have h70 := hxM m65 m.next
  refine s_val rfl rfl rfl rfl (o_loadRowA (e_hit rfl) h70 tg_33 sz_33 (takeW rfl (ac1 rfl (ac1 rfl (ac1 ca (ac1 cd (ac1 ck rfl))))))) ?_
  have hC : chkB n (.tm (.mk op s av dv kv args defs kids)) = true := by have h := c69; revert h; cases chkB n (.tm (.mk op s av dv kv args defs kids)) <;> decide
  have hnd : ndN n (.tm (.mk op s av dv kv args defs kids)) ≤ 60 := by have h := hC; unfold chkB at h; rw [Bool.and_eq_true, leftI_ge] at h; exact of_decide_eq_true h.1
  refine s_callV rfl rfl rfl rfl (o_calls (me1 (e_hit rfl))) (refN_ok hfl n (.tm (.mk op s av dv kv args defs kids)) hsz (by omega) (hq.kept K68) K68.wf) (fun m71 k72 => ?_)
  have K74 := K68.k k72 (fun _ h => h.elim)
  refine gg ?_
  refine w_retAt rfl ?_
  refine w_results Tryz.func20 (rv2 (e_hit rfl) (e_hit rfl)) ?_
  rw [hC]; exact ⟨_, _, rfl, K74.out⟩
theorem rDepth_ok {m : Mem} {n : Nat} {op : Int} {s : ByteArray} {av dv kv : AVal} {args : List AEx} {defs : List ACl} {kids : List ATm} (hsz : SizeOf.sizeOf ((.tm (.mk op s av dv kv args defs kids)) : Part) < n) (hq : Part.OK m (.tm (.mk op s av dv kv args defs kids))) (hw : Wf m) : CallQ Tryz.prog fl 22 [.agg [iv op, .lit (.string s), av, dv, kv]] m (Rets noS m (.tuple [iv (bif chkB n (.tm (.mk op s av dv kv args defs kids)) then (refN n (.tm (.mk op s av dv kv args defs kids))).2.1 else 0), iv (errR (chkB n (.tm (.mk op s av dv kv args defs kids))))])) := by
 refine hfl.start (by decide) 17 Tryz.func22 rfl rfl (Nat.le_of_ble_eq_true rfl) ?_
 intro bs hb
 have ar0 := hb 0 _ rfl
 clear hb
 have K0 : Kept (fun q => m.next ≤ q ∨ (noS) q) m m := Kept.refl hw
 have hq0 := hq
 cases hq0 with | mk hq1 hq2 hq3 _ _ _ =>
 have ca := hq1.cell
 have cd := hq2.cell
 have ck := hq3.cell
 refine gg ?_
 refine s_new rfl rfl rfl rfl (o_box (e_base rfl ar0) rfl) (fun m75 g76 => ?_)
 have n77 := g76.next
 have K78 := K0.g g76
 refine gg ?_
 refine s_val rfl rfl rfl rfl (o_loadRowA (e_hit rfl) g76.same tg_33 sz_33 (takeW rfl (ac1 rfl (ac1 rfl (ac1 ca (ac1 cd (ac1 ck rfl))))))) ?_
 refine s_callV rfl rfl rfl rfl (o_calls (me1 (e_hit rfl))) (rCheck_ok hfl hsz (hq.kept K78) K78.wf) (fun m79 k80 => ?_)
 have K82 := K78.k k80 (fun _ h => h.elim)
 refine gg ?_
 refine w_cond (e_hit rfl) (fun c83 => ?_) (fun c83 => ?_)
 ·
  refine gg ?_
  refine w_retAt rfl ?_
  refine w_results Tryz.func22 (rv2 (e_hit rfl) (e_hit rfl)) ?_
  have hC : chkB n (.tm (.mk op s av dv kv args defs kids)) = false := by have h := c83; revert h; cases chkB n (.tm (.mk op s av dv kv args defs kids)) <;> decide
  rw [hC]; exact ⟨_, _, rfl, K82.out⟩
 ·
  refine gg ?_
  have h84 := hxM m79 m.next
  refine s_val rfl rfl rfl rfl (o_loadRowA (e_hit rfl) h84 tg_33 sz_33 (takeW rfl (ac1 rfl (ac1 rfl (ac1 ca (ac1 cd (ac1 ck rfl))))))) ?_
  have hC : chkB n (.tm (.mk op s av dv kv args defs kids)) = true := by have h := c83; revert h; cases chkB n (.tm (.mk op s av dv kv args defs kids)) <;> decide
  have hnd : ndN n (.tm (.mk op s av dv kv args defs kids)) ≤ 60 := by have h := hC; unfold chkB at h; rw [Bool.and_eq_true, leftI_ge] at h; exact of_decide_eq_true h.1
  refine s_callV rfl rfl rfl rfl (o_calls (me1 (e_hit rfl))) (refN_ok hfl n (.tm (.mk op s av dv kv args defs kids)) hsz (by omega) (hq.kept K82) K82.wf) (fun m85 k86 => ?_)
  have K88 := K82.k k86 (fun _ h => h.elim)
  refine gg ?_
  refine w_retAt rfl ?_
  refine w_results Tryz.func22 (rv2 (e_hit rfl) (e_hit rfl)) ?_
  rw [hC]; exact ⟨_, _, rfl, K88.out⟩
end
end Go.Proofs.YtjefckdgpbdpeaaGreat
