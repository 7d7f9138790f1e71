/- An executor whose runs hold in every world: a part of it and of what is proved of it. -/
import Derived.Test.YtkfjmpdbfjaboaaGreatAbsD
import Derived.Laws.BytesString
namespace Go.Abs
open Go
open Go.RowKit (Below)
section
variable {P : Program} {w0 : Wo} {B : Nat} {ρ : Rho} {m : Mem} {w : World}
theorem goI_R (n : Nat) : R ρ (goI n) (goInt n) := by simp only [goI, R]; rfl
theorem cap_sound (h : MR w0 B ρ m w) (ats : Array TypeId) (ty : TypeId) {x : AVal} {vx : Value} (hx : R ρ x vx) : VR w0 B ρ (capOp P m x ats[0]?) ((Builtin.cap_ ats ty #[vx]).run P w) := by
 cases ha : ats[0]? with
 | none => exact trivial
 | some t =>
  show VR w0 B ρ (capD m x (P.underlying t)) _
  cases hd : P.underlying t with
  | none => exact trivial
  | some d =>
   have hu := run_underlying' hd w
   cases d with
   | slice e =>
    show VR w0 B ρ (capSl m x) _
    unfold capSl
    split
    ·simp only [R] at hx; subst hx
     refine (VR.same h (goI_R _)).of_eq ?_
     unfold Builtin.cap_
     simp only [ha, List.getElem?_toArray, List.getElem?_cons_zero, run_bind, hu, run_pure]
    ·simp only [R] at hx; obtain ⟨p, c', _, _, h2, _, rfl⟩ := hx
     obtain rfl := h2 trivial
     refine (VR.same h (goI_R _)).of_eq ?_
     unfold Builtin.cap_
     simp only [ha, List.getElem?_toArray, List.getElem?_cons_zero, run_bind, hu, run_pure]
    ·exact trivial
   | _ => exact trivial
theorem len_sound (h : MR w0 B ρ m w) (ats : Array TypeId) (ty : TypeId) {x : AVal} {vx : Value} (hx : R ρ x vx) : VR w0 B ρ (lenOp P m x ats[0]?) ((Builtin.len_ ats ty #[vx]).run P w) := by
 cases ha : ats[0]? with
 | none => exact trivial
 | some t =>
  show VR w0 B ρ (lenD m x (P.underlying t)) _
  have hrun : (Builtin.len_ ats ty #[vx]).run P w = (match P.underlying t with | some d => (Builtin.len_ #[t] ty #[vx]).run P w | none => (Builtin.len_ ats ty #[vx]).run P w) := by
   cases hd : P.underlying t with
   | none => rfl
   | some d =>
    unfold Builtin.len_
    simp only [ha, List.getElem?_toArray, List.getElem?_cons_zero]
  cases hd : P.underlying t with
  | none => exact trivial
  | some d =>
   have hu := run_underlying' hd w
   cases d with
   | string =>
    show VR w0 B ρ (lenStr m x) _
    unfold lenStr
    split
    ·simp only [R] at hx; subst hx
     refine (VR.same h (goI_R _)).of_eq ?_
     unfold Builtin.len_
     simp only [ha, List.getElem?_toArray, List.getElem?_cons_zero, run_bind, hu, run_pure]
    ·exact trivial
   | slice e =>
    show VR w0 B ρ (lenSl m x) _
    unfold lenSl
    split
    ·simp only [R] at hx; subst hx
     refine (VR.same h (goI_R _)).of_eq ?_
     unfold Builtin.len_
     simp only [ha, List.getElem?_toArray, List.getElem?_cons_zero, run_bind, hu, run_pure]
    ·simp only [R] at hx; obtain ⟨p, c', _, _, _, _, rfl⟩ := hx
     refine (VR.same h (goI_R _)).of_eq ?_
     unfold Builtin.len_
     simp only [ha, List.getElem?_toArray, List.getElem?_cons_zero, run_bind, hu, run_pure]
    ·simp only [R] at hx; obtain ⟨a, c', rfl⟩ := hx
     refine (VR.same h (goI_R _)).of_eq ?_
     unfold Builtin.len_
     simp only [ha, List.getElem?_toArray, List.getElem?_cons_zero, run_bind, hu, run_pure]
    ·exact trivial
   | map k e =>
    show VR w0 B ρ (lenMp m x) _
    unfold lenMp
    split
    ·simp only [R] at hx; subst hx
     refine (VR.same h (goI_R _)).of_eq ?_
     unfold Builtin.len_
     simp only [ha, List.getElem?_toArray, List.getElem?_cons_zero, run_bind, hu, run_pure]
     rfl
    ·rename_i r
     simp only [R] at hx; obtain ⟨b, hp, rfl⟩ := hx
     unfold lenMap
     split
     ·rename_i es clock ho
      obtain ⟨_, l, hw, hER⟩ := h.map hp ho
      have hl : lenL es = l.size := by rw [lenL_eq, hER.keys.1]; simp
      rw [hl]
      refine (VR.same h (goI_R _)).of_eq ?_
      unfold Builtin.len_
      simp only [ha, List.getElem?_toArray, List.getElem?_cons_zero, run_bind, hu, run_getObj (P := P) hw (fun _ _ _ e => by cases e), run_pure]
     ·exact trivial
    ·exact trivial
   | array n e =>
    refine (VR.same h (goI_R n)).of_eq ?_
    unfold Builtin.len_
    simp only [ha, List.getElem?_toArray, List.getElem?_cons_zero, run_bind, hu, run_pure]
   | _ => exact trivial
theorem srcLen_sound {x : AVal} {vx : Value} (hx : R ρ x vx) {n : Nat} (e : srcLen x = some n) (w : World) : (Builtin.lenOf vx).run P w = .ok n w := by
 unfold srcLen at e
 split at e
 ·simp only [R] at hx; subst hx; cases e; rfl
 ·simp only [R] at hx; subst hx; cases e; rfl
 ·simp only [R] at hx; obtain ⟨p, c', _, _, _, _, rfl⟩ := hx; cases e; rfl
 ·simp only [R] at hx; obtain ⟨a, c', rfl⟩ := hx; cases e; rfl
 ·cases e
theorem copySrc_sound (h : MR w0 B ρ m w) {x : AVal} {vx : Value} (hx : R ρ x vx) {n k size : Nat} (hn : srcLen x = some n) (hk : k ≤ n) {cs : List AVal} (e : copySrc m k size x = some cs) :
  ∃ xs : List Value, (Builtin.firstCells size k vx).run P w = .ok xs.toArray w ∧ RL ρ cs xs := by
 unfold copySrc at e
 split at e
 ·simp only [R] at hx; subst hx; cases e
  exact ⟨[], rfl, by simp [RL]⟩
 ·rename_i s
  simp only [R] at hx; subst hx; cases e
  refine ⟨(s.data.toList.take k).map (fun b => .int .u8 b.toNat), ?_, ?_⟩
  ·show Result.ok ((s.extract 0 k).data.map fun b => Value.int .u8 b.toNat) w = _
   congr 1
   apply Array.ext'
   simp [ByteArray.data_extract]
  ·rw [mapL_eq]
   exact RL.map_of _ _ _ fun b _ => by simp [R]
 ·simp only [R] at hx
  obtain ⟨p, c', hp, _, _, _, rfl⟩ := hx
  obtain ⟨xs, h1, h2, _⟩ := h.readCells (P := P) hp e
  exact ⟨xs, h1, h2⟩
 ·simp only [R] at hx
  obtain ⟨a, c', rfl⟩ := hx
  cases e
  cases hn
  obtain rfl : k = 0 := by omega
  refine ⟨[], ?_, by simp [RL]⟩
  unfold Builtin.firstCells
  dsimp only
  rw [Nat.zero_mul]
  rfl
 ·cases e
theorem copy_sound (h : MR w0 B ρ m w) (ats : Array TypeId) (ty : TypeId) {s x : AVal} {vs vx : Value} (hs : R ρ s vs) (hx : R ρ x vx) :
  VR w0 B ρ (copyOp m s x (sizedElem P ((ats[0]?).bind (sliceElem P)))) ((Builtin.copy_ ats ty #[vs, vx]).run P w) := by
 unfold copyOp
 split
 ·exact trivial
 rename_i e size hse
 obtain ⟨h3, hsize⟩ := sizedElem_some hse
 rw [Option.bind_eq_some_iff] at h3
 obtain ⟨st, ha, h4⟩ := h3
 have hu := sliceElem_some h4
 unfold copyN
 split
 case h_2 => exact trivial
 rename_i n hn
 have hlen := srcLen_sound (P := P) hx hn w
 unfold copyTo
 split
 ·exact trivial
 rename_i cs hcs
 obtain ⟨xs, h5, h6⟩ := copySrc_sound (P := P) h hx hn (Nat.min_le_left n (sliceLen s)) hcs
 split
 ·rename_i r off dl c ex
  simp only [R] at hs
  obtain ⟨p, c', hp, _, _, _, rfl⟩ := hs
  split
  ·rename_i m' hst
   obtain ⟨w', h7, h8⟩ := h.storeCells (P := P) hp hst h6
   have h5' : (Builtin.firstCells size (Nat.min n dl) vx).run P w = .ok xs.toArray w := h5
   refine ⟨_, w', ρ, ?_, Rho.le.refl ρ, h8, goI_R _⟩
   unfold Builtin.copy_
   simp only [ha, List.getElem?_toArray, List.getElem?_cons_zero, List.getElem?_cons_succ, run_bind, run_underlying' hu, hlen, run_sizeOf' hsize, h5', h7, run_pure]
   rfl
  ·exact trivial
 ·simp only [R] at hs
  subst hs
  have h5' : (Builtin.firstCells size (Nat.min n 0) vx).run P w = .ok xs.toArray w := h5
  refine (VR.same h (goI_R 0)).of_eq ?_
  unfold Builtin.copy_
  simp only [ha, List.getElem?_toArray, List.getElem?_cons_zero, List.getElem?_cons_succ, run_bind, run_underlying' hu, hlen, run_sizeOf' hsize, h5', run_pure]
  have : Nat.min n 0 = 0 := Nat.min_zero n
  rw [this]
 ·exact trivial
theorem delEnt_nil (i : Nat) : delEnt i [] = [] := by cases i <;> rfl
theorem delEnt_zero (e : AEnt) (es : List AEnt) : delEnt 0 (e :: es) = es := rfl
theorem delEnt_succ (i : Nat) (e : AEnt) (es : List AEnt) : delEnt (i + 1) (e :: es) = e :: delEnt i es := rfl
theorem ER.del : ∀ {es : List AEnt} {l : List MapEntry} (i : Nat), ER ρ es l → ER ρ (delEnt i es) (l.eraseIdx i)
 | [], l, i, h => by
  have h' : l = [] := h
  subst h'
  rw [delEnt_nil]
  exact rfl
 | a :: es, l, i, h => by
  obtain ⟨y, ys, rfl, h2, h3, h4, h5⟩ := h
  cases i with
  | zero => rw [delEnt_zero]; exact h5
  | succ i => rw [delEnt_succ]; exact ⟨_, _, rfl, h2, h3, h4, ER.del i h5⟩
theorem delete_sound (h : MR w0 B ρ m w) (ats : Array TypeId) (ty : TypeId) {a k : AVal} {x y : Value} (hx : R ρ a x) (hy : R ρ k y) :
  VR w0 B ρ (deleteOp P m ((ats[0]?).bind (mapKey P)) k a) ((Builtin.delete_ ats ty #[x, y]).run P w) := by
 cases a with
 | map r =>
  simp only [R] at hx
  obtain ⟨b, hp, rfl⟩ := hx
  show VR w0 B ρ (delOp P m r (m.heap.get r) (keyOf k) ((ats[0]?).bind (mapKey P))) _
  unfold delOp
  split
  ·rename_i es clock kv kt et ho hk ht
   rw [Option.bind_eq_some_iff] at ht
   obtain ⟨t, ha, ht⟩ := ht
   have hu := mapKey_some ht
   have hky := keyOf_KR hy hk
   obtain ⟨hB, l, hw, hER⟩ := h.map hp ho
   have hgo := run_getObj (P := P) hw (fun _ _ _ e => by cases e)
   have hso : ∀ o', (Go.setObj b o').run P w = .ok () (setBlk w b o') := fun o' => run_setObj hw (fun _ _ _ e => by cases e)
   have hemp : isNil es = l.isEmpty := by
    have k2' : es.length = l.size := by simpa using hER.keys.1
    rw [isNil_eq, Bool.eq_iff_iff, List.isEmpty_iff, Array.isEmpty_iff, ← List.length_eq_zero_iff, ← Array.size_eq_zero_iff, k2']
   cases hf : findIx P m (isNil es) kt kv (dummies es) with
   | none => exact trivial
   | some q =>
    obtain ⟨c1, c2⟩ := findIx_sound h hky hER hf
    rw [hemp] at c1
    rcases c2 with ⟨rfl, c3⟩ | ⟨i, u, rfl, c3, c4⟩
    ·refine (VR.lit h).of_eq ?_
     unfold Builtin.delete_
     simp only [ha, List.getElem?_toArray, List.getElem?_cons_zero, List.getElem?_cons_succ, run_bind, run_underlying' hu, hgo, c1, c3, hso, run_pure]
     rw [setBlk_self hw]
    ·refine ⟨_, _, ρ, ?_, Rho.le.refl ρ, h.putMap hp ho clock (l1 := l.eraseIdxIfInBounds i) ?_, by simp [R]; rfl⟩
     ·unfold Builtin.delete_
      simp only [ha, List.getElem?_toArray, List.getElem?_cons_zero, List.getElem?_cons_succ, run_bind, run_underlying' hu, hgo, c1, c4, hso, run_pure]
     ·have : (l.eraseIdxIfInBounds i).toList = l.toList.eraseIdx i := by simp
      rw [this]
      exact hER.del i
  ·exact trivial
 | _ => exact trivial
theorem clear_sound (h : MR w0 B ρ m w) (ats : Array TypeId) (ty : TypeId) {a : AVal} {x : Value} (hx : R ρ a x) :
  VR w0 B ρ (clearOp P m a (sizedElem P ((ats[0]?).bind (sliceElem P)))) ((Builtin.clear_ ats ty #[x]).run P w) := by
 unfold clearOp
 split
 case h_2 => exact trivial
 rename_i e size hse
 obtain ⟨h3, hsize⟩ := sizedElem_some hse
 rw [Option.bind_eq_some_iff] at h3
 obtain ⟨st, ha, h4⟩ := h3
 have hu := sliceElem_some h4
 have fin : R ρ (.lit (.tuple #[])) (.tuple #[]) := by simp [R]
 split
 ·simp only [R] at hx
  subst hx
  refine (VR.same h fin).of_eq ?_
  unfold Builtin.clear_
  simp only [ha, List.getElem?_toArray, List.getElem?_cons_zero, run_bind, run_underlying' hu, run_pure]
 ·rename_i r off n c ex
  simp only [R] at hx
  obtain ⟨p, c', hp, _, _, _, rfl⟩ := hx
  cases n with
  | zero =>
   refine (VR.same h fin).of_eq ?_
   unfold Builtin.clear_
   simp only [ha, List.getElem?_toArray, List.getElem?_cons_zero, run_bind, run_underlying' hu, run_pure]
  | succ k =>
   show VR w0 B ρ (clearWith m (k + 1) size r off (zcells P e)) _
   unfold clearWith
   split
   case h_2 => exact trivial
   rename_i z hz
   obtain ⟨zv, hz1, rfl⟩ := zcells_some hz
   cases hg : (lenL (zv.cells.toList.map AVal.lit)).beq size && !(size.beq 0) with
   | false => exact trivial
   | true =>
    rw [cond_true]
    simp only [Bool.and_eq_true, nat_beq, lenL_eq, Bool.not_eq_true', nat_beq_f] at hg
    obtain ⟨g1, g2⟩ := hg
    have g1' : zv.cells.size = size := by simpa using g1
    split
    ·rename_i m' hst
     obtain ⟨w', hrun, hm'⟩ := h.storeCells (P := P) hp hst (RL.rep (RL.lits zv.cells.toList) (k + 1))
     refine ⟨_, w', ρ, ?_, Rho.le.refl ρ, hm', fin⟩
     unfold Builtin.clear_
     rw [← zeros_rep (by omega) g1'] at hrun
     simp only [ha, List.getElem?_toArray, List.getElem?_cons_zero, run_bind, run_underlying' hu, run_zeroValue' hz1, hrun, run_pure]
    ·exact trivial
 ·exact trivial
theorem lits_sound (h : MR w0 B ρ m w) (f : Array Value → Sem Value) (why : String) {l : List AVal} {xs : List Value} (hl : RL ρ l xs) : VR w0 B ρ (litsOp P m f why (toLits l)) ((f xs.toArray).run P w) := by
 unfold litsOp
 split
 ·rename_i vs hvs
  rw [RL.of_toLits l _ _ hl hvs]
  exact pureOp_sound h _ _
 ·exact trivial
def NR (w0 : Wo) (B : Nat) (ρ : Rho) (m : Mem) (w : World) (out : Out) (P : Program) (r : Result Next) : Prop :=
 match out with
 | .val v m' => ∃ x w' ρ', (r = .ok (.value x) w' ∨ (r = .ok .skip w' ∧ v = .poison)) ∧ ρ.le ρ' ∧ MR w0 B ρ' m' w' ∧ R ρ' v x
 | .panic v m' => ∃ x w' ρ', r = .halt (.panic x) w' ∧ ρ.le ρ' ∧ MR w0 B ρ' m' w' ∧ R ρ' v x
 | .enter f args m' => m' = m ∧ ∃ xs : Array Value, r = (callFunc f xs).run P w ∧ RL ρ args xs.toList
 | .round l f nt tm a b m' => m' = m ∧ ∃ (c : Nat) (tmps : Array Value), r = .ok (.round c f tmps a b) w ∧ ρ l = some (Pl.obj c) ∧ TR ρ tm tmps ∧ tmps.size = nt
 | .recov => r = .ok .recover w
 | .bad _ => True
theorem NR.of_VR {out : Out} {s : Sem Value} (h : VR w0 B ρ out (s.run P w)) : NR w0 B ρ m w out P ((do pure (Next.value (← s)) : Sem Next).run P w) := by
 rw [run_bind]
 cases out with
 | val v m' => obtain ⟨x, w', ρ', h1, h2⟩ := h; rw [h1]; exact ⟨x, w', ρ', .inl rfl, h2⟩
 | panic v m' => obtain ⟨x, w', ρ', h1, h2⟩ := h; rw [h1]; exact ⟨x, w', ρ', rfl, h2⟩
 | bad _ => exact trivial
 | _ => exact h.elim
theorem NR.of_UR {out : Out} {s : Sem Unit} (h : UR w0 B ρ out (s.run P w)) : NR w0 B ρ m w out P ((do s; pure Next.skip : Sem Next).run P w) := by
 rw [run_bind]
 cases out with
 | val v m' => obtain ⟨rfl, w', ρ', h1, h2, h3⟩ := h; rw [h1]; exact ⟨.tuple #[], w', ρ', .inr ⟨rfl, rfl⟩, h2, h3, by simp [R]⟩
 | panic v m' => obtain ⟨x, w', ρ', h1, h2⟩ := h; rw [h1]; exact ⟨x, w', ρ', rfl, h2⟩
 | bad _ => exact trivial
 | _ => exact h.elim
theorem RL.cons_inv {v : AVal} {vs : List AVal} {xs : List Value} (h : RL ρ (v :: vs) xs) : ∃ y ys, xs = y :: ys ∧ R ρ v y ∧ RL ρ vs ys := by simpa only [RL] using h
theorem builtin_sound (h : MR w0 B ρ m w) (b : Builtin) (ats : Array TypeId) (ty : TypeId) (cs : Array Bool) {args : List AVal} {xs : Array Value} (hl : RL ρ args xs.toList) :
  NR w0 B ρ m w (builtinOp P b ats args m) P ((builtin b ats ty cs xs).run P w) := by
 obtain ⟨l⟩ := xs
 dsimp only at hl
 match args, hl with
 | [], hl =>
  cases b with
  | recover => exact rfl
  | _ => exact trivial
 | [x], hl =>
  obtain ⟨y, ys, rfl, h1, h2⟩ := hl.cons_inv
  obtain rfl : ys = [] := by simpa only [RL] using h2
  cases b with
  | len => exact NR.of_VR (s := Builtin.len_ ats ty #[y]) (len_sound h ats ty h1)
  | clear => exact NR.of_VR (s := Builtin.clear_ ats ty #[y]) (clear_sound h ats ty h1)
  | cap => exact NR.of_VR (s := Builtin.cap_ ats ty #[y]) (cap_sound h ats ty h1)
  | _ => exact trivial
 | [x, x'], hl =>
  obtain ⟨y, ys, rfl, h1, h2⟩ := hl.cons_inv
  obtain ⟨y', ys', rfl, h3, h4⟩ := h2.cons_inv
  obtain rfl : ys' = [] := by simpa only [RL] using h4
  cases b with
  | append => exact NR.of_VR (s := Builtin.append_ ats ty #[y, y']) (append_sound h ats ty h1 h3)
  | copy => exact NR.of_VR (s := Builtin.copy_ ats ty #[y, y']) (copy_sound h ats ty h1 h3)
  | delete => exact NR.of_VR (s := Builtin.delete_ ats ty #[y, y']) (delete_sound h ats ty h1 h3)
  | max => exact NR.of_VR (s := Builtin.max_ ats ty #[y, y']) (lits_sound h (Go.Builtin.max_ #[] 0) "max" hl)
  | min => exact NR.of_VR (s := Builtin.min_ ats ty #[y, y']) (lits_sound h (Go.Builtin.min_ #[] 0) "min" hl)
  | _ => exact trivial
 | _ :: _ :: _ :: _, hl =>
  cases b with
  | max => exact NR.of_VR (s := Builtin.max_ ats ty l.toArray) (lits_sound h (Go.Builtin.max_ #[] 0) "max" hl)
  | min => exact NR.of_VR (s := Builtin.min_ ats ty l.toArray) (lits_sound h (Go.Builtin.min_ #[] 0) "min" hl)
  | _ => exact trivial
end
open Go.RowKit (Below)
section
variable {P : Program} {w0 : Wo} {B : Nat} {ρ : Rho} {m : Mem} {w : World}
theorem isU8_some {e : TypeId} (h : isU8 P e = true) : P.underlying e = some (.int .u8) := by
 unfold isU8 at h
 split at h
 ·assumption
 ·cases h
theorem foldl_push : ∀ (ns : List Int) (s : ByteArray), (ns.foldl (fun r n => r.push (UInt8.ofNat n.toNat)) s) = ⟨s.data ++ (ns.map fun n => UInt8.ofNat n.toNat).toArray⟩ := by
 intro ns
 induction ns with
 | nil => intro s; simp
 | cons n ns ih =>
  intro s
  rw [List.foldl_cons, ih]
  apply ByteArray.ext
  simp [ByteArray.push]
theorem allBytes_spec : ∀ (vs : List Value), allBytes vs = true → ∃ ns : List Int, vs = ns.map (Value.int .u8) ∧ mapL byteOf vs = ns.map fun n => UInt8.ofNat n.toNat
 | [], _ => ⟨[], rfl, rfl⟩
 | v :: vs, h => by
  have h' : (bif isByte v then allBytes vs else false) = true := h
  cases hv : isByte v with
  | false => rw [hv] at h'; cases h'
  | true =>
   rw [hv] at h'
   obtain ⟨ns, h1, h2⟩ := allBytes_spec vs h'
   unfold isByte at hv
   split at hv
   ·rename_i n
    refine ⟨n :: ns, by rw [h1]; rfl, ?_⟩
    rw [mapL_eq] at h2 ⊢
    rw [List.map_cons, h2]
    rfl
   ·cases hv
theorem bytesStrOf_sound (h : MR w0 B ρ m w) {e src dst : TypeId} (hs : P.underlying src = some (.slice e)) (he : P.underlying e = some (.int .u8)) (hd : P.underlying dst = some .string)
  {a : AVal} {x : Value} (hx : R ρ a x) : VR w0 B ρ (bytesStrOf m a) ((convert src dst x).run P w) := by
 unfold bytesStrOf
 split
 ·simp only [R] at hx
  obtain ⟨a, c', rfl⟩ := hx
  refine (VR.lit h).of_eq ?_
  rw [run_convert_bytes_string w src dst e _ _ _ hs he hd]
  exact run_bytesToString w a 0 c' [] (by rfl)
 ·rename_i r off n c ex
  simp only [R] at hx
  obtain ⟨p, c', hp, _, _, _, rfl⟩ := hx
  unfold bytesStr
  split
  ·rename_i vs hvs
   cases hb : allBytes vs with
   | false => exact trivial
   | true =>
    rw [cond_true]
    obtain ⟨ns, h1, h2⟩ := allBytes_spec vs hb
    rw [Option.bind_eq_some_iff] at hvs
    obtain ⟨l, h3, h4⟩ := hvs
    obtain ⟨xs, h5, h6, _⟩ := h.readCells (P := P) hp h3
    have := RL.of_toLits l _ _ h6 h4
    subst this
    subst h1
    refine (VR.lit h).of_eq ?_
    rw [run_convert_bytes_string w src dst e _ _ _ hs he hd]
    rw [run_bytesToString w _ n c' ns h5, foldl_push, h2]
    congr 3
    simp
  ·exact trivial
 ·simp only [R] at hx
  subst hx
  refine (VR.lit h).of_eq ?_
  rw [run_convert_bytes_string w src dst e _ _ _ hs he hd]
  rfl
 ·exact trivial
theorem run_freeze (a : Addr) (n : Nat) (w : World) : (freeze a n).run P w = .ok () (w.freeze a n) := rfl
theorem run_shape (b : Nat) (w : World) : (shape b).run P w = .ok (w.shape? b) w := rfl
theorem strBytes_sound (h : MR w0 B ρ m w) {e src dst : TypeId} (hs : P.underlying src = some .string) (hd : P.underlying dst = some (.slice e)) (he : P.underlying e = some (.int .u8))
  {a : AVal} {x : Value} (hx : R ρ a x) : VR w0 B ρ (strBytes m e a) ((convert src dst x).run P w) := by
 unfold strBytes
 split
 ·rename_i s
  simp only [R] at hx
  subst hx
  let q : Question := .appendCap s.size 0 e
  let cap := q.cut (w.tape w.drawn q)
  have hcap : s.size ≤ cap := by
   show s.size ≤ s.size + (w.tape w.drawn q) % (2 ^ 63 - s.size)
   omega
  have hch : (choose q).run P w = .ok cap w.drew := rfl
  let cs : Array Value := (s.data.map fun b => Value.int .u8 b.toNat) ++ Array.replicate (cap - s.size) (.int .u8 0)
  have hsz : cs.size = cap := by
   have : s.data.size = s.size := rfl
   simp only [cs, Array.size_append, Array.size_map, Array.size_replicate, this]
   omega
  have hrun : (convert src dst (.string s)).run P w = .ok (.slice (some ⟨w.heap.size, 0, none⟩) s.size cap) (w.drew.alloc (.cells cs e (cap, cap + 1))) := by
   have h1 : (convert src dst (.string s)).run P w = (Conv.stringToBytes e s).run P w := by
    simp [convert, run_underlying hs, run_underlying hd, run_underlying he]
   rw [h1]
   unfold Conv.stringToBytes
   have hnr : (Go.newRow e cs).run P w.drew = .ok ⟨w.heap.size, 0, none⟩ (w.drew.alloc (.cells cs e)) := rfl
   have hms : (markStringish ⟨w.heap.size, 0, none⟩).run P (w.drew.alloc (.cells cs e)) = .ok () (w.drew.alloc (.cells cs e (cap, cap + 1))) := by
    unfold markStringish
    have hsh : (w.drew.alloc (.cells cs e)).shape? w.heap.size = some (e, cap) := by
     unfold World.shape?
     have : (w.drew.alloc (.cells cs e)).heap[w.heap.size]? = some (.cells cs e) := alloc_new w.drew _
     rw [this]
     simp [hsz]
    simp only [run_bind, run_shape, hsh, run_freeze]
    congr 1
    unfold World.freeze
    rw [if_neg (by omega)]
    show World.mk _ _ _ _ _ = _
    congr 1
    apply Array.ext_getElem?
    intro i
    rw [Array.getElem?_modify]
    by_cases hi : w.heap.size = i
    ·subst hi
     rw [if_pos rfl]
     have h2 : (w.drew.alloc (.cells cs e)).heap[w.heap.size]? = some (.cells cs e) := alloc_new w.drew _
     have h3 : (w.drew.alloc (.cells cs e (cap, cap + 1))).heap[w.heap.size]? = some (.cells cs e (cap, cap + 1)) := alloc_new w.drew _
     rw [h2]
     exact h3.symm
    ·rw [if_neg hi]
     show (w.heap.push _)[i]? = (w.heap.push _)[i]?
     rw [Array.getElem?_push, Array.getElem?_push, if_neg (Ne.symm hi), if_neg (Ne.symm hi)]
   simp only [run_bind]
   rw [show (choose (.appendCap s.size 0 e)).run P w = .ok cap w.drew from hch]
   simp only
   rw [hnr]
   simp only
   rw [hms]
   rfl
  let pl : Pl := ⟨w.heap.size, 0, cap, 1⟩
  have hle0 : ρ.le (ρ.add m.next pl) := Rho.le_add (h.dom _ (Nat.le_refl _))
  obtain ⟨h8, h9⟩ := h.drew.new (.row (e, 1) (mapL (fun b => .lit (.int .u8 (.ofNat b.toNat))) s.data.toList) m.next 0) (.cells cs e (cap, cap + 1)) pl rfl (by
    refine ⟨h.size, rfl, cs, cap, cap + 1, rfl, hsz, ?_, fun i hi h1 => ?_, fun e => by cases e⟩
    ·intro i v hv
     rw [mapL_eq] at hv
     simp only [List.getElem?_map, Option.map_eq_some_iff] at hv
     obtain ⟨b, hb, rfl⟩ := hv
     have hb' : s.data[i]? = some b := by simpa using hb
     have hlt := (Array.getElem?_eq_some_iff.1 hb').1
     refine ⟨.int .u8 b.toNat, ?_, by simp [R]⟩
     show cs[i + 0]? = _
     rw [Nat.add_zero]
     simp only [cs]
     rw [Array.getElem?_append_left (by simpa using hlt), Array.getElem?_map, hb']
     rfl
    ·have : i < cap := hi
     omega) (by
    intro e' cs' f' q' he
    cases he
    refine ⟨by omega, fun l hl => ?_, fun hl r' e' cs' p' h1 => ?_⟩
    ·have := h.famlt _ _ hl; omega
    ·have := h.rowfam _ _ _ _ _ h1; omega)
  refine ⟨_, _, _, hrun, h9, h8, ?_⟩
  exact R.slice_intro (ρ := ρ.add m.next pl) (r := m.next) (p := pl) (Rho.add_same _ _ _) (off := 0) hcap (fun e => by cases e) (fun _ => by
   show 0 + 0 + cap * 1 ≤ cap
   omega)
 ·exact trivial
theorem conv_sound (h : MR w0 B ρ m w) (src dst : TypeId) {a : AVal} {x : Value} (hx : R ρ a x) :
  VR w0 B ρ (convOp P src dst a m (P.underlying src) (P.underlying dst)) ((convert src dst x).run P w) := by
 unfold convOp
 split
 ·rename_i e hs hd
  cases he : isU8 P e with
  | false => exact trivial
  | true => exact bytesStrOf_sound h hs (isU8_some he) hd hx
 ·rename_i e hs hd
  cases he : isU8 P e with
  | false => exact trivial
  | true => exact strBytes_sound h hs hd (isU8_some he) hx
 ·exact lits1_sound h _ hx
def PR (P : Program) (ρ : Rho) (m : Mem) (t : TypeId) (v : AVal) : Place → Prop
 | .val x => R ρ v x
 | .var a => ∃ r off p, ρ r = some p ∧ a = ⟨p.b, off + p.s, none⟩ ∧ ((∃ n l, tagg P t = some true ∧ tsz P t = some n ∧ readCells m r off n = some l ∧ v = .agg l) ∨
   (tagg P t = some false ∧ read1 m r off = some v ∧ isCell v = true))
theorem PR.get (h : MR w0 B ρ m w) {t : TypeId} {v : AVal} {x : Place} (hp : PR P ρ m t v x) : ∃ y, (x.get t).run P w = .ok y w ∧ R ρ v y := by
 cases x with
 | val y => exact ⟨y, rfl, hp⟩
 | var a =>
  obtain ⟨r, off, p, h1, rfl, h2⟩ := hp
  have : Abs.loadVar P m t r off = some v := by
   unfold Abs.loadVar loadAs
   rcases h2 with ⟨n, l, h3, h4, h5, rfl⟩ | ⟨h3, h4, _⟩
   ·rw [h3, h4]; show aggO (readCells m r off n) = _; rw [h5]; rfl
   ·rw [h3]; exact h4
  obtain ⟨y, h3, h4⟩ := loadVar_sound h h1 this
  exact ⟨y, h3, h4⟩
theorem cell1_some {o : Option AVal} {v : AVal} (h : cell1 o = some v) : o = some v ∧ isCell v = true := by
 unfold cell1 at h
 split at h
 ·rename_i u
  cases hc : isCell u with
  | false => rw [hc] at h; cases h
  | true => rw [hc] at h; cases h; exact ⟨rfl, hc⟩
 ·cases h
theorem takeN_sub {l l' : List AVal} {n off k : Nat} (h : takeN n l = some l') {l2 : List AVal} (h2 : takeN k (l'.drop off) = some l2) : takeN k (l.drop off) = some l2 := by
 induction k generalizing off l2 with
 | zero => rw [takeN_zero] at h2 ⊢; exact h2
 | succ k ih =>
  obtain ⟨q1, q2⟩ := takeN_spec _ _ _ h
  cases hd : l'.drop off with
  | nil => rw [hd, takeN_nil] at h2; cases h2
  | cons y ys =>
   rw [hd, takeN_cons] at h2
   have hy : l'[off]? = some y := by
    have := congrArg (fun z => z[0]?) hd
    simpa using this
   obtain ⟨hl, hpz⟩ := q2 off y hy
   have hys : ys = l'.drop (off + 1) := by
    have := congrArg List.tail hd
    simpa using this.symm
   rw [hpz, cond_false] at h2
   have hoff := (List.getElem?_eq_some_iff.1 hl).1
   have : l.drop off = y :: l.drop (off + 1) := by
    rw [List.drop_eq_getElem_cons hoff]
    congr 1
    have := List.getElem?_eq_getElem hoff
    rw [hl] at this
    simpa using this.symm
   rw [this, takeN_cons, hpz, cond_false]
   rw [Option.map_eq_some_iff] at h2 ⊢
   obtain ⟨l3, h3, rfl⟩ := h2
   rw [hys] at h3
   exact ⟨l3, ih h3, rfl⟩
theorem readCells_sub {r off n : Nat} {l : List AVal} (h : readCells m r off n = some l) {o k : Nat} {l2 : List AVal} (h2 : takeN k (dropN l o) = some l2) : readCells m r (off + o) k = some l2 := by
 unfold readCells at h ⊢
 rw [dropN_eq] at h2
 split at h
 ·rw [dropN_eq] at h ⊢
  rw [← List.drop_drop]
  exact takeN_sub h h2
 ·rw [dropN_eq] at h ⊢
  rw [← List.drop_drop]
  exact takeN_sub h h2
 ·cases h
theorem read1_sub {r off n : Nat} {l : List AVal} (h : readCells m r off n = some l) {o : Nat} {v : AVal} (h2 : sound1 (getO l o) = some v) : read1 m r (off + o) = some v := by
 obtain ⟨h3, h4⟩ := sound1_some h2
 rw [getO_eq] at h3
 have key : ∀ cells : List AVal, takeN n (dropN cells off) = some l → sound1 (getO cells (off + o)) = some v := by
  intro cells hc
  obtain ⟨_, q2⟩ := takeN_spec _ _ _ hc
  obtain ⟨h5, _⟩ := q2 o v h3
  rw [dropN_eq, List.getElem?_drop] at h5
  rw [getO_eq, h5]
  show (bif isPoison v then none else some v) = _
  rw [h4]; rfl
 unfold readCells at h
 unfold read1
 split at h
 ·exact key _ h
 ·exact key _ h
 ·cases h
theorem run_fieldPlace {f : Field} {n : Nat} (hn : tsz P f.type = some n) (h0 : n ≠ 0) (a : Addr) (w : World) : (Go.fieldPlace a f).run P w = .ok (a.add f.offset) w := by
 unfold Go.fieldPlace
 rw [run_bind, run_sizeOf' hn]
 simp only [h0, if_false, run_pure]
theorem isAggV_agg {v : AVal} (h : isAggV v = true) : (∃ cs, v = .lit (.agg cs)) ∨ ∃ l, v = .agg l := by
 cases v with
 | lit v => cases v <;> simp [isAggV] at h; exact .inl ⟨_, rfl⟩
 | agg l => exact .inr ⟨l, rfl⟩
 | _ => simp [isAggV] at h
theorem stepF_ptr {f : Field} {d : Bool} {r off : Nat} : stepF P m f d (.ptr r off) = bif d then derefAs m r (off.add f.offset) (tagg P f.type) (tsz P f.type) else none := rfl
theorem stepF_other {f : Field} {d : Bool} {v : AVal} (hv : ∀ r off, v ≠ .ptr r off) : stepF P m f d v = bif !d && isAggV v then partAt v.cells f.offset (tagg P f.type) (tsz P f.type) else none := by
 cases v <;> first | rfl | exact absurd rfl (hv _ _)
theorem follow_sound (h : MR w0 B ρ m w) : ∀ (path : List FieldStep) (t : TypeId) (v : AVal) (x : Place) {t' : TypeId} {v' : AVal}, PR P ρ m t v x → Abs.follow P m path t v = some (t', v') →
  ∃ x', (Go.follow path t x).run P w = .ok (t', x') w ∧ PR P ρ m t' v' x' := by
 intro path
 induction path with
 | nil => intro t v x t' v' hx e; cases e; exact ⟨x, rfl, hx⟩
 | cons s rest ih =>
  intro t v x t' v' hx e
  have e' : (match fieldOf P s.struct s.index with | none => none | some f => match stepF P m f s.deref v with | some w => Abs.follow P m rest f.type w | none => none) = some (t', v') := e
  cases hf : fieldOf P s.struct s.index with
  | none => rw [hf] at e'; cases e'
  | some f =>
   rw [hf] at e'
   dsimp only at e'
   obtain ⟨fs, hu, hfi⟩ := fieldOf_some hf
   cases hst : stepF P m f s.deref v with
   | none => rw [hst] at e'; cases e'
   | some u =>
    rw [hst] at e'
    dsimp only at e'
    show ∃ x', ((do
     let .struct fields ← underlying s.struct | stuck "method row: struct type expected"
     let some f := fields[s.index]? | stuck "method row: no such field"
     if s.deref then
      let a ← asAddr (← x.get t)
      Go.follow rest f.type (.var (← Go.fieldPlace a f))
     else match x with
      | .var a => do Go.follow rest f.type (.var (← Go.fieldPlace a f))
      | .val (.agg cs) => do Go.follow rest f.type (.val (← Go.part f.type cs f.offset))
      | .val _ => stuck "method row: struct value expected") : Sem (TypeId × Place)).run P w = .ok (t', x') w ∧ _
    rw [run_bind, run_underlying' hu]
    simp only [hfi]
    by_cases hptr : ∃ r off, v = .ptr r off
    ·obtain ⟨r, off, rfl⟩ := hptr
     rw [stepF_ptr] at hst
     cases hd : s.deref with
     | false => rw [hd] at hst; cases hst
     | true =>
      rw [hd, cond_true] at hst
      obtain ⟨y, hy, hR⟩ := PR.get h hx
      simp only [R] at hR
      obtain ⟨p, hp, rfl⟩ := hR
      have hnew : ∃ n, tsz P f.type = some n ∧ n ≠ 0 ∧ PR P ρ m f.type u (.var (Addr.add ⟨p.b, off + p.s, none⟩ f.offset)) := by
       unfold derefAs at hst
       split at hst
       ·rename_i n ha hn
        cases h0 : n.beq 0 with
        | true => rw [h0] at hst; cases hst
        | false =>
         rw [h0, cond_false] at hst
         obtain ⟨l, h5, rfl⟩ := aggO_some hst
         refine ⟨n, hn, nat_beq_f.1 h0, r, off + f.offset, p, hp, ?_, .inl ⟨n, l, ha, hn, h5, rfl⟩⟩
         rw [add_addr, show off + p.s + f.offset = off + f.offset + p.s from by omega]
       ·rename_i n ha hn
        cases h0 : n.beq 0 with
        | true => rw [h0] at hst; cases hst
        | false =>
         rw [h0, cond_false] at hst
         obtain ⟨h5, h6⟩ := cell1_some hst
         refine ⟨n, hn, nat_beq_f.1 h0, r, off + f.offset, p, hp, ?_, .inr ⟨ha, h5, h6⟩⟩
         rw [add_addr, show off + p.s + f.offset = off + f.offset + p.s from by omega]
       ·cases hst
      obtain ⟨n, hn, h0, hPR⟩ := hnew
      obtain ⟨x', h7, h8⟩ := ih _ _ _ hPR e'
      refine ⟨x', ?_, h8⟩
      simp only [if_true, run_bind, hy, asAddr, run_pure, run_fieldPlace hn h0]
      exact h7
    ·rw [stepF_other (fun r off e => hptr ⟨r, off, e⟩)] at hst
     cases hd : s.deref with
     | true => rw [hd] at hst; cases hst
     | false =>
      cases hv : isAggV v with
      | false => rw [hd, hv] at hst; cases hst
      | true =>
       rw [hd, hv] at hst
       have hst' : partAt v.cells f.offset (tagg P f.type) (tsz P f.type) = some u := hst
       simp only [Bool.false_eq_true, if_false]
       have hn : ∃ n, tsz P f.type = some n ∧ n ≠ 0 ∧ ((∃ l, tagg P f.type = some true ∧ takeN n (dropN v.cells f.offset) = some l ∧ u = .agg l) ∨ (tagg P f.type = some false ∧ sound1 (getO v.cells f.offset) = some u ∧ isCell u = true)) := by
        unfold partAt at hst'
        split at hst'
        ·rename_i n ha hn
         cases h0 : n.beq 0 with
         | true => rw [h0] at hst'; cases hst'
         | false =>
          rw [h0, cond_false] at hst'
          obtain ⟨l, h5, rfl⟩ := aggO_some hst'
          exact ⟨n, hn, nat_beq_f.1 h0, .inl ⟨l, ha, h5, rfl⟩⟩
        ·rename_i n ha hn
         cases h0 : n.beq 0 with
         | true => rw [h0] at hst'; cases hst'
         | false =>
          rw [h0, cond_false] at hst'
          obtain ⟨h5, h6⟩ := cell1_some hst'
          exact ⟨n, hn, nat_beq_f.1 h0, .inr ⟨ha, h5, h6⟩⟩
        ·cases hst'
       obtain ⟨n, hn, h0, hcase⟩ := hn
       cases x with
       | var a =>
        obtain ⟨r, off, p, hp, rfl, hpr⟩ := hx
        have hagg : ∃ k l, readCells m r off k = some l ∧ v = .agg l := by
         rcases hpr with ⟨k, l, _, _, h5, h6⟩ | ⟨_, _, h6⟩
         ·exact ⟨k, l, h5, h6⟩
         ·rcases isAggV_agg hv with ⟨cs, rfl⟩ | ⟨l, rfl⟩ <;> cases h6
        obtain ⟨k, l, hk, rfl⟩ := hagg
        have hPR : PR P ρ m f.type u (.var (Addr.add ⟨p.b, off + p.s, none⟩ f.offset)) := by
         refine ⟨r, off + f.offset, p, hp, by rw [add_addr, show off + p.s + f.offset = off + f.offset + p.s from by omega], ?_⟩
         rcases hcase with ⟨l2, ha, h5, rfl⟩ | ⟨ha, h5, h6⟩
         ·exact .inl ⟨n, l2, ha, hn, readCells_sub hk h5, rfl⟩
         ·exact .inr ⟨ha, read1_sub hk h5, h6⟩
        obtain ⟨x', h7, h8⟩ := ih _ _ _ hPR e'
        refine ⟨x', ?_, h8⟩
        simp only [run_bind, run_fieldPlace hn h0]
        exact h7
       | val y =>
        obtain ⟨cs, rfl, hc⟩ := isAggV_cells hx hv
        have hpart : Abs.part P f.type v.cells f.offset = some u := by
         unfold Abs.part partAs
         rcases hcase with ⟨l2, ha, h5, rfl⟩ | ⟨ha, h5, h6⟩
         ·rw [ha, hn]; show aggO _ = _; rw [h5]; rfl
         ·rw [ha]; exact h5
        obtain ⟨z, h5, h6⟩ := part_sound hc hpart w
        obtain ⟨x', h7, h8⟩ := ih f.type u (.val z) h6 e'
        refine ⟨x', ?_, h8⟩
        simp only [run_bind, h5]
        exact h7
theorem recvAt_sound (h : MR w0 B ρ m w) {f g : FuncId} {xt : TypeId} {pr : Bool} {v u : AVal} {x : Place} (hx : PR P ρ m xt v x) (e : recvAt P m f xt pr v = some (g, u)) (wr : Option String) :
  g = f ∧ ∃ y, (receiverAt xt x pr wr).run P w = .ok y w ∧ R ρ u y := by
 unfold recvAt at e
 obtain ⟨y, hy, hR⟩ := PR.get h hx
 split at e
 ·rename_i d hd
  cases e
  refine ⟨rfl, y, ?_, hR⟩
  unfold receiverAt
  rw [run_bind, run_underlying' hd]
  exact hy
 ·rename_i d hd
  split at e
  ·rename_i r off
   rw [Option.map_eq_some_iff] at e
   obtain ⟨u', h1, h2⟩ := e
   cases h2
   simp only [R] at hR
   obtain ⟨p, hp, rfl⟩ := hR
   obtain ⟨z, h3, h4⟩ := loadVar_sound h hp h1
   refine ⟨rfl, z, ?_, h4⟩
   unfold receiverAt
   rw [run_bind, run_underlying' hd]
   dsimp only
   rw [run_bind, hy]
   dsimp only
   cases wr with
   | none =>
    dsimp only
    simp only [run_bind, run_pure, asAddr]
    exact h3
   | some name =>
    dsimp only
    have hs : (Builtin.ssaWrapNilChk_ #[xt] xt #[.pointer (some ⟨p.b, off + p.s, none⟩), strVal "", strVal name]).run P w = .ok (.pointer (some ⟨p.b, off + p.s, none⟩)) w := rfl
    simp only [run_bind, hs, run_pure, asAddr]
    exact h3
  ·cases e
 ·rename_i d hd hno
  cases e
  refine ⟨rfl, y, ?_, hR⟩
  unfold receiverAt
  rw [run_bind, run_underlying' hno]
  cases d with
  | pointer z => exact absurd rfl (hd z)
  | _ => exact hy
 ·cases e
theorem methodOf_sound (h : MR w0 B ρ m w) {name : String} : ∀ (fuel n : Nat) (t : TypeId) {v : AVal} {x : Value} {f : FuncId} {u : AVal}, fuel ≤ n → R ρ v x → methodOf P m fuel t v name = some (f, u) →
  ∃ y, (method n t x name).run P w = .ok (f, y) w ∧ R ρ u y := by
 intro fuel
 induction fuel with
 | zero => intro n t v x f u _ _ e; cases e
 | succ fuel ih =>
  intro n t v x f u hn hx e
  obtain ⟨n, rfl⟩ : ∃ k, n = k + 1 := ⟨n - 1, by omega⟩
  unfold methodOf at e
  split at e
  ·cases e
  ·rename_i mt hmt
   unfold methodRow at hmt
   rw [Option.bind_eq_some_iff] at hmt
   obtain ⟨i, hi, hfind⟩ := hmt
   split at e
   ·cases e
   ·rename_i xt v2 hfo
    obtain ⟨x2, h1, h2⟩ := follow_sound h _ _ _ (.val x) hx hfo
    split at e
    ·rename_i hmf
     obtain ⟨y, h3, h4⟩ := PR.get h h2
     have hrec : ∀ t' v' y', y = .iface t' y' → R ρ v' y' → methodOf P m fuel t' v' name = some (f, u) → ∃ y, (method (n + 1) t x name).run P w = .ok (f, y) w ∧ R ρ u y := by
      rintro t' v' y' rfl hR' e'
      obtain ⟨z, h6, h7⟩ := ih n t' (by omega) hR' e'
      refine ⟨z, ?_, h7⟩
      unfold method
      rw [run_bind, run_typeInfo' hi]
      simp only [hfind, run_bind, h1, hmf, h3]
      exact h6
     split at e
     ·rename_i t' v'
      simp only [R] at h4
      obtain ⟨y', rfl, h5⟩ := h4
      exact hrec _ _ _ rfl h5 e
     ·rename_i t' v'
      simp only [R] at h4
      subst h4
      exact hrec _ _ _ rfl (by simp [R]) e
     ·cases e
    ·rename_i g pr hmf
     obtain ⟨rfl, y, h3, h4⟩ := recvAt_sound h h2 e (if mt.path.isEmpty then some ((name.splitOn ".").getLastD name) else none)
     refine ⟨y, ?_, h4⟩
     unfold method
     rw [run_bind, run_typeInfo' hi]
     simp only [hfind, run_bind, h1, hmf, h3, run_pure]
end
open Go.RowKit (Below)
section
variable {P : Program} {w0 : Wo} {B : Nat} {ρ : Rho} {m : Mem} {w : World}
theorem TR.set {t : T AVal} {a : Array Value} (h : TR ρ t a) {nt : Nat} (hs : a.size = nt) (d : Tmp) {v : AVal} {x : Value} (hv : R ρ v x) : TR ρ (setIn nt t d v) (a.setIfInBounds d x) := by
 intro i
 unfold setIn
 cases hd : d.succ.ble nt with
 | true =>
  rw [nat_ble] at hd
  rw [cond_true, getT_set]
  by_cases e : d = i
  ·subst e
   rw [if_pos rfl]
   have : d < a.size := by rw [hs]; exact hd
   rw [Array.getD_eq_getD_getElem?, Array.getElem?_setIfInBounds, if_pos rfl, if_pos this]
   exact hv
  ·rw [if_neg e, Array.getD_eq_getD_getElem?, Array.getElem?_setIfInBounds, if_neg e, ← Array.getD_eq_getD_getElem?]
   exact h i
 | false =>
  rw [nat_ble_f] at hd
  have hd' : nt < d + 1 := hd
  rw [cond_false]
  have : a.setIfInBounds d x = a := by
   apply Array.ext_getElem?
   intro j
   rw [Array.getElem?_setIfInBounds]
   by_cases e : d = j
   ·subst e; rw [if_pos rfl, if_neg (by omega), Array.getElem?_eq_none (by omega)]
   ·rw [if_neg e]
  rw [this]
  exact h i
theorem setMany_nil (nt : Nat) (vs : List AVal) (tm : T AVal) : setMany nt [] vs tm = tm := rfl
theorem setMany_cons_nil (nt : Nat) (t : Tmp) (ts : List Tmp) (tm : T AVal) : setMany nt (t :: ts) [] tm = tm := rfl
theorem setMany_cons (nt : Nat) (t : Tmp) (ts : List Tmp) (v : AVal) (vs : List AVal) (tm : T AVal) : setMany nt (t :: ts) (v :: vs) tm = setMany nt ts vs (setIn nt tm t v) := rfl
theorem TR.setMany {nt : Nat} : ∀ (ts : List Tmp) {vs : List AVal} {xs : List Value} {t : T AVal} {a : Array Value}, TR ρ t a → a.size = nt → RL ρ vs xs →
  TR ρ (setMany nt ts vs t) ((ts.zip xs).foldl (fun tmps (t, a) => tmps.setIfInBounds t a) a) ∧ ((ts.zip xs).foldl (fun tmps (t, a) => tmps.setIfInBounds t a) a).size = nt
 | [], vs, xs, t, a, h, hs, _ => ⟨by simpa [setMany_nil] using h, by simpa using hs⟩
 | d :: ts, [], xs, t, a, h, hs, hl => by
  obtain rfl : xs = [] := by simpa only [RL] using hl
  exact ⟨by simpa [setMany_cons_nil] using h, by simpa using hs⟩
 | d :: ts, v :: vs, xs, t, a, h, hs, hl => by
  obtain ⟨y, ys, rfl, h1, h2⟩ := hl.cons_inv
  rw [setMany_cons]
  simp only [List.zip_cons_cons, List.foldl_cons]
  exact TR.setMany ts (h.set hs d h1) (by simpa using hs) h2
theorem run_getLoop {b : Nat} {x : Loop} (h : w.heap[b]? = some (.loop x)) : (Instr.getLoop b).run P w = .ok x w := by
 unfold Instr.getLoop
 rw [run_bind, run_getObj (P := P) h (fun _ _ _ e => by cases e)]
 rfl
theorem MR.loop (h : MR w0 B ρ m w) {r : Nat} {l : ALoop} (ho : m.heap.get r = some (.loop l)) {p : Pl} (hp : ρ r = some p) :
  B ≤ p.b ∧ p = Pl.obj p.b ∧ ∃ x, w.heap[p.b]? = some (.loop x) ∧ LoopR ρ l x := h.obj r _ p ho hp
theorem yield_sound (h : MR w0 B ρ m w) {l b : Nat} (hp : ρ l = some (Pl.obj b)) {args : List AVal} {xs : Array Value} (hl : RL ρ args xs.toList) :
  NR w0 B ρ m w (yieldOp m l args) P ((Instr.yield b xs).run P w) := by
 unfold yieldOp
 split
 ·rename_i st pe fn nt tm ps a bd d ho
  cases hlen : (lenL ps).beq (lenL args) with
  | false => exact trivial
  | true =>
   rw [cond_true]
   rw [nat_beq, lenL_eq, lenL_eq] at hlen
   obtain ⟨_, _, x, hw, hL⟩ := h.loop ho hp
   have hps : x.params.toList = ps := hL.params
   have hsz : xs.size = x.params.size := by
    have := hl.length
    have hp2 : x.params.size = ps.length := by rw [← hps]; simp
    simp at this
    omega
   have hT := TR.setMany (ρ := ρ) ps (t := tm) (a := x.tmps) hL.tmps hL.size hl
   refine ⟨rfl, b, _, ?_, hp, hT.1, hT.2⟩
   unfold Instr.yield
   rw [run_bind, run_getLoop (b := b) hw]
   dsimp only
   rw [if_neg (by omega)]
   have hz : (x.params.zip xs).foldl (fun tmps (t, a) => tmps.setIfInBounds t a) x.tmps = (ps.zip xs.toList).foldl (fun tmps (t, a) => tmps.setIfInBounds t a) x.tmps := by
    rw [← Array.foldl_toList]
    rw [Array.toList_zip, hps]
   have e1 : x.fn = fn := hL.fn
   have e2 : x.assign = a := hL.assign
   have e3 : x.body = bd := hL.body
   rw [hz, e1, e2, e3]
   rfl
 ·exact trivial
theorem methodCall_sound (h : MR w0 B ρ m w) {name : String} {args : List AVal} {xs : Array Value} (hl : RL ρ args xs.toList) {v : AVal} {x : Value} (hx : R ρ v x) :
  NR w0 B ρ m w (methodCall P name args m v) P ((callMethod x name xs).run P w) := by
 have key : ∀ (t : TypeId) (v' : AVal) (y : Value), R ρ v' y → NR w0 B ρ m w (calledM args m (methodOf P m 8 t v' name)) P ((callMethod (.iface t y) name xs).run P w) := by
  intro t v' y hR
  cases hm : methodOf P m 8 t v' name with
  | none => exact trivial
  | some q =>
   obtain ⟨f, u⟩ := q
   obtain ⟨z, h1, h2⟩ := methodOf_sound h 8 (P.types.size + Made.depth) t (by unfold Made.depth; omega) hR hm
   refine ⟨rfl, #[z] ++ xs, ?_, ?_⟩
   ·unfold callMethod
    dsimp only
    rw [run_bind]
    simp only [program, Sem.run, run_bind, h1]
   ·simp only [Array.toList_append, List.cons_append, List.nil_append, RL]
    exact ⟨z, _, rfl, h2, hl⟩
 unfold methodCall
 split
 ·simp only [R] at hx
  obtain ⟨y, rfl, hR⟩ := hx
  exact key _ _ _ hR
 ·simp only [R] at hx
  subst hx
  exact key _ _ _ (by simp [R])
 ·simp only [R] at hx
  subst hx
  exact ⟨_, w, ρ, rfl, Rho.le.refl ρ, h, by simp [R, rtErr]⟩
 ·exact trivial
theorem RL.extract1 {v : AVal} {vs : List AVal} {xs : Array Value} (hl : RL ρ (v :: vs) xs.toList) : ∃ y, xs[0]? = some y ∧ R ρ v y ∧ RL ρ vs (xs.extract 1 xs.size).toList := by
 obtain ⟨y, ys, h1, h2, h3⟩ := hl.cons_inv
 obtain ⟨l⟩ := xs
 dsimp only at h1
 subst h1
 refine ⟨y, by simp, h2, ?_⟩
 have : ((y :: ys).toArray.extract 1 (y :: ys).toArray.size).toList = ys := by simp
 rw [this]
 exact h3
theorem fnCall_sound (h : MR w0 B ρ m w) {fn fn' : Fn} {cap args : List AVal} {cap' : Array Value} {xs : Array Value} (ht : TgR ρ (.fn fn #[]) cap (.fn fn' cap')) (hl : RL ρ args xs.toList) :
  NR w0 B ρ m w (fnCall P cap args m fn) P ((invoke (.fn fn' cap') xs).run P w) := by
 cases fn with
 | yield l =>
  obtain ⟨b, hp, h1, h2⟩ := ht
  cases h1
  exact yield_sound h hp hl
 | func f =>
  obtain ⟨c', h1, h2⟩ := ht
  cases h1
  refine ⟨rfl, xs ++ cap', rfl, ?_⟩
  rw [appL_eq, Array.toList_append]
  exact hl.append h2
 | method name =>
  obtain ⟨c', h1, h2⟩ := ht
  cases h1
  cases args with
  | nil => exact trivial
  | cons r rest =>
   obtain ⟨y, h3, h4, h5⟩ := hl.extract1
   have := methodCall_sound (P := P) h (name := name) h5 h4
   show NR w0 B ρ m w (methodCall P name rest m r) P _
   have hr : (invoke (.fn (.method name) cap') xs).run P w = (callMethod y name (xs.extract 1 xs.size)).run P w := by
    unfold invoke
    simp only [h3]
   rw [hr]
   exact this
 | via t path f pr =>
  obtain ⟨c', h1, h2⟩ := ht
  cases h1
  cases args with
  | nil => exact trivial
  | cons x rest =>
   obtain ⟨y, h3, h4, h5⟩ := hl.extract1
   show NR w0 B ρ m w (viaCall P f pr rest m (Abs.follow P m path.toList t x)) P _
   cases hf : Abs.follow P m path.toList t x with
   | none => exact trivial
   | some q =>
    obtain ⟨xt, v⟩ := q
    show NR w0 B ρ m w (calledM rest m (recvAt P m f xt pr v)) P _
    cases hr : recvAt P m f xt pr v with
    | none => exact trivial
    | some q =>
     obtain ⟨g, u⟩ := q
     obtain ⟨x', h6, h7⟩ := follow_sound h _ _ _ (.val y) h4 hf
     obtain ⟨rfl, z, h8, h9⟩ := recvAt_sound h h7 hr none
     refine ⟨rfl, #[z] ++ xs.extract 1 xs.size, ?_, ?_⟩
     ·unfold invoke
      simp only [h3, run_bind, receiverVia, h6, h8]
     ·simp only [Array.toList_append, List.cons_append, List.nil_append, RL]
      exact ⟨z, _, rfl, h9, h5⟩
 | methodOf t name =>
  obtain ⟨c', h1, h2⟩ := ht
  cases h1
  cases args with
  | nil => exact trivial
  | cons x rest =>
   obtain ⟨y, h3, h4, h5⟩ := hl.extract1
   show NR w0 B ρ m w (match P.underlying t with | some (.interface _) => methodCall P name rest m x | some _ => methodCall P name rest m (.iface t x) | none => .bad "methodOf") P _
   have hrun : ∀ d, P.underlying t = some d → (invoke (.fn (.methodOf t name) cap') xs).run P w = (callMethod (match d with | .interface _ => y | _ => .iface t y) name (xs.extract 1 xs.size)).run P w := by
    intro d hd
    unfold invoke
    simp only [h3, run_bind, run_underlying' hd]
    cases d <;> rfl
   cases hd : P.underlying t with
   | none =>
    exact trivial
   | some d =>
    rw [hrun d hd]
    cases d with
    | interface i => exact methodCall_sound h h5 h4
    | _ => exact methodCall_sound h h5 (by simp only [R]; exact ⟨_, rfl, h4⟩)
theorem invoke_sound (h : MR w0 B ρ m w) {t t' : Target} {cap args : List AVal} {xs : Array Value} (ht : TgR ρ t cap t') (hl : RL ρ args xs.toList) :
  NR w0 B ρ m w (callTarget P cap args m t) P ((invoke t' xs).run P w) := by
 cases t with
 | fn fn c =>
  have ht2 : TgR ρ (.fn fn #[]) cap t' := ht
  cases t' with
  | fn fn' cap' => exact fnCall_sound h ht2 hl
  | _ =>
   exfalso
   cases fn <;> first
    | (obtain ⟨b, _, h1, _⟩ := ht2; cases h1)
    | (obtain ⟨b, h1, _⟩ := ht2; cases h1)
 | builtin b ats ty cs =>
  obtain ⟨ty', cs', rfl⟩ := ht
  exact builtin_sound h b ats ty' cs' hl
 | nil =>
  have ht2 : t' = .nil := ht
  subst ht2
  exact ⟨_, w, ρ, rfl, Rho.le.refl ρ, h, by simp [R, rtErr]⟩
 | _ => exact trivial
theorem fnDef_sound {v : AVal} {x : Value} (hx : R ρ v x) {args : List AVal} {xs : Array Value} (hl : RL ρ args xs.toList) {d : ADef} (e : fnDef args v = some d) (w : World) :
  d.coll = none ∧ ∃ y, (Deferred.ofValue x xs).run P w = .ok y w ∧ DR ρ d y := by
 unfold fnDef at e
 split at e
 ·rename_i fn first captured
  cases hy : isYield fn with
  | true => rw [hy] at e; cases e
  | false =>
   rw [hy, cond_false] at e
   cases e
   simp only [R] at hx
   subst hx
   refine ⟨rfl, _, rfl, ?_, ?_⟩
   ·dsimp only
    rw [appL_eq, mapL_eq, Array.toList_append]
    exact (RL.lits _).append hl
   ·dsimp only
    cases fn with
    | yield l => cases hy
    | _ => exact ⟨_, rfl, by rw [mapL_eq]; exact RL.lits _⟩
 ·rename_i fn first captured
  cases e
  simp only [R] at hx
  obtain ⟨hy, f', c', rfl, h1, h2⟩ := hx
  refine ⟨rfl, _, rfl, ?_, ?_⟩
  ·dsimp only
   rw [appL_eq, Array.toList_append]
   exact h1.append hl
  ·dsimp only
   cases fn with
   | yield l => cases hy
   | _ => exact ⟨_, rfl, h2⟩
 ·rename_i l
  cases e
  simp only [R] at hx
  obtain ⟨b, hp, rfl⟩ := hx
  refine ⟨rfl, _, rfl, ?_, ?_⟩
  ·dsimp only
   simpa using hl
  ·exact ⟨b, hp, rfl, rfl⟩
 ·cases e
  simp only [R] at hx
  subst hx
  exact ⟨rfl, _, rfl, hl, rfl⟩
 ·cases e
theorem RL.mapE {ρ' : Operand → Value} {tmps : T AVal} (hev : ∀ x, R ρ (evalT tmps x) (ρ' x)) (l : Array Operand) : RL ρ (mapL (evalT tmps) l.toList) (l.map ρ').toList := by
 rw [mapL_eq, Array.toList_map]
 exact RL.map_of _ _ _ fun a _ => hev a
theorem resolve_sound {ρ' : Operand → Value} {tmps : T AVal} (hev : ∀ x, R ρ (evalT tmps x) (ρ' x)) (c : Call) (ty : TypeId) {d : ADef} (e : resolveC tmps c = some d) (w : World) :
  d.coll = none ∧ ∃ y, (resolve ρ' c ty).run P w = .ok y w ∧ DR ρ d y := by
 unfold resolveC at e
 have hargs := RL.mapE hev c.args
 unfold resolve
 cases hc : c.callee with
 | builtin b =>
  rw [hc] at e
  cases e
  exact ⟨rfl, _, rfl, hargs, ⟨_, _, rfl⟩⟩
 | invoke recv name =>
  rw [hc] at e
  cases e
  refine ⟨rfl, _, rfl, ?_, ⟨#[], rfl, by simp [RL]⟩⟩
  simp only [Array.toList_append, List.cons_append, List.nil_append, RL]
  exact ⟨_, _, rfl, hev recv, hargs⟩
 | value f =>
  rw [hc] at e
  exact fnDef_sound (hev f) hargs e w
theorem callD_sound (h : MR w0 B ρ m w) {ρ' : Operand → Value} {tmps : T AVal} (hev : ∀ x, R ρ (evalT tmps x) (ρ' x)) (c : Call) (ty : TypeId) :
  NR w0 B ρ m w (callD P m (resolveC tmps c)) P ((do let d ← resolve ρ' c ty; invoke d.target d.args : Sem Next).run P w) := by
 cases hd : resolveC tmps c with
 | none => exact trivial
 | some d =>
  obtain ⟨h1, y, h2, h3⟩ := resolve_sound hev c ty hd w (P := P)
  rw [run_bind, h2]
  obtain ⟨t, cap, coll, args⟩ := d
  dsimp only at h1
  subst h1
  obtain ⟨h4, h5⟩ := h3
  exact invoke_sound h h5 h4
end
open Go.RowKit (Below)
section
variable {P : Program} {w0 : Wo} {B : Nat} {ρ : Rho} {m : Mem} {w : World}
theorem NR.same {v : AVal} {x : Value} (h : MR w0 B ρ m w) (hv : R ρ v x) : NR w0 B ρ m w (.val v m) P (.ok (.value x) w) := ⟨x, w, ρ, .inl rfl, Rho.le.refl ρ, h, hv⟩
theorem OptR.mapE {ρ' : Operand → Value} {tmps : T AVal} (hev : ∀ x, R ρ (evalT tmps x) (ρ' x)) (o : Option Operand) : OptR ρ (o.map (evalT tmps)) (o.map ρ') := by
 cases o with
 | none => exact trivial
 | some x => exact hev x
theorem aop_sound (h : MR w0 B ρ m w) {ρ' : Operand → Value} {tmps : T AVal} (hev : ∀ x, R ρ (evalT tmps x) (ρ' x)) (o : Oper) :
  NR w0 B ρ m w (aop P tmps m o.op) P ((execOp ρ' o).run P w) := by
 cases ho : o.op with
 | move x => simp only [execOp, ho]; exact NR.same h (hev x)
 | assign x => simp only [execOp, ho]; exact NR.same h (hev x)
 | pick c a b =>
  simp only [execOp, ho]
  have := pick_sound (P := P) h (hev a) (hev b) (hev c)
  show NR w0 B ρ m w (pickOp m (evalT tmps a) (evalT tmps b) (boolOf (evalT tmps c))) P _
  have h2 := NR.of_VR (m := m) (s := (do pure (if ← asBool (ρ' c) then ρ' a else ρ' b) : Sem Value)) this
  rw [run_bind, run_bind] at h2
  rw [run_bind]
  revert h2
  cases (asBool (ρ' c)).run P w with
  | ok t w' => exact id
  | halt e w' => exact id
 | alloc t => simp only [execOp, ho]; exact NR.of_VR (s := Instr.alloc t true (.tuple #[])) (alloc_sound h t)
 | box t x => simp only [execOp, ho]; exact NR.of_VR (s := Instr.box t (ρ' x)) (box_sound h t (hev x))
 | build t parts => simp only [execOp, ho]; exact NR.of_VR (build_sound h t hev parts)
 | buildSlice t len parts => simp only [execOp, ho]; exact NR.of_VR (buildSlice_sound h t len hev parts)
 | load t a => simp only [execOp, ho]; exact NR.of_VR (load_sound h t (hev a))
 | store t a x => simp only [execOp, ho]; exact NR.of_UR (store_sound h t (hev a) (hev x))
 | nilCheck x =>
  have := nilCheck_sound (P := P) h (hev x) o ρ' x ho rfl
  show NR w0 B ρ m w (nilCheck P m (evalT tmps x)) P _
  revert this
  cases nilCheck P m (evalT tmps x) with
  | val u m' => rintro ⟨rfl, h1, h2⟩; rw [h2]; exact NR.same h h1
  | panic u m' => rintro ⟨rfl, y, h1, h2⟩; rw [h2]; exact ⟨y, w, ρ, rfl, Rho.le.refl ρ, h, h1⟩
  | bad _ => intro _; exact trivial
  | _ => exact fun e => e.elim
 | binOp op t x y _ => simp only [execOp, ho]; exact NR.of_VR (binOp_sound h op t x y (hev x) (hev y))
 | unOp op _ x => simp only [execOp, ho]; exact NR.of_VR (lits1_sound h _ (hev x))
 | convert src dst x => simp only [execOp, ho]; exact NR.of_VR (conv_sound h src dst (hev x))
 | makeInterface t x => simp only [execOp, ho]; exact NR.of_VR (mkIface_sound h t (hev x))
 | makeFunc fn first captured =>
  simp only [execOp, ho]
  show NR w0 B ρ m w (bif isYield fn then .bad "makeFunc" else .val (.func fn (mapL (evalT tmps) first.toList) (mapL (evalT tmps) captured.toList)) m) P _
  cases hy : isYield fn with
  | true => exact trivial
  | false =>
   rw [cond_false]
   refine NR.same h ?_
   simp only [R]
   exact ⟨hy, _, _, rfl, RL.mapE hev first, RL.mapE hev captured⟩
 | makeMap t r =>
  simp only [execOp, ho]
  refine NR.of_VR (makeMap_sound h t (r.map (evalT tmps)) (r.map ρ') ?_ ?_)
  ·intro v hv
   rw [Option.map_eq_some_iff] at hv
   obtain ⟨x, rfl, rfl⟩ := hv
   exact ⟨_, rfl, hev x⟩
  ·intro hv
   rw [Option.map_eq_none_iff] at hv
   rw [hv]; rfl
 | makeSlice t l c => simp only [execOp, ho]; exact NR.of_VR (makeSl_sound h t (hev l) (hev c))
 | slice t x lo hi mx => simp only [execOp, ho]; exact NR.of_VR (slice_sound h t (hev x) (OptR.mapE hev lo) (OptR.mapE hev hi) (OptR.mapE hev mx))
 | fieldAddr s x f => simp only [execOp, ho]; exact NR.of_VR (fieldAddr_sound h s f (hev x))
 | field s x f => simp only [execOp, ho]; exact NR.of_VR (field_sound h s f (hev x))
 | indexAddr t x ix => simp only [execOp, ho]; exact NR.of_VR (indexAddr_sound h t (hev x) (hev ix))
 | index t x ix => simp only [execOp, ho]; exact NR.of_VR (index_sound h t (hev x) (hev ix))
 | lookup t x k ok => simp only [execOp, ho]; exact NR.of_VR (lookup_sound h t ok (hev x) (hev k))
 | mapUpdate t mp k x => simp only [execOp, ho]; exact NR.of_UR (mapUpdate_sound h t (hev mp) (hev k) (hev x))
 | insert t mp k x => simp only [execOp, ho]; exact NR.of_UR (mapUpdate_sound h t (hev mp) (hev k) (hev x))
 | range t x => simp only [execOp, ho]; exact NR.of_VR (range_sound h t (hev x))
 | entry it => simp only [execOp, ho]; exact NR.of_VR (entry_sound h (hev it))
 | typeAssert x t asserted ok => simp only [execOp, ho]; exact NR.of_VR (typeAssert_sound h t asserted ok (hev x))
 | extract t ix => simp only [execOp, ho]; exact NR.of_VR (extract_sound h ix (hev t))
 | call c => simp only [execOp, ho]; exact callD_sound h hev c o.type
 | panic x => simp only [execOp, ho]; exact NR.of_VR (panic_sound h (hev x))
 | _ => exact trivial
theorem ptrNe_sound (h : MR w0 B ρ m w) {neq : Bool} {t : TypeId} {ox oy : Operand} {a b : AVal} {x y : Value} (hx : R ρ a x) (hy : R ρ b y) {c : Bool} (e : ptrNe P m neq t a b = some c) :
  (binF (if neq then .neq else .eql) t ox oy x y).run P w = .ok (.bool c) w := by
 unfold ptrNe at e
 split at e
 ·rename_i r o q p
  simp only [R] at hx hy
  obtain ⟨p1, e1, rfl⟩ := hx
  obtain ⟨p2, e2, rfl⟩ := hy
  cases hc : !(r.beq q) && isPtrT P t && ownVar m r o && ownVar m q p with
  | false => rw [hc] at e; cases e
  | true =>
   rw [hc] at e
   cases e
   simp only [Bool.and_eq_true, Bool.not_eq_true', nat_beq_f] at hc
   obtain ⟨⟨⟨c1, c2⟩, c3⟩, c4⟩ := hc
   obtain ⟨et, n, hu, hn, h0⟩ := isPtrT_some c2
   have hr := (run_eq_ptr2 hu hn h0 ⟨p1.b, o + p1.s, none⟩ ⟨p2.b, p + p2.s, none⟩ w).trans (h.apart (P := P) c3 c4 c1 e1 e2).2
   rw [run_eqF neq (by simp) (by simp) hr (fun op e => by subst e; cases neq <;> rfl)]
   cases neq <;> rfl
 ·cases e
theorem aop2_of {tmps : T AVal} {op : Op} {out : Out} (h : aop P tmps m op = out) (hb : ∀ w, out ≠ .bad w) : aop2 P tmps m op = out := by
 unfold aop2
 rw [h]
 cases out <;> first | rfl | exact absurd rfl (hb _)
theorem aop2_sound (h : MR w0 B ρ m w) {ρ' : Operand → Value} {tmps : T AVal} (hev : ∀ x, R ρ (evalT tmps x) (ρ' x)) (o : Oper) :
  NR w0 B ρ m w (aop2 P tmps m o.op) P ((execOp ρ' o).run P w) := by
 unfold aop2
 have h0 := aop_sound h hev o (P := P)
 split
 ·rename_i why _
  unfold orCmp
  split
  ·rename_i c hc
   unfold ptrCmp at hc
   split at hc
   ·rename_i t x y z ho
    simp only [execOp, ho]
    refine NR.of_VR ((VR.lit h).of_eq ?_)
    exact ptrNe_sound (neq := false) h (hev x) (hev y) hc
   ·rename_i t x y z ho
    simp only [execOp, ho]
    refine NR.of_VR ((VR.lit h).of_eq ?_)
    exact ptrNe_sound (neq := true) h (hev x) (hev y) hc
   ·cases hc
  ·exact trivial
 ·exact h0
end
open Go.RowKit (Below)
section
variable {P : Program} {w0 : Wo} {B : Nat} {ρ : Rho} {m : Mem} {w : World}
theorem ER.filter (p : Nat → Bool) : ∀ {es : List AEnt} {l : List MapEntry}, ER ρ es l → ER ρ (es.filter fun e => p e.born) (l.filter fun e => p e.born)
 | [], l, h => by
  have h' : l = [] := h
  subst h'
  exact rfl
 | a :: es, l, h => by
  obtain ⟨y, ys, rfl, h2, h3, h4, h5⟩ := h
  simp only [List.filter_cons, h3]
  cases hp : p a.born with
  | true => simp only [if_true]; exact ⟨_, _, rfl, h2, h3, h4, ER.filter p h5⟩
  | false => simp only [Bool.false_eq_true, if_false]; exact ER.filter p h5
theorem ER.mem {es : List AEnt} {l : List MapEntry} (h : ER ρ es l) {x : MapEntry} (hx : x ∈ l) : ∃ e ∈ es, KR ρ e.key x.key ∧ x.born = e.born ∧ R ρ e.val x.val := by
 induction es generalizing l with
 | nil => have h' : l = [] := h; subst h'; cases hx
 | cons a es ih =>
  obtain ⟨y, ys, rfl, h2, h3, h4, h5⟩ := h
  rcases List.mem_cons.1 hx with rfl | hx
  ·exact ⟨a, by simp, h2, h3, h4⟩
  ·obtain ⟨e, h6, h7⟩ := ih h5 hx
   exact ⟨e, by simp [h6], h7⟩
theorem run_choose_map (n : Nat) (hn : 0 < n) (w : World) : ∃ i w', (choose (.mapNext n)).run P w = .ok i w' ∧ i < n ∧ w'.heap = w.heap ∧ (∀ B w0, Below B w0 w → Below B w0 w') ∧ (w' = w ∨ w' = w.drew) := by
 by_cases hf : n ≤ 1
 ·refine ⟨0, w, ?_, hn, rfl, fun _ _ h => h, .inl rfl⟩
  have hq : (Question.mapNext n).forced = true := by simpa [Question.forced] using hf
  simp only [choose, Sem.run, hq, if_true]
 ·refine ⟨w.tape w.drawn (.mapNext n) % n, w.drew, ?_, Nat.mod_lt _ hn, rfl, fun _ _ h => h.drew, .inr rfl⟩
  have hq : (Question.mapNext n).forced = false := by simpa [Question.forced] using hf
  simp only [choose, Sem.run, hq, Bool.false_eq_true, if_false]
  rfl
def XR (w0 : Wo) (B : Nat) (ρ : Rho) (m : Mem) (w : World) (nx : Nx) (P : Program) (r : Result Next) : Prop :=
 match nx with
 | .out o => NR w0 B ρ m w o P r
 | .alts m' q c since seen clock es => m' = m ∧ ∃ e ∈ es, NR w0 B ρ m w (tookE m' q c since seen clock e) P r
theorem nextStr_sound (h : MR w0 B ρ m w) {r : Nat} {p : Pl} (hp : ρ r = some p) {s : ByteArray} {pos : Nat} (ho : m.heap.get r = some (.strIter s pos)) (ty : TypeId) :
  VR w0 B ρ (nextStr m r s pos) ((Instr.next (.pointer (some ⟨p.b, 0, none⟩)) true ty).run P w) := by
 obtain ⟨hB, hpo, hw⟩ := h.obj r _ p ho hp
 have hgo := run_getObj (P := P) hw (fun _ _ _ e => by cases e)
 unfold nextStr
 cases hlt : pos.succ.ble s.size with
 | true =>
  rw [cond_true]
  have hlt' : pos < s.size := nat_ble.1 hlt
  refine ⟨.tuple #[.bool true, goInt pos, .int .i32 (Utf8.decode s pos).1], _, ρ, ?_, Rho.le.refl ρ, h.put ho hp (fun _ _ _ _ e => by cases e) (fun _ e => by cases e) (fun _ _ _ _ e => by cases e) hB (x := .stringIter s (pos + (Utf8.decode s pos).2)) ⟨hB, hpo, rfl⟩, ?_⟩
  ·unfold Instr.next
   simp only [run_bind, hgo, hlt', if_true, run_setObj hw (fun _ _ _ e => by cases e), run_pure]
  ·simp only [R]
   refine ⟨_, rfl, ?_⟩
   simp only [RL]
   exact ⟨_, _, rfl, by simp [R], _, _, rfl, goI_R pos, _, _, rfl, by simp [R], rfl⟩
 | false =>
  rw [cond_false]
  have hlt' : ¬ (pos < s.size) := by
   rw [nat_ble_f] at hlt
   have : s.size < pos + 1 := hlt
   omega
  refine (VR.same h (v := overV) (x := .tuple #[.bool false]) (by simp only [overV, R])).of_eq ?_
  unfold Instr.next
  simp only [run_bind, hgo, hlt', if_false, run_pure]
theorem nextMap_sound (h : MR w0 B ρ m w) {r : Nat} {p : Pl} (hp : ρ r = some p) {q since stepped : Nat} {seen : List Nat} (ho : m.heap.get r = some (.mapIter (some q) since seen stepped)) (ty : TypeId) :
  XR w0 B ρ m w (nextMap m r q since seen stepped (m.heap.get q)) P ((do pure (Next.value (← Instr.next (.pointer (some ⟨p.b, 0, none⟩)) false ty)) : Sem Next).run P w) := by
 obtain ⟨hB, hpo, c, hq, hw⟩ := h.obj r _ p ho hp
 unfold nextMap
 split
 case h_2 => exact trivial
 rename_i es clock hoq
 obtain ⟨_, l, hwq, hER⟩ := h.map hq hoq
 have hgo := run_getObj (P := P) hw (fun _ _ _ e => by cases e)
 have hgq := run_getObj (P := P) hwq (fun _ _ _ e => by cases e)
 cases hc : (isNil (fltL (fun e => !hasN seen e.born && !(e.born.succ.ble since)) es) && (isNil seen || isNil es || !isNil (fltL (fun e => e.born.succ.ble stepped) es))) with
 | false => exact trivial
 | true =>
  rw [cond_true]
  rw [Bool.and_eq_true] at hc
  obtain ⟨hc1, hc2⟩ := hc
  -- the model's lists
  have hleft := ER.filter (fun b => !seen.contains b) hER
  have hnew := ER.filter (fun b => !seen.contains b && !(b.succ.ble since)) hER
  have hltL : (fltL (fun e => !hasN seen e.born && !(e.born.succ.ble since)) es) = es.filter fun e => (!seen.contains e.born && !(e.born.succ.ble since)) := by
   rw [fltL_eq]
   congr 1
   funext e
   rw [hasN_eq]
  rw [hltL, isNil_eq, List.isEmpty_iff] at hc1
  rw [hc1] at hnew
  have hnew' : (l.toList.filter fun e => (!seen.contains e.born && !(e.born.succ.ble since))) = [] := hnew
  -- no 'unsupported'
  have hg1 : ¬ ((!seen.toArray.isEmpty && !l.isEmpty && l.all (·.born ≥ stepped)) = true) := by
   intro hall
   rw [Bool.and_eq_true, Bool.and_eq_true] at hall
   obtain ⟨⟨a1, a2⟩, a3⟩ := hall
   rw [Bool.or_eq_true, Bool.or_eq_true] at hc2
   rcases hc2 with (b1 | b1) | b1
   ·rw [isNil_eq, List.isEmpty_iff] at b1
    subst b1
    simp at a1
   ·rw [isNil_eq, List.isEmpty_iff] at b1
    subst b1
    have : l.toList = [] := hER
    have : l = #[] := by apply Array.ext'; simpa using this
    subst this
    simp at a2
   ·rw [fltL_eq, isNil_eq] at b1
    have : (es.filter fun e => e.born.succ.ble stepped) = [] := by
     have h3 := ER.filter (fun b => b.succ.ble stepped) hER
     have h4 : (l.toList.filter fun e => e.born.succ.ble stepped) = [] := by
      rw [List.filter_eq_nil_iff]
      intro x hx hb
      rw [Array.all_eq_true_iff_forall_mem] at a3
      have := a3 x (by simpa using hx)
      have hb' : x.born + 1 ≤ stepped := nat_ble.1 hb
      simp at this
      omega
     rw [h4] at h3
     cases hes : (es.filter fun e => e.born.succ.ble stepped) with
     | nil => rfl
     | cons a as => rw [hes] at h3; obtain ⟨y, ys, h5, _⟩ := h3; cases h5
    rw [this] at b1
    simp at b1
  have hgo2 : fltL (fun e => !hasN seen e.born) es = es.filter fun e => !seen.contains e.born := by
   rw [fltL_eq]
   congr 1
   funext e
   rw [hasN_eq]
  rw [hgo2]
  have hleftA : (l.filter fun e => !seen.toArray.contains e.born).toList = l.toList.filter fun e => !seen.contains e.born := by
   rw [Array.toList_filter]
   congr 1
   funext e
   simp
  have hmemleft : ∀ x ∈ (l.filter fun e => !seen.toArray.contains e.born), x.born < since := by
   intro x hx
   have hx1 : x ∈ l.toList.filter fun e => !seen.contains e.born := by rw [← hleftA]; simpa using hx
   rw [List.mem_filter] at hx1
   have : x ∉ (l.toList.filter fun e => (!seen.contains e.born && !(e.born.succ.ble since))) := by rw [hnew']; simp
   rw [List.mem_filter] at this
   have h6 : ¬ ((!seen.contains x.born && !(x.born.succ.ble since)) = true) := fun h7 => this ⟨hx1.1, h7⟩
   rw [hx1.2, Bool.true_and] at h6
   simp only [Bool.not_eq_true, Bool.not_eq_false'] at h6
   exact nat_ble.1 h6
  have hold : ((l.filter fun e => !seen.toArray.contains e.born).filter (·.born < since)) = (l.filter fun e => !seen.toArray.contains e.born) := by
   rw [Array.filter_eq_self]
   intro x hx
   simpa using hmemleft x hx
  have hnw : ((l.filter fun e => !seen.toArray.contains e.born).filter (·.born ≥ since)) = #[] := by
   rw [Array.filter_eq_empty_iff]
   intro x hx
   have := hmemleft x hx
   simp
   omega
  cases hes : (es.filter fun e => !seen.contains e.born) with
  | nil =>
   show NR w0 B ρ m w (.val overV m) P _
   rw [hes] at hleft
   have hl0 : (l.filter fun e => !seen.toArray.contains e.born) = #[] := by
    apply Array.ext'
    rw [hleftA]
    exact hleft
   refine ⟨.tuple #[.bool false], w, ρ, .inl ?_, Rho.le.refl ρ, h, by simp only [overV, R]⟩
   have hch : (choose (.mapNext 1)).run P w = .ok 0 w := rfl
   unfold Instr.next
   simp only [run_bind, hgo, hgq]
   rw [if_neg hg1]
   simp only [run_bind, run_pure]
   rw [hold, hnw, hl0]
   have hcand : (if (#[] : Array MapEntry).isEmpty = true then #[none] else #[]) ++ Array.map some ((#[] : Array MapEntry) ++ #[]) = #[none] := by simp
   rw [hcand]
   have hch' : (choose (.mapNext (#[none] : Array (Option MapEntry)).size)).run P w = .ok 0 w := hch
   rw [hch']
   rfl
  | cons e0 rest =>
   show m = m ∧ ∃ e ∈ (e0 :: rest), NR w0 B ρ m w (tookE m r q since seen clock e) P _
   refine ⟨rfl, ?_⟩
   rw [← hes]
   have hne : (l.filter fun e => !seen.toArray.contains e.born) ≠ #[] := by
    intro h0
    have : (l.filter fun e => !seen.toArray.contains e.born).toList = [] := by rw [h0]
    rw [hleftA] at this
    rw [this, hes] at hleft
    obtain ⟨y, ys, h5, _⟩ := hleft
    cases h5
   obtain ⟨L, hL⟩ : ∃ L, L = (l.filter fun e => !seen.toArray.contains e.born) := ⟨_, rfl⟩
   rw [← hL] at hne hold hnw hleftA
   have hLpos : 0 < L.size := by
    rcases Nat.eq_zero_or_pos L.size with h0 | h0
    ·exact absurd (Array.eq_empty_of_size_eq_zero h0) hne
    ·exact h0
   obtain ⟨i, w1, hch, hi, hh, hb, _⟩ := run_choose_map (P := P) L.size hLpos w
   have h1 := h.at hh (hb _ _ h.below)
   have hw1 : w1.heap[p.b]? = some (.mapIter (some c) since seen.toArray stepped) := by rw [hh]; exact hw
   have hLi : L[i]? = some L[i] := Array.getElem?_eq_getElem hi
   obtain ⟨e, he, hk, hbn, hR⟩ := hleft.mem (x := L[i]) (by rw [← hleftA]; simp)
   refine ⟨e, he, ?_⟩
   refine ⟨.tuple #[.bool true, L[i].key, L[i].val], setBlk w1 p.b (.mapIter (some c) since (seen.toArray.push L[i].born) clock), ρ, .inl ?_, Rho.le.refl ρ, ?_, ?_⟩
   ·unfold Instr.next
    simp only [run_bind, hgo, hgq]
    rw [if_neg hg1]
    simp only [run_bind, run_pure]
    rw [← hL, hold, hnw]
    have hemp : L.isEmpty = false := by
     rw [Array.isEmpty_eq_false_iff]; exact hne
    have hcand : (if L.isEmpty = true then #[none] else #[]) ++ Array.map some (L ++ #[]) = Array.map some L := by rw [hemp]; simp
    rw [hcand, Array.size_map, hch]
    simp only [Array.getElem?_map, hLi, Option.map_some, run_bind, run_setObj hw1 (fun _ _ _ e => by cases e), run_pure]
   ·refine h1.put ho hp (fun _ _ _ _ e => by cases e) (fun _ e => by cases e) (fun _ _ _ _ e => by cases e) hB ⟨hB, hpo, c, hq, ?_⟩
    rw [appL_eq, ← hbn]
    simp
   ·simp only [R]
    refine ⟨_, rfl, ?_⟩
    simp only [RL]
    exact ⟨_, _, rfl, by simp [R], _, _, rfl, hk.back, _, _, rfl, hR, rfl⟩
theorem next_sound (h : MR w0 B ρ m w) {ρ' : Operand → Value} {tmps : T AVal} (hev : ∀ x, R ρ (evalT tmps x) (ρ' x)) (o : Oper) (it : Operand) (s : Bool) (ho : o.op = .next it s) :
  XR w0 B ρ m w (nextOp m s (evalT tmps it)) P ((execOp ρ' o).run P w) := by
 simp only [execOp, ho]
 have hx := hev it
 unfold nextOp
 split
 ·rename_i r hr
  rw [hr] at hx
  simp only [R] at hx
  obtain ⟨p, hp, hx⟩ := hx
  have hxe : ∀ o, m.heap.get r = some o → (∀ e cs f q, o ≠ .row e cs f q) → (∀ cs, o ≠ .ro cs) → ρ' it = .pointer (some ⟨p.b, 0, none⟩) := by
   intro o ho h1 h2
   have := h.obj r o p ho hp
   have hs : p.s = 0 := by
    unfold OR at this
    split at this
    ·exact absurd rfl (h1 _ _ _ _)
    ·exact absurd rfl (h2 _)
    ·rw [this.2.1]; rfl
    ·rw [this.2.1]; rfl
    ·rw [this.2.1]; rfl
    ·rw [this.2.1]; rfl
    ·rw [this.2.1]; rfl
    ·rw [this.2.1]; rfl
    ·rw [this.2.1]; rfl
   rw [hx, hs]
  unfold nextAt
  split
  ·rename_i st pos hoo
   cases s with
   | true =>
    rw [cond_true, hxe _ hoo (fun _ _ _ _ e => by cases e) (fun _ e => by cases e)]
    exact NR.of_VR (nextStr_sound h hp hoo o.type)
   | false => exact trivial
  ·rename_i since seen stepped hoo
   cases s with
   | true => exact trivial
   | false =>
    rw [cond_false, hxe _ hoo (fun _ _ _ _ e => by cases e) (fun _ e => by cases e)]
    obtain ⟨_, _, hw⟩ := h.obj r _ p hoo hp
    have hgo := run_getObj (P := P) hw (fun _ _ _ e => by cases e)
    refine NR.of_VR (m := m) (out := .val overV m) (s := Instr.next (.pointer (some ⟨p.b, 0, none⟩)) false o.type) ((VR.same h (x := .tuple #[.bool false]) (by simp only [overV, R])).of_eq ?_)
    unfold Instr.next
    simp only [run_bind, hgo, run_pure]
  ·rename_i q since seen stepped hoo
   cases s with
   | true => exact trivial
   | false =>
    rw [cond_false, hxe _ hoo (fun _ _ _ _ e => by cases e) (fun _ e => by cases e)]
    exact nextMap_sound h hp hoo o.type
  ·exact trivial
 ·exact trivial
end
end Go.Abs
