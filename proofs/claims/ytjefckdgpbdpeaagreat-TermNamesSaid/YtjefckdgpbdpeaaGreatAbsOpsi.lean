/- An executor whose runs hold in every world: a part of it and of what is proved of it. -/
import Derived.Test.YtjefckdgpbdpeaaGreatAbsOpsh

namespace Go.Abs
open Go
open Go.RowKit (Below)

section
variable {P : Program} {w0 : Wo} {B : Nat} {ρ : Rho} {m : Mem} {w : World}

theorem goI_R (n : Nat) : R ρ (goI n) (goInt n) := by simp only [goI, R]; rfl

theorem len_sound (h : MR w0 B ρ m w) (ats : Array TypeId) (ty : TypeId) {x : AVal} {vx : Value} (hx : R ρ x vx) : VR w0 B ρ (lenOp P m x ats[0]?) ((Builtin.len_ ats ty #[vx]).run P w) := by
  cases ha : ats[0]? with
  | none => exact trivial
  | some t =>
    show VR w0 B ρ (lenD m x (P.underlying t)) _
    have hrun : (Builtin.len_ ats ty #[vx]).run P w = (match P.underlying t with | some d => (Builtin.len_ #[t] ty #[vx]).run P w | none => (Builtin.len_ ats ty #[vx]).run P w) := by
      cases hd : P.underlying t with
      | none => rfl
      | some d =>
        unfold Builtin.len_
        simp only [ha, List.getElem?_toArray, List.getElem?_cons_zero]
    cases hd : P.underlying t with
    | none => exact trivial
    | some d =>
      have hu := run_underlying' hd w
      cases d with
      | string =>
        show VR w0 B ρ (lenStr m x) _
        unfold lenStr
        split
        · simp only [R] at hx; subst hx
          refine (VR.same h (goI_R _)).of_eq ?_
          unfold Builtin.len_
          simp only [ha, List.getElem?_toArray, List.getElem?_cons_zero, run_bind, hu, run_pure]
        · exact trivial
      | slice e =>
        show VR w0 B ρ (lenSl m x) _
        unfold lenSl
        split
        · simp only [R] at hx; subst hx
          refine (VR.same h (goI_R _)).of_eq ?_
          unfold Builtin.len_
          simp only [ha, List.getElem?_toArray, List.getElem?_cons_zero, run_bind, hu, run_pure]
        · simp only [R] at hx; obtain ⟨p, c', _, _, _, _, rfl⟩ := hx
          refine (VR.same h (goI_R _)).of_eq ?_
          unfold Builtin.len_
          simp only [ha, List.getElem?_toArray, List.getElem?_cons_zero, run_bind, hu, run_pure]
        · simp only [R] at hx; obtain ⟨a, c', rfl⟩ := hx
          refine (VR.same h (goI_R _)).of_eq ?_
          unfold Builtin.len_
          simp only [ha, List.getElem?_toArray, List.getElem?_cons_zero, run_bind, hu, run_pure]
        · exact trivial
      | map k e =>
        show VR w0 B ρ (lenMp m x) _
        unfold lenMp
        split
        · simp only [R] at hx; subst hx
          refine (VR.same h (goI_R _)).of_eq ?_
          unfold Builtin.len_
          simp only [ha, List.getElem?_toArray, List.getElem?_cons_zero, run_bind, hu, run_pure]
          rfl
        · rename_i r
          simp only [R] at hx; obtain ⟨b, hp, rfl⟩ := hx
          unfold lenMap
          split
          · rename_i es clock ho
            obtain ⟨_, l, hw, hER⟩ := h.map hp ho
            have hl : lenL es = l.size := by rw [lenL_eq, hER.keys.2.1]; simp
            rw [hl]
            refine (VR.same h (goI_R _)).of_eq ?_
            unfold Builtin.len_
            simp only [ha, List.getElem?_toArray, List.getElem?_cons_zero, run_bind, hu, run_getObj (P := P) hw (fun _ _ _ e => by cases e), run_pure]
          · exact trivial
        · exact trivial
      | array n e =>
        refine (VR.same h (goI_R n)).of_eq ?_
        unfold Builtin.len_
        simp only [ha, List.getElem?_toArray, List.getElem?_cons_zero, run_bind, hu, run_pure]
      | _ => exact trivial

theorem srcLen_sound {x : AVal} {vx : Value} (hx : R ρ x vx) {n : Nat} (e : srcLen x = some n) (w : World) : (Builtin.lenOf vx).run P w = .ok n w := by
  unfold srcLen at e
  split at e
  · simp only [R] at hx; subst hx; cases e; rfl
  · simp only [R] at hx; subst hx; cases e; rfl
  · simp only [R] at hx; obtain ⟨p, c', _, _, _, _, rfl⟩ := hx; cases e; rfl
  · simp only [R] at hx; obtain ⟨a, c', rfl⟩ := hx; cases e; rfl
  · cases e
theorem copySrc_sound (h : MR w0 B ρ m w) {x : AVal} {vx : Value} (hx : R ρ x vx) {n k size : Nat} (hn : srcLen x = some n) (hk : k ≤ n) {cs : List AVal} (e : copySrc m k size x = some cs) :
    ∃ xs : List Value, (Builtin.firstCells size k vx).run P w = .ok xs.toArray w ∧ RL ρ cs xs := by
  unfold copySrc at e
  split at e
  · simp only [R] at hx; subst hx; cases e
    exact ⟨[], rfl, by simp [RL]⟩
  · rename_i s
    simp only [R] at hx; subst hx; cases e
    refine ⟨(s.data.toList.take k).map (fun b => .int .u8 b.toNat), ?_, ?_⟩
    · show Result.ok ((s.extract 0 k).data.map fun b => Value.int .u8 b.toNat) w = _
      congr 1
      apply Array.ext'
      simp [ByteArray.data_extract]
    · rw [mapL_eq]
      exact RL.map_of _ _ _ fun b _ => by simp [R]
  · simp only [R] at hx
    obtain ⟨p, c', hp, _, _, _, rfl⟩ := hx
    obtain ⟨xs, h1, h2, _⟩ := h.readCells (P := P) hp e
    exact ⟨xs, h1, h2⟩
  · simp only [R] at hx
    obtain ⟨a, c', rfl⟩ := hx
    cases e
    cases hn
    obtain rfl : k = 0 := by omega
    refine ⟨[], ?_, by simp [RL]⟩
    unfold Builtin.firstCells
    dsimp only
    rw [Nat.zero_mul]
    rfl
  · cases e

theorem copy_sound (h : MR w0 B ρ m w) (ats : Array TypeId) (ty : TypeId) {s x : AVal} {vs vx : Value} (hs : R ρ s vs) (hx : R ρ x vx) :
    VR w0 B ρ (copyOp m s x (sizedElem P ((ats[0]?).bind (sliceElem P)))) ((Builtin.copy_ ats ty #[vs, vx]).run P w) := by
  unfold copyOp
  split
  · exact trivial
  rename_i e size hse
  obtain ⟨h3, hsize⟩ := sizedElem_some hse
  rw [Option.bind_eq_some_iff] at h3
  obtain ⟨st, ha, h4⟩ := h3
  have hu := sliceElem_some h4
  unfold copyN
  split
  case h_2 => exact trivial
  rename_i n hn
  have hlen := srcLen_sound (P := P) hx hn w
  unfold copyTo
  split
  · exact trivial
  rename_i cs hcs
  obtain ⟨xs, h5, h6⟩ := copySrc_sound (P := P) h hx hn (Nat.min_le_left n (sliceLen s)) hcs
  split
  · rename_i r off dl c ex
    simp only [R] at hs
    obtain ⟨p, c', hp, _, _, _, rfl⟩ := hs
    split
    · rename_i m' hst
      obtain ⟨w', h7, h8⟩ := h.storeCells (P := P) hp hst h6
      have h5' : (Builtin.firstCells size (Nat.min n dl) vx).run P w = .ok xs.toArray w := h5
      refine ⟨_, w', ρ, ?_, Rho.le.refl ρ, h8, goI_R _⟩
      unfold Builtin.copy_
      simp only [ha, List.getElem?_toArray, List.getElem?_cons_zero, List.getElem?_cons_succ, run_bind, run_underlying' hu, hlen, run_sizeOf' hsize, h5', h7, run_pure]
      rfl
    · exact trivial
  · simp only [R] at hs
    subst hs
    have h5' : (Builtin.firstCells size (Nat.min n 0) vx).run P w = .ok xs.toArray w := h5
    refine (VR.same h (goI_R 0)).of_eq ?_
    unfold Builtin.copy_
    simp only [ha, List.getElem?_toArray, List.getElem?_cons_zero, List.getElem?_cons_succ, run_bind, run_underlying' hu, hlen, run_sizeOf' hsize, h5', run_pure]
    have : Nat.min n 0 = 0 := Nat.min_zero n
    rw [this]
  · exact trivial

theorem delEnt_nil (i : Nat) : delEnt i [] = [] := by cases i <;> rfl
theorem delEnt_zero (e : AEnt) (es : List AEnt) : delEnt 0 (e :: es) = es := rfl
theorem delEnt_succ (i : Nat) (e : AEnt) (es : List AEnt) : delEnt (i + 1) (e :: es) = e :: delEnt i es := rfl
theorem ER.del : ∀ {es : List AEnt} {l : List MapEntry} (i : Nat), ER ρ es l → ER ρ (delEnt i es) (l.eraseIdx i)
  | [], l, i, h => by
    have h' : l = [] := h
    subst h'
    rw [delEnt_nil]
    exact rfl
  | a :: es, l, i, h => by
    obtain ⟨y, ys, rfl, h2, h3, h4, h5⟩ := h
    cases i with
    | zero => rw [delEnt_zero]; exact h5
    | succ i => rw [delEnt_succ]; exact ⟨_, _, rfl, h2, h3, h4, ER.del i h5⟩

theorem delete_sound (h : MR w0 B ρ m w) (ats : Array TypeId) (ty : TypeId) {a k : AVal} {x y : Value} (hx : R ρ a x) (hy : R ρ k y) :
    VR w0 B ρ (deleteOp P m ((ats[0]?).bind (mapKey P)) k a) ((Builtin.delete_ ats ty #[x, y]).run P w) := by
  cases a with
  | map r =>
    simp only [R] at hx
    obtain ⟨b, hp, rfl⟩ := hx
    show VR w0 B ρ (delOp P m r (m.heap.get r) (litOf k) ((ats[0]?).bind (mapKey P))) _
    unfold delOp
    split
    · rename_i es clock kv kt et ho hk ht
      rw [Option.bind_eq_some_iff] at ht
      obtain ⟨t, ha, ht⟩ := ht
      have hu := mapKey_some ht
      have hky := R.of_litOf hy hk
      subst hky
      obtain ⟨hB, l, hw, hER⟩ := h.map hp ho
      have hgo := run_getObj (P := P) hw (fun _ _ _ e => by cases e)
      have hso : ∀ o', (Go.setObj b o').run P w = .ok () (setBlk w b o') := fun o' => run_setObj hw (fun _ _ _ e => by cases e)
      have hemp : isNil es = l.isEmpty := by
        have k2' : es.length = l.size := by simpa using hER.keys.2.1
        rw [isNil_eq, Bool.eq_iff_iff, List.isEmpty_iff, Array.isEmpty_iff, ← List.length_eq_zero_iff, ← Array.size_eq_zero_iff, k2']
      cases hf : findIx P (isNil es) kt y (dummies es) with
      | none => exact trivial
      | some q =>
        obtain ⟨c1, c2⟩ := findIx_sound hER hf w
        rw [hemp] at c1
        rcases c2 with ⟨rfl, c3⟩ | ⟨i, u, rfl, c3, c4⟩
        · refine (VR.lit h).of_eq ?_
          unfold Builtin.delete_
          simp only [ha, List.getElem?_toArray, List.getElem?_cons_zero, List.getElem?_cons_succ, run_bind, run_underlying' hu, hgo, c1, c3, hso, run_pure]
          rw [setBlk_self hw]
        · refine ⟨_, _, ρ, ?_, Rho.le.refl ρ, h.putMap hp ho clock (l1 := l.eraseIdxIfInBounds i) ?_, by simp [R]; rfl⟩
          · unfold Builtin.delete_
            simp only [ha, List.getElem?_toArray, List.getElem?_cons_zero, List.getElem?_cons_succ, run_bind, run_underlying' hu, hgo, c1, c4, hso, run_pure]
          · have : (l.eraseIdxIfInBounds i).toList = l.toList.eraseIdx i := by simp
            rw [this]
            exact hER.del i
    · exact trivial
  | _ => exact trivial

theorem lits_sound (h : MR w0 B ρ m w) (f : Array Value → Sem Value) (why : String) {l : List AVal} {xs : List Value} (hl : RL ρ l xs) : VR w0 B ρ (litsOp P m f why (toLits l)) ((f xs.toArray).run P w) := by
  unfold litsOp
  split
  · rename_i vs hvs
    rw [RL.of_toLits l _ _ hl hvs]
    exact pureOp_sound h _ _
  · exact trivial

/-- what a builtin function says, as a step's outcome -/
def NR (w0 : Wo) (B : Nat) (ρ : Rho) (m : Mem) (w : World) (out : Out) (P : Program) (r : Result Next) : Prop :=
  match out with
  | .val v m' => ∃ x w' ρ', (r = .ok (.value x) w' ∨ (r = .ok .skip w' ∧ v = .poison)) ∧ ρ.le ρ' ∧ MR w0 B ρ' m' w' ∧ R ρ' v x
  | .panic v m' => ∃ x w' ρ', r = .halt (.panic x) w' ∧ ρ.le ρ' ∧ MR w0 B ρ' m' w' ∧ R ρ' v x
  | .enter f args m' => m' = m ∧ ∃ xs : Array Value, r = (callFunc f xs).run P w ∧ RL ρ args xs.toList
  | .round l f nt tm a b m' => m' = m ∧ ∃ (c : Nat) (tmps : Array Value), r = .ok (.round c f tmps a b) w ∧ ρ l = some (Pl.obj c) ∧ TR ρ tm tmps ∧ tmps.size = nt
  | .recov => r = .ok .recover w
  | .bad _ => True

theorem NR.of_VR {out : Out} {s : Sem Value} (h : VR w0 B ρ out (s.run P w)) : NR w0 B ρ m w out P ((do pure (Next.value (← s)) : Sem Next).run P w) := by
  rw [run_bind]
  cases out with
  | val v m' => obtain ⟨x, w', ρ', h1, h2⟩ := h; rw [h1]; exact ⟨x, w', ρ', .inl rfl, h2⟩
  | panic v m' => obtain ⟨x, w', ρ', h1, h2⟩ := h; rw [h1]; exact ⟨x, w', ρ', rfl, h2⟩
  | bad _ => exact trivial
  | _ => exact h.elim
theorem NR.of_UR {out : Out} {s : Sem Unit} (h : UR w0 B ρ out (s.run P w)) : NR w0 B ρ m w out P ((do s; pure Next.skip : Sem Next).run P w) := by
  rw [run_bind]
  cases out with
  | val v m' => obtain ⟨rfl, w', ρ', h1, h2, h3⟩ := h; rw [h1]; exact ⟨.tuple #[], w', ρ', .inr ⟨rfl, rfl⟩, h2, h3, by simp [R]⟩
  | panic v m' => obtain ⟨x, w', ρ', h1, h2⟩ := h; rw [h1]; exact ⟨x, w', ρ', rfl, h2⟩
  | bad _ => exact trivial
  | _ => exact h.elim

theorem RL.cons_inv {v : AVal} {vs : List AVal} {xs : List Value} (h : RL ρ (v :: vs) xs) : ∃ y ys, xs = y :: ys ∧ R ρ v y ∧ RL ρ vs ys := by simpa only [RL] using h
theorem builtin_sound (h : MR w0 B ρ m w) (b : Builtin) (ats : Array TypeId) (ty : TypeId) (cs : Array Bool) {args : List AVal} {xs : Array Value} (hl : RL ρ args xs.toList) :
    NR w0 B ρ m w (builtinOp P b ats args m) P ((builtin b ats ty cs xs).run P w) := by
  obtain ⟨l⟩ := xs
  dsimp only at hl
  match args, hl with
  | [], hl =>
    cases b with
    | recover => exact rfl
    | _ => exact trivial
  | [x], hl =>
    obtain ⟨y, ys, rfl, h1, h2⟩ := hl.cons_inv
    obtain rfl : ys = [] := by simpa only [RL] using h2
    cases b with
    | len => exact NR.of_VR (s := Builtin.len_ ats ty #[y]) (len_sound h ats ty h1)
    | _ => exact trivial
  | [x, x'], hl =>
    obtain ⟨y, ys, rfl, h1, h2⟩ := hl.cons_inv
    obtain ⟨y', ys', rfl, h3, h4⟩ := h2.cons_inv
    obtain rfl : ys' = [] := by simpa only [RL] using h4
    cases b with
    | append => exact NR.of_VR (s := Builtin.append_ ats ty #[y, y']) (append_sound h ats ty h1 h3)
    | copy => exact NR.of_VR (s := Builtin.copy_ ats ty #[y, y']) (copy_sound h ats ty h1 h3)
    | delete => exact NR.of_VR (s := Builtin.delete_ ats ty #[y, y']) (delete_sound h ats ty h1 h3)
    | max => exact NR.of_VR (s := Builtin.max_ ats ty #[y, y']) (lits_sound h (Go.Builtin.max_ #[] 0) "max" hl)
    | min => exact NR.of_VR (s := Builtin.min_ ats ty #[y, y']) (lits_sound h (Go.Builtin.min_ #[] 0) "min" hl)
    | _ => exact trivial
  | _ :: _ :: _ :: _, hl =>
    cases b <;> exact trivial
end
end Go.Abs
