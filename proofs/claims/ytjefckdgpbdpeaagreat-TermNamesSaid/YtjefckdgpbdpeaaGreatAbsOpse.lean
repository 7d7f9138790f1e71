/- An executor whose runs hold in every world: a part of it and of what is proved of it. -/
import Derived.Test.YtjefckdgpbdpeaaGreatAbsOpsd

namespace Go.Abs
open Go
open Go.RowKit (Below)

section
variable {P : Program} {w0 : Wo} {B : Nat} {ρ : Rho} {m : Mem} {w : World}

theorem lits1_sound (h : MR w0 B ρ m w) (f : Value → Sem Value) {a : AVal} {x : Value} (hx : R ρ a x) : VR w0 B ρ (lits1 P m f (litOf a)) ((f x).run P w) := by
  cases e : litOf a with
  | none => exact trivial
  | some y => rw [R.of_litOf hx e]; exact pureOp_sound h _ _
theorem lits2_sound (h : MR w0 B ρ m w) (f : Value → Value → Sem Value) {a b : AVal} {x y : Value} (hx : R ρ a x) (hy : R ρ b y) : VR w0 B ρ (lits2 P m f (litOf a) (litOf b)) ((f x y).run P w) := by
  cases e : litOf a with
  | none => exact trivial
  | some u =>
    cases e' : litOf b with
    | none => exact trivial
    | some v => rw [R.of_litOf hx e, R.of_litOf hy e']; exact pureOp_sound h _ _

theorem guard_pure (op : BinOp) (t : TypeId) (ox oy : Operand) (x y : Value) (h1 : ¬ (x = .nilIface ∧ y = .nilIface)) (h2 : ∀ a b, ¬ (x = .agg a ∧ y = .agg b)) (w : World) :
    (eqGuard op t ox oy x y).run P w = .ok () w := by
  unfold eqGuard
  split
  · simp only [Bool.not_true, Bool.false_eq_true, if_false]
    cases x <;> cases y <;> first | rfl | (exact absurd ⟨rfl, rfl⟩ h1) | (exact absurd ⟨rfl, rfl⟩ (h2 _ _))
  · simp only [Bool.not_true, Bool.false_eq_true, if_false]
    cases x <;> cases y <;> first | rfl | (exact absurd ⟨rfl, rfl⟩ h1) | (exact absurd ⟨rfl, rfl⟩ (h2 _ _))
  · rfl

theorem run_eq_ptr {t e n : Nat} (hu : P.underlying t = some (.pointer e)) (hn : tsz P e = some n) (h0 : n ≠ 0) (b o p : Nat) (w : World) :
    (Op.equal t (.pointer (some ⟨b, o, none⟩)) (.pointer (some ⟨b, p, none⟩))).run P w = .ok (o == p) w := by
  unfold Op.equal Op.maxDepth Op.equalIn
  simp only [run_bind, run_underlying' hu, run_sizeOf' hn]
  rw [if_pos h0]
  unfold sameAddr
  simp only [beq_self_eq_true, if_true]
  show Result.ok _ w = _
  congr 1
  rw [Bool.eq_iff_iff]
  simp

theorem descK_ptr {d : Option TypeDesc} (h : descK d = 1) : ∃ e, d = some (.pointer e) := by
  unfold descK at h; split at h <;> first | (exact ⟨_, rfl⟩) | (cases h)
theorem descK_slice {d : Option TypeDesc} (h : descK d = 2) : ∃ e, d = some (.slice e) := by
  unfold descK at h; split at h <;> first | (exact ⟨_, rfl⟩) | (cases h)
theorem descK_map {d : Option TypeDesc} (h : descK d = 3) : ∃ k e, d = some (.map k e) := by
  unfold descK at h; split at h <;> first | (exact ⟨_, _, rfl⟩) | (cases h)
theorem descK_func {d : Option TypeDesc} (h : descK d = 4) : ∃ k e v, d = some (.func k e v) := by
  unfold descK at h; split at h <;> first | (exact ⟨_, _, _, rfl⟩) | (cases h)
theorem descK_iface {d : Option TypeDesc} (h : descK d = 5) : ∃ ms, d = some (.interface ms) := by
  unfold descK at h; split at h <;> first | (exact ⟨_, rfl⟩) | (cases h)

/-- '==' or '!=' of two values that are neither both nil nor both aggregates, where the comparison is known -/
theorem run_eqF (neq : Bool) {t : TypeId} {ox oy : Operand} {x y : Value} {r : Bool} (h1 : ¬ (x = .nilIface ∧ y = .nilIface)) (h2 : ∀ a b, ¬ (x = .agg a ∧ y = .agg b))
    (he : (Op.equal t x y).run P w = .ok r w) (hb : ∀ op, op = (if neq then BinOp.neq else .eql) → binOp op t x y = (if neq then do pure (.bool (!(← Op.equal t x y))) else do pure (.bool (← Op.equal t x y)))) :
    (binF (if neq then .neq else .eql) t ox oy x y).run P w = .ok (.bool (bif neq then !r else r)) w := by
  unfold binF
  rw [run_bind, guard_pure _ _ _ _ _ _ h1 h2]
  dsimp only
  rw [hb _ rfl]
  cases neq with
  | true => simp only [if_true, run_bind, he, run_pure, cond_true]
  | false => simp only [Bool.false_eq_true, if_false, run_bind, he, run_pure, cond_false]

theorem eqOp_sound (h : MR w0 B ρ m w) (neq : Bool) (t : TypeId) (ox oy : Operand) {a b : AVal} {x y : Value} (hx : R ρ a x) (hy : R ρ b y) :
    VR w0 B ρ (eqOp P (if neq then .neq else .eql) neq t ox oy a b m) ((binF (if neq then .neq else .eql) t ox oy x y).run P w) := by
  have nil : ∀ (k : Nat), (descK (P.underlying t) = k → (binF (if neq then .neq else .eql) t ox oy x y).run P w = .ok (.bool (bif neq then !false else false)) w) →
      VR w0 B ρ (eqNil neq m k (P.underlying t)) ((binF (if neq then .neq else .eql) t ox oy x y).run P w) := by
    intro k hk
    unfold eqNil
    cases hb : (descK (P.underlying t)).beq k with
    | false => exact trivial
    | true =>
      rw [nat_beq] at hb
      rw [cond_true, hk hb]
      exact VR.lit h
  unfold eqOp
  split
  · exact lits2_sound h _ hx hy
  · -- two pointers
    rename_i r o q p
    simp only [R] at hx hy
    obtain ⟨p1, e1, rfl⟩ := hx
    obtain ⟨p2, e2, rfl⟩ := hy
    cases hs : ptrSize P (P.underlying t) with
    | none => exact trivial
    | some n =>
      show VR w0 B ρ (bif r.beq q && !(n.beq 0) then eqRes neq m (o.beq p) else .bad "pointer equality") _
      cases hb : (r.beq q && !(n.beq 0)) with
      | false => exact trivial
      | true =>
        rw [cond_true]
        simp only [Bool.and_eq_true, nat_beq, Bool.not_eq_true', nat_beq_f] at hb
        obtain ⟨rfl, h0⟩ := hb
        rw [e1] at e2; cases e2
        have : ∃ e, P.underlying t = some (.pointer e) ∧ tsz P e = some n := by
          unfold ptrSize at hs
          split at hs
          · rename_i e he; exact ⟨e, he, hs⟩
          · cases hs
        obtain ⟨e, hu, hn⟩ := this
        have hr := run_eq_ptr (w := w) hu hn h0 p1.b (o + p1.s) (p + p1.s)
        rw [run_eqF neq (by simp) (by simp) hr (fun op e => by subst e; cases neq <;> rfl)]
        refine (VR.lit h).of_eq ?_
        congr 2
        have : (o + p1.s == p + p1.s) = o.beq p := by rw [Bool.eq_iff_iff]; simp
        rw [this]
  · simp only [R] at hx hy
    obtain ⟨p1, e1, rfl⟩ := hx
    subst hy
    refine nil 1 fun hk => ?_
    obtain ⟨e, hu⟩ := descK_ptr hk
    exact run_eqF neq (by simp) (by simp) (by unfold Op.equal Op.maxDepth Op.equalIn; simp only [run_bind, run_underlying' hu]; rfl) (fun op e => by subst e; cases neq <;> rfl)
  · simp only [R] at hx hy
    obtain ⟨p1, c', e1, _, _, _, rfl⟩ := hx
    subst hy
    refine nil 2 fun hk => ?_
    obtain ⟨e, hu⟩ := descK_slice hk
    exact run_eqF neq (by simp) (by simp) (by unfold Op.equal Op.maxDepth Op.equalIn; simp only [run_bind, run_underlying' hu]; rfl) (fun op e => by subst e; cases neq <;> rfl)
  · simp only [R] at hx hy
    obtain ⟨p1, c', rfl⟩ := hx
    subst hy
    refine nil 2 fun hk => ?_
    obtain ⟨e, hu⟩ := descK_slice hk
    exact run_eqF neq (by simp) (by simp) (by unfold Op.equal Op.maxDepth Op.equalIn; simp only [run_bind, run_underlying' hu]; rfl) (fun op e => by subst e; cases neq <;> rfl)
  · simp only [R] at hx hy
    obtain ⟨p1, e1, rfl⟩ := hx
    subst hy
    refine nil 3 fun hk => ?_
    obtain ⟨k, e, hu⟩ := descK_map hk
    exact run_eqF neq (by simp) (by simp) (by unfold Op.equal Op.maxDepth Op.equalIn; simp only [run_bind, run_underlying' hu]; rfl) (fun op e => by subst e; cases neq <;> rfl)
  · simp only [R] at hx hy
    obtain ⟨h0, f', c', rfl, _⟩ := hx
    subst hy
    refine nil 4 fun hk => ?_
    obtain ⟨k, e, v, hu⟩ := descK_func hk
    exact run_eqF neq (by simp) (by simp) (by unfold Op.equal Op.maxDepth Op.equalIn; simp only [run_bind, run_underlying' hu]; rfl) (fun op e => by subst e; cases neq <;> rfl)
  · simp only [R] at hx hy
    obtain ⟨p1, e1, rfl⟩ := hx
    subst hy
    refine nil 4 fun hk => ?_
    obtain ⟨k, e, v, hu⟩ := descK_func hk
    exact run_eqF neq (by simp) (by simp) (by unfold Op.equal Op.maxDepth Op.equalIn; simp only [run_bind, run_underlying' hu]; rfl) (fun op e => by subst e; cases neq <;> rfl)
  · simp only [R] at hx hy
    obtain ⟨u, rfl, _⟩ := hx
    subst hy
    refine nil 5 fun hk => ?_
    obtain ⟨ms, hu⟩ := descK_iface hk
    exact run_eqF neq (by simp) (by simp) (by unfold Op.equal Op.maxDepth Op.equalIn; simp only [run_bind, run_underlying' hu]; rfl) (fun op e => by subst e; cases neq <;> rfl)
  · simp only [R] at hx hy
    obtain ⟨u, rfl, _⟩ := hy
    subst hx
    refine nil 5 fun hk => ?_
    obtain ⟨ms, hu⟩ := descK_iface hk
    exact run_eqF neq (by simp) (by simp) (by unfold Op.equal Op.maxDepth Op.equalIn; simp only [run_bind, run_underlying' hu]; rfl) (fun op e => by subst e; cases neq <;> rfl)
  · exact lits2_sound h _ hx hy

theorem binOp_sound (h : MR w0 B ρ m w) (op : BinOp) (t : TypeId) (ox oy : Operand) {a b : AVal} {x y : Value} (hx : R ρ a x) (hy : R ρ b y) :
    VR w0 B ρ (binOpA P op t ox oy a b m) ((do eqGuard op t ox oy x y; binOp op t x y : Sem Value).run P w) := by
  cases op with
  | eql => exact eqOp_sound h false t ox oy hx hy
  | neq => exact eqOp_sound h true t ox oy hx hy
  | _ => exact lits2_sound h (binF _ t ox oy) hx hy

/-! ## type assertions -/
theorem typeAssert_sound (h : MR w0 B ρ m w) (xt asserted : TypeId) (ok : Bool) {a : AVal} {x : Value} (hx : R ρ a x) :
    VR w0 B ρ (Abs.typeAssert P asserted ok m a) ((Instr.typeAssert x xt asserted ok).run P w) := by
  have fails : ∀ (st dy : Option TypeId) (ms : String),
      VR w0 B ρ (taFails P asserted ok m) ((if ok then do pure (.tuple #[← zeroValue asserted, .bool false]) else runtimePanic (.typeAssertion st dy asserted ms) : Sem Value).run P w) := by
    intro st dy ms
    cases ok with
    | false => exact trivial
    | true =>
      show VR w0 B ρ (match tzero P asserted with | some z => .val (.tuple [.lit z, .lit (.bool false)]) m | none => .bad "zero") _
      cases hz : tzero P asserted with
      | none => exact trivial
      | some z =>
        simp only [if_true, run_bind, run_zeroValue' hz, run_pure]
        exact VR.same h (by simp only [R, RL]; exact ⟨_, rfl, _, _, rfl, rfl, _, _, rfl, rfl, rfl⟩)
  have holds : ∀ {v : AVal} {y : Value}, R ρ v y → VR w0 B ρ (taHolds ok v m) ((pure (if ok then .tuple #[y, .bool true] else y) : Sem Value).run P w) := by
    intro v y hv
    cases ok with
    | false => exact VR.same h hv
    | true => exact VR.same h (by skip; exact ⟨_, rfl, _, _, rfl, hv, _, _, rfl, rfl, rfl⟩)
  have go : ∀ (tt : TypeId) {v : AVal} {y : Value}, R ρ v y → x = .iface tt y →
      VR w0 B ρ (taWith P asserted ok a v m (fits P asserted tt)) ((Instr.typeAssert x xt asserted ok).run P w) := by
    intro tt v y hv hxe
    subst hxe
    cases hu : P.underlying asserted with
    | none => unfold fits; rw [hu]; exact trivial
    | some d =>
      have other : (∀ ms, d ≠ .interface ms) → VR w0 B ρ (taWith P asserted ok a v m (some (tt.beq asserted)))
          ((if tt = asserted then pure (if ok then .tuple #[y, .bool true] else y) else (if ok then do pure (.tuple #[← zeroValue asserted, .bool false]) else runtimePanic (.typeAssertion (some xt) (some tt) asserted "")) : Sem Value).run P w) := by
        intro hd
        cases hb : tt.beq asserted with
        | true =>
          rw [nat_beq] at hb
          rw [if_pos hb]
          have hi : isIfaceT P asserted = false := by unfold isIfaceT; rw [hu]; cases d <;> first | rfl | (exact absurd rfl (hd _))
          show VR w0 B ρ (taHolds ok (bif isIfaceT P asserted then a else v) m) _
          rw [hi, cond_false]
          exact holds hv
        | false =>
          rw [nat_beq_f] at hb
          rw [if_neg hb]
          exact fails _ _ _
      cases d with
      | interface want =>
        unfold fits
        rw [hu]
        show VR w0 B ρ (taWith P asserted ok a v m (fitsI want (P.info? tt))) _
        cases hi : P.info? tt with
        | none => exact trivial
        | some i =>
          unfold Instr.typeAssert
          simp only [run_bind, run_underlying' hu, run_typeInfo' hi]
          show VR w0 B ρ (taWith P asserted ok a v m (some (Instr.missingMethod want i.methods).isNone)) _
          cases hm : Instr.missingMethod want i.methods with
          | none =>
            have hi2 : isIfaceT P asserted = true := by unfold isIfaceT; rw [hu]
            show VR w0 B ρ (taHolds ok (bif isIfaceT P asserted then a else v) m) _
            rw [hi2, cond_true]
            exact holds hx
          | some ms => exact fails _ _ _
      | _ =>
        unfold fits
        rw [hu]
        refine (other (by intro ms e; cases e)).of_eq ?_
        unfold Instr.typeAssert
        simp only [run_bind, run_underlying' hu]
  cases a with
  | iface tt v =>
    have hx' := hx
    simp only [R] at hx
    obtain ⟨y, hxe, hv⟩ := hx
    exact go tt hv hxe
  | lit v =>
    have hx' := hx
    simp only [R] at hx
    cases v with
    | nilIface =>
      subst hx
      show VR w0 B ρ (bif (P.underlying asserted).isSome then taFails P asserted ok m else .bad "typeAssert") _
      cases hu : P.underlying asserted with
      | none => exact trivial
      | some d =>
        simp only [Option.isSome_some, cond_true]
        unfold Instr.typeAssert
        simp only [run_bind, run_underlying' hu]
        cases d <;> exact fails _ _ _
    | iface tt y => exact go tt (v := .lit y) (y := y) (by simp [R]) hx
    | _ => exact trivial
  | _ => exact trivial
end
end Go.Abs
