/- An executor whose runs hold in every world: a part of it and of what is proved of it. -/
import Derived.Test.YtkfjmpdbfjaboaaGreatAbsC
namespace Go.Abs
open Go
open Go.RowKit (Below)
section
variable {P : Program} {w0 : Wo} {B : Nat} {ρ : Rho} {m : Mem} {w : World}
theorem lits1_sound (h : MR w0 B ρ m w) (f : Value → Sem Value) {a : AVal} {x : Value} (hx : R ρ a x) : VR w0 B ρ (lits1 P m f (litOf a)) ((f x).run P w) := by
 cases e : litOf a with
 | none => exact trivial
 | some y => rw [R.of_litOf hx e]; exact pureOp_sound h _ _
theorem lits2_sound (h : MR w0 B ρ m w) (f : Value → Value → Sem Value) {a b : AVal} {x y : Value} (hx : R ρ a x) (hy : R ρ b y) : VR w0 B ρ (lits2 P m f (litOf a) (litOf b)) ((f x y).run P w) := by
 cases e : litOf a with
 | none => exact trivial
 | some u =>
  cases e' : litOf b with
  | none => exact trivial
  | some v => rw [R.of_litOf hx e, R.of_litOf hy e']; exact pureOp_sound h _ _
theorem guard_pure (op : BinOp) (t : TypeId) (ox oy : Operand) (x y : Value) (h1 : ¬ (x = .nilIface ∧ y = .nilIface)) (h2 : ∀ a b, ¬ (x = .agg a ∧ y = .agg b)) (w : World) :
  (eqGuard op t ox oy x y).run P w = .ok () w := by
 unfold eqGuard
 split
 ·simp only [Bool.not_true, Bool.false_eq_true, if_false]
  cases x <;> cases y <;> first | rfl | (exact absurd ⟨rfl, rfl⟩ h1) | (exact absurd ⟨rfl, rfl⟩ (h2 _ _))
 ·simp only [Bool.not_true, Bool.false_eq_true, if_false]
  cases x <;> cases y <;> first | rfl | (exact absurd ⟨rfl, rfl⟩ h1) | (exact absurd ⟨rfl, rfl⟩ (h2 _ _))
 ·rfl
theorem run_eq_ptr {t e n : Nat} (hu : P.underlying t = some (.pointer e)) (hn : tsz P e = some n) (h0 : n ≠ 0) (b o p : Nat) (w : World) :
  (Op.equal t (.pointer (some ⟨b, o, none⟩)) (.pointer (some ⟨b, p, none⟩))).run P w = .ok (o == p) w := by
 unfold Op.equal Op.maxDepth Op.equalIn
 simp only [run_bind, run_underlying' hu, run_sizeOf' hn]
 rw [if_pos h0]
 unfold sameAddr
 simp only [beq_self_eq_true, if_true]
 show Result.ok _ w = _
 congr 1
 rw [Bool.eq_iff_iff]
 simp
theorem descK_ptr {d : Option TypeDesc} (h : descK d = 1) : ∃ e, d = some (.pointer e) := by
 unfold descK at h; split at h <;> first | (exact ⟨_, rfl⟩) | (cases h)
theorem descK_slice {d : Option TypeDesc} (h : descK d = 2) : ∃ e, d = some (.slice e) := by
 unfold descK at h; split at h <;> first | (exact ⟨_, rfl⟩) | (cases h)
theorem descK_map {d : Option TypeDesc} (h : descK d = 3) : ∃ k e, d = some (.map k e) := by
 unfold descK at h; split at h <;> first | (exact ⟨_, _, rfl⟩) | (cases h)
theorem descK_func {d : Option TypeDesc} (h : descK d = 4) : ∃ k e v, d = some (.func k e v) := by
 unfold descK at h; split at h <;> first | (exact ⟨_, _, _, rfl⟩) | (cases h)
theorem descK_iface {d : Option TypeDesc} (h : descK d = 5) : ∃ ms, d = some (.interface ms) := by
 unfold descK at h; split at h <;> first | (exact ⟨_, rfl⟩) | (cases h)
theorem run_eqF (neq : Bool) {t : TypeId} {ox oy : Operand} {x y : Value} {r : Bool} (h1 : ¬ (x = .nilIface ∧ y = .nilIface)) (h2 : ∀ a b, ¬ (x = .agg a ∧ y = .agg b))
  (he : (Op.equal t x y).run P w = .ok r w) (hb : ∀ op, op = (if neq then BinOp.neq else .eql) → binOp op t x y = (if neq then do pure (.bool (!(← Op.equal t x y))) else do pure (.bool (← Op.equal t x y)))) :
  (binF (if neq then .neq else .eql) t ox oy x y).run P w = .ok (.bool (bif neq then !r else r)) w := by
 unfold binF
 rw [run_bind, guard_pure _ _ _ _ _ _ h1 h2]
 dsimp only
 rw [hb _ rfl]
 cases neq with
 | true => simp only [if_true, run_bind, he, run_pure, cond_true]
 | false => simp only [Bool.false_eq_true, if_false, run_bind, he, run_pure, cond_false]
theorem eqOp_sound (h : MR w0 B ρ m w) (neq : Bool) (t : TypeId) (ox oy : Operand) {a b : AVal} {x y : Value} (hx : R ρ a x) (hy : R ρ b y) :
  VR w0 B ρ (eqOp P (if neq then .neq else .eql) neq t ox oy a b m) ((binF (if neq then .neq else .eql) t ox oy x y).run P w) := by
 have nil : ∀ (k : Nat), (descK (P.underlying t) = k → (binF (if neq then .neq else .eql) t ox oy x y).run P w = .ok (.bool (bif neq then !false else false)) w) →
   VR w0 B ρ (eqNil neq m k (P.underlying t)) ((binF (if neq then .neq else .eql) t ox oy x y).run P w) := by
  intro k hk
  unfold eqNil
  cases hb : (descK (P.underlying t)).beq k with
  | false => exact trivial
  | true =>
   rw [nat_beq] at hb
   rw [cond_true, hk hb]
   exact VR.lit h
 unfold eqOp
 split
 ·exact lits2_sound h _ hx hy
 ·-- two pointers
  rename_i r o q p
  simp only [R] at hx hy
  obtain ⟨p1, e1, rfl⟩ := hx
  obtain ⟨p2, e2, rfl⟩ := hy
  cases hs : ptrSize P (P.underlying t) with
  | none => exact trivial
  | some n =>
   show VR w0 B ρ (bif r.beq q && !(n.beq 0) then eqRes neq m (o.beq p) else .bad "pointer equality") _
   cases hb : (r.beq q && !(n.beq 0)) with
   | false => exact trivial
   | true =>
    rw [cond_true]
    simp only [Bool.and_eq_true, nat_beq, Bool.not_eq_true', nat_beq_f] at hb
    obtain ⟨rfl, h0⟩ := hb
    rw [e1] at e2; cases e2
    have : ∃ e, P.underlying t = some (.pointer e) ∧ tsz P e = some n := by
     unfold ptrSize at hs
     split at hs
     ·rename_i e he; exact ⟨e, he, hs⟩
     ·cases hs
    obtain ⟨e, hu, hn⟩ := this
    have hr := run_eq_ptr (w := w) hu hn h0 p1.b (o + p1.s) (p + p1.s)
    rw [run_eqF neq (by simp) (by simp) hr (fun op e => by subst e; cases neq <;> rfl)]
    refine (VR.lit h).of_eq ?_
    congr 2
    have : (o + p1.s == p + p1.s) = o.beq p := by rw [Bool.eq_iff_iff]; simp
    rw [this]
 ·simp only [R] at hx hy
  obtain ⟨p1, e1, rfl⟩ := hx
  subst hy
  refine nil 1 fun hk => ?_
  obtain ⟨e, hu⟩ := descK_ptr hk
  exact run_eqF neq (by simp) (by simp) (by unfold Op.equal Op.maxDepth Op.equalIn; simp only [run_bind, run_underlying' hu]; rfl) (fun op e => by subst e; cases neq <;> rfl)
 ·simp only [R] at hx hy
  obtain ⟨p1, c', e1, _, _, _, rfl⟩ := hx
  subst hy
  refine nil 2 fun hk => ?_
  obtain ⟨e, hu⟩ := descK_slice hk
  exact run_eqF neq (by simp) (by simp) (by unfold Op.equal Op.maxDepth Op.equalIn; simp only [run_bind, run_underlying' hu]; rfl) (fun op e => by subst e; cases neq <;> rfl)
 ·simp only [R] at hx hy
  obtain ⟨p1, c', rfl⟩ := hx
  subst hy
  refine nil 2 fun hk => ?_
  obtain ⟨e, hu⟩ := descK_slice hk
  exact run_eqF neq (by simp) (by simp) (by unfold Op.equal Op.maxDepth Op.equalIn; simp only [run_bind, run_underlying' hu]; rfl) (fun op e => by subst e; cases neq <;> rfl)
 ·simp only [R] at hx hy
  obtain ⟨p1, e1, rfl⟩ := hx
  subst hy
  refine nil 3 fun hk => ?_
  obtain ⟨k, e, hu⟩ := descK_map hk
  exact run_eqF neq (by simp) (by simp) (by unfold Op.equal Op.maxDepth Op.equalIn; simp only [run_bind, run_underlying' hu]; rfl) (fun op e => by subst e; cases neq <;> rfl)
 ·simp only [R] at hx hy
  obtain ⟨h0, f', c', rfl, _⟩ := hx
  subst hy
  refine nil 4 fun hk => ?_
  obtain ⟨k, e, v, hu⟩ := descK_func hk
  exact run_eqF neq (by simp) (by simp) (by unfold Op.equal Op.maxDepth Op.equalIn; simp only [run_bind, run_underlying' hu]; rfl) (fun op e => by subst e; cases neq <;> rfl)
 ·simp only [R] at hx hy
  obtain ⟨p1, e1, rfl⟩ := hx
  subst hy
  refine nil 4 fun hk => ?_
  obtain ⟨k, e, v, hu⟩ := descK_func hk
  exact run_eqF neq (by simp) (by simp) (by unfold Op.equal Op.maxDepth Op.equalIn; simp only [run_bind, run_underlying' hu]; rfl) (fun op e => by subst e; cases neq <;> rfl)
 ·simp only [R] at hx hy
  obtain ⟨u, rfl, _⟩ := hx
  subst hy
  refine nil 5 fun hk => ?_
  obtain ⟨ms, hu⟩ := descK_iface hk
  exact run_eqF neq (by simp) (by simp) (by unfold Op.equal Op.maxDepth Op.equalIn; simp only [run_bind, run_underlying' hu]; rfl) (fun op e => by subst e; cases neq <;> rfl)
 ·simp only [R] at hx hy
  obtain ⟨u, rfl, _⟩ := hy
  subst hx
  refine nil 5 fun hk => ?_
  obtain ⟨ms, hu⟩ := descK_iface hk
  exact run_eqF neq (by simp) (by simp) (by unfold Op.equal Op.maxDepth Op.equalIn; simp only [run_bind, run_underlying' hu]; rfl) (fun op e => by subst e; cases neq <;> rfl)
 ·exact lits2_sound h _ hx hy
theorem binOp_sound (h : MR w0 B ρ m w) (op : BinOp) (t : TypeId) (ox oy : Operand) {a b : AVal} {x y : Value} (hx : R ρ a x) (hy : R ρ b y) :
  VR w0 B ρ (binOpA P op t ox oy a b m) ((do eqGuard op t ox oy x y; binOp op t x y : Sem Value).run P w) := by
 cases op with
 | eql => exact eqOp_sound h false t ox oy hx hy
 | neq => exact eqOp_sound h true t ox oy hx hy
 | _ => exact lits2_sound h (binF _ t ox oy) hx hy
theorem typeAssert_sound (h : MR w0 B ρ m w) (xt asserted : TypeId) (ok : Bool) {a : AVal} {x : Value} (hx : R ρ a x) :
  VR w0 B ρ (Abs.typeAssert P asserted ok m a) ((Instr.typeAssert x xt asserted ok).run P w) := by
 have fails : ∀ (st dy : Option TypeId) (ms : String),
   VR w0 B ρ (taFails P asserted ok m) ((if ok then do pure (.tuple #[← zeroValue asserted, .bool false]) else runtimePanic (.typeAssertion st dy asserted ms) : Sem Value).run P w) := by
  intro st dy ms
  cases ok with
  | false => exact trivial
  | true =>
   show VR w0 B ρ (match tzero P asserted with | some z => .val (.tuple [.lit z, .lit (.bool false)]) m | none => .bad "zero") _
   cases hz : tzero P asserted with
   | none => exact trivial
   | some z =>
    simp only [if_true, run_bind, run_zeroValue' hz, run_pure]
    exact VR.same h (by simp only [R, RL]; exact ⟨_, rfl, _, _, rfl, rfl, _, _, rfl, rfl, rfl⟩)
 have holds : ∀ {v : AVal} {y : Value}, R ρ v y → VR w0 B ρ (taHolds ok v m) ((pure (if ok then .tuple #[y, .bool true] else y) : Sem Value).run P w) := by
  intro v y hv
  cases ok with
  | false => exact VR.same h hv
  | true => exact VR.same h (by skip; exact ⟨_, rfl, _, _, rfl, hv, _, _, rfl, rfl, rfl⟩)
 have go : ∀ (tt : TypeId) {v : AVal} {y : Value}, R ρ v y → x = .iface tt y →
   VR w0 B ρ (taWith P asserted ok a v m (fits P asserted tt)) ((Instr.typeAssert x xt asserted ok).run P w) := by
  intro tt v y hv hxe
  subst hxe
  cases hu : P.underlying asserted with
  | none => unfold fits; rw [hu]; exact trivial
  | some d =>
   have other : (∀ ms, d ≠ .interface ms) → VR w0 B ρ (taWith P asserted ok a v m (some (tt.beq asserted)))
     ((if tt = asserted then pure (if ok then .tuple #[y, .bool true] else y) else (if ok then do pure (.tuple #[← zeroValue asserted, .bool false]) else runtimePanic (.typeAssertion (some xt) (some tt) asserted "")) : Sem Value).run P w) := by
    intro hd
    cases hb : tt.beq asserted with
    | true =>
     rw [nat_beq] at hb
     rw [if_pos hb]
     have hi : isIfaceT P asserted = false := by unfold isIfaceT; rw [hu]; cases d <;> first | rfl | (exact absurd rfl (hd _))
     show VR w0 B ρ (taHolds ok (bif isIfaceT P asserted then a else v) m) _
     rw [hi, cond_false]
     exact holds hv
    | false =>
     rw [nat_beq_f] at hb
     rw [if_neg hb]
     exact fails _ _ _
   cases d with
   | interface want =>
    unfold fits
    rw [hu]
    show VR w0 B ρ (taWith P asserted ok a v m (fitsI want (P.info? tt))) _
    cases hi : P.info? tt with
    | none => exact trivial
    | some i =>
     unfold Instr.typeAssert
     simp only [run_bind, run_underlying' hu, run_typeInfo' hi]
     show VR w0 B ρ (taWith P asserted ok a v m (some (Instr.missingMethod want i.methods).isNone)) _
     cases hm : Instr.missingMethod want i.methods with
     | none =>
      have hi2 : isIfaceT P asserted = true := by unfold isIfaceT; rw [hu]
      show VR w0 B ρ (taHolds ok (bif isIfaceT P asserted then a else v) m) _
      rw [hi2, cond_true]
      exact holds hx
     | some ms => exact fails _ _ _
   | _ =>
    unfold fits
    rw [hu]
    refine (other (by intro ms e; cases e)).of_eq ?_
    unfold Instr.typeAssert
    simp only [run_bind, run_underlying' hu]
 cases a with
 | iface tt v =>
  have hx' := hx
  simp only [R] at hx
  obtain ⟨y, hxe, hv⟩ := hx
  exact go tt hv hxe
 | lit v =>
  have hx' := hx
  simp only [R] at hx
  cases v with
  | nilIface =>
   subst hx
   show VR w0 B ρ (bif (P.underlying asserted).isSome then taFails P asserted ok m else .bad "typeAssert") _
   cases hu : P.underlying asserted with
   | none => exact trivial
   | some d =>
    simp only [Option.isSome_some, cond_true]
    unfold Instr.typeAssert
    simp only [run_bind, run_underlying' hu]
    cases d <;> exact fails _ _ _
  | iface tt y => exact go tt (v := .lit y) (y := y) (by simp [R]) hx
  | _ => exact trivial
 | _ => exact trivial
end
open Go.RowKit (Below)
section
variable {P : Program} {w0 : Wo} {B : Nat} {ρ : Rho} {m : Mem} {w : World}
theorem value_bind {α β : Type} : ∀ (s : Sem α) (f : α → Sem β), value? P (s >>= f) = match value? P s with | .ok a => value? P (f a) | .error e => .error e := by
 intro s f
 show value? P (s.bind f) = _
 induction s with
 | pure a => rfl
 | program k ih => simp only [Sem.bind, value?]; exact ih P
 | mark x k ih => simp only [Sem.bind, value?]; exact ih
 | halt x => cases x <;> rfl
 | _ => rfl
def KeysSame : List MapEntry → List MapEntry → Prop
 | [], [] => True
 | a :: as, b :: bs => a.key = b.key ∧ KeysSame as bs
 | _, _ => False
theorem findNow_same (kind : TypeDesc) (k : Value) : ∀ (as bs : List MapEntry) (i : Nat), KeysSame as bs →
  (Instr.findNow kind k as i = none ∧ Instr.findNow kind k bs i = none) ∨
  (Instr.findNow kind k as i = some none ∧ Instr.findNow kind k bs i = some none) ∨
  (∃ (j : Nat) (a b : MapEntry), Instr.findNow kind k as i = some (some (i + j, a.val)) ∧ Instr.findNow kind k bs i = some (some (i + j, b.val)) ∧ as[j]? = some a ∧ bs[j]? = some b) := by
 intro as
 induction as with
 | nil =>
  intro bs i h
  cases bs with
  | nil => exact .inr (.inl ⟨rfl, rfl⟩)
  | cons b bs => exact h.elim
 | cons a as ih =>
  intro bs i h
  cases bs with
  | nil => exact h.elim
  | cons b bs =>
   obtain ⟨h1, h2⟩ := h
   unfold Instr.findNow
   rw [← h1]
   cases hs : Instr.sameNow kind k a.key with
   | none => exact .inl ⟨rfl, rfl⟩
   | some t =>
    cases t with
    | true => exact .inr (.inr ⟨0, a, b, rfl, rfl, rfl, rfl⟩)
    | false =>
     dsimp only
     rcases ih bs (i + 1) h2 with ⟨e1, e2⟩ | ⟨e1, e2⟩ | ⟨j, a', b', e1, e2, e3, e4⟩
     ·exact .inl ⟨e1, e2⟩
     ·exact .inr (.inl ⟨e1, e2⟩)
     ·refine .inr (.inr ⟨j + 1, a', b', ?_, ?_, e3, e4⟩)
      ·rw [e1, show i + 1 + j = i + (j + 1) from by omega]
      ·rw [e2, show i + 1 + j = i + (j + 1) from by omega]
theorem findAsking_same (kt : TypeId) (k : Value) : ∀ (as bs : List MapEntry) (i : Nat) {r : Option (Nat × Value)}, KeysSame as bs → value? P (Instr.findAsking kt k as i) = .ok r →
  (r = none ∧ value? P (Instr.findAsking kt k bs i) = .ok none) ∨
  (∃ (j : Nat) (a b : MapEntry), r = some (i + j, a.val) ∧ value? P (Instr.findAsking kt k bs i) = .ok (some (i + j, b.val)) ∧ as[j]? = some a ∧ bs[j]? = some b) := by
 intro as
 induction as with
 | nil =>
  intro bs i r h e
  cases bs with
  | nil => left; simp only [Instr.findAsking] at e ⊢; cases e; exact ⟨rfl, rfl⟩
  | cons b bs => exact h.elim
 | cons a as ih =>
  intro bs i r h e
  cases bs with
  | nil => exact h.elim
  | cons b bs =>
   obtain ⟨h1, h2⟩ := h
   unfold Instr.findAsking at e ⊢
   rw [value_bind] at e ⊢
   rw [← h1]
   cases hq : value? P (Op.equal kt k a.key) with
   | error x => rw [hq] at e; cases e
   | ok t =>
    rw [hq] at e
    cases t with
    | true =>
     right
     simp only [if_true] at e ⊢
     have : r = some (i, a.val) := by cases e; rfl
     exact ⟨0, a, b, this, rfl, rfl, rfl⟩
    | false =>
     simp only [Bool.false_eq_true, if_false] at e ⊢
     rcases ih bs (i + 1) h2 e with ⟨e1, e2⟩ | ⟨j, a', b', e1, e2, e3, e4⟩
     ·exact .inl ⟨e1, e2⟩
     ·refine .inr ⟨j + 1, a', b', ?_, ?_, e3, e4⟩
      ·rw [e1, show i + 1 + j = i + (j + 1) from by omega]
      ·rw [e2, show i + 1 + j = i + (j + 1) from by omega]
theorem findKey_same (kt : TypeId) (k : Value) (as bs : List MapEntry) {r : Option (Nat × Value)} (h : KeysSame as bs) (e : value? P (Instr.findKey kt k as) = .ok r) :
  (r = none ∧ value? P (Instr.findKey kt k bs) = .ok none) ∨
  (∃ (j : Nat) (a b : MapEntry), r = some (j, a.val) ∧ value? P (Instr.findKey kt k bs) = .ok (some (j, b.val)) ∧ as[j]? = some a ∧ bs[j]? = some b) := by
 unfold Instr.findKey at e ⊢
 rw [value_bind] at e ⊢
 cases hu : value? P (underlying kt) with
 | error x => rw [hu] at e; cases e
 | ok d =>
  rw [hu] at e
  dsimp only at e ⊢
  rcases findNow_same d k as bs 0 h with ⟨e1, e2⟩ | ⟨e1, e2⟩ | ⟨j, a, b, e1, e2, e3, e4⟩
  ·rw [e1] at e
   rw [e2]
   dsimp only at e ⊢
   rcases findAsking_same kt k as bs 0 h e with ⟨f1, f2⟩ | ⟨j, a, b, f1, f2, f3, f4⟩
   ·exact .inl ⟨f1, f2⟩
   ·rw [Nat.zero_add] at f1 f2; exact .inr ⟨j, a, b, f1, f2, f3, f4⟩
  ·rw [e1] at e
   rw [e2]
   left
   cases e
   exact ⟨rfl, rfl⟩
  ·rw [e1] at e
   rw [e2]
   rw [Nat.zero_add] at e ⊢
   right
   have : r = some (j, a.val) := by cases e; rfl
   exact ⟨j, a, b, this, rfl, e3, e4⟩
theorem ptrKey_some {k : Value} {r o : Nat} (h : ptrKey k = some (r, o)) : k = .pointer (some ⟨r, o, none⟩) := by
 unfold ptrKey at h
 split at h
 ·cases h; rfl
 ·cases h
theorem KR.back {k x : Value} (h : KR ρ k x) : R ρ (keyBack k) x := by
 unfold KR at h
 cases hk : ptrKey k with
 | some ro =>
  obtain ⟨r, o⟩ := ro
  rw [hk] at h
  rw [ptrKey_some hk]
  show R ρ (.ptr r o) x
  simp only [R]
  exact h
 | none =>
  rw [hk] at h
  dsimp only at h
  subst h
  have : keyBack x = .lit x := by
   unfold keyBack
   split
   ·cases hk
   ·rfl
  rw [this]
  simp [R]
theorem KR.of_none {k : Value} (h : ptrKey k = none) : KR ρ k k := by unfold KR; rw [h]
theorem toLit_key {v : AVal} {k : Value} (hv : ∀ y, v ≠ .lit y) (h : v.toLit = some k) : ptrKey k = none := by
 cases v with
 | lit y => exact absurd rfl (hv y)
 | agg l => simp only [AVal.toLit, Option.map_eq_some_iff] at h; obtain ⟨_, _, rfl⟩ := h; rfl
 | tuple l => simp only [AVal.toLit, Option.map_eq_some_iff] at h; obtain ⟨_, _, rfl⟩ := h; rfl
 | iface t l => simp only [AVal.toLit, Option.map_eq_some_iff] at h; obtain ⟨_, _, rfl⟩ := h; rfl
 | _ => simp [AVal.toLit] at h
theorem keyOf_KR {v : AVal} {x k : Value} (h : R ρ v x) (e : keyOf v = some k) : KR ρ k x := by
 have gen : (∀ y, v ≠ .lit y) → litOf v = some k → KR ρ k x := by
  intro hv e'
  have hx := R.of_litOf h e'
  subst hx
  refine KR.of_none (toLit_key hv ?_)
  unfold litOf at e'
  split at e'
  ·exact absurd rfl (hv _)
  ·exact e'
 cases v with
 | ptr r o =>
  have e' : some (Value.pointer (some ⟨r, o, none⟩)) = some k := e
  cases e'
  simp only [R] at h
  exact h
 | lit y =>
  simp only [R] at h
  subst h
  cases x with
  | pointer a =>
   cases a with
   | none => cases e; exact KR.of_none rfl
   | some a => cases e
  | _ => cases e; exact KR.of_none rfl
 | _ => exact gen (fun _ => by nofun) e
theorem ER.keys : ∀ {es : List AEnt} {l : List MapEntry}, ER ρ es l → es.length = l.length ∧
  (∀ (i : Nat) (e : AEnt), es[i]? = some e → ∃ x, l[i]? = some x ∧ KR ρ e.key x.key ∧ x.born = e.born ∧ R ρ e.val x.val)
 | [], l, h => by
  have h' : l = [] := h
  subst h'
  exact ⟨rfl, fun i e he => by simp at he⟩
 | a :: es, l, h => by
  obtain ⟨x, xs, rfl, h2, h3, h4, h5⟩ := h
  obtain ⟨k2, k3⟩ := ER.keys h5
  refine ⟨by simp [k2], fun i e he => ?_⟩
  cases i with
  | zero => simp only [List.getElem?_cons_zero, Option.some.injEq] at he; subst he; exact ⟨x, rfl, h2, h3, h4⟩
  | succ i => simp only [List.getElem?_cons_succ] at he ⊢; exact k3 i e he
theorem ER.same : ∀ {es : List AEnt} {l : List MapEntry}, ER ρ es l → noPtrs (dummies es) = true → KeysSame (dummies es) l
 | [], l, h, _ => by
  have h' : l = [] := h
  subst h'
  trivial
 | a :: es, l, h, hn => by
  obtain ⟨x, xs, rfl, h2, h3, h4, h5⟩ := h
  have hn' : (match ptrKey a.key with | some _ => false | none => noPtrs (dummies es)) = true := hn
  cases hk : ptrKey a.key with
  | some z => rw [hk] at hn'; cases hn'
  | none =>
   rw [hk] at hn'
   unfold KR at h2
   rw [hk] at h2
   exact ⟨h2.symm, ER.same h5 hn'⟩
theorem ownVar_some {r o : Nat} (h : ownVar m r o = true) : ∃ t cells pos v, m.heap.get r = some (.row (t, 0) cells r pos) ∧ cells[o]? = some v := by
 unfold ownVar at h
 split at h
 ·rename_i e cells f pos ho
  rw [Bool.and_eq_true, Bool.and_eq_true, nat_beq, nat_beq] at h
  obtain ⟨⟨h1, h2⟩, h3⟩ := h
  unfold isCellAt at h3
  rw [getO_eq] at h3
  obtain ⟨t, q⟩ := e
  dsimp only at h1
  subst h1 h2
  cases hc : cells[o]? with
  | none => rw [hc] at h3; cases h3
  | some v => exact ⟨t, cells, pos, v, ho, hc⟩
 ·cases h
theorem run_frozen (a : Addr) (w : World) : (frozen a).run P w = .ok (w.frozen? a) w := rfl
theorem run_noView {b : Nat} {cs : Array Value} {e : TypeId} {fz : Nat × Nat} (hw : w.heap[b]? = some (.cells cs e fz)) (o : Nat) : (noView ⟨b, o, none⟩).run P w = .ok () w := by
 unfold noView
 have hv : (viewAt b).run P w = .ok none w := by
  have hs : (shape b).run P w = .ok (some (e, cs.size)) w := by
   rw [show (shape b).run P w = .ok (w.shape? b) w from rfl]
   unfold World.shape?
   rw [hw]
  unfold viewAt
  simp only [run_bind, hs, Option.isSome_some, if_true, run_pure]
 simp only [run_bind, hv]
 rfl
theorem run_stringish {b : Nat} {cs : Array Value} {e : TypeId} {lo hi : Nat} (hw : w.heap[b]? = some (.cells cs e (lo, hi))) (hc : Clear lo hi (cs.size + 1)) {o : Nat} (ho : o < cs.size) :
  (stringish ⟨b, o, none⟩).run P w = .ok false w := by
 have hz : ∀ i, i < cs.size + 1 → w.frozen? ⟨b, i, none⟩ = false := by
  intro i hi'
  unfold World.frozen?
  rw [hw]
  have := hc i hi'
  simp only [Bool.and_eq_false_iff, decide_eq_false_iff_not]
  by_cases h : lo ≤ i
  ·right; exact fun h2 => this ⟨h, h2⟩
  ·left; exact h
 have hsh : w.shape? b = some (e, cs.size) := by unfold World.shape?; rw [hw]
 unfold stringish
 have hs1 : (shape b).run P w = .ok (some (e, cs.size)) w := by rw [show (shape b).run P w = .ok (w.shape? b) w from rfl, hsh]
 simp only [run_bind, run_frozen, hz o (by omega), Bool.false_eq_true, if_false, hs1, hz cs.size (by omega)]
theorem MR.apart (h : MR w0 B ρ m w) {r o q p : Nat} (h1 : ownVar m r o = true) (h2 : ownVar m q p = true) (hne : r ≠ q) {pr pq : Pl} (hr : ρ r = some pr) (hq : ρ q = some pq) :
  pr.b ≠ pq.b ∧ (sameAddr ⟨pr.b, o + pr.s, none⟩ ⟨pq.b, p + pq.s, none⟩).run P w = .ok false w := by
 obtain ⟨t1, c1, po1, v1, a1, a2⟩ := ownVar_some h1
 obtain ⟨t2, c2, po2, v2, b1, b2⟩ := ownVar_some h2
 have hb : pr.b ≠ pq.b := fun e => hne (h.inj r q _ _ pr pq hne a1 b1 hr hq e).1
 refine ⟨hb, ?_⟩
 obtain ⟨_, _, cs1, lo1, hi1, w1, z1, cr1, _, cl1⟩ := h.obj r _ pr a1 hr
 obtain ⟨_, _, cs2, lo2, hi2, w2, z2, cr2, _, cl2⟩ := h.obj q _ pq b1 hq
 obtain ⟨x1, hx1, _⟩ := cr1 o v1 a2
 obtain ⟨x2, hx2, _⟩ := cr2 p v2 b2
 have l1 := (Array.getElem?_eq_some_iff.1 hx1).1
 have l2 := (Array.getElem?_eq_some_iff.1 hx2).1
 have k1 := cl1 rfl
 have k2 := cl2 rfl
 rw [← z1] at k1
 rw [← z2] at k2
 have s1 := run_stringish (P := P) w1 k1 l1
 have s2 := run_stringish (P := P) w2 k2 l2
 have f1 : w.frozen? ⟨pr.b, o + pr.s, none⟩ = false := by
  unfold World.frozen?
  rw [w1]
  have := k1 (o + pr.s) (by omega)
  simp only [Bool.and_eq_false_iff, decide_eq_false_iff_not]
  by_cases hh : lo1 ≤ o + pr.s
  ·right; exact fun h2 => this ⟨hh, h2⟩
  ·left; exact hh
 unfold sameAddr
 have hbq : (pr.b == pq.b) = false := by simpa using hb
 have mb : (mayBeOne ⟨pr.b, o + pr.s, none⟩ ⟨pq.b, p + pq.s, none⟩).run P w = .ok false w := by
  unfold mayBeOne
  have g1 : (shape pr.b).run P w = .ok (w.shape? pr.b) w := rfl
  have g2 : (shape pq.b).run P w = .ok (w.shape? pq.b) w := rfl
  simp only [run_bind, s1, s2, g1, g2, run_pure, Bool.false_and, Bool.or_self]
 simp only [hbq, Bool.false_eq_true, if_false, run_bind, run_frozen, f1, Bool.false_and, run_noView w1, run_noView w2, mb, run_pure]
theorem isPtrT_some {t : TypeId} (h : isPtrT P t = true) : ∃ e n, P.underlying t = some (.pointer e) ∧ tsz P e = some n ∧ n ≠ 0 := by
 unfold isPtrT at h
 split at h
 ·rename_i e he
  split at h
  ·rename_i n hn
   rw [Bool.not_eq_true', nat_beq_f] at h
   exact ⟨e, n, he, hn, h⟩
  ·cases h
 ·cases h
theorem run_eq_ptr2 {t e n : Nat} (hu : P.underlying t = some (.pointer e)) (hn : tsz P e = some n) (h0 : n ≠ 0) (a b : Addr) (w : World) :
  (Op.equal t (.pointer (some a)) (.pointer (some b))).run P w = (sameAddr a b).run P w := by
 unfold Op.equal Op.maxDepth Op.equalIn
 simp only [run_bind, run_underlying' hu, run_sizeOf' hn]
 rw [if_pos h0]
theorem ownKeys_cons (m : Mem) (e : MapEntry) (es : List MapEntry) : ownKeys m (e :: es) = match ptrKey e.key with | some (r, o) => bif ownVar m r o then ownKeys m es else false | none => false := rfl
theorem findPtr_sound (h : MR w0 B ρ m w) {kt e n : Nat} (hu : P.underlying kt = some (.pointer e)) (hn : tsz P e = some n) (h0 : n ≠ 0) {r o : Nat} (hown : ownVar m r o = true) {p : Pl} (hp : ρ r = some p) :
  ∀ {es : List AEnt} {l : List MapEntry} (i : Nat), ER ρ es l → ownKeys m (dummies es) = true →
   (findPtr r o (dummies es) i = none ∧ (Instr.findAsking kt (.pointer (some ⟨p.b, o + p.s, none⟩)) l i).run P w = .ok none w) ∨
   (∃ j x, findPtr r o (dummies es) i = some (i + j) ∧ l[j]? = some x ∧ (Instr.findAsking kt (.pointer (some ⟨p.b, o + p.s, none⟩)) l i).run P w = .ok (some (i + j, x.val)) w)
 | [], l, i, hE, _ => by
  have h' : l = [] := hE
  subst h'
  exact .inl ⟨rfl, rfl⟩
 | a :: es, l, i, hE, hk => by
  obtain ⟨x, xs, rfl, h2, h3, h4, h5⟩ := hE
  have hk' : (match ptrKey a.key with | some (r, o) => bif ownVar m r o then ownKeys m (dummies es) else false | none => false) = true := hk
  cases ha : ptrKey a.key with
  | none => rw [ha] at hk'; cases hk'
  | some qq =>
   obtain ⟨q, o'⟩ := qq
   rw [ha] at hk'
   dsimp only at hk'
   cases hov : ownVar m q o' with
   | false => rw [hov] at hk'; cases hk'
   | true =>
    rw [hov, cond_true] at hk'
    unfold KR at h2
    rw [ha] at h2
    obtain ⟨p', hp', hx⟩ := h2
    have hf : findPtr r o (dummies (a :: es)) i = bif q.beq r && o'.beq o then some i else findPtr r o (dummies es) i.succ := by
     show (match ptrKey a.key with | some (q, p) => bif q.beq r && p.beq o then some i else findPtr r o (dummies es) i.succ | none => findPtr r o (dummies es) i.succ) = _
     rw [ha]
    have heq : (Op.equal kt (.pointer (some ⟨p.b, o + p.s, none⟩)) x.key).run P w = .ok (q.beq r && o'.beq o) w := by
     rw [hx, run_eq_ptr2 hu hn h0]
     by_cases hqr : q = r
     ·subst hqr
      rw [hp] at hp'; cases hp'
      unfold sameAddr
      simp only [beq_self_eq_true, if_true]
      show Result.ok _ w = _
      congr 1
      rw [Bool.eq_iff_iff, Bool.and_eq_true, nat_beq, nat_beq]
      simp
      omega
     ·rw [(h.apart (P := P) hown hov (Ne.symm hqr) hp hp').2]
      have : q.beq r = false := by rw [nat_beq_f]; exact hqr
      rw [this]; rfl
    unfold Instr.findAsking
    rw [run_bind, heq, hf]
    dsimp only
    cases hb : q.beq r && o'.beq o with
    | true =>
     right
     exact ⟨0, x, rfl, rfl, rfl⟩
    | false =>
     rw [cond_false]
     simp only [Bool.false_eq_true, if_false]
     rcases findPtr_sound h hu hn h0 hown hp (i + 1) h5 hk' with ⟨e1, e2⟩ | ⟨j, y, e1, e2, e3⟩
     ·exact .inl ⟨e1, e2⟩
     ·refine .inr ⟨j + 1, y, ?_, e2, ?_⟩
      ·rw [show i + (j + 1) = i + 1 + j from by omega]; exact e1
      ·rw [show i + (j + 1) = i + 1 + j from by omega]; exact e3
theorem findLit_sound {empty : Bool} {kt : TypeId} {k : Value} {es : List AEnt} {l : List MapEntry} (h : KeysSame (dummies es) l) {r : Option Nat} (e : findLit P empty kt k (dummies es) = some r) (w : World) :
  (Instr.checkKey empty 10000 kt k).run P w = .ok () w ∧
  ((r = none ∧ (Instr.findKey kt k l).run P w = .ok none w) ∨ (∃ i x, r = some i ∧ l[i]? = some x ∧ (Instr.findKey kt k l).run P w = .ok (some (i, x.val)) w)) := by
 unfold findLit at e
 cases hc : value? P (Instr.checkKey empty 10000 kt k) with
 | error x => rw [hc] at e; cases e
 | ok u =>
  rw [hc] at e
  refine ⟨value_ok _ hc w, ?_⟩
  dsimp only at e
  cases hf : value? P (Instr.findKey kt k (dummies es)) with
  | error x => rw [hf] at e; cases e
  | ok q =>
   rw [hf] at e
   rcases findKey_same kt k _ l h hf with ⟨rfl, h2⟩ | ⟨j, a, b, rfl, h2, h3, h4⟩
   ·left; cases e; exact ⟨rfl, value_ok _ h2 w⟩
   ·right; cases e; exact ⟨j, b, rfl, h4, value_ok _ h2 w⟩
theorem findIx_sound (hM : MR w0 B ρ m w) {empty : Bool} {kt : TypeId} {k x : Value} (hk : KR ρ k x) {es : List AEnt} {l : List MapEntry} (h : ER ρ es l) {r : Option Nat} (e : findIx P m empty kt k (dummies es) = some r) :
  (Instr.checkKey empty 10000 kt x).run P w = .ok () w ∧
  ((r = none ∧ (Instr.findKey kt x l).run P w = .ok none w) ∨ (∃ i y, r = some i ∧ l[i]? = some y ∧ (Instr.findKey kt x l).run P w = .ok (some (i, y.val)) w)) := by
 unfold findIx at e
 unfold KR at hk
 cases hpk : ptrKey k with
 | none =>
  rw [hpk] at e hk
  dsimp only at e hk
  subst hk
  cases hn : noPtrs (dummies es) with
  | false => rw [hn] at e; cases e
  | true => rw [hn] at e; exact findLit_sound (h.same hn) e w
 | some ro =>
  obtain ⟨r', o⟩ := ro
  rw [hpk] at e hk
  dsimp only at e hk
  obtain ⟨p, hp, rfl⟩ := hk
  cases hc : isPtrT P kt && ownVar m r' o && ownKeys m (dummies es) with
  | false => rw [hc] at e; cases e
  | true =>
   rw [hc] at e
   cases e
   rw [Bool.and_eq_true, Bool.and_eq_true] at hc
   obtain ⟨⟨c1, c2⟩, c3⟩ := hc
   obtain ⟨et, n, hu, hn, h0⟩ := isPtrT_some c1
   have hfa : ∀ l, (Instr.findKey kt (.pointer (some ⟨p.b, o + p.s, none⟩)) l).run P w = match l with | [] => .ok none w | l => (Instr.findAsking kt (.pointer (some ⟨p.b, o + p.s, none⟩)) l).run P w := by
    intro l
    unfold Instr.findKey
    rw [run_bind, run_underlying' hu]
    dsimp only
    cases l with
    | nil => rfl
    | cons y ys => rfl
   refine ⟨?_, ?_⟩
   ·unfold Instr.checkKey
    rw [run_bind, run_underlying' hu]
    rfl
   ·rw [hfa]
    rcases findPtr_sound hM hu hn h0 c2 hp 0 h c3 with ⟨e1, e2⟩ | ⟨j, y, e1, e2, e3⟩
    ·left
     refine ⟨e1, ?_⟩
     cases l with
     | nil => rfl
     | cons y ys => exact e2
    ·right
     rw [Nat.zero_add] at e1 e3
     refine ⟨j, y, e1, e2, ?_⟩
     cases l with
     | nil => simp at e2
     | cons y ys => exact e3
theorem run_getObj {b : Nat} {o : Obj} (h : w.heap[b]? = some o) (hn : ∀ c e f, o ≠ .cells c e f) : (Go.getObj b).run P w = .ok o w := by
 unfold Go.getObj
 simp only [Sem.run, h]
 all_goals (cases o <;> first | rfl | (exact absurd rfl (hn _ _ _)))
theorem run_setObj {b : Nat} {o x : Obj} (h : w.heap[b]? = some o) (hn : ∀ c e f, o ≠ .cells c e f) : (Go.setObj b x).run P w = .ok () (setBlk w b x) := by
 unfold Go.setObj
 simp only [Sem.run, h]
 all_goals (cases o <;> first | rfl | (exact absurd rfl (hn _ _ _)))
theorem MR.map (h : MR w0 B ρ m w) {r : Nat} {b : Nat} (hp : ρ r = some (Pl.obj b)) {es : List AEnt} {clock : Nat} (ho : m.heap.get r = some (.map es clock)) :
  B ≤ b ∧ ∃ es', w.heap[b]? = some (.map es' clock) ∧ ER ρ es es'.toList := by
 obtain ⟨h1, _, es', h2, h3⟩ := h.obj r _ _ ho hp
 exact ⟨h1, es', h2, h3⟩
theorem mapKey_some {t kt et : TypeId} (h : mapKey P t = some (kt, et)) : P.underlying t = some (.map kt et) := by
 unfold mapKey at h
 split at h
 ·rename_i k e he; cases h; exact he
 ·cases h
theorem entriesOf_some {a : AVal} {es : List AEnt} (h : MR w0 B ρ m w) {x : Value} (hx : R ρ a x) (e : entriesOf m a = some es) :
  ∃ l : Array MapEntry, ER ρ es l.toList ∧ ((x = .map none ∧ l = #[]) ∨ (∃ b clock, x = .map (some b) ∧ w.heap[b]? = some (.map l clock))) := by
 unfold entriesOf at e
 split at e
 ·cases e; simp only [R] at hx; exact ⟨#[], rfl, .inl ⟨hx, rfl⟩⟩
 ·rename_i r
  simp only [R] at hx
  obtain ⟨b, hp, rfl⟩ := hx
  split at e
  ·rename_i es' clock ho
   cases e
   obtain ⟨_, l, h1, h2⟩ := h.map hp ho
   exact ⟨l, h2, .inr ⟨b, clock, rfl, h1⟩⟩
  ·cases e
 ·cases e
theorem lookup_sound (h : MR w0 B ρ m w) (t : TypeId) (ok : Bool) {a k : AVal} {x y : Value} (hx : R ρ a x) (hy : R ρ k y) :
  VR w0 B ρ (lookupOp P ok m (entriesOf m a) (keyOf k) (mapKey P t)) ((Instr.lookup t x y ok).run P w) := by
 cases he : entriesOf m a with
 | none => exact trivial
 | some es =>
  cases hk : keyOf k with
  | none => exact trivial
  | some kv =>
   cases ht : mapKey P t with
   | none => exact trivial
   | some kk =>
    obtain ⟨kt, et⟩ := kk
    have hu := mapKey_some ht
    have hky := keyOf_KR hy hk
    show VR w0 B ρ (luIn P ok m kv kt et es (tzero P et)) _
    cases hz : tzero P et with
    | none => exact trivial
    | some z =>
     show VR w0 B ρ (luAt ok z m es (findIx P m (isNil es) kt kv (dummies es))) _
     cases hf : findIx P m (isNil es) kt kv (dummies es) with
     | none => exact trivial
     | some r =>
      obtain ⟨l, hER, hxl⟩ := entriesOf_some h hx he
      obtain ⟨c1, c2⟩ := findIx_sound h hky hER hf
      obtain ⟨k2, k3⟩ := hER.keys
      have hemp : isNil es = l.isEmpty := by
       have k2' : es.length = l.size := by simpa using k2
       rw [isNil_eq, Bool.eq_iff_iff, List.isEmpty_iff, Array.isEmpty_iff, ← List.length_eq_zero_iff, ← Array.size_eq_zero_iff, k2']
      rw [hemp] at c1
      rcases c2 with ⟨rfl, c3⟩ | ⟨i, u, rfl, c3, c4⟩
      ·show VR w0 B ρ (luRes ok z m none) _
       have hr : (Instr.lookup t x y ok).run P w = .ok (if ok then .tuple #[z, .bool false] else z) w := by
        unfold Instr.lookup
        rcases hxl with ⟨rfl, rfl⟩ | ⟨b, clock, rfl, hw⟩
        ·simp only [run_bind, run_underlying' hu, run_pure, c1, c3, run_zeroValue' hz]
        ·simp only [run_bind, run_underlying' hu, run_getObj (P := P) hw (fun _ _ _ e => by cases e), run_pure, c1, c3, run_zeroValue' hz]
       rw [hr]
       cases ok with
       | true => exact VR.same h (by simp [R])
       | false => exact VR.same h (by simp [R])
      ·show VR w0 B ρ (match getO es i with | some e => luRes ok z m (some e.val) | none => .bad "lookup") _
       rw [getO_eq]
       cases hg : es[i]? with
       | none => exact trivial
       | some e =>
        obtain ⟨u', hu', _, _, hR⟩ := k3 i e hg
        rw [hu'] at c3; cases c3
        have hr : (Instr.lookup t x y ok).run P w = .ok (if ok then .tuple #[u.val, .bool true] else u.val) w := by
         unfold Instr.lookup
         rcases hxl with ⟨rfl, rfl⟩ | ⟨b, clock, rfl, hw⟩
         ·simp only [run_bind, run_underlying' hu, run_pure, c1, c4]
         ·simp only [run_bind, run_underlying' hu, run_getObj (P := P) hw (fun _ _ _ e => by cases e), run_pure, c1, c4]
        rw [hr]
        cases ok with
        | true => exact VR.same h (by simp only [R, cond_true, RL]; exact ⟨_, rfl, _, _, rfl, hR, _, _, rfl, rfl, rfl⟩)
        | false => exact VR.same h hR
theorem setEnt_nil (i : Nat) (k : Value) (v : AVal) : setEnt i k v [] = [] := by cases i <;> rfl
theorem setEnt_zero (k : Value) (v : AVal) (e : AEnt) (es : List AEnt) : setEnt 0 k v (e :: es) = ⟨k, v, e.born⟩ :: es := rfl
theorem setEnt_succ (i : Nat) (k : Value) (v : AVal) (e : AEnt) (es : List AEnt) : setEnt (i + 1) k v (e :: es) = e :: setEnt i k v es := rfl
theorem ER.set {k y : Value} (hk : KR ρ k y) {v : AVal} {x : Value} (hv : R ρ v x) : ∀ {es : List AEnt} {l : List MapEntry} (i : Nat), ER ρ es l →
  ER ρ (setEnt i k v es) (l.modify i fun e => { e with key := y, val := x })
 | [], l, i, h => by
  have h' : l = [] := h
  subst h'
  rw [setEnt_nil]
  cases i <;> exact rfl
 | a :: es, l, i, h => by
  obtain ⟨y, ys, rfl, h2, h3, h4, h5⟩ := h
  cases i with
  | zero => rw [setEnt_zero]; exact ⟨_, _, rfl, hk, h3, hv, h5⟩
  | succ i => rw [setEnt_succ]; exact ⟨_, _, rfl, h2, h3, h4, ER.set hk hv i h5⟩
theorem ER.push {a : AEnt} {y : MapEntry} (h1 : KR ρ a.key y.key) (h2 : y.born = a.born) (h3 : R ρ a.val y.val) : ∀ {es : List AEnt} {l : List MapEntry}, ER ρ es l → ER ρ (es ++ [a]) (l ++ [y])
 | [], l, h => by
  have h' : l = [] := h
  subst h'
  exact ⟨y, [], rfl, h1, h2, h3, rfl⟩
 | b :: es, l, h => by
  obtain ⟨z, zs, rfl, k2, k3, k4, k5⟩ := h
  exact ⟨z, _, rfl, k2, k3, k4, ER.push h1 h2 h3 k5⟩
theorem MR.putMap (h : MR w0 B ρ m w) {r b : Nat} (hp : ρ r = some (Pl.obj b)) {es : List AEnt} {clock : Nat} (ho : m.heap.get r = some (.map es clock))
  {es1 : List AEnt} {l1 : Array MapEntry} (clock1 : Nat) (he : ER ρ es1 l1.toList) : MR w0 B ρ (m.put r (.map es1 clock1)) (setBlk w b (.map l1 clock1)) :=
 h.put ho hp (fun _ _ _ _ e => by cases e) (fun _ e => by cases e) (fun _ _ _ _ e => by cases e) (h.map hp ho).1 ⟨(h.map hp ho).1, rfl, l1, rfl, he⟩
theorem keyStays_sound {a k x y : Value} (h1 : KR ρ a x) (h2 : KR ρ k y) (h : keyStays a k = true) : (Instr.keyThatStays x y).run P w = .ok y w := by
 have hs : Instr.sameBits 10000 x y = true := by
  unfold keyStays at h
  split at h
  ·rename_i r o q p ha hk
   rw [Bool.and_eq_true, nat_beq, nat_beq] at h
   obtain ⟨rfl, rfl⟩ := h
   unfold KR at h1 h2
   rw [ha] at h1
   rw [hk] at h2
   obtain ⟨p1, e1, rfl⟩ := h1
   obtain ⟨p2, e2, rfl⟩ := h2
   rw [e1] at e2; cases e2
   unfold Instr.sameBits
   simp
  ·rename_i ha hk
   unfold KR at h1 h2
   rw [ha] at h1
   rw [hk] at h2
   dsimp only at h1 h2
   subst h1 h2
   exact h
  ·cases h
 unfold Instr.keyThatStays
 rw [if_pos hs]
 rfl
theorem mapUpdate_sound (h : MR w0 B ρ m w) (t : TypeId) {a k v : AVal} {x y z : Value} (hx : R ρ a x) (hy : R ρ k y) (hz : R ρ v z) :
  UR w0 B ρ (Abs.mapUpdate P m (mapKey P t) k v a) ((Instr.mapUpdate t x y z).run P w) := by
 cases a with
 | map r =>
  simp only [R] at hx
  obtain ⟨b, hp, rfl⟩ := hx
  show UR w0 B ρ (mapPut P m r v (m.heap.get r) (keyOf k) (mapKey P t)) _
  cases ho : m.heap.get r with
  | none => exact trivial
  | some o =>
   cases hk : keyOf k with
   | none => cases o <;> exact trivial
   | some kv =>
    cases ht : mapKey P t with
    | none => cases o <;> exact trivial
    | some kk =>
     obtain ⟨kt, et⟩ := kk
     cases o with
     | map es clock =>
      have hu := mapKey_some ht
      have hky := keyOf_KR hy hk
      obtain ⟨hB, l, hw, hER⟩ := h.map hp ho
      show UR w0 B ρ (muAt m r kv v es clock (findIx P m false kt kv (dummies es))) _
      cases hf : findIx P m false kt kv (dummies es) with
      | none => exact trivial
      | some q =>
       obtain ⟨c1, c2⟩ := findIx_sound h hky hER hf
       obtain ⟨k2, k3⟩ := hER.keys
       have hgo := run_getObj (P := P) hw (fun _ _ _ e => by cases e)
       have hso : ∀ o', (Go.setObj b o').run P w = .ok () (setBlk w b o') := fun o' => run_setObj hw (fun _ _ _ e => by cases e)
       rcases c2 with ⟨rfl, c3⟩ | ⟨i, u, rfl, c3, c4⟩
       ·refine ⟨rfl, _, ρ, ?_, Rho.le.refl ρ, h.putMap hp ho (clock + 1) (l1 := l.push { key := y, val := z, born := clock }) ?_⟩
        ·unfold Instr.mapUpdate
         simp only [run_bind, run_underlying' hu, hgo, c1, c3, hso]
        ·rw [appL_eq, Array.toList_push]
         exact ER.push hky rfl hz hER
       ·show UR w0 B ρ (muSet m r kv v es clock i (getO es i)) _
        rw [getO_eq]
        cases hg : es[i]? with
        | none => exact trivial
        | some e =>
         show UR w0 B ρ (bif keyStays e.key kv then .val .poison (m.put r (.map (setEnt i kv v es) clock)) else .bad "mapUpdate key") _
         cases hb : keyStays e.key kv with
         | false => exact trivial
         | true =>
          rw [cond_true]
          obtain ⟨u', hu', hkey, _, _⟩ := k3 i e hg
          have hli : (l[i]?).map (·.key) = some u'.key := by
           have : l[i]? = some u' := by simpa using hu'
           rw [this, Option.map_some]
          have hkeep := keyStays_sound (P := P) (w := w) hkey hky hb
          refine ⟨rfl, _, ρ, ?_, Rho.le.refl ρ, h.putMap hp ho clock (l1 := l.modify i fun e => { e with key := y, val := z }) ?_⟩
          ·unfold Instr.mapUpdate
           simp only [run_bind, run_underlying' hu, hgo, c1, c4, hli, Option.getD_some, hkeep, hso]
          ·rw [Array.toList_modify]
           exact ER.set hky hz i hER
     | _ => exact trivial
 | _ => exact trivial
theorem isStrD_some {d : Option TypeDesc} (h : isStrD d = true) : d = some .string := by
 unfold isStrD at h
 split at h
 ·rfl
 ·cases h
theorem range_sound (h : MR w0 B ρ m w) (t : TypeId) {a : AVal} {x : Value} (hx : R ρ a x) :
  VR w0 B ρ (rangeOp m (isStrD (P.underlying t)) (mapKey P t).isSome a) ((Instr.range t x).run P w) := by
 have fin : ∀ (o : AObj) (ob : Obj), (∀ e cs f q, o ≠ .row e cs f q) → (∀ ρ', ρ.le ρ' → OR ρ' B (Pl.obj w.heap.size) (some ob) o) →
   (Instr.range t x).run P w = .ok (.pointer (some ⟨w.heap.size, 0, none⟩)) (w.alloc ob) → VR w0 B ρ (.val (.ptr m.next 0) (m.new o)) ((Instr.range t x).run P w) := by
  intro o ob h1 h2 h3
  obtain ⟨k1, k2⟩ := h.newObj o ob h1 h2
  exact ⟨_, _, _, h3, k2, k1, by simp only [R]; exact ⟨_, Rho.add_same _ _ _, rfl⟩⟩
 cases a with
 | lit v =>
  simp only [R] at hx; subst hx
  cases x with
  | string s =>
   show VR w0 B ρ (bif isStrD (P.underlying t) then .val (.ptr m.next 0) (m.new (.strIter s 0)) else .bad "range") _
   cases hs : isStrD (P.underlying t) with
   | false => exact trivial
   | true =>
    have hu := isStrD_some hs
    exact fin (.strIter s 0) (.stringIter s 0) (fun _ _ _ _ e => by cases e) (fun _ _ => ⟨h.size, rfl, rfl⟩) (by unfold Instr.range; simp only [run_bind, run_underlying' hu]; rfl)
  | map r =>
   cases r with
   | none =>
    show VR w0 B ρ (bif (mapKey P t).isSome then .val (.ptr m.next 0) (m.new (.mapIter none 0 [] 0)) else .bad "range") _
    cases ht : mapKey P t with
    | none => exact trivial
    | some kk =>
     obtain ⟨k, e⟩ := kk
     have hu := mapKey_some ht
     exact fin (.mapIter none 0 [] 0) (.mapIter none 0 #[] 0) (fun _ _ _ _ e => by cases e) (fun _ _ => ⟨h.size, rfl, rfl⟩) (by unfold Instr.range; simp only [run_bind, run_underlying' hu]; rfl)
   | some r => exact trivial
  | _ => exact trivial
 | map q =>
  simp only [R] at hx
  obtain ⟨b, hp, rfl⟩ := hx
  show VR w0 B ρ (bif (mapKey P t).isSome then rangeMap m q (m.heap.get q) else .bad "range") _
  cases ht : mapKey P t with
  | none => exact trivial
  | some kk =>
   obtain ⟨k, e⟩ := kk
   have hu := mapKey_some ht
   simp only [Option.isSome_some, cond_true]
   cases ho : m.heap.get q with
   | none => exact trivial
   | some o =>
    cases o with
    | map es clock =>
     obtain ⟨hB, l, hw, hER⟩ := h.map hp ho
     exact fin (.mapIter (some q) clock [] clock) (.mapIter (some b) clock #[] clock) (fun _ _ _ _ e => by cases e) (fun ρ' hle => ⟨h.size, rfl, b, hle _ _ hp, rfl⟩) (by
      unfold Instr.range
      simp only [run_bind, run_underlying' hu, run_getObj (P := P) hw (fun _ _ _ e => by cases e)]
      rfl)
    | _ => exact trivial
 | _ => exact trivial
theorem ER.find {b : Nat} : ∀ {es : List AEnt} {l : List MapEntry}, ER ρ es l →
  (es.find? (·.born == b) = none ∧ l.find? (·.born == b) = none) ∨ (∃ e x, es.find? (·.born == b) = some e ∧ l.find? (·.born == b) = some x ∧ KR ρ e.key x.key ∧ R ρ e.val x.val)
 | [], l, h => by
  have h' : l = [] := h
  subst h'
  exact .inl ⟨rfl, rfl⟩
 | a :: es, l, h => by
  obtain ⟨x, xs, rfl, h2, h3, h4, h5⟩ := h
  rw [List.find?_cons, List.find?_cons, h3]
  cases hb : a.born == b with
  | true => exact .inr ⟨a, x, rfl, rfl, h2, h4⟩
  | false => exact ER.find h5
theorem entry_sound (h : MR w0 B ρ m w) {a : AVal} {x : Value} (hx : R ρ a x) : VR w0 B ρ (entryOp m a) ((Instr.entry x).run P w) := by
 cases a with
 | ptr r off =>
  cases off with
  | succ n => exact trivial
  | zero =>
   simp only [R] at hx
   obtain ⟨p, hp, rfl⟩ := hx
   show VR w0 B ρ (entryAt m (m.heap.get r)) _
   cases ho : m.heap.get r with
   | none => exact trivial
   | some o =>
    cases o with
    | mapIter mp since seen stepped =>
     cases mp with
     | none => exact trivial
     | some q =>
      obtain ⟨hB, hpo, c, hq, hw⟩ := h.obj r _ p ho hp
      show VR w0 B ρ (entryIn m stepped (lastO seen) (m.heap.get q)) _
      rw [lastO_eq]
      cases hl : seen.getLast? with
      | none => exact trivial
      | some b =>
       cases ho2 : m.heap.get q with
       | none => exact trivial
       | some o2 =>
        cases o2 with
        | map es clock =>
         obtain ⟨hB2, l, hw2, hER⟩ := h.map hq ho2
         show VR w0 B ρ (bif clock.beq stepped then entryRes m (entFind b es) else .bad "entry insertion") _
         cases hc : clock.beq stepped with
         | false => exact trivial
         | true =>
          rw [nat_beq] at hc
          rw [cond_true, entFind_eq]
          rcases hER.find (b := b) with ⟨e1, _⟩ | ⟨e, x, e1, e2, e3, e4⟩
          ·rw [e1]; exact trivial
          ·rw [e1]
           refine (VR.same h (v := .tuple [keyBack e.key, e.val]) (x := .tuple #[x.key, x.val]) (by simp only [R, RL]; exact ⟨_, rfl, _, _, rfl, e3.back, _, _, rfl, e4, rfl⟩)).of_eq ?_
           have hs : p.s = 0 := by rw [hpo]; rfl
           unfold Instr.entry
           rw [hs]
           have hbk : seen.toArray.back? = some b := by simp [hl]
           simp only [Nat.add_zero, run_bind, run_getObj (P := P) hw (fun _ _ _ e => by cases e), hbk, run_getObj (P := P) hw2 (fun _ _ _ e => by cases e)]
           have hcl : (clock != stepped) = false := by simp [hc]
           rw [hcl]
           simp only [Bool.false_eq_true, if_false]
           have hf : l.find? (·.born == b) = some x := by rw [← Array.find?_toList]; exact e2
           rw [hf]
           rfl
        | _ => exact trivial
    | _ => exact trivial
 | _ => exact trivial
theorem panic_sound (h : MR w0 B ρ m w) {a : AVal} {x : Value} (hx : R ρ a x) : VR w0 B ρ (panicOp m a) ((Instr.panic x).run P w) := by
 cases a with
 | iface t v =>
  have hx' := hx
  simp only [R] at hx
  obtain ⟨y, rfl, _⟩ := hx
  exact VR.panic h hx'
 | lit v =>
  have hx' := hx
  simp only [R] at hx; subst hx
  cases x with
  | iface t y => exact VR.panic h hx'
  | _ => exact trivial
 | _ => exact trivial
end
open Go.RowKit (Below)
section
variable {P : Program} {w0 : Wo} {B : Nat} {ρ : Rho} {m : Mem} {w : World}
theorem appNew_sound (h : MR w0 B ρ m w) {size : Nat} {a : AVal} {x : Value} (hx : R ρ a x) {cs : List AVal} {k : Nat} (e : appNew size m a = some (cs, k)) :
  (Builtin.lenOf x).run P w = .ok k w ∧ ∃ xs : List Value, (Builtin.firstCells size k x).run P w = .ok xs.toArray w ∧ RL ρ cs xs ∧ xs.length = k * size := by
 unfold appNew at e
 split at e
 ·cases e; simp only [R] at hx; subst hx
  exact ⟨rfl, [], rfl, by simp [RL], by simp⟩
 ·rename_i r off n c ex
  simp only [R] at hx
  obtain ⟨p, c', hp, _, _, _, rfl⟩ := hx
  split at e
  ·rename_i cs' hcs
   cases e
   obtain ⟨xs, h1, h2, h3, _⟩ := h.readCells (P := P) hp hcs
   exact ⟨rfl, xs, h1, h2, h3⟩
  ·cases e
 ·cases e
  simp only [R] at hx
  obtain ⟨a, c', rfl⟩ := hx
  refine ⟨rfl, [], ?_, by simp [RL], by simp⟩
  unfold Builtin.firstCells
  dsimp only
  rw [Nat.zero_mul]
  rfl
 ·rename_i s
  simp only [R] at hx; subst hx
  cases hb : size.beq 1 with
  | false => rw [hb] at e; cases e
  | true =>
   rw [nat_beq] at hb
   subst hb
   have e' : some (mapL (fun (b : UInt8) => AVal.lit (.int .u8 (.ofNat b.toNat))) s.data.toList, s.size) = some (cs, k) := e
   cases e'
   refine ⟨rfl, s.data.toList.map (fun b => .int .u8 b.toNat), ?_, ?_, ?_⟩
   ·show Result.ok ((s.extract 0 s.size).data.map fun b => Value.int .u8 b.toNat) w = _
    rw [ByteArray.extract_zero_size]
    congr 1
    apply Array.ext'
    simp
   ·rw [mapL_eq]
    exact RL.map_of _ _ _ fun b _ => by simp [R]
   ·rw [List.length_map, Nat.mul_one]
    rfl
 ·cases e
theorem nextcap_small {need cap : Nat} (h : cap < need) (hs : need ≤ 100000) : Builtin.nextslicecap need cap ≤ 200000 + 768 := by
 unfold Builtin.nextslicecap
 split
 ·omega
 ·split
  ·omega
  ·have hg : ∀ (r c : Nat), c ≤ 200000 + 768 → Builtin.growBy need r c ≤ 200000 + 768 := by
    intro r
    induction r with
    | zero => intro c hc; exact hc
    | succ r ih =>
     intro c hc
     unfold Builtin.growBy
     split
     ·exact hc
     ·exact ih _ (by omega)
   exact hg 4 cap (by omega)
theorem zeroCells_size (z : Array Value) (n : Nat) : (Builtin.zeroCells z n).size = n * z.size := by
 unfold Builtin.zeroCells
 simp
theorem run_append_grow {e : TypeId} {i : TypeInfo} {z : Value} {size : Nat} (hi : P.info? e = some i) (hz : i.zero = some z) (hsz : i.size = size) (_hzs : z.cells.size = size)
  (hby : i.bytes ≤ 65536) {st : TypeId} (hu : P.underlying st = some (.slice e)) {ats : Array TypeId} (ha : ats[0]? = some st) (hnz : ∀ t, ats[1]? = some t → ∃ d, P.underlying t = some d ∧ ∀ k, d ≠ .int k)
  {base : Option Addr} {n c k : Nat} {x : Value} (hlen : (Builtin.lenOf x).run P w = .ok k w) {old new : List Value}
  (hold : (Builtin.firstCells size n (.slice base n c)).run P w.drew = .ok old.toArray w.drew) (hnew : (Builtin.firstCells size k x).run P w.drew = .ok new.toArray w.drew)
  (hgrow : c < n + k) (hsmall : n + k ≤ 100000) (ty : TypeId) :
  ∃ c' : Nat, n + k ≤ c' ∧
   (Builtin.append_ ats ty #[.slice base n c, x]).run P w = .ok (.slice (some ⟨w.heap.size, 0, none⟩) (n + k) c') ((w.drew).alloc (.cells (old ++ new ++ (Builtin.zeroCells z.cells (c' - (n + k))).toList).toArray e)) := by
 have hzero : tzero P e = some z := by unfold tzero; rw [hi]; exact hz
 have hsize : tsz P e = some size := by unfold tsz; rw [hi]; simp [hsz]
 let q : Question := .appendCap (n + k) c e
 let c' := q.cut (w.tape w.drawn q)
 refine ⟨c', ?_, ?_⟩
 ·show n + k ≤ (n + k) + (w.tape w.drawn q) % (2 ^ 63 - (n + k))
  omega
 ·have hncap := nextcap_small hgrow hsmall
  have hprod : Builtin.nextslicecap (n + k) c * i.bytes ≤ (200000 + 768) * 65536 := Nat.mul_le_mul hncap hby
  have g1 : ¬ (n + k ≤ c) := by omega
  have g2 : ¬ (((n + k : Nat) : Int) > IntKind.i64.max ∧ (False ∨ i.bytes = 0)) := by
   rintro ⟨h1, _⟩
   have : IntKind.i64.max = 9223372036854775807 := by decide
   rw [this] at h1
   omega
  have g3 : ¬ (Builtin.nextslicecap (n + k) c * i.bytes > 2 ^ 48) := by omega
  have hch : (choose (.appendCap (n + k) c e)).run P w = .ok c' w.drew := rfl
  have hfin : (old.toArray ++ new.toArray ++ Builtin.zeroCells z.cells (c' - (n + k))) = (old ++ new ++ (Builtin.zeroCells z.cells (c' - (n + k))).toList).toArray := by
   apply Array.ext'
   simp
  unfold Builtin.append_
  simp only [ha, List.getElem?_toArray, List.getElem?_cons_zero, List.getElem?_cons_succ]
  cases hat : ats[1]? with
  | none =>
   simp only [run_bind, run_underlying' hu, run_sizeOf' hsize, run_pure, Bool.false_eq_true, if_false, hlen, g1, run_typeInfo' hi, g2, g3, hch, run_askRoom, hold, hnew, Bool.not_false, if_true, run_zeroValue' hzero, run_newRow', hfin]
   rfl
  | some t =>
   obtain ⟨d, hd, hk⟩ := hnz t hat
   have hd0 : (match d with | .int _ => true | _ => false) = false := by
    cases d <;> first | rfl | (exact absurd rfl (hk _))
   simp only [run_bind, run_underlying' hu, run_sizeOf' hsize, run_underlying' hd, run_pure, Bool.false_eq_true, if_false, hlen, g1, run_typeInfo' hi, g2, g3, hch, run_askRoom, hold, hnew, Bool.not_false, if_true, run_zeroValue' hzero, run_newRow', hfin]
   rfl
theorem run_append_place {e : TypeId} {size : Nat} (hsize : tsz P e = some size) {st : TypeId} (hu : P.underlying st = some (.slice e)) {ats : Array TypeId} (ha : ats[0]? = some st)
  (hnz : ∀ t, ats[1]? = some t → ∃ d, P.underlying t = some d ∧ ∀ k, d ≠ .int k)
  {base : Option Addr} {n c k : Nat} {x : Value} (hlen : (Builtin.lenOf x).run P w = .ok k w) {new : List Value} (hnew : (Builtin.firstCells size k x).run P w = .ok new.toArray w)
  (hfit : n + k ≤ c) {w' : World} (hst : (match base with | some a => Go.storeCells (a.add (n * size)) new | none => pure ()).run P w = .ok () w') (ty : TypeId) :
  (Builtin.append_ ats ty #[.slice base n c, x]).run P w = .ok (.slice base (n + k) c) w' := by
 unfold Builtin.append_
 simp only [ha, List.getElem?_toArray, List.getElem?_cons_zero, List.getElem?_cons_succ]
 cases hat : ats[1]? with
 | none =>
  simp only [run_bind, run_underlying' hu, run_sizeOf' hsize, run_pure, Bool.false_eq_true, if_false, hlen, hfit, if_true, hnew, Bool.not_false]
  cases base with
  | none => cases hst; rfl
  | some a =>
   dsimp only at hst ⊢
   simp only [run_bind, hst, run_pure]
 | some t =>
  obtain ⟨d, hd, hk⟩ := hnz t hat
  have hd0 : (match d with | .int _ => true | _ => false) = false := by
   cases d <;> first | rfl | (exact absurd rfl (hk _))
  simp only [run_bind, run_underlying' hu, run_sizeOf' hsize, run_underlying' hd, run_pure, Bool.false_eq_true, if_false, hlen, hfit, if_true, hnew, Bool.not_false]
  cases base with
  | none => cases hst; rfl
  | some a =>
   dsimp only at hst ⊢
   simp only [run_bind, hst, run_pure]
theorem growOK_spec {e : TypeId} {size : Nat} (h : growOK P e size = true) : ∃ i z, P.info? e = some i ∧ i.zero = some z ∧ z.cells.size = size ∧ i.bytes ≤ 65536 := by
 unfold growOK at h
 split at h
 ·rename_i i hi
  rw [Bool.and_eq_true, Bool.and_eq_true] at h
  obtain ⟨⟨h1, h2⟩, h3⟩ := h
  split at h3
  ·rename_i z hz
   refine ⟨i, z, hi, hz, ?_, nat_ble.1 h1⟩
   rw [nat_beq, lenL_eq] at h3
   rw [← h3]
   have := (R.cells (ρ := fun _ => none) (v := .lit z) (x := z) (by simp [R]) rfl).length
   simpa using this.symm
  ·cases h3
 ·cases h
theorem arg2OK_spec {o : Option TypeId} (h : arg2OK P o = true) : ∀ t, o = some t → ∃ d, P.underlying t = some d ∧ ∀ k, d ≠ .int k := by
 intro t e
 subst e
 have h' : notIntD (P.underlying t) = true := h
 unfold notIntD at h'
 split at h'
 ·cases h'
 ·rename_i d hno hd
  exact ⟨d, hd, fun k e => hno k e⟩
 ·cases h'
theorem addFam_heap (f : Nat) (l : List Nat) (m : Mem) : (addFam f l m).heap = m.heap := by cases m; rfl
theorem addFam_gl (f : Nat) (l : List Nat) (m : Mem) : (addFam f l m).gl = m.gl := by cases m; rfl
theorem addFam_next (f : Nat) (l : List Nat) (m : Mem) : (addFam f l m).next = m.next := by cases m; rfl
theorem addFam_fams (f : Nat) (l : List Nat) (m : Mem) : (addFam f l m).fams = m.fams.set f (m.next :: l) := by cases m; rfl
theorem MR.addFam (h : MR w0 B ρ m w) {f : Nat} {l : List Nat} (hf : f < m.next) (hl : ∀ r e cs p, m.heap.get r = some (.row e cs f p) → r ∈ l) : MR w0 B ρ (addFam f l m) w := by
 have hg : ∀ k, (Abs.addFam f l m).fams.get k = if f = k then some (m.next :: l) else m.fams.get k := by intro k; rw [addFam_fams, T.get_set]
 refine ⟨?_, ?_, ?_, ?_, ?_, ?_, ?_, ?_, h.below, h.base, fun q hq => by rw [addFam_next]; exact h.ban q hq, h.globs (addFam_gl _ _ _) (Rho.le.refl ρ)⟩
 ·rw [addFam_heap]; exact h.obj
 ·rw [addFam_heap]; exact h.inj
 ·rw [addFam_next]; exact h.dom
 ·rw [addFam_heap, addFam_next]; exact h.hdom
 ·intro k l' hk
  rw [addFam_next]
  rw [hg] at hk
  by_cases e : f = k
  ·rw [← e]; exact hf
  ·rw [if_neg e] at hk; exact h.famlt k l' hk
 ·rw [addFam_heap, addFam_next]; exact h.rowfam
 ·intro r e cs k p l' h1 h2
  rw [addFam_heap] at h1
  rw [hg] at h2
  by_cases ek : f = k
  ·rw [if_pos ek] at h2; cases h2; subst ek
   exact List.mem_cons_of_mem _ (hl r e cs p h1)
  ·rw [if_neg ek] at h2; exact h.fam r e cs k p l' h1 h2
 ·intro r r' e e' cs cs' k p p' h1 h2 h3
  rw [addFam_heap] at h1 h2
  rw [hg] at h3
  by_cases ek : f = k
  ·rw [if_pos ek] at h3; cases h3
  ·rw [if_neg ek] at h3; exact h.lone r r' e e' cs cs' k p p' h1 h2 h3
theorem MR.poison (h : MR w0 B ρ m w) (rs : List Nat) (but p n : Nat) : MR w0 B ρ (poisonRows rs but p n m) w := by
 obtain ⟨h1, h2, h3, h4, h5⟩ := poisonRows_spec but p n rs m
 refine h.change h1 h2 (poisonRows_gl _ _ _ _ _) h3 (fun q o ho => ?_) (fun q o' pl ho' hp => ?_) h.below
 ·obtain ⟨o', k1, k2, _⟩ := h5 q o ho; exact ⟨o', k1, k2.like⟩
 ·cases hq : m.heap.get q with
  | none => rw [h3 q hq] at ho'; cases ho'
  | some o =>
   obtain ⟨o2, k1, k2, _⟩ := h5 q o hq
   rw [ho'] at k1; cases k1
   exact (h.obj q o pl hq hp).weak k2
theorem mem_famOf (h : MR w0 B ρ m w) {r : Nat} {e : Elem} {cells : List AVal} {f pos : Nat} (ho : m.heap.get r = some (.row e cells f pos)) :
  ∀ q e' cs' p', m.heap.get q = some (.row e' cs' f p') → q ∈ famOf m f r := by
 intro q e' cs' p' hq
 unfold famOf
 cases hl : m.fams.get f with
 | some l => exact h.fam q e' cs' f p' l hq hl
 | none => rw [h.lone q r e' e cs' cells f p' pos hq ho hl]; simp
theorem MR.alias (h : MR w0 B ρ m w) {r : Nat} {p : Pl} {e : Elem} {cells : List AVal} {f pos : Nat} (ho : m.heap.get r = some (.row e cells f pos)) (hp : ρ r = some p) {l : List Nat}
  (hfm : m.fams.get f = some l) (hin : m.next ∈ l) {off N D : Nat} {cs : Array Value} {lo hi : Nat} (hw : w.heap[p.b]? = some (.cells cs e.1 (lo, hi)))
  (hcov : ∀ q o, m.heap.get q = some o → q ∈ l → Covers (pos + D) N o) {cells' : List AVal} {cs' : Array Value} (hc : CR ρ cells' cs' (p.s + off)) (hsz : cs'.size = p.z)
  (hsame : ∀ j, ¬ (D + p.s ≤ j ∧ j < D + p.s + N) → cs'[j]? = cs[j]?) :
  MR w0 B (ρ.add m.next ⟨p.b, p.s + off, p.z, p.q⟩) (m.new (.row e cells' f (pos + off))) (setBlk w p.b (.cells cs' e.1 (lo, hi))) ∧ ρ.le (ρ.add m.next ⟨p.b, p.s + off, p.z, p.q⟩) := by
 have hn : ρ m.next = none := h.dom _ (Nat.le_refl _)
 have hle : ρ.le (ρ.add m.next ⟨p.b, p.s + off, p.z, p.q⟩) := Rho.le_add hn
 obtain ⟨hB, hq, cs5, lo5, hi5, hw5, hz5, hcr, hclr⟩ := h.obj r _ p ho hp
 rw [hw] at hw5; cases hw5
 have hg : ∀ q, (m.new (.row e cells' f (pos + off))).heap.get q = if m.next = q then some (.row e cells' f (pos + off)) else m.heap.get q := by intro q; rw [new_heap, T.get_set]
 -- the old rows in the new world
 have hold : ∀ q o2 p2, m.heap.get q = some o2 → ρ q = some p2 → OR ρ B p2 ((setBlk w p.b (.cells cs' e.1 (lo, hi))).heap[p2.b]?) o2 := by
  intro q o2 p2 h1 h2
  by_cases hbb : p.b = p2.b
  ·have hrow : ∃ e2 c2 z2, o2 = .row e2 c2 f z2 ∧ p.s + z2 = p2.s + pos := by
    by_cases hr : r = q
    ·subst hr; rw [ho] at h1; cases h1; rw [hp] at h2; cases h2; exact ⟨_, _, _, rfl, rfl⟩
    ·have hk := h.inj r q _ o2 p p2 hr ho h1 hp h2 hbb
     cases o2 with
     | row e2 c2 f2 z2 => obtain ⟨rfl, hsh⟩ := hk; exact ⟨_, _, _, rfl, hsh⟩
     | _ => exact hk.elim
   obtain ⟨e2, c2, z2, rfl, hsh⟩ := hrow
   have hc2 := hcov q _ h1 (h.fam q e2 c2 f z2 l h1 hfm)
   obtain ⟨hB2, hq2, csx, lox, hix, hwx, hzx, hcx, hclx⟩ := h.obj q _ p2 h1 h2
   rw [← hbb, hw] at hwx
   simp only [Option.some.injEq, Obj.cells.injEq, Prod.mk.injEq] at hwx
   obtain ⟨rfl, he, rfl, rfl⟩ := hwx
   refine ⟨hB2, hq2, cs', lo, hi, by rw [← hbb, setBlk_same hw, he], by rw [hsz, ← hz5, hzx], fun i v hv => ?_, hclx⟩
   obtain ⟨y, hy, hR⟩ := hcx i v hv
   by_cases hv0 : v = .poison
   ·subst hv0
    have hlt := (Array.getElem?_eq_some_iff.1 hy).1
    exact ⟨cs'[i + p2.s]'(by omega), by simp, by simp [R]⟩
   ·refine ⟨y, ?_, hR⟩
    rw [hsame (i + p2.s) (fun hin => hv0 (hc2 i v hv (by omega) (by omega)))]
    exact hy
  ·rw [setBlk_other hbb]; exact h.obj q o2 p2 h1 h2
 have hkin : ∀ q o2 p2, m.heap.get q = some o2 → ρ q = some p2 → p.b = p2.b → Kin2 (.row e cells' f (pos + off)) o2 (p.s + off) p2.s ∧ Kin2 o2 (.row e cells' f (pos + off)) p2.s (p.s + off) := by
  intro q o2 p2 h1 h2 hbb
  by_cases hr : r = q
  ·subst hr; rw [ho] at h1; cases h1; rw [hp] at h2; cases h2; exact ⟨⟨rfl, by omega⟩, ⟨rfl, by omega⟩⟩
  ·have hk := h.inj r q _ o2 p p2 hr ho h1 hp h2 hbb
   cases o2 with
   | row e2 c2 f2 z2 => obtain ⟨rfl, hsh⟩ := hk; exact ⟨⟨rfl, by omega⟩, ⟨rfl, by omega⟩⟩
   | _ => exact hk.elim
 refine ⟨⟨?_, ?_, ?_, ?_, ?_, ?_, ?_, ?_, below_setBlk h.below hB _, h.base, fun q hq => ?_, h.globs (new_gl _ _) hle⟩, hle⟩
 ·intro q o' q2 h1 h2
  rw [hg] at h1
  by_cases hr : m.next = q
  ·subst hr
   rw [if_pos rfl] at h1; cases h1
   rw [Rho.add_same] at h2; cases h2
   show OR _ B _ ((setBlk w p.b _).heap[p.b]?) _
   rw [setBlk_same hw]
   exact ⟨hB, hq, cs', lo, hi, rfl, hsz, hc.mono hle, hclr⟩
  ·rw [if_neg hr] at h1
   rw [Rho.add_other _ _ (Ne.symm hr)] at h2
   exact (hold q o' q2 h1 h2).mono hle
 ·intro q q' o1 o2 p1 p2 hne h1 h2 h3 h4 h5
  rw [hg] at h1 h2
  by_cases hr : m.next = q
  ·subst hr
   rw [if_pos rfl] at h1; cases h1
   rw [Rho.add_same] at h3; cases h3
   rw [if_neg hne] at h2
   rw [Rho.add_other _ _ (Ne.symm hne)] at h4
   exact (hkin q' o2 p2 h2 h4 h5).1
  ·rw [if_neg hr] at h1
   rw [Rho.add_other _ _ (Ne.symm hr)] at h3
   by_cases hr' : m.next = q'
   ·subst hr'
    rw [if_pos rfl] at h2; cases h2
    rw [Rho.add_same] at h4; cases h4
    exact (hkin q o1 p1 h1 h3 h5.symm).2
   ·rw [if_neg hr'] at h2
    rw [Rho.add_other _ _ (Ne.symm hr')] at h4
    exact h.inj q q' o1 o2 p1 p2 hne h1 h2 h3 h4 h5
 ·intro q hq'
  rw [new_next] at hq'
  rw [Rho.add_other _ _ (by omega)]
  exact h.dom q (by omega)
 ·intro q hq'
  rw [new_next] at hq'
  rw [hg, if_neg (by omega)]
  exact h.hdom q (by omega)
 ·intro k l' hl
  rw [new_fams] at hl
  rw [new_next]
  have := h.famlt k l' hl
  omega
 ·intro q e' cs2 k z h1
  rw [hg] at h1
  rw [new_next]
  have hf0 := h.rowfam r _ _ _ _ ho
  by_cases hr : m.next = q
  ·rw [if_pos hr] at h1; cases h1; omega
  ·rw [if_neg hr] at h1; have := h.rowfam q e' cs2 k z h1; omega
 ·intro q e' cs2 k z l' h1 h2
  rw [hg] at h1
  rw [new_fams] at h2
  by_cases hr : m.next = q
  ·rw [if_pos hr] at h1; cases h1; rw [hfm] at h2; cases h2; rw [← hr]; exact hin
  ·rw [if_neg hr] at h1; exact h.fam q e' cs2 k z l' h1 h2
 ·intro q q' e1 e2 c1 c2 k z z' h1 h2 h3
  rw [hg] at h1 h2
  rw [new_fams] at h3
  by_cases hr : m.next = q
  ·rw [if_pos hr] at h1; cases h1; rw [hfm] at h3; cases h3
  ·rw [if_neg hr] at h1
   by_cases hr' : m.next = q'
   ·rw [if_pos hr'] at h2; cases h2; rw [hfm] at h3; cases h3
   ·rw [if_neg hr'] at h2; exact h.lone q q' e1 e2 c1 c2 k z z' h1 h2 h3
 ·have hq1 := h.ban q hq
  rw [new_next, Rho.add_other _ _ (Nat.ne_of_lt hq1.1)]
  exact ⟨Nat.lt_succ_of_lt hq1.1, hq1.2⟩
end
open Go.RowKit (Below)
section
variable {P : Program} {w0 : Wo} {B : Nat} {ρ : Rho} {m : Mem} {w : World}
theorem appAt_def (m : Mem) (elem : TypeId) (size r off n c k : Nat) (ex : Bool) (cs : List AVal) : appAt m elem size r off n c k ex cs =
  bif k.beq 0 && n.ble c then .val (.slice r off n c ex) m else
  bif (n.add k).ble c then (match storeCells m r (off.add (n.mul size)) cs with
   | some m => .val (.slice r off (n.add k) c ex) m
   | none => .bad "append in place")
  else bif ex then appCopy m elem n k size cs (readCells m r off (n.mul size))
  else appGrow m elem r off n k size cs (m.heap.get r) (readCells m r off (n.mul size)) := rfl
theorem R.slice_intro {r : Nat} {p : Pl} (hp : ρ r = some p) {off n c c' : Nat} {ex : Bool} (h1 : c ≤ c') (h2 : ex = true → c' = c) (h3 : ex = false → off + p.s + c' * p.q ≤ p.z) :
  R ρ (.slice r off n c ex) (.slice (some ⟨p.b, off + p.s, none⟩) n c') := by simp only [R]; exact ⟨p, c', hp, h1, h2, h3, rfl⟩
theorem grown (h : MR w0 B ρ m w) {e : TypeId} {size n k c' : Nat} {old new : List Value} {oldA cs : List AVal} (ho : RL ρ oldA old) (hc : RL ρ cs new) (hol : old.length = n * size) (hnl : new.length = k * size)
  {z : Value} (hzs : z.cells.size = size) (hcap : n + k ≤ c') {r : Result Value}
  (hr : r = .ok (.slice (some ⟨w.heap.size, 0, none⟩) (n + k) c') ((w.drew).alloc (.cells (old ++ new ++ (Builtin.zeroCells z.cells (c' - (n + k))).toList).toArray e))) :
  VR w0 B ρ (.val (.slice m.next 0 (n.add k) (n.add k) false) (Abs.newRow m (e, size) (appL oldA cs))) r := by
 have hCR : CR ρ (appL oldA cs) (old ++ new ++ (Builtin.zeroCells z.cells (c' - (n + k))).toList).toArray 0 := by
  rw [appL_eq]
  intro i v hv
  obtain ⟨y, hy, hR⟩ := (ho.append hc).get hv
  refine ⟨y, ?_, hR⟩
  have hlt := (List.getElem?_eq_some_iff.1 hy).1
  simp only [Nat.add_zero, List.getElem?_toArray]
  rw [List.getElem?_append_left hlt]
  exact hy
 obtain ⟨h1, h2⟩ := h.drew.newRow (e, size) (appL oldA cs) _ hCR
 refine ⟨_, _, _, hr, h2, h1, ?_⟩
 have := R.slice_intro (ρ := ρ.add m.next ⟨w.heap.size, 0, (old ++ new ++ (Builtin.zeroCells z.cells (c' - (n + k))).toList).toArray.size, size⟩) (r := m.next) (Rho.add_same _ _ _)
  (off := 0) (n := n + k) (c := n + k) (c' := c') (ex := false) hcap (fun e => by cases e) (fun _ => by
   simp only [List.size_toArray, List.length_append, Array.length_toList, zeroCells_size, hol, hnl, hzs]
   rw [← Nat.add_mul, ← Nat.add_mul]
   have : n + k + (c' - (n + k)) = c' := by omega
   rw [this]; omega)
 exact this
theorem wrap_small {n : Nat} (h : n ≤ 100000) : IntKind.i64.wrap (n : Int) = n := by
 unfold IntKind.wrap
 have e1 : IntKind.i64.bits = 64 := rfl
 have e2 : IntKind.i64.signed = true := rfl
 have e3 : (2 : Int) ^ 64 = 18446744073709551616 := by decide
 have e4 : (2 : Int) ^ 63 = 9223372036854775808 := by decide
 simp only [e1, e2, e3, Bool.true_and]
 rw [show 64 - 1 = 63 from rfl, e4, Int.emod_eq_of_lt (by omega) (by omega)]
 rw [if_neg (by simp; omega)]
theorem zeros_rep {z : Value} {size k : Nat} (hq : 0 < size) (hzs : z.cells.size = size) : (Builtin.zeroCells z.cells k).toList = (List.replicate k z.cells.toList).flatten := by
 unfold Builtin.zeroCells
 rw [hzs]
 have := range_rep (z := z.cells) (n := k) hq hzs
 rw [hzs] at this
 exact this
theorem appMake_sound (h : MR w0 B ρ m w) (ats : Array TypeId) (ty : TypeId) {s x : AVal} {vs vx : Value} (hs : R ρ s vs) (hx : R ρ x vx) :
  VR w0 B ρ (appMake P m s (natOf x) (isIntO P ats[1]?) (sizedElem P ((ats[0]?).bind (sliceElem P)))) ((Builtin.append_ ats ty #[vs, vx]).run P w) := by
 unfold appMake
 split
 case h_2 => exact trivial
 rename_i k e size hk hint hse
 split
 case h_2 => exact trivial
 cases hg : growOK P e size && !(size.beq 0) && k.ble 100000 with
 | false => exact trivial
 | true =>
  rw [cond_true]
  rw [Bool.and_eq_true, Bool.and_eq_true, nat_ble, Bool.not_eq_true', nat_beq_f] at hg
  obtain ⟨⟨hg1, hq⟩, hk5⟩ := hg
  obtain ⟨i, z, hi, hz, hzs, hby⟩ := growOK_spec hg1
  obtain ⟨h3, hsize⟩ := sizedElem_some hse
  rw [Option.bind_eq_some_iff] at h3
  obtain ⟨st, ha, h4⟩ := h3
  have hu := sliceElem_some h4
  have hisz : i.size = size := by
   obtain ⟨i', hi', h5⟩ := tsz_some hsize
   rw [hi] at hi'; cases hi'; exact h5
  obtain ⟨t1, ha1, kd, hd⟩ : ∃ t1, ats[1]? = some t1 ∧ ∃ kd, P.underlying t1 = some (.int kd) := by
   unfold isIntO at hint
   split at hint
   ·rename_i t1 h1
    split at hint
    ·rename_i kd hkd; exact ⟨t1, h1, kd, hkd⟩
    ·cases hint
   ·cases hint
  obtain ⟨kk, rfl⟩ : ∃ kk, vx = .int kk (.ofNat k) := by
   unfold natOf at hk
   split at hk
   ·simp only [R] at hx; cases hk; exact ⟨_, hx⟩
   ·cases hk
  simp only [R] at hs
  subst hs
  have hzero : tzero P e = some z := by unfold tzero; rw [hi]; exact hz
  have hzc : zcells P e = some (z.cells.toList.map .lit) := by
   unfold zcells; rw [hzero]; dsimp only
   have : ∀ z : Value, (AVal.lit z).cells = z.cells.toList.map .lit := by intro z; cases z <;> simp [AVal.cells, Value.cells, mapL_eq]
   rw [this]
  rw [hzc]
  show VR w0 B ρ (appNil m e size (repL (z.cells.toList.map .lit) k) k) _
  unfold appNil
  have hw : IntKind.i64.wrap (Int.ofNat k) = (k : Int) := wrap_small hk5
  have hnn : ¬ ((k : Int) < 0) := by omega
  have hb48 : ¬ ((k : Int) * (i.bytes : Int) > 2 ^ 48) := by
   have h1 : k * i.bytes ≤ 100000 * 65536 := Nat.mul_le_mul hk5 hby
   have h2 : ((k * i.bytes : Nat) : Int) ≤ ((100000 * 65536 : Nat) : Int) := Int.ofNat_le.2 h1
   rw [Int.natCast_mul] at h2
   have h3 : (2 : Int) ^ 48 = 281474976710656 := by decide
   rw [h3]
   have h4 : ((100000 * 65536 : Nat) : Int) = 6553600000 := by decide
   omega
  cases hk0 : k.beq 0 with
  | true =>
   rw [cond_true]
   rw [nat_beq] at hk0
   subst hk0
   refine (VR.lit h).of_eq ?_
   unfold Builtin.append_
   simp only [ha, ha1, List.getElem?_toArray, List.getElem?_cons_zero, List.getElem?_cons_succ, run_bind, run_underlying' hu, run_sizeOf' hsize, run_underlying' hd, asInt, asIntOf, run_pure, if_true, hw, hnn, if_false, run_typeInfo' hi, hb48]
   simp
  | false =>
   rw [cond_false]
   rw [nat_beq_f] at hk0
   have hpos : 0 < k := by omega
   let q : Question := .appendCap (0 + k) 0 e
   let c' := q.cut (w.tape w.drawn q)
   have hc' : 0 + k ≤ c' := by
    show 0 + k ≤ (0 + k) + (w.tape w.drawn q) % (2 ^ 63 - (0 + k))
    omega
   have hncap := nextcap_small (need := 0 + k) (cap := 0) (by omega) (by omega)
   have hprod : Builtin.nextslicecap (0 + k) 0 * i.bytes ≤ (200000 + 768) * 65536 := Nat.mul_le_mul hncap hby
   have g1 : ¬ (0 + k ≤ 0) := by omega
   have g2 : ¬ (((0 + k : Nat) : Int) > IntKind.i64.max ∧ (True ∨ i.bytes = 0)) := by
    rintro ⟨h1, _⟩
    have : IntKind.i64.max = 9223372036854775807 := by decide
    rw [this] at h1
    omega
   have g3 : ¬ (Builtin.nextslicecap (0 + k) 0 * i.bytes > 2 ^ 48) := by omega
   have g4 : ¬ (k * size = 0) := by
    intro e0
    rcases Nat.mul_eq_zero.1 e0 with e1 | e1 <;> omega
   have hch : (choose (.appendCap (0 + k) 0 e)).run P w = .ok c' w.drew := rfl
   have hold : (Builtin.firstCells size 0 (.slice none 0 0)).run P w.drew = .ok #[] w.drew := rfl
   have hfin : (#[] ++ Builtin.zeroCells z.cells k ++ Builtin.zeroCells z.cells (c' - (0 + k))) = (([] : List Value) ++ (Builtin.zeroCells z.cells k).toList ++ (Builtin.zeroCells z.cells (c' - (0 + k))).toList).toArray := by
    apply Array.ext'
    simp
   have hrun : (Builtin.append_ ats ty #[.slice none 0 0, .int kk (.ofNat k)]).run P w = .ok (.slice (some ⟨w.heap.size, 0, none⟩) (0 + k) c') ((w.drew).alloc (.cells (([] : List Value) ++ (Builtin.zeroCells z.cells k).toList ++ (Builtin.zeroCells z.cells (c' - (0 + k))).toList).toArray e)) := by
    unfold Builtin.append_
    simp only [ha, ha1, List.getElem?_toArray, List.getElem?_cons_zero, List.getElem?_cons_succ, run_bind, run_underlying' hu, run_sizeOf' hsize, run_underlying' hd, asInt, asIntOf, run_pure, if_true, hw, hnn, if_false, run_typeInfo' hi, hb48, Int.toNat_natCast, g1, g2, g3, hch, run_askRoom, hold, Bool.not_true, Bool.false_eq_true, g4, run_zeroValue' hzero, run_newRow', hfin]
    rfl
   have := grown (n := 0) (oldA := []) h (e := e) (old := []) (by simp [RL]) (new := (Builtin.zeroCells z.cells k).toList) (by
     rw [zeros_rep (by omega) hzs]; exact RL.rep (RL.lits _) k) (by simp) (by rw [Array.length_toList, zeroCells_size, hzs]) hzs hc' hrun
   simp only [Nat.add_eq, Nat.zero_add] at this
   exact this
theorem append_sound (h : MR w0 B ρ m w) (ats : Array TypeId) (ty : TypeId) {s x : AVal} {vs vx : Value} (hs : R ρ s vs) (hx : R ρ x vx) :
  VR w0 B ρ (bif arg2OK P ats[1]? then appendOp P m s x (sizedElem P ((ats[0]?).bind (sliceElem P))) else appMake P m s (natOf x) (isIntO P ats[1]?) (sizedElem P ((ats[0]?).bind (sliceElem P)))) ((Builtin.append_ ats ty #[vs, vx]).run P w) := by
 cases h2 : arg2OK P ats[1]? with
 | false => exact appMake_sound h ats ty hs hx
 | true =>
  rw [cond_true]
  have hnz := arg2OK_spec h2
  unfold appendOp
  split
  case h_2 => exact trivial
  rename_i e size hse
  obtain ⟨h3, hsize⟩ := sizedElem_some hse
  rw [Option.bind_eq_some_iff] at h3
  obtain ⟨st, ha, h4⟩ := h3
  have hu := sliceElem_some h4
  cases hg : growOK P e size && !(size.beq 0) && smallNew (appNew size m x) s with
  | false => exact trivial
  | true =>
   rw [cond_true]
   rw [Bool.and_eq_true, Bool.and_eq_true] at hg
   obtain ⟨⟨hg1, _⟩, hg2⟩ := hg
   obtain ⟨i, z, hi, hz, hzs, hby⟩ := growOK_spec hg1
   have hisz : i.size = size := by
    obtain ⟨i', hi', h5⟩ := tsz_some hsize
    rw [hi] at hi'; cases hi'; exact h5
   unfold appWith
   split
   case h_2 => exact trivial
   rename_i cs k hnew
   obtain ⟨hlen, new, hfc, hRL, hnl⟩ := appNew_sound (P := P) h hx hnew
   obtain ⟨hlend, new', hfcd, _, _⟩ := appNew_sound (P := P) h.drew hx hnew
   rw [hnew] at hg2
   split
   ·-- nil
    simp only [R] at hs
    subst hs
    unfold appNil
    cases hk : k.beq 0 with
    | true =>
     rw [cond_true]
     rw [nat_beq] at hk
     subst hk
     exact (VR.lit h).of_eq (run_append_place (base := none) (n := 0) (c := 0) hsize hu ha hnz hlen hfc (by omega) rfl ty)
    | false =>
     rw [cond_false]
     rw [nat_beq_f] at hk
     obtain ⟨hl2, new2, hfc2, hRL2, hnl2⟩ := appNew_sound (P := P) h.drew hx hnew
     obtain ⟨c', hc', hrun⟩ := run_append_grow hi hz hisz hzs hby hu ha hnz (base := none) (n := 0) (c := 0) hlen (old := []) rfl hfc2 (by omega) (by
      have : k ≤ 100000 := nat_ble.1 hg2
      omega) ty
     have := grown (n := 0) (oldA := []) h (e := e) (by simp [RL]) hRL2 (by simp) hnl2 hzs hc' hrun
     simp only [Nat.add_eq, Nat.zero_add] at this
     exact this
   ·rename_i r off n c ex
    have hs0 := hs
    simp only [R] at hs
    obtain ⟨p, c', hp, hcc, hex, hnex, rfl⟩ := hs
    have hg3 : n + k ≤ 100000 := nat_ble.1 hg2
    rw [appAt_def]
    cases hk : k.beq 0 && n.ble c with
    | true =>
     rw [cond_true]
     rw [Bool.and_eq_true, nat_beq, nat_ble] at hk
     obtain ⟨rfl, hnc⟩ := hk
     have hnew0 : new = [] := List.length_eq_zero_iff.1 (by omega)
     subst hnew0
     exact (VR.same h hs0).of_eq (run_append_place (base := some ⟨p.b, off + p.s, none⟩) (n := n) (c := c') hsize hu ha hnz hlen hfc (by omega) rfl ty)
    | false =>
     rw [cond_false]
     clear hk
     cases hfit : (n.add k).ble c with
     | true =>
      rw [cond_true]
      have hfit' : n + k ≤ c := nat_ble.1 hfit
      split
      ·rename_i m' hst
       obtain ⟨w', hrun, hm'⟩ := h.storeCells (P := P) hp hst hRL
       refine ⟨_, w', ρ, run_append_place (base := some ⟨p.b, off + p.s, none⟩) (n := n) (c := c') hsize hu ha hnz hlen hfc (by omega) (w' := w') ?_ ty, Rho.le.refl ρ, hm', R.slice_intro hp hcc hex hnex⟩
       dsimp only
       rw [add_addr, show off + p.s + n * size = off.add (n.mul size) + p.s from by simp; omega]
       exact hrun
      ·exact trivial
     | false =>
      rw [cond_false]
      have hfit' : c < n + k := nat_ble_f.1 hfit
      have hgrow : ∀ {oldA : List AVal}, Abs.readCells m r off (n.mul size) = some oldA → c' < n + k →
        VR w0 B ρ (.val (.slice m.next 0 (n.add k) (n.add k) false) (Abs.newRow m (e, size) (appL oldA cs))) ((Builtin.append_ ats ty #[.slice (some ⟨p.b, off + p.s, none⟩) n c', vx]).run P w) := by
       intro oldA hold hlt
       obtain ⟨old, ho1, ho2, ho3, _⟩ := h.drew.readCells (P := P) hp hold
       obtain ⟨_, new2, hfc2, hRL2, hnl2⟩ := appNew_sound (P := P) h.drew hx hnew
       obtain ⟨c'', hc'', hrun⟩ := run_append_grow hi hz hisz hzs hby hu ha hnz (base := some ⟨p.b, off + p.s, none⟩) (n := n) (c := c') hlen (old := old) ho1 hfc2 hlt hg3 ty
       exact grown h ho2 hRL2 ho3 hnl2 hzs hc'' hrun
      cases ex with
      | true =>
       rw [cond_true]
       unfold appCopy
       split
       ·rename_i old hold
        rw [hex rfl] at hgrow ⊢
        exact hgrow hold hfit'
       ·exact trivial
      | false =>
       rw [cond_false]
       unfold appGrow
       split
       case h_2 => exact trivial
       rename_i el cells f pos old hrow hold
       cases hel : el.1.beq e && el.2.beq size && allCells cs with
       | false => exact trivial
       | true =>
        rw [cond_true]
        rw [Bool.and_eq_true, Bool.and_eq_true, nat_beq, nat_beq] at hel
        obtain ⟨⟨he1, he2⟩, hall⟩ := hel
        obtain ⟨ea, eb⟩ := el
        dsimp only at he1 he2
        subst he1 he2
        -- the memory with the family softened
        have hs1 := h.poison (famOf m f r) m.next ((pos + off) + n * eb) (k * eb)
        obtain ⟨q1, q2, q3, q4, q5⟩ := poisonRows_spec m.next ((pos + off) + n * eb) (k * eb) (famOf m f r) m
        have hrows : ∀ q e' cs' p', (poisonRows (famOf m f r) m.next ((pos + off) + n * eb) (k * eb) m).heap.get q = some (.row e' cs' f p') → q ∈ famOf m f r ∧ q ≠ m.next := by
         intro q e' cs' p' hq
         cases hq0 : m.heap.get q with
         | none => rw [q3 q hq0] at hq; cases hq
         | some o =>
          obtain ⟨o', k1, k2, _⟩ := q5 q o hq0
          rw [hq] at k1; cases k1
          have hne : q ≠ m.next := by have := h.hlt hq0; omega
          cases o with
          | row e2 c2 f2 z2 => obtain ⟨c3, hh, _⟩ := k2; cases hh; exact ⟨mem_famOf h hrow _ _ _ _ hq0, hne⟩
          | _ => cases k2
        have hs2 := hs1.addFam (f := f) (l := famOf m f r) (by rw [q1]; exact h.rowfam r _ _ _ _ hrow) (fun q e' cs' p' hq => (hrows q e' cs' p' hq).1)
        have hnext : (Abs.addFam f (famOf m f r) (poisonRows (famOf m f r) m.next ((pos + off) + n * eb) (k * eb) m)).next = m.next := by rw [addFam_next, q1]
        have hfams : (Abs.addFam f (famOf m f r) (poisonRows (famOf m f r) m.next ((pos + off) + n * eb) (k * eb) m)).fams.get f = some (m.next :: famOf m f r) := by
         rw [addFam_fams, T.get_set_same, q1]
        obtain ⟨m1, hm1⟩ : ∃ m1, m1 = Abs.addFam f (famOf m f r) (poisonRows (famOf m f r) m.next ((pos + off) + n * eb) (k * eb) m) := ⟨_, rfl⟩
        rw [← hm1] at hs2 hnext hfams
        show VR w0 B ρ (.val (.slice m.next 0 (n.add k) (n.add k) false) ((Abs.addFam f (famOf m f r) (poisonRows (famOf m f r) m.next ((pos + off) + n * eb) (k * eb) m)).new (.row (ea, eb) (appL old cs) f (pos + off)))) _
        rw [← hm1]
        have hm1heap : m1.heap = (poisonRows (famOf m f r) m.next ((pos + off) + n * eb) (k * eb) m).heap := by rw [hm1, addFam_heap]
        have hcov : ∀ q o, m1.heap.get q = some o → q ∈ m.next :: famOf m f r → Covers (pos + (off + n * eb)) (k * eb) o := by
         intro q o hq hmem
         rw [hm1heap] at hq
         cases hq0 : m.heap.get q with
         | none => rw [q3 q hq0] at hq; cases hq
         | some o0 =>
          obtain ⟨o', k1, k2, k3⟩ := q5 q o0 hq0
          rw [hq] at k1; cases k1
          have hne : q ≠ m.next := by have := h.hlt hq0; omega
          rcases List.mem_cons.1 hmem with h9 | h9
          ·exact absurd h9 hne
          ·have := k3 h9 hne
           rw [Nat.add_assoc] at this
           exact this
        have hrow1 : ∃ cells1, m1.heap.get r = some (.row (ea, eb) cells1 f pos) := by
         rw [hm1heap]
         obtain ⟨o', k1, k2, _⟩ := q5 r _ hrow
         obtain ⟨c3, rfl, _⟩ := k2
         exact ⟨c3, k1⟩
        obtain ⟨cells1, hrow1⟩ := hrow1
        obtain ⟨hB, hq, wcs, lo, hi', hw, hzz, hcr, hclr⟩ := h.obj r _ p hrow hp
        dsimp only at hq hw
        rcases Nat.lt_or_ge c' (n + k) with hlt | hge
        ·-- it grows
         obtain ⟨oldv, ho1, ho2, ho3, _⟩ := h.drew.readCells (P := P) hp hold
         obtain ⟨_, new2, hfc2, hRL2, hnl2⟩ := appNew_sound (P := P) h.drew hx hnew
         obtain ⟨c'', hc'', hrun⟩ := run_append_grow hi hz hisz hzs hby hu ha hnz (base := some ⟨p.b, off + p.s, none⟩) (n := n) (c := c') hlen (old := oldv) ho1 hfc2 hlt hg3 ty
         have hCR : CR ρ (appL old cs) (oldv ++ new2 ++ (Builtin.zeroCells z.cells (c'' - (n + k))).toList).toArray 0 := by
          rw [appL_eq]
          intro i v hv
          obtain ⟨y, hy, hR⟩ := (ho2.append hRL2).get hv
          refine ⟨y, ?_, hR⟩
          have hlt := (List.getElem?_eq_some_iff.1 hy).1
          simp only [Nat.add_zero, List.getElem?_toArray]
          rw [List.getElem?_append_left hlt]
          exact hy
         obtain ⟨pl, hpl⟩ : ∃ pl : Pl, pl = ⟨w.heap.size, 0, (oldv ++ new2 ++ (Builtin.zeroCells z.cells (c'' - (n + k))).toList).toArray.size, eb⟩ := ⟨_, rfl⟩
         have hle0 : ρ.le (ρ.add m1.next pl) := Rho.le_add (hs2.dom _ (Nat.le_refl _))
         obtain ⟨h8, h9⟩ := hs2.drew.new (.row (ea, eb) (appL old cs) f (pos + off)) (.cells (oldv ++ new2 ++ (Builtin.zeroCells z.cells (c'' - (n + k))).toList).toArray ea) pl
          (by rw [hpl]; rfl) (by
           refine ⟨?_, by rw [hpl], _, 0, 0, rfl, by rw [hpl], ?_, fun i _ h1 => by omega, fun _ i _ h1 => by omega⟩
           ·rw [hpl]; exact h.size
           ·have : pl.s = 0 := by rw [hpl]
            rw [this]; exact hCR.mono hle0) (by
           intro e' cs' f' q' he
           cases he
           refine ⟨?_, fun l hl => ?_, fun hl => ?_⟩
           ·have := h.rowfam r _ _ _ _ hrow; omega
           ·rw [hfams] at hl; cases hl; rw [hnext]; simp
           ·rw [hfams] at hl; cases hl)
         refine ⟨_, _, _, hrun, h9, h8, ?_⟩
         have hat : (ρ.add m1.next pl) m.next = some pl := by rw [hnext]; exact Rho.add_same _ _ _
         have := R.slice_intro hat (off := 0) (n := n + k) (c := n + k) (c' := c'') (ex := false) hc'' (fun e => by cases e) (fun _ => by
          rw [hpl]
          simp only [List.size_toArray, List.length_append, Array.length_toList, zeroCells_size, ho3, hnl2, hzs, Nat.mul_eq]
          rw [← Nat.add_mul, ← Nat.add_mul]
          have : n + k + (c'' - (n + k)) = c'' := by omega
          rw [this]; omega)
         rw [hpl] at this ⊢
         exact this
        ·-- in place
         have hroom := hnex rfl
         rw [hq] at hroom
         have hmul : n * eb + k * eb ≤ c' * eb := by rw [← Nat.add_mul]; exact Nat.mul_le_mul_right _ hge
         have hone : ∀ v ∈ new, OneV v := allCells_spec hall hRL
         obtain ⟨cs', hrun, hz', hg'⟩ := run_storeCells (P := P) (b := p.b) (o := off + p.s + n * eb) new 0 w wcs hw (by rw [hzz, hnl]; omega) (by rw [hzz]; exact hclr.1) hone
         simp only [Nat.add_zero] at hg'
         obtain ⟨old', ho1, ho2, ho3, ho4⟩ := h.readCells (P := P) hp hold
         have hCR : CR ρ (appL old cs) cs' (p.s + off) := by
          rw [appL_eq]
          intro i v hv
          rw [hg' (i + (p.s + off))]
          have hol := ho2.length
          rw [ho3, Nat.mul_eq] at hol
          rcases Nat.lt_or_ge i old.length with hi1 | hi1
          ·rw [List.getElem?_append_left hi1] at hv
           rw [if_neg (by omega)]
           obtain ⟨y, hy, hR⟩ := ho2.get hv
           refine ⟨y, ?_, hR⟩
           have := ho4 i y hy
           rw [cell_of hw] at this
           rw [show i + (p.s + off) = off + p.s + i from by omega]; exact this
          ·rw [List.getElem?_append_right hi1] at hv
           obtain ⟨y, hy, hR⟩ := hRL.get hv
           have := (List.getElem?_eq_some_iff.1 hy).1
           rw [if_pos (by omega)]
           exact ⟨y, by rw [show i + (p.s + off) - (off + p.s + n * eb) = i - old.length from by omega]; exact hy, hR⟩
         obtain ⟨h8, h9⟩ := hs2.alias hrow1 hp hfams (by rw [hnext]; simp) (off := off) (N := k * eb) (D := off + n * eb) (cs := wcs) (lo := lo) (hi := hi') hw hcov hCR (by rw [hz', hzz])
          (fun j hj => by rw [hg' j, if_neg (by omega)])
         refine ⟨_, _, _, run_append_place (base := some ⟨p.b, off + p.s, none⟩) (n := n) (c := c') hsize hu ha hnz hlen hfc hge (w' := setBlk w p.b (.cells cs' ea (lo, hi'))) ?_ ty, h9, h8, ?_⟩
         ·dsimp only
          rw [add_addr]
          exact hrun
         ·have hat : (ρ.add m1.next ⟨p.b, p.s + off, p.z, p.q⟩) m.next = some ⟨p.b, p.s + off, p.z, p.q⟩ := by rw [hnext]; exact Rho.add_same _ _ _
          have := R.slice_intro hat (off := 0) (n := n + k) (c := n + k) (c' := c') (ex := false) hge (fun e => by cases e) (fun _ => by
           dsimp only; rw [hq]; omega)
          rw [show 0 + (p.s + off) = off + p.s from by omega] at this
          exact this
   ·exact trivial
end
end Go.Abs
