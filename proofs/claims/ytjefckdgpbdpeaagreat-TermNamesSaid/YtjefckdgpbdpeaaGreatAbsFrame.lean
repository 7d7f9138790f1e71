/- An executor whose runs hold in every world: a part of it and of what is proved of it. -/
import Derived.Test.YtjefckdgpbdpeaaGreatAbsOpsl
import Derived.Calls

namespace Go.Abs
open Go
open Go.RowKit (Below)

/-! ## frames -/
def AItem.toItem : AItem → Item
  | .code c => .code c
  | .inBlock id => .inBlock id
  | .inLoop b => .inLoop b
  | .inScope b => .inScope b
  | .beginRound => .beginRound
def ChR (ρ : Rho) : Chain → List PanicEntry → Prop
  | [], l => l = []
  | (v, rc) :: c, l => ∃ x xs, l = { v := x, recovered := rc } :: xs ∧ R ρ v x ∧ ChR ρ c xs
def MoR (ρ : Rho) : AMode → FrameMode → Prop
  | .run, x => x = .run
  | .returning, x => x = .returning
  | .panicking c, x => ∃ l, x = .panicking l ∧ ChR ρ c l
def RoR (ρ : Rho) : Option Nat → Option Nat → Prop
  | none, x => x = none
  | some l, x => ∃ b, x = some b ∧ ρ l = some (Pl.obj b)
def kindOf (dfr : Bool) : CallKind := bif dfr then .deferred else .normal

structure FR (P : Program) (ρ : Rho) (env : Env) (items : List Item) (tmps : T AVal) (ds : List ADef) (mode : AMode) (fr : Frame) : Prop where
  fn : fr.fn = env.fn
  size : fr.tmps.size = env.nt
  tmps : TR ρ tmps fr.tmps
  todo : mode = .run → fr.todo = items
  ds : DsR ρ ds fr.defers
  mode : MoR ρ mode fr.mode
  kind : fr.kind = kindOf env.dfr
  round : RoR ρ env.roundOf fr.roundOf
  func : ∃ f, P.funcs[env.fn]? = some f
  norm : env.roundOf.isSome = true → env.dfr = false

/-- what a deferred call sees of its caller's panic -/
def UpR (ρ : Rho) (dfr : Bool) (up : Chain) (cs : List Frame) : Prop :=
  dfr = true → ∃ c rest, cs = c :: rest ∧ ((∃ ch, c.mode = .panicking ch ∧ ChR ρ up ch) ∨ (c.mode = .returning ∧ up = []))
/-- the callers, but for what recover did to the first -/
def SameCs (dfr : Bool) (cs cs' : List Frame) : Prop :=
  (dfr = false → cs' = cs) ∧ (∀ c rest, cs = c :: rest → ∃ md, cs' = { c with mode := md } :: rest ∧ (c.mode = .returning → md = .returning) ∧ (∀ ch, c.mode = .panicking ch → ∃ ch', md = .panicking ch')) ∧ (cs = [] → cs' = [])

/-- what memory keeps: rows below 'lo', unless it says dirty -/
structure Keeps (m m' : Mem) : Prop where
  lo : m'.lo = m.lo
  next : m.next ≤ m'.next
  clean : m'.dirty = false → m.dirty = false
  same : m.lo ≤ m.next → m'.dirty = false → ∀ r, r < m.lo → m'.heap.get r = m.heap.get r
theorem Keeps.refl (m : Mem) : Keeps m m := ⟨rfl, Nat.le_refl _, fun h => h, fun _ _ _ _ => rfl⟩
theorem Keeps.trans {a b c : Mem} (h : Keeps a b) (k : Keeps b c) : Keeps a c :=
  ⟨k.lo.trans h.lo, Nat.le_trans h.next k.next, fun e => h.clean (k.clean e), fun hl e r hr => by
    have h1 := k.clean e
    rw [k.same (by rw [h.lo]; exact Nat.le_trans hl h.next) e r (by rw [h.lo]; exact hr)]
    exact h.same hl h1 r hr⟩

def Res (P : Program) (w0 : Wo) (B : Nat) (ρ : Rho) (env : Env) (cs : List Frame) (m0 : Mem) (M : Machine) : RR → Prop
  | .bad _ => True
  | .alt a b => Res P w0 B ρ env cs m0 M a ∨ Res P w0 B ρ env cs m0 M b
  | .ret v up' m' => Keeps m0 m' ∧ ∃ ρ' w1 w' fr' cs' x, Steps P M (lone fr' cs' w1) ∧ ρ.le ρ' ∧ MR w0 B ρ' m' w' ∧ R ρ' v x ∧ SameCs env.dfr cs cs' ∧ UpR ρ' env.dfr up' cs' ∧ fr'.kind = kindOf env.dfr ∧
      (stepG P true { frame := fr', callers := cs', status := .running, dying := none } w1).bare = (doReturn P true fr' cs' none x w').bare ∧
      (env.roundOf = none → w1 = w' ∧ fr'.mode = .returning ∧ fr'.defers = [] ∧ fr'.fn = env.fn ∧ ∃ fn, P.funcs[fr'.fn]? = some fn ∧ (results fn fr'.tmps).run P w' = .ok x w')
  | .panicked c up' m' => Keeps m0 m' ∧ ∃ ρ' w' fr' cs' ch, Steps P M (lone fr' cs' w') ∧ ρ.le ρ' ∧ MR w0 B ρ' m' w' ∧ ChR ρ' c ch ∧ SameCs env.dfr cs cs' ∧ UpR ρ' env.dfr up' cs' ∧
      fr'.mode = .panicking ch ∧ fr'.defers = [] ∧ fr'.fn = env.fn ∧ ∃ f, P.funcs[env.fn]? = some f

def Sound (P : Program) (w0 : Wo) (B : Nat) (rec : Run) : Prop :=
  ∀ (env : Env) (todo : List AItem) (tmps : T AVal) (ds : List ADef) (mode : AMode) (up : Chain) (m : Mem) (ρ : Rho) (w : World) (fr : Frame) (cs : List Frame),
    MR w0 B ρ m w → FR P ρ env (todo.map AItem.toItem) tmps ds mode fr → UpR ρ env.dfr up cs → Res P w0 B ρ env cs m (lone fr cs w) (rec env todo tmps ds mode up m)

section
variable {P : Program} {w0 : Wo} {B : Nat} {ρ : Rho} {m : Mem} {w : World} {env : Env} {fr : Frame} {cs : List Frame} {tmps : T AVal} {ds : List ADef} {up : Chain} {rec : Run} {fl : Fl}

theorem SameCs.refl (dfr : Bool) (cs : List Frame) : SameCs dfr cs cs :=
  ⟨fun _ => rfl, fun c rest h => ⟨c.mode, by rw [h], fun h => h, fun ch h => ⟨ch, h⟩⟩, fun h => h⟩
theorem ChR.mono {ρ ρ' : Rho} (h : ρ.le ρ') : ∀ {c : Chain} {l : List PanicEntry}, ChR ρ c l → ChR ρ' c l
  | [], l, e => e
  | (v, rc) :: c, l, e => by
    obtain ⟨x, xs, h1, h2, h3⟩ := e
    exact ⟨x, xs, h1, R.mono h _ _ h2, ChR.mono h h3⟩
theorem ChR.append : ∀ {c c' : Chain} {l l' : List PanicEntry}, ChR ρ c l → ChR ρ c' l' → ChR ρ (c ++ c') (l ++ l')
  | [], c', l, l', h, h' => by have : l = [] := h; subst this; simpa using h'
  | (v, rc) :: c, c', l, l', h, h' => by
    obtain ⟨x, xs, rfl, h2, h3⟩ := h
    exact ⟨x, _, rfl, h2, ChR.append h3 h'⟩
theorem MoR.mono {ρ ρ' : Rho} (h : ρ.le ρ') {mo : AMode} {x : FrameMode} (e : MoR ρ mo x) : MoR ρ' mo x := by
  cases mo with
  | run => exact e
  | returning => exact e
  | panicking c => obtain ⟨l, h1, h2⟩ := e; exact ⟨l, h1, h2.mono h⟩
theorem RoR.mono {ρ ρ' : Rho} (h : ρ.le ρ') {a b : Option Nat} (e : RoR ρ a b) : RoR ρ' a b := by
  cases a with
  | none => exact e
  | some l => obtain ⟨c, h1, h2⟩ := e; exact ⟨c, h1, h _ _ h2⟩
theorem UpR.mono {ρ ρ' : Rho} (h : ρ.le ρ') {dfr : Bool} (e : UpR ρ dfr up cs) : UpR ρ' dfr up cs := fun hd => by
  obtain ⟨c, rest, h1, h2⟩ := e hd
  refine ⟨c, rest, h1, ?_⟩
  rcases h2 with ⟨ch, h3, h4⟩ | h3
  · exact .inl ⟨ch, h3, h4.mono h⟩
  · exact .inr h3

theorem FR.eval {its : List Item} {mo : AMode} (h : FR P ρ env its tmps ds mo fr) (x : Operand) : R ρ (evalT tmps x) (fr.eval x) := by
  cases x with
  | tmp t => exact h.tmps t
  | const v => simp only [evalT, Frame.eval, R]
  | global g => simp only [evalT, Frame.eval, R]
  | func f => simp only [evalT, Frame.eval, R]

theorem Res.steps {M M' : Machine} (hs : Steps P M M') : ∀ {r : RR}, Res P w0 B ρ env cs m M' r → Res P w0 B ρ env cs m M r := by
  intro r
  induction r with
  | ret v up' m' =>
    rintro ⟨hk, ρ', w1, w', fr', cs', x, h1, h2⟩
    exact ⟨hk, ρ', w1, w', fr', cs', x, hs.trans h1, h2⟩
  | panicked c up' m' =>
    rintro ⟨hk, ρ', w', fr', cs', ch, h1, h2⟩
    exact ⟨hk, ρ', w', fr', cs', ch, hs.trans h1, h2⟩
  | bad _ => exact id
  | alt a b iha ihb => exact fun h => h.imp iha ihb
/-- a later start: a wider placing, a memory that has gone on -/
theorem Res.later {ρ1 : Rho} {m1 : Mem} {cs1 : List Frame} {M : Machine} (hle : ρ.le ρ1) (hk : Keeps m m1) (hc : SameCs env.dfr cs cs1) : ∀ {r : RR}, Res P w0 B ρ1 env cs1 m1 M r → Res P w0 B ρ env cs m M r := by
  have trans : ∀ {cs2}, SameCs env.dfr cs1 cs2 → SameCs env.dfr cs cs2 := by
    intro cs2 h
    refine ⟨fun hd => (h.1 hd).trans (hc.1 hd), fun c rest e => ?_, fun e => h.2.2 (hc.2.2 e)⟩
    obtain ⟨md, h1, h2, h3⟩ := hc.2.1 c rest e
    obtain ⟨md', h4, h5, h6⟩ := h.2.1 _ _ h1
    refine ⟨md', h4, fun hr => h5 (h2 hr), fun ch hp => ?_⟩
    obtain ⟨ch', h7⟩ := h3 ch hp
    exact h6 ch' h7
  intro r
  induction r with
  | ret v up' m' =>
    rintro ⟨hk', ρ', w1, w', fr', cs', x, h1, h2, h3, h4, h5, h6⟩
    exact ⟨hk.trans hk', ρ', w1, w', fr', cs', x, h1, hle.trans h2, h3, h4, trans h5, h6⟩
  | panicked c up' m' =>
    rintro ⟨hk', ρ', w', fr', cs', ch, h1, h2, h3, h4, h5, h6⟩
    exact ⟨hk.trans hk', ρ', w', fr', cs', ch, h1, hle.trans h2, h3, h4, trans h5, h6⟩
  | bad _ => exact fun _ => trivial
  | alt a b iha ihb => exact fun h => h.imp iha ihb

/-- the frame goes on with another list of items -/
theorem FR.goto {its : List Item} (h : FR P ρ env its tmps ds .run fr) (k : List Item) : FR P ρ env k tmps ds .run { fr with todo := k } :=
  { h with todo := fun _ => rfl }

theorem exitTo_map (id : Nat) : ∀ k : List AItem, Go.exitTo id (k.map AItem.toItem) = (Abs.exitTo id k).map (List.map AItem.toItem)
  | [] => rfl
  | x :: k => by
    have ih := exitTo_map id k
    cases x with
    | inBlock id' =>
      show (if id' == id then some (k.map AItem.toItem) else Go.exitTo id (k.map AItem.toItem)) = (bif id'.beq id then some k else Abs.exitTo id k).map _
      rw [ih]
      by_cases e : id' = id
      · subst e; simp
      · have h1 : (id' == id) = false := by simpa using e
        have h2 : id'.beq id = false := nat_beq_f.2 e
        rw [h1, h2]; rfl
    | _ => exact ih
theorem gotoIn_map (l : Nat) : ∀ k : List AItem, Go.gotoIn l (k.map AItem.toItem) = (Abs.gotoIn l k).map (List.map AItem.toItem)
  | [] => rfl
  | x :: k => by
    have ih := gotoIn_map l k
    cases x with
    | inScope body =>
      show (match findLabel body l with | some rest => some (Item.code rest :: Item.inScope body :: k.map AItem.toItem) | none => Go.gotoIn l (k.map AItem.toItem)) =
        (match findLabel body l with | some rest => some (AItem.code rest :: AItem.inScope body :: k) | none => Abs.gotoIn l k).map _
      cases findLabel body l with
      | some rest => rfl
      | none => exact ih
    | _ => exact ih

theorem boolOf_some {v : AVal} {x : Value} {b : Bool} (hx : R ρ v x) (h : boolOf v = some b) : x = .bool b := by
  unfold boolOf at h
  split at h
  · cases h; simpa only [R] using hx
  · cases h
end
end Go.Abs

namespace Go.Abs
open Go
open Go.RowKit (Below)

section
variable {P : Program} {w0 : Wo} {B : Nat} {ρ : Rho} {m : Mem} {w : World} {env : Env} {fr : Frame} {cs : List Frame} {tmps : T AVal} {ds : List ADef} {up : Chain} {rec : Run} {fl : Fl}

/-- the goroutine of a frame -/
abbrev gor (fr : Frame) (cs : List Frame) : Goroutine := { frame := fr, callers := cs, status := .running, dying := none }

theorem go_on (hrec : Sound P w0 B rec) (h : MR w0 B ρ m w) {k : List AItem} {mode : AMode} {fr' : Frame} (hF : FR P ρ env (k.map AItem.toItem) tmps ds mode fr') (hU : UpR ρ env.dfr up cs)
    (hs : (stepG P true (gor fr cs) w).bare = .go (gor fr' cs) w) : Res P w0 B ρ env cs m (lone fr cs w) (rec env k tmps ds mode up m) :=
  (hrec env k tmps ds mode up m ρ w fr' cs h hF hU).steps (.one (step_lone_go hs))

theorem Keeps.put_new {r : Nat} {o : AObj} : Keeps m (m.put r o) := by
  obtain ⟨h, n, f, lo, d⟩ := m
  refine ⟨rfl, Nat.le_refl _, fun e => ?_, fun _ e q hq => ?_⟩
  · have e' : soil r lo d = false := e
    unfold soil at e'
    cases hr : r.blt lo with
    | true => rw [hr] at e'; cases e'
    | false => rw [hr] at e'; exact e'
  · have e' : soil r lo d = false := e
    unfold soil at e'
    have hq' : q < lo := hq
    cases hr : r.blt lo with
    | true => rw [hr] at e'; cases e'
    | false =>
      have : ¬ r < lo := by
        intro hlt
        have : r.blt lo = true := by simpa [Nat.blt_eq] using hlt
        rw [this] at hr; cases hr
      show (h.set r o).get q = h.get q
      rw [T.get_set_other _ _ (by omega)]
theorem Keeps.new {o : AObj} : Keeps m (m.new o) := by
  obtain ⟨h, n, f, lo, d⟩ := m
  refine ⟨rfl, Nat.le_succ _, fun e => e, fun hl e q hq => ?_⟩
  have hq' : q < lo := hq
  have hl' : lo ≤ n := hl
  show (h.set n o).get q = h.get q
  rw [T.get_set_other _ _ (by omega)]

theorem leave_none (hrec : Sound P w0 B rec) (h : MR w0 B ρ m w) {its : List Item} (hF : FR P ρ env its tmps ds .run fr) (hU : UpR ρ env.dfr up cs) {jump : Option Code}
    (hn : fr.roundOf = none → isRet jump = true → (stepG P true (gor fr cs) w).bare = .go (gor { fr with mode := .returning } cs) w)
    (hr : ∀ b, fr.roundOf = some b → (stepG P true (gor fr cs) w).bare = (match (Instr.endRound b jump).run P w with | .ok v w => doReturn P true fr cs none v w | .halt _ w => .ended (.stuck "range over a function: no such loop" (fr.pos P)) w).bare) :
    Res P w0 B ρ env cs m (lone fr cs w) (leave rec env jump tmps ds up m) := by
  unfold leave
  have hro := hF.round
  cases hrd : env.roundOf with
  | none =>
    rw [hrd] at hro
    dsimp only
    cases hj : isRet jump with
    | false => exact trivial
    | true =>
      rw [cond_true]
      exact go_on hrec h (k := []) (fr' := { fr with mode := .returning }) { hF with todo := fun e => (by cases e), mode := rfl } hU (hn hro hj)
  | some l =>
    rw [hrd] at hro
    obtain ⟨b, hb, hp⟩ := hro
    dsimp only
    cases hd : isNil ds with
    | false => exact trivial
    | true =>
      rw [cond_true]
      unfold leaveR
      split
      case h_2 => exact trivial
      rename_i st pe fn nt tm ps a bd d ho
      obtain ⟨hB, hpo, x, hw, hL⟩ := h.loop ho hp
      have hgl := run_getLoop (P := P) (b := b) hw
      have hso : ∀ o', (Go.setObj b o').run P w = .ok () (setBlk w b o') := fun o' => run_setObj hw (fun _ _ _ e => by cases e)
      refine ⟨Keeps.put_new, ρ, w, setBlk w b (.loop { x with state := if jump.isNone then .ready else .done, pending := jump }), fr, cs, .bool jump.isNone, .refl _ _, Rho.le.refl ρ, ?_, by simp [R], SameCs.refl _ _, hU, hF.kind, ?_, ?_⟩
      · refine h.put ho hp (fun _ _ _ _ e => by cases e) (fun _ e => by cases e) (fun _ _ _ _ e => by cases e) hB ⟨hB, hpo, _, rfl, ?_⟩
        refine { hL with state := ?_, pending := rfl }
        cases jump <;> rfl
      · rw [hr b hb]
        have : (Instr.endRound b jump).run P w = .ok (.bool jump.isNone) (setBlk w b (.loop { x with state := if jump.isNone then .ready else .done, pending := jump })) := by
          unfold Instr.endRound
          simp only [run_bind, hgl, hso, run_pure]
        rw [this]
      · intro e; rw [hrd] at e; cases e

theorem cond_sound (hrec : Sound P w0 B rec) (h : MR w0 B ρ m w) {k : List AItem} {c : Operand} {a b : Code} (hF : FR P ρ env ((AItem.code (.cond c a b) :: k).map AItem.toItem) tmps ds .run fr) (hU : UpR ρ env.dfr up cs) :
    Res P w0 B ρ env cs m (lone fr cs w) (condGo rec env a b k tmps ds up m (boolOf (evalT tmps c))) := by
  cases hb : boolOf (evalT tmps c) with
  | none => exact trivial
  | some t =>
    have hv := boolOf_some (hF.eval c) hb
    have hm : fr.mode = .run := hF.mode
    have ht : fr.todo = .code (.cond c a b) :: k.map AItem.toItem := hF.todo rfl
    refine go_on hrec h (k := .code (bif t then a else b) :: k) (hF.goto _) hU ?_
    cases t <;> simp [stepG, hm, stepG.exec, ht, hv, gor, AItem.toItem]

theorem simple_sound (hrec : Sound P w0 B rec) (h : MR w0 B ρ m w) {it : AItem} {k k' : List AItem} (hF : FR P ρ env ((it :: k).map AItem.toItem) tmps ds .run fr) (hU : UpR ρ env.dfr up cs)
    (hs : ∀ fr : Frame, fr.mode = .run → fr.todo = (it :: k).map AItem.toItem → (stepG P true (gor fr cs) w).bare = .go (gor { fr with todo := k'.map AItem.toItem } cs) w) :
    Res P w0 B ρ env cs m (lone fr cs w) (rec env k' tmps ds .run up m) :=
  go_on hrec h (hF.goto _) hU (hs fr hF.mode (hF.todo rfl))

theorem jump_sound (hrec : Sound P w0 B rec) (h : MR w0 B ρ m w) {k : List AItem} {c : Code} {o : Option (List AItem)} (hF : FR P ρ env ((AItem.code c :: k).map AItem.toItem) tmps ds .run fr) (hU : UpR ρ env.dfr up cs)
    (hc : (∃ id, c = .exit id ∧ o = Abs.exitTo id k) ∨ (∃ l, c = .goto l ∧ o = Abs.gotoIn l k)) :
    Res P w0 B ρ env cs m (lone fr cs w) (jumpTo rec env c tmps ds up m o) := by
  have hm : fr.mode = .run := hF.mode
  have ht : fr.todo = .code c :: k.map AItem.toItem := hF.todo rfl
  unfold jumpTo
  rcases hc with ⟨id, rfl, rfl⟩ | ⟨l, rfl, rfl⟩
  · have hx := exitTo_map id k
    cases he : Abs.exitTo id k with
    | some k' =>
      rw [he] at hx
      refine go_on hrec h (hF.goto _) hU ?_
      simp [stepG, hm, stepG.exec, ht, gor, hx]
    | none =>
      rw [he] at hx
      refine leave_none hrec h hF hU ?_ ?_
      · intro _ hj; cases hj
      · intro b hb
        simp [stepG, hm, stepG.exec, ht, hx, hb, Sem.runT_eq]
        generalize Sem.run P (Instr.endRound b _) w = rr
        cases rr <;> rfl
  · have hx := gotoIn_map l k
    cases he : Abs.gotoIn l k with
    | some k' =>
      rw [he] at hx
      refine go_on hrec h (hF.goto _) hU ?_
      simp [stepG, hm, stepG.exec, ht, gor, hx]
    | none =>
      rw [he] at hx
      refine leave_none hrec h hF hU ?_ ?_
      · intro _ hj; cases hj
      · intro b hb
        simp [stepG, hm, stepG.exec, ht, hx, hb, Sem.runT_eq]
        generalize Sem.run P (Instr.endRound b _) w = rr
        cases rr <;> rfl

theorem ret_sound (hrec : Sound P w0 B rec) (h : MR w0 B ρ m w) {k : List AItem} (hF : FR P ρ env ((AItem.code .ret :: k).map AItem.toItem) tmps ds .run fr) (hU : UpR ρ env.dfr up cs) :
    Res P w0 B ρ env cs m (lone fr cs w) (leave rec env (some .ret) tmps ds up m) := by
  have hm : fr.mode = .run := hF.mode
  have ht : fr.todo = .code .ret :: k.map AItem.toItem := hF.todo rfl
  refine leave_none hrec h hF hU ?_ ?_
  · intro hn _
    simp [stepG, hm, stepG.exec, ht, gor, hn]
  · intro b hb
    simp [stepG, hm, stepG.exec, ht, hb, Sem.runT_eq]
    generalize Sem.run P (Instr.endRound b _) w = rr
    cases rr <;> rfl
theorem end_sound (hrec : Sound P w0 B rec) (h : MR w0 B ρ m w) (hF : FR P ρ env [] tmps ds .run fr) (hU : UpR ρ env.dfr up cs) :
    Res P w0 B ρ env cs m (lone fr cs w) (leave rec env none tmps ds up m) := by
  have hm : fr.mode = .run := hF.mode
  have ht : fr.todo = [] := hF.todo rfl
  refine leave_none hrec h hF hU ?_ ?_
  · intro hn _
    simp [stepG, hm, stepG.exec, ht, gor, hn]
  · intro b hb
    simp [stepG, hm, stepG.exec, ht, hb, Sem.runT_eq]
    generalize Sem.run P (Instr.endRound b _) w = rr
    cases rr <;> rfl

theorem begin_sound (hrec : Sound P w0 B rec) (h : MR w0 B ρ m w) {k : List AItem} {l : Nat} (hl : env.roundOf = some l) (hF : FR P ρ env ((AItem.beginRound :: k).map AItem.toItem) tmps ds .run fr) (hU : UpR ρ env.dfr up cs) :
    Res P w0 B ρ env cs m (lone fr cs w) (beginR rec env k tmps ds up m l (m.heap.get l)) := by
  have hm : fr.mode = .run := hF.mode
  have ht : fr.todo = .beginRound :: k.map AItem.toItem := hF.todo rfl
  have hro := hF.round
  rw [hl] at hro
  obtain ⟨b, hb, hp⟩ := hro
  unfold beginR
  split
  case h_2 => exact trivial
  rename_i st pe fn nt tm ps a bd d ho
  split
  case h_2 => exact trivial
  obtain ⟨hB, hpo, x, hw, hL⟩ := h.loop ho hp
  have hgl := run_getLoop (P := P) (b := b) hw
  have hso : ∀ o', (Go.setObj b o').run P w = .ok () (setBlk w b o') := fun o' => run_setObj hw (fun _ _ _ e => by cases e)
  have hst : x.state = .ready := hL.state
  have hrun : (Instr.beginRound b).run P w = .ok () (setBlk w b (.loop { x with state := .busy })) := by
    unfold Instr.beginRound
    simp only [run_bind, hgl, hso, hst, run_pure]
  have h' : MR w0 B ρ (m.put l (.loop ⟨.busy, pe, fn, nt, tm, ps, a, bd, d⟩)) (setBlk w b (.loop { x with state := .busy })) :=
    h.put ho hp (fun _ _ _ _ e => by cases e) (fun _ e => by cases e) (fun _ _ _ _ e => by cases e) hB ⟨hB, hpo, _, rfl, { hL with state := rfl }⟩
  refine Res.later (Rho.le.refl ρ) Keeps.put_new (SameCs.refl _ _) (Res.steps (.one (step_lone_go (fr' := { fr with todo := k.map AItem.toItem }) ?_)) (hrec env k tmps ds .run up _ ρ _ { fr with todo := k.map AItem.toItem } cs h' (hF.goto _) hU))
  simp [stepG, hm, stepG.exec, stepG.apply, ht, hb, Sem.runT_eq, hrun, Result.andThen, Frame.finish]
end
end Go.Abs
