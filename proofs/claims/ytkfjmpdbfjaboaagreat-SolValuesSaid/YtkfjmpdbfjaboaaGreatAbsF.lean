/- An executor whose runs hold in every world: a part of it and of what is proved of it. -/
import Derived.Test.YtkfjmpdbfjaboaaGreatAbsE
import Derived.Calls
namespace Go.Abs
open Go
open Go.RowKit (Below)
def AItem.toItem : AItem → Item
 | .code c => .code c
 | .inBlock id => .inBlock id
 | .inLoop b => .inLoop b
 | .inScope b => .inScope b
 | .beginRound => .beginRound
def ChR (ρ : Rho) : Chain → List PanicEntry → Prop
 | [], l => l = []
 | (v, rc) :: c, l => ∃ x xs, l = { v := x, recovered := rc } :: xs ∧ R ρ v x ∧ ChR ρ c xs
def MoR (ρ : Rho) : AMode → FrameMode → Prop
 | .run, x => x = .run
 | .returning, x => x = .returning
 | .panicking c, x => ∃ l, x = .panicking l ∧ ChR ρ c l
def RoR (ρ : Rho) : Option Nat → Option Nat → Prop
 | none, x => x = none
 | some l, x => ∃ b, x = some b ∧ ρ l = some (Pl.obj b)
def kindOf (dfr : Bool) : CallKind := bif dfr then .deferred else .normal
structure FR (P : Program) (ρ : Rho) (env : Env) (items : List Item) (tmps : T AVal) (ds : List ADef) (mode : AMode) (fr : Frame) : Prop where
 fn : fr.fn = env.fn
 size : fr.tmps.size = env.nt
 tmps : TR ρ tmps fr.tmps
 todo : mode = .run → fr.todo = items
 ds : DsR ρ ds fr.defers
 mode : MoR ρ mode fr.mode
 kind : fr.kind = kindOf env.dfr
 round : RoR ρ env.roundOf fr.roundOf
 func : ∃ f, P.funcs[env.fn]? = some f
 norm : env.roundOf.isSome = true → env.dfr = false
def UpR (ρ : Rho) (dfr : Bool) (up : Chain) (cs : List Frame) : Prop :=
 dfr = true → ∃ c rest, cs = c :: rest ∧ ((∃ ch, c.mode = .panicking ch ∧ ChR ρ up ch) ∨ (c.mode = .returning ∧ up = []))
def SameCs (dfr : Bool) (cs cs' : List Frame) : Prop :=
 (dfr = false → cs' = cs) ∧ (∀ c rest, cs = c :: rest → ∃ md, cs' = { c with mode := md } :: rest ∧ (c.mode = .returning → md = .returning) ∧ (∀ ch, c.mode = .panicking ch → ∃ ch', md = .panicking ch')) ∧ (cs = [] → cs' = [])
structure Keeps (m m' : Mem) : Prop where
 lo : m'.lo = m.lo
 next : m.next ≤ m'.next
 clean : m'.dirty = false → m.dirty = false
 same : m.lo ≤ m.next → m'.dirty = false → ∀ r, r < m.lo → m'.heap.get r = m.heap.get r
theorem Keeps.refl (m : Mem) : Keeps m m := ⟨rfl, Nat.le_refl _, fun h => h, fun _ _ _ _ => rfl⟩
theorem Keeps.trans {a b c : Mem} (h : Keeps a b) (k : Keeps b c) : Keeps a c :=
 ⟨k.lo.trans h.lo, Nat.le_trans h.next k.next, fun e => h.clean (k.clean e), fun hl e r hr => by
  have h1 := k.clean e
  rw [k.same (by rw [h.lo]; exact Nat.le_trans hl h.next) e r (by rw [h.lo]; exact hr)]
  exact h.same hl h1 r hr⟩
def Res (P : Program) (w0 : Wo) (B : Nat) (ρ : Rho) (env : Env) (cs : List Frame) (m0 : Mem) (M : Machine) : RR → Prop
 | .bad _ => True
 | .alt a b => Res P w0 B ρ env cs m0 M a ∨ Res P w0 B ρ env cs m0 M b
 | .ret v up' m' => Keeps m0 m' ∧ ∃ ρ' w1 w' fr' cs' x, Steps P M (lone fr' cs' w1) ∧ ρ.le ρ' ∧ MR w0 B ρ' m' w' ∧ R ρ' v x ∧ SameCs env.dfr cs cs' ∧ UpR ρ' env.dfr up' cs' ∧ fr'.kind = kindOf env.dfr ∧
   (stepG P true { frame := fr', callers := cs', status := .running, dying := none } w1).bare = (doReturn P true fr' cs' none x w').bare ∧
   (env.roundOf = none → w1 = w' ∧ fr'.mode = .returning ∧ fr'.defers = [] ∧ fr'.fn = env.fn ∧ ∃ fn, P.funcs[fr'.fn]? = some fn ∧ (results fn fr'.tmps).run P w' = .ok x w')
 | .panicked c up' m' => Keeps m0 m' ∧ ∃ ρ' w' fr' cs' ch, Steps P M (lone fr' cs' w') ∧ ρ.le ρ' ∧ MR w0 B ρ' m' w' ∧ ChR ρ' c ch ∧ SameCs env.dfr cs cs' ∧ UpR ρ' env.dfr up' cs' ∧
   fr'.mode = .panicking ch ∧ fr'.defers = [] ∧ fr'.fn = env.fn ∧ ∃ f, P.funcs[env.fn]? = some f
def Sound (P : Program) (w0 : Wo) (B : Nat) (rec : Run) : Prop :=
 ∀ (env : Env) (todo : List AItem) (tmps : T AVal) (ds : List ADef) (mode : AMode) (up : Chain) (m : Mem) (ρ : Rho) (w : World) (fr : Frame) (cs : List Frame),
  MR w0 B ρ m w → FR P ρ env (todo.map AItem.toItem) tmps ds mode fr → UpR ρ env.dfr up cs → Res P w0 B ρ env cs m (lone fr cs w) (rec env todo tmps ds mode up m)
section
variable {P : Program} {w0 : Wo} {B : Nat} {ρ : Rho} {m : Mem} {w : World} {env : Env} {fr : Frame} {cs : List Frame} {tmps : T AVal} {ds : List ADef} {up : Chain} {rec : Run} {fl : Fl}
theorem SameCs.refl (dfr : Bool) (cs : List Frame) : SameCs dfr cs cs :=
 ⟨fun _ => rfl, fun c rest h => ⟨c.mode, by rw [h], fun h => h, fun ch h => ⟨ch, h⟩⟩, fun h => h⟩
theorem ChR.mono {ρ ρ' : Rho} (h : ρ.le ρ') : ∀ {c : Chain} {l : List PanicEntry}, ChR ρ c l → ChR ρ' c l
 | [], l, e => e
 | (v, rc) :: c, l, e => by
  obtain ⟨x, xs, h1, h2, h3⟩ := e
  exact ⟨x, xs, h1, R.mono h _ _ h2, ChR.mono h h3⟩
theorem ChR.append : ∀ {c c' : Chain} {l l' : List PanicEntry}, ChR ρ c l → ChR ρ c' l' → ChR ρ (c ++ c') (l ++ l')
 | [], c', l, l', h, h' => by have : l = [] := h; subst this; simpa using h'
 | (v, rc) :: c, c', l, l', h, h' => by
  obtain ⟨x, xs, rfl, h2, h3⟩ := h
  exact ⟨x, _, rfl, h2, ChR.append h3 h'⟩
theorem MoR.mono {ρ ρ' : Rho} (h : ρ.le ρ') {mo : AMode} {x : FrameMode} (e : MoR ρ mo x) : MoR ρ' mo x := by
 cases mo with
 | run => exact e
 | returning => exact e
 | panicking c => obtain ⟨l, h1, h2⟩ := e; exact ⟨l, h1, h2.mono h⟩
theorem RoR.mono {ρ ρ' : Rho} (h : ρ.le ρ') {a b : Option Nat} (e : RoR ρ a b) : RoR ρ' a b := by
 cases a with
 | none => exact e
 | some l => obtain ⟨c, h1, h2⟩ := e; exact ⟨c, h1, h _ _ h2⟩
theorem UpR.mono {ρ ρ' : Rho} (h : ρ.le ρ') {dfr : Bool} (e : UpR ρ dfr up cs) : UpR ρ' dfr up cs := fun hd => by
 obtain ⟨c, rest, h1, h2⟩ := e hd
 refine ⟨c, rest, h1, ?_⟩
 rcases h2 with ⟨ch, h3, h4⟩ | h3
 ·exact .inl ⟨ch, h3, h4.mono h⟩
 ·exact .inr h3
theorem FR.eval {its : List Item} {mo : AMode} (h : FR P ρ env its tmps ds mo fr) (x : Operand) : R ρ (evalT tmps x) (fr.eval x) := by
 cases x with
 | tmp t => exact h.tmps t
 | const v => simp only [evalT, Frame.eval, R]
 | global g => simp only [evalT, Frame.eval, R]
 | func f => simp only [evalT, Frame.eval, R]
theorem Res.steps {M M' : Machine} (hs : Steps P M M') : ∀ {r : RR}, Res P w0 B ρ env cs m M' r → Res P w0 B ρ env cs m M r := by
 intro r
 induction r with
 | ret v up' m' =>
  rintro ⟨hk, ρ', w1, w', fr', cs', x, h1, h2⟩
  exact ⟨hk, ρ', w1, w', fr', cs', x, hs.trans h1, h2⟩
 | panicked c up' m' =>
  rintro ⟨hk, ρ', w', fr', cs', ch, h1, h2⟩
  exact ⟨hk, ρ', w', fr', cs', ch, hs.trans h1, h2⟩
 | bad _ => exact id
 | alt a b iha ihb => exact fun h => h.imp iha ihb
theorem Res.later {ρ1 : Rho} {m1 : Mem} {cs1 : List Frame} {M : Machine} (hle : ρ.le ρ1) (hk : Keeps m m1) (hc : SameCs env.dfr cs cs1) : ∀ {r : RR}, Res P w0 B ρ1 env cs1 m1 M r → Res P w0 B ρ env cs m M r := by
 have trans : ∀ {cs2}, SameCs env.dfr cs1 cs2 → SameCs env.dfr cs cs2 := by
  intro cs2 h
  refine ⟨fun hd => (h.1 hd).trans (hc.1 hd), fun c rest e => ?_, fun e => h.2.2 (hc.2.2 e)⟩
  obtain ⟨md, h1, h2, h3⟩ := hc.2.1 c rest e
  obtain ⟨md', h4, h5, h6⟩ := h.2.1 _ _ h1
  refine ⟨md', h4, fun hr => h5 (h2 hr), fun ch hp => ?_⟩
  obtain ⟨ch', h7⟩ := h3 ch hp
  exact h6 ch' h7
 intro r
 induction r with
 | ret v up' m' =>
  rintro ⟨hk', ρ', w1, w', fr', cs', x, h1, h2, h3, h4, h5, h6⟩
  exact ⟨hk.trans hk', ρ', w1, w', fr', cs', x, h1, hle.trans h2, h3, h4, trans h5, h6⟩
 | panicked c up' m' =>
  rintro ⟨hk', ρ', w', fr', cs', ch, h1, h2, h3, h4, h5, h6⟩
  exact ⟨hk.trans hk', ρ', w', fr', cs', ch, h1, hle.trans h2, h3, h4, trans h5, h6⟩
 | bad _ => exact fun _ => trivial
 | alt a b iha ihb => exact fun h => h.imp iha ihb
theorem FR.goto {its : List Item} (h : FR P ρ env its tmps ds .run fr) (k : List Item) : FR P ρ env k tmps ds .run { fr with todo := k } :=
 { h with todo := fun _ => rfl }
theorem exitTo_map (id : Nat) : ∀ k : List AItem, Go.exitTo id (k.map AItem.toItem) = (Abs.exitTo id k).map (List.map AItem.toItem)
 | [] => rfl
 | x :: k => by
  have ih := exitTo_map id k
  cases x with
  | inBlock id' =>
   show (if id' == id then some (k.map AItem.toItem) else Go.exitTo id (k.map AItem.toItem)) = (bif id'.beq id then some k else Abs.exitTo id k).map _
   rw [ih]
   by_cases e : id' = id
   ·subst e; simp
   ·have h1 : (id' == id) = false := by simpa using e
    have h2 : id'.beq id = false := nat_beq_f.2 e
    rw [h1, h2]; rfl
  | _ => exact ih
theorem gotoIn_map (l : Nat) : ∀ k : List AItem, Go.gotoIn l (k.map AItem.toItem) = (Abs.gotoIn l k).map (List.map AItem.toItem)
 | [] => rfl
 | x :: k => by
  have ih := gotoIn_map l k
  cases x with
  | inScope body =>
   show (match findLabel body l with | some rest => some (Item.code rest :: Item.inScope body :: k.map AItem.toItem) | none => Go.gotoIn l (k.map AItem.toItem)) =
    (match findLabel body l with | some rest => some (AItem.code rest :: AItem.inScope body :: k) | none => Abs.gotoIn l k).map _
   cases findLabel body l with
   | some rest => rfl
   | none => exact ih
  | _ => exact ih
theorem boolOf_some {v : AVal} {x : Value} {b : Bool} (hx : R ρ v x) (h : boolOf v = some b) : x = .bool b := by
 unfold boolOf at h
 split at h
 ·cases h; simpa only [R] using hx
 ·cases h
end
open Go.RowKit (Below)
section
variable {P : Program} {w0 : Wo} {B : Nat} {ρ : Rho} {m : Mem} {w : World} {env : Env} {fr : Frame} {cs : List Frame} {tmps : T AVal} {ds : List ADef} {up : Chain} {rec : Run} {fl : Fl}
abbrev gor (fr : Frame) (cs : List Frame) : Goroutine := { frame := fr, callers := cs, status := .running, dying := none }
theorem go_on (hrec : Sound P w0 B rec) (h : MR w0 B ρ m w) {k : List AItem} {mode : AMode} {fr' : Frame} (hF : FR P ρ env (k.map AItem.toItem) tmps ds mode fr') (hU : UpR ρ env.dfr up cs)
  (hs : (stepG P true (gor fr cs) w).bare = .go (gor fr' cs) w) : Res P w0 B ρ env cs m (lone fr cs w) (rec env k tmps ds mode up m) :=
 (hrec env k tmps ds mode up m ρ w fr' cs h hF hU).steps (.one (step_lone_go hs))
theorem Keeps.put_new {r : Nat} {o : AObj} : Keeps m (m.put r o) := by
 obtain ⟨h, n, f, lo, d⟩ := m
 refine ⟨rfl, Nat.le_refl _, fun e => ?_, fun _ e q hq => ?_⟩
 ·have e' : soil r lo d = false := e
  unfold soil at e'
  cases hr : r.blt lo with
  | true => rw [hr] at e'; cases e'
  | false => rw [hr] at e'; exact e'
 ·have e' : soil r lo d = false := e
  unfold soil at e'
  have hq' : q < lo := hq
  cases hr : r.blt lo with
  | true => rw [hr] at e'; cases e'
  | false =>
   have : ¬ r < lo := by
    intro hlt
    have : r.blt lo = true := by simpa [Nat.blt_eq] using hlt
    rw [this] at hr; cases hr
   show (h.set r o).get q = h.get q
   rw [T.get_set_other _ _ (by omega)]
theorem Keeps.new {o : AObj} : Keeps m (m.new o) := by
 obtain ⟨h, n, f, lo, d⟩ := m
 refine ⟨rfl, Nat.le_succ _, fun e => e, fun hl e q hq => ?_⟩
 have hq' : q < lo := hq
 have hl' : lo ≤ n := hl
 show (h.set n o).get q = h.get q
 rw [T.get_set_other _ _ (by omega)]
theorem leave_none (hrec : Sound P w0 B rec) (h : MR w0 B ρ m w) {its : List Item} (hF : FR P ρ env its tmps ds .run fr) (hU : UpR ρ env.dfr up cs) {jump : Option Code}
  (hn : fr.roundOf = none → isRet jump = true → (stepG P true (gor fr cs) w).bare = .go (gor { fr with mode := .returning } cs) w)
  (hr : ∀ b, fr.roundOf = some b → (stepG P true (gor fr cs) w).bare = (match (Instr.endRound b jump).run P w with | .ok v w => doReturn P true fr cs none v w | .halt _ w => .ended (.stuck "range over a function: no such loop" (fr.pos P)) w).bare) :
  Res P w0 B ρ env cs m (lone fr cs w) (leave rec env jump tmps ds up m) := by
 unfold leave
 have hro := hF.round
 cases hrd : env.roundOf with
 | none =>
  rw [hrd] at hro
  dsimp only
  cases hj : isRet jump with
  | false => exact trivial
  | true =>
   rw [cond_true]
   exact go_on hrec h (k := []) (fr' := { fr with mode := .returning }) { hF with todo := fun e => (by cases e), mode := rfl } hU (hn hro hj)
 | some l =>
  rw [hrd] at hro
  obtain ⟨b, hb, hp⟩ := hro
  dsimp only
  cases hd : isNil ds with
  | false => exact trivial
  | true =>
   rw [cond_true]
   unfold leaveR
   split
   case h_2 => exact trivial
   rename_i st pe fn nt tm ps a bd d ho
   obtain ⟨hB, hpo, x, hw, hL⟩ := h.loop ho hp
   have hgl := run_getLoop (P := P) (b := b) hw
   have hso : ∀ o', (Go.setObj b o').run P w = .ok () (setBlk w b o') := fun o' => run_setObj hw (fun _ _ _ e => by cases e)
   refine ⟨Keeps.put_new, ρ, w, setBlk w b (.loop { x with state := if jump.isNone then .ready else .done, pending := jump }), fr, cs, .bool jump.isNone, .refl _ _, Rho.le.refl ρ, ?_, by simp [R], SameCs.refl _ _, hU, hF.kind, ?_, ?_⟩
   ·refine h.put ho hp (fun _ _ _ _ e => by cases e) (fun _ e => by cases e) (fun _ _ _ _ e => by cases e) hB ⟨hB, hpo, _, rfl, ?_⟩
    refine { hL with state := ?_, pending := rfl }
    cases jump <;> rfl
   ·rw [hr b hb]
    have : (Instr.endRound b jump).run P w = .ok (.bool jump.isNone) (setBlk w b (.loop { x with state := if jump.isNone then .ready else .done, pending := jump })) := by
     unfold Instr.endRound
     simp only [run_bind, hgl, hso, run_pure]
    rw [this]
   ·intro e; rw [hrd] at e; cases e
theorem cond_sound (hrec : Sound P w0 B rec) (h : MR w0 B ρ m w) {k : List AItem} {c : Operand} {a b : Code} (hF : FR P ρ env ((AItem.code (.cond c a b) :: k).map AItem.toItem) tmps ds .run fr) (hU : UpR ρ env.dfr up cs) :
  Res P w0 B ρ env cs m (lone fr cs w) (condGo rec env a b k tmps ds up m (boolOf (evalT tmps c))) := by
 cases hb : boolOf (evalT tmps c) with
 | none => exact trivial
 | some t =>
  have hv := boolOf_some (hF.eval c) hb
  have hm : fr.mode = .run := hF.mode
  have ht : fr.todo = .code (.cond c a b) :: k.map AItem.toItem := hF.todo rfl
  refine go_on hrec h (k := .code (bif t then a else b) :: k) (hF.goto _) hU ?_
  cases t <;> simp [stepG, hm, stepG.exec, ht, hv, gor, AItem.toItem]
theorem simple_sound (hrec : Sound P w0 B rec) (h : MR w0 B ρ m w) {it : AItem} {k k' : List AItem} (hF : FR P ρ env ((it :: k).map AItem.toItem) tmps ds .run fr) (hU : UpR ρ env.dfr up cs)
  (hs : ∀ fr : Frame, fr.mode = .run → fr.todo = (it :: k).map AItem.toItem → (stepG P true (gor fr cs) w).bare = .go (gor { fr with todo := k'.map AItem.toItem } cs) w) :
  Res P w0 B ρ env cs m (lone fr cs w) (rec env k' tmps ds .run up m) :=
 go_on hrec h (hF.goto _) hU (hs fr hF.mode (hF.todo rfl))
theorem jump_sound (hrec : Sound P w0 B rec) (h : MR w0 B ρ m w) {k : List AItem} {c : Code} {o : Option (List AItem)} (hF : FR P ρ env ((AItem.code c :: k).map AItem.toItem) tmps ds .run fr) (hU : UpR ρ env.dfr up cs)
  (hc : (∃ id, c = .exit id ∧ o = Abs.exitTo id k) ∨ (∃ l, c = .goto l ∧ o = Abs.gotoIn l k)) :
  Res P w0 B ρ env cs m (lone fr cs w) (jumpTo rec env c tmps ds up m o) := by
 have hm : fr.mode = .run := hF.mode
 have ht : fr.todo = .code c :: k.map AItem.toItem := hF.todo rfl
 unfold jumpTo
 rcases hc with ⟨id, rfl, rfl⟩ | ⟨l, rfl, rfl⟩
 ·have hx := exitTo_map id k
  cases he : Abs.exitTo id k with
  | some k' =>
   rw [he] at hx
   refine go_on hrec h (hF.goto _) hU ?_
   simp [stepG, hm, stepG.exec, ht, gor, hx]
  | none =>
   rw [he] at hx
   refine leave_none hrec h hF hU ?_ ?_
   ·intro _ hj; cases hj
   ·intro b hb
    simp [stepG, hm, stepG.exec, ht, hx, hb, Sem.runT_eq]
    generalize Sem.run P (Instr.endRound b _) w = rr
    cases rr <;> rfl
 ·have hx := gotoIn_map l k
  cases he : Abs.gotoIn l k with
  | some k' =>
   rw [he] at hx
   refine go_on hrec h (hF.goto _) hU ?_
   simp [stepG, hm, stepG.exec, ht, gor, hx]
  | none =>
   rw [he] at hx
   refine leave_none hrec h hF hU ?_ ?_
   ·intro _ hj; cases hj
   ·intro b hb
    simp [stepG, hm, stepG.exec, ht, hx, hb, Sem.runT_eq]
    generalize Sem.run P (Instr.endRound b _) w = rr
    cases rr <;> rfl
theorem ret_sound (hrec : Sound P w0 B rec) (h : MR w0 B ρ m w) {k : List AItem} (hF : FR P ρ env ((AItem.code .ret :: k).map AItem.toItem) tmps ds .run fr) (hU : UpR ρ env.dfr up cs) :
  Res P w0 B ρ env cs m (lone fr cs w) (leave rec env (some .ret) tmps ds up m) := by
 have hm : fr.mode = .run := hF.mode
 have ht : fr.todo = .code .ret :: k.map AItem.toItem := hF.todo rfl
 refine leave_none hrec h hF hU ?_ ?_
 ·intro hn _
  simp [stepG, hm, stepG.exec, ht, gor, hn]
 ·intro b hb
  simp [stepG, hm, stepG.exec, ht, hb, Sem.runT_eq]
  generalize Sem.run P (Instr.endRound b _) w = rr
  cases rr <;> rfl
theorem end_sound (hrec : Sound P w0 B rec) (h : MR w0 B ρ m w) (hF : FR P ρ env [] tmps ds .run fr) (hU : UpR ρ env.dfr up cs) :
  Res P w0 B ρ env cs m (lone fr cs w) (leave rec env none tmps ds up m) := by
 have hm : fr.mode = .run := hF.mode
 have ht : fr.todo = [] := hF.todo rfl
 refine leave_none hrec h hF hU ?_ ?_
 ·intro hn _
  simp [stepG, hm, stepG.exec, ht, gor, hn]
 ·intro b hb
  simp [stepG, hm, stepG.exec, ht, hb, Sem.runT_eq]
  generalize Sem.run P (Instr.endRound b _) w = rr
  cases rr <;> rfl
theorem begin_sound (hrec : Sound P w0 B rec) (h : MR w0 B ρ m w) {k : List AItem} {l : Nat} (hl : env.roundOf = some l) (hF : FR P ρ env ((AItem.beginRound :: k).map AItem.toItem) tmps ds .run fr) (hU : UpR ρ env.dfr up cs) :
  Res P w0 B ρ env cs m (lone fr cs w) (beginR rec env k tmps ds up m l (m.heap.get l)) := by
 have hm : fr.mode = .run := hF.mode
 have ht : fr.todo = .beginRound :: k.map AItem.toItem := hF.todo rfl
 have hro := hF.round
 rw [hl] at hro
 obtain ⟨b, hb, hp⟩ := hro
 unfold beginR
 split
 case h_2 => exact trivial
 rename_i st pe fn nt tm ps a bd d ho
 split
 case h_2 => exact trivial
 obtain ⟨hB, hpo, x, hw, hL⟩ := h.loop ho hp
 have hgl := run_getLoop (P := P) (b := b) hw
 have hso : ∀ o', (Go.setObj b o').run P w = .ok () (setBlk w b o') := fun o' => run_setObj hw (fun _ _ _ e => by cases e)
 have hst : x.state = .ready := hL.state
 have hrun : (Instr.beginRound b).run P w = .ok () (setBlk w b (.loop { x with state := .busy })) := by
  unfold Instr.beginRound
  simp only [run_bind, hgl, hso, hst, run_pure]
 have h' : MR w0 B ρ (m.put l (.loop ⟨.busy, pe, fn, nt, tm, ps, a, bd, d⟩)) (setBlk w b (.loop { x with state := .busy })) :=
  h.put ho hp (fun _ _ _ _ e => by cases e) (fun _ e => by cases e) (fun _ _ _ _ e => by cases e) hB ⟨hB, hpo, _, rfl, { hL with state := rfl }⟩
 refine Res.later (Rho.le.refl ρ) Keeps.put_new (SameCs.refl _ _) (Res.steps (.one (step_lone_go (fr' := { fr with todo := k.map AItem.toItem }) ?_)) (hrec env k tmps ds .run up _ ρ _ { fr with todo := k.map AItem.toItem } cs h' (hF.goto _) hU))
 simp [stepG, hm, stepG.exec, stepG.apply, ht, hb, Sem.runT_eq, hrun, Result.andThen, Frame.finish]
end
open Go.RowKit (Below)
section
variable {P : Program} {w0 : Wo} {B : Nat} {ρ : Rho} {m : Mem} {w : World} {env : Env} {fr : Frame} {cs : List Frame} {tmps : T AVal} {ds : List ADef} {up : Chain} {rec : Run} {fl : Fl}
def NamesOK (P : Program) : Prop := ∀ (f : Nat) (fn : Func), P.funcs[f]? = some fn → fn.body.isSome = true → (fn.name == "runtime.NumGoroutine") = false
theorem run_callFunc (hn : NamesOK P) {f : FuncId} {fn : Func} {c : Code} (hf : P.funcs[f]? = some fn) (hb : fn.body = some c) (xs : Array Value) (w : World) : (callFunc f xs).run P w = .ok (.enter f xs) w := by
 have h1 := hn f fn hf (by rw [hb]; rfl)
 unfold callFunc
 rw [run_bind]
 simp only [program, Sem.run, hf]
 simp only [h1, hb, Option.isNone_some, Bool.false_eq_true, if_false]
 rfl
theorem argsT_nil (i : Nat) (t : T AVal) : argsT [] i t = t := rfl
theorem argsT_cons (v : AVal) (vs : List AVal) (i : Nat) (t : T AVal) : argsT (v :: vs) i t = argsT vs (i + 1) (t.set i v) := rfl
theorem getT_argsT : ∀ (vs : List AVal) (i : Nat) (t : T AVal) (j : Nat), getT (argsT vs i t) j = if i ≤ j then (match vs[j - i]? with | some v => v | none => getT t j) else getT t j
 | [], i, t, j => by rw [argsT_nil]; simp
 | v :: vs, i, t, j => by
  rw [argsT_cons, getT_argsT vs (i + 1) (t.set i v) j]
  by_cases h1 : i + 1 ≤ j
  ·rw [if_pos h1, if_pos (by omega)]
   have : j - i = (j - (i + 1)) + 1 := by omega
   rw [this, List.getElem?_cons_succ, getT_set, if_neg (by omega)]
  ·rw [if_neg h1, getT_set]
   by_cases h2 : i = j
   ·subst h2; rw [if_pos rfl, if_pos (Nat.le_refl _)]; simp
   ·rw [if_neg h2, if_neg (by omega)]
theorem enter_FR {f : FuncId} {fn : Func} {c : Code} (hf : P.funcs[f]? = some fn) (hb : fn.body = some c) {args : List AVal} {xs : Array Value} (hl : RL ρ args xs.toList) (hs : args.length ≤ fn.ntmps) (dfr : Bool) :
  FR P ρ ⟨f, fn.ntmps, dfr, none⟩ ([AItem.code c].map AItem.toItem) (argsT args 0 .e) [] .run (Frame.enter P f xs (kindOf dfr)) := by
 have hlen := hl.length
 simp only [Array.length_toList] at hlen
 refine ⟨rfl, ?_, ?_, ?_, rfl, rfl, rfl, rfl, ⟨fn, hf⟩, fun e => by cases e⟩
 ·simp only [Frame.enter, hf, Option.map_some, Option.getD_some, Array.size_append, Array.size_replicate]
  omega
 ·intro j
  rw [getT_argsT]
  simp only [Frame.enter, hf, Option.map_some, Option.getD_some, Nat.zero_le, if_true, Nat.sub_zero]
  cases hj : args[j]? with
  | some v =>
   obtain ⟨y, hy, hR⟩ := hl.get hj
   have hlt := (List.getElem?_eq_some_iff.1 hy).1
   simp only [Array.length_toList] at hlt
   rw [Array.getD_eq_getD_getElem?, Array.getElem?_append_left hlt]
   have : xs[j]? = some y := by simpa using hy
   rw [this]
   exact hR
  | none =>
   dsimp only
   have : getT (.e : T AVal) j = .poison := by unfold getT; rw [T.get_e]
   rw [this]
   simp [R]
 ·intro _
  simp [Frame.enter, hf, hb, AItem.toItem]
theorem callBody0_sound (hrec : Sound P w0 B rec) (h : MR w0 B ρ m w) {f : FuncId} {args : List AVal} {xs : Array Value} (hl : RL ρ args xs.toList) (dfr : Bool) {cs : List Frame} {up : Chain} (hU : UpR ρ dfr up cs) :
  (∃ why, callBody0 rec dfr f args up m P.funcs[f]? = .bad why) ∨
  (∃ fn c, P.funcs[f]? = some fn ∧ fn.body = some c ∧ Res P w0 B ρ ⟨f, fn.ntmps, dfr, none⟩ cs m (lone (Frame.enter P f xs (kindOf dfr)) cs w) (callBody0 rec dfr f args up m P.funcs[f]?)) := by
 unfold callBody0
 split
 ·rename_i fn hf
  cases hs : (lenL args).ble fn.ntmps with
  | false => exact .inl ⟨_, rfl⟩
  | true =>
   rw [nat_ble, lenL_eq] at hs
   rw [cond_true]
   split
   ·rename_i c hb
    exact .inr ⟨fn, c, hf, hb, hrec _ _ _ _ _ _ _ _ _ _ _ h (enter_FR hf hb hl hs dfr) hU⟩
   ·exact .inl ⟨_, rfl⟩
 ·exact .inl ⟨_, rfl⟩
theorem MR.watched (h : MR w0 B ρ m w) : MR w0 B ρ (watched m) w := by
 obtain ⟨hp, n, fs, lo, d⟩ := m
 exact ⟨h.obj, h.inj, h.dom, h.hdom, h.famlt, h.rowfam, h.fam, h.lone, h.below, h.base, h.ban, h.glob⟩
theorem finish_region {ops : Array Oper} {i : Nat} {rest : List Nat} {k : List Item} {o : Oper} (ht : fr.todo = .inRegion ops (i :: rest) :: k) (ho : ops[i]? = some o) (x : Value) :
  fr.finish x = { fr with tmps := (match o.dst with | some d => fr.tmps.setIfInBounds d x | none => fr.tmps), todo := .inRegion ops rest :: k } := by
 simp only [Frame.finish, ht, ho, Option.bind_some]
 cases o.dst <;> rfl
theorem FR.finish {ops : Array Oper} {i : Nat} {rest : List Nat} {k : List Item} {o : Oper} (hF : FR P ρ env (.inRegion ops (i :: rest) :: k) tmps ds .run fr) (ho : ops[i]? = some o)
  {ρ' : Rho} (hle : ρ.le ρ') {v : AVal} {x : Value} (hv : R ρ' v x) : FR P ρ' env (.inRegion ops rest :: k) (setDst env.nt tmps v o.dst) ds .run (fr.finish x) := by
 rw [finish_region (hF.todo rfl) ho]
 refine ⟨hF.fn, ?_, ?_, fun _ => rfl, hF.ds.mono hle, hF.mode, hF.kind, hF.round.mono hle, hF.func, hF.norm⟩
 ·cases o.dst with
  | none => exact hF.size
  | some d => simpa using hF.size
 ·cases o.dst with
  | none => exact hF.tmps.mono hle
  | some d => exact (hF.tmps.mono hle).set hF.size d hv
theorem FR.mono {its : List Item} {mo : AMode} (hF : FR P ρ env its tmps ds mo fr) {ρ' : Rho} (hle : ρ.le ρ') : FR P ρ' env its tmps ds mo fr :=
 ⟨hF.fn, hF.size, hF.tmps.mono hle, hF.todo, hF.ds.mono hle, hF.mode.mono hle, hF.kind, hF.round.mono hle, hF.func, hF.norm⟩
theorem FR.raise {its : List Item} (hF : FR P ρ env its tmps ds .run fr) {ρ' : Rho} (hle : ρ.le ρ') {c : Chain} {ch : List PanicEntry} (hc : ChR ρ' c ch) : FR P ρ' env [] tmps ds (.panicking c) (fr.raise ch) := by
 have hm : fr.mode = .run := hF.mode
 have : fr.raise ch = { fr with mode := .panicking ch } := by simp [Frame.raise, hm]
 rw [this]
 exact ⟨hF.fn, hF.size, hF.tmps.mono hle, fun e => (by cases e), hF.ds.mono hle, ⟨ch, rfl, hc⟩, hF.kind, hF.round.mono hle, hF.func, hF.norm⟩
theorem stepG_oper {ops : Array Oper} {i : Nat} {rest : List Nat} {k : List Item} {o : Oper} (hm : fr.mode = .run) (ht : fr.todo = .inRegion ops (i :: rest) :: k) (ho : ops[i]? = some o)
  (hw : Region.wanted o (yielded ops fr.tmps) = true) (hd : (∀ c, o.op ≠ .defer c) ∨ fr.roundOf = none) :
  stepG P true (gor fr cs) w = stepG.apply P true fr cs none (execOp fr.eval o) w := by
 simp only [stepG, hm, stepG.exec, ht, stepG.oper, Frame.oper?, ho, hw, Option.map_some, Option.getD_some, if_true]
 rcases hd with hd | hd
 ·cases fr.roundOf <;> cases hop : o.op <;> first | rfl | exact absurd hop (hd _)
 ·rw [hd]
theorem apply_value {s : Sem Next} {x : Value} {w' : World} (hr : s.run P w = .ok (.value x) w') : (stepG.apply P true fr cs none s w).bare = .go (gor (fr.finish x) cs) w' := by
 simp [stepG.apply, Sem.runT_eq, hr]
theorem apply_skip {s : Sem Next} {w' : World} (hr : s.run P w = .ok .skip w') : (stepG.apply P true fr cs none s w).bare = .go (gor (fr.finish undef) cs) w' := by
 simp [stepG.apply, Sem.runT_eq, hr]
theorem apply_panic {s : Sem Next} {x : Value} {w' : World} (hr : s.run P w = .halt (.panic x) w') : (stepG.apply P true fr cs none s w).bare = .go (gor (fr.raise [{ v := x, recovered := false }]) cs) w' := by
 simp [stepG.apply, Sem.runT_eq, hr]
theorem apply_enter {s : Sem Next} {f : FuncId} {xs : Array Value} {w' : World} (hr : s.run P w = .ok (.enter f xs) w') (hc : ∀ d x y z k, fr.todo ≠ .call d x y z :: k) :
  (stepG.apply P true fr cs none s w).bare = .go (gor (Frame.enter P f xs .normal) (fr :: cs)) w' := by
 simp only [stepG.apply, Sem.runT_eq, hr, if_true, GStep.bare_after, GStep.bare_go]
 split
 ·rename_i hh; exact absurd hh (hc _ _ _ _ _)
 ·rfl
theorem apply_round {s : Sem Next} {l : Nat} {f : FuncId} {ts : Array Value} {a b : Code} {w' : World} (hr : s.run P w = .ok (.round l f ts a b) w') :
  (stepG.apply P true fr cs none s w).bare = .go (gor (Frame.round l f ts a b .normal) (fr :: cs)) w' := by
 simp [stepG.apply, Sem.runT_eq, hr]
theorem apply_defer {s : Sem Next} {d : Deferred} {w' : World} (hr : s.run P w = .ok (.defer d) w') : (stepG.apply P true fr cs none s w).bare = .go (gor ({ fr with defers := d :: fr.defers }.finish undef) cs) w' := by
 simp [stepG.apply, Sem.runT_eq, hr]
theorem back_normal {fr' c : Frame} {rest : List Frame} {x : Value} {w1 w' : World} (hk : fr'.kind = .normal) (hs : (stepG P true (gor fr' (c :: rest)) w1).bare = (doReturn P true fr' (c :: rest) none x w').bare) :
  step P (lone fr' (c :: rest) w1) = .next (lone (c.finish x) rest w') := by
 refine step_lone_go ?_
 rw [hs]
 simp [doReturn, hk]
theorem back_panic {fr' c : Frame} {rest : List Frame} {ch : List PanicEntry} {w' : World} (hm : fr'.mode = .panicking ch) (hd : fr'.defers = []) (hf : ∃ f, P.funcs[fr'.fn]? = some f) :
  step P (lone fr' (c :: rest) w') = .next (lone (c.raise ch) rest w') := by
 obtain ⟨f, hf⟩ := hf
 exact step_lone_go (by simp [stepG, unwind, Frame.catches, hm, hd, hf])
theorem got_sound {wb : Wo} {ρb : Rho} {csb : List Frame} {mb : Mem} {env' : Env} (hdf : env'.dfr = false) {cont : AVal → Mem → RR} {panicked : Chain → Mem → RR} {M : Machine}
  (hcont : ∀ ρ' v x m' w', ρ.le ρ' → MR w0 B ρ' m' w' → R ρ' v x → Keeps m m' → Res P wb B ρb env csb mb (lone (fr.finish x) cs w') (cont v m'))
  (hpan : ∀ ρ' c ch m' w', ρ.le ρ' → MR w0 B ρ' m' w' → ChR ρ' c ch → Keeps m m' → Res P wb B ρb env csb mb (lone (fr.raise ch) cs w') (panicked c m')) :
  ∀ {r : RR}, Res P w0 B ρ env' (fr :: cs) m M r → Res P wb B ρb env csb mb M (RR.rec (fun v _ m => cont v m) (fun c _ m => panicked c m) (fun w => .bad w) (fun _ _ a b => .alt a b) r) := by
 intro r
 induction r with
 | ret v up' m' =>
  rintro ⟨hk, ρ', w1, w', fr', cs', x, h1, h2, h3, h4, h5, h6, h7, h8, h9⟩
  have hcs := h5.1 hdf
  subst hcs
  refine Res.steps (h1.trans (.one (back_normal (by rw [h7, hdf]; rfl) h8))) ?_
  exact hcont ρ' v x m' w' h2 h3 h4 hk
 | panicked c up' m' =>
  rintro ⟨hk, ρ', w', fr', cs', ch, h1, h2, h3, h4, h5, h6, h7, h8, h9, h10⟩
  have hcs := h5.1 hdf
  subst hcs
  refine Res.steps (h1.trans (.one (back_panic h7 h8 (by rw [h9]; exact h10)))) ?_
  exact hpan ρ' c ch m' w' h2 h3 h4 hk
 | bad _ => exact fun _ => trivial
 | alt a b iha ihb =>
  intro h
  rcases h with h | h
  ·exact .inl (iha h)
  ·exact .inr (ihb h)
end
theorem T.getB_mapT {α : Type} (g : α → α) : ∀ (p : List D4) (t : T α), (t.mapT g).getB p = (t.getB p).map g
 | [], .e => rfl
 | [], .n a b c d v => rfl
 | x :: p, .e => rfl
 | x :: p, .n a b c d v => by
  show (T.n (a.mapT g) (b.mapT g) (c.mapT g) (d.mapT g) (v.map g)).getB (x :: p) = _
  rw [T.getB_n_cons, T.getB_n_cons]
  cases x
  ·exact T.getB_mapT g p a
  ·exact T.getB_mapT g p b
  ·exact T.getB_mapT g p c
  ·exact T.getB_mapT g p d
theorem T.get_mapT {α : Type} (g : α → α) (t : T α) (k : Nat) : (t.mapT g).get k = (t.get k).map g := T.getB_mapT g _ t
theorem frz_get (m : Mem) (r : Nat) : (frz m).heap.get r = (m.heap.get r).map (frzO m.fams) := by
 obtain ⟨h, n, fs, lo, d, g⟩ := m
 exact T.get_mapT _ _ _
theorem frz_next (m : Mem) : (frz m).next = m.next := by obtain ⟨h, n, fs, lo, d, g⟩ := m; rfl
theorem frz_fams (m : Mem) : (frz m).fams = m.fams := by obtain ⟨h, n, fs, lo, d, g⟩ := m; rfl
theorem frz_gl (m : Mem) : (frz m).gl = m.gl := by obtain ⟨h, n, fs, lo, d, g⟩ := m; rfl
theorem frzO_cases (fams : T (List Nat)) (o : AObj) : frzO fams o = o ∨ ∃ e cs f p, o = .row e cs f p ∧ fams.get f = none ∧ frzO fams o = .ro cs := by
 cases o with
 | row e cs f p =>
  cases h : fams.get f with
  | none => exact .inr ⟨e, cs, f, p, rfl, h, by show (bif (fams.get f).isNone then _ else _) = _; rw [h]; rfl⟩
  | some l => exact .inl (by show (bif (fams.get f).isNone then _ else _) = _; rw [h]; rfl)
 | _ => exact .inl rfl
theorem frzO_row {fams : T (List Nat)} {o : AObj} {e : Elem} {cs : List AVal} {f p : Nat} (h : frzO fams o = .row e cs f p) : o = .row e cs f p := by
 rcases frzO_cases fams o with h1 | ⟨e1, cs1, f1, p1, rfl, h2, h3⟩
 ·rw [← h1, h]
 ·rw [h] at h3; cases h3
theorem MR.frz {w0 : Wo} {B : Nat} {ρ : Rho} {m : Mem} {w : World} (h : MR w0 B ρ m w) : MR w0 B ρ (frz m) w := by
 have hg : ∀ {r o}, (Abs.frz m).heap.get r = some o → ∃ o0, m.heap.get r = some o0 ∧ o = frzO m.fams o0 := by
  intro r o e
  rw [frz_get] at e
  cases h1 : m.heap.get r with
  | none => rw [h1] at e; cases e
  | some o0 => rw [h1] at e; exact ⟨o0, rfl, (Option.some.inj e).symm⟩
 refine ⟨?_, ?_, ?_, ?_, ?_, ?_, ?_, ?_, h.below, h.base, ?_, ?_⟩
 ·intro r o p e hp
  obtain ⟨o0, h0, rfl⟩ := hg e
  have := h.obj r o0 p h0 hp
  rcases frzO_cases m.fams o0 with h1 | ⟨e1, cs1, f1, p1, rfl, h2, h3⟩
  ·rw [h1]; exact this
  ·rw [h3]
   obtain ⟨_, _, cs, lo, hi, h4, _, h5, _⟩ := this
   exact ⟨trivial, cs, _, _, h4, h5⟩
 ·intro r r' o o' p p' hne e e' hp hp' hb
  obtain ⟨o0, h0, rfl⟩ := hg e
  obtain ⟨o1, h1, rfl⟩ := hg e'
  have hk := h.inj r r' o0 o1 p p' hne h0 h1 hp hp' hb
  have key : ∀ {q q' : Nat} {e cs f a} {x : AObj} {s s' : Nat}, m.heap.get q = some (.row e cs f a) → m.fams.get f = none → q ≠ q' → m.heap.get q' = some x → Kin2 (.row e cs f a) x s s' → False := by
   intro q q' e cs f a x s s' hq hf hn hx hk
   cases x with
   | row e' cs' f' a' =>
    obtain ⟨rfl, _⟩ := hk
    exact hn (h.lone _ _ _ _ _ _ _ _ _ hq hx hf)
   | _ => exact hk
  rcases frzO_cases m.fams o0 with h2 | ⟨e1, cs1, f1, p1, rfl, h3, h4⟩
  ·rcases frzO_cases m.fams o1 with h5 | ⟨e1, cs1, f1, p1, rfl, h6, h7⟩
   ·rw [h2, h5]; exact hk
   ·exfalso
    cases o0 with
    | row e0 cs0 f0 p0 =>
     obtain ⟨rfl, _⟩ := hk
     exact hne (h.lone _ _ _ _ _ _ _ _ _ h0 h1 h6)
    | _ => exact hk
  ·exact (key h0 h3 hne h1 hk).elim
 ·intro r hr; rw [frz_next] at hr; exact h.dom r hr
 ·intro r hr; rw [frz_next] at hr; rw [frz_get, h.hdom r hr]; rfl
 ·intro f l e; rw [frz_fams] at e; rw [frz_next]; exact h.famlt f l e
 ·intro r e cs f p hr
  obtain ⟨o0, h0, he⟩ := hg hr
  rw [frz_next]; exact h.rowfam r e cs f p (by rw [h0, frzO_row he.symm])
 ·intro r e cs f p l hr hl
  obtain ⟨o0, h0, he⟩ := hg hr
  rw [frz_fams] at hl
  exact h.fam r e cs f p l (by rw [h0, frzO_row he.symm]) hl
 ·intro r r' e e' cs cs' f p p' hr hr' hf
  obtain ⟨o0, h0, he⟩ := hg hr
  obtain ⟨o1, h1, he'⟩ := hg hr'
  rw [frz_fams] at hf
  exact h.lone r r' e e' cs cs' f p p' (by rw [h0, frzO_row he.symm]) (by rw [h1, frzO_row he'.symm]) hf
 ·intro r hr; rw [frz_next]; exact h.ban r hr
 ·intro g r hgr; rw [frz_gl] at hgr; exact h.glob g r hgr
theorem Keeps.frz (m : Mem) : Keeps m (Abs.frz m) := by
 obtain ⟨h, n, fs, lo, d, g⟩ := m
 exact ⟨rfl, Nat.le_refl _, fun e => absurd (show true = false from e) (by decide), fun _ e => absurd (show true = false from e) (by decide)⟩
theorem MR.zIn {w0 : Wo} {B : Nat} {ρ : Rho} {m : Mem} {w : World} (h : MR w0 B ρ m w) (fl : Fl) (f : FuncId) : MR w0 B ρ (zIn fl f m) w := by
 unfold Abs.zIn
 cases hasN fl.l (f.add 1000000) with
 | false => exact h
 | true => exact h.frz
theorem Keeps.zIn (fl : Fl) (f : FuncId) (m : Mem) : Keeps m (zIn fl f m) := by
 unfold Abs.zIn
 cases hasN fl.l (f.add 1000000) with
 | false => exact Keeps.refl m
 | true => exact Keeps.frz m
def OutK (m : Mem) : Out → Prop
 | .val _ m' => Keeps m m'
 | .panic _ m' => Keeps m m'
 | .enter _ _ m' => m' = m
 | .round _ _ _ _ _ _ m' => m' = m
 | _ => True
class KO (m : Mem) (o : Out) : Prop where
 h : OutK m o
theorem k0 {p : Prop} (h : p := by
 try simp only [Bool.cond_eq_ite]
 repeat' split
 all_goals first
  | exact trivial
  | exact Keeps.refl _
  | exact Keeps.new
  | exact Keeps.put_new
  | exact rfl
  | exact KO.h
  | (rename_i hst; exact K_storeCells hst)) : p := h
section
variable {m : Mem}
instance K_outOf (why : String) (e : Except (Option Value) Value) : KO m (outOf m why e) := ⟨by unfold outOf; exact k0⟩
instance K_pureOp (P : Program) (s : Sem Value) (why : String) : KO m (pureOp P s m why) := ⟨(K_outOf _ _).h⟩
instance K_lits1 (P : Program) (f : Value → Sem Value) (o : Option Value) : KO m (lits1 P m f o) := ⟨by unfold lits1; exact k0⟩
instance K_lits2 (P : Program) (f : Value → Value → Sem Value) (o q : Option Value) : KO m (lits2 P m f o q) := ⟨by unfold lits2; exact k0⟩
instance K_litsOp (P : Program) (f : Array Value → Sem Value) (why : String) (o : Option (List Value)) : KO m (litsOp P m f why o) := ⟨by unfold litsOp; exact k0⟩
theorem K_poisonRow (r p n : Nat) : Keeps m (poisonRow m r p n) := by
 unfold poisonRow poisonAt
 try simp only [Bool.cond_eq_ite]
 repeat' split
 all_goals first
  | exact Keeps.refl _
  | exact Keeps.put_new
theorem K_poisonRows (but p n : Nat) : ∀ (rs : List Nat) (m : Mem), Keeps m (poisonRows rs but p n m) := by
 intro rs
 induction rs with
 | nil => intro m; exact Keeps.refl _
 | cons q rs ih =>
  intro m
  rw [poisonRows_cons]
  cases q.beq but with
  | true => exact ih m
  | false => exact (K_poisonRow q p n).trans (ih _)
theorem K_addFam (f : Nat) (l : List Nat) : Keeps m (addFam f l m) := by
 obtain ⟨h, n, fs, lo, d⟩ := m
 exact ⟨rfl, Nat.le_refl _, fun e => e, fun _ _ _ _ => rfl⟩
theorem K_spoil (r p n : Nat) (l : Option (List Nat)) : Keeps m (spoil r p n m l) := by
 cases l with
 | none => exact Keeps.refl _
 | some l => exact K_poisonRows _ _ _ _ _
theorem K_storeCells {r off : Nat} {vs : List AVal} {m' : Mem} (e : Abs.storeCells m r off vs = some m') : Keeps m m' := by
 unfold Abs.storeCells at e
 split at e
 ·cases ha : allCells vs with
  | false => rw [ha] at e; cases e
  | true =>
   rw [ha, cond_true] at e
   unfold storeIn at e
   split at e
   ·cases e
   ·cases e
    exact Keeps.put_new.trans (K_spoil _ _ _ _)
 ·cases e
instance K_appGrow (elem : TypeId) (r off n k size : Nat) (cs : List AVal) (o : Option AObj) (q : Option (List AVal)) : KO m (appGrow m elem r off n k size cs o q) := .mk <| by
 unfold appGrow
 try simp only [Bool.cond_eq_ite]
 repeat' split
 all_goals first
  | exact trivial
  | exact ((K_poisonRows _ _ _ _ _).trans (K_addFam _ _)).trans Keeps.new
instance K_appCopy (elem : TypeId) (n k size : Nat) (cs : List AVal) (o : Option (List AVal)) : KO m (appCopy m elem n k size cs o) := ⟨by unfold appCopy; exact k0⟩
instance K_appAt (elem : TypeId) (size r off n c k : Nat) (ex : Bool) (cs : List AVal) : KO m (appAt m elem size r off n c k ex cs) := ⟨by unfold appAt; exact k0⟩
instance K_appNil (elem : TypeId) (size : Nat) (cs : List AVal) (k : Nat) : KO m (appNil m elem size cs k) := ⟨by unfold appNil; exact k0⟩
instance K_appWith (elem : TypeId) (size : Nat) (s : AVal) (o : Option (List AVal × Nat)) : KO m (appWith m elem size s o) := ⟨by unfold appWith; exact k0⟩
instance K_appendOp (P : Program) (s x : AVal) (o : Option (TypeId × Nat)) : KO m (appendOp P m s x o) := ⟨by unfold appendOp; exact k0⟩
instance K_lenMap (o : Option AObj) : KO m (lenMap m o) := ⟨by unfold lenMap; exact k0⟩
instance K_lenStr (x : AVal) : KO m (lenStr m x) := ⟨by unfold lenStr; exact k0⟩
instance K_lenSl (x : AVal) : KO m (lenSl m x) := ⟨by unfold lenSl; exact k0⟩
instance K_lenMp (x : AVal) : KO m (lenMp m x) := ⟨by unfold lenMp; exact k0⟩
instance K_lenD (x : AVal) (o : Option TypeDesc) : KO m (lenD m x o) := ⟨by unfold lenD; exact k0⟩
instance K_lenOp (P : Program) (x : AVal) (o : Option TypeId) : KO m (lenOp P m x o) := ⟨by unfold lenOp; exact k0⟩
instance K_copyTo (n : Nat) (d : AVal) (o : Option (List AVal)) : KO m (copyTo m n d o) := ⟨by unfold copyTo; exact k0⟩
instance K_copyN (size : Nat) (d x : AVal) (o : Option Nat) : KO m (copyN m size d x o) := ⟨by unfold copyN; exact k0⟩
instance K_copyOp (d x : AVal) (o : Option (TypeId × Nat)) : KO m (copyOp m d x o) := ⟨by unfold copyOp; exact k0⟩
instance K_delAt (r : Nat) (es : List AEnt) (clock : Nat) (o : Option (Option Nat)) : KO m (delAt m r es clock o) := ⟨by unfold delAt; exact k0⟩
instance K_delOp (P : Program) (r : Nat) (o : Option AObj) (k : Option Value) (t : Option (TypeId × TypeId)) : KO m (delOp P m r o k t) := ⟨by unfold delOp; exact k0⟩
instance K_deleteOp (P : Program) (kt : Option (TypeId × TypeId)) (k x : AVal) : KO m (deleteOp P m kt k x) := ⟨by unfold deleteOp; exact k0⟩
instance K_capSl (x : AVal) : KO m (capSl m x) := ⟨by unfold capSl; exact k0⟩
instance K_capD (x : AVal) (o : Option TypeDesc) : KO m (capD m x o) := ⟨by unfold capD; exact k0⟩
instance K_capOp (P : Program) (x : AVal) (o : Option TypeId) : KO m (capOp P m x o) := ⟨by unfold capOp; exact k0⟩
instance K_appZero (e : TypeId) (size k : Nat) (o : Option (List AVal)) : KO m (appZero m e size k o) := ⟨by unfold appZero; exact k0⟩
instance K_appMake (P : Program) (s : AVal) (a : Option Nat) (b : Bool) (o : Option (TypeId × Nat)) : KO m (appMake P m s a b o) := ⟨by unfold appMake; exact k0⟩
instance K_clearWith (n size r off : Nat) (o : Option (List AVal)) : KO m (clearWith m n size r off o) := ⟨by unfold clearWith; exact k0⟩
instance K_clearOp (P : Program) (x : AVal) (o : Option (TypeId × Nat)) : KO m (clearOp P m x o) := ⟨by unfold clearOp; exact k0⟩
instance K_builtin1 (P : Program) (b : Builtin) (ats : Array TypeId) (x : AVal) : KO m (builtin1 P b ats x m) := ⟨by unfold builtin1; exact k0⟩
instance K_builtin2 (P : Program) (b : Builtin) (ats : Array TypeId) (x y : AVal) : KO m (builtin2 P b ats x y m) := ⟨by unfold builtin2; exact k0⟩
instance K_builtinOp (P : Program) (b : Builtin) (ats : Array TypeId) (args : List AVal) : KO m (builtinOp P b ats args m) := ⟨by unfold builtinOp; exact k0⟩
instance K_calledM (args : List AVal) (o : Option (FuncId × AVal)) : KO m (calledM args m o) := ⟨by unfold calledM; exact k0⟩
instance K_methodCall (P : Program) (name : String) (args : List AVal) (x : AVal) : KO m (methodCall P name args m x) := ⟨by unfold methodCall; exact k0⟩
instance K_yieldOp (l : Nat) (args : List AVal) : KO m (yieldOp m l args) := ⟨by unfold yieldOp; exact k0⟩
instance K_viaCall (P : Program) (f : FuncId) (pr : Bool) (rest : List AVal) (o : Option (TypeId × AVal)) : KO m (viaCall P f pr rest m o) := ⟨by unfold viaCall; exact k0⟩
instance K_fnCall (P : Program) (cap args : List AVal) (fn : Fn) : KO m (fnCall P cap args m fn) := ⟨by unfold fnCall; exact k0⟩
instance K_callTarget (P : Program) (cap args : List AVal) (t : Target) : KO m (callTarget P cap args m t) := ⟨by unfold callTarget; exact k0⟩
instance K_callD (P : Program) (o : Option ADef) : KO m (callD P m o) := ⟨by unfold callD; exact k0⟩
instance K_eqPtr (neq : Bool) (r o q p : Nat) (x : Option Nat) : KO m (eqPtr neq m r o q p x) := ⟨by unfold eqPtr; exact k0⟩
instance K_eqNil (neq : Bool) (k : Nat) (d : Option TypeDesc) : KO m (eqNil neq m k d) := ⟨by unfold eqNil; exact k0⟩
instance K_eqOp (P : Program) (op : BinOp) (neq : Bool) (t : TypeId) (ox oy : Operand) (a b : AVal) : KO m (eqOp P op neq t ox oy a b m) := ⟨by unfold eqOp; exact k0⟩
instance K_binOpA (P : Program) (op : BinOp) (t : TypeId) (ox oy : Operand) (a b : AVal) : KO m (binOpA P op t ox oy a b m) := ⟨by unfold binOpA; exact k0⟩
instance K_sliceOpen (r off n c size : Nat) (o : Option AObj) : KO m (sliceOpen m r off n c size o) := ⟨by unfold sliceOpen; exact k0⟩
instance K_sliceAt (r off c size : Nat) (ex ex' : Bool) (a b d : Option Nat) : KO m (sliceAt m r off c size ex ex' a b d) := ⟨by unfold sliceAt; exact k0⟩
instance K_sliceStr (s : ByteArray) (a b : Option Nat) : KO m (sliceStr m s a b) := ⟨by unfold sliceStr; exact k0⟩
instance K_sliceNil (P : Program) (t : TypeId) (a b c : Option Nat) : KO m (sliceNil P t m a b c) := ⟨by unfold sliceNil; exact k0⟩
instance K_sliceArr (P : Program) (r off : Nat) (lo hi mx : Option AVal) (d : Option TypeDesc) : KO m (sliceArr P m r off lo hi mx d) := ⟨by unfold sliceArr; exact k0⟩
instance K_sliceGo (P : Program) (t : TypeId) (lo hi mx : Option AVal) (v : AVal) : KO m (sliceGo P t lo hi mx m v) := ⟨by unfold sliceGo; exact k0⟩
instance K_sliceOp (P : Program) (t : TypeId) (lo hi mx : Option AVal) (v : AVal) : KO m (sliceOp P t lo hi mx m v) := ⟨by unfold sliceOp; exact k0⟩
instance K_ixAt (P : Program) (r off size n : Nat) (i : Int) : KO m (ixAt P m r off size n i) := ⟨by unfold ixAt; exact k0⟩
instance K_ixLit (P : Program) (g off : Nat) (i : Int) (d : Option TypeDesc) : KO m (ixLit P m g off i d) := .mk <| by
 unfold ixLit
 try simp only [Bool.cond_eq_ite]
 repeat' split
 all_goals first
  | exact trivial
  | exact Keeps.refl _
instance K_indexAddr (P : Program) (t : TypeId) (i : Int) (x : AVal) : KO m (indexAddr P t m i x) := ⟨by unfold indexAddr; exact k0⟩
instance K_ixStr (P : Program) (s : ByteArray) (i : Int) : KO m (ixStr P m s i) := ⟨by unfold ixStr; exact k0⟩
instance K_ixPart (P : Program) (v : AVal) (e : TypeId) (j : Nat) (o : Option Nat) : KO m (ixPart P m v e j o) := ⟨by unfold ixPart; exact k0⟩
instance K_ixArr (P : Program) (v : AVal) (i : Int) (d : Option TypeDesc) : KO m (ixArr P m v i d) := ⟨by unfold ixArr; exact k0⟩
instance K_indexOp (P : Program) (t : TypeId) (i : Int) (x : AVal) : KO m (indexOp P t m i x) := ⟨by unfold indexOp; exact k0⟩
instance K_taFails (P : Program) (asserted : TypeId) (ok : Bool) : KO m (taFails P asserted ok m) := ⟨by unfold taFails; exact k0⟩
instance K_taWith (P : Program) (asserted : TypeId) (ok : Bool) (x v : AVal) (o : Option Bool) : KO m (taWith P asserted ok x v m o) := ⟨by unfold taWith; exact k0⟩
instance K_typeAssert (P : Program) (asserted : TypeId) (ok : Bool) (x : AVal) : KO m (typeAssert P asserted ok m x) := ⟨by unfold typeAssert; exact k0⟩
instance K_buildWith (o : Option (List AVal)) : KO m (buildWith m o) := ⟨by unfold buildWith; exact k0⟩
instance K_buildPl (parts : List (Nat × AVal)) (z : List AVal) (o : Option (List (Nat × Nat))) : KO m (buildPl parts m z o) := ⟨by unfold buildPl; exact k0⟩
instance K_buildArr (parts : List (Nat × AVal)) (z : List AVal) (o : Option Nat) : KO m (buildArr parts m z o) := ⟨by unfold buildArr; exact k0⟩
instance K_buildIn (P : Program) (parts : List (Nat × AVal)) (z : List AVal) (o : Option TypeDesc) : KO m (buildIn P parts m z o) := ⟨by unfold buildIn; exact k0⟩
instance K_buildOp (P : Program) (t : TypeId) (parts : List (Nat × AVal)) (o : Option (List AVal)) : KO m (buildOp P t parts m o) := ⟨by unfold buildOp; exact k0⟩
instance K_bsWith (e : Elem) (len : Nat) (o : Option (List AVal)) : KO m (bsWith m e len o) := ⟨by unfold bsWith; exact k0⟩
instance K_buildSlice (P : Program) (len : Nat) (parts : List (Nat × AVal)) (o : Option (TypeId × Nat)) : KO m (buildSlice P len parts m o) := ⟨by unfold buildSlice; exact k0⟩
instance K_allocOp (t : TypeId) (o : Option (List AVal)) : KO m (allocOp m t o) := ⟨by unfold allocOp; exact k0⟩
instance K_valO (why : String) (o : Option AVal) : KO m (valO m why o) := ⟨by unfold valO; exact k0⟩
instance K_loadGl (P : Program) (t : TypeId) (off : Nat) (o : Option Nat) : KO m (loadGl P t m off o) := .mk <| by
 cases o with
 | none => exact trivial
 | some r => exact (K_valO _ _).h
instance K_loadOp (P : Program) (t : TypeId) (x : AVal) : KO m (loadOp P t m x) := ⟨by unfold loadOp; exact k0⟩
theorem K_skipO {why : String} {o : Option Mem} (h : ∀ m', o = some m' → Keeps m m') : OutK m (skipO why o) := by
 cases o with
 | none => exact trivial
 | some m' => exact h m' rfl
instance K_storeAs (r off : Nat) (cs : List AVal) (o : Option Nat) : KO m (storeAs m r off cs o) := .mk <| by
 unfold storeAs
 try simp only [Bool.cond_eq_ite]
 repeat' split
 all_goals first
  | exact trivial
  | exact Keeps.refl _
  | exact Keeps.new
  | exact Keeps.put_new
  | exact rfl
  | exact K_skipO fun _ h => K_storeCells h
  | skip
instance K_storeOp (P : Program) (t : TypeId) (v x : AVal) : KO m (storeOp P t m v x) := ⟨by unfold storeOp; exact k0⟩
instance K_boxOp (t : TypeId) (v : AVal) : KO m (boxOp m t v) := ⟨by unfold boxOp; exact k0⟩
instance K_nilCheck (P : Program) (v : AVal) : KO m (nilCheck P m v) := ⟨by unfold nilCheck; exact k0⟩
instance K_bytesStr (o : Option (List Value)) : KO m (bytesStr m o) := ⟨by unfold bytesStr; exact k0⟩
instance K_strBytes (e : TypeId) (v : AVal) : KO m (strBytes m e v) := ⟨by unfold strBytes; exact k0⟩
instance K_bytesStrOf (v : AVal) : KO m (bytesStrOf m v) := ⟨by unfold bytesStrOf; exact k0⟩
instance K_convOp (P : Program) (src dst : TypeId) (v : AVal) (a b : Option TypeDesc) : KO m (convOp P src dst v m a b) := ⟨by unfold convOp; exact k0⟩
instance K_makeMapOp (P : Program) (t : TypeId) (o : Option AVal) : KO m (makeMapOp P m t o) := ⟨by unfold makeMapOp; exact k0⟩
instance K_mkIface (t : TypeId) (v : AVal) : KO m (mkIface t m v) := ⟨by unfold mkIface; exact k0⟩
instance K_makeSl (P : Program) (l c : Option Nat) (o : Option (TypeId × Nat)) : KO m (makeSl P m l c o) := ⟨by unfold makeSl; exact k0⟩
instance K_fieldAddr (f : Option Field) (o : Option Nat) (x : AVal) : KO m (fieldAddr m f o x) := ⟨by unfold fieldAddr; exact k0⟩
instance K_fieldOp (P : Program) (v : AVal) (o : Option Field) : KO m (fieldOp P m v o) := ⟨by unfold fieldOp; exact k0⟩
instance K_luAt (ok : Bool) (z : Value) (es : List AEnt) (o : Option (Option Nat)) : KO m (luAt ok z m es o) := ⟨by unfold luAt; exact k0⟩
instance K_luIn (P : Program) (ok : Bool) (k : Value) (kt et : TypeId) (es : List AEnt) (o : Option Value) : KO m (luIn P ok m k kt et es o) := ⟨by unfold luIn; exact k0⟩
instance K_lookupOp (P : Program) (ok : Bool) (a : Option (List AEnt)) (b : Option Value) (c : Option (TypeId × TypeId)) : KO m (lookupOp P ok m a b c) := ⟨by unfold lookupOp; exact k0⟩
instance K_muSet (r : Nat) (k : Value) (v : AVal) (es : List AEnt) (clock i : Nat) (o : Option AEnt) : KO m (muSet m r k v es clock i o) := ⟨by unfold muSet; exact k0⟩
instance K_muAt (r : Nat) (k : Value) (v : AVal) (es : List AEnt) (clock : Nat) (o : Option (Option Nat)) : KO m (muAt m r k v es clock o) := ⟨by unfold muAt; exact k0⟩
instance K_mapPut (P : Program) (r : Nat) (v : AVal) (a : Option AObj) (b : Option Value) (c : Option (TypeId × TypeId)) : KO m (mapPut P m r v a b c) := ⟨by unfold mapPut; exact k0⟩
instance K_mapUpdate (P : Program) (kt : Option (TypeId × TypeId)) (k v x : AVal) : KO m (mapUpdate P m kt k v x) := ⟨by unfold mapUpdate; exact k0⟩
instance K_rangeMap (q : Nat) (o : Option AObj) : KO m (rangeMap m q o) := ⟨by unfold rangeMap; exact k0⟩
instance K_rangeOp (a b : Bool) (x : AVal) : KO m (rangeOp m a b x) := ⟨by unfold rangeOp; exact k0⟩
instance K_tookE (r q since : Nat) (seen : List Nat) (clock : Nat) (e : AEnt) : KO m (tookE m r q since seen clock e) := ⟨Keeps.put_new⟩
instance K_nextStr (r : Nat) (s : ByteArray) (pos : Nat) : KO m (nextStr m r s pos) := ⟨by unfold nextStr; exact k0⟩
instance K_entryRes (o : Option AEnt) : KO m (entryRes m o) := ⟨by unfold entryRes; exact k0⟩
instance K_entryIn (stepped : Nat) (a : Option Nat) (b : Option AObj) : KO m (entryIn m stepped a b) := ⟨by unfold entryIn; exact k0⟩
instance K_entryAt (b : Option AObj) : KO m (entryAt m b) := ⟨by unfold entryAt; exact k0⟩
instance K_entryOp (x : AVal) : KO m (entryOp m x) := ⟨by unfold entryOp; exact k0⟩
instance K_extractOp (ix : Nat) (x : AVal) : KO m (extractOp ix m x) := ⟨by unfold extractOp; exact k0⟩
instance K_panicOp (x : AVal) : KO m (panicOp m x) := ⟨by unfold panicOp; exact k0⟩
instance K_pickOp (a b : AVal) (o : Option Bool) : KO m (pickOp m a b o) := ⟨by unfold pickOp; exact k0⟩
instance K_indexA (P : Program) (t : TypeId) (x : AVal) (o : Option Int) : KO m (indexA P t m x o) := ⟨by unfold indexA; exact k0⟩
instance K_indexV (P : Program) (t : TypeId) (x : AVal) (o : Option Int) : KO m (indexV P t m x o) := ⟨by unfold indexV; exact k0⟩
theorem K_aop (P : Program) (tmps : T AVal) (op : Op) : OutK m (aop P tmps m op) := by
 cases op with
 | move x => exact Keeps.refl _
 | assign x => exact Keeps.refl _
 | pick c a b => exact (K_pickOp _ _ _).h
 | alloc t => exact (K_allocOp _ _).h
 | box t x => exact (K_boxOp _ _).h
 | build t parts => exact (K_buildOp _ _ _ _).h
 | buildSlice t len parts => exact (K_buildSlice _ _ _ _).h
 | load t a => exact (K_loadOp _ _ _).h
 | store t a x => exact (K_storeOp _ _ _ _).h
 | nilCheck x => exact (K_nilCheck _ _).h
 | binOp op t x y _ => exact (K_binOpA _ _ _ _ _ _ _).h
 | unOp op _ x => exact (K_lits1 _ _ _).h
 | convert src dst x => exact (K_convOp _ _ _ _ _ _).h
 | makeInterface t x =>
  show OutK m (bif concreteT (P.underlying t) then mkIface t m (evalT tmps x) else .bad "makeInterface")
  cases concreteT (P.underlying t)
  ·exact trivial
  ·exact (K_mkIface _ _).h
 | makeFunc fn first captured =>
  show OutK m (bif isYield fn then .bad "makeFunc" else .val (.func fn (mapL (evalT tmps) first.toList) (mapL (evalT tmps) captured.toList)) m)
  cases isYield fn
  ·exact Keeps.refl _
  ·exact trivial
 | makeMap t r => exact (K_makeMapOp _ _ _).h
 | makeSlice t l c => exact (K_makeSl _ _ _ _).h
 | slice t x lo hi mx => exact (K_sliceOp _ _ _ _ _ _).h
 | fieldAddr s x f => exact (K_fieldAddr _ _ _).h
 | field s x f => exact (K_fieldOp _ _ _).h
 | indexAddr t x ix => exact (K_indexA _ _ _ _).h
 | index t x ix => exact (K_indexV _ _ _ _).h
 | lookup t x k ok => exact (K_lookupOp _ _ _ _ _).h
 | mapUpdate t mp k x => exact (K_mapUpdate _ _ _ _ _).h
 | insert t mp k x => exact (K_mapUpdate _ _ _ _ _).h
 | range t x => exact (K_rangeOp _ _ _).h
 | entry it => exact (K_entryOp _).h
 | typeAssert x t asserted ok => exact (K_typeAssert _ _ _ _).h
 | extract t ix => exact (K_extractOp _ _).h
 | call c => exact (K_callD _ _).h
 | panic x => exact (K_panicOp _).h
 | _ => exact trivial
theorem K_aop2 (P : Program) (tmps : T AVal) (op : Op) : OutK m (aop2 P tmps m op) := by
 unfold aop2
 split
 ·unfold orCmp
  split
  ·exact Keeps.refl _
  ·exact trivial
 ·exact K_aop _ _ _
end
open Go.RowKit (Below)
section
variable {P : Program} {w0 : Wo} {B : Nat} {ρ : Rho} {m : Mem} {w : World} {env : Env} {fr : Frame} {cs : List Frame} {tmps : T AVal} {ds : List ADef} {up : Chain} {rec : Run} {fl : Fl}
def CallOK (P : Program) (w0 : Wo) (B : Nat) (fl : Fl) (rec : Run) : Prop :=
 ∀ (ρ : Rho) (m : Mem) (w : World) (f : FuncId) (args : List AVal) (xs : Array Value) (dfr : Bool) (cs : List Frame) (up : Chain),
  MR w0 B ρ m w → RL ρ args xs.toList → UpR ρ dfr up cs →
  (∃ why, callBody fl rec dfr f args up m P.funcs[f]? = .bad why) ∨
  (∃ fn c, P.funcs[f]? = some fn ∧ fn.body = some c ∧ Res P w0 B ρ ⟨f, fn.ntmps, dfr, none⟩ cs m (lone (Frame.enter P f xs (kindOf dfr)) cs w) (callBody fl rec dfr f args up m P.funcs[f]?))
theorem gotR_eq (panicked : Chain → Chain → Mem → RR) (nt : Nat) (dst : Option Tmp) (cont : Cont) (tmps : T AVal) (ds : List ADef) (up : Chain) (r : RR) :
  gotR panicked nt dst cont tmps ds up r = RR.rec (fun v _ m => cont (setDst nt tmps v dst) ds up m) (fun c _ m => panicked c up m) (fun w => .bad w) (fun _ _ a b => .alt a b) r := rfl
def RestOK (P : Program) (w0 : Wo) (B : Nat) (env : Env) (its : List Item) (cont : Cont) : Prop :=
 ∀ (ρ : Rho) (m : Mem) (w : World) (fr : Frame) (tmps : T AVal) (ds : List ADef) (up : Chain) (cs : List Frame), MR w0 B ρ m w → FR P ρ env its tmps ds .run fr → UpR ρ env.dfr up cs →
  Res P w0 B ρ env cs m (lone fr cs w) (cont tmps ds up m)
def RestAt (P : Program) (wb w0 : Wo) (B : Nat) (ρb : Rho) (csb : List Frame) (mb : Mem) (ρ0 : Rho) (cs0 : List Frame) (m0 : Mem) (env : Env) (its : List Item) (tmps : T AVal) (dst : Option Tmp) (cont : Cont) : Prop :=
 ∀ (ρ : Rho) (m : Mem) (w : World) (fr : Frame) (v : AVal) (ds : List ADef) (up : Chain) (cs : List Frame), ρ0.le ρ → Keeps m0 m → SameCs env.dfr cs0 cs → MR w0 B ρ m w →
  FR P ρ env its (setDst env.nt tmps v dst) ds .run fr → UpR ρ env.dfr up cs → Res P wb B ρb env csb mb (lone fr cs w) (cont (setDst env.nt tmps v dst) ds up m)
def PanAt (P : Program) (wb w0 : Wo) (B : Nat) (ρb : Rho) (csb : List Frame) (mb : Mem) (ρ0 : Rho) (cs0 : List Frame) (m0 : Mem) (env : Env) (tmps : T AVal) (ds : List ADef) (panicked : Chain → Chain → Mem → RR) : Prop :=
 ∀ (ρ : Rho) (m : Mem) (w : World) (fr : Frame) (c : Chain) (up : Chain) (cs : List Frame), ρ0.le ρ → Keeps m0 m → SameCs env.dfr cs0 cs → MR w0 B ρ m w → FR P ρ env [] tmps ds (.panicking c) fr → UpR ρ env.dfr up cs →
  Res P wb B ρb env csb mb (lone fr cs w) (panicked c up m)
theorem extV_some {f : FuncId} {args : List AVal} {v : AVal} (h : extV P fl f args m = some v) : ∃ y vs, v = .lit y ∧ toLits args = some vs ∧ value? P (callFunc f vs.toArray) = .ok (.value y) := by
 unfold extV at h
 split at h
 ·cases h
 ·split at h
  ·rename_i fn hf
   cases hb : fn.body.isNone with
   | false => rw [hb] at h; cases h
   | true =>
    rw [hb, cond_true] at h
    unfold extV1 at h
    split at h
    ·rename_i vs hvs
     split at h
     ·rename_i y hy
      cases h
      exact ⟨y, vs, rfl, hvs, hy⟩
     ·cases h
    ·cases h
  ·cases h
theorem outR_sound {wb : Wo} {ρb : Rho} {csb : List Frame} {mb : Mem} (hnames : NamesOK P) (hrec : Sound P w0 B rec) (hcall : CallOK P w0 B fl rec) (h : MR w0 B ρ m w) {ops : Array Oper} {i : Nat} {rest : List Nat} {k : List Item} {o : Oper}
  (hF : FR P ρ env (.inRegion ops (i :: rest) :: k) tmps ds .run fr) (hU : UpR ρ env.dfr up cs) (ho : ops[i]? = some o) (hw : Region.wanted o (yielded ops fr.tmps) = true)
  (hd : ∀ c, o.op ≠ .defer c) {cont : Cont} (hcont : RestAt P wb w0 B ρb csb mb ρ cs m env (.inRegion ops rest :: k) tmps o.dst cont) {panicked : Chain → Chain → Mem → RR} (hpan : PanAt P wb w0 B ρb csb mb ρ cs m env tmps ds panicked)
  {out : Out} (hN : NR w0 B ρ m w out P ((execOp fr.eval o).run P w)) (hK : OutK m out) :
  Res P wb B ρb env csb mb (lone fr cs w) (outR P fl rec env panicked o.dst cont tmps ds up m out) := by
 have hm : fr.mode = .run := hF.mode
 have ht := hF.todo rfl
 have hstep := stepG_oper (P := P) (cs := cs) (w := w) hm ht ho hw (.inl hd)
 have hnc : ∀ d x y z k', fr.todo ≠ .call d x y z :: k' := by intro d x y z k' e; rw [ht] at e; cases e
 -- behind a call
 have hback : ∀ {env' : Env} {M : Machine} {r : RR}, env'.dfr = false → Res P w0 B ρ env' (fr :: cs) m M r → Res P wb B ρb env csb mb M (gotR panicked env.nt o.dst cont tmps ds up r) := by
  intro env' M r hdf hr
  rw [gotR_eq]
  refine got_sound hdf ?_ ?_ hr
  ·intro ρ' v x m' w' hle hM hR hk
   exact hcont ρ' m' w' _ v ds up cs hle hk (SameCs.refl _ _) hM (hF.finish ho hle hR) (hU.mono hle)
  ·intro ρ' c ch m' w' hle hM hC hk
   exact hpan ρ' m' w' _ c up cs hle hk (SameCs.refl _ _) hM (hF.raise hle hC) (hU.mono hle)
 cases out with
 | bad _ => exact trivial
 | val v m' =>
  obtain ⟨x, w', ρ', h1, h2, h3, h4⟩ := hN
  rcases h1 with h1 | ⟨h1, rfl⟩
  ·refine Res.steps (.one (step_lone_go (by rw [hstep]; exact apply_value h1))) ?_
   exact hcont ρ' m' w' _ _ ds up cs h2 hK (SameCs.refl _ _) h3 (hF.finish ho h2 h4) (hU.mono h2)
  ·refine Res.steps (.one (step_lone_go (by rw [hstep]; exact apply_skip h1))) ?_
   exact hcont ρ' m' w' _ _ ds up cs h2 hK (SameCs.refl _ _) h3 (hF.finish ho h2 (v := .poison) (by simp [R])) (hU.mono h2)
 | panic v m' =>
  obtain ⟨x, w', ρ', h1, h2, h3, h4⟩ := hN
  refine Res.steps (.one (step_lone_go (by rw [hstep]; exact apply_panic h1))) ?_
  exact hpan ρ' m' w' _ _ up cs h2 hK (SameCs.refl _ _) h3 (hF.raise h2 (c := [(v, false)]) ⟨x, [], rfl, h4, rfl⟩) (hU.mono h2)
 | enter f args m' =>
  obtain ⟨rfl, xs, h1, h2⟩ := hN
  show Res P wb B ρb env csb mb _ (enterR (gotR panicked env.nt o.dst cont tmps ds up (callBody fl rec false f args [] m' P.funcs[f]?)) (fun v => cont (setDst env.nt tmps v o.dst) ds up m') (extV P fl f args m'))
  cases hx : extV P fl f args m' with
  | some v =>
   obtain ⟨y, vs, rfl, e1, e2⟩ := extV_some hx
   have hxs : xs = vs.toArray := by
    have := RL.of_toLits args xs.toList vs h2 e1
    rw [← this]
   subst hxs
   rw [value_ok _ e2 w] at h1
   refine Res.steps (.one (step_lone_go (by rw [hstep]; exact apply_value h1))) ?_
   exact hcont ρ m' w _ _ ds up cs (Rho.le.refl ρ) (Keeps.refl m') (SameCs.refl _ _) h (hF.finish ho (Rho.le.refl ρ) (v := .lit y) (by simp [R])) hU
  | none =>
  show Res P wb B ρb env csb mb _ (gotR panicked env.nt o.dst cont tmps ds up (callBody fl rec false f args [] m' P.funcs[f]?))
  rcases hcall ρ m' w f args xs false (fr :: cs) [] h h2 (fun e => by cases e) with ⟨why, hb⟩ | ⟨fn, c, hf, hb, hr⟩
  ·rw [hb]; exact trivial
  ·rw [run_callFunc hnames hf hb] at h1
   refine Res.steps (.one (step_lone_go (by rw [hstep]; exact apply_enter h1 hnc))) ?_
   exact hback (env' := ⟨f, fn.ntmps, false, none⟩) rfl hr
 | round l f nt tm a b m' =>
  obtain ⟨rfl, c, ts, h1, h2, h3, h4⟩ := hN
  show Res P wb B ρb env csb mb _ (bif (P.funcs[f]?).isSome then gotR panicked env.nt o.dst cont tmps ds up (rec ⟨f, nt, false, some l⟩ [.code a, .beginRound, .code b] tm [] .run [] m') else .bad "round")
  cases hf : P.funcs[f]? with
  | none => exact trivial
  | some fn =>
   refine Res.steps (.one (step_lone_go (by rw [hstep]; exact apply_round h1))) ?_
   refine hback (env' := ⟨f, nt, false, some l⟩) rfl (hrec _ _ _ _ _ _ _ _ _ _ _ h ?_ (fun e => by cases e))
   exact ⟨rfl, h4, h3, fun _ => rfl, rfl, rfl, rfl, ⟨c, rfl, h2⟩, ⟨fn, hf⟩, fun _ => rfl⟩
 | recov =>
  show Res P wb B ρb env csb mb _ (bif env.roundOf.isSome then .bad "recover in a round" else recovR env o.dst cont tmps ds m up)
  have h1 : (execOp fr.eval o).run P w = .ok .recover w := hN
  cases hro : env.roundOf with
  | some l => exact trivial
  | none =>
   have hfr : fr.roundOf = none := by have := hF.round; rw [hro] at this; exact this
   show Res P wb B ρb env csb mb _ (recovR env o.dst cont tmps ds m up)
   have hnil : tryRecover fr cs = none → ∀ up', up' = up → Res P wb B ρb env csb mb (lone fr cs w) (cont (setDst env.nt tmps (.lit .nilIface) o.dst) ds up' m) := by
    intro htr up' hup
    subst hup
    refine Res.steps (.one (step_lone_go (fr' := fr.finish .nilIface) (cs' := cs) (w' := w) (by rw [hstep]; simp [stepG.apply, Sem.runT_eq, h1, hfr, htr]))) ?_
    exact hcont ρ m w _ _ ds up' cs (Rho.le.refl ρ) (Keeps.refl m) (SameCs.refl _ _) h (hF.finish ho (Rho.le.refl ρ) (v := .lit .nilIface) (by simp [R])) hU
   have hkind := hF.kind
   cases hdf : env.dfr with
   | false =>
    rw [hdf] at hkind
    have htr : tryRecover fr cs = none := by
     have : fr.kind = .normal := hkind
     unfold tryRecover
     rw [this]
    unfold recovR
    split
    ·rw [hdf]; exact hnil htr _ rfl
    ·exact hnil htr _ rfl
   | true =>
    rw [hdf] at hkind
    have hkd : fr.kind = .deferred := hkind
    obtain ⟨c, rst, rfl, hc⟩ := hU hdf
    unfold recovR
    split
    ·rename_i v older
     rw [hdf, cond_true]
     rcases hc with ⟨ch, hcm, hch⟩ | ⟨_, hup⟩
     ·obtain ⟨x, xs, rfl, hR, hX⟩ := hch
      have htr : tryRecover fr (c :: rst) = some (x, { c with mode := .panicking ({ v := x, recovered := true } :: xs) } :: rst) := by
       unfold tryRecover
       rw [hkd]
       simp only [hcm]
      refine Res.steps (.one (step_lone_go (fr' := fr.finish x) (cs' := { c with mode := .panicking ({ v := x, recovered := true } :: xs) } :: rst) (w' := w) (by rw [hstep]; simp [stepG.apply, Sem.runT_eq, h1, hfr, htr]))) ?_
      refine hcont ρ m w _ _ ds _ ({ c with mode := .panicking ({ v := x, recovered := true } :: xs) } :: rst) (Rho.le.refl ρ) (Keeps.refl m) ?_ h (hF.finish ho (Rho.le.refl ρ) hR) ?_
      ·refine ⟨fun e => (by rw [hdf] at e; cases e), fun c' rest' e => ?_, fun e => (by cases e)⟩
       cases e
       exact ⟨_, rfl, fun e => (by rw [hcm] at e; cases e), fun _ _ => ⟨_, rfl⟩⟩
      ·intro _
       exact ⟨_, rst, rfl, .inl ⟨_, rfl, x, xs, rfl, hR, hX⟩⟩
     ·cases hup
    ·rename_i hno
     have htr : tryRecover fr (c :: rst) = none := by
      unfold tryRecover
      rw [hkd]
      rcases hc with ⟨ch, hcm, hch⟩ | ⟨hcm, _⟩
      ·simp only [hcm]
       cases up with
       | nil => have : ch = [] := hch; subst this; rfl
       | cons a older =>
        obtain ⟨v, rc⟩ := a
        obtain ⟨x, xs, rfl, hR, hX⟩ := hch
        cases rc with
        | true => rfl
        | false => exact absurd rfl (hno v older)
      ·simp only [hcm]
     exact hnil htr _ rfl
end
open Go.RowKit (Below)
section
variable {P : Program} {w0 : Wo} {B : Nat} {ρ : Rho} {m : Mem} {w : World} {env : Env} {fr : Frame} {cs : List Frame} {tmps : T AVal} {ds : List ADef} {up : Chain} {rec : Run} {fl : Fl}
theorem gd_sound {its : List Item} {mo : AMode} (hF : FR P ρ env its tmps ds mo fr) {ops : Array Oper} {o : Oper} {b : Bool} (e : gd ops.toList tmps o.guard = some b) : Region.wanted o (yielded ops fr.tmps) = b := by
 unfold Region.wanted
 cases hg : o.guard with
 | none => rw [hg] at e; cases e; rfl
 | some jw =>
  obtain ⟨j, want⟩ := jw
  rw [hg] at e
  have e' : (match dstOf ops.toList j with | some d => gdV want (getT tmps d) | none => some false) = some b := e
  have hdst : dstOf ops.toList j = (ops[j]?).bind (·.dst) := by
   unfold dstOf
   rw [getO_eq]
   simp
  rw [hdst] at e'
  show (yielded ops fr.tmps j == some want) = b
  unfold yielded
  cases hd : (ops[j]?).bind (·.dst) with
  | none => rw [hd] at e'; cases e'; rfl
  | some d =>
   rw [hd] at e'
   dsimp only at e' ⊢
   have hR := hF.tmps d
   show ((match (some d).bind (fr.tmps[·]?) with | some (.bool b) => some b | _ => none) == some want) = b
   rw [Option.bind_some]
   have hval : fr.tmps[d]? = none ∨ fr.tmps[d]? = some (fr.tmps.getD d undef) := by
    cases hx : fr.tmps[d]? with
    | none => exact .inl rfl
    | some x => right; rw [Array.getD_eq_getD_getElem?, hx]; rfl
   have hundef : fr.tmps[d]? = none → fr.tmps.getD d undef = undef := by
    intro h0; rw [Array.getD_eq_getD_getElem?, h0]; rfl
   unfold gdV at e'
   split at e'
   ·cases e'
   ·rename_i b0 hv
    rw [hv] at hR
    simp only [R] at hR
    cases e'
    rcases hval with h0 | h0
    ·rw [hundef h0] at hR; cases hR
    ·rw [h0, hR]
     cases b0 <;> cases want <;> rfl
   ·rename_i hno1 hno2
    cases e'
    have hnb : ∀ b1, fr.tmps.getD d undef ≠ .bool b1 := by
     intro b1 hb1
     rw [hb1] at hR
     cases hv : getT tmps d with
     | lit v => rw [hv] at hR; simp only [R] at hR; subst hR; exact hno2 _ hv
     | poison => exact hno1 hv
     | ptr r off => rw [hv] at hR; simp only [R] at hR; obtain ⟨_, _, h1⟩ := hR; cases h1
     | slice r off n c ex => rw [hv] at hR; simp only [R] at hR; obtain ⟨_, _, _, _, _, _, h1⟩ := hR; cases h1
     | emptyS => rw [hv] at hR; simp only [R] at hR; obtain ⟨_, _, h1⟩ := hR; cases h1
     | map r => rw [hv] at hR; simp only [R] at hR; obtain ⟨_, _, h1⟩ := hR; cases h1
     | func fn f c => rw [hv] at hR; simp only [R] at hR; obtain ⟨_, _, _, h1, _⟩ := hR; cases h1
     | yield l => rw [hv] at hR; simp only [R] at hR; obtain ⟨_, _, h1⟩ := hR; cases h1
     | iface t v => rw [hv] at hR; simp only [R] at hR; obtain ⟨_, h1, _⟩ := hR; cases h1
     | agg l => rw [hv] at hR; simp only [R] at hR; obtain ⟨_, h1, _⟩ := hR; cases h1
     | tuple l => rw [hv] at hR; simp only [R] at hR; obtain ⟨_, h1, _⟩ := hR; cases h1
    rcases hval with h0 | h0
    ·rw [h0]; rfl
    ·rw [h0]
     generalize hz : fr.tmps.getD d undef = z
     rw [hz] at hnb
     cases z <;> first | rfl | exact absurd rfl (hnb _)
theorem altsR_cons (f : AEnt → RR) (e : AEnt) (rest : List AEnt) : altsR f (e :: rest) = bif isNil rest then f e else .alt (f e) (altsR f rest) := rfl
theorem altsR_sound {M : Machine} (f : AEnt → RR) : ∀ (es : List AEnt) {e : AEnt}, e ∈ es → Res P w0 B ρ env cs m M (f e) → Res P w0 B ρ env cs m M (altsR f es) := by
 intro es
 induction es with
 | nil => intro e he; cases he
 | cons a rest ih =>
  intro e he hr
  rw [altsR_cons]
  cases hn : isNil rest with
  | true =>
   rw [isNil_eq, List.isEmpty_iff] at hn
   subst hn
   rw [cond_true]
   simp only [List.mem_singleton] at he
   subst he
   exact hr
  | false =>
   rw [cond_false]
   rcases List.mem_cons.1 he with rfl | he
   ·exact .inl hr
   ·exact .inr (ih he hr)
theorem K_nextOp (s : Bool) (x : AVal) : ∀ o, nextOp m s x = .out o → OutK m o := by
 intro o e
 unfold nextOp at e
 split at e
 ·unfold nextAt at e
  split at e
  ·cases s with
   | true => cases e; exact (K_nextStr _ _ _).h
   | false => cases e; exact trivial
  ·cases s with
   | true => cases e; exact trivial
   | false => cases e; exact Keeps.refl _
  ·cases s with
   | true => cases e; exact trivial
   | false =>
    rw [cond_false] at e
    unfold nextMap at e
    split at e
    ·rename_i es clock _
     generalize (isNil (fltL _ es) && _) = c at e
     cases c with
     | true =>
      rw [cond_true] at e
      unfold nextPick at e
      split at e
      ·cases e; exact Keeps.refl _
      ·cases e
     | false => cases e; exact trivial
    ·cases e; exact trivial
  ·cases e; exact trivial
 ·cases e; exact trivial
theorem operR_sound {wb : Wo} {ρb : Rho} {csb : List Frame} {mb : Mem} (hnames : NamesOK P) (hrec : Sound P w0 B rec) (hcall : CallOK P w0 B fl rec) (h : MR w0 B ρ m w) {ops : Array Oper} {i : Nat} {rest : List Nat} {k : List Item} {o : Oper}
  (hF : FR P ρ env (.inRegion ops (i :: rest) :: k) tmps ds .run fr) (hU : UpR ρ env.dfr up cs) (ho : ops[i]? = some o) (hw : Region.wanted o (yielded ops fr.tmps) = true)
  {cont : Cont} (hcont : RestAt P wb w0 B ρb csb mb ρ cs m env (.inRegion ops rest :: k) tmps o.dst cont) {panicked : Chain → Chain → Mem → RR} (hpan : PanAt P wb w0 B ρb csb mb ρ cs m env tmps ds panicked) :
  Res P wb B ρb env csb mb (lone fr cs w) (operR P fl rec env panicked o.dst cont tmps ds up m o.op) := by
 have hev : ∀ x, R ρ (evalT tmps x) (fr.eval x) := fun x => hF.eval x
 have hm : fr.mode = .run := hF.mode
 have ht := hF.todo rfl
 have gen : (∀ c, o.op ≠ .defer c) → Res P wb B ρb env csb mb (lone fr cs w) (outR P fl rec env panicked o.dst cont tmps ds up m (aop2 P tmps m o.op)) := fun hd =>
  outR_sound hnames hrec hcall h hF hU ho hw hd hcont hpan (aop2_sound h hev o) (K_aop2 _ _ _)
 unfold operR
 split
 ·rename_i c hop
  unfold dferR
  cases hd : resolveC tmps c with
  | none => exact trivial
  | some d =>
   dsimp only
   cases hro : env.roundOf with
   | some l => exact trivial
   | none =>
    dsimp only
    have hfr : fr.roundOf = none := by have := hF.round; rw [hro] at this; exact this
    obtain ⟨_, y, h1, h2⟩ := resolve_sound hev c o.type hd w (P := P)
    have hrun : (execOp fr.eval o).run P w = .ok (.defer y) w := by
     simp only [execOp, hop, run_bind, h1, run_pure]
    have hstep := stepG_oper (P := P) (cs := cs) (w := w) hm ht ho hw (.inr hfr)
    refine Res.steps (.one (step_lone_go (by rw [hstep]; exact apply_defer hrun))) ?_
    have hF2 : FR P ρ env (.inRegion ops (i :: rest) :: k) tmps (d :: ds) .run { fr with defers := y :: fr.defers } :=
     { hF with ds := ⟨y, _, rfl, h2, hF.ds⟩ }
    exact hcont ρ m w _ _ (d :: ds) up cs (Rho.le.refl ρ) (Keeps.refl m) (SameCs.refl _ _) h (hF2.finish ho (Rho.le.refl ρ) (v := .poison) (by simp [R])) hU
 ·rename_i it s hop
  have hd : ∀ c, o.op ≠ .defer c := by intro c e; rw [hop] at e; cases e
  have hX := next_sound (P := P) h hev o it s hop
  unfold nextR
  cases hn : nextOp m s (evalT tmps it) with
  | out out =>
   rw [hn] at hX
   exact outR_sound hnames hrec hcall h hF hU ho hw hd hcont hpan hX (K_nextOp _ _ _ hn)
  | alts m' r q since seen clock es =>
   rw [hn] at hX
   obtain ⟨rfl, e, he, hNR⟩ := hX
   exact altsR_sound (fun e => outR P fl rec env panicked o.dst cont tmps ds up m' (tookE m' r q since seen clock e)) es he
    (outR_sound hnames hrec hcall h hF hU ho hw hd hcont hpan hNR ((K_tookE _ _ _ _ _ _).h))
 ·rename_i hno1 hno2
  exact gen fun c e => hno1 c e
theorem FR.panicking {its its' : List Item} {c : Chain} (hF : FR P ρ env its tmps ds (.panicking c) fr) : FR P ρ env its' tmps ds (.panicking c) fr :=
 { hF with todo := fun e => (by cases e) }
theorem step_skip_op {ops : Array Oper} {i : Nat} {rest : List Nat} {k : List Item} {o : Oper} (hm : fr.mode = .run) (ht : fr.todo = .inRegion ops (i :: rest) :: k) (ho : ops[i]? = some o)
  (hw : Region.wanted o (yielded ops fr.tmps) = false) : step P (lone fr cs w) = .next (lone (fr.finish undef) cs w) :=
 step_lone_go (by simp [stepG, stepG.exec, hm, ht, ho, hw])
theorem region_sound (hnames : NamesOK P) (hrec : Sound P w0 B rec) (hcall : CallOK P w0 B fl rec) {ops : Array Oper} {k : List AItem} :
  ∀ (suf : List Oper) (i : Nat), ops.toList.drop i = suf → RestOK P w0 B env (.inRegion ops (List.range' i suf.length) :: k.map AItem.toItem) (regionGo P fl rec env ops.toList k suf) := by
 intro suf
 induction suf with
 | nil =>
  intro i _ ρ m w fr tmps ds up cs h hF hU
  have hm : fr.mode = .run := hF.mode
  have ht : fr.todo = .inRegion ops [] :: k.map AItem.toItem := hF.todo rfl
  exact go_on hrec h (hF.goto _) hU (by simp [stepG, stepG.exec, hm, ht])
 | cons o suf ih =>
  intro i hdrop ρ m w fr tmps ds up cs h hF hU
  have ho : ops[i]? = some o := by
   have := congrArg (fun z => z[0]?) hdrop
   simpa using this
  have hdrop' : ops.toList.drop (i + 1) = suf := by
   have := congrArg List.tail hdrop
   simpa using this
  have hits : List.range' i (o :: suf).length = i :: List.range' (i + 1) suf.length := by
   rw [List.length_cons, List.range'_succ]
  rw [hits] at hF
  have hih := ih (i + 1) hdrop'
  show Res P w0 B ρ env cs m (lone fr cs w) (match gd ops.toList tmps o.guard with
   | some true => operR P fl rec env (fun c up m => rec env k tmps ds (.panicking c) up m) o.dst (regionGo P fl rec env ops.toList k suf) tmps ds up m o.op
   | some false => regionGo P fl rec env ops.toList k suf (setDst env.nt tmps undefA o.dst) ds up m
   | none => .bad "guard")
  cases hg : gd ops.toList tmps o.guard with
  | none => exact trivial
  | some b =>
   have hw := gd_sound hF hg
   cases b with
   | true =>
    refine operR_sound hnames hrec hcall h hF hU ho hw ?_ ?_
    ·intro ρ1 m1 w1 fr1 v ds1 up1 cs1 hle hk hsc h1 hF1 hU1
     exact Res.later hle hk hsc (hih ρ1 m1 w1 fr1 _ ds1 up1 cs1 h1 hF1 hU1)
    ·intro ρ1 m1 w1 fr1 c up1 cs1 hle hk hsc h1 hF1 hU1
     exact Res.later hle hk hsc (hrec env k tmps ds _ up1 m1 ρ1 w1 fr1 cs1 h1 hF1.panicking hU1)
   | false =>
    refine Res.steps (.one (step_skip_op hF.mode (hF.todo rfl) ho hw)) ?_
    exact hih ρ m w _ _ ds up cs h (hF.finish ho (Rho.le.refl ρ) (v := undefA) (by simp only [undefA, R]; rfl)) hU
end
end Go.Abs
