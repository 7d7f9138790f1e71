/- An executor whose runs hold in every world: a part of it and of what is proved of it. -/
import Derived.Test.YtjefckdgpbdpeaaGreatAbsFrame

namespace Go.Abs
open Go
open Go.RowKit (Below)

section
variable {P : Program} {w0 : Wo} {B : Nat} {ρ : Rho} {m : Mem} {w : World} {env : Env} {fr : Frame} {cs : List Frame} {tmps : T AVal} {ds : List ADef} {up : Chain} {rec : Run} {fl : Fl}

/-- no function with a body bears the one name that the model takes for itself -/
def NamesOK (P : Program) : Prop := ∀ (f : Nat) (fn : Func), P.funcs[f]? = some fn → fn.body.isSome = true → (fn.name == "runtime.NumGoroutine") = false

theorem run_callFunc (hn : NamesOK P) {f : FuncId} {fn : Func} {c : Code} (hf : P.funcs[f]? = some fn) (hb : fn.body = some c) (xs : Array Value) (w : World) : (callFunc f xs).run P w = .ok (.enter f xs) w := by
  have h1 := hn f fn hf (by rw [hb]; rfl)
  unfold callFunc
  rw [run_bind]
  simp only [program, Sem.run, hf]
  simp only [h1, hb, Option.isNone_some, Bool.false_eq_true, if_false]
  rfl

theorem argsT_nil (i : Nat) (t : T AVal) : argsT [] i t = t := rfl
theorem argsT_cons (v : AVal) (vs : List AVal) (i : Nat) (t : T AVal) : argsT (v :: vs) i t = argsT vs (i + 1) (t.set i v) := rfl
theorem getT_argsT : ∀ (vs : List AVal) (i : Nat) (t : T AVal) (j : Nat), getT (argsT vs i t) j = if i ≤ j then (match vs[j - i]? with | some v => v | none => getT t j) else getT t j
  | [], i, t, j => by rw [argsT_nil]; simp
  | v :: vs, i, t, j => by
    rw [argsT_cons, getT_argsT vs (i + 1) (t.set i v) j]
    by_cases h1 : i + 1 ≤ j
    · rw [if_pos h1, if_pos (by omega)]
      have : j - i = (j - (i + 1)) + 1 := by omega
      rw [this, List.getElem?_cons_succ, getT_set, if_neg (by omega)]
    · rw [if_neg h1, getT_set]
      by_cases h2 : i = j
      · subst h2; rw [if_pos rfl, if_pos (Nat.le_refl _)]; simp
      · rw [if_neg h2, if_neg (by omega)]

theorem enter_FR {f : FuncId} {fn : Func} {c : Code} (hf : P.funcs[f]? = some fn) (hb : fn.body = some c) {args : List AVal} {xs : Array Value} (hl : RL ρ args xs.toList) (hs : args.length ≤ fn.ntmps) (dfr : Bool) :
    FR P ρ ⟨f, fn.ntmps, dfr, none⟩ ([AItem.code c].map AItem.toItem) (argsT args 0 .e) [] .run (Frame.enter P f xs (kindOf dfr)) := by
  have hlen := hl.length
  simp only [Array.length_toList] at hlen
  refine ⟨rfl, ?_, ?_, ?_, rfl, rfl, rfl, rfl, ⟨fn, hf⟩, fun e => by cases e⟩
  · simp only [Frame.enter, hf, Option.map_some, Option.getD_some, Array.size_append, Array.size_replicate]
    omega
  · intro j
    rw [getT_argsT]
    simp only [Frame.enter, hf, Option.map_some, Option.getD_some, Nat.zero_le, if_true, Nat.sub_zero]
    cases hj : args[j]? with
    | some v =>
      obtain ⟨y, hy, hR⟩ := hl.get hj
      have hlt := (List.getElem?_eq_some_iff.1 hy).1
      simp only [Array.length_toList] at hlt
      rw [Array.getD_eq_getD_getElem?, Array.getElem?_append_left hlt]
      have : xs[j]? = some y := by simpa using hy
      rw [this]
      exact hR
    | none =>
      dsimp only
      have : getT (.e : T AVal) j = .poison := by unfold getT; rw [T.get_e]
      rw [this]
      simp [R]
  · intro _
    simp [Frame.enter, hf, hb, AItem.toItem]

/-- a call's run -/
theorem callBody0_sound (hrec : Sound P w0 B rec) (h : MR w0 B ρ m w) {f : FuncId} {args : List AVal} {xs : Array Value} (hl : RL ρ args xs.toList) (dfr : Bool) {cs : List Frame} {up : Chain} (hU : UpR ρ dfr up cs) :
    (∃ why, callBody0 rec dfr f args up m P.funcs[f]? = .bad why) ∨
    (∃ fn c, P.funcs[f]? = some fn ∧ fn.body = some c ∧ Res P w0 B ρ ⟨f, fn.ntmps, dfr, none⟩ cs m (lone (Frame.enter P f xs (kindOf dfr)) cs w) (callBody0 rec dfr f args up m P.funcs[f]?)) := by
  unfold callBody0
  split
  · rename_i fn hf
    cases hs : (lenL args).ble fn.ntmps with
    | false => exact .inl ⟨_, rfl⟩
    | true =>
      rw [nat_ble, lenL_eq] at hs
      rw [cond_true]
      split
      · rename_i c hb
        exact .inr ⟨fn, c, hf, hb, hrec _ _ _ _ _ _ _ _ _ _ _ h (enter_FR hf hb hl hs dfr) hU⟩
      · exact .inl ⟨_, rfl⟩
  · exact .inl ⟨_, rfl⟩

theorem MR.watched (h : MR w0 B ρ m w) : MR w0 B ρ (watched m) w := by
  obtain ⟨hp, n, fs, lo, d⟩ := m
  exact ⟨h.obj, h.inj, h.dom, h.hdom, h.famlt, h.rowfam, h.fam, h.lone, h.below, h.base, h.ban⟩

/-- the frame behind an operation -/
theorem finish_region {ops : Array Oper} {i : Nat} {rest : List Nat} {k : List Item} {o : Oper} (ht : fr.todo = .inRegion ops (i :: rest) :: k) (ho : ops[i]? = some o) (x : Value) :
    fr.finish x = { fr with tmps := (match o.dst with | some d => fr.tmps.setIfInBounds d x | none => fr.tmps), todo := .inRegion ops rest :: k } := by
  simp only [Frame.finish, ht, ho, Option.bind_some]
  cases o.dst <;> rfl
theorem FR.finish {ops : Array Oper} {i : Nat} {rest : List Nat} {k : List Item} {o : Oper} (hF : FR P ρ env (.inRegion ops (i :: rest) :: k) tmps ds .run fr) (ho : ops[i]? = some o)
    {ρ' : Rho} (hle : ρ.le ρ') {v : AVal} {x : Value} (hv : R ρ' v x) : FR P ρ' env (.inRegion ops rest :: k) (setDst env.nt tmps v o.dst) ds .run (fr.finish x) := by
  rw [finish_region (hF.todo rfl) ho]
  refine ⟨hF.fn, ?_, ?_, fun _ => rfl, hF.ds.mono hle, hF.mode, hF.kind, hF.round.mono hle, hF.func, hF.norm⟩
  · cases o.dst with
    | none => exact hF.size
    | some d => simpa using hF.size
  · cases o.dst with
    | none => exact hF.tmps.mono hle
    | some d => exact (hF.tmps.mono hle).set hF.size d hv
theorem FR.mono {its : List Item} {mo : AMode} (hF : FR P ρ env its tmps ds mo fr) {ρ' : Rho} (hle : ρ.le ρ') : FR P ρ' env its tmps ds mo fr :=
  ⟨hF.fn, hF.size, hF.tmps.mono hle, hF.todo, hF.ds.mono hle, hF.mode.mono hle, hF.kind, hF.round.mono hle, hF.func, hF.norm⟩
theorem FR.raise {its : List Item} (hF : FR P ρ env its tmps ds .run fr) {ρ' : Rho} (hle : ρ.le ρ') {c : Chain} {ch : List PanicEntry} (hc : ChR ρ' c ch) : FR P ρ' env [] tmps ds (.panicking c) (fr.raise ch) := by
  have hm : fr.mode = .run := hF.mode
  have : fr.raise ch = { fr with mode := .panicking ch } := by simp [Frame.raise, hm]
  rw [this]
  exact ⟨hF.fn, hF.size, hF.tmps.mono hle, fun e => (by cases e), hF.ds.mono hle, ⟨ch, rfl, hc⟩, hF.kind, hF.round.mono hle, hF.func, hF.norm⟩

theorem stepG_oper {ops : Array Oper} {i : Nat} {rest : List Nat} {k : List Item} {o : Oper} (hm : fr.mode = .run) (ht : fr.todo = .inRegion ops (i :: rest) :: k) (ho : ops[i]? = some o)
    (hw : Region.wanted o (yielded ops fr.tmps) = true) (hd : (∀ c, o.op ≠ .defer c) ∨ fr.roundOf = none) :
    stepG P true (gor fr cs) w = stepG.apply P true fr cs none (execOp fr.eval o) w := by
  simp only [stepG, hm, stepG.exec, ht, stepG.oper, Frame.oper?, ho, hw, Option.map_some, Option.getD_some, if_true]
  rcases hd with hd | hd
  · cases fr.roundOf <;> cases hop : o.op <;> first | rfl | exact absurd hop (hd _)
  · rw [hd]
theorem apply_value {s : Sem Next} {x : Value} {w' : World} (hr : s.run P w = .ok (.value x) w') : (stepG.apply P true fr cs none s w).bare = .go (gor (fr.finish x) cs) w' := by
  simp [stepG.apply, Sem.runT_eq, hr]
theorem apply_skip {s : Sem Next} {w' : World} (hr : s.run P w = .ok .skip w') : (stepG.apply P true fr cs none s w).bare = .go (gor (fr.finish undef) cs) w' := by
  simp [stepG.apply, Sem.runT_eq, hr]
theorem apply_panic {s : Sem Next} {x : Value} {w' : World} (hr : s.run P w = .halt (.panic x) w') : (stepG.apply P true fr cs none s w).bare = .go (gor (fr.raise [{ v := x, recovered := false }]) cs) w' := by
  simp [stepG.apply, Sem.runT_eq, hr]
theorem apply_enter {s : Sem Next} {f : FuncId} {xs : Array Value} {w' : World} (hr : s.run P w = .ok (.enter f xs) w') (hc : ∀ d x y z k, fr.todo ≠ .call d x y z :: k) :
    (stepG.apply P true fr cs none s w).bare = .go (gor (Frame.enter P f xs .normal) (fr :: cs)) w' := by
  simp only [stepG.apply, Sem.runT_eq, hr, if_true, GStep.bare_after, GStep.bare_go]
  split
  · rename_i hh; exact absurd hh (hc _ _ _ _ _)
  · rfl
theorem apply_round {s : Sem Next} {l : Nat} {f : FuncId} {ts : Array Value} {a b : Code} {w' : World} (hr : s.run P w = .ok (.round l f ts a b) w') :
    (stepG.apply P true fr cs none s w).bare = .go (gor (Frame.round l f ts a b .normal) (fr :: cs)) w' := by
  simp [stepG.apply, Sem.runT_eq, hr]
theorem apply_defer {s : Sem Next} {d : Deferred} {w' : World} (hr : s.run P w = .ok (.defer d) w') : (stepG.apply P true fr cs none s w).bare = .go (gor ({ fr with defers := d :: fr.defers }.finish undef) cs) w' := by
  simp [stepG.apply, Sem.runT_eq, hr]

/-- a frame returns into the one that called it -/
theorem back_normal {fr' c : Frame} {rest : List Frame} {x : Value} {w1 w' : World} (hk : fr'.kind = .normal) (hs : (stepG P true (gor fr' (c :: rest)) w1).bare = (doReturn P true fr' (c :: rest) none x w').bare) :
    step P (lone fr' (c :: rest) w1) = .next (lone (c.finish x) rest w') := by
  refine step_lone_go ?_
  rw [hs]
  simp [doReturn, hk]
theorem back_panic {fr' c : Frame} {rest : List Frame} {ch : List PanicEntry} {w' : World} (hm : fr'.mode = .panicking ch) (hd : fr'.defers = []) (hf : ∃ f, P.funcs[fr'.fn]? = some f) :
    step P (lone fr' (c :: rest) w') = .next (lone (c.raise ch) rest w') := by
  obtain ⟨f, hf⟩ := hf
  exact step_lone_go (by simp [stepG, unwind, Frame.catches, hm, hd, hf])

/-- behind a call that is no deferred one -/
theorem got_sound {wb : Wo} {ρb : Rho} {csb : List Frame} {mb : Mem} {env' : Env} (hdf : env'.dfr = false) {cont : AVal → Mem → RR} {panicked : Chain → Mem → RR} {M : Machine}
    (hcont : ∀ ρ' v x m' w', ρ.le ρ' → MR w0 B ρ' m' w' → R ρ' v x → Keeps m m' → Res P wb B ρb env csb mb (lone (fr.finish x) cs w') (cont v m'))
    (hpan : ∀ ρ' c ch m' w', ρ.le ρ' → MR w0 B ρ' m' w' → ChR ρ' c ch → Keeps m m' → Res P wb B ρb env csb mb (lone (fr.raise ch) cs w') (panicked c m')) :
    ∀ {r : RR}, Res P w0 B ρ env' (fr :: cs) m M r → Res P wb B ρb env csb mb M (RR.rec (fun v _ m => cont v m) (fun c _ m => panicked c m) (fun w => .bad w) (fun _ _ a b => .alt a b) r) := by
  intro r
  induction r with
  | ret v up' m' =>
    rintro ⟨hk, ρ', w1, w', fr', cs', x, h1, h2, h3, h4, h5, h6, h7, h8, h9⟩
    have hcs := h5.1 hdf
    subst hcs
    refine Res.steps (h1.trans (.one (back_normal (by rw [h7, hdf]; rfl) h8))) ?_
    exact hcont ρ' v x m' w' h2 h3 h4 hk
  | panicked c up' m' =>
    rintro ⟨hk, ρ', w', fr', cs', ch, h1, h2, h3, h4, h5, h6, h7, h8, h9, h10⟩
    have hcs := h5.1 hdf
    subst hcs
    refine Res.steps (h1.trans (.one (back_panic h7 h8 (by rw [h9]; exact h10)))) ?_
    exact hpan ρ' c ch m' w' h2 h3 h4 hk
  | bad _ => exact fun _ => trivial
  | alt a b iha ihb =>
    intro h
    rcases h with h | h
    · exact .inl (iha h)
    · exact .inr (ihb h)
end
end Go.Abs
