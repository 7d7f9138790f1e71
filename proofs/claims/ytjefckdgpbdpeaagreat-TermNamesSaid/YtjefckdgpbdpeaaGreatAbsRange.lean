/- An executor whose runs hold in every world: a part of it and of what is proved of it. -/
import Derived.Test.YtjefckdgpbdpeaaGreatAbsUnwind

namespace Go.Abs
open Go
open Go.RowKit (Below)

section
variable {P : Program} {w0 : Wo} {B : Nat} {ρ : Rho} {m : Mem} {w : World} {env : Env} {fr : Frame} {cs : List Frame} {tmps : T AVal} {ds : List ADef} {up : Chain} {rec : Run} {fl : Fl}

theorem fnDef_app {v : AVal} {d : ADef} (e : fnDef [] v = some d) (extra : List AVal) : fnDef extra v = some { d with args := appL d.args extra } := by
  unfold fnDef at e ⊢
  split at e
  · rename_i fn first captured
    cases hy : isYield fn with
    | true => rw [hy] at e; cases e
    | false =>
      rw [hy] at e
      simp only [cond_false, Option.some.injEq] at e
      subst e
      simp [appL_eq]
  · cases e; simp [appL_eq]
  · cases e; rfl
  · cases e; rfl
  · cases e

theorem pend_map (pe : Option Code) (k : List AItem) : (pend pe k).map AItem.toItem = (pe.map Item.code).toList ++ k.map AItem.toItem := by
  cases pe <;> rfl

theorem after_sound (hrec : Sound P w0 B rec) (h : MR w0 B ρ m w) {l b : Nat} (hp : ρ l = some (Pl.obj b)) {k : List AItem} (hF : FR P ρ env (.endRangeFunc b :: k.map AItem.toItem) tmps ds .run fr) (hU : UpR ρ env.dfr up cs) :
    Res P w0 B ρ env cs m (lone fr cs w) (afterLoop rec env l k tmps ds up m (m.heap.get l)) := by
  have hm : fr.mode = .run := hF.mode
  have ht := hF.todo rfl
  unfold afterLoop
  split
  case h_2 => exact trivial
  rename_i st pe fn nt tm ps a bd d ho
  obtain ⟨hB, hpo, x, hw, hL⟩ := h.loop ho hp
  have hgl := run_getLoop (P := P) (b := b) hw
  have hso : ∀ o', (Go.setObj b o').run P w = .ok () (setBlk w b o') := fun o' => run_setObj (b := b) hw (fun _ _ _ e => by cases e)
  have hst : x.state = st := hL.state
  have hpe : x.pending = pe := hL.pending
  have key : st ≠ .busy → Res P w0 B ρ env cs m (lone fr cs w) (rec env (pend pe k) tmps ds .run up (m.put l (.loop ⟨.exhausted, pe, fn, nt, tm, ps, a, bd, d⟩))) := by
    intro hne
    have hbeq : (x.state == .busy) = false := by
      rw [hst]
      cases st <;> first | rfl | exact absurd rfl hne
    have hrun : (Instr.endLoop b).run P w = .ok pe (setBlk w b (.loop { x with state := .exhausted })) := by
      unfold Instr.endLoop
      simp only [run_bind, hgl, hbeq, Bool.false_eq_true, if_false, hso, run_pure, hpe]
    have h' : MR w0 B ρ (m.put l (.loop ⟨.exhausted, pe, fn, nt, tm, ps, a, bd, d⟩)) (setBlk w b (.loop { x with state := .exhausted })) :=
      h.put ho hp (fun _ _ _ _ e => by cases e) (fun _ e => by cases e) (fun _ _ _ _ e => by cases e) hB ⟨hB, hpo, _, rfl, { hL with state := rfl }⟩
    refine Res.later (Rho.le.refl ρ) Keeps.put_new (SameCs.refl _ _) (Res.steps (.one (step_lone_go (fr' := { fr with todo := (pe.map Item.code).toList ++ k.map AItem.toItem }) (cs' := cs) (w' := setBlk w b (.loop { x with state := .exhausted })) ?_))
      (hrec env (pend pe k) tmps ds .run up _ ρ _ _ cs h' (by rw [pend_map]; exact hF.goto _) hU))
    simp [stepG, hm, stepG.exec, ht, Sem.runT_eq, hrun]
  cases st with
  | busy => exact trivial
  | ready => exact key (fun e => by cases e)
  | done => exact key (fun e => by cases e)
  | exhausted => exact key (fun e => by cases e)

theorem rangeIn_sound (hnames : NamesOK P) (hrec : Sound P w0 B rec) (hcall : CallOK P w0 B fl rec) (h : MR w0 B ρ m w) {f : Operand} {k : List AItem} {lp : ALoop} {x : Loop} (hL : ∀ ρ', ρ.le ρ' → LoopR ρ' lp x)
    {mark : List Deferred} {its : List Item} (hF : FR P ρ env its tmps ds .run { fr with defers := mark ++ fr.defers }) (hU : UpR ρ env.dfr up cs)
    {w1 : World} {call : Call} (hc1 : call.callee = .value f) (hc2 : call.args = #[.const (.func (.yield w.heap.size) #[] #[])])
    (hst : (stepG P true (gor fr cs) w1).bare = (stepG.apply P true { fr with todo := .inRangeFunc w.heap.size :: k.map AItem.toItem, defers := mark ++ fr.defers } cs none (do let d ← resolve fr.eval call 0; invoke d.target d.args) (w.alloc (.loop x))).bare) :
    Res P w0 B ρ env cs m (lone fr cs w1) (rangeIn P fl rec env f k lp tmps ds up m) := by
  obtain ⟨h1, hle⟩ := h.newObj (.loop lp) (.loop x) (fun _ _ _ _ e => by cases e) (fun ρ' hl => ⟨h.size, rfl, x, rfl, hL ρ' hl⟩)
  have hp : (ρ.add m.next (Pl.obj w.heap.size)) m.next = some (Pl.obj w.heap.size) := Rho.add_same _ _ _
  obtain ⟨ρ1, hρ1⟩ : ∃ ρ1, ρ1 = ρ.add m.next (Pl.obj w.heap.size) := ⟨_, rfl⟩
  rw [← hρ1] at h1 hle hp
  obtain ⟨fr2, hfr2⟩ : ∃ fr2 : Frame, fr2 = { fr with todo := .inRangeFunc w.heap.size :: k.map AItem.toItem, defers := mark ++ fr.defers } := ⟨_, rfl⟩
  rw [← hfr2] at hst
  have hF2 : ∀ {ρ' : Rho}, ρ.le ρ' → ∀ its', FR P ρ' env its' tmps ds .run { fr2 with todo := its' } := by
    intro ρ' hl its'
    rw [hfr2]
    exact (hF.mono hl).goto its'
  unfold rangeIn
  cases hd : fnDef [] (evalT tmps f) with
  | none => exact trivial
  | some d =>
    obtain ⟨t, cap, coll, args⟩ := d
    show Res P w0 B ρ env cs m (lone fr cs w1) (ranO P fl rec env m.next k tmps ds up (callTarget P cap (appL args [.yield m.next]) (m.new (.loop lp)) t))
    have hd2 := fnDef_app hd [.yield m.next]
    have hval : R ρ1 (evalT tmps f) (fr.eval f) := by
      have := (hF.mono hle).eval f
      cases f <;> exact this
    obtain ⟨hcn, y, hy, hDR⟩ := fnDef_sound hval (args := [.yield m.next]) (xs := #[.func (.yield w.heap.size) #[] #[]]) (by simp only [RL]; exact ⟨_, _, rfl, by simp only [R]; exact ⟨_, hp, rfl⟩, rfl⟩) hd2 (w.alloc (.loop x)) (P := P)
    dsimp only at hcn
    subst hcn
    obtain ⟨hRa, hTg⟩ := hDR
    have hNR := invoke_sound (P := P) h1 hTg hRa
    have hK : Keeps m (m.new (.loop lp)) := Keeps.new
    have hres : (do let d ← resolve fr.eval call 0; invoke d.target d.args : Sem Next).run P (w.alloc (.loop x)) = (invoke y.target y.args).run P (w.alloc (.loop x)) := by
      rw [run_bind]
      have : (resolve fr.eval call 0).run P (w.alloc (.loop x)) = .ok y (w.alloc (.loop x)) := by
        unfold resolve
        have hmap : Array.map fr.eval #[Operand.const (Value.func (Fn.yield w.heap.size) #[] #[])] = #[Value.func (Fn.yield w.heap.size) #[] #[]] := by simp [Frame.eval]
        simp only [hc1, hc2, hmap]
        exact hy
      rw [this]
    dsimp only at hNR
    generalize hout : callTarget P cap (appL args [.yield m.next]) (m.new (.loop lp)) t = out at hNR
    unfold ranO
    split
    · rename_i g args' m'
      obtain ⟨rfl, xs, e1, e2⟩ := hNR
      rcases hcall ρ1 _ (w.alloc (.loop x)) g args' xs false (fr2 :: cs) [] h1 e2 (fun e => by cases e) with ⟨why, hb⟩ | ⟨fn, c, hf, hb, hr⟩
      · rw [hb]; exact trivial
      · rw [run_callFunc hnames hf hb] at e1
        have hnc : ∀ d x y z k', fr2.todo ≠ .call d x y z :: k' := by intro d x y z k' e; rw [hfr2] at e; cases e
        refine Res.steps (.one (step_lone_go (by rw [hst]; exact apply_enter (hres.trans e1) hnc))) ?_
        refine Res.later hle hK (SameCs.refl _ _) (got_sound (env' := ⟨g, fn.ntmps, false, none⟩) rfl ?_ ?_ hr)
        · intro ρ' v x' m' w' hle' hM hR hk
          have hfin : fr2.finish x' = { fr2 with todo := .endRangeFunc w.heap.size :: k.map AItem.toItem } := by rw [hfr2]; rfl
          rw [hfin]
          exact Res.later hle' hk (SameCs.refl _ _) (after_sound hrec hM (hle' _ _ hp) (hF2 (hle.trans hle') _) (hU.mono (hle.trans hle')))
        · intro ρ' c' ch m' w' hle' hM hC hk
          refine Res.later hle' hk (SameCs.refl _ _) (hrec env k tmps ds (.panicking c') up m' ρ' w' _ cs hM ?_ (hU.mono (hle.trans hle')))
          have h9 := (hF2 (ρ' := ρ') (hle.trans hle') fr2.todo).raise (Rho.le.refl ρ') hC
          exact h9.panicking
    · exact trivial
    · exact trivial

theorem rangeF_sound (hnames : NamesOK P) (hrec : Sound P w0 B rec) (hcall : CallOK P w0 B fl rec) (h : MR w0 B ρ m w) {f : Operand} {ps : Array Tmp} {a b : Code} {k : List AItem}
    (hF : FR P ρ env (.code (.rangeFunc f ps a b) :: k.map AItem.toItem) tmps ds .run fr) (hU : UpR ρ env.dfr up cs) :
    Res P w0 B ρ env cs m (lone fr cs w) (rangeF P fl rec env f ps.toList a b k tmps ds up m) := by
  have hm : fr.mode = .run := hF.mode
  have ht := hF.todo rfl
  unfold rangeF
  have hro := hF.round
  cases hrd : env.roundOf with
  | none =>
    rw [hrd] at hro
    have hro' : fr.roundOf = none := hro
    dsimp only
    obtain ⟨h1, hle⟩ := h.newObj (.deferred (some [])) (.deferred (some [])) (fun _ _ _ _ e => by cases e) (fun ρ' hl => ⟨h.size, rfl, [], rfl, rfl⟩)
    have hp : (ρ.add m.next (Pl.obj w.heap.size)) m.next = some (Pl.obj w.heap.size) := Rho.add_same _ _ _
    obtain ⟨ρ1, hρ1⟩ : ∃ ρ1, ρ1 = ρ.add m.next (Pl.obj w.heap.size) := ⟨_, rfl⟩
    rw [← hρ1] at h1 hle hp
    refine Res.later (m1 := m.new (.deferred (some []))) hle Keeps.new (SameCs.refl _ _) ?_
    have hrun : (Instr.enterLoop fr.fn fr.tmps ps a b fr.roundOf).run P w = .ok ((w.alloc (.deferred (some []))).heap.size, [{ target := .collected w.heap.size, args := #[] }])
        ((w.alloc (.deferred (some []))).alloc (.loop { state := .ready, pending := none, fn := fr.fn, tmps := fr.tmps, params := ps, assign := a, body := b, defers := w.heap.size })) := by
      unfold Instr.enterLoop
      rw [hro']
      rfl
    refine rangeIn_sound (fr := fr) (w1 := w) (x := { state := .ready, pending := none, fn := fr.fn, tmps := fr.tmps, params := ps, assign := a, body := b, defers := w.heap.size })
      (mark := [{ target := .collected w.heap.size, args := #[] }]) (its := fr.todo) (call := { callee := .value f, args := #[.const (.func (.yield (w.alloc (.deferred (some []))).heap.size) #[] #[])], argTypes := #[] }) hnames hrec hcall h1 ?_ ?_ (hU.mono hle) rfl rfl ?_
    · intro ρ' hl
      exact ⟨rfl, rfl, hF.fn, hF.size, (hF.tmps.mono (hle.trans hl)), rfl, rfl, rfl, hl _ _ hp⟩
    · refine ⟨hF.fn, hF.size, hF.tmps.mono hle, fun _ => rfl, ⟨_, fr.defers, rfl, ⟨_, hp, rfl⟩, hF.ds.mono hle⟩, hm, hF.kind, hF.round.mono hle, hF.func, hF.norm⟩
    · obtain ⟨fn0, tm0, td0, df0, md0, kd0, ro0⟩ := fr
      dsimp only at hm ht hrun
      subst hm ht
      simp only [stepG, stepG.exec, Sem.runT_eq, hrun, GStep.bare_after]
      rfl
  | some l =>
    rw [hrd] at hro
    obtain ⟨c, hc, hp⟩ := hro
    dsimp only
    split
    case h_2 => exact trivial
    rename_i st pe fn nt tm ps' a' bd d ho
    obtain ⟨hB, hpo, x, hw, hL⟩ := h.loop ho hp
    have hgl := run_getLoop (P := P) (b := c) hw
    have hrun : (Instr.enterLoop fr.fn fr.tmps ps a b fr.roundOf).run P w = .ok (w.heap.size, [])
        (w.alloc (.loop { state := .ready, pending := none, fn := fr.fn, tmps := fr.tmps, params := ps, assign := a, body := b, defers := x.defers })) := by
      unfold Instr.enterLoop
      rw [hc]
      simp only [run_bind, hgl, run_pure, run_newObj']
    refine rangeIn_sound (fr := fr) (w1 := w) (x := { state := .ready, pending := none, fn := fr.fn, tmps := fr.tmps, params := ps, assign := a, body := b, defers := x.defers })
      (mark := []) (its := fr.todo) (call := { callee := .value f, args := #[.const (.func (.yield w.heap.size) #[] #[])], argTypes := #[] }) hnames hrec hcall h ?_ ?_ hU rfl rfl ?_
    · intro ρ' hl
      exact ⟨rfl, rfl, hF.fn, hF.size, hF.tmps.mono hl, rfl, rfl, rfl, hl _ _ hL.defers⟩
    · exact { hF with todo := fun _ => rfl }
    · obtain ⟨fn0, tm0, td0, df0, md0, kd0, ro0⟩ := fr
      dsimp only at hm ht hrun
      subst hm ht
      simp only [stepG, stepG.exec, Sem.runT_eq, hrun, GStep.bare_after]
      rfl
end
end Go.Abs
