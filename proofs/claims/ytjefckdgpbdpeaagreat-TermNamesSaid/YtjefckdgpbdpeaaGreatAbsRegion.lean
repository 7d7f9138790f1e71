/- An executor whose runs hold in every world: a part of it and of what is proved of it. -/
import Derived.Test.YtjefckdgpbdpeaaGreatAbsKeeps

namespace Go.Abs
open Go
open Go.RowKit (Below)

section
variable {P : Program} {w0 : Wo} {B : Nat} {ρ : Rho} {m : Mem} {w : World} {env : Env} {fr : Frame} {cs : List Frame} {tmps : T AVal} {ds : List ADef} {up : Chain} {rec : Run} {fl : Fl}

/-- calls are sound, those that are brought together too -/
def CallOK (P : Program) (w0 : Wo) (B : Nat) (fl : Fl) (rec : Run) : Prop :=
  ∀ (ρ : Rho) (m : Mem) (w : World) (f : FuncId) (args : List AVal) (xs : Array Value) (dfr : Bool) (cs : List Frame) (up : Chain),
    MR w0 B ρ m w → RL ρ args xs.toList → UpR ρ dfr up cs →
    (∃ why, callBody fl rec dfr f args up m P.funcs[f]? = .bad why) ∨
    (∃ fn c, P.funcs[f]? = some fn ∧ fn.body = some c ∧ Res P w0 B ρ ⟨f, fn.ntmps, dfr, none⟩ cs m (lone (Frame.enter P f xs (kindOf dfr)) cs w) (callBody fl rec dfr f args up m P.funcs[f]?))

theorem gotR_eq (panicked : Chain → Chain → Mem → RR) (nt : Nat) (dst : Option Tmp) (cont : Cont) (tmps : T AVal) (ds : List ADef) (up : Chain) (r : RR) :
    gotR panicked nt dst cont tmps ds up r = RR.rec (fun v _ m => cont (setDst nt tmps v dst) ds up m) (fun c _ m => panicked c up m) (fun w => .bad w) (fun _ _ a b => .alt a b) r := rfl

/-- the rest of a region, from a place in it -/
def RestOK (P : Program) (w0 : Wo) (B : Nat) (env : Env) (its : List Item) (cont : Cont) : Prop :=
  ∀ (ρ : Rho) (m : Mem) (w : World) (fr : Frame) (tmps : T AVal) (ds : List ADef) (up : Chain) (cs : List Frame), MR w0 B ρ m w → FR P ρ env its tmps ds .run fr → UpR ρ env.dfr up cs →
    Res P w0 B ρ env cs m (lone fr cs w) (cont tmps ds up m)
/-- the same behind one operation, held against what was there at an earlier begin ('b') -/
def RestAt (P : Program) (wb w0 : Wo) (B : Nat) (ρb : Rho) (csb : List Frame) (mb : Mem) (ρ0 : Rho) (cs0 : List Frame) (m0 : Mem) (env : Env) (its : List Item) (tmps : T AVal) (dst : Option Tmp) (cont : Cont) : Prop :=
  ∀ (ρ : Rho) (m : Mem) (w : World) (fr : Frame) (v : AVal) (ds : List ADef) (up : Chain) (cs : List Frame), ρ0.le ρ → Keeps m0 m → SameCs env.dfr cs0 cs → MR w0 B ρ m w →
    FR P ρ env its (setDst env.nt tmps v dst) ds .run fr → UpR ρ env.dfr up cs → Res P wb B ρb env csb mb (lone fr cs w) (cont (setDst env.nt tmps v dst) ds up m)
/-- a panic out of a frame -/
def PanAt (P : Program) (wb w0 : Wo) (B : Nat) (ρb : Rho) (csb : List Frame) (mb : Mem) (ρ0 : Rho) (cs0 : List Frame) (m0 : Mem) (env : Env) (tmps : T AVal) (ds : List ADef) (panicked : Chain → Chain → Mem → RR) : Prop :=
  ∀ (ρ : Rho) (m : Mem) (w : World) (fr : Frame) (c : Chain) (up : Chain) (cs : List Frame), ρ0.le ρ → Keeps m0 m → SameCs env.dfr cs0 cs → MR w0 B ρ m w → FR P ρ env [] tmps ds (.panicking c) fr → UpR ρ env.dfr up cs →
    Res P wb B ρb env csb mb (lone fr cs w) (panicked c up m)

theorem outR_sound {wb : Wo} {ρb : Rho} {csb : List Frame} {mb : Mem} (hnames : NamesOK P) (hrec : Sound P w0 B rec) (hcall : CallOK P w0 B fl rec) (h : MR w0 B ρ m w) {ops : Array Oper} {i : Nat} {rest : List Nat} {k : List Item} {o : Oper}
    (hF : FR P ρ env (.inRegion ops (i :: rest) :: k) tmps ds .run fr) (hU : UpR ρ env.dfr up cs) (ho : ops[i]? = some o) (hw : Region.wanted o (yielded ops fr.tmps) = true)
    (hd : ∀ c, o.op ≠ .defer c) {cont : Cont} (hcont : RestAt P wb w0 B ρb csb mb ρ cs m env (.inRegion ops rest :: k) tmps o.dst cont) {panicked : Chain → Chain → Mem → RR} (hpan : PanAt P wb w0 B ρb csb mb ρ cs m env tmps ds panicked)
    {out : Out} (hN : NR w0 B ρ m w out P ((execOp fr.eval o).run P w)) (hK : OutK m out) :
    Res P wb B ρb env csb mb (lone fr cs w) (outR P fl rec env panicked o.dst cont tmps ds up m out) := by
  have hm : fr.mode = .run := hF.mode
  have ht := hF.todo rfl
  have hstep := stepG_oper (P := P) (cs := cs) (w := w) hm ht ho hw (.inl hd)
  have hnc : ∀ d x y z k', fr.todo ≠ .call d x y z :: k' := by intro d x y z k' e; rw [ht] at e; cases e
  -- behind a call
  have hback : ∀ {env' : Env} {M : Machine} {r : RR}, env'.dfr = false → Res P w0 B ρ env' (fr :: cs) m M r → Res P wb B ρb env csb mb M (gotR panicked env.nt o.dst cont tmps ds up r) := by
    intro env' M r hdf hr
    rw [gotR_eq]
    refine got_sound hdf ?_ ?_ hr
    · intro ρ' v x m' w' hle hM hR hk
      exact hcont ρ' m' w' _ v ds up cs hle hk (SameCs.refl _ _) hM (hF.finish ho hle hR) (hU.mono hle)
    · intro ρ' c ch m' w' hle hM hC hk
      exact hpan ρ' m' w' _ c up cs hle hk (SameCs.refl _ _) hM (hF.raise hle hC) (hU.mono hle)
  cases out with
  | bad _ => exact trivial
  | val v m' =>
    obtain ⟨x, w', ρ', h1, h2, h3, h4⟩ := hN
    rcases h1 with h1 | ⟨h1, rfl⟩
    · refine Res.steps (.one (step_lone_go (by rw [hstep]; exact apply_value h1))) ?_
      exact hcont ρ' m' w' _ _ ds up cs h2 hK (SameCs.refl _ _) h3 (hF.finish ho h2 h4) (hU.mono h2)
    · refine Res.steps (.one (step_lone_go (by rw [hstep]; exact apply_skip h1))) ?_
      exact hcont ρ' m' w' _ _ ds up cs h2 hK (SameCs.refl _ _) h3 (hF.finish ho h2 (v := .poison) (by simp [R])) (hU.mono h2)
  | panic v m' =>
    obtain ⟨x, w', ρ', h1, h2, h3, h4⟩ := hN
    refine Res.steps (.one (step_lone_go (by rw [hstep]; exact apply_panic h1))) ?_
    exact hpan ρ' m' w' _ _ up cs h2 hK (SameCs.refl _ _) h3 (hF.raise h2 (c := [(v, false)]) ⟨x, [], rfl, h4, rfl⟩) (hU.mono h2)
  | enter f args m' =>
    obtain ⟨rfl, xs, h1, h2⟩ := hN
    show Res P wb B ρb env csb mb _ (gotR panicked env.nt o.dst cont tmps ds up (callBody fl rec false f args [] m' P.funcs[f]?))
    rcases hcall ρ m' w f args xs false (fr :: cs) [] h h2 (fun e => by cases e) with ⟨why, hb⟩ | ⟨fn, c, hf, hb, hr⟩
    · rw [hb]; exact trivial
    · rw [run_callFunc hnames hf hb] at h1
      refine Res.steps (.one (step_lone_go (by rw [hstep]; exact apply_enter h1 hnc))) ?_
      exact hback (env' := ⟨f, fn.ntmps, false, none⟩) rfl hr
  | round l f nt tm a b m' =>
    obtain ⟨rfl, c, ts, h1, h2, h3, h4⟩ := hN
    show Res P wb B ρb env csb mb _ (bif (P.funcs[f]?).isSome then gotR panicked env.nt o.dst cont tmps ds up (rec ⟨f, nt, false, some l⟩ [.code a, .beginRound, .code b] tm [] .run [] m') else .bad "round")
    cases hf : P.funcs[f]? with
    | none => exact trivial
    | some fn =>
      refine Res.steps (.one (step_lone_go (by rw [hstep]; exact apply_round h1))) ?_
      refine hback (env' := ⟨f, nt, false, some l⟩) rfl (hrec _ _ _ _ _ _ _ _ _ _ _ h ?_ (fun e => by cases e))
      exact ⟨rfl, h4, h3, fun _ => rfl, rfl, rfl, rfl, ⟨c, rfl, h2⟩, ⟨fn, hf⟩, fun _ => rfl⟩
  | recov =>
    show Res P wb B ρb env csb mb _ (bif env.roundOf.isSome then .bad "recover in a round" else recovR env o.dst cont tmps ds m up)
    have h1 : (execOp fr.eval o).run P w = .ok .recover w := hN
    cases hro : env.roundOf with
    | some l => exact trivial
    | none =>
      have hfr : fr.roundOf = none := by have := hF.round; rw [hro] at this; exact this
      show Res P wb B ρb env csb mb _ (recovR env o.dst cont tmps ds m up)
      have hnil : tryRecover fr cs = none → ∀ up', up' = up → Res P wb B ρb env csb mb (lone fr cs w) (cont (setDst env.nt tmps (.lit .nilIface) o.dst) ds up' m) := by
        intro htr up' hup
        subst hup
        refine Res.steps (.one (step_lone_go (fr' := fr.finish .nilIface) (cs' := cs) (w' := w) (by rw [hstep]; simp [stepG.apply, Sem.runT_eq, h1, hfr, htr]))) ?_
        exact hcont ρ m w _ _ ds up' cs (Rho.le.refl ρ) (Keeps.refl m) (SameCs.refl _ _) h (hF.finish ho (Rho.le.refl ρ) (v := .lit .nilIface) (by simp [R])) hU
      have hkind := hF.kind
      cases hdf : env.dfr with
      | false =>
        rw [hdf] at hkind
        have htr : tryRecover fr cs = none := by
          have : fr.kind = .normal := hkind
          unfold tryRecover
          rw [this]
        unfold recovR
        split
        · rw [hdf]; exact hnil htr _ rfl
        · exact hnil htr _ rfl
      | true =>
        rw [hdf] at hkind
        have hkd : fr.kind = .deferred := hkind
        obtain ⟨c, rst, rfl, hc⟩ := hU hdf
        unfold recovR
        split
        · rename_i v older
          rw [hdf, cond_true]
          rcases hc with ⟨ch, hcm, hch⟩ | ⟨_, hup⟩
          · obtain ⟨x, xs, rfl, hR, hX⟩ := hch
            have htr : tryRecover fr (c :: rst) = some (x, { c with mode := .panicking ({ v := x, recovered := true } :: xs) } :: rst) := by
              unfold tryRecover
              rw [hkd]
              simp only [hcm]
            refine Res.steps (.one (step_lone_go (fr' := fr.finish x) (cs' := { c with mode := .panicking ({ v := x, recovered := true } :: xs) } :: rst) (w' := w) (by rw [hstep]; simp [stepG.apply, Sem.runT_eq, h1, hfr, htr]))) ?_
            refine hcont ρ m w _ _ ds _ ({ c with mode := .panicking ({ v := x, recovered := true } :: xs) } :: rst) (Rho.le.refl ρ) (Keeps.refl m) ?_ h (hF.finish ho (Rho.le.refl ρ) hR) ?_
            · refine ⟨fun e => (by rw [hdf] at e; cases e), fun c' rest' e => ?_, fun e => (by cases e)⟩
              cases e
              exact ⟨_, rfl, fun e => (by rw [hcm] at e; cases e), fun _ _ => ⟨_, rfl⟩⟩
            · intro _
              exact ⟨_, rst, rfl, .inl ⟨_, rfl, x, xs, rfl, hR, hX⟩⟩
          · cases hup
        · rename_i hno
          have htr : tryRecover fr (c :: rst) = none := by
            unfold tryRecover
            rw [hkd]
            rcases hc with ⟨ch, hcm, hch⟩ | ⟨hcm, _⟩
            · simp only [hcm]
              cases up with
              | nil => have : ch = [] := hch; subst this; rfl
              | cons a older =>
                obtain ⟨v, rc⟩ := a
                obtain ⟨x, xs, rfl, hR, hX⟩ := hch
                cases rc with
                | true => rfl
                | false => exact absurd rfl (hno v older)
            · simp only [hcm]
          exact hnil htr _ rfl
end
end Go.Abs

namespace Go.Abs
open Go
open Go.RowKit (Below)

section
variable {P : Program} {w0 : Wo} {B : Nat} {ρ : Rho} {m : Mem} {w : World} {env : Env} {fr : Frame} {cs : List Frame} {tmps : T AVal} {ds : List ADef} {up : Chain} {rec : Run} {fl : Fl}

theorem gd_sound {its : List Item} {mo : AMode} (hF : FR P ρ env its tmps ds mo fr) {ops : Array Oper} {o : Oper} {b : Bool} (e : gd ops.toList tmps o.guard = some b) : Region.wanted o (yielded ops fr.tmps) = b := by
  unfold Region.wanted
  cases hg : o.guard with
  | none => rw [hg] at e; cases e; rfl
  | some jw =>
    obtain ⟨j, want⟩ := jw
    rw [hg] at e
    have e' : (match dstOf ops.toList j with | some d => gdV want (getT tmps d) | none => some false) = some b := e
    have hdst : dstOf ops.toList j = (ops[j]?).bind (·.dst) := by
      unfold dstOf
      rw [getO_eq]
      simp
    rw [hdst] at e'
    show (yielded ops fr.tmps j == some want) = b
    unfold yielded
    cases hd : (ops[j]?).bind (·.dst) with
    | none => rw [hd] at e'; cases e'; rfl
    | some d =>
      rw [hd] at e'
      dsimp only at e' ⊢
      have hR := hF.tmps d
      show ((match (some d).bind (fr.tmps[·]?) with | some (.bool b) => some b | _ => none) == some want) = b
      rw [Option.bind_some]
      have hval : fr.tmps[d]? = none ∨ fr.tmps[d]? = some (fr.tmps.getD d undef) := by
        cases hx : fr.tmps[d]? with
        | none => exact .inl rfl
        | some x => right; rw [Array.getD_eq_getD_getElem?, hx]; rfl
      have hundef : fr.tmps[d]? = none → fr.tmps.getD d undef = undef := by
        intro h0; rw [Array.getD_eq_getD_getElem?, h0]; rfl
      unfold gdV at e'
      split at e'
      · cases e'
      · rename_i b0 hv
        rw [hv] at hR
        simp only [R] at hR
        cases e'
        rcases hval with h0 | h0
        · rw [hundef h0] at hR; cases hR
        · rw [h0, hR]
          cases b0 <;> cases want <;> rfl
      · rename_i hno1 hno2
        cases e'
        have hnb : ∀ b1, fr.tmps.getD d undef ≠ .bool b1 := by
          intro b1 hb1
          rw [hb1] at hR
          cases hv : getT tmps d with
          | lit v => rw [hv] at hR; simp only [R] at hR; subst hR; exact hno2 _ hv
          | poison => exact hno1 hv
          | ptr r off => rw [hv] at hR; simp only [R] at hR; obtain ⟨_, _, h1⟩ := hR; cases h1
          | slice r off n c ex => rw [hv] at hR; simp only [R] at hR; obtain ⟨_, _, _, _, _, _, h1⟩ := hR; cases h1
          | emptyS => rw [hv] at hR; simp only [R] at hR; obtain ⟨_, _, h1⟩ := hR; cases h1
          | map r => rw [hv] at hR; simp only [R] at hR; obtain ⟨_, _, h1⟩ := hR; cases h1
          | func fn f c => rw [hv] at hR; simp only [R] at hR; obtain ⟨_, _, _, h1, _⟩ := hR; cases h1
          | yield l => rw [hv] at hR; simp only [R] at hR; obtain ⟨_, _, h1⟩ := hR; cases h1
          | iface t v => rw [hv] at hR; simp only [R] at hR; obtain ⟨_, h1, _⟩ := hR; cases h1
          | agg l => rw [hv] at hR; simp only [R] at hR; obtain ⟨_, h1, _⟩ := hR; cases h1
          | tuple l => rw [hv] at hR; simp only [R] at hR; obtain ⟨_, h1, _⟩ := hR; cases h1
        rcases hval with h0 | h0
        · rw [h0]; rfl
        · rw [h0]
          generalize hz : fr.tmps.getD d undef = z
          rw [hz] at hnb
          cases z <;> first | rfl | exact absurd rfl (hnb _)

theorem altsR_nil (f : AEnt → RR) : altsR f [] = .bad "no entry" := rfl
theorem altsR_cons (f : AEnt → RR) (e : AEnt) (rest : List AEnt) : altsR f (e :: rest) = bif isNil rest then f e else .alt (f e) (altsR f rest) := rfl
theorem altsR_sound {M : Machine} (f : AEnt → RR) : ∀ (es : List AEnt) {e : AEnt}, e ∈ es → Res P w0 B ρ env cs m M (f e) → Res P w0 B ρ env cs m M (altsR f es) := by
  intro es
  induction es with
  | nil => intro e he; cases he
  | cons a rest ih =>
    intro e he hr
    rw [altsR_cons]
    cases hn : isNil rest with
    | true =>
      rw [isNil_eq, List.isEmpty_iff] at hn
      subst hn
      rw [cond_true]
      simp only [List.mem_singleton] at he
      subst he
      exact hr
    | false =>
      rw [cond_false]
      rcases List.mem_cons.1 he with rfl | he
      · exact .inl hr
      · exact .inr (ih he hr)

theorem K_nextOp (s : Bool) (x : AVal) : ∀ o, nextOp m s x = .out o → OutK m o := by
  intro o e
  unfold nextOp at e
  split at e
  · unfold nextAt at e
    split at e
    · cases s with
      | true => cases e; exact K_nextStr _ _ _
      | false => cases e; exact trivial
    · cases s with
      | true => cases e; exact trivial
      | false => cases e; exact Keeps.refl _
    · cases s with
      | true => cases e; exact trivial
      | false =>
        rw [cond_false] at e
        unfold nextMap at e
        split at e
        · rename_i es clock _
          generalize (isNil (fltL _ es) && _) = c at e
          cases c with
          | true =>
            rw [cond_true] at e
            unfold nextPick at e
            split at e
            · cases e; exact Keeps.refl _
            · cases e
          | false => cases e; exact trivial
        · cases e; exact trivial
    · cases e; exact trivial
  · cases e; exact trivial

theorem operR_sound {wb : Wo} {ρb : Rho} {csb : List Frame} {mb : Mem} (hnames : NamesOK P) (hrec : Sound P w0 B rec) (hcall : CallOK P w0 B fl rec) (h : MR w0 B ρ m w) {ops : Array Oper} {i : Nat} {rest : List Nat} {k : List Item} {o : Oper}
    (hF : FR P ρ env (.inRegion ops (i :: rest) :: k) tmps ds .run fr) (hU : UpR ρ env.dfr up cs) (ho : ops[i]? = some o) (hw : Region.wanted o (yielded ops fr.tmps) = true)
    {cont : Cont} (hcont : RestAt P wb w0 B ρb csb mb ρ cs m env (.inRegion ops rest :: k) tmps o.dst cont) {panicked : Chain → Chain → Mem → RR} (hpan : PanAt P wb w0 B ρb csb mb ρ cs m env tmps ds panicked) :
    Res P wb B ρb env csb mb (lone fr cs w) (operR P fl rec env panicked o.dst cont tmps ds up m o.op) := by
  have hev : ∀ x, R ρ (evalT tmps x) (fr.eval x) := fun x => hF.eval x
  have hm : fr.mode = .run := hF.mode
  have ht := hF.todo rfl
  have gen : (∀ c, o.op ≠ .defer c) → Res P wb B ρb env csb mb (lone fr cs w) (outR P fl rec env panicked o.dst cont tmps ds up m (aop P tmps m o.op)) := fun hd =>
    outR_sound hnames hrec hcall h hF hU ho hw hd hcont hpan (aop_sound h hev o) (K_aop _ _ _)
  unfold operR
  split
  · rename_i c hop
    unfold dferR
    cases hd : resolveC tmps c with
    | none => exact trivial
    | some d =>
      dsimp only
      cases hro : env.roundOf with
      | some l => exact trivial
      | none =>
        dsimp only
        have hfr : fr.roundOf = none := by have := hF.round; rw [hro] at this; exact this
        obtain ⟨_, y, h1, h2⟩ := resolve_sound hev c o.type hd w (P := P)
        have hrun : (execOp fr.eval o).run P w = .ok (.defer y) w := by
          simp only [execOp, hop, run_bind, h1, run_pure]
        have hstep := stepG_oper (P := P) (cs := cs) (w := w) hm ht ho hw (.inr hfr)
        refine Res.steps (.one (step_lone_go (by rw [hstep]; exact apply_defer hrun))) ?_
        have hF2 : FR P ρ env (.inRegion ops (i :: rest) :: k) tmps (d :: ds) .run { fr with defers := y :: fr.defers } :=
          { hF with ds := ⟨y, _, rfl, h2, hF.ds⟩ }
        exact hcont ρ m w _ _ (d :: ds) up cs (Rho.le.refl ρ) (Keeps.refl m) (SameCs.refl _ _) h (hF2.finish ho (Rho.le.refl ρ) (v := .poison) (by simp [R])) hU
  · rename_i it s hop
    have hd : ∀ c, o.op ≠ .defer c := by intro c e; rw [hop] at e; cases e
    have hX := next_sound (P := P) h hev o it s hop
    unfold nextR
    cases hn : nextOp m s (evalT tmps it) with
    | out out =>
      rw [hn] at hX
      exact outR_sound hnames hrec hcall h hF hU ho hw hd hcont hpan hX (K_nextOp _ _ _ hn)
    | alts m' r q since seen clock es =>
      rw [hn] at hX
      obtain ⟨rfl, e, he, hNR⟩ := hX
      exact altsR_sound (fun e => outR P fl rec env panicked o.dst cont tmps ds up m' (tookE m' r q since seen clock e)) es he
        (outR_sound hnames hrec hcall h hF hU ho hw hd hcont hpan hNR (K_tookE _ _ _ _ _ _))
  · rename_i hno1 hno2
    exact gen fun c e => hno1 c e

theorem FR.panicking {its its' : List Item} {c : Chain} (hF : FR P ρ env its tmps ds (.panicking c) fr) : FR P ρ env its' tmps ds (.panicking c) fr :=
  { hF with todo := fun e => (by cases e) }

theorem step_skip_op {ops : Array Oper} {i : Nat} {rest : List Nat} {k : List Item} {o : Oper} (hm : fr.mode = .run) (ht : fr.todo = .inRegion ops (i :: rest) :: k) (ho : ops[i]? = some o)
    (hw : Region.wanted o (yielded ops fr.tmps) = false) : step P (lone fr cs w) = .next (lone (fr.finish undef) cs w) :=
  step_lone_go (by simp [stepG, stepG.exec, hm, ht, ho, hw])

theorem region_sound (hnames : NamesOK P) (hrec : Sound P w0 B rec) (hcall : CallOK P w0 B fl rec) {ops : Array Oper} {k : List AItem} :
    ∀ (suf : List Oper) (i : Nat), ops.toList.drop i = suf → RestOK P w0 B env (.inRegion ops (List.range' i suf.length) :: k.map AItem.toItem) (regionGo P fl rec env ops.toList k suf) := by
  intro suf
  induction suf with
  | nil =>
    intro i _ ρ m w fr tmps ds up cs h hF hU
    have hm : fr.mode = .run := hF.mode
    have ht : fr.todo = .inRegion ops [] :: k.map AItem.toItem := hF.todo rfl
    exact go_on hrec h (hF.goto _) hU (by simp [stepG, stepG.exec, hm, ht])
  | cons o suf ih =>
    intro i hdrop ρ m w fr tmps ds up cs h hF hU
    have ho : ops[i]? = some o := by
      have := congrArg (fun z => z[0]?) hdrop
      simpa using this
    have hdrop' : ops.toList.drop (i + 1) = suf := by
      have := congrArg List.tail hdrop
      simpa using this
    have hits : List.range' i (o :: suf).length = i :: List.range' (i + 1) suf.length := by
      rw [List.length_cons, List.range'_succ]
    rw [hits] at hF
    have hih := ih (i + 1) hdrop'
    show Res P w0 B ρ env cs m (lone fr cs w) (match gd ops.toList tmps o.guard with
      | some true => operR P fl rec env (fun c up m => rec env k tmps ds (.panicking c) up m) o.dst (regionGo P fl rec env ops.toList k suf) tmps ds up m o.op
      | some false => regionGo P fl rec env ops.toList k suf (setDst env.nt tmps undefA o.dst) ds up m
      | none => .bad "guard")
    cases hg : gd ops.toList tmps o.guard with
    | none => exact trivial
    | some b =>
      have hw := gd_sound hF hg
      cases b with
      | true =>
        refine operR_sound hnames hrec hcall h hF hU ho hw ?_ ?_
        · intro ρ1 m1 w1 fr1 v ds1 up1 cs1 hle hk hsc h1 hF1 hU1
          exact Res.later hle hk hsc (hih ρ1 m1 w1 fr1 _ ds1 up1 cs1 h1 hF1 hU1)
        · intro ρ1 m1 w1 fr1 c up1 cs1 hle hk hsc h1 hF1 hU1
          exact Res.later hle hk hsc (hrec env k tmps ds _ up1 m1 ρ1 w1 fr1 cs1 h1 hF1.panicking hU1)
      | false =>
        refine Res.steps (.one (step_skip_op hF.mode (hF.todo rfl) ho hw)) ?_
        exact hih ρ m w _ _ ds up cs h (hF.finish ho (Rho.le.refl ρ) (v := undefA) (by simp only [undefA, R]; rfl)) hU
end
end Go.Abs
