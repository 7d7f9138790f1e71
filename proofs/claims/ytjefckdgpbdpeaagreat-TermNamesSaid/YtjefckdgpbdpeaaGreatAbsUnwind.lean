/- An executor whose runs hold in every world: a part of it and of what is proved of it. -/
import Derived.Test.YtjefckdgpbdpeaaGreatAbsRegion

namespace Go.Abs
open Go
open Go.RowKit (Below)

section
variable {P : Program} {w0 : Wo} {B : Nat} {ρ : Rho} {m : Mem} {w : World} {env : Env} {fr : Frame} {cs : List Frame} {tmps : T AVal} {ds : List ADef} {up : Chain} {rec : Run} {fl : Fl}

/-! ## results -/
def resF (a : Array Value) : ResultVar → Sem Value
  | .tmp t => pure (a.getD t undef)
  | .cell c t => do Go.loadVar t (← asAddr (a.getD c undef))
theorem results_eq (fn : Func) (a : Array Value) : results fn a = (do let vs ← fn.results.mapM (resF a); pure (if h : vs.size = 1 then vs[0] else .tuple vs)) := rfl
theorem resVal_sound (h : MR w0 B ρ m w) {a : Array Value} (hT : TR ρ tmps a) {x : ResultVar} {v : AVal} (e : resVal P tmps m x = some v) :
    ∃ y, (resF a x).run P w = .ok y w ∧ R ρ v y := by
  unfold resVal at e
  split at e
  · rename_i t
    cases e
    exact ⟨_, rfl, hT t⟩
  · rename_i c t
    split at e
    · rename_i r off hr
      have hR := hT c
      rw [hr] at hR
      simp only [R] at hR
      obtain ⟨p, hp, hx⟩ := hR
      obtain ⟨y, h1, h2⟩ := loadVar_sound h hp e
      refine ⟨y, ?_, h2⟩
      show ((do Go.loadVar t (← asAddr (a.getD c undef))) : Sem Value).run P w = _
      rw [hx, run_bind]
      exact h1
    · cases e
theorem resVals_sound (h : MR w0 B ρ m w) {a : Array Value} (hT : TR ρ tmps a) : ∀ (l : List ResultVar) {vs : List AVal}, resVals P tmps m l = some vs →
    ∃ ys : List Value, (l.mapM (resF a) : Sem (List Value)).run P w = .ok ys w ∧ RL ρ vs ys
  | [], vs, e => by
    cases e
    exact ⟨[], rfl, by simp [RL]⟩
  | x :: xs, vs, e => by
    unfold resVals at e
    split at e
    · rename_i v hv
      rw [Option.map_eq_some_iff] at e
      obtain ⟨us, h1, rfl⟩ := e
      obtain ⟨y, h2, h3⟩ := resVal_sound h hT hv
      obtain ⟨ys, h4, h5⟩ := resVals_sound h hT xs h1
      refine ⟨y :: ys, ?_, by simp only [RL]; exact ⟨y, ys, rfl, h3, h5⟩⟩
      rw [List.mapM_cons, run_bind, h2]
      dsimp only
      rw [run_bind, h4]
      rfl
    · cases e
theorem one_R {vs : List AVal} {ys : List Value} (h : RL ρ vs ys) : R ρ (one vs) (if h : ys.toArray.size = 1 then ys.toArray[0] else .tuple ys.toArray) := by
  match vs, h with
  | [], h =>
    obtain rfl : ys = [] := by simpa only [RL] using h
    simp [one, R, RL]
  | [v], h =>
    obtain ⟨y, ys', rfl, h1, h2⟩ := h.cons_inv
    obtain rfl : ys' = [] := by simpa only [RL] using h2
    simpa [one] using h1
  | v :: v' :: vs, h =>
    obtain ⟨y, ys', rfl, h1, h2⟩ := h.cons_inv
    obtain ⟨y', ys'', rfl, h3, h4⟩ := h2.cons_inv
    have : ¬ ((y :: y' :: ys'').toArray.size = 1) := by simp
    rw [dif_neg this]
    show R ρ (.tuple (v :: v' :: vs)) _
    simp only [R]
    exact ⟨_, rfl, h⟩
theorem results_sound (h : MR w0 B ρ m w) {a : Array Value} (hT : TR ρ tmps a) {fn : Func} {vs : List AVal} (e : resVals P tmps m fn.results.toList = some vs) :
    ∃ y, (results fn a).run P w = .ok y w ∧ R ρ (one vs) y := by
  obtain ⟨ys, h1, h2⟩ := resVals_sound h hT _ e
  refine ⟨_, ?_, one_R h2⟩
  rw [results_eq, run_bind]
  rw [Array.mapM_eq_mapM_toList, map_eq_pure_bind, run_bind, h1]
  rfl

theorem ret_done (h : MR w0 B ρ m w) (hF : FR P ρ env [] tmps [] .returning fr) (hU : UpR ρ env.dfr up cs) :
    Res P w0 B ρ env cs m (lone fr cs w) (retGo P tmps up m P.funcs[env.fn]?) := by
  have hm : fr.mode = .returning := hF.mode
  have hd : fr.defers = [] := hF.ds
  unfold retGo
  split
  · rename_i fn hf
    unfold retVals
    split
    · rename_i vs hvs
      obtain ⟨y, h1, h2⟩ := results_sound h hF.tmps hvs
      refine ⟨Keeps.refl m, ρ, w, w, fr, cs, y, .refl _ _, Rho.le.refl ρ, h, h2, SameCs.refl _ _, hU, hF.kind, ?_, fun _ => ⟨rfl, hm, hd, hF.fn, fn, by rw [hF.fn]; exact hf, h1⟩⟩
      have hf' : P.funcs[fr.fn]? = some fn := by rw [hF.fn]; exact hf
      simp [stepG, unwind, hm, hd, hf', Sem.runT_eq, h1]
    · exact trivial
  · exact trivial

/-! ## deferred calls -/
theorem stepG_deferred {d : Deferred} {rest : List Deferred} (hm : fr.mode ≠ .run) (hd : fr.defers = d :: rest) (hc : ∀ b, d.target ≠ .collected b) :
    stepG P true (gor fr cs) w = callDeferred P { fr with defers := rest } cs none d w := by
  have h1 : stepG P true (gor fr cs) w = unwind P true fr cs none w := by
    cases hmm : fr.mode with
    | run => exact absurd hmm hm
    | returning => simp [stepG, hmm]
    | panicking c => simp [stepG, hmm]
  rw [h1]
  unfold unwind
  rw [hd]
  obtain ⟨t, a⟩ := d
  cases t with
  | collected b => exact absurd rfl (hc b)
  | _ => rfl

theorem cd_value {f : Frame} {d : Deferred} (hc : ((d.target matches .nil) && (f.mode matches .panicking _)) = false) {x : Value} {w' : World} (hr : (invoke d.target d.args).run P w = .ok (.value x) w') :
    (callDeferred P f cs none d w).bare = .go (gor f cs) w' := by
  obtain ⟨t, a⟩ := d
  dsimp only at hr
  cases t with
  | nil =>
    cases hm : f.mode with
    | panicking c => simp [hm] at hc
    | _ => simp [callDeferred, hm, Sem.runT_eq, hr]
  | _ => simp [callDeferred, Sem.runT_eq, hr]
theorem cd_skip {f : Frame} {d : Deferred} (hc : ((d.target matches .nil) && (f.mode matches .panicking _)) = false) {w' : World} (hr : (invoke d.target d.args).run P w = .ok .skip w') :
    (callDeferred P f cs none d w).bare = .go (gor f cs) w' := by
  obtain ⟨t, a⟩ := d
  dsimp only at hr
  cases t with
  | nil =>
    cases hm : f.mode with
    | panicking c => simp [hm] at hc
    | _ => simp [callDeferred, hm, Sem.runT_eq, hr]
  | _ => simp [callDeferred, Sem.runT_eq, hr]
theorem cd_panic {f : Frame} {d : Deferred} (hc : ((d.target matches .nil) && (f.mode matches .panicking _)) = false) {x : Value} {w' : World} (hr : (invoke d.target d.args).run P w = .halt (.panic x) w') :
    (callDeferred P f cs none d w).bare = .go (gor (f.raise [{ v := x, recovered := false }]) cs) w' := by
  obtain ⟨t, a⟩ := d
  dsimp only at hr
  cases t with
  | nil =>
    cases hm : f.mode with
    | panicking c => simp [hm] at hc
    | _ => simp [callDeferred, hm, Sem.runT_eq, hr]
  | _ => simp [callDeferred, Sem.runT_eq, hr]
theorem cd_enter {f : Frame} {d : Deferred} (hc : ((d.target matches .nil) && (f.mode matches .panicking _)) = false) {g : FuncId} {xs : Array Value} {w' : World} (hr : (invoke d.target d.args).run P w = .ok (.enter g xs) w') :
    (callDeferred P f cs none d w).bare = .go (gor (Frame.enter P g xs .deferred) (f :: cs)) w' := by
  obtain ⟨t, a⟩ := d
  dsimp only at hr
  cases t with
  | nil =>
    cases hm : f.mode with
    | panicking c => simp [hm] at hc
    | _ => simp [callDeferred, hm, Sem.runT_eq, hr]
  | _ => simp [callDeferred, Sem.runT_eq, hr]

theorem MoR.notRun {mode : AMode} {x : FrameMode} (h : MoR ρ mode x) (hn : mode ≠ .run) : x ≠ .run := by
  cases mode with
  | run => exact absurd rfl hn
  | returning => have : x = .returning := h; rw [this]; exact fun e => (by cases e)
  | panicking c => obtain ⟨l, h1, _⟩ := h; rw [h1]; exact fun e => (by cases e)

theorem FR.mode' {its its' : List Item} {mode mode' : AMode} {ds' : List ADef} {dd : List Deferred} {x : FrameMode} (hF : FR P ρ env its tmps ds mode fr) {ρ' : Rho} (hle : ρ.le ρ') (hn : mode' ≠ .run) (hx : MoR ρ' mode' x) (hd : DsR ρ' ds' dd) :
    FR P ρ' env its' tmps ds' mode' { fr with defers := dd, mode := x } :=
  ⟨hF.fn, hF.size, hF.tmps.mono hle, fun e => absurd e hn, hd, hx, hF.kind, hF.round.mono hle, hF.func, hF.norm⟩

theorem raise_pan {ch ch' : List PanicEntry} {f : Frame} (h : f.mode = .panicking ch') : f.raise ch = { f with mode := .panicking (ch ++ ch') } := by
  simp [Frame.raise, h]
theorem raise_ret {ch : List PanicEntry} {f : Frame} (h : ∀ c, f.mode ≠ .panicking c) : f.raise ch = { f with mode := .panicking ch } := by
  unfold Frame.raise
  split
  · rename_i c hc; exact absurd hc (h c)
  · rfl

theorem behind_ne {mode : AMode} (hn : mode ≠ .run) (c : Chain) : behind mode c ≠ .run := by
  unfold behind
  split
  · split <;> exact fun e => (by cases e)
  · exact hn
theorem raised_ne (c up' : Chain) (mode : AMode) : raised c up' mode ≠ .run := by
  unfold raised
  split <;> exact fun e => (by cases e)

theorem dGo_sound (hnames : NamesOK P) (hrec : Sound P w0 B rec) (hcall : CallOK P w0 B fl rec) (h : MR w0 B ρ m w) {mode : AMode} (hn : mode ≠ .run) {t : Target} {cap args : List AVal} {ds : List ADef}
    (hF : FR P ρ env [] tmps (⟨t, cap, none, args⟩ :: ds) mode fr) (hU : UpR ρ env.dfr up cs) (hnil : (isNilT t && isPan mode) = false) :
    Res P w0 B ρ env cs m (lone fr cs w) (dGo P fl rec env tmps ds mode up (callTarget P cap args m t)) := by
  obtain ⟨d, rest, hd, ⟨hargs, htgt⟩, hds⟩ := hF.ds
  have hrun : fr.mode ≠ .run := hF.mode.notRun hn
  have hncoll : ∀ b, d.target ≠ .collected b := by
    intro b e
    rw [e] at htgt
    cases t with
    | fn fn c => cases fn <;> first | (obtain ⟨_, h1, _⟩ := htgt; cases h1) | (obtain ⟨_, _, h1, _⟩ := htgt; cases h1)
    | builtin b ats ty cs => obtain ⟨_, _, h1⟩ := htgt; cases h1
    | nil => cases (show Target.collected b = .nil from htgt)
    | _ => exact htgt.elim
  have hstep := stepG_deferred (P := P) (cs := cs) (w := w) hrun hd hncoll
  have hnotnil : ((d.target matches .nil) && (fr.mode matches .panicking _)) = false := by
    cases mode with
    | run => exact absurd rfl hn
    | returning =>
      have : fr.mode = .returning := hF.mode
      rw [this]; simp
    | panicking c =>
      have ht : isNilT t = false := by simpa [isPan] using hnil
      cases t with
      | nil => cases ht
      | fn fn c => cases fn <;> first | (obtain ⟨_, h1, _⟩ := htgt; rw [h1]; rfl) | (obtain ⟨_, _, h1, _⟩ := htgt; rw [h1]; rfl)
      | builtin b ats ty cs => obtain ⟨_, _, h1⟩ := htgt; rw [h1]; rfl
      | _ => exact htgt.elim
  have hNR := invoke_sound (P := P) h (t := t) (t' := d.target) htgt hargs
  have hK := K_callTarget (m := m) P cap args t
  obtain ⟨fr2, hfr2⟩ : ∃ fr2 : Frame, fr2 = { fr with defers := rest } := ⟨_, rfl⟩
  -- the frame goes on unwinding
  have hgo : ∀ {ρ' : Rho} {m' : Mem} {w' : World} {mode' : AMode} {x : FrameMode}, ρ.le ρ' → Keeps m m' → MR w0 B ρ' m' w' → mode' ≠ .run → MoR ρ' mode' x →
      Res P w0 B ρ env cs m (lone { fr2 with mode := x } cs w') (rec env [] tmps ds mode' up m') := by
    intro ρ' m' w' mode' x hle hk hM hn' hx
    refine Res.later hle hk (SameCs.refl _ _) (hrec env [] tmps ds mode' up m' ρ' w' _ cs hM ?_ (hU.mono hle))
    rw [hfr2]
    exact hF.mode' hle hn' hx (hds.mono hle)
  have hcd : ∀ s, callDeferred P fr2 cs none d w = s → stepG P true (gor fr cs) w = s := by
    intro s e; rw [hstep, ← hfr2, e]
  have hmode2 : fr2.mode = fr.mode := by rw [hfr2]
  have hnn : ((d.target matches .nil) && (fr2.mode matches .panicking _)) = false := by rw [hmode2]; exact hnotnil
  generalize hout : callTarget P cap args m t = out at hNR hK
  cases out with
  | bad _ => exact trivial
  | recov => exact trivial
  | round _ _ _ _ _ _ _ => exact trivial
  | val v m' =>
    obtain ⟨x, w', ρ', h1, h2, h3, h4⟩ := hNR
    show Res P w0 B ρ env cs m (lone fr cs w) (rec env [] tmps ds mode up m')
    have hst : (stepG P true (gor fr cs) w).bare = .go (gor fr2 cs) w' := by
      rw [hstep, ← hfr2]
      rcases h1 with h1 | ⟨h1, _⟩
      · exact cd_value hnn h1
      · exact cd_skip hnn h1
    refine Res.steps (.one (step_lone_go hst)) ?_
    have := hgo (mode' := mode) (x := fr.mode) h2 hK h3 hn (hF.mode.mono h2)
    rw [← hmode2] at this
    exact this
  | panic v m' =>
    obtain ⟨x, w', ρ', h1, h2, h3, h4⟩ := hNR
    show Res P w0 B ρ env cs m (lone fr cs w) (rec env [] tmps ds (raised [(v, false)] (chainOf mode) mode) up m')
    have hst : (stepG P true (gor fr cs) w).bare = .go (gor (fr2.raise [{ v := x, recovered := false }]) cs) w' := by
      rw [hstep, ← hfr2]
      exact cd_panic hnn h1
    refine Res.steps (.one (step_lone_go hst)) ?_
    cases mode with
    | run => exact absurd rfl hn
    | returning =>
      have hmm : fr2.mode = .returning := hmode2.trans hF.mode
      rw [raise_ret (by intro c e; rw [hmm] at e; cases e)]
      exact hgo h2 hK h3 (raised_ne _ _ _) ⟨_, rfl, x, [], rfl, h4, rfl⟩
    | panicking c =>
      obtain ⟨l, hl, hc⟩ := hF.mode
      have hmm : fr2.mode = .panicking l := hmode2.trans hl
      rw [raise_pan hmm]
      refine hgo h2 hK h3 (raised_ne _ _ _) ⟨_, rfl, ?_⟩
      rw [appL_eq]
      exact ChR.append (c := [(v, false)]) ⟨x, [], rfl, h4, rfl⟩ (hc.mono h2)
  | enter f args' m' =>
    obtain ⟨rfl, xs, h1, h2⟩ := hNR
    show Res P w0 B ρ env cs m' (lone fr cs w) (dRan rec env tmps ds mode up (callBody fl rec true f args' (chainOf mode) m' P.funcs[f]?))
    have hUp : UpR ρ true (chainOf mode) (fr2 :: cs) := by
      intro _
      refine ⟨fr2, cs, rfl, ?_⟩
      cases mode with
      | run => exact absurd rfl hn
      | returning => exact .inr ⟨hmode2.trans hF.mode, rfl⟩
      | panicking c => obtain ⟨l, hl, hc⟩ := hF.mode; exact .inl ⟨l, hmode2.trans hl, hc⟩
    rcases hcall ρ m' w f args' xs true (fr2 :: cs) (chainOf mode) h h2 hUp with ⟨why, hb⟩ | ⟨fn, c, hf, hb, hr⟩
    · rw [hb]; exact trivial
    · rw [run_callFunc hnames hf hb] at h1
      have hst : (stepG P true (gor fr cs) w).bare = .go (gor (Frame.enter P f xs .deferred) (fr2 :: cs)) w := by
        rw [hstep, ← hfr2]
        exact cd_enter hnn h1
      refine Res.steps (.one (step_lone_go hst)) ?_
      have hkt : kindOf true = .deferred := rfl
      rw [hkt] at hr
      revert hr
      generalize callBody fl rec true f args' (chainOf mode) m' P.funcs[f]? = rr
      generalize lone (Frame.enter P f xs .deferred) (fr2 :: cs) w = M
      intro hr
      show Res P w0 B ρ env cs m' M (dRan rec env tmps ds mode up rr)
      induction rr with
      | bad _ => exact trivial
      | alt a b iha ihb =>
        rcases hr with hr | hr
        · exact .inl (iha hr)
        · exact .inr (ihb hr)
      | ret v up' m2 =>
        obtain ⟨hk, ρ', w1, w', fr', cs', x, s1, s2, s3, s4, s5, s6, s7, s8, _⟩ := hr
        obtain ⟨md, hcs', hmd1, hmd2⟩ := s5.2.1 fr2 cs rfl
        subst hcs'
        obtain ⟨c0, rest0, hc0, hup⟩ := s6 rfl
        obtain ⟨rfl, rfl⟩ : { fr2 with mode := md } = c0 ∧ cs = rest0 := by cases hc0; exact ⟨rfl, rfl⟩
        have hkd : fr'.kind = .deferred := s7
        show Res P w0 B ρ env cs m' M (rec env [] tmps ds (behind mode up') up m2)
        have hst2 : ∃ x2, (doReturn P true fr' ({ fr2 with mode := md } :: cs) none x w').bare = .go (gor { fr2 with mode := x2 } cs) w' ∧ MoR ρ' (behind mode up') x2 := by
          cases mode with
          | run => exact absurd rfl hn
          | returning =>
            have : md = .returning := hmd1 (hmode2.trans hF.mode)
            subst this
            refine ⟨.returning, ?_, rfl⟩
            simp [doReturn, hkd]
          | panicking c =>
            obtain ⟨l, hl, hc⟩ := hF.mode
            obtain ⟨ch', hch'⟩ := hmd2 l (hmode2.trans hl)
            subst hch'
            rcases hup with ⟨ch, e1, e2⟩ | ⟨e1, _⟩
            · cases e1
              cases up' with
              | nil =>
                have : ch' = [] := e2
                subst this
                refine ⟨.panicking [], ?_, [], rfl, rfl⟩
                simp [doReturn, hkd]
              | cons a older =>
                obtain ⟨v0, rc⟩ := a
                obtain ⟨x0, xs0, rfl, g1, g2⟩ := e2
                cases rc with
                | true =>
                  refine ⟨.returning, ?_, rfl⟩
                  have hdrop : ∀ {c : Chain} {l : List PanicEntry}, ChR ρ' c l → l.dropWhile (fun e => !e.goexit) = [] := by
                    intro c
                    induction c with
                    | nil => intro l hl; have : l = [] := hl; subst this; rfl
                    | cons a c ih =>
                      intro l hl
                      obtain ⟨y, ys, rfl, _, hr⟩ := hl
                      simp [ih hr]
                  have := hdrop g2
                  simp [doReturn, hkd, this]
                | false =>
                  refine ⟨.panicking ({ v := x0, recovered := false } :: xs0), ?_, _, rfl, x0, xs0, rfl, g1, g2⟩
                  simp [doReturn, hkd]
            · cases e1
        obtain ⟨x2, hst2, hx2⟩ := hst2
        refine Res.steps (s1.trans (.one (step_lone_go (by rw [s8]; exact hst2)))) ?_
        exact hgo s2 hk s3 (behind_ne hn _) hx2
      | panicked c up' m2 =>
        obtain ⟨hk, ρ', w', fr', cs', ch, s1, s2, s3, s4, s5, s6, s7, s8, s9, s10⟩ := hr
        obtain ⟨md, hcs', hmd1, hmd2⟩ := s5.2.1 fr2 cs rfl
        subst hcs'
        obtain ⟨c0, rest0, hc0, hup⟩ := s6 rfl
        obtain ⟨rfl, rfl⟩ : { fr2 with mode := md } = c0 ∧ cs = rest0 := by cases hc0; exact ⟨rfl, rfl⟩
        show Res P w0 B ρ env cs m' M (rec env [] tmps ds (raised c up' mode) up m2)
        refine Res.steps (s1.trans (.one (back_panic s7 s8 (by rw [s9]; exact s10)))) ?_
        cases mode with
        | run => exact absurd rfl hn
        | returning =>
          have : md = .returning := hmd1 (hmode2.trans hF.mode)
          subst this
          rw [raise_ret (by intro c e; cases e)]
          exact hgo s2 hk s3 (raised_ne _ _ _) ⟨_, rfl, s4⟩
        | panicking c1 =>
          obtain ⟨l, hl, hc⟩ := hF.mode
          obtain ⟨ch', hch'⟩ := hmd2 l (hmode2.trans hl)
          subst hch'
          rcases hup with ⟨ch2, e1, e2⟩ | ⟨e1, _⟩
          · cases e1
            rw [raise_pan (ch' := ch') rfl]
            refine hgo s2 hk s3 (raised_ne _ _ _) ⟨_, rfl, ?_⟩
            rw [appL_eq]
            exact ChR.append s4 e2
          · cases e1

theorem coll_sound (hrec : Sound P w0 B rec) (h : MR w0 B ρ m w) {mode : AMode} (hn : mode ≠ .run) {t : Target} {cap args : List AVal} {b : Nat} {ds : List ADef}
    (hF : FR P ρ env [] tmps (⟨t, cap, some b, args⟩ :: ds) mode fr) (hU : UpR ρ env.dfr up cs) :
    Res P w0 B ρ env cs m (lone fr cs w) (collGo rec env b tmps ds mode up m (m.heap.get b)) := by
  obtain ⟨d, rest, hd, ⟨c, hp, rfl⟩, hds⟩ := hF.ds
  have hrun : fr.mode ≠ .run := hF.mode.notRun hn
  unfold collGo
  split
  case h_2 => exact trivial
  rename_i calls ho
  obtain ⟨hB, hpo, xs, hw, hX⟩ := h.obj b _ _ ho hp
  have hgo := run_getObj (P := P) (b := c) hw (fun _ _ _ e => by cases e)
  have hso : (Go.setObj c (.deferred none)).run P w = .ok () (setBlk w c (.deferred none)) := run_setObj (b := c) hw (fun _ _ _ e => by cases e)
  have hrun2 : (Instr.takeDeferred c).run P w = .ok xs (setBlk w c (.deferred none)) := by
    unfold Instr.takeDeferred
    simp only [run_bind, hgo, hso, run_pure]
  have h1 : stepG P true (gor fr cs) w = unwind P true fr cs none w := by
    cases hmm : fr.mode with
    | run => exact absurd hmm hrun
    | returning => simp [stepG, hmm]
    | panicking c => simp [stepG, hmm]
  have hst : (stepG P true (gor fr cs) w).bare = .go (gor { fr with defers := xs ++ rest } cs) (setBlk w c (.deferred none)) := by
    rw [h1]
    unfold unwind
    rw [hd]
    simp [Sem.runT_eq, hrun2]
  refine Res.steps (.one (step_lone_go hst)) ?_
  have hM : MR w0 B ρ (m.put b (.deferred none)) (setBlk w c (.deferred none)) :=
    h.put ho hp (fun _ _ _ _ e => by cases e) (fun _ e => by cases e) (fun _ _ _ _ e => by cases e) hB ⟨hB, hpo, rfl⟩
  refine Res.later (Rho.le.refl ρ) Keeps.put_new (SameCs.refl _ _) (hrec env [] tmps _ mode up _ ρ _ _ cs hM ?_ hU)
  have happ : ∀ {a b : List ADef} {x y : List Deferred}, DsR ρ a x → DsR ρ b y → DsR ρ (a ++ b) (x ++ y) := by
    intro a
    induction a with
    | nil => intro b x y hx hy; have : x = [] := hx; subst this; simpa using hy
    | cons a as ih =>
      intro b x y hx hy
      obtain ⟨z, zs, rfl, g1, g2⟩ := hx
      exact ⟨z, _, rfl, g1, ih g2 hy⟩
  have : FR P ρ env [] tmps (appL calls ds) mode { fr with defers := xs ++ rest } := by
    rw [appL_eq]
    exact { hF with todo := fun e => absurd e hn, ds := happ hX hds }
  exact this

theorem unwind_sound (hnames : NamesOK P) (hrec : Sound P w0 B rec) (hcall : CallOK P w0 B fl rec) (h : MR w0 B ρ m w) {mode : AMode} (hn : mode ≠ .run)
    (hF : FR P ρ env [] tmps ds mode fr) (hU : UpR ρ env.dfr up cs) : Res P w0 B ρ env cs m (lone fr cs w) (unwindD P fl rec env tmps mode up m ds) := by
  unfold unwindD
  split
  · rename_i t cap coll args ds'
    cases coll with
    | some b => exact coll_sound hrec h hn hF hU
    | none =>
      dsimp only
      cases hc : isNilT t && isPan mode with
      | true => exact trivial
      | false => exact dGo_sound hnames hrec hcall h hn hF hU hc
  · cases mode with
    | run => exact trivial
    | returning => exact ret_done h hF hU
    | panicking c =>
      obtain ⟨l, hl, hc⟩ := hF.mode
      have hd : fr.defers = [] := hF.ds
      exact ⟨Keeps.refl m, ρ, w, fr, cs, l, .refl _ _, Rho.le.refl ρ, h, hc, SameCs.refl _ _, hU, hl, hd, hF.fn, hF.func⟩
end
end Go.Abs
