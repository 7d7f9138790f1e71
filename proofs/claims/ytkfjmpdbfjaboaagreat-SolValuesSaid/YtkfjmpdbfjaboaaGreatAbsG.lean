/- An executor whose runs hold in every world: a part of it and of what is proved of it. -/
import Derived.Test.YtkfjmpdbfjaboaaGreatAbsF
namespace Go.Abs
open Go
open Go.RowKit (Below)
section
variable {P : Program} {w0 : Wo} {B : Nat} {ρ : Rho} {m : Mem} {w : World} {env : Env} {fr : Frame} {cs : List Frame} {tmps : T AVal} {ds : List ADef} {up : Chain} {rec : Run} {fl : Fl}
def resF (a : Array Value) : ResultVar → Sem Value
 | .tmp t => pure (a.getD t undef)
 | .cell c t => do Go.loadVar t (← asAddr (a.getD c undef))
theorem results_eq (fn : Func) (a : Array Value) : results fn a = (do let vs ← fn.results.mapM (resF a); pure (if h : vs.size = 1 then vs[0] else .tuple vs)) := rfl
theorem resVal_sound (h : MR w0 B ρ m w) {a : Array Value} (hT : TR ρ tmps a) {x : ResultVar} {v : AVal} (e : resVal P tmps m x = some v) :
  ∃ y, (resF a x).run P w = .ok y w ∧ R ρ v y := by
 unfold resVal at e
 split at e
 ·rename_i t
  cases e
  exact ⟨_, rfl, hT t⟩
 ·rename_i c t
  split at e
  ·rename_i r off hr
   have hR := hT c
   rw [hr] at hR
   simp only [R] at hR
   obtain ⟨p, hp, hx⟩ := hR
   obtain ⟨y, h1, h2⟩ := loadVar_sound h hp e
   refine ⟨y, ?_, h2⟩
   show ((do Go.loadVar t (← asAddr (a.getD c undef))) : Sem Value).run P w = _
   rw [hx, run_bind]
   exact h1
  ·cases e
theorem resVals_sound (h : MR w0 B ρ m w) {a : Array Value} (hT : TR ρ tmps a) : ∀ (l : List ResultVar) {vs : List AVal}, resVals P tmps m l = some vs →
  ∃ ys : List Value, (l.mapM (resF a) : Sem (List Value)).run P w = .ok ys w ∧ RL ρ vs ys
 | [], vs, e => by
  cases e
  exact ⟨[], rfl, by simp [RL]⟩
 | x :: xs, vs, e => by
  unfold resVals at e
  split at e
  ·rename_i v hv
   rw [Option.map_eq_some_iff] at e
   obtain ⟨us, h1, rfl⟩ := e
   obtain ⟨y, h2, h3⟩ := resVal_sound h hT hv
   obtain ⟨ys, h4, h5⟩ := resVals_sound h hT xs h1
   refine ⟨y :: ys, ?_, by simp only [RL]; exact ⟨y, ys, rfl, h3, h5⟩⟩
   rw [List.mapM_cons, run_bind, h2]
   dsimp only
   rw [run_bind, h4]
   rfl
  ·cases e
theorem one_R {vs : List AVal} {ys : List Value} (h : RL ρ vs ys) : R ρ (one vs) (if h : ys.toArray.size = 1 then ys.toArray[0] else .tuple ys.toArray) := by
 match vs, h with
 | [], h =>
  obtain rfl : ys = [] := by simpa only [RL] using h
  simp [one, R, RL]
 | [v], h =>
  obtain ⟨y, ys', rfl, h1, h2⟩ := h.cons_inv
  obtain rfl : ys' = [] := by simpa only [RL] using h2
  simpa [one] using h1
 | v :: v' :: vs, h =>
  obtain ⟨y, ys', rfl, h1, h2⟩ := h.cons_inv
  obtain ⟨y', ys'', rfl, h3, h4⟩ := h2.cons_inv
  have : ¬ ((y :: y' :: ys'').toArray.size = 1) := by simp
  rw [dif_neg this]
  show R ρ (.tuple (v :: v' :: vs)) _
  simp only [R]
  exact ⟨_, rfl, h⟩
theorem results_sound (h : MR w0 B ρ m w) {a : Array Value} (hT : TR ρ tmps a) {fn : Func} {vs : List AVal} (e : resVals P tmps m fn.results.toList = some vs) :
  ∃ y, (results fn a).run P w = .ok y w ∧ R ρ (one vs) y := by
 obtain ⟨ys, h1, h2⟩ := resVals_sound h hT _ e
 refine ⟨_, ?_, one_R h2⟩
 rw [results_eq, run_bind]
 rw [Array.mapM_eq_mapM_toList, map_eq_pure_bind, run_bind, h1]
 rfl
theorem ret_done (h : MR w0 B ρ m w) (hF : FR P ρ env [] tmps [] .returning fr) (hU : UpR ρ env.dfr up cs) :
  Res P w0 B ρ env cs m (lone fr cs w) (retGo P tmps up m P.funcs[env.fn]?) := by
 have hm : fr.mode = .returning := hF.mode
 have hd : fr.defers = [] := hF.ds
 unfold retGo
 split
 ·rename_i fn hf
  unfold retVals
  split
  ·rename_i vs hvs
   obtain ⟨y, h1, h2⟩ := results_sound h hF.tmps hvs
   refine ⟨Keeps.refl m, ρ, w, w, fr, cs, y, .refl _ _, Rho.le.refl ρ, h, h2, SameCs.refl _ _, hU, hF.kind, ?_, fun _ => ⟨rfl, hm, hd, hF.fn, fn, by rw [hF.fn]; exact hf, h1⟩⟩
   have hf' : P.funcs[fr.fn]? = some fn := by rw [hF.fn]; exact hf
   simp [stepG, unwind, hm, hd, hf', Sem.runT_eq, h1]
  ·exact trivial
 ·exact trivial
theorem stepG_deferred {d : Deferred} {rest : List Deferred} (hm : fr.mode ≠ .run) (hd : fr.defers = d :: rest) (hc : ∀ b, d.target ≠ .collected b) :
  stepG P true (gor fr cs) w = callDeferred P { fr with defers := rest } cs none d w := by
 have h1 : stepG P true (gor fr cs) w = unwind P true fr cs none w := by
  cases hmm : fr.mode with
  | run => exact absurd hmm hm
  | returning => simp [stepG, hmm]
  | panicking c => simp [stepG, hmm]
 rw [h1]
 unfold unwind
 rw [hd]
 obtain ⟨t, a⟩ := d
 cases t with
 | collected b => exact absurd rfl (hc b)
 | _ => rfl
theorem cd_value {f : Frame} {d : Deferred} (hc : ((d.target matches .nil) && (f.mode matches .panicking _)) = false) {x : Value} {w' : World} (hr : (invoke d.target d.args).run P w = .ok (.value x) w') :
  (callDeferred P f cs none d w).bare = .go (gor f cs) w' := by
 obtain ⟨t, a⟩ := d
 dsimp only at hr
 cases t with
 | nil =>
  cases hm : f.mode with
  | panicking c => simp [hm] at hc
  | _ => simp [callDeferred, hm, Sem.runT_eq, hr]
 | _ => simp [callDeferred, Sem.runT_eq, hr]
theorem cd_skip {f : Frame} {d : Deferred} (hc : ((d.target matches .nil) && (f.mode matches .panicking _)) = false) {w' : World} (hr : (invoke d.target d.args).run P w = .ok .skip w') :
  (callDeferred P f cs none d w).bare = .go (gor f cs) w' := by
 obtain ⟨t, a⟩ := d
 dsimp only at hr
 cases t with
 | nil =>
  cases hm : f.mode with
  | panicking c => simp [hm] at hc
  | _ => simp [callDeferred, hm, Sem.runT_eq, hr]
 | _ => simp [callDeferred, Sem.runT_eq, hr]
theorem cd_panic {f : Frame} {d : Deferred} (hc : ((d.target matches .nil) && (f.mode matches .panicking _)) = false) {x : Value} {w' : World} (hr : (invoke d.target d.args).run P w = .halt (.panic x) w') :
  (callDeferred P f cs none d w).bare = .go (gor (f.raise [{ v := x, recovered := false }]) cs) w' := by
 obtain ⟨t, a⟩ := d
 dsimp only at hr
 cases t with
 | nil =>
  cases hm : f.mode with
  | panicking c => simp [hm] at hc
  | _ => simp [callDeferred, hm, Sem.runT_eq, hr]
 | _ => simp [callDeferred, Sem.runT_eq, hr]
theorem cd_enter {f : Frame} {d : Deferred} (hc : ((d.target matches .nil) && (f.mode matches .panicking _)) = false) {g : FuncId} {xs : Array Value} {w' : World} (hr : (invoke d.target d.args).run P w = .ok (.enter g xs) w') :
  (callDeferred P f cs none d w).bare = .go (gor (Frame.enter P g xs .deferred) (f :: cs)) w' := by
 obtain ⟨t, a⟩ := d
 dsimp only at hr
 cases t with
 | nil =>
  cases hm : f.mode with
  | panicking c => simp [hm] at hc
  | _ => simp [callDeferred, hm, Sem.runT_eq, hr]
 | _ => simp [callDeferred, Sem.runT_eq, hr]
theorem MoR.notRun {mode : AMode} {x : FrameMode} (h : MoR ρ mode x) (hn : mode ≠ .run) : x ≠ .run := by
 cases mode with
 | run => exact absurd rfl hn
 | returning => have : x = .returning := h; rw [this]; exact fun e => (by cases e)
 | panicking c => obtain ⟨l, h1, _⟩ := h; rw [h1]; exact fun e => (by cases e)
theorem FR.mode' {its its' : List Item} {mode mode' : AMode} {ds' : List ADef} {dd : List Deferred} {x : FrameMode} (hF : FR P ρ env its tmps ds mode fr) {ρ' : Rho} (hle : ρ.le ρ') (hn : mode' ≠ .run) (hx : MoR ρ' mode' x) (hd : DsR ρ' ds' dd) :
  FR P ρ' env its' tmps ds' mode' { fr with defers := dd, mode := x } :=
 ⟨hF.fn, hF.size, hF.tmps.mono hle, fun e => absurd e hn, hd, hx, hF.kind, hF.round.mono hle, hF.func, hF.norm⟩
theorem raise_pan {ch ch' : List PanicEntry} {f : Frame} (h : f.mode = .panicking ch') : f.raise ch = { f with mode := .panicking (ch ++ ch') } := by
 simp [Frame.raise, h]
theorem raise_ret {ch : List PanicEntry} {f : Frame} (h : ∀ c, f.mode ≠ .panicking c) : f.raise ch = { f with mode := .panicking ch } := by
 unfold Frame.raise
 split
 ·rename_i c hc; exact absurd hc (h c)
 ·rfl
theorem behind_ne {mode : AMode} (hn : mode ≠ .run) (c : Chain) : behind mode c ≠ .run := by
 unfold behind
 split
 ·split <;> exact fun e => (by cases e)
 ·exact hn
theorem raised_ne (c up' : Chain) (mode : AMode) : raised c up' mode ≠ .run := by
 unfold raised
 split <;> exact fun e => (by cases e)
theorem dGo_sound (hnames : NamesOK P) (hrec : Sound P w0 B rec) (hcall : CallOK P w0 B fl rec) (h : MR w0 B ρ m w) {mode : AMode} (hn : mode ≠ .run) {t : Target} {cap args : List AVal} {ds : List ADef}
  (hF : FR P ρ env [] tmps (⟨t, cap, none, args⟩ :: ds) mode fr) (hU : UpR ρ env.dfr up cs) (hnil : (isNilT t && isPan mode) = false) :
  Res P w0 B ρ env cs m (lone fr cs w) (dGo P fl rec env tmps ds mode up (callTarget P cap args m t)) := by
 obtain ⟨d, rest, hd, ⟨hargs, htgt⟩, hds⟩ := hF.ds
 have hrun : fr.mode ≠ .run := hF.mode.notRun hn
 have hncoll : ∀ b, d.target ≠ .collected b := by
  intro b e
  rw [e] at htgt
  cases t with
  | fn fn c => cases fn <;> first | (obtain ⟨_, h1, _⟩ := htgt; cases h1) | (obtain ⟨_, _, h1, _⟩ := htgt; cases h1)
  | builtin b ats ty cs => obtain ⟨_, _, h1⟩ := htgt; cases h1
  | nil => cases (show Target.collected b = .nil from htgt)
  | _ => exact htgt.elim
 have hstep := stepG_deferred (P := P) (cs := cs) (w := w) hrun hd hncoll
 have hnotnil : ((d.target matches .nil) && (fr.mode matches .panicking _)) = false := by
  cases mode with
  | run => exact absurd rfl hn
  | returning =>
   have : fr.mode = .returning := hF.mode
   rw [this]; simp
  | panicking c =>
   have ht : isNilT t = false := by simpa [isPan] using hnil
   cases t with
   | nil => cases ht
   | fn fn c => cases fn <;> first | (obtain ⟨_, h1, _⟩ := htgt; rw [h1]; rfl) | (obtain ⟨_, _, h1, _⟩ := htgt; rw [h1]; rfl)
   | builtin b ats ty cs => obtain ⟨_, _, h1⟩ := htgt; rw [h1]; rfl
   | _ => exact htgt.elim
 have hNR := invoke_sound (P := P) h (t := t) (t' := d.target) htgt hargs
 have hK := (K_callTarget (m := m) P cap args t).h
 obtain ⟨fr2, hfr2⟩ : ∃ fr2 : Frame, fr2 = { fr with defers := rest } := ⟨_, rfl⟩
 -- the frame goes on unwinding
 have hgo : ∀ {ρ' : Rho} {m' : Mem} {w' : World} {mode' : AMode} {x : FrameMode}, ρ.le ρ' → Keeps m m' → MR w0 B ρ' m' w' → mode' ≠ .run → MoR ρ' mode' x →
   Res P w0 B ρ env cs m (lone { fr2 with mode := x } cs w') (rec env [] tmps ds mode' up m') := by
  intro ρ' m' w' mode' x hle hk hM hn' hx
  refine Res.later hle hk (SameCs.refl _ _) (hrec env [] tmps ds mode' up m' ρ' w' _ cs hM ?_ (hU.mono hle))
  rw [hfr2]
  exact hF.mode' hle hn' hx (hds.mono hle)
 have hcd : ∀ s, callDeferred P fr2 cs none d w = s → stepG P true (gor fr cs) w = s := by
  intro s e; rw [hstep, ← hfr2, e]
 have hmode2 : fr2.mode = fr.mode := by rw [hfr2]
 have hnn : ((d.target matches .nil) && (fr2.mode matches .panicking _)) = false := by rw [hmode2]; exact hnotnil
 generalize hout : callTarget P cap args m t = out at hNR hK
 cases out with
 | bad _ => exact trivial
 | recov => exact trivial
 | round _ _ _ _ _ _ _ => exact trivial
 | val v m' =>
  obtain ⟨x, w', ρ', h1, h2, h3, h4⟩ := hNR
  show Res P w0 B ρ env cs m (lone fr cs w) (rec env [] tmps ds mode up m')
  have hst : (stepG P true (gor fr cs) w).bare = .go (gor fr2 cs) w' := by
   rw [hstep, ← hfr2]
   rcases h1 with h1 | ⟨h1, _⟩
   ·exact cd_value hnn h1
   ·exact cd_skip hnn h1
  refine Res.steps (.one (step_lone_go hst)) ?_
  have := hgo (mode' := mode) (x := fr.mode) h2 hK h3 hn (hF.mode.mono h2)
  rw [← hmode2] at this
  exact this
 | panic v m' =>
  obtain ⟨x, w', ρ', h1, h2, h3, h4⟩ := hNR
  show Res P w0 B ρ env cs m (lone fr cs w) (rec env [] tmps ds (raised [(v, false)] (chainOf mode) mode) up m')
  have hst : (stepG P true (gor fr cs) w).bare = .go (gor (fr2.raise [{ v := x, recovered := false }]) cs) w' := by
   rw [hstep, ← hfr2]
   exact cd_panic hnn h1
  refine Res.steps (.one (step_lone_go hst)) ?_
  cases mode with
  | run => exact absurd rfl hn
  | returning =>
   have hmm : fr2.mode = .returning := hmode2.trans hF.mode
   rw [raise_ret (by intro c e; rw [hmm] at e; cases e)]
   exact hgo h2 hK h3 (raised_ne _ _ _) ⟨_, rfl, x, [], rfl, h4, rfl⟩
  | panicking c =>
   obtain ⟨l, hl, hc⟩ := hF.mode
   have hmm : fr2.mode = .panicking l := hmode2.trans hl
   rw [raise_pan hmm]
   refine hgo h2 hK h3 (raised_ne _ _ _) ⟨_, rfl, ?_⟩
   rw [appL_eq]
   exact ChR.append (c := [(v, false)]) ⟨x, [], rfl, h4, rfl⟩ (hc.mono h2)
 | enter f args' m' =>
  obtain ⟨rfl, xs, h1, h2⟩ := hNR
  show Res P w0 B ρ env cs m' (lone fr cs w) (dRan rec env tmps ds mode up (callBody fl rec true f args' (chainOf mode) m' P.funcs[f]?))
  have hUp : UpR ρ true (chainOf mode) (fr2 :: cs) := by
   intro _
   refine ⟨fr2, cs, rfl, ?_⟩
   cases mode with
   | run => exact absurd rfl hn
   | returning => exact .inr ⟨hmode2.trans hF.mode, rfl⟩
   | panicking c => obtain ⟨l, hl, hc⟩ := hF.mode; exact .inl ⟨l, hmode2.trans hl, hc⟩
  rcases hcall ρ m' w f args' xs true (fr2 :: cs) (chainOf mode) h h2 hUp with ⟨why, hb⟩ | ⟨fn, c, hf, hb, hr⟩
  ·rw [hb]; exact trivial
  ·rw [run_callFunc hnames hf hb] at h1
   have hst : (stepG P true (gor fr cs) w).bare = .go (gor (Frame.enter P f xs .deferred) (fr2 :: cs)) w := by
    rw [hstep, ← hfr2]
    exact cd_enter hnn h1
   refine Res.steps (.one (step_lone_go hst)) ?_
   have hkt : kindOf true = .deferred := rfl
   rw [hkt] at hr
   revert hr
   generalize callBody fl rec true f args' (chainOf mode) m' P.funcs[f]? = rr
   generalize lone (Frame.enter P f xs .deferred) (fr2 :: cs) w = M
   intro hr
   show Res P w0 B ρ env cs m' M (dRan rec env tmps ds mode up rr)
   induction rr with
   | bad _ => exact trivial
   | alt a b iha ihb =>
    rcases hr with hr | hr
    ·exact .inl (iha hr)
    ·exact .inr (ihb hr)
   | ret v up' m2 =>
    obtain ⟨hk, ρ', w1, w', fr', cs', x, s1, s2, s3, s4, s5, s6, s7, s8, _⟩ := hr
    obtain ⟨md, hcs', hmd1, hmd2⟩ := s5.2.1 fr2 cs rfl
    subst hcs'
    obtain ⟨c0, rest0, hc0, hup⟩ := s6 rfl
    obtain ⟨rfl, rfl⟩ : { fr2 with mode := md } = c0 ∧ cs = rest0 := by cases hc0; exact ⟨rfl, rfl⟩
    have hkd : fr'.kind = .deferred := s7
    show Res P w0 B ρ env cs m' M (rec env [] tmps ds (behind mode up') up m2)
    have hst2 : ∃ x2, (doReturn P true fr' ({ fr2 with mode := md } :: cs) none x w').bare = .go (gor { fr2 with mode := x2 } cs) w' ∧ MoR ρ' (behind mode up') x2 := by
     cases mode with
     | run => exact absurd rfl hn
     | returning =>
      have : md = .returning := hmd1 (hmode2.trans hF.mode)
      subst this
      refine ⟨.returning, ?_, rfl⟩
      simp [doReturn, hkd]
     | panicking c =>
      obtain ⟨l, hl, hc⟩ := hF.mode
      obtain ⟨ch', hch'⟩ := hmd2 l (hmode2.trans hl)
      subst hch'
      rcases hup with ⟨ch, e1, e2⟩ | ⟨e1, _⟩
      ·cases e1
       cases up' with
       | nil =>
        have : ch' = [] := e2
        subst this
        refine ⟨.panicking [], ?_, [], rfl, rfl⟩
        simp [doReturn, hkd]
       | cons a older =>
        obtain ⟨v0, rc⟩ := a
        obtain ⟨x0, xs0, rfl, g1, g2⟩ := e2
        cases rc with
        | true =>
         refine ⟨.returning, ?_, rfl⟩
         have hdrop : ∀ {c : Chain} {l : List PanicEntry}, ChR ρ' c l → l.dropWhile (fun e => !e.goexit) = [] := by
          intro c
          induction c with
          | nil => intro l hl; have : l = [] := hl; subst this; rfl
          | cons a c ih =>
           intro l hl
           obtain ⟨y, ys, rfl, _, hr⟩ := hl
           simp [ih hr]
         have := hdrop g2
         simp [doReturn, hkd, this]
        | false =>
         refine ⟨.panicking ({ v := x0, recovered := false } :: xs0), ?_, _, rfl, x0, xs0, rfl, g1, g2⟩
         simp [doReturn, hkd]
      ·cases e1
    obtain ⟨x2, hst2, hx2⟩ := hst2
    refine Res.steps (s1.trans (.one (step_lone_go (by rw [s8]; exact hst2)))) ?_
    exact hgo s2 hk s3 (behind_ne hn _) hx2
   | panicked c up' m2 =>
    obtain ⟨hk, ρ', w', fr', cs', ch, s1, s2, s3, s4, s5, s6, s7, s8, s9, s10⟩ := hr
    obtain ⟨md, hcs', hmd1, hmd2⟩ := s5.2.1 fr2 cs rfl
    subst hcs'
    obtain ⟨c0, rest0, hc0, hup⟩ := s6 rfl
    obtain ⟨rfl, rfl⟩ : { fr2 with mode := md } = c0 ∧ cs = rest0 := by cases hc0; exact ⟨rfl, rfl⟩
    show Res P w0 B ρ env cs m' M (rec env [] tmps ds (raised c up' mode) up m2)
    refine Res.steps (s1.trans (.one (back_panic s7 s8 (by rw [s9]; exact s10)))) ?_
    cases mode with
    | run => exact absurd rfl hn
    | returning =>
     have : md = .returning := hmd1 (hmode2.trans hF.mode)
     subst this
     rw [raise_ret (by intro c e; cases e)]
     exact hgo s2 hk s3 (raised_ne _ _ _) ⟨_, rfl, s4⟩
    | panicking c1 =>
     obtain ⟨l, hl, hc⟩ := hF.mode
     obtain ⟨ch', hch'⟩ := hmd2 l (hmode2.trans hl)
     subst hch'
     rcases hup with ⟨ch2, e1, e2⟩ | ⟨e1, _⟩
     ·cases e1
      rw [raise_pan (ch' := ch') rfl]
      refine hgo s2 hk s3 (raised_ne _ _ _) ⟨_, rfl, ?_⟩
      rw [appL_eq]
      exact ChR.append s4 e2
     ·cases e1
theorem coll_sound (hrec : Sound P w0 B rec) (h : MR w0 B ρ m w) {mode : AMode} (hn : mode ≠ .run) {t : Target} {cap args : List AVal} {b : Nat} {ds : List ADef}
  (hF : FR P ρ env [] tmps (⟨t, cap, some b, args⟩ :: ds) mode fr) (hU : UpR ρ env.dfr up cs) :
  Res P w0 B ρ env cs m (lone fr cs w) (collGo rec env b tmps ds mode up m (m.heap.get b)) := by
 obtain ⟨d, rest, hd, ⟨c, hp, rfl⟩, hds⟩ := hF.ds
 have hrun : fr.mode ≠ .run := hF.mode.notRun hn
 unfold collGo
 split
 case h_2 => exact trivial
 rename_i calls ho
 obtain ⟨hB, hpo, xs, hw, hX⟩ := h.obj b _ _ ho hp
 have hgo := run_getObj (P := P) (b := c) hw (fun _ _ _ e => by cases e)
 have hso : (Go.setObj c (.deferred none)).run P w = .ok () (setBlk w c (.deferred none)) := run_setObj (b := c) hw (fun _ _ _ e => by cases e)
 have hrun2 : (Instr.takeDeferred c).run P w = .ok xs (setBlk w c (.deferred none)) := by
  unfold Instr.takeDeferred
  simp only [run_bind, hgo, hso, run_pure]
 have h1 : stepG P true (gor fr cs) w = unwind P true fr cs none w := by
  cases hmm : fr.mode with
  | run => exact absurd hmm hrun
  | returning => simp [stepG, hmm]
  | panicking c => simp [stepG, hmm]
 have hst : (stepG P true (gor fr cs) w).bare = .go (gor { fr with defers := xs ++ rest } cs) (setBlk w c (.deferred none)) := by
  rw [h1]
  unfold unwind
  rw [hd]
  simp [Sem.runT_eq, hrun2]
 refine Res.steps (.one (step_lone_go hst)) ?_
 have hM : MR w0 B ρ (m.put b (.deferred none)) (setBlk w c (.deferred none)) :=
  h.put ho hp (fun _ _ _ _ e => by cases e) (fun _ e => by cases e) (fun _ _ _ _ e => by cases e) hB ⟨hB, hpo, rfl⟩
 refine Res.later (Rho.le.refl ρ) Keeps.put_new (SameCs.refl _ _) (hrec env [] tmps _ mode up _ ρ _ _ cs hM ?_ hU)
 have happ : ∀ {a b : List ADef} {x y : List Deferred}, DsR ρ a x → DsR ρ b y → DsR ρ (a ++ b) (x ++ y) := by
  intro a
  induction a with
  | nil => intro b x y hx hy; have : x = [] := hx; subst this; simpa using hy
  | cons a as ih =>
   intro b x y hx hy
   obtain ⟨z, zs, rfl, g1, g2⟩ := hx
   exact ⟨z, _, rfl, g1, ih g2 hy⟩
 have : FR P ρ env [] tmps (appL calls ds) mode { fr with defers := xs ++ rest } := by
  rw [appL_eq]
  exact { hF with todo := fun e => absurd e hn, ds := happ hX hds }
 exact this
theorem unwind_sound (hnames : NamesOK P) (hrec : Sound P w0 B rec) (hcall : CallOK P w0 B fl rec) (h : MR w0 B ρ m w) {mode : AMode} (hn : mode ≠ .run)
  (hF : FR P ρ env [] tmps ds mode fr) (hU : UpR ρ env.dfr up cs) : Res P w0 B ρ env cs m (lone fr cs w) (unwindD P fl rec env tmps mode up m ds) := by
 unfold unwindD
 split
 ·rename_i t cap coll args ds'
  cases coll with
  | some b => exact coll_sound hrec h hn hF hU
  | none =>
   dsimp only
   cases hc : isNilT t && isPan mode with
   | true => exact trivial
   | false => exact dGo_sound hnames hrec hcall h hn hF hU hc
 ·cases mode with
  | run => exact trivial
  | returning => exact ret_done h hF hU
  | panicking c =>
   obtain ⟨l, hl, hc⟩ := hF.mode
   have hd : fr.defers = [] := hF.ds
   exact ⟨Keeps.refl m, ρ, w, fr, cs, l, .refl _ _, Rho.le.refl ρ, h, hc, SameCs.refl _ _, hU, hl, hd, hF.fn, hF.func⟩
end
open Go.RowKit (Below)
section
variable {P : Program} {w0 : Wo} {B : Nat} {ρ : Rho} {m : Mem} {w : World} {env : Env} {fr : Frame} {cs : List Frame} {tmps : T AVal} {ds : List ADef} {up : Chain} {rec : Run} {fl : Fl}
theorem fnDef_app {v : AVal} {d : ADef} (e : fnDef [] v = some d) (extra : List AVal) : fnDef extra v = some { d with args := appL d.args extra } := by
 unfold fnDef at e ⊢
 split at e
 ·rename_i fn first captured
  cases hy : isYield fn with
  | true => rw [hy] at e; cases e
  | false =>
   rw [hy] at e
   simp only [cond_false, Option.some.injEq] at e
   subst e
   simp [appL_eq]
 ·cases e; simp [appL_eq]
 ·cases e; rfl
 ·cases e; rfl
 ·cases e
theorem pend_map (pe : Option Code) (k : List AItem) : (pend pe k).map AItem.toItem = (pe.map Item.code).toList ++ k.map AItem.toItem := by
 cases pe <;> rfl
theorem after_sound (hrec : Sound P w0 B rec) (h : MR w0 B ρ m w) {l b : Nat} (hp : ρ l = some (Pl.obj b)) {k : List AItem} (hF : FR P ρ env (.endRangeFunc b :: k.map AItem.toItem) tmps ds .run fr) (hU : UpR ρ env.dfr up cs) :
  Res P w0 B ρ env cs m (lone fr cs w) (afterLoop rec env l k tmps ds up m (m.heap.get l)) := by
 have hm : fr.mode = .run := hF.mode
 have ht := hF.todo rfl
 unfold afterLoop
 split
 case h_2 => exact trivial
 rename_i st pe fn nt tm ps a bd d ho
 obtain ⟨hB, hpo, x, hw, hL⟩ := h.loop ho hp
 have hgl := run_getLoop (P := P) (b := b) hw
 have hso : ∀ o', (Go.setObj b o').run P w = .ok () (setBlk w b o') := fun o' => run_setObj (b := b) hw (fun _ _ _ e => by cases e)
 have hst : x.state = st := hL.state
 have hpe : x.pending = pe := hL.pending
 have key : st ≠ .busy → Res P w0 B ρ env cs m (lone fr cs w) (rec env (pend pe k) tmps ds .run up (m.put l (.loop ⟨.exhausted, pe, fn, nt, tm, ps, a, bd, d⟩))) := by
  intro hne
  have hbeq : (x.state == .busy) = false := by
   rw [hst]
   cases st <;> first | rfl | exact absurd rfl hne
  have hrun : (Instr.endLoop b).run P w = .ok pe (setBlk w b (.loop { x with state := .exhausted })) := by
   unfold Instr.endLoop
   simp only [run_bind, hgl, hbeq, Bool.false_eq_true, if_false, hso, run_pure, hpe]
  have h' : MR w0 B ρ (m.put l (.loop ⟨.exhausted, pe, fn, nt, tm, ps, a, bd, d⟩)) (setBlk w b (.loop { x with state := .exhausted })) :=
   h.put ho hp (fun _ _ _ _ e => by cases e) (fun _ e => by cases e) (fun _ _ _ _ e => by cases e) hB ⟨hB, hpo, _, rfl, { hL with state := rfl }⟩
  refine Res.later (Rho.le.refl ρ) Keeps.put_new (SameCs.refl _ _) (Res.steps (.one (step_lone_go (fr' := { fr with todo := (pe.map Item.code).toList ++ k.map AItem.toItem }) (cs' := cs) (w' := setBlk w b (.loop { x with state := .exhausted })) ?_))
   (hrec env (pend pe k) tmps ds .run up _ ρ _ _ cs h' (by rw [pend_map]; exact hF.goto _) hU))
  simp [stepG, hm, stepG.exec, ht, Sem.runT_eq, hrun]
 cases st with
 | busy => exact trivial
 | ready => exact key (fun e => by cases e)
 | done => exact key (fun e => by cases e)
 | exhausted => exact key (fun e => by cases e)
theorem rangeIn_sound (hnames : NamesOK P) (hrec : Sound P w0 B rec) (hcall : CallOK P w0 B fl rec) (h : MR w0 B ρ m w) {f : Operand} {k : List AItem} {lp : ALoop} {x : Loop} (hL : ∀ ρ', ρ.le ρ' → LoopR ρ' lp x)
  {mark : List Deferred} {its : List Item} (hF : FR P ρ env its tmps ds .run { fr with defers := mark ++ fr.defers }) (hU : UpR ρ env.dfr up cs)
  {w1 : World} {call : Call} (hc1 : call.callee = .value f) (hc2 : call.args = #[.const (.func (.yield w.heap.size) #[] #[])])
  (hst : (stepG P true (gor fr cs) w1).bare = (stepG.apply P true { fr with todo := .inRangeFunc w.heap.size :: k.map AItem.toItem, defers := mark ++ fr.defers } cs none (do let d ← resolve fr.eval call 0; invoke d.target d.args) (w.alloc (.loop x))).bare) :
  Res P w0 B ρ env cs m (lone fr cs w1) (rangeIn P fl rec env f k lp tmps ds up m) := by
 obtain ⟨h1, hle⟩ := h.newObj (.loop lp) (.loop x) (fun _ _ _ _ e => by cases e) (fun ρ' hl => ⟨h.size, rfl, x, rfl, hL ρ' hl⟩)
 have hp : (ρ.add m.next (Pl.obj w.heap.size)) m.next = some (Pl.obj w.heap.size) := Rho.add_same _ _ _
 obtain ⟨ρ1, hρ1⟩ : ∃ ρ1, ρ1 = ρ.add m.next (Pl.obj w.heap.size) := ⟨_, rfl⟩
 rw [← hρ1] at h1 hle hp
 obtain ⟨fr2, hfr2⟩ : ∃ fr2 : Frame, fr2 = { fr with todo := .inRangeFunc w.heap.size :: k.map AItem.toItem, defers := mark ++ fr.defers } := ⟨_, rfl⟩
 rw [← hfr2] at hst
 have hF2 : ∀ {ρ' : Rho}, ρ.le ρ' → ∀ its', FR P ρ' env its' tmps ds .run { fr2 with todo := its' } := by
  intro ρ' hl its'
  rw [hfr2]
  exact (hF.mono hl).goto its'
 unfold rangeIn
 cases hd : fnDef [] (evalT tmps f) with
 | none => exact trivial
 | some d =>
  obtain ⟨t, cap, coll, args⟩ := d
  show Res P w0 B ρ env cs m (lone fr cs w1) (ranO P fl rec env m.next k tmps ds up (callTarget P cap (appL args [.yield m.next]) (m.new (.loop lp)) t))
  have hd2 := fnDef_app hd [.yield m.next]
  have hval : R ρ1 (evalT tmps f) (fr.eval f) := by
   have := (hF.mono hle).eval f
   cases f <;> exact this
  obtain ⟨hcn, y, hy, hDR⟩ := fnDef_sound hval (args := [.yield m.next]) (xs := #[.func (.yield w.heap.size) #[] #[]]) (by simp only [RL]; exact ⟨_, _, rfl, by simp only [R]; exact ⟨_, hp, rfl⟩, rfl⟩) hd2 (w.alloc (.loop x)) (P := P)
  dsimp only at hcn
  subst hcn
  obtain ⟨hRa, hTg⟩ := hDR
  have hNR := invoke_sound (P := P) h1 hTg hRa
  have hK : Keeps m (m.new (.loop lp)) := Keeps.new
  have hres : (do let d ← resolve fr.eval call 0; invoke d.target d.args : Sem Next).run P (w.alloc (.loop x)) = (invoke y.target y.args).run P (w.alloc (.loop x)) := by
   rw [run_bind]
   have : (resolve fr.eval call 0).run P (w.alloc (.loop x)) = .ok y (w.alloc (.loop x)) := by
    unfold resolve
    have hmap : Array.map fr.eval #[Operand.const (Value.func (Fn.yield w.heap.size) #[] #[])] = #[Value.func (Fn.yield w.heap.size) #[] #[]] := by simp [Frame.eval]
    simp only [hc1, hc2, hmap]
    exact hy
   rw [this]
  dsimp only at hNR
  generalize hout : callTarget P cap (appL args [.yield m.next]) (m.new (.loop lp)) t = out at hNR
  unfold ranO
  split
  ·rename_i g args' m'
   obtain ⟨rfl, xs, e1, e2⟩ := hNR
   rcases hcall ρ1 _ (w.alloc (.loop x)) g args' xs false (fr2 :: cs) [] h1 e2 (fun e => by cases e) with ⟨why, hb⟩ | ⟨fn, c, hf, hb, hr⟩
   ·rw [hb]; exact trivial
   ·rw [run_callFunc hnames hf hb] at e1
    have hnc : ∀ d x y z k', fr2.todo ≠ .call d x y z :: k' := by intro d x y z k' e; rw [hfr2] at e; cases e
    refine Res.steps (.one (step_lone_go (by rw [hst]; exact apply_enter (hres.trans e1) hnc))) ?_
    refine Res.later hle hK (SameCs.refl _ _) (got_sound (env' := ⟨g, fn.ntmps, false, none⟩) rfl ?_ ?_ hr)
    ·intro ρ' v x' m' w' hle' hM hR hk
     have hfin : fr2.finish x' = { fr2 with todo := .endRangeFunc w.heap.size :: k.map AItem.toItem } := by rw [hfr2]; rfl
     rw [hfin]
     exact Res.later hle' hk (SameCs.refl _ _) (after_sound hrec hM (hle' _ _ hp) (hF2 (hle.trans hle') _) (hU.mono (hle.trans hle')))
    ·intro ρ' c' ch m' w' hle' hM hC hk
     refine Res.later hle' hk (SameCs.refl _ _) (hrec env k tmps ds (.panicking c') up m' ρ' w' _ cs hM ?_ (hU.mono (hle.trans hle')))
     have h9 := (hF2 (ρ' := ρ') (hle.trans hle') fr2.todo).raise (Rho.le.refl ρ') hC
     exact h9.panicking
  ·exact trivial
  ·exact trivial
theorem rangeF_sound (hnames : NamesOK P) (hrec : Sound P w0 B rec) (hcall : CallOK P w0 B fl rec) (h : MR w0 B ρ m w) {f : Operand} {ps : Array Tmp} {a b : Code} {k : List AItem}
  (hF : FR P ρ env (.code (.rangeFunc f ps a b) :: k.map AItem.toItem) tmps ds .run fr) (hU : UpR ρ env.dfr up cs) :
  Res P w0 B ρ env cs m (lone fr cs w) (rangeF P fl rec env f ps.toList a b k tmps ds up m) := by
 have hm : fr.mode = .run := hF.mode
 have ht := hF.todo rfl
 unfold rangeF
 have hro := hF.round
 cases hrd : env.roundOf with
 | none =>
  rw [hrd] at hro
  have hro' : fr.roundOf = none := hro
  dsimp only
  obtain ⟨h1, hle⟩ := h.newObj (.deferred (some [])) (.deferred (some [])) (fun _ _ _ _ e => by cases e) (fun ρ' hl => ⟨h.size, rfl, [], rfl, rfl⟩)
  have hp : (ρ.add m.next (Pl.obj w.heap.size)) m.next = some (Pl.obj w.heap.size) := Rho.add_same _ _ _
  obtain ⟨ρ1, hρ1⟩ : ∃ ρ1, ρ1 = ρ.add m.next (Pl.obj w.heap.size) := ⟨_, rfl⟩
  rw [← hρ1] at h1 hle hp
  refine Res.later (m1 := m.new (.deferred (some []))) hle Keeps.new (SameCs.refl _ _) ?_
  have hrun : (Instr.enterLoop fr.fn fr.tmps ps a b fr.roundOf).run P w = .ok ((w.alloc (.deferred (some []))).heap.size, [{ target := .collected w.heap.size, args := #[] }])
    ((w.alloc (.deferred (some []))).alloc (.loop { state := .ready, pending := none, fn := fr.fn, tmps := fr.tmps, params := ps, assign := a, body := b, defers := w.heap.size })) := by
   unfold Instr.enterLoop
   rw [hro']
   rfl
  refine rangeIn_sound (fr := fr) (w1 := w) (x := { state := .ready, pending := none, fn := fr.fn, tmps := fr.tmps, params := ps, assign := a, body := b, defers := w.heap.size })
   (mark := [{ target := .collected w.heap.size, args := #[] }]) (its := fr.todo) (call := { callee := .value f, args := #[.const (.func (.yield (w.alloc (.deferred (some []))).heap.size) #[] #[])], argTypes := #[] }) hnames hrec hcall h1 ?_ ?_ (hU.mono hle) rfl rfl ?_
  ·intro ρ' hl
   exact ⟨rfl, rfl, hF.fn, hF.size, (hF.tmps.mono (hle.trans hl)), rfl, rfl, rfl, hl _ _ hp⟩
  ·refine ⟨hF.fn, hF.size, hF.tmps.mono hle, fun _ => rfl, ⟨_, fr.defers, rfl, ⟨_, hp, rfl⟩, hF.ds.mono hle⟩, hm, hF.kind, hF.round.mono hle, hF.func, hF.norm⟩
  ·obtain ⟨fn0, tm0, td0, df0, md0, kd0, ro0⟩ := fr
   dsimp only at hm ht hrun
   subst hm ht
   simp only [stepG, stepG.exec, Sem.runT_eq, hrun, GStep.bare_after]
   rfl
 | some l =>
  rw [hrd] at hro
  obtain ⟨c, hc, hp⟩ := hro
  dsimp only
  split
  case h_2 => exact trivial
  rename_i st pe fn nt tm ps' a' bd d ho
  obtain ⟨hB, hpo, x, hw, hL⟩ := h.loop ho hp
  have hgl := run_getLoop (P := P) (b := c) hw
  have hrun : (Instr.enterLoop fr.fn fr.tmps ps a b fr.roundOf).run P w = .ok (w.heap.size, [])
    (w.alloc (.loop { state := .ready, pending := none, fn := fr.fn, tmps := fr.tmps, params := ps, assign := a, body := b, defers := x.defers })) := by
   unfold Instr.enterLoop
   rw [hc]
   simp only [run_bind, hgl, run_pure, run_newObj']
  refine rangeIn_sound (fr := fr) (w1 := w) (x := { state := .ready, pending := none, fn := fr.fn, tmps := fr.tmps, params := ps, assign := a, body := b, defers := x.defers })
   (mark := []) (its := fr.todo) (call := { callee := .value f, args := #[.const (.func (.yield w.heap.size) #[] #[])], argTypes := #[] }) hnames hrec hcall h ?_ ?_ hU rfl rfl ?_
  ·intro ρ' hl
   exact ⟨rfl, rfl, hF.fn, hF.size, hF.tmps.mono hl, rfl, rfl, rfl, hl _ _ hL.defers⟩
  ·exact { hF with todo := fun _ => rfl }
  ·obtain ⟨fn0, tm0, td0, df0, md0, kd0, ro0⟩ := fr
   dsimp only at hm ht hrun
   subst hm ht
   simp only [stepG, stepG.exec, Sem.runT_eq, hrun, GStep.bare_after]
   rfl
end
open Go.RowKit (Below)
theorem bytesEq_sound : ∀ {a b : List UInt8}, bytesEq a b = true → a = b
 | [], [], _ => rfl
 | [], y :: ys, h => by cases h
 | x :: xs, [], h => by cases h
 | x :: xs, y :: ys, h => by
  have h' : (bif x.toNat.beq y.toNat then bytesEq xs ys else false) = true := h
  cases hx : x.toNat.beq y.toNat with
  | false => rw [hx] at h'; cases h'
  | true =>
   rw [hx] at h'
   rw [nat_beq] at hx
   rw [bytesEq_sound h', UInt8.toNat_inj.1 hx]
theorem arr_ext {α : Type} {a b : Array α} (h : a.toList = b.toList) : a = b := Array.ext' h
theorem bytes_ext {a b : ByteArray} (h : a.data.toList = b.data.toList) : a = b := ByteArray.ext (Array.ext' h)
theorem arr_sz (a : Array Value) : SizeOf.sizeOf a.toList < SizeOf.sizeOf a := by
 cases a
 simp
mutual
theorem vEq_sound : ∀ (a b : Value), vEq a b = true → a = b := by
 intro a b h
 unfold vEq at h
 split at h
 ·rw [beq_iff_eq] at h; rw [h]
 ·rw [Bool.and_eq_true, beq_iff_eq, beq_iff_eq] at h; rw [h.1, h.2]
 ·rw [bytes_ext (bytesEq_sound h)]
 ·rfl
 ·rw [Bool.and_eq_true, nat_beq, nat_beq] at h; rw [h.1, h.2]
 ·rfl
 ·rfl
 ·rename_i f a b g c d
  rw [Bool.and_eq_true, Bool.and_eq_true, nat_beq] at h
  obtain ⟨⟨h1, h2⟩, h3⟩ := h
  rw [h1, arr_ext (vEqs_sound a.toList c.toList h2), arr_ext (vEqs_sound b.toList d.toList h3)]
 ·rename_i t v u w
  rw [Bool.and_eq_true, nat_beq] at h
  rw [h.1, vEq_sound v w h.2]
 ·rfl
 ·rename_i a b
  rw [arr_ext (vEqs_sound a.toList b.toList h)]
 ·rename_i a b
  rw [arr_ext (vEqs_sound a.toList b.toList h)]
 ·cases h
 termination_by a => SizeOf.sizeOf a
 decreasing_by
 all_goals simp_wf
 all_goals subst_vars
 all_goals try simp only [Value.func.sizeOf_spec, Value.iface.sizeOf_spec, Value.agg.sizeOf_spec, Value.tuple.sizeOf_spec]
 all_goals first
  | omega
  | (refine Nat.lt_of_lt_of_le (arr_sz _) ?_; omega)
theorem vEqs_sound : ∀ (a b : List Value), vEqs a b = true → a = b := by
 intro a b h
 unfold vEqs at h
 split at h
 ·rfl
 ·rename_i a x b y
  rw [Bool.and_eq_true] at h
  rw [vEq_sound a b h.1, vEqs_sound x y h.2]
 ·cases h
 termination_by a => SizeOf.sizeOf a
 decreasing_by
 all_goals simp_wf
 all_goals subst_vars
 all_goals try simp only [List.cons.sizeOf_spec]
 all_goals first
  | omega
  | (refine Nat.lt_of_lt_of_le (arr_sz _) ?_; omega)
end
mutual
theorem aEq_sound : ∀ (a b : AVal), aEq a b = true → a = b := by
 intro a b h
 unfold aEq at h
 split at h
 ·rw [vEq_sound _ _ h]
 ·rw [Bool.and_eq_true, nat_beq, nat_beq] at h; rw [h.1, h.2]
 ·rw [Bool.and_eq_true, Bool.and_eq_true, Bool.and_eq_true, Bool.and_eq_true, nat_beq, nat_beq, nat_beq, nat_beq, beq_iff_eq] at h
  obtain ⟨⟨⟨⟨h1, h2⟩, h3⟩, h4⟩, h5⟩ := h
  rw [h1, h2, h3, h4, h5]
 ·rfl
 ·rw [nat_beq] at h; rw [h]
 ·rename_i f a b g c d
  rw [Bool.and_eq_true, Bool.and_eq_true, decide_eq_true_iff] at h
  obtain ⟨⟨h1, h2⟩, h3⟩ := h
  rw [h1, aEqs_sound a c h2, aEqs_sound b d h3]
 ·rw [nat_beq] at h; rw [h]
 ·rename_i t v u w
  rw [Bool.and_eq_true, nat_beq] at h
  rw [h.1, aEq_sound v w h.2]
 ·rename_i a b
  rw [aEqs_sound a b h]
 ·rename_i a b
  rw [aEqs_sound a b h]
 ·cases h
 termination_by a => SizeOf.sizeOf a
 decreasing_by
 all_goals simp_wf
 all_goals subst_vars
 all_goals try simp only [AVal.func.sizeOf_spec, AVal.iface.sizeOf_spec, AVal.agg.sizeOf_spec, AVal.tuple.sizeOf_spec]
 all_goals omega
theorem aEqs_sound : ∀ (a b : List AVal), aEqs a b = true → a = b := by
 intro a b h
 unfold aEqs at h
 split at h
 ·rfl
 ·rename_i a x b y
  rw [Bool.and_eq_true] at h
  rw [aEq_sound a b h.1, aEqs_sound x y h.2]
 ·cases h
 termination_by a => SizeOf.sizeOf a
 decreasing_by
 all_goals simp_wf
 all_goals subst_vars
 all_goals try simp only [List.cons.sizeOf_spec]
 all_goals omega
end
mutual
theorem R.any {ρ ρ2 : Rho} : ∀ (v : AVal) (x y : Value), R ρ v x → v.toLit = some y → R ρ2 v x
 | .lit v, x, y, h, _ => by simpa only [R] using h
 | .agg l, x, y, h, e => by
  simp only [R] at h ⊢
  obtain ⟨cs, rfl, h2⟩ := h
  simp only [AVal.toLit, Option.map_eq_some_iff] at e
  obtain ⟨vs, h3, rfl⟩ := e
  exact ⟨cs, rfl, RL.any l _ _ h2 h3⟩
 | .tuple l, x, y, h, e => by
  simp only [R] at h ⊢
  obtain ⟨cs, rfl, h2⟩ := h
  simp only [AVal.toLit, Option.map_eq_some_iff] at e
  obtain ⟨vs, h3, rfl⟩ := e
  exact ⟨cs, rfl, RL.any l _ _ h2 h3⟩
 | .iface t v, x, y, h, e => by
  simp only [R] at h ⊢
  obtain ⟨z, rfl, h2⟩ := h
  simp only [AVal.toLit, Option.map_eq_some_iff] at e
  obtain ⟨u, h3, rfl⟩ := e
  exact ⟨z, rfl, R.any v _ _ h2 h3⟩
 | .poison, _, _, _, e => by simp [AVal.toLit] at e
 | .ptr _ _, _, _, _, e => by simp [AVal.toLit] at e
 | .slice .., _, _, _, e => by simp [AVal.toLit] at e
 | .emptyS, _, _, _, e => by simp [AVal.toLit] at e
 | .map _, _, _, _, e => by simp [AVal.toLit] at e
 | .func .., _, _, _, e => by simp [AVal.toLit] at e
 | .yield _, _, _, _, e => by simp [AVal.toLit] at e
theorem RL.any {ρ ρ2 : Rho} : ∀ (l : List AVal) (x y : List Value), RL ρ l x → toLits l = some y → RL ρ2 l x
 | [], x, y, h, _ => by simpa only [RL] using h
 | v :: vs, x, y, h, e => by
  simp only [RL] at h ⊢
  obtain ⟨z, zs, rfl, h2, h3⟩ := h
  simp only [toLits] at e
  cases hv : v.toLit with
  | none => rw [hv] at e; simp at e
  | some u =>
   rw [hv] at e
   simp only [Option.map_eq_some_iff] at e
   obtain ⟨us, h4, rfl⟩ := e
   exact ⟨z, zs, rfl, R.any v _ _ h2 hv, RL.any vs _ _ h3 h4⟩
end
def Cut (ρ ρ1 ρ2 : Rho) : Prop := ∀ r p, ρ r = some p → ρ2 r = ρ1 r
mutual
theorem R.cut {ρ ρ1 ρ2 : Rho} (hc : Cut ρ ρ1 ρ2) : ∀ (v : AVal) (x0 x : Value), R ρ v x0 → R ρ1 v x → R ρ2 v x
 | .lit v, x0, x, _, h => by simpa only [R] using h
 | .poison, x0, x, _, _ => by simp [R]
 | .emptyS, x0, x, _, h => by simpa only [R] using h
 | .ptr r off, x0, x, h0, h => by
  simp only [R] at h0 h ⊢
  obtain ⟨p0, e0, _⟩ := h0
  obtain ⟨p, e, h2⟩ := h
  exact ⟨p, by rw [hc r p0 e0]; exact e, h2⟩
 | .slice r off n c ex, x0, x, h0, h => by
  simp only [R] at h0 h ⊢
  obtain ⟨p0, _, e0, _⟩ := h0
  obtain ⟨p, c', e, h2⟩ := h
  exact ⟨p, c', by rw [hc r p0 e0]; exact e, h2⟩
 | .map r, x0, x, h0, h => by
  simp only [R] at h0 h ⊢
  obtain ⟨p0, e0, _⟩ := h0
  obtain ⟨p, e, h2⟩ := h
  exact ⟨p, by rw [hc r _ e0]; exact e, h2⟩
 | .yield r, x0, x, h0, h => by
  simp only [R] at h0 h ⊢
  obtain ⟨p0, e0, _⟩ := h0
  obtain ⟨p, e, h2⟩ := h
  exact ⟨p, by rw [hc r _ e0]; exact e, h2⟩
 | .func fn f c, x0, x, h0, h => by
  simp only [R] at h0 h ⊢
  obtain ⟨_, f0, c0, _, a0, b0⟩ := h0
  obtain ⟨hy, f', c', h1, h2, h3⟩ := h
  exact ⟨hy, f', c', h1, RL.cut hc f _ _ a0 h2, RL.cut hc c _ _ b0 h3⟩
 | .iface t v, x0, x, h0, h => by
  simp only [R] at h0 h ⊢
  obtain ⟨y0, _, a0⟩ := h0
  obtain ⟨y, h1, h2⟩ := h
  exact ⟨y, h1, R.cut hc v _ _ a0 h2⟩
 | .agg l, x0, x, h0, h => by
  simp only [R] at h0 h ⊢
  obtain ⟨y0, _, a0⟩ := h0
  obtain ⟨y, h1, h2⟩ := h
  exact ⟨y, h1, RL.cut hc l _ _ a0 h2⟩
 | .tuple l, x0, x, h0, h => by
  simp only [R] at h0 h ⊢
  obtain ⟨y0, _, a0⟩ := h0
  obtain ⟨y, h1, h2⟩ := h
  exact ⟨y, h1, RL.cut hc l _ _ a0 h2⟩
theorem RL.cut {ρ ρ1 ρ2 : Rho} (hc : Cut ρ ρ1 ρ2) : ∀ (l : List AVal) (x0 x : List Value), RL ρ l x0 → RL ρ1 l x → RL ρ2 l x
 | [], x0, x, _, h => by simpa only [RL] using h
 | v :: vs, x0, x, h0, h => by
  simp only [RL] at h0 h ⊢
  obtain ⟨y0, ys0, _, a0, b0⟩ := h0
  obtain ⟨y, ys, h1, h2, h3⟩ := h
  exact ⟨y, ys, h1, R.cut hc v _ _ a0 h2, RL.cut hc vs _ _ b0 h3⟩
end
theorem CR.cut {ρ ρ1 ρ2 : Rho} (hc : Cut ρ ρ1 ρ2) {cells : List AVal} {cs0 cs : Array Value} {s0 s : Nat} (h0 : CR ρ cells cs0 s0) (h : CR ρ1 cells cs s) : CR ρ2 cells cs s := by
 intro i v hv
 obtain ⟨x0, _, a0⟩ := h0 i v hv
 obtain ⟨x, h1, h2⟩ := h i v hv
 exact ⟨x, h1, R.cut hc v _ _ a0 h2⟩
theorem TR.cut {ρ ρ1 ρ2 : Rho} (hc : Cut ρ ρ1 ρ2) {t : T AVal} {a0 a : Array Value} (h0 : TR ρ t a0) (h : TR ρ1 t a) : TR ρ2 t a := fun i => R.cut hc _ _ _ (h0 i) (h i)
theorem KR.cut {ρ ρ1 ρ2 : Rho} (hc : Cut ρ ρ1 ρ2) {k x0 x : Value} (h0 : KR ρ k x0) (h : KR ρ1 k x) : KR ρ2 k x := by
 unfold KR at h0 h ⊢
 split at h
 ·rename_i r o hk
  rw [hk] at h0
  obtain ⟨p0, e0, _⟩ := h0
  obtain ⟨p, e, h2⟩ := h
  exact ⟨p, by rw [hc r p0 e0]; exact e, h2⟩
 ·exact h
theorem ER.cut {ρ ρ1 ρ2 : Rho} (hc : Cut ρ ρ1 ρ2) : ∀ {es : List AEnt} {l0 l : List MapEntry}, ER ρ es l0 → ER ρ1 es l → ER ρ2 es l
 | [], l0, l, _, h => h
 | e :: es, l0, l, h0, h => by
  obtain ⟨y0, ys0, _, k0, _, a0, b0⟩ := h0
  obtain ⟨y, ys, h1, h2, h3, h4, h5⟩ := h
  exact ⟨y, ys, h1, k0.cut hc h2, h3, R.cut hc _ _ _ a0 h4, ER.cut hc b0 h5⟩
theorem TgR.cut {ρ ρ1 ρ2 : Rho} (hc : Cut ρ ρ1 ρ2) {t : Target} {cap : List AVal} {x0 x : Target} (h0 : TgR ρ t cap x0) (h : TgR ρ1 t cap x) : TgR ρ2 t cap x := by
 cases t with
 | fn fn c =>
  cases fn with
  | yield l =>
   obtain ⟨b0, e0, _⟩ := h0
   obtain ⟨b, e, h2⟩ := h
   exact ⟨b, by rw [hc _ _ e0]; exact e, h2⟩
  | _ =>
   obtain ⟨c0, _, a0⟩ := h0
   obtain ⟨c', h1, h2⟩ := h
   exact ⟨c', h1, RL.cut hc _ _ _ a0 h2⟩
 | builtin _ _ _ _ => exact h
 | nil => exact h
 | _ => exact h.elim
theorem DR.cut {ρ ρ1 ρ2 : Rho} (hc : Cut ρ ρ1 ρ2) {d : ADef} {x0 x : Deferred} (h0 : DR ρ d x0) (h : DR ρ1 d x) : DR ρ2 d x := by
 obtain ⟨t, cap, coll, args⟩ := d
 cases coll with
 | some r =>
  obtain ⟨b0, e0, _⟩ := h0
  obtain ⟨b, e, h2⟩ := h
  exact ⟨b, by rw [hc _ _ e0]; exact e, h2⟩
 | none => exact ⟨RL.cut hc _ _ _ h0.1 h.1, TgR.cut hc h0.2 h.2⟩
theorem DsR.cut {ρ ρ1 ρ2 : Rho} (hc : Cut ρ ρ1 ρ2) : ∀ {ds : List ADef} {l0 l : List Deferred}, DsR ρ ds l0 → DsR ρ1 ds l → DsR ρ2 ds l
 | [], l0, l, _, h => h
 | e :: es, l0, l, h0, h => by
  obtain ⟨y0, ys0, _, a0, b0⟩ := h0
  obtain ⟨y, ys, h1, h2, h3⟩ := h
  exact ⟨y, ys, h1, DR.cut hc a0 h2, DsR.cut hc b0 h3⟩
theorem OR.cut {ρ ρ1 ρ2 : Rho} (hc : Cut ρ ρ1 ρ2) {B : Nat} {p0 p : Pl} {o0 o : Option Obj} {a : AObj} (h0 : OR ρ B p0 o0 a) (h : OR ρ1 B p o a) : OR ρ2 B p o a := by
 cases a with
 | row e cells f pos =>
  obtain ⟨_, _, cs0, _, _, _, _, c0, _⟩ := h0
  obtain ⟨h1, h2, cs, lo, hi, h3, h4, h5, h6⟩ := h
  exact ⟨h1, h2, cs, lo, hi, h3, h4, CR.cut hc c0 h5, h6⟩
 | ro cells =>
  obtain ⟨_, cs0, _, _, _, c0⟩ := h0
  obtain ⟨h1, cs, e, fz, h3, h5⟩ := h
  exact ⟨h1, cs, e, fz, h3, CR.cut hc c0 h5⟩
 | map es clock =>
  obtain ⟨_, _, es0, _, c0⟩ := h0
  obtain ⟨h1, h2, es', h3, h4⟩ := h
  exact ⟨h1, h2, es', h3, ER.cut hc c0 h4⟩
 | loop l =>
  obtain ⟨_, _, x0, _, c0⟩ := h0
  obtain ⟨h1, h2, x, h3, h4⟩ := h
  exact ⟨h1, h2, x, h3, { h4 with tmps := TR.cut hc c0.tmps h4.tmps, defers := by rw [hc _ _ c0.defers]; exact h4.defers }⟩
 | deferred cl =>
  cases cl with
  | none => exact h
  | some ds =>
   obtain ⟨_, _, x0, _, c0⟩ := h0
   obtain ⟨h1, h2, x, h3, h4⟩ := h
   exact ⟨h1, h2, x, h3, DsR.cut hc c0 h4⟩
 | mapIter mp since seen st =>
  cases mp with
  | none => exact h
  | some q =>
   obtain ⟨_, _, c0, e0, _⟩ := h0
   obtain ⟨h1, h2, c, h3, h4⟩ := h
   exact ⟨h1, h2, c, by rw [hc _ _ e0]; exact h3, h4⟩
 | strIter s pos => exact h
open Go.RowKit (Below)
section
variable {P : Program} {w0 : Wo} {B : Nat} {ρ : Rho} {m : Mem} {w : World} {env : Env} {fr : Frame} {cs : List Frame} {tmps : T AVal} {ds : List ADef} {up : Chain} {rec : Run} {fl : Fl}
theorem agrees_ret (lo : Nat) (v : AVal) (kin : Kin) (v' : AVal) (up : Chain) (m : Mem) : agrees lo v kin (.ret v' up m) = (!m.dirty && (aEq v v' || (isPoison v && isPoison v')) && sameKin lo m kin) := rfl
theorem agrees_alt (lo : Nat) (v : AVal) (kin : Kin) (a b : RR) : agrees lo v kin (.alt a b) = (agrees lo v kin a && agrees lo v kin b) := rfl
theorem leaf_of {m0 : Mem} {M : Machine} {lo : Nat} {v : AVal} {kin : Kin} : ∀ {r : RR}, Res P w0 B ρ env cs m0 M r → agrees lo v kin r = true →
  ∃ v' up' m', Res P w0 B ρ env cs m0 M (.ret v' up' m') ∧ m'.dirty = false ∧ ((aEq v v' = true) ∨ (v = .poison)) ∧ sameKin lo m' kin = true := by
 intro r
 induction r with
 | ret v' up' m' =>
  intro h hg
  rw [agrees_ret, Bool.and_eq_true, Bool.and_eq_true, Bool.or_eq_true] at hg
  obtain ⟨⟨h1, h2⟩, h3⟩ := hg
  refine ⟨v', up', m', h, by simpa using h1, ?_, h3⟩
  rcases h2 with h2 | h2
  ·exact .inl h2
  ·rw [Bool.and_eq_true] at h2
   right
   cases v <;> first | rfl | (simp [isPoison] at h2)
 | panicked c up m => intro _ hg; cases hg
 | bad _ => intro _ hg; cases hg
 | alt a b iha ihb =>
  intro h hg
  rw [agrees_alt, Bool.and_eq_true] at hg
  rcases h with h | h
  ·exact iha h hg.1
  ·exact ihb h hg.2
theorem MR.back (h : MR w0 B ρ m w) {m' : Mem} {ρ' : Rho} {w' : World} (h' : MR w0 B ρ' m' w') (hle : ρ.le ρ') (hsame : ∀ r, r < m.next → m'.heap.get r = m.heap.get r) : MR w0 B ρ m w' := by
 have hcut : Cut ρ ρ' ρ := fun q p e => by rw [e, hle q p e]
 refine ⟨?_, ?_, h.dom, h.hdom, h.famlt, h.rowfam, h.fam, h.lone, h'.below, h.base, h.ban, h.glob⟩
 ·intro r o p ho hp
  have hr := h.hlt ho
  exact OR.cut hcut (h.obj r o p ho hp) (h'.obj r o p (by rw [hsame r hr]; exact ho) (hle r p hp))
 ·intro r r' o o' p p' hne h1 h2 h3 h4 h5
  exact h'.inj r r' o o' p p' hne (by rw [hsame r (h.hlt h1)]; exact h1) (by rw [hsame r' (h.hlt h2)]; exact h2) (hle _ _ h3) (hle _ _ h4) h5
theorem graft_row (m0 m : Mem) (r : Nat) (e : Elem) (cells : List Value) : (graft m0 m (.row r e cells)).heap = m0.heap.set r (.row e (mapL .lit cells) r 0) ∧ (graft m0 m (.row r e cells)).next = m.next ∧
  (graft m0 m (.row r e cells)).fams = m0.fams ∧ (graft m0 m (.row r e cells)).lo = m0.lo ∧ (graft m0 m (.row r e cells)).dirty = m0.dirty := by
 cases m0; exact ⟨rfl, rfl, rfl, rfl, rfl⟩
theorem graft_gl (m0 m : Mem) (r : Nat) (e : Elem) (cells : List Value) : (Abs.graft m0 m (.row r e cells)).gl = m0.gl := by cases m0; rfl
theorem litRow_some {lo : Nat} {e : Elem} {o : Option AObj} {vs : List Value} (h : litRow lo e o = some vs) : ∃ cells f pos, o = some (.row e cells f pos) ∧ lo ≤ f ∧ toLits cells = some vs := by
 unfold litRow at h
 split at h
 ·rename_i e' cells f pos
  cases hc : e'.1.beq e.1 && e'.2.beq e.2 && lo.ble f with
  | false => rw [hc] at h; cases h
  | true =>
   rw [hc, cond_true] at h
   rw [Bool.and_eq_true, Bool.and_eq_true, nat_beq, nat_beq, nat_ble] at hc
   obtain ⟨⟨h1, h2⟩, h3⟩ := hc
   obtain ⟨a, b⟩ := e
   obtain ⟨a', b'⟩ := e'
   dsimp only at h1 h2
   subst h1 h2
   exact ⟨cells, f, pos, rfl, h3, h⟩
 ·cases h
theorem MR.graft (h : MR w0 B ρ m w) {m' m1 : Mem} {ρ' : Rho} {w' : World} (h' : MR w0 B ρ' m' w') (hle : ρ.le ρ') (hsame : ∀ r, r < m.next → m'.heap.get r = m.heap.get r)
  {r : Nat} {e : Elem} {cells : List Value} {cells' : List AVal} {f pos : Nat} (hr : m.next ≤ r) (hr1 : r < m1.next) (ho' : m'.heap.get r = some (.row e cells' f pos)) (hf : m.next ≤ f) (hl : toLits cells' = some cells)
  {p : Pl} (hp : ρ' r = some p) : MR w0 B (ρ.add r p) (Abs.graft m m1 (.row r e cells)) w' ∧ ρ.le (ρ.add r p) := by
 obtain ⟨g1, g2, g3, g4, g5⟩ := graft_row m m1 r e cells
 have hnone : ρ r = none := h.dom r hr
 have hle2 : ρ.le (ρ.add r p) := Rho.le_add hnone
 have hb := h.back h' hle hsame
 have hg : ∀ q, (Abs.graft m m1 (.row r e cells)).heap.get q = if r = q then some (.row e (mapL .lit cells) r 0) else m.heap.get q := by intro q; rw [g1, T.get_set]
 obtain ⟨hB, hq, wcs, lo, hi, hw, hz, hCR, hclr⟩ := h'.obj r _ p ho' hp
 have hfar : ∀ q o2 p2, m.heap.get q = some o2 → ρ q = some p2 → p.b ≠ p2.b := by
  intro q o2 p2 hq2 hp2 hbb
  have hlt := h.hlt hq2
  have hk := h'.inj r q _ o2 p p2 (by omega) ho' (by rw [hsame q hlt]; exact hq2) hp (hle _ _ hp2) hbb
  cases o2 with
  | row e2 c2 f2 z2 =>
   obtain ⟨hff, _⟩ := hk
   have := h.rowfam q _ _ _ _ hq2
   omega
  | _ => exact hk.elim
 refine ⟨⟨?_, ?_, ?_, ?_, ?_, ?_, ?_, ?_, h'.below, h.base, fun q hq => ⟨by rw [g2]; have := (h.ban q hq).1; omega, by rw [Rho.add_other _ _ (by have := (h.ban q hq).1; omega)]; exact (h.ban q hq).2⟩, h.globs (graft_gl m m1 r e cells) hle2⟩, hle2⟩
 ·intro q o p2 h1 h2
  rw [hg] at h1
  by_cases hrq : r = q
  ·subst hrq
   rw [if_pos rfl] at h1; cases h1
   rw [Rho.add_same] at h2; cases h2
   refine ⟨hB, hq, wcs, lo, hi, hw, hz, ?_, hclr⟩
   intro i v hv
   rw [mapL_eq] at hv
   simp only [List.getElem?_map, Option.map_eq_some_iff] at hv
   obtain ⟨y, hy, rfl⟩ := hv
   have hlen : ∀ {l : List AVal} {ys : List Value}, toLits l = some ys → ∀ (i : Nat) (y : Value), ys[i]? = some y → ∃ a : AVal, l[i]? = some a ∧ AVal.toLit a = some y := by
    intro l
    induction l with
    | nil => intro ys e i y hy; simp only [toLits, Option.some.injEq] at e; subst e; simp at hy
    | cons a l ih =>
     intro ys e i y hy
     simp only [toLits] at e
     cases ha : a.toLit with
     | none => rw [ha] at e; simp at e
     | some u =>
      rw [ha] at e
      simp only [Option.map_eq_some_iff] at e
      obtain ⟨us, h4, rfl⟩ := e
      cases i with
      | zero => simp only [List.getElem?_cons_zero, Option.some.injEq] at hy; subst hy; exact ⟨a, rfl, ha⟩
      | succ i => simp only [List.getElem?_cons_succ] at hy ⊢; exact ih h4 i y hy
   obtain ⟨a, ha, hal⟩ := hlen hl i y hy
   obtain ⟨x, hx, hR⟩ := hCR i a ha
   exact ⟨x, hx, by simp only [R]; exact R.of_toLit a x y hR hal⟩
  ·rw [if_neg hrq] at h1
   rw [Rho.add_other _ _ (Ne.symm hrq)] at h2
   exact (hb.obj q o p2 h1 h2).mono hle2
 ·intro q q' o1 o2 p1 p2 hne h1 h2 h3 h4 h5
  rw [hg] at h1 h2
  by_cases hrq : r = q
  ·subst hrq
   rw [Rho.add_same] at h3; cases h3
   rw [if_neg hne] at h2
   rw [Rho.add_other _ _ (Ne.symm hne)] at h4
   exact absurd h5 (hfar q' o2 p2 h2 h4)
  ·rw [if_neg hrq] at h1
   rw [Rho.add_other _ _ (Ne.symm hrq)] at h3
   by_cases hrq' : r = q'
   ·subst hrq'
    rw [Rho.add_same] at h4; cases h4
    exact absurd h5.symm (hfar q o1 p1 h1 h3)
   ·rw [if_neg hrq'] at h2
    rw [Rho.add_other _ _ (Ne.symm hrq')] at h4
    exact hb.inj q q' o1 o2 p1 p2 hne h1 h2 h3 h4 h5
 ·intro q hq'
  rw [g2] at hq'
  rw [Rho.add_other _ _ (by omega)]
  exact h.dom q (by omega)
 ·intro q hq'
  rw [g2] at hq'
  rw [hg, if_neg (by omega)]
  exact h.hdom q (by omega)
 ·intro k l hk
  rw [g3] at hk
  rw [g2]
  have := h.famlt k l hk
  omega
 ·intro q e2 cs2 k z h1
  rw [hg] at h1
  rw [g2]
  by_cases hrq : r = q
  ·rw [if_pos hrq] at h1; cases h1; exact hr1
  ·rw [if_neg hrq] at h1; have := h.rowfam q e2 cs2 k z h1; omega
 ·intro q e2 cs2 k z l h1 h2
  rw [hg] at h1
  rw [g3] at h2
  by_cases hrq : r = q
  ·rw [if_pos hrq] at h1; cases h1; have := h.famlt r l h2; omega
  ·rw [if_neg hrq] at h1; exact h.fam q e2 cs2 k z l h1 h2
 ·intro q q' e1 e2 c1 c2 k z z' h1 h2 h3
  rw [hg] at h1 h2
  rw [g3] at h3
  by_cases hrq : r = q
  ·rw [if_pos hrq] at h1; cases h1
   by_cases hrq' : r = q'
   ·omega
   ·rw [if_neg hrq'] at h2; have := h.rowfam q' e2 c2 r z' h2; omega
  ·rw [if_neg hrq] at h1
   by_cases hrq' : r = q'
   ·rw [if_pos hrq'] at h2; cases h2; have := h.rowfam q e1 c1 r z h1; omega
   ·rw [if_neg hrq'] at h2; exact h.lone q q' e1 e2 c1 c2 k z z' h1 h2 h3
theorem natsEq_sound : ∀ {a b : List Nat}, natsEq a b = true → a = b
 | [], [], _ => rfl
 | [], y :: ys, h => by cases h
 | x :: xs, [], h => by cases h
 | x :: xs, y :: ys, h => by
  have h' : (bif x.beq y then natsEq xs ys else false) = true := h
  cases hx : x.beq y with
  | false => rw [hx] at h'; cases h'
  | true =>
   rw [hx] at h'
   rw [nat_beq] at hx
   rw [natsEq_sound h', hx]
theorem famEq_sound {a b : Option (List Nat)} (h : famEq a b = true) : a = b := by
 unfold famEq at h
 split at h
 ·rw [natsEq_sound h]
 ·rfl
 ·cases h
theorem entsEq_sound : ∀ {a b : List AEnt}, entsEq a b = true → a = b
 | [], [], _ => rfl
 | [], y :: ys, h => by cases h
 | x :: xs, [], h => by cases h
 | x :: xs, y :: ys, h => by
  unfold entsEq at h
  rw [Bool.and_eq_true, Bool.and_eq_true, Bool.and_eq_true, nat_beq] at h
  obtain ⟨⟨⟨h1, h2⟩, h3⟩, h4⟩ := h
  obtain ⟨k, v, n⟩ := x
  obtain ⟨k', v', n'⟩ := y
  rw [entsEq_sound h4]
  have e1 : k = k' := vEq_sound _ _ h1
  have e2 : v = v' := aEq_sound _ _ h2
  have e3 : n = n' := h3
  rw [e1, e2, e3]
theorem keptEq_sound {lo : Nat} {m1 m : Mem} {o : AObj} {o' : Option AObj} (h : keptEq lo m1 m o o' = true) : o' = some o ∧
  ∀ e cs f p, o = .row e cs f p → m1.fams.get f = m.fams.get f ∧ (lo ≤ f ∨ (m1.fams.get f).isSome = true) := by
 unfold keptEq at h
 split at h
 ·rename_i e cs f p e' cs' f' p'
  rw [Bool.and_eq_true, Bool.and_eq_true, Bool.and_eq_true, Bool.and_eq_true, Bool.and_eq_true, Bool.and_eq_true, nat_beq, nat_beq, nat_beq, nat_beq, Bool.or_eq_true, nat_ble] at h
  obtain ⟨⟨⟨⟨⟨⟨h1, h2⟩, h3⟩, h4⟩, h5⟩, h6⟩, h7⟩ := h
  obtain ⟨a, b⟩ := e
  obtain ⟨a', b'⟩ := e'
  dsimp only at h1 h2
  subst h1 h2 h3 h4
  rw [aEqs_sound _ _ h5]
  refine ⟨rfl, fun e cs f p he => ?_⟩
  cases he
  exact ⟨famEq_sound h6, h7⟩
 ·rename_i es c es' c'
  rw [Bool.and_eq_true, nat_beq] at h
  rw [h.1, entsEq_sound h.2]
  exact ⟨rfl, fun e cs f p he => by cases he⟩
 ·cases h
theorem sameNew_succ (lo : Nat) (m1 m : Mem) (i : Nat) : sameNew lo m1 m (i + 1) = bif sameAt lo m1 m (lo + i) (m1.heap.get (lo + i)) then sameNew lo m1 m i else false := rfl
theorem sameNew_spec {lo : Nat} {m1 m : Mem} : ∀ {n : Nat}, sameNew lo m1 m n = true → ∀ q o, lo ≤ q → q < lo + n → m1.heap.get q = some o → isKept o = true → keptEq lo m1 m o (m.heap.get q) = true
 | 0, _, q, o, h1, h2, _, _ => by omega
 | n + 1, h, q, o, h1, h2, h3, h4 => by
  rw [sameNew_succ] at h
  cases hs : sameAt lo m1 m (lo + n) (m1.heap.get (lo + n)) with
  | false => rw [hs] at h; cases h
  | true =>
   rw [hs, cond_true] at h
   by_cases e : q = lo + n
   ·subst e
    rw [h3] at hs
    have hs' : (bif isKept o then keptEq lo m1 m o (m.heap.get (lo + n)) else true) = true := hs
    rw [h4] at hs'
    exact hs'
   ·exact sameNew_spec h q o h1 (by omega) h3 h4
theorem addNew_succ (lo : Nat) (m1 m : Mem) (i : Nat) : addNew lo m1 m (i + 1) = addKept m1 (lo + i) (addNew lo m1 m i) (m1.heap.get (lo + i)) := rfl
open Classical in
theorem addKept_some {m1 : Mem} {r : Nat} {m : Mem} {o : AObj} (h : isKept o = true) : (addKept m1 r m (some o)).heap = m.heap.set r o ∧ (addKept m1 r m (some o)).next = m.next ∧ (addKept m1 r m (some o)).lo = m.lo ∧ (addKept m1 r m (some o)).dirty = m.dirty ∧
  (∀ f, (addKept m1 r m (some o)).fams.get f = if (∃ e cs p, o = .row e cs f p) ∧ (m1.fams.get f).isSome = true then m1.fams.get f else m.fams.get f) := by
 obtain ⟨hp, n, fs, lo, d⟩ := m
 cases o with
 | row e cs f0 p =>
  refine ⟨rfl, rfl, rfl, rfl, fun f => ?_⟩
  show (addFams f0 fs (m1.fams.get f0)).get f = if _ then _ else fs.get f
  cases hm : m1.fams.get f0 with
  | none =>
   show fs.get f = _
   rw [if_neg]
   rintro ⟨⟨e', cs', p', he⟩, hs⟩
   cases he
   rw [hm] at hs; cases hs
  | some l =>
   show (fs.set f0 l).get f = _
   rw [T.get_set]
   by_cases e0 : f0 = f
   ·subst e0
    rw [if_pos rfl, if_pos ⟨⟨e, cs, p, rfl⟩, by rw [hm]; rfl⟩, hm]
   ·rw [if_neg e0, if_neg]
    rintro ⟨⟨e', cs', p', he⟩, _⟩
    cases he
    exact e0 rfl
 | map es c =>
  refine ⟨rfl, rfl, rfl, rfl, fun f => ?_⟩
  rw [if_neg]
  ·rfl
  ·rintro ⟨⟨e', cs', p', he⟩, _⟩; cases he
 | _ => cases h
theorem addKept_not {m1 : Mem} {r : Nat} {m : Mem} {o : Option AObj} (h : ∀ x, o = some x → isKept x = false) : addKept m1 r m o = m := by
 cases o with
 | none => rfl
 | some x =>
  have := h x rfl
  cases x <;> first | rfl | cases this
def NewFam (lo n : Nat) (m1 : Mem) (f : Nat) : Prop := ∃ q e cs p, lo ≤ q ∧ q < lo + n ∧ m1.heap.get q = some (.row e cs f p)
theorem addNew_spec (lo : Nat) (m1 m : Mem) : ∀ n : Nat, (addNew lo m1 m n).next = m.next ∧ (addNew lo m1 m n).lo = m.lo ∧ (addNew lo m1 m n).dirty = m.dirty ∧
  (∀ q, (addNew lo m1 m n).heap.get q = m.heap.get q ∨ (lo ≤ q ∧ q < lo + n ∧ ∃ o, m1.heap.get q = some o ∧ isKept o = true ∧ (addNew lo m1 m n).heap.get q = some o)) ∧
  (∀ q, (q < lo ∨ lo + n ≤ q) → (addNew lo m1 m n).heap.get q = m.heap.get q) ∧
  (∀ f l, NewFam lo n m1 f → m1.fams.get f = some l → (addNew lo m1 m n).fams.get f = some l) ∧
  (∀ f, (¬ NewFam lo n m1 f ∨ m1.fams.get f = none) → (addNew lo m1 m n).fams.get f = m.fams.get f) := by
 intro n
 induction n with
 | zero =>
  refine ⟨rfl, rfl, rfl, fun q => .inl rfl, fun q _ => rfl, fun f l hf => ?_, fun f _ => rfl⟩
  obtain ⟨q, _, _, _, h1, h2, _⟩ := hf
  omega
 | succ n ih =>
  obtain ⟨i1, i2, i3, i4, i5, i6, i7⟩ := ih
  rw [addNew_succ]
  have nf : ∀ f, NewFam lo (n + 1) m1 f → NewFam lo n m1 f ∨ ∃ e cs p, m1.heap.get (lo + n) = some (.row e cs f p) := by
   rintro f ⟨q, e, cs, p, h1, h2, h3⟩
   by_cases eq : q = lo + n
   ·subst eq; exact .inr ⟨e, cs, p, h3⟩
   ·exact .inl ⟨q, e, cs, p, h1, by omega, h3⟩
  have nf' : ∀ f, NewFam lo n m1 f → NewFam lo (n + 1) m1 f := by
   rintro f ⟨q, e, cs, p, h1, h2, h3⟩
   exact ⟨q, e, cs, p, h1, by omega, h3⟩
  by_cases hk : ∃ o, m1.heap.get (lo + n) = some o ∧ isKept o = true
  ·obtain ⟨o, ho, hko⟩ := hk
   rw [ho]
   obtain ⟨k1, k2, k3, k4, k5⟩ := addKept_some (m1 := m1) (r := lo + n) (m := addNew lo m1 m n) hko
   refine ⟨k2.trans i1, k3.trans i2, k4.trans i3, fun q => ?_, fun q hq => ?_, fun f l hf hl => ?_, fun f hf => ?_⟩
   ·rw [k1, T.get_set]
    by_cases e : lo + n = q
    ·subst e
     rw [if_pos rfl]
     exact .inr ⟨by omega, by omega, o, ho, hko, rfl⟩
    ·rw [if_neg e]
     rcases i4 q with h | ⟨h1, h2, h3⟩
     ·exact .inl h
     ·exact .inr ⟨h1, by omega, h3⟩
   ·rw [k1, T.get_set_other _ _ (by omega)]
    exact i5 q (by omega)
   ·rw [k5]
    by_cases hc : (∃ e cs p, o = .row e cs f p) ∧ (m1.fams.get f).isSome = true
    ·rw [if_pos hc]; exact hl
    ·rw [if_neg hc]
     rcases nf f hf with h | ⟨e, cs, p, h⟩
     ·exact i6 f l h hl
     ·rw [ho] at h
      cases h
      exact absurd ⟨⟨e, cs, p, rfl⟩, by rw [hl]; rfl⟩ hc
   ·rw [k5]
    rw [if_neg]
    ·exact i7 f (hf.imp (fun h h2 => h (nf' f h2)) id)
    ·rintro ⟨⟨e, cs, p, he⟩, hs⟩
     rcases hf with hf | hf
     ·exact hf ⟨lo + n, e, cs, p, by omega, by omega, by rw [ho, he]⟩
     ·rw [hf] at hs; cases hs
  ·rw [addKept_not (fun x hx => by
    cases hx' : isKept x with
    | false => rfl
    | true => exact absurd ⟨x, hx, hx'⟩ hk)]
   refine ⟨i1, i2, i3, fun q => ?_, fun q hq => i5 q (by omega), fun f l hf hl => ?_, fun f hf => i7 f (hf.imp (fun h h2 => h (nf' f h2)) id)⟩
   ·rcases i4 q with h | ⟨h1, h2, h3⟩
    ·exact .inl h
    ·exact .inr ⟨h1, by omega, h3⟩
   ·rcases nf f hf with h | ⟨e, cs, p, h⟩
    ·exact i6 f l h hl
    ·exact absurd ⟨_, h, rfl⟩ hk
theorem upTo_spec (m : Mem) (n : Nat) : (upTo m n).heap = m.heap ∧ (upTo m n).next = n ∧ (upTo m n).fams = m.fams ∧ (upTo m n).lo = m.lo ∧ (upTo m n).dirty = m.dirty := by cases m; exact ⟨rfl, rfl, rfl, rfl, rfl⟩
theorem addKept_gl (m1 : Mem) (r : Nat) (m : Mem) (o : Option AObj) : (addKept m1 r m o).gl = m.gl := by
 obtain ⟨hp, n, fs, lo, d, g⟩ := m
 cases o with
 | none => rfl
 | some x => cases x <;> rfl
theorem addNew_gl (lo : Nat) (m1 m : Mem) : ∀ n : Nat, (addNew lo m1 m n).gl = m.gl := by
 intro n
 induction n with
 | zero => rfl
 | succ n ih => rw [addNew_succ, addKept_gl, ih]
theorem upTo_gl (m : Mem) (n : Nat) : (upTo m n).gl = m.gl := by cases m; rfl
theorem MR.merge (h : MR w0 B ρ m w) {m1 m' : Mem} {ρ' : Rho} {w' : World} (h' : MR w0 B ρ' m' w') (hsame : ∀ r, r < m.next → m'.heap.get r = m.heap.get r) (hle : m.next ≤ m'.next) (hnx : m1.next = m'.next)
  (hnew : sameNew m.next m1 m' (m1.next - m.next) = true) (hrl : ρ.le ρ') : MR w0 B ρ' (addNew m.next m1 (upTo m m1.next) (m1.next - m.next)) w' := by
 have hgl : (addNew m.next m1 (upTo m m1.next) (m1.next - m.next)).gl = m.gl := (addNew_gl _ _ _ _).trans (upTo_gl _ _)
 obtain ⟨a1, a2, a3, a4, a5, a6, a7⟩ := addNew_spec m.next m1 (upTo m m1.next) (m1.next - m.next)
 obtain ⟨u1, u2, u3, u4, u5⟩ := upTo_spec m m1.next
 rw [u1] at a4 a5
 rw [u2] at a1
 rw [u3] at a7
 generalize hM : addNew m.next m1 (upTo m m1.next) (m1.next - m.next) = M at a1 a2 a3 a4 a5 a6 a7 hgl ⊢
 have hkept := sameNew_spec hnew
 -- what is in it is on the way, too; and is old, or kept
 have hin : ∀ q o, M.heap.get q = some o → m'.heap.get q = some o ∧ ((m.heap.get q = some o ∧ q < m.next) ∨ (m.next ≤ q ∧ q < m.next + (m1.next - m.next) ∧ m1.heap.get q = some o ∧ isKept o = true)) := by
  intro q o ho
  rcases a4 q with h1 | ⟨h1, h2, o2, h3, h4, h5⟩
  ·rw [h1] at ho
   have hlt := h.hlt ho
   exact ⟨by rw [hsame q hlt]; exact ho, .inl ⟨ho, hlt⟩⟩
  ·rw [h5] at ho; cases ho
   exact ⟨(keptEq_sound (hkept q _ h1 h2 h3 h4)).1, .inr ⟨h1, h2, h3, h4⟩⟩
 have newfam : ∀ f, NewFam m.next (m1.next - m.next) m1 f → m1.fams.get f = m'.fams.get f ∧ (m.next ≤ f ∨ (m1.fams.get f).isSome = true) := by
  rintro f ⟨q, e, cs, p, h1, h2, h3⟩
  exact (keptEq_sound (hkept q _ h1 h2 h3 rfl)).2 e cs f p rfl
 -- the families: as on the way, or as before
 have famcase : ∀ f, (NewFam m.next (m1.next - m.next) m1 f ∧ M.fams.get f = m'.fams.get f) ∨ (¬ NewFam m.next (m1.next - m.next) m1 f ∧ M.fams.get f = m.fams.get f) := by
  intro f
  by_cases hf : NewFam m.next (m1.next - m.next) m1 f
  ·obtain ⟨n1, n2⟩ := newfam f hf
   refine .inl ⟨hf, ?_⟩
   cases hl : m1.fams.get f with
   | some l => rw [a6 f l hf hl, ← n1, hl]
   | none =>
    rw [a7 f (.inr hl), ← n1, hl]
    rcases n2 with n2 | n2
    ·cases hm : m.fams.get f with
     | none => rfl
     | some l => have := h.famlt f l hm; omega
    ·rw [hl] at n2; cases n2
  ·exact .inr ⟨hf, a7 f (.inl hf)⟩
 have oldrow : ∀ f, ¬ NewFam m.next (m1.next - m.next) m1 f → ∀ q e cs p, M.heap.get q = some (.row e cs f p) → m.heap.get q = some (.row e cs f p) := by
  intro f hf q e cs p hq
  rcases (hin q _ hq).2 with h1 | ⟨h1, h2, h3, _⟩
  ·exact h1.1
  ·exact absurd ⟨q, e, cs, p, h1, h2, h3⟩ hf
 refine ⟨?_, ?_, ?_, ?_, ?_, ?_, ?_, ?_, h'.below, h'.base, fun q hq => by rw [a1, hnx]; exact h'.ban q hq, h.globs hgl hrl⟩
 ·intro q o p h1 h2; exact h'.obj q o p (hin q o h1).1 h2
 ·intro q q' o1 o2 p1 p2 hne h1 h2 h3 h4 h5; exact h'.inj q q' o1 o2 p1 p2 hne (hin q o1 h1).1 (hin q' o2 h2).1 h3 h4 h5
 ·intro q hq; rw [a1, hnx] at hq; exact h'.dom q hq
 ·intro q hq
  rw [a1] at hq
  rw [a5 q (by omega)]
  exact h.hdom q (by omega)
 ·intro f l hl
  rw [a1, hnx]
  rcases famcase f with ⟨_, h1⟩ | ⟨_, h1⟩
  ·rw [h1] at hl; exact h'.famlt f l hl
  ·rw [h1] at hl; have := h.famlt f l hl; omega
 ·intro q e cs f p h1; rw [a1, hnx]; exact h'.rowfam q e cs f p (hin q _ h1).1
 ·intro q e cs f p l h1 h2
  rcases famcase f with ⟨_, h3⟩ | ⟨hf, h3⟩
  ·rw [h3] at h2; exact h'.fam q e cs f p l (hin q _ h1).1 h2
  ·rw [h3] at h2; exact h.fam q e cs f p l (oldrow f hf q e cs p h1) h2
 ·intro q q' e e' cs cs' f p p' h1 h2 h3
  rcases famcase f with ⟨_, h4⟩ | ⟨hf, h4⟩
  ·rw [h4] at h3; exact h'.lone q q' e e' cs cs' f p p' (hin q _ h1).1 (hin q' _ h2).1 h3
  ·rw [h4] at h3; exact h.lone q q' e e' cs cs' f p p' (oldrow f hf q e cs p h1) (oldrow f hf q' e' cs' p' h2) h3
theorem agreesM_alt (lo : Nat) (v : AVal) (m1 : Mem) (a b : RR) : agreesM lo v m1 (.alt a b) = (agreesM lo v m1 a && agreesM lo v m1 b) := rfl
theorem leafM_of {env : Env} {M : Machine} {lo : Nat} {v : AVal} {m1 : Mem} : ∀ {r : RR}, Res P w0 B ρ env cs m M r → agreesM lo v m1 r = true →
  ∃ up' m', Res P w0 B ρ env cs m M (.ret v up' m') ∧ m'.dirty = false ∧ m1.next = m'.next ∧ sameNew lo m1 m' (m1.next - lo) = true := by
 intro r
 induction r with
 | ret v' up' m' =>
  intro h hg
  have hg' : (!m'.dirty && aEq v v' && m1.next.beq m'.next && sameNew lo m1 m' (m1.next.sub lo)) = true := hg
  rw [Bool.and_eq_true, Bool.and_eq_true, Bool.and_eq_true, nat_beq] at hg'
  obtain ⟨⟨⟨h1, h2⟩, h3⟩, h4⟩ := hg'
  have := aEq_sound _ _ h2
  subst this
  exact ⟨up', m', h, by simpa using h1, h3, h4⟩
 | panicked c up m => intro _ hg; cases hg
 | bad _ => intro _ hg; cases hg
 | alt a b iha ihb =>
  intro h hg
  rw [agreesM_alt, Bool.and_eq_true] at hg
  rcases h with h | h
  ·exact iha h hg.1
  ·exact ihb h hg.2
theorem mergeM_sound {env : Env} (hdf : env.dfr = false) (h : MR w0 B ρ m w) {M : Machine} {r : RR} (hr : Res P w0 B ρ env cs (watched m) M r) (v : AVal) (up1 : Chain) (m1 : Mem) : Res P w0 B ρ env cs m M (mergeM m r v up1 m1) := by
 unfold mergeM
 cases hag : agreesM m.next v m1 r with
 | false => exact trivial
 | true =>
  rw [cond_true]
  obtain ⟨up', m', hres, hdirty, hnx, hnew⟩ := leafM_of hr hag
  obtain ⟨hk, ρ', w1, w', fr', cs', x, s1, s2, s3, s4, s5, s6, s7⟩ := hres
  have hwn : (watched m).next = m.next := by cases m; rfl
  have hwl : (watched m).lo = m.next := by cases m; rfl
  have hwh : (watched m).heap = m.heap := by cases m; rfl
  have hsame : ∀ q, q < m.next → m'.heap.get q = m.heap.get q := by
   intro q hq
   have := hk.same (by rw [hwl, hwn]; exact Nat.le_refl _) hdirty q (by rw [hwl]; exact hq)
   rw [this, hwh]
  have hlen : m.next ≤ m'.next := by rw [← hwn]; exact hk.next
  have hM := h.merge s3 hsame hlen hnx hnew s2
  obtain ⟨a1, a2, a3, a4, a5, _, _⟩ := addNew_spec m.next m1 (upTo m m1.next) (m1.next - m.next)
  obtain ⟨u1, u2, u3, u4, u5⟩ := upTo_spec m m1.next
  refine ⟨⟨a2.trans u4, by rw [show (m1.next.sub m.next) = m1.next - m.next from rfl, a1, u2]; omega, fun e => by rw [← u5, ← a3]; exact e, fun hl _ q hq => ?_⟩, ρ', w1, w', fr', cs', x, s1, s2, hM, s4, s5, fun e => (by rw [hdf] at e; cases e), s7⟩
  rw [show (m1.next.sub m.next) = m1.next - m.next from rfl, a5 q (.inl (by omega)), u1]
theorem mergeR_sound {env : Env} (hdf : env.dfr = false) (h : MR w0 B ρ m w) {M : Machine} {r : RR} (hr : Res P w0 B ρ env cs (watched m) M r) : Res P w0 B ρ env cs m M (mergeR m r) := by
 unfold mergeR mergeAs
 split
 case h_2 => exact trivial
 rename_i v up1 m1 hfirst
 cases hc : goodKin m1 (kinOf m.next m1 v) && agrees m.next v (kinOf m.next m1 v) r with
 | false => exact mergeM_sound hdf h hr v up1 m1
 | true =>
  rw [cond_true]
  rw [Bool.and_eq_true] at hc
  obtain ⟨hgk, hag⟩ := hc
  obtain ⟨v', up', m', hres, hdirty, heq, hkin⟩ := leaf_of hr hag
  obtain ⟨hk, ρ', w1, w', fr', cs', x, s1, s2, s3, s4, s5, s6, s7⟩ := hres
  have hwn : (watched m).next = m.next := by cases m; rfl
  have hwl : (watched m).lo = m.next := by cases m; rfl
  have hwh : (watched m).heap = m.heap := by cases m; rfl
  have hsame : ∀ q, q < m.next → m'.heap.get q = m.heap.get q := by
   intro q hq
   have := hk.same (by rw [hwl, hwn]; exact Nat.le_refl _) hdirty q (by rw [hwl]; exact hq)
   rw [this, hwh]
  have hup : UpR ρ' env.dfr up1 cs' := by intro e; rw [hdf] at e; cases e
  -- no row
  have none_case : (∀ ρ0, R ρ0 v x) → Keeps m m ∧ ∃ ρ' w1 w' fr' cs' x, Steps P M (lone fr' cs' w1) ∧ ρ.le ρ' ∧ MR w0 B ρ' m w' ∧ R ρ' v x ∧ SameCs env.dfr cs cs' ∧ UpR ρ' env.dfr up1 cs' ∧ fr'.kind = kindOf env.dfr ∧
    (stepG P true { frame := fr', callers := cs', status := .running, dying := none } w1).bare = (doReturn P true fr' cs' none x w').bare ∧
    (env.roundOf = none → w1 = w' ∧ fr'.mode = .returning ∧ fr'.defers = [] ∧ fr'.fn = env.fn ∧ ∃ fn, P.funcs[fr'.fn]? = some fn ∧ (results fn fr'.tmps).run P w' = .ok x w') := fun hany =>
   ⟨Keeps.refl m, ρ, w1, w', fr', cs', x, s1, Rho.le.refl ρ, h.back s3 s2 hsame, hany ρ, s5, fun e => (by rw [hdf] at e; cases e), s7⟩
  have lit_case : ∀ y, v.toLit = some y → ∀ ρ0, R ρ0 v x := by
   intro y hy ρ0
   rcases heq with he | he
   ·have := aEq_sound _ _ he
    subst this
    exact R.any v x y s4 hy
   ·subst he; simp [R]
  cases hkn : kinOf m.next m1 v with
  | bad => rw [hkn] at hgk; cases hgk
  | none =>
   refine none_case ?_
   intro ρ0
   cases v with
   | lit y => exact lit_case y rfl ρ0
   | poison => simp [R]
   | slice r off n c ex =>
    exfalso
    have : rowKin m.next r (m1.heap.get r) = .none := hkn
    unfold rowKin at this
    split at this
    ·rename_i e cells f pos _
     cases hb : (m.next.ble r && m.next.ble f) with
     | false => rw [hb] at this; cases this
     | true =>
      rw [hb, cond_true] at this
      split at this <;> cases this
    ·cases this
   | _ =>
    simp only [kinOf] at hkn
    split at hkn
    ·rename_i y hy; exact lit_case y hy ρ0
    ·cases hkn
  | row r e cells =>
   rw [hkn] at hgk hkin
   have hr1 : r < m1.next := by
    have : r.blt m1.next = true := hgk
    simpa [Nat.blt_eq] using this
   have hsk : ∃ vs, litRow m.next e (m'.heap.get r) = some vs ∧ vEqs vs cells = true := by
    have : (match litRow m.next e (m'.heap.get r) with | some vs => vEqs vs cells | Option.none => false) = true := hkin
    cases hlr : litRow m.next e (m'.heap.get r) with
    | none => rw [hlr] at this; cases this
    | some vs => rw [hlr] at this; exact ⟨vs, rfl, this⟩
   obtain ⟨vs, hlr, hve⟩ := hsk
   have := vEqs_sound _ _ hve
   subst this
   obtain ⟨cells', f, pos, ho', hf, htl⟩ := litRow_some hlr
   -- the value is a slice of that row
   have hv : ∃ off n c ex, v = .slice r off n c ex ∧ m.next ≤ r := by
    cases v with
    | slice q off n c ex =>
     have h9 : rowKin m.next q (m1.heap.get q) = .row r e vs := hkn
     unfold rowKin at h9
     split at h9
     ·rename_i e2 cells2 f2 pos2 _
      cases hb : (m.next.ble q && m.next.ble f2) with
      | false => rw [hb] at h9; cases h9
      | true =>
       rw [hb, cond_true] at h9
       rw [Bool.and_eq_true, nat_ble] at hb
       split at h9
       ·cases h9; exact ⟨off, n, c, ex, rfl, hb.1⟩
       ·cases h9
     ·cases h9
    | lit y => cases hkn
    | poison => cases hkn
    | _ =>
     exfalso
     simp only [kinOf] at hkn
     split at hkn <;> cases hkn
   obtain ⟨off, n, c, ex, rfl, hrge⟩ := hv
   have hve2 : AVal.slice r off n c ex = v' := by
    rcases heq with he | he
    ·exact aEq_sound _ _ he
    ·cases he
   subst hve2
   have hR := s4
   simp only [R] at hR
   obtain ⟨p, c', hp, q1, q2, q3, q4⟩ := hR
   obtain ⟨hM, hle2⟩ := h.graft s3 s2 hsame (m1 := m1) hrge hr1 ho' hf htl hp
   obtain ⟨g1, g2, g3, g4, g5⟩ := graft_row m m1 r e vs
   refine ⟨⟨g4, by rw [g2]; omega, fun e => by rw [g5] at e; exact e, fun hl _ q hq => ?_⟩, ρ.add r p, w1, w', fr', cs', x, s1, hle2, hM, ?_, s5, fun e => (by rw [hdf] at e; cases e), s7⟩
   ·rw [g1, T.get_set_other _ _ (by omega)]
   ·simp only [R]
    exact ⟨p, c', Rho.add_same _ _ _, q1, q2, q3, q4⟩
theorem MR.grow (h : MR w0 B ρ m w) {w' : World} (hb : Below w.heap.size w w') : MR w0 B ρ m w' := by
 have hblk : ∀ q o2 p2, m.heap.get q = some o2 → ρ q = some p2 → w'.heap[p2.b]? = w.heap[p2.b]? := fun q o2 p2 h1 h2 => hb.block _ (h.blk_lt h1 h2)
 exact { h with
  obj := fun q o p h1 h2 => by rw [hblk q o p h1 h2]; exact h.obj q o p h1 h2
  below := h.below.trans (hb.mono h.size) }
def Are (r : RR) : RR → Prop
 | .ret v up m => .ret v up m = r
 | .panicked c up m => .panicked c up m = r
 | .bad w => .bad w = r
 | .alt a b => Are r a ∧ Are r b
theorem Res.are {P : Program} {w0 : Wo} {B : Nat} {ρ : Rho} {env : Env} {cs : List Frame} {m0 : Mem} {M : Machine} {r : RR} : ∀ {x : RR}, Are r x → Res P w0 B ρ env cs m0 M x → Res P w0 B ρ env cs m0 M r
 | .ret _ _ _, h, hr => by rw [← (h : _ = r)]; exact hr
 | .panicked _ _ _, h, hr => by rw [← (h : _ = r)]; exact hr
 | .bad _, h, hr => by rw [← (h : _ = r)]; exact hr
 | .alt _ _, h, hr => by
  rcases hr with hr | hr
  ·exact Res.are h.1 hr
  ·exact Res.are h.2 hr
structure TbOK (P : Program) (fl : Fl) : Prop where
 tb : ∀ (f : FuncId) (args : List AVal) (m : Mem) (v : Value), fl.tb f args m = some v → (∃ fn c, P.funcs[f]? = some fn ∧ fn.body = some c) ∧
 ∀ (w0 : Wo) (B : Nat) (ρ : Rho) (w : World) (xs : Array Value), MR w0 B ρ m w → RL ρ args xs.toList → Calls P f xs w fun e w' => e = .returned v ∧ Below w.heap.size w w'
 tc : ∀ (f : FuncId) (args : List AVal) (m : Mem) (r : RR), fl.tc f args m = some r → ∀ B w0, ∃ Rn, Sound P w0 B Rn ∧ Are r (callBody0 Rn false f args [] m P.funcs[f]?)
theorem TbOK.none (P : Program) (l : List Nat) : TbOK P ⟨l, fun _ _ _ => none, fun _ _ _ => none⟩ := ⟨fun _ _ _ _ h => (by cases h), fun _ _ _ _ h => (by cases h)⟩
theorem call_sound (htb : TbOK P fl) (hrec : Sound P w0 B rec) : CallOK P w0 B fl rec := by
 intro ρ m w f args xs dfr cs up h hl hU
 unfold callBody
 cases dfr with
 | true => exact callBody0_sound hrec h hl true hU
 | false =>
  rw [cond_false]
  cases ht : fl.tb f args m with
  | some v =>
   obtain ⟨⟨fn, c, hf, hb⟩, hc⟩ := htb.tb f args m v ht
   refine .inr ⟨fn, c, hf, hb, ?_⟩
   obtain ⟨e, w', fr, ⟨rfl, hbel⟩, hcomes, hfn, hm, hd, hk, fn', hf', hres⟩ := hc w0 B ρ w xs h hl cs
   refine ⟨Keeps.refl m, ρ, w', w', fr, cs, v, hcomes, Rho.le.refl ρ, h.grow hbel, by simp [R], SameCs.refl _ _, fun e => (by cases e), hk, ?_, fun _ => ⟨rfl, hm, hd, hfn, fn', hf', hres⟩⟩
   simp [stepG, unwind, hm, hd, hf', hres]
  | none =>
   dsimp only
   unfold callIn
   split
   ·rename_i r hc
    cases up with
    | nil =>
     obtain ⟨Rn, hR, e⟩ := htb.tc f args m r hc B w0
     rcases callBody0_sound hR h hl false hU (f := f) with ⟨why, hb⟩ | ⟨fn, c, hf, hb, hr⟩
     ·rw [hb] at e; exact .inl ⟨why, Eq.symm e⟩
     ·exact .inr ⟨fn, c, hf, hb, Res.are e hr⟩
    | cons _ _ => cases hc
   cases hn : hasN fl.l f with
   | false =>
    rw [cond_false]
    rcases callBody0_sound hrec (h.zIn fl f) hl false hU (f := f) with hb | ⟨fn, c, hf, hb, hr⟩
    ·exact .inl hb
    ·exact .inr ⟨fn, c, hf, hb, Res.later (Rho.le.refl _) (Keeps.zIn fl f m) (SameCs.refl _ _) hr⟩
   | true =>
    rw [cond_true]
    rcases callBody0_sound hrec h.watched hl false hU (f := f) with ⟨why, hb⟩ | ⟨fn, c, hf, hb, hr⟩
    ·rw [hb]; exact .inl ⟨_, rfl⟩
    ·exact .inr ⟨fn, c, hf, hb, mergeR_sound (env := ⟨f, fn.ntmps, false, none⟩) rfl h hr⟩
end
open Go.RowKit (Below)
section
variable {P : Program} {w0 : Wo} {B : Nat} {ρ : Rho} {m : Mem} {w : World} {env : Env} {fr : Frame} {cs : List Frame} {tmps : T AVal} {ds : List ADef} {up : Chain} {rec : Run} {fl : Fl}
def DrawOK (P : Program) (w0 : Wo) (B : Nat) (fl : Fl) (rec : Run) : Prop :=
 ∀ (env : Env) (id : Nat) (ops : Array Oper) (k : List AItem) (ρ : Rho) (m : Mem) (w : World) (fr : Frame) (tmps : T AVal) (ds : List ADef) (up : Chain) (cs : List Frame),
  MR w0 B ρ m w → FR P ρ env ((AItem.code (.region id ops true) :: k).map AItem.toItem) tmps ds .run fr → UpR ρ env.dfr up cs →
  Res P w0 B ρ env cs m (lone fr cs w) (drawWith P fl rec env ops.toList k tmps ds up m (plan ops.toList))
theorem code_sound (hnames : NamesOK P) (hrec : Sound P w0 B rec) (hcall : CallOK P w0 B fl rec) (hdraw : DrawOK P w0 B fl rec) (h : MR w0 B ρ m w) {c : Code} {k : List AItem}
  (hF : FR P ρ env ((AItem.code c :: k).map AItem.toItem) tmps ds .run fr) (hU : UpR ρ env.dfr up cs) : Res P w0 B ρ env cs m (lone fr cs w) (codeGo P fl rec env k tmps ds up m c) := by
 cases c with
 | skip => exact simple_sound hrec h hF hU fun fr hm ht => by simp [stepG, hm, stepG.exec, ht, AItem.toItem]
 | label l => exact simple_sound hrec h hF hU fun fr hm ht => by simp [stepG, hm, stepG.exec, ht, AItem.toItem]
 | seq a b => exact simple_sound hrec h (k' := .code a :: .code b :: k) hF hU fun fr hm ht => by simp [stepG, hm, stepG.exec, ht, AItem.toItem]
 | cond c a b => exact cond_sound hrec h hF hU
 | block id body => exact simple_sound hrec h (k' := .code body :: .inBlock id :: k) hF hU fun fr hm ht => by simp [stepG, hm, stepG.exec, ht, AItem.toItem]
 | loop body => exact simple_sound hrec h (k' := .code body :: .inLoop body :: k) hF hU fun fr hm ht => by simp [stepG, hm, stepG.exec, ht, AItem.toItem]
 | scope body => exact simple_sound hrec h (k' := .code body :: .inScope body :: k) hF hU fun fr hm ht => by simp [stepG, hm, stepG.exec, ht, AItem.toItem]
 | exit id => exact jump_sound hrec h hF hU (.inl ⟨id, rfl, rfl⟩)
 | goto l => exact jump_sound hrec h hF hU (.inr ⟨l, rfl, rfl⟩)
 | ret => exact ret_sound hrec h hF hU
 | rangeFunc f ps a b => exact rangeF_sound hnames hrec hcall h hF hU
 | region id ops draw =>
  cases draw with
  | true => exact hdraw env id ops k ρ m w fr tmps ds up cs h hF hU
  | false =>
   have hm : fr.mode = .run := hF.mode
   have ht := hF.todo rfl
   have hr := region_sound (P := P) (w0 := w0) (B := B) (env := env) hnames hrec hcall (k := k) ops.toList 0 rfl
   have hlen : ops.toList.length = ops.size := by simp
   rw [hlen, ← List.range_eq_range'] at hr
   refine Res.steps (.one (step_lone_go (fr' := { fr with todo := .inRegion ops (List.range ops.size) :: k.map AItem.toItem }) (cs' := cs) (w' := w) ?_)) (hr ρ m w _ tmps ds up cs h (hF.goto _) hU)
   simp [stepG, hm, stepG.exec, ht, AItem.toItem]
 | refuse why => exact trivial
theorem body_sound (hnames : NamesOK P) (htb : TbOK P fl) (hrec : Sound P w0 B rec) (hdraw : DrawOK P w0 B fl rec) : Sound P w0 B (bodyGo P fl rec) := by
 intro env todo tmps ds mode up m ρ w fr cs h hF hU
 have hcall : CallOK P w0 B fl rec := call_sound htb hrec
 cases mode with
 | run =>
  show Res P w0 B ρ env cs m (lone fr cs w) (todoGo P fl rec env tmps ds up m todo)
  cases todo with
  | nil => exact end_sound hrec h hF hU
  | cons x k =>
   show Res P w0 B ρ env cs m (lone fr cs w) (itemGo P fl rec env k tmps ds up m x)
   cases x with
   | code c => exact code_sound hnames hrec hcall hdraw h hF hU
   | inBlock id => exact simple_sound hrec h hF hU fun fr hm ht => by simp [stepG, hm, stepG.exec, ht, AItem.toItem]
   | inScope b => exact simple_sound hrec h hF hU fun fr hm ht => by simp [stepG, hm, stepG.exec, ht, AItem.toItem]
   | inLoop body => exact simple_sound hrec h (k' := .code body :: .inLoop body :: k) hF hU fun fr hm ht => by simp [stepG, hm, stepG.exec, ht, AItem.toItem]
   | beginRound =>
    show Res P w0 B ρ env cs m (lone fr cs w) (match env.roundOf with | some l => beginR rec env k tmps ds up m l (m.heap.get l) | none => .bad "beginRound")
    cases hl : env.roundOf with
    | none => exact trivial
    | some l => exact begin_sound hrec h hl hF hU
 | returning => exact unwind_sound hnames hrec hcall h (fun e => by cases e) { hF with todo := fun e => by cases e } hU
 | panicking c => exact unwind_sound hnames hrec hcall h (fun e => by cases e) hF.panicking hU
theorem run_sound (hnames : NamesOK P) (htb : TbOK P fl) (hdraw : ∀ rec, (∀ w0, Sound P w0 B rec) → ∀ w0, DrawOK P w0 B fl rec) : ∀ n w0, Sound P w0 B (run P fl n) := by
 intro n
 induction n with
 | zero => intro w0 env todo tmps ds mode up m ρ w fr cs _ _ _; exact trivial
 | succ n ih => exact fun w0 => body_sound hnames htb (ih w0) (hdraw _ ih w0)
theorem MR.empty (w : World) : MR ⟨w, fun _ => False⟩ w.heap.size (fun _ => none) mem0 w := by
 have hg : ∀ q, mem0.heap.get q = none := fun q => T.get_e q
 have hf : ∀ q, mem0.fams.get q = none := fun q => T.get_e q
 refine ⟨?_, ?_, fun _ _ => rfl, fun q _ => hg q, ?_, ?_, ?_, ?_, Below.refl _ _, Nat.le_refl _, fun _ h => h.elim, fun _ _ hm => by cases hm⟩
 ·intro r o p h; rw [hg] at h; cases h
 ·intro r r' o o' p p' _ h; rw [hg] at h; cases h
 ·intro f l h; rw [hf] at h; cases h
 ·intro r e cs f p h; rw [hg] at h; cases h
 ·intro r e cs f p l h; rw [hg] at h; cases h
 ·intro r r' e e' cs cs' f p p' h; rw [hg] at h; cases h
end
end Go.Abs
