/- An executor whose runs hold in every world: a part of it and of what is proved of it. -/
import Derived.Test.YtjefckdgpbdpeaaGreatAbsDrawc

namespace Go.Abs
open Go
open Go.RowKit (Below)

/-- numbers that nothing places while some makers are pending -/
def Nb (N : Nat → Prop) (pend : List Pn) (r : Nat) : Prop := N r ∨ ∃ c ∈ pend, c.w = true ∧ c.it.kind = 2 ∧ r = c.mc.next

theorem SameCs.trans {dfr : Bool} {a b c : List Frame} (hc : SameCs dfr a b) (h : SameCs dfr b c) : SameCs dfr a c := by
  refine ⟨fun hd => (h.1 hd).trans (hc.1 hd), fun c rest e => ?_, fun e => h.2.2 (hc.2.2 e)⟩
  obtain ⟨md, h1, h2, h3⟩ := hc.2.1 c rest e
  obtain ⟨md', h4, h5, h6⟩ := h.2.1 _ _ h1
  refine ⟨md', h4, fun hr => h5 (h2 hr), fun ch hp => ?_⟩
  obtain ⟨ch', h7⟩ := h3 ch hp
  exact h6 ch' h7

section
variable {P : Program} {w0 : Wo} {B : Nat} {rec : Run} {fl : Fl}

theorem FR.retmps {ρ : Rho} {env : Env} {its : List Item} {tmps t : T AVal} {ds : List ADef} {mo : AMode} {fr : Frame} (hF : FR P ρ env its tmps ds mo fr) (h : TR ρ t fr.tmps) : FR P ρ env its t ds mo fr := { hF with tmps := h }

theorem gd_congr {ops : Array Oper} {o : Oper} {T T' : Abs.T AVal} (h : ∀ s, Rd ops o s → getT T s = getT T' s) : gd ops.toList T o.guard = gd ops.toList T' o.guard := by
  cases hg : o.guard with
  | none => rfl
  | some jw =>
    obtain ⟨j, want⟩ := jw
    show (match dstOf ops.toList j with | some d => gdV want (getT T d) | none => some false) = (match dstOf ops.toList j with | some d => gdV want (getT T' d) | none => some false)
    have hdst : dstOf ops.toList j = (ops[j]?).bind (·.dst) := by
      unfold dstOf
      rw [getO_eq]
      simp
    rw [hdst]
    cases hq : ops[j]? with
    | none => rfl
    | some q =>
      rw [Option.bind_some]
      cases hd : q.dst with
      | none => rfl
      | some d =>
        dsimp only
        rw [h d (.inr ⟨j, want, q, hg, hq, hd⟩)]

structure DS (P : Program) (ops : Array Oper) (w0 : Wo) (B : Nat) (env : Env) (k : List AItem) (mb : Mem) (ρb : Rho) (csb : List Frame) (tmps0 : Abs.T AVal) (m : Mem) (tmps : Abs.T AVal) (ds : List ADef) (up : Chain) (done : Nat) (cks : List Ck) (cs : List Frame)
    (ρ : Rho) (w : World) (fr : Frame) (L : List Nat) (listed : Array Bool) (pend : List Pn) (Tm : Abs.T AVal) : Prop where
  inv : Inv P ops env.nt mb.next m tmps0 tmps Tm listed done cks pend
  mr : MR ⟨w0.w, Nb w0.N pend⟩ B ρ m w
  fr : FR P ρ env (.inRegion ops L :: k.map AItem.toItem) Tm ds .run fr
  up : UpR ρ env.dfr up cs
  ord : Ord ops listed L
  le : ρb.le ρ
  keeps : Keeps mb m
  same : SameCs env.dfr csb cs

variable {ops : Array Oper} {its0 : PTree} {env : Env} {k : List AItem} {mb : Mem} {ρb : Rho} {csb : List Frame} {tmps0 tmps : Abs.T AVal} {m : Mem} {ds : List ADef} {up : Chain} {done : Nat} {cks : List Ck} {cs : List Frame}

theorem okind_defer {op : Op} (h : okind op < 3) : ∀ c, op ≠ .defer c := by
  intro c e
  subst e
  exact absurd (show (3 : Nat) < 3 from h) (by decide)

/-- the machine runs what is pending, as long as its order has that -/
theorem flush (hP : PlanOK ops its0) (hN0 : ∀ r, w0.N r → r < mb.next) {r : RR}
    (K : ∀ ρ w fr L listed pend Tm, DS P ops w0 B env k mb ρb csb tmps0 m tmps ds up done cks cs ρ w fr L listed pend Tm → (∀ c ∈ pend, L.head? ≠ some c.it.ix) → Res P w0 B ρb env csb mb (lone fr cs w) r) :
    ∀ L ρ w fr listed pend Tm, DS P ops w0 B env k mb ρb csb tmps0 m tmps ds up done cks cs ρ w fr L listed pend Tm → Res P w0 B ρb env csb mb (lone fr cs w) r := by
  intro L
  induction L with
  | nil => intro ρ w fr listed pend Tm hD; exact K ρ w fr [] listed pend Tm hD fun c _ => by simp
  | cons i L ih =>
    intro ρ w fr listed pend Tm hD
    by_cases hex : ∃ c ∈ pend, c.it.ix = i
    · obtain ⟨c, hc, rfl⟩ := hex
      have hi := hD.ord.1
      have ho := (hD.inv.it c hc).1
      have hm : fr.mode = .run := hD.fr.mode
      have ht := hD.fr.todo rfl
      have hready := ready_mask hD.inv.closed hi (hD.inv.it c hc).2.1
      have hread : ∀ s, Rd ops c.it.o s → getT Tm s = getT c.T s := by
        intro s hs
        refine hD.inv.rd2 c hc s hs fun c' hc' _ => ?_
        cases h : c.it.mask.testBit c'.it.ix with
        | false => rfl
        | true => have := hready _ h; rw [hD.inv.pnl c' hc'] at this; cases this
      have hop : ∀ s ∈ opTmps c.it.o, R ρ (getT c.T s) (fr.tmps.getD s undef) := by
        intro s hs
        rw [← hread s (.inl hs)]
        exact hD.fr.tmps s
      have hw : Region.wanted c.it.o (yielded ops fr.tmps) = c.w := gd_sound hD.fr (by rw [gd_congr hread]; exact hD.inv.gd c hc)
      have hpop := hD.inv.pop hP hc hi
      have hsub : ∀ r, Nb w0.N (pend.filter fun c' => !(c'.it.ix == c.it.ix)) r → Nb w0.N pend r := by
        rintro r (h | ⟨c', h1, h2⟩)
        · exact .inl h
        · exact .inr ⟨c', (List.mem_filter.1 h1).1, h2⟩
      cases hcw : c.w with
      | false =>
        rw [hcw] at hw
        refine Res.steps (.one (step_skip_op hm ht ho hw)) (ih ρ w _ _ _ _ ⟨hpop, hD.mr.unban hsub, ?_, hD.up, hD.ord.2, hD.le, hD.keeps, hD.same⟩)
        exact hD.fr.finish ho (Rho.le.refl ρ) (by rw [hD.inv.unw c hc hcw]; simp only [undefA, R]; rfl)
      | true =>
        rw [hcw] at hw
        have hlt3 := hD.inv.lt3 c hc hcw
        have hkk := (hD.inv.it c hc).2.2
        have hstep := stepG_oper (P := P) (cs := cs) (w := w) hm ht ho hw (.inl (okind_defer (by rw [← hkk]; exact hlt3)))
        by_cases hk : c.it.kind < 2
        · obtain ⟨x, w', ρ', h1, hle, hM, hR⟩ := light_run hD.mr hop (hD.inv.k01 c hc hcw hk)
          rcases h1 with h1 | ⟨h1, hv⟩
          · refine Res.steps (.one (step_lone_go (by rw [hstep]; exact apply_value h1))) (ih ρ' w' _ _ _ _ ⟨hpop, hM.unban hsub, ?_, hD.up.mono hle, hD.ord.2, hD.le.trans hle, hD.keeps, hD.same⟩)
            exact hD.fr.finish ho hle hR
          · refine Res.steps (.one (step_lone_go (by rw [hstep]; exact apply_skip h1))) (ih ρ' w' _ _ _ _ ⟨hpop, hM.unban hsub, ?_, hD.up.mono hle, hD.ord.2, hD.le.trans hle, hD.keeps, hD.same⟩)
            exact hD.fr.finish ho hle (by rw [hv]; simp [R])
        · have hk2 : c.it.kind = 2 := by omega
          obtain ⟨mc', e1, e2, e3, e4, _⟩ := hD.inv.k2 c hc hcw hk2
          have hno := (hD.mr.ban c.mc.next (.inr ⟨c, hc, hcw, hk2, rfl⟩)).2
          have hnb : ¬ Nb w0.N (pend.filter fun c' => !(c'.it.ix == c.it.ix)) c.mc.next := by
            rintro (h | ⟨c', h1, h2, h3, h4⟩)
            · have := hN0 _ h; omega
            · rw [List.mem_filter] at h1
              have := hD.inv.k2d c hc c' h1.1 hcw h2 hk2 h3 h4
              subst this
              simp at h1
          obtain ⟨x, w', ρ', h1, hle, hM, hR, _⟩ := maker_run (hD.mr.unban hsub) (by rw [← hkk]; exact hk2) hop e1 e2 hno hnb
          refine Res.steps (.one (step_lone_go (by rw [hstep]; exact apply_value h1))) (ih ρ' w' _ _ _ _ ⟨hpop, hM, ?_, hD.up.mono hle, hD.ord.2, hD.le.trans hle, hD.keeps, hD.same⟩)
          exact hD.fr.finish ho hle hR
    · refine K ρ w fr _ listed pend Tm hD fun c hc e => hex ⟨c, hc, ?_⟩
      simpa using e.symm

theorem ready_not {listed : Array Bool} {i : Nat} (hs : listed.size = ops.size) (h : i ∈ Region.ready .any ops listed) : listed.getD i false = false ∧ i < ops.size := by
  obtain ⟨h1, o, ho, _⟩ := mem_ready.1 h
  have hlt := (Array.getElem?_eq_some_iff.1 ho).1
  refine ⟨?_, hlt⟩
  rw [Array.getD_eq_getD_getElem?, Array.getElem?_eq_getElem (by omega)] at h1 ⊢
  exact h1
theorem full_bit {n i : Nat} (h : i < n) : (2 ^ n - 1).testBit i = true := by
  rw [Nat.testBit_two_pow_sub_one]; simpa using h

theorem lastV_eq {nt : Nat} {T T' : Abs.T AVal} (dst : Option Tmp) (v : AVal) : setDst nt T (match dst with | some d => getT (setDst nt T' v dst) d | none => .poison) dst = setDst nt T v dst := by
  cases dst with
  | none => rfl
  | some d =>
    dsimp only
    rw [getT_setDst]
    show setIn nt T d _ = setIn nt T d v
    by_cases h : d < nt
    · rw [if_pos ⟨rfl, h⟩]
    · unfold setIn
      have : d.succ.ble nt = false := nat_ble_f.2 (Nat.lt_succ_of_le (Nat.le_of_not_lt h))
      rw [this]; rfl

/-- what a plan says of the rest of a region, in each state -/
def FullT (P : Program) (ops : Array Oper) (w0 : Wo) (B : Nat) (fl : Fl) (rec : Run) (env : Env) (k : List AItem) (mb : Mem) (ρb : Rho) (csb : List Frame) (tmps0 : Abs.T AVal) (t : PTree) : Prop :=
  ∀ (top : Bool) (done : Nat) (cks : List Ck) (tmps : Abs.T AVal) (m : Mem) (ds : List ADef) (up : Chain) (cs : List Frame) (ρ : Rho) (w : World) (fr : Frame) (L : List Nat) (listed : Array Bool) (pend : List Pn) (Tm : Abs.T AVal),
    top = true → okT (items ops.toList) (2 ^ ops.size - 1) t top done = true →
    DS P ops w0 B env k mb ρb csb tmps0 m tmps ds up done cks cs ρ w fr L listed pend Tm →
    Res P w0 B ρb env csb mb (lone fr cs w) (drawGo P fl rec env ops.toList k tmps0 t cks tmps ds up m)

theorem drawGo_fin (cks : List Ck) : drawGo P fl rec env ops.toList k tmps0 .fin cks tmps ds up m = rec env k tmps ds .run up m := rfl
theorem drawGo_light (p : PItem) (r : PTree) (cks : List Ck) : drawGo P fl rec env ops.toList k tmps0 (.light p r) cks tmps ds up m = (match gd ops.toList tmps p.o.guard with
      | some true => lightR env p (drawGo P fl rec env ops.toList k tmps0 r) cks tmps ds up m (aop P tmps m p.o.op)
      | some false => drawGo P fl rec env ops.toList k tmps0 r cks (setDst env.nt tmps undefA p.o.dst) ds up m
      | none => .bad "guard") := rfl
theorem drawGo_heavy (p : PItem) (r : PTree) (cks : List Ck) : drawGo P fl rec env ops.toList k tmps0 (.heavy p r) cks tmps ds up m = (match gd ops.toList tmps p.o.guard with
      | some true => operR P fl rec env (fun c up m => rec env k (poisonDsts tmps0 env.nt ops.toList) ds (.panicking c) up m) p.o.dst (behindR P p (drawGo P fl rec env ops.toList k tmps0 r) cks) tmps ds up m p.o.op
      | some false => drawGo P fl rec env ops.toList k tmps0 r cks (setDst env.nt tmps undefA p.o.dst) ds up m
      | none => .bad "guard") := rfl
theorem drawGo_either (a b : PTree) (cks : List Ck) : drawGo P fl rec env ops.toList k tmps0 (.either a b) cks tmps ds up m = .alt (drawGo P fl rec env ops.toList k tmps0 a cks tmps ds up m) (drawGo P fl rec env ops.toList k tmps0 b cks tmps ds up m) := rfl

/-- one of the ways on -/
theorem pick_branch {wb : Wo} {M : Machine} : ∀ (t : PTree) (x : PItem × PTree), x ∈ branchesT t → Res P wb B ρb env csb mb M (drawGo P fl rec env ops.toList k tmps0 (.heavy x.1 x.2) cks tmps ds up m) →
    Res P wb B ρb env csb mb M (drawGo P fl rec env ops.toList k tmps0 t cks tmps ds up m)
  | .fin, x, hx, _ => by cases hx
  | .light _ _, x, hx, _ => by cases hx
  | .heavy p r, x, hx, h => by
    simp only [branchesT, List.mem_singleton] at hx
    subst hx
    exact h
  | .either a b, x, hx, h => by
    rw [drawGo_either]
    rcases List.mem_append.1 hx with hx | hx
    · exact .inl (pick_branch a x hx h)
    · exact .inr (pick_branch b x hx h)

/-- one that is not wanted is run by the plan -/
theorem unwanted_step (hP : PlanOK ops its0) {p : PItem} {r : PTree} (hr : FullT P ops w0 B fl rec env k mb ρb csb tmps0 r) {ρ : Rho} {w : World} {fr : Frame} {L : List Nat} {listed : Array Bool} {pend : List Pn} {Tm : Abs.T AVal}
    (hp : ops[p.ix]? = some p.o ∧ (befores ops.toList)[p.ix]? = some p.mask ∧ p.kind = okind p.o.op) (hfit : fitP done p = true) (hok : okT (items ops.toList) (2 ^ ops.size - 1) r true (done.lor (Nat.pow 2 p.ix)) = true)
    (hg : gd ops.toList tmps p.o.guard = some false) (hD : DS P ops w0 B env k mb ρb csb tmps0 m tmps ds up done cks cs ρ w fr L listed pend Tm) :
    Res P w0 B ρb env csb mb (lone fr cs w) (drawGo P fl rec env ops.toList k tmps0 r cks (setDst env.nt tmps undefA p.o.dst) ds up m) := by
  obtain ⟨o1, o3⟩ := fitP_spec hfit
  refine hr true _ cks _ m ds up cs ρ w fr L listed (⟨p, tmps, undefA, false, m⟩ :: pend) Tm rfl hok ⟨?_, ?_, hD.fr, hD.up, hD.ord, hD.le, hD.keeps, hD.same⟩
  · exact hD.inv.join hP hp o1 o3 hg (fun _ => rfl) (fun h => by cases h) (Ext.refl m) (Nat.le_refl _) (fun _ _ => rfl) (fun _ h => h) (fun h => by cases h) (fun h => by cases h) (fun h => by cases h)
  · refine hD.mr.unban ?_
    rintro r (h | ⟨c, hc, h1, h2⟩)
    · exact .inl h
    · rcases List.mem_cons.1 hc with rfl | hc
      · cases h1
      · exact .inr ⟨c, hc, h1, h2⟩

/-- the machine comes to a heavy one, too -/
theorem heavy_step (hnames : NamesOK P) (htb : TbOK P fl) (hrec : ∀ w0, Sound P w0 B rec) (hP : PlanOK ops its0) {p : PItem} {r : PTree} (hr : FullT P ops w0 B fl rec env k mb ρb csb tmps0 r) {ρ : Rho} {w : World} {fr : Frame} {L : List Nat} {listed : Array Bool} {pend : List Pn} {Tm : Abs.T AVal}
    (hp : ops[p.ix]? = some p.o ∧ (befores ops.toList)[p.ix]? = some p.mask ∧ p.kind = okind p.o.op) (hfit : fitP done p = true) (hok : okT (items ops.toList) (2 ^ ops.size - 1) r true (done.lor (Nat.pow 2 p.ix)) = true)
    (hg : gd ops.toList tmps p.o.guard = some true) (hD : DS P ops w0 B env k mb ρb csb tmps0 m tmps ds up done cks cs ρ w fr (p.ix :: L) listed pend Tm) :
    Res P w0 B ρb env csb mb (lone fr cs w) (operR P fl rec env (fun c up m => rec env k (poisonDsts tmps0 env.nt ops.toList) ds (.panicking c) up m) p.o.dst (behindR P p (drawGo P fl rec env ops.toList k tmps0 r) cks) tmps ds up m p.o.op) := by
  obtain ⟨o1, o3⟩ := fitP_spec hfit
  have hm : fr.mode = .run := hD.fr.mode
  have hready := ready_mask hD.inv.closed hD.ord.1 hp.2.1
  have hread : ∀ s, Rd ops p.o s → getT Tm s = getT tmps s := by
    intro s hs
    refine hD.inv.tr s fun c hc hw => ?_
    have hne : c.it.ix ≠ p.ix := by
      intro e
      have := hD.inv.pdone c hc
      rw [e, o3] at this; cases this
    rcases reads_spec hP (hD.inv.it c hc).1 hp.1 hne hw.1 hs with ⟨mk, h3, h4⟩ | ⟨mk, h3, h4⟩
    · rw [hp.2.1] at h3; cases h3
      have := hready _ h4
      rw [hD.inv.pnl c hc] at this; cases this
    · rw [(hD.inv.it c hc).2.1] at h3; cases h3
      have := hD.inv.pmask c hc _ h4
      rw [o3] at this; cases this
  have hw : Region.wanted p.o (yielded ops fr.tmps) = true := gd_sound hD.fr (by rw [gd_congr hread]; exact hg)
  have hsame : SameAt tmps Tm p.o.op.operands := by
    intro x hx
    cases x with
    | tmp s => exact (hread s (.inl (mem_opTmps.2 hx))).symm
    | _ => rfl
  rw [operR_congr (T := tmps) (T' := Tm) (panicked' := fun c up m => rec env k (poisonDsts tmps0 env.nt ops.toList) ds (.panicking c) up m)
    (cont' := fun t ds up m => behindR P p (drawGo P fl rec env ops.toList k tmps0 r) cks (setDst env.nt tmps (match p.o.dst with | some d => getT t d | none => .poison) p.o.dst) ds up m) p.o.op hsame
    (fun v ds up m => by rw [lastV_eq]) (fun _ _ _ => rfl)]
  refine operR_sound (wb := w0) (ρb := ρb) (csb := csb) (mb := mb) hnames (hrec _) (call_sound htb (hrec _)) hD.mr hD.fr hD.up hp.1 hw ?_ ?_
  · intro ρ1 m1 w1 fr1 v ds1 up1 cs1 hle hk hsc h3 hF1 hU1
    dsimp only
    rw [lastV_eq]
    show Res P w0 B ρb env csb mb (lone fr1 cs1 w1) (bif ckAll P p.mask m1 cks then drawGo P fl rec env ops.toList k tmps0 r (leftCk p.mask cks) (setDst env.nt tmps v p.o.dst) ds1 up1 m1 else .bad p.o.pos)
    cases hck : ckAll P p.mask m1 cks with
    | false => exact trivial
    | true =>
      rw [cond_true]
      exact hr true _ _ _ m1 ds1 up1 cs1 ρ1 w1 fr1 L _ pend _ rfl hok ⟨hD.inv.heavy hP hp hD.ord.1 o3 hk.next hck v, h3, hF1, hU1, hD.ord.2, hD.le.trans hle, hD.keeps.trans hk, hD.same.trans hsc⟩
  · intro ρ1 m1 w1 fr1 c up1 cs1 hle hk hsc h3 hF1 hU1
    have hT : TR ρ1 (poisonDsts tmps0 env.nt ops.toList) fr1.tmps := by
      intro j
      rcases getT_poisonDsts (nt := env.nt) (t := tmps0) ops.toList j with h4 | ⟨h4, h5⟩
      · rw [h4]; simp [R]
      · rw [h4, ← hD.inv.t0 j h5, ← hD.inv.tr j ?_]
        · exact hF1.tmps j
        · intro c hc hw
          exact h5 hw.2 c.it.o (List.mem_of_getElem? (by simpa using (hD.inv.it c hc).1)) hw.1
    exact Res.later (hD.le.trans hle) (hD.keeps.trans hk) (hD.same.trans hsc) (hrec w0 env k _ ds _ up1 m1 ρ1 w1 fr1 cs1 (h3.unban (N' := w0.N) fun r hr => .inl hr) (hF1.panicking.retmps hT) hU1)

/-- a heavy place -/
theorem heavy_place (hnames : NamesOK P) (htb : TbOK P fl) (hrec : ∀ w0, Sound P w0 B rec) (hP : PlanOK ops its0) (hN0 : ∀ r, w0.N r → r < mb.next) {t : PTree} (ht : (∃ p r, t = .heavy p r) ∨ ∃ a b, t = .either a b)
    (hit : ∀ x ∈ branchesT t, ops[x.1.ix]? = some x.1.o ∧ (befores ops.toList)[x.1.ix]? = some x.1.mask ∧ x.1.kind = okind x.1.o.op) (hfull : ∀ x ∈ branchesT t, FullT P ops w0 B fl rec env k mb ρb csb tmps0 x.2) :
    FullT P ops w0 B fl rec env k mb ρb csb tmps0 t := by
  intro top done cks tmps m ds up cs ρ w fr L listed pend Tm htop hok hD
  subst htop
  have hbr := okT_branches t true done hok
  have hwhole := okT_whole hok ht
  by_cases hun : ∃ x ∈ branchesT t, gd ops.toList tmps x.1.o.guard ≠ some true
  · obtain ⟨x, hx, hg⟩ := hun
    refine pick_branch t x hx ?_
    rw [drawGo_heavy]
    cases hg' : gd ops.toList tmps x.1.o.guard with
    | none => exact trivial
    | some b =>
      cases b with
      | true => exact absurd hg' hg
      | false => exact unwanted_step hP (hfull x hx) (hit x hx) (hbr x hx).1 (hbr x hx).2 hg' hD
  · refine flush hP hN0 ?_ L ρ w fr listed pend Tm hD
    intro ρ w fr L listed pend Tm hD hhead
    cases L with
    | nil =>
      exfalso
      have hall := all_listed hP.edges hD.inv.size hD.ord
      have : ∃ x, x ∈ branchesT t := okT_some hok ht
      obtain ⟨x, hx⟩ := this
      have h1 := hall x.1.ix (Array.getElem?_eq_some_iff.1 (hit x hx).1).1
      have h2 := hD.inv.ld _ h1
      rw [(fitP_spec (hbr x hx).1).2] at h2; cases h2
    | cons i L =>
      obtain ⟨h1, h2⟩ := ready_not hD.inv.size hD.ord.1
      obtain ⟨q, hq, hqi⟩ := items_all h2
      have hqs := items_mem hq
      have hnd : done.testBit i = false := by
        cases hd : done.testBit i with
        | false => rfl
        | true =>
          exfalso
          rcases hD.inv.dl i hd with h4 | ⟨c, hc, e⟩
          · rw [h1] at h4; cases h4
          · exact hhead c hc (by simp [e])
      have hrd : readyP done q = true := by
        rw [readyP_iff]
        intro b hb
        exact hD.inv.ld _ (ready_mask hD.inv.closed hD.ord.1 (mk := q.mask) (by rw [← hqi]; exact hqs.2.1) b hb)
      rcases hwhole q hq with h3 | h3 | ⟨x, hx, h3⟩
      · rw [hqi, hnd] at h3; cases h3
      · rw [hrd] at h3; cases h3
      · have hxi : i = x.1.ix := by rw [h3, hqi]
        subst hxi
        refine pick_branch t x hx ?_
        rw [drawGo_heavy]
        have hg : gd ops.toList tmps x.1.o.guard = some true := Classical.byContradiction fun hne => hun ⟨x, hx, hne⟩
        rw [hg]
        exact heavy_step hnames htb hrec hP (hfull x hx) (hit x hx) (hbr x hx).1 (hbr x hx).2 hg hD

theorem full_all (hnames : NamesOK P) (htb : TbOK P fl) (hrec : ∀ w0, Sound P w0 B rec) (hP : PlanOK ops its0) (hN0 : ∀ r, w0.N r → r < mb.next) :
    ∀ t : PTree, (∀ p ∈ itemsT t, ops[p.ix]? = some p.o ∧ (befores ops.toList)[p.ix]? = some p.mask ∧ p.kind = okind p.o.op) →
      FullT P ops w0 B fl rec env k mb ρb csb tmps0 t ∧ (∀ x ∈ branchesT t, (ops[x.1.ix]? = some x.1.o ∧ (befores ops.toList)[x.1.ix]? = some x.1.mask ∧ x.1.kind = okind x.1.o.op) ∧ FullT P ops w0 B fl rec env k mb ρb csb tmps0 x.2) := by
  intro t
  induction t with
  | fin =>
    intro _
    refine ⟨?_, fun x hx => by cases hx⟩
    intro top done cks tmps m ds up cs ρ w fr L listed pend Tm _ hok hD
    refine flush hP hN0 ?_ L ρ w fr listed pend Tm hD
    intro ρ w fr L listed pend Tm hD hhead
    rw [drawGo_fin]
    have hdone := okT_fin hok
    cases L with
    | cons i L =>
      exfalso
      obtain ⟨h1, h2⟩ := ready_not hD.inv.size hD.ord.1
      rcases hD.inv.dl i (by rw [hdone]; exact full_bit h2) with h4 | ⟨c, hc, e⟩
      · rw [h1] at h4; cases h4
      · exact hhead c hc (by simp [e])
    | nil =>
      have hall := all_listed hP.edges hD.inv.size hD.ord
      have hpend : pend = [] := by
        cases pend with
        | nil => rfl
        | cons c rest =>
          have h1 := hD.inv.pnl c (List.mem_cons_self ..)
          have h2 := hall c.it.ix (Array.getElem?_eq_some_iff.1 (hD.inv.it c (List.mem_cons_self ..)).1).1
          rw [h1] at h2; cases h2
      subst hpend
      have hm : fr.mode = .run := hD.fr.mode
      have ht : fr.todo = .inRegion ops [] :: k.map AItem.toItem := hD.fr.todo rfl
      have hT : TR ρ tmps fr.tmps := fun j => by rw [← hD.inv.tr j fun c hc => (by cases hc)]; exact hD.fr.tmps j
      refine Res.later hD.le hD.keeps hD.same (go_on (hrec w0) (hD.mr.unban (N' := w0.N) fun r hr => .inl hr) ((hD.fr.retmps hT).goto _) hD.up (by simp [stepG, stepG.exec, hm, ht]))
  | light p r ih =>
    intro hit
    have hp := hit p (List.mem_cons_self ..)
    have hr := (ih fun q hq => hit q (List.mem_cons_of_mem _ hq)).1
    refine ⟨?_, fun x hx => by cases hx⟩
    intro top done cks tmps m ds up cs ρ w fr L listed pend Tm htop hok hD
    obtain ⟨hfit, hlt3, o4⟩ := okT_light hok
    obtain ⟨o1, o3⟩ := fitP_spec hfit
    rw [drawGo_light]
    cases hg : gd ops.toList tmps p.o.guard with
    | none => exact trivial
    | some b =>
      cases b with
      | false => exact unwanted_step hP hr hp hfit o4 hg hD
      | true =>
        dsimp only
        cases ha : aop P tmps m p.o.op with
        | val v m' =>
          show Res P w0 B ρb env csb mb (lone fr cs w) (bif p.kind.beq 2 || m'.next.beq m.next then drawGo P fl rec env ops.toList k tmps0 r (addCk tmps p v m' cks) (setDst env.nt tmps v p.o.dst) ds up m' else .bad "a light operation made something")
          cases hc : (p.kind.beq 2 || m'.next.beq m.next) with
          | false => exact trivial
          | true =>
            rw [cond_true]
            by_cases hk : p.kind < 2
            · have hne : p.kind.beq 2 = false := nat_beq_f.2 (by omega)
              rw [hne, Bool.false_or, nat_beq] at hc
              have hm' := (aop_sees (P := P) (m := m) tmps p.o.op (by rw [← hp.2.2]; exact hk) _ _ ha hc).1
              subst hm'
              refine hr true _ _ _ _ ds up cs ρ w fr L listed (⟨p, tmps, v, true, m'⟩ :: pend) Tm rfl o4 ⟨?_, ?_, hD.fr, hD.up, hD.ord, hD.le, hD.keeps, hD.same⟩
              · refine hD.inv.join hP hp o1 o3 hg (fun h => by cases h) (fun _ => hlt3) (Ext.refl _) (Nat.le_refl _) (fun _ _ => rfl) ?_ (fun _ _ => ha) ?_ (fun _ h => by omega)
                · intro c hc
                  unfold addCk
                  split
                  · exact List.mem_cons_of_mem _ hc
                  · exact List.mem_cons_of_mem _ hc
                  · exact hc
                · intro _ h1
                  unfold addCk
                  rw [h1]
                  exact List.mem_cons_self ..
              · refine hD.mr.unban ?_
                rintro r (h | ⟨c, hc, h1, h2, h3⟩)
                · exact .inl h
                · rcases List.mem_cons.1 hc with rfl | hc
                  · have h2' : p.kind = 2 := h2
                    omega
                  · exact .inr ⟨c, hc, h1, h2, h3⟩
            · have hk2 : p.kind = 2 := by omega
              obtain ⟨hmade, o, rfl, hob⟩ := aop_makes (P := P) (m := m) tmps p.o.op (by rw [← hp.2.2]; exact hk2) _ _ ha
              have hext : Ext m (m.new o) := fun q o' hq => by
                rw [new_heap, T.get_set_other _ _ (Nat.ne_of_gt (hD.mr.hlt hq))]
                exact hq
              refine hr true _ _ _ _ ds up cs ρ w fr L listed (⟨p, tmps, v, true, m⟩ :: pend) Tm rfl o4 ⟨?_, ?_, hD.fr, hD.up, hD.ord, hD.le, hD.keeps.trans Keeps.new, hD.same⟩
              · refine hD.inv.join hP hp o1 o3 hg (fun h => by cases h) (fun _ => hlt3) hext (by rw [new_next]; omega) ?_ ?_ (fun _ h => by omega) (fun _ h => by omega) (fun _ _ => ⟨ha, by rw [new_next]; omega, ?_⟩)
                · intro q hq
                  rw [new_heap, T.get_set_other _ _ (Nat.ne_of_gt hq)]
                · intro c hc
                  unfold addCk
                  split
                  · exact List.mem_cons_of_mem _ hc
                  · exact List.mem_cons_of_mem _ hc
                  · exact hc
                · unfold addCk
                  rw [hk2, hmade]
                  exact List.mem_cons_self ..
              · refine ((hD.mr.hold hob).reban (N := Nb w0.N (⟨p, tmps, v, true, m⟩ :: pend)) ?_)
                rintro r (h | ⟨c, hc, h1, h2, h3⟩)
                · have := hD.mr.ban r (.inl h)
                  rw [new_next]
                  exact ⟨Nat.lt_succ_of_lt this.1, this.2⟩
                · rcases List.mem_cons.1 hc with rfl | hc
                  · have h3' : r = m.next := h3
                    subst h3'
                    rw [new_next]
                    exact ⟨Nat.lt_succ_self _, hD.mr.dom _ (Nat.le_refl _)⟩
                  · have := hD.mr.ban r (.inr ⟨c, hc, h1, h2, h3⟩)
                    rw [new_next]
                    exact ⟨Nat.lt_succ_of_lt this.1, this.2⟩
        | _ => exact trivial
  | heavy p r ih =>
    intro hit
    have hp := hit p (List.mem_cons_self ..)
    have hr := (ih fun q hq => hit q (List.mem_cons_of_mem _ hq)).1
    have hb : ∀ x ∈ branchesT (.heavy p r), (ops[x.1.ix]? = some x.1.o ∧ (befores ops.toList)[x.1.ix]? = some x.1.mask ∧ x.1.kind = okind x.1.o.op) ∧ FullT P ops w0 B fl rec env k mb ρb csb tmps0 x.2 := by
      intro x hx
      simp only [branchesT, List.mem_singleton] at hx
      subst hx
      exact ⟨hp, hr⟩
    exact ⟨heavy_place hnames htb hrec hP hN0 (.inl ⟨p, r, rfl⟩) (fun x hx => (hb x hx).1) (fun x hx => (hb x hx).2), hb⟩
  | either a b iha ihb =>
    intro hit
    have ha := (iha fun q hq => hit q (List.mem_append.2 (.inl hq))).2
    have hb := (ihb fun q hq => hit q (List.mem_append.2 (.inr hq))).2
    have hab : ∀ x ∈ branchesT (.either a b), (ops[x.1.ix]? = some x.1.o ∧ (befores ops.toList)[x.1.ix]? = some x.1.mask ∧ x.1.kind = okind x.1.o.op) ∧ FullT P ops w0 B fl rec env k mb ρb csb tmps0 x.2 := by
      intro x hx
      rcases List.mem_append.1 hx with hx | hx
      · exact ha x hx
      · exact hb x hx
    exact ⟨heavy_place hnames htb hrec hP hN0 (.inr ⟨a, b, rfl⟩) (fun x hx => (hab x hx).1) (fun x hx => (hab x hx).2), hab⟩

theorem draw_ok (hnames : NamesOK P) (htb : TbOK P fl) (hmix : P.follows .mixedOrders = true) (B : Nat) (rec : Run) (hrec : ∀ w0, Sound P w0 B rec) (w0 : Wo) : DrawOK P w0 B fl rec := by
  intro env id ops k ρ m w fr tmps ds up cs h hF hU
  cases hp : plan ops.toList with
  | none => exact trivial
  | some its =>
    have hP := plan_spec hp
    have hm : fr.mode = .run := hF.mode
    have ht : fr.todo = .code (.region id ops true) :: k.map AItem.toItem := hF.todo rfl
    have hstep : step P (lone fr cs w) = .next (lone { fr with todo := .inRegion ops (Region.linearise .any ops (w.tape w.drawn (.order fr.fn id))) :: k.map AItem.toItem } cs w.drew) := by
      refine step_lone_go ?_
      simp [stepG, stepG.exec, hm, ht, choose, Sem.run, Question.forced, Question.cut, Region.schedule, hmix]
    refine Res.steps (.one hstep) ?_
    show Res P w0 B ρ env cs m _ (drawGo P fl rec env ops.toList k tmps its [] tmps ds up m)
    refine (full_all (mb := m) (ρb := ρ) (csb := cs) hnames htb hrec hP (fun r hr => (h.ban r hr).1) its hP.item).1 true 0 [] tmps m ds up cs ρ w.drew _ (Region.linearise .any ops (w.tape w.drawn (.order fr.fn id))) (Array.replicate ops.size false) [] tmps rfl hP.ord ?_
    exact ⟨Inv.start tmps m, (h.drew).reban (fun r hr => by
      rcases hr with hr | ⟨c, hc, _⟩
      · exact h.ban r hr
      · cases hc), hF.goto _, hU, ord_start ops _, Rho.le.refl ρ, Keeps.refl m, SameCs.refl _ _⟩

/-- A CLOSED CALL, PLAYED ON NO MEMORY: what it gives there, it gives in any world -/
theorem closed_calls (hnames : NamesOK P) (htb : TbOK P fl) (hmix : P.follows .mixedOrders = true) {n : Nat} {f : FuncId} {v : Value} {up' : Chain} {m' : Mem}
    (e : callA P fl n f [] mem0 = .ret (.lit v) up' m') (w : World) : Calls P f #[] w fun e w' => e = .returned v ∧ Below w.heap.size w w' :=
  closed_sound hnames htb (fun B rec hrec w0 => draw_ok hnames htb hmix B rec hrec w0) e w
end
end Go.Abs
