/- An executor whose runs hold in every world: a part of it and of what is proved of it. -/
import Derived.Test.YtkfjmpdbfjaboaaGreatAbsJ
namespace Go.Abs
open Go
open Go.RowKit (Below)
noncomputable section
def AllR (Q : RR → Prop) (r : RR) : Prop :=
 RR.rec (motive := fun _ => Prop) (fun v up m => Q (.ret v up m)) (fun c up m => Q (.panicked c up m)) (fun _ => False) (fun _ _ a b => a ∧ b) r
theorem AllR.mono {Q Q' : RR → Prop} (h : ∀ r, Q r → Q' r) {r : RR} (hr : AllR Q r) : AllR Q' r := by
 induction r with
 | ret v up m => exact h _ hr
 | panicked c up m => exact h _ hr
 | bad w => exact hr.elim
 | alt a b iha ihb => exact ⟨iha hr.1, ihb hr.2⟩
section
variable {P : Program} {fl : Fl} {Q Q1 : RR → Prop} {env : Env} {k todo : List AItem} {tmps : T AVal} {ds : List ADef} {up : Chain} {m : Mem} {mode : AMode}
def Wp (P : Program) (fl : Fl) (c : Run → RR) (Q : RR → Prop) : Prop := ∃ r, (∃ N, ∀ n, N ≤ n → c (run P fl n) = r) ∧ AllR Q r
abbrev At (env : Env) (todo : List AItem) (tmps : T AVal) (ds : List ADef) (mode : AMode) (up : Chain) (m : Mem) : Run → RR := fun rec => rec env todo tmps ds mode up m
abbrev Rg (P : Program) (fl : Fl) (env : Env) (all : List Oper) (k : List AItem) (ops : List Oper) (tmps : T AVal) (ds : List ADef) (up : Chain) (m : Mem) : Run → RR := fun rec => regionGo P fl rec env all k ops tmps ds up m
theorem Wp.of_eq {c c' : Run → RR} (h : ∀ rec, c rec = c' rec) (w : Wp P fl c' Q) : Wp P fl c Q := by
 obtain ⟨r, ⟨N, hN⟩, hQ⟩ := w
 exact ⟨r, ⟨N, fun n hn => by rw [h]; exact hN n hn⟩, hQ⟩
theorem Wp.mono {c : Run → RR} (h : ∀ r, Q1 r → Q r) (w : Wp P fl c Q1) : Wp P fl c Q := by
 obtain ⟨r, hN, hQ⟩ := w
 exact ⟨r, hN, hQ.mono h⟩
theorem Wp.done {v : AVal} {m : Mem} (h : Q (.ret v up m)) : Wp P fl (fun _ => .ret v up m) Q := ⟨_, ⟨0, fun _ _ => rfl⟩, h⟩
theorem Wp.panic {c : Chain} (h : Q (.panicked c up m)) : Wp P fl (fun _ => .panicked c up m) Q := ⟨_, ⟨0, fun _ _ => rfl⟩, h⟩
theorem Wp.alt {a b : Run → RR} (ha : Wp P fl a Q) (hb : Wp P fl b Q) : Wp P fl (fun rec => .alt (a rec) (b rec)) Q := by
 obtain ⟨r, ⟨N, hN⟩, hQ⟩ := ha
 obtain ⟨r', ⟨N', hN'⟩, hQ'⟩ := hb
 exact ⟨.alt r r', ⟨N + N', fun n hn => by show RR.alt (a (run P fl n)) (b (run P fl n)) = _; rw [hN n (by omega), hN' n (by omega)]⟩, hQ, hQ'⟩
theorem Wp.bodyGo (h : Wp P fl (fun rec => bodyGo P fl rec env todo tmps ds mode up m) Q) : Wp P fl (At env todo tmps ds mode up m) Q := by
 obtain ⟨r, ⟨N, hN⟩, hQ⟩ := h
 refine ⟨r, ⟨N + 1, fun n hn => ?_⟩, hQ⟩
 obtain ⟨n, rfl⟩ : ∃ k, n = k + 1 := ⟨n - 1, by omega⟩
 show run P fl (n + 1) env todo tmps ds mode up m = r
 rw [run_succ]
 exact hN n (by omega)
theorem Wp.step {env' : Env} {todo' : List AItem} {tmps' : T AVal} {ds' : List ADef} {mode' : AMode} {up' : Chain} {m' : Mem}
  (h : ∀ rec, Abs.bodyGo P fl rec env todo tmps ds mode up m = rec env' todo' tmps' ds' mode' up' m') (w : Wp P fl (At env' todo' tmps' ds' mode' up' m') Q) : Wp P fl (At env todo tmps ds mode up m) Q :=
 Wp.bodyGo (Wp.of_eq h w)
theorem Wp.stepC {c : Run → RR} (h : ∀ rec, Abs.bodyGo P fl rec env todo tmps ds mode up m = c rec) (w : Wp P fl c Q) : Wp P fl (At env todo tmps ds mode up m) Q :=
 Wp.bodyGo (Wp.of_eq h w)
abbrev bindR (A : AVal → Chain → Mem → RR) (B : Chain → Chain → Mem → RR) (r : RR) : RR :=
 RR.rec (motive := fun _ => RR) (fun v up m => A v up m) (fun c up m => B c up m) (fun w => .bad w) (fun _ _ a b => .alt a b) r
theorem Wp.bind {c : Run → RR} {A : Run → AVal → Chain → Mem → RR} {B : Run → Chain → Chain → Mem → RR} (h : Wp P fl c Q1)
  (hA : ∀ v up m, Q1 (.ret v up m) → Wp P fl (fun rec => A rec v up m) Q) (hB : ∀ ch up m, Q1 (.panicked ch up m) → Wp P fl (fun rec => B rec ch up m) Q) :
  Wp P fl (fun rec => bindR (A rec) (B rec) (c rec)) Q := by
 obtain ⟨r, ⟨N, hN⟩, hQ⟩ := h
 have key : ∀ r, AllR Q1 r → Wp P fl (fun rec => bindR (A rec) (B rec) r) Q := by
  intro r
  induction r with
  | ret v up m => intro h; exact hA v up m h
  | panicked ch up m => intro h; exact hB ch up m h
  | bad w => intro h; exact h.elim
  | alt a b iha ihb => intro h; exact Wp.alt (iha h.1) (ihb h.2)
 obtain ⟨r', ⟨N', hN'⟩, hQ'⟩ := key r hQ
 exact ⟨r', ⟨N + N', fun n hn => by show bindR (A (run P fl n)) (B (run P fl n)) (c (run P fl n)) = _; rw [hN n (by omega)]; exact hN' n (by omega)⟩, hQ'⟩
theorem Wp.alts {G : AEnt → Run → RR} : ∀ (es : List AEnt), es ≠ [] → (∀ e ∈ es, Wp P fl (G e) Q) → Wp P fl (fun rec => altsR (fun e => G e rec) es) Q
 | [], h, _ => absurd rfl h
 | [e], _, w => w e (by simp)
 | e :: e' :: l, _, w => Wp.alt (w e (by simp)) (Wp.alts (e' :: l) (fun h => by cases h) (fun x hx => w x (by simp [hx])))
section
variable {all rest : List Oper} {o : Oper}
theorem q_nil (w : Wp P fl (At env k tmps ds .run up m) Q) : Wp P fl (Rg P fl env all k [] tmps ds up m) Q := w
theorem q_val {v : AVal} {m' : Mem} (hg : gd all tmps o.guard = some true) (hp : plainOp o.op = true) (ha : aop P tmps m o.op = .val v m')
  (w : Wp P fl (Rg P fl env all k rest (setDst env.nt tmps v o.dst) ds up m') Q) : Wp P fl (Rg P fl env all k (o :: rest) tmps ds up m) Q :=
 Wp.of_eq (fun _ => r_val hg hp ha) w
theorem q_off (hg : gd all tmps o.guard = some false) (w : Wp P fl (Rg P fl env all k rest (setDst env.nt tmps undefA o.dst) ds up m) Q) : Wp P fl (Rg P fl env all k (o :: rest) tmps ds up m) Q :=
 Wp.of_eq (fun _ => r_off hg) w
theorem operR_plain {rec : Run} {pan : Chain → Chain → Mem → RR} {dst : Option Tmp} {cont : Cont} (hp : plainOp o.op = true) {out : Out} (ha : aop P tmps m o.op = out) (hb : ∀ w, out ≠ .bad w) :
  operR P fl rec env pan dst cont tmps ds up m o.op = outR P fl rec env pan dst cont tmps ds up m out := by
 unfold operR
 split
 ·rename_i c hop; rw [hop] at hp; cases hp
 ·rename_i it s hop; rw [hop] at hp; cases hp
 ·rw [aop2_of ha hb]
theorem region_on {rec : Run} (hg : gd all tmps o.guard = some true) : regionGo P fl rec env all k (o :: rest) tmps ds up m =
  operR P fl rec env (fun c up m => rec env k tmps ds (.panicking c) up m) o.dst (regionGo P fl rec env all k rest) tmps ds up m o.op := by
 show (match gd all tmps o.guard with
   | some true => operR P fl rec env (fun c up m => rec env k tmps ds (.panicking c) up m) o.dst (regionGo P fl rec env all k rest) tmps ds up m o.op
   | some false => regionGo P fl rec env all k rest (setDst env.nt tmps undefA o.dst) ds up m
   | none => .bad "guard") = _
 rw [hg]
def CallQ (P : Program) (fl : Fl) (f : FuncId) (args : List AVal) (m : Mem) (Q : RR → Prop) : Prop :=
 extV P fl f args m = none ∧ Wp P fl (fun rec => callBody fl rec false f args [] m P.funcs[f]?) Q
theorem CallQ.mono {f : FuncId} {args : List AVal} (h : ∀ r, Q1 r → Q r) (c : CallQ P fl f args m Q1) : CallQ P fl f args m Q := ⟨c.1, c.2.mono h⟩
theorem CallQ.known {f : FuncId} {args : List AVal} {v : Value} (ht : fl.tb f args m = some v) (h : Q (.ret (.lit v) [] m)) : CallQ P fl f args m Q := by
 refine ⟨?_, Wp.of_eq (c' := fun _ => .ret (.lit v) [] m) (fun rec => ?_) (Wp.done h)⟩
 ·unfold extV; rw [ht]
 ·unfold callBody; rw [cond_false, ht]
theorem CallQ.bodyZ {f : FuncId} {fn : Func} {c : Code} {args : List AVal} (ht : fl.tb f args m = none) (hc : fl.tc f args m = none) (hl : hasN fl.l f = false) (hf : P.funcs[f]? = some fn) (hb : fn.body = some c) (hlen : args.length ≤ fn.ntmps)
  (w : Wp P fl (At ⟨f, fn.ntmps, false, none⟩ [.code c] (argsT args 0 .e) [] .run [] (zIn fl f m)) Q) : CallQ P fl f args m Q := by
 refine ⟨?_, Wp.of_eq (fun rec => ?_) w⟩
 ·unfold extV; rw [ht, hf]; dsimp only; rw [hb]; rfl
 ·unfold callBody
  rw [cond_false, ht]
  dsimp only
  rw [show isNil ([] : Chain) = true from rfl, cond_true, hc]
  unfold callIn
  dsimp only
  rw [hl, cond_false, hf]
  unfold callBody0
  dsimp only
  have : (lenL args).ble fn.ntmps = true := by rw [nat_ble, lenL_eq]; exact hlen
  rw [this, cond_true, hb]
theorem zIn_off {f : FuncId} (h : hasN fl.l (f.add 1000000) = false) : zIn fl f m = m := by unfold zIn; rw [h]; rfl
theorem CallQ.body {f : FuncId} {fn : Func} {c : Code} {args : List AVal} (ht : fl.tb f args m = none) (hc : fl.tc f args m = none) (hl : hasN fl.l f = false) (hz : hasN fl.l (f.add 1000000) = false) (hf : P.funcs[f]? = some fn) (hb : fn.body = some c) (hlen : args.length ≤ fn.ntmps)
  (w : Wp P fl (At ⟨f, fn.ntmps, false, none⟩ [.code c] (argsT args 0 .e) [] .run [] m) Q) : CallQ P fl f args m Q :=
 CallQ.bodyZ ht hc hl hf hb hlen (by rw [zIn_off hz]; exact w)
theorem q_call {f : FuncId} {args : List AVal} {m1 : Mem} (hg : gd all tmps o.guard = some true) (hp : plainOp o.op = true) (ha : aop P tmps m o.op = .enter f args m1) (hc : CallQ P fl f args m1 Q1)
  (hv : ∀ v up' m', Q1 (.ret v up' m') → Wp P fl (Rg P fl env all k rest (setDst env.nt tmps v o.dst) ds up m') Q)
  (hx : ∀ c up' m', Q1 (.panicked c up' m') → Wp P fl (At env k tmps ds (.panicking c) up m') Q) : Wp P fl (Rg P fl env all k (o :: rest) tmps ds up m) Q := by
 refine Wp.of_eq (c' := fun rec => gotR (fun c up m => rec env k tmps ds (.panicking c) up m) env.nt o.dst (regionGo P fl rec env all k rest) tmps ds up (callBody fl rec false f args [] m1 P.funcs[f]?)) (fun rec => ?_) ?_
 ·show regionGo P fl rec env all k (o :: rest) tmps ds up m = _
  rw [region_on hg, operR_plain hp ha (fun _ h => by cases h)]
  show enterR _ _ (extV P fl f args m1) = _
  rw [hc.1]; rfl
 ·exact Wp.bind (A := fun rec v _ m => regionGo P fl rec env all k rest (setDst env.nt tmps v o.dst) ds up m) (B := fun rec c _ m => rec env k tmps ds (.panicking c) up m) hc.2 (fun v u m h => hv v u m h) (fun c u m h => hx c u m h)
def RoundQ (P : Program) (fl : Fl) (l : Nat) (f nt : Nat) (tm : T AVal) (a b : Code) (m : Mem) (Q : RR → Prop) : Prop :=
 Wp P fl (At ⟨f, nt, false, some l⟩ [.code a, .beginRound, .code b] tm [] .run [] m) Q
end
theorem w_retAt (he : env.roundOf = none) (w : Wp P fl (At env [] tmps ds .returning up m) Q) : Wp P fl (At env (.code .ret :: k) tmps ds .run up m) Q :=
 Wp.step (fun _ => b_ret he) w
theorem w_results {fn : Func} {vs : List AVal} (hf : P.funcs[env.fn]? = some fn) (h : resVals P tmps m fn.results.toList = some vs) (hq : Q (.ret (one vs) up m)) : Wp P fl (At env todo tmps [] .returning up m) Q :=
 Wp.stepC (c := fun _ => .ret (one vs) up m) (fun _ => b_results hf h) (Wp.done hq)
theorem res_pick {w0 : Wo} {B : Nat} {ρ : Rho} {cs : List Frame} {m0 : Mem} {M : Machine} {v : Value} : ∀ {r : RR}, AllR (fun r => ∃ u m', r = .ret (.lit v) u m') r → Res P w0 B ρ env cs m0 M r → ∃ u m', Res P w0 B ρ env cs m0 M (.ret (.lit v) u m') := by
 intro r
 induction r with
 | ret x up m =>
  rintro ⟨u, m', e⟩ h
  cases e
  exact ⟨_, _, h⟩
 | panicked c up m => rintro ⟨u, m', e⟩; cases e
 | bad w => exact fun h => h.elim
 | alt a b iha ihb => rintro ⟨h1, h2⟩ h; exact h.elim (iha h1) (ihb h2)
theorem calls_byQ {Rn : Run} (hR : ∀ B w0, Sound P w0 B Rn) {f : FuncId} {args : List AVal} {xs : Array Value} {v : Value} {ρ : Rho} {w : World} (h : MR ⟨w, fun _ => False⟩ w.heap.size ρ m w) (hl : RL ρ args xs.toList)
  (e : AllR (fun r => ∃ u m', r = .ret (.lit v) u m') (callBody0 Rn false f args [] m P.funcs[f]?)) : Calls P f xs w fun e w' => e = .returned v ∧ Below w.heap.size w w' := by
 intro cs
 rcases callBody0_sound (hR w.heap.size ⟨w, fun _ => False⟩) h hl false (up := []) (cs := cs) (fun e => by cases e) (f := f) with ⟨why, hb⟩ | ⟨fn, c, hf, hb, hr⟩
 ·rw [hb] at e; exact e.elim
 ·obtain ⟨up', m', hr⟩ := res_pick e hr
  obtain ⟨_, ρ', w1, w', fr', cs', x, h1, h2, h3, h4, h5, h6, h7, h8, h9⟩ := hr
  obtain ⟨rfl, hm, hd, hfn, hres⟩ := h9 rfl
  have hcs := h5.1 rfl
  subst hcs
  simp only [R] at h4
  subst h4
  refine ⟨.returned x, w1, fr', ⟨rfl, h3.below⟩, h1, hfn, hm, hd, h7, hres⟩
end
end
open Go.RowKit (Below)
noncomputable def sets (nt : Nat) (b : T AVal) (l : List (Nat × AVal)) : T AVal := List.rec b (fun p _ t => setIn nt t p.1 p.2) l
noncomputable def findS (nt k : Nat) (l : List (Nat × AVal)) : Option AVal := List.rec none (fun p _ ih => bif p.1.beq k && p.1.succ.ble nt then some p.2 else ih) l
theorem sets_get (nt : Nat) (b : T AVal) (k : Nat) : ∀ l : List (Nat × AVal), getT (sets nt b l) k = (findS nt k l).getD (getT b k)
 | [] => rfl
 | (d, v) :: l => by
  have ih := sets_get nt b k l
  show getT (setDst nt (sets nt b l) v (some d)) k = (bif d.beq k && d.succ.ble nt then some v else findS nt k l).getD (getT b k)
  rw [g_set]
  by_cases h : d = k ∧ k < nt
  ·obtain ⟨rfl, h2⟩ := h
   have h3 : d.succ.ble nt = true := by rw [nat_ble]; omega
   rw [if_pos ⟨rfl, h2⟩, h3, Nat.beq_refl]
   rfl
  ·rw [if_neg h, ih]
   have : (d.beq k && d.succ.ble nt) = false := by
    cases h1 : d.beq k with
    | false => rfl
    | true =>
     have e : d = k := Nat.eq_of_beq_eq_true h1
     cases h2 : d.succ.ble nt with
     | false => rfl
     | true => rw [nat_ble] at h2; exact absurd ⟨e, by omega⟩ h
   rw [this]; rfl
section
variable {nt : Nat} {b : T AVal} {l : List (Nat × AVal)} {k : Nat} {v : AVal}
theorem e_hit (h : findS nt k l = some v) : evalT (sets nt b l) (.tmp k) = v := by
 show getT (sets nt b l) k = v
 rw [sets_get, h]; rfl
theorem e_base (h : findS nt k l = none) (hb : getT b k = v) : evalT (sets nt b l) (.tmp k) = v := by
 show getT (sets nt b l) k = v
 rw [sets_get, h]; exact hb
end
structure Grew (m m' : Mem) (o : AObj) : Prop where
 next : m'.next = m.next + 1
 same : m'.heap.get m.next = some o
 other : ∀ q, q ≠ m.next → m'.heap.get q = m.heap.get q
 fams : m'.fams = m.fams
 gl : m'.gl = m.gl
structure Wrote (m m' : Mem) (r : Nat) (o : AObj) : Prop where
 next : m'.next = m.next
 same : m'.heap.get r = some o
 other : ∀ q, q ≠ r → m'.heap.get q = m.heap.get q
 fams : m'.fams = m.fams
 gl : m'.gl = m.gl
theorem grew (m : Mem) (o : AObj) : Grew m (m.new o) o := by
 obtain ⟨h, n, f, lo, d, g⟩ := m
 exact ⟨rfl, T.get_set_same _ _ _, fun q hq => T.get_set_other _ _ (Ne.symm hq), rfl, rfl⟩
theorem wrote (m : Mem) (r : Nat) (o : AObj) : Wrote m (m.put r o) r o := by
 obtain ⟨h, n, f, lo, d, g⟩ := m
 exact ⟨rfl, T.get_set_same _ _ _, fun q hq => T.get_set_other _ _ (Ne.symm hq), rfl, rfl⟩
structure Wf (m : Mem) : Prop where
 dom : ∀ q, m.next ≤ q → m.heap.get q = none
 fams : ∀ f, m.next ≤ f → m.fams.get f = none
structure Kept (S : Nat → Prop) (m m' : Mem) : Prop where
 next : m.next ≤ m'.next
 get : ∀ q, q < m.next → ¬ S q → m'.heap.get q = m.heap.get q
 fam : ∀ q, q < m.next → ¬ S q → m'.fams.get q = m.fams.get q
 ro : ∀ q cs, m.heap.get q = some (.ro cs) → m'.heap.get q = some (.ro cs)
 gl : m'.gl = m.gl
 wf : Wf m'
section
variable {m m1 m2 : Mem} {o : AObj} {r : Nat} {S S' : Nat → Prop}
theorem Wf.grew (h : Wf m) (g : Grew m m1 o) : Wf m1 := by
 refine ⟨fun q hq => ?_, fun f hf => ?_⟩
 ·rw [g.next] at hq; rw [g.other q (by omega)]; exact h.dom q (by omega)
 ·rw [g.next] at hf; rw [g.fams]; exact h.fams f (by omega)
theorem Wf.wrote (h : Wf m) (g : Wrote m m1 r o) (hr : r < m.next) : Wf m1 := by
 refine ⟨fun q hq => ?_, fun f hf => ?_⟩
 ·rw [g.next] at hq; rw [g.other q (by omega)]; exact h.dom q (by omega)
 ·rw [g.next] at hf; rw [g.fams]; exact h.fams f (by omega)
theorem Wf.lt {o : AObj} (h : Wf m) (e : m.heap.get r = some o) : r < m.next := by
 rcases Nat.lt_or_ge r m.next with a | a
 ·exact a
 ·rw [h.dom r a] at e; cases e
theorem Kept.refl (h : Wf m) : Kept S m m := ⟨Nat.le_refl _, fun _ _ _ => rfl, fun _ _ _ => rfl, fun _ _ h => h, rfl, h⟩
theorem Kept.trans (a : Kept S m m1) (b : Kept S m1 m2) : Kept S m m2 :=
 ⟨Nat.le_trans a.next b.next, fun q h1 h2 => (b.get q (Nat.lt_of_lt_of_le h1 a.next) h2).trans (a.get q h1 h2),
  fun q h1 h2 => (b.fam q (Nat.lt_of_lt_of_le h1 a.next) h2).trans (a.fam q h1 h2), fun q cs h => b.ro q cs (a.ro q cs h), b.gl.trans a.gl, b.wf⟩
theorem Kept.mono (a : Kept S m m1) (h : ∀ q, q < m.next → S q → S' q) : Kept S' m m1 :=
 ⟨a.next, fun q h1 h2 => a.get q h1 (fun h3 => h2 (h q h1 h3)), fun q h1 h2 => a.fam q h1 (fun h3 => h2 (h q h1 h3)), a.ro, a.gl, a.wf⟩
theorem Kept.grew (h : Wf m) (g : Grew m m1 o) : Kept S m m1 :=
 ⟨by rw [g.next]; omega, fun q h1 _ => g.other q (by omega), fun q _ _ => by rw [g.fams], fun q cs e => by rw [g.other q (by have := h.lt e; omega)]; exact e, g.gl, h.grew g⟩
theorem Kept.wrote {o' : AObj} (h : Wf m) (g : Wrote m m1 r o) (hr : m.heap.get r = some o') (hro : ∀ cs, o' ≠ .ro cs) (hS : S r) : Kept S m m1 := by
 refine ⟨by rw [g.next]; omega, fun q h1 h2 => g.other q (fun e => h2 (by rw [e]; exact hS)), fun q _ _ => by rw [g.fams], fun q cs e => ?_, g.gl, h.wrote g (h.lt hr)⟩
 rw [g.other q ?_]
 ·exact e
 ·rintro rfl
  rw [hr] at e
  cases e
  exact hro cs rfl
end
section
variable {P : Program} {fl : Fl} {Q Q1 : RR → Prop} {env : Env} {k todo : List AItem} {tmps : T AVal} {ds : List ADef} {up : Chain} {m : Mem} {mode : AMode} {nt : Nat} {b : T AVal} {l : List (Nat × AVal)}
theorem w_skip (w : Wp P fl (At env k tmps ds .run up m) Q) : Wp P fl (At env (.code .skip :: k) tmps ds .run up m) Q := Wp.step (fun _ => b_skip) w
theorem w_seq {x y : Code} (w : Wp P fl (At env (.code x :: .code y :: k) tmps ds .run up m) Q) : Wp P fl (At env (.code (.seq x y) :: k) tmps ds .run up m) Q := Wp.step (fun _ => b_seq _ _) w
theorem w_block {i : Nat} {x : Code} (w : Wp P fl (At env (.code x :: .inBlock i :: k) tmps ds .run up m) Q) : Wp P fl (At env (.code (.block i x) :: k) tmps ds .run up m) Q := Wp.step (fun _ => b_block _ _) w
theorem w_loop {x : Code} (w : Wp P fl (At env (.code x :: .inLoop x :: k) tmps ds .run up m) Q) : Wp P fl (At env (.code (.loop x) :: k) tmps ds .run up m) Q := Wp.step (fun _ => b_loop _) w
theorem w_inBlock {i : Nat} (w : Wp P fl (At env k tmps ds .run up m) Q) : Wp P fl (At env (.inBlock i :: k) tmps ds .run up m) Q := Wp.step (fun _ => b_inBlock _) w
theorem w_inLoop {x : Code} (w : Wp P fl (At env (.code x :: .inLoop x :: k) tmps ds .run up m) Q) : Wp P fl (At env (.inLoop x :: k) tmps ds .run up m) Q := Wp.step (fun _ => b_inLoop _) w
theorem w_exit {i : Nat} {k' : List AItem} (h : exitTo i k = some k') (w : Wp P fl (At env k' tmps ds .run up m) Q) : Wp P fl (At env (.code (.exit i) :: k) tmps ds .run up m) Q := Wp.step (fun _ => b_exit h) w
theorem w_region {i : Nat} {ops : Array Oper} {os : List Oper} (h : ops.toList = os) (w : Wp P fl (Rg P fl env os k os tmps ds up m) Q) : Wp P fl (At env (.code (.region i ops false) :: k) tmps ds .run up m) Q := by
 subst h
 exact Wp.stepC (fun _ => b_region _ _) w
theorem w_cond {c : Operand} {x y : Code} {t : Bool} (h : evalT tmps c = .lit (.bool t)) (wt : t = true → Wp P fl (At env (.code x :: k) tmps ds .run up m) Q) (wf : t = false → Wp P fl (At env (.code y :: k) tmps ds .run up m) Q) : Wp P fl (At env (.code (.cond c x y) :: k) tmps ds .run up m) Q := by
 refine Wp.step (fun _ => b_cond h) ?_
 cases t with
 | true => exact wt rfl
 | false => exact wf rfl
section
variable {all rest : List Oper} {o : Oper} {d : Nat}
theorem s_val {v : AVal} {m' : Mem} (hn : env.nt = nt) (hg : gd all (sets nt b l) o.guard = some true) (hp : plainOp o.op = true) (hd : o.dst = some d) (ha : aop P (sets nt b l) m o.op = .val v m')
  (w : Wp P fl (Rg P fl env all k rest (sets nt b ((d, v) :: l)) ds up m') Q) : Wp P fl (Rg P fl env all k (o :: rest) (sets nt b l) ds up m) Q := by
 subst hn
 refine q_val hg hp ha ?_
 rw [hd]; exact w
theorem s_val0 {v : AVal} {m' : Mem} (hg : gd all tmps o.guard = some true) (hp : plainOp o.op = true) (hd : o.dst = none) (ha : aop P tmps m o.op = .val v m')
  (w : Wp P fl (Rg P fl env all k rest tmps ds up m') Q) : Wp P fl (Rg P fl env all k (o :: rest) tmps ds up m) Q := by
 refine q_val hg hp ha ?_
 rw [hd]; exact w
theorem s_off (hn : env.nt = nt) (hg : gd all (sets nt b l) o.guard = some false) (hd : o.dst = some d)
  (w : Wp P fl (Rg P fl env all k rest (sets nt b ((d, undefA) :: l)) ds up m) Q) : Wp P fl (Rg P fl env all k (o :: rest) (sets nt b l) ds up m) Q := by
 subst hn
 refine q_off hg ?_
 rw [hd]; exact w
theorem s_off0 (hg : gd all tmps o.guard = some false) (hd : o.dst = none) (w : Wp P fl (Rg P fl env all k rest tmps ds up m) Q) : Wp P fl (Rg P fl env all k (o :: rest) tmps ds up m) Q := by
 refine q_off hg ?_
 rw [hd]; exact w
theorem s_new {v : AVal} {x : AObj} (hn : env.nt = nt) (hg : gd all (sets nt b l) o.guard = some true) (hp : plainOp o.op = true) (hd : o.dst = some d) (ha : aop P (sets nt b l) m o.op = .val v (m.new x))
  (w : ∀ m', Grew m m' x → Wp P fl (Rg P fl env all k rest (sets nt b ((d, v) :: l)) ds up m') Q) : Wp P fl (Rg P fl env all k (o :: rest) (sets nt b l) ds up m) Q :=
 s_val hn hg hp hd ha (w _ (grew m x))
theorem s_put0 {v : AVal} {r : Nat} {x : AObj} (hg : gd all tmps o.guard = some true) (hp : plainOp o.op = true) (hd : o.dst = none) (ha : aop P tmps m o.op = .val v (m.put r x))
  (w : ∀ m', Wrote m m' r x → Wp P fl (Rg P fl env all k rest tmps ds up m') Q) : Wp P fl (Rg P fl env all k (o :: rest) tmps ds up m) Q :=
 s_val0 hg hp hd ha (w _ (wrote m r x))
theorem s_guard {j : Nat} {want c : Bool} (ho : o.guard = some (j, want)) (hd : dstOf all j = some d) (hv : evalT tmps (.tmp d) = .lit (.bool c))
  (on : c = want → gd all tmps o.guard = some true → Wp P fl (Rg P fl env all k (o :: rest) tmps ds up m) Q) (off : c = (!want) → gd all tmps o.guard = some false → Wp P fl (Rg P fl env all k (o :: rest) tmps ds up m) Q) :
  Wp P fl (Rg P fl env all k (o :: rest) tmps ds up m) Q := by
 by_cases h : c = want
 ·subst h
  exact on rfl (by rw [ho]; exact gd_true hd hv)
 ·have h' : c = (!want) := by cases c <;> cases want <;> simp_all
  subst h'
  exact off rfl (by rw [ho]; exact gd_false hd hv)
theorem s_call {f : FuncId} {args : List AVal} {m1 : Mem} (hn : env.nt = nt) (hg : gd all (sets nt b l) o.guard = some true) (hp : plainOp o.op = true) (hd : o.dst = some d) (ha : aop P (sets nt b l) m o.op = .enter f args m1) (hc : CallQ P fl f args m1 Q1)
  (hv : ∀ v up' m', Q1 (.ret v up' m') → Wp P fl (Rg P fl env all k rest (sets nt b ((d, v) :: l)) ds up m') Q)
  (hx : ∀ c up' m', Q1 (.panicked c up' m') → Wp P fl (At env k (sets nt b l) ds (.panicking c) up m') Q) : Wp P fl (Rg P fl env all k (o :: rest) (sets nt b l) ds up m) Q := by
 subst hn
 refine q_call hg hp ha hc (fun v u m' h => ?_) hx
 rw [hd]; exact hv v u m' h
end
end
section
variable {P : Program} {tmps : T AVal} {m : Mem}
theorem o_alloc {t : TypeId} {z : List AVal} (hz : zcells P t = some z) : aop P tmps m (.alloc t) = .val (.ptr m.next 0) (m.new (.row (t, 0) z m.next 0)) := by
 show allocOp m t (zcells P t) = _
 rw [hz]; rfl
theorem o_loadRow {t : TypeId} {x : Operand} {r off sz f p : Nat} {e : Elem} {cells : List AVal} {v : AVal} (hx : evalT tmps x = .ptr r off) (hr : m.heap.get r = some (.row e cells f p)) (ht : tagg P t = some false) (hs : tsz P t = some sz) (hv : getO cells off = some v) (hp : isPoison v = false) :
  aop P tmps m (.load t x) = .val v m := by
 show loadOp P t m (evalT tmps x) = _
 rw [hx]
 show valO m "load" (loadAs m r off (tagg P t) (tsz P t)) = _
 rw [ht, hs]
 show valO m "load" (read1 m r off) = _
 unfold read1
 rw [hr]
 dsimp only
 rw [hv]
 show valO m "load" (bif isPoison v then none else some v) = _
 rw [hp]; rfl
theorem o_loadRowA {t : TypeId} {x : Operand} {r off sz f p : Nat} {e : Elem} {cells : List AVal} {vs : List AVal} (hx : evalT tmps x = .ptr r off) (hr : m.heap.get r = some (.row e cells f p)) (ht : tagg P t = some true) (hs : tsz P t = some sz) (hv : takeN sz (dropN cells off) = some vs) :
  aop P tmps m (.load t x) = .val (.agg vs) m := by
 show loadOp P t m (evalT tmps x) = _
 rw [hx]
 show valO m "load" (loadAs m r off (tagg P t) (tsz P t)) = _
 rw [ht, hs]
 show valO m "load" (aggO (readCells m r off sz)) = _
 unfold readCells
 rw [hr]
 dsimp only
 rw [hv]; rfl
theorem o_loadRoA {t : TypeId} {x : Operand} {r off sz : Nat} {cells : List AVal} {vs : List AVal} (hx : evalT tmps x = .ptr r off) (hr : m.heap.get r = some (.ro cells)) (ht : tagg P t = some true) (hs : tsz P t = some sz) (hv : takeN sz (dropN cells off) = some vs) :
  aop P tmps m (.load t x) = .val (.agg vs) m := by
 show loadOp P t m (evalT tmps x) = _
 rw [hx]
 show valO m "load" (loadAs m r off (tagg P t) (tsz P t)) = _
 rw [ht, hs]
 show valO m "load" (aggO (readCells m r off sz)) = _
 unfold readCells
 rw [hr]
 dsimp only
 rw [hv]; rfl
theorem o_store {t : TypeId} {a x : Operand} {r off sz f p : Nat} {e : Elem} {cells cells' : List AVal} {v : AVal} (hx : evalT tmps x = v) (ha : evalT tmps a = .ptr r off) (hr : m.heap.get r = some (.row e cells f p)) (hf : m.fams.get f = none) (hs : tsz P t = some sz) (hp : isPoison v = false) (hl : (lenL v.cells).beq sz = true) (hc : allCells v.cells = true) (hput : putCells v.cells off cells = some cells') :
  aop P tmps m (.store t a x) = .val .poison (m.put r (.row e cells' f p)) := by
 show storeOp P t m (evalT tmps x) (evalT tmps a) = _
 rw [hx, ha]
 show (bif isPoison v then _ else storeAs m r off v.cells (tsz P t)) = _
 rw [hp, hs]
 show (bif (lenL v.cells).beq sz then skipO "store" (storeCells m r off v.cells) else _) = _
 rw [hl]
 show skipO "store" (Abs.storeCells m r off v.cells) = _
 unfold Abs.storeCells
 rw [hr]
 show skipO "store" (bif allCells v.cells then storeIn m r e f p off (lenL v.cells) (putCells v.cells off cells) else none) = _
 rw [hc, hput]
 show skipO "store" (some (spoil r (p.add off) (lenL v.cells) (m.put r (.row e cells' f p)) (m.fams.get f))) = _
 rw [hf]; rfl
def fieldOT (P : Program) (s : TypeId) (f : Nat) : Option (Nat × TypeId) := match fieldOf P s f with | some fd => some (fd.offset, fd.type) | none => none
theorem fieldOT_some {s : TypeId} {f off : Nat} {ty : TypeId} (h : fieldOT P s f = some (off, ty)) : ∃ fd, fieldOf P s f = some fd ∧ fd.offset = off ∧ fd.type = ty := by
 unfold fieldOT at h
 split at h
 ·rename_i fd e; cases h; exact ⟨fd, e, rfl, rfl⟩
 ·cases h
theorem o_fieldAddr {s : TypeId} {x : Operand} {f r off sz fo : Nat} {ty : TypeId} (hx : evalT tmps x = .ptr r off) (hf : fieldOT P s f = some (fo, ty)) (hs : tsz P ty = some sz) (hz : sz.beq 0 = false) : aop P tmps m (.fieldAddr s x f) = .val (.ptr r (off + fo)) m := by
 obtain ⟨fd, hf2, rfl, rfl⟩ := fieldOT_some hf
 clear hf
 show fieldAddr m (fieldOf P s f) (fsize P (fieldOf P s f)) (evalT tmps x) = _
 rw [hx, hf2]
 show fieldAddr m (some fd) (tsz P fd.type) (.ptr r off) = _
 rw [hs]
 show (bif sz.beq 0 then _ else Out.val (.ptr r (off.add fd.offset)) m) = _
 rw [hz]; rfl
noncomputable def placesT (P : Program) (t : TypeId) : Option (List (Nat × Nat)) := match P.underlying t with | some (.struct fs) => placesOf P fs.toList | _ => none
theorem o_build {t : TypeId} {parts : Array (Nat × Operand)} {ps : List (Nat × AVal)} {z cs : List AVal} {pl : List (Nat × Nat)} (hx : ev2 tmps parts.toList = ps) (hz : zcells P t = some z) (hu : placesT P t = some pl) (h : fillL (fun i => getO pl i) ps z = some cs) : aop P tmps m (.build t parts) = .val (.agg cs) m := by
 show buildOp P t (ev2 tmps parts.toList) m (zcells P t) = _
 rw [hx, hz]
 show buildIn P ps m z (P.underlying t) = _
 unfold placesT at hu
 split at hu
 ·rename_i fs e
  rw [e]
  show buildPl ps m z (placesOf P fs.toList) = _
  rw [hu]
  show buildWith m (fillL (fun i => getO pl i) ps z) = _
  rw [h]; rfl
 ·cases hu
theorem ac1 {v : AVal} {l : List AVal} (h : isCell v = true) (hl : allCells l = true) : allCells (v :: l) = true := by
 show (bif isCell v then allCells l else false) = true
 rw [h]; exact hl
theorem np_cell {v : AVal} (h : isCell v = true) : isPoison v = false := by cases v <;> first | rfl | cases h
theorem takeW {n : Nat} : ∀ {l : List AVal}, lenL l = n → allCells l = true → takeN n l = some l := by
 induction n with
 | zero =>
  intro l hl _
  cases l with
  | nil => rfl
  | cons a l => cases hl
 | succ n ih =>
  intro l hl h
  cases l with
  | nil => cases hl
  | cons a l =>
   have h' : (bif isCell a then allCells l else false) = true := h
   cases ha : isCell a with
   | false => rw [ha] at h'; cases h'
   | true =>
    rw [ha] at h'
    show (bif isPoison a then none else (takeN n l).map (a :: ·)) = _
    rw [np_cell ha, ih (Nat.succ.inj hl) h']; rfl
theorem o_nilCheck {x : Operand} {v : AVal} (hx : evalT tmps x = v) (h : nilCheck P m v = .val v m) : aop P tmps m (.nilCheck x) = .val v m := by
 show nilCheck P m (evalT tmps x) = _
 rw [hx, h]
theorem o_extract {x : Operand} {i : Nat} {vs : List AVal} {v : AVal} (hx : evalT tmps x = .tuple vs) (h : getO vs i = some v) : aop P tmps m (.extract x i) = .val v m := by
 show extractOp i m (evalT tmps x) = _
 rw [hx]
 show valO m "extract" (getO vs i) = _
 rw [h]; rfl
theorem o_makeF {fn : Fn} {first captured : Array Operand} {fs cs : List AVal} (hy : isYield fn = false) (hf : mapL (evalT tmps) first.toList = fs) (hc : mapL (evalT tmps) captured.toList = cs) : aop P tmps m (.makeFunc fn first captured) = .val (.func fn fs cs) m := by
 show (bif isYield fn then _ else Out.val (.func fn (mapL (evalT tmps) first.toList) (mapL (evalT tmps) captured.toList)) m) = _
 rw [hy, hf, hc]; rfl
theorem o_pickT {c a b : Operand} {t : Bool} {v : AVal} (hc : evalT tmps c = .lit (.bool t)) (ht : t = true) (ha : evalT tmps a = v) : aop P tmps m (.pick c a b) = .val v m := by
 subst ht
 rw [o_pick hc ha rfl]; rfl
theorem o_pickF {c a b : Operand} {t : Bool} {v : AVal} (hc : evalT tmps c = .lit (.bool t)) (ht : t = false) (hb : evalT tmps b = v) : aop P tmps m (.pick c a b) = .val v m := by
 subst ht
 rw [o_pick hc rfl hb]; rfl
theorem o_lenSl {x : Operand} {t e : TypeId} {n : Nat} {v : AVal} (hx : evalT tmps x = v) (hu : P.underlying t = some (.slice e)) (h : lenSl m v = .val (goI n) m) : aop P tmps m (.call ⟨.builtin .len, #[x], #[t]⟩) = .val (goI n) m := by
 show lenD m (evalT tmps x) (P.underlying t) = _
 rw [hx, hu]; exact h
end
open Go.RowKit (Below)
noncomputable section
section
variable {P : Program} {tmps : T AVal} {m : Mem}
theorem o_calls {f : FuncId} {ats : Array TypeId} {xs : Array Operand} {vs : List AVal} (hx : mapL (evalT tmps) xs.toList = vs) : aop P tmps m (.call ⟨.value (.func f), xs, ats⟩) = .enter f (appL vs []) m := by
 subst hx; rfl
theorem me0 : mapL (evalT tmps) (#[] : Array Operand).toList = [] := rfl
theorem me1 {x : Operand} {a : AVal} (hx : evalT tmps x = a) : mapL (evalT tmps) #[x].toList = [a] := by subst hx; rfl
theorem me2 {x y : Operand} {a b : AVal} (hx : evalT tmps x = a) (hy : evalT tmps y = b) : mapL (evalT tmps) #[x, y].toList = [a, b] := by subst hx hy; rfl
theorem me3 {x y z : Operand} {a b c : AVal} (hx : evalT tmps x = a) (hy : evalT tmps y = b) (hz : evalT tmps z = c) : mapL (evalT tmps) #[x, y, z].toList = [a, b, c] := by subst hx hy hz; rfl
theorem ev0 : ev2 tmps (#[] : Array (Nat × Operand)).toList = [] := rfl
theorem ev1 {i : Nat} {x : Operand} {a : AVal} (hx : evalT tmps x = a) : ev2 tmps #[(i, x)].toList = [(i, a)] := by subst hx; rfl
theorem ev22 {i j : Nat} {x y : Operand} {a b : AVal} (hx : evalT tmps x = a) (hy : evalT tmps y = b) : ev2 tmps #[(i, x), (j, y)].toList = [(i, a), (j, b)] := by subst hx hy; rfl
theorem ev3 {i j k : Nat} {x y z : Operand} {a b c : AVal} (hx : evalT tmps x = a) (hy : evalT tmps y = b) (hz : evalT tmps z = c) : ev2 tmps #[(i, x), (j, y), (k, z)].toList = [(i, a), (j, b), (k, c)] := by subst hx hy hz; rfl
theorem ev4 {i j k l : Nat} {x y z u : Operand} {a b c d : AVal} (hx : evalT tmps x = a) (hy : evalT tmps y = b) (hz : evalT tmps z = c) (hu : evalT tmps u = d) : ev2 tmps #[(i, x), (j, y), (k, z), (l, u)].toList = [(i, a), (j, b), (k, c), (l, d)] := by subst hx hy hz hu; rfl
theorem o_callF {g : Operand} {f : FuncId} {ats : Array TypeId} {xs : Array Operand} {fs cs vs : List AVal} (hg : evalT tmps g = .func (.func f) fs cs) (hx : mapL (evalT tmps) xs.toList = vs) : aop P tmps m (.call ⟨.value g, xs, ats⟩) = .enter f (appL (appL fs vs) cs) m := by
 show callD P m (fnDef (mapL (evalT tmps) xs.toList) (evalT tmps g)) = _
 rw [hg, hx]; rfl
theorem o_callY {g : Operand} {l : Nat} {ats : Array TypeId} {xs : Array Operand} {vs : List AVal} {st : LoopState} {pe : Option Code} {fn nt : Nat} {tm : T AVal} {ps : List Tmp} {a b : Code} {d : Nat} (hg : evalT tmps g = .yield l) (hx : mapL (evalT tmps) xs.toList = vs)
  (hl : m.heap.get l = some (.loop ⟨st, pe, fn, nt, tm, ps, a, b, d⟩)) (hlen : (lenL ps).beq (lenL vs) = true) : aop P tmps m (.call ⟨.value g, xs, ats⟩) = .round l fn nt (setMany nt ps vs tm) a b m := by
 show callD P m (fnDef (mapL (evalT tmps) xs.toList) (evalT tmps g)) = _
 rw [hg, hx]
 show yieldOp m l vs = _
 unfold yieldOp
 rw [hl]
 dsimp only
 rw [hlen]; rfl
theorem o_box {t : TypeId} {x : Operand} {v : AVal} (hx : evalT tmps x = v) (hp : isPoison v = false) : aop P tmps m (.box t x) = .val (.ptr m.next 0) (m.new (.row (t, 0) v.cells m.next 0)) := by
 show boxOp m t (evalT tmps x) = _
 rw [hx]
 show (bif isPoison v then _ else _) = _
 rw [hp]; rfl
abbrev iv (n : Int) : AVal := .lit (.int .i64 n)
theorem o_eqlI {t : TypeId} {x y : Operand} {z : TypeId} {a b : Int} (hx : evalT tmps x = iv a) (hy : evalT tmps y = iv b) : aop P tmps m (.binOp .eql t x y z) = .val (.lit (.bool (a == b))) m := by
 show eqOp P .eql false t x y (evalT tmps x) (evalT tmps y) m = _
 rw [hx, hy]
 rfl
theorem o_leqI {t : TypeId} {x y : Operand} {z : TypeId} {a b : Int} (hx : evalT tmps x = iv a) (hy : evalT tmps y = iv b) : aop P tmps m (.binOp .leq t x y z) = .val (.lit (.bool (decide (a ≤ b)))) m := by
 show lits2 P m (binF .leq t x y) (litOf (evalT tmps x)) (litOf (evalT tmps y)) = _
 rw [hx, hy]; rfl
theorem o_lssI {t : TypeId} {x y : Operand} {z : TypeId} {a b : Int} (hx : evalT tmps x = iv a) (hy : evalT tmps y = iv b) : aop P tmps m (.binOp .lss t x y z) = .val (.lit (.bool (decide (a < b)))) m := by
 show lits2 P m (binF .lss t x y) (litOf (evalT tmps x)) (litOf (evalT tmps y)) = _
 rw [hx, hy]; rfl
theorem o_addI {t : TypeId} {x y : Operand} {z : TypeId} {a b : Int} (hx : evalT tmps x = iv a) (hy : evalT tmps y = iv b) (h1 : -(2 ^ 62) ≤ a + b) (h2 : a + b < 2 ^ 62) : aop P tmps m (.binOp .add t x y z) = .val (iv (a + b)) m := by
 show lits2 P m (binF .add t x y) (litOf (evalT tmps x)) (litOf (evalT tmps y)) = _
 rw [hx, hy]
 have : lits2 P m (binF .add t x y) (litOf (iv a)) (litOf (iv b)) = .val (.lit (.int .i64 (IntKind.i64.wrap (a + b)))) m := rfl
 rw [this]
 have hw : IntKind.i64.wrap (a + b) = a + b := by
  unfold IntKind.wrap
  simp [IntKind.bits, IntKind.signed]
  omega
 rw [hw]
theorem o_notB {t : TypeId} {x : Operand} {b c : Bool} (hx : evalT tmps x = .lit (.bool b)) (hc : (!b) = c) : aop P tmps m (.unOp .not t x) = .val (.lit (.bool c)) m := by
 subst hc; exact o_not hx
theorem o_maxI {x y : Operand} {ats : Array TypeId} {a b : Int} (hx : evalT tmps x = iv a) (hy : evalT tmps y = iv b) : aop P tmps m (.call ⟨.builtin .max, #[x, y], ats⟩) = .val (iv (max a b)) m := by
 show litsOp P m (Go.Builtin.max_ #[] 0) "max" (toLits [evalT tmps x, evalT tmps y]) = _
 rw [hx, hy]
 show pureOp P (Go.Builtin.max_ #[] 0 #[.int .i64 a, .int .i64 b]) m "max" = _
 have e : (if b > a then b else a) = max a b := by split <;> omega
 rw [← e]; rfl
theorem o_minI {x y : Operand} {ats : Array TypeId} {a b : Int} (hx : evalT tmps x = iv a) (hy : evalT tmps y = iv b) : aop P tmps m (.call ⟨.builtin .min, #[x, y], ats⟩) = .val (iv (min a b)) m := by
 show litsOp P m (Go.Builtin.min_ #[] 0) "min" (toLits [evalT tmps x, evalT tmps y]) = _
 rw [hx, hy]
 show pureOp P (Go.Builtin.min_ #[] 0 #[.int .i64 a, .int .i64 b]) m "min" = _
 have e : (if b < a then b else a) = min a b := by split <;> omega
 rw [← e]; rfl
theorem o_neqS {t : TypeId} {x y : Operand} {z : TypeId} {a b : ByteArray} (hx : evalT tmps x = .lit (.string a)) (hy : evalT tmps y = .lit (.string b)) : aop P tmps m (.binOp .neq t x y z) = .val (.lit (.bool (!seq a b))) m := by
 show eqOp P .neq true t x y (evalT tmps x) (evalT tmps y) m = _
 rw [hx, hy]
 rfl
theorem s_guardS {fl : Fl} {Q : RR → Prop} {env : Env} {k : List AItem} {ds : List ADef} {up : Chain} {all rest : List Oper} {o : Oper} {d j : Nat} {want c : Bool} (ho : o.guard = some (j, want)) (hd : dstOf all j = some d) (hv : evalT tmps (.tmp d) = .lit (.bool c))
  (on : c = want → Wp P fl (Rg P fl env all k (o :: rest) tmps ds up m) Q) (off : c = (!want) → Wp P fl (Rg P fl env all k (o :: rest) tmps ds up m) Q) :
  Wp P fl (Rg P fl env all k (o :: rest) tmps ds up m) Q := s_guard ho hd hv (fun h _ => on h) (fun h _ => off h)
end
section
variable {P : Program} {fl : Fl} {Q : RR → Prop} {env : Env} {k : List AItem} {tmps : T AVal} {ds : List ADef} {up : Chain} {m : Mem} {nt : Nat} {b : T AVal} {l : List (Nat × AVal)}
def Rets (S : Nat → Prop) (m : Mem) (v : AVal) : RR → Prop := fun r => ∃ u m', r = .ret v u m' ∧ Kept S m m'
abbrev noS : Nat → Prop := fun _ => False
section
variable {all rest : List Oper} {o : Oper} {d : Nat}
theorem s_callV {f : FuncId} {args : List AVal} {m1 : Mem} {S : Nat → Prop} {v : AVal} (hn : env.nt = nt) (hg : gd all (sets nt b l) o.guard = some true) (hp : plainOp o.op = true) (hd : o.dst = some d) (ha : aop P (sets nt b l) m o.op = .enter f args m1) (hc : CallQ P fl f args m1 (Rets S m1 v))
  (w : ∀ m', Kept S m1 m' → Wp P fl (Rg P fl env all k rest (sets nt b ((d, v) :: l)) ds up m') Q) : Wp P fl (Rg P fl env all k (o :: rest) (sets nt b l) ds up m) Q := by
 refine s_call hn hg hp hd ha hc ?_ ?_
 ·rintro v' u m' ⟨_, _, e, hk⟩; cases e; exact w _ hk
 ·rintro c u m' ⟨_, _, e, _⟩; cases e
end
theorem w_condT {c : Operand} {x y : Code} {t : Bool} (h : evalT tmps c = .lit (.bool t)) (ht : t = true) (w : Wp P fl (At env (.code x :: k) tmps ds .run up m) Q) : Wp P fl (At env (.code (.cond c x y) :: k) tmps ds .run up m) Q := by
 subst ht; exact Wp.step (fun _ => b_cond h) w
theorem w_condF {c : Operand} {x y : Code} {t : Bool} (h : evalT tmps c = .lit (.bool t)) (ht : t = false) (w : Wp P fl (At env (.code y :: k) tmps ds .run up m) Q) : Wp P fl (At env (.code (.cond c x y) :: k) tmps ds .run up m) Q := by
 subst ht; exact Wp.step (fun _ => b_cond h) w
end
end
open Go.RowKit (Below)
noncomputable section
inductive St (σ τ : Type) where
 | go (s : σ)
 | stop (t : τ)
 | fail (c : Chain)
structure Lp where
 fn : FuncId
 nt : Nat
 tm : T AVal
 ps : List Tmp
 a : Code
 b : Code
 d : Nat
def Lp.obj (L : Lp) (st : LoopState) (pe : Option Code) : AObj := .loop ⟨st, pe, L.fn, L.nt, L.tm, L.ps, L.a, L.b, L.d⟩
section
variable {σ τ X : Type}
def EndR (l : Nat) (L : Lp) (S : Nat → Prop) (I : σ → Mem → Prop) (J : τ → Mem → Prop) (pe : τ → Code) (m : Mem) : St σ τ → RR → Prop
 | .go s, r => ∃ u m', r = .ret (.lit (.bool true)) u m' ∧ Kept S m m' ∧ I s m' ∧ m'.heap.get l = some (L.obj .ready none)
 | .stop t, r => ∃ u m', r = .ret (.lit (.bool false)) u m' ∧ Kept S m m' ∧ J t m' ∧ m'.heap.get l = some (L.obj .done (some (pe t)))
 | .fail c, r => ∃ u m', r = .panicked c u m' ∧ Kept S m m'
structure RoundOK (P : Program) (fl : Fl) (l : Nat) (L : Lp) (S : Nat → Prop) (B : Nat) (I : σ → Mem → Prop) (J : τ → Mem → Prop) (pe : τ → Code) (enc : X → List AVal) (ok : X → Mem → Prop) (step : σ → X → St σ τ) : Prop where
 fn : (P.funcs[L.fn]?).isSome = true
 len : ∀ x, (lenL L.ps).beq (lenL (enc x)) = true
 here : S l
 low : ∀ q, S q → q < B
 stab : ∀ s m m', I s m → Kept (fun q => B ≤ q) m m' → I s m'
 stabJ : ∀ t m m', J t m → Kept (fun q => B ≤ q) m m' → J t m'
 round : ∀ s x m, Wf m → B ≤ m.next → I s m → ok x m → m.heap.get l = some (L.obj .ready none) → RoundQ P fl l L.fn L.nt (setMany L.nt L.ps (enc x) L.tm) L.a L.b m (EndR l L S I J pe m (step s x))
theorem Kept.up {B : Nat} {m m' : Mem} {S : Nat → Prop} (k : Kept S m m') (hS : ∀ q, q < m.next → S q → B ≤ q) : Kept (fun q => B ≤ q) m m' := k.mono hS
section
variable {P : Program} {fl : Fl} {l : Nat} {L : Lp} {S : Nat → Prop} {B : Nat} {I : σ → Mem → Prop} {J : τ → Mem → Prop} {pe : τ → Code} {enc : X → List AVal} {ok : X → Mem → Prop} {step : σ → X → St σ τ} {Q : RR → Prop} {env : Env} {k : List AItem} {tmps b : T AVal} {ds : List ADef} {up : Chain} {m : Mem} {nt : Nat} {ls : List (Nat × AVal)}
end
end
def SlA (m : Mem) (v : AVal) (size : Nat) (els : List (List AVal)) : Prop :=
 (els = [] ∧ (v = .lit (.slice none 0 0) ∨ v = .emptyS)) ∨ ∃ r off c ex row, v = .slice r off els.length c ex ∧ els.length < 2 ^ 60 ∧ m.heap.get r = some (.ro row) ∧ ∀ i e, els[i]? = some e → takeN size (dropN row (off + i * size)) = some e
theorem SlA.kept {S : Nat → Prop} {m m' : Mem} {v : AVal} {size : Nat} {els : List (List AVal)} (h : SlA m v size els) (k : Kept S m m') : SlA m' v size els := by
 rcases h with h | ⟨r, off, c, ex, row, h1, h2, h3, h4⟩
 ·exact .inl h
 ·exact .inr ⟨r, off, c, ex, row, h1, h2, k.ro _ _ h3, h4⟩
theorem SlA.cell {m : Mem} {v : AVal} {size : Nat} {els : List (List AVal)} (h : SlA m v size els) : isCell v = true := by
 rcases h with ⟨_, rfl | rfl⟩ | ⟨r, off, c, ex, row, rfl, _⟩ <;> rfl
theorem SlA.len {m m' : Mem} {v : AVal} {size : Nat} {els : List (List AVal)} (h : SlA m v size els) : lenSl m' v = .val (goI els.length) m' := by
 rcases h with ⟨rfl, rfl | rfl⟩ | ⟨r, off, c, ex, row, rfl, _⟩ <;> rfl
theorem SlA.lt {m : Mem} {v : AVal} {size : Nat} {els : List (List AVal)} (h : SlA m v size els) : els.length < 2 ^ 60 := by
 rcases h with ⟨rfl, _⟩ | ⟨r, off, c, ex, row, rfl, h, _⟩
 ·exact Nat.zero_lt_of_lt (by decide : 0 < 2 ^ 60)
 ·exact h
theorem SlA.at {m : Mem} {v : AVal} {size : Nat} {els : List (List AVal)} (h : SlA m v size els) {i : Nat} {e : List AVal} (hi : els[i]? = some e) :
  ∃ r off c ex row, v = .slice r off els.length c ex ∧ i < els.length ∧ m.heap.get r = some (.ro row) ∧ takeN size (dropN row (off + i * size)) = some e := by
 rcases h with ⟨rfl, _⟩ | ⟨r, off, c, ex, row, h1, h2, h3, h4⟩
 ·cases hi
 ·exact ⟨r, off, c, ex, row, h1, (List.getElem?_eq_some_iff.1 hi).1, h3, h4 i e hi⟩
end
open Go.RowKit (Below)
noncomputable section
structure Plain (fl : Fl) (k : FuncId) : Prop where
 l : fl.l = []
 tb : ∀ f args m, f ≠ k → fl.tb f args m = none
 tc : ∀ f args m, fl.tc f args m = none
theorem getA {args : List AVal} {i : Nat} {v : AVal} (h : args[i]? = some v) : getT (argsT args 0 .e) i = v := by
 rw [getT_argsT]
 simp [h]
section
variable {P : Program} {fl : Fl} {Q : RR → Prop} {m : Mem}
theorem CallQ.start {k : FuncId} (hfl : Plain fl k) {f : FuncId} (hne : f ≠ k) {fn : Func} {c : Code} {args : List AVal} (nt : Nat) (hf : P.funcs[f]? = some fn) (hb : fn.body = some c) (hnt : fn.ntmps = nt) (hlen : args.length ≤ nt)
  (w : ∀ b, (∀ i v, args[i]? = some v → getT b i = v) → Wp P fl (At ⟨f, nt, false, none⟩ [.code c] (sets nt b []) [] .run [] m) Q) : CallQ P fl f args m Q := by
 subst hnt
 exact CallQ.body (hfl.tb _ _ _ hne) (hfl.tc _ _ _) (by rw [hfl.l]; rfl) (by rw [hfl.l]; rfl) hf hb hlen (w _ (fun i v h => getA h))
theorem rv1 {tmps : T AVal} {t : Tmp} {v : AVal} (h : evalT tmps (.tmp t) = v) : resVals P tmps m [.tmp t] = some [v] := by
 show (resVals P tmps m []).map (getT tmps t :: ·) = _
 rw [show getT tmps t = v from h]; rfl
theorem rvc1 {tmps : T AVal} {a : Tmp} {t : TypeId} {r off : Nat} {v : AVal} (h : evalT tmps (.tmp a) = .ptr r off) (hl : Abs.loadVar P m t r off = some v) : resVals P tmps m [.cell a t] = some [v] := by
 show (match resVal P tmps m (.cell a t) with | some v => (resVals P tmps m []).map (v :: ·) | none => none) = _
 have : resVal P tmps m (.cell a t) = some v := by
  show (match getT tmps a with | .ptr r off => Abs.loadVar P m t r off | _ => none) = _
  rw [show getT tmps a = .ptr r off from h]
  exact hl
 rw [this]; rfl
theorem lvA {t : TypeId} {r off sz f p : Nat} {e : Elem} {cells vs : List AVal} (hr : m.heap.get r = some (.row e cells f p)) (ht : tagg P t = some true) (hs : tsz P t = some sz) (hv : takeN sz (dropN cells off) = some vs) : Abs.loadVar P m t r off = some (.agg vs) := by
 unfold Abs.loadVar
 rw [ht, hs]
 show aggO (readCells m r off sz) = _
 unfold readCells
 rw [hr]
 dsimp only
 rw [hv]; rfl
end
section
variable {m m1 m2 : Mem} {o o' : AObj} {r : Nat} {S S' : Nat → Prop}
theorem Grew.fam0 (g : Grew m m1 o) (h : Wf m) : m1.fams.get m.next = none := by rw [g.fams]; exact h.fams _ (Nat.le_refl _)
theorem Grew.famo (g : Grew m m1 o) (q : Nat) : m1.fams.get q = m.fams.get q := by rw [g.fams]
theorem Wrote.famo (g : Wrote m m1 r o) (q : Nat) : m1.fams.get q = m.fams.get q := by rw [g.fams]
theorem Kept.g (K : Kept S m m1) (g : Grew m1 m2 o) : Kept S m m2 := K.trans (Kept.grew K.wf g)
theorem Kept.w (K : Kept S m m1) (g : Wrote m1 m2 r o) (hr : m1.heap.get r = some o') (hro : ∀ cs, o' ≠ .ro cs) (hS : S r) : Kept S m m2 := K.trans (Kept.wrote K.wf g hr hro hS)
theorem Kept.k (K : Kept S m m1) (k : Kept S' m1 m2) (h : ∀ q, S' q → S q) : Kept S m m2 := K.trans (k.mono fun q _ hq => h q hq)
theorem Kept.out (K : Kept (fun q => m.next ≤ q ∨ S q) m m1) : Kept S m m1 := K.mono fun q h1 h2 => by
 rcases h2 with h2 | h2
 ·omega
 ·exact h2
end
end
end Go.Abs
