/- An executor whose runs hold in every world: a part of it and of what is proved of it. -/
import Derived.Test.YtjefckdgpbdpeaaGreatAbsMerge

namespace Go.Abs
open Go
open Go.RowKit (Below)

section
variable {P : Program} {w0 : Wo} {B : Nat} {ρ : Rho} {m : Mem} {w : World} {env : Env} {fr : Frame} {cs : List Frame} {tmps : T AVal} {ds : List ADef} {up : Chain} {rec : Run} {fl : Fl}

/-- regions that draw their order -/
def DrawOK (P : Program) (w0 : Wo) (B : Nat) (fl : Fl) (rec : Run) : Prop :=
  ∀ (env : Env) (id : Nat) (ops : Array Oper) (k : List AItem) (ρ : Rho) (m : Mem) (w : World) (fr : Frame) (tmps : T AVal) (ds : List ADef) (up : Chain) (cs : List Frame),
    MR w0 B ρ m w → FR P ρ env ((AItem.code (.region id ops true) :: k).map AItem.toItem) tmps ds .run fr → UpR ρ env.dfr up cs →
    Res P w0 B ρ env cs m (lone fr cs w) (drawWith P fl rec env ops.toList k tmps ds up m (plan ops.toList))

theorem code_sound (hnames : NamesOK P) (hrec : Sound P w0 B rec) (hcall : CallOK P w0 B fl rec) (hdraw : DrawOK P w0 B fl rec) (h : MR w0 B ρ m w) {c : Code} {k : List AItem}
    (hF : FR P ρ env ((AItem.code c :: k).map AItem.toItem) tmps ds .run fr) (hU : UpR ρ env.dfr up cs) : Res P w0 B ρ env cs m (lone fr cs w) (codeGo P fl rec env k tmps ds up m c) := by
  cases c with
  | skip => exact simple_sound hrec h hF hU fun fr hm ht => by simp [stepG, hm, stepG.exec, ht, AItem.toItem]
  | label l => exact simple_sound hrec h hF hU fun fr hm ht => by simp [stepG, hm, stepG.exec, ht, AItem.toItem]
  | seq a b => exact simple_sound hrec h (k' := .code a :: .code b :: k) hF hU fun fr hm ht => by simp [stepG, hm, stepG.exec, ht, AItem.toItem]
  | cond c a b => exact cond_sound hrec h hF hU
  | block id body => exact simple_sound hrec h (k' := .code body :: .inBlock id :: k) hF hU fun fr hm ht => by simp [stepG, hm, stepG.exec, ht, AItem.toItem]
  | loop body => exact simple_sound hrec h (k' := .code body :: .inLoop body :: k) hF hU fun fr hm ht => by simp [stepG, hm, stepG.exec, ht, AItem.toItem]
  | scope body => exact simple_sound hrec h (k' := .code body :: .inScope body :: k) hF hU fun fr hm ht => by simp [stepG, hm, stepG.exec, ht, AItem.toItem]
  | exit id => exact jump_sound hrec h hF hU (.inl ⟨id, rfl, rfl⟩)
  | goto l => exact jump_sound hrec h hF hU (.inr ⟨l, rfl, rfl⟩)
  | ret => exact ret_sound hrec h hF hU
  | rangeFunc f ps a b => exact rangeF_sound hnames hrec hcall h hF hU
  | region id ops draw =>
    cases draw with
    | true => exact hdraw env id ops k ρ m w fr tmps ds up cs h hF hU
    | false =>
      have hm : fr.mode = .run := hF.mode
      have ht := hF.todo rfl
      have hr := region_sound (P := P) (w0 := w0) (B := B) (env := env) hnames hrec hcall (k := k) ops.toList 0 rfl
      have hlen : ops.toList.length = ops.size := by simp
      rw [hlen, ← List.range_eq_range'] at hr
      refine Res.steps (.one (step_lone_go (fr' := { fr with todo := .inRegion ops (List.range ops.size) :: k.map AItem.toItem }) (cs' := cs) (w' := w) ?_)) (hr ρ m w _ tmps ds up cs h (hF.goto _) hU)
      simp [stepG, hm, stepG.exec, ht, AItem.toItem]
  | refuse why => exact trivial

theorem body_sound (hnames : NamesOK P) (htb : TbOK P fl) (hrec : Sound P w0 B rec) (hdraw : DrawOK P w0 B fl rec) : Sound P w0 B (bodyGo P fl rec) := by
  intro env todo tmps ds mode up m ρ w fr cs h hF hU
  have hcall : CallOK P w0 B fl rec := call_sound htb hrec
  cases mode with
  | run =>
    show Res P w0 B ρ env cs m (lone fr cs w) (todoGo P fl rec env tmps ds up m todo)
    cases todo with
    | nil => exact end_sound hrec h hF hU
    | cons x k =>
      show Res P w0 B ρ env cs m (lone fr cs w) (itemGo P fl rec env k tmps ds up m x)
      cases x with
      | code c => exact code_sound hnames hrec hcall hdraw h hF hU
      | inBlock id => exact simple_sound hrec h hF hU fun fr hm ht => by simp [stepG, hm, stepG.exec, ht, AItem.toItem]
      | inScope b => exact simple_sound hrec h hF hU fun fr hm ht => by simp [stepG, hm, stepG.exec, ht, AItem.toItem]
      | inLoop body => exact simple_sound hrec h (k' := .code body :: .inLoop body :: k) hF hU fun fr hm ht => by simp [stepG, hm, stepG.exec, ht, AItem.toItem]
      | beginRound =>
        show Res P w0 B ρ env cs m (lone fr cs w) (match env.roundOf with | some l => beginR rec env k tmps ds up m l (m.heap.get l) | none => .bad "beginRound")
        cases hl : env.roundOf with
        | none => exact trivial
        | some l => exact begin_sound hrec h hl hF hU
  | returning => exact unwind_sound hnames hrec hcall h (fun e => by cases e) { hF with todo := fun e => by cases e } hU
  | panicking c => exact unwind_sound hnames hrec hcall h (fun e => by cases e) hF.panicking hU

theorem run_sound (hnames : NamesOK P) (htb : TbOK P fl) (hdraw : ∀ rec, (∀ w0, Sound P w0 B rec) → ∀ w0, DrawOK P w0 B fl rec) : ∀ n w0, Sound P w0 B (run P fl n) := by
  intro n
  induction n with
  | zero => intro w0 env todo tmps ds mode up m ρ w fr cs _ _ _; exact trivial
  | succ n ih => exact fun w0 => body_sound hnames htb (ih w0) (hdraw _ ih w0)

theorem MR.empty (w : World) : MR ⟨w, fun _ => False⟩ w.heap.size (fun _ => none) mem0 w := by
  have hg : ∀ q, mem0.heap.get q = none := fun q => T.get_e q
  have hf : ∀ q, mem0.fams.get q = none := fun q => T.get_e q
  refine ⟨?_, ?_, fun _ _ => rfl, fun q _ => hg q, ?_, ?_, ?_, ?_, Below.refl _ _, Nat.le_refl _, fun _ h => h.elim⟩
  · intro r o p h; rw [hg] at h; cases h
  · intro r r' o o' p p' _ h; rw [hg] at h; cases h
  · intro f l h; rw [hf] at h; cases h
  · intro r e cs f p h; rw [hg] at h; cases h
  · intro r e cs f p l h; rw [hg] at h; cases h
  · intro r r' e e' cs cs' f p p' h; rw [hg] at h; cases h

/-- A CLOSED CALL, PLAYED ON NO MEMORY: what it gives there, it gives in any world -/
theorem closed_sound (hnames : NamesOK P) (htb : TbOK P fl) (hdraw : ∀ B rec, (∀ w0, Sound P w0 B rec) → ∀ w0, DrawOK P w0 B fl rec) {n : Nat} {f : FuncId} {v : Value} {up' : Chain} {m' : Mem}
    (e : callA P fl n f [] mem0 = .ret (.lit v) up' m') (w : World) : Calls P f #[] w fun e w' => e = .returned v ∧ Below w.heap.size w w' := by
  intro cs
  have hrec := run_sound (B := w.heap.size) (fl := fl) hnames htb (hdraw w.heap.size) n ⟨w, fun _ => False⟩
  rcases call_sound (fl := fl) htb hrec _ mem0 w f [] #[] false cs [] (MR.empty w) (by simp [RL]) (fun e => by cases e) with ⟨why, hb⟩ | ⟨fn, c, hf, hb, hr⟩
  · have e' : callBody fl (run P fl n) false f [] [] mem0 P.funcs[f]? = .ret (.lit v) up' m' := e
    rw [e'] at hb; cases hb
  · have e' : callBody fl (run P fl n) false f [] [] mem0 P.funcs[f]? = .ret (.lit v) up' m' := e
    rw [e'] at hr
    obtain ⟨_, ρ', w1, w', fr', cs', x, h1, h2, h3, h4, h5, h6, h7, h8, h9⟩ := hr
    obtain ⟨rfl, hm, hd, hfn, hres⟩ := h9 rfl
    have hcs := h5.1 rfl
    subst hcs
    simp only [R] at h4
    subst h4
    refine ⟨.returned x, w1, fr', ⟨rfl, h3.below⟩, h1, hfn, hm, hd, h7, hres⟩
end
end Go.Abs
