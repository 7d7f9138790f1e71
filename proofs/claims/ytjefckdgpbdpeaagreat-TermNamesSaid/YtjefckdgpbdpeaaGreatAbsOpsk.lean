/- An executor whose runs hold in every world: a part of it and of what is proved of it. -/
import Derived.Test.YtjefckdgpbdpeaaGreatAbsOpsj

namespace Go.Abs
open Go
open Go.RowKit (Below)

section
variable {P : Program} {w0 : Wo} {B : Nat} {ρ : Rho} {m : Mem} {w : World}

theorem TR.set {t : T AVal} {a : Array Value} (h : TR ρ t a) {nt : Nat} (hs : a.size = nt) (d : Tmp) {v : AVal} {x : Value} (hv : R ρ v x) : TR ρ (setIn nt t d v) (a.setIfInBounds d x) := by
  intro i
  unfold setIn
  cases hd : d.succ.ble nt with
  | true =>
    rw [nat_ble] at hd
    rw [cond_true, getT_set]
    by_cases e : d = i
    · subst e
      rw [if_pos rfl]
      have : d < a.size := by rw [hs]; exact hd
      rw [Array.getD_eq_getD_getElem?, Array.getElem?_setIfInBounds, if_pos rfl, if_pos this]
      exact hv
    · rw [if_neg e, Array.getD_eq_getD_getElem?, Array.getElem?_setIfInBounds, if_neg e, ← Array.getD_eq_getD_getElem?]
      exact h i
  | false =>
    rw [nat_ble_f] at hd
    have hd' : nt < d + 1 := hd
    rw [cond_false]
    have : a.setIfInBounds d x = a := by
      apply Array.ext_getElem?
      intro j
      rw [Array.getElem?_setIfInBounds]
      by_cases e : d = j
      · subst e; rw [if_pos rfl, if_neg (by omega), Array.getElem?_eq_none (by omega)]
      · rw [if_neg e]
    rw [this]
    exact h i
theorem setMany_nil (nt : Nat) (vs : List AVal) (tm : T AVal) : setMany nt [] vs tm = tm := rfl
theorem setMany_cons_nil (nt : Nat) (t : Tmp) (ts : List Tmp) (tm : T AVal) : setMany nt (t :: ts) [] tm = tm := rfl
theorem setMany_cons (nt : Nat) (t : Tmp) (ts : List Tmp) (v : AVal) (vs : List AVal) (tm : T AVal) : setMany nt (t :: ts) (v :: vs) tm = setMany nt ts vs (setIn nt tm t v) := rfl
theorem TR.setMany {nt : Nat} : ∀ (ts : List Tmp) {vs : List AVal} {xs : List Value} {t : T AVal} {a : Array Value}, TR ρ t a → a.size = nt → RL ρ vs xs →
    TR ρ (setMany nt ts vs t) ((ts.zip xs).foldl (fun tmps (t, a) => tmps.setIfInBounds t a) a) ∧ ((ts.zip xs).foldl (fun tmps (t, a) => tmps.setIfInBounds t a) a).size = nt
  | [], vs, xs, t, a, h, hs, _ => ⟨by simpa [setMany_nil] using h, by simpa using hs⟩
  | d :: ts, [], xs, t, a, h, hs, hl => by
    obtain rfl : xs = [] := by simpa only [RL] using hl
    exact ⟨by simpa [setMany_cons_nil] using h, by simpa using hs⟩
  | d :: ts, v :: vs, xs, t, a, h, hs, hl => by
    obtain ⟨y, ys, rfl, h1, h2⟩ := hl.cons_inv
    rw [setMany_cons]
    simp only [List.zip_cons_cons, List.foldl_cons]
    exact TR.setMany ts (h.set hs d h1) (by simpa using hs) h2

theorem run_getLoop {b : Nat} {x : Loop} (h : w.heap[b]? = some (.loop x)) : (Instr.getLoop b).run P w = .ok x w := by
  unfold Instr.getLoop
  rw [run_bind, run_getObj (P := P) h (fun _ _ _ e => by cases e)]
  rfl

theorem MR.loop (h : MR w0 B ρ m w) {r : Nat} {l : ALoop} (ho : m.heap.get r = some (.loop l)) {p : Pl} (hp : ρ r = some p) :
    B ≤ p.b ∧ p = Pl.obj p.b ∧ ∃ x, w.heap[p.b]? = some (.loop x) ∧ LoopR ρ l x := h.obj r _ p ho hp

theorem yield_sound (h : MR w0 B ρ m w) {l b : Nat} (hp : ρ l = some (Pl.obj b)) {args : List AVal} {xs : Array Value} (hl : RL ρ args xs.toList) :
    NR w0 B ρ m w (yieldOp m l args) P ((Instr.yield b xs).run P w) := by
  unfold yieldOp
  split
  · rename_i st pe fn nt tm ps a bd d ho
    cases hlen : (lenL ps).beq (lenL args) with
    | false => exact trivial
    | true =>
      rw [cond_true]
      rw [nat_beq, lenL_eq, lenL_eq] at hlen
      obtain ⟨_, _, x, hw, hL⟩ := h.loop ho hp
      have hps : x.params.toList = ps := hL.params
      have hsz : xs.size = x.params.size := by
        have := hl.length
        have hp2 : x.params.size = ps.length := by rw [← hps]; simp
        simp at this
        omega
      have hT := TR.setMany (ρ := ρ) ps (t := tm) (a := x.tmps) hL.tmps hL.size hl
      refine ⟨rfl, b, _, ?_, hp, hT.1, hT.2⟩
      unfold Instr.yield
      rw [run_bind, run_getLoop (b := b) hw]
      dsimp only
      rw [if_neg (by omega)]
      have hz : (x.params.zip xs).foldl (fun tmps (t, a) => tmps.setIfInBounds t a) x.tmps = (ps.zip xs.toList).foldl (fun tmps (t, a) => tmps.setIfInBounds t a) x.tmps := by
        rw [← Array.foldl_toList]
        rw [Array.toList_zip, hps]
      have e1 : x.fn = fn := hL.fn
      have e2 : x.assign = a := hL.assign
      have e3 : x.body = bd := hL.body
      rw [hz, e1, e2, e3]
      rfl
  · exact trivial

theorem methodCall_sound (h : MR w0 B ρ m w) {name : String} {args : List AVal} {xs : Array Value} (hl : RL ρ args xs.toList) {v : AVal} {x : Value} (hx : R ρ v x) :
    NR w0 B ρ m w (methodCall P name args m v) P ((callMethod x name xs).run P w) := by
  have key : ∀ (t : TypeId) (v' : AVal) (y : Value), R ρ v' y → NR w0 B ρ m w (calledM args m (methodOf P m 8 t v' name)) P ((callMethod (.iface t y) name xs).run P w) := by
    intro t v' y hR
    cases hm : methodOf P m 8 t v' name with
    | none => exact trivial
    | some q =>
      obtain ⟨f, u⟩ := q
      obtain ⟨z, h1, h2⟩ := methodOf_sound h 8 (P.types.size + Made.depth) t (by unfold Made.depth; omega) hR hm
      refine ⟨rfl, #[z] ++ xs, ?_, ?_⟩
      · unfold callMethod
        dsimp only
        rw [run_bind]
        simp only [program, Sem.run, run_bind, h1]
      · simp only [Array.toList_append, List.cons_append, List.nil_append, RL]
        exact ⟨z, _, rfl, h2, hl⟩
  unfold methodCall
  split
  · simp only [R] at hx
    obtain ⟨y, rfl, hR⟩ := hx
    exact key _ _ _ hR
  · simp only [R] at hx
    subst hx
    exact key _ _ _ (by simp [R])
  · simp only [R] at hx
    subst hx
    exact ⟨_, w, ρ, rfl, Rho.le.refl ρ, h, by simp [R, rtErr]⟩
  · exact trivial

theorem RL.extract1 {v : AVal} {vs : List AVal} {xs : Array Value} (hl : RL ρ (v :: vs) xs.toList) : ∃ y, xs[0]? = some y ∧ R ρ v y ∧ RL ρ vs (xs.extract 1 xs.size).toList := by
  obtain ⟨y, ys, h1, h2, h3⟩ := hl.cons_inv
  obtain ⟨l⟩ := xs
  dsimp only at h1
  subst h1
  refine ⟨y, by simp, h2, ?_⟩
  have : ((y :: ys).toArray.extract 1 (y :: ys).toArray.size).toList = ys := by simp
  rw [this]
  exact h3

theorem fnCall_sound (h : MR w0 B ρ m w) {fn fn' : Fn} {cap args : List AVal} {cap' : Array Value} {xs : Array Value} (ht : TgR ρ (.fn fn #[]) cap (.fn fn' cap')) (hl : RL ρ args xs.toList) :
    NR w0 B ρ m w (fnCall P cap args m fn) P ((invoke (.fn fn' cap') xs).run P w) := by
  cases fn with
  | yield l =>
    obtain ⟨b, hp, h1, h2⟩ := ht
    cases h1
    exact yield_sound h hp hl
  | func f =>
    obtain ⟨c', h1, h2⟩ := ht
    cases h1
    refine ⟨rfl, xs ++ cap', rfl, ?_⟩
    rw [appL_eq, Array.toList_append]
    exact hl.append h2
  | method name =>
    obtain ⟨c', h1, h2⟩ := ht
    cases h1
    cases args with
    | nil => exact trivial
    | cons r rest =>
      obtain ⟨y, h3, h4, h5⟩ := hl.extract1
      have := methodCall_sound (P := P) h (name := name) h5 h4
      show NR w0 B ρ m w (methodCall P name rest m r) P _
      have hr : (invoke (.fn (.method name) cap') xs).run P w = (callMethod y name (xs.extract 1 xs.size)).run P w := by
        unfold invoke
        simp only [h3]
      rw [hr]
      exact this
  | via t path f pr =>
    obtain ⟨c', h1, h2⟩ := ht
    cases h1
    cases args with
    | nil => exact trivial
    | cons x rest =>
      obtain ⟨y, h3, h4, h5⟩ := hl.extract1
      show NR w0 B ρ m w (viaCall P f pr rest m (Abs.follow P m path.toList t x)) P _
      cases hf : Abs.follow P m path.toList t x with
      | none => exact trivial
      | some q =>
        obtain ⟨xt, v⟩ := q
        show NR w0 B ρ m w (calledM rest m (recvAt P m f xt pr v)) P _
        cases hr : recvAt P m f xt pr v with
        | none => exact trivial
        | some q =>
          obtain ⟨g, u⟩ := q
          obtain ⟨x', h6, h7⟩ := follow_sound h _ _ _ (.val y) h4 hf
          obtain ⟨rfl, z, h8, h9⟩ := recvAt_sound h h7 hr none
          refine ⟨rfl, #[z] ++ xs.extract 1 xs.size, ?_, ?_⟩
          · unfold invoke
            simp only [h3, run_bind, receiverVia, h6, h8]
          · simp only [Array.toList_append, List.cons_append, List.nil_append, RL]
            exact ⟨z, _, rfl, h9, h5⟩
  | methodOf t name =>
    obtain ⟨c', h1, h2⟩ := ht
    cases h1
    cases args with
    | nil => exact trivial
    | cons x rest =>
      obtain ⟨y, h3, h4, h5⟩ := hl.extract1
      show NR w0 B ρ m w (match P.underlying t with | some (.interface _) => methodCall P name rest m x | some _ => methodCall P name rest m (.iface t x) | none => .bad "methodOf") P _
      have hrun : ∀ d, P.underlying t = some d → (invoke (.fn (.methodOf t name) cap') xs).run P w = (callMethod (match d with | .interface _ => y | _ => .iface t y) name (xs.extract 1 xs.size)).run P w := by
        intro d hd
        unfold invoke
        simp only [h3, run_bind, run_underlying' hd]
        cases d <;> rfl
      cases hd : P.underlying t with
      | none =>
        exact trivial
      | some d =>
        rw [hrun d hd]
        cases d with
        | interface i => exact methodCall_sound h h5 h4
        | _ => exact methodCall_sound h h5 (by simp only [R]; exact ⟨_, rfl, h4⟩)

theorem invoke_sound (h : MR w0 B ρ m w) {t t' : Target} {cap args : List AVal} {xs : Array Value} (ht : TgR ρ t cap t') (hl : RL ρ args xs.toList) :
    NR w0 B ρ m w (callTarget P cap args m t) P ((invoke t' xs).run P w) := by
  cases t with
  | fn fn c =>
    have ht2 : TgR ρ (.fn fn #[]) cap t' := ht
    cases t' with
    | fn fn' cap' => exact fnCall_sound h ht2 hl
    | _ =>
      exfalso
      cases fn <;> first
        | (obtain ⟨b, _, h1, _⟩ := ht2; cases h1)
        | (obtain ⟨b, h1, _⟩ := ht2; cases h1)
  | builtin b ats ty cs =>
    obtain ⟨ty', cs', rfl⟩ := ht
    exact builtin_sound h b ats ty' cs' hl
  | nil =>
    have ht2 : t' = .nil := ht
    subst ht2
    exact ⟨_, w, ρ, rfl, Rho.le.refl ρ, h, by simp [R, rtErr]⟩
  | _ => exact trivial

theorem fnDef_sound {v : AVal} {x : Value} (hx : R ρ v x) {args : List AVal} {xs : Array Value} (hl : RL ρ args xs.toList) {d : ADef} (e : fnDef args v = some d) (w : World) :
    d.coll = none ∧ ∃ y, (Deferred.ofValue x xs).run P w = .ok y w ∧ DR ρ d y := by
  unfold fnDef at e
  split at e
  · rename_i fn first captured
    cases hy : isYield fn with
    | true => rw [hy] at e; cases e
    | false =>
      rw [hy, cond_false] at e
      cases e
      simp only [R] at hx
      subst hx
      refine ⟨rfl, _, rfl, ?_, ?_⟩
      · dsimp only
        rw [appL_eq, mapL_eq, Array.toList_append]
        exact (RL.lits _).append hl
      · dsimp only
        cases fn with
        | yield l => cases hy
        | _ => exact ⟨_, rfl, by rw [mapL_eq]; exact RL.lits _⟩
  · rename_i fn first captured
    cases e
    simp only [R] at hx
    obtain ⟨hy, f', c', rfl, h1, h2⟩ := hx
    refine ⟨rfl, _, rfl, ?_, ?_⟩
    · dsimp only
      rw [appL_eq, Array.toList_append]
      exact h1.append hl
    · dsimp only
      cases fn with
      | yield l => cases hy
      | _ => exact ⟨_, rfl, h2⟩
  · rename_i l
    cases e
    simp only [R] at hx
    obtain ⟨b, hp, rfl⟩ := hx
    refine ⟨rfl, _, rfl, ?_, ?_⟩
    · dsimp only
      simpa using hl
    · exact ⟨b, hp, rfl, rfl⟩
  · cases e
    simp only [R] at hx
    subst hx
    exact ⟨rfl, _, rfl, hl, rfl⟩
  · cases e

theorem RL.mapE {ρ' : Operand → Value} {tmps : T AVal} (hev : ∀ x, R ρ (evalT tmps x) (ρ' x)) (l : Array Operand) : RL ρ (mapL (evalT tmps) l.toList) (l.map ρ').toList := by
  rw [mapL_eq, Array.toList_map]
  exact RL.map_of _ _ _ fun a _ => hev a

theorem resolve_sound {ρ' : Operand → Value} {tmps : T AVal} (hev : ∀ x, R ρ (evalT tmps x) (ρ' x)) (c : Call) (ty : TypeId) {d : ADef} (e : resolveC tmps c = some d) (w : World) :
    d.coll = none ∧ ∃ y, (resolve ρ' c ty).run P w = .ok y w ∧ DR ρ d y := by
  unfold resolveC at e
  have hargs := RL.mapE hev c.args
  unfold resolve
  cases hc : c.callee with
  | builtin b =>
    rw [hc] at e
    cases e
    exact ⟨rfl, _, rfl, hargs, ⟨_, _, rfl⟩⟩
  | invoke recv name =>
    rw [hc] at e
    cases e
    refine ⟨rfl, _, rfl, ?_, ⟨#[], rfl, by simp [RL]⟩⟩
    simp only [Array.toList_append, List.cons_append, List.nil_append, RL]
    exact ⟨_, _, rfl, hev recv, hargs⟩
  | value f =>
    rw [hc] at e
    exact fnDef_sound (hev f) hargs e w

theorem callD_sound (h : MR w0 B ρ m w) {ρ' : Operand → Value} {tmps : T AVal} (hev : ∀ x, R ρ (evalT tmps x) (ρ' x)) (c : Call) (ty : TypeId) :
    NR w0 B ρ m w (callD P m (resolveC tmps c)) P ((do let d ← resolve ρ' c ty; invoke d.target d.args : Sem Next).run P w) := by
  cases hd : resolveC tmps c with
  | none => exact trivial
  | some d =>
    obtain ⟨h1, y, h2, h3⟩ := resolve_sound hev c ty hd w (P := P)
    rw [run_bind, h2]
    obtain ⟨t, cap, coll, args⟩ := d
    dsimp only at h1
    subst h1
    obtain ⟨h4, h5⟩ := h3
    exact invoke_sound h h5 h4
end
end Go.Abs

namespace Go.Abs
open Go
open Go.RowKit (Below)

section
variable {P : Program} {w0 : Wo} {B : Nat} {ρ : Rho} {m : Mem} {w : World}

theorem NR.same {v : AVal} {x : Value} (h : MR w0 B ρ m w) (hv : R ρ v x) : NR w0 B ρ m w (.val v m) P (.ok (.value x) w) := ⟨x, w, ρ, .inl rfl, Rho.le.refl ρ, h, hv⟩

theorem OptR.mapE {ρ' : Operand → Value} {tmps : T AVal} (hev : ∀ x, R ρ (evalT tmps x) (ρ' x)) (o : Option Operand) : OptR ρ (o.map (evalT tmps)) (o.map ρ') := by
  cases o with
  | none => exact trivial
  | some x => exact hev x

theorem aop_sound (h : MR w0 B ρ m w) {ρ' : Operand → Value} {tmps : T AVal} (hev : ∀ x, R ρ (evalT tmps x) (ρ' x)) (o : Oper) :
    NR w0 B ρ m w (aop P tmps m o.op) P ((execOp ρ' o).run P w) := by
  cases ho : o.op with
  | move x => simp only [execOp, ho]; exact NR.same h (hev x)
  | assign x => simp only [execOp, ho]; exact NR.same h (hev x)
  | pick c a b =>
    simp only [execOp, ho]
    have := pick_sound (P := P) h (hev a) (hev b) (hev c)
    show NR w0 B ρ m w (pickOp m (evalT tmps a) (evalT tmps b) (boolOf (evalT tmps c))) P _
    have h2 := NR.of_VR (m := m) (s := (do pure (if ← asBool (ρ' c) then ρ' a else ρ' b) : Sem Value)) this
    rw [run_bind, run_bind] at h2
    rw [run_bind]
    revert h2
    cases (asBool (ρ' c)).run P w with
    | ok t w' => exact id
    | halt e w' => exact id
  | alloc t => simp only [execOp, ho]; exact NR.of_VR (s := Instr.alloc t true (.tuple #[])) (alloc_sound h t)
  | box t x => simp only [execOp, ho]; exact NR.of_VR (s := Instr.box t (ρ' x)) (box_sound h t (hev x))
  | build t parts => simp only [execOp, ho]; exact NR.of_VR (build_sound h t hev parts)
  | buildSlice t len parts => simp only [execOp, ho]; exact NR.of_VR (buildSlice_sound h t len hev parts)
  | load t a => simp only [execOp, ho]; exact NR.of_VR (load_sound h t (hev a))
  | store t a x => simp only [execOp, ho]; exact NR.of_UR (store_sound h t (hev a) (hev x))
  | nilCheck x =>
    have := nilCheck_sound (P := P) h (hev x) o ρ' x ho rfl
    show NR w0 B ρ m w (nilCheck P m (evalT tmps x)) P _
    revert this
    cases nilCheck P m (evalT tmps x) with
    | val u m' => rintro ⟨rfl, h1, h2⟩; rw [h2]; exact NR.same h h1
    | panic u m' => rintro ⟨rfl, y, h1, h2⟩; rw [h2]; exact ⟨y, w, ρ, rfl, Rho.le.refl ρ, h, h1⟩
    | bad _ => intro _; exact trivial
    | _ => exact fun e => e.elim
  | binOp op t x y _ => simp only [execOp, ho]; exact NR.of_VR (binOp_sound h op t x y (hev x) (hev y))
  | unOp op _ x => simp only [execOp, ho]; exact NR.of_VR (lits1_sound h _ (hev x))
  | convert src dst x => simp only [execOp, ho]; exact NR.of_VR (conv_sound h src dst (hev x))
  | makeInterface t x => simp only [execOp, ho]; exact NR.of_VR (mkIface_sound h t (hev x))
  | makeFunc fn first captured =>
    simp only [execOp, ho]
    show NR w0 B ρ m w (bif isYield fn then .bad "makeFunc" else .val (.func fn (mapL (evalT tmps) first.toList) (mapL (evalT tmps) captured.toList)) m) P _
    cases hy : isYield fn with
    | true => exact trivial
    | false =>
      rw [cond_false]
      refine NR.same h ?_
      simp only [R]
      exact ⟨hy, _, _, rfl, RL.mapE hev first, RL.mapE hev captured⟩
  | makeMap t r =>
    simp only [execOp, ho]
    refine NR.of_VR (makeMap_sound h t (r.map (evalT tmps)) (r.map ρ') ?_ ?_)
    · intro v hv
      rw [Option.map_eq_some_iff] at hv
      obtain ⟨x, rfl, rfl⟩ := hv
      exact ⟨_, rfl, hev x⟩
    · intro hv
      rw [Option.map_eq_none_iff] at hv
      rw [hv]; rfl
  | makeSlice t l c => simp only [execOp, ho]; exact NR.of_VR (makeSl_sound h t (hev l) (hev c))
  | slice t x lo hi mx => simp only [execOp, ho]; exact NR.of_VR (slice_sound h t (hev x) (OptR.mapE hev lo) (OptR.mapE hev hi) (OptR.mapE hev mx))
  | fieldAddr s x f => simp only [execOp, ho]; exact NR.of_VR (fieldAddr_sound h s f (hev x))
  | field s x f => simp only [execOp, ho]; exact NR.of_VR (field_sound h s f (hev x))
  | indexAddr t x ix => simp only [execOp, ho]; exact NR.of_VR (indexAddr_sound h t (hev x) (hev ix))
  | index t x ix => simp only [execOp, ho]; exact NR.of_VR (index_sound h t (hev x) (hev ix))
  | lookup t x k ok => simp only [execOp, ho]; exact NR.of_VR (lookup_sound h t ok (hev x) (hev k))
  | mapUpdate t mp k x => simp only [execOp, ho]; exact NR.of_UR (mapUpdate_sound h t (hev mp) (hev k) (hev x))
  | insert t mp k x => simp only [execOp, ho]; exact NR.of_UR (mapUpdate_sound h t (hev mp) (hev k) (hev x))
  | range t x => simp only [execOp, ho]; exact NR.of_VR (range_sound h t (hev x))
  | entry it => simp only [execOp, ho]; exact NR.of_VR (entry_sound h (hev it))
  | typeAssert x t asserted ok => simp only [execOp, ho]; exact NR.of_VR (typeAssert_sound h t asserted ok (hev x))
  | extract t ix => simp only [execOp, ho]; exact NR.of_VR (extract_sound h ix (hev t))
  | call c => simp only [execOp, ho]; exact callD_sound h hev c o.type
  | panic x => simp only [execOp, ho]; exact NR.of_VR (panic_sound h (hev x))
  | _ => exact trivial
end
end Go.Abs
