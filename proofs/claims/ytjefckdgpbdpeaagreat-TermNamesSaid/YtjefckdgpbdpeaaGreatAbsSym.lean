/- An executor whose runs hold in every world: a part of it and of what is proved of it. -/
import Derived.Test.YtjefckdgpbdpeaaGreatAbsChunk
import Derived.Laws.Strings

namespace Go.Abs
open Go
open Go.RowKit (Below)

/-! ## runs whose values are not all known -/
section
variable {P : Program} {fl : Fl} {rec : Run} {env : Env} {k : List AItem} {tmps : T AVal} {ds : List ADef} {up : Chain} {m : Mem} {r : RR} {mode : AMode} {todo : List AItem}

/-- with fuel enough a frame's run ends so -/
def Goes (P : Program) (fl : Fl) (env : Env) (todo : List AItem) (tmps : T AVal) (ds : List ADef) (mode : AMode) (up : Chain) (m : Mem) (r : RR) : Prop :=
  ∃ N, ∀ n, N ≤ n → run P fl n env todo tmps ds mode up m = r
theorem run_succ (n : Nat) : run P fl (n + 1) = bodyGo P fl (run P fl n) := rfl
theorem Goes.step {env' : Env} {todo' : List AItem} {tmps' : T AVal} {ds' : List ADef} {mode' : AMode} {up' : Chain} {m' : Mem}
    (h : ∀ rec, bodyGo P fl rec env todo tmps ds mode up m = rec env' todo' tmps' ds' mode' up' m') (hg : Goes P fl env' todo' tmps' ds' mode' up' m' r) : Goes P fl env todo tmps ds mode up m r := by
  obtain ⟨N, hN⟩ := hg
  refine ⟨N + 1, fun n hn => ?_⟩
  obtain ⟨n, rfl⟩ : ∃ k, n = k + 1 := ⟨n - 1, by omega⟩
  rw [run_succ, h]
  exact hN n (by omega)
theorem Goes.last (h : ∀ rec, bodyGo P fl rec env todo tmps ds mode up m = r) : Goes P fl env todo tmps ds mode up m r := by
  refine ⟨1, fun n hn => ?_⟩
  obtain ⟨n, rfl⟩ : ∃ k, n = k + 1 := ⟨n - 1, by omega⟩
  rw [run_succ, h]

/-! items -/
theorem b_skip : bodyGo P fl rec env (.code .skip :: k) tmps ds .run up m = rec env k tmps ds .run up m := rfl
theorem b_seq (a b : Code) : bodyGo P fl rec env (.code (.seq a b) :: k) tmps ds .run up m = rec env (.code a :: .code b :: k) tmps ds .run up m := rfl
theorem b_block (i : Nat) (b : Code) : bodyGo P fl rec env (.code (.block i b) :: k) tmps ds .run up m = rec env (.code b :: .inBlock i :: k) tmps ds .run up m := rfl
theorem b_loop (b : Code) : bodyGo P fl rec env (.code (.loop b) :: k) tmps ds .run up m = rec env (.code b :: .inLoop b :: k) tmps ds .run up m := rfl
theorem b_inBlock (i : Nat) : bodyGo P fl rec env (.inBlock i :: k) tmps ds .run up m = rec env k tmps ds .run up m := rfl
theorem b_inLoop (b : Code) : bodyGo P fl rec env (.inLoop b :: k) tmps ds .run up m = rec env (.code b :: .inLoop b :: k) tmps ds .run up m := rfl
theorem b_cond {c : Operand} {a b : Code} {t : Bool} (h : evalT tmps c = .lit (.bool t)) : bodyGo P fl rec env (.code (.cond c a b) :: k) tmps ds .run up m = rec env (.code (bif t then a else b) :: k) tmps ds .run up m := by
  show condGo rec env a b k tmps ds up m (boolOf (evalT tmps c)) = _
  rw [h]; rfl
theorem b_exit {id : Nat} {k' : List AItem} (h : exitTo id k = some k') : bodyGo P fl rec env (.code (.exit id) :: k) tmps ds .run up m = rec env k' tmps ds .run up m := by
  show jumpTo rec env (.exit id) tmps ds up m (exitTo id k) = _
  rw [h]; rfl
theorem b_ret (h : env.roundOf = none) : bodyGo P fl rec env (.code .ret :: k) tmps ds .run up m = rec env [] tmps ds .returning up m := by
  show leave rec env (some .ret) tmps ds up m = _
  unfold leave
  rw [h]; rfl
theorem b_results {vs : List AVal} {fn : Func} (hf : P.funcs[env.fn]? = some fn) (h : resVals P tmps m fn.results.toList = some vs) : bodyGo P fl rec env todo tmps [] .returning up m = .ret (one vs) up m := by
  show retGo P tmps up m P.funcs[env.fn]? = _
  rw [hf]
  show retVals up m (resVals P tmps m fn.results.toList) = _
  rw [h]; rfl
/-! regions -/
theorem b_region (id : Nat) (ops : Array Oper) : bodyGo P fl rec env (.code (.region id ops false) :: k) tmps ds .run up m = regionGo P fl rec env ops.toList k ops.toList tmps ds up m := rfl
theorem r_nil (all : List Oper) : regionGo P fl rec env all k [] tmps ds up m = rec env k tmps ds .run up m := rfl
/-- operations that are no defer and no next -/
def plainOp : Op → Bool
  | .defer _ => false
  | .next _ _ => false
  | _ => true
theorem r_val {all : List Oper} {o : Oper} {rest : List Oper} {v : AVal} {m' : Mem} (hg : gd all tmps o.guard = some true) (hp : plainOp o.op = true) (ha : aop P tmps m o.op = .val v m') :
    regionGo P fl rec env all k (o :: rest) tmps ds up m = regionGo P fl rec env all k rest (setDst env.nt tmps v o.dst) ds up m' := by
  show (match gd all tmps o.guard with
      | some true => operR P fl rec env (fun c up m => rec env k tmps ds (.panicking c) up m) o.dst (regionGo P fl rec env all k rest) tmps ds up m o.op
      | some false => regionGo P fl rec env all k rest (setDst env.nt tmps undefA o.dst) ds up m
      | none => .bad "guard") = _
  rw [hg]
  dsimp only
  unfold operR
  split
  · rename_i c hop; rw [hop] at hp; cases hp
  · rename_i it s hop; rw [hop] at hp; cases hp
  · rw [ha]; rfl
theorem r_off {all : List Oper} {o : Oper} {rest : List Oper} (hg : gd all tmps o.guard = some false) :
    regionGo P fl rec env all k (o :: rest) tmps ds up m = regionGo P fl rec env all k rest (setDst env.nt tmps undefA o.dst) ds up m := by
  show (match gd all tmps o.guard with
      | some true => operR P fl rec env (fun c up m => rec env k tmps ds (.panicking c) up m) o.dst (regionGo P fl rec env all k rest) tmps ds up m o.op
      | some false => regionGo P fl rec env all k rest (setDst env.nt tmps undefA o.dst) ds up m
      | none => .bad "guard") = _
  rw [hg]
/-- a call whose answer is known -/
theorem r_call {all : List Oper} {o : Oper} {rest : List Oper} {f : FuncId} {args : List AVal} {v : Value} (hg : gd all tmps o.guard = some true) (hp : plainOp o.op = true) (ha : aop P tmps m o.op = .enter f args m) (ht : fl.tb f args m = some v) :
    regionGo P fl rec env all k (o :: rest) tmps ds up m = regionGo P fl rec env all k rest (setDst env.nt tmps (.lit v) o.dst) ds up m := by
  show (match gd all tmps o.guard with
      | some true => operR P fl rec env (fun c up m => rec env k tmps ds (.panicking c) up m) o.dst (regionGo P fl rec env all k rest) tmps ds up m o.op
      | some false => regionGo P fl rec env all k rest (setDst env.nt tmps undefA o.dst) ds up m
      | none => .bad "guard") = _
  rw [hg]
  dsimp only
  unfold operR
  split
  · rename_i c hop; rw [hop] at hp; cases hp
  · rename_i it s hop; rw [hop] at hp; cases hp
  · rw [ha]
    show gotR _ env.nt o.dst _ tmps ds up (callBody fl rec false f args [] m P.funcs[f]?) = _
    unfold callBody
    rw [cond_false, ht]
    rfl

/-- with fuel enough it comes to r -/
def GoesC (P : Program) (fl : Fl) (c : Run → RR) (r : RR) : Prop := ∃ N, ∀ n, N ≤ n → c (run P fl n) = r
theorem GoesC.of_goes (h : Goes P fl env todo tmps ds mode up m r) : GoesC P fl (fun rec => rec env todo tmps ds mode up m) r := h
theorem Goes.body (h : GoesC P fl (fun rec => bodyGo P fl rec env todo tmps ds mode up m) r) : Goes P fl env todo tmps ds mode up m r := by
  obtain ⟨N, hN⟩ := h
  refine ⟨N + 1, fun n hn => ?_⟩
  obtain ⟨n, rfl⟩ : ∃ k, n = k + 1 := ⟨n - 1, by omega⟩
  rw [run_succ]
  exact hN n (by omega)
theorem GoesC.of_eq {c c' : Run → RR} (h : ∀ rec, c rec = c' rec) (hg : GoesC P fl c' r) : GoesC P fl c r := by
  obtain ⟨N, hN⟩ := hg
  exact ⟨N, fun n hn => by rw [h]; exact hN n hn⟩
/-- a call whose run is known -/
theorem GoesC.call {all : List Oper} {o : Oper} {rest : List Oper} {f : FuncId} {fn : Func} {c : Code} {args : List AVal} {v : AVal} {up' : Chain} {m1 m' : Mem} (hg : gd all tmps o.guard = some true) (hp : plainOp o.op = true) (ha : aop P tmps m o.op = .enter f args m1)
    (ht : fl.tb f args m1 = none) (hl : hasN fl.l f = false) (hf : P.funcs[f]? = some fn) (hb : fn.body = some c) (hlen : args.length ≤ fn.ntmps)
    (hc : Goes P fl ⟨f, fn.ntmps, false, none⟩ [.code c] (argsT args 0 .e) [] .run [] m1 (.ret v up' m'))
    (hk : GoesC P fl (fun rec => regionGo P fl rec env all k rest (setDst env.nt tmps v o.dst) ds up m') r) : GoesC P fl (fun rec => regionGo P fl rec env all k (o :: rest) tmps ds up m) r := by
  obtain ⟨N1, h1⟩ := hc
  obtain ⟨N2, h2⟩ := hk
  refine ⟨N1 + N2, fun n hn => ?_⟩
  show (match gd all tmps o.guard with
      | some true => operR P fl (run P fl n) env (fun c up m => run P fl n env k tmps ds (.panicking c) up m) o.dst (regionGo P fl (run P fl n) env all k rest) tmps ds up m o.op
      | some false => regionGo P fl (run P fl n) env all k rest (setDst env.nt tmps undefA o.dst) ds up m
      | none => .bad "guard") = _
  rw [hg]
  dsimp only
  unfold operR
  split
  · rename_i c hop; rw [hop] at hp; cases hp
  · rename_i it s hop; rw [hop] at hp; cases hp
  · rw [ha]
    show gotR _ env.nt o.dst _ tmps ds up (callBody fl (run P fl n) false f args [] m1 P.funcs[f]?) = _
    unfold callBody
    rw [cond_false, ht]
    dsimp only
    rw [hl, cond_false, hf]
    unfold callBody0
    dsimp only
    have : (lenL args).ble fn.ntmps = true := by rw [nat_ble, lenL_eq]; exact hlen
    rw [this, cond_true, hb]
    dsimp only
    rw [h1 n (by omega)]
    exact h2 n (by omega)

def GoesCV (P : Program) (fl : Fl) (c : Run → RR) (v : AVal) : Prop := ∃ up' m', GoesC P fl c (.ret v up' m')
theorem GoesCV.of_eq {v : AVal} {c c' : Run → RR} (h : ∀ rec, c rec = c' rec) (hg : GoesCV P fl c' v) : GoesCV P fl c v := by
  obtain ⟨u, m2, hg⟩ := hg
  exact ⟨u, m2, hg.of_eq h⟩
theorem GoesCV.call {all : List Oper} {o : Oper} {rest : List Oper} {f : FuncId} {fn : Func} {c : Code} {args : List AVal} {v v' : AVal} {up' : Chain} {m1 m' : Mem} (hg : gd all tmps o.guard = some true) (hp : plainOp o.op = true) (ha : aop P tmps m o.op = .enter f args m1)
    (ht : fl.tb f args m1 = none) (hl : hasN fl.l f = false) (hf : P.funcs[f]? = some fn) (hb : fn.body = some c) (hlen : args.length ≤ fn.ntmps)
    (hc : Goes P fl ⟨f, fn.ntmps, false, none⟩ [.code c] (argsT args 0 .e) [] .run [] m1 (.ret v up' m'))
    (hk : GoesCV P fl (fun rec => regionGo P fl rec env all k rest (setDst env.nt tmps v o.dst) ds up m') v') : GoesCV P fl (fun rec => regionGo P fl rec env all k (o :: rest) tmps ds up m) v' := by
  obtain ⟨u, m2, hk⟩ := hk
  exact ⟨u, m2, GoesC.call hg hp ha ht hl hf hb hlen hc hk⟩
/-- what a frame of a call does, the call does -/
theorem calls_goes (hnames : NamesOK P) (htb : TbOK P fl) (hmix : P.follows .mixedOrders = true) {f : FuncId} {fn : Func} {c : Code} (hf : P.funcs[f]? = some fn) (hb : fn.body = some c) {args : List AVal} (hlen : args.length ≤ fn.ntmps)
    {v : Value} {up' : Chain} {m' : Mem} (hg : Goes P fl ⟨f, fn.ntmps, false, none⟩ [.code c] (argsT args 0 .e) [] .run [] m (.ret (.lit v) up' m'))
    {ρ : Rho} {w : World} {xs : Array Value} (h : MR ⟨w, fun _ => False⟩ w.heap.size ρ m w) (hl : RL ρ args xs.toList) : Calls P f xs w fun e w' => e = .returned v ∧ Below w.heap.size w w' := by
  obtain ⟨N, hN⟩ := hg
  refine calls_by (Rn := run P fl N) (fun B w0 => run_ok hnames htb hmix N w0) h hl (up' := up') (m' := m') ?_
  rw [hf]
  unfold callBody0
  dsimp only
  have : (lenL args).ble fn.ntmps = true := by rw [nat_ble, lenL_eq]; exact hlen
  rw [this, cond_true, hb]
  exact hN N (Nat.le_refl _)

/-- the same, of what is returned alone -/
def GoesV (P : Program) (fl : Fl) (env : Env) (todo : List AItem) (tmps : T AVal) (ds : List ADef) (mode : AMode) (up : Chain) (m : Mem) (v : AVal) : Prop := ∃ up' m', Goes P fl env todo tmps ds mode up m (.ret v up' m')
theorem GoesV.step {v : AVal} {env' : Env} {todo' : List AItem} {tmps' : T AVal} {ds' : List ADef} {mode' : AMode} {up' : Chain} {m' : Mem}
    (h : ∀ rec, bodyGo P fl rec env todo tmps ds mode up m = rec env' todo' tmps' ds' mode' up' m') (hg : GoesV P fl env' todo' tmps' ds' mode' up' m' v) : GoesV P fl env todo tmps ds mode up m v := by
  obtain ⟨u, m2, hg⟩ := hg
  exact ⟨u, m2, Goes.step h hg⟩
theorem GoesV.last {v : AVal} {up' : Chain} {m' : Mem} (h : ∀ rec, bodyGo P fl rec env todo tmps ds mode up m = .ret v up' m') : GoesV P fl env todo tmps ds mode up m v := ⟨up', m', Goes.last h⟩
theorem GoesV.bodyC {v : AVal} (h : GoesCV P fl (fun rec => bodyGo P fl rec env todo tmps ds mode up m) v) : GoesV P fl env todo tmps ds mode up m v := by
  obtain ⟨u, m2, h⟩ := h
  exact ⟨u, m2, Goes.body h⟩
theorem GoesCV.of_goes {v : AVal} (h : GoesV P fl env todo tmps ds mode up m v) : GoesCV P fl (fun rec => rec env todo tmps ds mode up m) v := h
theorem GoesV.body {v : AVal} (h : ∃ up' m', GoesC P fl (fun rec => bodyGo P fl rec env todo tmps ds mode up m) (.ret v up' m')) : GoesV P fl env todo tmps ds mode up m v := by
  obtain ⟨u, m2, h⟩ := h
  exact ⟨u, m2, Goes.body h⟩
theorem calls_goesV (hnames : NamesOK P) (htb : TbOK P fl) (hmix : P.follows .mixedOrders = true) {f : FuncId} {fn : Func} {c : Code} (hf : P.funcs[f]? = some fn) (hb : fn.body = some c) {args : List AVal} (hlen : args.length ≤ fn.ntmps)
    {v : Value} (hg : GoesV P fl ⟨f, fn.ntmps, false, none⟩ [.code c] (argsT args 0 .e) [] .run [] m (.lit v))
    {ρ : Rho} {w : World} {xs : Array Value} (h : MR ⟨w, fun _ => False⟩ w.heap.size ρ m w) (hl : RL ρ args xs.toList) : Calls P f xs w fun e w' => e = .returned v ∧ Below w.heap.size w w' := by
  obtain ⟨u, m2, hg⟩ := hg
  exact calls_goes hnames htb hmix hf hb hlen hg h hl

/-- the strings of a slice -/
def litStrs : List AVal → Option (List ByteArray)
  | [] => some []
  | .lit (.string b) :: rest => (litStrs rest).map (b :: ·)
  | _ => none
def rowCells : Option AObj → Option (List AVal)
  | some (.row _ cells _ _) => some cells
  | some (.ro cells) => some cells
  | _ => none
noncomputable def sliceStrs (m : Mem) (r off n : Nat) : Option (List ByteArray) := match rowCells (m.heap.get r) with
  | some cells => if n ≤ (cells.drop off).length then litStrs ((cells.drop off).take n) else none
  | none => none
def strs (l : List ByteArray) : List AVal := l.map fun b => .lit (.string b)
theorem strs_get {l : List ByteArray} {i : Nat} {b : ByteArray} (h : l[i]? = some b) : (strs l)[i]? = some (.lit (.string b)) := by
  unfold strs; rw [List.getElem?_map, h]; rfl
theorem litStrs_eq : ∀ {cells : List AVal} {l : List ByteArray}, litStrs cells = some l → cells = strs l
  | [], l, h => by simp only [litStrs, Option.some.injEq] at h; subst h; rfl
  | a :: rest, l, h => by
    unfold litStrs at h
    split at h
    · rename_i h1; cases h1
    · rename_i b rest' h1
      cases h1
      rw [Option.map_eq_some_iff] at h
      obtain ⟨l', h2, rfl⟩ := h
      rw [litStrs_eq h2]; rfl
    · cases h
theorem litStrs_strs (l : List ByteArray) : litStrs (strs l) = some l := by
  induction l with
  | nil => rfl
  | cons b l ih => show (litStrs (strs l)).map (b :: ·) = _; rw [ih]; rfl
theorem MR.sliceStrs {w0 : Wo} {B : Nat} {ρ : Rho} {w : World} (h : MR w0 B ρ m w) {r off n c : Nat} {ex : Bool} {x : Value} (hx : R ρ (.slice r off n c ex) x) {l : List ByteArray} (hs : Abs.sliceStrs m r off n = some l) :
    l.length = n ∧ ∃ b s cs e fz c', x = .slice (some ⟨b, s, none⟩) n c' ∧ w.heap[b]? = some (.cells cs e fz) ∧ ∀ ρ', CR ρ' (strs l) cs s := by
  simp only [R] at hx
  obtain ⟨p, c', hp, _, _, _, rfl⟩ := hx
  unfold Abs.sliceStrs at hs
  cases hc : rowCells (m.heap.get r) with
  | none => rw [hc] at hs; cases hs
  | some cells =>
    rw [hc] at hs
    dsimp only at hs
    split at hs
    case isFalse => cases hs
    rename_i hn
    have hl := litStrs_eq hs
    have hlen : l.length = n := by
      have := congrArg List.length hl
      rw [List.length_take, Nat.min_eq_left hn] at this
      simp [strs] at this
      exact this.symm
    have key : ∃ cs e fz, w.heap[p.b]? = some (.cells cs e fz) ∧ CR ρ cells cs p.s := by
      cases ho : m.heap.get r with
      | none => rw [ho] at hc; cases hc
      | some o =>
        rw [ho] at hc
        have hor := h.obj r o p ho hp
        cases o with
        | row e cs0 f q =>
          cases hc
          obtain ⟨_, _, cs, lo, hi, h1, _, h2, _⟩ := hor
          exact ⟨cs, _, _, h1, h2⟩
        | ro cs0 =>
          cases hc
          obtain ⟨_, cs, e, fz, h1, h2⟩ := hor
          exact ⟨cs, e, fz, h1, h2⟩
        | _ => cases hc
    obtain ⟨cs, e, fz, h1, h2⟩ := key
    refine ⟨hlen, p.b, off + p.s, cs, e, fz, c', rfl, h1, fun ρ' i v hv => ?_⟩
    have hvi : cells[off + i]? = some v := by
      rw [← hl] at hv
      rw [List.getElem?_take] at hv
      split at hv
      · rw [List.getElem?_drop] at hv; exact hv
      · cases hv
    obtain ⟨y, h3, h4⟩ := h2 _ _ hvi
    refine ⟨y, by rw [← h3]; congr 1; omega, ?_⟩
    have : ∃ b, v = .lit (.string b) := by
      unfold strs at hv
      rw [List.getElem?_map, Option.map_eq_some_iff] at hv
      obtain ⟨b, _, rfl⟩ := hv
      exact ⟨b, rfl⟩
    obtain ⟨b, rfl⟩ := this
    simp only [R] at h4 ⊢
    exact h4
/-- a memory of one row that is only read -/
noncomputable def mem1 (cells : List AVal) : Mem := ⟨(T.e : T AObj).set 0 (.ro cells), 1, .e, 0, false⟩
theorem mem1_get (cells : List AVal) (q : Nat) : (mem1 cells).heap.get q = if 0 = q then some (.ro cells) else none := by
  show ((T.e : T AObj).set 0 (.ro cells)).get q = _
  rw [T.get_set, T.get_e]
theorem MR.one {w : World} {b s : Nat} {cells : List AVal} {cs : Array Value} {e : TypeId} {fz : Nat × Nat} (hw : w.heap[b]? = some (.cells cs e fz)) (hc : ∀ ρ, CR ρ cells cs s) :
    MR ⟨w, fun _ => False⟩ w.heap.size (fun q => if q = 0 then some ⟨b, s, 0, 0⟩ else none) (mem1 cells) w := by
  have hlt : b < w.heap.size := (Array.getElem?_eq_some_iff.1 hw).1
  have hf : ∀ q, (mem1 cells).fams.get q = none := fun q => T.get_e q
  have hg := mem1_get cells
  refine ⟨?_, ?_, ?_, ?_, ?_, ?_, ?_, ?_, Below.refl _ _, Nat.le_refl _, fun _ h => h.elim⟩
  · intro r o p h1 h2
    rw [hg] at h1
    by_cases h0 : 0 = r
    · subst h0
      rw [if_pos rfl] at h1 h2
      cases h1; cases h2
      exact ⟨hlt, cs, e, fz, hw, hc _⟩
    · rw [if_neg h0] at h1; cases h1
  · intro r r' o o' p p' hne h1 h2 h3 h4 h5
    rw [hg] at h1 h2
    by_cases h0 : 0 = r
    · subst h0
      rw [if_neg hne] at h2; cases h2
    · rw [if_neg h0] at h1; cases h1
  · intro r hr
    have hr' : 1 ≤ r := hr
    rw [if_neg (by omega)]
  · intro r hr
    have hr' : 1 ≤ r := hr
    rw [hg, if_neg (by omega)]
  · intro f l h; rw [hf] at h; cases h
  · intro r e cs f p h; rw [hg] at h; split at h <;> cases h
  · intro r e cs f p l h; rw [hg] at h; split at h <;> cases h
  · intro r r' e e' cs cs' f p p' h; rw [hg] at h; split at h <;> cases h
end
end Go.Abs

namespace Go.Abs
open Go
open Go.RowKit (Below)
section
variable {P : Program} {tmps : T AVal} {m : Mem}
theorem dlt (a b : Nat) : decide ((Int.ofNat a) < Int.ofNat b) = decide (a < b) := by
  by_cases h : a < b
  · rw [decide_eq_true h]; exact decide_eq_true (by exact Int.ofNat_lt.2 h)
  · rw [decide_eq_false h]; exact decide_eq_false (fun h2 => h (Int.ofNat_lt.1 h2))
theorem o_lss {t : TypeId} {x y : Operand} {z : TypeId} {a b : Nat} (hx : evalT tmps x = goI a) (hy : evalT tmps y = goI b) : aop P tmps m (.binOp .lss t x y z) = .val (.lit (.bool (decide (a < b)))) m := by
  show lits2 P m (binF .lss t x y) (litOf (evalT tmps x)) (litOf (evalT tmps y)) = _
  rw [hx, hy, ← dlt]
  rfl
theorem o_add {t : TypeId} {x y : Operand} {z : TypeId} {a b : Nat} (hx : evalT tmps x = goI a) (hy : evalT tmps y = goI b) (hab : a + b < 2 ^ 62) : aop P tmps m (.binOp .add t x y z) = .val (goI (a + b)) m := by
  show lits2 P m (binF .add t x y) (litOf (evalT tmps x)) (litOf (evalT tmps y)) = _
  rw [hx, hy]
  have : lits2 P m (binF .add t x y) (litOf (goI a)) (litOf (goI b)) = .val (.lit (.int .i64 (IntKind.i64.wrap (Int.ofNat a + Int.ofNat b)))) m := rfl
  rw [this]
  have hw : IntKind.i64.wrap (Int.ofNat a + Int.ofNat b) = Int.ofNat (a + b) := by
    unfold IntKind.wrap
    simp [IntKind.bits, IntKind.signed]
    omega
  rw [hw]; rfl
/-- an integer of some kind -/
abbrev gk (k : IntKind) (n : Nat) : AVal := .lit (.int k (.ofNat n))
theorem dle (a b : Nat) : decide ((Int.ofNat a) ≤ Int.ofNat b) = decide (a ≤ b) := by
  by_cases h : a ≤ b
  · rw [decide_eq_true h]; exact decide_eq_true (by exact Int.ofNat_le.2 h)
  · rw [decide_eq_false h]; exact decide_eq_false (fun h2 => h (Int.ofNat_le.1 h2))
theorem o_lssK {t : TypeId} {x y : Operand} {z : TypeId} (k : IntKind) {a b : Nat} (hx : evalT tmps x = gk k a) (hy : evalT tmps y = gk k b) : aop P tmps m (.binOp .lss t x y z) = .val (.lit (.bool (decide (a < b)))) m := by
  show lits2 P m (binF .lss t x y) (litOf (evalT tmps x)) (litOf (evalT tmps y)) = _
  rw [hx, hy, ← dlt]
  cases k <;> rfl
theorem o_gtrK {t : TypeId} {x y : Operand} {z : TypeId} (k : IntKind) {a b : Nat} (hx : evalT tmps x = gk k a) (hy : evalT tmps y = gk k b) : aop P tmps m (.binOp .gtr t x y z) = .val (.lit (.bool (decide (b < a)))) m := by
  show lits2 P m (binF .gtr t x y) (litOf (evalT tmps x)) (litOf (evalT tmps y)) = _
  rw [hx, hy, ← dlt]
  cases k <;> rfl
theorem o_leqK {t : TypeId} {x y : Operand} {z : TypeId} (k : IntKind) {a b : Nat} (hx : evalT tmps x = gk k a) (hy : evalT tmps y = gk k b) : aop P tmps m (.binOp .leq t x y z) = .val (.lit (.bool (decide (a ≤ b)))) m := by
  show lits2 P m (binF .leq t x y) (litOf (evalT tmps x)) (litOf (evalT tmps y)) = _
  rw [hx, hy, ← dle]
  cases k <;> rfl
theorem o_not {t : TypeId} {x : Operand} {b : Bool} (hx : evalT tmps x = .lit (.bool b)) : aop P tmps m (.unOp .not t x) = .val (.lit (.bool (!b))) m := by
  show lits1 P m (Op.unary .not) (litOf (evalT tmps x)) = _
  rw [hx]; rfl
theorem o_indexS {t : TypeId} {x ix : Operand} {s : ByteArray} {i : Nat} {b : UInt8} (hx : evalT tmps x = .lit (.string s)) (hi : evalT tmps ix = goI i) (hu : P.underlying t = some .string) (hb : s.data.toList[i]? = some b) : aop P tmps m (.index t x ix) = .val (gk .u8 b.toNat) m := by
  show indexV P t m (evalT tmps x) (intOf (evalT tmps ix)) = _
  rw [hx, hi]
  show (bif isStrD (P.underlying t) then ixStr P m s (Int.ofNat i) else .bad "index") = _
  rw [hu]
  show (match getO s.data.toList i with | some b => Out.val (.lit (.int .u8 (.ofNat b.toNat))) m | none => boundsPanic P m) = _
  rw [getO_eq, hb]
theorem o_eqlB {t : TypeId} {x y : Operand} {z : TypeId} {a b : Bool} (hx : evalT tmps x = .lit (.bool a)) (hy : evalT tmps y = .lit (.bool b)) (hu : P.underlying t = some .bool) : aop P tmps m (.binOp .eql t x y z) = .val (.lit (.bool (a == b))) m := by
  show eqOp P .eql false t x y (evalT tmps x) (evalT tmps y) m = _
  rw [hx, hy]
  show pureOp P (binF .eql t x y (.bool a) (.bool b)) m "binOp" = _
  have h1 : value? P (Op.equalIn (9999 + 1) t (Value.bool a) (Value.bool b)) = .ok (a == b) := by
    unfold Op.equalIn
    simp only [underlying, program, bind, Sem.bind, value?, hu]
    rfl
  have h2 : binF .eql t x y (.bool a) (.bool b) = (do let r ← Op.equalIn (9999 + 1) t (Value.bool a) (Value.bool b); pure (Value.bool r)) := rfl
  unfold pureOp
  rw [h2, value_bind, h1]
  rfl
/-- as the model compares strings -/
def seq (a b : ByteArray) : Bool := a.toList == b.toList
theorem o_eqlS {t : TypeId} {x y : Operand} {z : TypeId} {a b : ByteArray} (hx : evalT tmps x = .lit (.string a)) (hy : evalT tmps y = .lit (.string b)) : aop P tmps m (.binOp .eql t x y z) = .val (.lit (.bool (seq a b))) m := by
  show eqOp P .eql false t x y (evalT tmps x) (evalT tmps y) m = _
  rw [hx, hy]
  rfl
theorem o_len {x : Operand} {t e : TypeId} {r off n c : Nat} {ex : Bool} (hx : evalT tmps x = .slice r off n c ex) (hu : P.underlying t = some (.slice e)) : aop P tmps m (.call ⟨.builtin .len, #[x], #[t]⟩) = .val (goI n) m := by
  show lenD m (evalT tmps x) (P.underlying t) = _
  rw [hx, hu]; rfl
theorem o_lenS {x : Operand} {t : TypeId} {s : ByteArray} (hx : evalT tmps x = .lit (.string s)) (hu : P.underlying t = some .string) : aop P tmps m (.call ⟨.builtin .len, #[x], #[t]⟩) = .val (goI s.size) m := by
  show lenD m (evalT tmps x) (P.underlying t) = _
  rw [hx, hu]; rfl
theorem o_indexAddr {x ix : Operand} {t e : TypeId} {r off n c size i : Nat} {ex : Bool} (hx : evalT tmps x = .slice r off n c ex) (hi : evalT tmps ix = goI i) (hz : sizedElem P (sliceElem P t) = some (e, size)) (hlt : i < n) :
    aop P tmps m (.indexAddr t x ix) = .val (.ptr r (off + i * size)) m := by
  show indexA P t m (evalT tmps x) (intOf (evalT tmps ix)) = _
  rw [hx, hi]
  show (match sizedElem P (sliceElem P t) with | some (_, size) => ixAt P m r off size n (Int.ofNat i) | none => .bad "indexAddr") = _
  rw [hz]
  show (bif (i.succ).ble n then Out.val (.ptr r (off.add (i.mul size))) m else boundsPanic P m) = _
  have : i.succ.ble n = true := by rw [nat_ble]; omega
  rw [this]; rfl
theorem o_move {x : Operand} {v : AVal} (h : evalT tmps x = v) : aop P tmps m (.move x) = .val v m := by rw [← h]; rfl
theorem o_assign {x : Operand} {v : AVal} (h : evalT tmps x = v) : aop P tmps m (.assign x) = .val v m := by rw [← h]; rfl
theorem o_pick {c a b : Operand} {t : Bool} {va vb : AVal} (hc : evalT tmps c = .lit (.bool t)) (ha : evalT tmps a = va) (hb : evalT tmps b = vb) : aop P tmps m (.pick c a b) = .val (bif t then va else vb) m := by
  show pickOp m (evalT tmps a) (evalT tmps b) (boolOf (evalT tmps c)) = _
  rw [hc, ha, hb]; rfl
/-- a cell of a row that is only read -/
theorem o_loadRo {t : TypeId} {x : Operand} {r off sz : Nat} {cells : List AVal} {v : AVal} (hx : evalT tmps x = .ptr r off) (hr : m.heap.get r = some (.ro cells)) (ht : tagg P t = some false) (hs : tsz P t = some sz) (hv : cells[off]? = some v) (hp : isPoison v = false) :
    aop P tmps m (.load t x) = .val v m := by
  show loadOp P t m (evalT tmps x) = _
  rw [hx]
  show valO m "load" (loadAs m r off (tagg P t) (tsz P t)) = _
  rw [ht, hs]
  show valO m "load" (read1 m r off) = _
  unfold read1
  rw [hr]
  dsimp only
  rw [getO_eq, hv]
  show valO m "load" (bif isPoison v then none else some v) = _
  rw [hp]; rfl
theorem e_tmp {t : Nat} {v : AVal} (h : getT tmps t = v) : evalT tmps (.tmp t) = v := h
theorem e_int (k : IntKind) (n : Int) : evalT tmps (.const (.int k n)) = .lit (.int k n) := rfl
theorem gd_true {all : List Oper} {j : Nat} {want : Bool} {d : Tmp} (hd : dstOf all j = some d) (h : getT tmps d = .lit (.bool want)) : gd all tmps (some (j, want)) = some true := by
  show (match dstOf all j with | some d => gdV want (getT tmps d) | none => some false) = _
  rw [hd]; dsimp only; rw [h]; cases want <;> rfl
theorem gd_false {all : List Oper} {j : Nat} {want : Bool} {d : Tmp} (hd : dstOf all j = some d) (h : getT tmps d = .lit (.bool (!want))) : gd all tmps (some (j, want)) = some false := by
  show (match dstOf all j with | some d => gdV want (getT tmps d) | none => some false) = _
  rw [hd]; dsimp only; rw [h]; cases want <;> rfl
/-- calls of functions by name -/
theorem o_call0 {f : FuncId} {ats : Array TypeId} : aop P tmps m (.call ⟨.value (.func f), #[], ats⟩) = .enter f [] m := rfl
theorem o_call1 {f : FuncId} {ats : Array TypeId} {x : Operand} {vx : AVal} (hx : evalT tmps x = vx) : aop P tmps m (.call ⟨.value (.func f), #[x], ats⟩) = .enter f [vx] m := by rw [← hx]; rfl
theorem o_call2 {f : FuncId} {ats : Array TypeId} {x y : Operand} {vx vy : AVal} (hx : evalT tmps x = vx) (hy : evalT tmps y = vy) : aop P tmps m (.call ⟨.value (.func f), #[x, y], ats⟩) = .enter f [vx, vy] m := by rw [← hx, ← hy]; rfl
/-- reading and writing temporaries -/
theorem g_none {nt : Nat} {v : AVal} : setDst nt tmps v none = tmps := rfl
theorem g_set {nt : Nat} {v : AVal} {d j : Nat} : getT (setDst nt tmps v (some d)) j = if d = j ∧ j < nt then v else getT tmps j := by
  rw [getT_setDst]
  by_cases h : d = j
  · subst h; simp
  · rw [if_neg (fun e => h (by cases e.1; rfl)), if_neg (fun e => h e.1)]
end

/-! ## what is known of calls -/
structure Known (P : Program) where
  f : FuncId
  tb : List AVal → Mem → Option Value
  fn : ∃ fn c, P.funcs[f]? = some fn ∧ fn.body = some c
  ok : ∀ (args : List AVal) (m : Mem) (v : Value), tb args m = some v → ∀ (w0 : Wo) (B : Nat) (ρ : Rho) (w : World) (xs : Array Value), MR w0 B ρ m w → RL ρ args xs.toList → Calls P f xs w fun e w' => e = .returned v ∧ Below w.heap.size w w'
def findK {P : Program} : List (Known P) → FuncId → List AVal → Mem → Option Value
  | [], _, _, _ => none
  | k :: ks, f, args, m => if k.f = f then k.tb args m else findK ks f args m
def flK {P : Program} (ks : List (Known P)) : Fl := ⟨[], findK ks⟩
theorem flK_ok {P : Program} (ks : List (Known P)) : TbOK P (flK ks) := by
  have key : ∀ (ks : List (Known P)) (f : FuncId) (args : List AVal) (m : Mem) (v : Value), findK ks f args m = some v → ∃ k ∈ ks, k.f = f ∧ k.tb args m = some v := by
    intro ks
    induction ks with
    | nil => intro f args m v h; cases h
    | cons k ks ih =>
      intro f args m v h
      unfold findK at h
      split at h
      · rename_i hf; exact ⟨k, by simp, hf, h⟩
      · obtain ⟨k', h1, h2⟩ := ih f args m v h; exact ⟨k', by simp [h1], h2⟩
  intro f args m v h
  obtain ⟨k, _, rfl, h2⟩ := key ks f args m v h
  exact ⟨k.fn, k.ok args m v h2⟩
theorem RL.one {ρ : Rho} {a : AVal} {xs : Array Value} (h : RL ρ [a] xs.toList) : ∃ x, xs = #[x] ∧ R ρ a x := by
  simp only [RL] at h
  obtain ⟨x, l, h1, h2, rfl⟩ := h
  exact ⟨x, Array.ext' h1, h2⟩
theorem RL.two {ρ : Rho} {a b : AVal} {xs : Array Value} (h : RL ρ [a, b] xs.toList) : ∃ x y, xs = #[x, y] ∧ R ρ a x ∧ R ρ b y := by
  simp only [RL] at h
  obtain ⟨x, l, h1, h2, y, l', rfl, h3, rfl⟩ := h
  exact ⟨x, y, Array.ext' h1, h2, h3⟩
/-- a call with a slice of strings, on a memory of its own -/
theorem slice_call {w : World} {b s n c' : Nat} {l : List ByteArray} {cs : Array Value} {e : TypeId} {fz : Nat × Nat} (hlen : l.length = n) (hw : w.heap[b]? = some (.cells cs e fz)) (hc : ∀ ρ', CR ρ' (strs l) cs s) :
    ∃ ρ : Rho, MR ⟨w, fun _ => False⟩ w.heap.size ρ (mem1 (strs l)) w ∧ R ρ (.slice 0 0 l.length c' true) (.slice (some ⟨b, s, none⟩) n c') := by
  refine ⟨_, MR.one hw hc, ?_⟩
  simp only [R]
  refine ⟨⟨b, s, 0, 0⟩, c', by simp, Nat.le_refl _, fun _ => rfl, (fun h => by cases h), ?_⟩
  rw [hlen]; simp
end Go.Abs

namespace Go.Abs
open Go

/-! ## strings are equal, both ways that the model asks -/
theorem ba_beq (a b : ByteArray) : (a == b) = true ↔ a = b := by
  constructor
  · intro h
    have h' : ByteArray.beq a b = true := h
    cases a; cases b
    simp [ByteArray.beq] at h'
    rw [h']
  · intro h
    subst h
    show ByteArray.beq a a = true
    cases a
    simp [ByteArray.beq]
theorem seq_iff (a b : ByteArray) : seq a b = true ↔ a = b := by
  unfold seq
  rw [ByteArray.toList_eq, ByteArray.toList_eq]
  constructor
  · intro h
    have h' : a.data.toList = b.data.toList := by simpa using h
    exact bytes_ext h'
  · intro h; subst h; simp
theorem beq_seq (a b : ByteArray) : (a == b) = seq b a := by
  cases h : (a == b) with
  | true => rw [ba_beq] at h; subst h; exact ((seq_iff a a).2 rfl).symm
  | false =>
    cases h2 : seq b a with
    | false => rfl
    | true => rw [seq_iff] at h2; subst h2; rw [(ba_beq b b).2 rfl] at h; cases h
/-- is a string among some? -/
def isIn (s : ByteArray) (l : List ByteArray) : Bool := l.any fun b => seq b s
theorem isIn_iff (s : ByteArray) (l : List ByteArray) : isIn s l = true ↔ s ∈ l := by
  unfold isIn
  rw [List.any_eq_true]
  constructor
  · rintro ⟨b, h1, h2⟩; rw [seq_iff] at h2; subst h2; exact h1
  · intro h; exact ⟨s, h, (seq_iff s s).2 rfl⟩

/-! ## maps from strings to true -/
def ents (l : List (ByteArray × Nat)) : List AEnt := l.map fun x => ⟨.string x.1, .lit (.bool true), x.2⟩
def keysE (l : List (ByteArray × Nat)) : List ByteArray := l.map (·.1)
theorem findNow_ents (s : ByteArray) : ∀ (l : List (ByteArray × Nat)) (i : Nat), Instr.findNow .string (.string s) (dummies (ents l)) i = some ((l.findIdx? fun x => s == x.1).map fun j => (i + j, .nilFunc))
  | [], i => rfl
  | x :: l, i => by
    show (match Instr.sameNow .string (.string s) (.string x.1) with
      | some true => some (some (i, Value.nilFunc))
      | some false => Instr.findNow .string (.string s) (dummies (ents l)) (i + 1)
      | none => none) = _
    show (match some (s == x.1) with
      | some true => some (some (i, Value.nilFunc))
      | some false => Instr.findNow .string (.string s) (dummies (ents l)) (i + 1)
      | none => none) = _
    rw [List.findIdx?_cons]
    cases h : (s == x.1) with
    | true => simp
    | false =>
      dsimp only
      rw [findNow_ents s l (i + 1)]
      cases (l.findIdx? fun x => s == x.1) with
      | none => rfl
      | some j => simp; omega
section
variable {P : Program} {tmps : T AVal} {m : Mem}
theorem findIx_ents (e : Bool) {kt : TypeId} (hk : P.underlying kt = some .string) (s : ByteArray) (l : List (ByteArray × Nat)) : findIx P e kt (.string s) (dummies (ents l)) = some (l.findIdx? fun x => s == x.1) := by
  have h1 : value? P (Instr.checkKey e (9999 + 1) kt (.string s)) = .ok () := by
    unfold Instr.checkKey
    simp only [underlying, program, bind, Sem.bind, value?, hk]
    rfl
  have h2 : value? P (Instr.findKey kt (.string s) (dummies (ents l))) = .ok ((l.findIdx? fun x => s == x.1).map fun j => (0 + j, .nilFunc)) := by
    unfold Instr.findKey
    simp only [underlying, program, bind, Sem.bind, value?, hk]
    show value? P (match Instr.findNow .string (.string s) (dummies (ents l)) 0 with | some r => pure r | none => Instr.findAsking kt (.string s) (dummies (ents l))) = _
    rw [findNow_ents]
    rfl
  unfold findIx
  have h1' : value? P (Instr.checkKey e 10000 kt (.string s)) = .ok () := h1
  rw [h1', h2]
  cases (l.findIdx? fun x => s == x.1) with
  | none => rfl
  | some j => simp
theorem findIdx_any (s : ByteArray) (l : List (ByteArray × Nat)) : (l.findIdx? fun x => s == x.1).isSome = isIn s (keysE l) := by
  rw [List.findIdx?_isSome]
  unfold isIn keysE
  rw [List.any_map]
  congr 1
  funext x
  exact beq_seq s x.1
/-- a look-up in such a map -/
theorem o_lookupB {t kt et : TypeId} {x y : Operand} {r c : Nat} {l : List (ByteArray × Nat)} {s : ByteArray} (hx : evalT tmps x = .map r) (hy : evalT tmps y = .lit (.string s)) (hr : m.heap.get r = some (.map (ents l) c))
    (ht : mapKey P t = some (kt, et)) (hk : P.underlying kt = some .string) (hz : tzero P et = some (.bool false)) : aop P tmps m (.lookup t x y false) = .val (.lit (.bool (isIn s (keysE l)))) m := by
  show lookupOp P false m (entriesOf m (evalT tmps x)) (litOf (evalT tmps y)) (mapKey P t) = _
  rw [hx, hy, ht]
  have he : entriesOf m (.map r) = some (ents l) := by
    show (match m.heap.get r with | some (.map es _) => some es | _ => none) = _
    rw [hr]
  rw [he]
  show luIn P false m (.string s) kt et (ents l) (tzero P et) = _
  rw [hz]
  show luAt false (.bool false) m (ents l) (findIx P (isNil (ents l)) kt (.string s) (dummies (ents l))) = _
  rw [findIx_ents _ hk, ← findIdx_any]
  cases hj : (l.findIdx? fun x => s == x.1) with
  | none => rfl
  | some j =>
    show (match getO (ents l) j with | some e => luRes false (.bool false) m (some e.val) | none => .bad "lookup") = _
    rw [List.findIdx?_eq_some_iff_getElem] at hj
    obtain ⟨h1, _, _⟩ := hj
    have : (ents l)[j]? = some ⟨.string l[j].1, .lit (.bool true), l[j].2⟩ := by
      unfold ents
      rw [List.getElem?_map, List.getElem?_eq_getElem h1]; rfl
    rw [getO_eq, this]
    rfl
/-- what a store makes of such a map -/
def addE (s : ByteArray) (l : List (ByteArray × Nat)) (c : Nat) : List (ByteArray × Nat) := if isIn s (keysE l) then l else l ++ [(s, c)]
def addC (s : ByteArray) (l : List (ByteArray × Nat)) (c : Nat) : Nat := if isIn s (keysE l) then c else c + 1
theorem setEnt_same : ∀ (l : List (ByteArray × Nat)) (j : Nat) (x : ByteArray × Nat), l[j]? = some x → setEnt j (.string x.1) (.lit (.bool true)) (ents l) = ents l
  | [], j, x, h => by simp at h
  | y :: l, 0, x, h => by
    simp only [List.getElem?_cons_zero, Option.some.injEq] at h
    subst h; rfl
  | y :: l, j + 1, x, h => by
    simp only [List.getElem?_cons_succ] at h
    show ⟨.string y.1, .lit (.bool true), y.2⟩ :: setEnt j (.string x.1) (.lit (.bool true)) (ents l) = _
    rw [setEnt_same l j x h]; rfl
theorem ents_append (l : List (ByteArray × Nat)) (s : ByteArray) (c : Nat) : ents (l ++ [(s, c)]) = ents l ++ [⟨.string s, .lit (.bool true), c⟩] := by unfold ents; simp
theorem o_updateB {t kt et : TypeId} {x y z : Operand} {r c : Nat} {l : List (ByteArray × Nat)} {s : ByteArray} (hx : evalT tmps x = .map r) (hy : evalT tmps y = .lit (.string s)) (hz : evalT tmps z = .lit (.bool true)) (hr : m.heap.get r = some (.map (ents l) c))
    (ht : mapKey P t = some (kt, et)) (hk : P.underlying kt = some .string) : aop P tmps m (.mapUpdate t x y z) = .val .poison (m.put r (.map (ents (addE s l c)) (addC s l c))) := by
  show mapUpdate P m (mapKey P t) (evalT tmps y) (evalT tmps z) (evalT tmps x) = _
  rw [hx, hy, hz, ht]
  show mapPut P m r (.lit (.bool true)) (m.heap.get r) (some (.string s)) (some (kt, et)) = _
  rw [hr]
  show muAt m r (.string s) (.lit (.bool true)) (ents l) c (findIx P false kt (.string s) (dummies (ents l))) = _
  rw [findIx_ents _ hk]
  have hs := findIdx_any s l
  cases hj : (l.findIdx? fun x => s == x.1) with
  | none =>
    rw [hj] at hs
    have hno : isIn s (keysE l) = false := hs.symm
    unfold addE addC
    rw [hno]
    show Out.val .poison (m.put r (.map (appL (ents l) [⟨.string s, .lit (.bool true), c⟩]) c.succ)) = _
    rw [appL_eq, ← ents_append]
    rfl
  | some j =>
    rw [hj] at hs
    have hyes : isIn s (keysE l) = true := hs.symm
    unfold addE addC
    rw [hyes]
    rw [List.findIdx?_eq_some_iff_getElem] at hj
    obtain ⟨h1, h2, _⟩ := hj
    rw [ba_beq] at h2
    have hx : l[j]? = some l[j] := List.getElem?_eq_getElem h1
    generalize l[j] = x at h2 hx
    have hge : (ents l)[j]? = some ⟨.string x.1, .lit (.bool true), x.2⟩ := by
      unfold ents
      rw [List.getElem?_map, hx]; rfl
    show muSet m r (.string s) (.lit (.bool true)) (ents l) c j (getO (ents l) j) = _
    rw [getO_eq, hge]
    show (bif Instr.sameBits 10000 (.string x.1) (.string s) then Out.val .poison (m.put r (.map (setEnt j (.string s) (.lit (.bool true)) (ents l)) c)) else .bad "mapUpdate key") = _
    have hb : Instr.sameBits 10000 (.string x.1) (.string s) = true := by
      show (x.1 == s) = true
      rw [ba_beq]; exact h2.symm
    rw [hb, cond_true, h2, setEnt_same l j x hx]
    rfl
theorem isIn_addE (q s : ByteArray) (l : List (ByteArray × Nat)) (c : Nat) : isIn q (keysE (addE s l c)) = (isIn q (keysE l) || seq s q) := by
  unfold addE
  cases h : isIn s (keysE l) with
  | true =>
    rw [if_pos rfl]
    cases hq : seq s q with
    | false => rw [Bool.or_false]
    | true => rw [seq_iff] at hq; subst hq; rw [h]; rfl
  | false =>
    rw [if_neg (by simp)]
    unfold isIn keysE
    simp [List.any_append]
end
/-- a run that is closed but for fuel -/
theorem Goes.closed {P : Program} {fl : Fl} {env : Env} {todo : List AItem} {tmps : T AVal} {ds : List ADef} {mode : AMode} {up : Chain} {m : Mem} {r : RR} (N : Nat) (h : ∀ k, run P fl (k + N) env todo tmps ds mode up m = r) : Goes P fl env todo tmps ds mode up m r :=
  ⟨N, fun n hn => by
    obtain ⟨k, rfl⟩ : ∃ k, n = k + N := ⟨n - N, by omega⟩
    exact h k⟩
end Go.Abs
