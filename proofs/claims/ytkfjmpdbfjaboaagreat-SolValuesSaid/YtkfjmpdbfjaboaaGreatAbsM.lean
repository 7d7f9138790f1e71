/- An executor whose runs hold in every world: a part of it and of what is proved of it. -/
import Derived.Test.YtkfjmpdbfjaboaaGreatAbsL
namespace Go.Abs
open Go
def eqOne (P : Program) (t : TypeId) : Value → Value → Option Bool
 | .bool a, .bool b => match P.underlying t with | some .bool => some (a == b) | _ => none
 | .int k a, .int k' b => match P.underlying t with | some (.int _) => if k = k' then some (a == b) else none | _ => none
 | .string a, .string b => match P.underlying t with | some .string => some (a == b) | _ => none
 | _, _ => none
section
variable {P : Program}
theorem value_under {t : TypeId} {d : TypeDesc} (h : P.underlying t = some d) : value? P (underlying t) = .ok d := by
 simp only [underlying, program, bind, Sem.bind, value?, h]
 rfl
theorem value_eqOne {d : Nat} {t : TypeId} {x y : Value} {b : Bool} (h : eqOne P t x y = some b) : value? P (Op.equalIn (d + 1) t x y) = .ok b := by
 unfold eqOne at h
 split at h
 ·split at h
  ·rename_i hu
   cases h
   unfold Op.equalIn
   rw [value_bind, value_under hu]; rfl
  ·cases h
 ·split at h
  ·rename_i hu
   split at h
   ·rename_i hk
    subst hk
    cases h
    unfold Op.equalIn
    rw [value_bind, value_under hu]
    dsimp only
    rw [if_pos rfl]; rfl
   ·cases h
  ·cases h
 ·split at h
  ·rename_i hu
   cases h
   unfold Op.equalIn
   rw [value_bind, value_under hu]; rfl
  ·cases h
 ·cases h
theorem value_part {t : TypeId} {cs : Array Value} {off : Nat} {v : Value} (ht : tagg P t = some false) (hv : cs[off]? = some v) : value? P (Go.part t cs off) = .ok v := by
 have h1 : value? P (isAgg t) = .ok false := by
  unfold tagg at ht
  split at ht
  ·rename_i d hd
   unfold isAgg
   rw [value_bind, value_under hd]
   cases d <;> first | rfl | cases ht
  ·cases ht
 unfold Go.part
 rw [value_bind, h1]
 show value? P (match cs[off]? with | some v => pure v | none => stuck "part: no such cell") = _
 rw [hv]; rfl
def eqCells (P : Program) (xs ys : Array Value) : List Field → Option Bool
 | [] => some true
 | f :: fs => if f.name = "_" then none else match tagg P f.type, xs[f.offset]?, ys[f.offset]? with
  | some false, some x, some y => match eqOne P f.type x y with
   | some true => eqCells P xs ys fs
   | some false => some false
   | none => none
  | _, _, _ => none
theorem value_struct {t : TypeId} {fs : Array Field} {xs ys : Array Value} {b : Bool} (hu : P.underlying t = some (.struct fs)) (hs : P.stoodInHeld t = false) (h : eqCells P xs ys fs.toList = some b) : value? P (Op.equalIn (9999 + 1) t (.agg xs) (.agg ys)) = .ok b := by
 unfold Op.equalIn
 rw [value_bind, value_under hu]
 show value? P (do
   if (← program).stoodInHeld t then
    unsupported (.noEntry "binop/eql.a struct with addresses of a package that the model stands in for")
   for f in fs do
    if f.name ≠ "_" then
     if !(← Op.equalIn 9999 f.type (← Go.part f.type xs f.offset) (← Go.part f.type ys f.offset)) then return false
   pure true) = _
 rw [value_bind]
 have h1 : value? P program = .ok P := rfl
 rw [h1]
 dsimp only
 rw [hs]
 rw [← Array.forIn_toList]
 generalize fs.toList = l at h
 simp only [Bool.false_eq_true, if_false]
 induction l with
 | nil => cases h; rfl
 | cons f l ih =>
  unfold eqCells at h
  by_cases hn : f.name = "_"
  ·rw [if_pos hn] at h; cases h
  rw [if_neg hn] at h
  split at h
  case h_2 => cases h
  rename_i x y ht hx hy
  rw [value_bind, List.forIn_cons, value_bind, if_pos hn, value_bind, value_part ht hx]
  dsimp only
  rw [value_bind, value_part ht hy]
  dsimp only
  rw [value_bind]
  split at h
  ·rename_i he
   rw [value_eqOne he]
   rw [value_bind] at ih
   exact ih h
  ·rename_i he
   rw [value_eqOne he]
   cases h; rfl
  ·cases h
theorem eqStruct {t : TypeId} {fs : Array Field} {ox oy : Operand} {xs ys : Array Value} {b : Bool} (hu : P.underlying t = some (.struct fs)) (hs : P.stoodInHeld t = false) (hg : P.eqGuardType P.depth t = false) (h : eqCells P xs ys fs.toList = some b) :
  value? P (binF .eql t ox oy (.agg xs) (.agg ys)) = .ok (.bool b) := by
 have h2 : binF .eql t ox oy (.agg xs) (.agg ys) = (do eqGuard .eql t ox oy (.agg xs) (.agg ys); binOp .eql t (.agg xs) (.agg ys)) := rfl
 rw [h2, value_bind]
 have h3 : value? P (eqGuard .eql t ox oy (.agg xs) (.agg ys)) = .ok () := by
  show value? P (do
   if !(← program).eqGuardType (← program).depth t then return
   if ← Op.eqGuardIn Op.maxDepth t (.agg xs) (.agg ys) then unsupported (.noEntry "binop/eql: two nil values of an interface type with methods, in a part of a struct or an array")) = _
  rw [value_bind]
  have h1 : value? P program = .ok P := rfl
  rw [h1]
  dsimp only
  rw [value_bind, h1]
  dsimp only
  rw [hg]; rfl
 rw [h3]
 show value? P (do pure (Value.bool (← Op.equal t (.agg xs) (.agg ys)))) = _
 rw [value_bind]
 have h4 : value? P (Op.equal t (.agg xs) (.agg ys)) = .ok b := value_struct hu hs h
 rw [h4]; rfl
def kindPlan (P : Program) (t : TypeId) : Option Nat := match P.underlying t with
 | some .bool => some 0
 | some (.int .i64) => some 1
 | some .string => some 2
 | _ => none
def planFs (P : Program) : List Field → Option (List (Nat × Nat))
 | [] => some []
 | f :: fs => if f.name = "_" then none else match tagg P f.type, kindPlan P f.type, planFs P fs with
  | some false, some k, some l => some ((f.offset, k) :: l)
  | _, _, _ => none
def eqPlan (P : Program) (t : TypeId) : Option (List (Nat × Nat)) := match P.underlying t with
 | some (.struct fs) => if P.stoodInHeld t || P.eqGuardType P.depth t then none else planFs P fs.toList
 | _ => none
def cmpCell : Nat → Value → Value → Option Bool
 | 0, .bool a, .bool b => some (a == b)
 | 1, .int .i64 a, .int .i64 b => some (a == b)
 | 2, .string a, .string b => some (a == b)
 | _, _, _ => none
def cmpPlan (xs ys : List Value) : List (Nat × Nat) → Option Bool
 | [] => some true
 | (o, k) :: l => match xs[o]?, ys[o]? with
  | some x, some y => match cmpCell k x y, cmpPlan xs ys l with
   | some a, some b => some (a && b)
   | _, _ => none
  | _, _ => none
theorem plan_eq {xs ys : List Value} : ∀ {fs : List Field} {pl : List (Nat × Nat)} {b : Bool}, planFs P fs = some pl → cmpPlan xs ys pl = some b → eqCells P xs.toArray ys.toArray fs = some b
 | [], pl, b, h, hc => by cases h; exact hc
 | f :: fs, pl, b, h, hc => by
  unfold planFs at h
  by_cases hn : f.name = "_"
  ·rw [if_pos hn] at h; cases h
  rw [if_neg hn] at h
  split at h
  case h_2 => cases h
  rename_i k l ht hk hl
  cases h
  unfold cmpPlan at hc
  split at hc
  case h_2 => cases hc
  rename_i x y hx hy
  split at hc
  case h_2 => cases hc
  rename_i a b' ha hb
  cases hc
  have he : eqOne P f.type x y = some a := by
   unfold kindPlan at hk
   split at hk
   ·rename_i hu
    cases hk
    cases x <;> cases y <;> first | (simp [cmpCell] at ha; done) | (unfold eqOne; rw [hu]; exact ha)
   ·rename_i hu
    cases hk
    cases x <;> cases y <;> first | (simp [cmpCell] at ha; done) | (rename_i k1 p k2 q; cases k1 <;> cases k2 <;> first | (simp [cmpCell] at ha; done) | (unfold eqOne; rw [hu]; dsimp only; rw [if_pos rfl]; exact ha))
   ·rename_i hu
    cases hk
    cases x <;> cases y <;> first | (simp [cmpCell] at ha; done) | (unfold eqOne; rw [hu]; exact ha)
   ·cases hk
  unfold eqCells
  rw [if_neg hn, ht, show xs.toArray[f.offset]? = some x by simpa using hx, show ys.toArray[f.offset]? = some y by simpa using hy]
  dsimp only
  rw [he]
  cases a with
  | true => exact (plan_eq hl hb).trans (by simp)
  | false => simp
theorem o_eqlSt {tmps : T AVal} {m : Mem} {t : TypeId} {x y : Operand} {z : TypeId} {xs ys : List Value} {fs : Array Field} {b : Bool} (hx : evalT tmps x = .agg (xs.map .lit)) (hy : evalT tmps y = .agg (ys.map .lit)) (hu : P.underlying t = some (.struct fs)) (hs : P.stoodInHeld t = false) (hg : P.eqGuardType P.depth t = false)
  (h : eqCells P xs.toArray ys.toArray fs.toList = some b) : aop P tmps m (.binOp .eql t x y z) = .val (.lit (.bool b)) m := by
 show eqOp P .eql false t x y (evalT tmps x) (evalT tmps y) m = _
 rw [hx, hy]
 show lits2 P m (binF .eql t x y) (litOf (.agg (xs.map .lit))) (litOf (.agg (ys.map .lit))) = _
 have hl : ∀ l : List Value, litOf (.agg (l.map .lit)) = some (.agg l.toArray) := by
  intro l
  show AVal.toLit (.agg (l.map .lit)) = _
  have : toLits (l.map .lit) = some l := by
   induction l with
   | nil => rfl
   | cons v l ih => show (match (AVal.lit v).toLit with | some x => (toLits (l.map .lit)).map (x :: ·) | none => none) = _; rw [ih]; rfl
  simp only [AVal.toLit, this]; rfl
 rw [hl, hl]
 show pureOp P (binF .eql t x y (.agg xs.toArray) (.agg ys.toArray)) m "binOp" = _
 unfold pureOp
 rw [eqStruct hu hs hg h]; rfl
theorem o_eqlP {tmps : T AVal} {m : Mem} {t : TypeId} {x y : Operand} {z : TypeId} {xs ys : List Value} {pl : List (Nat × Nat)} {b : Bool} (hx : evalT tmps x = .agg (xs.map .lit)) (hy : evalT tmps y = .agg (ys.map .lit)) (hp : eqPlan P t = some pl)
  (h : cmpPlan xs ys pl = some b) : aop P tmps m (.binOp .eql t x y z) = .val (.lit (.bool b)) m := by
 unfold eqPlan at hp
 split at hp
 case h_2 => cases hp
 rename_i fs hu
 split at hp
 ·cases hp
 ·rename_i hs
  have h1 : P.stoodInHeld t = false := by
   cases h : P.stoodInHeld t with
   | false => rfl
   | true => rw [h] at hs; exact absurd rfl hs
  have h2 : P.eqGuardType P.depth t = false := by
   cases h : P.eqGuardType P.depth t with
   | false => rfl
   | true => rw [h, Bool.or_true] at hs; exact absurd rfl hs
  exact o_eqlSt hx hy hu h1 h2 (plan_eq hp h)
end
open Go.RowKit (Below)
noncomputable section
inductive PC where
 | fin
 | L (i mask kind : Nat) (r : PC)
 | H (i mask kind : Nat) (r : PC)
 | E (a b : PC)
def PC.toT (ops : List Oper) : PC → PTree
 | .fin => .fin
 | .L i mask kind r => match getO ops i with | some o => .light ⟨i, o, mask, kind⟩ (r.toT ops) | none => .fin
 | .H i mask kind r => match getO ops i with | some o => .heavy ⟨i, o, mask, kind⟩ (r.toT ops) | none => .fin
 | .E a b => .either (a.toT ops) (b.toT ops)
section
variable {P : Program} {fl : Fl} {Q Q1 : RR → Prop} {env : Env} {k : List AItem} {tmps tmps0 : T AVal} {ds : List ADef} {up : Chain} {m : Mem} {nt : Nat} {b : T AVal} {l : List (Nat × AVal)} {all : List Oper} {cks left : List Ck} {t rest : PTree}
abbrev Dg (P : Program) (fl : Fl) (env : Env) (all : List Oper) (k : List AItem) (tmps0 : T AVal) (t : PTree) (cks : List Ck) (tmps : T AVal) (ds : List ADef) (up : Chain) (m : Mem) : Run → RR := fun rec => drawGo P fl rec env all k tmps0 t cks tmps ds up m
theorem w_draw (pc : PC) {i : Nat} {ops : Array Oper} {os : List Oper} (h : ops.toList = os) (hp : plan os = some (pc.toT os)) (w : Wp P fl (Dg P fl env os k tmps (pc.toT os) [] tmps ds up m) Q) : Wp P fl (At env (.code (.region i ops true) :: k) tmps ds .run up m) Q := by
 subst h
 refine Wp.stepC (fun rec => ?_) w
 show drawWith P fl rec env ops.toList k tmps ds up m (plan ops.toList) = _
 rw [hp]; rfl
theorem d_fin (w : Wp P fl (At env k tmps ds .run up m) Q) : Wp P fl (Dg P fl env all k tmps0 .fin cks tmps ds up m) Q := w
section
variable {it : PItem} {d : Nat} {v : AVal}
theorem light_on {rec : Run} (hg : gd all tmps it.o.guard = some true) : drawGo P fl rec env all k tmps0 (.light it rest) cks tmps ds up m = lightR env it (drawGo P fl rec env all k tmps0 rest) cks tmps ds up m (aop P tmps m it.o.op) := by
 show (match gd all tmps it.o.guard with
   | some true => lightR env it (drawGo P fl rec env all k tmps0 rest) cks tmps ds up m (aop P tmps m it.o.op)
   | some false => drawGo P fl rec env all k tmps0 rest cks (setDst env.nt tmps undefA it.o.dst) ds up m
   | none => .bad "guard") = _
 rw [hg]
theorem d_light (hn : env.nt = nt) (hg : gd all (sets nt b l) it.o.guard = some true) (hd : it.o.dst = some d) (ha : aop P (sets nt b l) m it.o.op = .val v m) (w : Wp P fl (Dg P fl env all k tmps0 rest (addCk (sets nt b l) it v m cks) (sets nt b ((d, v) :: l)) ds up m) Q) :
  Wp P fl (Dg P fl env all k tmps0 (.light it rest) cks (sets nt b l) ds up m) Q := by
 subst hn
 refine Wp.of_eq (fun rec => ?_) w
 show drawGo P fl rec env all k tmps0 (.light it rest) cks (sets env.nt b l) ds up m = _
 rw [light_on hg, ha]
 show (bif it.kind.beq 2 || m.next.beq m.next then drawGo P fl rec env all k tmps0 rest (addCk (sets env.nt b l) it v m cks) (setDst env.nt (sets env.nt b l) v it.o.dst) ds up m else _) = _
 rw [Nat.beq_refl, Bool.or_true, cond_true, hd]; rfl
theorem d_light0 (hk : it.kind = 0) (hn : env.nt = nt) (hg : gd all (sets nt b l) it.o.guard = some true) (hd : it.o.dst = some d) (ha : aop P (sets nt b l) m it.o.op = .val v m) (w : Wp P fl (Dg P fl env all k tmps0 rest cks (sets nt b ((d, v) :: l)) ds up m) Q) :
  Wp P fl (Dg P fl env all k tmps0 (.light it rest) cks (sets nt b l) ds up m) Q := by
 refine d_light hn hg hd ha ?_
 have : addCk (sets nt b l) it v m cks = cks := by unfold addCk; rw [hk]; rfl
 rw [this]; exact w
theorem d_light1 (hk : it.kind = 1) (hn : env.nt = nt) (hg : gd all (sets nt b l) it.o.guard = some true) (hd : it.o.dst = some d) (ha : aop P (sets nt b l) m it.o.op = .val v m) (w : Wp P fl (Dg P fl env all k tmps0 rest (⟨it.ix, 1, it.o.op, sets nt b l, v, none⟩ :: cks) (sets nt b ((d, v) :: l)) ds up m) Q) :
  Wp P fl (Dg P fl env all k tmps0 (.light it rest) cks (sets nt b l) ds up m) Q := by
 refine d_light hn hg hd ha ?_
 have : addCk (sets nt b l) it v m cks = ⟨it.ix, 1, it.o.op, sets nt b l, v, none⟩ :: cks := by unfold addCk; rw [hk]; rfl
 rw [this]; exact w
theorem d_offL (hn : env.nt = nt) (hg : gd all (sets nt b l) it.o.guard = some false) (hd : it.o.dst = some d) (w : Wp P fl (Dg P fl env all k tmps0 rest cks (sets nt b ((d, undefA) :: l)) ds up m) Q) :
  Wp P fl (Dg P fl env all k tmps0 (.light it rest) cks (sets nt b l) ds up m) Q := by
 subst hn
 refine Wp.of_eq (fun rec => ?_) w
 show (match gd all (sets env.nt b l) it.o.guard with
   | some true => lightR env it (drawGo P fl rec env all k tmps0 rest) cks (sets env.nt b l) ds up m (aop P (sets env.nt b l) m it.o.op)
   | some false => drawGo P fl rec env all k tmps0 rest cks (setDst env.nt (sets env.nt b l) undefA it.o.dst) ds up m
   | none => .bad "guard") = _
 rw [hg, hd]; rfl
theorem d_offH (hn : env.nt = nt) (hg : gd all (sets nt b l) it.o.guard = some false) (hd : it.o.dst = some d) (w : Wp P fl (Dg P fl env all k tmps0 rest cks (sets nt b ((d, undefA) :: l)) ds up m) Q) :
  Wp P fl (Dg P fl env all k tmps0 (.heavy it rest) cks (sets nt b l) ds up m) Q := by
 subst hn
 refine Wp.of_eq (fun rec => ?_) w
 show (match gd all (sets env.nt b l) it.o.guard with
   | some true => operR P fl rec env _ it.o.dst (behindR P it (drawGo P fl rec env all k tmps0 rest) cks) (sets env.nt b l) ds up m it.o.op
   | some false => drawGo P fl rec env all k tmps0 rest cks (setDst env.nt (sets env.nt b l) undefA it.o.dst) ds up m
   | none => .bad "guard") = _
 rw [hg, hd]; rfl
theorem heavy_on {rec : Run} (hg : gd all tmps it.o.guard = some true) : drawGo P fl rec env all k tmps0 (.heavy it rest) cks tmps ds up m =
  operR P fl rec env (fun c up m => rec env k (poisonDsts tmps0 env.nt all) ds (.panicking c) up m) it.o.dst (behindR P it (drawGo P fl rec env all k tmps0 rest) cks) tmps ds up m it.o.op := by
 show (match gd all tmps it.o.guard with
   | some true => operR P fl rec env (fun c up m => rec env k (poisonDsts tmps0 env.nt all) ds (.panicking c) up m) it.o.dst (behindR P it (drawGo P fl rec env all k tmps0 rest) cks) tmps ds up m it.o.op
   | some false => drawGo P fl rec env all k tmps0 rest cks (setDst env.nt tmps undefA it.o.dst) ds up m
   | none => .bad "guard") = _
 rw [hg]
theorem d_call {f : FuncId} {args : List AVal} {m1 : Mem} (hn : env.nt = nt) (hg : gd all (sets nt b l) it.o.guard = some true) (hp : plainOp it.o.op = true) (hd : it.o.dst = some d) (ha : aop P (sets nt b l) m it.o.op = .enter f args m1) (hc : CallQ P fl f args m1 Q1) (hl : leftCk it.mask cks = left)
  (hv : ∀ v up' m', Q1 (.ret v up' m') → ckAll P it.mask m' cks = true ∧ Wp P fl (Dg P fl env all k tmps0 rest left (sets nt b ((d, v) :: l)) ds up m') Q)
  (hx : ∀ c up' m', Q1 (.panicked c up' m') → Wp P fl (At env k (poisonDsts tmps0 nt all) ds (.panicking c) up m') Q) : Wp P fl (Dg P fl env all k tmps0 (.heavy it rest) cks (sets nt b l) ds up m) Q := by
 subst hl
 subst hn
 refine Wp.of_eq (c' := fun rec => gotR (fun c up m => rec env k (poisonDsts tmps0 env.nt all) ds (.panicking c) up m) env.nt it.o.dst (behindR P it (drawGo P fl rec env all k tmps0 rest) cks) (sets env.nt b l) ds up (callBody fl rec false f args [] m1 P.funcs[f]?)) (fun rec => ?_) ?_
 ·show drawGo P fl rec env all k tmps0 (.heavy it rest) cks (sets env.nt b l) ds up m = _
  rw [heavy_on hg, operR_plain hp ha (fun _ h => by cases h)]
  show enterR _ _ (extV P fl f args m1) = _
  rw [hc.1]; rfl
 ·refine Wp.bind (A := fun rec v _ m => behindR P it (drawGo P fl rec env all k tmps0 rest) cks (setDst env.nt (sets env.nt b l) v it.o.dst) ds up m) (B := fun rec c _ m => rec env k (poisonDsts tmps0 env.nt all) ds (.panicking c) up m) hc.2 (fun v u m h => ?_) (fun c u m h => hx c u m h)
  obtain ⟨h1, h2⟩ := hv v u m h
  refine Wp.of_eq (fun rec => ?_) h2
  show behindR P it (drawGo P fl rec env all k tmps0 rest) cks (setDst env.nt (sets env.nt b l) v it.o.dst) ds up m = _
  unfold behindR
  rw [h1, hd]; rfl
theorem d_callV {f : FuncId} {args : List AVal} {m1 : Mem} {S : Nat → Prop} (hn : env.nt = nt) (hg : gd all (sets nt b l) it.o.guard = some true) (hp : plainOp it.o.op = true) (hd : it.o.dst = some d) (ha : aop P (sets nt b l) m it.o.op = .enter f args m1) (hc : CallQ P fl f args m1 (Rets S m1 v)) (hl : leftCk it.mask cks = left)
  (w : ∀ m', Kept S m1 m' → ckAll P it.mask m' cks = true ∧ Wp P fl (Dg P fl env all k tmps0 rest left (sets nt b ((d, v) :: l)) ds up m') Q) : Wp P fl (Dg P fl env all k tmps0 (.heavy it rest) cks (sets nt b l) ds up m) Q := by
 refine d_call hn hg hp hd ha hc hl ?_ ?_
 ·rintro v' u m' ⟨_, _, e, hk⟩; cases e; exact w _ hk
 ·rintro c u m' ⟨_, _, e, _⟩; cases e
end
theorem lk0 {mask : Nat} : leftCk mask [] = [] := rfl
theorem lk_skip {mask : Nat} {c : Ck} (h : isBit mask c.ix = true) (w : leftCk mask cks = left) : leftCk mask (c :: cks) = left := by
 show (bif isBit mask c.ix then leftCk mask cks else _) = _
 rw [h]; exact w
theorem lk_keep {mask : Nat} {c : Ck} (h : isBit mask c.ix = false) (w : leftCk mask cks = left) : leftCk mask (c :: cks) = c :: left := by
 show (bif isBit mask c.ix then leftCk mask cks else c :: leftCk mask cks) = _
 rw [h, w]; rfl
theorem ck0 {mask : Nat} : ckAll P mask m [] = true := rfl
theorem ck_skip {mask : Nat} {c : Ck} (h : isBit mask c.ix = true) (w : ckAll P mask m cks = true) : ckAll P mask m (c :: cks) = true := by
 show (bif isBit mask c.ix then ckAll P mask m cks else _) = true
 rw [h]; exact w
theorem ck_one {mask ix : Nat} {op : Op} {v : AVal} (ha : aop P tmps m op = .val v m) (hr : aEq v v = true) (w : ckAll P mask m cks = true) : ckAll P mask m (⟨ix, 1, op, tmps, v, none⟩ :: cks) = true := by
 show (bif isBit mask ix then ckAll P mask m cks else bif ckOne P m ⟨ix, 1, op, tmps, v, none⟩ then ckAll P mask m cks else false) = true
 have : ckOne P m ⟨ix, 1, op, tmps, v, none⟩ = true := by
  show ckVal v m.next (aop P tmps m op) = true
  rw [ha]
  show (aEq v v && m.next.beq m.next) = true
  rw [hr, Nat.beq_refl]; rfl
 rw [this, w]
 cases isBit mask ix <;> rfl
theorem aq_int (j : IntKind) (n : Int) : aEq (.lit (.int j n)) (.lit (.int j n)) = true := by simp [aEq, vEq]
end
theorem Wp.gen {P : Program} {fl : Fl} {Q : RR → Prop} {env : Env} {k : List AItem} {tmps : T AVal} {ds : List ADef} {up : Chain} {m : Mem} {mode : AMode} (w : ∀ b, b = tmps → Wp P fl (At env k b ds mode up m) Q) : Wp P fl (At env k tmps ds mode up m) Q := w _ rfl
theorem Kept.then {S S' : Nat → Prop} {m m1 m2 : Mem} (a : Kept S m m1) (b : Kept S' m1 m2) (h : ∀ q, q < m.next → S' q → S q) : Kept S m m2 :=
 ⟨Nat.le_trans a.next b.next, fun q h1 h2 => (b.get q (Nat.lt_of_lt_of_le h1 a.next) (fun h3 => h2 (h q h1 h3))).trans (a.get q h1 h2),
  fun q h1 h2 => (b.fam q (Nat.lt_of_lt_of_le h1 a.next) (fun h3 => h2 (h q h1 h3))).trans (a.fam q h1 h2), fun q cs e => b.ro q cs (a.ro q cs e), b.gl.trans a.gl, b.wf⟩
theorem eqb {b tm : T AVal} {k : Nat} {v : AVal} (eb : b = tm) (h : evalT tm (.tmp k) = v) : getT b k = v := by subst eb; exact h
section
variable {P : Program} {tmps : T AVal} {m : Mem}
theorem o_loadRo1 {t : TypeId} {x : Operand} {r off sz : Nat} {cells : List AVal} {v : AVal} (hx : evalT tmps x = .ptr r off) (hr : m.heap.get r = some (.ro cells)) (ht : tagg P t = some false) (hs : tsz P t = some sz) (hv : takeN 1 (dropN cells off) = some [v]) :
  aop P tmps m (.load t x) = .val v m := by
 show loadOp P t m (evalT tmps x) = _
 rw [hx]
 show valO m "load" (loadAs m r off (tagg P t) (tsz P t)) = _
 rw [ht, hs]
 show valO m "load" (read1 m r off) = _
 have e : read1 m r off = some v := by
  unfold read1
  rw [hr]
  dsimp only
  have key : ∀ (n : Nat) (l : List AVal), takeN 1 (dropN l n) = some [v] → sound1 (getO l n) = some v := by
   intro n
   induction n with
   | zero =>
    intro l h
    cases l with
    | nil => cases h
    | cons a l =>
     show (bif isPoison a then none else some a) = _
     have h' : (bif isPoison a then none else (takeN 0 l).map (a :: ·)) = some [v] := h
     cases hp : isPoison a with
     | true => rw [hp] at h'; cases h'
     | false =>
      rw [hp] at h'
      have h2 : some (a :: []) = some [v] := h'
      cases h2; rfl
   | succ n ih =>
    intro l h
    cases l with
    | nil => cases h
    | cons a l =>
     have h2 : sound1 (getO l n) = some v := ih l h
     show sound1 (bif (n + 1).beq 0 then some a else getO l ((n + 1).sub 1)) = _
     exact h2
  exact key off cells hv
 rw [e]; rfl
end
end
open Go.RowKit (Below)
abbrev EntV := ByteArray × AVal × Nat
def findV (s : ByteArray) (l : List EntV) : Option AVal := (l.find? fun x => s == x.1).map (·.2.1)
section
variable {P : Program} {tmps : T AVal} {m : Mem}
def addV (s : ByteArray) (v : AVal) (l : List EntV) (c : Nat) : List EntV := match findV s l with
 | some _ => l
 | none => l ++ [(s, v, c)]
def clkV (s : ByteArray) (l : List EntV) (c : Nat) : Nat := match findV s l with
 | some _ => c
 | none => c + 1
structure GoodV (l : List EntV) (c : Nat) : Prop where
 lt : ∀ x, x ∈ l → x.2.2 < c
 inj : ∀ x y, x ∈ l → y ∈ l → x.2.2 = y.2.2 → x = y
theorem GoodV.nil : GoodV [] 0 := ⟨fun x h => by simp at h, fun x y h => by simp at h⟩
theorem GoodV.add {l : List EntV} {c : Nat} (h : GoodV l c) (s : ByteArray) (v : AVal) : GoodV (addV s v l c) (clkV s l c) := by
 unfold addV clkV
 cases findV s l with
 | some u => exact h
 | none =>
  refine ⟨fun x hx => ?_, fun x y hx hy e => ?_⟩
  ·show x.2.2 < c + 1
   rcases List.mem_append.1 hx with hx | hx
   ·have := h.lt x hx; omega
   ·simp only [List.mem_singleton] at hx; subst hx; exact Nat.lt_succ_self c
  ·rcases List.mem_append.1 hx with hx | hx <;> rcases List.mem_append.1 hy with hy | hy
   ·exact h.inj x y hx hy e
   ·simp only [List.mem_singleton] at hy; subst hy; have := h.lt x hx; simp only at e; omega
   ·simp only [List.mem_singleton] at hx; subst hx; have := h.lt y hy; simp only at e; omega
   ·simp only [List.mem_singleton] at hx hy; rw [hx, hy]
end
section
variable {P : Program} {fl : Fl} {Q : RR → Prop} {env : Env} {k : List AItem} {ds : List ADef} {up : Chain} {m : Mem} {nt : Nat} {b : T AVal} {l : List (Nat × AVal)} {all rest : List Oper} {o : Oper} {d : Nat}
end
section
variable {P : Program} {tmps : T AVal} {m : Mem}
theorem o_geqI {t : TypeId} {x y : Operand} {z : TypeId} {a b : Int} (hx : evalT tmps x = iv a) (hy : evalT tmps y = iv b) : aop P tmps m (.binOp .geq t x y z) = .val (.lit (.bool (decide (a ≥ b)))) m := by
 show lits2 P m (binF .geq t x y) (litOf (evalT tmps x)) (litOf (evalT tmps y)) = _
 rw [hx, hy]; rfl
theorem o_gtrI {t : TypeId} {x y : Operand} {z : TypeId} {a b : Int} (hx : evalT tmps x = iv a) (hy : evalT tmps y = iv b) : aop P tmps m (.binOp .gtr t x y z) = .val (.lit (.bool (decide (a > b)))) m := by
 show lits2 P m (binF .gtr t x y) (litOf (evalT tmps x)) (litOf (evalT tmps y)) = _
 rw [hx, hy]; rfl
theorem o_neqI {t : TypeId} {x y : Operand} {z : TypeId} {a b : Int} (hx : evalT tmps x = iv a) (hy : evalT tmps y = iv b) : aop P tmps m (.binOp .neq t x y z) = .val (.lit (.bool (a != b))) m := by
 show eqOp P .neq true t x y (evalT tmps x) (evalT tmps y) m = _
 rw [hx, hy]; rfl
theorem o_subI {t : TypeId} {x y : Operand} {z : TypeId} {a b : Int} (hx : evalT tmps x = iv a) (hy : evalT tmps y = iv b) (h1 : -(2 ^ 62) ≤ a - b) (h2 : a - b < 2 ^ 62) : aop P tmps m (.binOp .sub t x y z) = .val (iv (a - b)) m := by
 show lits2 P m (binF .sub t x y) (litOf (evalT tmps x)) (litOf (evalT tmps y)) = _
 rw [hx, hy]
 have : lits2 P m (binF .sub t x y) (litOf (iv a)) (litOf (iv b)) = .val (.lit (.int .i64 (IntKind.i64.wrap (a - b)))) m := rfl
 rw [this]
 have hw : IntKind.i64.wrap (a - b) = a - b := by
  unfold IntKind.wrap
  simp [IntKind.bits, IntKind.signed]
  omega
 rw [hw]
end
open Go.RowKit (Below)
noncomputable section
def Gs (et : TypeId) (B : Nat) (m : Mem) (v : AVal) (f : Nat) (cells : List AVal) : Prop :=
 (cells = [] ∧ v = .lit (.slice none 0 0)) ∨ ∃ r, v = .slice r 0 cells.length cells.length false ∧ cells ≠ [] ∧ B ≤ r ∧ B ≤ f ∧ f < m.next ∧ allCells cells = true ∧ m.heap.get r = some (.row (et, 1) cells f 0) ∧
  ∀ q, q ∈ famOf m f r → ∃ cs, m.heap.get q = some (.row (et, 1) cs f 0) ∧ cs.length ≤ cells.length
theorem Gs.nil {et : TypeId} {B : Nat} {m : Mem} {f : Nat} : Gs et B m (.lit (.slice none 0 0)) f [] := .inl ⟨rfl, rfl⟩
theorem Gs.cell {et : TypeId} {B : Nat} {m : Mem} {v : AVal} {f : Nat} {cells : List AVal} (h : Gs et B m v f cells) : isCell v = true := by
 rcases h with ⟨_, rfl⟩ | ⟨r, rfl, _⟩ <;> rfl
theorem Gs.len {et : TypeId} {B : Nat} {m m' : Mem} {v : AVal} {f : Nat} {cells : List AVal} (h : Gs et B m v f cells) : lenSl m' v = .val (goI cells.length) m' := by
 rcases h with ⟨rfl, rfl⟩ | ⟨r, rfl, _⟩ <;> rfl
theorem Gs.keep {et : TypeId} {B : Nat} {m m' : Mem} {v : AVal} {f : Nat} {cells : List AVal} (h : Gs et B m v f cells) (hw : Wf m) (hn : m.next ≤ m'.next) (hh : ∀ q, q < m.next → B ≤ q → m'.heap.get q = m.heap.get q) (hf : m'.fams.get f = m.fams.get f) (hq : ∀ q o, m.heap.get q = some o → q < B → m'.heap.get q = some o) : Gs et B m' v f cells := by
 rcases h with h | ⟨r, h1, h0, h2, h3, h4, h5, h6, h7⟩
 ·exact .inl h
 ·refine .inr ⟨r, h1, h0, h2, h3, by omega, h5, (hh r (hw.lt h6) h2).trans h6, fun q hq' => ?_⟩
  have e : famOf m' f r = famOf m f r := by unfold famOf; rw [hf]
  rw [e] at hq'
  obtain ⟨cs, h8, h9⟩ := h7 q hq'
  refine ⟨cs, ?_, h9⟩
  rcases Nat.lt_or_ge q B with hb | hb
  ·exact hq q _ h8 hb
  ·exact (hh q (hw.lt h8) hb).trans h8
structure Appd (m m' : Mem) (f : Nat) : Prop where
 next : m'.next = m.next + 1
 heap : ∀ q, q ≠ m.next → m'.heap.get q = m.heap.get q
 fams : ∀ q, q ≠ f → m'.fams.get q = m.fams.get q
 gl : m'.gl = m.gl
 here : f ≤ m.next
end
open Go.RowKit (Below)
noncomputable section
section
variable {et : TypeId} {B f : Nat} {m m1 m' : Mem} {v : AVal} {cells : List AVal}
theorem Gs.up {S : Nat → Prop} (h : Gs et B m v f cells) (K : Kept S m m1) (hw : Wf m) (hS : ∀ q, q < m.next → B ≤ q → ¬ S q) (hro : ∀ q o, m.heap.get q = some o → q < B → ¬ S q) : Gs et B m1 v f cells := by
 rcases h with h | ⟨r, h1, h0, h2, h3, h4, h5, h6, h7⟩
 ·exact .inl h
 ·have n := K.next
  refine .inr ⟨r, h1, h0, h2, h3, by omega, h5, (K.get r (hw.lt h6) (hS r (hw.lt h6) h2)).trans h6, fun q hq => ?_⟩
  have e : famOf m1 f r = famOf m f r := by unfold famOf; rw [K.fam f h4 (hS f h4 h3)]
  rw [e] at hq
  obtain ⟨cs, h8, h9⟩ := h7 q hq
  refine ⟨cs, (K.get q (hw.lt h8) ?_).trans h8, h9⟩
  rcases Nat.lt_or_ge q B with hb | hb
  ·exact hro q _ h8 hb
  ·exact hS q (hw.lt h8) hb
theorem Gs.up0 (h : Gs et B m v f cells) (K : Kept (fun _ => False) m m1) (hw : Wf m) : Gs et B m1 v f cells := h.up K hw (fun _ _ _ h => h) (fun _ _ _ _ h => h)
theorem Gs.grew {o : AObj} (h : Gs et B m v f cells) (g : Grew m m1 o) (hw : Wf m) : Gs et B m1 v f cells := h.up0 (Kept.grew hw g) hw
theorem Gs.other {f' : Nat} (h : Gs et B m v f cells) (hw : Wf m) (g : Appd m m1 f') (hne : cells = [] ∨ f ≠ f') : Gs et B m1 v f cells := by
 rcases h with h | ⟨r, h1, h0, h2, h3, h4, h5, h6, h7⟩
 ·exact .inl h
 ·have hf : f ≠ f' := by rcases hne with h | h; exact absurd h h0; exact h
  have n := g.next
  have lr := hw.lt h6
  refine .inr ⟨r, h1, h0, h2, h3, by omega, h5, (g.heap r (by omega)).trans h6, fun q hq => ?_⟩
  have e : famOf m1 f r = famOf m f r := by unfold famOf; rw [g.fams f hf]
  rw [e] at hq
  obtain ⟨cs, h8, h9⟩ := h7 q hq
  have lq := hw.lt h8
  exact ⟨cs, (g.heap q (by omega)).trans h8, h9⟩
theorem Gs.wrote {r f1 p : Nat} {e : Elem} {cs : List AVal} {o : AObj} (h : Gs et B m v f cells) (_hw : Wf m) (g : Wrote m m1 r o) (hr : m.heap.get r = some (.row e cs f1 p)) (hf : cells = [] ∨ f ≠ f1) : Gs et B m1 v f cells := by
 rcases h with h | ⟨r', h1, h0, h2, h3, h4, h5, h6, h7⟩
 ·exact .inl h
 ·have hf' : f ≠ f1 := by rcases hf with h | h; exact absurd h h0; exact h
  have ne : ∀ q cs, m.heap.get q = some (.row (et, 1) cs f 0) → q ≠ r := by
   rintro q cs' hq rfl
   rw [hr] at hq; cases hq; exact hf' rfl
  refine .inr ⟨r', h1, h0, h2, h3, by rw [g.next]; exact h4, h5, (g.other r' (ne _ _ h6)).trans h6, fun q hq => ?_⟩
  have e : famOf m1 f r' = famOf m f r' := by unfold famOf; rw [g.fams]
  rw [e] at hq
  obtain ⟨cs, h8, h9⟩ := h7 q hq
  exact ⟨cs, (g.other q (ne _ _ h8)).trans h8, h9⟩
theorem Gs.row (h : Gs et B m v f cells) (hne : cells ≠ []) : ∃ r, v = .slice r 0 cells.length cells.length false ∧ m.heap.get r = some (.row (et, 1) cells f 0) := by
 rcases h with ⟨h, _⟩ | ⟨r, h1, h0, h2, h3, h4, h5, h6, _⟩
 ·exact absurd h hne
 ·exact ⟨r, h1, h6⟩
def Gx (et : TypeId) (B : Nat) (m : Mem) (v : AVal) (f : Nat) (cells : List AVal) : Prop :=
 Gs et B m v f cells ∨ ∃ r fx, v = .slice r 0 cells.length cells.length true ∧ cells ≠ [] ∧ allCells cells = true ∧ m.heap.get r = some (.row (et, 1) cells fx 0) ∧ B ≤ r
theorem Gx.cell (h : Gx et B m v f cells) : isCell v = true := by
 rcases h with h | ⟨r, fx, rfl, _⟩
 ·exact h.cell
 ·rfl
theorem Gx.len (h : Gx et B m v f cells) : lenSl m' v = .val (goI cells.length) m' := by
 rcases h with h | ⟨r, fx, rfl, _⟩
 ·exact h.len
 ·rfl
theorem Gx.up0 (h : Gx et B m v f cells) (K : Kept (fun _ => False) m m1) (hw : Wf m) : Gx et B m1 v f cells := by
 rcases h with h | ⟨r, fx, h1, h2, h3, h4, h5⟩
 ·exact .inl (h.up0 K hw)
 ·exact .inr ⟨r, fx, h1, h2, h3, (K.get r (hw.lt h4) (fun h => h)).trans h4, h5⟩
theorem Gx.row (h : Gx et B m v f cells) (hne : cells ≠ []) : ∃ r n ex fx, v = .slice r 0 cells.length n ex ∧ m.heap.get r = some (.row (et, 1) cells fx 0) ∧ B ≤ r := by
 rcases h with h | ⟨r, fx, h1, h2, h3, h4, h5⟩
 ·rcases h with ⟨h, _⟩ | ⟨r, h1, h0, h2, h3, h4, h5, h6, _⟩
  ·exact absurd h hne
  ·exact ⟨r, _, _, f, h1, h6, h2⟩
 ·exact ⟨r, _, _, fx, h1, h4, h5⟩
end
section
variable {P : Program} {fl : Fl} {Q : RR → Prop} {env : Env} {k : List AItem} {ds : List ADef} {up : Chain} {m : Mem} {nt : Nat} {b : T AVal} {l : List (Nat × AVal)} {all rest : List Oper} {o : Oper} {d : Nat} {et t t2 : TypeId} {B : Nat} {v : AVal} {f : Nat} {cells : List AVal} {x y : Operand} {rx fx : Nat} {c : AVal}
variable {tmps0 : T AVal} {cks left : List Ck} {rt : PTree} {it : PItem} {tmps : T AVal}
end
end
noncomputable section
theorem hxM (m : Mem) (r : Nat) {x : AObj} (h : m.heap.get r = some x := by
 repeat first
  | assumption
  | exact Grew.same (by assumption)
  | exact Wrote.same (by assumption)
  | refine (Grew.other (by assumption) _ (by omega)).trans ?_
  | refine (Wrote.other (by assumption) _ (by omega)).trans ?_
  | refine (Kept.get (S := noS) (by assumption) _ (by omega) (fun h => h)).trans ?_) : m.heap.get r = some x := h
theorem fxM (m : Mem) (r : Nat) (h : m.fams.get r = none := by
 repeat first
  | assumption
  | exact Grew.fam0 (by assumption) (Kept.wf (by assumption))
  | exact Grew.fam0 (by assumption) (by assumption)
  | refine (Grew.famo (by assumption) _).trans ?_
  | refine (Wrote.famo (by assumption) _).trans ?_
  | refine (Kept.fam (S := noS) (by assumption) _ (by omega) (fun h => h)).trans ?_) : m.fams.get r = none := h
structure EV (tmps : T AVal) (x : Operand) (v : AVal) : Prop where
 h : evalT tmps x = v
structure AV (P : Program) (tmps : T AVal) (m : Mem) (op : Op) (v : AVal) (m' : Mem) : Prop where
 h : aop P tmps m op = .val v m'
structure GD (all : List Oper) (tmps : T AVal) (g : Option (Nat × Bool)) (b : Bool) : Prop where
 h : gd all tmps g = some b
class TyF (P : Program) (t : TypeId) (g : outParam Bool) (s : outParam Nat) : Prop where
 h : tagg P t = some g
 z : tsz P t = some s
class FdF (P : Program) (t : TypeId) (f : Nat) (fo : outParam Nat) (ty : outParam TypeId) : Prop where
 h : fieldOT P t f = some (fo, ty)
class SlF (P : Program) (t : TypeId) (e : outParam TypeId) : Prop where
 h : P.underlying t = some (.slice e)
class ElF (P : Program) (t : TypeId) (e : outParam TypeId) (s : outParam Nat) : Prop where
 h : sizedElem P (sliceElem P t) = some (e, s)
class StF (P : Program) (t : TypeId) : Prop where
 h : P.underlying t = some .string
class ZcF (P : Program) (t : TypeId) (z : outParam (List AVal)) : Prop where
 h : zcells P t = some z
class PlF (P : Program) (t : TypeId) (z : outParam (List (Nat × Nat))) : Prop where
 h : placesT P t = some z
section
variable {P : Program} {tmps : T AVal} {m m' : Mem} {t z s : TypeId} {x y c a b : Operand} {v va vb u : AVal}
theorem a_move (hx : EV tmps x v) : AV P tmps m (.move x) v m := ⟨o_move hx.h⟩
theorem a_assign (hx : EV tmps x v) : AV P tmps m (.assign x) v m := ⟨o_assign hx.h⟩
theorem a_pickT {q : Bool} (hc : EV tmps c (.lit (.bool q))) (ht : q = true) (ha : EV tmps a v) : AV P tmps m (.pick c a b) v m := ⟨o_pickT hc.h ht ha.h⟩
theorem a_pickF {q : Bool} (hc : EV tmps c (.lit (.bool q))) (ht : q = false) (hb : EV tmps b v) : AV P tmps m (.pick c a b) v m := ⟨o_pickF hc.h ht hb.h⟩
theorem a_fieldAddr {f r off sz fo : Nat} {ty : TypeId} {w : Bool} [FdF P t f fo ty] [TyF P ty w sz] (hx : EV tmps x (.ptr r off)) (hz : sz.beq 0 = false) : AV P tmps m (.fieldAddr t x f) (.ptr r (off + fo)) m := ⟨o_fieldAddr hx.h FdF.h (TyF.z (g := w)) hz⟩
theorem a_loadRow {r off sz f p : Nat} {e : Elem} {cells : List AVal} [TyF P t false sz] (hx : EV tmps x (.ptr r off)) (hr : m.heap.get r = some (.row e cells f p)) (hv : getO cells off = some v) (np : isPoison v = false) : AV P tmps m (.load t x) v m := ⟨o_loadRow hx.h hr TyF.h (TyF.z (g := false)) hv np⟩
theorem a_loadRowA {r off sz f p : Nat} {e : Elem} {cells vs : List AVal} [TyF P t true sz] (hx : EV tmps x (.ptr r off)) (hr : m.heap.get r = some (.row e cells f p)) (hv : takeN sz (dropN cells off) = some vs) : AV P tmps m (.load t x) (.agg vs) m := ⟨o_loadRowA hx.h hr TyF.h (TyF.z (g := true)) hv⟩
theorem a_len {e : TypeId} {n : Nat} [SlF P t e] (hx : EV tmps x v) (h : lenSl m v = .val (goI n) m) : AV P tmps m (.call ⟨.builtin .len, #[x], #[t]⟩) (goI n) m := ⟨o_lenSl hx.h SlF.h h⟩
theorem a_extract {i : Nat} {vs : List AVal} (hx : EV tmps x (.tuple vs)) (h : getO vs i = some v) : AV P tmps m (.extract x i) v m := ⟨o_extract hx.h h⟩
theorem a_notT {q : Bool} (hx : EV tmps x (.lit (.bool q))) (h : q = true) : AV P tmps m (.unOp .not t x) (.lit (.bool false)) m := ⟨o_notB hx.h (by rw [h]; rfl)⟩
theorem a_notF {q : Bool} (hx : EV tmps x (.lit (.bool q))) (h : q = false) : AV P tmps m (.unOp .not t x) (.lit (.bool true)) m := ⟨o_notB hx.h (by rw [h]; rfl)⟩
theorem a_not {q : Bool} (hx : EV tmps x (.lit (.bool q))) : AV P tmps m (.unOp .not t x) (.lit (.bool (!q))) m := ⟨o_not hx.h⟩
theorem a_eqlI {p q : Int} (hx : EV tmps x (iv p)) (hy : EV tmps y (iv q)) : AV P tmps m (.binOp .eql t x y z) (.lit (.bool (p == q))) m := ⟨o_eqlI hx.h hy.h⟩
theorem a_neqI {p q : Int} (hx : EV tmps x (iv p)) (hy : EV tmps y (iv q)) : AV P tmps m (.binOp .neq t x y z) (.lit (.bool (p != q))) m := ⟨o_neqI hx.h hy.h⟩
theorem a_lssI {p q : Int} (hx : EV tmps x (iv p)) (hy : EV tmps y (iv q)) : AV P tmps m (.binOp .lss t x y z) (.lit (.bool (decide (p < q)))) m := ⟨o_lssI hx.h hy.h⟩
theorem a_leqI {p q : Int} (hx : EV tmps x (iv p)) (hy : EV tmps y (iv q)) : AV P tmps m (.binOp .leq t x y z) (.lit (.bool (decide (p ≤ q)))) m := ⟨o_leqI hx.h hy.h⟩
theorem a_gtrI {p q : Int} (hx : EV tmps x (iv p)) (hy : EV tmps y (iv q)) : AV P tmps m (.binOp .gtr t x y z) (.lit (.bool (decide (p > q)))) m := ⟨o_gtrI hx.h hy.h⟩
theorem a_geqI {p q : Int} (hx : EV tmps x (iv p)) (hy : EV tmps y (iv q)) : AV P tmps m (.binOp .geq t x y z) (.lit (.bool (decide (p ≥ q)))) m := ⟨o_geqI hx.h hy.h⟩
theorem a_eqlS {p q : ByteArray} (hx : EV tmps x (.lit (.string p))) (hy : EV tmps y (.lit (.string q))) : AV P tmps m (.binOp .eql t x y z) (.lit (.bool (seq p q))) m := ⟨o_eqlS hx.h hy.h⟩
theorem a_neqS {p q : ByteArray} (hx : EV tmps x (.lit (.string p))) (hy : EV tmps y (.lit (.string q))) : AV P tmps m (.binOp .neq t x y z) (.lit (.bool (!seq p q))) m := ⟨o_neqS hx.h hy.h⟩
theorem a_maxI {ats : Array TypeId} {p q : Int} (hx : EV tmps x (iv p)) (hy : EV tmps y (iv q)) : AV P tmps m (.call ⟨.builtin .max, #[x, y], ats⟩) (iv (max p q)) m := ⟨o_maxI hx.h hy.h⟩
theorem a_minI {ats : Array TypeId} {p q : Int} (hx : EV tmps x (iv p)) (hy : EV tmps y (iv q)) : AV P tmps m (.call ⟨.builtin .min, #[x, y], ats⟩) (iv (min p q)) m := ⟨o_minI hx.h hy.h⟩
theorem a_add {p q : Nat} (hx : EV tmps x (goI p)) (hy : EV tmps y (goI q)) (h : p + q < 2 ^ 62) : AV P tmps m (.binOp .add t x y z) (goI (p + q)) m := ⟨o_add hx.h hy.h h⟩
theorem a_addI {p q : Int} (hx : EV tmps x (iv p)) (hy : EV tmps y (iv q)) (h1 : -(2 ^ 62) ≤ p + q) (h2 : p + q < 2 ^ 62) : AV P tmps m (.binOp .add t x y z) (iv (p + q)) m := ⟨o_addI hx.h hy.h h1 h2⟩
theorem a_subI {p q : Int} (hx : EV tmps x (iv p)) (hy : EV tmps y (iv q)) (h1 : -(2 ^ 62) ≤ p - q) (h2 : p - q < 2 ^ 62) : AV P tmps m (.binOp .sub t x y z) (iv (p - q)) m := ⟨o_subI hx.h hy.h h1 h2⟩
theorem a_indexS {q : ByteArray} {i : Nat} {u8 : UInt8} [StF P t] (hx : EV tmps x (.lit (.string q))) (hy : EV tmps y (goI i)) (h : q.data.toList[i]? = some u8) : AV P tmps m (.index t x y) (gk .u8 u8.toNat) m := ⟨o_indexS hx.h hy.h StF.h h⟩
theorem a_lssB {p q : Nat} (hx : EV tmps x (gk .u8 p)) (hy : EV tmps y (gk .u8 q)) : AV P tmps m (.binOp .lss t x y z) (.lit (.bool (decide (p < q)))) m := ⟨o_lssK .u8 hx.h hy.h⟩
theorem a_gtrB {p q : Nat} (hx : EV tmps x (gk .u8 p)) (hy : EV tmps y (gk .u8 q)) : AV P tmps m (.binOp .gtr t x y z) (.lit (.bool (decide (q < p)))) m := ⟨o_gtrK .u8 hx.h hy.h⟩
theorem a_lenS {q : ByteArray} [StF P t] (hx : EV tmps x (.lit (.string q))) : AV P tmps m (.call ⟨.builtin .len, #[x], #[t]⟩) (goI q.size) m := ⟨o_lenS hx.h StF.h⟩
theorem a_nilCheck (hx : EV tmps x v) (h : nilCheck P m v = .val v m) : AV P tmps m (.nilCheck x) v m := ⟨o_nilCheck hx.h h⟩
theorem a_build {parts : Array (Nat × Operand)} {ps : List (Nat × AVal)} {zz cs : List AVal} {pl : List (Nat × Nat)} [ZcF P t zz] [PlF P t pl] (hx : ev2 tmps parts.toList = ps) (h : fillL (fun i => getO pl i) ps zz = some cs) : AV P tmps m (.build t parts) (.agg cs) m := ⟨o_build hx ZcF.h PlF.h h⟩
variable {all : List Oper} {j d : Nat} {want q : Bool}
theorem gT0 : GD all tmps none true := ⟨rfl⟩
theorem gT (he : dstOf all j = some d) (hv : EV tmps (.tmp d) (.lit (.bool q))) (h : q = want) : GD all tmps (some (j, want)) true := ⟨by
 subst h; exact gd_true he hv.h⟩
theorem gF (he : dstOf all j = some d) (hv : EV tmps (.tmp d) (.lit (.bool q))) (h : q = !want) : GD all tmps (some (j, want)) false := ⟨by
 subst h; exact gd_false he hv.h⟩
theorem gU (he : dstOf all j = some d) (hv : EV tmps (.tmp d) undefA) : GD all tmps (some (j, want)) false := ⟨by
 show (match dstOf all j with | some d => gdV want (getT tmps d) | none => some false) = _
 rw [he]
 show gdV want (getT tmps d) = _
 rw [show getT tmps d = undefA from hv.h]; rfl⟩
end
section
variable {A : Prop} {P : Program} {fl : Fl} {Q : RR → Prop} {env : Env} {k todo : List AItem} {tmps tmps0 : T AVal} {ds : List ADef} {mode : AMode} {up : Chain} {m m' : Mem} {nt d : Nat} {b : T AVal} {l : List (Nat × AVal)} {all rest : List Oper} {o : Oper} {v : AVal}
structure SR (A : Prop) (P : Program) (fl : Fl) (env : Env) (all : List Oper) (k : List AItem) (ops : List Oper) (tmps : T AVal) (ds : List ADef) (up : Chain) (m : Mem) (Q : RR → Prop) : Prop where
 h : A → Wp P fl (Rg P fl env all k ops tmps ds up m) Q
structure SA (A : Prop) (P : Program) (fl : Fl) (env : Env) (todo : List AItem) (tmps : T AVal) (ds : List ADef) (mode : AMode) (up : Chain) (m : Mem) (Q : RR → Prop) : Prop where
 h : A → Wp P fl (At env todo tmps ds mode up m) Q
structure SD (A : Prop) (P : Program) (fl : Fl) (env : Env) (all : List Oper) (k : List AItem) (tmps0 : T AVal) (t : PTree) (cks : List Ck) (tmps : T AVal) (ds : List ADef) (up : Chain) (m : Mem) (Q : RR → Prop) : Prop where
 h : A → Wp P fl (Dg P fl env all k tmps0 t cks tmps ds up m) Q
theorem SR.i (h : SR A P fl env all k rest tmps ds up m Q) : A → Wp P fl (Rg P fl env all k rest tmps ds up m) Q := h.h
theorem SA.i (h : SA A P fl env todo tmps ds mode up m Q) : A → Wp P fl (At env todo tmps ds mode up m) Q := h.h
theorem SD.i {t : PTree} {cks : List Ck} (h : SD A P fl env all k tmps0 t cks tmps ds up m Q) : A → Wp P fl (Dg P fl env all k tmps0 t cks tmps ds up m) Q := h.h
theorem SR.vv (hg : GD all (sets nt b l) o.guard true) (ha : AV P (sets nt b l) m o.op v m') (hp : plainOp o.op = true) (hd : o.dst = some d) (hn : env.nt = nt) (w : SR A P fl env all k rest (sets nt b ((d, v) :: l)) ds up m' Q) : SR A P fl env all k (o :: rest) (sets nt b l) ds up m Q := ⟨fun a => s_val hn hg.h hp hd ha.h (w.h a)⟩
theorem SR.f (hg : GD all (sets nt b l) o.guard false) (hd : o.dst = some d) (hn : env.nt = nt) (w : SR A P fl env all k rest (sets nt b ((d, undefA) :: l)) ds up m Q) : SR A P fl env all k (o :: rest) (sets nt b l) ds up m Q := ⟨fun a => s_off hn hg.h hd (w.h a)⟩
theorem SR.f0 (hg : GD all tmps o.guard false) (hd : o.dst = none) (w : SR A P fl env all k rest tmps ds up m Q) : SR A P fl env all k (o :: rest) tmps ds up m Q := ⟨fun a => s_off0 hg.h hd (w.h a)⟩
theorem SR.n (w : SA A P fl env k tmps ds .run up m Q) : SR A P fl env all k [] tmps ds up m Q := ⟨fun a => q_nil (w.h a)⟩
theorem SA.r {i : Nat} {ops : Array Oper} {os : List Oper} (h : ops.toList = os) (w : SR A P fl env os k os tmps ds up m Q) : SA A P fl env (.code (.region i ops false) :: k) tmps ds .run up m Q := ⟨fun a => w_region h (w.h a)⟩
theorem SA.s {x y : Code} (w : SA A P fl env (.code x :: .code y :: k) tmps ds .run up m Q) : SA A P fl env (.code (.seq x y) :: k) tmps ds .run up m Q := ⟨fun a => w_seq (w.h a)⟩
theorem SA.kk (w : SA A P fl env k tmps ds .run up m Q) : SA A P fl env (.code .skip :: k) tmps ds .run up m Q := ⟨fun a => w_skip (w.h a)⟩
theorem SA.bb {i : Nat} {x : Code} (w : SA A P fl env (.code x :: .inBlock i :: k) tmps ds .run up m Q) : SA A P fl env (.code (.block i x) :: k) tmps ds .run up m Q := ⟨fun a => w_block (w.h a)⟩
theorem SA.ib {i : Nat} (w : SA A P fl env k tmps ds .run up m Q) : SA A P fl env (.inBlock i :: k) tmps ds .run up m Q := ⟨fun a => w_inBlock (w.h a)⟩
theorem SA.x {i : Nat} {k' : List AItem} (h : exitTo i k = some k') (w : SA A P fl env k' tmps ds .run up m Q) : SA A P fl env (.code (.exit i) :: k) tmps ds .run up m Q := ⟨fun a => w_exit h (w.h a)⟩
theorem SA.ct {c : Operand} {x y : Code} {t : Bool} (h : EV tmps c (.lit (.bool t))) (ht : t = true) (w : SA A P fl env (.code x :: k) tmps ds .run up m Q) : SA A P fl env (.code (.cond c x y) :: k) tmps ds .run up m Q := ⟨fun a => w_condT h.h ht (w.h a)⟩
theorem SA.cf {c : Operand} {x y : Code} {t : Bool} (h : EV tmps c (.lit (.bool t))) (ht : t = false) (w : SA A P fl env (.code y :: k) tmps ds .run up m Q) : SA A P fl env (.code (.cond c x y) :: k) tmps ds .run up m Q := ⟨fun a => w_condF h.h ht (w.h a)⟩
variable {it : PItem} {rt : PTree} {cks : List Ck}
theorem SD.n (w : SA A P fl env k tmps ds .run up m Q) : SD A P fl env all k tmps0 .fin cks tmps ds up m Q := ⟨fun a => d_fin (w.h a)⟩
theorem SD.l0 (hk : it.kind = 0) (hg : GD all (sets nt b l) it.o.guard true) (ha : AV P (sets nt b l) m it.o.op v m) (hd : it.o.dst = some d) (hn : env.nt = nt) (w : SD A P fl env all k tmps0 rt cks (sets nt b ((d, v) :: l)) ds up m Q) : SD A P fl env all k tmps0 (.light it rt) cks (sets nt b l) ds up m Q := ⟨fun a => d_light0 hk hn hg.h hd ha.h (w.h a)⟩
theorem SD.l1 (hk : it.kind = 1) (hg : GD all (sets nt b l) it.o.guard true) (ha : AV P (sets nt b l) m it.o.op v m) (hd : it.o.dst = some d) (hn : env.nt = nt) (w : SD A P fl env all k tmps0 rt (⟨it.ix, 1, it.o.op, sets nt b l, v, none⟩ :: cks) (sets nt b ((d, v) :: l)) ds up m Q) : SD A P fl env all k tmps0 (.light it rt) cks (sets nt b l) ds up m Q := ⟨fun a => d_light1 hk hn hg.h hd ha.h (w.h a)⟩
theorem SD.lf (hg : GD all (sets nt b l) it.o.guard false) (hd : it.o.dst = some d) (hn : env.nt = nt) (w : SD A P fl env all k tmps0 rt cks (sets nt b ((d, undefA) :: l)) ds up m Q) : SD A P fl env all k tmps0 (.light it rt) cks (sets nt b l) ds up m Q := ⟨fun a => d_offL hn hg.h hd (w.h a)⟩
theorem SD.hf (hg : GD all (sets nt b l) it.o.guard false) (hd : it.o.dst = some d) (hn : env.nt = nt) (w : SD A P fl env all k tmps0 rt cks (sets nt b ((d, undefA) :: l)) ds up m Q) : SD A P fl env all k tmps0 (.heavy it rt) cks (sets nt b l) ds up m Q := ⟨fun a => d_offH hn hg.h hd (w.h a)⟩
theorem avF {op : Op} (h : AV P tmps m op v m' := by
 first | (apply a_move <;> first | exact ⟨e_hit rfl⟩ | exact ⟨e_base rfl (by assumption)⟩ | exact ⟨rfl⟩ | assumption | decide | exact rfl) | (apply a_assign <;> first | exact ⟨e_hit rfl⟩ | exact ⟨e_base rfl (by assumption)⟩ | exact ⟨rfl⟩ | assumption | decide | exact rfl) | (apply a_pickT <;> first | exact ⟨e_hit rfl⟩ | exact ⟨e_base rfl (by assumption)⟩ | exact ⟨rfl⟩ | assumption | decide | exact rfl) | (apply a_pickF <;> first | exact ⟨e_hit rfl⟩ | exact ⟨e_base rfl (by assumption)⟩ | exact ⟨rfl⟩ | assumption | decide | exact rfl) | (apply a_fieldAddr <;> first | exact ⟨e_hit rfl⟩ | exact ⟨e_base rfl (by assumption)⟩ | exact ⟨rfl⟩ | assumption | decide | exact rfl) | (apply a_loadRow; (first | exact ⟨e_hit rfl⟩ | exact ⟨e_base rfl (by assumption)⟩ | exact ⟨rfl⟩); (first | assumption | exact Grew.same (by assumption) | exact Wrote.same (by assumption) | exact (Kept.get (S := noS) (by assumption) _ (by assumption) (fun h => h)).trans (by assumption) | exact hxM _ _); exact rfl; (first | exact rfl | exact np_cell (by assumption))) | (apply a_loadRowA; (first | exact ⟨e_hit rfl⟩ | exact ⟨e_base rfl (by assumption)⟩ | exact ⟨rfl⟩); (first | assumption | exact Grew.same (by assumption) | exact Wrote.same (by assumption) | exact (Kept.get (S := noS) (by assumption) _ (by assumption) (fun h => h)).trans (by assumption) | exact hxM _ _); (first | assumption | exact rfl)) | (apply a_len; (first | exact ⟨e_hit rfl⟩ | exact ⟨e_base rfl (by assumption)⟩ | exact ⟨rfl⟩); (first | assumption | (exact (by assumption : ∀ m', lenSl m' _ = .val (goI _) m') _) | exact SlA.len (by assumption) | exact Gs.len (by assumption) | exact Gx.len (by assumption))) | (apply a_extract <;> first | exact ⟨e_hit rfl⟩ | exact ⟨e_base rfl (by assumption)⟩ | exact ⟨rfl⟩ | assumption | decide | exact rfl) | (apply a_notT <;> first | exact ⟨e_hit rfl⟩ | exact ⟨e_base rfl (by assumption)⟩ | exact ⟨rfl⟩ | assumption | decide | exact rfl) | (apply a_notF <;> first | exact ⟨e_hit rfl⟩ | exact ⟨e_base rfl (by assumption)⟩ | exact ⟨rfl⟩ | assumption | decide | exact rfl) | (apply a_not <;> first | exact ⟨e_hit rfl⟩ | exact ⟨e_base rfl (by assumption)⟩ | exact ⟨rfl⟩ | assumption | decide | exact rfl) | (apply a_eqlI <;> first | exact ⟨e_hit rfl⟩ | exact ⟨e_base rfl (by assumption)⟩ | exact ⟨rfl⟩ | assumption | decide | exact rfl) | (apply a_lssI <;> first | exact ⟨e_hit rfl⟩ | exact ⟨e_base rfl (by assumption)⟩ | exact ⟨rfl⟩ | assumption | decide | exact rfl) | (apply a_eqlS <;> first | exact ⟨e_hit rfl⟩ | exact ⟨e_base rfl (by assumption)⟩ | exact ⟨rfl⟩ | assumption | decide | exact rfl) | (apply a_neqS <;> first | exact ⟨e_hit rfl⟩ | exact ⟨e_base rfl (by assumption)⟩ | exact ⟨rfl⟩ | assumption | decide | exact rfl) | (apply a_neqI <;> first | exact ⟨e_hit rfl⟩ | exact ⟨e_base rfl (by assumption)⟩ | exact ⟨rfl⟩ | assumption | decide | exact rfl) | (apply a_leqI <;> first | exact ⟨e_hit rfl⟩ | exact ⟨e_base rfl (by assumption)⟩ | exact ⟨rfl⟩ | assumption | decide | exact rfl) | (apply a_gtrI <;> first | exact ⟨e_hit rfl⟩ | exact ⟨e_base rfl (by assumption)⟩ | exact ⟨rfl⟩ | assumption | decide | exact rfl) | (apply a_geqI <;> first | exact ⟨e_hit rfl⟩ | exact ⟨e_base rfl (by assumption)⟩ | exact ⟨rfl⟩ | assumption | decide | exact rfl) | (apply a_add <;> first | exact ⟨e_hit rfl⟩ | exact ⟨e_base rfl (by assumption)⟩ | exact ⟨rfl⟩ | assumption | decide | exact rfl) | (apply a_addI; (first | exact ⟨e_hit rfl⟩ | exact ⟨e_base rfl (by assumption)⟩ | exact ⟨rfl⟩); (first | exact ⟨e_hit rfl⟩ | exact ⟨e_base rfl (by assumption)⟩ | exact ⟨rfl⟩); omega; omega) | (apply a_subI; (first | exact ⟨e_hit rfl⟩ | exact ⟨e_base rfl (by assumption)⟩ | exact ⟨rfl⟩); (first | exact ⟨e_hit rfl⟩ | exact ⟨e_base rfl (by assumption)⟩ | exact ⟨rfl⟩); omega; omega) | (apply a_maxI <;> first | exact ⟨e_hit rfl⟩ | exact ⟨e_base rfl (by assumption)⟩ | exact ⟨rfl⟩ | assumption | decide | exact rfl) | (apply a_minI <;> first | exact ⟨e_hit rfl⟩ | exact ⟨e_base rfl (by assumption)⟩ | exact ⟨rfl⟩ | assumption | decide | exact rfl) | (apply a_indexS <;> first | exact ⟨e_hit rfl⟩ | exact ⟨e_base rfl (by assumption)⟩ | exact ⟨rfl⟩ | assumption | decide | exact rfl) | (apply a_lssB <;> first | exact ⟨e_hit rfl⟩ | exact ⟨e_base rfl (by assumption)⟩ | exact ⟨rfl⟩ | assumption | decide | exact rfl) | (apply a_gtrB <;> first | exact ⟨e_hit rfl⟩ | exact ⟨e_base rfl (by assumption)⟩ | exact ⟨rfl⟩ | assumption | decide | exact rfl) | (apply a_lenS <;> first | exact ⟨e_hit rfl⟩ | exact ⟨e_base rfl (by assumption)⟩ | exact ⟨rfl⟩ | assumption | decide | exact rfl) | (apply a_nilCheck <;> first | exact ⟨e_hit rfl⟩ | exact ⟨e_base rfl (by assumption)⟩ | exact ⟨rfl⟩ | assumption | decide | exact rfl) | (apply a_build; (first | exact ev22 (by first | exact e_hit rfl | exact e_base rfl (by assumption) | exact rfl) (by first | exact e_hit rfl | exact e_base rfl (by assumption) | exact rfl) | exact ev4 (by first | exact e_hit rfl | exact e_base rfl (by assumption) | exact rfl) (by first | exact e_hit rfl | exact e_base rfl (by assumption) | exact rfl) (by first | exact e_hit rfl | exact e_base rfl (by assumption) | exact rfl) (by first | exact e_hit rfl | exact e_base rfl (by assumption) | exact rfl) | exact ev1 (by first | exact e_hit rfl | exact e_base rfl (by assumption) | exact rfl) | exact ev3 (by first | exact e_hit rfl | exact e_base rfl (by assumption) | exact rfl) (by first | exact e_hit rfl | exact e_base rfl (by assumption) | exact rfl) (by first | exact e_hit rfl | exact e_base rfl (by assumption) | exact rfl) | exact ev0); exact rfl)) : AV P tmps m op v m' := h
theorem gg {A B : Prop} (w : A) (h : A → B := by
 first | with_reducible apply SR.i | with_reducible apply SA.i | with_reducible apply SD.i
 repeat first
  | (apply SR.vv; (first | exact gT0 | (apply gT; exact rfl; (first | exact ⟨e_hit rfl⟩ | exact ⟨e_base rfl (by assumption)⟩ | exact ⟨rfl⟩); (first | assumption | decide))); exact avF; exact rfl; exact rfl; exact rfl)
  | (apply SR.f; (first | (apply gF; exact rfl; (first | exact ⟨e_hit rfl⟩ | exact ⟨e_base rfl (by assumption)⟩ | exact ⟨rfl⟩); (first | assumption | decide)) | (apply gU; exact rfl; first | exact ⟨e_hit rfl⟩ | exact ⟨e_base rfl (by assumption)⟩ | exact ⟨rfl⟩)); exact rfl; exact rfl)
  | apply SR.n
  | apply SA.s
  | (apply SA.r; exact rfl)
  | (apply SA.ct; (first | exact ⟨e_hit rfl⟩ | exact ⟨e_base rfl (by assumption)⟩ | exact ⟨rfl⟩); (first | assumption | decide))
  | (apply SA.cf; (first | exact ⟨e_hit rfl⟩ | exact ⟨e_base rfl (by assumption)⟩ | exact ⟨rfl⟩); (first | assumption | decide))
  | apply SA.kk
  | apply SA.bb
  | apply SA.ib
  | (apply SA.x; exact rfl)
  | (apply SR.f0; (first | (apply gF; exact rfl; (first | exact ⟨e_hit rfl⟩ | exact ⟨e_base rfl (by assumption)⟩ | exact ⟨rfl⟩); (first | assumption | decide)) | (apply gU; exact rfl; first | exact ⟨e_hit rfl⟩ | exact ⟨e_base rfl (by assumption)⟩ | exact ⟨rfl⟩)); exact rfl)
  | (apply SD.l0; exact rfl; (first | exact gT0 | (apply gT; exact rfl; (first | exact ⟨e_hit rfl⟩ | exact ⟨e_base rfl (by assumption)⟩ | exact ⟨rfl⟩); (first | assumption | decide))); exact avF; exact rfl; exact rfl)
  | (apply SD.l1; exact rfl; (first | exact gT0 | (apply gT; exact rfl; (first | exact ⟨e_hit rfl⟩ | exact ⟨e_base rfl (by assumption)⟩ | exact ⟨rfl⟩); (first | assumption | decide))); exact avF; exact rfl; exact rfl)
  | (apply SD.lf; (first | (apply gF; exact rfl; (first | exact ⟨e_hit rfl⟩ | exact ⟨e_base rfl (by assumption)⟩ | exact ⟨rfl⟩); (first | assumption | decide)) | (apply gU; exact rfl; first | exact ⟨e_hit rfl⟩ | exact ⟨e_base rfl (by assumption)⟩ | exact ⟨rfl⟩)); exact rfl; exact rfl)
  | (apply SD.hf; (first | (apply gF; exact rfl; (first | exact ⟨e_hit rfl⟩ | exact ⟨e_base rfl (by assumption)⟩ | exact ⟨rfl⟩); (first | assumption | decide)) | (apply gU; exact rfl; first | exact ⟨e_hit rfl⟩ | exact ⟨e_base rfl (by assumption)⟩ | exact ⟨rfl⟩)); exact rfl; exact rfl)
  | apply SD.n
 exact ⟨id⟩) : B := h w
theorem gr {A B : Prop} (w : A) (h : A → B := by
 first | with_reducible apply SR.i | with_reducible apply SA.i | with_reducible apply SD.i
 repeat first
  | (apply SR.vv; (first | exact gT0 | (apply gT; exact rfl; (first | exact ⟨e_hit rfl⟩ | exact ⟨e_base rfl (by assumption)⟩ | exact ⟨rfl⟩); (first | assumption | decide))); exact avF; exact rfl; exact rfl; exact rfl)
  | (apply SR.f; (first | (apply gF; exact rfl; (first | exact ⟨e_hit rfl⟩ | exact ⟨e_base rfl (by assumption)⟩ | exact ⟨rfl⟩); (first | assumption | decide)) | (apply gU; exact rfl; first | exact ⟨e_hit rfl⟩ | exact ⟨e_base rfl (by assumption)⟩ | exact ⟨rfl⟩)); exact rfl; exact rfl)
  | (apply SR.f0; (first | (apply gF; exact rfl; (first | exact ⟨e_hit rfl⟩ | exact ⟨e_base rfl (by assumption)⟩ | exact ⟨rfl⟩); (first | assumption | decide)) | (apply gU; exact rfl; first | exact ⟨e_hit rfl⟩ | exact ⟨e_base rfl (by assumption)⟩ | exact ⟨rfl⟩)); exact rfl)
  | (apply SD.l0; exact rfl; (first | exact gT0 | (apply gT; exact rfl; (first | exact ⟨e_hit rfl⟩ | exact ⟨e_base rfl (by assumption)⟩ | exact ⟨rfl⟩); (first | assumption | decide))); exact avF; exact rfl; exact rfl)
  | (apply SD.l1; exact rfl; (first | exact gT0 | (apply gT; exact rfl; (first | exact ⟨e_hit rfl⟩ | exact ⟨e_base rfl (by assumption)⟩ | exact ⟨rfl⟩); (first | assumption | decide))); exact avF; exact rfl; exact rfl)
  | (apply SD.lf; (first | (apply gF; exact rfl; (first | exact ⟨e_hit rfl⟩ | exact ⟨e_base rfl (by assumption)⟩ | exact ⟨rfl⟩); (first | assumption | decide)) | (apply gU; exact rfl; first | exact ⟨e_hit rfl⟩ | exact ⟨e_base rfl (by assumption)⟩ | exact ⟨rfl⟩)); exact rfl; exact rfl)
  | (apply SD.hf; (first | (apply gF; exact rfl; (first | exact ⟨e_hit rfl⟩ | exact ⟨e_base rfl (by assumption)⟩ | exact ⟨rfl⟩); (first | assumption | decide)) | (apply gU; exact rfl; first | exact ⟨e_hit rfl⟩ | exact ⟨e_base rfl (by assumption)⟩ | exact ⟨rfl⟩)); exact rfl; exact rfl)
 exact ⟨id⟩) : B := h w
theorem d_callE {m0 m2 : Mem} {S : Nat → Prop} {left : List Ck} {f : FuncId} {args : List AVal} (K : Kept (fun q => m0.next ≤ q ∨ S q) m0 m) (kk : Kept noS m2 m) (ha : aop P (sets nt b l) m it.o.op = .enter f args m) (hc : CallQ P fl f args m (Rets noS m v)) (hl : leftCk it.mask cks = left)
  (w : ∀ m', Kept (fun q => m0.next ≤ q ∨ S q) m0 m' → Kept noS m2 m' → ckAll P it.mask m' cks = true ∧ Wp P fl (Dg P fl env all k tmps0 rt left (sets nt b ((d, v) :: l)) ds up m') Q) (hg : GD all (sets nt b l) it.o.guard true := by first | exact gT0 | (apply gT; exact rfl; (first | exact ⟨e_hit rfl⟩ | exact ⟨e_base rfl (by assumption)⟩ | exact ⟨rfl⟩); (first | assumption | decide))) (hp : plainOp it.o.op = true := by rfl) (hd : it.o.dst = some d := by rfl) (hn : env.nt = nt := by rfl) :
  Wp P fl (Dg P fl env all k tmps0 (.heavy it rt) cks (sets nt b l) ds up m) Q := d_callV hn hg.h hp hd ha hc hl fun m' h => w m' (K.k h fun _ h => h.elim) (kk.then h fun _ _ h => h)
theorem s_callE {m0 m2 : Mem} {S : Nat → Prop} {f : FuncId} {args : List AVal} (K : Kept (fun q => m0.next ≤ q ∨ S q) m0 m) (kk : Kept noS m2 m) (ha : aop P (sets nt b l) m o.op = .enter f args m) (hc : CallQ P fl f args m (Rets noS m v))
  (w : ∀ m', Kept (fun q => m0.next ≤ q ∨ S q) m0 m' → Kept noS m2 m' → Wp P fl (Rg P fl env all k rest (sets nt b ((d, v) :: l)) ds up m') Q) (hg : GD all (sets nt b l) o.guard true := by first | exact gT0 | (apply gT; exact rfl; (first | exact ⟨e_hit rfl⟩ | exact ⟨e_base rfl (by assumption)⟩ | exact ⟨rfl⟩); (first | assumption | decide))) (hp : plainOp o.op = true := by rfl) (hd : o.dst = some d := by rfl) (hn : env.nt = nt := by rfl) :
  Wp P fl (Rg P fl env all k (o :: rest) (sets nt b l) ds up m) Q := s_callV hn hg.h hp hd ha hc fun m' h => w m' (K.k h fun _ h => h.elim) (kk.then h fun _ _ h => h)
theorem SlA.lenM {α : Type} {f : α → List AVal} {size : Nat} {es : List α} (h : SlA m v size (es.map f)) : ∀ m', lenSl m' v = .val (goI es.length) m' := fun m' => by
 have := h.len (m' := m'); rwa [List.length_map] at this
theorem SlA.ltF {α : Type} {f : α → List AVal} {size : Nat} {es pre : List α} (_ : SlA m v size (es.map f)) (e : es = pre ++ []) : decide (Int.ofNat pre.length < Int.ofNat (es.map f).length) = false := by
 subst e; simp
theorem SlA.ltT {α : Type} {f : α → List AVal} {size : Nat} {es pre rest : List α} {y : α} (_ : SlA m v size (es.map f)) (e : es = pre ++ y :: rest) : decide (Int.ofNat pre.length < Int.ofNat (es.map f).length) = true := by
 subst e; simp; omega
theorem SlA.lnT {α : Type} {f : α → List AVal} {size : Nat} {es pre rest : List α} {y : α} (h : SlA m v size (es.map f)) (e : es = pre ++ y :: rest) : pre.length + 1 < 2 ^ 62 := by
 have := h.lt; subst e; simp at this; omega
theorem SlA.here {α : Type} {f : α → List AVal} {size : Nat} {es pre rest : List α} {y : α} (h : SlA m v size (es.map f)) (e : es = pre ++ y :: rest) : ∃ r off c ex row, v = .slice r off (es.map f).length c ex ∧ pre.length < (es.map f).length ∧ m.heap.get r = some (.ro row) ∧ takeN size (dropN row (off + pre.length * size)) = some (f y) := h.at (i := pre.length) (e := f y) (by simp [e])
theorem s_callD {m0 : Mem} {S : Nat → Prop} {r f : Nat} {x : AObj} {args : List AVal} (K : Kept (fun q => m0.next ≤ q ∨ S q) m0 m) (h : m.heap.get r = some x) (hf : m.fams.get r = none) (ha : aop P (sets nt b l) m o.op = .enter f args m) (hc : CallQ P fl f args m (Rets noS m v))
  (w : ∀ m', Kept noS m m' → Kept (fun q => m0.next ≤ q ∨ S q) m0 m' → m'.heap.get r = some x → m'.fams.get r = none → Wp P fl (Rg P fl env all k rest (sets nt b ((d, v) :: l)) ds up m') Q) (hg : GD all (sets nt b l) o.guard true := by first | exact gT0 | (apply gT; exact rfl; (first | exact ⟨e_hit rfl⟩ | exact ⟨e_base rfl (by assumption)⟩ | exact ⟨rfl⟩); (first | assumption | decide))) (hp : plainOp o.op = true := by rfl) (hd : o.dst = some d := by rfl) (hn : env.nt = nt := by rfl) :
  Wp P fl (Rg P fl env all k (o :: rest) (sets nt b l) ds up m) Q :=
 s_callV hn hg.h hp hd ha hc fun m' k => w m' k (K.k k fun _ h => h.elim) ((k.get r (K.wf.lt h) fun h => h).trans h) ((k.fam r (K.wf.lt h) fun h => h).trans hf)
theorem v0 (h : findS nt d l = some v := by rfl) : evalT (sets nt b l) (.tmp d) = v := e_hit h
theorem sg {j : Nat} {want q : Bool} (on : q = want → Wp P fl (Rg P fl env all k (o :: rest) tmps ds up m) Q) (off : q = (!want) → Wp P fl (Rg P fl env all k (o :: rest) tmps ds up m) Q) (ho : o.guard = some (j, want) := by rfl) (hd : dstOf all j = some d := by rfl) (hv : evalT tmps (.tmp d) = .lit (.bool q) := by first | exact e_hit rfl | exact e_base rfl (by assumption)) :
  Wp P fl (Rg P fl env all k (o :: rest) tmps ds up m) Q := s_guardS ho hd hv on off
theorem s_callC {m0 : Mem} {S : Nat → Prop} {r f : Nat} {x : AObj} {args : List AVal} (K : Kept (fun q => m0.next ≤ q ∨ S q) m0 m) (h : m.heap.get r = some x) (hf : m.fams.get r = none) (ha : aop P (sets nt b l) m o.op = .enter f args m) (hc : CallQ P fl f args m (Rets noS m v))
  (w : ∀ m', Kept (fun q => m0.next ≤ q ∨ S q) m0 m' → m'.heap.get r = some x → m'.fams.get r = none → Wp P fl (Rg P fl env all k rest (sets nt b ((d, v) :: l)) ds up m') Q) (hg : GD all (sets nt b l) o.guard true := by first | exact gT0 | (apply gT; exact rfl; (first | exact ⟨e_hit rfl⟩ | exact ⟨e_base rfl (by assumption)⟩ | exact ⟨rfl⟩); (first | assumption | decide))) (hp : plainOp o.op = true := by rfl) (hd : o.dst = some d := by rfl) (hn : env.nt = nt := by rfl) :
  Wp P fl (Rg P fl env all k (o :: rest) (sets nt b l) ds up m) Q :=
 s_callV hn hg.h hp hd ha hc fun m' k => w m' (K.k k fun _ h => h.elim) ((k.get r (K.wf.lt h) fun h => h).trans h) ((k.fam r (K.wf.lt h) fun h => h).trans hf)
end
end
open Go.RowKit (Below)
abbrev EntI := Int × AVal × Nat
def entsI (l : List EntI) : List AEnt := l.map fun x => ⟨.int .i64 x.1, x.2.1, x.2.2⟩
def keysI (l : List EntI) : List Int := l.map (·.1)
def findI (s : Int) (l : List EntI) : Option AVal := (l.find? fun x => s == x.1).map (·.2.1)
theorem findNow_entsI (s : Int) : ∀ (l : List EntI) (i : Nat), Instr.findNow (.int .i64) (.int .i64 s) (dummies (entsI l)) i = some ((l.findIdx? fun x => s == x.1).map fun j => (i + j, .nilFunc))
 | [], i => rfl
 | x :: l, i => by
  show (match Instr.sameNow (.int .i64) (.int .i64 s) (.int .i64 x.1) with
   | some true => some (some (i, Value.nilFunc))
   | some false => Instr.findNow (.int .i64) (.int .i64 s) (dummies (entsI l)) (i + 1)
   | none => none) = _
  show (match some (s == x.1) with
   | some true => some (some (i, Value.nilFunc))
   | some false => Instr.findNow (.int .i64) (.int .i64 s) (dummies (entsI l)) (i + 1)
   | none => none) = _
  rw [List.findIdx?_cons]
  cases h : (s == x.1) with
  | true => simp
  | false =>
   dsimp only
   rw [findNow_entsI s l (i + 1)]
   cases (l.findIdx? fun x => s == x.1) with
   | none => rfl
   | some j => simp; omega
theorem findI_idx (s : Int) : ∀ (l : List EntI), (l.findIdx? fun x => s == x.1) = none → findI s l = none
 | [], _ => rfl
 | x :: l, h => by
  rw [List.findIdx?_cons] at h
  unfold findI
  rw [List.find?_cons]
  cases hx : (s == x.1) with
  | true => rw [hx] at h; cases h
  | false =>
   rw [hx] at h
   have h' : (l.findIdx? fun x => s == x.1) = none := by simpa using h
   exact findI_idx s l h'
theorem findI_some (s : Int) : ∀ (l : List EntI) (j : Nat), (l.findIdx? fun x => s == x.1) = some j → ∃ x, l[j]? = some x ∧ x.1 = s ∧ findI s l = some x.2.1
 | [], j, h => by cases h
 | x :: l, j, h => by
  rw [List.findIdx?_cons] at h
  unfold findI
  rw [List.find?_cons]
  cases hx : (s == x.1) with
  | true =>
   rw [hx] at h
   cases h
   exact ⟨x, rfl, (eq_of_beq hx).symm, rfl⟩
  | false =>
   rw [hx] at h
   have h' : ∃ i, (l.findIdx? fun x => s == x.1) = some i ∧ i + 1 = j := by simpa using h
   obtain ⟨i, h1, rfl⟩ := h'
   obtain ⟨y, h2, h3, h4⟩ := findI_some s l i h1
   exact ⟨y, h2, h3, h4⟩
section
variable {P : Program} {tmps : T AVal} {m : Mem}
theorem noPtrs_entsI (l : List EntI) : noPtrs (dummies (entsI l)) = true := by
 induction l with
 | nil => rfl
 | cons x l ih => exact ih
theorem findIx_entsI (m : Mem) (e : Bool) {kt : TypeId} (hk : P.underlying kt = some (.int .i64)) (s : Int) (l : List EntI) : findIx P m e kt (.int .i64 s) (dummies (entsI l)) = some (l.findIdx? fun x => s == x.1) := by
 have h1 : value? P (Instr.checkKey e (9999 + 1) kt (.int .i64 s)) = .ok () := by
  unfold Instr.checkKey
  simp only [underlying, program, bind, Sem.bind, value?, hk]
  rfl
 have h2 : value? P (Instr.findKey kt (.int .i64 s) (dummies (entsI l))) = .ok ((l.findIdx? fun x => s == x.1).map fun j => (0 + j, .nilFunc)) := by
  unfold Instr.findKey
  simp only [underlying, program, bind, Sem.bind, value?, hk]
  show value? P (match Instr.findNow (.int .i64) (.int .i64 s) (dummies (entsI l)) 0 with | some r => pure r | none => Instr.findAsking kt (.int .i64 s) (dummies (entsI l))) = _
  rw [findNow_entsI]
  rfl
 show (bif noPtrs (dummies (entsI l)) then findLit P e kt (.int .i64 s) (dummies (entsI l)) else none) = _
 rw [noPtrs_entsI, cond_true]
 unfold findLit
 have h1' : value? P (Instr.checkKey e 10000 kt (.int .i64 s)) = .ok () := h1
 rw [h1', h2]
 cases (l.findIdx? fun x => s == x.1) with
 | none => rfl
 | some j => simp
theorem entsI_at {l : List EntI} {j : Nat} {e : EntI} (h : l[j]? = some e) : (entsI l)[j]? = some ⟨.int .i64 e.1, e.2.1, e.2.2⟩ := by
 unfold entsI
 rw [List.getElem?_map, h]; rfl
theorem o_lookupIO {t kt et : TypeId} {x y : Operand} {r c : Nat} {l : List EntI} {s : Int} {z : Value} {u : AVal} (hx : evalT tmps x = .map r) (hy : evalT tmps y = iv s) (hr : m.heap.get r = some (.map (entsI l) c))
  (ht : mapKey P t = some (kt, et)) (hk : P.underlying kt = some (.int .i64)) (hz : tzero P et = some z) (hu : (match findI s l with | some v => AVal.tuple [v, .lit (.bool true)] | none => .lit (.tuple #[z, .bool false])) = u) : aop P tmps m (.lookup t x y true) = .val u m := by
 subst hu
 show lookupOp P true m (entriesOf m (evalT tmps x)) (keyOf (evalT tmps y)) (mapKey P t) = _
 rw [hx, hy, ht]
 have he : entriesOf m (.map r) = some (entsI l) := by
  show (match m.heap.get r with | some (.map es _) => some es | _ => none) = _
  rw [hr]
 rw [he]
 show luIn P true m (.int .i64 s) kt et (entsI l) (tzero P et) = _
 rw [hz]
 show luAt true z m (entsI l) (findIx P m (isNil (entsI l)) kt (.int .i64 s) (dummies (entsI l))) = _
 rw [findIx_entsI m _ hk]
 cases hj : (l.findIdx? fun x => s == x.1) with
 | none => rw [findI_idx s l hj]; rfl
 | some j =>
  obtain ⟨e, h1, h2, h3⟩ := findI_some s l j hj
  rw [h3]
  show (match getO (entsI l) j with | some e => luRes true z m (some e.val) | none => .bad "lookup") = _
  rw [getO_eq, entsI_at h1]; rfl
theorem o_lookupI {t kt et : TypeId} {x y : Operand} {r c : Nat} {l : List EntI} {s : Int} {z : Value} {u : AVal} (hx : evalT tmps x = .map r) (hy : evalT tmps y = iv s) (hr : m.heap.get r = some (.map (entsI l) c))
  (ht : mapKey P t = some (kt, et)) (hk : P.underlying kt = some (.int .i64)) (hz : tzero P et = some z) (hu : (match findI s l with | some v => v | none => .lit z) = u) : aop P tmps m (.lookup t x y false) = .val u m := by
 subst hu
 show lookupOp P false m (entriesOf m (evalT tmps x)) (keyOf (evalT tmps y)) (mapKey P t) = _
 rw [hx, hy, ht]
 have he : entriesOf m (.map r) = some (entsI l) := by
  show (match m.heap.get r with | some (.map es _) => some es | _ => none) = _
  rw [hr]
 rw [he]
 show luIn P false m (.int .i64 s) kt et (entsI l) (tzero P et) = _
 rw [hz]
 show luAt false z m (entsI l) (findIx P m (isNil (entsI l)) kt (.int .i64 s) (dummies (entsI l))) = _
 rw [findIx_entsI m _ hk]
 cases hj : (l.findIdx? fun x => s == x.1) with
 | none => rw [findI_idx s l hj]; rfl
 | some j =>
  obtain ⟨e, h1, h2, h3⟩ := findI_some s l j hj
  rw [h3]
  show (match getO (entsI l) j with | some e => luRes false z m (some e.val) | none => .bad "lookup") = _
  rw [getO_eq, entsI_at h1]; rfl
theorem setEntI_same : ∀ (l : List EntI) (j : Nat) (x : EntI), l[j]? = some x → setEnt j (.int .i64 x.1) x.2.1 (entsI l) = entsI l
 | [], j, x, h => by simp at h
 | y :: l, 0, x, h => by
  simp only [List.getElem?_cons_zero, Option.some.injEq] at h
  subst h; rfl
 | y :: l, j + 1, x, h => by
  simp only [List.getElem?_cons_succ] at h
  show ⟨.int .i64 y.1, y.2.1, y.2.2⟩ :: setEnt j (.int .i64 x.1) x.2.1 (entsI l) = _
  rw [setEntI_same l j x h]; rfl
def addI (s : Int) (v : AVal) (l : List EntI) (c : Nat) : List EntI := match findI s l with
 | some _ => l
 | none => l ++ [(s, v, c)]
def clkI (s : Int) (l : List EntI) (c : Nat) : Nat := match findI s l with
 | some _ => c
 | none => c + 1
theorem o_updateI {t kt et : TypeId} {x y z : Operand} {r c : Nat} {l : List EntI} {s : Int} {v : AVal} (hx : evalT tmps x = .map r) (hy : evalT tmps y = iv s) (hz : evalT tmps z = v) (hr : m.heap.get r = some (.map (entsI l) c))
  (ht : mapKey P t = some (kt, et)) (hk : P.underlying kt = some (.int .i64)) (hs : ∀ u, findI s l = some u → u = v) : aop P tmps m (.mapUpdate t x y z) = .val .poison (m.put r (.map (entsI (addI s v l c)) (clkI s l c))) := by
 show mapUpdate P m (mapKey P t) (evalT tmps y) (evalT tmps z) (evalT tmps x) = _
 rw [hx, hy, hz, ht]
 show mapPut P m r v (m.heap.get r) (some (.int .i64 s)) (some (kt, et)) = _
 rw [hr]
 show muAt m r (.int .i64 s) v (entsI l) c (findIx P m false kt (.int .i64 s) (dummies (entsI l))) = _
 rw [findIx_entsI m _ hk]
 unfold addI clkI
 cases hj : (l.findIdx? fun x => s == x.1) with
 | none =>
  rw [findI_idx s l hj]
  show Out.val .poison (m.put r (.map (appL (entsI l) [⟨.int .i64 s, v, c⟩]) c.succ)) = _
  rw [appL_eq]
  unfold entsI
  rw [List.map_append]; rfl
 | some j =>
  obtain ⟨e, h1, h2, h3⟩ := findI_some s l j hj
  rw [h3]
  have hv := hs _ h3
  subst h2
  show muSet m r (.int .i64 e.1) v (entsI l) c j (getO (entsI l) j) = _
  rw [getO_eq, entsI_at h1]
  show (bif keyStays (.int .i64 e.1) (.int .i64 e.1) then Out.val .poison (m.put r (.map (setEnt j (.int .i64 e.1) v (entsI l)) c)) else .bad "mapUpdate key") = _
  have hb : keyStays (.int .i64 e.1) (.int .i64 e.1) = true := by
   show ((IntKind.i64 == IntKind.i64) && (e.1 == e.1)) = true
   simp
  rw [hb, cond_true, ← hv, setEntI_same l j e h1]
end
open Go.RowKit (Below)
noncomputable section
section
variable {P : Program} {fl : Fl} {Q Q1 : RR → Prop} {env : Env} {k : List AItem} {tmps tmps0 : T AVal} {ds : List ADef} {up : Chain} {m : Mem} {nt : Nat} {b : T AVal} {l : List (Nat × AVal)} {all : List Oper} {cks left : List Ck} {it : PItem} {rest : PTree} {d : Nat}
theorem d_round {l0 f nt0 : Nat} {tm : T AVal} {x y : Code} {m1 : Mem} (hn : env.nt = nt) (hg : gd all (sets nt b l) it.o.guard = some true) (hp : plainOp it.o.op = true) (hd : it.o.dst = some d) (ha : aop P (sets nt b l) m it.o.op = .round l0 f nt0 tm x y m1) (hf : (P.funcs[f]?).isSome = true) (hc : RoundQ P fl l0 f nt0 tm x y m1 Q1) (hl : leftCk it.mask cks = left)
  (hv : ∀ v up' m', Q1 (.ret v up' m') → ckAll P it.mask m' cks = true ∧ Wp P fl (Dg P fl env all k tmps0 rest left (sets nt b ((d, v) :: l)) ds up m') Q)
  (hx : ∀ c up' m', Q1 (.panicked c up' m') → Wp P fl (At env k (poisonDsts tmps0 nt all) ds (.panicking c) up m') Q) : Wp P fl (Dg P fl env all k tmps0 (.heavy it rest) cks (sets nt b l) ds up m) Q := by
 subst hl
 subst hn
 refine Wp.of_eq (c' := fun rec => gotR (fun c up m => rec env k (poisonDsts tmps0 env.nt all) ds (.panicking c) up m) env.nt it.o.dst (behindR P it (drawGo P fl rec env all k tmps0 rest) cks) (sets env.nt b l) ds up (rec ⟨f, nt0, false, some l0⟩ [.code x, .beginRound, .code y] tm [] .run [] m1)) (fun rec => ?_) ?_
 ·show drawGo P fl rec env all k tmps0 (.heavy it rest) cks (sets env.nt b l) ds up m = _
  rw [heavy_on hg, operR_plain hp ha (fun _ h => by cases h)]
  show (bif (P.funcs[f]?).isSome then _ else _) = _
  rw [hf]; rfl
 ·refine Wp.bind (A := fun rec v _ m => behindR P it (drawGo P fl rec env all k tmps0 rest) cks (setDst env.nt (sets env.nt b l) v it.o.dst) ds up m) (B := fun rec c _ m => rec env k (poisonDsts tmps0 env.nt all) ds (.panicking c) up m) hc (fun v u m h => ?_) (fun c u m h => hx c u m h)
  obtain ⟨h1, h2⟩ := hv v u m h
  refine Wp.of_eq (fun rec => ?_) h2
  show behindR P it (drawGo P fl rec env all k tmps0 rest) cks (setDst env.nt (sets env.nt b l) v it.o.dst) ds up m = _
  unfold behindR
  rw [h1, hd]; rfl
end
section
variable {σ τ X : Type} {P : Program} {fl : Fl} {l : Nat} {L : Lp} {S : Nat → Prop} {B : Nat} {I : σ → Mem → Prop} {J : τ → Mem → Prop} {pe : τ → Code} {enc : X → List AVal} {ok : X → Mem → Prop} {step : σ → X → St σ τ} {Q : RR → Prop} {env : Env} {k : List AItem} {tmps tmps0 b : T AVal} {ds : List ADef} {up : Chain} {m : Mem} {nt : Nat} {ls : List (Nat × AVal)} {all : List Oper} {cks left : List Ck} {it : PItem} {rest : PTree} {d : Nat}
theorem d_yield {g : Operand} {ats : Array TypeId} {xs : Array Operand} (h : RoundOK P fl l L S B I J pe enc ok step) {s : σ} {x : X} (hn : env.nt = nt) (hg : gd all (sets nt b ls) it.o.guard = some true) (hd : it.o.dst = some d) (ho : it.o.op = .call ⟨.value g, xs, ats⟩)
  (hy : evalT (sets nt b ls) g = .yield l) (hx : mapL (evalT (sets nt b ls)) xs.toList = enc x) (hw : Wf m) (hB : B ≤ m.next) (hI : I s m) (hok : ok x m) (hl : m.heap.get l = some (L.obj .ready none)) (hlk : leftCk it.mask cks = left)
  (wgo : ∀ s', step s x = .go s' → ∀ m', Kept S m m' → I s' m' → m'.heap.get l = some (L.obj .ready none) → ckAll P it.mask m' cks = true ∧ Wp P fl (Dg P fl env all k tmps0 rest left (sets nt b ((d, .lit (.bool true)) :: ls)) ds up m') Q)
  (wstop : ∀ t, step s x = .stop t → ∀ m', Kept S m m' → J t m' → m'.heap.get l = some (L.obj .done (some (pe t))) → ckAll P it.mask m' cks = true ∧ Wp P fl (Dg P fl env all k tmps0 rest left (sets nt b ((d, .lit (.bool false)) :: ls)) ds up m') Q)
  (wfail : ∀ c, step s x = .fail c → ∀ m', Kept S m m' → Wp P fl (At env k (poisonDsts tmps0 nt all) ds (.panicking c) up m') Q) : Wp P fl (Dg P fl env all k tmps0 (.heavy it rest) cks (sets nt b ls) ds up m) Q := by
 have hp : plainOp it.o.op = true := by rw [ho]; rfl
 have ha : aop P (sets nt b ls) m it.o.op = .round l L.fn L.nt (setMany L.nt L.ps (enc x) L.tm) L.a L.b m := by rw [ho]; exact o_callY hy hx hl (h.len x)
 refine d_round hn hg hp hd ha h.fn (h.round s x m hw hB hI hok hl) hlk ?_ ?_
 ·intro v u m' he
  cases e : step s x with
  | go s' =>
   rw [e] at he
   obtain ⟨_, _, e2, h1, h2, h3⟩ := he
   cases e2
   exact wgo s' e _ h1 h2 h3
  | stop t =>
   rw [e] at he
   obtain ⟨_, _, e2, h1, h2, h3⟩ := he
   cases e2
   exact wstop t e _ h1 h2 h3
  | fail c =>
   rw [e] at he
   obtain ⟨_, _, e2, _⟩ := he
   cases e2
 ·intro c u m' he
  cases e : step s x with
  | go s' => rw [e] at he; obtain ⟨_, _, e2, _⟩ := he; cases e2
  | stop t => rw [e] at he; obtain ⟨_, _, e2, _⟩ := he; cases e2
  | fail c' =>
   rw [e] at he
   obtain ⟨_, _, e2, h1⟩ := he
   cases e2
   exact wfail c e _ h1
end
end
end Go.Abs
