/- An executor whose runs hold in every world: a part of it and of what is proved of it. -/
import Derived.Test.YtjefckdgpbdpeaaGreatAbsMake

namespace Go.Abs
open Go

/-- an operation looks at its operands alone -/
def SameAt (T T' : Abs.T AVal) (xs : Array Operand) : Prop := ∀ x ∈ xs, evalT T x = evalT T' x
theorem mapL_congr {T T' : Abs.T AVal} {xs : Array Operand} (h : SameAt T T' xs) : mapL (evalT T) xs.toList = mapL (evalT T') xs.toList := by
  rw [mapL_eq, mapL_eq]
  exact List.map_congr_left fun x hx => h x (by simpa using hx)
theorem resolveC_congr {T T' : Abs.T AVal} (c : Call) (h : SameAt T T' c.operands) : resolveC T c = resolveC T' c := by
  have hargs := mapL_congr (T := T) (T' := T') (xs := c.args) fun x hx => h x (by simp [Call.operands, hx])
  unfold resolveC
  rw [hargs]
  cases hc : c.callee with
  | value f => have hf : evalT T f = evalT T' f := h f (by simp [Call.operands, hc]); simp only [hf]
  | invoke r m => have hr : evalT T r = evalT T' r := h r (by simp [Call.operands, hc]); simp only [hr]
  | builtin b => rfl
theorem ev2_congr {T T' : Abs.T AVal} {ps : Array (Nat × Operand)} (h : ∀ x ∈ ps.toList.map (·.2), evalT T x = evalT T' x) : ev2 T ps.toList = ev2 T' ps.toList := by
  unfold ev2
  rw [mapL_eq, mapL_eq]
  exact List.map_congr_left fun p hp => by rw [h p.2 (List.mem_map.2 ⟨p, hp, rfl⟩)]
theorem optE_congr {T T' : Abs.T AVal} {o : Option Operand} (h : ∀ x, o = some x → evalT T x = evalT T' x) : o.map (evalT T) = o.map (evalT T') := by
  cases o with
  | none => rfl
  | some x => simp [h x rfl]
theorem aop_congr {P : Program} {m : Mem} {T T' : Abs.T AVal} (op : Op) (h : SameAt T T' op.operands) : aop P T m op = aop P T' m op := by
  cases op with
  | move x => have h1 := h x (by simp [Op.operands]); simp only [aop, h1]
  | assign x => have h1 := h x (by simp [Op.operands]); simp only [aop, h1]
  | pick c a b => have h1 := h c (by simp [Op.operands]); have h2 := h a (by simp [Op.operands]); have h3 := h b (by simp [Op.operands]); simp only [aop, h1, h2, h3]
  | box t x => have h1 := h x (by simp [Op.operands]); simp only [aop, h1]
  | build t ps => simp only [aop]; rw [ev2_congr fun x hx => h x (by simpa [Op.operands] using hx)]
  | buildSlice t n ps => simp only [aop]; rw [ev2_congr fun x hx => h x (by simpa [Op.operands] using hx)]
  | load t x => have h1 := h x (by simp [Op.operands]); simp only [aop, h1]
  | store t a x => have h1 := h a (by simp [Op.operands]); have h2 := h x (by simp [Op.operands]); simp only [aop, h1, h2]
  | nilCheck x => have h1 := h x (by simp [Op.operands]); simp only [aop, h1]
  | binOp op t x y z => have h1 := h x (by simp [Op.operands]); have h2 := h y (by simp [Op.operands]); simp only [aop, h1, h2]
  | unOp op t x => have h1 := h x (by simp [Op.operands]); simp only [aop, h1]
  | convert s d x => have h1 := h x (by simp [Op.operands]); simp only [aop, h1]
  | makeInterface t x => have h1 := h x (by simp [Op.operands]); simp only [aop, h1]
  | makeFunc fn first captured =>
    have h1 := mapL_congr (T := T) (T' := T') (xs := first) fun x hx => h x (by simp [Op.operands, hx])
    have h2 := mapL_congr (T := T) (T' := T') (xs := captured) fun x hx => h x (by simp [Op.operands, hx])
    simp only [aop, h1, h2]
  | makeMap t r => have h1 := optE_congr (T := T) (T' := T') (o := r) fun x hx => h x (by simp [Op.operands, hx]); simp only [aop, h1]
  | makeSlice t l c => have h1 := h l (by simp [Op.operands]); have h2 := h c (by simp [Op.operands]); simp only [aop, h1, h2]
  | slice t x lo hi mx =>
    have h1 := h x (by simp [Op.operands])
    have h2 := optE_congr (T := T) (T' := T') (o := lo) fun x hx => h x (by simp [Op.operands, hx])
    have h3 := optE_congr (T := T) (T' := T') (o := hi) fun x hx => h x (by simp [Op.operands, hx])
    have h4 := optE_congr (T := T) (T' := T') (o := mx) fun x hx => h x (by simp [Op.operands, hx])
    simp only [aop, h1, h2, h3, h4]
  | fieldAddr s x f => have h1 := h x (by simp [Op.operands]); simp only [aop, h1]
  | field s x f => have h1 := h x (by simp [Op.operands]); simp only [aop, h1]
  | indexAddr t x ix => have h1 := h x (by simp [Op.operands]); have h2 := h ix (by simp [Op.operands]); simp only [aop, h1, h2]
  | index t x ix => have h1 := h x (by simp [Op.operands]); have h2 := h ix (by simp [Op.operands]); simp only [aop, h1, h2]
  | lookup t x k ok => have h1 := h x (by simp [Op.operands]); have h2 := h k (by simp [Op.operands]); simp only [aop, h1, h2]
  | mapUpdate t mp k x => have h1 := h mp (by simp [Op.operands]); have h2 := h k (by simp [Op.operands]); have h3 := h x (by simp [Op.operands]); simp only [aop, h1, h2, h3]
  | insert t mp k x => have h1 := h mp (by simp [Op.operands]); have h2 := h k (by simp [Op.operands]); have h3 := h x (by simp [Op.operands]); simp only [aop, h1, h2, h3]
  | range t x => have h1 := h x (by simp [Op.operands]); simp only [aop, h1]
  | entry x => have h1 := h x (by simp [Op.operands]); simp only [aop, h1]
  | typeAssert x t a ok => have h1 := h x (by simp [Op.operands]); simp only [aop, h1]
  | extract x ix => have h1 := h x (by simp [Op.operands]); simp only [aop, h1]
  | call c => simp only [aop]; rw [resolveC_congr c h]
  | panic x => have h1 := h x (by simp [Op.operands]); simp only [aop, h1]
  | _ => rfl

/-- temporaries that differ outside the operands: a heavy operation does the same, and hands them on -/
theorem operR_congr {P : Program} {fl : Fl} {rec : Run} {env : Env} {T T' : Abs.T AVal} {dst : Option Tmp} {cont cont' : Cont} {panicked panicked' : Chain → Chain → Mem → RR} {ds : List ADef} {up : Chain} {m : Mem} (op : Op)
    (h : SameAt T T' op.operands) (hc : ∀ v ds up m, cont (setDst env.nt T v dst) ds up m = cont' (setDst env.nt T' v dst) ds up m) (hp : ∀ c up m, panicked c up m = panicked' c up m) :
    operR P fl rec env panicked dst cont T ds up m op = operR P fl rec env panicked' dst cont' T' ds up m op := by
  have hpp : panicked = panicked' := by funext c up m; exact hp c up m
  subst hpp
  have hgot : ∀ r, gotR panicked env.nt dst cont T ds up r = gotR panicked env.nt dst cont' T' ds up r := by
    intro r
    rw [gotR_eq, gotR_eq]
    induction r with
    | ret v up' m' => exact hc v ds up m'
    | panicked c up' m' => rfl
    | bad _ => rfl
    | alt a b iha ihb =>
      dsimp only at iha ihb ⊢
      rw [iha, ihb]
  have hout : ∀ out, outR P fl rec env panicked dst cont T ds up m out = outR P fl rec env panicked dst cont' T' ds up m out := by
    intro out
    cases out with
    | val v m' => exact hc v ds up m'
    | enter f a m' => exact hgot _
    | round l f nt tm a b m' =>
      show (bif _ then _ else _) = (bif _ then _ else _)
      rw [hgot]
    | recov =>
      show (bif env.roundOf.isSome then RR.bad "recover in a round" else recovR env dst cont T ds m up) = (bif env.roundOf.isSome then RR.bad "recover in a round" else recovR env dst cont' T' ds m up)
      have : recovR env dst cont T ds m up = recovR env dst cont' T' ds m up := by
        unfold recovR
        split
        · rw [hc, hc]
        · rw [hc]
      rw [this]
    | panic v m' => rfl
    | bad _ => rfl
  unfold operR
  split
  · rename_i c
    unfold dferR
    rw [resolveC_congr c h]
    split
    · split
      · rw [hc]
      · rfl
    · rfl
  · rename_i it s
    have h1 := h it (by simp [Op.operands])
    rw [h1]
    unfold nextR
    split
    · exact hout _
    · congr 1
      funext e
      exact hout _
  · rw [aop_congr op h]
    exact hout _
end Go.Abs
