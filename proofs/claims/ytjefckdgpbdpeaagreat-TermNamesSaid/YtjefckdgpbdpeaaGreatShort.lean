/- A part of the proof that TermNames returns true. -/
import Derived.Test.YtjefckdgpbdpeaaGreatTfresh

namespace Go.Proofs.YtjefckdgpbdpeaaGreat
open Go Go.Abs
open Go.RowKit (Below)
set_option maxRecDepth 10000
variable {fl : Fl}

def okLen (b : ByteArray) : Bool := !(decide (30 < b.size))
/-- few strings, and short ones -/
def shortB (l : List ByteArray) : Bool := (l.take 100).all okLen && decide (l.length ≤ 90)
noncomputable def shBody : Code := bodyF Tryz.f13
noncomputable def shLoop : Code := cAt [true, false, true, false, false] shBody
noncomputable def shEnd : Code := cAt [true, true] shBody
def shEnv : Env := ⟨13, 23, false, none⟩
theorem sh_loop (l : List ByteArray) (c : Nat) (ex : Bool) (hlen : l.length < 2 ^ 60) (m : Mem) (hm : m.heap.get 0 = some (.ro (strs l))) : ∀ (d i : Nat) (tmps : T AVal), (l.take 100).length - i = d → i ≤ (l.take 100).length →
    getT tmps 0 = .slice 0 0 l.length c ex → getT tmps 3 = goI i → GoesV Tryz.prog fl shEnv [.code shLoop, .inLoop shLoop, .inBlock 0, .code shEnd] tmps [] .run [] m (.lit (.bool (((l.take 100).drop i).all okLen && decide (l.length ≤ 90)))) := by
  have htl : (l.take 100).length = min 100 l.length := List.length_take
  intro d
  induction d with
  | zero =>
    intro i tmps hd hi h0 h3
    have e : ((l.take 100).drop i).all okLen = true := by rw [List.drop_of_length_le (by omega)]; rfl
    rw [e, Bool.true_and]
    refine GoesV.step (fun rec => b_seq _ _) ?_
    refine GoesV.step (fun rec => b_seq _ _) ?_
    by_cases h1 : i < l.length
    ·
      have h2 : ¬ i < 100 := by omega
      refine GoesV.step (fun rec => (b_region _ _).trans ((r_val rfl rfl (o_move rfl)).trans ((r_val rfl rfl (o_move rfl)).trans ((r_val rfl rfl (o_len (r := 0) (off := 0) (n := l.length) (c := c) (ex := ex) (by simp [evalT, shEnv, g_set, goI, h0, h3]) Tryz.underlying22)).trans ((r_val rfl rfl (o_lssK .i64 (a := i) (b := l.length) (by simp [evalT, shEnv, g_set, goI, gk, h0, h3]) (by simp [evalT, shEnv, g_set, goI, gk, h0, h3]))).trans ((r_val rfl rfl (o_move rfl)).trans ((r_val (gd_true (d := 8) rfl (by simp [evalT, shEnv, g_set, goI, h0, h3, h1])) rfl (o_move rfl)).trans ((r_val (gd_true (d := 8) rfl (by simp [evalT, shEnv, g_set, goI, h0, h3, h1])) rfl (o_lssK .i64 (a := i) (b := 100) (by simp [evalT, shEnv, g_set, goI, gk, h0, h3]) rfl)).trans ((r_val rfl rfl (o_pick (t := true) (by simp [evalT, shEnv, g_set, goI, h0, h3, h1]) rfl rfl)).trans (r_nil _)))))))))) ?_
      refine GoesV.step (fun rec => b_cond (t := false) (by simp [evalT, shEnv, g_set, goI, h0, h3, h1, h2])) ?_
      refine GoesV.step (fun rec => b_exit rfl) ?_
      refine GoesV.step (fun rec => b_seq _ _) ?_
      refine GoesV.step (fun rec => (b_region _ _).trans ((r_val rfl rfl (o_move rfl)).trans ((r_val rfl rfl (o_len (r := 0) (off := 0) (n := l.length) (c := c) (ex := ex) (by simp [evalT, shEnv, g_set, goI, h0, h3]) Tryz.underlying22)).trans ((r_val rfl rfl (o_leqK .i64 (a := l.length) (b := 90) (by simp [evalT, shEnv, g_set, goI, gk, h0, h3]) rfl)).trans ((r_val rfl rfl (o_assign rfl)).trans (r_nil _)))))) ?_
      refine GoesV.step (fun rec => b_ret rfl) ?_
      exact GoesV.last (fun rec => (b_results (vs := [.lit (.bool (decide (l.length ≤ 90)))]) Tryz.func13 (by simp [Tryz.f13, resVals, resVal, evalT, shEnv, g_set])).trans rfl)
    ·
      refine GoesV.step (fun rec => (b_region _ _).trans ((r_val rfl rfl (o_move rfl)).trans ((r_val rfl rfl (o_move rfl)).trans ((r_val rfl rfl (o_len (r := 0) (off := 0) (n := l.length) (c := c) (ex := ex) (by simp [evalT, shEnv, g_set, goI, h0, h3]) Tryz.underlying22)).trans ((r_val rfl rfl (o_lssK .i64 (a := i) (b := l.length) (by simp [evalT, shEnv, g_set, goI, gk, h0, h3]) (by simp [evalT, shEnv, g_set, goI, gk, h0, h3]))).trans ((r_val rfl rfl (o_move rfl)).trans ((r_off (gd_false (d := 8) rfl (by simp [evalT, shEnv, g_set, goI, h0, h3, h1]))).trans ((r_off (gd_false (d := 8) rfl (by simp [evalT, shEnv, g_set, goI, h0, h3, h1]))).trans ((r_val rfl rfl (o_pick (t := false) (by simp [evalT, shEnv, g_set, goI, h0, h3, h1]) rfl rfl)).trans (r_nil _)))))))))) ?_
      refine GoesV.step (fun rec => b_cond (t := false) (by simp [evalT, shEnv, g_set, goI, h0, h3, h1])) ?_
      refine GoesV.step (fun rec => b_exit rfl) ?_
      refine GoesV.step (fun rec => b_seq _ _) ?_
      refine GoesV.step (fun rec => (b_region _ _).trans ((r_val rfl rfl (o_move rfl)).trans ((r_val rfl rfl (o_len (r := 0) (off := 0) (n := l.length) (c := c) (ex := ex) (by simp [evalT, shEnv, g_set, goI, h0, h3]) Tryz.underlying22)).trans ((r_val rfl rfl (o_leqK .i64 (a := l.length) (b := 90) (by simp [evalT, shEnv, g_set, goI, gk, h0, h3]) rfl)).trans ((r_val rfl rfl (o_assign rfl)).trans (r_nil _)))))) ?_
      refine GoesV.step (fun rec => b_ret rfl) ?_
      exact GoesV.last (fun rec => (b_results (vs := [.lit (.bool (decide (l.length ≤ 90)))]) Tryz.func13 (by simp [Tryz.f13, resVals, resVal, evalT, shEnv, g_set])).trans rfl)
  | succ d ih =>
    intro i tmps hd hi h0 h3
    have h2 : i < 100 := by omega
    have h1 : i < l.length := by omega
    have hlt : i < (l.take 100).length := by omega
    have hb : l[i]? = some l[i] := List.getElem?_eq_getElem h1
    have hdrop : (l.take 100).drop i = l[i] :: (l.take 100).drop (i + 1) := by
      rw [List.drop_eq_getElem_cons hlt]
      congr 1
      exact List.getElem_take
    generalize l[i] = b at hb hdrop
    refine GoesV.step (fun rec => b_seq _ _) ?_
    refine GoesV.step (fun rec => b_seq _ _) ?_
    refine GoesV.step (fun rec => (b_region _ _).trans ((r_val rfl rfl (o_move rfl)).trans ((r_val rfl rfl (o_move rfl)).trans ((r_val rfl rfl (o_len (r := 0) (off := 0) (n := l.length) (c := c) (ex := ex) (by simp [evalT, shEnv, g_set, goI, h0, h3]) Tryz.underlying22)).trans ((r_val rfl rfl (o_lssK .i64 (a := i) (b := l.length) (by simp [evalT, shEnv, g_set, goI, gk, h0, h3]) (by simp [evalT, shEnv, g_set, goI, gk, h0, h3]))).trans ((r_val rfl rfl (o_move rfl)).trans ((r_val (gd_true (d := 8) rfl (by simp [evalT, shEnv, g_set, goI, h0, h3, h1])) rfl (o_move rfl)).trans ((r_val (gd_true (d := 8) rfl (by simp [evalT, shEnv, g_set, goI, h0, h3, h1])) rfl (o_lssK .i64 (a := i) (b := 100) (by simp [evalT, shEnv, g_set, goI, gk, h0, h3]) rfl)).trans ((r_val rfl rfl (o_pick (t := true) (by simp [evalT, shEnv, g_set, goI, h0, h3, h1]) rfl rfl)).trans (r_nil _)))))))))) ?_
    refine GoesV.step (fun rec => b_cond (t := true) (by simp [evalT, shEnv, g_set, goI, h0, h3, h1, h2])) ?_
    refine GoesV.step (fun rec => b_skip) ?_
    refine GoesV.step (fun rec => b_seq _ _) ?_
    refine GoesV.step (fun rec => b_block _ _) ?_
    refine GoesV.step (fun rec => b_seq _ _) ?_
    refine GoesV.step (fun rec => (b_region _ _).trans ((r_val rfl rfl (o_move rfl)).trans ((r_val rfl rfl (o_move rfl)).trans ((r_val rfl rfl (o_indexAddr (r := 0) (off := 0) (n := l.length) (c := c) (ex := ex) (i := i) (by simp [evalT, shEnv, g_set, goI, h0, h3]) (by simp [evalT, shEnv, g_set, goI, h0, h3]) lt3 h1)).trans ((r_val rfl rfl (o_loadRo (r := 0) (off := i) (v := .lit (.string b)) (by simp [evalT, shEnv, g_set, goI, h0, h3]) hm lt1 lt2 (strs_get hb) rfl)).trans ((r_val rfl rfl (o_lenS (s := b) (by simp [evalT, shEnv, g_set, goI, h0, h3]) u9)).trans ((r_val rfl rfl (o_gtrK .i64 (a := b.size) (b := 30) (by simp [evalT, shEnv, g_set, goI, gk, h0, h3]) rfl)).trans (r_nil _)))))))) ?_
    by_cases hs : 30 < b.size
    ·
      refine GoesV.step (fun rec => b_cond (t := true) (by simp [evalT, shEnv, g_set, goI, h0, h3, hs])) ?_
      refine GoesV.step (fun rec => b_seq _ _) ?_
      refine GoesV.step (fun rec => (b_region _ _).trans ((r_val rfl rfl (o_assign rfl)).trans (r_nil _))) ?_
      refine GoesV.step (fun rec => b_ret rfl) ?_
      have e : ((l.take 100).drop i).all okLen = false := by rw [hdrop]; simp [okLen, hs]
      rw [e]
      exact GoesV.last (fun rec => (b_results (vs := [.lit (.bool false)]) Tryz.func13 (by simp [Tryz.f13, resVals, resVal, evalT, shEnv, g_set])).trans rfl)
    ·
      refine GoesV.step (fun rec => b_cond (t := false) (by simp [evalT, shEnv, g_set, goI, h0, h3, hs])) ?_
      refine GoesV.step (fun rec => b_skip) ?_
      refine GoesV.step (fun rec => b_inBlock _) ?_
      refine GoesV.step (fun rec => (b_region _ _).trans ((r_val rfl rfl (o_move rfl)).trans ((r_val rfl rfl (o_add (a := i) (b := 1) (by simp [evalT, shEnv, g_set, goI, h0, h3]) rfl (by omega))).trans ((r_val rfl rfl (o_assign rfl)).trans (r_nil _))))) ?_
      refine GoesV.step (fun rec => b_inLoop _) ?_
      have e : ((l.take 100).drop i).all okLen = ((l.take 100).drop (i + 1)).all okLen := by rw [hdrop]; simp [okLen, hs]
      rw [e]
      exact ih (i + 1) _ (by omega) (by omega) (by simp [shEnv, g_set, h0]) (by simp [shEnv, g_set, evalT])
theorem sh_goes (l : List ByteArray) (c : Nat) (ex : Bool) (hlen : l.length < 2 ^ 60) (m : Mem) (hm : m.heap.get 0 = some (.ro (strs l))) :
    GoesV Tryz.prog fl shEnv [.code shBody] (argsT [.slice 0 0 l.length c ex] 0 .e) [] .run [] m (.lit (.bool (shortB l))) := by
  have h0 : getT (argsT [.slice 0 0 l.length c ex] 0 .e) 0 = .slice 0 0 l.length c ex := by rw [getT_argsT]; rfl
  generalize argsT [.slice 0 0 l.length c ex] 0 .e = t at h0
  refine GoesV.step (fun rec => b_seq _ _) ?_
  refine GoesV.step (fun rec => (b_region _ _).trans ((r_val rfl rfl (o_assign rfl)).trans (r_nil _))) ?_
  refine GoesV.step (fun rec => b_seq _ _) ?_
  refine GoesV.step (fun rec => b_seq _ _) ?_
  refine GoesV.step (fun rec => (b_region _ _).trans ((r_val rfl rfl (o_assign rfl)).trans (r_nil _))) ?_
  refine GoesV.step (fun rec => b_block _ _) ?_
  refine GoesV.step (fun rec => b_loop _) ?_
  exact sh_loop l c ex hlen m hm (l.take 100).length 0 _ (by omega) (by omega) (by simp [shEnv, g_set, h0]) (by simp [shEnv, g_set, evalT, goI])
def shortV (l : List ByteArray) : Option Value := if l.length < 2 ^ 60 then some (.bool (shortB l)) else none
/-- no strings: nil, or an empty slice -/
noncomputable def noneTb (v : Value) (args : List AVal) : Option Value := match args with
  | [.lit (.slice none 0 0)] => some v
  | [.emptyS] => some v
  | _ => none
theorem calls_closed {f : FuncId} {fn : Func} {c : Code} (hf : Tryz.prog.funcs[f]? = some fn) (hb : fn.body = some c) {args : List AVal} (hlen : args.length ≤ fn.ntmps) {v : Value} {n : Nat}
    (hg : ∃ up m, run Tryz.prog flN n ⟨f, fn.ntmps, false, none⟩ [.code c] (argsT args 0 .e) [] .run [] mem0 = .ret (.lit v) up m) {w : World} {xs : Array Value} (hl : RL (fun _ => none) args xs.toList) :
    Calls Tryz.prog f xs w fun e w' => e = .returned v ∧ Below w.heap.size w w' := by
  obtain ⟨up, m, hg⟩ := hg
  refine calls_by (Rn := run Tryz.prog flN n) (fun B w0 => run_ok names (TbOK.none _ _) mixed n w0) (ρ := fun _ => none) (args := args) (m := mem0) (MR.empty w) hl (up' := up) (m' := m) ?_
  rw [hf]
  unfold callBody0
  dsimp only
  have : (lenL args).ble fn.ntmps = true := by rw [nat_ble, lenL_eq]; exact hlen
  rw [this, cond_true, hb]
  exact hg
def isBoolR (r : RR) (b : Bool) : Bool := match r with
  | .ret (.lit (.bool a)) _ _ => a == b
  | _ => false
theorem isBoolR_spec {r : RR} {b : Bool} (h : isBoolR r b = true) : ∃ up m, r = .ret (.lit (.bool b)) up m := by
  unfold isBoolR at h
  split at h
  · rename_i a up m
    rw [beq_iff_eq] at h
    subst h
    exact ⟨_, _, rfl⟩
  · cases h
/-- both forms of no strings -/
theorem none_ok {f : FuncId} {fn : Func} {c : Code} (hf : Tryz.prog.funcs[f]? = some fn) (hb : fn.body = some c) (hn : 1 ≤ fn.ntmps) {v : Value}
    (h1 : ∃ up m, run Tryz.prog flN 300 ⟨f, fn.ntmps, false, none⟩ [.code c] (argsT [.lit (.slice none 0 0)] 0 .e) [] .run [] mem0 = .ret (.lit v) up m)
    (h2 : ∃ up m, run Tryz.prog flN 300 ⟨f, fn.ntmps, false, none⟩ [.code c] (argsT [.emptyS] 0 .e) [] .run [] mem0 = .ret (.lit v) up m) :
    ∀ (args : List AVal) (m : Mem) (v' : Value), noneTb v args = some v' → ∀ (w0 : Wo) (B : Nat) (ρ : Rho) (w : World) (xs : Array Value), MR w0 B ρ m w → RL ρ args xs.toList → Calls Tryz.prog f xs w fun e w' => e = .returned v' ∧ Below w.heap.size w w' := by
  intro args m v' ht w0 B ρ w xs _ hl
  unfold noneTb at ht
  split at ht
  · cases ht
    obtain ⟨x, rfl, hx⟩ := hl.one
    simp only [R] at hx
    subst hx
    exact calls_closed hf hb (args := [.lit (.slice none 0 0)]) hn h1 (by simp only [RL]; exact ⟨_, _, rfl, by simp [R], rfl⟩)
  · cases ht
    obtain ⟨x, rfl, hx⟩ := hl.one
    simp only [R] at hx
    exact calls_closed hf hb (args := [.emptyS]) hn h2 (by simp only [RL, R]; exact ⟨_, _, rfl, hx, rfl⟩)
  · cases ht
/-- a table for no strings, and one for some -/
noncomputable def both (v : Value) (F : List ByteArray → Option Value) (args : List AVal) (m : Mem) : Option Value := match noneTb v args with
  | some x => some x
  | none => sliceTb F args m
theorem both_slice {v : Value} {F : List ByteArray → Option Value} {m : Mem} {r c : Nat} {ex : Bool} {l : List ByteArray} (h : m.heap.get r = some (.ro (strs l))) : both v F [.slice r 0 l.length c ex] m = F l := by
  have e : noneTb v [.slice r 0 l.length c ex] = none := rfl
  unfold both
  rw [e]
  exact sliceTb_ro h
theorem both_ok {f : FuncId} {v : Value} {F : List ByteArray → Option Value}
    (h1 : ∀ (args : List AVal) (m : Mem) (v' : Value), noneTb v args = some v' → ∀ (w0 : Wo) (B : Nat) (ρ : Rho) (w : World) (xs : Array Value), MR w0 B ρ m w → RL ρ args xs.toList → Calls Tryz.prog f xs w fun e w' => e = .returned v' ∧ Below w.heap.size w w')
    (h2 : ∀ (args : List AVal) (m : Mem) (v' : Value), sliceTb F args m = some v' → ∀ (w0 : Wo) (B : Nat) (ρ : Rho) (w : World) (xs : Array Value), MR w0 B ρ m w → RL ρ args xs.toList → Calls Tryz.prog f xs w fun e w' => e = .returned v' ∧ Below w.heap.size w w') :
    ∀ (args : List AVal) (m : Mem) (v' : Value), both v F args m = some v' → ∀ (w0 : Wo) (B : Nat) (ρ : Rho) (w : World) (xs : Array Value), MR w0 B ρ m w → RL ρ args xs.toList → Calls Tryz.prog f xs w fun e w' => e = .returned v' ∧ Below w.heap.size w w' := by
  intro args m v' ht
  unfold both at ht
  cases hn : noneTb v args with
  | some x => rw [hn] at ht; exact h1 args m v' (by rw [hn]; exact ht)
  | none => rw [hn] at ht; exact h2 args m v' ht
noncomputable def runB (f nt : Nat) (c : Code) (a : AVal) : RR := run Tryz.prog flN 300 ⟨f, nt, false, none⟩ [.code c] (argsT [a] 0 .e) [] .run [] mem0
noncomputable def shortK : Known Tryz.prog where
  f := 13
  tb := both (.bool true) shortV
  fn := ⟨_, _, Tryz.func13, rfl⟩
  ok := both_ok (none_ok Tryz.func13 rfl (by show (1 : Nat) ≤ 23; omega) (isBoolR_spec (by kernel_rfl)) (isBoolR_spec (by kernel_rfl))) (by
    intro args m v ht w0 B ρ w xs h hl
    obtain ⟨r, off, n, c, ex, l, rfl, hs, hF⟩ := sliceTb_spec ht
    unfold shortV at hF
    split at hF
    case isFalse => cases hF
    rename_i hlen
    cases hF
    exact strs_call (flK_ok []) Tryz.func13 rfl (by show (1 : Nat) ≤ 23; omega) hs (fun cp => sh_goes l cp true hlen _ (by rw [mem1_get]; rfl)) h hl)
noncomputable def freshK2 : Known Tryz.prog where
  f := 17
  tb := both (.string ⟨#[97]⟩) freeV
  fn := ⟨_, _, Tryz.func17, rfl⟩
  ok := both_ok (none_ok Tryz.func17 rfl (by show (1 : Nat) ≤ 18; omega) (isStrR_spec (by kernel_rfl)) (isStrR_spec (by kernel_rfl))) freshK.ok
noncomputable def refFreshK2 : Known Tryz.prog where
  f := 18
  tb := both (.string ⟨#[97]⟩) freeV
  fn := ⟨_, _, Tryz.func18, rfl⟩
  ok := both_ok (none_ok Tryz.func18 rfl (by show (1 : Nat) ≤ 18; omega) (isStrR_spec (by kernel_rfl)) (isStrR_spec (by kernel_rfl))) refFreshK.ok
end Go.Proofs.YtjefckdgpbdpeaaGreat
