/- A part of the proof that TermNames returns true. -/
import Derived.Test.YtjefckdgpbdpeaaGreatTname

namespace Go.Proofs.YtjefckdgpbdpeaaGreat
open Go Go.Abs
open Go.RowKit (Below)
set_option maxRecDepth 10000

/-- the first words -/
def wL : List ByteArray := [⟨#[97]⟩, ⟨#[98]⟩, ⟨#[99]⟩, ⟨#[100]⟩, ⟨#[101]⟩, ⟨#[102]⟩, ⟨#[103]⟩, ⟨#[104]⟩, ⟨#[105]⟩, ⟨#[106]⟩, ⟨#[107]⟩, ⟨#[108]⟩, ⟨#[109]⟩, ⟨#[110]⟩, ⟨#[111]⟩, ⟨#[112]⟩, ⟨#[113]⟩, ⟨#[114]⟩, ⟨#[115]⟩, ⟨#[116]⟩, ⟨#[117]⟩, ⟨#[118]⟩, ⟨#[119]⟩, ⟨#[120]⟩, ⟨#[121]⟩, ⟨#[122]⟩, ⟨#[97, 97]⟩, ⟨#[97, 98]⟩, ⟨#[97, 99]⟩, ⟨#[97, 100]⟩, ⟨#[97, 101]⟩, ⟨#[97, 102]⟩, ⟨#[97, 103]⟩, ⟨#[97, 104]⟩, ⟨#[97, 105]⟩, ⟨#[97, 106]⟩, ⟨#[97, 107]⟩, ⟨#[97, 108]⟩, ⟨#[97, 109]⟩, ⟨#[97, 110]⟩, ⟨#[97, 111]⟩, ⟨#[97, 112]⟩, ⟨#[97, 113]⟩, ⟨#[97, 114]⟩, ⟨#[97, 115]⟩, ⟨#[97, 116]⟩, ⟨#[97, 117]⟩, ⟨#[97, 118]⟩, ⟨#[97, 119]⟩, ⟨#[97, 120]⟩, ⟨#[97, 121]⟩, ⟨#[97, 122]⟩, ⟨#[98, 97]⟩, ⟨#[98, 98]⟩, ⟨#[98, 99]⟩, ⟨#[98, 100]⟩, ⟨#[98, 101]⟩, ⟨#[98, 102]⟩, ⟨#[98, 103]⟩, ⟨#[98, 104]⟩, ⟨#[98, 105]⟩, ⟨#[98, 106]⟩, ⟨#[98, 107]⟩, ⟨#[98, 108]⟩, ⟨#[98, 109]⟩, ⟨#[98, 110]⟩, ⟨#[98, 111]⟩, ⟨#[98, 112]⟩, ⟨#[98, 113]⟩, ⟨#[98, 114]⟩, ⟨#[98, 115]⟩, ⟨#[98, 116]⟩, ⟨#[98, 117]⟩, ⟨#[98, 118]⟩, ⟨#[98, 119]⟩, ⟨#[98, 120]⟩, ⟨#[98, 121]⟩, ⟨#[98, 122]⟩, ⟨#[99, 97]⟩, ⟨#[99, 98]⟩, ⟨#[99, 99]⟩, ⟨#[99, 100]⟩, ⟨#[99, 101]⟩, ⟨#[99, 102]⟩, ⟨#[99, 103]⟩, ⟨#[99, 104]⟩, ⟨#[99, 105]⟩, ⟨#[99, 106]⟩, ⟨#[99, 107]⟩, ⟨#[99, 108]⟩, ⟨#[99, 109]⟩]
noncomputable def flN : Fl := ⟨[], fun _ _ _ => none⟩
noncomputable def isStrR (r : RR) (b : Option ByteArray) : Bool := match r, b with
  | .ret (.lit (.string a)) _ _, some b => bytesEq a.data.toList b.data.toList
  | _, _ => false
theorem isStrR_spec {r : RR} {b : ByteArray} (h : isStrR r (some b) = true) : ∃ up m, r = .ret (.lit (.string b)) up m := by
  unfold isStrR at h
  split at h
  · rename_i a up m b' e
    cases e
    rw [bytes_ext (bytesEq_sound h)]
    exact ⟨_, _, rfl⟩
  · cases h
noncomputable def wordRun (i : Nat) : RR := run Tryz.prog flN 300 ⟨56, 19, false, none⟩ [.code (bodyF Tryz.f56)] (argsT [goI (i + 1)] 0 .e) [] .run [] mem0
theorem words_run : (List.range 91).all (fun i => isStrR (wordRun i) wL[i]?) = true := by kernel_rfl
noncomputable def afterRun (b : ByteArray) : RR := run Tryz.prog flN 300 ⟨92, 33, false, none⟩ [.code (bodyF Tryz.f92)] (argsT [.lit (.string b)] 0 .e) [] .run [] mem0
theorem after_run : (List.range 90).all (fun i => match wL[i]? with | some b => isStrR (afterRun b) wL[i + 1]? | none => false) = true := by kernel_rfl
theorem calls_run {f : FuncId} {fn : Func} {c : Code} (hf : Tryz.prog.funcs[f]? = some fn) (hb : fn.body = some c) {args : List Value} (hlen : args.length ≤ fn.ntmps) {v : Value} {n : Nat}
    (hg : ∃ up m, run Tryz.prog flN n ⟨f, fn.ntmps, false, none⟩ [.code c] (argsT (args.map .lit) 0 .e) [] .run [] mem0 = .ret (.lit v) up m) {ρ : Rho} {w : World} {xs : Array Value} (hl : RL ρ (args.map .lit) xs.toList) :
    Calls Tryz.prog f xs w fun e w' => e = .returned v ∧ Below w.heap.size w w' := by
  obtain ⟨up, m, hg⟩ := hg
  have hx : xs.toList = args := by
    have key : ∀ (l : List Value) (y : List Value), RL ρ (l.map .lit) y → y = l := by
      intro l
      induction l with
      | nil => intro y h; simpa [RL] using h
      | cons a l ih =>
        intro y h
        simp only [List.map_cons, RL] at h
        obtain ⟨x, xs, rfl, h1, h2⟩ := h
        simp only [R] at h1
        rw [h1, ih xs h2]
    exact key args _ hl
  refine calls_by (Rn := run Tryz.prog flN n) (fun B w0 => run_ok names (TbOK.none _ _) mixed n w0) (ρ := fun _ => none) (args := args.map .lit) (m := mem0) (MR.empty w) (by rw [hx]; exact RL.lits args) (up' := up) (m' := m) ?_
  rw [hf]
  unfold callBody0
  dsimp only
  have : (lenL (args.map AVal.lit)).ble fn.ntmps = true := by rw [nat_ble, lenL_eq, List.length_map]; exact hlen
  rw [this, cond_true, hb]
  exact hg
noncomputable def wordK : Known Tryz.prog where
  f := 56
  tb := fun args _ => match args with | [.lit (.int .i64 (.ofNat (i + 1)))] => (wL[i]?).map .string | _ => none
  fn := ⟨_, _, Tryz.func56, rfl⟩
  ok := by
    intro args m v ht w0 B ρ w xs h hl
    split at ht
    case h_2 => cases ht
    rename_i i
    rw [Option.map_eq_some_iff] at ht
    obtain ⟨b, hb, rfl⟩ := ht
    have hi : i < 91 := (List.getElem?_eq_some_iff.1 hb).1
    have h1 := words_run
    rw [List.all_eq_true] at h1
    have h2 := h1 i (List.mem_range.2 hi)
    rw [hb] at h2
    exact calls_run (args := [.int .i64 (.ofNat (i + 1))]) Tryz.func56 rfl (by show (1 : Nat) ≤ 19; omega) (isStrR_spec h2) hl
noncomputable def afterK : Known Tryz.prog where
  f := 92
  tb := fun args _ => match args with | [.lit (.string s)] => (match wL.findIdx? (fun b => seq b s) with | some i => if i < 90 then (wL[i + 1]?).map .string else none | none => none) | _ => none
  fn := ⟨_, _, Tryz.func92, rfl⟩
  ok := by
    intro args m v ht w0 B ρ w xs h hl
    split at ht
    case h_2 => cases ht
    rename_i s
    cases hf : wL.findIdx? (fun b => seq b s) with
    | none => rw [hf] at ht; cases ht
    | some i =>
      rw [hf] at ht
      dsimp only at ht
      split at ht
      case isFalse => cases ht
      rename_i hi
      rw [Option.map_eq_some_iff] at ht
      obtain ⟨b, hb, rfl⟩ := ht
      rw [List.findIdx?_eq_some_iff_getElem] at hf
      obtain ⟨hlt, hs, _⟩ := hf
      rw [seq_iff] at hs
      have hw : wL[i]? = some s := by rw [List.getElem?_eq_getElem hlt, hs]
      have h1 := after_run
      rw [List.all_eq_true] at h1
      have h2 := h1 i (List.mem_range.2 hi)
      rw [hw, hb] at h2
      exact calls_run (args := [.string s]) Tryz.func92 rfl (by show (1 : Nat) ≤ 33; omega) (isStrR_spec h2) hl
theorem wL_len : wL.length = 91 := rfl
theorem after_tb {i : Nat} {s b : ByteArray} (hs : wL[i]? = some s) (hb : wL[i + 1]? = some b) (m : Mem) : afterK.tb [.lit (.string s)] m = some (.string b) := by
  have hdis : (List.range 91).all (fun i => match wL[i]? with | some s => wL.findIdx? (fun b => seq b s) == some i | none => false) = true := by decide +kernel
  have hi : i + 1 < 91 := (List.getElem?_eq_some_iff.1 hb).1
  rw [List.all_eq_true] at hdis
  have h2 := hdis i (List.mem_range.2 (by omega))
  rw [hs] at h2
  have h3 : wL.findIdx? (fun b => seq b s) = some i := by simpa using h2
  show (match wL.findIdx? (fun b => seq b s) with | some i => if i < 90 then (wL[i + 1]?).map Value.string else none | none => none) = _
  rw [h3]
  dsimp only
  rw [if_pos (by omega), hb]
  rfl
theorem wL_names : ∀ (i : Nat) (b : ByteArray), wL[i]? = some b → refNameB b = true ∧ isIn b kwB = false := by
  intro i b hb
  have h : wL.all (fun b => refNameB b && !isIn b kwB) = true := by decide +kernel
  rw [List.all_eq_true] at h
  have := h b (List.mem_of_getElem? hb)
  rw [Bool.and_eq_true] at this
  exact ⟨this.1, by simpa using this.2⟩
def apartB : List ByteArray → Bool
  | [] => true
  | b :: l => !isIn b l && apartB l
theorem pigeon : ∀ (ws l : List ByteArray), apartB ws = true → (∀ b ∈ ws, b ∈ l) → ws.length ≤ l.length
  | [], l, _, _ => Nat.zero_le _
  | w :: ws, l, hp, hs => by
    unfold apartB at hp
    rw [Bool.and_eq_true] at hp
    obtain ⟨hw, hp⟩ := hp
    have hw' : w ∉ ws := fun h => by rw [(isIn_iff w ws).2 h] at hw; cases hw
    obtain ⟨l1, l2, rfl⟩ := List.append_of_mem (hs w (by simp))
    have := pigeon ws (l1 ++ l2) hp (fun b hb => by
      have h1 := hs b (by simp [hb])
      rcases List.mem_append.1 h1 with h2 | h2
      · exact List.mem_append.2 (.inl h2)
      · rcases List.mem_cons.1 h2 with rfl | h2
        · exact absurd hb hw'
        · exact List.mem_append.2 (.inr h2))
    simp only [List.length_append, List.length_cons] at this ⊢
    omega
theorem wL_apart : apartB wL = true := by decide +kernel
/-- the first word that is none of some strings -/
def freeOf (l : List ByteArray) (ws : List ByteArray) : Option ByteArray := ws.find? fun b => !isIn b l
theorem freeOf_some (l : List ByteArray) (hl : l.length ≤ 90) : ∃ b, freeOf l wL = some b := by
  unfold freeOf
  cases h : wL.find? fun b => !isIn b l with
  | some b => exact ⟨b, rfl⟩
  | none =>
    exfalso
    rw [List.find?_eq_none] at h
    have hsub : ∀ b ∈ wL, b ∈ l := fun b hb => (isIn_iff b l).1 (by simpa using h b hb)
    have := pigeon wL l wL_apart hsub
    rw [wL_len] at this
    omega
end Go.Proofs.YtjefckdgpbdpeaaGreat
