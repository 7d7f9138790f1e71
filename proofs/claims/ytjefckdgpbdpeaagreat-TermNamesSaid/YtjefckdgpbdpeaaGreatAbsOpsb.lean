/- An executor whose runs hold in every world: a part of it and of what is proved of it. -/
import Derived.Test.YtjefckdgpbdpeaaGreatAbsOpsa

namespace Go.Abs
open Go
open Go.RowKit (Below)

section
variable {P : Program} {w0 : Wo} {B : Nat} {ρ : Rho} {m : Mem} {w : World}

theorem boundsPanic_sound (h : MR w0 B ρ m w) (k : IntKind) (x y : Int) (c : BoundsCode) : VR w0 B ρ (Abs.boundsPanic P m) ((Go.boundsPanic k x y c : Sem Value).run P w) := by
  have fin : ∀ (w' : World) (b : Bool), MR w0 B ρ m w' →
      VR w0 B ρ (Abs.boundsPanic P m) (.halt (.panic (.iface P.rt.boundsError (.agg #[.int .i64 (IntKind.i64.wrap x), .int .i64 y, .bool b, .int .u8 c.toNat]))) w') := fun w' b h' =>
    VR.panic h' (by simp only [R, RL]; exact ⟨_, rfl, _, rfl, _, _, rfl, trivial, _, _, rfl, trivial, _, _, rfl, trivial, _, _, rfl, trivial, rfl⟩)
  unfold Go.boundsPanic
  dsimp only
  by_cases hc : (k != .u64 && 0 ≤ x && x ≤ 31) = true
  · rw [if_pos hc]
    exact fin w.drew ((Question.cut (.extern "runtime.boundsError.signed" 2) (w.tape w.drawn (.extern "runtime.boundsError.signed" 2))) == 1) h.drew
  · rw [if_neg hc]
    exact (fin w _ h).of_eq rfl

theorem ixAt_sound (h : MR w0 B ρ m w) {r off n size : Nat} {p : Pl} (hp : ρ r = some p) (i : Int) {res : Result Value}
    (hin : ∀ j : Nat, i = j → j < n → res = .ok (.pointer (some ⟨p.b, off + p.s + j * size, none⟩)) w)
    (hout : ¬ (0 ≤ i ∧ i < n) → VR w0 B ρ (Abs.boundsPanic P m) res) : VR w0 B ρ (ixAt P m r off size n i) res := by
  cases i with
  | ofNat j =>
    show VR w0 B ρ (bif (j.succ).ble n then .val (.ptr r (off.add (j.mul size))) m else Abs.boundsPanic P m) res
    cases hb : (j.succ).ble n with
    | true =>
      rw [nat_ble] at hb
      rw [cond_true, hin j rfl (by omega)]
      refine (VR.same h (R.ptr hp (off + j * size))).of_eq ?_
      rw [show off + p.s + j * size = off + j * size + p.s from by omega]
    | false =>
      rw [nat_ble_f] at hb
      rw [cond_false]
      exact hout (fun hh => by have := hh.2; simp at this; omega)
  | negSucc j => exact hout (fun hh => by have := hh.1; simp at this)

theorem indexAddr_sound (h : MR w0 B ρ m w) (t : TypeId) {a ix : AVal} {x y : Value} (hx : R ρ a x) (hy : R ρ ix y) :
    VR w0 B ρ (indexA P t m a (intOf ix)) ((Instr.indexAt t x y).run P w) := by
  cases ix with
  | lit iy =>
    simp only [R] at hy; subst hy
    cases y with
    | int k i =>
      show VR w0 B ρ (Abs.indexAddr P t m i a) _
      unfold Instr.indexAt
      rw [run_bind]
      simp only [asIntOf, run_pure]
      cases a with
      | slice r off n c ex =>
        simp only [R] at hx
        obtain ⟨p, c', hp, _, _, _, rfl⟩ := hx
        show VR w0 B ρ (match sizedElem P (sliceElem P t) with | some (_, size) => ixAt P m r off size n i | none => .bad "indexAddr") _
        cases hs : sizedElem P (sliceElem P t) with
        | none => exact trivial
        | some es =>
          obtain ⟨e, size⟩ := es
          obtain ⟨h1, h2⟩ := sizedElem_some hs
          have hu := sliceElem_some h1
          refine ixAt_sound h hp i (fun j hj hlt => ?_) (fun hno => ?_)
          · subst hj
            simp only [run_bind, run_underlying' hu, run_pure]
            rw [if_pos (by omega)]
            simp only [run_bind, run_sizeOf' h2, run_pure, add_addr, Int.toNat_natCast]
          · simp only [run_bind, run_underlying' hu, run_pure]
            rw [if_neg hno]
            simp only [Bool.and_false, Bool.false_eq_true, if_false]
            exact boundsPanic_sound h _ _ _ _
      | emptyS =>
        simp only [R] at hx
        obtain ⟨a, c', rfl⟩ := hx
        show VR w0 B ρ (match sliceElem P t with | some _ => Abs.boundsPanic P m | none => .bad "indexAddr") _
        cases hs : sliceElem P t with
        | none => exact trivial
        | some e =>
          have hu := sliceElem_some hs
          simp only [run_bind, run_underlying' hu, run_pure]
          rw [if_neg (by omega)]
          simp only [Bool.and_false, Bool.false_eq_true, if_false]
          exact boundsPanic_sound h _ _ _ _
      | ptr r off =>
        simp only [R] at hx
        obtain ⟨p, hp, rfl⟩ := hx
        show VR w0 B ρ (match P.underlying t with
          | some (.array n e) => (match tsz P e with
            | some size => (match i with
              | .ofNat j => bif (j.succ).ble n then .val (.ptr r (off.add (j.mul size))) m else .bad "array bounds"
              | _ => .bad "array bounds")
            | none => .bad "indexAddr")
          | _ => .bad "indexAddr") _
        cases hu : P.underlying t with
        | none => exact trivial
        | some d =>
          cases d with
          | array n e =>
            dsimp only
            cases hs : tsz P e with
            | none => exact trivial
            | some size =>
              dsimp only
              cases i with
              | negSucc j => exact trivial
              | ofNat j =>
                show VR w0 B ρ (bif (j.succ).ble n then .val (.ptr r (off.add (j.mul size))) m else .bad "array bounds") _
                cases hb : (j.succ).ble n with
                | false => exact trivial
                | true =>
                  rw [nat_ble] at hb
                  rw [cond_true]
                  refine (VR.same h (R.ptr hp (off + j * size))).of_eq ?_
                  simp only [run_bind, run_underlying' hu, run_pure, Instr.sureAddr]
                  rw [if_pos (by simp; omega)]
                  simp only [run_bind, run_sizeOf' hs, run_pure, add_addr]
                  rw [show off + p.s + (Int.ofNat j).toNat * size = off + j * size + p.s from by simp; omega]
          | _ => exact trivial
      | lit a =>
        simp only [R] at hx; subst hx
        cases x with
        | slice b n c =>
          cases b with
          | some b => exact trivial
          | none =>
            cases n with
            | succ n => exact trivial
            | zero =>
              cases c with
              | succ c => exact trivial
              | zero =>
                show VR w0 B ρ (match sliceElem P t with | some _ => Abs.boundsPanic P m | none => .bad "indexAddr") _
                cases hs : sliceElem P t with
                | none => exact trivial
                | some e =>
                  have hu := sliceElem_some hs
                  simp only [run_bind, run_underlying' hu, run_pure]
                  exact boundsPanic_sound h _ _ _ _
        | _ => exact trivial
      | _ => exact trivial
    | _ => exact trivial
  | _ => exact trivial

theorem ixPart_sound (h : MR w0 B ρ m w) {v : AVal} {cs : Array Value} (hc : RL ρ v.cells cs.toList) (e : TypeId) (j : Nat) {res : Result Value}
    (hres : ∀ size, tsz P e = some size → res = (Go.part e cs (j * size)).run P w) : VR w0 B ρ (ixPart P m v e j (tsz P e)) res := by
  cases hs : tsz P e with
  | none => exact trivial
  | some size =>
    rw [hres size hs]
    show VR w0 B ρ (match Abs.part P e v.cells (j.mul size) with | some v => .val v m | none => .bad "index") _
    cases hp : Abs.part P e v.cells (j.mul size) with
    | none => exact trivial
    | some u =>
      obtain ⟨y, h1, h2⟩ := part_sound hc hp w
      exact (VR.same h h2).of_eq h1

theorem index_sound (h : MR w0 B ρ m w) (t : TypeId) {a ix : AVal} {x y : Value} (hx : R ρ a x) (hy : R ρ ix y) :
    VR w0 B ρ (indexV P t m a (intOf ix)) ((Instr.index t x y).run P w) := by
  cases ix with
  | lit iy =>
    simp only [R] at hy; subst hy
    cases y with
    | int k i =>
      show VR w0 B ρ (Abs.indexOp P t m i a) _
      have arr : ∀ v, R ρ v x → VR w0 B ρ (ixArr P m v i (P.underlying t)) ((Instr.index t x (.int k i)).run P w) := by
        intro v hv
        cases hu : P.underlying t with
        | none => exact trivial
        | some d =>
          cases d with
          | array n e =>
            show VR w0 B ρ (bif isAggV v then (match i with
              | .ofNat i => bif (i.succ).ble n then ixPart P m v e i (tsz P e) else Abs.boundsPanic P m
              | i => Abs.boundsPanic P m) else .bad "index") _
            cases ha : isAggV v with
            | false => exact trivial
            | true =>
              rw [cond_true]
              obtain ⟨cs, rfl, hc⟩ := isAggV_cells hv ha
              unfold Instr.index
              simp only [run_bind, asIntOf, run_pure, run_underlying' hu]
              cases i with
              | ofNat j =>
                show VR w0 B ρ (bif (j.succ).ble n then ixPart P m v e j (tsz P e) else Abs.boundsPanic P m) _
                cases hb : (j.succ).ble n with
                | true =>
                  rw [nat_ble] at hb
                  rw [cond_true, if_pos (by simp; omega)]
                  refine ixPart_sound h hc e j fun size hs => ?_
                  simp only [run_bind, run_sizeOf' hs]
                  rfl
                | false =>
                  rw [nat_ble_f] at hb
                  rw [cond_false, if_neg (by simp; omega)]
                  exact boundsPanic_sound h _ _ _ _
              | negSucc j =>
                rw [if_neg (by omega)]
                exact boundsPanic_sound h _ _ _ _
          | _ => exact trivial
      cases a with
      | lit v =>
        have hx' := hx
        simp only [R] at hx; subst hx
        cases x with
        | string s =>
          show VR w0 B ρ (bif isStrD (P.underlying t) then ixStr P m s i else .bad "index") _
          cases hs : isStrD (P.underlying t) with
          | false => exact trivial
          | true =>
            rw [cond_true]
            have hu : P.underlying t = some .string := by
              unfold isStrD at hs
              split at hs
              · assumption
              · cases hs
            unfold Instr.index
            simp only [run_bind, asIntOf, run_pure, run_underlying' hu]
            cases i with
            | ofNat j =>
              show VR w0 B ρ (match getO s.data.toList j with | some b => .val (.lit (.int .u8 (.ofNat b.toNat))) m | none => Abs.boundsPanic P m) _
              rw [getO_eq, if_pos (by simp)]
              have hg : s[(Int.ofNat j).toNat]? = s.data.toList[j]? := by
                show s[j]? = _
                rw [Array.getElem?_toList]
                rfl
              rw [hg]
              cases e : s.data.toList[j]? with
              | none => exact boundsPanic_sound h _ _ _ _
              | some b => exact (VR.lit h).of_eq rfl
            | negSucc j =>
              rw [if_neg (by omega)]
              exact boundsPanic_sound h _ _ _ _
        | _ => exact arr _ hx'
      | _ => exact arr _ hx
    | _ => exact trivial
  | _ => exact trivial

theorem extract_sound (h : MR w0 B ρ m w) (ix : Nat) {a : AVal} {x : Value} (hx : R ρ a x) : VR w0 B ρ (extractOp ix m a) ((Instr.extract x ix).run P w) := by
  cases a with
  | tuple vs =>
    simp only [R] at hx
    obtain ⟨cs, rfl, hc⟩ := hx
    show VR w0 B ρ (valO m "extract" (getO vs ix)) _
    rw [getO_eq]
    cases e : vs[ix]? with
    | none => exact trivial
    | some v =>
      obtain ⟨y, h1, h2⟩ := hc.get e
      refine (VR.same h h2).of_eq ?_
      have : cs[ix]? = some y := by simpa using h1
      simp only [Instr.extract, this]
      rfl
  | lit v =>
    simp only [R] at hx; subst hx
    cases x with
    | tuple vs =>
      show VR w0 B ρ (valO m "extract" ((getO vs.toList ix).map .lit)) _
      rw [getO_eq]
      cases e : vs.toList[ix]? with
      | none => exact trivial
      | some v =>
        refine (VR.lit h).of_eq ?_
        have : vs[ix]? = some v := by simpa using e
        simp only [Instr.extract, this]
        rfl
    | _ => exact trivial
  | _ => exact trivial
end
end Go.Abs
