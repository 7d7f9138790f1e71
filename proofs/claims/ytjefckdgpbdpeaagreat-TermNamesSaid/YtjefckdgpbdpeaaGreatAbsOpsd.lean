/- An executor whose runs hold in every world: a part of it and of what is proved of it. -/
import Derived.Test.YtjefckdgpbdpeaaGreatAbsOpsc

namespace Go.Abs
open Go
open Go.RowKit (Below)

section
variable {P : Program} {w0 : Wo} {B : Nat} {ρ : Rho} {m : Mem} {w : World}

theorem nat_of {a : AVal} {v : Value} {n : Nat} (ha : R ρ a v) (hn : natOf a = some n) : ∃ k, v = .int k (.ofNat n) := by
  unfold natOf at hn
  split at hn
  · simp only [R] at ha; cases hn; exact ⟨_, ha⟩
  · cases hn
/-- an operand that may be missing -/
def OptR (ρ : Rho) (a : Option AVal) (x : Option Value) : Prop := match a, x with
  | none, none => True
  | some v, some y => R ρ v y
  | _, _ => False
theorem run_sliceBound {v : Value} {k : IntKind} {n y : Nat} (hv : v = .int k (.ofNat n)) (h : n ≤ y) (c : BoundsCode) (w : World) : (Instr.sliceBound v y c).run P w = .ok n w := by
  subst hv
  unfold Instr.sliceBound
  simp only [run_bind, asIntOf, run_pure]
  rw [if_pos (by simp; omega)]
  rfl
theorem nDef_some {ρ : Rho} {a : Option AVal} {x : Option Value} {d n : Nat} (h : OptR ρ a x) (hn : nDef d a = some n) :
    (a = none ∧ x = none ∧ n = d) ∨ (∃ v k, a = some v ∧ x = some (.int k (.ofNat n))) := by
  cases a with
  | none => cases x with
    | none => left; simp only [nDef, Option.some.injEq] at hn; exact ⟨rfl, rfl, hn.symm⟩
    | some y => exact h.elim
  | some v => cases x with
    | none => exact h.elim
    | some y =>
      right
      obtain ⟨k, rfl⟩ := nat_of h hn
      exact ⟨v, k, rfl, rfl⟩

theorem bounds_sound {lo hi mx : Option AVal} {xl xh xm : Option Value} (hl : OptR ρ lo xl) (hh : OptR ρ hi xh) (hm : OptR ρ mx xm) {n c c' l h k : Nat}
    (el : nDef 0 lo = some l) (eh : nDef n hi = some h) (em : nDef c mx = some k) (hc : c ≤ c') (h1 : l ≤ h) (h2 : h ≤ k) (h3 : k ≤ c) (hmx : mx.isSome = true → hi.isSome = true)
    (b : Bool) (w : World) : (Instr.sliceBounds b n c' xl xh xm).run P w = .ok (l, h, if mx.isSome then k else c') w := by
  have s1 : ∀ kk cd, (Instr.sliceBound (.int kk (l : Int)) h cd).run P w = .ok l w := fun kk cd => run_sliceBound rfl h1 cd w
  have s2 : ∀ kk cd, (Instr.sliceBound (.int kk (h : Int)) k cd).run P w = .ok h w := fun kk cd => run_sliceBound rfl h2 cd w
  have s3 : ∀ kk cd, (Instr.sliceBound (.int kk (h : Int)) c' cd).run P w = .ok h w := fun kk cd => run_sliceBound rfl (by omega) cd w
  have s4 : ∀ kk cd, (Instr.sliceBound (.int kk (k : Int)) c' cd).run P w = .ok k w := fun kk cd => run_sliceBound rfl (by omega) cd w
  unfold Instr.sliceBounds
  rcases nDef_some hm em with ⟨rfl, rfl, rfl⟩ | ⟨vm, km, rfl, rfl⟩
  · rcases nDef_some hh eh with ⟨rfl, rfl, rfl⟩ | ⟨vh, kh, rfl, rfl⟩
    · rcases nDef_some hl el with ⟨rfl, rfl, rfl⟩ | ⟨vl, kl, rfl, rfl⟩
      · simp
      · simp [s1]
    · rcases nDef_some hl el with ⟨rfl, rfl, rfl⟩ | ⟨vl, kl, rfl, rfl⟩
      · simp [s3]
      · simp [s1, s3]
  · rcases nDef_some hh eh with ⟨rfl, rfl, rfl⟩ | ⟨vh, kh, rfl, rfl⟩
    · exact absurd (hmx rfl) (by simp)
    · rcases nDef_some hl el with ⟨rfl, rfl, rfl⟩ | ⟨vl, kl, rfl, rfl⟩
      · simp [s2, s4]
      · simp [s1, s2, s4]

/-- the slice that is taken out of a row -/
theorem sliceAt_sound (h : MR w0 B ρ m w) {r off n c c' size : Nat} {p : Pl} (hp : ρ r = some p) {ex ex' : Bool} {lo hi mx : Option AVal} {xl xh xm : Option Value}
    (hl : OptR ρ lo xl) (hh : OptR ρ hi xh) (hm : OptR ρ mx xm) (hmx : mx.isSome = true → hi.isSome = true) (hex' : ex' = (mx.isSome || ex)) (hc : c ≤ c') (hexc : ex = true → c' = c)
    (hopen : ex = false → off + p.s + c' * p.q ≤ p.z) (b : Bool) (res : Result Value)
    (hres : ∀ l h' k, (Instr.sliceBounds b n c' xl xh xm).run P w = .ok (l, h', k) w →
      res = .ok (.slice (some (if k = l then ⟨p.b, off + p.s, none⟩ else ⟨p.b, off + p.s + l * size, none⟩)) (h' - l) (k - l)) w) :
    VR w0 B ρ (sliceAt m r off c size ex ex' (nDef 0 lo) (nDef n hi) (nDef c mx)) res := by
  cases el : nDef 0 lo with
  | none => unfold sliceAt; exact trivial
  | some l =>
    cases eh : nDef n hi with
    | none => unfold sliceAt; exact trivial
    | some h' =>
      cases em : nDef c mx with
      | none => unfold sliceAt; exact trivial
      | some k =>
        show VR w0 B ρ (bif (l.ble h' && h'.ble k && k.ble c) then
          bif k.beq l then (bif ex' then .val (.slice r off (h'.sub l) (k.sub l) true) m else .val .emptyS m)
          else bif ex' || ex then .val (.slice r (off.add (l.mul size)) (h'.sub l) (k.sub l) true) m
          else sliceOpen m r (off.add (l.mul size)) (h'.sub l) (k.sub l) size (m.heap.get r) else .bad "slice bounds") res
        cases hb : (l.ble h' && h'.ble k && k.ble c) with
        | false => exact trivial
        | true =>
          simp only [Bool.and_eq_true, nat_ble] at hb
          obtain ⟨⟨b1, b2⟩, b3⟩ := hb
          rw [cond_true]
          have hr := hres l h' _ (bounds_sound hl hh hm el eh em hc b1 b2 b3 hmx b w)
          -- what the capacity is
          have hcap : ex' = true → (if mx.isSome then k else c') = k := by
            intro he
            cases hs : mx.isSome with
            | true => simp
            | false =>
              rw [hs, Bool.false_or] at hex'
              have := hexc (hex' ▸ he)
              rcases nDef_some hm em with ⟨rfl, _, rfl⟩ | ⟨v, kk, rfl, _⟩
              · simp [this]
              · simp at hs
          cases hkl : k.beq l with
          | true =>
            rw [nat_beq] at hkl
            subst hkl
            rw [cond_true]
            cases he : ex' with
            | true =>
              rw [cond_true, hr, hcap he, if_pos rfl]
              refine VR.same h ?_
              simp only [R]
              refine ⟨p, k - k, hp, ?_, fun _ => ?_, (fun hh => by cases hh), rfl⟩
              · show k - k ≤ k - k; omega
              · show k - k = k - k; rfl
            | false =>
              rw [cond_false, hr]
              have hz : h' - k = 0 := by omega
              rw [hz]
              refine VR.same h ?_
              simp only [R]
              exact ⟨_, _, rfl⟩
          | false =>
            rw [nat_beq_f] at hkl
            rw [cond_false]
            cases he : (ex' || ex) with
            | true =>
              rw [cond_true]
              have he' : ex' = true := by
                cases ex' with
                | true => rfl
                | false => simp at he; rw [he] at hex'; simp at hex'
              rw [hr, hcap he', if_neg hkl]
              refine VR.same h ?_
              simp only [R]
              refine ⟨p, k - l, hp, ?_, fun _ => rfl, (fun hh => by cases hh), ?_⟩
              · show k - l ≤ k - l; omega
              · show Value.slice (some ⟨p.b, off + p.s + l * size, none⟩) (h' - l) (k - l) = .slice (some ⟨p.b, off + l * size + p.s, none⟩) (h' - l) (k - l)
                rw [show off + p.s + l * size = off + l * size + p.s from by omega]
            | false =>
              rw [cond_false]
              have hx : ex' = false ∧ ex = false := by simpa using he
              have hms : mx.isSome = false := by
                cases hs : mx.isSome with
                | false => rfl
                | true => rw [hs, hx.1] at hex'; simp at hex'
              have hkc : k = c := by
                rcases nDef_some hm em with ⟨_, _, rfl⟩ | ⟨v, kk, rfl, _⟩
                · rfl
                · simp at hms
              unfold sliceOpen
              split
              · rename_i e cells f pos ho
                cases hes : e.2.beq size with
                | false => exact trivial
                | true =>
                  rw [nat_beq] at hes
                  rw [cond_true, hr]
                  simp only [hms, Bool.false_eq_true, if_false]
                  have hq : p.q = e.2 := (h.obj r _ p ho hp).2.1
                  have hop := hopen hx.2
                  rw [if_neg (by omega)]
                  refine VR.same h ?_
                  simp only [R]
                  refine ⟨p, c' - l, hp, ?_, (fun hh => by cases hh), fun _ => ?_, ?_⟩
                  · show k - l ≤ c' - l; omega
                  · show off + l * size + p.s + (c' - l) * p.q ≤ p.z
                    have : c' * p.q = l * size + (c' - l) * p.q := by
                      rw [hq, hes, ← Nat.add_mul]; congr 1; omega
                    omega
                  · show Value.slice (some ⟨p.b, off + p.s + l * size, none⟩) (h' - l) (c' - l) = .slice (some ⟨p.b, off + l * size + p.s, none⟩) (h' - l) (c' - l)
                    rw [show off + p.s + l * size = off + l * size + p.s from by omega]
              · exact trivial

theorem slice_sound (h : MR w0 B ρ m w) (t : TypeId) {a : AVal} {x : Value} (hx : R ρ a x) {lo hi mx : Option AVal} {xl xh xm : Option Value}
    (hl : OptR ρ lo xl) (hh : OptR ρ hi xh) (hm : OptR ρ mx xm) : VR w0 B ρ (sliceOp P t lo hi mx m a) ((Instr.sliceAt t x xl xh xm).run P w) := by
  unfold sliceOp
  cases hmh : (mx.isSome && !hi.isSome) with
  | true => exact trivial
  | false =>
    rw [cond_false]
    have hmx : mx.isSome = true → hi.isSome = true := by
      intro e
      rw [e] at hmh
      simpa using hmh
    have arr : ∀ (r off : Nat) (p : Pl), ρ r = some p → x = .pointer (some ⟨p.b, off + p.s, none⟩) →
        VR w0 B ρ (sliceArr P m r off lo hi mx (arrOf P t)) ((Instr.sliceAt t x xl xh xm).run P w) := by
      intro r off p hp hxp
      subst hxp
      cases hu : P.underlying t with
      | none => unfold arrOf; rw [hu]; exact trivial
      | some d =>
        have go : ∀ n e, arrOf P t = some (.array n e) →
            (∀ size l h' k, tsz P e = some size → (Instr.sliceBounds false n n xl xh xm).run P w = .ok (l, h', k) w →
              (Instr.sliceAt t (.pointer (some ⟨p.b, off + p.s, none⟩)) xl xh xm).run P w =
                .ok (.slice (some (if k = l then ⟨p.b, off + p.s, none⟩ else ⟨p.b, off + p.s + l * size, none⟩)) (h' - l) (k - l)) w) →
            VR w0 B ρ (sliceArr P m r off lo hi mx (arrOf P t)) ((Instr.sliceAt t (.pointer (some ⟨p.b, off + p.s, none⟩)) xl xh xm).run P w) := by
          intro n e harr hrun
          rw [harr]
          show VR w0 B ρ (match tsz P e with | some size => sliceAt m r off n size true true (nDef 0 lo) (nDef n hi) (nDef n mx) | none => .bad "slice arr") _
          cases hs : tsz P e with
          | none => exact trivial
          | some size =>
            exact sliceAt_sound (P := P) h hp hl hh hm hmx (by simp) (Nat.le_refl _) (fun _ => rfl) (fun hh => by cases hh) false _ fun l h' k hb => hrun size l h' k hs hb
        cases d with
        | array n e =>
          refine go n e (by unfold arrOf; rw [hu]) fun size l h' k hs hb => ?_
          unfold Instr.sliceAt
          simp only [run_bind, run_underlying' hu, Instr.sureAddr, run_pure, hb, run_sizeOf' hs, add_addr]
        | pointer arr =>
          cases hu2 : P.underlying arr with
          | none => unfold arrOf; rw [hu]; dsimp only; rw [hu2]; exact trivial
          | some d2 =>
            cases d2 with
            | array n e =>
              refine go n e (by unfold arrOf; rw [hu]; exact hu2) fun size l h' k hs hb => ?_
              unfold Instr.sliceAt
              simp only [run_bind, run_underlying' hu]
              unfold Instr.slice
              simp only [run_bind, run_underlying' hu, run_underlying' hu2, asAddr, run_pure, hb, run_sizeOf' hs, add_addr]
            | _ => unfold arrOf; rw [hu]; dsimp only; rw [hu2]; exact trivial
        | _ => unfold arrOf; rw [hu]; exact trivial
    cases a with
    | slice r off n c ex =>
      simp only [R] at hx
      obtain ⟨p, c', hp, h1, h2, h3, rfl⟩ := hx
      show VR w0 B ρ (match sizedElem P (sliceElem P t) with | some (_, size) => sliceAt m r off c size ex (mx.isSome || ex) (nDef 0 lo) (nDef n hi) (nDef c mx) | none => .bad "slice type") _
      cases hs : sizedElem P (sliceElem P t) with
      | none => exact trivial
      | some es =>
        obtain ⟨e, size⟩ := es
        obtain ⟨k1, k2⟩ := sizedElem_some hs
        have hu := sliceElem_some k1
        refine sliceAt_sound (P := P) h hp hl hh hm hmx rfl h1 h2 h3 true _ fun l h' k hb => ?_
        unfold Instr.sliceAt
        simp only [run_bind, run_underlying' hu]
        unfold Instr.slice
        simp only [run_bind, run_underlying' hu, hb, run_sizeOf' k2, run_pure, add_addr, Option.map_some]
        by_cases hk : k = l
        · simp [hk]
        · simp [hk]
    | ptr r off =>
      simp only [R] at hx
      obtain ⟨p, hp, hxp⟩ := hx
      exact arr r off p hp hxp
    | lit v =>
      simp only [R] at hx; subst hx
      cases x with
      | string s =>
        show VR w0 B ρ (bif mx.isSome || !(isStrD (P.underlying t)) then .bad "slice of a string" else sliceStr m s (nDef 0 lo) (nDef s.size hi)) _
        cases hb : (mx.isSome || !(isStrD (P.underlying t))) with
        | true => exact trivial
        | false =>
          rw [cond_false]
          simp only [Bool.or_eq_false_iff, Bool.not_eq_false'] at hb
          obtain ⟨b1, b2⟩ := hb
          have hu : P.underlying t = some .string := by
            unfold isStrD at b2
            split at b2
            · assumption
            · cases b2
          have hmn : mx = none := by cases mx <;> simp at b1; rfl
          subst hmn
          have hxm : xm = none := by cases xm with
            | none => rfl
            | some y => exact hm.elim
          subst hxm
          cases el : nDef 0 lo with
          | none => exact trivial
          | some l =>
            cases eh : nDef s.size hi with
            | none => exact trivial
            | some h' =>
              show VR w0 B ρ (bif (l.ble h' && h'.ble s.size) then .val (.lit (.string (s.extract l h'))) m else .bad "slice bounds") _
              cases hc : (l.ble h' && h'.ble s.size) with
              | false => exact trivial
              | true =>
                simp only [Bool.and_eq_true, nat_ble] at hc
                rw [cond_true]
                have hbd := bounds_sound (P := P) hl hh (show OptR ρ none none from trivial) (c := s.size) el eh rfl (Nat.le_refl _) hc.1 hc.2 (Nat.le_refl _) (fun e => by cases e) false w
                refine (VR.lit h).of_eq ?_
                unfold Instr.sliceAt
                simp only [run_bind, run_underlying' hu]
                unfold Instr.slice
                simp only [run_bind, run_underlying' hu, Option.isSome_none, Bool.false_eq_true, if_false, hbd]
                rfl
      | slice b n c =>
        cases b with
        | some b => exact trivial
        | none =>
          cases n with
          | succ n => exact trivial
          | zero =>
            cases c with
            | succ c => exact trivial
            | zero =>
              show VR w0 B ρ (sliceNil P t m (nDef 0 lo) (nDef 0 hi) (nDef 0 mx)) _
              unfold sliceNil
              split
              · rename_i el eh em
                cases hs : sizedElem P (sliceElem P t) with
                | none => exact trivial
                | some es =>
                  obtain ⟨e, size⟩ := es
                  obtain ⟨k1, k2⟩ := sizedElem_some hs
                  have hu := sliceElem_some k1
                  have hbd := bounds_sound (P := P) hl hh hm (c := 0) el eh em (Nat.le_refl 0) (Nat.le_refl _) (Nat.le_refl _) (Nat.le_refl _) hmx true w
                  refine (VR.lit h).of_eq ?_
                  unfold Instr.sliceAt
                  simp only [run_bind, run_underlying' hu]
                  unfold Instr.slice
                  simp only [run_bind, run_underlying' hu, hbd, run_sizeOf' k2, run_pure]
                  simp
              · exact trivial
      | _ => exact trivial
    | _ => exact trivial
end
end Go.Abs
