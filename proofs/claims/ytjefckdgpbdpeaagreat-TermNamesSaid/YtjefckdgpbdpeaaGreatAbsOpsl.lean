/- An executor whose runs hold in every world: a part of it and of what is proved of it. -/
import Derived.Test.YtjefckdgpbdpeaaGreatAbsOpsk

namespace Go.Abs
open Go
open Go.RowKit (Below)

section
variable {P : Program} {w0 : Wo} {B : Nat} {ρ : Rho} {m : Mem} {w : World}

theorem ER.filter (p : Nat → Bool) : ∀ {es : List AEnt} {l : List MapEntry}, ER ρ es l → ER ρ (es.filter fun e => p e.born) (l.filter fun e => p e.born)
  | [], l, h => by
    have h' : l = [] := h
    subst h'
    exact rfl
  | a :: es, l, h => by
    obtain ⟨y, ys, rfl, h2, h3, h4, h5⟩ := h
    simp only [List.filter_cons, h3]
    cases hp : p a.born with
    | true => simp only [if_true]; exact ⟨_, _, rfl, h2, h3, h4, ER.filter p h5⟩
    | false => simp only [Bool.false_eq_true, if_false]; exact ER.filter p h5
theorem ER.mem {es : List AEnt} {l : List MapEntry} (h : ER ρ es l) {x : MapEntry} (hx : x ∈ l) : ∃ e ∈ es, x.key = e.key ∧ x.born = e.born ∧ R ρ e.val x.val := by
  induction es generalizing l with
  | nil => have h' : l = [] := h; subst h'; cases hx
  | cons a es ih =>
    obtain ⟨y, ys, rfl, h2, h3, h4, h5⟩ := h
    rcases List.mem_cons.1 hx with rfl | hx
    · exact ⟨a, by simp, h2, h3, h4⟩
    · obtain ⟨e, h6, h7⟩ := ih h5 hx
      exact ⟨e, by simp [h6], h7⟩

theorem run_choose_map (n : Nat) (hn : 0 < n) (w : World) : ∃ i w', (choose (.mapNext n)).run P w = .ok i w' ∧ i < n ∧ w'.heap = w.heap ∧ (∀ B w0, Below B w0 w → Below B w0 w') ∧ (w' = w ∨ w' = w.drew) := by
  by_cases hf : n ≤ 1
  · refine ⟨0, w, ?_, hn, rfl, fun _ _ h => h, .inl rfl⟩
    have hq : (Question.mapNext n).forced = true := by simpa [Question.forced] using hf
    simp only [choose, Sem.run, hq, if_true]
  · refine ⟨w.tape w.drawn (.mapNext n) % n, w.drew, ?_, Nat.mod_lt _ hn, rfl, fun _ _ h => h.drew, .inr rfl⟩
    have hq : (Question.mapNext n).forced = false := by simpa [Question.forced] using hf
    simp only [choose, Sem.run, hq, Bool.false_eq_true, if_false]
    rfl

/-- what stepping an iterator says -/
def XR (w0 : Wo) (B : Nat) (ρ : Rho) (m : Mem) (w : World) (nx : Nx) (P : Program) (r : Result Next) : Prop :=
  match nx with
  | .out o => NR w0 B ρ m w o P r
  | .alts m' q c since seen clock es => m' = m ∧ ∃ e ∈ es, NR w0 B ρ m w (tookE m' q c since seen clock e) P r

theorem nextStr_sound (h : MR w0 B ρ m w) {r : Nat} {p : Pl} (hp : ρ r = some p) {s : ByteArray} {pos : Nat} (ho : m.heap.get r = some (.strIter s pos)) (ty : TypeId) :
    VR w0 B ρ (nextStr m r s pos) ((Instr.next (.pointer (some ⟨p.b, 0, none⟩)) true ty).run P w) := by
  obtain ⟨hB, hpo, hw⟩ := h.obj r _ p ho hp
  have hgo := run_getObj (P := P) hw (fun _ _ _ e => by cases e)
  unfold nextStr
  cases hlt : pos.succ.ble s.size with
  | true =>
    rw [cond_true]
    have hlt' : pos < s.size := nat_ble.1 hlt
    refine ⟨.tuple #[.bool true, goInt pos, .int .i32 (Utf8.decode s pos).1], _, ρ, ?_, Rho.le.refl ρ, h.put ho hp (fun _ _ _ _ e => by cases e) (fun _ e => by cases e) (fun _ _ _ _ e => by cases e) hB (x := .stringIter s (pos + (Utf8.decode s pos).2)) ⟨hB, hpo, rfl⟩, ?_⟩
    · unfold Instr.next
      simp only [run_bind, hgo, hlt', if_true, run_setObj hw (fun _ _ _ e => by cases e), run_pure]
    · simp only [R]
      refine ⟨_, rfl, ?_⟩
      simp only [RL]
      exact ⟨_, _, rfl, by simp [R], _, _, rfl, goI_R pos, _, _, rfl, by simp [R], rfl⟩
  | false =>
    rw [cond_false]
    have hlt' : ¬ (pos < s.size) := by
      rw [nat_ble_f] at hlt
      have : s.size < pos + 1 := hlt
      omega
    refine (VR.same h (v := overV) (x := .tuple #[.bool false]) (by simp only [overV, R])).of_eq ?_
    unfold Instr.next
    simp only [run_bind, hgo, hlt', if_false, run_pure]

theorem nextMap_sound (h : MR w0 B ρ m w) {r : Nat} {p : Pl} (hp : ρ r = some p) {q since stepped : Nat} {seen : List Nat} (ho : m.heap.get r = some (.mapIter (some q) since seen stepped)) (ty : TypeId) :
    XR w0 B ρ m w (nextMap m r q since seen stepped (m.heap.get q)) P ((do pure (Next.value (← Instr.next (.pointer (some ⟨p.b, 0, none⟩)) false ty)) : Sem Next).run P w) := by
  obtain ⟨hB, hpo, c, hq, hw⟩ := h.obj r _ p ho hp
  unfold nextMap
  split
  case h_2 => exact trivial
  rename_i es clock hoq
  obtain ⟨_, l, hwq, hER⟩ := h.map hq hoq
  have hgo := run_getObj (P := P) hw (fun _ _ _ e => by cases e)
  have hgq := run_getObj (P := P) hwq (fun _ _ _ e => by cases e)
  cases hc : (isNil (fltL (fun e => !hasN seen e.born && !(e.born.succ.ble since)) es) && (isNil seen || isNil es || !isNil (fltL (fun e => e.born.succ.ble stepped) es))) with
  | false => exact trivial
  | true =>
    rw [cond_true]
    rw [Bool.and_eq_true] at hc
    obtain ⟨hc1, hc2⟩ := hc
    -- the model's lists
    have hleft := ER.filter (fun b => !seen.contains b) hER
    have hnew := ER.filter (fun b => !seen.contains b && !(b.succ.ble since)) hER
    have hltL : (fltL (fun e => !hasN seen e.born && !(e.born.succ.ble since)) es) = es.filter fun e => (!seen.contains e.born && !(e.born.succ.ble since)) := by
      rw [fltL_eq]
      congr 1
      funext e
      rw [hasN_eq]
    rw [hltL, isNil_eq, List.isEmpty_iff] at hc1
    rw [hc1] at hnew
    have hnew' : (l.toList.filter fun e => (!seen.contains e.born && !(e.born.succ.ble since))) = [] := hnew
    -- no 'unsupported'
    have hg1 : ¬ ((!seen.toArray.isEmpty && !l.isEmpty && l.all (·.born ≥ stepped)) = true) := by
      intro hall
      rw [Bool.and_eq_true, Bool.and_eq_true] at hall
      obtain ⟨⟨a1, a2⟩, a3⟩ := hall
      rw [Bool.or_eq_true, Bool.or_eq_true] at hc2
      rcases hc2 with (b1 | b1) | b1
      · rw [isNil_eq, List.isEmpty_iff] at b1
        subst b1
        simp at a1
      · rw [isNil_eq, List.isEmpty_iff] at b1
        subst b1
        have : l.toList = [] := hER
        have : l = #[] := by apply Array.ext'; simpa using this
        subst this
        simp at a2
      · rw [fltL_eq, isNil_eq] at b1
        have : (es.filter fun e => e.born.succ.ble stepped) = [] := by
          have h3 := ER.filter (fun b => b.succ.ble stepped) hER
          have h4 : (l.toList.filter fun e => e.born.succ.ble stepped) = [] := by
            rw [List.filter_eq_nil_iff]
            intro x hx hb
            rw [Array.all_eq_true_iff_forall_mem] at a3
            have := a3 x (by simpa using hx)
            have hb' : x.born + 1 ≤ stepped := nat_ble.1 hb
            simp at this
            omega
          rw [h4] at h3
          cases hes : (es.filter fun e => e.born.succ.ble stepped) with
          | nil => rfl
          | cons a as => rw [hes] at h3; obtain ⟨y, ys, h5, _⟩ := h3; cases h5
        rw [this] at b1
        simp at b1
    have hgo2 : fltL (fun e => !hasN seen e.born) es = es.filter fun e => !seen.contains e.born := by
      rw [fltL_eq]
      congr 1
      funext e
      rw [hasN_eq]
    rw [hgo2]
    have hleftA : (l.filter fun e => !seen.toArray.contains e.born).toList = l.toList.filter fun e => !seen.contains e.born := by
      rw [Array.toList_filter]
      congr 1
      funext e
      simp
    have hmemleft : ∀ x ∈ (l.filter fun e => !seen.toArray.contains e.born), x.born < since := by
      intro x hx
      have hx1 : x ∈ l.toList.filter fun e => !seen.contains e.born := by rw [← hleftA]; simpa using hx
      rw [List.mem_filter] at hx1
      have : x ∉ (l.toList.filter fun e => (!seen.contains e.born && !(e.born.succ.ble since))) := by rw [hnew']; simp
      rw [List.mem_filter] at this
      have h6 : ¬ ((!seen.contains x.born && !(x.born.succ.ble since)) = true) := fun h7 => this ⟨hx1.1, h7⟩
      rw [hx1.2, Bool.true_and] at h6
      simp only [Bool.not_eq_true, Bool.not_eq_false'] at h6
      exact nat_ble.1 h6
    have hold : ((l.filter fun e => !seen.toArray.contains e.born).filter (·.born < since)) = (l.filter fun e => !seen.toArray.contains e.born) := by
      rw [Array.filter_eq_self]
      intro x hx
      simpa using hmemleft x hx
    have hnw : ((l.filter fun e => !seen.toArray.contains e.born).filter (·.born ≥ since)) = #[] := by
      rw [Array.filter_eq_empty_iff]
      intro x hx
      have := hmemleft x hx
      simp
      omega
    cases hes : (es.filter fun e => !seen.contains e.born) with
    | nil =>
      show NR w0 B ρ m w (.val overV m) P _
      rw [hes] at hleft
      have hl0 : (l.filter fun e => !seen.toArray.contains e.born) = #[] := by
        apply Array.ext'
        rw [hleftA]
        exact hleft
      refine ⟨.tuple #[.bool false], w, ρ, .inl ?_, Rho.le.refl ρ, h, by simp only [overV, R]⟩
      have hch : (choose (.mapNext 1)).run P w = .ok 0 w := rfl
      unfold Instr.next
      simp only [run_bind, hgo, hgq]
      rw [if_neg hg1]
      simp only [run_bind, run_pure]
      rw [hold, hnw, hl0]
      have hcand : (if (#[] : Array MapEntry).isEmpty = true then #[none] else #[]) ++ Array.map some ((#[] : Array MapEntry) ++ #[]) = #[none] := by simp
      rw [hcand]
      have hch' : (choose (.mapNext (#[none] : Array (Option MapEntry)).size)).run P w = .ok 0 w := hch
      rw [hch']
      rfl
    | cons e0 rest =>
      show m = m ∧ ∃ e ∈ (e0 :: rest), NR w0 B ρ m w (tookE m r q since seen clock e) P _
      refine ⟨rfl, ?_⟩
      rw [← hes]
      have hne : (l.filter fun e => !seen.toArray.contains e.born) ≠ #[] := by
        intro h0
        have : (l.filter fun e => !seen.toArray.contains e.born).toList = [] := by rw [h0]
        rw [hleftA] at this
        rw [this, hes] at hleft
        obtain ⟨y, ys, h5, _⟩ := hleft
        cases h5
      obtain ⟨L, hL⟩ : ∃ L, L = (l.filter fun e => !seen.toArray.contains e.born) := ⟨_, rfl⟩
      rw [← hL] at hne hold hnw hleftA
      have hLpos : 0 < L.size := by
        rcases Nat.eq_zero_or_pos L.size with h0 | h0
        · exact absurd (Array.eq_empty_of_size_eq_zero h0) hne
        · exact h0
      obtain ⟨i, w1, hch, hi, hh, hb, _⟩ := run_choose_map (P := P) L.size hLpos w
      have h1 := h.at hh (hb _ _ h.below)
      have hw1 : w1.heap[p.b]? = some (.mapIter (some c) since seen.toArray stepped) := by rw [hh]; exact hw
      have hLi : L[i]? = some L[i] := Array.getElem?_eq_getElem hi
      obtain ⟨e, he, hk, hbn, hR⟩ := hleft.mem (x := L[i]) (by rw [← hleftA]; simp)
      refine ⟨e, he, ?_⟩
      refine ⟨.tuple #[.bool true, L[i].key, L[i].val], setBlk w1 p.b (.mapIter (some c) since (seen.toArray.push L[i].born) clock), ρ, .inl ?_, Rho.le.refl ρ, ?_, ?_⟩
      · unfold Instr.next
        simp only [run_bind, hgo, hgq]
        rw [if_neg hg1]
        simp only [run_bind, run_pure]
        rw [← hL, hold, hnw]
        have hemp : L.isEmpty = false := by
          rw [Array.isEmpty_eq_false_iff]; exact hne
        have hcand : (if L.isEmpty = true then #[none] else #[]) ++ Array.map some (L ++ #[]) = Array.map some L := by rw [hemp]; simp
        rw [hcand, Array.size_map, hch]
        simp only [Array.getElem?_map, hLi, Option.map_some, run_bind, run_setObj hw1 (fun _ _ _ e => by cases e), run_pure]
      · refine h1.put ho hp (fun _ _ _ _ e => by cases e) (fun _ e => by cases e) (fun _ _ _ _ e => by cases e) hB ⟨hB, hpo, c, hq, ?_⟩
        rw [appL_eq, ← hbn]
        simp
      · simp only [R]
        refine ⟨_, rfl, ?_⟩
        simp only [RL]
        exact ⟨_, _, rfl, by simp [R], _, _, rfl, by simp only [R]; exact hk, _, _, rfl, hR, rfl⟩

theorem next_sound (h : MR w0 B ρ m w) {ρ' : Operand → Value} {tmps : T AVal} (hev : ∀ x, R ρ (evalT tmps x) (ρ' x)) (o : Oper) (it : Operand) (s : Bool) (ho : o.op = .next it s) :
    XR w0 B ρ m w (nextOp m s (evalT tmps it)) P ((execOp ρ' o).run P w) := by
  simp only [execOp, ho]
  have hx := hev it
  unfold nextOp
  split
  · rename_i r hr
    rw [hr] at hx
    simp only [R] at hx
    obtain ⟨p, hp, hx⟩ := hx
    have hxe : ∀ o, m.heap.get r = some o → (∀ e cs f q, o ≠ .row e cs f q) → (∀ cs, o ≠ .ro cs) → ρ' it = .pointer (some ⟨p.b, 0, none⟩) := by
      intro o ho h1 h2
      have := h.obj r o p ho hp
      have hs : p.s = 0 := by
        unfold OR at this
        split at this
        · exact absurd rfl (h1 _ _ _ _)
        · exact absurd rfl (h2 _)
        · rw [this.2.1]; rfl
        · rw [this.2.1]; rfl
        · rw [this.2.1]; rfl
        · rw [this.2.1]; rfl
        · rw [this.2.1]; rfl
        · rw [this.2.1]; rfl
        · rw [this.2.1]; rfl
      rw [hx, hs]
    unfold nextAt
    split
    · rename_i st pos hoo
      cases s with
      | true =>
        rw [cond_true, hxe _ hoo (fun _ _ _ _ e => by cases e) (fun _ e => by cases e)]
        exact NR.of_VR (nextStr_sound h hp hoo o.type)
      | false => exact trivial
    · rename_i since seen stepped hoo
      cases s with
      | true => exact trivial
      | false =>
        rw [cond_false, hxe _ hoo (fun _ _ _ _ e => by cases e) (fun _ e => by cases e)]
        obtain ⟨_, _, hw⟩ := h.obj r _ p hoo hp
        have hgo := run_getObj (P := P) hw (fun _ _ _ e => by cases e)
        refine NR.of_VR (m := m) (out := .val overV m) (s := Instr.next (.pointer (some ⟨p.b, 0, none⟩)) false o.type) ((VR.same h (x := .tuple #[.bool false]) (by simp only [overV, R])).of_eq ?_)
        unfold Instr.next
        simp only [run_bind, hgo, run_pure]
    · rename_i q since seen stepped hoo
      cases s with
      | true => exact trivial
      | false =>
        rw [cond_false, hxe _ hoo (fun _ _ _ _ e => by cases e) (fun _ e => by cases e)]
        exact nextMap_sound h hp hoo o.type
    · exact trivial
  · exact trivial
end
end Go.Abs
