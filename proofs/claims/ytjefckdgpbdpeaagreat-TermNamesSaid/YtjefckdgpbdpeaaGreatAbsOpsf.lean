/- An executor whose runs hold in every world: a part of it and of what is proved of it. -/
import Derived.Test.YtjefckdgpbdpeaaGreatAbsOpse

namespace Go.Abs
open Go
open Go.RowKit (Below)

section
variable {P : Program} {w0 : Wo} {B : Nat} {ρ : Rho} {m : Mem} {w : World}

theorem value_bind {α β : Type} : ∀ (s : Sem α) (f : α → Sem β), value? P (s >>= f) = match value? P s with | .ok a => value? P (f a) | .error e => .error e := by
  intro s f
  show value? P (s.bind f) = _
  induction s with
  | pure a => rfl
  | program k ih => simp only [Sem.bind, value?]; exact ih P
  | mark x k ih => simp only [Sem.bind, value?]; exact ih
  | halt x => cases x <;> rfl
  | _ => rfl

/-- keys are one by one the same -/
def KeysSame : List MapEntry → List MapEntry → Prop
  | [], [] => True
  | a :: as, b :: bs => a.key = b.key ∧ KeysSame as bs
  | _, _ => False

theorem findNow_same (kind : TypeDesc) (k : Value) : ∀ (as bs : List MapEntry) (i : Nat), KeysSame as bs →
    (Instr.findNow kind k as i = none ∧ Instr.findNow kind k bs i = none) ∨
    (Instr.findNow kind k as i = some none ∧ Instr.findNow kind k bs i = some none) ∨
    (∃ (j : Nat) (a b : MapEntry), Instr.findNow kind k as i = some (some (i + j, a.val)) ∧ Instr.findNow kind k bs i = some (some (i + j, b.val)) ∧ as[j]? = some a ∧ bs[j]? = some b) := by
  intro as
  induction as with
  | nil =>
    intro bs i h
    cases bs with
    | nil => exact .inr (.inl ⟨rfl, rfl⟩)
    | cons b bs => exact h.elim
  | cons a as ih =>
    intro bs i h
    cases bs with
    | nil => exact h.elim
    | cons b bs =>
      obtain ⟨h1, h2⟩ := h
      unfold Instr.findNow
      rw [← h1]
      cases hs : Instr.sameNow kind k a.key with
      | none => exact .inl ⟨rfl, rfl⟩
      | some t =>
        cases t with
        | true => exact .inr (.inr ⟨0, a, b, rfl, rfl, rfl, rfl⟩)
        | false =>
          dsimp only
          rcases ih bs (i + 1) h2 with ⟨e1, e2⟩ | ⟨e1, e2⟩ | ⟨j, a', b', e1, e2, e3, e4⟩
          · exact .inl ⟨e1, e2⟩
          · exact .inr (.inl ⟨e1, e2⟩)
          · refine .inr (.inr ⟨j + 1, a', b', ?_, ?_, e3, e4⟩)
            · rw [e1, show i + 1 + j = i + (j + 1) from by omega]
            · rw [e2, show i + 1 + j = i + (j + 1) from by omega]

theorem findAsking_same (kt : TypeId) (k : Value) : ∀ (as bs : List MapEntry) (i : Nat) {r : Option (Nat × Value)}, KeysSame as bs → value? P (Instr.findAsking kt k as i) = .ok r →
    (r = none ∧ value? P (Instr.findAsking kt k bs i) = .ok none) ∨
    (∃ (j : Nat) (a b : MapEntry), r = some (i + j, a.val) ∧ value? P (Instr.findAsking kt k bs i) = .ok (some (i + j, b.val)) ∧ as[j]? = some a ∧ bs[j]? = some b) := by
  intro as
  induction as with
  | nil =>
    intro bs i r h e
    cases bs with
    | nil => left; simp only [Instr.findAsking] at e ⊢; cases e; exact ⟨rfl, rfl⟩
    | cons b bs => exact h.elim
  | cons a as ih =>
    intro bs i r h e
    cases bs with
    | nil => exact h.elim
    | cons b bs =>
      obtain ⟨h1, h2⟩ := h
      unfold Instr.findAsking at e ⊢
      rw [value_bind] at e ⊢
      rw [← h1]
      cases hq : value? P (Op.equal kt k a.key) with
      | error x => rw [hq] at e; cases e
      | ok t =>
        rw [hq] at e
        cases t with
        | true =>
          right
          simp only [if_true] at e ⊢
          have : r = some (i, a.val) := by cases e; rfl
          exact ⟨0, a, b, this, rfl, rfl, rfl⟩
        | false =>
          simp only [Bool.false_eq_true, if_false] at e ⊢
          rcases ih bs (i + 1) h2 e with ⟨e1, e2⟩ | ⟨j, a', b', e1, e2, e3, e4⟩
          · exact .inl ⟨e1, e2⟩
          · refine .inr ⟨j + 1, a', b', ?_, ?_, e3, e4⟩
            · rw [e1, show i + 1 + j = i + (j + 1) from by omega]
            · rw [e2, show i + 1 + j = i + (j + 1) from by omega]

theorem findKey_same (kt : TypeId) (k : Value) (as bs : List MapEntry) {r : Option (Nat × Value)} (h : KeysSame as bs) (e : value? P (Instr.findKey kt k as) = .ok r) :
    (r = none ∧ value? P (Instr.findKey kt k bs) = .ok none) ∨
    (∃ (j : Nat) (a b : MapEntry), r = some (j, a.val) ∧ value? P (Instr.findKey kt k bs) = .ok (some (j, b.val)) ∧ as[j]? = some a ∧ bs[j]? = some b) := by
  unfold Instr.findKey at e ⊢
  rw [value_bind] at e ⊢
  cases hu : value? P (underlying kt) with
  | error x => rw [hu] at e; cases e
  | ok d =>
    rw [hu] at e
    dsimp only at e ⊢
    rcases findNow_same d k as bs 0 h with ⟨e1, e2⟩ | ⟨e1, e2⟩ | ⟨j, a, b, e1, e2, e3, e4⟩
    · rw [e1] at e
      rw [e2]
      dsimp only at e ⊢
      rcases findAsking_same kt k as bs 0 h e with ⟨f1, f2⟩ | ⟨j, a, b, f1, f2, f3, f4⟩
      · exact .inl ⟨f1, f2⟩
      · rw [Nat.zero_add] at f1 f2; exact .inr ⟨j, a, b, f1, f2, f3, f4⟩
    · rw [e1] at e
      rw [e2]
      left
      cases e
      exact ⟨rfl, rfl⟩
    · rw [e1] at e
      rw [e2]
      rw [Nat.zero_add] at e ⊢
      right
      have : r = some (j, a.val) := by cases e; rfl
      exact ⟨j, a, b, this, rfl, e3, e4⟩

theorem ER.keys : ∀ {es : List AEnt} {l : List MapEntry}, ER ρ es l → KeysSame (dummies es) l ∧ es.length = l.length ∧
    (∀ (i : Nat) (e : AEnt), es[i]? = some e → ∃ x, l[i]? = some x ∧ x.key = e.key ∧ x.born = e.born ∧ R ρ e.val x.val)
  | [], l, h => by
    have h' : l = [] := h
    subst h'
    exact ⟨trivial, rfl, fun i e he => by simp at he⟩
  | a :: es, l, h => by
    obtain ⟨x, xs, rfl, h2, h3, h4, h5⟩ := h
    obtain ⟨k1, k2, k3⟩ := ER.keys h5
    refine ⟨⟨h2.symm, k1⟩, by simp [k2], fun i e he => ?_⟩
    cases i with
    | zero => simp only [List.getElem?_cons_zero, Option.some.injEq] at he; subst he; exact ⟨x, rfl, h2, h3, h4⟩
    | succ i => simp only [List.getElem?_cons_succ] at he ⊢; exact k3 i e he

/-- the search: by the abstract entries, and by the map's -/
theorem findIx_sound {empty : Bool} {kt : TypeId} {k : Value} {es : List AEnt} {l : List MapEntry} (h : ER ρ es l) {r : Option Nat} (e : findIx P empty kt k (dummies es) = some r) (w : World) :
    (Instr.checkKey empty 10000 kt k).run P w = .ok () w ∧
    ((r = none ∧ (Instr.findKey kt k l).run P w = .ok none w) ∨ (∃ i x, r = some i ∧ l[i]? = some x ∧ (Instr.findKey kt k l).run P w = .ok (some (i, x.val)) w)) := by
  unfold findIx at e
  cases hc : value? P (Instr.checkKey empty 10000 kt k) with
  | error x => rw [hc] at e; cases e
  | ok u =>
    rw [hc] at e
    refine ⟨value_ok _ hc w, ?_⟩
    dsimp only at e
    cases hf : value? P (Instr.findKey kt k (dummies es)) with
    | error x => rw [hf] at e; cases e
    | ok q =>
      rw [hf] at e
      rcases findKey_same kt k _ l h.keys.1 hf with ⟨rfl, h2⟩ | ⟨j, a, b, rfl, h2, h3, h4⟩
      · left; cases e; exact ⟨rfl, value_ok _ h2 w⟩
      · right; cases e; exact ⟨j, b, rfl, h4, value_ok _ h2 w⟩

theorem run_getObj {b : Nat} {o : Obj} (h : w.heap[b]? = some o) (hn : ∀ c e f, o ≠ .cells c e f) : (Go.getObj b).run P w = .ok o w := by
  unfold Go.getObj
  simp only [Sem.run, h]
  all_goals (cases o <;> first | rfl | (exact absurd rfl (hn _ _ _)))
theorem run_setObj {b : Nat} {o x : Obj} (h : w.heap[b]? = some o) (hn : ∀ c e f, o ≠ .cells c e f) : (Go.setObj b x).run P w = .ok () (setBlk w b x) := by
  unfold Go.setObj
  simp only [Sem.run, h]
  all_goals (cases o <;> first | rfl | (exact absurd rfl (hn _ _ _)))

theorem MR.map (h : MR w0 B ρ m w) {r : Nat} {b : Nat} (hp : ρ r = some (Pl.obj b)) {es : List AEnt} {clock : Nat} (ho : m.heap.get r = some (.map es clock)) :
    B ≤ b ∧ ∃ es', w.heap[b]? = some (.map es' clock) ∧ ER ρ es es'.toList := by
  obtain ⟨h1, _, es', h2, h3⟩ := h.obj r _ _ ho hp
  exact ⟨h1, es', h2, h3⟩

theorem mapKey_some {t kt et : TypeId} (h : mapKey P t = some (kt, et)) : P.underlying t = some (.map kt et) := by
  unfold mapKey at h
  split at h
  · rename_i k e he; cases h; exact he
  · cases h

theorem entriesOf_some {a : AVal} {es : List AEnt} (h : MR w0 B ρ m w) {x : Value} (hx : R ρ a x) (e : entriesOf m a = some es) :
    ∃ l : Array MapEntry, ER ρ es l.toList ∧ ((x = .map none ∧ l = #[]) ∨ (∃ b clock, x = .map (some b) ∧ w.heap[b]? = some (.map l clock))) := by
  unfold entriesOf at e
  split at e
  · cases e; simp only [R] at hx; exact ⟨#[], rfl, .inl ⟨hx, rfl⟩⟩
  · rename_i r
    simp only [R] at hx
    obtain ⟨b, hp, rfl⟩ := hx
    split at e
    · rename_i es' clock ho
      cases e
      obtain ⟨_, l, h1, h2⟩ := h.map hp ho
      exact ⟨l, h2, .inr ⟨b, clock, rfl, h1⟩⟩
    · cases e
  · cases e

theorem lookup_sound (h : MR w0 B ρ m w) (t : TypeId) (ok : Bool) {a k : AVal} {x y : Value} (hx : R ρ a x) (hy : R ρ k y) :
    VR w0 B ρ (lookupOp P ok m (entriesOf m a) (litOf k) (mapKey P t)) ((Instr.lookup t x y ok).run P w) := by
  cases he : entriesOf m a with
  | none => exact trivial
  | some es =>
    cases hk : litOf k with
    | none => exact trivial
    | some kv =>
      cases ht : mapKey P t with
      | none => exact trivial
      | some kk =>
        obtain ⟨kt, et⟩ := kk
        have hu := mapKey_some ht
        have hky := R.of_litOf hy hk
        subst hky
        show VR w0 B ρ (luIn P ok m y kt et es (tzero P et)) _
        cases hz : tzero P et with
        | none => exact trivial
        | some z =>
          show VR w0 B ρ (luAt ok z m es (findIx P (isNil es) kt y (dummies es))) _
          cases hf : findIx P (isNil es) kt y (dummies es) with
          | none => exact trivial
          | some r =>
            obtain ⟨l, hER, hxl⟩ := entriesOf_some h hx he
            obtain ⟨c1, c2⟩ := findIx_sound hER hf w
            obtain ⟨_, k2, k3⟩ := hER.keys
            have hemp : isNil es = l.isEmpty := by
              have k2' : es.length = l.size := by simpa using k2
              rw [isNil_eq, Bool.eq_iff_iff, List.isEmpty_iff, Array.isEmpty_iff, ← List.length_eq_zero_iff, ← Array.size_eq_zero_iff, k2']
            rw [hemp] at c1
            rcases c2 with ⟨rfl, c3⟩ | ⟨i, u, rfl, c3, c4⟩
            · show VR w0 B ρ (luRes ok z m none) _
              have hr : (Instr.lookup t x y ok).run P w = .ok (if ok then .tuple #[z, .bool false] else z) w := by
                unfold Instr.lookup
                rcases hxl with ⟨rfl, rfl⟩ | ⟨b, clock, rfl, hw⟩
                · simp only [run_bind, run_underlying' hu, run_pure, c1, c3, run_zeroValue' hz]
                · simp only [run_bind, run_underlying' hu, run_getObj (P := P) hw (fun _ _ _ e => by cases e), run_pure, c1, c3, run_zeroValue' hz]
              rw [hr]
              cases ok with
              | true => exact VR.same h (by simp [R])
              | false => exact VR.same h (by simp [R])
            · show VR w0 B ρ (match getO es i with | some e => luRes ok z m (some e.val) | none => .bad "lookup") _
              rw [getO_eq]
              cases hg : es[i]? with
              | none => exact trivial
              | some e =>
                obtain ⟨u', hu', _, _, hR⟩ := k3 i e hg
                rw [hu'] at c3; cases c3
                have hr : (Instr.lookup t x y ok).run P w = .ok (if ok then .tuple #[u.val, .bool true] else u.val) w := by
                  unfold Instr.lookup
                  rcases hxl with ⟨rfl, rfl⟩ | ⟨b, clock, rfl, hw⟩
                  · simp only [run_bind, run_underlying' hu, run_pure, c1, c4]
                  · simp only [run_bind, run_underlying' hu, run_getObj (P := P) hw (fun _ _ _ e => by cases e), run_pure, c1, c4]
                rw [hr]
                cases ok with
                | true => exact VR.same h (by simp only [R, cond_true, RL]; exact ⟨_, rfl, _, _, rfl, hR, _, _, rfl, rfl, rfl⟩)
                | false => exact VR.same h hR

theorem setEnt_nil (i : Nat) (k : Value) (v : AVal) : setEnt i k v [] = [] := by cases i <;> rfl
theorem setEnt_zero (k : Value) (v : AVal) (e : AEnt) (es : List AEnt) : setEnt 0 k v (e :: es) = ⟨k, v, e.born⟩ :: es := rfl
theorem setEnt_succ (i : Nat) (k : Value) (v : AVal) (e : AEnt) (es : List AEnt) : setEnt (i + 1) k v (e :: es) = e :: setEnt i k v es := rfl
theorem ER.set {k : Value} {v : AVal} {x : Value} (hv : R ρ v x) : ∀ {es : List AEnt} {l : List MapEntry} (i : Nat), ER ρ es l →
    ER ρ (setEnt i k v es) (l.modify i fun e => { e with key := k, val := x })
  | [], l, i, h => by
    have h' : l = [] := h
    subst h'
    rw [setEnt_nil]
    cases i <;> exact rfl
  | a :: es, l, i, h => by
    obtain ⟨y, ys, rfl, h2, h3, h4, h5⟩ := h
    cases i with
    | zero => rw [setEnt_zero]; exact ⟨_, _, rfl, rfl, h3, hv, h5⟩
    | succ i => rw [setEnt_succ]; exact ⟨_, _, rfl, h2, h3, h4, ER.set hv i h5⟩
theorem ER.push {a : AEnt} {y : MapEntry} (h1 : y.key = a.key) (h2 : y.born = a.born) (h3 : R ρ a.val y.val) : ∀ {es : List AEnt} {l : List MapEntry}, ER ρ es l → ER ρ (es ++ [a]) (l ++ [y])
  | [], l, h => by
    have h' : l = [] := h
    subst h'
    exact ⟨y, [], rfl, h1, h2, h3, rfl⟩
  | b :: es, l, h => by
    obtain ⟨z, zs, rfl, k2, k3, k4, k5⟩ := h
    exact ⟨z, _, rfl, k2, k3, k4, ER.push h1 h2 h3 k5⟩

theorem MR.putMap (h : MR w0 B ρ m w) {r b : Nat} (hp : ρ r = some (Pl.obj b)) {es : List AEnt} {clock : Nat} (ho : m.heap.get r = some (.map es clock))
    {es1 : List AEnt} {l1 : Array MapEntry} (clock1 : Nat) (he : ER ρ es1 l1.toList) : MR w0 B ρ (m.put r (.map es1 clock1)) (setBlk w b (.map l1 clock1)) :=
  h.put ho hp (fun _ _ _ _ e => by cases e) (fun _ e => by cases e) (fun _ _ _ _ e => by cases e) (h.map hp ho).1 ⟨(h.map hp ho).1, rfl, l1, rfl, he⟩

theorem mapUpdate_sound (h : MR w0 B ρ m w) (t : TypeId) {a k v : AVal} {x y z : Value} (hx : R ρ a x) (hy : R ρ k y) (hz : R ρ v z) :
    UR w0 B ρ (Abs.mapUpdate P m (mapKey P t) k v a) ((Instr.mapUpdate t x y z).run P w) := by
  cases a with
  | map r =>
    simp only [R] at hx
    obtain ⟨b, hp, rfl⟩ := hx
    show UR w0 B ρ (mapPut P m r v (m.heap.get r) (litOf k) (mapKey P t)) _
    cases ho : m.heap.get r with
    | none => exact trivial
    | some o =>
      cases hk : litOf k with
      | none => cases o <;> exact trivial
      | some kv =>
        cases ht : mapKey P t with
        | none => cases o <;> exact trivial
        | some kk =>
          obtain ⟨kt, et⟩ := kk
          cases o with
          | map es clock =>
            have hu := mapKey_some ht
            have hky := R.of_litOf hy hk
            subst hky
            obtain ⟨hB, l, hw, hER⟩ := h.map hp ho
            show UR w0 B ρ (muAt m r y v es clock (findIx P false kt y (dummies es))) _
            cases hf : findIx P false kt y (dummies es) with
            | none => exact trivial
            | some q =>
              obtain ⟨c1, c2⟩ := findIx_sound hER hf w
              obtain ⟨_, k2, k3⟩ := hER.keys
              have hgo := run_getObj (P := P) hw (fun _ _ _ e => by cases e)
              have hso : ∀ o', (Go.setObj b o').run P w = .ok () (setBlk w b o') := fun o' => run_setObj hw (fun _ _ _ e => by cases e)
              rcases c2 with ⟨rfl, c3⟩ | ⟨i, u, rfl, c3, c4⟩
              · refine ⟨rfl, _, ρ, ?_, Rho.le.refl ρ, h.putMap hp ho (clock + 1) (l1 := l.push { key := y, val := z, born := clock }) ?_⟩
                · unfold Instr.mapUpdate
                  simp only [run_bind, run_underlying' hu, hgo, c1, c3, hso]
                · rw [appL_eq, Array.toList_push]
                  exact ER.push rfl rfl hz hER
              · show UR w0 B ρ (muSet m r y v es clock i (getO es i)) _
                rw [getO_eq]
                cases hg : es[i]? with
                | none => exact trivial
                | some e =>
                  show UR w0 B ρ (bif Instr.sameBits 10000 e.key y then .val .poison (m.put r (.map (setEnt i y v es) clock)) else .bad "mapUpdate key") _
                  cases hb : Instr.sameBits 10000 e.key y with
                  | false => exact trivial
                  | true =>
                    rw [cond_true]
                    obtain ⟨u', hu', hkey, _, _⟩ := k3 i e hg
                    have hli : (l[i]?).map (·.key) = some e.key := by
                      have : l[i]? = some u' := by simpa using hu'
                      rw [this, Option.map_some, hkey]
                    refine ⟨rfl, _, ρ, ?_, Rho.le.refl ρ, h.putMap hp ho clock (l1 := l.modify i fun e => { e with key := y, val := z }) ?_⟩
                    · unfold Instr.mapUpdate
                      simp only [run_bind, run_underlying' hu, hgo, c1, c4, hli, Option.getD_some, Instr.keyThatStays, hb, if_true, run_pure, hso]
                    · rw [Array.toList_modify]
                      exact ER.set hz i hER
          | _ => exact trivial
  | _ => exact trivial

theorem isStrD_some {d : Option TypeDesc} (h : isStrD d = true) : d = some .string := by
  unfold isStrD at h
  split at h
  · rfl
  · cases h
theorem range_sound (h : MR w0 B ρ m w) (t : TypeId) {a : AVal} {x : Value} (hx : R ρ a x) :
    VR w0 B ρ (rangeOp m (isStrD (P.underlying t)) (mapKey P t).isSome a) ((Instr.range t x).run P w) := by
  have fin : ∀ (o : AObj) (ob : Obj), (∀ e cs f q, o ≠ .row e cs f q) → (∀ ρ', ρ.le ρ' → OR ρ' B (Pl.obj w.heap.size) (some ob) o) →
      (Instr.range t x).run P w = .ok (.pointer (some ⟨w.heap.size, 0, none⟩)) (w.alloc ob) → VR w0 B ρ (.val (.ptr m.next 0) (m.new o)) ((Instr.range t x).run P w) := by
    intro o ob h1 h2 h3
    obtain ⟨k1, k2⟩ := h.newObj o ob h1 h2
    exact ⟨_, _, _, h3, k2, k1, by simp only [R]; exact ⟨_, Rho.add_same _ _ _, rfl⟩⟩
  cases a with
  | lit v =>
    simp only [R] at hx; subst hx
    cases x with
    | string s =>
      show VR w0 B ρ (bif isStrD (P.underlying t) then .val (.ptr m.next 0) (m.new (.strIter s 0)) else .bad "range") _
      cases hs : isStrD (P.underlying t) with
      | false => exact trivial
      | true =>
        have hu := isStrD_some hs
        exact fin (.strIter s 0) (.stringIter s 0) (fun _ _ _ _ e => by cases e) (fun _ _ => ⟨h.size, rfl, rfl⟩) (by unfold Instr.range; simp only [run_bind, run_underlying' hu]; rfl)
    | map r =>
      cases r with
      | none =>
        show VR w0 B ρ (bif (mapKey P t).isSome then .val (.ptr m.next 0) (m.new (.mapIter none 0 [] 0)) else .bad "range") _
        cases ht : mapKey P t with
        | none => exact trivial
        | some kk =>
          obtain ⟨k, e⟩ := kk
          have hu := mapKey_some ht
          exact fin (.mapIter none 0 [] 0) (.mapIter none 0 #[] 0) (fun _ _ _ _ e => by cases e) (fun _ _ => ⟨h.size, rfl, rfl⟩) (by unfold Instr.range; simp only [run_bind, run_underlying' hu]; rfl)
      | some r => exact trivial
    | _ => exact trivial
  | map q =>
    simp only [R] at hx
    obtain ⟨b, hp, rfl⟩ := hx
    show VR w0 B ρ (bif (mapKey P t).isSome then rangeMap m q (m.heap.get q) else .bad "range") _
    cases ht : mapKey P t with
    | none => exact trivial
    | some kk =>
      obtain ⟨k, e⟩ := kk
      have hu := mapKey_some ht
      simp only [Option.isSome_some, cond_true]
      cases ho : m.heap.get q with
      | none => exact trivial
      | some o =>
        cases o with
        | map es clock =>
          obtain ⟨hB, l, hw, hER⟩ := h.map hp ho
          exact fin (.mapIter (some q) clock [] clock) (.mapIter (some b) clock #[] clock) (fun _ _ _ _ e => by cases e) (fun ρ' hle => ⟨h.size, rfl, b, hle _ _ hp, rfl⟩) (by
            unfold Instr.range
            simp only [run_bind, run_underlying' hu, run_getObj (P := P) hw (fun _ _ _ e => by cases e)]
            rfl)
        | _ => exact trivial
  | _ => exact trivial

theorem ER.find {b : Nat} : ∀ {es : List AEnt} {l : List MapEntry}, ER ρ es l →
    (es.find? (·.born == b) = none ∧ l.find? (·.born == b) = none) ∨ (∃ e x, es.find? (·.born == b) = some e ∧ l.find? (·.born == b) = some x ∧ x.key = e.key ∧ R ρ e.val x.val)
  | [], l, h => by
    have h' : l = [] := h
    subst h'
    exact .inl ⟨rfl, rfl⟩
  | a :: es, l, h => by
    obtain ⟨x, xs, rfl, h2, h3, h4, h5⟩ := h
    rw [List.find?_cons, List.find?_cons, h3]
    cases hb : a.born == b with
    | true => exact .inr ⟨a, x, rfl, rfl, h2, h4⟩
    | false => exact ER.find h5

theorem entry_sound (h : MR w0 B ρ m w) {a : AVal} {x : Value} (hx : R ρ a x) : VR w0 B ρ (entryOp m a) ((Instr.entry x).run P w) := by
  cases a with
  | ptr r off =>
    cases off with
    | succ n => exact trivial
    | zero =>
      simp only [R] at hx
      obtain ⟨p, hp, rfl⟩ := hx
      show VR w0 B ρ (entryAt m (m.heap.get r)) _
      cases ho : m.heap.get r with
      | none => exact trivial
      | some o =>
        cases o with
        | mapIter mp since seen stepped =>
          cases mp with
          | none => exact trivial
          | some q =>
            obtain ⟨hB, hpo, c, hq, hw⟩ := h.obj r _ p ho hp
            show VR w0 B ρ (entryIn m stepped (lastO seen) (m.heap.get q)) _
            rw [lastO_eq]
            cases hl : seen.getLast? with
            | none => exact trivial
            | some b =>
              cases ho2 : m.heap.get q with
              | none => exact trivial
              | some o2 =>
                cases o2 with
                | map es clock =>
                  obtain ⟨hB2, l, hw2, hER⟩ := h.map hq ho2
                  show VR w0 B ρ (bif clock.beq stepped then entryRes m (entFind b es) else .bad "entry insertion") _
                  cases hc : clock.beq stepped with
                  | false => exact trivial
                  | true =>
                    rw [nat_beq] at hc
                    rw [cond_true, entFind_eq]
                    rcases hER.find (b := b) with ⟨e1, _⟩ | ⟨e, x, e1, e2, e3, e4⟩
                    · rw [e1]; exact trivial
                    · rw [e1]
                      refine (VR.same h (v := .tuple [.lit e.key, e.val]) (x := .tuple #[x.key, x.val]) (by simp only [R, RL]; exact ⟨_, rfl, _, _, rfl, e3, _, _, rfl, e4, rfl⟩)).of_eq ?_
                      have hs : p.s = 0 := by rw [hpo]; rfl
                      unfold Instr.entry
                      rw [hs]
                      have hbk : seen.toArray.back? = some b := by simp [hl]
                      simp only [Nat.add_zero, run_bind, run_getObj (P := P) hw (fun _ _ _ e => by cases e), hbk, run_getObj (P := P) hw2 (fun _ _ _ e => by cases e)]
                      have hcl : (clock != stepped) = false := by simp [hc]
                      rw [hcl]
                      simp only [Bool.false_eq_true, if_false]
                      have hf : l.find? (·.born == b) = some x := by rw [← Array.find?_toList]; exact e2
                      rw [hf]
                      rfl
                | _ => exact trivial
        | _ => exact trivial
  | _ => exact trivial

theorem panic_sound (h : MR w0 B ρ m w) {a : AVal} {x : Value} (hx : R ρ a x) : VR w0 B ρ (panicOp m a) ((Instr.panic x).run P w) := by
  cases a with
  | iface t v =>
    have hx' := hx
    simp only [R] at hx
    obtain ⟨y, rfl, _⟩ := hx
    exact VR.panic h hx'
  | lit v =>
    have hx' := hx
    simp only [R] at hx; subst hx
    cases x with
    | iface t y => exact VR.panic h hx'
    | _ => exact trivial
  | _ => exact trivial
end
end Go.Abs
