/- An executor whose runs hold in every world: a part of it and of what is proved of it. -/
import Derived.Test.YtjefckdgpbdpeaaGreatAbsOpsi
import Derived.Laws.BytesString

namespace Go.Abs
open Go
open Go.RowKit (Below)

section
variable {P : Program} {w0 : Wo} {B : Nat} {ρ : Rho} {m : Mem} {w : World}

/-! ## conversions between strings and bytes -/
theorem isU8_some {e : TypeId} (h : isU8 P e = true) : P.underlying e = some (.int .u8) := by
  unfold isU8 at h
  split at h
  · assumption
  · cases h
theorem foldl_push : ∀ (ns : List Int) (s : ByteArray), (ns.foldl (fun r n => r.push (UInt8.ofNat n.toNat)) s) = ⟨s.data ++ (ns.map fun n => UInt8.ofNat n.toNat).toArray⟩ := by
  intro ns
  induction ns with
  | nil => intro s; simp
  | cons n ns ih =>
    intro s
    rw [List.foldl_cons, ih]
    apply ByteArray.ext
    simp [ByteArray.push]
theorem allBytes_spec : ∀ (vs : List Value), allBytes vs = true → ∃ ns : List Int, vs = ns.map (Value.int .u8) ∧ mapL byteOf vs = ns.map fun n => UInt8.ofNat n.toNat
  | [], _ => ⟨[], rfl, rfl⟩
  | v :: vs, h => by
    have h' : (bif isByte v then allBytes vs else false) = true := h
    cases hv : isByte v with
    | false => rw [hv] at h'; cases h'
    | true =>
      rw [hv] at h'
      obtain ⟨ns, h1, h2⟩ := allBytes_spec vs h'
      unfold isByte at hv
      split at hv
      · rename_i n
        refine ⟨n :: ns, by rw [h1]; rfl, ?_⟩
        rw [mapL_eq] at h2 ⊢
        rw [List.map_cons, h2]
        rfl
      · cases hv

theorem bytesStrOf_sound (h : MR w0 B ρ m w) {e src dst : TypeId} (hs : P.underlying src = some (.slice e)) (he : P.underlying e = some (.int .u8)) (hd : P.underlying dst = some .string)
    {a : AVal} {x : Value} (hx : R ρ a x) : VR w0 B ρ (bytesStrOf m a) ((convert src dst x).run P w) := by
  unfold bytesStrOf
  split
  · simp only [R] at hx
    obtain ⟨a, c', rfl⟩ := hx
    refine (VR.lit h).of_eq ?_
    rw [run_convert_bytes_string w src dst e _ _ _ hs he hd]
    exact run_bytesToString w a 0 c' [] (by rfl)
  · rename_i r off n c ex
    simp only [R] at hx
    obtain ⟨p, c', hp, _, _, _, rfl⟩ := hx
    unfold bytesStr
    split
    · rename_i vs hvs
      cases hb : allBytes vs with
      | false => exact trivial
      | true =>
        rw [cond_true]
        obtain ⟨ns, h1, h2⟩ := allBytes_spec vs hb
        rw [Option.bind_eq_some_iff] at hvs
        obtain ⟨l, h3, h4⟩ := hvs
        obtain ⟨xs, h5, h6, _⟩ := h.readCells (P := P) hp h3
        have := RL.of_toLits l _ _ h6 h4
        subst this
        subst h1
        refine (VR.lit h).of_eq ?_
        rw [run_convert_bytes_string w src dst e _ _ _ hs he hd]
        rw [run_bytesToString w _ n c' ns h5, foldl_push, h2]
        congr 3
        simp
    · exact trivial
  · simp only [R] at hx
    subst hx
    refine (VR.lit h).of_eq ?_
    rw [run_convert_bytes_string w src dst e _ _ _ hs he hd]
    rfl
  · exact trivial

theorem run_freeze (a : Addr) (n : Nat) (w : World) : (freeze a n).run P w = .ok () (w.freeze a n) := rfl
theorem run_shape (b : Nat) (w : World) : (shape b).run P w = .ok (w.shape? b) w := rfl
theorem strBytes_sound (h : MR w0 B ρ m w) {e src dst : TypeId} (hs : P.underlying src = some .string) (hd : P.underlying dst = some (.slice e)) (he : P.underlying e = some (.int .u8))
    {a : AVal} {x : Value} (hx : R ρ a x) : VR w0 B ρ (strBytes m e a) ((convert src dst x).run P w) := by
  unfold strBytes
  split
  · rename_i s
    simp only [R] at hx
    subst hx
    let q : Question := .appendCap s.size 0 e
    let cap := q.cut (w.tape w.drawn q)
    have hcap : s.size ≤ cap := by
      show s.size ≤ s.size + (w.tape w.drawn q) % (2 ^ 63 - s.size)
      omega
    have hch : (choose q).run P w = .ok cap w.drew := rfl
    let cs : Array Value := (s.data.map fun b => Value.int .u8 b.toNat) ++ Array.replicate (cap - s.size) (.int .u8 0)
    have hsz : cs.size = cap := by
      have : s.data.size = s.size := rfl
      simp only [cs, Array.size_append, Array.size_map, Array.size_replicate, this]
      omega
    have hrun : (convert src dst (.string s)).run P w = .ok (.slice (some ⟨w.heap.size, 0, none⟩) s.size cap) (w.drew.alloc (.cells cs e (cap, cap + 1))) := by
      have h1 : (convert src dst (.string s)).run P w = (Conv.stringToBytes e s).run P w := by
        simp [convert, run_underlying hs, run_underlying hd, run_underlying he]
      rw [h1]
      unfold Conv.stringToBytes
      have hnr : (Go.newRow e cs).run P w.drew = .ok ⟨w.heap.size, 0, none⟩ (w.drew.alloc (.cells cs e)) := rfl
      have hms : (markStringish ⟨w.heap.size, 0, none⟩).run P (w.drew.alloc (.cells cs e)) = .ok () (w.drew.alloc (.cells cs e (cap, cap + 1))) := by
        unfold markStringish
        have hsh : (w.drew.alloc (.cells cs e)).shape? w.heap.size = some (e, cap) := by
          unfold World.shape?
          have : (w.drew.alloc (.cells cs e)).heap[w.heap.size]? = some (.cells cs e) := alloc_new w.drew _
          rw [this]
          simp [hsz]
        simp only [run_bind, run_shape, hsh, run_freeze]
        congr 1
        unfold World.freeze
        rw [if_neg (by omega)]
        show World.mk _ _ _ _ _ = _
        congr 1
        apply Array.ext_getElem?
        intro i
        rw [Array.getElem?_modify]
        by_cases hi : w.heap.size = i
        · subst hi
          rw [if_pos rfl]
          have h2 : (w.drew.alloc (.cells cs e)).heap[w.heap.size]? = some (.cells cs e) := alloc_new w.drew _
          have h3 : (w.drew.alloc (.cells cs e (cap, cap + 1))).heap[w.heap.size]? = some (.cells cs e (cap, cap + 1)) := alloc_new w.drew _
          rw [h2]
          exact h3.symm
        · rw [if_neg hi]
          show (w.heap.push _)[i]? = (w.heap.push _)[i]?
          rw [Array.getElem?_push, Array.getElem?_push, if_neg (Ne.symm hi), if_neg (Ne.symm hi)]
      simp only [run_bind]
      rw [show (choose (.appendCap s.size 0 e)).run P w = .ok cap w.drew from hch]
      simp only
      rw [hnr]
      simp only
      rw [hms]
      rfl
    let pl : Pl := ⟨w.heap.size, 0, cap, 1⟩
    have hle0 : ρ.le (ρ.add m.next pl) := Rho.le_add (h.dom _ (Nat.le_refl _))
    obtain ⟨h8, h9⟩ := h.drew.new (.row (e, 1) (mapL (fun b => .lit (.int .u8 (.ofNat b.toNat))) s.data.toList) m.next 0) (.cells cs e (cap, cap + 1)) pl rfl (by
        refine ⟨h.size, rfl, cs, cap, cap + 1, rfl, hsz, ?_, fun i hi h1 => ?_⟩
        · intro i v hv
          rw [mapL_eq] at hv
          simp only [List.getElem?_map, Option.map_eq_some_iff] at hv
          obtain ⟨b, hb, rfl⟩ := hv
          have hb' : s.data[i]? = some b := by simpa using hb
          have hlt := (Array.getElem?_eq_some_iff.1 hb').1
          refine ⟨.int .u8 b.toNat, ?_, by simp [R]⟩
          show cs[i + 0]? = _
          rw [Nat.add_zero]
          simp only [cs]
          rw [Array.getElem?_append_left (by simpa using hlt), Array.getElem?_map, hb']
          rfl
        · have : i < cap := hi
          omega) (by
        intro e' cs' f' q' he
        cases he
        refine ⟨by omega, fun l hl => ?_, fun hl r' e' cs' p' h1 => ?_⟩
        · have := h.famlt _ _ hl; omega
        · have := h.rowfam _ _ _ _ _ h1; omega)
    refine ⟨_, _, _, hrun, h9, h8, ?_⟩
    exact R.slice_intro (ρ := ρ.add m.next pl) (r := m.next) (p := pl) (Rho.add_same _ _ _) (off := 0) hcap (fun e => by cases e) (fun _ => by
      show 0 + 0 + cap * 1 ≤ cap
      omega)
  · exact trivial

theorem conv_sound (h : MR w0 B ρ m w) (src dst : TypeId) {a : AVal} {x : Value} (hx : R ρ a x) :
    VR w0 B ρ (convOp P src dst a m (P.underlying src) (P.underlying dst)) ((convert src dst x).run P w) := by
  unfold convOp
  split
  · rename_i e hs hd
    cases he : isU8 P e with
    | false => exact trivial
    | true => exact bytesStrOf_sound h hs (isU8_some he) hd hx
  · rename_i e hs hd
    cases he : isU8 P e with
    | false => exact trivial
    | true => exact strBytes_sound h hs hd (isU8_some he) hx
  · exact lits1_sound h _ hx

/-! ## methods -/
/-- a place on the way to a promoted method -/
def PR (P : Program) (ρ : Rho) (m : Mem) (t : TypeId) (v : AVal) : Place → Prop
  | .val x => R ρ v x
  | .var a => ∃ r off p, ρ r = some p ∧ a = ⟨p.b, off + p.s, none⟩ ∧ ((∃ n l, tagg P t = some true ∧ tsz P t = some n ∧ readCells m r off n = some l ∧ v = .agg l) ∨
      (tagg P t = some false ∧ read1 m r off = some v ∧ isCell v = true))

theorem PR.get (h : MR w0 B ρ m w) {t : TypeId} {v : AVal} {x : Place} (hp : PR P ρ m t v x) : ∃ y, (x.get t).run P w = .ok y w ∧ R ρ v y := by
  cases x with
  | val y => exact ⟨y, rfl, hp⟩
  | var a =>
    obtain ⟨r, off, p, h1, rfl, h2⟩ := hp
    have : Abs.loadVar P m t r off = some v := by
      unfold Abs.loadVar loadAs
      rcases h2 with ⟨n, l, h3, h4, h5, rfl⟩ | ⟨h3, h4, _⟩
      · rw [h3, h4]; show aggO (readCells m r off n) = _; rw [h5]; rfl
      · rw [h3]; exact h4
    obtain ⟨y, h3, h4⟩ := loadVar_sound h h1 this
    exact ⟨y, h3, h4⟩

theorem cell1_some {o : Option AVal} {v : AVal} (h : cell1 o = some v) : o = some v ∧ isCell v = true := by
  unfold cell1 at h
  split at h
  · rename_i u
    cases hc : isCell u with
    | false => rw [hc] at h; cases h
    | true => rw [hc] at h; cases h; exact ⟨rfl, hc⟩
  · cases h

theorem takeN_sub {l l' : List AVal} {n off k : Nat} (h : takeN n l = some l') {l2 : List AVal} (h2 : takeN k (l'.drop off) = some l2) : takeN k (l.drop off) = some l2 := by
  induction k generalizing off l2 with
  | zero => rw [takeN_zero] at h2 ⊢; exact h2
  | succ k ih =>
    obtain ⟨q1, q2⟩ := takeN_spec _ _ _ h
    cases hd : l'.drop off with
    | nil => rw [hd, takeN_nil] at h2; cases h2
    | cons y ys =>
      rw [hd, takeN_cons] at h2
      have hy : l'[off]? = some y := by
        have := congrArg (fun z => z[0]?) hd
        simpa using this
      obtain ⟨hl, hpz⟩ := q2 off y hy
      have hys : ys = l'.drop (off + 1) := by
        have := congrArg List.tail hd
        simpa using this.symm
      rw [hpz, cond_false] at h2
      have hoff := (List.getElem?_eq_some_iff.1 hl).1
      have : l.drop off = y :: l.drop (off + 1) := by
        rw [List.drop_eq_getElem_cons hoff]
        congr 1
        have := List.getElem?_eq_getElem hoff
        rw [hl] at this
        simpa using this.symm
      rw [this, takeN_cons, hpz, cond_false]
      rw [Option.map_eq_some_iff] at h2 ⊢
      obtain ⟨l3, h3, rfl⟩ := h2
      rw [hys] at h3
      exact ⟨l3, ih h3, rfl⟩

theorem readCells_sub {r off n : Nat} {l : List AVal} (h : readCells m r off n = some l) {o k : Nat} {l2 : List AVal} (h2 : takeN k (dropN l o) = some l2) : readCells m r (off + o) k = some l2 := by
  unfold readCells at h ⊢
  rw [dropN_eq] at h2
  split at h
  · rw [dropN_eq] at h ⊢
    rw [← List.drop_drop]
    exact takeN_sub h h2
  · rw [dropN_eq] at h ⊢
    rw [← List.drop_drop]
    exact takeN_sub h h2
  · cases h
theorem read1_sub {r off n : Nat} {l : List AVal} (h : readCells m r off n = some l) {o : Nat} {v : AVal} (h2 : sound1 (getO l o) = some v) : read1 m r (off + o) = some v := by
  obtain ⟨h3, h4⟩ := sound1_some h2
  rw [getO_eq] at h3
  have key : ∀ cells : List AVal, takeN n (dropN cells off) = some l → sound1 (getO cells (off + o)) = some v := by
    intro cells hc
    obtain ⟨_, q2⟩ := takeN_spec _ _ _ hc
    obtain ⟨h5, _⟩ := q2 o v h3
    rw [dropN_eq, List.getElem?_drop] at h5
    rw [getO_eq, h5]
    show (bif isPoison v then none else some v) = _
    rw [h4]; rfl
  unfold readCells at h
  unfold read1
  split at h
  · exact key _ h
  · exact key _ h
  · cases h

theorem run_fieldPlace {f : Field} {n : Nat} (hn : tsz P f.type = some n) (h0 : n ≠ 0) (a : Addr) (w : World) : (Go.fieldPlace a f).run P w = .ok (a.add f.offset) w := by
  unfold Go.fieldPlace
  rw [run_bind, run_sizeOf' hn]
  simp only [h0, if_false, run_pure]

theorem isAggV_agg {v : AVal} (h : isAggV v = true) : (∃ cs, v = .lit (.agg cs)) ∨ ∃ l, v = .agg l := by
  cases v with
  | lit v => cases v <;> simp [isAggV] at h; exact .inl ⟨_, rfl⟩
  | agg l => exact .inr ⟨l, rfl⟩
  | _ => simp [isAggV] at h

theorem stepF_ptr {f : Field} {d : Bool} {r off : Nat} : stepF P m f d (.ptr r off) = bif d then derefAs m r (off.add f.offset) (tagg P f.type) (tsz P f.type) else none := rfl
theorem stepF_other {f : Field} {d : Bool} {v : AVal} (hv : ∀ r off, v ≠ .ptr r off) : stepF P m f d v = bif !d && isAggV v then partAt v.cells f.offset (tagg P f.type) (tsz P f.type) else none := by
  cases v <;> first | rfl | exact absurd rfl (hv _ _)

theorem follow_sound (h : MR w0 B ρ m w) : ∀ (path : List FieldStep) (t : TypeId) (v : AVal) (x : Place) {t' : TypeId} {v' : AVal}, PR P ρ m t v x → Abs.follow P m path t v = some (t', v') →
    ∃ x', (Go.follow path t x).run P w = .ok (t', x') w ∧ PR P ρ m t' v' x' := by
  intro path
  induction path with
  | nil => intro t v x t' v' hx e; cases e; exact ⟨x, rfl, hx⟩
  | cons s rest ih =>
    intro t v x t' v' hx e
    have e' : (match fieldOf P s.struct s.index with | none => none | some f => match stepF P m f s.deref v with | some w => Abs.follow P m rest f.type w | none => none) = some (t', v') := e
    cases hf : fieldOf P s.struct s.index with
    | none => rw [hf] at e'; cases e'
    | some f =>
      rw [hf] at e'
      dsimp only at e'
      obtain ⟨fs, hu, hfi⟩ := fieldOf_some hf
      cases hst : stepF P m f s.deref v with
      | none => rw [hst] at e'; cases e'
      | some u =>
        rw [hst] at e'
        dsimp only at e'
        show ∃ x', ((do
          let .struct fields ← underlying s.struct | stuck "method row: struct type expected"
          let some f := fields[s.index]? | stuck "method row: no such field"
          if s.deref then
            let a ← asAddr (← x.get t)
            Go.follow rest f.type (.var (← Go.fieldPlace a f))
          else match x with
            | .var a => do Go.follow rest f.type (.var (← Go.fieldPlace a f))
            | .val (.agg cs) => do Go.follow rest f.type (.val (← Go.part f.type cs f.offset))
            | .val _ => stuck "method row: struct value expected") : Sem (TypeId × Place)).run P w = .ok (t', x') w ∧ _
        rw [run_bind, run_underlying' hu]
        simp only [hfi]
        by_cases hptr : ∃ r off, v = .ptr r off
        · obtain ⟨r, off, rfl⟩ := hptr
          rw [stepF_ptr] at hst
          cases hd : s.deref with
          | false => rw [hd] at hst; cases hst
          | true =>
            rw [hd, cond_true] at hst
            obtain ⟨y, hy, hR⟩ := PR.get h hx
            simp only [R] at hR
            obtain ⟨p, hp, rfl⟩ := hR
            have hnew : ∃ n, tsz P f.type = some n ∧ n ≠ 0 ∧ PR P ρ m f.type u (.var (Addr.add ⟨p.b, off + p.s, none⟩ f.offset)) := by
              unfold derefAs at hst
              split at hst
              · rename_i n ha hn
                cases h0 : n.beq 0 with
                | true => rw [h0] at hst; cases hst
                | false =>
                  rw [h0, cond_false] at hst
                  obtain ⟨l, h5, rfl⟩ := aggO_some hst
                  refine ⟨n, hn, nat_beq_f.1 h0, r, off + f.offset, p, hp, ?_, .inl ⟨n, l, ha, hn, h5, rfl⟩⟩
                  rw [add_addr, show off + p.s + f.offset = off + f.offset + p.s from by omega]
              · rename_i n ha hn
                cases h0 : n.beq 0 with
                | true => rw [h0] at hst; cases hst
                | false =>
                  rw [h0, cond_false] at hst
                  obtain ⟨h5, h6⟩ := cell1_some hst
                  refine ⟨n, hn, nat_beq_f.1 h0, r, off + f.offset, p, hp, ?_, .inr ⟨ha, h5, h6⟩⟩
                  rw [add_addr, show off + p.s + f.offset = off + f.offset + p.s from by omega]
              · cases hst
            obtain ⟨n, hn, h0, hPR⟩ := hnew
            obtain ⟨x', h7, h8⟩ := ih _ _ _ hPR e'
            refine ⟨x', ?_, h8⟩
            simp only [if_true, run_bind, hy, asAddr, run_pure, run_fieldPlace hn h0]
            exact h7
        · rw [stepF_other (fun r off e => hptr ⟨r, off, e⟩)] at hst
          cases hd : s.deref with
          | true => rw [hd] at hst; cases hst
          | false =>
            cases hv : isAggV v with
            | false => rw [hd, hv] at hst; cases hst
            | true =>
              rw [hd, hv] at hst
              have hst' : partAt v.cells f.offset (tagg P f.type) (tsz P f.type) = some u := hst
              simp only [Bool.false_eq_true, if_false]
              have hn : ∃ n, tsz P f.type = some n ∧ n ≠ 0 ∧ ((∃ l, tagg P f.type = some true ∧ takeN n (dropN v.cells f.offset) = some l ∧ u = .agg l) ∨ (tagg P f.type = some false ∧ sound1 (getO v.cells f.offset) = some u ∧ isCell u = true)) := by
                unfold partAt at hst'
                split at hst'
                · rename_i n ha hn
                  cases h0 : n.beq 0 with
                  | true => rw [h0] at hst'; cases hst'
                  | false =>
                    rw [h0, cond_false] at hst'
                    obtain ⟨l, h5, rfl⟩ := aggO_some hst'
                    exact ⟨n, hn, nat_beq_f.1 h0, .inl ⟨l, ha, h5, rfl⟩⟩
                · rename_i n ha hn
                  cases h0 : n.beq 0 with
                  | true => rw [h0] at hst'; cases hst'
                  | false =>
                    rw [h0, cond_false] at hst'
                    obtain ⟨h5, h6⟩ := cell1_some hst'
                    exact ⟨n, hn, nat_beq_f.1 h0, .inr ⟨ha, h5, h6⟩⟩
                · cases hst'
              obtain ⟨n, hn, h0, hcase⟩ := hn
              cases x with
              | var a =>
                obtain ⟨r, off, p, hp, rfl, hpr⟩ := hx
                have hagg : ∃ k l, readCells m r off k = some l ∧ v = .agg l := by
                  rcases hpr with ⟨k, l, _, _, h5, h6⟩ | ⟨_, _, h6⟩
                  · exact ⟨k, l, h5, h6⟩
                  · rcases isAggV_agg hv with ⟨cs, rfl⟩ | ⟨l, rfl⟩ <;> cases h6
                obtain ⟨k, l, hk, rfl⟩ := hagg
                have hPR : PR P ρ m f.type u (.var (Addr.add ⟨p.b, off + p.s, none⟩ f.offset)) := by
                  refine ⟨r, off + f.offset, p, hp, by rw [add_addr, show off + p.s + f.offset = off + f.offset + p.s from by omega], ?_⟩
                  rcases hcase with ⟨l2, ha, h5, rfl⟩ | ⟨ha, h5, h6⟩
                  · exact .inl ⟨n, l2, ha, hn, readCells_sub hk h5, rfl⟩
                  · exact .inr ⟨ha, read1_sub hk h5, h6⟩
                obtain ⟨x', h7, h8⟩ := ih _ _ _ hPR e'
                refine ⟨x', ?_, h8⟩
                simp only [run_bind, run_fieldPlace hn h0]
                exact h7
              | val y =>
                obtain ⟨cs, rfl, hc⟩ := isAggV_cells hx hv
                have hpart : Abs.part P f.type v.cells f.offset = some u := by
                  unfold Abs.part partAs
                  rcases hcase with ⟨l2, ha, h5, rfl⟩ | ⟨ha, h5, h6⟩
                  · rw [ha, hn]; show aggO _ = _; rw [h5]; rfl
                  · rw [ha]; exact h5
                obtain ⟨z, h5, h6⟩ := part_sound hc hpart w
                obtain ⟨x', h7, h8⟩ := ih f.type u (.val z) h6 e'
                refine ⟨x', ?_, h8⟩
                simp only [run_bind, h5]
                exact h7

theorem recvAt_sound (h : MR w0 B ρ m w) {f g : FuncId} {xt : TypeId} {pr : Bool} {v u : AVal} {x : Place} (hx : PR P ρ m xt v x) (e : recvAt P m f xt pr v = some (g, u)) (wr : Option String) :
    g = f ∧ ∃ y, (receiverAt xt x pr wr).run P w = .ok y w ∧ R ρ u y := by
  unfold recvAt at e
  obtain ⟨y, hy, hR⟩ := PR.get h hx
  split at e
  · rename_i d hd
    cases e
    refine ⟨rfl, y, ?_, hR⟩
    unfold receiverAt
    rw [run_bind, run_underlying' hd]
    exact hy
  · rename_i d hd
    split at e
    · rename_i r off
      rw [Option.map_eq_some_iff] at e
      obtain ⟨u', h1, h2⟩ := e
      cases h2
      simp only [R] at hR
      obtain ⟨p, hp, rfl⟩ := hR
      obtain ⟨z, h3, h4⟩ := loadVar_sound h hp h1
      refine ⟨rfl, z, ?_, h4⟩
      unfold receiverAt
      rw [run_bind, run_underlying' hd]
      dsimp only
      rw [run_bind, hy]
      dsimp only
      cases wr with
      | none =>
        dsimp only
        simp only [run_bind, run_pure, asAddr]
        exact h3
      | some name =>
        dsimp only
        have hs : (Builtin.ssaWrapNilChk_ #[xt] xt #[.pointer (some ⟨p.b, off + p.s, none⟩), strVal "", strVal name]).run P w = .ok (.pointer (some ⟨p.b, off + p.s, none⟩)) w := rfl
        simp only [run_bind, hs, run_pure, asAddr]
        exact h3
    · cases e
  · rename_i d hd hno
    cases e
    refine ⟨rfl, y, ?_, hR⟩
    unfold receiverAt
    rw [run_bind, run_underlying' hno]
    cases d with
    | pointer z => exact absurd rfl (hd z)
    | _ => exact hy
  · cases e

theorem methodOf_sound (h : MR w0 B ρ m w) {name : String} : ∀ (fuel n : Nat) (t : TypeId) {v : AVal} {x : Value} {f : FuncId} {u : AVal}, fuel ≤ n → R ρ v x → methodOf P m fuel t v name = some (f, u) →
    ∃ y, (method n t x name).run P w = .ok (f, y) w ∧ R ρ u y := by
  intro fuel
  induction fuel with
  | zero => intro n t v x f u _ _ e; cases e
  | succ fuel ih =>
    intro n t v x f u hn hx e
    obtain ⟨n, rfl⟩ : ∃ k, n = k + 1 := ⟨n - 1, by omega⟩
    unfold methodOf at e
    split at e
    · cases e
    · rename_i mt hmt
      unfold methodRow at hmt
      rw [Option.bind_eq_some_iff] at hmt
      obtain ⟨i, hi, hfind⟩ := hmt
      split at e
      · cases e
      · rename_i xt v2 hfo
        obtain ⟨x2, h1, h2⟩ := follow_sound h _ _ _ (.val x) hx hfo
        split at e
        · rename_i hmf
          obtain ⟨y, h3, h4⟩ := PR.get h h2
          have hrec : ∀ t' v' y', y = .iface t' y' → R ρ v' y' → methodOf P m fuel t' v' name = some (f, u) → ∃ y, (method (n + 1) t x name).run P w = .ok (f, y) w ∧ R ρ u y := by
            rintro t' v' y' rfl hR' e'
            obtain ⟨z, h6, h7⟩ := ih n t' (by omega) hR' e'
            refine ⟨z, ?_, h7⟩
            unfold method
            rw [run_bind, run_typeInfo' hi]
            simp only [hfind, run_bind, h1, hmf, h3]
            exact h6
          split at e
          · rename_i t' v'
            simp only [R] at h4
            obtain ⟨y', rfl, h5⟩ := h4
            exact hrec _ _ _ rfl h5 e
          · rename_i t' v'
            simp only [R] at h4
            subst h4
            exact hrec _ _ _ rfl (by simp [R]) e
          · cases e
        · rename_i g pr hmf
          obtain ⟨rfl, y, h3, h4⟩ := recvAt_sound h h2 e (if mt.path.isEmpty then some ((name.splitOn ".").getLastD name) else none)
          refine ⟨y, ?_, h4⟩
          unfold method
          rw [run_bind, run_typeInfo' hi]
          simp only [hfind, run_bind, h1, hmf, h3, run_pure]
end
end Go.Abs
