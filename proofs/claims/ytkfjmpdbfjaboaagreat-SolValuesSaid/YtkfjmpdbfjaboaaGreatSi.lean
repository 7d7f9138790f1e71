/- A part of the proof of SolValues. -/
import Derived.Test.YtkfjmpdbfjaboaaGreatSd
import Derived.SliceStrings
import Derived.Carry
import Derived.SizedLaws
import Derived.ChangeMaps5
namespace Go.Proofs.YtkfjmpdbfjaboaaGreat
open Go Go.Abs
open Go.ChangeShapes Go.WideShapes Go.RowKit
set_option maxRecDepth 10000
noncomputable section
def isCellsB (W : World) (b : Nat) : Bool := match W.heap[b]? with
 | some (.cells ..) => true
 | _ => false
def al (W : World) : Value → AVal
 | .int k n => .lit (.int k n)
 | .string s => .lit (.string s)
 | .slice none n c => .lit (.slice none n c)
 | .slice (some _) 0 _ => .emptyS
 | .slice (some a) (n + 1) c => bif isCellsB W a.block && a.spot.isNone then .slice a.block a.off (n + 1) c true else .poison
 | _ => .poison
def Laid (W : World) (L : List LaidRow) : Prop := ∀ (b : Nat) (cs : Array Value) (e : TypeId) (fz : Nat × Nat), W.heap[b]? = some (Obj.cells cs e fz) → L[b]? = some ⟨b, 0, cs.toList.map (al W)⟩
theorem isCellsB_iff {W : World} {b : Nat} : isCellsB W b = true ↔ ∃ cs e fz, W.heap[b]? = some (.cells cs e fz) := by
 unfold isCellsB
 constructor
 ·intro h
  split at h
  ·rename_i cs e fz hw; exact ⟨cs, e, fz, hw⟩
  ·cases h
 ·rintro ⟨cs, e, fz, h⟩; rw [h]
theorem al_R {W : World} {L : List LaidRow} (hL : Laid W L) (v : Value) : Abs.R (roRho L) (al W v) v := by
 cases v
 case int k n => simp [al, Abs.R]
 case string s => simp [al, Abs.R]
 case slice a n c =>
  cases a with
  | none => simp [al, Abs.R]
  | some a =>
   cases n with
   | zero => simp [al, Abs.R]
   | succ n =>
    show Abs.R (roRho L) (bif isCellsB W a.block && a.spot.isNone then .slice a.block a.off (n + 1) c true else .poison) _
    cases hb : isCellsB W a.block && a.spot.isNone with
    | false => simp [Abs.R]
    | true =>
     rw [Bool.and_eq_true] at hb
     obtain ⟨cs, e, fz, hw⟩ := isCellsB_iff.1 hb.1
     obtain ⟨b, off, spot⟩ := a
     have hs : spot = none := Option.isNone_iff_eq_none.1 hb.2
     subst hs
     simp only [cond_true, Abs.R]
     exact ⟨⟨b, 0, 0, 0⟩, c, by unfold roRho; rw [hL b cs e fz hw]; rfl, Nat.le_refl _, fun _ => rfl, (fun h => by cases h), rfl⟩
 all_goals simp [al, Abs.R]
theorem choose_list {A : Type} {Pr : Nat → A → Prop} : ∀ n : Nat, (∀ i, i < n → ∃ a, Pr i a) → ∃ l : List A, l.length = n ∧ ∀ i a, l[i]? = some a → Pr i a
 | 0, _ => ⟨[], rfl, fun i a h => by cases h⟩
 | n + 1, h => by
  obtain ⟨l, hl, hp⟩ := choose_list n (fun i hi => h i (by omega))
  obtain ⟨a, ha⟩ := h n (by omega)
  refine ⟨l ++ [a], by simp [hl], fun i x hx => ?_⟩
  by_cases hi : i < l.length
  ·rw [List.getElem?_append_left hi] at hx; exact hp i x hx
  ·rw [List.getElem?_append_right (by omega)] at hx
   cases hj : i - l.length with
   | zero => rw [hj] at hx; cases hx; rw [show i = n by omega]; exact ha
   | succ j => rw [hj] at hx; cases hx
theorem drop_eq {α : Type} : ∀ (n : Nat) (l : List α), dropN l n = l.drop n
 | 0, _ => rfl
 | _ + 1, [] => rfl
 | n + 1, _ :: l => drop_eq n l
theorem take_pre : ∀ (l r : List AVal), allCells l = true → takeN l.length (l ++ r) = some l
 | [], _, _ => rfl
 | a :: l, r, h => by
  have h' : (bif isCell a then allCells l else false) = true := h
  show (bif isPoison a then none else (takeN l.length (l ++ r)).map (a :: ·)) = _
  cases hc : isCell a with
  | false => rw [hc] at h'; cases h'
  | true =>
   rw [hc, cond_true] at h'
   rw [np_cell hc, take_pre l r h']; rfl
theorem cell_block {w : World} {b o : Nat} {v : Value} (h : w.cell? ⟨b, o, none⟩ = some v) : ∃ cs e fz, w.heap[b]? = some (.cells cs e fz) ∧ cs[o]? = some v := by
 unfold World.cell? at h
 simp only at h
 split at h
 ·rename_i cs e fz hw
  exact ⟨cs, e, fz, hw, h⟩
 ·cases h
theorem mapM_range {f : Nat → Option Value} : ∀ (k : Nat) (l : List Value), (List.range k).mapM f = some l → l.length = k ∧ ∀ i, i < k → f i = l[i]?
 | 0, l, h => by
  have : l = [] := by simpa using h
  subst this
  exact ⟨rfl, fun i hi => by omega⟩
 | k + 1, l, h => by
  rw [List.range_succ, List.mapM_append] at h
  simp only [Option.bind_eq_bind, Option.bind_eq_some_iff, List.mapM_cons, List.mapM_nil, Option.pure_def] at h
  obtain ⟨l1, h1, l2, h2, h3⟩ := h
  obtain ⟨x, hx, y, hy, hz⟩ := h2
  cases hy
  cases hz
  cases h3
  obtain ⟨hl, hp⟩ := mapM_range k l1 h1
  refine ⟨by simp [hl], fun i hi => ?_⟩
  by_cases hik : i < k
  ·rw [hp i hik, List.getElem?_append_left (by omega)]
  ·rw [show i = k by omega, hx, List.getElem?_append_right (by omega), hl]; simp
theorem cells_at {W : World} {base : Nat} {a : Addr} {k : Nat} {cs : List Value} (hk : 0 < k) (h : W.cells? base a k = some cs) : a.spot = none ∧ cs.length = k ∧ ∃ all e fz, W.heap[a.block]? = some (.cells all e fz) ∧ ∀ i, i < k → all[a.off + i]? = cs[i]? := by
 unfold World.cells? at h
 split at h
 case isFalse => cases h
 obtain ⟨hl, hp⟩ := mapM_range k cs h
 have h0 := hp 0 hk
 have hv0 : cs[0]? = some (cs[0]'(by omega)) := List.getElem?_eq_getElem _
 rw [hv0] at h0
 have hs : a.spot = none := by simpa [Addr.add] using World.cell?_spot h0
 obtain ⟨b, off, spot⟩ := a
 dsimp only at hs
 subst hs
 rw [add_plain] at h0
 obtain ⟨all, e, fz, hw, _⟩ := cell_block h0
 refine ⟨rfl, hl, all, e, fz, hw, fun i hi => ?_⟩
 have hvi : cs[i]? = some (cs[i]'(by omega)) := List.getElem?_eq_getElem _
 have hci := hp i hi
 rw [hvi] at hci
 rw [add_plain] at hci
 obtain ⟨all2, e2, fz2, hw2, h2⟩ := cell_block hci
 rw [hw] at hw2
 cases hw2
 rw [h2, hvi]
end
open Go.ChangeShapes Go.WideShapes Go.RowKit
set_option maxRecDepth 10000
noncomputable section
abbrev memL (L : List LaidRow) : Mem := memR (L.map LaidRow.cells) []
theorem memL_get (L : List LaidRow) (q : Nat) : (memL L).heap.get q = (L[q]?).map fun x => AObj.ro x.cells := by
 show (roT _ 0).get q = _
 rw [roT_get, if_pos (Nat.zero_le _), Nat.sub_zero, List.getElem?_map, Option.map_map]
 rfl
theorem drop_win {α : Type} {l l1 : List α} {n k : Nat} (hl : l1.length = k) (h : ∀ j, j < k → l[n + j]? = l1[j]?) : l.drop n = l1 ++ l.drop (n + k) := by
 apply List.ext_getElem?
 intro j
 rw [List.getElem?_drop]
 by_cases hj : j < k
 ·rw [h j hj, List.getElem?_append_left (by omega)]
 ·rw [List.getElem?_append_right (by omega), List.getElem?_drop]
  congr 1; omega
section
variable {H : Type} {enc : TypeId × Value → H} {W : World} {base : Nat} {sp : Nat → Bool} {held : Bool} {L : List LaidRow}
def Fits (t : TypeId) (d : DataW H) : Prop := ∀ q, q ∈ d.weights Tryz.prog t → q ≤ reachBytes
theorem mem_weightsAll {e : TypeId} {d : DataW H} {q : Nat} : ∀ {l : List (DataW H)}, d ∈ l → q ∈ d.weights Tryz.prog e → q ∈ DataW.weightsAll Tryz.prog e l
 | x :: l, hd, hq => by
  rw [DataW.weightsAll, List.mem_append]
  rcases List.mem_cons.1 hd with rfl | hd
  ·exact .inl hq
  ·exact .inr (mem_weightsAll hd hq)
theorem Fits.elem {t e : TypeId} (ht : Tryz.prog.underlying t = some (.slice e)) {l r : List (DataW H)} (h : Fits t (.slice l r)) {d : DataW H} (hd : d ∈ l) : Fits e d := fun q hq => h q (by
 rw [DataW.weights, ht]
 exact List.mem_cons_of_mem _ (List.mem_append.2 (.inl (mem_weightsAll hd hq))))
theorem Fits.len {t e : TypeId} (ht : Tryz.prog.underlying t = some (.slice e)) {l r : List (DataW H)} (h : Fits t (.slice l r)) : (l.length + r.length) * Tryz.prog.bytesOf e ≤ reachBytes := h _ (by
 rw [DataW.weights, ht]
 exact List.mem_cons_self)
theorem Fits.field {t : TypeId} {fs : Array Field} (ht : Tryz.prog.underlying t = some (.struct fs)) {l : List (DataW H)} (h : Fits t (.agg l)) {i : Nat} {f : Field} {d : DataW H} (hf : fs[i]? = some f) (hd : l[i]? = some d) : Fits f.type d := fun q hq => h q (by
 rw [DataW.weights, ht]
 exact DataW.weights_mem_each (by rw [List.getElem?_map, Array.getElem?_toList, hf]; rfl) hd q hq)
theorem open_sl {A : Type} (cellsA : A → List AVal) (OKA : A → Prop) {k n : Nat} (hk : 0 < k) {t e : TypeId} {cs : List Value} {x : DataW H × List MemPlace} (ht : Tryz.prog.underlying t = some (.slice e)) (hc : Tryz.prog.cellsOf e = k) (hby : 0 < Tryz.prog.bytesOf e) (hcell : ∀ a, OKA a → allCells (cellsA a) = true) (hL : Laid W L)
  (hA : ∀ (cs : List Value) (y : DataW H × List MemPlace), DataW.trod enc Tryz.prog W base sp held n e cs = some y → Fits e y.1 → ∃ a, cs.map (al W) = cellsA a ∧ OKA a) (h : DataW.trod enc Tryz.prog W base sp held (n + 1) t cs = some x) (hfit : Fits t x.1) : ∃ (v : Value) (els : List A), cs = [v] ∧ SlA (memL L) (al W v) k (els.map cellsA) ∧ ∀ a, a ∈ els → OKA a := by
 rcases DataW.trod_slice ht h with ⟨rfl, _⟩ | ⟨a, len, cap, elems, rest, n', hn, rfl, rfl, _, hlc, hcm, hel, hes, _, _⟩
 ·exact ⟨_, [], rfl, .inl ⟨rfl, .inl rfl⟩, fun a ha => by cases ha⟩
 ·have hnn : n' = n := by omega
  subst hnn
  cases len with
  | zero => exact ⟨_, [], rfl, .inl ⟨rfl, .inr rfl⟩, fun a ha => by cases ha⟩
  | succ m =>
   obtain ⟨els, hlen, hp⟩ := choose_list (Pr := fun i y => ∃ ci, W.cells? base (a.add (i * k)) k = some ci ∧ ci.map (al W) = cellsA y ∧ OKA y) (m + 1) (fun i hi => by
    have h1 := hes i hi
    rw [show elems[i]? = some (elems[i]'(by omega)) from List.getElem?_eq_getElem _, hc, Option.bind_eq_some_iff] at h1
    obtain ⟨ci, h2, h3⟩ := h1
    obtain ⟨y, h4, h5⟩ := hA ci _ h3 (hfit.elem ht (List.mem_map_of_mem (List.getElem_mem _)))
    exact ⟨y, ci, h2, h4, h5⟩)
   obtain ⟨c0, hc0, _, _⟩ := hp 0 (els[0]'(by omega)) (List.getElem?_eq_getElem _)
   obtain ⟨hs0, _, all, el, fz, hw, _⟩ := cells_at hk hc0
   obtain ⟨b, off, spot⟩ := a
   have hspot : spot = none := by simpa [Addr.add] using hs0
   subst hspot
   have hw' : W.heap[b]? = some (Obj.cells all el fz) := by rw [add_plain] at hw; exact hw
   have hb : isCellsB W b = true := isCellsB_iff.2 ⟨_, _, _, hw'⟩
   have hv : al W (.slice (some ⟨b, off, none⟩) (m + 1) cap) = .slice b off (m + 1) cap true := by
    show (bif isCellsB W b && _ then _ else _) = _
    rw [hb]; rfl
   refine ⟨_, els, rfl, .inr ⟨b, off, cap, true, all.toList.map (al W), ?_, ?_, ?_, ?_⟩, fun y hy => ?_⟩
   ·rw [hv, List.length_map, hlen]
   ·rw [List.length_map, hlen]
    have h1 := hfit.len ht
    rw [List.length_map, hel] at h1
    have h2 : m + 1 ≤ (m + 1 + (rest.map (·.1)).length) * Tryz.prog.bytesOf e := Nat.le_trans (Nat.le_add_right _ _) (Nat.le_mul_of_pos_right _ hby)
    have h3 := reachBytes_lt
    omega
   ·rw [memL_get, hL b all el fz hw']; rfl
   ·intro i c hi
    rw [List.getElem?_map, Option.map_eq_some_iff] at hi
    obtain ⟨y, hy, rfl⟩ := hi
    obtain ⟨ci, h2, h3, h4⟩ := hp i y hy
    obtain ⟨_, hcl, all2, el2, fz2, hw2, hat⟩ := cells_at hk h2
    rw [add_plain] at hw2 hat
    have hw2' : W.heap[b]? = some (Obj.cells all2 el2 fz2) := hw2
    rw [hw'] at hw2'
    cases hw2'
    have hlc2 : (cellsA y).length = k := by rw [← h3, List.length_map, hcl]
    rw [drop_eq, drop_win (l1 := cellsA y) (k := k) hlc2 (fun j hj => by
     rw [← h3, List.getElem?_map, List.getElem?_map, Array.getElem?_toList, show off + i * k + j = off + i * k + j from rfl]
     rw [← hat j hj])]
    have ht := take_pre (cellsA y) ((all.toList.map (al W)).drop (off + i * k + k)) (hcell y h4)
    rw [hlc2] at ht
    exact ht
   ·obtain ⟨i, hi⟩ := List.getElem?_of_mem hy
    obtain ⟨_, _, _, h4⟩ := hp i y hi
    exact h4
end
end
open Go.ChangeShapes Go.WideShapes Go.RowKit
set_option maxRecDepth 10000
noncomputable section
def fsOf (t : TypeId) : Array Field := match Tryz.prog.underlying t with
 | some (.struct fs) => fs
 | _ => #[]
def ftOf (t : TypeId) (i : Nat) : Option (TypeId × Nat) := ((fsOf t)[i]?).map fun f => (f.type, f.offset)
section
variable {H : Type} {enc : TypeId × Value → H} {W : World} {base : Nat} {sp : Nat → Bool} {held : Bool} {L : List LaidRow}
theorem str_field {t ft : TypeId} {n i o : Nat} {cs : List Value} {x : DataW H × List MemPlace} (hu : Tryz.prog.underlying t = some (.struct (fsOf t))) (h : DataW.trod enc Tryz.prog W base sp held (n + 1) t cs = some x) (hfit : Fits t x.1) (hf : ftOf t i = some (ft, o)) (hc : Tryz.prog.cellsOf ft = 1) (ho : o < Tryz.prog.cellsOf t) :
  cs.length = Tryz.prog.cellsOf t ∧ ∃ y v, cs[o]? = some v ∧ DataW.trod enc Tryz.prog W base sp held n ft [v] = some y ∧ Fits ft y.1 := by
 obtain ⟨xs, n', hn, rfl, hl, hlen, hall⟩ := DataW.trod_struct hu h
 have hnn : n' = n := by omega
 subst hnn
 unfold ftOf at hf
 rw [Option.map_eq_some_iff] at hf
 obtain ⟨f, h1, h2⟩ := hf
 cases h2
 have hi : i < xs.length := by rw [hlen]; exact (Array.getElem?_eq_some_iff.1 h1).1
 have h3 := hall i f h1
 have hx : xs[i]? = some xs[i] := List.getElem?_eq_getElem hi
 rw [hx, hc] at h3
 have hol : f.offset < cs.length := by omega
 have hv : cs[f.offset]? = some cs[f.offset] := List.getElem?_eq_getElem hol
 have h4 : (cs.drop f.offset).take 1 = [cs[f.offset]] := by
  rw [List.drop_eq_getElem_cons hol]; rfl
 rw [h4] at h3
 exact ⟨hl, xs[i], _, hv, h3, hfit.field hu h1 (by rw [List.getElem?_map, hx]; rfl)⟩
theorem trod0 {t : TypeId} {cs : List Value} {x : DataW H × List MemPlace} (h : DataW.trod enc Tryz.prog W base sp held 0 t cs = some x) : False := by
 simp [DataW.trod] at h
theorem fld_int {t : TypeId} {n : Nat} {v : Value} {y : DataW H × List MemPlace} (hu : Tryz.prog.underlying t = some (.int .i64)) (h : DataW.trod enc Tryz.prog W base sp held n t [v] = some y) : ∃ k, al W v = iv k := by
 obtain ⟨k, e, _⟩ := DataW.trod_int hu h
 cases e
 exact ⟨k, rfl⟩
theorem i43 : Tryz.prog.underlying 43 = some (.int .i64) := by kernel_rfl
theorem i48 : Tryz.prog.underlying 48 = some (.int .i64) := by kernel_rfl
theorem i3 : Tryz.prog.underlying 3 = some (.int .i64) := by kernel_rfl
theorem s46 : Tryz.prog.underlying 46 = some (.struct (fsOf 46)) := by kernel_rfl
theorem s50 : Tryz.prog.underlying 50 = some (.struct (fsOf 50)) := by kernel_rfl
theorem fld_sl {A : Type} (cellsA : A → List AVal) (OKA : A → Prop) {k n : Nat} (hk : 0 < k) {t e : TypeId} {v : Value} {y : DataW H × List MemPlace} (ht : Tryz.prog.underlying t = some (.slice e)) (hc : Tryz.prog.cellsOf e = k) (hby : 0 < Tryz.prog.bytesOf e) (hcell : ∀ a, OKA a → allCells (cellsA a) = true) (hL : Laid W L)
  (hA : ∀ m, n = m + 1 → ∀ (cs : List Value) (y : DataW H × List MemPlace), DataW.trod enc Tryz.prog W base sp held m e cs = some y → Fits e y.1 → ∃ a, cs.map (al W) = cellsA a ∧ OKA a) (h : DataW.trod enc Tryz.prog W base sp held n t [v] = some y) (hfit : Fits t y.1) : ∃ els : List A, SlA (memL L) (al W v) k (els.map cellsA) ∧ ∀ a, a ∈ els → OKA a := by
 cases n with
 | zero => exact (trod0 h).elim
 | succ m =>
  obtain ⟨v', els, e, h1, h2⟩ := open_sl cellsA OKA hk ht hc hby hcell hL (hA m rfl) h hfit
  cases e
  exact ⟨els, h1, h2⟩
theorem open_ax (hL : Laid W L) : ∀ (n : Nat) (cs : List Value) (y : DataW H × List MemPlace), DataW.trod enc Tryz.prog W base sp held n 46 cs = some y → Fits 46 y.1 → ∃ e : AX, cs.map (al W) = e.cells ∧ e.OK (memL L)
 | 0, _, _, h, _ => (trod0 h).elim
 | n + 1, cs, y, h, hfit => by
  obtain ⟨hl, y0, v0, e0, t0, _⟩ := str_field (i := 0) (o := 0) (ft := 43) s46 h hfit (by kernel_rfl) (by kernel_rfl) (by decide +kernel)
  obtain ⟨_, y1, v1, e1, t1, _⟩ := str_field (i := 1) (o := 1) (ft := 3) s46 h hfit (by kernel_rfl) (by kernel_rfl) (by decide +kernel)
  obtain ⟨_, y2, v2, e2, t2, f2⟩ := str_field (i := 2) (o := 2) (ft := 44) s46 h hfit (by kernel_rfl) (by kernel_rfl) (by decide +kernel)
  obtain ⟨a, ha⟩ := fld_int i43 t0
  obtain ⟨b, hb⟩ := fld_int i3 t1
  obtain ⟨els, h1, h2⟩ := fld_sl AX.cells (AX.OK (memL L)) (k := 3) (by decide) SlF.h (by kernel_rfl) (by decide +kernel) (fun a ha => ax_cells (e := a) ha) hL (fun m hm cs y h hf => open_ax hL m cs y h hf) t2 f2
  have hlen : cs.length = 3 := hl.trans (by kernel_rfl)
  refine ⟨.mk a b (al W v2) els, ?_, .mk h1 h2⟩
  match cs, hlen with
  | [c0, c1, c2], _ =>
   cases e0; cases e1; cases e2
   show [al W v0, al W v1, al W v2] = _
   rw [ha, hb]; rfl
theorem open_val : ∀ (n : Nat) (cs : List Value) (y : DataW H × List MemPlace), DataW.trod enc Tryz.prog W base sp held n 50 cs = some y → Fits 50 y.1 → ∃ p : VP, cs.map (al W) = vcells p ∧ True
 | 0, _, _, h, _ => (trod0 h).elim
 | n + 1, cs, y, h, hfit => by
  obtain ⟨hl, y0, v0, e0, t0, _⟩ := str_field (i := 0) (o := 0) (ft := 48) s50 h hfit (by kernel_rfl) (by kernel_rfl) (by decide +kernel)
  obtain ⟨_, y1, v1, e1, t1, _⟩ := str_field (i := 1) (o := 1) (ft := 3) s50 h hfit (by kernel_rfl) (by kernel_rfl) (by decide +kernel)
  obtain ⟨a, ha⟩ := fld_int i48 t0
  obtain ⟨b, hb⟩ := fld_int i3 t1
  have hlen : cs.length = 2 := hl.trans (by kernel_rfl)
  refine ⟨(a, b), ?_, trivial⟩
  match cs, hlen with
  | [c0, c1], _ =>
   cases e0; cases e1
   show [al W v0, al W v1] = _
   rw [ha, hb]; rfl
theorem open_env (hL : Laid W L) {n : Nat} {v : Value} {y : DataW H × List MemPlace} (h : DataW.trod enc Tryz.prog W base sp held n 47 [v] = some y) (hfit : Fits 47 y.1) : ∃ env : List VP, SlA (memL L) (al W v) 2 (env.map vcells) := by
 obtain ⟨els, h1, _⟩ := fld_sl vcells (fun _ => True) (k := 2) (by decide) SlF.h (by kernel_rfl) (by decide +kernel) (fun _ _ => rfl) hL (fun m hm cs y h hf => open_val m cs y h hf) h hfit
 exact ⟨els, h1⟩
end
end
end Go.Proofs.YtkfjmpdbfjaboaaGreat
