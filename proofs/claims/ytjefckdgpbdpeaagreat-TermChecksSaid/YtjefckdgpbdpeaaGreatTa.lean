/- A part of the proof of TermChecks. -/
import Derived.Test.YtjefckdgpbdpeaaGreatProg
import Derived.KernelRfl
import Derived.Test.YtjefckdgpbdpeaaGreatAbsM
namespace Go.Proofs.YtjefckdgpbdpeaaGreat
open Go Go.Abs
noncomputable section
def bodyF (f : Func) : Code := match f.body with | some c => c | none => .skip
noncomputable def okNames : Bool := (List.range Tryz.prog.funcs.size).all fun i => match Tryz.prog.funcs[i]? with | some fn => !fn.body.isSome || !(fn.name == "runtime.NumGoroutine") | none => true
theorem okNames_true : okNames = true := by kernel_rfl
theorem names : NamesOK Tryz.prog := by
 intro f fn hf hb
 have hlt := (Array.getElem?_eq_some_iff.1 hf).1
 have h := okNames_true
 unfold okNames at h
 rw [List.all_eq_true] at h
 have h2 := h f (List.mem_range.2 hlt)
 rw [hf] at h2
 dsimp only at h2
 rw [hb] at h2
 simpa using h2
theorem mixed : Tryz.prog.follows .mixedOrders = true := by kernel_rfl
def low (b : UInt8) : Bool := !(decide (b.toNat < 97)) && !(decide (122 < b.toNat))
def speltB (s : ByteArray) : Bool := decide (1 ≤ s.size) && decide (s.size ≤ 8) && s.data.toList.all low
theorem u9 : Tryz.prog.underlying 9 = some .string := by kernel_rfl
theorem tz4 : tzero Tryz.prog 4 = some (.bool false) := by kernel_rfl
def kwB : List ByteArray := [⟨#[97, 110, 100]⟩, ⟨#[100, 101, 102]⟩, ⟨#[101, 108, 115, 101]⟩, ⟨#[103, 111]⟩, ⟨#[105, 102]⟩, ⟨#[105, 110]⟩, ⟨#[112, 108, 97, 99, 101]⟩, ⟨#[115, 116, 111, 112]⟩, ⟨#[116, 104, 101, 110]⟩, ⟨#[119, 97, 116, 99, 104]⟩]
def refNameB (s : ByteArray) : Bool := decide (1 ≤ s.size) && decide (s.size ≤ 8) && (s.data.toList.all low && !isIn s kwB)
def nameB (s : ByteArray) : Bool := speltB s && !isIn s kwB
def kwL : List (ByteArray × Nat) := kwB.zip [0, 1, 2, 3, 4, 5, 6, 7, 8, 9]
theorem keys_kwL : keysE kwL = kwB := rfl
theorem name_same (s : ByteArray) : nameB s = refNameB s := by
 unfold nameB speltB refNameB
 rw [Bool.and_assoc]
end
noncomputable def zv_85 : Value := (tzero Tryz.prog 85).getD .nilFunc
noncomputable def zv_79 : Value := (tzero Tryz.prog 79).getD .nilFunc
theorem co_133 : concreteT (Tryz.prog.underlying 133) = true := by kernel_rfl
theorem co_189 : concreteT (Tryz.prog.underlying 189) = true := by kernel_rfl
theorem co_79 : concreteT (Tryz.prog.underlying 79) = true := by kernel_rfl
theorem co_85 : concreteT (Tryz.prog.underlying 85) = true := by kernel_rfl
theorem el_116 : sizedElem Tryz.prog (sliceElem Tryz.prog 116) = some (126, 2) := by kernel_rfl
theorem el_22 : sizedElem Tryz.prog (sliceElem Tryz.prog 22) = some (9, 1) := by kernel_rfl
theorem el_29 : sizedElem Tryz.prog (sliceElem Tryz.prog 29) = some (36, 4) := by kernel_rfl
theorem el_30 : sizedElem Tryz.prog (sliceElem Tryz.prog 30) = some (118, 5) := by kernel_rfl
theorem el_31 : sizedElem Tryz.prog (sliceElem Tryz.prog 31) = some (33, 5) := by kernel_rfl
theorem fd_118_0 : fieldOT Tryz.prog 118 0 = some (0, 115) := by kernel_rfl
theorem ft_118_0 : tagg Tryz.prog 115 = some false := by kernel_rfl
theorem fs_118_0 : tsz Tryz.prog 115 = some 1 := by kernel_rfl
theorem fd_118_1 : fieldOT Tryz.prog 118 1 = some (1, 9) := by kernel_rfl
theorem ft_118_1 : tagg Tryz.prog 9 = some false := by kernel_rfl
theorem fs_118_1 : tsz Tryz.prog 9 = some 1 := by kernel_rfl
theorem fd_118_2 : fieldOT Tryz.prog 118 2 = some (2, 116) := by kernel_rfl
theorem ft_118_2 : tagg Tryz.prog 116 = some false := by kernel_rfl
theorem fs_118_2 : tsz Tryz.prog 116 = some 1 := by kernel_rfl
theorem fd_118_3 : fieldOT Tryz.prog 118 3 = some (3, 30) := by kernel_rfl
theorem ft_118_3 : tagg Tryz.prog 30 = some false := by kernel_rfl
theorem fs_118_3 : tsz Tryz.prog 30 = some 1 := by kernel_rfl
theorem fd_118_4 : fieldOT Tryz.prog 118 4 = some (4, 31) := by kernel_rfl
theorem ft_118_4 : tagg Tryz.prog 31 = some false := by kernel_rfl
theorem fs_118_4 : tsz Tryz.prog 31 = some 1 := by kernel_rfl
theorem fd_126_0 : fieldOT Tryz.prog 126 0 = some (0, 9) := by kernel_rfl
theorem fd_126_1 : fieldOT Tryz.prog 126 1 = some (1, 22) := by kernel_rfl
theorem ft_126_1 : tagg Tryz.prog 22 = some false := by kernel_rfl
theorem fs_126_1 : tsz Tryz.prog 22 = some 1 := by kernel_rfl
theorem fd_136_0 : fieldOT Tryz.prog 136 0 = some (0, 75) := by kernel_rfl
theorem ft_136_0 : tagg Tryz.prog 75 = some true := by kernel_rfl
theorem fs_136_0 : tsz Tryz.prog 75 = some 2 := by kernel_rfl
theorem fd_136_1 : fieldOT Tryz.prog 136 1 = some (2, 70) := by kernel_rfl
theorem ft_136_1 : tagg Tryz.prog 70 = some false := by kernel_rfl
theorem fs_136_1 : tsz Tryz.prog 70 = some 1 := by kernel_rfl
theorem fd_189_0 : fieldOT Tryz.prog 189 0 = some (0, 118) := by kernel_rfl
theorem ft_189_0 : tagg Tryz.prog 118 = some true := by kernel_rfl
theorem fs_189_0 : tsz Tryz.prog 118 = some 5 := by kernel_rfl
theorem fd_218_0 : fieldOT Tryz.prog 218 0 = some (0, 4) := by kernel_rfl
theorem ft_218_0 : tagg Tryz.prog 4 = some false := by kernel_rfl
theorem fs_218_0 : tsz Tryz.prog 4 = some 1 := by kernel_rfl
theorem fd_218_1 : fieldOT Tryz.prog 218 1 = some (1, 3) := by kernel_rfl
theorem ft_218_1 : tagg Tryz.prog 3 = some false := by kernel_rfl
theorem fs_218_1 : tsz Tryz.prog 3 = some 1 := by kernel_rfl
theorem fd_218_2 : fieldOT Tryz.prog 218 2 = some (2, 3) := by kernel_rfl
theorem fd_218_3 : fieldOT Tryz.prog 218 3 = some (3, 3) := by kernel_rfl
theorem fd_218_4 : fieldOT Tryz.prog 218 4 = some (4, 3) := by kernel_rfl
theorem fd_33_0 : fieldOT Tryz.prog 33 0 = some (0, 28) := by kernel_rfl
theorem ft_33_0 : tagg Tryz.prog 28 = some false := by kernel_rfl
theorem fs_33_0 : tsz Tryz.prog 28 = some 1 := by kernel_rfl
theorem fd_33_1 : fieldOT Tryz.prog 33 1 = some (1, 9) := by kernel_rfl
theorem fd_33_2 : fieldOT Tryz.prog 33 2 = some (2, 29) := by kernel_rfl
theorem ft_33_2 : tagg Tryz.prog 29 = some false := by kernel_rfl
theorem fs_33_2 : tsz Tryz.prog 29 = some 1 := by kernel_rfl
theorem fd_33_3 : fieldOT Tryz.prog 33 3 = some (3, 30) := by kernel_rfl
theorem fd_33_4 : fieldOT Tryz.prog 33 4 = some (4, 31) := by kernel_rfl
theorem fd_36_0 : fieldOT Tryz.prog 36 0 = some (0, 34) := by kernel_rfl
theorem ft_36_0 : tagg Tryz.prog 34 = some false := by kernel_rfl
theorem fs_36_0 : tsz Tryz.prog 34 = some 1 := by kernel_rfl
theorem fd_36_1 : fieldOT Tryz.prog 36 1 = some (1, 3) := by kernel_rfl
theorem fd_36_2 : fieldOT Tryz.prog 36 2 = some (2, 9) := by kernel_rfl
theorem fd_36_3 : fieldOT Tryz.prog 36 3 = some (3, 29) := by kernel_rfl
theorem fd_75_0 : fieldOT Tryz.prog 75 0 = some (0, 3) := by kernel_rfl
theorem fd_75_1 : fieldOT Tryz.prog 75 1 = some (1, 3) := by kernel_rfl
theorem fd_79_0 : fieldOT Tryz.prog 79 0 = some (0, 33) := by kernel_rfl
theorem ft_79_0 : tagg Tryz.prog 33 = some true := by kernel_rfl
theorem fs_79_0 : tsz Tryz.prog 33 = some 5 := by kernel_rfl
theorem fd_85_0 : fieldOT Tryz.prog 85 0 = some (0, 36) := by kernel_rfl
theorem ft_85_0 : tagg Tryz.prog 36 = some true := by kernel_rfl
theorem fs_85_0 : tsz Tryz.prog 36 = some 4 := by kernel_rfl
theorem fit_189_189 : fits Tryz.prog 189 189 = some true := by kernel_rfl
theorem if_189 : isIfaceT Tryz.prog 189 = false := by kernel_rfl
theorem fit_79_189 : fits Tryz.prog 79 189 = some false := by kernel_rfl
theorem tz_79 : tzero Tryz.prog 79 = some (zv_79) := by kernel_rfl
theorem fit_79_79 : fits Tryz.prog 79 79 = some true := by kernel_rfl
theorem if_79 : isIfaceT Tryz.prog 79 = false := by kernel_rfl
theorem fit_79_85 : fits Tryz.prog 79 85 = some false := by kernel_rfl
theorem fit_85_189 : fits Tryz.prog 85 189 = some false := by kernel_rfl
theorem tz_85 : tzero Tryz.prog 85 = some (zv_85) := by kernel_rfl
theorem fit_85_85 : fits Tryz.prog 85 85 = some true := by kernel_rfl
theorem if_85 : isIfaceT Tryz.prog 85 = false := by kernel_rfl
theorem mk_70 : Abs.mapKey Tryz.prog 70 = some (9, 4) := by kernel_rfl
theorem pl_218 : eqPlan Tryz.prog 218 = some [(0, 0), (1, 1), (2, 1), (3, 1), (4, 1)] := by kernel_rfl
theorem tg_115 : tagg Tryz.prog 115 = some false := by kernel_rfl
theorem sz_115 : tsz Tryz.prog 115 = some 1 := by kernel_rfl
theorem tg_116 : tagg Tryz.prog 116 = some false := by kernel_rfl
theorem sz_116 : tsz Tryz.prog 116 = some 1 := by kernel_rfl
theorem tg_118 : tagg Tryz.prog 118 = some true := by kernel_rfl
theorem sz_118 : tsz Tryz.prog 118 = some 5 := by kernel_rfl
theorem tg_126 : tagg Tryz.prog 126 = some true := by kernel_rfl
theorem sz_126 : tsz Tryz.prog 126 = some 2 := by kernel_rfl
theorem tg_131 : tagg Tryz.prog 131 = some false := by kernel_rfl
theorem sz_131 : tsz Tryz.prog 131 = some 1 := by kernel_rfl
theorem tg_182 : tagg Tryz.prog 182 = some false := by kernel_rfl
theorem sz_182 : tsz Tryz.prog 182 = some 1 := by kernel_rfl
theorem tg_189 : tagg Tryz.prog 189 = some true := by kernel_rfl
theorem sz_189 : tsz Tryz.prog 189 = some 5 := by kernel_rfl
theorem tg_205 : tagg Tryz.prog 205 = some false := by kernel_rfl
theorem sz_205 : tsz Tryz.prog 205 = some 1 := by kernel_rfl
theorem tg_218 : tagg Tryz.prog 218 = some true := by kernel_rfl
theorem sz_218 : tsz Tryz.prog 218 = some 5 := by kernel_rfl
theorem tg_22 : tagg Tryz.prog 22 = some false := by kernel_rfl
theorem sz_22 : tsz Tryz.prog 22 = some 1 := by kernel_rfl
theorem tg_3 : tagg Tryz.prog 3 = some false := by kernel_rfl
theorem sz_3 : tsz Tryz.prog 3 = some 1 := by kernel_rfl
theorem tg_30 : tagg Tryz.prog 30 = some false := by kernel_rfl
theorem sz_30 : tsz Tryz.prog 30 = some 1 := by kernel_rfl
theorem tg_31 : tagg Tryz.prog 31 = some false := by kernel_rfl
theorem sz_31 : tsz Tryz.prog 31 = some 1 := by kernel_rfl
theorem tg_33 : tagg Tryz.prog 33 = some true := by kernel_rfl
theorem sz_33 : tsz Tryz.prog 33 = some 5 := by kernel_rfl
theorem tg_36 : tagg Tryz.prog 36 = some true := by kernel_rfl
theorem sz_36 : tsz Tryz.prog 36 = some 4 := by kernel_rfl
theorem tg_4 : tagg Tryz.prog 4 = some false := by kernel_rfl
theorem sz_4 : tsz Tryz.prog 4 = some 1 := by kernel_rfl
theorem tg_70 : tagg Tryz.prog 70 = some false := by kernel_rfl
theorem sz_70 : tsz Tryz.prog 70 = some 1 := by kernel_rfl
theorem tg_79 : tagg Tryz.prog 79 = some true := by kernel_rfl
theorem sz_79 : tsz Tryz.prog 79 = some 5 := by kernel_rfl
theorem tg_85 : tagg Tryz.prog 85 = some true := by kernel_rfl
theorem sz_85 : tsz Tryz.prog 85 = some 4 := by kernel_rfl
theorem tg_9 : tagg Tryz.prog 9 = some false := by kernel_rfl
theorem sz_9 : tsz Tryz.prog 9 = some 1 := by kernel_rfl
theorem un_116 : Tryz.prog.underlying 116 = some (.slice 126) := by kernel_rfl
theorem un_133 : placesT Tryz.prog 133 = some [] := by kernel_rfl
theorem un_189 : placesT Tryz.prog 189 = some [(0, 5)] := by kernel_rfl
theorem un_218 : placesT Tryz.prog 218 = some [(0, 1), (1, 1), (2, 1), (3, 1), (4, 1)] := by kernel_rfl
theorem un_22 : Tryz.prog.underlying 22 = some (.slice 9) := by kernel_rfl
theorem un_29 : Tryz.prog.underlying 29 = some (.slice 36) := by kernel_rfl
theorem un_30 : Tryz.prog.underlying 30 = some (.slice 118) := by kernel_rfl
theorem un_31 : Tryz.prog.underlying 31 = some (.slice 33) := by kernel_rfl
theorem un_79 : placesT Tryz.prog 79 = some [(0, 5)] := by kernel_rfl
theorem un_85 : placesT Tryz.prog 85 = some [(0, 4)] := by kernel_rfl
theorem zc_118 : zcells Tryz.prog 118 = some [.lit (.int .i64 0), .lit (.string .empty), .lit (.slice none 0 0), .lit (.slice none 0 0), .lit (.slice none 0 0)] := by kernel_rfl
theorem zc_126 : zcells Tryz.prog 126 = some [.lit (.string .empty), .lit (.slice none 0 0)] := by kernel_rfl
theorem zc_133 : zcells Tryz.prog 133 = some [] := by kernel_rfl
theorem zc_182 : zcells Tryz.prog 182 = some [.lit .nilFunc] := by kernel_rfl
theorem zc_189 : zcells Tryz.prog 189 = some [.lit (.int .i64 0), .lit (.string .empty), .lit (.slice none 0 0), .lit (.slice none 0 0), .lit (.slice none 0 0)] := by kernel_rfl
theorem zc_218 : zcells Tryz.prog 218 = some [.lit (.bool false), .lit (.int .i64 0), .lit (.int .i64 0), .lit (.int .i64 0), .lit (.int .i64 0)] := by kernel_rfl
theorem zc_33 : zcells Tryz.prog 33 = some [.lit (.int .i64 0), .lit (.string .empty), .lit (.slice none 0 0), .lit (.slice none 0 0), .lit (.slice none 0 0)] := by kernel_rfl
theorem zc_36 : zcells Tryz.prog 36 = some [.lit (.int .i64 0), .lit (.int .i64 0), .lit (.string .empty), .lit (.slice none 0 0)] := by kernel_rfl
theorem zc_4 : zcells Tryz.prog 4 = some [.lit (.bool false)] := by kernel_rfl
theorem zc_79 : zcells Tryz.prog 79 = some [.lit (.int .i64 0), .lit (.string .empty), .lit (.slice none 0 0), .lit (.slice none 0 0), .lit (.slice none 0 0)] := by kernel_rfl
theorem zc_85 : zcells Tryz.prog 85 = some [.lit (.int .i64 0), .lit (.int .i64 0), .lit (.string .empty), .lit (.slice none 0 0)] := by kernel_rfl
instance : ElF Tryz.prog 116 126 2 := ⟨el_116⟩
instance : ElF Tryz.prog 22 9 1 := ⟨el_22⟩
instance : ElF Tryz.prog 29 36 4 := ⟨el_29⟩
instance : ElF Tryz.prog 30 118 5 := ⟨el_30⟩
instance : ElF Tryz.prog 31 33 5 := ⟨el_31⟩
instance : FdF Tryz.prog 118 0 0 115 := ⟨fd_118_0⟩
instance : FdF Tryz.prog 118 1 1 9 := ⟨fd_118_1⟩
instance : FdF Tryz.prog 118 2 2 116 := ⟨fd_118_2⟩
instance : FdF Tryz.prog 118 3 3 30 := ⟨fd_118_3⟩
instance : FdF Tryz.prog 118 4 4 31 := ⟨fd_118_4⟩
instance : FdF Tryz.prog 126 0 0 9 := ⟨fd_126_0⟩
instance : FdF Tryz.prog 126 1 1 22 := ⟨fd_126_1⟩
instance : FdF Tryz.prog 136 0 0 75 := ⟨fd_136_0⟩
instance : FdF Tryz.prog 136 1 2 70 := ⟨fd_136_1⟩
instance : FdF Tryz.prog 189 0 0 118 := ⟨fd_189_0⟩
instance : FdF Tryz.prog 218 0 0 4 := ⟨fd_218_0⟩
instance : FdF Tryz.prog 218 1 1 3 := ⟨fd_218_1⟩
instance : FdF Tryz.prog 218 2 2 3 := ⟨fd_218_2⟩
instance : FdF Tryz.prog 218 3 3 3 := ⟨fd_218_3⟩
instance : FdF Tryz.prog 218 4 4 3 := ⟨fd_218_4⟩
instance : FdF Tryz.prog 33 0 0 28 := ⟨fd_33_0⟩
instance : FdF Tryz.prog 33 1 1 9 := ⟨fd_33_1⟩
instance : FdF Tryz.prog 33 2 2 29 := ⟨fd_33_2⟩
instance : FdF Tryz.prog 33 3 3 30 := ⟨fd_33_3⟩
instance : FdF Tryz.prog 33 4 4 31 := ⟨fd_33_4⟩
instance : FdF Tryz.prog 36 0 0 34 := ⟨fd_36_0⟩
instance : FdF Tryz.prog 36 1 1 3 := ⟨fd_36_1⟩
instance : FdF Tryz.prog 36 2 2 9 := ⟨fd_36_2⟩
instance : FdF Tryz.prog 36 3 3 29 := ⟨fd_36_3⟩
instance : FdF Tryz.prog 75 0 0 3 := ⟨fd_75_0⟩
instance : FdF Tryz.prog 75 1 1 3 := ⟨fd_75_1⟩
instance : FdF Tryz.prog 79 0 0 33 := ⟨fd_79_0⟩
instance : FdF Tryz.prog 85 0 0 36 := ⟨fd_85_0⟩
instance : SlF Tryz.prog 116 126 := ⟨un_116⟩
instance : PlF Tryz.prog 133 [] := ⟨un_133⟩
instance : PlF Tryz.prog 189 [(0, 5)] := ⟨un_189⟩
instance : PlF Tryz.prog 218 [(0, 1), (1, 1), (2, 1), (3, 1), (4, 1)] := ⟨un_218⟩
instance : SlF Tryz.prog 22 9 := ⟨un_22⟩
instance : SlF Tryz.prog 29 36 := ⟨un_29⟩
instance : SlF Tryz.prog 30 118 := ⟨un_30⟩
instance : SlF Tryz.prog 31 33 := ⟨un_31⟩
instance : PlF Tryz.prog 79 [(0, 5)] := ⟨un_79⟩
instance : PlF Tryz.prog 85 [(0, 4)] := ⟨un_85⟩
instance : ZcF Tryz.prog 118 [.lit (.int .i64 0), .lit (.string .empty), .lit (.slice none 0 0), .lit (.slice none 0 0), .lit (.slice none 0 0)] := ⟨zc_118⟩
instance : ZcF Tryz.prog 126 [.lit (.string .empty), .lit (.slice none 0 0)] := ⟨zc_126⟩
instance : ZcF Tryz.prog 133 [] := ⟨zc_133⟩
instance : ZcF Tryz.prog 182 [.lit .nilFunc] := ⟨zc_182⟩
instance : ZcF Tryz.prog 189 [.lit (.int .i64 0), .lit (.string .empty), .lit (.slice none 0 0), .lit (.slice none 0 0), .lit (.slice none 0 0)] := ⟨zc_189⟩
instance : ZcF Tryz.prog 218 [.lit (.bool false), .lit (.int .i64 0), .lit (.int .i64 0), .lit (.int .i64 0), .lit (.int .i64 0)] := ⟨zc_218⟩
instance : ZcF Tryz.prog 33 [.lit (.int .i64 0), .lit (.string .empty), .lit (.slice none 0 0), .lit (.slice none 0 0), .lit (.slice none 0 0)] := ⟨zc_33⟩
instance : ZcF Tryz.prog 36 [.lit (.int .i64 0), .lit (.int .i64 0), .lit (.string .empty), .lit (.slice none 0 0)] := ⟨zc_36⟩
instance : ZcF Tryz.prog 4 [.lit (.bool false)] := ⟨zc_4⟩
instance : ZcF Tryz.prog 79 [.lit (.int .i64 0), .lit (.string .empty), .lit (.slice none 0 0), .lit (.slice none 0 0), .lit (.slice none 0 0)] := ⟨zc_79⟩
instance : ZcF Tryz.prog 85 [.lit (.int .i64 0), .lit (.int .i64 0), .lit (.string .empty), .lit (.slice none 0 0)] := ⟨zc_85⟩
instance : TyF Tryz.prog 115 false 1 := ⟨ft_118_0, fs_118_0⟩
instance : TyF Tryz.prog 9 false 1 := ⟨ft_118_1, fs_118_1⟩
instance : TyF Tryz.prog 116 false 1 := ⟨ft_118_2, fs_118_2⟩
instance : TyF Tryz.prog 30 false 1 := ⟨ft_118_3, fs_118_3⟩
instance : TyF Tryz.prog 31 false 1 := ⟨ft_118_4, fs_118_4⟩
instance : TyF Tryz.prog 22 false 1 := ⟨ft_126_1, fs_126_1⟩
instance : TyF Tryz.prog 75 true 2 := ⟨ft_136_0, fs_136_0⟩
instance : TyF Tryz.prog 70 false 1 := ⟨ft_136_1, fs_136_1⟩
instance : TyF Tryz.prog 118 true 5 := ⟨ft_189_0, fs_189_0⟩
instance : TyF Tryz.prog 4 false 1 := ⟨ft_218_0, fs_218_0⟩
instance : TyF Tryz.prog 3 false 1 := ⟨ft_218_1, fs_218_1⟩
instance : TyF Tryz.prog 28 false 1 := ⟨ft_33_0, fs_33_0⟩
instance : TyF Tryz.prog 29 false 1 := ⟨ft_33_2, fs_33_2⟩
instance : TyF Tryz.prog 34 false 1 := ⟨ft_36_0, fs_36_0⟩
instance : TyF Tryz.prog 33 true 5 := ⟨ft_79_0, fs_79_0⟩
instance : TyF Tryz.prog 36 true 4 := ⟨ft_85_0, fs_85_0⟩
instance : TyF Tryz.prog 126 true 2 := ⟨tg_126, sz_126⟩
instance : TyF Tryz.prog 131 false 1 := ⟨tg_131, sz_131⟩
instance : TyF Tryz.prog 182 false 1 := ⟨tg_182, sz_182⟩
instance : TyF Tryz.prog 189 true 5 := ⟨tg_189, sz_189⟩
instance : TyF Tryz.prog 205 false 1 := ⟨tg_205, sz_205⟩
instance : TyF Tryz.prog 218 true 5 := ⟨tg_218, sz_218⟩
instance : TyF Tryz.prog 79 true 5 := ⟨tg_79, sz_79⟩
instance : TyF Tryz.prog 85 true 4 := ⟨tg_85, sz_85⟩
instance : StF Tryz.prog 9 := ⟨by kernel_rfl⟩
open Go.RowKit (Below)
set_option maxRecDepth 10000
noncomputable section
structure Tab (fl : Fl) : Prop where
 plain : fl.l = []
 tb : ∀ f args m, f ≠ 14 → fl.tb f args m = none
 tc : ∀ f args m, fl.tc f args m = none
theorem Tab.start {fl : Fl} (hfl : Tab fl) {m : Mem} {Q : RR → Prop} {f : FuncId} (h1 : f ≠ 14) {fn : Func} {c : Code} {args : List AVal} (nt : Nat) (hf : Tryz.prog.funcs[f]? = some fn) (hb : fn.body = some c) (hnt : fn.ntmps = nt) (hlen : args.length ≤ nt)
  (w : ∀ b, (∀ i v, args[i]? = some v → getT b i = v) → Wp Tryz.prog fl (At ⟨f, nt, false, none⟩ [.code c] (sets nt b []) [] .run [] m) Q) : CallQ Tryz.prog fl f args m Q := by
 subst hnt
 exact CallQ.body (hfl.tb _ _ _ h1) (hfl.tc _ _ _) (by rw [hfl.plain]; rfl) (by rw [hfl.plain]; rfl) hf hb hlen (w _ (fun i v h => getA h))
structure Cel (m : Mem) (r : Nat) (cells : List AVal) : Prop where
 row : ∃ e, m.heap.get r = some (.row e cells r 0)
 fam : m.fams.get r = none
theorem Cel.of {m : Mem} {r : Nat} {e : Elem} {cells : List AVal} (h : m.heap.get r = some (.row e cells r 0)) (hf : m.fams.get r = none) : Cel m r cells := ⟨⟨e, h⟩, hf⟩
theorem Cel.kept {S : Nat → Prop} {m m' : Mem} {r : Nat} {cells : List AVal} (h : Cel m r cells) (k : Kept S m m') (hlt : r < m.next) (hS : ¬ S r) : Cel m' r cells := by
 obtain ⟨⟨e, h1⟩, h2⟩ := h
 exact ⟨⟨e, (k.get r hlt hS).trans h1⟩, (k.fam r hlt hS).trans h2⟩
theorem Cel.lt {m : Mem} {r : Nat} {cells : List AVal} (h : Cel m r cells) (hw : Wf m) : r < m.next := by
 obtain ⟨⟨e, h1⟩, _⟩ := h
 exact hw.lt h1
abbrev unfC : Chain := [(.iface 133 (.agg []), false)]
def StepQ (S : Nat → Prop) (m : Mem) (ok : Bool) (post : Mem → Prop) : RR → Prop := fun r =>
 (ok = true ∧ ∃ u m', r = .ret (.tuple []) u m' ∧ Kept S m m' ∧ post m') ∨ (ok = false ∧ ∃ u m', r = .panicked unfC u m' ∧ Kept S m m')
theorem s_step {fl : Fl} {Q : RR → Prop} {env : Env} {k : List AItem} {ds : List ADef} {up : Chain} {m : Mem} {nt : Nat} {b : T AVal} {l : List (Nat × AVal)} {all rest : List Oper} {o : Oper} {d : Nat} {f : FuncId} {args : List AVal} {m1 : Mem} {S : Nat → Prop} {ok : Bool} {post : Mem → Prop}
  (hn : env.nt = nt) (hg : gd all (sets nt b l) o.guard = some true) (hp : plainOp o.op = true) (hd : o.dst = some d) (ha : aop Tryz.prog (sets nt b l) m o.op = .enter f args m1) (hc : CallQ Tryz.prog fl f args m1 (StepQ S m1 ok post))
  (wt : ok = true → ∀ m', Kept S m1 m' → post m' → Wp Tryz.prog fl (Rg Tryz.prog fl env all k rest (sets nt b ((d, .tuple []) :: l)) ds up m') Q)
  (wf : ok = false → ∀ m', Kept S m1 m' → Wp Tryz.prog fl (At env k (sets nt b l) ds (.panicking unfC) up m') Q) : Wp Tryz.prog fl (Rg Tryz.prog fl env all k (o :: rest) (sets nt b l) ds up m) Q := by
 refine s_call hn hg hp hd ha hc ?_ ?_
 ·rintro v u m' (⟨h, _, _, e, h1, h2⟩ | ⟨h, _, _, e, _⟩)
  ·cases e; exact wt h _ h1 h2
  ·cases e
 ·rintro c u m' (⟨h, _, _, e, _⟩ | ⟨h, _, _, e, h1⟩)
  ·cases e
  ·cases e; exact wf h _ h1
theorem d_step {fl : Fl} {Q : RR → Prop} {env : Env} {k : List AItem} {ds : List ADef} {up : Chain} {m : Mem} {nt : Nat} {b tmps0 : T AVal} {l : List (Nat × AVal)} {all : List Oper} {cks left : List Ck} {it : PItem} {rest : PTree} {d : Nat} {f : FuncId} {args : List AVal} {m1 : Mem} {S : Nat → Prop} {ok : Bool} {post : Mem → Prop}
  (hn : env.nt = nt) (hg : gd all (sets nt b l) it.o.guard = some true) (hp : plainOp it.o.op = true) (hd : it.o.dst = some d) (ha : aop Tryz.prog (sets nt b l) m it.o.op = .enter f args m1) (hc : CallQ Tryz.prog fl f args m1 (StepQ S m1 ok post)) (hl : leftCk it.mask cks = left)
  (wt : ok = true → ∀ m', Kept S m1 m' → post m' → ckAll Tryz.prog it.mask m' cks = true ∧ Wp Tryz.prog fl (Dg Tryz.prog fl env all k tmps0 rest left (sets nt b ((d, .tuple []) :: l)) ds up m') Q)
  (wf : ok = false → ∀ m', Kept S m1 m' → Wp Tryz.prog fl (At env k (poisonDsts tmps0 nt all) ds (.panicking unfC) up m') Q) : Wp Tryz.prog fl (Dg Tryz.prog fl env all k tmps0 (.heavy it rest) cks (sets nt b l) ds up m) Q := by
 refine d_call hn hg hp hd ha hc hl ?_ ?_
 ·rintro v u m' (⟨h, _, _, e, h1, h2⟩ | ⟨h, _, _, e, _⟩)
  ·cases e; exact wt h _ h1 h2
  ·cases e
 ·rintro c u m' (⟨h, _, _, e, _⟩ | ⟨h, _, _, e, h1⟩)
  ·cases e
  ·cases e; exact wf h _ h1
theorem s_stepE {fl : Fl} {Q : RR → Prop} {env : Env} {k : List AItem} {ds : List ADef} {up : Chain} {m m0 m2 : Mem} {nt : Nat} {b : T AVal} {l : List (Nat × AVal)} {all rest : List Oper} {o : Oper} {d : Nat} {f : FuncId} {args : List AVal} {S : Nat → Prop} {ok : Bool} {post : Mem → Prop} (K : Kept (fun q => m0.next ≤ q ∨ S q) m0 m) (kk : Kept noS m2 m) (ha : aop Tryz.prog (sets nt b l) m o.op = .enter f args m) (hc : CallQ Tryz.prog fl f args m (StepQ noS m ok post))
  (wt : ok = true → ∀ m', Kept (fun q => m0.next ≤ q ∨ S q) m0 m' → Kept noS m2 m' → post m' → Wp Tryz.prog fl (Rg Tryz.prog fl env all k rest (sets nt b ((d, .tuple []) :: l)) ds up m') Q)
  (wf : ok = false → ∀ m', Kept (fun q => m0.next ≤ q ∨ S q) m0 m' → Kept noS m2 m' → Wp Tryz.prog fl (At env k (sets nt b l) ds (.panicking unfC) up m') Q) (hg : GD all (sets nt b l) o.guard true := by first | exact gT0 | (apply gT; exact rfl; (first | exact ⟨e_hit rfl⟩ | exact ⟨e_base rfl (by assumption)⟩ | exact ⟨rfl⟩); (first | assumption | decide))) (hp : plainOp o.op = true := by rfl) (hd : o.dst = some d := by rfl) (hn : env.nt = nt := by rfl) : Wp Tryz.prog fl (Rg Tryz.prog fl env all k (o :: rest) (sets nt b l) ds up m) Q :=
 s_step hn hg.h hp hd ha hc (fun e m' h => wt e m' (K.k h fun _ h => h.elim) (kk.then h fun _ _ h => h)) (fun e m' h => wf e m' (K.k h fun _ h => h.elim) (kk.then h fun _ _ h => h))
theorem d_stepE {fl : Fl} {Q : RR → Prop} {env : Env} {k : List AItem} {ds : List ADef} {up : Chain} {m m0 m2 : Mem} {nt : Nat} {b tmps0 : T AVal} {l : List (Nat × AVal)} {all : List Oper} {d : Nat} {f : FuncId} {args : List AVal} {S : Nat → Prop} {ok : Bool} {post : Mem → Prop} {cks left : List Ck} {it : PItem} {rt : PTree} (K : Kept (fun q => m0.next ≤ q ∨ S q) m0 m) (kk : Kept noS m2 m) (ha : aop Tryz.prog (sets nt b l) m it.o.op = .enter f args m) (hc : CallQ Tryz.prog fl f args m (StepQ noS m ok post)) (hl : leftCk it.mask cks = left)
  (wt : ok = true → ∀ m', Kept (fun q => m0.next ≤ q ∨ S q) m0 m' → Kept noS m2 m' → post m' → ckAll Tryz.prog it.mask m' cks = true ∧ Wp Tryz.prog fl (Dg Tryz.prog fl env all k tmps0 rt left (sets nt b ((d, .tuple []) :: l)) ds up m') Q)
  (wf : ok = false → ∀ m', Kept (fun q => m0.next ≤ q ∨ S q) m0 m' → Kept noS m2 m' → Wp Tryz.prog fl (At env k (poisonDsts tmps0 nt all) ds (.panicking unfC) up m') Q) (hg : GD all (sets nt b l) it.o.guard true := by first | exact gT0 | (apply gT; exact rfl; (first | exact ⟨e_hit rfl⟩ | exact ⟨e_base rfl (by assumption)⟩ | exact ⟨rfl⟩); (first | assumption | decide))) (hp : plainOp it.o.op = true := by rfl) (hd : it.o.dst = some d := by rfl) (hn : env.nt = nt := by rfl) : Wp Tryz.prog fl (Dg Tryz.prog fl env all k tmps0 (.heavy it rt) cks (sets nt b l) ds up m) Q :=
 d_step hn hg.h hp hd ha hc hl (fun e m' h => wt e m' (K.k h fun _ h => h.elim) (kk.then h fun _ _ h => h)) (fun e m' h => wf e m' (K.k h fun _ h => h.elim) (kk.then h fun _ _ h => h))
end
open Go.RowKit (Below)
set_option maxRecDepth 10000
noncomputable section
variable {fl : Fl} (hfl : Tab fl)
include hfl
theorem demand_t {m : Mem}  (hw : Wf m) : CallQ Tryz.prog fl 136 [.lit (.bool true)] m (Rets noS m (.tuple [])) := by
 refine hfl.start (by decide) 6 Tryz.func136 rfl rfl (Nat.le_of_ble_eq_true rfl) ?_
 intro bs hb
 have ar0 := hb 0 _ rfl
 clear hb
 have K0 : Kept (fun q => m.next ≤ q ∨ (noS) q) m m := Kept.refl hw
 refine gg ?_
 refine w_fall rfl ?_
 refine w_results Tryz.func136 rv0 ?_
 exact ⟨_, _, rfl, K0.out⟩
theorem demand_f {m : Mem}  (hw : Wf m) : CallQ Tryz.prog fl 136 [.lit (.bool false)] m (Pans noS m unfC) := by
 refine hfl.start (by decide) 6 Tryz.func136 rfl rfl (Nat.le_of_ble_eq_true rfl) ?_
 intro bs hb
 have ar0 := hb 0 _ rfl
 clear hb
 have K0 : Kept (fun q => m.next ≤ q ∨ (noS) q) m m := Kept.refl hw
 refine gg ?_
 refine s_val rfl rfl rfl rfl (o_makeI (e_hit rfl) co_133 rfl) ?_
 refine q_panic rfl rfl (o_panic (e_hit rfl) rfl) ?_
 refine w_panics ?_
 exact ⟨_, _, rfl, K0.out⟩
theorem demand_ok {m : Mem} (t : Bool) (hw : Wf m) : CallQ Tryz.prog fl 136 [.lit (.bool t)] m (StepQ noS m t (fun _ => True)) := by
 cases t with
 | true => exact (demand_t hfl hw).mono fun r ⟨u, m', e, h⟩ => .inl ⟨rfl, u, m', e, h, trivial⟩
 | false => exact (demand_f hfl hw).mono fun r ⟨u, m', e, h⟩ => .inr ⟨rfl, u, m', e, h⟩
theorem within_ok {m : Mem} (a b c : Int) (hw : Wf m) : CallQ Tryz.prog fl 161 [iv a, iv b, iv c] m (Rets noS m (iv (min (max a b) c))) := by
 refine hfl.start (by decide) 12 Tryz.func161 rfl rfl (Nat.le_of_ble_eq_true rfl) ?_
 intro bs hb
 have ar0 := hb 0 _ rfl
 have ar1 := hb 1 _ rfl
 have ar2 := hb 2 _ rfl
 clear hb
 have K0 : Kept (fun q => m.next ≤ q ∨ (noS) q) m m := Kept.refl hw
 refine gg ?_
 refine w_retAt rfl ?_
 refine w_results Tryz.func161 (rv1 (e_hit rfl)) ?_
 exact ⟨_, _, rfl, K0.out⟩
theorem grow_ok {m : Mem} {c w : Nat} (n d l : Int) (hc : Cel m c [iv n, iv d, .map w]) (h0 : 0 ≤ n) (h1 : n ≤ 100) (hw : Wf m) : CallQ Tryz.prog fl 95 [.ptr c 0, iv l] m (StepQ (fun q => q = c) m (decide (n + 1 ≤ 60 ∧ max d l ≤ 12)) (fun m' => Cel m' c [iv (n + 1), iv (max d l), .map w])) := by
 refine hfl.start (by decide) 39 Tryz.func95 rfl rfl (Nat.le_of_ble_eq_true rfl) ?_
 intro bs hb
 have ar0 := hb 0 _ rfl
 have ar1 := hb 1 _ rfl
 clear hb
 have K0 : Kept (fun q => m.next ≤ q ∨ ((fun q => q = c)) q) m m := Kept.refl hw
 have ltc := hc.lt hw
 obtain ⟨⟨ec, hc⟩, fc⟩ := hc
 refine gg ?_
 refine s_put0 rfl rfl rfl (o_store (e_hit rfl) (e_hit rfl) hc fc sz_3 rfl rfl rfl rfl) (fun m1 g2 => ?_)
 have n3 := g2.next
 have K4 := K0.w g2 hc (fun _ h => by cases h) (Or.inr rfl)
 refine gg ?_
 have f5 := (g2.famo c).trans fc
 refine s_put0 rfl rfl rfl (o_store (e_hit rfl) (e_hit rfl) g2.same f5 sz_3 rfl rfl rfl rfl) (fun m6 g7 => ?_)
 have n8 := g7.next
 have K9 := K4.w g7 g2.same (fun _ h => by cases h) (Or.inr rfl)
 refine gg ?_
 refine s_guardS rfl rfl (e_hit rfl) (fun c10 => ?_) (fun c10 => ?_)
 ·
  refine gg ?_
  refine s_step rfl rfl rfl rfl (o_calls (me1 (e_hit rfl))) (demand_ok hfl _ K9.wf) (fun c15 m11 k13 p16 => ?_) (fun c15 m12 k14 => ?_)
  ·
   have K18 := K9.k k13 (fun _ h => h.elim)
   refine gg ?_
   refine w_fall rfl ?_
   refine w_results Tryz.func95 rv0 ?_
   have h19 := (k13.get c (by omega) (fun h => h)).trans g7.same
   have f20 := (g7.famo c).trans f5
   have f21 := (k13.fam c (by omega) (fun h => h)).trans f20
   exact .inl ⟨(by simp_all), _, _, rfl, K18.out, Cel.of h19 f21⟩
  ·
   have K23 := K9.k k14 (fun _ h => h.elim)
   refine w_panics ?_
   exact .inr ⟨(by simp_all; try omega), _, _, rfl, K23.out⟩
 ·
  refine gg ?_
  refine s_step rfl rfl rfl rfl (o_calls (me1 (e_hit rfl))) (demand_ok hfl _ K9.wf) (fun c28 m24 k26 p29 => ?_) (fun c28 m25 k27 => ?_)
  ·
   exact absurd c28 (by decide)
  ·
   have n30 := k27.next
   have K31 := K9.k k27 (fun _ h => h.elim)
   refine w_panics ?_
   exact .inr ⟨(by simp_all; try omega), _, _, rfl, K31.out⟩
end
open Go.RowKit (Below)
set_option maxRecDepth 10000
noncomputable section
variable {fl : Fl} (hfl : Tab fl)
include hfl
omit hfl in
def StL (fl : Fl) (f nt ix : Nat) (c : Code) (w : Bool) : Prop := ∀ (s : ByteArray) (k : List AItem) {Q : RR → Prop} {up : Chain} {m : Mem} (rest pre : List UInt8) (b : T AVal), s.data.toList = pre ++ rest → s.size ≤ 8 → getT b 0 = .lit (.string s) → (w = true → getT b 13 = goI s.size) → getT b ix = goI pre.length →
 (∀ b', getT b' 0 = .lit (.string s) → rest.all low = true → Wp Tryz.prog fl (At ⟨f, nt, false, none⟩ k b' [] .run up m) Q) → (∀ b', rest.all low = false → getT b' 2 = .lit (.bool false) → Wp Tryz.prog fl (At ⟨f, nt, false, none⟩ [] b' [] .returning up m) Q) →
 Wp Tryz.prog fl (At ⟨f, nt, false, none⟩ (.code c :: .inLoop c :: .inBlock 0 :: k) (sets nt b []) [] .run up m) Q
omit hfl in
theorem st_all : StL fl 53 28 14 (cAt [true, true, false, true, false, false] (bodyF Tryz.f53)) true ∧ StL fl 16 32 3 (cAt [true, true, false, true, false, false] (bodyF Tryz.f16)) false := by
 refine ⟨?_, ?_⟩ <;> unfold StL <;> (
 intro s k Q up m rest
 induction rest with
 | nil =>
  intro pre b hsp hs k0 k13 kx hk ht
  try have k13 := k13 rfl
  have hz : s.size = pre.length := by have h := congrArg List.length hsp; rw [Array.length_toList] at h; simp at h; exact h
  have hlt : decide (Int.ofNat pre.length < Int.ofNat s.size) = false := by rw [hz]; simp
  refine gg ?_
  refine Wp.gen (fun b' eb => ?_)
  exact hk _ (eqb eb (e_base rfl k0)) rfl
 | cons x rest ih =>
  intro pre b hsp hs k0 k13 kx hk ht
  have k13' := k13
  try have k13 := k13 rfl
  have hz : s.size = pre.length + 1 + rest.length := by have h := congrArg List.length hsp; rw [Array.length_toList] at h; simp at h; first | omega | (show s.data.size = _; omega)
  have hlt : decide (Int.ofNat pre.length < Int.ofNat s.size) = true := by rw [hz]; simp; omega
  have hln : pre.length + 1 < 2 ^ 62 := by omega
  have hx : s.data.toList[pre.length]? = some x := by rw [hsp]; simp
  refine gg ?_
  refine sg (fun c => ?_) (fun c => ?_)
  ·refine gg ?_
   refine w_cond v0 (fun d => ?_) (fun d => ?_)
   ·refine gg ?_
    refine w_retAt rfl ?_
    exact ht _ (by simp [low, d]) v0
   ·refine gg ?_
    refine w_inLoop ?_
    refine Wp.gen (fun b' eb => ?_)
    have hl : low x = true := by simp [low, c, d]
    exact ih (pre ++ [x]) b' (by simp [hsp]) hs (eqb eb (e_base rfl k0)) (fun h => by first | exact eqb eb (e_base rfl (k13' h)) | cases h) (eqb eb ((e_hit rfl).trans (by rw [List.length_append]; rfl))) (fun b' h0 h => hk b' h0 (by simp [hl, h])) (fun b' h h2 => ht b' (by simp [hl, h]) h2)
  ·refine gg ?_
   refine w_retAt rfl ?_
   exact ht _ (by simp [low, c]) v0)
theorem spelt_ok {m : Mem} (s : ByteArray) (hw : Wf m) : CallQ Tryz.prog fl 53 [.lit (.string s)] m (Rets noS m (.lit (.bool (speltB s)))) := by
 refine hfl.start (by decide) 28 Tryz.func53 rfl rfl (Nat.le_of_ble_eq_true rfl) ?_
 intro bs hb
 have ar0 := hb 0 _ rfl
 clear hb
 refine gg ?_
 refine sg (fun c => ?_) (fun c => ?_)
 ·have c1 : 1 ≤ s.size := by have := of_decide_eq_false c; simp only [Int.ofNat_eq_natCast] at this; omega
  refine gg ?_
  refine w_cond v0 (fun d => ?_) (fun d => ?_)
  ·refine gg ?_
   refine w_retAt rfl ?_
   refine w_results Tryz.func53 (rv1 v0) ?_
   rw [show speltB s = false by have := of_decide_eq_true d; simp only [Int.ofNat_eq_natCast] at this; simp [speltB]; omega]
   exact ⟨_, _, rfl, Kept.refl hw⟩
  ·have c8 : s.size ≤ 8 := by have := of_decide_eq_false d; simp only [Int.ofNat_eq_natCast] at this; omega
   have e : speltB s = s.data.toList.all low := by simp [speltB, c1, c8]
   refine gg ?_
   refine w_loop ?_
   refine Wp.gen (fun b' eb => ?_)
   refine st_all.1 s _ s.data.toList [] b' rfl c8 (eqb eb (e_base rfl ar0)) (fun _ => eqb eb v0) (eqb eb v0) ?_ ?_
   ·intro b1 _ h
    change Wp Tryz.prog fl (At _ _ (sets 28 b1 []) _ _ _ _) _
    refine gg ?_
    refine w_retAt rfl ?_
    refine w_results Tryz.func53 (rv1 v0) ?_
    rw [e, h]; exact ⟨_, _, rfl, Kept.refl hw⟩
   ·intro b1 h h2
    refine w_results Tryz.func53 (rv1 h2) ?_
    rw [e, h]; exact ⟨_, _, rfl, Kept.refl hw⟩
 ·refine gg ?_
  refine w_retAt rfl ?_
  refine w_results Tryz.func53 (rv1 v0) ?_
  rw [show speltB s = false by have := of_decide_eq_true c; simp only [Int.ofNat_eq_natCast] at this; simp [speltB]; omega]
  exact ⟨_, _, rfl, Kept.refl hw⟩
theorem named_ok {m : Mem} {c w : Nat} {x y : AVal} (hc : Cel m c [x, y, .map w]) (hm : m.heap.get w = some (.map (ents kwL) 10)) (s : ByteArray) (hw : Wf m) : CallQ Tryz.prog fl 178 [.ptr c 0, .lit (.string s)] m (Rets noS m (.lit (.bool (nameB s)))) := by
 refine hfl.start (by decide) 16 Tryz.func178 rfl rfl (Nat.le_of_ble_eq_true rfl) ?_
 intro bs hb
 have ar0 := hb 0 _ rfl
 have ar1 := hb 1 _ rfl
 clear hb
 have K0 : Kept (fun q => m.next ≤ q ∨ (noS) q) m m := Kept.refl hw
 have ltc := hc.lt hw
 obtain ⟨⟨ec, hc⟩, fc⟩ := hc
 have ltw := hw.lt hm
 refine gg ?_
 refine s_callV rfl rfl rfl rfl (o_calls (me1 (e_hit rfl))) (spelt_ok hfl _ K0.wf) (fun m1 k2 => ?_)
 have K4 := K0.k k2 (fun _ h => h.elim)
 refine gg ?_
 refine s_guardS rfl rfl (e_hit rfl) (fun c5 => ?_) (fun c5 => ?_)
 ·
  refine gg ?_
  refine gg ?_
  have h7 := (k2.get w (by omega) (fun h => h)).trans hm
  refine s_val rfl (g_onH rfl rfl (e_hit rfl) c5) rfl rfl (o_lookupB (e_hit rfl) (e_hit rfl) h7 mk_70 u9 tz4) ?_
  refine gg ?_
  refine w_retAt rfl ?_
  refine w_results Tryz.func178 (rv1 (e_hit rfl)) ?_
  exact ⟨_, _, congrArg (fun b => RR.ret (.lit (.bool b)) _ _) (by simp_all [nameB, keys_kwL]), K4.out⟩
 ·
  refine gg ?_
  refine w_retAt rfl ?_
  refine w_results Tryz.func178 (rv1 (e_hit rfl)) ?_
  exact ⟨_, _, congrArg (fun b => RR.ret (.lit (.bool b)) _ _) (by simp_all [nameB]), K4.out⟩
omit hfl in
def agrB (b1 : Bool) (a1 j1 d1 k1 : Int) (b2 : Bool) (a2 j2 d2 k2 : Int) (s : ByteArray) : Bool := (((b1 == b2) && ((a1 == a2) && ((j1 == j2) && ((d1 == d2) && ((k1 == k2) && true))))) && (!b2 || nameB s))
theorem agree_ok {m : Mem} {c w : Nat} {x y : AVal} (hc : Cel m c [x, y, .map w]) (hm : m.heap.get w = some (.map (ents kwL) 10)) (b1 b2 : Bool) (a1 j1 d1 k1 a2 j2 d2 k2 : Int) (s : ByteArray) (hw : Wf m) : CallQ Tryz.prog fl 162 [.ptr c 0, .agg [.lit (.bool b1), iv a1, iv j1, iv d1, iv k1], .agg [.lit (.bool b2), iv a2, iv j2, iv d2, iv k2], .lit (.string s)] m (StepQ noS m (agrB b1 a1 j1 d1 k1 b2 a2 j2 d2 k2 s) (fun _ => True)) := by
 refine hfl.start (by decide) 22 Tryz.func162 rfl rfl (Nat.le_of_ble_eq_true rfl) ?_
 intro bs hb
 have ar0 := hb 0 _ rfl
 have ar1 := hb 1 _ rfl
 have ar2 := hb 2 _ rfl
 have ar3 := hb 3 _ rfl
 clear hb
 have K0 : Kept (fun q => m.next ≤ q ∨ (noS) q) m m := Kept.refl hw
 have ltc := hc.lt hw
 obtain ⟨⟨ec, hc⟩, fc⟩ := hc
 have ltw := hw.lt hm
 refine gg ?_
 refine s_new rfl rfl rfl rfl (o_box (e_base rfl ar1) rfl) (fun m8 g9 => ?_)
 have n10 := g9.next
 have K11 := K0.g g9
 refine s_new rfl rfl rfl rfl (o_box (e_base rfl ar2) rfl) (fun m12 g13 => ?_)
 have n14 := g13.next
 have K15 := K11.g g13
 refine gg ?_
 have h16 := (g13.other m.next (by omega)).trans g9.same
 refine gg ?_
 refine s_val rfl rfl rfl rfl (o_eqlP (xs := [.bool b1, .int .i64 a1, .int .i64 j1, .int .i64 d1, .int .i64 k1]) (ys := [.bool b2, .int .i64 a2, .int .i64 j2, .int .i64 d2, .int .i64 k2]) (e_hit rfl) (e_hit rfl) pl_218 rfl) ?_
 refine gg ?_
 refine s_guardS rfl rfl (e_hit rfl) (fun c17 => ?_) (fun c17 => ?_)
 ·
  refine gg ?_
  refine s_guardS rfl rfl (e_hit rfl) (fun c18 => ?_) (fun c18 => ?_)
  ·
   refine gg ?_
   have h19 := (g9.other c (by omega)).trans hc
   have h20 := (g13.other c (by omega)).trans h19
   have f21 := (g9.famo c).trans fc
   have f22 := (g13.famo c).trans f21
   have h23 := (g9.other w (by omega)).trans hm
   have h24 := (g13.other w (by omega)).trans h23
   refine s_callV rfl (g_onH rfl rfl (e_hit rfl) c18) rfl rfl (o_calls (me2 (e_hit rfl) (e_hit rfl))) (named_ok hfl (Cel.of h20 f22) h24 _ K15.wf) (fun m25 k26 => ?_)
   have K28 := K15.k k26 (fun _ h => h.elim)
   refine gg ?_
   refine s_step rfl rfl rfl rfl (o_calls (me1 (e_hit rfl))) (demand_ok hfl _ K28.wf) (fun c33 m29 k31 p34 => ?_) (fun c33 m30 k32 => ?_)
   ·
    have K36 := K28.k k31 (fun _ h => h.elim)
    refine gg ?_
    refine w_fall rfl ?_
    refine w_results Tryz.func162 rv0 ?_
    exact .inl ⟨(by simp_all [agrB]), _, _, rfl, K36.out, trivial⟩
   ·
    have K38 := K28.k k32 (fun _ h => h.elim)
    refine w_panics ?_
    exact .inr ⟨(by simp_all [agrB]), _, _, rfl, K38.out⟩
  ·
   refine gg ?_
   refine s_step rfl rfl rfl rfl (o_calls (me1 (e_hit rfl))) (demand_ok hfl _ K15.wf) (fun c43 m39 k41 p44 => ?_) (fun c43 m40 k42 => ?_)
   ·
    have K46 := K15.k k41 (fun _ h => h.elim)
    refine gg ?_
    refine w_fall rfl ?_
    refine w_results Tryz.func162 rv0 ?_
    exact .inl ⟨(by simp_all [agrB]), _, _, rfl, K46.out, trivial⟩
   ·
    exact absurd c43 (by decide)
 ·
  refine gg ?_
  refine s_step rfl rfl rfl rfl (o_calls (me1 (e_hit rfl))) (demand_ok hfl _ K15.wf) (fun c51 m47 k49 p52 => ?_) (fun c51 m48 k50 => ?_)
  ·
   exact absurd c51 (by decide)
  ·
   have K54 := K15.k k50 (fun _ h => h.elim)
   refine w_panics ?_
   exact .inr ⟨(by simp_all [agrB]), _, _, rfl, K54.out⟩
end
open Go.RowKit (Below)
set_option maxRecDepth 10000
noncomputable section
variable {fl : Fl} (hfl : Tab fl)
include hfl
omit hfl in
def nonE (s : ByteArray) : Bool := !seq s ⟨#[]⟩
omit hfl in
def procB (op : Int) (s : ByteArray) (na nd nk : Int) : Bool :=
 if (op == 1) || (op == 7) then agrB (nonE s) na 0 nd nk false 0 0 0 0 s
 else if op == 2 then agrB (nonE s) na 0 nd nk true (min (max na 0) 3) 0 0 0 s
 else if op == 3 then agrB (nonE s) na 0 nd nk false 0 0 0 2 s
 else if op == 4 then agrB (nonE s) na 0 nd nk false 0 0 (min (max nd 1) 5) 1 s
 else if op == 5 then agrB (nonE s) na 0 nd nk false 1 0 0 2 s
 else if (op == 6) || (op == 8) then agrB (nonE s) na 0 nd nk true 0 0 0 1 s
 else false
theorem process_ok {m : Mem} {c w : Nat} {x y : AVal} (hc : Cel m c [x, y, .map w]) (hm : m.heap.get w = some (.map (ents kwL) 10)) (op : Int) (s : ByteArray) {av dv kv : AVal} {ae de ke : List (List AVal)} (ha : SlA m av 4 ae) (hd : SlA m dv 5 de) (hk : SlA m kv 5 ke) (hw : Wf m) : CallQ Tryz.prog fl 137 [.ptr c 0, .agg [iv op, .lit (.string s), av, dv, kv]] m (StepQ noS m (procB op s (Int.ofNat ae.length) (Int.ofNat de.length) (Int.ofNat ke.length)) (fun _ => True)) := by
 refine hfl.start (by decide) 56 Tryz.func137 rfl rfl (Nat.le_of_ble_eq_true rfl) ?_
 intro bs hb
 have ar0 := hb 0 _ rfl
 have ar1 := hb 1 _ rfl
 clear hb
 have K : Kept (fun q => m.next ≤ q ∨ (noS) q) m m := Kept.refl hw
 have ltc := hc.lt hw
 obtain ⟨⟨ec, hc⟩, fc⟩ := hc
 have ltw := hw.lt hm
 have cha := ha.cell
 have chd := hd.cell
 have chk := hk.cell
 refine gg ?_
 refine s_new rfl rfl rfl rfl (o_box (e_base rfl ar1) rfl) (fun m1 g => ?_)
 have n := g.next
 have K := K.g g
 have hp := g.same
 have hc := (g.other c (by omega)).trans hc
 have fc := (g.famo c).trans fc
 have hm := (g.other w (by omega)).trans hm
 refine gg ?_
 refine s_new rfl rfl rfl rfl (o_alloc zc_218) (fun m2 g => ?_)
 have n := g.next
 have f := g.fam0 K.wf
 have K := K.g g
 have hp := (g.other m.next (by omega)).trans hp
 have hq := g.same
 have hc := (g.other c (by omega)).trans hc
 have fc := (g.famo c).trans fc
 have hm := (g.other w (by omega)).trans hm
 refine gg ?_
 iterate 8
  refine w_cond v0 (fun z => ?_) (fun z => ?_)
  rotate_left
  refine gg ?_
 rotate_left
 all_goals first
  | (refine s_val rfl rfl rfl rfl (o_makeI v0 co_133 rfl) ?_
     refine q_panic rfl rfl (o_panic v0 rfl) ?_
     refine w_panics ?_
     exact .inr ⟨(by simp [procB, *]), _, _, rfl, K.out⟩)
  | refine gg ?_
 all_goals try
  refine s_callV rfl rfl rfl rfl (o_calls (me3 v0 rfl rfl)) (within_ok hfl _ _ _ K.wf) (fun m' k => ?_)
  have hp := (k.get _ (K.wf.lt hp) id).trans hp
  have f := (k.fam _ (K.wf.lt hq) id).trans f
  have hq := (k.get _ (K.wf.lt hq) id).trans hq
  have fc := (k.fam _ (K.wf.lt hc) id).trans fc
  have hc := (k.get _ (K.wf.lt hc) id).trans hc
  have hm := (k.get _ (K.wf.lt hm) id).trans hm
  have n := k.next
  have K := K.k k (fun _ h => h.elim)
  refine gg ?_
 all_goals try
  refine s_put0 rfl rfl rfl (o_store v0 v0 hq f sz_218 rfl rfl rfl rfl) (fun m' g => ?_)
  have n := g.next
  have K := K.w g hq (fun _ h => by cases h) (Or.inl (by omega))
  have hp := (g.other m.next (by omega)).trans hp
  have hq := g.same
  have f := (g.famo m1.next).trans f
  have hc := (g.other c (by omega)).trans hc
  have fc := (g.famo c).trans fc
  have hm := (g.other w (by omega)).trans hm
  refine gg ?_
 all_goals
  refine s_new rfl rfl rfl rfl (o_alloc zc_218) (fun m' g => ?_)
  have l := K.next
  have ft := g.fam0 K.wf
  have n := g.next
  have lc := K.wf.lt hc
  have lw := K.wf.lt hm
  have K := K.g g
  have ht := g.same
  have hp := (g.other m.next (by omega)).trans hp
  have hq := (g.other m1.next (by omega)).trans hq
  have hc := (g.other c (by omega)).trans hc
  have fc := (g.famo c).trans fc
  have hm := (g.other w (by omega)).trans hm
  refine s_put0 rfl rfl rfl (o_store v0 v0 ht ft sz_218 rfl rfl rfl rfl) (fun m' g => ?_)
  have K := K.w g ht (fun _ h => by cases h) (Or.inl (by omega))
  have hp := (g.other m.next (by omega)).trans hp
  have hq := (g.other m1.next (by omega)).trans hq
  have hc := (g.other c (by omega)).trans hc
  have fc := (g.famo c).trans fc
  have hm := (g.other w (by omega)).trans hm
  refine gg ?_
  refine s_stepE K (Kept.refl (S := noS) K.wf) (o_calls (me4 v0 v0 v0 v0)) (agree_ok hfl (Cel.of hc fc) hm _ _ _ _ _ _ _ _ _ _ _ K.wf) (fun z m' K _ _ => ?_) (fun z m' K _ => ?_)
  ·refine gg ?_
   refine w_fall rfl ?_
   refine w_results Tryz.func137 rv0 ?_
   exact .inl ⟨(by simp only [procB, nonE, *, Bool.or_true, Bool.true_or, Bool.or_false, if_true, if_false, Bool.false_eq_true]), _, _, rfl, K.out, trivial⟩
  ·refine w_panics ?_
   exact .inr ⟨(by simp only [procB, nonE, *, Bool.or_true, Bool.true_or, Bool.or_false, if_true, if_false, Bool.false_eq_true]), _, _, rfl, K.out⟩
end
open Go.RowKit (Below)
set_option maxRecDepth 10000
noncomputable section
variable {fl : Fl} (hfl : Tab fl)
include hfl
omit hfl in
def exprB (op n : Int) (s : ByteArray) (nk : Int) : Bool :=
 if op == 1 then (n == min (max n (-1000000000)) 1000000000) && agrB (nonE s) 0 0 0 nk false 0 0 0 0 s
 else if op == 2 then (n == min (max n 0) 0) && agrB (nonE s) 0 0 0 nk true 0 0 0 0 s
 else if (op == 3) || (op == 4) || (op == 5) || (op == 6) || (op == 7) then (n == min (max n 0) 0) && agrB (nonE s) 0 0 0 nk false 0 0 0 2 s
 else false
theorem expression_ok {m : Mem} {c w : Nat} {x y : AVal} (hc : Cel m c [x, y, .map w]) (hm : m.heap.get w = some (.map (ents kwL) 10)) (op n : Int) (s : ByteArray) {kv : AVal} {ke : List (List AVal)} (hk : SlA m kv 4 ke) (hw : Wf m) : CallQ Tryz.prog fl 138 [.ptr c 0, .agg [iv op, iv n, .lit (.string s), kv]] m (StepQ noS m (exprB op n s (Int.ofNat ke.length)) (fun _ => True)) := by
 refine hfl.start (by decide) 44 Tryz.func138 rfl rfl (Nat.le_of_ble_eq_true rfl) ?_
 intro bs hb
 have ar0 := hb 0 _ rfl
 have ar1 := hb 1 _ rfl
 clear hb
 have K : Kept (fun q => m.next ≤ q ∨ (noS) q) m m := Kept.refl hw
 have ltc := hc.lt hw
 obtain ⟨⟨ec, hc⟩, fc⟩ := hc
 have ltw := hw.lt hm
 have chk := hk.cell
 refine gg ?_
 refine s_new rfl rfl rfl rfl (o_box (e_base rfl ar1) rfl) (fun m1 g => ?_)
 have n1 := g.next
 have K := K.g g
 have hp := g.same
 have hc := (g.other c (by omega)).trans hc
 have fc := (g.famo c).trans fc
 have hm := (g.other w (by omega)).trans hm
 refine gg ?_
 refine s_new rfl rfl rfl rfl (o_alloc zc_218) (fun m2 g => ?_)
 have n2 := g.next
 have f := g.fam0 K.wf
 have K := K.g g
 have hp := (g.other m.next (by omega)).trans hp
 have hq := g.same
 have hc := (g.other c (by omega)).trans hc
 have fc := (g.famo c).trans fc
 have hm := (g.other w (by omega)).trans hm
 refine gg ?_
 iterate 7
  refine w_cond v0 (fun z => ?_) (fun z => ?_)
  rotate_left
  refine gg ?_
 rotate_left
 all_goals first
  | (refine s_val rfl rfl rfl rfl (o_makeI v0 co_133 rfl) ?_
     refine q_panic rfl rfl (o_panic v0 rfl) ?_
     refine w_panics ?_
     exact .inr ⟨(by simp [exprB, *]), _, _, rfl, K.out⟩)
  | refine gg ?_
 all_goals try
  refine s_put0 rfl rfl rfl (o_store v0 v0 hq f sz_218 rfl rfl rfl rfl) (fun m' g => ?_)
  have n3 := g.next
  have K := K.w g hq (fun _ h => by cases h) (Or.inl (by omega))
  have hp := (g.other m.next (by omega)).trans hp
  have hq := g.same
  have hc := (g.other c (by omega)).trans hc
  have fc := (g.famo c).trans fc
  have hm := (g.other w (by omega)).trans hm
  refine gg ?_
 all_goals
  have kk := Kept.refl (S := noS) K.wf
  have l1 := K.wf.lt hp
  have l2 := K.wf.lt hq
  have l3 := K.wf.lt hc
  have l4 := K.wf.lt hm
  refine w_draw (.L 0 0 0 (.L 1 1 1 (.L 2 0 0 (.L 3 4 1 (.L 4 0 0 (.L 5 0 0 (.H 6 60 3 (.L 7 127 0 (.H 8 255 3 .fin))))))))) rfl (by kernel_rfl) ?_
  refine gg ?_
  refine d_callE K kk (o_calls (me3 v0 v0 v0)) (within_ok hfl _ _ _ K.wf) (lk_skip (by kernel_rfl) (lk_keep (by kernel_rfl) lk0)) (fun m' K kk => ?_)
  refine ⟨(ck_skip (by kernel_rfl) (ck_one (o_loadRow v0 ((kk.get _ l1 id).trans hp) tg_3 sz_3 rfl rfl) (aq_int _ _) ck0)), ?_⟩
  refine gg ?_
  refine d_stepE K kk (o_calls (me1 v0)) (demand_ok hfl _ K.wf) (lk_skip (by kernel_rfl) lk0) (fun z m' K kk _ => ?_) (fun z m' K kk => ?_)
  ·refine ⟨(ck_skip (by kernel_rfl) ck0), ?_⟩
   refine gg ?_
   refine s_stepE K kk (o_calls (me4 v0 v0 v0 v0)) (agree_ok hfl (Cel.of ((kk.get _ l3 id).trans hc) ((kk.fam _ l3 id).trans fc)) ((kk.get _ l4 id).trans hm) _ _ _ _ _ _ _ _ _ _ _ K.wf) (fun z m' K kk _ => ?_) (fun z m' K kk => ?_)
   ·refine gg ?_
    refine w_fall rfl ?_
    refine w_results Tryz.func138 rv0 ?_
    exact .inl ⟨(by simp only [exprB, nonE, *, Bool.or_true, Bool.true_or, Bool.or_false, Bool.and_true, Bool.true_and, if_true, if_false, Bool.false_eq_true]), _, _, rfl, K.out, trivial⟩
   ·refine w_panics ?_
    exact .inr ⟨(by simp only [exprB, nonE, *, Bool.or_true, Bool.true_or, Bool.or_false, Bool.true_and, Bool.and_false, if_true, if_false, Bool.false_eq_true]), _, _, rfl, K.out⟩
  ·refine w_panics ?_
   exact .inr ⟨(by simp [exprB, nonE, *]), _, _, rfl, K.out⟩
end
end Go.Proofs.YtjefckdgpbdpeaaGreat
