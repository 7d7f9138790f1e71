/- A part of the proof of TermChecks. -/
import Derived.Test.YtjefckdgpbdpeaaGreatProg
import Derived.Test.YtjefckdgpbdpeaaGreatAbsJ
import Derived.KernelRfl
namespace Go.Proofs.YtjefckdgpbdpeaaGreat
open Go Go.Abs
noncomputable section
def keepLk1 : List Nat := []
def keepFk1 : List Nat := []
def keepTk1 : List Nat := [0, 2, 4, 6, 9]
def todok1 : List AItem := [.code (cAt [true, true, true, true, true, true, false] (bodyOf Tryz.prog 14)), .code (cAt [true, true, true, true, true, true, true] (bodyOf Tryz.prog 14))]
def tmpsk1 : T AVal := hpOf [(0, vB false), (2, vI 0), (4, vI 0), (6, vI 0), (9, vI 0)]
def memk1 : Mem := ⟨hpOf [], 1405, hpOf [], 0, false, []⟩
def keepLk2 : List Nat := [2232, 2238, 2275, 2277, 2321, 2323, 2325, 2327, 2389, 2391, 2393, 2660]
def keepFk2 : List Nat := [2234, 2260, 2279, 2358]
def keepTk2 : List Nat := [0, 2, 4, 6, 9, 10]
def todok2 : List AItem := [.code (cAt [true, true, true, true, true, true, true] (bodyOf Tryz.prog 14))]
def tmpsk2 : T AVal := hpOf [(0, vB false), (2, vI 0), (4, vI 0), (6, vI 0), (9, vI 0), (10, vP 2660)]
def memk2 : Mem := ⟨hpOf [(2232, oR 9 1 [.lit (.string ⟨#[97]⟩)] 2232), (2238, oR 126 2 [.lit (.string ⟨#[99]⟩), vS 2232 1, .lit (.string ⟨#[121]⟩), vZ] 2234), (2275, oR 36 4 [vI 2, vI 0, .lit (.string ⟨#[97]⟩), vZ, vI 2, vI 0, .lit (.string ⟨#[120]⟩), vZ] 2260), (2277, oR 33 5 [vI 2, .lit (.string ⟨#[122]⟩), vS 2275 2, vZ, vZ] 2277), (2321, oR 36 4 [vI 1, vI 1, vT, vZ] 2321), (2323, oR 33 5 [vI 2, .lit (.string ⟨#[99]⟩), vS 2321 1, vZ, vZ] 2323), (2325, oR 33 5 [vI 6, .lit (.string ⟨#[113]⟩), vZ, vZ, vS 2323 1] 2325), (2327, oR 118 5 [vI 1, vT, vS 2238 2, vZ, vS 2277 1, vI 2, .lit (.string ⟨#[112]⟩), vZ, vZ, vS 2325 1] 2279), (2389, oR 33 5 [vI 1, vT, vZ, vZ, vZ] 2389), (2391, oR 33 5 [vI 2, .lit (.string ⟨#[121]⟩), vZ, vZ, vZ, vI 8, .lit (.string ⟨#[112]⟩), vZ, vZ, vS 2389 1] 2358), (2393, oR 33 5 [vI 3, vT, vZ, vZ, vS 2391 2] 2393), (2660, oR 33 0 [vI 4, vT, vZ, vS 2327 2, vS 2393 1] 2660)], 2661, hpOf [(2234, [2238, 2234]), (2260, [2275, 2260]), (2279, [2327, 2279]), (2358, [2391, 2358])], 0, false, []⟩
def flk : Fl := ⟨[63, 71, 97], fun _ _ _ => none, fun _ _ _ => none⟩
end
end Go.Proofs.YtjefckdgpbdpeaaGreat
