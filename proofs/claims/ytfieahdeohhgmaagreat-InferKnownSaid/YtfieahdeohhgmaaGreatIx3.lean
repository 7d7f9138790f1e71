/- A part of the proof of InferKnown: the closed call, played in parts. -/
import Derived.Test.YtfieahdeohhgmaaGreatIs
import Derived.KernelRfl
namespace Go.Proofs.YtfieahdeohhgmaaGreat
open Go Go.Abs
set_option maxRecDepth 100000 in
theorem partx3 : (run Tryz.prog flx 3000) (envOf Tryz.prog 5) todox3 tmpsx3 [] .run [] memx3 = .ret ansx [] memZx := by kernel_rfl
end Go.Proofs.YtfieahdeohhgmaaGreat
namespace Go.Proofs.YtfieahdeohhgmaaGreat
open Go Go.Abs
set_option maxRecDepth 100000 in
theorem parte1 : (run Tryz.prog fle 3000) (envOf Tryz.prog 17) todoe1 tmpse1 [] .run [] meme1 = .ret anse [] memZe := by kernel_rfl
end Go.Proofs.YtfieahdeohhgmaaGreat
namespace Go.Proofs.YtfieahdeohhgmaaGreat
open Go Go.Abs
set_option maxRecDepth 100000 in
theorem partb2 : (run Tryz.prog flb 3000) (envOf Tryz.prog 7) todob2 tmpsb2 [] .run [] memb2 = .ret ansb [] memZb := by kernel_rfl
end Go.Proofs.YtfieahdeohhgmaaGreat
namespace Go.Proofs.YtfieahdeohhgmaaGreat
open Go Go.Abs
set_option maxRecDepth 100000 in
theorem partf1 : (run Tryz.prog flf 3000) (envOf Tryz.prog 17) todof1 tmpsf1 [] .run [] memf1 = .ret ansf [] memZf := by kernel_rfl
end Go.Proofs.YtfieahdeohhgmaaGreat
namespace Go.Proofs.YtfieahdeohhgmaaGreat
open Go Go.Abs
set_option maxRecDepth 100000 in
theorem partc2 : (run Tryz.prog flc 3000) (envOf Tryz.prog 7) todoc2 tmpsc2 [] .run [] memc2 = .ret ansc [] memZc := by kernel_rfl
end Go.Proofs.YtfieahdeohhgmaaGreat
namespace Go.Proofs.YtfieahdeohhgmaaGreat
open Go Go.Abs
set_option maxRecDepth 100000 in
theorem partg1 : (run Tryz.prog flg 3000) (envOf Tryz.prog 17) todog1 tmpsg1 [] .run [] memg1 = .ret ansg [] memZg := by kernel_rfl
end Go.Proofs.YtfieahdeohhgmaaGreat
namespace Go.Proofs.YtfieahdeohhgmaaGreat
open Go Go.Abs
set_option maxRecDepth 100000 in
theorem partw2 : (run Tryz.prog flw 3000) (envOf Tryz.prog 15) todow2 tmpsw2 [] .run [] memw2 = .ret answ [] memZw := by kernel_rfl
end Go.Proofs.YtfieahdeohhgmaaGreat
namespace Go.Proofs.YtfieahdeohhgmaaGreat
open Go Go.Abs
set_option maxRecDepth 100000 in
theorem partk0 : ∀ K : Run, callBody0 (runTop Tryz.prog flk 3000 4 (keepS keepLk1 keepFk1 keepTk1 K) 5) false 4 [] [] mem0 Tryz.prog.funcs[4]? = K (envOf Tryz.prog 4) todok1 tmpsk1 [] .run [] memk1 := fun K => by kernel_rfl
end Go.Proofs.YtfieahdeohhgmaaGreat
namespace Go.Proofs.YtfieahdeohhgmaaGreat
open Go Go.Abs
set_option maxRecDepth 100000 in
theorem partk2 : ∀ K : Run, (runTop Tryz.prog flk 3000 4 (keepS keepLk3 keepFk3 keepTk3 K) 2) (envOf Tryz.prog 4) todok2 tmpsk2 [] .run [] memk2 = K (envOf Tryz.prog 4) todok3 tmpsk3 [] .run [] memk3 := fun K => by kernel_rfl
end Go.Proofs.YtfieahdeohhgmaaGreat
namespace Go.Proofs.YtfieahdeohhgmaaGreat
open Go Go.Abs
set_option maxRecDepth 100000 in
theorem partk4 : isTrueR ((run Tryz.prog flk 3000) (envOf Tryz.prog 4) todok4 tmpsk4 [] .run [] memk4) = true := by kernel_rfl
end Go.Proofs.YtfieahdeohhgmaaGreat
