import Derived.Test.YtmhdijklindipaaRows
import Derived.JoinedOf
import Derived.WalkKit
import Derived.ProofKit
/- Closed facts on the program's head, cheaply: the head's characters once as a list. -/
namespace Go.Proofs.Ytmhdijklindipaa
open Go.ChangeShapes Go.WideShapes Go.ChangeAt Go.RowKit
theorem strip_none (w : List Char) (ws : List (List Char)) : ∀ os : List String, (os.all fun o => !(w == o.toList)) = true → stripLifts os (w :: ws) = ([], w :: ws) := by
  intro os
  induction os with
  | nil => intro _; rfl
  | cons o os ih =>
    intro h
    simp only [List.all_cons, Bool.and_eq_true, Bool.not_eq_true'] at h
    simp only [stripLifts, h.1]
    exact ih h.2
theorem enter_of (P : Program) (h : ((behindMainWord (wordsSigns P.initOrder.toList)).head? == some "cut".toList) = true)
    (h4 : P.laysLater = false) (h5 : P.bearsReflect = false) (h7 : P.doorRows.isEmpty = true) : P.mayEnter = true := by
  have hs := fun ws => strip_none "cut".toList ws liftWords (by kernel_rfl)
  unfold Program.mayEnter
  generalize behindMainWord (wordsSigns P.initOrder.toList) = ws at h ⊢
  cases ws with
  | nil => simp at h
  | cons c rest =>
    have hc : c = "cut".toList := by simpa using h
    subst hc
    have hd : P.doorFits [] = true := by
      unfold Program.doorFits
      have : P.doorRows = [] := List.isEmpty_iff.1 h7
      simp [this]
    simp only [hs, h4, h5, hd]
    simp
theorem final_of (P : Program) (h : ((behindMainWord (wordsSigns P.initOrder.toList)).head? == some "cut".toList) = true) : P.liftsFinal = false := by
  have hs := fun ws => strip_none "cut".toList ws liftWords (by kernel_rfl)
  have hc2 : (some "cut".toList == some "carried".toList) = false := by kernel_rfl
  unfold Program.liftsFinal Program.headLifts
  generalize behindMainWord (wordsSigns P.initOrder.toList) = ws at h ⊢
  cases ws with
  | nil => simp at h
  | cons c rest =>
    have hc : c = "cut".toList := by simpa using h
    subst hc
    simp only [hs, List.head?_cons, hc2]
    simp
theorem make_of (P : Program) (h : ((behindMainWord (wordsSigns P.initOrder.toList)).head? == some "cut".toList) = true) : P.make = some .cut := by
  have hc2 : ("cut".toList == "gc".toList || "cut".toList == "spec".toList) = false := by kernel_rfl
  unfold Program.make
  generalize behindMainWord (wordsSigns P.initOrder.toList) = ws at h ⊢
  cases ws with
  | nil => simp at h
  | cons c rest =>
    have hc : c = "cut".toList := by simpa using h
    subst hc
    simp only [hc2]
    simp
set_option maxRecDepth 100000 in
theorem head_cut : ((behindMainWord (wordsSigns Try.pinned.checked.prog.initOrder.toList)).head? == some "cut".toList) = true := by
  rw [show Try.pinned.checked.prog.initOrder.toList = _ from String.toList_ofList]; kernel_rfl
theorem enter_ok : Try.pinned.checked.prog.mayEnter = true := enter_of _ head_cut (by kernel_rfl) (by kernel_rfl) (by kernel_rfl)
theorem final_ok : Try.pinned.checked.prog.liftsFinal = false := final_of _ head_cut
theorem make_ok : Try.pinned.checked.prog.make = some .cut := make_of _ head_cut
end Go.Proofs.Ytmhdijklindipaa
