/-
  What the program's text begins with, sign by sign and word by word; two closed facts that read it.
-/
import Derived.Test.YtmjhoiaehmfkcaaRows
import Derived.JoinedOf
import Derived.KernelRfl
namespace Go.Proofs.Ytmjhoiaehmfkcaa

def headNums : List Nat := [
  104, 97, 114, 110, 101, 115, 115, 32, 102, 101, 55, 56, 52, 101, 97, 101, 50, 51, 57, 98, 55, 57, 56, 101, 54, 54, 49, 98, 53, 50, 55, 99, 53, 99, 98, 98, 51, 101, 52, 98,
  102, 49, 50, 55, 56, 101, 53, 52, 99, 101, 54, 54, 101, 56, 101, 97, 51, 50, 55, 50, 52, 52, 97, 101, 49, 49, 57, 99, 54, 99, 56, 51, 32, 99, 117, 116, 32, 97, 116, 32,
  108, 111, 111, 112, 46, 101, 120, 97, 109, 112, 108, 101, 47, 115, 116, 114, 117, 99, 116, 117, 114, 101, 100, 106, 117, 109, 112, 115, 47, 108, 97, 119, 115, 46, 70, 110, 69, 120, 97, 99,
  116, 82, 117, 110, 84, 101, 120, 116, 32, 108, 111, 111, 112, 46, 101, 120, 97, 109, 112, 108, 101, 47, 115, 116, 114, 117, 99, 116, 117, 114, 101, 100, 106, 117, 109, 112, 115, 47, 108, 97,
  119, 115, 46, 70, 110, 69, 120, 97, 99, 116, 78, 117, 109, 98, 101, 114, 73, 110, 32, 108, 111, 111, 112, 46, 101, 120, 97, 109, 112, 108, 101, 47, 115, 116, 114, 117, 99, 116, 117, 114,
  101, 100, 106, 117, 109, 112, 115, 47, 108, 97, 119, 115, 46, 70, 110, 69, 120, 97, 99, 116, 69, 110, 100, 115, 83, 105, 108, 101, 110, 116, 108, 121, 32, 108, 111, 111, 112, 46, 101, 120,
  97, 109, 112, 108, 101, 47, 115, 116, 114, 117, 99, 116, 117, 114, 101, 100, 106, 117, 109, 112, 115, 47, 108, 97, 119, 115, 46, 70, 110, 82, 117, 110, 84, 101, 120, 116, 32, 108, 111, 111,
  112, 46, 101, 120, 97, 109, 112, 108, 101, 47, 115, 116, 114, 117, 99, 116, 117, 114, 101, 100, 106, 117, 109, 112, 115, 47, 108, 97, 119, 115, 46, 70, 110, 68, 111, 116, 32, 108, 111, 111,
  112, 46, 101, 120, 97, 109, 112, 108, 101, 47, 115, 116, 114, 117, 99, 116, 117, 114, 101, 100, 106, 117, 109, 112, 115, 47, 108, 97, 119, 115, 46, 70, 110, 84, 101, 120, 116, 79, 110, 32,
  108, 111, 111, 112, 46, 101, 120, 97, 109, 112, 108, 101, 47, 115, 116, 114, 117, 99, 116, 117, 114, 101, 100, 106, 117, 109, 112, 115, 47, 108, 97, 119, 115, 46, 70, 110, 76, 111, 111, 112,
  79, 110, 99, 101, 32, 108, 111, 111, 112, 46, 101, 120, 97, 109, 112, 108, 101, 47, 115, 116, 114, 117, 99, 116, 117, 114, 101, 100, 106, 117, 109, 112, 115, 47, 108, 97, 119, 115, 46, 70,
  110, 83, 105, 108, 101, 110, 116, 32, 108, 111, 111, 112, 46, 101, 120, 97, 109, 112, 108, 101, 47, 115, 116, 114, 117, 99, 116, 117, 114, 101, 100, 106, 117, 109, 112, 115, 47, 108, 97, 119,
  115, 46, 70, 110, 78, 111, 76, 111, 111, 112]
def headSigns : List Char := headNums.map Char.ofNat
def headFirst : List Char := [99, 117, 116].map Char.ofNat
def headRestNums : List (List Nat) := [
  [97, 116],
  [108, 111, 111, 112, 46, 101, 120, 97, 109, 112, 108, 101, 47, 115, 116, 114, 117, 99, 116, 117, 114, 101, 100, 106, 117, 109, 112, 115, 47, 108, 97, 119, 115, 46, 70, 110, 69, 120, 97, 99, 116, 82, 117, 110, 84, 101, 120, 116],
  [108, 111, 111, 112, 46, 101, 120, 97, 109, 112, 108, 101, 47, 115, 116, 114, 117, 99, 116, 117, 114, 101, 100, 106, 117, 109, 112, 115, 47, 108, 97, 119, 115, 46, 70, 110, 69, 120, 97, 99, 116, 78, 117, 109, 98, 101, 114, 73, 110],
  [108, 111, 111, 112, 46, 101, 120, 97, 109, 112, 108, 101, 47, 115, 116, 114, 117, 99, 116, 117, 114, 101, 100, 106, 117, 109, 112, 115, 47, 108, 97, 119, 115, 46, 70, 110, 69, 120, 97, 99, 116, 69, 110, 100, 115, 83, 105, 108, 101, 110, 116, 108, 121],
  [108, 111, 111, 112, 46, 101, 120, 97, 109, 112, 108, 101, 47, 115, 116, 114, 117, 99, 116, 117, 114, 101, 100, 106, 117, 109, 112, 115, 47, 108, 97, 119, 115, 46, 70, 110, 82, 117, 110, 84, 101, 120, 116],
  [108, 111, 111, 112, 46, 101, 120, 97, 109, 112, 108, 101, 47, 115, 116, 114, 117, 99, 116, 117, 114, 101, 100, 106, 117, 109, 112, 115, 47, 108, 97, 119, 115, 46, 70, 110, 68, 111, 116],
  [108, 111, 111, 112, 46, 101, 120, 97, 109, 112, 108, 101, 47, 115, 116, 114, 117, 99, 116, 117, 114, 101, 100, 106, 117, 109, 112, 115, 47, 108, 97, 119, 115, 46, 70, 110, 84, 101, 120, 116, 79, 110],
  [108, 111, 111, 112, 46, 101, 120, 97, 109, 112, 108, 101, 47, 115, 116, 114, 117, 99, 116, 117, 114, 101, 100, 106, 117, 109, 112, 115, 47, 108, 97, 119, 115, 46, 70, 110, 76, 111, 111, 112, 79, 110, 99, 101],
  [108, 111, 111, 112, 46, 101, 120, 97, 109, 112, 108, 101, 47, 115, 116, 114, 117, 99, 116, 117, 114, 101, 100, 106, 117, 109, 112, 115, 47, 108, 97, 119, 115, 46, 70, 110, 83, 105, 108, 101, 110, 116],
  [108, 111, 111, 112, 46, 101, 120, 97, 109, 112, 108, 101, 47, 115, 116, 114, 117, 99, 116, 117, 114, 101, 100, 106, 117, 109, 112, 115, 47, 108, 97, 119, 115, 46, 70, 110, 78, 111, 76, 111, 111, 112]]
def headRest : List (List Char) := headRestNums.map fun l => l.map Char.ofNat
theorem head_is : Try.prog.initOrder = String.ofList headSigns := by kernel_rfl
theorem head_list : Try.prog.initOrder.toList = headSigns := by rw [head_is, String.toList_ofList]
theorem head_words : behindMainWord (wordsSigns headSigns) = headFirst :: headRest := by kernel_rfl
theorem enter_of (P : Program) (c : List Char) (rest : List (List Char)) (h : behindMainWord (wordsSigns P.initOrder.toList) = c :: rest)
    (a : ((c == "gc".toList || c == "spec".toList) && (rest.isEmpty || rest.head? == some "stop".toList)) = false)
    (b : (c == "carried".toList && rest.take 2 == ["gc".toList, "cut".toList] && !P.laysLater && !P.bearsReflect) = false)
    (c1 : ((stripLifts liftWords (c :: rest)).2.head? == some "cut".toList) = true)
    (c2 : ((stripLifts liftWords (c :: rest)).1.contains "finals" || !P.laysLater) = true)
    (c3 : ((stripLifts liftWords (c :: rest)).1.contains "reflectrows" || !P.bearsReflect) = true)
    (c4 : ((stripLifts liftWords (c :: rest)).1.contains "reflectrows" || !(stripLifts liftWords (c :: rest)).1.contains "leanrows") = true)
    (c5 : P.doorFits (stripLifts liftWords (c :: rest)).1 = true) : P.mayEnter = true := by
  unfold Program.mayEnter
  rw [h]
  simp only [a, b, c1, c2, c3, c4, c5]
  rfl
theorem head_enter : Try.prog.mayEnter = true :=
  enter_of Try.prog headFirst headRest (by rw [head_list]; exact head_words) (by kernel_rfl) (by kernel_rfl) (by kernel_rfl) (by kernel_rfl) (by kernel_rfl) (by kernel_rfl) (by kernel_rfl)
theorem make_of (P : Program) (c : List Char) (rest : List (List Char)) (h : behindMainWord (wordsSigns P.initOrder.toList) = c :: rest) (a : (c == "gc".toList || c == "spec".toList) = false)
    (b : (c == "cut".toList || (c == "finals".toList && rest.head? == some "cut".toList)) = true) : P.make = some .cut := by
  unfold Program.make
  rw [h]
  simp only [a, b]
  rfl
theorem head_make : Try.prog.make = some .cut := make_of Try.prog headFirst headRest (by rw [head_list]; exact head_words) (by kernel_rfl) (by kernel_rfl)
theorem head_final : Try.prog.liftsFinal = false := by
  unfold Program.liftsFinal Program.headLifts
  rw [head_list, head_words]
  kernel_rfl
end Go.Proofs.Ytmjhoiaehmfkcaa
