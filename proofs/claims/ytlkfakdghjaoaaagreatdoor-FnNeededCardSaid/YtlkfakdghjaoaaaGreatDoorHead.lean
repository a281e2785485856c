import Derived.Test.YtlkfakdghjaoaaaGreatDoorRows
import Derived.JoinedOf
import Derived.KernelRfl
namespace Go.Proofs.YtlkfakdghjaoaaaGreatDoor
def C5 : List Nat := [
 104, 97, 114, 110, 101, 115, 115, 32, 54, 56, 50, 97, 97, 55, 51, 102, 52, 56, 51, 100, 102, 98, 99, 101, 102, 53, 52, 98, 48, 48, 98, 56, 49, 55, 100, 52, 49, 98, 97, 98,
 51, 48, 49, 53, 56, 102, 50, 50, 57, 51, 100, 51, 102, 53, 49, 55, 54, 98, 102, 48, 51, 100, 49, 52, 57, 51, 53, 57, 50, 49, 55, 56, 32, 99, 117, 116, 32, 97, 116, 32,
 108, 111, 111, 112, 46, 101, 120, 97, 109, 112, 108, 101, 47, 115, 116, 114, 117, 99, 116, 117, 114, 101, 100, 106, 117, 109, 112, 115, 47, 108, 97, 119, 115, 46, 70, 110, 77, 97, 107, 101,
 84, 101, 120, 116, 32, 108, 111, 111, 112, 46, 101, 120, 97, 109, 112, 108, 101, 47, 115, 116, 114, 117, 99, 116, 117, 114, 101, 100, 106, 117, 109, 112, 115, 47, 108, 97, 119, 115, 46, 70,
 110, 78, 101, 101, 100, 101, 100, 32, 108, 111, 111, 112, 46, 101, 120, 97, 109, 112, 108, 101, 47, 115, 116, 114, 117, 99, 116, 117, 114, 101, 100, 106, 117, 109, 112, 115, 47, 108, 97, 119,
 115, 46, 70, 110, 84, 101, 120, 116, 70, 114, 111, 109, 32, 108, 111, 111, 112, 46, 101, 120, 97, 109, 112, 108, 101, 47, 115, 116, 114, 117, 99, 116, 117, 114, 101, 100, 106, 117, 109, 112,
 115, 47, 108, 97, 119, 115, 46, 70, 110, 77, 97, 100, 101, 76, 101, 110, 103, 116, 104, 32, 108, 111, 111, 112, 46, 101, 120, 97, 109, 112, 108, 101, 47, 115, 116, 114, 117, 99, 116, 117,
 114, 101, 100, 106, 117, 109, 112, 115, 47, 108, 97, 119, 115, 46, 70, 110, 83, 109, 97, 108, 108, 70, 114, 97, 109, 101, 115, 32, 108, 111, 111, 112, 46, 101, 120, 97, 109, 112, 108, 101,
 47, 115, 116, 114, 117, 99, 116, 117, 114, 101, 100, 106, 117, 109, 112, 115, 47, 108, 97, 119, 115, 46, 70, 110, 66, 105, 103, 70, 114, 97, 109, 101, 115, 32, 108, 111, 111, 112, 46, 101,
 120, 97, 109, 112, 108, 101, 47, 115, 116, 114, 117, 99, 116, 117, 114, 101, 100, 106, 117, 109, 112, 115, 47, 108, 97, 119, 115, 46, 70, 110, 77, 97, 100, 101, 69, 110, 100, 115, 32, 108,
 111, 111, 112, 46, 101, 120, 97, 109, 112, 108, 101, 47, 115, 116, 114, 117, 99, 116, 117, 114, 101, 100, 106, 117, 109, 112, 115, 47, 108, 97, 119, 115, 46, 70, 110, 76, 111, 110, 103, 82,
 117, 110, 115]
def nA : List Char := C5.map Char.ofNat
def nB : List Char := [99, 117, 116].map Char.ofNat
def uW : List (List Nat) := [
 [97, 116],
 [108, 111, 111, 112, 46, 101, 120, 97, 109, 112, 108, 101, 47, 115, 116, 114, 117, 99, 116, 117, 114, 101, 100, 106, 117, 109, 112, 115, 47, 108, 97, 119, 115, 46, 70, 110, 77, 97, 107, 101, 84, 101, 120, 116],
 [108, 111, 111, 112, 46, 101, 120, 97, 109, 112, 108, 101, 47, 115, 116, 114, 117, 99, 116, 117, 114, 101, 100, 106, 117, 109, 112, 115, 47, 108, 97, 119, 115, 46, 70, 110, 78, 101, 101, 100, 101, 100],
 [108, 111, 111, 112, 46, 101, 120, 97, 109, 112, 108, 101, 47, 115, 116, 114, 117, 99, 116, 117, 114, 101, 100, 106, 117, 109, 112, 115, 47, 108, 97, 119, 115, 46, 70, 110, 84, 101, 120, 116, 70, 114, 111, 109],
 [108, 111, 111, 112, 46, 101, 120, 97, 109, 112, 108, 101, 47, 115, 116, 114, 117, 99, 116, 117, 114, 101, 100, 106, 117, 109, 112, 115, 47, 108, 97, 119, 115, 46, 70, 110, 77, 97, 100, 101, 76, 101, 110, 103, 116, 104],
 [108, 111, 111, 112, 46, 101, 120, 97, 109, 112, 108, 101, 47, 115, 116, 114, 117, 99, 116, 117, 114, 101, 100, 106, 117, 109, 112, 115, 47, 108, 97, 119, 115, 46, 70, 110, 83, 109, 97, 108, 108, 70, 114, 97, 109, 101, 115],
 [108, 111, 111, 112, 46, 101, 120, 97, 109, 112, 108, 101, 47, 115, 116, 114, 117, 99, 116, 117, 114, 101, 100, 106, 117, 109, 112, 115, 47, 108, 97, 119, 115, 46, 70, 110, 66, 105, 103, 70, 114, 97, 109, 101, 115],
 [108, 111, 111, 112, 46, 101, 120, 97, 109, 112, 108, 101, 47, 115, 116, 114, 117, 99, 116, 117, 114, 101, 100, 106, 117, 109, 112, 115, 47, 108, 97, 119, 115, 46, 70, 110, 77, 97, 100, 101, 69, 110, 100, 115],
 [108, 111, 111, 112, 46, 101, 120, 97, 109, 112, 108, 101, 47, 115, 116, 114, 117, 99, 116, 117, 114, 101, 100, 106, 117, 109, 112, 115, 47, 108, 97, 119, 115, 46, 70, 110, 76, 111, 110, 103, 82, 117, 110, 115]]
def pJ : List (List Char) := uW.map fun l => l.map Char.ofNat
theorem Et : Tryz.prog.initOrder = String.ofList nA := by kernel_rfl
theorem nC : Tryz.prog.initOrder.toList = nA := by rw [Et, String.toList_ofList]
theorem l9 : behindMainWord (wordsSigns nA) = nB :: pJ := by kernel_rfl
theorem C6 (P : Program) (c : List Char) (rest : List (List Char)) (h : behindMainWord (wordsSigns P.initOrder.toList) = c :: rest)
  (a : ((c == "gc".toList || c == "spec".toList) && (rest.isEmpty || rest.head? == some "stop".toList)) = false)
  (b : (c == "carried".toList && rest.take 2 == ["gc".toList, "cut".toList] && !P.laysLater && !P.bearsReflect) = false)
  (c1 : ((stripLifts liftWords (c :: rest)).2.head? == some "cut".toList) = true)
  (c2 : ((stripLifts liftWords (c :: rest)).1.contains "finals" || !P.laysLater) = true)
  (c3 : ((stripLifts liftWords (c :: rest)).1.contains "reflectrows" || !P.bearsReflect) = true)
  (c4 : ((stripLifts liftWords (c :: rest)).1.contains "reflectrows" || !(stripLifts liftWords (c :: rest)).1.contains "leanrows") = true)
  (c5 : P.doorFits (stripLifts liftWords (c :: rest)).1 = true) : P.mayEnter = true := by
 unfold Program.mayEnter
 rw [h]
 simp only [a, b, c1, c2, c3, c4, c5]
 rfl
theorem qq : Tryz.prog.mayEnter = true :=
 C6 Tryz.prog nB pJ (by rw [nC]; exact l9) (by kernel_rfl) (by kernel_rfl) (by kernel_rfl) (by kernel_rfl) (by kernel_rfl) (by kernel_rfl) (by kernel_rfl)
theorem Eu (P : Program) (c : List Char) (rest : List (List Char)) (h : behindMainWord (wordsSigns P.initOrder.toList) = c :: rest) (a : (c == "gc".toList || c == "spec".toList) = false)
  (b : (c == "cut".toList || (c == "finals".toList && rest.head? == some "cut".toList)) = true) : P.make = some .cut := by
 unfold Program.make
 rw [h]
 simp only [a, b]
 rfl
theorem sJ : Tryz.prog.make = some .cut := Eu Tryz.prog nB pJ (by rw [nC]; exact l9) (by kernel_rfl) (by kernel_rfl)
theorem qr : Tryz.prog.liftsFinal = false := by
 unfold Program.liftsFinal Program.headLifts
 rw [nC, l9]
 kernel_rfl
end Go.Proofs.YtlkfakdghjaoaaaGreatDoor
