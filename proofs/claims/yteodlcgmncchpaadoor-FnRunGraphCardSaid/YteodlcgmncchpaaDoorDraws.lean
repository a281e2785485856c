/-
  Contracts of the model's l1Any, l1Place and its Draw functions.
-/
import Derived.Test.YteodlcgmncchpaaDoorSome
namespace Go.Proofs.YteodlcgmncchpaaDoor
open Go.RowKit Go.Sort

theorem of12 (R : Nat) (A : Option Addr) (len cap p : Nat) (w : World) (h : Rd w R A len cap p) (hp : p ≤ 1048576) :
    Calls Tryd.prog 29 #[.pointer (some ⟨R, 0, none⟩), .slice (some ⟨w.heap.size, 0, none⟩) 12 12] (w.alloc (.cells #[.string ⟨#[65]⟩, .string ⟨#[66]⟩, .string ⟨#[67]⟩, .string ⟨#[68]⟩, .string ⟨#[69]⟩, .string ⟨#[66]⟩, .string ⟨#[67]⟩, .string ⟨#[70]⟩, .string ⟨#[74]⟩, .string ⟨#[107]⟩, .string ⟨#[]⟩, .string ⟨#[65, 66]⟩] 9)) fun e w' => ∃ s : ByteArray, e = .returned (.string s) ∧ s.size ≤ 2 ∧ Only R w w' ∧ Rd w' R A len cap (p + 1) := by
  refine (of2 R A len cap p [⟨#[65]⟩, ⟨#[66]⟩, ⟨#[67]⟩, ⟨#[68]⟩, ⟨#[69]⟩, ⟨#[66]⟩, ⟨#[67]⟩, ⟨#[70]⟩, ⟨#[74]⟩, ⟨#[107]⟩, ⟨#[]⟩, ⟨#[65, 66]⟩] w h (by decide) (by decide) hp).mono ?_
  rintro e w' ⟨z, rfl, hz, o, r⟩
  refine ⟨z, rfl, ?_, o, r⟩
  revert z; decide


def PlacePost (n c R : Nat) (A : Option Addr) (len cap p : Nat) (w : World) (e : Ending) (w' : World) : Prop :=
  ∃ v g s q, e = .returned (.tuple #[v, .string s]) ∧ OwnBl w' w.heap.size v g ∧ g.length + tot g ≤ n ∧ s.size ≤ 2 ∧ Only R w w' ∧ Rd w' R A len cap q ∧ q ≤ p + c


def DrawPlacePost (n : Nat) (w : World) (e : Ending) (w' : World) : Prop :=
  ∃ v g s, e = .returned (.tuple #[v, .string s]) ∧ OwnBl w' w.heap.size v g ∧ g.length + tot g ≤ n ∧ s.size ≤ 2 ∧ Below w.heap.size w w'














end Go.Proofs.YteodlcgmncchpaaDoor
