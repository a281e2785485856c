/-
  The program's kindOf.
-/
import Derived.Test.YtgkamcnbpiipoaaSpecFar
import Derived.Test.YtgkamcnbpiipoaaWithin
namespace Go.Proofs.Ytgkamcnbpiipoaa
open Go.RowKit Go.Sort
attribute [local go_sem] Oper.semAt_some

set_option maxRecDepth 100000 in
theorem kindOf_any {w0 : World} {P : Nat → Prop} {i : It} {v : Value} (h : ItemAt w0 P i v) (w : World) :
    Calls Try.prog 79 #[v] w fun e w' => e = .returned (.string (tb [kdI i])) ∧ Below w.heap.size w w' := by
  cases i with
  | blk c =>
    rw [ItemAt] at h; subst h
    have a0 : ∀ w, (Instr.typeAssert (.iface 123 (.agg #[.string (tb [c])])) 74 123 true).run Try.prog w = .ok (.tuple #[.agg #[.string (tb [c])], .bool true]) w := fun w => by kernel_rfl
    go_enter Try.func79, Try.ntmps79
    go_wp2_with fail
    go_ret
    exact ⟨rfl, by first | exact Below.refl _ _ | exact (Below.refl _ w).alloc (Nat.le_refl _) _ | exact ((Below.refl _ w).alloc (Nat.le_refl _) _).alloc (by simp) _⟩
  | stop =>
    rw [ItemAt] at h; subst h
    have a0 : ∀ w, (Instr.typeAssert (.iface 176 (.agg #[])) 74 123 true).run Try.prog w = .ok (.tuple #[.agg #[.string ⟨#[]⟩], .bool false]) w := fun w => by kernel_rfl
    have a1 : ∀ w, (Instr.typeAssert (.iface 176 (.agg #[])) 74 125 true).run Try.prog w = .ok (.tuple #[.agg #[.string ⟨#[]⟩, .slice none 0 0, .slice none 0 0], .bool false]) w := fun w => by kernel_rfl
    have a2 : ∀ w, (Instr.typeAssert (.iface 176 (.agg #[])) 74 118 true).run Try.prog w = .ok (.tuple #[.agg #[.bool false, .slice none 0 0], .bool false]) w := fun w => by kernel_rfl
    have a3 : ∀ w, (Instr.typeAssert (.iface 176 (.agg #[])) 74 161 true).run Try.prog w = .ok (.tuple #[.agg #[.int .i64 0], .bool false]) w := fun w => by kernel_rfl
    have a4 : ∀ w, (Instr.typeAssert (.iface 176 (.agg #[])) 74 163 true).run Try.prog w = .ok (.tuple #[.agg #[.int .i64 0], .bool false]) w := fun w => by kernel_rfl
    have a5 : ∀ w, (Instr.typeAssert (.iface 176 (.agg #[])) 74 165 true).run Try.prog w = .ok (.tuple #[.agg #[.slice none 0 0], .bool false]) w := fun w => by kernel_rfl
    go_enter Try.func79, Try.ntmps79
    go_wp2_with fail
    go_ret
    exact ⟨rfl, by first | exact Below.refl _ _ | exact (Below.refl _ w).alloc (Nat.le_refl _) _ | exact ((Below.refl _ w).alloc (Nat.le_refl _) _).alloc (by simp) _⟩
  | leave n =>
    rw [ItemAt] at h; subst h
    have a0 : ∀ w, (Instr.typeAssert (.iface 161 (.agg #[.int .i64 (n : Nat)])) 74 123 true).run Try.prog w = .ok (.tuple #[.agg #[.string ⟨#[]⟩], .bool false]) w := fun w => by kernel_rfl
    have a1 : ∀ w, (Instr.typeAssert (.iface 161 (.agg #[.int .i64 (n : Nat)])) 74 125 true).run Try.prog w = .ok (.tuple #[.agg #[.string ⟨#[]⟩, .slice none 0 0, .slice none 0 0], .bool false]) w := fun w => by kernel_rfl
    have a2 : ∀ w, (Instr.typeAssert (.iface 161 (.agg #[.int .i64 (n : Nat)])) 74 118 true).run Try.prog w = .ok (.tuple #[.agg #[.bool false, .slice none 0 0], .bool false]) w := fun w => by kernel_rfl
    have a3 : ∀ w, (Instr.typeAssert (.iface 161 (.agg #[.int .i64 (n : Nat)])) 74 161 true).run Try.prog w = .ok (.tuple #[.agg #[.int .i64 (n : Nat)], .bool true]) w := fun w => by kernel_rfl
    go_enter Try.func79, Try.ntmps79
    go_wp2_with fail
    go_ret
    exact ⟨rfl, by first | exact Below.refl _ _ | exact (Below.refl _ w).alloc (Nat.le_refl _) _ | exact ((Below.refl _ w).alloc (Nat.le_refl _) _).alloc (by simp) _⟩
  | set n =>
    rw [ItemAt] at h; subst h
    have a0 : ∀ w, (Instr.typeAssert (.iface 163 (.agg #[.int .i64 (n : Nat)])) 74 123 true).run Try.prog w = .ok (.tuple #[.agg #[.string ⟨#[]⟩], .bool false]) w := fun w => by kernel_rfl
    have a1 : ∀ w, (Instr.typeAssert (.iface 163 (.agg #[.int .i64 (n : Nat)])) 74 125 true).run Try.prog w = .ok (.tuple #[.agg #[.string ⟨#[]⟩, .slice none 0 0, .slice none 0 0], .bool false]) w := fun w => by kernel_rfl
    have a2 : ∀ w, (Instr.typeAssert (.iface 163 (.agg #[.int .i64 (n : Nat)])) 74 118 true).run Try.prog w = .ok (.tuple #[.agg #[.bool false, .slice none 0 0], .bool false]) w := fun w => by kernel_rfl
    have a3 : ∀ w, (Instr.typeAssert (.iface 163 (.agg #[.int .i64 (n : Nat)])) 74 161 true).run Try.prog w = .ok (.tuple #[.agg #[.int .i64 0], .bool false]) w := fun w => by kernel_rfl
    have a4 : ∀ w, (Instr.typeAssert (.iface 163 (.agg #[.int .i64 (n : Nat)])) 74 163 true).run Try.prog w = .ok (.tuple #[.agg #[.int .i64 (n : Nat)], .bool true]) w := fun w => by kernel_rfl
    go_enter Try.func79, Try.ntmps79
    go_wp2_with fail
    go_ret
    exact ⟨rfl, by first | exact Below.refl _ _ | exact (Below.refl _ w).alloc (Nat.le_refl _) _ | exact ((Below.refl _ w).alloc (Nat.le_refl _) _).alloc (by simp) _⟩
  | pick bs =>
    rw [ItemAt] at h; obtain ⟨vb, xs, rfl, ⟨A, k, rfl, _⟩, _⟩ := h
    have a0 : ∀ w, (Instr.typeAssert (.iface 165 (.agg #[.slice A xs.length k])) 74 123 true).run Try.prog w = .ok (.tuple #[.agg #[.string ⟨#[]⟩], .bool false]) w := fun w => by kernel_rfl
    have a1 : ∀ w, (Instr.typeAssert (.iface 165 (.agg #[.slice A xs.length k])) 74 125 true).run Try.prog w = .ok (.tuple #[.agg #[.string ⟨#[]⟩, .slice none 0 0, .slice none 0 0], .bool false]) w := fun w => by kernel_rfl
    have a2 : ∀ w, (Instr.typeAssert (.iface 165 (.agg #[.slice A xs.length k])) 74 118 true).run Try.prog w = .ok (.tuple #[.agg #[.bool false, .slice none 0 0], .bool false]) w := fun w => by kernel_rfl
    have a3 : ∀ w, (Instr.typeAssert (.iface 165 (.agg #[.slice A xs.length k])) 74 161 true).run Try.prog w = .ok (.tuple #[.agg #[.int .i64 0], .bool false]) w := fun w => by kernel_rfl
    have a4 : ∀ w, (Instr.typeAssert (.iface 165 (.agg #[.slice A xs.length k])) 74 163 true).run Try.prog w = .ok (.tuple #[.agg #[.int .i64 0], .bool false]) w := fun w => by kernel_rfl
    have a5 : ∀ w, (Instr.typeAssert (.iface 165 (.agg #[.slice A xs.length k])) 74 165 true).run Try.prog w = .ok (.tuple #[.agg #[.slice A xs.length k], .bool true]) w := fun w => by kernel_rfl
    go_enter Try.func79, Try.ntmps79
    go_wp2_with fail
    go_ret
    exact ⟨rfl, by first | exact Below.refl _ _ | exact (Below.refl _ w).alloc (Nat.le_refl _) _ | exact ((Below.refl _ w).alloc (Nat.le_refl _) _).alloc (by simp) _⟩
  | frame b l =>
    rw [ItemAt] at h; obtain ⟨vb, xs, rfl, ⟨A, k, rfl, _⟩, _⟩ := h
    cases b with
    | true =>
      have a0 : ∀ w, (Instr.typeAssert (.iface 118 (.agg #[.bool true, .slice A xs.length k])) 74 123 true).run Try.prog w = .ok (.tuple #[.agg #[.string ⟨#[]⟩], .bool false]) w := fun w => by kernel_rfl
      have a1 : ∀ w, (Instr.typeAssert (.iface 118 (.agg #[.bool true, .slice A xs.length k])) 74 125 true).run Try.prog w = .ok (.tuple #[.agg #[.string ⟨#[]⟩, .slice none 0 0, .slice none 0 0], .bool false]) w := fun w => by kernel_rfl
      have a2 : ∀ w, (Instr.typeAssert (.iface 118 (.agg #[.bool true, .slice A xs.length k])) 74 118 true).run Try.prog w = .ok (.tuple #[.agg #[.bool true, .slice A xs.length k], .bool true]) w := fun w => by kernel_rfl
      go_enter Try.func79, Try.ntmps79
      go_wp2_with fail
      go_ret
      exact ⟨rfl, by first | exact Below.refl _ _ | exact (Below.refl _ w).alloc (Nat.le_refl _) _ | exact ((Below.refl _ w).alloc (Nat.le_refl _) _).alloc (by simp) _⟩
    | false =>
      have a0 : ∀ w, (Instr.typeAssert (.iface 118 (.agg #[.bool false, .slice A xs.length k])) 74 123 true).run Try.prog w = .ok (.tuple #[.agg #[.string ⟨#[]⟩], .bool false]) w := fun w => by kernel_rfl
      have a1 : ∀ w, (Instr.typeAssert (.iface 118 (.agg #[.bool false, .slice A xs.length k])) 74 125 true).run Try.prog w = .ok (.tuple #[.agg #[.string ⟨#[]⟩, .slice none 0 0, .slice none 0 0], .bool false]) w := fun w => by kernel_rfl
      have a2 : ∀ w, (Instr.typeAssert (.iface 118 (.agg #[.bool false, .slice A xs.length k])) 74 118 true).run Try.prog w = .ok (.tuple #[.agg #[.bool false, .slice A xs.length k], .bool true]) w := fun w => by kernel_rfl
      go_enter Try.func79, Try.ntmps79
      go_wp2_with fail
      go_ret
      exact ⟨rfl, by first | exact Below.refl _ _ | exact (Below.refl _ w).alloc (Nat.le_refl _) _ | exact ((Below.refl _ w).alloc (Nat.le_refl _) _).alloc (by simp) _⟩
  | ask c l r =>
    rw [ItemAt] at h; obtain ⟨vl, vr, xs, ys, rfl, ⟨A, k, rfl, _⟩, _, ⟨A', k', rfl, _⟩, _⟩ := h
    have a0 : ∀ w, (Instr.typeAssert (.iface 125 (.agg #[.string (tb [c]), .slice A xs.length k, .slice A' ys.length k'])) 74 123 true).run Try.prog w = .ok (.tuple #[.agg #[.string ⟨#[]⟩], .bool false]) w := fun w => by kernel_rfl
    have a1 : ∀ w, (Instr.typeAssert (.iface 125 (.agg #[.string (tb [c]), .slice A xs.length k, .slice A' ys.length k'])) 74 125 true).run Try.prog w = .ok (.tuple #[.agg #[.string (tb [c]), .slice A xs.length k, .slice A' ys.length k'], .bool true]) w := fun w => by kernel_rfl
    go_enter Try.func79, Try.ntmps79
    go_wp2_with fail
    go_ret
    exact ⟨rfl, by first | exact Below.refl _ _ | exact (Below.refl _ w).alloc (Nat.le_refl _) _ | exact ((Below.refl _ w).alloc (Nat.le_refl _) _).alloc (by simp) _⟩
end Go.Proofs.Ytgkamcnbpiipoaa

/-
  The program's blockIn.
-/
namespace Go.Proofs.Ytgkamcnbpiipoaa
open Go.RowKit Go.Sort
attribute [local go_sem] Oper.semAt_some

set_option maxRecDepth 100000 in
theorem blockIn_any {w0 : World} {P : Nat → Prop} {i : It} {v : Value} (h : ItemAt w0 P i v) (w : World) :
    Calls Try.prog 51 #[v] w fun e w' => e = .returned (.string (tb (nmI i))) ∧ Below w.heap.size w w' := by
  cases i with
  | blk c =>
    rw [ItemAt] at h; subst h
    have a0 : ∀ w, (Instr.typeAssert (.iface 123 (.agg #[.string (tb [c])])) 74 123 true).run Try.prog w = .ok (.tuple #[.agg #[.string (tb [c])], .bool true]) w := fun w => by kernel_rfl
    go_enter Try.func51, Try.ntmps51
    go_wp2_with fail
    go_ret
    exact ⟨rfl, by first | exact Below.refl _ _ | exact (Below.refl _ w).alloc (Nat.le_refl _) _ | exact ((Below.refl _ w).alloc (Nat.le_refl _) _).alloc (by simp) _⟩
  | stop =>
    rw [ItemAt] at h; subst h
    have a0 : ∀ w, (Instr.typeAssert (.iface 176 (.agg #[])) 74 123 true).run Try.prog w = .ok (.tuple #[.agg #[.string ⟨#[]⟩], .bool false]) w := fun w => by kernel_rfl
    have a1 : ∀ w, (Instr.typeAssert (.iface 176 (.agg #[])) 74 125 true).run Try.prog w = .ok (.tuple #[.agg #[.string ⟨#[]⟩, .slice none 0 0, .slice none 0 0], .bool false]) w := fun w => by kernel_rfl
    go_enter Try.func51, Try.ntmps51
    go_wp2_with fail
    go_ret
    exact ⟨rfl, by first | exact Below.refl _ _ | exact (Below.refl _ w).alloc (Nat.le_refl _) _ | exact ((Below.refl _ w).alloc (Nat.le_refl _) _).alloc (by simp) _⟩
  | leave n =>
    rw [ItemAt] at h; subst h
    have a0 : ∀ w, (Instr.typeAssert (.iface 161 (.agg #[.int .i64 (n : Nat)])) 74 123 true).run Try.prog w = .ok (.tuple #[.agg #[.string ⟨#[]⟩], .bool false]) w := fun w => by kernel_rfl
    have a1 : ∀ w, (Instr.typeAssert (.iface 161 (.agg #[.int .i64 (n : Nat)])) 74 125 true).run Try.prog w = .ok (.tuple #[.agg #[.string ⟨#[]⟩, .slice none 0 0, .slice none 0 0], .bool false]) w := fun w => by kernel_rfl
    go_enter Try.func51, Try.ntmps51
    go_wp2_with fail
    go_ret
    exact ⟨rfl, by first | exact Below.refl _ _ | exact (Below.refl _ w).alloc (Nat.le_refl _) _ | exact ((Below.refl _ w).alloc (Nat.le_refl _) _).alloc (by simp) _⟩
  | set n =>
    rw [ItemAt] at h; subst h
    have a0 : ∀ w, (Instr.typeAssert (.iface 163 (.agg #[.int .i64 (n : Nat)])) 74 123 true).run Try.prog w = .ok (.tuple #[.agg #[.string ⟨#[]⟩], .bool false]) w := fun w => by kernel_rfl
    have a1 : ∀ w, (Instr.typeAssert (.iface 163 (.agg #[.int .i64 (n : Nat)])) 74 125 true).run Try.prog w = .ok (.tuple #[.agg #[.string ⟨#[]⟩, .slice none 0 0, .slice none 0 0], .bool false]) w := fun w => by kernel_rfl
    go_enter Try.func51, Try.ntmps51
    go_wp2_with fail
    go_ret
    exact ⟨rfl, by first | exact Below.refl _ _ | exact (Below.refl _ w).alloc (Nat.le_refl _) _ | exact ((Below.refl _ w).alloc (Nat.le_refl _) _).alloc (by simp) _⟩
  | pick bs =>
    rw [ItemAt] at h; obtain ⟨vb, xs, rfl, ⟨A, k, rfl, _⟩, _⟩ := h
    have a0 : ∀ w, (Instr.typeAssert (.iface 165 (.agg #[.slice A xs.length k])) 74 123 true).run Try.prog w = .ok (.tuple #[.agg #[.string ⟨#[]⟩], .bool false]) w := fun w => by kernel_rfl
    have a1 : ∀ w, (Instr.typeAssert (.iface 165 (.agg #[.slice A xs.length k])) 74 125 true).run Try.prog w = .ok (.tuple #[.agg #[.string ⟨#[]⟩, .slice none 0 0, .slice none 0 0], .bool false]) w := fun w => by kernel_rfl
    go_enter Try.func51, Try.ntmps51
    go_wp2_with fail
    go_ret
    exact ⟨rfl, by first | exact Below.refl _ _ | exact (Below.refl _ w).alloc (Nat.le_refl _) _ | exact ((Below.refl _ w).alloc (Nat.le_refl _) _).alloc (by simp) _⟩
  | frame b l =>
    rw [ItemAt] at h; obtain ⟨vb, xs, rfl, ⟨A, k, rfl, _⟩, _⟩ := h
    have a0 : ∀ w, (Instr.typeAssert (.iface 118 (.agg #[.bool b, .slice A xs.length k])) 74 123 true).run Try.prog w = .ok (.tuple #[.agg #[.string ⟨#[]⟩], .bool false]) w := fun w => by kernel_rfl
    have a1 : ∀ w, (Instr.typeAssert (.iface 118 (.agg #[.bool b, .slice A xs.length k])) 74 125 true).run Try.prog w = .ok (.tuple #[.agg #[.string ⟨#[]⟩, .slice none 0 0, .slice none 0 0], .bool false]) w := fun w => by kernel_rfl
    go_enter Try.func51, Try.ntmps51
    go_wp2_with fail
    go_ret
    exact ⟨rfl, by first | exact Below.refl _ _ | exact (Below.refl _ w).alloc (Nat.le_refl _) _ | exact ((Below.refl _ w).alloc (Nat.le_refl _) _).alloc (by simp) _⟩
  | ask c l r =>
    rw [ItemAt] at h; obtain ⟨vl, vr, xs, ys, rfl, ⟨A, k, rfl, _⟩, _, ⟨A', k', rfl, _⟩, _⟩ := h
    have a0 : ∀ w, (Instr.typeAssert (.iface 125 (.agg #[.string (tb [c]), .slice A xs.length k, .slice A' ys.length k'])) 74 123 true).run Try.prog w = .ok (.tuple #[.agg #[.string ⟨#[]⟩], .bool false]) w := fun w => by kernel_rfl
    have a1 : ∀ w, (Instr.typeAssert (.iface 125 (.agg #[.string (tb [c]), .slice A xs.length k, .slice A' ys.length k'])) 74 125 true).run Try.prog w = .ok (.tuple #[.agg #[.string (tb [c]), .slice A xs.length k, .slice A' ys.length k'], .bool true]) w := fun w => by kernel_rfl
    go_enter Try.func51, Try.ntmps51
    go_wp2_with fail
    go_ret
    exact ⟨rfl, by first | exact Below.refl _ _ | exact (Below.refl _ w).alloc (Nat.le_refl _) _ | exact ((Below.refl _ w).alloc (Nat.le_refl _) _).alloc (by simp) _⟩
end Go.Proofs.Ytgkamcnbpiipoaa
