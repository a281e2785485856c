import Derived.Test.YtlkfakdghjaoaaaGreatDoorSpecFar
set_option maxRecDepth 100000
namespace Go.Proofs.YtlkfakdghjaoaaaGreatDoor
open Go.RowKit Go.Sort
attribute [local go_sem] Oper.semAt_some
theorem zw {w0 : World} {P : Nat → Prop} {i : It} {v : Value} (h : ItemAt w0 P i v) (w : World) :
  Calls Tryz.prog 112 #[v] w fun e w' => e = .returned (.string (tb [cJ i])) ∧ Below w.heap.size w w' := by
 cases i with
 | blk c =>
  rw [ItemAt] at h; subst h
  have a0 : ∀ w, (Instr.typeAssert (.iface 152 (.agg #[.string (tb [c])])) 76 152 true).run Tryz.prog w = .ok (.tuple #[.agg #[.string (tb [c])], .bool true]) w := fun w => by kernel_rfl
  go_enter Tryz.func112, Tryz.ntmps112
  go_wp2_with fail
  go_ret
  exact ⟨rfl, by first | exact Below.refl _ _ | exact (Below.refl _ w).alloc (Nat.le_refl _) _ | exact ((Below.refl _ w).alloc (Nat.le_refl _) _).alloc (by simp) _⟩
 | stop =>
  rw [ItemAt] at h; subst h
  have a0 : ∀ w, (Instr.typeAssert (.iface 248 (.agg #[])) 76 152 true).run Tryz.prog w = .ok (.tuple #[.agg #[.string ⟨#[]⟩], .bool false]) w := fun w => by kernel_rfl
  have a1 : ∀ w, (Instr.typeAssert (.iface 248 (.agg #[])) 76 154 true).run Tryz.prog w = .ok (.tuple #[.agg #[.string ⟨#[]⟩, .slice none 0 0, .slice none 0 0], .bool false]) w := fun w => by kernel_rfl
  have a2 : ∀ w, (Instr.typeAssert (.iface 248 (.agg #[])) 76 147 true).run Tryz.prog w = .ok (.tuple #[.agg #[.bool false, .slice none 0 0], .bool false]) w := fun w => by kernel_rfl
  have a3 : ∀ w, (Instr.typeAssert (.iface 248 (.agg #[])) 76 218 true).run Tryz.prog w = .ok (.tuple #[.agg #[.int .i64 0], .bool false]) w := fun w => by kernel_rfl
  have a4 : ∀ w, (Instr.typeAssert (.iface 248 (.agg #[])) 76 220 true).run Tryz.prog w = .ok (.tuple #[.agg #[.int .i64 0], .bool false]) w := fun w => by kernel_rfl
  have a5 : ∀ w, (Instr.typeAssert (.iface 248 (.agg #[])) 76 222 true).run Tryz.prog w = .ok (.tuple #[.agg #[.slice none 0 0], .bool false]) w := fun w => by kernel_rfl
  go_enter Tryz.func112, Tryz.ntmps112
  go_wp2_with fail
  go_ret
  exact ⟨rfl, by first | exact Below.refl _ _ | exact (Below.refl _ w).alloc (Nat.le_refl _) _ | exact ((Below.refl _ w).alloc (Nat.le_refl _) _).alloc (by simp) _⟩
 | leave n =>
  rw [ItemAt] at h; subst h
  have a0 : ∀ w, (Instr.typeAssert (.iface 218 (.agg #[.int .i64 (n : Nat)])) 76 152 true).run Tryz.prog w = .ok (.tuple #[.agg #[.string ⟨#[]⟩], .bool false]) w := fun w => by kernel_rfl
  have a1 : ∀ w, (Instr.typeAssert (.iface 218 (.agg #[.int .i64 (n : Nat)])) 76 154 true).run Tryz.prog w = .ok (.tuple #[.agg #[.string ⟨#[]⟩, .slice none 0 0, .slice none 0 0], .bool false]) w := fun w => by kernel_rfl
  have a2 : ∀ w, (Instr.typeAssert (.iface 218 (.agg #[.int .i64 (n : Nat)])) 76 147 true).run Tryz.prog w = .ok (.tuple #[.agg #[.bool false, .slice none 0 0], .bool false]) w := fun w => by kernel_rfl
  have a3 : ∀ w, (Instr.typeAssert (.iface 218 (.agg #[.int .i64 (n : Nat)])) 76 218 true).run Tryz.prog w = .ok (.tuple #[.agg #[.int .i64 (n : Nat)], .bool true]) w := fun w => by kernel_rfl
  go_enter Tryz.func112, Tryz.ntmps112
  go_wp2_with fail
  go_ret
  exact ⟨rfl, by first | exact Below.refl _ _ | exact (Below.refl _ w).alloc (Nat.le_refl _) _ | exact ((Below.refl _ w).alloc (Nat.le_refl _) _).alloc (by simp) _⟩
 | set n =>
  rw [ItemAt] at h; subst h
  have a0 : ∀ w, (Instr.typeAssert (.iface 220 (.agg #[.int .i64 (n : Nat)])) 76 152 true).run Tryz.prog w = .ok (.tuple #[.agg #[.string ⟨#[]⟩], .bool false]) w := fun w => by kernel_rfl
  have a1 : ∀ w, (Instr.typeAssert (.iface 220 (.agg #[.int .i64 (n : Nat)])) 76 154 true).run Tryz.prog w = .ok (.tuple #[.agg #[.string ⟨#[]⟩, .slice none 0 0, .slice none 0 0], .bool false]) w := fun w => by kernel_rfl
  have a2 : ∀ w, (Instr.typeAssert (.iface 220 (.agg #[.int .i64 (n : Nat)])) 76 147 true).run Tryz.prog w = .ok (.tuple #[.agg #[.bool false, .slice none 0 0], .bool false]) w := fun w => by kernel_rfl
  have a3 : ∀ w, (Instr.typeAssert (.iface 220 (.agg #[.int .i64 (n : Nat)])) 76 218 true).run Tryz.prog w = .ok (.tuple #[.agg #[.int .i64 0], .bool false]) w := fun w => by kernel_rfl
  have a4 : ∀ w, (Instr.typeAssert (.iface 220 (.agg #[.int .i64 (n : Nat)])) 76 220 true).run Tryz.prog w = .ok (.tuple #[.agg #[.int .i64 (n : Nat)], .bool true]) w := fun w => by kernel_rfl
  go_enter Tryz.func112, Tryz.ntmps112
  go_wp2_with fail
  go_ret
  exact ⟨rfl, by first | exact Below.refl _ _ | exact (Below.refl _ w).alloc (Nat.le_refl _) _ | exact ((Below.refl _ w).alloc (Nat.le_refl _) _).alloc (by simp) _⟩
 | pick bs =>
  rw [ItemAt] at h; obtain ⟨vb, xs, rfl, ⟨A, k, rfl, _⟩, _⟩ := h
  have a0 : ∀ w, (Instr.typeAssert (.iface 222 (.agg #[.slice A xs.length k])) 76 152 true).run Tryz.prog w = .ok (.tuple #[.agg #[.string ⟨#[]⟩], .bool false]) w := fun w => by kernel_rfl
  have a1 : ∀ w, (Instr.typeAssert (.iface 222 (.agg #[.slice A xs.length k])) 76 154 true).run Tryz.prog w = .ok (.tuple #[.agg #[.string ⟨#[]⟩, .slice none 0 0, .slice none 0 0], .bool false]) w := fun w => by kernel_rfl
  have a2 : ∀ w, (Instr.typeAssert (.iface 222 (.agg #[.slice A xs.length k])) 76 147 true).run Tryz.prog w = .ok (.tuple #[.agg #[.bool false, .slice none 0 0], .bool false]) w := fun w => by kernel_rfl
  have a3 : ∀ w, (Instr.typeAssert (.iface 222 (.agg #[.slice A xs.length k])) 76 218 true).run Tryz.prog w = .ok (.tuple #[.agg #[.int .i64 0], .bool false]) w := fun w => by kernel_rfl
  have a4 : ∀ w, (Instr.typeAssert (.iface 222 (.agg #[.slice A xs.length k])) 76 220 true).run Tryz.prog w = .ok (.tuple #[.agg #[.int .i64 0], .bool false]) w := fun w => by kernel_rfl
  have a5 : ∀ w, (Instr.typeAssert (.iface 222 (.agg #[.slice A xs.length k])) 76 222 true).run Tryz.prog w = .ok (.tuple #[.agg #[.slice A xs.length k], .bool true]) w := fun w => by kernel_rfl
  go_enter Tryz.func112, Tryz.ntmps112
  go_wp2_with fail
  go_ret
  exact ⟨rfl, by first | exact Below.refl _ _ | exact (Below.refl _ w).alloc (Nat.le_refl _) _ | exact ((Below.refl _ w).alloc (Nat.le_refl _) _).alloc (by simp) _⟩
 | frame b l =>
  rw [ItemAt] at h; obtain ⟨vb, xs, rfl, ⟨A, k, rfl, _⟩, _⟩ := h
  cases b with
  | true =>
   have a0 : ∀ w, (Instr.typeAssert (.iface 147 (.agg #[.bool true, .slice A xs.length k])) 76 152 true).run Tryz.prog w = .ok (.tuple #[.agg #[.string ⟨#[]⟩], .bool false]) w := fun w => by kernel_rfl
   have a1 : ∀ w, (Instr.typeAssert (.iface 147 (.agg #[.bool true, .slice A xs.length k])) 76 154 true).run Tryz.prog w = .ok (.tuple #[.agg #[.string ⟨#[]⟩, .slice none 0 0, .slice none 0 0], .bool false]) w := fun w => by kernel_rfl
   have a2 : ∀ w, (Instr.typeAssert (.iface 147 (.agg #[.bool true, .slice A xs.length k])) 76 147 true).run Tryz.prog w = .ok (.tuple #[.agg #[.bool true, .slice A xs.length k], .bool true]) w := fun w => by kernel_rfl
   go_enter Tryz.func112, Tryz.ntmps112
   go_wp2_with fail
   go_ret
   exact ⟨rfl, by first | exact Below.refl _ _ | exact (Below.refl _ w).alloc (Nat.le_refl _) _ | exact ((Below.refl _ w).alloc (Nat.le_refl _) _).alloc (by simp) _⟩
  | false =>
   have a0 : ∀ w, (Instr.typeAssert (.iface 147 (.agg #[.bool false, .slice A xs.length k])) 76 152 true).run Tryz.prog w = .ok (.tuple #[.agg #[.string ⟨#[]⟩], .bool false]) w := fun w => by kernel_rfl
   have a1 : ∀ w, (Instr.typeAssert (.iface 147 (.agg #[.bool false, .slice A xs.length k])) 76 154 true).run Tryz.prog w = .ok (.tuple #[.agg #[.string ⟨#[]⟩, .slice none 0 0, .slice none 0 0], .bool false]) w := fun w => by kernel_rfl
   have a2 : ∀ w, (Instr.typeAssert (.iface 147 (.agg #[.bool false, .slice A xs.length k])) 76 147 true).run Tryz.prog w = .ok (.tuple #[.agg #[.bool false, .slice A xs.length k], .bool true]) w := fun w => by kernel_rfl
   go_enter Tryz.func112, Tryz.ntmps112
   go_wp2_with fail
   go_ret
   exact ⟨rfl, by first | exact Below.refl _ _ | exact (Below.refl _ w).alloc (Nat.le_refl _) _ | exact ((Below.refl _ w).alloc (Nat.le_refl _) _).alloc (by simp) _⟩
 | ask c l r =>
  rw [ItemAt] at h; obtain ⟨vl, vr, xs, ys, rfl, ⟨A, k, rfl, _⟩, _, ⟨A', k', rfl, _⟩, _⟩ := h
  have a0 : ∀ w, (Instr.typeAssert (.iface 154 (.agg #[.string (tb [c]), .slice A xs.length k, .slice A' ys.length k'])) 76 152 true).run Tryz.prog w = .ok (.tuple #[.agg #[.string ⟨#[]⟩], .bool false]) w := fun w => by kernel_rfl
  have a1 : ∀ w, (Instr.typeAssert (.iface 154 (.agg #[.string (tb [c]), .slice A xs.length k, .slice A' ys.length k'])) 76 154 true).run Tryz.prog w = .ok (.tuple #[.agg #[.string (tb [c]), .slice A xs.length k, .slice A' ys.length k'], .bool true]) w := fun w => by kernel_rfl
  go_enter Tryz.func112, Tryz.ntmps112
  go_wp2_with fail
  go_ret
  exact ⟨rfl, by first | exact Below.refl _ _ | exact (Below.refl _ w).alloc (Nat.le_refl _) _ | exact ((Below.refl _ w).alloc (Nat.le_refl _) _).alloc (by simp) _⟩
end Go.Proofs.YtlkfakdghjaoaaaGreatDoor
namespace Go.Proofs.YtlkfakdghjaoaaaGreatDoor
open Go.RowKit Go.Sort
attribute [local go_sem] Oper.semAt_some
end Go.Proofs.YtlkfakdghjaoaaaGreatDoor

namespace Go.Proofs.YtlkfakdghjaoaaaGreatDoor
open Go.RowKit Go.Sort
end Go.Proofs.YtlkfakdghjaoaaaGreatDoor
namespace Go.Proofs.YtlkfakdghjaoaaaGreatDoor
open Go.RowKit Go.Sort
attribute [local go_sem] Oper.semAt_some
end Go.Proofs.YtlkfakdghjaoaaaGreatDoor
