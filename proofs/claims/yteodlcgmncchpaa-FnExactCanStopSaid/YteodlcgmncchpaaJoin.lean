/-
  Contracts: the names of nodes, one behind the other.
-/
import Derived.Test.YteodlcgmncchpaaBuilder
import Derived.Test.YteodlcgmncchpaaSl
namespace Go.Proofs.Yteodlcgmncchpaa
open Go.RowKit Go.Sort

/-- A slice of pointers to nodes: of each the block in which it lies, and its name. -/
def Pts (w : World) (A : Option Addr) (ns : List (Nat × ByteArray)) : Prop :=
  0 < ns.length → ∃ b off, A = some ⟨b, off, none⟩ ∧ b < w.heap.size ∧ ∀ k (h : k < ns.length), w.cell? ⟨b, off + k, none⟩ = some (.pointer (some ⟨ns[k].1, 0, none⟩)) ∧ ns[k].1 < w.heap.size ∧ w.cell? ⟨ns[k].1, 1, none⟩ = some (.string ns[k].2)

theorem Pts.below {w w' : World} {A : Option Addr} {ns : List (Nat × ByteArray)} (h : Pts w A ns) (hb : Below w.heap.size w w') : Pts w' A ns := by
  intro hn
  obtain ⟨b, off, rfl, hlt, hc⟩ := h hn
  have hs := hb.size
  exact ⟨b, off, rfl, by omega, fun k hk => ⟨(hb.cell (p := ⟨b, off + k, none⟩) hlt).trans (hc k hk).1, by have := (hc k hk).2.1; omega, (hb.cell (p := ⟨ns[k].1, 1, none⟩) (hc k hk).2.1).trans (hc k hk).2.2⟩⟩

def joined : List (Nat × ByteArray) → ByteArray
  | [] => ⟨#[]⟩
  | n :: ns => n.2 ++ joined ns

theorem joined_append (a b : List (Nat × ByteArray)) : joined (a ++ b) = joined a ++ joined b := by
  induction a with
  | nil => exact (ba_empty_append _).symm
  | cons n a ih => simp only [List.cons_append, joined, ih, ba_append_assoc]

theorem joined_take (ns : List (Nat × ByteArray)) (k : Nat) (h : k < ns.length) : joined (ns.take (k + 1)) = joined (ns.take k) ++ ns[k].2 := by
  rw [List.take_succ_eq_append_getElem h, joined_append]; simp only [joined, ba_append_empty]

theorem joined_take_size (ns : List (Nat × ByteArray)) (k : Nat) : (joined (ns.take k)).size ≤ (joined ns).size := by
  have := joined_append (ns.take k) (ns.drop k)
  rw [List.take_append_drop] at this
  rw [this, ByteArray.size_append]; omega

set_option maxHeartbeats 400000 in
theorem join_any (A : Option Addr) (cap : Nat) (ns : List (Nat × ByteArray)) (w : World) (hp : Pts w A ns) (hn : ns.length ≤ 1048576) (hj : (joined ns).size ≤ 1048576) :
    Calls Try.prog 65 #[.slice A ns.length cap] w fun e w' => e = .returned (.string (joined ns)) ∧ Below w.heap.size w w' := by
  have HB0 := Lib.hid (bd_new w)
  go_enter Try.func65, Try.ntmps65
  go_wp2_with fail
  go_loopw [8] (fun i wr => ∃ k : Nat, k ≤ ns.length ∧ i = .int .i64 k ∧ Bd w.heap.size w.heap.size (Lib.strCells (joined (ns.take k))) wr ∧ Below w.heap.size w wr) (fun i _ => ns.length - (intOf i).toNat)
  case atStart => exact ⟨0, Nat.zero_le _, rfl, HB0.out, (Below.refl _ _).alloc (Nat.le_refl _) _⟩
  case round =>
    obtain ⟨k, hk, rfl, hbd, hB⟩ := hrel
    have HBD := Lib.hid hbd
    clear hbd
    by_cases hlt : k < ns.length
    · obtain ⟨b, off, rfl, hb, hc⟩ := (hp.below hB) (by omega)
      obtain ⟨x0, l0, x1⟩ := hc k hlt
      have hs1 := joined_take ns k hlt
      have hs2 := joined_take_size ns (k + 1)
      obtain ⟨q, s, hqs⟩ : ∃ q s, ns[k] = (q, s) := ⟨_, _, rfl⟩
      rw [hqs] at x0 l0 x1 hs1
      have x0' : wr.cell? ⟨b, off + k, none⟩ = some (.pointer (some ⟨q, 0, none⟩)) := x0
      have x1' : wr.cell? ⟨q, 1, none⟩ = some (.string s) := x1
      have hsz : (joined (ns.take k)).size + s.size ≤ 1048576 := by
        rw [hs1, ByteArray.size_append] at hs2
        have : ((q, s) : Nat × ByteArray).2.size = s.size := rfl
        omega
      have HS1 : Hid (joined (ns.take (k + 1)) = joined (ns.take k) ++ s) := hs1
      clear x0 x1 l0 hs1 hs2 hqs hc
      go_wp2_with fail
      refine (write_any w.heap.size w.heap.size _ s _ HBD.out (by rw [Lib.strCells_length]; exact hsz) hB.size).mono ?_
      rintro e w1 ⟨rfl, hbd1, hb1⟩
      have HBD1 := Lib.hid hbd1
      clear hbd1
      go_wp2_with fail
      go_roundw
      case rel => exact ⟨k + 1, by omega, by go_num, by rw [HS1.out, cells_append]; exact HBD1.out, hB.trans hb1⟩
      case measure => simp [intOf]; omega
    · have HE := Lib.hid (show joined (ns.take k) = joined ns by rw [List.take_of_length_le (by omega)])
      go_wp2_with fail
      refine (string_any w.heap.size w.heap.size (joined ns) _ (HE.out ▸ HBD.out) hB.size).mono ?_
      rintro e w1 ⟨rfl, hb1⟩
      go_wp2_with fail
      go_ret
      exact ⟨rfl, hB.trans hb1⟩
end Go.Proofs.Yteodlcgmncchpaa
