/-
  What is found in the tree for a block: its children; the names of what is found.
-/
import Derived.Test.YtklnhbfpmmdhjaaFound
namespace Go.Proofs.Ytklnhbfpmmdhjaa
open Go.RowKit Go.Sort Go.Shelf

theorem reachS_small {g : List Bl} (hv : validB g = true) : (reachS g).length ≤ 26 := by
  have h1 := srt_len g (reach g) g.length
  rw [← reachS_srt] at h1
  have := (valid_iff.1 hv).2.1
  omega

theorem domL_lt2 {g : List Bl} (hv : validB g = true) {n : Nat} (hr : Rch g [] n) : ∀ x ∈ domL g n, x < g.length := fun _ hx => (((mem_domL hv hr).1 hx).live hr).lt hv

theorem run_eql_nil_ptr {P : Program} (w : World) {tp te : TypeId} {b : Addr} (hp : P.underlying tp = some (.pointer te)) :
    (binOp .eql tp (.pointer none) (.pointer (some b))).run P w = .ok (.bool false) w := by
  have h : ∀ d : Nat, (Op.equalIn (d + 1) tp (.pointer none) (.pointer (some b))).run P w = .ok false w := fun d => by
    simp [Op.equalIn, run_underlying hp]
  simp only [binOp]
  simp [Op.equal, Op.maxDepth, h 9999]

theorem nptr_ne {NB x y : Nat} (h : x ≠ y) : (⟨nb NB x, 0, none⟩ : Addr) ≠ ⟨nb NB y, 0, none⟩ := fun e => h (by have h7 := (Addr.mk.inj e).1; simp only [nb] at h7; omega)


/-- The names of what is found in the tree. -/
def FindsAt (F : FuncId) (L : List Bl → Nat → List Nat) : Prop := ∀ (tb NB : Nat) (g : List Bl) (B off cap : Nat) (S : Nat → Nat) (n : Nat) (w : World), validB g = true → TreeAt w tb NB g B off cap S → Rch g [] n →
  Calls Try.prog F #[.pointer (some ⟨tb, 0, none⟩), nptr NB n] w (FoundPost w NB (L g n))

def foundV (L : List Bl → Nat → List Nat) (g : List Bl) (s : ByteArray) : ByteArray := match liveOf g s with | some n => namesAt g (L g n) | none => ⟨#[]⟩

set_option maxRecDepth 100000 in
set_option maxHeartbeats 1000000 in
theorem namesFound_any (F : FuncId) (L : List Bl → Nat → List Nat) (hF : FindsAt F L) (hL : ∀ g n, validB g = true → Rch g [] n → (∀ x ∈ L g n, x < g.length) ∧ (L g n).length ≤ 26) (hent : ∀ args w, (callFunc F args).run Try.prog w = .ok (.enter F args) w)
    (A : Option Addr) (cap : Nat) (g : List Bl) (s : ByteArray) (w : World) (hg : Gr w A g) (hn : g.length + tot g ≤ 1048576) :
    Calls Try.prog 64 #[.slice A g.length cap, .string s, .func (.func F) #[] #[]] w fun e w' => e = .returned (.tuple #[.string (foundV L g s), .bool (liveB g s)]) ∧ Below w.heap.size w w' := by
  cases hv : validB g with
  | false =>
    have HC := Lib.hid (treeOf_no A cap g w hg hn hv)
    have H1 := Lib.hid (show (⟨#[]⟩ : ByteArray) = foundV L g s by unfold foundV; rw [liveOf_no hv])
    have H2 := Lib.hid (liveB_none (liveOf_no (s := s) hv))
    clear hv hF hL
    go_enter Try.func64, Try.ntmps64
    go_wp2_with fail
    refine HC.out.mono ?_
    rintro e w1 ⟨tb, rfl, hT, b1⟩
    have HT := Lib.hid hT
    clear hT
    go_wp2_with fail
    refine (treeNamed_no tb _ _ s w1 HT.out).mono ?_
    rintro e w2 ⟨rfl, rfl⟩
    go_wp2_with fail
    go_ret2
    exact ⟨ret_sb H1.out H2.out.symm, b1⟩
  | true =>
    have HC := Lib.hid (treeOf_yes A cap g w hg hn hv)
    have HV := Lib.hid hv
    have HNA := Lib.hid (fun tb NB B off c1 S s w1 => treeNamed_any tb NB g B off c1 S s w1 hv)
    have HFF := Lib.hid hF
    have HLL := Lib.hid hL
    cases ha : liveOf g s with
    | none =>
      have H1 := Lib.hid (show (⟨#[]⟩ : ByteArray) = foundV L g s by unfold foundV; rw [ha])
      have H2 := Lib.hid (liveB_none ha)
      have HA := Lib.hid ha
      clear hv ha hF hL
      go_enter Try.func64, Try.ntmps64
      go_wp2_with fail
      refine HC.out.mono ?_
      rintro e w1 ⟨tb, NB, B, off, c1, S, _, rfl, hT, b1⟩
      have n1 := HNA.out tb NB B off c1 S s w1 hT
      rw [HA.out] at n1
      have N1 : Hid (Calls Try.prog 73 #[.pointer (some ⟨tb, 0, none⟩), .string s] w1 fun e w' => e = .returned (.pointer none) ∧ w1 = w') := n1
      clear n1 hT
      go_wp2_with fail
      refine N1.out.mono ?_
      rintro e w2 ⟨rfl, rfl⟩
      go_wp2_with fail
      go_ret2
      exact ⟨ret_sb H1.out H2.out.symm, b1⟩
    | some n =>
      have HA := Lib.hid ha
      have HR := Lib.hid (live_name ha).2.2.2
      have H1 := Lib.hid (show namesAt g (L g n) = foundV L g s by unfold foundV; rw [ha])
      have H2 := Lib.hid (liveB_some ha)
      clear hv ha hF hL
      go_enter Try.func64, Try.ntmps64
      go_wp2_with fail
      refine HC.out.mono ?_
      rintro e w1 ⟨tb, NB, B, off, c1, S, _, rfl, hT, b1⟩
      have n1 := HNA.out tb NB B off c1 S s w1 hT
      rw [HA.out] at n1
      have N1 : Hid (Calls Try.prog 73 #[.pointer (some ⟨tb, 0, none⟩), .string s] w1 fun e w' => e = .returned (nptr NB n) ∧ w1 = w') := n1
      have HFN := Lib.hid (HFF.out tb NB g B off c1 S n w1 HV.out hT HR.out)
      have HN1 := Lib.hid hT.nodes
      clear n1 hT
      go_wp2_with fail
      refine N1.out.mono ?_
      rintro e w2 ⟨rfl, rfl⟩
      go_wp2_with fail
      refine HFN.out.mono ?_
      rintro e w3 ⟨A3, c3, rfl, hp3, b3⟩
      obtain ⟨hl1, hl2⟩ := HLL.out g n HV.out HR.out
      have hj := join_any A3 c3 (nodesAt NB g (L g n)) w3 (pts_of_idx hp3 (HN1.out.below b3) hl1) (by rw [nodesAt_length]; omega) (by rw [joined_nodesAt, namesAt_size HV.out _ hl1]; omega)
      rw [nodesAt_length, joined_nodesAt] at hj
      have HJ := Lib.hid hj
      clear hp3 hl1 hj
      go_wp2_with fail
      refine HJ.out.mono ?_
      rintro e w4 ⟨rfl, b4⟩
      go_wp2_with fail
      go_ret2
      exact ⟨ret_sb H1.out H2.out.symm, below_trans_self (below_trans_self b1 b3) b4⟩
end Go.Proofs.Ytklnhbfpmmdhjaa
