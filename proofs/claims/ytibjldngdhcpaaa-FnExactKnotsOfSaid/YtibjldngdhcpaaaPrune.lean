/-
  Contract of the program's PruneGraph.
-/
import Derived.Test.YtibjldngdhcpaaaReachedOf
namespace Go.Proofs.Ytibjldngdhcpaaa
open Go.RowKit Go.Sort

/-- What PruneGraph leaves of a graph. -/
def pruneG (g : List Bl) : List Bl := (reachS g).map fun i => (nthName g i, nthNext g i)

theorem pruneG_length (g : List Bl) : (pruneG g).length = (reachS g).length := by simp [pruneG]
theorem pruneG_at {g : List Bl} {k x : Nat} (hk : k < (reachS g).length) (hx : (reachS g)[k] = x) (hxl : x < g.length) : (pruneG g)[k]'(by rw [pruneG_length]; exact hk) = g[x] := by
  subst hx
  simp only [pruneG, List.getElem_map]
  rw [nthName_at hxl, nthNext_at hxl]

def PrunePost (g : List Bl) (w : World) (e : Ending) (w' : World) : Prop :=
  ∃ B, w.heap.size ≤ B ∧ e = .returned (.tuple #[.slice (some ⟨B, 0, none⟩) (pruneG g).length (pruneG g).length, .bool true]) ∧ OwnGr w' B (pruneG g) ∧ Below w.heap.size w w'

set_option maxRecDepth 100000 in
set_option maxHeartbeats 1600000 in
theorem implPrune_yes (A : Option Addr) (cap : Nat) (g : List Bl) (w : World) (hg : Gr w A g) (hn : g.length + tot g ≤ 1048576) (hv : validB g = true) :
    Calls Try.prog 54 #[.slice A g.length cap] w (PrunePost g w) := by
  have HC := Lib.hid (reachedNodes_yes A cap g w hg hn hv)
  have hle : (reachS g).length ≤ 26 := by have := srt_len g (reach g) g.length; rw [← reachS_srt] at this; have := (valid_iff.1 hv).2.1; omega
  have HG := Lib.hid hg
  have hmk := run_make_blocks (reachS g).length (by omega)
  obtain ⟨n, hnn⟩ : ∃ n, n = (reachS g).length := ⟨_, rfl⟩
  rw [← hnn] at hle hmk
  have HPL := Lib.hid (show (pruneG g).length = n by rw [pruneG_length, hnn])
  have HN := Lib.hid hnn
  clear hv hg hnn
  go_enter Try.func54, Try.ntmps54
  go_wp2_with fail
  refine HC.out.mono ?_
  rintro e w1 ⟨NB, A1, cap1, hNB, rfl, hp, hnodes, b1⟩
  rw [← HN.out]
  have HP := Lib.hid hp
  have HND := Lib.hid hnodes
  have HB1 := Lib.hid b1
  have hs1 := b1.size
  clear hp hnodes b1 HC
  go_wp2_with fail
  clear hmk
  go_loopw [21] (fun i wr => ∃ k : Nat, k ≤ n ∧ i = .int .i64 k ∧ (∃ cs, Blk wr w1.heap.size 71 cs ∧ Filled cs (pruneG g) k) ∧ Below w1.heap.size w1 wr) (fun i _ => n - (intOf i).toNat)
  case atStart => exact ⟨0, Nat.zero_le _, rfl, ⟨_, Blk.new _ _ _, by rw [HPL.out]; exact size_madeCells _ _, fun j hj h => absurd h (by omega)⟩, (Below.refl _ _).alloc (Nat.le_refl _) _⟩
  case round =>
    obtain ⟨k, hk, rfl, ⟨cs, hblk, hf⟩, hB⟩ := hrel
    by_cases hlt : k < n
    · have hkr : k < (reachS g).length := by rw [← HN.out]; exact hlt
      obtain ⟨x, hx⟩ : ∃ x, x = (reachS g)[k] := ⟨_, rfl⟩
      have hxl : x < g.length := hx ▸ reachS_lt g _ (List.getElem_mem hkr)
      have hpts := HP.out.below hB
      obtain ⟨pb, po, rfl, hpb, hpc⟩ := hpts (by rw [nodesAt_length]; omega)
      obtain ⟨hp0, hpx, hpy⟩ := hpc k (by rw [nodesAt_length]; exact hkr)
      have hp0' : wr.cell? ⟨pb, po + k, none⟩ = some (.pointer (some ⟨nb NB x, 0, none⟩)) := by rw [hp0]; simp [nodesAt, hx]
      have hi0 : wr.cell? ⟨nb NB x, 0, none⟩ = some (.int .i64 x) := by have := ((HND.out.below hB) x hxl).cell 0; simpa using this
      obtain ⟨b, off, s, t, hA, hb, hc0, hc1, he, he2⟩ := gr_at (HG.out.below (below_trans_self HB1.out hB)) hxl
      have hkp : k < (pruneG g).length := by rw [HPL.out]; exact hlt
      have HPX : Hid ((pruneG g)[k]'hkp = g[x]) := pruneG_at hkr hx.symm hxl
      have HE := Lib.hid he
      have HE2 := Lib.hid he2
      have HF := Lib.hid hf
      have hsz := hf.1
      rw [HPL.out] at hsz
      obtain ⟨v0, x0⟩ := hblk.some_cell (i := k * 2) (by omega)
      obtain ⟨v1, x1⟩ := hblk.some_cell (i := k * 2 + 1) (by omega)
      have f0 := hblk.frozen (k * 2)
      have f1 := hblk.frozen (k * 2 + 1)
      have HBK := Lib.hid hblk
      subst hA
      clear hp0 hpx hpy hpc hpts hx hkr he he2 hf hblk hsz
      go_wp2_with fail
      go_roundw
      case rel => exact ⟨k + 1, by omega, by go_num, ⟨_, (HBK.out.set_ _ _).set_ _ _, HF.out.step hkp (by rw [HPX.out]; exact HE.out) (by rw [HPX.out]; exact HE2.out)⟩, (hB.setCell (p := ⟨w1.heap.size, k * 2, none⟩) (Nat.le_refl _) _).setCell (p := ⟨w1.heap.size, k * 2 + 1, none⟩) (Nat.le_refl _) _⟩
      case measure => simp [intOf]; omega
    · have HF := Lib.hid hf
      have HBK := Lib.hid hblk
      have HBF := Lib.hid (below_trans_self HB1.out hB)
      clear hf hblk hB
      go_wp2_with fail
      exact bodyPost_ret (v := .tuple #[.slice (some ⟨w1.heap.size, 0, none⟩) n n, .bool true]) (by simp [results, Try.results54, go_sem]) rfl ⟨w1.heap.size, hs1, by rw [HPL.out], ⟨cs, _, HBK.out, fun j hj => HF.out.2 j hj (by rw [HPL.out] at hj; omega)⟩, HBF.out⟩

theorem implPrune_no (A : Option Addr) (cap : Nat) (g : List Bl) (w : World) (hg : Gr w A g) (hn : g.length + tot g ≤ 1048576) (hv : validB g = false) :
    Calls Try.prog 54 #[.slice A g.length cap] w fun e w' => e = .returned (.tuple #[.slice none 0 0, .bool false]) ∧ Below w.heap.size w w' := by
  have HC := Lib.hid (reachedNodes_no A cap g w hg hn hv)
  clear hv
  go_enter Try.func54, Try.ntmps54
  go_wp2_with fail
  refine HC.out.mono ?_
  rintro e w1 ⟨rfl, b1⟩
  go_wp2_with fail
  exact bodyPost_ret (v := .tuple #[.slice none 0 0, .bool false]) (by simp [results, Try.results54, go_sem]) rfl ⟨rfl, b1⟩
end Go.Proofs.Ytibjldngdhcpaaa
