/-
  Where a block stands among some, by their nodes: slices.Index, slices.Contains at pointers.
-/
import Derived.Test.YtgebedbankibmaaGreatDoorPrevOf
import Derived.Test.YtgebedbankibmaaGreatDoorKinds
import Derived.Test.YtgebedbankibmaaGreatDoorTrace
namespace Go.Proofs.YtgebedbankibmaaGreatDoor
open Go.RowKit Go.Sort Go.Shelf

theorem nb_ne {NB i h : Nat} (hne : i ≠ h) : (⟨nb NB i, 0, none⟩ : Addr) ≠ ⟨nb NB h, 0, none⟩ := by
  intro e
  injection e with e1 _
  unfold nb at e1
  omega

/-- Where a block stands among some, by their nodes. -/
def idxN (L : List Nat) (i : Nat) : Int := if i ∈ L then (placeIn L i : Int) else -1
theorem idxN_at {L : List Nat} {k : Nat} (hk : k < L.length) (hb : ∀ j (h : j < L.length), j < k → L[j] ≠ L[k]) : idxN L L[k] = k := by
  have hm : L[k] ∈ L := List.getElem_mem hk
  unfold idxN
  rw [if_pos hm]
  have h1 := placeIn_lt hm
  have h2 := placeIn_get hm
  rcases Nat.lt_trichotomy (placeIn L L[k]) k with q | q | q
  · exact absurd h2 (hb _ h1 q)
  · rw [q]
  · have := List.not_of_lt_findIdx (xs := L) (p := fun y => decide (y = L[k])) q
    simp at this
theorem idxN_no {L : List Nat} {i : Nat} (h : i ∉ L) : idxN L i = -1 := by unfold idxN; rw [if_neg h]
theorem idxN_has {L : List Nat} {i : Nat} : decide (0 ≤ idxN L i) = decide (i ∈ L) := by
  unfold idxN
  by_cases h : i ∈ L
  · rw [if_pos h, decide_eq_true h]; simp
  · rw [if_neg h, decide_eq_false h]; rfl

set_option maxRecDepth 100000 in
theorem indexN_any (A : Option Addr) (cap : Nat) (L : List Nat) (NB : Nat) (g : List Bl) (i0 : Nat) (w : World) (hp : PtsI w A NB L) (hn : L.length ≤ 1048576) (hN : NodesIn w NB g) (ha : ∀ i ∈ L, i < g.length) (hi0 : i0 < g.length) :
    Calls Tryz.prog 126 #[.slice A L.length cap, nptr NB i0] w fun e w' => e = .returned (.int .i64 (idxN L i0)) ∧ w = w' := by
  obtain ⟨jt, hjt, hjs⟩ := Option.map_eq_some_iff.1 info_node
  have HI := Lib.hid hi0
  have HN := Lib.hid hN
  have HA := Lib.hid ha
  have HP := Lib.hid hp
  clear hN ha hp
  go_enter Tryz.func126, Tryz.ntmps126
  go_wp2_with fail
  go_loop [8] (fun i => ∃ k : Nat, k ≤ L.length ∧ i = .int .i64 k ∧ Hid (∀ j (h : j < L.length), j < k → L[j] ≠ i0)) (fun i => L.length - (intOf i).toNat)
  case atStart => exact ⟨0, Nat.zero_le _, rfl, fun j _ h => absurd h (by omega)⟩
  case round =>
    obtain ⟨k, hk, rfl, HK⟩ := hrel
    by_cases hlt : k < L.length
    · obtain ⟨b, off, rfl, hb, hc⟩ := HP.out (by omega)
      have x0 := hc k hlt
      obtain ⟨p, hpe⟩ : ∃ p, p = L[k] := ⟨_, rfl⟩
      rw [← hpe] at x0
      have hpl := HA.out p (hpe ▸ List.getElem_mem hlt)
      have HPE := Lib.hid hpe
      clear hpe hc
      by_cases hq : p = i0
      · subst hq
        have HPX := Lib.hid (show idxN L p = k by
          rw [HPE.out]
          exact idxN_at hlt fun j h hj => by rw [← HPE.out]; exact HK.out j h hj)
        have heq := fun w => run_eql_ptr_same (P := Tryz.prog) w ⟨nb NB p, 0, none⟩ Tryz.underlying54 hjt
        go_wp2_with fail
        go_ret
        exact ⟨ret_int HPX.out.symm, rfl⟩
      · have HQ := Lib.hid hq
        have heq := run_eql_ptr_other (P := Tryz.prog) w (a := ⟨nb NB i0, 0, none⟩) (b := ⟨nb NB p, 0, none⟩) Tryz.underlying54 hjt (by rw [hjs]; decide) (nb_ne fun e => hq e.symm) (HN.out i0 HI.out) (HN.out p hpl)
        clear hq
        go_wp2_with fail
        go_round
        case rel =>
          refine ⟨k + 1, by omega, by go_num, fun j h hj => ?_⟩
          rcases Nat.lt_succ_iff_lt_or_eq.1 hj with hj | rfl
          · exact HK.out j h hj
          · rw [← HPE.out]; exact HQ.out
        case measure => simp [intOf]; omega
    · have HPX := Lib.hid (show idxN L i0 = -1 from idxN_no fun hm => by
        obtain ⟨j, hj, e⟩ := List.getElem_of_mem hm
        exact HK.out j hj (by omega) e)
      go_wp2_with fail
      go_ret
      exact ⟨ret_int HPX.out.symm, rfl⟩

theorem containsN_any (A : Option Addr) (cap : Nat) (L : List Nat) (NB : Nat) (g : List Bl) (i0 : Nat) (w : World) (hp : PtsI w A NB L) (hn : L.length ≤ 1048576) (hN : NodesIn w NB g) (ha : ∀ i ∈ L, i < g.length) (hi0 : i0 < g.length) :
    Calls Tryz.prog 85 #[.slice A L.length cap, nptr NB i0] w fun e w' => e = .returned (.bool (decide (i0 ∈ L))) ∧ w = w' := by
  rw [← idxN_has]
  have HC := Lib.hid (indexN_any A cap L NB g i0 w hp hn hN ha hi0)
  clear hp hN ha
  go_enter Tryz.func85, Tryz.ntmps85
  go_wp2_with fail
  refine HC.out.mono ?_
  rintro e w1 ⟨rfl, rfl⟩
  go_wp2_with fail
  go_ret
  exact ⟨rfl, rfl⟩
end Go.Proofs.YtgebedbankibmaaGreatDoor
