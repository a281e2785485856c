import Derived.Test.YtlkfakdghjaoaaaGreatDoorJ12
import Derived.Test.YtlkfakdghjaoaaaGreatDoorJ10
import Derived.Test.YtlkfakdghjaoaaaGreatDoorSpecBack
import Derived.Test.YtlkfakdghjaoaaaGreatDoorJ8
namespace Go.Proofs.YtlkfakdghjaoaaaGreatDoor
open Go.RowKit Go.Sort
theorem sjIndex_any (g : List Bl) (l : List Nat) (x : Nat) (w : World) (hv : validB g = true) (hl : ∀ i ∈ l, i < g.length) (hx : x < g.length) (hn : l.length ≤ 1048576) :
  Calls Tryz.prog 32 #[.string (namesAt g l), .string (nthName g x)] w fun e w' => e = .returned (.int .i64 (idxN l x)) ∧ w = w' := by
 have hz := namesAt_size hv l hl
 have HCUT := Lib.hid (fun k (hk : k < l.length) => show (namesAt g l).extract k (k + 1) = nthName g l[k] from names_at hv hl hk)
 have HINJ := Lib.hid (fun k (hk : k < l.length) (e : nthName g l[k] = nthName g x) => show l[k] = x from by
  have hkl := hl _ (List.getElem_mem hk)
  rw [nthName_at hkl, nthName_at hx] at e
  exact name_inj hv hkl hx e)
 obtain ⟨s, hs⟩ : ∃ s, s = namesAt g l := ⟨_, rfl⟩
 obtain ⟨c, hc⟩ : ∃ c, c = nthName g x := ⟨_, rfl⟩
 rw [← hs] at hz HCUT ⊢
 rw [← hc] at HINJ ⊢
 have HC := Lib.hid hc
 clear hs hv hl hx hc
 go_enter Tryz.func32, Tryz.ntmps32
 go_wp2_with fail
 go_loop [8] (fun iv => ∃ k : Nat, k ≤ s.size ∧ iv = .int .i64 k ∧ Hid (∀ j (h : j < l.length), j < k → l[j] ≠ x)) (fun iv => s.size - (intOf iv).toNat)
 case atStart => exact ⟨0, Nat.zero_le _, rfl, fun j _ h => absurd h (by omega)⟩
 case round =>
  obtain ⟨k, hk, rfl, HK⟩ := hrel
  by_cases hlt : k < s.size
  ·have hk' : k < l.length := by omega
   have hk1 : k + 1 ≤ s.size := by omega
   by_cases he : l[k] = x
   ·have t1 : ((s.extract k (k + 1)).toList == c.toList) = true := by rw [HCUT.out k hk', he, HC.out]; simp
    have HR := Lib.hid (show (k : Int) = idxN l x by
     rw [← he]
     exact (idxN_at hk' fun j h hj => by rw [he]; exact HK.out j h hj).symm)
    clear he
    go_wp2_with fail
    go_ret
    exact ⟨ret_int HR.out, rfl⟩
   ·have t1 : ((s.extract k (k + 1)).toList == c.toList) = false := by
     rw [Bool.eq_false_iff]
     intro e
     have := beq_toList.1 e
     rw [HCUT.out k hk'] at this
     exact he (HINJ.out k hk' this)
    have HE := Lib.hid he
    clear he
    go_wp2_with fail
    go_round
    case rel =>
     refine ⟨k + 1, by omega, by go_num, fun j h hj => ?_⟩
     rcases Nat.lt_succ_iff_lt_or_eq.1 hj with hj | rfl
     ·exact HK.out j h hj
     ·exact HE.out
    case measure => simp [intOf]; omega
  ·have HR := Lib.hid (show (-1 : Int) = idxN l x from (idxN_no fun hm => by
    obtain ⟨j, hj, e⟩ := List.getElem_of_mem hm
    exact HK.out j hj (by omega) e).symm)
   go_wp2_with fail
   go_ret
   exact ⟨ret_int HR.out, rfl⟩
theorem idxN_way {g : List Bl} (hv : validB g = true) {x : Nat} (hr : Rch g [] x) : idxN (wayOrd g) x = (placeN g x : Int) := by
 unfold idxN; rw [if_pos ((mem_wayOrd hv).2 hr)]; rfl
end Go.Proofs.YtlkfakdghjaoaaaGreatDoor
