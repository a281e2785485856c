import Derived.Test.YtlkfakdghjaoaaaGreatDoorOrders
import Derived.Test.YtlkfakdghjaoaaaGreatDoorJ13
import Derived.Test.YtlkfakdghjaoaaaGreatDoorSpecBack
import Derived.Test.YtlkfakdghjaoaaaGreatDoorJ10
namespace Go.Proofs.YtlkfakdghjaoaaaGreatDoor
open Go.RowKit Go.Sort
theorem po (g : List Bl) (l : List Nat) (x : Nat) (w : World) (hv : aa g = true) (hl : ∀ i ∈ l, i < g.length) (hx : x < g.length) (hn : l.length ≤ 1048576) :
  Calls Tryz.prog 32 #[.string (ae g l), .string (ay g x)] w fun e w' => e = .returned (.int .i64 (fT l x)) ∧ w = w' := by
 have hz := ax hv l hl
 have HCUT := GR (fun k (hk : k < l.length) => show (ae g l).extract k (k + 1) = ay g l[k] from mh hv hl hk)
 have HINJ := GR (fun k (hk : k < l.length) (e : ay g l[k] = ay g x) => show l[k] = x from by
  have hkl := hl _ (List.getElem_mem hk)
  rw [al hkl, al hx] at e
  exact ge hv hkl hx e)
 obtain ⟨s, hs⟩ : ∃ s, s = ae g l := ⟨_, rfl⟩
 obtain ⟨c, hc⟩ : ∃ c, c = ay g x := ⟨_, rfl⟩
 rw [← hs] at hz HCUT ⊢
 rw [← hc] at HINJ ⊢
 have HC := GR hc
 clear hs hv hl hx hc
 go_enter Tryz.func32, Tryz.ntmps32
 go_wp2_with fail
 go_loop [8] (fun iv => ∃ k : Nat, k ≤ s.size ∧ iv = .int .i64 k ∧ Hid (∀ j (h : j < l.length), j < k → l[j] ≠ x)) (fun iv => s.size - (intOf iv).toNat)
 case atStart => exact ⟨0, Nat.zero_le _, rfl, fun j _ h => absurd h (by omega)⟩
 case round =>
  obtain ⟨k, hk, rfl, HK⟩ := hrel
  by_cases hlt : k < s.size
  ·have hk' : k < l.length := by omega
   have hk1 : k + 1 ≤ s.size := by omega
   by_cases he : l[k] = x
   ·have t1 : ((s.extract k (k + 1)).toList == c.toList) = true := by rw [HCUT.out k hk', he, HC.out]; simp
    have HR := GR (show (k : Int) = fT l x by
     rw [← he]
     exact (yf hk' fun j h hj => by rw [he]; exact HK.out j h hj).symm)
    clear he
    go_wp2_with fail
    go_ret
    exact ⟨bz HR.out, rfl⟩
   ·have t1 : ((s.extract k (k + 1)).toList == c.toList) = false := by
     rw [Bool.eq_false_iff]
     intro e
     have := dS.1 e
     rw [HCUT.out k hk'] at this
     exact he (HINJ.out k hk' this)
    have HE := GR he
    clear he
    go_wp2_with fail
    go_round
    case rel =>
     refine ⟨k + 1, by omega, by go_num, fun j h hj => ?_⟩
     rcases Nat.lt_succ_iff_lt_or_eq.1 hj with hj | rfl
     ·exact HK.out j h hj
     ·exact HE.out
    case measure => simp [intOf]; omega
  ·have HR := GR (show (-1 : Int) = fT l x from (yg fun hm => by
    obtain ⟨j, hj, e⟩ := List.getElem_of_mem hm
    exact HK.out j hj (by omega) e).symm)
   go_wp2_with fail
   go_ret
   exact ⟨bz HR.out, rfl⟩
theorem wt {g : List Bl} (hv : aa g = true) {x : Nat} (hr : Rch g [] x) : fT (ac g) x = (ah g x : Int) := by
 unfold fT; rw [if_pos ((aA hv).2 hr)]; rfl
end Go.Proofs.YtlkfakdghjaoaaaGreatDoor
