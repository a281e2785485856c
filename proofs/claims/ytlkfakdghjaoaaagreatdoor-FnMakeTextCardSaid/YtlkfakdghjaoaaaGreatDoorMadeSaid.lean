import Derived.Test.YtlkfakdghjaoaaaGreatDoorJ18
import Derived.Test.YtlkfakdghjaoaaaGreatDoorJ9
import Derived.Test.YtlkfakdghjaoaaaGreatDoorOnceT
import Derived.Test.YtlkfakdghjaoaaaGreatDoorJ16
import Derived.Test.YtlkfakdghjaoaaaGreatDoorOrderCount
namespace Go.Proofs.YtlkfakdghjaoaaaGreatDoor
open Go.RowKit Go.Sort
theorem Cm {S : List UInt8} {c : UInt8} (h : c ∈ S) : mS (tb S) (⟨#[c]⟩ : ByteArray) = true := by
 obtain ⟨i,hi,e⟩:=List.getElem_of_mem h
 refine tO (i:=i) (by rw [ay]; exact hi) ?_
 apply aV
 simp [tb]
 rw [List.drop_eq_getElem_cons hi,e]
 rfl
theorem DK {g : List Bl} (hb : aU g = true) : FO g (aT g) none := fun l hl _ y hy => by
 have:=fi hl (kW hb)
 subst this
 obtain ⟨o,h1,h2,h3,_⟩:=Aj hb y (tY y hy).1
 exact ⟨o,h1,h2,h3⟩
theorem wu {g : List Bl} (hb : aU g = true) : (tb (dp (aT g))).size = (aj g).length ∧ (dp (aT g)).length ≤ 26 ∧ ∀ n, Rch g [] n → mS (tb (dp (aT g))) (aC g n) = true := by
 have hv:=(cH.1 (dt hb)).1
 have e:=iq (kW hb)
 have hl : (dp (aT g)).length = (aj g).length:=by
  rw [e,(lO hb).length_eq,List.length_map,Cy hv]
 refine ⟨by rw [ay,hl],?_,fun n hn => ?_⟩
 ·rw [hl]; exact bS hv
 ·have hlt:=hn.lt hv
  rw [am hlt,bf hv hlt]
  refine Cm ?_
  rw [e,(lO hb).mem_iff]
  exact List.mem_map_of_mem ((aD hv).2 hn)
theorem Ak {g : List Bl} (hb : aU g = true) : j3 (aT g) = true := by
 have e:=iq (kW hb)
 have ht : dw (aT g) = true:=by
  unfold aU at hb
  exact (Bool.and_eq_true_iff.1 hb).2
 rw [uQ (by rw [e]; exact Ad hb),ht]
theorem yF {g : List Bl} (hb : aU g = true) : pu (aT g) = false := by
 obtain ⟨h1,h2⟩:=uq hb
 have h:=kW hb
 unfold pu
 rw [md h rfl (by decide),md h rfl (by decide),h1,h2]
 rfl
end Go.Proofs.YtlkfakdghjaoaaaGreatDoor
