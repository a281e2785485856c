import Derived.Test.YtlkfakdghjaoaaaGreatDoorJ16
import Derived.Test.YtlkfakdghjaoaaaGreatDoorJ9
import Derived.Test.YtlkfakdghjaoaaaGreatDoorOnceT
import Derived.Test.YtlkfakdghjaoaaaGreatDoorJ15
import Derived.Test.YtlkfakdghjaoaaaGreatDoorOrderCount
namespace Go.Proofs.YtlkfakdghjaoaaaGreatDoor
open Go.RowKit Go.Sort
theorem jP (s : ByteArray) : tb s.data.toList = s := by apply bg; rw [aI]
theorem vp {g : List Bl} (hb : aY g = true) (ch : ByteArray) : ∃ q, RanT (aD g) ch.data.toList q ∧ n7 q = .tuple #[.string (lp g ch), .int .i64 (lq g ch), .bool (fl g ch)] ∧ wl q = false := by
 have hv := (cm.1 (c6 hb)).1
 by_cases hc : bT ch = true
 ·obtain ⟨o, h1, h2, h3, h4⟩ := Bo hb ch.data.toList (by rw [jP]; exact hc)
  rw [jP] at h2 h3
  refine ⟨some o, ⟨_, rX hb, by rw [jP]; exact hc, h1⟩, ?_, h4⟩
  show Value.tuple #[.string (tb o.trace), .int .i64 ((o.code : Nat) : Int), .bool true] = _
  rw [h2, h3, p3 hv hc]
 ·have hc : bT ch = false := by simpa using hc
  refine ⟨none, .inr (by rw [jP]; exact hc), ?_, rfl⟩
  have hB : fl g ch = false := DV hc
  rw [hB, yO hB, yP hB]
  rfl
end Go.Proofs.YtlkfakdghjaoaaaGreatDoor
