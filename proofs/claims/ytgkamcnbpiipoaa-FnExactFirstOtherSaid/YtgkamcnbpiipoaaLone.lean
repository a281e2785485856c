/-
  A call that starts nobody: where a row asks that others have ended or are leaving, there are none.
-/
import Derived.Conc.Holds
import Derived.Test.YtgkamcnbpiipoaaRows
namespace Go.Proofs.Ytgkamcnbpiipoaa

theorem leaving_of_handed {a : Assume} {C : Checked} {os : Os} {f : FuncId} {r : Reach} {Pre : World → Array Value → Prop} {Post : World → Array Value → Value → World → Prop}
    (h : ReturnsInHanded a C os f r Pre Post) : ReturnsInLeavingWide a C os f r Pre Post := fun enter =>
  ReturnsInOpen.mono (fun last _ _ ⟨q, ho, eh⟩ => ⟨ho, ⟨fun g hg => ⟨0, by
    have h1 := q.1
    unfold Machine.othersDone at h1
    have h2 := List.all_eq_true.1 h1 g hg
    show g.status = .finished
    revert h2
    cases g.status <;> first | (intro _; rfl) | (intro h2; exact absurd h2 (by first | decide | (intro h; cases h)))⟩, q.2⟩, eh⟩) (fun _ x => x) (h enter)
end Go.Proofs.Ytgkamcnbpiipoaa
