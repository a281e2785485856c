import Derived.Test.YtlkfakdghjaoaaaGreatDoorMadeCount
namespace Go.Proofs.YtlkfakdghjaoaaaGreatDoor
open Go.RowKit Go.Sort
theorem bareC_zero {g : List Bl} {kd : UInt8} (h : kd ≠ 88 ∧ kd ≠ 46 ∧ kd ≠ 63 ∧ kd ≠ 94) (n : Nat) : bareC g kd n = 0 := by
 have e1 : oneC kd 88 = 0 := if_neg fun e => h.1 e.symm
 have e2 : oneC kd 46 = 0 := if_neg fun e => h.2.1 e.symm
 have e3 : oneC kd 63 = 0 := if_neg fun e => h.2.2.1 e.symm
 have e4 : oneC kd 94 = 0 := if_neg fun e => h.2.2.2 e.symm
 unfold bareC
 rw [e1, e2, e3, e4]
 split <;> rfl
theorem sum_one {p : Nat → Prop} [DecidablePred p] : ∀ l : List Nat, (l.map fun n => if p n then 1 else 0).sum = (l.filter fun n => decide (p n)).length
 | [] => rfl
 | a :: l => by
  rw [List.map_cons, List.sum_cons, sum_one l, List.filter_cons]
  by_cases h : p a
  ·rw [if_pos h, if_pos (by simpa using h), List.length_cons]; omega
  ·rw [if_neg h, if_neg (by simpa using h)]; omega
theorem len_ext {a b : List Nat} (ha : a.Nodup) (hb : b.Nodup) (h : ∀ x, x ∈ a ↔ x ∈ b) : a.length = b.length := ((List.perm_ext_iff_of_nodup ha hb).2 h).length_eq
theorem goal_nodup (g : List Bl) (m : Nat) (K : Nat → Bool) : (goalL g m K).Nodup := List.Pairwise.filter _ (List.Pairwise.filter _ List.nodup_range)
theorem goal_live {g : List Bl} (hv : validB g = true) {m : Nat} {K : Nat → Bool} {t : Nat} (h : t ∈ goalL g m K) : Rch g [] t := (mem_reachS' hv).1 (List.mem_filter.1 h).1
theorem sum_owner {f : Nat → Option Nat} {l : List Nat} (hl : l.Nodup) : ∀ W : List Nat, (∀ w ∈ W, ∃ k ∈ l, f w = some k) → (l.map fun k => (W.filter fun w => decide (f w = some k)).length).sum = W.length
 | [], _ => by
  have : ∀ l : List Nat, (l.map fun k => (([] : List Nat).filter fun w => decide (f w = some k)).length).sum = 0 := fun l => by
   induction l with
   | nil => rfl
   | cons a l ih => rw [List.map_cons, List.sum_cons, ih]; rfl
  exact this l
 | w :: W, h => by
  obtain ⟨k, hk, hf⟩ := h w (List.mem_cons_self ..)
  have ih := sum_owner hl W fun x hx => h x (List.mem_cons_of_mem _ hx)
  have key : ∀ l : List Nat, (l.map fun k => ((w :: W).filter fun w => decide (f w = some k)).length).sum = (l.filter fun j => decide (f w = some j)).length + (l.map fun k => (W.filter fun w => decide (f w = some k)).length).sum := fun l => by
   induction l with
   | nil => rfl
   | cons a l ihl =>
    rw [List.map_cons, List.sum_cons, ihl, List.map_cons, List.sum_cons, List.filter_cons, List.filter_cons]
    by_cases e : f w = some a
    ·rw [if_pos (by simpa using e), if_pos (by simpa using e), List.length_cons, List.length_cons]; omega
    ·rw [if_neg (by simpa using e), if_neg (by simpa using e)]; omega
  rw [key, ih, List.length_cons]
  have h1 : (l.filter fun j => decide (f w = some j)).length = [k].length := by
   refine len_ext (hl.filter _) (by simp) fun x => ?_
   rw [List.mem_filter, decide_eq_true_iff, hf, List.mem_singleton]
   constructor
   ·rintro ⟨_, e⟩; injection e with e; exact e.symm
   ·rintro rfl; exact ⟨hk, rfl⟩
  rw [h1, List.length_singleton]; omega
theorem sum_below {g : List Bl} (hv : validB g = true) : ((wayOrd g).map fun n => (belowL g n).length).sum = (meetsL g).length := by
 have hW : ((wayOrd g).filter fun c => decide (c ∈ meetsL g)).length = (meetsL g).length := by
  refine len_ext ((wayOrd_nodup hv).filter _) (goal_nodup g _ _) fun x => ?_
  rw [List.mem_filter, decide_eq_true_iff, mem_wayOrd hv]
  exact ⟨fun h => h.2, fun h => ⟨meets_live hv h, h⟩⟩
 rw [← hW, ← sum_owner (f := parL g) (wayOrd_nodup hv) ((wayOrd g).filter fun c => decide (c ∈ meetsL g)) ?_]
 ·refine congrArg List.sum (List.map_congr_left fun n _ => ?_)
  unfold belowL
  rw [List.length_reverse, List.filter_filter]
  refine congrArg List.length (List.filter_congr fun c _ => ?_)
  rw [Bool.and_comm]
 ·intro w hw
  rw [List.mem_filter, decide_eq_true_iff] at hw
  have hr := meets_live hv hw.2
  have h0 : w ≠ 0 := fun e => by
   have := (List.mem_filter.1 hw.2).2
   rw [decide_eq_true_iff] at this
   subst e
   have h2 : (srcL g fwdK 0).length = 0 := by rw [← fwd_count hv 0, place_entry hv]; rfl
   omega
  obtain ⟨p, hp⟩ := par_some hv hr h0
  exact ⟨p, (mem_wayOrd hv).2 hp.2.1, (parL_iff hv hr).2 hp⟩
theorem made_big {g : List Bl} (hb : madeB g = true) : cnL 40 (madeI g) = (meetsL g).length := by
 have hv := (tameB_iff.1 (madeB_tame hb)).1
 rw [made_count hb, ← sum_below hv]
 refine congrArg List.sum (List.map_congr_left fun n _ => ?_)
 unfold ownC
 rw [bareC_zero (by decide)]
 have e1 : oneC 40 123 = 0 := rfl
 have e2 : oneC 40 40 = 1 := rfl
 rw [e1, e2]
 split <;> omega
theorem made_small {g : List Bl} (hb : madeB g = true) : cnL 123 (madeI g) = (headL g).length := by
 have hv := (tameB_iff.1 (madeB_tame hb)).1
 have e : (headL g).length = ((wayOrd g).filter fun n => decide (n ∈ headL g)).length := by
  refine len_ext (goal_nodup g _ _) ((wayOrd_nodup hv).filter _) fun x => ?_
  rw [List.mem_filter, decide_eq_true_iff, mem_wayOrd hv]
  exact ⟨fun h => ⟨goal_live hv h, h⟩, fun h => h.2⟩
 rw [made_count hb, e, ← sum_one]
 refine congrArg List.sum (List.map_congr_left fun n _ => ?_)
 unfold ownC
 rw [bareC_zero (by decide)]
 have e1 : oneC 123 123 = 1 := rfl
 have e2 : oneC 123 40 = 0 := rfl
 rw [e1, e2]
 omega
end Go.Proofs.YtlkfakdghjaoaaaGreatDoor
