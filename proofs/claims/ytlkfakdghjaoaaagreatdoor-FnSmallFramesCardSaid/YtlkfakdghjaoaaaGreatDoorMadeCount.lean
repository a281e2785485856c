import Derived.Test.YtlkfakdghjaoaaaGreatDoorMadeFit
namespace Go.Proofs.YtlkfakdghjaoaaaGreatDoor
open Go.RowKit Go.Sort
def oneC (kd x : UInt8) : Nat := if x = kd then 1 else 0
def stepC (g : List Bl) (n t : Nat) : Nat := if placeN g n < placeN g t ∧ t ∉ meetsL g then 0 else 1
def bareC (g : List Bl) (kd : UInt8) (n : Nat) : Nat :=
 match nxt g n with
 | [] => oneC kd 88 + oneC kd 46
 | [t] => oneC kd 88 + stepC g n t * oneC kd 94
 | t :: u :: _ => oneC kd 63 + (stepC g n t + stepC g n u) * oneC kd 94
def ownC (g : List Bl) (kd : UInt8) (n : Nat) : Nat := (if n ∈ headL g then oneC kd 123 else 0) + (belowL g n).length * oneC kd 40 + bareC g kd n
section
variable {g : List Bl} {kd : UInt8} {T : Nat → Fr → List It} {K : Nat → Nat}
theorem cn_jump (h : ∀ c fr, cnL kd (T c fr) = K c) (n t : Nat) (fr : Fr) : cnL kd (jumpI g T n t fr) = stepC g n t * oneC kd 94 + (if placeN g n < placeN g t ∧ t ∉ meetsL g then K t else 0) := by
 have hs : ∀ x, cnL kd [stepI fr x] = oneC kd 94 := fun x => by
  unfold stepI
  rw [cnL, cnL, cnI]
  rfl
 unfold jumpI stepC
 by_cases h1 : placeN g n < placeN g t
 ·rw [if_pos h1]
  by_cases h2 : t ∈ meetsL g
  ·rw [if_pos h2, if_neg (fun q => q.2 h2), if_neg (fun q => q.2 h2), hs]; omega
  ·rw [if_neg h2, if_pos ⟨h1, h2⟩, if_pos ⟨h1, h2⟩, h]; omega
 ·rw [if_neg h1, if_neg (fun q => h1 q.1), if_neg (fun q => h1 q.1), hs]; omega
theorem cn_blk (c : UInt8) : cnI kd (.blk c) = oneC kd 88 := by rw [cnI]; rfl
theorem cn_ask (c : UInt8) (l r : List It) : cnI kd (.ask c l r) = oneC kd 63 + (cnL kd l + cnL kd r) := by rw [cnI]; rfl
theorem cn_bare (hv : validB g = true) (h : ∀ c fr, cnL kd (T c fr) = K c) (n : Nat) (fr : Fr) : cnL kd (bareI g T n fr) = bareC g kd n + ((bareK g n).map K).sum := by
 have h2 := nxt_few hv n
 have hf : ∀ (t : Nat) (l : List Nat), ((((t :: l).filter fun t => decide (placeN g n < placeN g t) && decide (t ∉ meetsL g)).map K).sum : Nat) = (if placeN g n < placeN g t ∧ t ∉ meetsL g then K t else 0) + ((l.filter fun t => decide (placeN g n < placeN g t) && decide (t ∉ meetsL g)).map K).sum := fun t l => by
  rw [List.filter_cons]
  by_cases hc : placeN g n < placeN g t ∧ t ∉ meetsL g
  ·rw [if_pos (by rw [Bool.and_eq_true, decide_eq_true_iff, decide_eq_true_iff]; exact hc), if_pos hc, List.map_cons, List.sum_cons]
  ·rw [if_neg (by rw [Bool.and_eq_true, decide_eq_true_iff, decide_eq_true_iff]; exact hc), if_neg hc, Nat.zero_add]
 unfold bareI bareC bareK
 rcases hx : nxt g n with _ | ⟨t, _ | ⟨u, _ | ⟨x, ts⟩⟩⟩
 ·show cnL kd [It.blk (letC g n), It.stop] = _
  rw [cnL, cnL, cnL, cnI, cnI]
  rfl
 ·simp only
  rw [cnL, cn_jump h, hf, cn_blk]
  simp only [List.filter_nil, List.map_nil, List.sum_nil]
  omega
 ·simp only
  rw [cnL, cn_ask, cn_jump h, cn_jump h, hf, hf, cnL, Nat.add_mul]
  simp only [List.filter_nil, List.map_nil, List.sum_nil]
  omega
 ·rw [hx] at h2
  simp only [List.length_cons] at h2
  omega
theorem cn_within (hv : validB g = true) (h : ∀ c fr, cnL kd (T c fr) = K c) (n : Nat) : ∀ (bs : List Nat) (fr : Fr), cnL kd (withinI g T n bs fr) = bs.length * oneC kd 40 + bareC g kd n + ((bs ++ bareK g n).map K).sum
 | [], fr => by
  rw [withinI, cn_bare hv h]
  simp
 | y :: bs, fr => by
  rw [withinI, cnL, cnI, cn_within hv h n bs, h, List.cons_append, List.map_cons, List.sum_cons, List.length_cons, Nat.add_mul]
  have : (if kdI (.frame false (withinI g T n bs ((y, false) :: fr))) = kd then 1 else 0) = oneC kd 40 := rfl
  rw [this]
  omega
end
theorem sum_flat {α : Type} (f : Nat → List α) (k : α → Nat) : ∀ l : List Nat, ((l.flatMap f).map k).sum = (l.map fun c => ((f c).map k).sum).sum
 | [] => rfl
 | a :: l => by rw [List.flatMap_cons, List.map_append, List.sum_append, sum_flat f k l, List.map_cons, List.sum_cons]
theorem cn_tree {g : List Bl} (hv : validB g = true) (kd : UInt8) : ∀ (m n : Nat) (fr : Fr), cnL kd (treeI g m n fr) = ((keysW g m n).map (ownC g kd)).sum
 | 0, _, _ => by rw [treeI, cnL]; rfl
 | m + 1, n, fr => by
  have hw : ∀ fr, cnL kd (withinI g (treeI g m) n (belowL g n) fr) = (belowL g n).length * oneC kd 40 + bareC g kd n + ((visK g n).map fun c => ((keysW g m c).map (ownC g kd)).sum).sum := fun fr => by
   rw [cn_within hv (K := fun c => ((keysW g m c).map (ownC g kd)).sum) (cn_tree hv kd m)]
   rfl
  rw [treeI, keysW, List.map_append, List.sum_append, sum_flat]
  have hown : ((([n] : List Nat).map (ownC g kd)).sum : Nat) = ownC g kd n := by simp
  rw [hown]
  have hoe : ownC g kd n = (if n ∈ headL g then oneC kd 123 else 0) + (belowL g n).length * oneC kd 40 + bareC g kd n := rfl
  rw [hoe]
  split
  ·rw [cnL, cnI, hw, cnL]
   have : (if kdI (.frame true (withinI g (treeI g m) n (belowL g n) ((n, true) :: fr))) = kd then 1 else 0) = oneC kd 123 := rfl
   rw [this]
   omega
  ·rw [hw]; omega
theorem keys_perm {g : List Bl} (ht : tameB g = true) : (keysW g (wayOrd g).length 0).Perm (wayOrd g) := by
 obtain ⟨hv, hw⟩ := tameB_iff.1 ht
 have hT := tame_of hv hw
 have h0 : Rch g [] 0 := .start (by simp)
 refine (List.perm_ext_iff_of_nodup (keys_nodup hv hT _ _ h0) (wayOrd_nodup hv)).2 fun x => ⟨fun h => ?_, fun h => ?_⟩
 ·exact (mem_wayOrd hv).2 (keys_dom hv hT _ _ h0 x h).1
 ·exact keys_all hv hT _ 0 h0 (by omega) x ((mem_wayOrd hv).1 h) (.entry g x)
theorem made_count {g : List Bl} (hb : madeB g = true) (kd : UInt8) : cnL kd (madeI g) = ((wayOrd g).map (ownC g kd)).sum := by
 have ht := madeB_tame hb
 unfold madeI
 rw [cn_tree (tameB_iff.1 ht).1]
 exact ((keys_perm ht).map _).sum_nat
end Go.Proofs.YtlkfakdghjaoaaaGreatDoor
