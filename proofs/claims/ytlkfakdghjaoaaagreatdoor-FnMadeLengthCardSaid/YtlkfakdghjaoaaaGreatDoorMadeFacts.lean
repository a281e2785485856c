import Derived.Test.YtlkfakdghjaoaaaGreatDoorMadeLeaves
import Derived.Test.YtlkfakdghjaoaaaGreatDoorJ14
import Derived.Test.YtlkfakdghjaoaaaGreatDoorJ13
import Derived.Test.YtlkfakdghjaoaaaGreatDoorOrderCount
namespace Go.Proofs.YtlkfakdghjaoaaaGreatDoor
open Go.RowKit Go.Sort
theorem needs {g : List Bl} (hb : madeB g = true) : needL g = [((meetsL g).length : Int), ((headL g).length : Int), ((cnL 94 (madeI g) : Nat) : Int)] := by
 have h := made_ok hb
 unfold needL
 rw [if_pos hb, countZ_yes h rfl (by decide), countZ_yes h rfl (by decide), countZ_yes h rfl (by decide), made_big hb, made_small hb]
theorem ord_perm {g : List Bl} (hv : validB g = true) : (wayOrd g).Perm (reachS g) := by
 have hsn : (reachS g).Nodup := List.Pairwise.filter _ List.nodup_range
 exact (List.perm_ext_iff_of_nodup (wayOrd_nodup hv) hsn).2 fun x => by rw [mem_wayOrd hv, mem_reachS' hv]
def sizeS (g : List Bl) (l : List Nat) : Nat := (l.map (sizeB g)).sum
theorem sizeS_next {g : List Bl} {l : List Nat} {k : Nat} (h : k < l.length) : sizeS g (l.take (k + 1)) = sizeS g (l.take k) + sizeB g l[k] := by
 unfold sizeS
 rw [List.take_succ_eq_append_getElem h, List.map_append, List.sum_append]; simp
theorem sizeS_most (g : List Bl) : ∀ l : List Nat, sizeS g l ≤ 6 * l.length
 | [] => by simp [sizeS]
 | a :: l => by
  have := sizeS_most g l
  have h : sizeB g a ≤ 6 := by unfold sizeB; split <;> omega
  unfold sizeS at this ⊢
  rw [List.map_cons, List.sum_cons, List.length_cons]; omega
theorem made_sum {g : List Bl} (hb : madeB g = true) : (madeT g).length = 2 * ((meetsL g).length + (headL g).length + cnL 94 (madeI g)) + sizeS g (reachS g) := by
 have hv := (tameB_iff.1 (madeB_tame hb)).1
 rw [made_len hb, ((ord_perm hv).map (sizeB g)).sum_nat]; rfl
theorem sizeB_at {g : List Bl} {n : Nat} (hn : n < g.length) : sizeB g n = if g[n].2.size = 0 then 2 else if g[n].2.size = 1 then 1 else 6 := by
 have h := nxt_length hn
 unfold sizeB
 rcases hx : nxt g n with _ | ⟨t, _ | ⟨u, ts⟩⟩
 ·rw [hx] at h
  have h : 0 = g[n].2.size := h
  rw [if_pos h.symm]
 ·rw [hx] at h
  have h : 1 = g[n].2.size := h
  rw [if_neg (by omega), if_pos h.symm]
 ·rw [hx] at h
  have h : ts.length + 2 = g[n].2.size := h
  rw [if_neg (by omega), if_neg (by omega)]
theorem part_yes {g : List Bl} {s : ByteArray} (h : partB g s = true) : ∃ n fr, madeB g = true ∧ Rch g [] n ∧ s = nmS g n ∧ framesV g s = tb (frS g fr) ∧ fromV g s = tb (madeP g n) ∧ madeA g n = frS g fr ∧ InvOut g n fr ∧ OkOut g n fr ∧ FitAt g n fr := by
 unfold partB partOf at h
 by_cases hb : madeB g = true
 ·rw [if_pos hb] at h
  cases hl : liveOf g s with
  | none => rw [hl] at h; cases h
  | some n =>
   obtain ⟨hv, hlt, hs, hr⟩ := live_name hl
   obtain ⟨fr, h1, h2, h3, h4⟩ := madeA_around (madeB_tame hb) hr
   refine ⟨n, fr, hb, hr, by rw [hs, nmS_name hv hlt], ?_, ?_, h1, h2, h3, h4⟩
   ·unfold framesV partOf
    rw [if_pos hb, hl, ← h1]; rfl
   ·unfold fromV partOf
    rw [if_pos hb, hl]; rfl
 ·rw [if_neg hb] at h; cases h
theorem part_no {g : List Bl} {s : ByteArray} (h : partB g s = false) : framesV g s = ⟨#[]⟩ ∧ fromV g s = ⟨#[]⟩ := by
 unfold partB at h
 unfold framesV fromV
 cases hp : partOf g s with
 | none => exact ⟨rfl, rfl⟩
 | some x => rw [hp] at h; cases h
def hdP (g : List Bl) (n h : Nat) : Bool := decide (h ≠ n) && decide (h ∈ headL g)
theorem small_count {g : List Bl} {n : Nat} {fr : Fr} (hv : validB g = true) (hn : Rch g [] n) (h1 : InvOut g n fr) (h2 : OkOut g n fr) (h3 : FitAt g n fr) : fr.countP (fun e => e.2) = (domL g n).countP (hdP g n) := by
 rw [List.countP_eq_length_filter, List.countP_eq_length_filter]
 have e : (fr.filter fun e => e.2).length = ((fr.filter fun e => e.2).map (·.1)).length := by rw [List.length_map]
 rw [e]
 refine len_ext ?_ ((domL_nodup hv n).filter _) fun x => ?_
 ·have hnd : (fr.filter fun e => e.2).Nodup := h2.1.filter _
  rw [List.nodup_iff_pairwise_ne] at hnd ⊢
  rw [List.pairwise_map]
  refine hnd.imp_of_mem fun {a b} ha hb hne e => hne ?_
  have ha2 := (List.mem_filter.1 ha).2
  have hb2 := (List.mem_filter.1 hb).2
  exact Prod.ext e (by rw [ha2, hb2])
 ·rw [List.mem_map, List.mem_filter, mem_domL hv hn]
  unfold hdP
  rw [Bool.and_eq_true, decide_eq_true_iff, decide_eq_true_iff]
  constructor
  ·rintro ⟨⟨a, b⟩, hm, rfl⟩
   obtain ⟨hm, hb⟩ := List.mem_filter.1 hm
   have hb : b = true := hb
   subst hb
   have := (h2.2 _ hm).2.1 rfl
   exact ⟨this.1, this.2, (h3 _ hm).1 rfl⟩
  ·rintro ⟨hd, hne, hh⟩
   exact ⟨(x, true), List.mem_filter.2 ⟨h1.1 x hh hd hne, rfl⟩, rfl⟩
theorem fr_byte {g : List Bl} (hv : validB g = true) {fr : Fr} (hlt : ∀ e ∈ fr, e.1 < g.length) {i : Nat} (hi : i < fr.length) : ∃ c : UInt8, (tb (frS g fr))[i]'(by rw [tb_size]; unfold frS; rw [List.length_map]; exact hi) = c ∧ (fr[i].2 = true → c = letC g fr[i].1 + 32 ∧ 97 ≤ c.toNat ∧ c.toNat ≤ 122) ∧ (fr[i].2 = false → c = letC g fr[i].1 ∧ 65 ≤ c.toNat ∧ c.toNat ≤ 90) := by
 have hr := let_range hv (hlt _ (List.getElem_mem hi))
 refine ⟨frC g fr[i], ?_, fun h => ?_, fun h => ?_⟩
 ·have : (tb (frS g fr)).data.toList[i]? = some (frC g fr[i]) := by
   rw [tb_data]; unfold frS; rw [List.getElem?_map, List.getElem?_eq_getElem hi]; rfl
  have hz : i < (tb (frS g fr)).size := by rw [tb_size]; unfold frS; rw [List.length_map]; exact hi
  rw [byte_at _ _ hz] at this
  exact Option.some.inj this
 ·unfold frC
  rw [if_pos h]
  have : (letC g fr[i].1 + 32).toNat = (letC g fr[i].1).toNat + 32 := by rw [UInt8.toNat_add]; simp; omega
  exact ⟨rfl, by omega, by omega⟩
 ·unfold frC
  rw [if_neg (by rw [h]; simp)]
  exact ⟨rfl, hr⟩
end Go.Proofs.YtlkfakdghjaoaaaGreatDoor
