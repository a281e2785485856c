/-
  The program's parts of some blocks.
-/
import Derived.Test.YtdpjdhllaokbfaaGreatFindVisit
namespace Go.Proofs.YtdpjdhllaokbfaaGreat
open Go.RowKit Go.Sort Go.Shelf

theorem tall_parts (g : List Bl) (S ns : List Nat) : (tall g S ns).parts.length ≤ (tall g S ns).cnt := by
  have key : ∀ r : List Nat, (tall g S r.reverse).parts.length ≤ (tall g S r.reverse).cnt := by
    intro r
    induction r with
    | nil => exact Nat.le_refl _
    | cons n r ih =>
      rw [List.reverse_cons, tall_snoc]
      by_cases h0 : (tall g S r.reverse).num n = 0
      · rw [if_pos h0]
        have := tvisit_parts g S S.length n (tall g S r.reverse)
        omega
      · rw [if_neg h0]; exact ih
  have := key ns.reverse
  rwa [List.reverse_reverse] at this

/-- Lists of blocks, as a slice of slices of pointers to nodes. -/
def PartsR (w : World) (A : Option Addr) (B0 NB : Nat) (parts : List (List Nat)) : Prop :=
  0 < parts.length → ∃ b off, A = some ⟨b, off, none⟩ ∧ B0 ≤ b ∧ b < w.heap.size ∧ ∀ i (h : i < parts.length), ∃ B o c, w.cell? ⟨b, off + i, none⟩ = some (.slice (some ⟨B, o, none⟩) parts[i].length c) ∧ B0 ≤ B ∧ B < w.heap.size ∧ PtsI w (some ⟨B, o, none⟩) NB parts[i]
theorem PartsR.below {w w' : World} {A : Option Addr} {B0 NB : Nat} {parts : List (List Nat)} (h : PartsR w A B0 NB parts) (hb : Below w.heap.size w w') : PartsR w' A B0 NB parts := fun hl => by
  obtain ⟨b, off, e, h0, hlt, hc⟩ := h hl
  have := hb.size
  refine ⟨b, off, e, h0, by omega, fun i hi => ?_⟩
  obtain ⟨B, o, c, h1, h2, h3, h4⟩ := hc i hi
  exact ⟨B, o, c, (hb.cell (p := ⟨b, off + i, none⟩) hlt).trans h1, h2, by omega, h4.below hb⟩
theorem partsR_of {w : World} {O O' : Nat → Prop} {u : Value} {B0 NB : Nat} {parts : List (List Nat)} {vs : List Value} (h : Row w 54 1 O u parts.length vs) (hp : PartsIn w O' NB parts vs) (hO : ∀ k, k < w.heap.size → O k → B0 ≤ k) (hO' : ∀ k, k < w.heap.size → O' k → B0 ≤ k) : ∃ A cap, u = .slice A parts.length cap ∧ PartsR w A B0 NB parts := by
  rcases h with ⟨rfl, h1, _⟩ | h
  · exact ⟨none, 0, by rw [h1], fun h => by omega⟩
  · obtain ⟨B, off, cap, rfl, _, ho, hb, hx⟩ := h.cells
    refine ⟨_, cap, rfl, fun _ => ⟨B, off, rfl, hO B hb ho, hb, fun i hi => ?_⟩⟩
    obtain ⟨B', o', c', h1, ho', h2, h3⟩ := hp.2 i hi
    refine ⟨B', o', c', ?_, hO' B' h2 ho', h2, fun _ => ⟨B', o', rfl, h2, h3⟩⟩
    rw [hx i (by rw [hp.1]; exact hi), h1]

def newFinder (q : Nat) : Array Value := #[.int .u32 q, .int .i64 0, .int .i64 0, .int .i64 0, .int .i64 0, .int .i64 0, .int .i64 0, .int .i64 0, .int .i64 0, .int .i64 0, .int .i64 0, .int .i64 0, .int .i64 0, .int .i64 0, .int .i64 0, .int .i64 0, .int .i64 0, .int .i64 0, .int .i64 0, .int .i64 0, .int .i64 0, .int .i64 0, .int .i64 0, .int .i64 0, .int .i64 0, .int .i64 0, .int .i64 0, .int .i64 0, .slice none 0 0, .slice none 0 0]
theorem newFinder_num (q : Nat) : ∀ k, k < 26 → (newFinder q)[2 + k]? = some (.int .i64 ((0 : Nat) : Int)) := fun k hk =>
  match k, hk with
    | 0, _ => rfl
    | 1, _ => rfl
    | 2, _ => rfl
    | 3, _ => rfl
    | 4, _ => rfl
    | 5, _ => rfl
    | 6, _ => rfl
    | 7, _ => rfl
    | 8, _ => rfl
    | 9, _ => rfl
    | 10, _ => rfl
    | 11, _ => rfl
    | 12, _ => rfl
    | 13, _ => rfl
    | 14, _ => rfl
    | 15, _ => rfl
    | 16, _ => rfl
    | 17, _ => rfl
    | 18, _ => rfl
    | 19, _ => rfl
    | 20, _ => rfl
    | 21, _ => rfl
    | 22, _ => rfl
    | 23, _ => rfl
    | 24, _ => rfl
    | 25, _ => rfl
    | n + 26, h => absurd h (by omega)
theorem newFinder_at (w : World) (q NB : Nat) : FindS (w.alloc (.cells (newFinder q) 124)) w.heap.size (fun k => if k = w.heap.size then 1 else 0) w.heap.size NB q TS.zero :=
  ⟨_, _, ⟨⟨newFinder q, Blk.new w _ _, rfl, rfl, rfl, newFinder_num q, rfl, rfl⟩, Row.nil _ _ _ _, ⟨[], Row.nil _ _ _ _, ⟨rfl, fun i hi => absurd hi (by show ¬ i < 0; omega)⟩⟩, if_pos rfl, fun k _ hr => by
    by_cases e : k = w.heap.size
    · omega
    · exact absurd (if_neg e) hr⟩⟩

set_option maxRecDepth 100000 in
set_option maxHeartbeats 4000000 in
theorem partsAmong_any (A : Option Addr) (NB cap : Nat) (g : List Bl) (S : List Nat) (w : World) (hv : validB g = true) (hP : PtsI w A NB S) (hN : NodesIn w NB g) (hS : ∀ x ∈ S, x < g.length) (hSn : S.Nodup) :
    Calls Tryz.prog 76 #[.slice A S.length cap] w fun e w' => ∃ A' c', e = .returned (.slice A' (tparts g S).length c') ∧ PartsR w' A' w.heap.size NB (tparts g S) ∧ Below w.heap.size w w' := by
  have hg26 := (valid_iff.1 hv).2.1
  have h26 : S.length ≤ 26 := Nat.le_trans (nodup_lt_len _ _ hSn hS) hg26
  have hNB : ∀ i, i < g.length → nb NB i < w.heap.size := fun i hi => (hN i hi).lt
  have HSET := Lib.hid (setOf_any A NB cap g S w hP hN hS hg26 (by omega))
  have HP := Lib.hid hP
  have HN := Lib.hid hN
  have HNB := Lib.hid hNB
  have HS := Lib.hid hS
  clear hP hN hNB
  go_enter Tryz.func76, Tryz.ntmps76
  go_wp2_with fail
  refine HSET.out.mono ?_
  rintro e w1 ⟨q, rfl, hq, rfl⟩
  have HQ := Lib.hid hq
  clear hq
  go_wp2_with fail
  go_loopw [12] (fun i wr => ∃ (j : Nat) (r' : Nat → Nat), j ≤ S.length ∧ i = .int .i64 j ∧ Hid (FindS wr w.heap.size r' w.heap.size NB q (tall g S (S.take j))) ∧ Hid (Below w.heap.size w wr)) (fun i _ => S.length - (intOf i).toNat)
  case atStart => exact ⟨0, _, Nat.zero_le _, rfl, newFinder_at w q NB, (Below.refl _ _).alloc (Nat.le_refl _) _⟩
  case round =>
    obtain ⟨j, r', hj, rfl, HF, HB⟩ := hrel
    obtain ⟨hI, hSe⟩ := tall_inv HS.out hSn h26 (S.take j) fun x hx => List.mem_of_mem_take hx
    have hpl := tall_parts g S (S.take j)
    obtain ⟨v6, u6, hF6⟩ := HF.out
    have hNR := HN.out.below HB.out
    by_cases hlt : j < S.length
    · obtain ⟨b, off, hAe, hbl, hc⟩ := HP.out (by omega)
      subst hAe
      obtain ⟨t, ht⟩ : ∃ t, t = S[j] := ⟨_, rfl⟩
      have htS : t ∈ S := ht ▸ List.getElem_mem hlt
      have htl := HS.out t htS
      have ht26 : t < 26 := by omega
      have xt : wr.cell? ⟨b, off + j, none⟩ = some (nptr NB t) := by rw [HB.out.cell (p := ⟨b, off + j, none⟩) hbl, ht]; exact hc j hlt
      have x0 : wr.cell? ⟨nb NB t, 0, none⟩ = some (.int .i64 t) := by have := (hNR t htl).cell 0; simpa using this
      have HSN := Lib.hid (show tall g S (S.take (j + 1)) = if (tall g S (S.take j)).num t = 0 then (tvisit g S S.length t (tall g S (S.take j))).2 else tall g S (S.take j) by
        rw [List.take_succ_eq_append_getElem hlt, tall_snoc, ← ht])
      obtain ⟨τ, hτ⟩ : ∃ τ, τ = tall g S (S.take j) := ⟨_, rfl⟩
      rw [← hτ] at HSN hI hpl hF6
      have cn := hF6.cn ht26
      have hx0 : (0 : Int) ≤ (t : Int) := by omega
      have hx1 : (t : Int) < 26 := by omega
      have HI := Lib.hid hI
      have HNR := Lib.hid hNR
      have HF6 := Lib.hid hF6
      clear ht hc hτ hI hNR hF6 hSe HF
      by_cases hvz : τ.num t = 0
      · have q1 : ((τ.num t : Int) == 0) = true := by rw [hvz]; rfl
        have HV := Lib.hid (visitP_any NB w.heap.size q w.heap.size g S hv HS.out hSn HQ.out HNB.out S.length t [] τ r' wr.drew HI.out htS hvz (fun a ha => by cases ha) (by omega) hpl ⟨_, _, HF6.out.drew⟩ (fun i h => HNR.out i h))
        have HSV := Lib.hid (show tall g S (S.take (j + 1)) = (tvisit g S S.length t τ).2 by rw [HSN.out, if_pos hvz])
        clear hvz
        go_wp2_with fail
        go_region
        go_wp2_with fail
        refine HV.out.mono ?_
        rintro e w7 ⟨rfl, r7, hF7, hK7⟩
        have HF7 := Lib.hid hF7
        have HB7 := Lib.hid (HB.out.drew.trans hK7.below)
        clear hF7 hK7
        go_wp2_with fail
        go_roundw
        case rel => exact ⟨j + 1, r7, by omega, by go_num, HSV.out ▸ HF7.out, HB7.out⟩
        case measure => simp [intOf]; omega
      · have q1 : ((τ.num t : Int) == 0) = false := by simpa using hvz
        have HSV := Lib.hid (show tall g S (S.take (j + 1)) = τ by rw [HSN.out, if_neg hvz])
        clear hvz
        go_wp2_with fail
        go_region
        go_wp2_with fail
        go_roundw
        case rel => exact ⟨j + 1, r', by omega, by go_num, HSV.out ▸ ⟨_, _, HF6.out.drew⟩, HB.out.drew⟩
        case measure => simp [intOf]; omega
    · have hjl : j = S.length := by omega
      subst hjl
      rw [List.take_length] at hF6 hpl
      obtain ⟨vs, h1, h2⟩ := hF6.prow
      obtain ⟨A', c', rfl, hPR⟩ := partsR_of (B0 := w.heap.size) h1 h2 (fun k hk e => hF6.lo k hk (by omega)) (fun k hk e => hF6.lo k hk (by omega))
      have c29 := hF6.cp
      have HPR := Lib.hid hPR
      clear hI hSe hpl hF6 h1 h2 hPR HF hNR
      go_wp2_with fail
      go_ret
      exact ⟨A', c', rfl, HPR.out, HB.out⟩
end Go.Proofs.YtdpjdhllaokbfaaGreat
