/-
  Contracts of goThrough and wayOrderOf.
-/
import Derived.Test.YtdolbmonmkjajaaGreatGoThrough
import Derived.Test.YtdolbmonmkjajaaGreatTellJumps
import Derived.Test.YtdolbmonmkjajaaGreatKids
namespace Go.Proofs.YtdolbmonmkjajaaGreat
open Go.RowKit Go.Sort Go.Shelf Go.Maps Go.WideMaps

attribute [local go_sem] Oper.semAt_some

theorem seenC_zero : seenC [] = #[.bool false, .bool false, .bool false, .bool false, .bool false, .bool false, .bool false, .bool false, .bool false, .bool false, .bool false, .bool false, .bool false, .bool false, .bool false, .bool false, .bool false, .bool false, .bool false, .bool false, .bool false, .bool false, .bool false, .bool false, .bool false, .bool false] := rfl

def GonePost (NB WB : Nat) (g : List Bl) (tv mv : Value) (w : World) (e : Ending) (w' : World) : Prop :=
  e = .returned (.tuple #[]) ∧ Only WB w w' ∧ ∃ q, Blk w' WB 71 #[tv, q, mv] ∧ Row w' 61 1 (fun b => w.heap.size ≤ b) q (wayOrd g).length ((wayOrd g).reverse.map (nptr NB))

set_option maxRecDepth 100000 in
set_option maxHeartbeats 4000000 in
theorem goThrough_any (NB OB WB : Nat) (tv mv : Value) (g : List Bl) (w : World) (hv : validB g = true) (hN : NodesIn w NB g) (hO : Blk w OB 58 #[.pointer (some ⟨WB, 0, none⟩)])
    (hW : Blk w WB 71 #[tv, .slice none 0 0, mv]) (hOW : OB ≠ WB) (hNW : ∀ i, i < g.length → nb NB i ≠ WB) :
    Calls Tryz.prog 92 #[nptr NB 0, .func (.func 93) #[] #[.pointer (some ⟨OB, 0, none⟩)]] w (GonePost NB WB g tv mv w) := by
  have hent2 : ∀ args w, (callFunc 120 args).run Tryz.prog w = .ok (.enter 120 args) w := enters_of Tryz.func120 (by kernel_rfl) rfl
  have HV := Lib.hid hv
  have HN := Lib.hid hN
  have HO := Lib.hid hO
  have HW := Lib.hid hW
  clear hv hN hO hW
  go_enter Tryz.func92, Tryz.ntmps92
  go_wp2_with fail
  obtain ⟨W1, hW1⟩ : ∃ W1, W1 = w.alloc (.cells #[.func (.func 93) #[] #[.pointer (some ⟨OB, 0, none⟩)]] 108) := ⟨_, rfl⟩
  rw [← hW1]
  have s1 : W1.heap.size = w.heap.size + 1 := by rw [hW1]; simp
  have b1 : Below w.heap.size w W1 := by rw [hW1]; exact (Below.refl _ _).alloc (Nat.le_refl _) _
  have k1 : Boxed W1 w.heap.size 108 (.func (.func 93) #[] #[.pointer (some ⟨OB, 0, none⟩)]) := by rw [hW1]; exact Boxed.new w _ _
  clear hW1
  rw [← seenC_zero]
  obtain ⟨W2, hW2⟩ : ∃ W2, W2 = W1.alloc (.cells (seenC []) 147) := ⟨_, rfl⟩
  rw [← hW2]
  have s2 : W2.heap.size = w.heap.size + 1 + 1 := by rw [hW2]; simp [s1]
  have b2 : Below W1.heap.size W1 W2 := by rw [hW2]; exact (Below.refl _ _).alloc (Nat.le_refl _) _
  have k2 : Blk W2 (w.heap.size + 1) 147 (seenC []) := by rw [hW2, ← s1]; exact Blk.new W1 _ _
  clear hW2
  obtain ⟨W3, hW3⟩ : ∃ W3, W3 = W2.alloc (.cells #[.func (.func 120) #[] (visF (w.heap.size + 1) (w.heap.size + 1 + 1) w.heap.size)] 108) := ⟨_, rfl⟩
  rw [← hW3]
  have s3 : W3.heap.size = w.heap.size + 1 + 1 + 1 := by rw [hW3]; simp [s2]
  have b3 : Below W2.heap.size W2 W3 := by rw [hW3]; exact (Below.refl _ _).alloc (Nat.le_refl _) _
  have k3 : Boxed W3 (w.heap.size + 1 + 1) 108 (.func (.func 120) #[] (visF (w.heap.size + 1) (w.heap.size + 1 + 1) w.heap.size)) := by rw [hW3, ← s2]; exact Boxed.new W2 _ _
  clear hW3
  have b12 := b1.trans (b2.mono b1.size)
  have b13 := b12.trans (b3.mono b12.size)
  have hWl := HW.out.lt
  have hOl := HO.out.lt
  have D0 : DfsAt W3 NB g (w.heap.size + 1) (w.heap.size + 1 + 1) w.heap.size OB WB tv mv (fun b => b = w.heap.size + 1 ∨ b = WB) [] [] := by
    refine ⟨(b3.block _ k2.lt).trans k2, k3, (b3.block _ (by omega)).trans ((b2.block _ k1.lt).trans k1), (b13.block _ hOl).trans HO.out, ⟨_, (b13.block _ hWl).trans HW.out, Row.nil _ _ _ _⟩, HN.out.below b13, .inl rfl, .inr rfl, ⟨?_, ?_, ?_, fun i hi => ?_⟩, by omega⟩
    · rintro (e | e)
      · omega
      · omega
    · rintro (e | e)
      · omega
      · omega
    · rintro (e | e)
      · omega
      · exact hOW e
    · have := (HN.out i hi).lt
      rintro (e | e)
      · omega
      · exact hNW i hi e
  have hr0 : Rch g [] 0 := .start (by simp)
  have HVIS := visit_any NB (w.heap.size + 1) (w.heap.size + 1 + 1) w.heap.size OB WB tv mv g HV.out g.length 0 [] [] _ W3 D0 (by intro b hb; rcases hb with rfl | rfl <;> omega) (by simp) hr0 ⟨.nil, by simp⟩ (by simp) (by simp) (by simp)
  refine HVIS.mono ?_
  rintro e W4 ⟨rfl, hT4, hD4⟩
  have HB13 := Lib.hid b13
  have HT4 := Lib.hid hT4
  have HD4 := Lib.hid hD4
  clear hT4 hD4 HVIS D0 b1 b2 b3 b12 b13 k1 k2 k3
  go_wp2_with fail
  go_end0
  refine ⟨rfl, ?_, ?_⟩
  · have hB := HB13.out
    have hT := HT4.out
    refine ⟨hT.os.trans hB.os, hT.tape.trans hB.tape, hT.output.trans hB.output, Nat.le_trans hB.size hT.size, fun k hk hl => (hT.block k (by omega) ?_).trans (hB.block k hl)⟩
    rintro (e | e)
    · omega
    · exact hk e
  · obtain ⟨q, hq, hr⟩ := HD4.out.store
    refine ⟨q, hq, hr.kept (Keeps.refl _ _) fun k _ h => ?_⟩
    obtain ⟨h1 | h1, h2, h3⟩ := h
    · rcases h1 with h1 | h1
      · exact absurd h1 h2
      · exact absurd h1 h3
    · omega

def OrderPost (w : World) (g : List Bl) (e : Ending) (w' : World) : Prop :=
  ∃ WB tb NB MB A cap B off tcap S, w.heap.size ≤ WB ∧ e = .returned (.tuple #[.pointer (some ⟨WB, 0, none⟩), .bool true]) ∧ OrdAt w' WB tb NB MB A cap g B off tcap S ∧ KMap w' g MB 52 (fun i t => Rch g [] i ∧ t ∈ nxt g i) ∧ Below w.heap.size w w'

def NoOrderPost (w : World) (e : Ending) (w' : World) : Prop :=
  ∃ WB tb mv, e = .returned (.tuple #[.pointer (some ⟨WB, 0, none⟩), .bool false]) ∧ Blk w' WB 71 #[.pointer (some ⟨tb, 0, none⟩), .slice none 0 0, mv] ∧ TreeIn w' tb (.slice none 0 0) (fun _ => 0) (fun _ => .pointer none) ∧ Below w.heap.size w w'

set_option maxRecDepth 100000 in
theorem wayOrderOf_no (A : Option Addr) (cap : Nat) (g : List Bl) (w : World) (hg : Gr w A g) (hn : g.length + tot g ≤ 1048576) (hv : validB g = false) :
    Calls Tryz.prog 57 #[.slice A g.length cap] w (NoOrderPost w) := by
  have HC := Lib.hid (treeOf_no A cap g w hg hn hv)
  clear hv
  have hmm := @run_makeMap Tryz.prog
  go_enter Tryz.func57, Tryz.ntmps57
  go_wp2_with fail
  refine HC.out.mono ?_
  rintro e w1 ⟨tb, rfl, hT1, b1⟩
  have HT1 := Lib.hid hT1
  have HB1 := Lib.hid b1
  clear hT1 b1
  go_wp2_with fail
  obtain ⟨W2, hW2⟩ : ∃ W2, W2 = w1.alloc (.map #[] 0) := ⟨_, rfl⟩
  rw [← hW2]
  have s2 : W2.heap.size = w1.heap.size + 1 := by rw [hW2]; simp
  have b2 : Below w1.heap.size w1 W2 := by rw [hW2]; exact (Below.refl _ _).alloc (Nat.le_refl _) _
  obtain ⟨W3, hW3⟩ : ∃ W3, W3 = W2.alloc (.cells #[.pointer (some ⟨tb, 0, none⟩), .slice none 0 0, .map (some w1.heap.size)] 71) := ⟨_, rfl⟩
  rw [← hW3]
  have b3 : Below W2.heap.size W2 W3 := by rw [hW3]; exact (Below.refl _ _).alloc (Nat.le_refl _) _
  have k3 : Blk W3 (w1.heap.size + 1) 71 #[.pointer (some ⟨tb, 0, none⟩), .slice none 0 0, .map (some w1.heap.size)] := by rw [hW3, ← s2]; exact Blk.new W2 _ _
  have b13 := b2.trans (b3.mono b2.size)
  have b14 := b13.alloc b13.size (.cells #[.pointer (some ⟨w1.heap.size + 1, 0, none⟩)] 58)
  go_ret2
  exact ⟨_, tb, _, rfl, k3.alloc _, HT1.out.below b14, HB1.out.trans (b14.mono HB1.out.size)⟩

set_option maxRecDepth 100000 in
set_option maxHeartbeats 4000000 in
theorem wayOrderOf_yes (A : Option Addr) (cap : Nat) (g : List Bl) (w : World) (hg : Gr w A g) (hn : g.length + tot g ≤ 1048576) (hv : validB g = true) :
    Calls Tryz.prog 57 #[.slice A g.length cap] w (OrderPost w g) := by
  have HC := Lib.hid (treeOf_yes A cap g w hg hn hv)
  have HV := Lib.hid hv
  have hpos : 0 < (reachS g).length := List.length_pos_of_mem ((mem_reachS' hv).2 (.start (by simp)))
  have h0 : (reachS g)[0]'hpos = 0 := by
    obtain ⟨k, hk, e⟩ := List.getElem_of_mem ((mem_reachS' hv).2 (.start (by simp) : Rch g [] 0))
    rcases Nat.eq_zero_or_pos k with rfl | hk0
    · exact e
    · have := List.pairwise_iff_getElem.1 (reachS_up g) 0 k (by omega) hk hk0
      omega
  have H0 := Lib.hid h0
  have hwl := wayOrd_len hv
  have h26 := (valid_iff.1 hv).2.1
  clear hv h0
  have hent3 : ∀ args w, (callFunc 93 args).run Tryz.prog w = .ok (.enter 93 args) w := enters_of Tryz.func93 (by kernel_rfl) rfl
  have hmm := @run_makeMap Tryz.prog
  go_enter Tryz.func57, Tryz.ntmps57
  go_wp2_with fail
  refine HC.out.mono ?_
  rintro e w1 ⟨tb, NB, B, off, tcap, S, htb, rfl, hT1, b1⟩
  have c0 : w1.cell? ⟨tb, 0, none⟩ = some (.slice (some ⟨B, off, none⟩) (reachS g).length tcap) := hT1.tree.nodes
  have c1 : w1.cell? ⟨B, off, none⟩ = some (nptr NB 0) := by have := hT1.row 0 hpos; rw [H0.out] at this; simpa using this
  have htl : tb < w1.heap.size := by obtain ⟨cs, hk, _⟩ := hT1.tree; exact hk.lt
  have hBl := hT1.lt
  have hposI : (0 : Int) < (reachS g).length := by omega
  have hbW := (((Below.refl w1.heap.size w1).alloc (Nat.le_refl _) (.map #[] 0)).alloc (by simp) (.cells #[.pointer (some ⟨tb, 0, none⟩), .slice none 0 0, .map (some w1.heap.size)] 71)).alloc (by simp; omega) (.cells #[.pointer (some ⟨w1.heap.size + 1, 0, none⟩)] 58)
  have d0 := (hbW.cell (p := ⟨tb, 0, none⟩) htl).trans c0
  have d1 := (hbW.cell (p := ⟨B, off, none⟩) hBl).trans c1
  have HT1 := Lib.hid hT1
  have HB1 := Lib.hid b1
  have hs1 := b1.size
  clear hT1 b1 c0 c1
  go_wp2_with fail
  have sM := KMap.start w1 g
  obtain ⟨W2, hW2⟩ : ∃ W2, W2 = w1.alloc (.map #[] 0) := ⟨_, rfl⟩
  rw [← hW2] at sM ⊢
  have s2 : W2.heap.size = w1.heap.size + 1 := by rw [hW2]; simp
  have b2 : Below w1.heap.size w1 W2 := by rw [hW2]; exact (Below.refl _ _).alloc (Nat.le_refl _) _
  obtain ⟨W3, hW3⟩ : ∃ W3, W3 = W2.alloc (.cells #[.pointer (some ⟨tb, 0, none⟩), .slice none 0 0, .map (some w1.heap.size)] 71) := ⟨_, rfl⟩
  rw [← hW3]
  have s3 : W3.heap.size = w1.heap.size + 1 + 1 := by rw [hW3]; simp [s2]
  have b3 : Below W2.heap.size W2 W3 := by rw [hW3]; exact (Below.refl _ _).alloc (Nat.le_refl _) _
  have k3 : Blk W3 (w1.heap.size + 1) 71 #[.pointer (some ⟨tb, 0, none⟩), .slice none 0 0, .map (some w1.heap.size)] := by rw [hW3, ← s2]; exact Blk.new W2 _ _
  obtain ⟨W4, hW4⟩ : ∃ W4, W4 = W3.alloc (.cells #[.pointer (some ⟨w1.heap.size + 1, 0, none⟩)] 58) := ⟨_, rfl⟩
  rw [← hW4]
  have s4 : W4.heap.size = w1.heap.size + 1 + 1 + 1 := by rw [hW4]; simp [s3]
  have b4 : Below W3.heap.size W3 W4 := by rw [hW4]; exact (Below.refl _ _).alloc (Nat.le_refl _) _
  have k4 : Blk W4 (w1.heap.size + 1 + 1) 58 #[.pointer (some ⟨w1.heap.size + 1, 0, none⟩)] := by rw [hW4, ← s3]; exact Blk.new W3 _ _
  have k34 : Blk W4 (w1.heap.size + 1) 71 #[.pointer (some ⟨tb, 0, none⟩), .slice none 0 0, .map (some w1.heap.size)] := (b4.block _ k3.lt).trans k3
  have b24 := b3.trans (b4.mono b3.size)
  have b14 := b2.trans (b24.mono b2.size)
  have sM4 := sM.keep (b24.block w1.heap.size (by omega))
  have hnl : ∀ i, i < g.length → nb NB i < w1.heap.size := fun i hi => (HT1.out.nodes i hi).lt
  clear hW2 hW3 hW4 d0 d1 hbW sM b2 b3 b4 k3
  refine (goThrough_any NB (w1.heap.size + 1 + 1) (w1.heap.size + 1) _ _ g W4 HV.out (HT1.out.nodes.below b14) k4 k34 (by omega) (fun i hi => by have := hnl i hi; omega)).mono ?_
  rintro e W5 ⟨rfl, hO5, q, hq5, hr5⟩
  have h0w : wayOrd g ≠ [] := by
    obtain ⟨D, e, _⟩ := wayOrd_went HV.out
    rw [e]; simp
  have hQ : Que W5 61 1 (fun b => W4.heap.size ≤ b) q (wayOrd g).length ((wayOrd g).reverse.map (nptr NB)) := by
    rcases hr5 with ⟨_, h, _⟩ | h
    · exact absurd (List.eq_nil_of_length_eq_zero h) h0w
    · exact h
  obtain ⟨Bq, oq, cq, cs, rfl, hle, hbq, hsq, hoq, hxq, hcq⟩ := hQ
  have hBq : Blk W5 Bq 61 cs := hbq
  have k45 : Blk W5 (w1.heap.size + 1 + 1) 58 #[.pointer (some ⟨w1.heap.size + 1, 0, none⟩)] := (hO5.block _ (by omega) k4.lt).trans k4
  have e0 := k45.cell 0
  have e1 := hq5.cell 1
  have hH : Holds (nptr NB) W5 Bq oq (wayOrd g).reverse.toArray := by
    intro j hj
    have hj' : j < (wayOrd g).reverse.length := by simpa using hj
    refine ⟨?_, hBq.frozen _⟩
    rw [hBq.cell, hcq j (by rw [List.length_map]; exact hj'), List.getElem?_map, List.getElem?_eq_getElem hj']
    rw [getElem!_pos _ j hj]; simp
  have HREV : Hid (Calls Tryz.prog 94 #[.slice (some ⟨Bq, oq, none⟩) (wayOrd g).length cq] W5 (fun e w' => e = .returned (.tuple #[]) ∧ ∃ n, w' = putRow (nptr NB) (Go.Sort.ahead W5 n) Bq oq (wayOrd g).toArray)) := by
    have h := AnyE.slices_Reverse Tryz.revNodes (nptr NB) (fun _ => rfl) Bq oq cq (wayOrd g).reverse W5 hH (by simp; omega)
    rw [List.length_reverse, List.reverse_reverse] at h
    exact h
  have HH := Lib.hid hH
  have HO5 := Lib.hid hO5
  have HQ5 := Lib.hid hq5
  have HK45 := Lib.hid k45
  have HSM4 := Lib.hid sM4
  have HB14 := Lib.hid b14
  have hs5 := hO5.size
  have hBql := hBq.lt
  clear hr5 hle hbq hsq hxq hcq hBq k45 hH hO5 hq5 sM4 b14 b24 k4 k34 h0w
  go_wp2_with fail
  refine HREV.out.mono ?_
  rintro e W6 ⟨rfl, m, hW6⟩
  have hb6 : ∀ k, k ≠ Bq → W6.heap[k]? = W5.heap[k]? := fun k hk => by
    rw [hW6]
    show ((Go.Sort.ahead W5 m).heap.modify Bq _)[k]? = W5.heap[k]?
    rw [Array.getElem?_modify, if_neg (Ne.symm hk)]; rfl
  have hs6 : W6.heap.size = W5.heap.size := by
    rw [hW6]
    show ((Go.Sort.ahead W5 m).heap.modify Bq _).size = _
    rw [Array.size_modify]; rfl
  have hO6 : Only Bq W5 W6 := by
    rw [hW6] at hb6 hs6 ⊢
    exact ⟨rfl, rfl, rfl, Nat.le_of_eq hs6.symm, fun k hk _ => hb6 k hk⟩
  have hrow6 : ∀ k (hk : k < (wayOrd g).length), W6.cell? ⟨Bq, oq + k, none⟩ = some (nptr NB (wayOrd g)[k]) := fun k hk => by
    have hh := holds_putRow (nptr NB) (Go.Sort.ahead W5 m) Bq oq (wayOrd g).reverse.toArray (wayOrd g).toArray (fun j hj => HH.out j hj) (by simp)
    have := (hh k (by simpa using hk)).1
    rw [hW6, this]
    congr 2
    rw [getElem!_pos (wayOrd g).toArray k (by simpa using hk)]; simp
  have hT6 : TreeAt W6 tb NB g B off tcap S := (((HT1.out.below HB14.out).only HO5.out (by omega) (by omega) (fun i hi => by have := hnl i hi; omega)).only hO6 (by omega) (by omega) (fun i hi => by have := hnl i hi; omega))
  have hWO6 : OrdAt W6 (w1.heap.size + 1) tb NB w1.heap.size (some ⟨Bq, oq, none⟩) cq g B off tcap S :=
    ⟨hT6, (hO6.block _ (by omega) HQ5.out.lt).trans HQ5.out, fun _ => ⟨Bq, oq, rfl, by omega, hrow6⟩, by omega, by omega, by omega, fun i hi => by have := hnl i hi; omega, fun b o e => by
      simp only [Option.some.injEq, Addr.mk.injEq] at e; omega⟩
  have hM6 : KMap W6 g w1.heap.size 0 (fun _ _ => False) := (HSM4.out.keep (HO5.out.block _ (by omega) (by omega))).keep (hb6 _ (by omega))
  have HTELL := Lib.hid (tellJumps_any (w1.heap.size + 1) tb NB w1.heap.size cq (some ⟨Bq, oq, none⟩) g B off tcap S W6 HV.out hWO6 hM6)
  have k46 : Blk W6 (w1.heap.size + 1 + 1) 58 #[.pointer (some ⟨w1.heap.size + 1, 0, none⟩)] := (hb6 _ (by omega)).trans HK45.out
  have e2 := k46.cell 0
  have HWO6 := Lib.hid hWO6
  have HO6 := Lib.hid hO6
  have HK46 := Lib.hid k46
  clear hb6 hO6 hrow6 hT6 hWO6 hM6 k46 e0 e1 hW6
  go_wp2_with fail
  refine HTELL.out.mono ?_
  rintro e W7 ⟨rfl, hO7, hK7⟩
  have k47 : Blk W7 (w1.heap.size + 1 + 1) 58 #[.pointer (some ⟨w1.heap.size + 1, 0, none⟩)] := (hO7.block _ (by omega) HK46.out.lt).trans HK46.out
  have e3 := k47.cell 0
  have HO7 := Lib.hid hO7
  have HK7 := Lib.hid hK7
  clear hO7 hK7 k47 e2
  go_wp2_with fail
  go_ret2
  refine ⟨w1.heap.size + 1, tb, NB, w1.heap.size, some ⟨Bq, oq, none⟩, cq, B, off, tcap, S, by omega, rfl, HWO6.out.only HO7.out, HK7.out, ?_⟩
  have h1 := HB1.out
  have h4 := HB14.out
  have h5 := HO5.out
  have h6 := HO6.out
  have h7 := HO7.out
  refine ⟨h7.os.trans (h6.os.trans (h5.os.trans (h4.os.trans h1.os))), h7.tape.trans (h6.tape.trans (h5.tape.trans (h4.tape.trans h1.tape))), h7.output.trans (h6.output.trans (h5.output.trans (h4.output.trans h1.output))), by have := h7.size; omega, fun k hk => ?_⟩
  rw [h7.block k (by omega) (by omega), h6.block k (by omega) (by omega), h5.block k (by omega) (by omega), h4.block k (by omega), h1.block k hk]
end Go.Proofs.YtdolbmonmkjajaaGreat
