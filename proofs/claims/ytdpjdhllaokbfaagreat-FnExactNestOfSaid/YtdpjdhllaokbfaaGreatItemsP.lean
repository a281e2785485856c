/-
  The program's items of some blocks, and its parts with what is within them.
-/
import Derived.Test.YtdpjdhllaokbfaaGreatDoorsOfP
import Derived.Deep.RegionHeld3
namespace Go.Proofs.YtdpjdhllaokbfaaGreat
open Go.RowKit Go.Sort Go.Shelf

theorem cell_other (w : World) {b b' : Nat} (o : Nat) {j : Nat} (hne : b' ≠ b) (v : Value) {u : Value} (h : w.cell? ⟨b', j, none⟩ = some u) : (w.setCell ⟨b, o, none⟩ v).cell? ⟨b', j, none⟩ = some u := by
  rw [World.cell?_of_block (Below.heap_setCell w ⟨b, o, none⟩ v b' hne)]; exact h
/-- The closure: is a block the door? -/
theorem partOf1_pred (NB E b B d : Nat) (g : List Bl) (A1 A2 : Option Addr) (c1 c2 l1 : Nat) (v3 : Value) (L : List Nat) (w0 : World) (hE : w0.cell? ⟨E, 0, none⟩ = some (.pointer (some ⟨b, 0, none⟩))) (hEl : E < w0.heap.size) (hEB : E ≠ B) (hb : Blk w0 b 65 #[.slice A1 l1 c1, .slice A2 1 c2, v3]) (hbB : b ≠ B)
    (hd : ∃ b2 o2, A2 = some ⟨b2, o2, none⟩ ∧ b2 ≠ B ∧ b2 < w0.heap.size ∧ w0.cell? ⟨b2, o2, none⟩ = some (nptr NB d)) (hN : NodesIn w0 NB g) (hNB : ∀ i, i < g.length → nb NB i ≠ B) (hL : ∀ x ∈ L, x < g.length) (hdg : d < g.length) :
    PredN 94 #[.pointer (some ⟨E, 0, none⟩)] NB (fun x => decide (x = d)) L B w0 where
  enter := enters_of Tryz.func94 (by kernel_rfl) rfl
  goes := by
    intro W hT x hx
    obtain ⟨jt, hjt, hjs⟩ := Option.map_eq_some_iff.1 info_node
    have hxl := hL x hx
    obtain ⟨b2, o2, rfl, hb2, hb2l, hcd⟩ := hd
    have cE : W.cell? ⟨E, 0, none⟩ = some (.pointer (some ⟨b, 0, none⟩)) := by rw [World.cell?_of_block (hT.block E hEl hEB)]; exact hE
    have cb : W.cell? ⟨b, 1, none⟩ = some (.slice (some ⟨b2, o2, none⟩) 1 c2) := by rw [World.cell?_of_block (hT.block b hb.lt hbB)]; exact hb.cell 1
    have cd : W.cell? ⟨b2, o2, none⟩ = some (nptr NB d) := by rw [World.cell?_of_block (hT.block b2 hb2l hb2)]; exact hcd
    have hNW : ∀ i, i < g.length → ∃ cs, Blk W (nb NB i) 72 cs ∧ cs.size = 3 := fun i hi => ⟨_, (hT.block _ (hN i hi).lt (hNB i hi)).trans (hN i hi), rfl⟩
    obtain ⟨csx, hbx, _⟩ := hNW x hxl
    obtain ⟨csd, hbd, _⟩ := hNW d hdg
    have HX := Lib.hid hbx
    have HDD := Lib.hid hbd
    clear hT hN hE hb hcd hNW hbx hbd
    show Calls Tryz.prog 94 #[nptr NB x, .pointer (some ⟨E, 0, none⟩)] W _
    by_cases hq : x = d
    · subst hq
      have heq := fun w => run_eql_ptr_same (P := Tryz.prog) w ⟨nb NB x, 0, none⟩ Tryz.underlying73 hjt
      go_enter Tryz.func94, Tryz.ntmps94
      go_wp2_with fail
      go_ret
      exact ⟨ret_bool (by simp), rfl⟩
    · have heq := run_eql_ptr_other (P := Tryz.prog) W (a := ⟨nb NB x, 0, none⟩) (b := ⟨nb NB d, 0, none⟩) Tryz.underlying73 hjt (by rw [hjs]; decide) (nb_neB hq) HX.out HDD.out
      have HQ := Lib.hid hq
      clear hq
      go_enter Tryz.func94, Tryz.ntmps94
      go_wp2_with fail
      go_ret
      exact ⟨ret_bool (by simpa using HQ.out), rfl⟩

/-- The items of some blocks: what is asked of a call, and what it leaves. -/
def ItemsAt (TB NB : Nat) (g : List Bl) (m : Nat) (S : List Nat) : Prop := ∀ (A : Option Addr) (cap : Nat) (w : World), S.length ≤ m → NestT w TB NB g → PtsI w A NB S → (∀ x ∈ S, x < g.length) → S.Pairwise (· < ·) →
  Calls Tryz.prog 65 #[.pointer (some ⟨TB, 0, none⟩), .slice A S.length cap] w fun e w' => ∃ A' c', e = .returned (.slice A' (nestF g m S).length c') ∧ NIsAt w' (fun k => w.heap.size ≤ k) NB (nestF g m S) A' ∧ Below w.heap.size w w'

def ItemsGoes (TB NB : Nat) (g : List Bl) (m : Nat) : Prop := ∀ S, ItemsAt TB NB g m S
/-- What is within a part. -/
def withinL (g : List Bl) (m : Nat) (P : List Nat) : List NI := if (doorsL g P).length = 1 then nestF g m (restL P (doorsL g P)) else []

set_option maxRecDepth 100000 in
set_option maxHeartbeats 4000000 in
theorem partOf_any (TB NB m : Nat) (g : List Bl) (hv : validB g = true) (ih : ItemsGoes TB NB g m) (K : Nat → Prop) (P : List Nat) (A : Option Addr) (cap : Nat) (w : World) (hT : NestT w TB NB g) (hP : PtsK w K A NB P) (hPg : ∀ x ∈ P, x < g.length) (hPu : P.Pairwise (· < ·)) (h0 : 0 < P.length)
    (hm : (doorsL g P).length = 1 → (restL P (doorsL g P)).length ≤ m) :
    Calls Tryz.prog 80 #[.pointer (some ⟨TB, 0, none⟩), .slice A P.length cap] w fun e w' => ∃ b, e = .returned (.pointer (some ⟨b, 0, none⟩)) ∧ NIAt w' (fun k => K k ∨ w.heap.size ≤ k) NB (.part P (doorsL g P) (withinL g m P)) (.iface 61 (.pointer (some ⟨b, 0, none⟩))) ∧ Below w.heap.size w w' := by
  have hg26 := (valid_iff.1 hv).2.1
  have hPn : P.Nodup := hPu.imp fun h => Nat.ne_of_lt h
  have hPl : P.length ≤ 26 := Nat.le_trans (nodup_lt_len _ _ hPn hPg) hg26
  have HDO := Lib.hid (doorsOf_any TB NB cap A g P w hv hT hP.pts hPg hPn h0)
  have HT := Lib.hid hT
  have HP := Lib.hid hP
  clear hT hP
  go_enter Tryz.func80, Tryz.ntmps80
  go_wp2_with fail
  refine HDO.out.mono ?_
  rintro e w1 ⟨B1, off1, c1, rfl, hB1, hR1, hb1⟩
  have HR1 := Lib.hid hR1
  have HB1 := Lib.hid hb1
  clear hR1 hb1
  obtain ⟨D, hD⟩ : ∃ D, D = doorsL g P := ⟨_, rfl⟩
  rw [← hD] at HR1 hm ⊢
  have HDE := Lib.hid hD
  clear hD
  obtain ⟨w2, hw2⟩ : ∃ w2, w2 = (w1.alloc (.cells #[.slice A P.length cap, .slice (some ⟨B1, off1, none⟩) D.length c1, .slice none 0 0] 65)).alloc (.cells #[.pointer (some ⟨w1.heap.size, 0, none⟩)] 61) := ⟨_, rfl⟩
  have hs2 : w2.heap.size = w1.heap.size + 2 := by rw [hw2]; simp
  have hb2 : Below w1.heap.size w1 w2 := by rw [hw2]; exact ((Below.refl _ w1).alloc (Nat.le_refl _) _).alloc (by simp) _
  have hblk2 : Blk w2 w1.heap.size 65 #[.slice A P.length cap, .slice (some ⟨B1, off1, none⟩) D.length c1, .slice none 0 0] := by rw [hw2]; exact (Blk.new w1 _ _).alloc _
  have hE2 : Boxed w2 (w1.heap.size + 1) 61 (.pointer (some ⟨w1.heap.size, 0, none⟩)) := by
    have := Boxed.new (w1.alloc (.cells #[.slice A P.length cap, .slice (some ⟨B1, off1, none⟩) D.length c1, .slice none 0 0] 65)) 61 (.pointer (some ⟨w1.heap.size, 0, none⟩))
    rw [hw2]; simpa using this
  have hww := HB1.out.size
  have HB2 := Lib.hid (HB1.out.trans (hb2.mono HB1.out.size))
  have HBL := Lib.hid hblk2
  have HEB := Lib.hid hE2
  have HS2 := Lib.hid hs2
  have HB12 := Lib.hid hb2
  have hlt1 : w1.heap.size < w2.heap.size := by omega
  clear hs2 hb2 hblk2 hE2
  by_cases h1 : D.length = 1
  · have q1 : ((D.length : Int) == 1) = true := by rw [h1]; rfl
    obtain ⟨d, hd⟩ : ∃ d, D = [d] := by
      match D, h1 with
      | [d], _ => exact ⟨d, rfl⟩
    have hdP : d ∈ P := doorsL_sub (g := g) (by rw [← HDE.out, hd]; simp)
    obtain ⟨S, hS⟩ : ∃ S, S = P.filter fun x => !decide (x = d) := ⟨_, rfl⟩
    have hSr : restL P D = S := by
      rw [hS, hd]
      unfold restL
      refine List.filter_congr fun x _ => ?_
      by_cases e : x = d
      · simp [e]
      · simp [e]
    have hSm : S.length ≤ m := by rw [← hSr]; exact hm h1
    have hSP : ∀ x ∈ S, x ∈ P := fun x hx => by rw [hS] at hx; exact (List.mem_filter.1 hx).1
    have hSu : S.Pairwise (· < ·) := by rw [hS]; exact hPu.filter _
    have HW := Lib.hid (show withinL g m P = nestF g m S by unfold withinL; rw [← HDE.out, if_pos h1, hSr])
    have HK := Lib.hid (show ∀ w', Below w2.heap.size w2 w' → w'.cell? ⟨w1.heap.size + 1, 0, none⟩ = some (.pointer (some ⟨w1.heap.size, 0, none⟩)) from fun w' hb => (hb.cell (p := ⟨w1.heap.size + 1, 0, none⟩) HEB.out.lt).trans HEB.out.cell)
    have HC := Lib.hid (show Calls Tryz.prog 93 #[.slice A P.length cap] w2.drew fun e w' => ∃ B off c, e = .returned (.slice (some ⟨B, off, none⟩) P.length c) ∧ w2.heap.size ≤ B ∧ P.length ≤ c ∧ RowN w' B off NB P ∧ Below w2.heap.size w2 w' from
      (cloneN_any A NB cap P w2.drew ((HP.out.pts.below HB2.out).below (below_drewN w2 1)) (by omega) h0).mono fun e w' ⟨B, off, c, a1, a2, a3, a4, a5⟩ => ⟨B, off, c, a1, a2, a3, a4, below_trans_self (below_drewN w2 1) a5⟩)
    have hN2 := (HT.out.below HB2.out).nodes
    have hNl : ∀ i, i < g.length → nb NB i < w2.heap.size := fun i hi => (hN2 i hi).lt
    have HF := Lib.hid (show ∀ B off c w5, w2.heap.size ≤ B → P.length ≤ c → RowN w5 B off NB P → Below w2.heap.size w2 w5 → Calls Tryz.prog 92 #[.slice (some ⟨B, off, none⟩) P.length c, .func (.func 94) #[] #[.pointer (some ⟨w1.heap.size + 1, 0, none⟩)]] w5 fun e w' => e = .returned (.slice (some ⟨B, off, none⟩) S.length c) ∧ RowN w' B off NB S ∧ Below w2.heap.size w2 w' from fun B off c w5 a1 a2 a3 a4 => by
      have hd0 : RowN w1 B1 off1 NB [d] := hd ▸ HR1.out
      have hcd : w1.cell? ⟨B1, off1, none⟩ = some (nptr NB d) := by have := hd0.cell (j := 0) (by simp); simpa using this
      have hB1l := hd0.lt
      have h12 := HB12.out
      have hbl5 : Blk w5 w1.heap.size 65 #[.slice A P.length cap, .slice (some ⟨B1, off1, none⟩) 1 c1, .slice none 0 0] := by
        have := (a4.block _ HBL.out.lt).trans HBL.out
        rw [h1] at this; exact this
      rw [hS]
      exact (deleteFuncN_any NB c B off 94 #[.pointer (some ⟨w1.heap.size + 1, 0, none⟩)] (fun x => decide (x = d)) P w5 a3
        (partOf1_pred NB (w1.heap.size + 1) w1.heap.size B d g A (some ⟨B1, off1, none⟩) cap c1 P.length (.slice none 0 0) P w5 (HK.out w5 a4) (by have := a4.size; have := HEB.out.lt; omega) (by have := HEB.out.lt; omega) hbl5 (by omega)
          ⟨B1, off1, rfl, by omega, by have := a4.size; omega, (a4.cell (p := ⟨B1, off1, none⟩) (show B1 < w2.heap.size by omega)).trans ((h12.cell (p := ⟨B1, off1, none⟩) hB1l).trans hcd)⟩ (hN2.below a4) (fun i hi => by have := hNl i hi; omega) hPg (hPg d hdP)) (by omega) a2 h0).mono fun e w' ⟨b1, b2, b3⟩ => ⟨b1, b2, a4.trans (b3.below a4.size fun k hk => by omega)⟩)
    have HI := Lib.hid (show ∀ B off c w6, RowN w6 B off NB S → Below w2.heap.size w2 w6 → Calls Tryz.prog 65 #[.pointer (some ⟨TB, 0, none⟩), .slice (some ⟨B, off, none⟩) S.length c] w6 fun e w' => ∃ A' c', e = .returned (.slice A' (nestF g m S).length c') ∧ NIsAt w' (fun k => w2.heap.size ≤ k) NB (nestF g m S) A' ∧ Below w2.heap.size w2 w' from fun B off c w6 a1 a2 =>
      (ih S (some ⟨B, off, none⟩) c w6 hSm ((HT.out.below HB2.out).below a2) a1.pts (fun x hx => hPg x (hSP x hx)) hSu).mono fun e w' ⟨A', c', b1, b2, b3⟩ => ⟨A', c', b1, b2.kept (Keeps.refl _ _) (fun k _ h => Nat.le_trans a2.size h), a2.trans (b3.mono a2.size)⟩)
    have HKB := Lib.hid (show ∀ w', Below w2.heap.size w2 w' → Blk w' w1.heap.size 65 #[.slice A P.length cap, .slice (some ⟨B1, off1, none⟩) D.length c1, .slice none 0 0] from fun w' hb => (hb.block _ HBL.out.lt).trans HBL.out)
    have q0 := HK.out w2 (Below.refl _ _)
    have q1' := HK.out w2.drew (below_drewN w2 1)
    have HD1 := Lib.hid h1
    clear h1 hd hS hSr hN2 hNl hm
    go_wp2_with fail
    rw [← hw2]
    clear hw2
    go_region_held3 (fun w' => w'.cell? ⟨w1.heap.size + 1, 0, none⟩ = some (.pointer (some ⟨w1.heap.size, 0, none⟩)))
      (first | with_reducible exact q0 | with_reducible exact q1' | with_reducible exact q5 | with_reducible exact q6 | with_reducible exact q7 | with_reducible exact q8 _ | fail)
      (first
        | (go_at_call 93; refine HC.out.mono ?_; rintro e w5 ⟨B5, off5, c5, rfl, hB5, hc5, hR5, hb5⟩; have q5 := HK.out w5 hb5)
        | (go_at_call 92; refine (HF.out _ _ _ _ hB5 hc5 hR5 hb5).mono ?_; rintro e w6 ⟨rfl, hR6, hb6⟩; have q6 := HK.out w6 hb6)
        | (go_at_call 65; refine (HI.out _ _ _ _ hR6 hb6).mono ?_; rintro e w7 ⟨A7, c7, rfl, hI7, hb7⟩; have q7 := HK.out w7 hb7; have cb7 := (HKB.out w7 hb7).cell 2; have fb7 := (HKB.out w7 hb7).frozen 2; have q8 := fun v => cell_other w7 (b := w1.heap.size) 2 (Nat.succ_ne_self _) v q7)
        | fail)
    all_goals
      have HI7 := Lib.hid hI7
      have HB7 := Lib.hid hb7
      have HBK7 := Lib.hid (HKB.out w7 hb7)
      have cE8 := q8 (.slice A7 (nestF g m S).length c7)
      clear hI7 hb7 q8 q7 q6 q5 q0 q1' cb7 fb7 hR6 hb6 hR5 hb5
      go_wp2_with fail
      go_ret
      have hb8 : Below w1.heap.size w1 (w7.setCell ⟨w1.heap.size, 2, none⟩ (.slice A7 (nestF g m S).length c7)) := (HB12.out.trans (HB7.out.mono HB12.out.size)).setCell (p := ⟨w1.heap.size, 2, none⟩) (Nat.le_refl _) _
      have hb9 := HB1.out.trans (hb8.mono HB1.out.size)
      have T8 : Turns (fun k => k = w1.heap.size) w7 (w7.setCell ⟨w1.heap.size, 2, none⟩ (.slice A7 (nestF g m S).length c7)) := Turns.setCell (O := fun k => k = w1.heap.size) (p := ⟨w1.heap.size, 2, none⟩) rfl _
      have hk8 : Keeps (fun k => w2.heap.size ≤ k) w7 (w7.setCell ⟨w1.heap.size, 2, none⟩ (.slice A7 (nestF g m S).length c7)) := T8.keeps fun k hk e => by omega
      refine ⟨w1.heap.size, rfl, ?_, hb9⟩
      unfold NIAt
      rw [HW.out, ← HDE.out]
      obtain ⟨vs, v1, v2, v3⟩ := HI7.out
      exact ⟨w1.heap.size, A, cap, some ⟨B1, off1, none⟩, c1, A7, c7, vs, rfl, .inr HB1.out.size, HBK7.out.set_ 2 _, HP.out.kept ⟨hb9.size, fun k hk _ => hb9.block k hk⟩ (fun _ _ h => .inl h),
        fun _ => ⟨B1, off1, rfl, .inr hB1, by have := HR1.out.lt; have := hb8.size; omega, fun j hj => (hb8.cell (p := ⟨B1, off1 + j, none⟩) HR1.out.lt).trans (HR1.out.cell hj)⟩, v1,
        v2.kept hk8 (fun k _ h => .inr (by omega)), NIsV.kept hk8 (fun k _ h => .inr (by omega)) _ _ v3⟩
  · have q1 : ((D.length : Int) == 1) = false := by simpa using fun e => h1 (by omega)
    have HW := Lib.hid (show withinL g m P = [] by unfold withinL; rw [← HDE.out, if_neg h1])
    clear h1 hm
    go_wp2_with fail
    go_ret
    rw [← hw2]
    refine ⟨w1.heap.size, rfl, ?_, HB2.out⟩
    unfold NIAt
    rw [HW.out, ← HDE.out]
    exact ⟨w1.heap.size, A, cap, some ⟨B1, off1, none⟩, c1, none, 0, [], rfl, .inr HB1.out.size, HBL.out, HP.out.kept ⟨HB2.out.size, fun k hk _ => HB2.out.block k hk⟩ (fun _ _ h => .inl h), fun _ => ⟨B1, off1, rfl, .inr hB1, by have := HR1.out.lt; omega, fun j hj => (HB12.out.cell (p := ⟨B1, off1 + j, none⟩) HR1.out.lt).trans (HR1.out.cell hj)⟩, rfl, fun h => absurd h (by simp), by unfold NIsV; trivial⟩

/-- The place of the first that something holds of. -/
def fstG {α : Type} (p : α → Bool) (L : List α) : Int := if L.any p then ((L.findIdx p : Nat) : Int) else -1
theorem fstG_at {α : Type} {p : α → Bool} {L : List α} {k : Nat} (hk : k < L.length) (h : p L[k] = true) (hb : ∀ j (h : j < L.length), j < k → p L[j] = false) : fstG p L = k := by
  have hm : L.any p = true := List.any_eq_true.2 ⟨_, List.getElem_mem hk, h⟩
  unfold fstG
  rw [if_pos hm]
  congr 1
  rw [List.findIdx_eq hk]
  exact ⟨h, fun j hj => hb j (by omega) hj⟩
theorem fstG_no {α : Type} {p : α → Bool} {L : List α} (h : ∀ x ∈ L, p x = false) : fstG p L = -1 := by
  unfold fstG
  rw [if_neg (by rw [List.any_eq_true]; rintro ⟨x, hx, e⟩; rw [h x hx] at e; cases e)]
theorem fstG_find {α : Type} (p : α → Bool) (L : List α) : (fstG p L = -1 ∧ L.find? p = none) ∨ ∃ k, ∃ h : k < L.length, fstG p L = (k : Int) ∧ L.find? p = some L[k] := by
  by_cases hm : L.any p = true
  · right
    have h1 : L.findIdx p < L.length := List.findIdx_lt_length_of_exists (by simpa [List.any_eq_true] using hm)
    refine ⟨L.findIdx p, h1, by unfold fstG; rw [if_pos hm], ?_⟩
    rw [List.find?_eq_some_iff_getElem]
    exact ⟨List.findIdx_getElem (w := h1), L.findIdx p, h1, rfl, fun j hj => by simpa using List.not_of_lt_findIdx hj⟩
  · left
    have h : ∀ x ∈ L, p x = false := by
      intro x hx
      cases hp : p x with
      | false => rfl
      | true => exact absurd (List.any_eq_true.2 ⟨x, hx, hp⟩) hm
    exact ⟨fstG_no h, List.find?_eq_none.2 fun x hx => by rw [h x hx]; decide⟩

/-- The closure: is a block in a part? -/
theorem itemsOf1_any (A : Option Addr) (NB cap E n : Nat) (g : List Bl) (P : List Nat) (w : World) (hE : w.cell? ⟨E, 0, none⟩ = some (nptr NB n)) (hP : PtsI w A NB P) (hn : P.length ≤ 1048576) (hN : NodesIn w NB g) (hPg : ∀ x ∈ P, x < g.length) (hng : n < g.length) :
    Calls Tryz.prog 78 #[.slice A P.length cap, .pointer (some ⟨E, 0, none⟩)] w fun e w' => e = .returned (.bool (decide (n ∈ P))) ∧ w = w' := by
  have HC := Lib.hid (containsB_any A cap P NB g n w hP hn hN hPg hng)
  clear hP hN
  go_enter Tryz.func78, Tryz.ntmps78
  go_wp2_with fail
  refine HC.out.mono ?_
  rintro e w2 ⟨rfl, rfl⟩
  go_wp2_with fail
  go_ret
  exact ⟨rfl, rfl⟩

set_option maxRecDepth 100000 in
theorem indexParts_any (A : Option Addr) (NB cap B0 E n : Nat) (g : List Bl) (parts : List (List Nat)) (w : World) (hE : w.cell? ⟨E, 0, none⟩ = some (nptr NB n)) (hP : PartsR w A B0 NB parts) (hn : parts.length ≤ 1048576) (hl : ∀ P ∈ parts, P.length ≤ 26 ∧ ∀ x ∈ P, x < g.length) (hN : NodesIn w NB g) (hng : n < g.length) :
    Calls Tryz.prog 77 #[.slice A parts.length cap, .func (.func 78) #[] #[.pointer (some ⟨E, 0, none⟩)]] w fun e w' => e = .returned (.int .i64 (fstG (fun P => decide (n ∈ P)) parts)) ∧ w = w' := by
  have HP := Lib.hid hP
  have HL := Lib.hid hl
  have HN := Lib.hid hN
  have hent : ∀ args w, (callFunc 78 args).run Tryz.prog w = .ok (.enter 78 args) w := enters_of Tryz.func78 (by kernel_rfl) rfl
  have HI := Lib.hid (fun (A : Option Addr) (cap : Nat) (P : List Nat) (h1 : PtsI w A NB P) (h2 : P.length ≤ 1048576) (h3 : ∀ x ∈ P, x < g.length) => itemsOf1_any A NB cap E n g P w hE h1 h2 hN h3 hng)
  clear hP hl hN hE
  go_enter Tryz.func77, Tryz.ntmps77
  go_wp2_with fail
  go_loop [8] (fun i => ∃ k : Nat, k ≤ parts.length ∧ i = .int .i64 k ∧ Hid (∀ j (h : j < parts.length), j < k → decide (n ∈ parts[j]) = false)) (fun i => parts.length - (intOf i).toNat)
  case atStart => exact ⟨0, Nat.zero_le _, rfl, fun j _ h => absurd h (by omega)⟩
  case round =>
    obtain ⟨k, hk, rfl, HK⟩ := hrel
    by_cases hlt : k < parts.length
    · obtain ⟨b, off, rfl, _, hb, hc⟩ := HP.out (by omega)
      obtain ⟨B, o, c, x0, _, _, hp⟩ := hc k hlt
      obtain ⟨P, hPe⟩ : ∃ P, P = parts[k] := ⟨_, rfl⟩
      rw [← hPe] at x0 hp
      have hPl := HL.out P (hPe ▸ List.getElem_mem hlt)
      have HGX := Lib.hid (HI.out _ c P hp (by omega) hPl.2)
      have HX := Lib.hid hPe
      clear hPe hc hp hPl
      by_cases hpx : n ∈ P
      · rw [decide_eq_true hpx] at HGX
        have HR := Lib.hid (show fstG (fun P => decide (n ∈ P)) parts = (k : Int) from fstG_at hlt (by rw [← HX.out]; exact decide_eq_true hpx) HK.out)
        clear hpx
        go_wp2_with fail
        refine HGX.out.mono ?_
        rintro e w2 ⟨rfl, rfl⟩
        go_wp2_with fail
        go_ret
        exact ⟨ret_int HR.out.symm, rfl⟩
      · rw [decide_eq_false hpx] at HGX
        have HNX := Lib.hid (show decide (n ∈ parts[k]) = false by rw [← HX.out]; exact decide_eq_false hpx)
        clear hpx
        go_wp2_with fail
        refine HGX.out.mono ?_
        rintro e w2 ⟨rfl, rfl⟩
        go_wp2_with fail
        go_round
        case rel =>
          refine ⟨k + 1, by omega, by go_num, fun j h hj => ?_⟩
          rcases Nat.lt_succ_iff_lt_or_eq.1 hj with hj | rfl
          · exact HK.out j h hj
          · exact HNX.out
        case measure => simp [intOf]; omega
    · have HR := Lib.hid (show fstG (fun P => decide (n ∈ P)) parts = -1 from fstG_no fun x hx => by
        obtain ⟨j, hj, rfl⟩ := List.getElem_of_mem hx
        exact HK.out j hj (by omega))
      go_wp2_with fail
      go_ret
      exact ⟨ret_int HR.out.symm, rfl⟩
theorem info_nitem : (Tryz.prog.info? 87).map (fun i => (i.zero, i.size, i.bytes)) = some (some .nilIface, 1, 16) := by kernel_rfl

set_option maxRecDepth 100000 in
set_option maxHeartbeats 4000000 in
theorem itemsOf_step (TB NB m : Nat) (g : List Bl) (hv : validB g = true) (S : List Nat) (ih : 0 < S.length → ItemsGoes TB NB g m) : ItemsAt TB NB g (m + 1) S := by
  intro A cap w hSm hT hP hSg hSu
  obtain ⟨i0, hi0, hz0, hz1, hz2⟩ := info_parts info_nitem
  have hg26 := (valid_iff.1 hv).2.1
  have hSn : S.Nodup := hSu.imp fun h => Nat.ne_of_lt h
  have hSl : S.length ≤ 26 := Nat.le_trans (nodup_lt_len _ _ hSn hSg) hg26
  have HPA := Lib.hid (partsAmong_any A NB cap g S w hv hP hT.nodes hSg hSn)
  have HPG := Lib.hid (show ∀ P ∈ tparts g S, (P.length ≤ 26 ∧ ∀ x ∈ P, x < g.length) ∧ P.Pairwise (· < ·) ∧ 0 < P.length from fun P hP => by
    obtain ⟨i, hi, e⟩ := tparts_good hSg hSn hSl hP
    have h1 : ∀ x ∈ P, x < g.length := fun x hx => hSg x (partL_sub hSg (e ▸ hx))
    have h2 : P.Pairwise (· < ·) := by rw [e]; exact partL_up g S i
    exact ⟨⟨Nat.le_trans (nodup_lt_len _ _ (h2.imp fun h => Nat.ne_of_lt h) h1) hg26, h1⟩, h2, List.length_pos_of_mem hi⟩)
  have HPL := Lib.hid (show (tparts g S).length ≤ 26 from Nat.le_trans (tall_parts g S S) ((tall_inv hSg hSn hSl S fun _ h => h).1.small hSl))
  have HFD := Lib.hid (fun i (hi : i ∈ S) => tparts_found hSg hSn hSl hi)
  have HT := Lib.hid hT
  have HP := Lib.hid hP
  have HSG := Lib.hid hSg
  have HIH := Lib.hid ih
  clear hT hP ih
  go_enter Tryz.func65, Tryz.ntmps65
  go_wp2_with fail
  refine HPA.out.mono ?_
  rintro e w1 ⟨A1, c1, rfl, hR1, hb1⟩
  have HR1 := Lib.hid hR1
  have HB1 := Lib.hid hb1
  have HT1 := Lib.hid (HT.out.below hb1)
  clear hR1 hb1
  go_wp2_with fail
  go_loopw [6, 14] (fun v0 i wr => ∃ (j : Nat) (r : Nat → Nat) (vs : List Value) (v : Value), v = v0 ∧ j ≤ S.length ∧ i = .int .i64 j ∧ Hid (Row wr 87 1 (fun k => r k = 1) v ((S.take j).filterMap (itemO g S (nestF g m))).length vs) ∧ Hid (vs.length = ((S.take j).filterMap (itemO g S (nestF g m))).length) ∧ Hid (NIsV wr (fun k => r k ≠ 1 ∧ w.heap.size ≤ k) NB ((S.take j).filterMap (itemO g S (nestF g m))) vs) ∧ Hid (∀ k, k < wr.heap.size → r k = 1 → w1.heap.size ≤ k) ∧ Hid (Below w1.heap.size w1 wr)) (fun _ i _ => S.length - (intOf i).toNat)
  case atStart => exact ⟨0, fun _ => 0, [], _, rfl, Nat.zero_le _, rfl, Row.nil _ _ _ _, rfl, (by show NIsV _ _ _ [] []; unfold NIsV; trivial), (fun k _ h => by cases h), Below.refl _ _⟩
  case round =>
    obtain ⟨j, r, vs, v, rfl, hj, rfl, HRW, HVL, HNV, HRO, HBR⟩ := hrel
    obtain ⟨cur, hcur⟩ : ∃ cur, cur = (S.take j).filterMap (itemO g S (nestF g m)) := ⟨_, rfl⟩
    rw [← hcur] at HRW HVL HNV
    have hcl : cur.length ≤ 26 := by
      have h1 := List.length_filterMap_le (itemO g S (nestF g m)) (S.take j)
      rw [← hcur, List.length_take] at h1; omega
    have hT3 := HT1.out.below HBR.out
    by_cases hlt : j < S.length
    · obtain ⟨bS, offS, hAe, hbS, hcS⟩ := HP.out (by omega)
      subst hAe
      obtain ⟨x, hx⟩ : ∃ x, x = S[j] := ⟨_, rfl⟩
      have hxS : x ∈ S := hx ▸ List.getElem_mem hlt
      have hxg := HSG.out x hxS
      have hw01 := HB1.out.size
      have cx : wr.cell? ⟨bS, offS + j, none⟩ = some (nptr NB x) := by
        rw [HBR.out.cell (p := ⟨bS, offS + j, none⟩) (show bS < w1.heap.size by omega), HB1.out.cell (p := ⟨bS, offS + j, none⟩) hbS, hx]; exact hcS j hlt
      have HCU := Lib.hid (show (S.take (j + 1)).filterMap (itemO g S (nestF g m)) = cur ++ (itemO g S (nestF g m) x).toList by
        rw [List.take_succ_eq_append_getElem hlt, List.filterMap_append, ← hcur, ← hx]
        cases h : itemO g S (nestF g m) x <;> simp [h])
      have HCE := Lib.hid hcur
      clear hx hcS hcur
      -- the block's variable
      obtain ⟨w2, hw2⟩ : ∃ w2, w2 = wr.alloc (.cells #[nptr NB x] 73) := ⟨_, rfl⟩
      have hs2 : w2.heap.size = wr.heap.size + 1 := by rw [hw2]; simp
      have hb2 : Below wr.heap.size wr w2 := by rw [hw2]; exact (Below.refl _ _).alloc (Nat.le_refl _) _
      have hE2 : Boxed w2 wr.heap.size 73 (nptr NB x) := by rw [hw2]; exact Boxed.new wr _ _
      have hT2 := hT3.below hb2
      have HR2 := Lib.hid ((HR1.out.below HBR.out).below hb2)
      obtain ⟨r2, hr2⟩ : ∃ r2 : Nat → Nat, r2 = fun k => if k < wr.heap.size then r k else 0 := ⟨_, rfl⟩
      have hr2o : ∀ k, k < wr.heap.size → r2 k = r k := fun k hk => by rw [hr2]; exact if_pos hk
      have hk2 : ∀ O : Nat → Prop, Keeps O wr w2 := fun O => ⟨hb2.size, fun k hk _ => hb2.block k hk⟩
      have HRW2 := Lib.hid (HRW.out.kept (O' := fun k => r2 k = 1) (hk2 _) (fun k hk h => (hr2o k hk).trans h))
      have HNV2 := Lib.hid (NIsV.kept (K' := fun k => r2 k ≠ 1 ∧ w.heap.size ≤ k) (hk2 _) (fun k hk h => ⟨by rw [hr2o k hk]; exact h.1, h.2⟩) _ _ HNV.out)
      have HRO2 := Lib.hid (show ∀ k, k < w2.heap.size → r2 k = 1 → w1.heap.size ≤ k from fun k hk h => by
        by_cases hl : k < wr.heap.size
        · exact HRO.out k hl ((hr2o k hl).symm.trans h)
        · have := HBR.out.size; omega)
      have HBW2 := Lib.hid (HBR.out.trans (hb2.mono HBR.out.size))
      have HIX := Lib.hid (indexParts_any A1 NB c1 w.heap.size wr.heap.size x g (tparts g S) w2 hE2.cell HR2.out (by
        have h1 : ∀ (l : List (List Nat)), l.length ≤ 26 → l.length ≤ 1048576 := fun l h => by omega
        exact h1 _ HPL.out) (fun P hP => (HPG.out P hP).1) hT2.nodes hxg)
      have HT2 := Lib.hid hT2
      have cE := hE2.cell
      have HE2 := Lib.hid hE2
      have HS2 := Lib.hid hs2
      clear hr2 hr2o hk2 hb2 hE2 hT2 hT3 hs2 HRW HNV HRO HBR
      rcases fstG_find (fun P => decide (x ∈ P)) (tparts g S) with ⟨hf, hnone⟩ | ⟨k, hk, hf, hsome⟩
      · rw [hf] at HIX
        have hp0 : partL g S x = [] := by
          have := HFD.out x hxS
          rw [hnone] at this
          by_cases h : partL g S x = []
          · exact h
          · rw [if_neg h] at this; cases this
        have HCN := Lib.hid (show (S.take (j + 1)).filterMap (itemO g S (nestF g m)) = cur ++ [.blk x] by
          rw [HCU.out]; unfold itemO; rw [if_pos hp0]; rfl)
        have HITEM := Lib.hid (show NIAt w2 (fun k => r2 k ≠ 1 ∧ w.heap.size ≤ k) NB (.blk x) (.iface 100 (.agg #[nptr NB x])) by unfold NIAt; rfl)
        clear hf hnone hp0
        go_wp2_with fail
        rw [← hw2]
        clear hw2
        refine HIX.out.mono ?_
        rintro e w3 ⟨rfl, rfl⟩
        have HROW := Lib.hid (show Row (w2.alloc (.cells #[.iface 100 (.agg #[nptr NB x])] 87)) 87 1 (fun k => r2 k = 1) v cur.length vs from
          HRW2.out.kept (Turns.keeps (O := fun _ => False) (Turns.alloc _ _ _) fun _ _ h => h) fun _ _ h => h)
        have HNEW := Lib.hid (cell_one_new w2 (.iface 100 (.agg #[nptr NB x])) 87)
        go_wp2_with (at_builtin; go_loud (refine wpList_append_rowK (by rfl) _ _ _ (by rfl) 87 i0 .nilIface 1 Tryz.underlying55 hi0 hz0 hz1 (by rw [hz2]; decide) rfl (fun k => r2 k = 1) v cur.length vs (by rfl) HROW.out ⟨(w2).heap.size, 0, none⟩ 1 1 [.iface 100 (.agg #[nptr NB x])] (by rfl) (by rfl) HNEW.out (by simp [Value.oneCell']) ?c3 (by decide) ?_))
        case c3 => omega
        intro v' w9 hq' hT'
        obtain ⟨B', off', cap', rfl, _⟩ := hq'.cells
        have hs9 : (w2.alloc (.cells #[.iface 100 (.agg #[nptr NB x])] 87)).heap.size = (w2).heap.size + 1 := by simp
        have T9 : Turns (fun k => r2 k = 1) w2 w9 := (Turns.alloc _ w2 _).trans (hT'.wider fun k h => .inl h)
        have hk9 : Keeps (fun k => r2 k ≠ 1 ∧ w.heap.size ≤ k) w2 w9 := T9.keeps fun k h e => h.1 e
        have hKK : ∀ k, k < (w2).heap.size → (r2 k ≠ 1 ∧ w.heap.size ≤ k) → ((fun k => if k < (w2).heap.size then r2 k else 1) k ≠ 1 ∧ w.heap.size ≤ k) := fun k hk h => ⟨by show (if k < (w2).heap.size then r2 k else 1) ≠ 1; rw [if_pos hk]; exact h.1, h.2⟩
        have HN9 := Lib.hid (show NIsV w9 (fun k => (fun k => if k < (w2).heap.size then r2 k else 1) k ≠ 1 ∧ w.heap.size ≤ k) NB (cur ++ [NI.blk x]) (vs ++ [Value.iface 100 (.agg #[nptr NB x])]) from
          NIsV.snoc (NIAt.kept hk9 hKK _ _ HITEM.out) _ _ HVL.out (NIsV.kept hk9 hKK _ _ HNV2.out))
        have HR9 := Lib.hid (show Row w9 87 1 (fun k => (if k < (w2).heap.size then r2 k else 1) = 1) (.slice (some ⟨B', off', none⟩) (cur.length + 1) cap') (cur ++ [NI.blk x]).length (vs ++ [Value.iface 100 (.agg #[nptr NB x])]) by
          rw [List.length_append]
          refine .inr (hq'.kept (Keeps.refl _ _) fun k _ hk => ?_)
          rcases hk with hk | hk
          · by_cases hl : k < (w2).heap.size
            · rw [if_pos hl]; exact hk
            · rw [if_neg hl]
          · rw [hs9] at hk
            rw [if_neg (by omega)])
        have HB9 := Lib.hid (show Below w1.heap.size w1 w9 from HBW2.out.trans (T9.below HBW2.out.size fun k hk => by
          by_cases hl : k < (w2).heap.size
          · exact HRO2.out k hl hk
          · have := HBW2.out.size; omega))
        have HRO9 := Lib.hid (show ∀ k, k < w9.heap.size → (if k < (w2).heap.size then r2 k else 1) = 1 → w1.heap.size ≤ k from fun k _ h => by
          by_cases hl : k < (w2).heap.size
          · rw [if_pos hl] at h; exact HRO2.out k hl h
          · have := HBW2.out.size; omega)
        clear hq' hT' T9 hk9 hKK HROW HNEW
        go_wp2_with fail
        go_roundw
        case rel => exact ⟨j + 1, (fun k => if k < (w2).heap.size then r2 k else 1), vs ++ [Value.iface 100 (.agg #[nptr NB x])], _, rfl, by omega, by go_num, by rw [HCN.out]; exact HR9.out, (by rw [HCN.out]; show (vs ++ [Value.iface 100 (.agg #[nptr NB x])]).length = (cur ++ [NI.blk x]).length; rw [List.length_append, List.length_append, HVL.out]; rfl), by rw [HCN.out]; exact HN9.out, HRO9.out, HB9.out⟩
        case measure => simp [intOf]; omega
      · rw [hf] at HIX
        obtain ⟨P, hP⟩ : ∃ P, P = (tparts g S)[k] := ⟨_, rfl⟩
        have hPm : P ∈ tparts g S := hP ▸ List.getElem_mem hk
        obtain ⟨⟨hPl, hPg⟩, hPu, hPp⟩ := HPG.out P hPm
        have hPe : partL g S x ≠ [] ∧ P = partL g S x := by
          have := HFD.out x hxS
          rw [hsome, ← hP] at this
          by_cases h : partL g S x = []
          · rw [if_pos h] at this; cases this
          · rw [if_neg h] at this; exact ⟨h, Option.some.inj this⟩
        obtain ⟨b1, o1, rfl, hb10, hb1l, hc1⟩ := HR1.out (by omega)
        obtain ⟨B1, oB1, cB1, y0, hB10, hB1l, hp1⟩ := hc1 k hk
        rw [← hP] at y0 hp1
        have z0 : w2.cell? ⟨b1, o1 + k, none⟩ = some (.slice (some ⟨B1, oB1, none⟩) P.length cB1) := (HBW2.out.cell (p := ⟨b1, o1 + k, none⟩) hb1l).trans y0
        have hcP : ∀ i (h : i < P.length), w2.cell? ⟨B1, oB1 + i, none⟩ = some (nptr NB P[i]) := fun i hi => by
          obtain ⟨b', o', e, _, h2⟩ := hp1 hPp
          simp only [Option.some.injEq, Addr.mk.injEq, and_true] at e
          obtain ⟨rfl, rfl⟩ := e
          exact (HBW2.out.cell (p := ⟨B1, oB1 + i, none⟩) hB1l).trans (h2 i hi)
        obtain ⟨p0, hp0⟩ : ∃ p0, p0 = P[0] := ⟨_, rfl⟩
        have z1 : w2.cell? ⟨B1, oB1, none⟩ = some (nptr NB p0) := by have := hcP 0 hPp; rw [← hp0] at this; simpa using this
        have hp0g : p0 < g.length := hPg p0 (hp0 ▸ List.getElem_mem hPp)
        have hhead : (partL g S x).head? = some p0 := by rw [← hPe.2, hp0, List.head?_eq_getElem?, List.getElem?_eq_getElem hPp]
        have hkI : (k : Int) < (tparts g S).length := by omega
        have hk0 : (0 : Int) ≤ (k : Int) := by omega
        have hkn : ¬ (k : Int) < 0 := by omega
        have hPI : (0 : Int) < P.length := by omega
        obtain ⟨jt, hjt, hjs⟩ := Option.map_eq_some_iff.1 info_node
        have HPE := Lib.hid hPe
        have HHD := Lib.hid hhead
        have HCP := Lib.hid hcP
        have HPGG := Lib.hid hPg
        clear hf hsome hP hPm y0 hp1 hc1 hp0 hPe hhead hcP hPg
        by_cases hq : p0 = x
        · subst hq
          have heq := fun w => run_eql_ptr_same (P := Tryz.prog) w ⟨nb NB p0, 0, none⟩ Tryz.underlying73 hjt
          have HIT := Lib.hid (show itemO g S (nestF g m) p0 = some (.part P (doorsL g P) (withinL g m P)) by
            unfold itemO withinL
            rw [if_neg HPE.out.1, if_pos HHD.out, ← HPE.out.2])
          have HCN := Lib.hid (show (S.take (j + 1)).filterMap (itemO g S (nestF g m)) = cur ++ [NI.part P (doorsL g P) (withinL g m P)] by
            rw [HCU.out, HIT.out]; rfl)
          have HPO := Lib.hid (partOf_any TB NB m g hv (HIH.out (by omega)) (fun k => w.heap.size ≤ k ∧ k < w1.heap.size) P (some ⟨B1, oB1, none⟩) cB1 w2.drew (HT2.out.below (below_drewN w2 1)) (fun _ => ⟨B1, oB1, rfl, ⟨hB10, hB1l⟩, (by show B1 < w2.heap.size; have := HBW2.out.size; omega), HCP.out⟩) HPGG.out hPu hPp (fun h1 => by
            obtain ⟨d, hd⟩ : ∃ d, d ∈ doorsL g P := by
              cases hdl : doorsL g P with
              | nil => rw [hdl] at h1; cases h1
              | cons d ds => exact ⟨d, List.mem_cons_self⟩
            rw [HPE.out.2] at hd ⊢
            have := restL_len HSG.out hd
            omega))
          go_wp2_with fail
          rw [← hw2]
          clear hw2
          refine HIX.out.mono ?_
          rintro e w3 ⟨rfl, rfl⟩
          go_wp2_with fail
          go_region
          all_goals
            go_wp2_with fail
            refine HPO.out.mono ?_
            rintro e w3 ⟨b3, rfl, hI3, hb3⟩
            have hb3' : Below w2.heap.size w2 w3 := below_trans_self (below_drewN w2 1) hb3
            obtain ⟨r3, hr3⟩ : ∃ r3 : Nat → Nat, r3 = fun k => if k < w2.heap.size then r2 k else 0 := ⟨_, rfl⟩
            have hr3o : ∀ k, k < w2.heap.size → r3 k = r2 k := fun k hk => by rw [hr3]; exact if_pos hk
            have hr3n : ∀ k, ¬ k < w2.heap.size → r3 k = 0 := fun k hk => by rw [hr3]; exact if_neg hk
            have hk3 : ∀ O : Nat → Prop, Keeps O w2 w3 := fun O => ⟨hb3'.size, fun k hk _ => hb3'.block k hk⟩
            have HITEM := Lib.hid (show NIAt w3 (fun k => r3 k ≠ 1 ∧ w.heap.size ≤ k) NB (NI.part P (doorsL g P) (withinL g m P)) (.iface 61 (.pointer (some ⟨b3, 0, none⟩))) from
              NIAt.kept (Keeps.refl _ _) (fun k hk h => by
                rcases h with h | h
                · refine ⟨fun e => ?_, h.1⟩
                  by_cases hl : k < w2.heap.size
                  · have := HRO2.out k hl ((hr3o k hl).symm.trans e); omega
                  · rw [hr3n k hl] at e; cases e
                · have h2 : w2.heap.size ≤ k := h
                  refine ⟨fun e => ?_, by have := HBW2.out.size; omega⟩
                  rw [hr3n k (by omega)] at e; cases e) _ _ hI3)
            have HRW3 := Lib.hid (HRW2.out.kept (O' := fun k => r3 k = 1) (hk3 _) (fun k hk h => (hr3o k hk).trans h))
            have HNV3 := Lib.hid (NIsV.kept (K' := fun k => r3 k ≠ 1 ∧ w.heap.size ≤ k) (hk3 _) (fun k hk h => ⟨by rw [hr3o k hk]; exact h.1, h.2⟩) _ _ HNV2.out)
            have HRO3 := Lib.hid (show ∀ k, k < w3.heap.size → r3 k = 1 → w1.heap.size ≤ k from fun k hk h => by
              by_cases hl : k < w2.heap.size
              · exact HRO2.out k hl ((hr3o k hl).symm.trans h)
              · rw [hr3n k hl] at h; cases h)
            have HBW3 := Lib.hid (HBW2.out.trans (hb3'.mono HBW2.out.size))
            clear hr3 hr3o hr3n hk3 hI3 hb3 hb3' HRW2 HNV2 HRO2 HBW2
            have HROW := Lib.hid (show Row (w3.alloc (.cells #[.iface 61 (.pointer (some ⟨b3, 0, none⟩))] 87)) 87 1 (fun k => r3 k = 1) v cur.length vs from
              HRW3.out.kept (Turns.keeps (O := fun _ => False) (Turns.alloc _ _ _) fun _ _ h => h) fun _ _ h => h)
            have HNEW := Lib.hid (cell_one_new w3 (.iface 61 (.pointer (some ⟨b3, 0, none⟩))) 87)
            go_wp2_with (at_builtin; go_loud (refine wpList_append_rowK (by rfl) _ _ _ (by rfl) 87 i0 .nilIface 1 Tryz.underlying55 hi0 hz0 hz1 (by rw [hz2]; decide) rfl (fun k => r3 k = 1) v cur.length vs (by rfl) HROW.out ⟨(w3).heap.size, 0, none⟩ 1 1 [.iface 61 (.pointer (some ⟨b3, 0, none⟩))] (by rfl) (by rfl) HNEW.out (by simp [Value.oneCell']) ?c3 (by decide) ?_))
            case c3 => omega
            intro v' w9 hq' hT'
            obtain ⟨B', off', cap', rfl, _⟩ := hq'.cells
            have hs9 : (w3.alloc (.cells #[.iface 61 (.pointer (some ⟨b3, 0, none⟩))] 87)).heap.size = (w3).heap.size + 1 := by simp
            have T9 : Turns (fun k => r3 k = 1) w3 w9 := (Turns.alloc _ w3 _).trans (hT'.wider fun k h => .inl h)
            have hk9 : Keeps (fun k => r3 k ≠ 1 ∧ w.heap.size ≤ k) w3 w9 := T9.keeps fun k h e => h.1 e
            have hKK : ∀ k, k < (w3).heap.size → (r3 k ≠ 1 ∧ w.heap.size ≤ k) → ((fun k => if k < (w3).heap.size then r3 k else 1) k ≠ 1 ∧ w.heap.size ≤ k) := fun k hk h => ⟨by show (if k < (w3).heap.size then r3 k else 1) ≠ 1; rw [if_pos hk]; exact h.1, h.2⟩
            have HN9 := Lib.hid (show NIsV w9 (fun k => (fun k => if k < (w3).heap.size then r3 k else 1) k ≠ 1 ∧ w.heap.size ≤ k) NB (cur ++ [NI.part P (doorsL g P) (withinL g m P)]) (vs ++ [Value.iface 61 (.pointer (some ⟨b3, 0, none⟩))]) from
              NIsV.snoc (NIAt.kept hk9 hKK _ _ HITEM.out) _ _ HVL.out (NIsV.kept hk9 hKK _ _ HNV3.out))
            have HR9 := Lib.hid (show Row w9 87 1 (fun k => (if k < (w3).heap.size then r3 k else 1) = 1) (.slice (some ⟨B', off', none⟩) (cur.length + 1) cap') (cur ++ [NI.part P (doorsL g P) (withinL g m P)]).length (vs ++ [Value.iface 61 (.pointer (some ⟨b3, 0, none⟩))]) by
              rw [List.length_append]
              refine .inr (hq'.kept (Keeps.refl _ _) fun k _ hk => ?_)
              rcases hk with hk | hk
              · by_cases hl : k < (w3).heap.size
                · rw [if_pos hl]; exact hk
                · rw [if_neg hl]
              · rw [hs9] at hk
                rw [if_neg (by omega)])
            have HB9 := Lib.hid (show Below w1.heap.size w1 w9 from HBW3.out.trans (T9.below HBW3.out.size fun k hk => by
              by_cases hl : k < (w3).heap.size
              · exact HRO3.out k hl hk
              · have := HBW3.out.size; omega))
            have HRO9 := Lib.hid (show ∀ k, k < w9.heap.size → (if k < (w3).heap.size then r3 k else 1) = 1 → w1.heap.size ≤ k from fun k _ h => by
              by_cases hl : k < (w3).heap.size
              · rw [if_pos hl] at h; exact HRO3.out k hl h
              · have := HBW3.out.size; omega)
            clear hq' hT' T9 hk9 hKK HROW HNEW
            go_wp2_with fail
            go_roundw
            case rel => exact ⟨j + 1, (fun k => if k < (w3).heap.size then r3 k else 1), vs ++ [Value.iface 61 (.pointer (some ⟨b3, 0, none⟩))], _, rfl, by omega, by go_num, by rw [HCN.out]; exact HR9.out, (by rw [HCN.out]; show (vs ++ [Value.iface 61 (.pointer (some ⟨b3, 0, none⟩))]).length = (cur ++ [NI.part P (doorsL g P) (withinL g m P)]).length; rw [List.length_append, List.length_append, HVL.out]; rfl), by rw [HCN.out]; exact HN9.out, HRO9.out, HB9.out⟩
            case measure => simp [intOf]; omega
        · have heq := run_eql_ptr_other (P := Tryz.prog) w2 (a := ⟨nb NB p0, 0, none⟩) (b := ⟨nb NB x, 0, none⟩) Tryz.underlying73 hjt (by rw [hjs]; decide) (nb_neB hq) (HT2.out.nodes p0 hp0g) (HT2.out.nodes x hxg)
          have heq2 := run_eql_ptr_other (P := Tryz.prog) w2.drew (a := ⟨nb NB p0, 0, none⟩) (b := ⟨nb NB x, 0, none⟩) Tryz.underlying73 hjt (by rw [hjs]; decide) (nb_neB hq) (HT2.out.nodes p0 hp0g) (HT2.out.nodes x hxg)
          have HCN := Lib.hid (show (S.take (j + 1)).filterMap (itemO g S (nestF g m)) = cur by
            rw [HCU.out]; unfold itemO
            rw [if_neg HPE.out.1, if_neg (by rw [HHD.out]; simpa using hq)]; simp)
          have HNVD := Lib.hid (show NIsV w2.drew (fun k => r2 k ≠ 1 ∧ w.heap.size ≤ k) NB cur vs from NIsV.kept (w := w2) (w' := w2.drew) ⟨Nat.le_refl _, fun _ _ _ => rfl⟩ (fun _ _ h => h) _ _ HNV2.out)
          clear hq
          go_wp2_with fail
          rw [← hw2]
          clear hw2
          refine HIX.out.mono ?_
          rintro e w3 ⟨rfl, rfl⟩
          go_wp2_with fail
          go_region
          all_goals
            go_wp2_with fail
            go_roundw
            case rel => exact ⟨j + 1, r2, vs, _, rfl, by omega, by go_num, by rw [HCN.out]; exact HRW2.out, by rw [HCN.out]; exact HVL.out, by rw [HCN.out]; exact HNVD.out, HRO2.out, HBW2.out.drew⟩
            case measure => simp [intOf]; omega
    · have HR := Lib.hid (show nestF g (m + 1) S = cur by
        rw [nestF_succ, hcur, List.take_of_length_le (by omega)])
      have hv7 : ∃ A7 c7, v = .slice A7 cur.length c7 ∧ ValK wr (fun k => w.heap.size ≤ k) A7 vs := by
        rcases HRW.out with ⟨h1, h2, h3⟩ | hq
        · exact ⟨none, 0, by rw [h1, h2], fun h => by rw [h3] at h; cases h⟩
        · obtain ⟨B7, o7, c7, h1, _, h3, h4, h5⟩ := hq.cells
          refine ⟨_, c7, h1, fun _ => ⟨B7, o7, rfl, ?_, h4, fun i hi => ?_⟩⟩
          · have := HRO.out B7 h4 h3; have := HB1.out.size; omega
          · rw [h5 i hi, List.getElem?_eq_getElem hi]
      obtain ⟨A7, c7, rfl, hV⟩ := hv7
      have HV := Lib.hid hV
      clear hcur hV
      go_wp2_with fail
      go_ret
      refine ⟨A7, c7, ret_slN (by rw [HR.out]), ?_, HB1.out.trans (HBR.out.mono HB1.out.size)⟩
      rw [HR.out]
      exact ⟨vs, HVL.out, HV.out, NIsV.kept (Keeps.refl _ _) (fun _ _ h => h.2) _ _ HNV.out⟩

/-- The items of some blocks. -/
theorem itemsOf_any (TB NB : Nat) (g : List Bl) (hv : validB g = true) : ∀ m, ItemsGoes TB NB g m
  | 0 => fun S A cap w hSm hT hP hSg hSu => by
    have e : S = [] := List.eq_nil_of_length_eq_zero (by omega)
    subst e
    exact itemsOf_step TB NB 0 g hv [] (fun h => absurd h (by simp)) A cap w (Nat.zero_le _) hT hP hSg hSu
  | m + 1 => fun S => itemsOf_step TB NB m g hv S fun _ => itemsOf_any TB NB g hv m
end Go.Proofs.YtdpjdhllaokbfaaGreat
