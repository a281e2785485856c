/-
  Contracts of the model's l1Some, l1Any, l1Place: a small list of blocks is drawn, and a text.
-/
import Derived.Test.YtimgkjlhahapnabGood
namespace Go.Proofs.Ytimgkjlhahapnab
open Go.RowKit Go.Sort

theorem cells2_one (g : List Bl) : ∀ u ∈ cells2 g, u.oneCell' = true := by
  intro u hu
  unfold cells2 at hu
  obtain ⟨b, _, hb⟩ := List.mem_flatMap.1 hu
  simp only [List.mem_cons, List.not_mem_nil, or_false] at hb
  rcases hb with rfl | rfl <;> rfl

theorem of5a (R : Nat) (A : Option Addr) (len cap p : Nat) (w : World) (h : Rd w R A len cap p) (hp : p ≤ 1048576) :
    Calls Try.prog 72 #[.pointer (some ⟨R, 0, none⟩), .slice (some ⟨w.heap.size, 0, none⟩) 5 5] (w.alloc (.cells #[.string ⟨#[65]⟩, .string ⟨#[74]⟩, .string ⟨#[107]⟩, .string ⟨#[]⟩, .string ⟨#[65, 66]⟩] 9)) fun e w' => ∃ s : ByteArray, e = .returned (.string s) ∧ s.size ≤ 3 ∧ Only R w w' ∧ Rd w' R A len cap (p + 1) := by
  refine (of2 R A len cap p [⟨#[65]⟩, ⟨#[74]⟩, ⟨#[107]⟩, ⟨#[]⟩, ⟨#[65, 66]⟩] w h (by decide) (by decide) hp).mono ?_
  rintro e w' ⟨z, rfl, hz, o, r⟩
  refine ⟨z, rfl, ?_, o, r⟩
  revert z; decide

theorem of5b (R : Nat) (A : Option Addr) (len cap p : Nat) (w : World) (h : Rd w R A len cap p) (hp : p ≤ 1048576) :
    Calls Try.prog 72 #[.pointer (some ⟨R, 0, none⟩), .slice (some ⟨w.heap.size, 0, none⟩) 5 5] (w.alloc (.cells #[.string ⟨#[65]⟩, .string ⟨#[65, 65]⟩, .string ⟨#[89]⟩, .string ⟨#[65, 65, 65]⟩, .string ⟨#[]⟩] 9)) fun e w' => ∃ s : ByteArray, e = .returned (.string s) ∧ s.size ≤ 3 ∧ Only R w w' ∧ Rd w' R A len cap (p + 1) := by
  refine (of2 R A len cap p [⟨#[65]⟩, ⟨#[65, 65]⟩, ⟨#[89]⟩, ⟨#[65, 65, 65]⟩, ⟨#[]⟩] w h (by decide) (by decide) hp).mono ?_
  rintro e w' ⟨z, rfl, hz, o, r⟩
  refine ⟨z, rfl, ?_, o, r⟩
  revert z; decide

set_option maxHeartbeats 3200000 in
set_option maxRecDepth 100000 in
theorem some_any (R : Nat) (A : Option Addr) (len cap p : Nat) (w : World) (hr : Rd w R A len cap p) (hp : p ≤ 1000) :
    Calls Try.prog 43 #[.pointer (some ⟨R, 0, none⟩)] w (GoodPost 50 103 R A len cap p w) := by
  obtain ⟨i0, hi, hz0, hz1, hz2⟩ := info_parts info_block
  have hRlt := hr.blk.lt
  have HR := Lib.hid hr
  clear hr
  go_enter Try.func43, Try.ntmps43
  go_wp2_with fail
  refine (good_any R A len cap p w HR.out hp).mono ?_
  rintro e w1 ⟨v, g, q, rfl, hown, hg, ho1, r1, hq⟩
  have HOWN := Lib.hid hown
  have HO1 := Lib.hid ho1
  have HR1 := Lib.hid r1
  clear hown ho1 r1
  go_wp2_with fail
  refine (pick2 R A len cap q 30 w1 HR1.out (by omega) (by omega) (by omega)).mono ?_
  rintro e w2 ⟨x, rfl, hx, o2, r2⟩
  have HOWN2 := Lib.hid (ownRow_only HOWN.out hRlt o2)
  have HO2 := Lib.hid (HO1.out.trans o2)
  have HR2 := Lib.hid r2
  clear o2 r2
  by_cases h0 : x = 0
  · have g0 : ((x : Int) == 0) = true := by rw [h0]; rfl
    clear h0
    have hs2 := HO2.out.size
    have HOA := Lib.hid (World.ownsRow_made (base := w.heap.size) (e := 38) (size := 2) w2 #[] 0 hs2 (Nat.zero_le _) rfl)
    have hlen : g.length ≤ 40 := by omega
    rcases HOWN2.out.2 with ⟨rfl, hn⟩ | ⟨gb, gcap, cur, rfl, hb, hgb, hnc, hcm, hcs, hct⟩
    · go_wp2_with (at_builtin; refine wpList_append_own_none _ rfl _ _ 23 rfl w.heap.size 38 i0 2 Try.underlying23 hi _ _ _ rfl HOA.out rfl ?_)
      have hg0 : g = [] := List.eq_nil_of_length_eq_zero hn
      have HVX : Hid (OwnBl (w2.alloc (.cells #[] 38)) w.heap.size (.slice (some ⟨w2.heap.size, 0, none⟩) 0 0) g) := by rw [hg0]; exact HOA.out
      have HOX : Hid (Only R w (w2.alloc (.cells #[] 38))) := HO2.out.alloc _
      have HRX : Hid (Rd (w2.alloc (.cells #[] 38)) R A len cap (q + 1)) := HR2.out.below ((Below.refl _ _).alloc (Nat.le_refl _) _)
      have hS5 := of5a R A len cap (q + 1) _ HRX.out (by omega)
      rw [show (w2.alloc (.cells #[] 38)).heap.size = w2.heap.size + 1 from by simp] at hS5
      have HS5 := Lib.hid hS5
      clear hS5
      refine HS5.out.mono ?_
      rintro e w4 ⟨nm, rfl, hnm, o4, r4⟩
      have HV4 := Lib.hid (ownRow_only HVX.out hRlt o4)
      have HO4 := Lib.hid (HOX.out.trans o4)
      have HR4 := Lib.hid r4
      clear o4 r4
      have HS6 := Lib.hid (of5b R A len cap (q + 2) w4 HR4.out (by omega))
      go_wp2_with fail
      refine HS6.out.mono ?_
      rintro e w5 ⟨nx, rfl, hnx, o5, r5⟩
      have HV5 := Lib.hid (ownRow_only HV4.out hRlt o5)
      have HO5 := Lib.hid (HO4.out.trans o5)
      have HR5 := Lib.hid r5
      have hs5 := (HO4.out.trans o5).size
      clear o5 r5
      go_wp2_with (at_builtin; refine wpList_append_own _ rfl _ _ 23 rfl w.heap.size 38 i0 _ 2 32 Try.underlying23 hi hz0 hz1 hz2 rfl (by decide) _ _ _ rfl (HV5.out.alloc _) ⟨w5.heap.size, 0, none⟩ 1 1 [.string nm, .string nx] rfl rfl ?d1 ?d2 ?d3 ?d4 ?d5 ?_)
      case d1 => exact World.news_of_block (cs := #[.string nm, .string nx]) (t := 38) (fr := (0, 0)) (heap_alloc_new w5 _)
      case d2 => simp [Value.oneCell']
      case d3 => unfold maxLen; omega
      case d4 => omega
      case d5 => simp; omega
      intro v9 w9 hown9 hgrow9 _
      have hrow := (HV5.out.alloc (.cells #[.string nm, .string nx] 38)).lt
      have HO9 := Lib.hid ((HO5.out.alloc (.cells #[.string nm, .string nx] 38)).grown hgrow9 (fun j hj => (hrow j hj).1))
      have HR9 := Lib.hid (HR.out.grown (HR5.out.below ((Below.refl _ _).alloc (Nat.le_refl _) (.cells #[.string nm, .string nx] 38))) hgrow9 (fun j hj => (hrow j hj).1))
      have HV9 : Hid (OwnBl w9 w.heap.size v9 (g ++ [(nm, nx)])) := by
        show w9.ownsRow w.heap.size 38 2 v9 (g ++ [(nm, nx)]).length (cells2 (g ++ [(nm, nx)]))
        rw [List.length_append, cells2_append, hg0]
        exact hown9
      clear hown9 hgrow9 hrow
      go_wp2_with fail
      exact bodyPost_ret (v := v9) (by simp [results, Try.results43, go_sem]) rfl ⟨v9, g ++ [(nm, nx)], q + 3, rfl, HV9.out, by simp only [tot_append, tot, List.length_append, List.length_cons, List.length_nil]; omega, HO9.out, HR9.out, by omega⟩
    · go_wp2_with (at_builtin; refine wpList_append_own _ rfl _ _ 23 rfl w.heap.size 38 i0 _ 2 32 Try.underlying23 hi hz0 hz1 hz2 rfl (by decide) _ _ _ rfl HOA.out ⟨gb, 0, none⟩ g.length gcap (cells2 g) rfl (cells2_length g) ?c1 (cells2_one g) ?c3 ?c4 ?c5 ?_)
      case c1 => exact (HOWN2.out.alloc _).cells rfl
      case c3 => unfold maxLen; omega
      case c4 => omega
      case c5 => simp; omega
      intro v' w8 hown' hgrow _
      have HVX : Hid (OwnBl w8 w.heap.size v' g) := by
        show w8.ownsRow w.heap.size 38 2 v' g.length (cells2 g)
        exact hown'
      have HOX := Lib.hid ((HO2.out.alloc (.cells #[] 38)).grown hgrow (fun j hj => (HOA.out.lt j hj).1))
      have HRX := Lib.hid (HR.out.grown (HR2.out.below ((Below.refl _ _).alloc (Nat.le_refl _) (.cells #[] 38))) hgrow (fun j hj => (HOA.out.lt j hj).1))
      clear hown' hgrow hgb
      have HS5 := Lib.hid (of5a R A len cap (q + 1) w8 HRX.out (by omega))
      have hsX : w.heap.size ≤ w8.heap.size := HOX.out.size
      go_wp2_with fail
      refine HS5.out.mono ?_
      rintro e w4 ⟨nm, rfl, hnm, o4, r4⟩
      have HV4 := Lib.hid (ownRow_only HVX.out hRlt o4)
      have HO4 := Lib.hid (HOX.out.trans o4)
      have HR4 := Lib.hid r4
      clear o4 r4
      have HS6 := Lib.hid (of5b R A len cap (q + 2) w4 HR4.out (by omega))
      go_wp2_with fail
      refine HS6.out.mono ?_
      rintro e w5 ⟨nx, rfl, hnx, o5, r5⟩
      have HV5 := Lib.hid (ownRow_only HV4.out hRlt o5)
      have HO5 := Lib.hid (HO4.out.trans o5)
      have HR5 := Lib.hid r5
      have hs5 := (HO4.out.trans o5).size
      clear o5 r5
      go_wp2_with (at_builtin; refine wpList_append_own _ rfl _ _ 23 rfl w.heap.size 38 i0 _ 2 32 Try.underlying23 hi hz0 hz1 hz2 rfl (by decide) _ _ _ rfl (HV5.out.alloc _) ⟨w5.heap.size, 0, none⟩ 1 1 [.string nm, .string nx] rfl rfl ?e1 ?e2 ?e3 ?e4 ?e5 ?_)
      case e1 => exact World.news_of_block (cs := #[.string nm, .string nx]) (t := 38) (fr := (0, 0)) (heap_alloc_new w5 _)
      case e2 => simp [Value.oneCell']
      case e3 => unfold maxLen; omega
      case e4 => omega
      case e5 => simp; omega
      intro v9 w9 hown9 hgrow9 _
      have hrow := (HV5.out.alloc (.cells #[.string nm, .string nx] 38)).lt
      have HO9 := Lib.hid ((HO5.out.alloc (.cells #[.string nm, .string nx] 38)).grown hgrow9 (fun j hj => (hrow j hj).1))
      have HR9 := Lib.hid (HR.out.grown (HR5.out.below ((Below.refl _ _).alloc (Nat.le_refl _) (.cells #[.string nm, .string nx] 38))) hgrow9 (fun j hj => (hrow j hj).1))
      have HV9 : Hid (OwnBl w9 w.heap.size v9 (g ++ [(nm, nx)])) := by
        show w9.ownsRow w.heap.size 38 2 v9 (g ++ [(nm, nx)]).length (cells2 (g ++ [(nm, nx)]))
        rw [List.length_append, cells2_append]
        exact hown9
      clear hown9 hgrow9 hrow
      go_wp2_with fail
      exact bodyPost_ret (v := v9) (by simp [results, Try.results43, go_sem]) rfl ⟨v9, g ++ [(nm, nx)], q + 3, rfl, HV9.out, by simp only [tot_append, tot, List.length_append, List.length_cons, List.length_nil]; omega, HO9.out, HR9.out, by omega⟩
  · have g0 : ((x : Int) == 0) = false := by simp; omega
    by_cases h1 : x = 1
    · have g1 : ((x : Int) == 1) = true := by rw [h1]; rfl
      clear h0 h1
      rcases HOWN2.out.2 with ⟨rfl, hn⟩ | ⟨gb, gcap, cur, rfl, hb, hgb, hnc, hcm, hcs, hct⟩
      · go_wp2_with fail
        exact bodyPost_ret (v := .slice none 0 0) (by simp [results, Try.results43, go_sem]) rfl ⟨.slice none 0 0, [], q + 1, rfl, World.ownsRow_nil _ _ _ _, by simp [tot], HO2.out, HR2.out, by omega⟩
      · go_wp2_with fail
        exact bodyPost_ret (v := .slice (some ⟨gb, 0, none⟩) 0 gcap) (by simp [results, Try.results43, go_sem]) rfl ⟨.slice (some ⟨gb, 0, none⟩) 0 gcap, [], q + 1, rfl, ⟨by simp [cells2], .inr ⟨gb, gcap, cur, rfl, hb, hgb, Nat.zero_le _, hcm, hcs, by simp [cells2]⟩⟩, by simp [tot], HO2.out, HR2.out, by omega⟩
    · have g1 : ((x : Int) == 1) = false := by simp; omega
      clear h0 h1
      go_wp2_with fail
      exact bodyPost_ret (v := v) (by simp [results, Try.results43, go_sem]) rfl ⟨v, g, q + 1, rfl, HOWN2.out, by omega, HO2.out, HR2.out, by omega⟩
end Go.Proofs.Ytimgkjlhahapnab
