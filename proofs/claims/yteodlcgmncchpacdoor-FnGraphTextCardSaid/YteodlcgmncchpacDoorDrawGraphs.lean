/-
  Draws of a graph, now and then a long one: the model's DrawGraphValid.
-/
import Derived.Test.YteodlcgmncchpacDoorSome
import Derived.Test.YteodlcgmncchpacDoorLaw
import Derived.Laws.BytesArg
import Derived.IntWalk
namespace Go.Proofs.YteodlcgmncchpacDoor
open Go.RowKit Go.Sort

theorem num3 (R : Nat) (A : Option Addr) (len cap p : Nat) (w : World) (h : Rd w R A len cap p) (hp : p ≤ 1048576) :
    Calls Tryd.prog 26 #[.pointer (some ⟨R, 0, none⟩), .slice (some ⟨w.heap.size, 0, none⟩) 3 3] (w.alloc (.cells #[.int .i64 26, .int .i64 27, .int .i64 25] 3)) fun e w' => ∃ n : Nat, e = .returned (.int .i64 n) ∧ n ≤ 27 ∧ Only R w w' := by
  refine (num2 R A len cap p [26, 27, 25] w h (by decide) (by decide) hp).mono ?_
  rintro e w' ⟨z, rfl, hz, o, r⟩
  simp only [List.mem_cons, List.not_mem_nil, or_false] at hz
  exact ⟨z.toNat, ret_int (by omega), by omega, o⟩

theorem one_letter (x : Int) : (strOfNums [x]).size = 1 := rfl

set_option maxRecDepth 100000 in
set_option maxHeartbeats 3200000 in
theorem drawGraphValid_any (A : Option Addr) (len cap : Nat) (w : World) (hb : Bytes w A len) (hlc : len ≤ cap) (hl : cap ≤ 9223372036854775807) :
    Calls Tryd.prog 8 #[.slice A len cap] w (DrawPost 100 w) := by
  obtain ⟨i0, hi, hz0, hz1, hz2⟩ := info_parts info_block
  have HC := Lib.hid (open_any A len cap w hb hlc hl)
  clear hb
  go_enter Tryd.func8, Tryd.ntmps8
  go_wp2_with fail
  refine HC.out.mono ?_
  rintro e w1 ⟨A', len', cap', rfl, hrd, b1⟩
  have HR1 := Lib.hid hrd
  have HB := Lib.hid b1
  have hs1 := b1.size
  have hRlt := hrd.blk.lt
  clear hrd b1
  go_wp2_with fail
  refine (pick2 w.heap.size A' len' cap' 0 14 w1 HR1.out (by omega) (by omega) (by omega)).mono ?_
  rintro e w2 ⟨x, rfl, hx, o2, r2⟩
  have HB2 := Lib.hid (Only.below HB.out o2)
  have HR2 := Lib.hid r2
  have hs2 := o2.size
  clear o2 r2
  by_cases hx0 : x = 0
  · have g0 : ((x : Int) == 0) = true := by rw [hx0]; rfl
    clear hx0
    have HR3 : Hid (Rd (w2.alloc (.cells #[] 52)) w.heap.size A' len' cap' 1) := HR2.out.below ((Below.refl _ _).alloc (Nat.le_refl _) _)
    have HB3 : Hid (Below w.heap.size w (w2.alloc (.cells #[] 52))) := HB2.out.alloc (by omega) _
    have HO3 := Lib.hid (World.ownsRow_made (base := w1.heap.size) (e := 52) (size := 2) w2 #[] 0 (by omega) (Nat.zero_le _) rfl)
    obtain ⟨w3, hw3⟩ : ∃ w3, w3 = w2.alloc (.cells #[] 52) := ⟨_, rfl⟩
    have hsz3 : w3.heap.size = w2.heap.size + 1 := by rw [hw3]; simp
    rw [← hw3] at HR3 HB3 HO3
    have HN := Lib.hid (num3 w.heap.size A' len' cap' 1 w3 HR3.out (by omega))
    go_wp2_with fail
    rw [← hw3, ← hsz3]
    refine HN.out.mono ?_
    rintro e w4 ⟨n, rfl, hn, o4⟩
    have HB4 := Lib.hid (Only.below HB3.out o4)
    have HO4 := Lib.hid (ownRow_only HO3.out hRlt o4)
    have hs4 : w1.heap.size ≤ w4.heap.size := by have := o4.size; omega
    clear o4 hw3 hsz3
    go_wp2_with fail
    go_loopw [4, 15] (fun v i wr => ∃ (k : Nat) (g : List Bl), k ≤ n ∧ i = .int .i64 k ∧ g.length = k ∧ tot g = 2 * k ∧ OwnBl wr w1.heap.size v g ∧ Below w.heap.size w wr ∧ w1.heap.size ≤ wr.heap.size) (fun _ i _ => n - (intOf i).toNat)
    case atStart => exact ⟨0, [], Nat.zero_le _, rfl, rfl, rfl, HO4.out, HB4.out, hs4⟩
    case round =>
      obtain ⟨k, g, hk, rfl, hgl, hgt, hown, hB, hss⟩ := hrel
      have HB := Lib.hid hB
      have HGL := Lib.hid hgl
      have HGT := Lib.hid hgt
      by_cases hlt : k < n
      · have hmd : 0 ≤ (65 : Int) + k ∧ (65 : Int) + k ≤ 255 := by omega
        have hcv : ∀ X : Int, (convert 22 9 (.slice (some ⟨wr.heap.size, 0, none⟩) 1 1)).run Tryd.prog (wr.alloc (.cells #[.int .u8 X] 5)) = .ok (.string (strOfNums [X])) (wr.alloc (.cells #[.int .u8 X] 5)) := fun X =>
          run_convert_bytes_arg (wr.alloc (.cells #[.int .u8 X] 5)) 22 5 Tryd.underlying22 Tryd.underlying5 wr.heap.size 0 1 1 [X] rfl (fun i hi => by
            have : i = 0 := by omega
            subst this
            exact (Blk.new wr 5 #[.int .u8 X]).cell 0) 9 Tryd.underlying9
        obtain ⟨wa, hwa⟩ : ∃ wa, wa = wr.alloc (.cells #[.int .u8 (65 + (k : Int))] 5) := ⟨_, rfl⟩
        have hsza : wa.heap.size = wr.heap.size + 1 := by rw [hwa]; simp
        have hown0 : wa.ownsRow w1.heap.size 52 2 _ g.length (cells2 g) := hwa ▸ hown.alloc (.cells #[.int .u8 (65 + (k : Int))] 5)
        have HBa : Hid (Below w.heap.size w wa) := hwa ▸ hB.alloc hB.size (.cells #[.int .u8 (65 + (k : Int))] 5)
        rw [hgl] at hown0
        have HOWN := Lib.hid hown0
        have HWA := Lib.hid hwa
        have HSZA := Lib.hid hsza
        have hbs := HBa.out.size
        clear hown hown0 hgl hgt hB hwa hsza
        go_wp2_with (at_builtin; (rw [← HWA.out, ← HSZA.out]); refine wpList_append_own _ rfl _ _ 23 rfl w1.heap.size 52 i0 _ 2 32 Tryd.underlying23 hi hz0 hz1 hz2 rfl (by decide) _ _ _ rfl (HOWN.out.alloc _) ⟨wa.heap.size, 0, none⟩ 1 1 [.string (strOfNums [65 + (k : Int)]), .string ⟨#[65]⟩] rfl rfl ?c1 ?c2 ?c3 ?c4 ?c5 ?_)
        case c1 =>
          exact World.news_of_block (cs := #[.string (strOfNums [65 + (k : Int)]), .string ⟨#[65]⟩]) (t := 52) (fr := (0, 0)) (heap_alloc_new wa _)
        case c2 => simp [Value.oneCell']
        case c3 => unfold maxLen; omega
        case c4 => omega
        case c5 => have := HSZA.out; simp; omega
        intro v' w8 hown' hgrow _
        have hrow := (HOWN.out.alloc (.cells #[.string (strOfNums [65 + (k : Int)]), .string ⟨#[65]⟩] 52)).lt
        have hszb : wa.heap.size ≤ w8.heap.size := by have := (Below.refl wa.heap.size wa).alloc (Nat.le_refl _) (.cells #[.string (strOfNums [65 + (k : Int)]), .string ⟨#[65]⟩] 52); have := hgrow.size; simp at this; omega
        have HB8 := Lib.hid ((HBa.out.alloc hbs (.cells #[.string (strOfNums [65 + (k : Int)]), .string ⟨#[65]⟩] 52)).grown hgrow (by simp; omega) (fun j hj => by have := (hrow j hj).1; omega))
        have HO9 : Hid (OwnBl w8 w1.heap.size v' (g ++ [(strOfNums [65 + (k : Int)], ⟨#[65]⟩)])) := by
          show w8.ownsRow w1.heap.size 52 2 v' (g ++ [(strOfNums [65 + (k : Int)], (⟨#[65]⟩ : ByteArray))]).length (cells2 (g ++ [(strOfNums [65 + (k : Int)], (⟨#[65]⟩ : ByteArray))]))
          rw [List.length_append, cells2_append, HGL.out]
          exact hown'
        have HT9 : Hid (tot (g ++ [(strOfNums [65 + (k : Int)], (⟨#[65]⟩ : ByteArray))]) = 2 * (k + 1)) := by
          show tot (g ++ [(strOfNums [65 + (k : Int)], (⟨#[65]⟩ : ByteArray))]) = 2 * (k + 1)
          have := HGT.out
          rw [tot_append, this]
          show 2 * k + (1 + 1 + 0) = 2 * (k + 1)
          omega
        clear hown' hgrow hrow
        go_wp2_with fail
        go_roundw
        case rel => exact ⟨k + 1, g ++ [(strOfNums [65 + (k : Int)], ⟨#[65]⟩)], by omega, by go_num, by simp [HGL.out], HT9.out, HO9.out, HB8.out, by have := HSZA.out; omega⟩
        case measure => simp [intOf]; omega
      · have HOWN := Lib.hid (ownRow_base hown hs1)
        clear hown hB
        go_wp2_with fail
        refine bodyPost_ret (v := u4) (by simp [results, Tryd.results8, go_sem]) rfl ⟨u4, g, rfl, HOWN.out, ?_, HB.out⟩
        omega
  · have g0 : ((x : Int) == 0) = false := by simp; omega
    clear hx0
    have HS := Lib.hid (some_any w.heap.size A' len' cap' 1 w2 HR2.out (by omega))
    go_wp2_with fail
    refine HS.out.mono ?_
    rintro e w3 ⟨v, g, q, rfl, hown, hg, ho, _, _⟩
    have HOWN := Lib.hid (ownRow_base hown (by omega : w.heap.size ≤ w2.heap.size))
    have HB3 := Lib.hid (Only.below HB2.out ho)
    clear hown ho
    go_wp2_with fail
    exact bodyPost_ret (v := v) (by simp [results, Tryd.results8, go_sem]) rfl ⟨v, g, rfl, HOWN.out, by omega, HB3.out⟩
end Go.Proofs.YteodlcgmncchpacDoor
