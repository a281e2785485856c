import Derived.Test.YtgebedbankibmaaGreatDoorBase
import Derived.Test.YtgebedbankibmaaGreatDoorOnly
import Derived.Test.YtgebedbankibmaaGreatDoorOwnStr
import Derived.Laws.BytesArg
import Derived.Lib.QuietBelow
import Derived.Test.YtgebedbankibmaaGreatDoorValids
/-
  Lists of strings as they lie; the laws' markText, eqStringS, markStringS and heldStringS; lists of strings of a call's own.
-/
namespace Go.Proofs.YtgebedbankibmaaGreatDoor
open Go.RowKit Go.Sort

def digit (k : Nat) : ByteArray := strOfNums [48 + (k : Int) % 10]

/-- The digits of a number, before a text. -/
def mkF : Nat → Nat → ByteArray → ByteArray
  | 0, _, o => o
  | f + 1, k, o => if k = 0 then o else mkF f (k / 10) (digit k ++ o)

theorem mkF_zero (f : Nat) (o : ByteArray) : mkF f 0 o = o := by cases f <;> rfl
theorem mkF_step {f k : Nat} {o : ByteArray} (h : 0 < k) : mkF (f + 1) k o = mkF f (k / 10) (digit k ++ o) := by
  show (if k = 0 then o else mkF f (k / 10) (digit k ++ o)) = _
  rw [if_neg (by omega)]

/-- The mark of a number. -/
def mT (n : Nat) : ByteArray := ⟨#[109]⟩ ++ mkF 7 n ⟨#[]⟩

theorem digit_size (k : Nat) : (digit k).size = 1 := rfl

set_option maxRecDepth 100000 in
theorem markText_any (n : Nat) (w : World) (h1 : 1 ≤ n) (h2 : n ≤ 9999999) :
    Calls Tryz.prog 45 #[.int .i64 n] w fun e w' => e = .returned (.string (mT n)) ∧ Below w.heap.size w w' := by
  have h1' : ¬ n = 0 := by omega
  go_enter Tryz.func45, Tryz.ntmps45
  go_wp2_with fail
  go_loopw [0, 3] (fun x s wr => ∃ (f k : Nat) (o : ByteArray), x = .int .i64 k ∧ s = .string o ∧ o.size + f = 7 ∧ ((f = 7 ∧ k ≤ 9999999) ∨ (f = 6 ∧ k ≤ 999999) ∨ (f = 5 ∧ k ≤ 99999) ∨ (f = 4 ∧ k ≤ 9999) ∨ (f = 3 ∧ k ≤ 999) ∨ (f = 2 ∧ k ≤ 99) ∨ (f = 1 ∧ k ≤ 9) ∨ (f = 0 ∧ k = 0)) ∧ Hid (mT n = ⟨#[109]⟩ ++ mkF f k o) ∧ Below w.heap.size w wr) (fun x _ _ => (intOf x).toNat)
  case atStart => exact ⟨7, n, ⟨#[]⟩, rfl, rfl, rfl, .inl ⟨rfl, h2⟩, rfl, Below.refl _ _⟩
  case round =>
    obtain ⟨f, k, o, rfl, rfl, ho, hf, HM, hB⟩ := hrel
    by_cases hk : 0 < k
    · have g0 : decide ((0 : Int) < k) = true := by simp; omega
      have hk9 : k ≤ 9999999 := by omega
      obtain ⟨f', rfl⟩ : ∃ f', f = f' + 1 := ⟨f - 1, by omega⟩
      have HS := Lib.hid (HM.out.trans (by rw [mkF_step hk]))
      have hF : ((f' = 7 ∧ k / 10 ≤ 9999999) ∨ (f' = 6 ∧ k / 10 ≤ 999999) ∨ (f' = 5 ∧ k / 10 ≤ 99999) ∨ (f' = 4 ∧ k / 10 ≤ 9999) ∨ (f' = 3 ∧ k / 10 ≤ 999) ∨ (f' = 2 ∧ k / 10 ≤ 99) ∨ (f' = 1 ∧ k / 10 ≤ 9) ∨ (f' = 0 ∧ k / 10 = 0)) := by omega
      have HF := Lib.hid hF
      have hmd : 0 ≤ (k : Int) % 10 ∧ (k : Int) % 10 ≤ 9 := by omega
      have hcv : ∀ X : Int, (convert 22 9 (.slice (some ⟨wr.heap.size, 0, none⟩) 1 1)).run Tryz.prog (wr.alloc (.cells #[.int .u8 X] 5)) = .ok (.string (strOfNums [X])) (wr.alloc (.cells #[.int .u8 X] 5)) := fun X =>
        run_convert_bytes_arg (wr.alloc (.cells #[.int .u8 X] 5)) 22 5 Tryz.underlying22 Tryz.underlying5 wr.heap.size 0 1 1 [X] rfl (fun i hi => by
          have : i = 0 := by omega
          subst this
          exact (Blk.new wr 5 #[.int .u8 X]).cell 0) 9 Tryz.underlying9
      have hBA := hB.alloc hB.size (.cells #[.int .u8 (48 + (k : Int) % 10)] 5)
      have HBA := Lib.hid hBA
      have hdz : (strOfNums [48 + (k : Int) % 10]).size = 1 := digit_size k
      clear hBA hB hf hF
      go_wp2_with fail
      go_roundw
      case rel => exact ⟨f', k / 10, _, by go_num, rfl, by rw [ByteArray.size_append, hdz]; omega, HF.out, HS, HBA.out⟩
      case measure => simp [intOf]; omega
    · have hk0 : k = 0 := by omega
      subst hk0
      have HE := Lib.hid (show ⟨#[109]⟩ ++ o = mT n by rw [HM.out, mkF_zero])
      have hz : o.size ≤ 7 := by omega
      go_wp2_with fail
      go_ret
      exact ⟨ret_string HE.out, hB⟩

/-- A row of cells that holds marks: the first k cells. -/
def Marked (cs : Array Value) (n m k : Nat) : Prop := m ≤ cs.size ∧ ∀ j, j < k → cs[j]? = some (.string (mT (n + j)))

theorem Marked.step {cs : Array Value} {n m k : Nat} (h : Marked cs n m k) (hk : k < m) : Marked (cs.setIfInBounds k (.string (mT (n + k)))) n m (k + 1) := by
  refine ⟨by simpa using h.1, fun j hj => ?_⟩
  have hsz := h.1
  rw [Array.getElem?_setIfInBounds]
  by_cases e : k = j
  · subst e; rw [if_pos rfl, if_pos (by omega)]
  · rw [if_neg e]; exact h.2 j (by omega)

/-- Only one block's cells changed. -/
def MarkPost (B n m : Nat) (w : World) (e : Ending) (w' : World) : Prop :=
  e = .returned (.int .i64 ((n + m : Nat) : Int)) ∧ (∃ cs t, Blk w' B t cs ∧ Marked cs n m m) ∧ Only B w w'

theorem Only.setCell {R : Nat} {a w : World} (h : Only R a w) (j : Nat) (v : Value) : Only R a (w.setCell ⟨R, j, none⟩ v) :=
  h.trans ⟨rfl, rfl, rfl, by simp, fun k hk _ => Below.heap_setCell w ⟨R, j, none⟩ v k hk⟩

theorem only_belowS {B n : Nat} {w w' : World} (h : Only B w w') (h1 : n ≤ B) (h2 : n ≤ w.heap.size) : Below n w w' :=
  ⟨h.os, h.tape, h.output, h.size, fun k hk => h.block k (by omega) (by omega)⟩
/-- A list that holds marks. -/
def MarkedV (w : World) (v : Value) (n : Nat) : Prop := (v = .slice none 0 0 ∧ n = 0) ∨ ∃ B cap cs t, v = .slice (some ⟨B, 0, none⟩) n cap ∧ Blk w B t cs ∧ Marked cs 1 n n
theorem MarkedV.below {w w' : World} {v : Value} {n : Nat} (h : MarkedV w v n) (hb : Below w.heap.size w w') : MarkedV w' v n := by
  rcases h with h | ⟨B, cap, cs, t, e, hk, hm⟩
  · exact .inl h
  · exact .inr ⟨B, cap, cs, t, e, hk.below hb hk.lt, hm⟩

end Go.Proofs.YtgebedbankibmaaGreatDoor


/-
  Contracts of the laws' markText, markBlockS and heldBlockS.
-/
namespace Go.Proofs.YtgebedbankibmaaGreatDoor
open Go.RowKit Go.Sort

set_option maxRecDepth 100000 in
theorem mark_any' {cp : Nat} (B l : Nat) (t : TypeId) (cs : Array Value) (w : World) (hb : Blk w B t cs) (hs : l * 2 ≤ cs.size) (hl : l ≤ 1048576) :
    Calls Tryz.prog 25 #[.slice (some ⟨B, 0, none⟩) l cp, .int .i64 1] w (MarkPost B 1 (l * 2) w) := by
  have HBK := Lib.hid hb
  clear hb
  go_enter Tryz.func25, Tryz.ntmps25
  go_wp2_with fail
  go_loopw [1, 5] (fun x i wr => ∃ k p : Nat, k ≤ l ∧ i = .int .i64 k ∧ x = .int .i64 p ∧ p ≤ 2097153 ∧ Hid (p = 1 + k * 2) ∧ (∃ cs, Blk wr B t cs ∧ Marked cs 1 (l * 2) (k * 2)) ∧ Only B w wr) (fun _ i _ => l - (intOf i).toNat)
  case atStart => exact ⟨0, 1, Nat.zero_le _, rfl, rfl, by omega, rfl, ⟨cs, HBK.out, hs, fun j hj => absurd hj (by omega)⟩, Only.refl _ _⟩
  case round =>
    obtain ⟨k, p, hk, rfl, rfl, hp, HP, ⟨cs1, hblk, hmk⟩, ho⟩ := hrel
    by_cases hlt : k < l
    · have hsz := hmk.1
      have hp1 : 1 ≤ p := by have := HP.out; omega
      have hp2 : p + 2 ≤ 2097153 := by have := HP.out; omega
      have HM1 := Lib.hid hmk
      have HO := Lib.hid ho
      have M1 := Lib.hid (markText_any p wr hp1 (by omega))
      have M2 : Hid (∀ w, Calls Tryz.prog 45 #[.int .i64 ((p : Int) + 1)] w fun e w' => e = .returned (.string (mT (p + 1))) ∧ Below w.heap.size w w') := fun w => markText_any (p + 1) w (by omega) (by omega)
      have hblt := hblk.lt
      clear hmk ho
      go_wp2_with fail
      refine M1.out.mono ?_
      rintro e w1 ⟨rfl, b1⟩
      have hblk1 := hblk.below b1 hblk.lt
      have HO1 := Lib.hid (HO.out.trans (Only.of_below b1))
      obtain ⟨v0, x0⟩ := hblk1.some_cell (i := k * 2) (by omega)
      have f0 := hblk1.frozen (k * 2)
      have hblk2 := hblk1.set_ (k * 2) (.string (mT p))
      have HO2 := Lib.hid (HO1.out.setCell (k * 2) (.string (mT p)))
      have HS1 := Lib.hid (HM1.out.step (by omega : k * 2 < l * 2))
      rw [← HP.out] at HS1
      clear b1 hblk hblk1
      go_wp2_with fail
      generalize w1.setCell ⟨B, k * 2, none⟩ (.string (mT p)) = w2 at hblk2 HO2 ⊢
      refine (M2.out w2).mono ?_
      rintro e w3 ⟨rfl, b3⟩
      have hblk3 := hblk2.below b3 hblk2.lt
      have HO3 := Lib.hid (HO2.out.trans (Only.of_below b3))
      obtain ⟨v1, x1⟩ := hblk3.some_cell (i := k * 2 + 1) (by simp; omega)
      have f1 := hblk3.frozen (k * 2 + 1)
      have HB4 := Lib.hid (hblk3.set_ (k * 2 + 1) (.string (mT (p + 1))))
      have HO4 := Lib.hid (HO3.out.setCell (k * 2 + 1) (.string (mT (p + 1))))
      have HS2 := Lib.hid (HS1.out.step (by omega : k * 2 + 1 < l * 2))
      rw [show 1 + (k * 2 + 1) = p + 1 by have := HP.out; omega] at HS2
      clear b3 hblk2 hblk3 x0 f0
      go_wp2_with fail
      go_roundw
      case rel => exact ⟨k + 1, p + 2, by omega, by go_num, by go_num, hp2, by (have := HP.out; show p + 2 = 1 + (k + 1) * 2; omega), ⟨_, HB4.out, by rw [show (k + 1) * 2 = k * 2 + 1 + 1 by omega]; exact HS2.out⟩, HO4.out⟩
      case measure => simp [intOf]; omega
    · have hkl : k = l := by omega
      subst hkl
      have HO := Lib.hid ho
      have HM1 := Lib.hid hmk
      have HB1 := Lib.hid hblk
      have HPE := Lib.hid (show (p : Int) = ((1 + k * 2 : Nat) : Int) by rw [HP.out])
      clear ho hmk hblk
      go_wp2_with fail
      go_ret
      exact ⟨ret_int HPE.out, ⟨cs1, t, HB1.out, HM1.out⟩, HO.out⟩
end Go.Proofs.YtgebedbankibmaaGreatDoor

/-
  Contracts of the laws' eqStringS, markStringS and heldStringS; lists of strings of a call's own.
-/
namespace Go.Proofs.YtgebedbankibmaaGreatDoor
open Go.RowKit Go.Sort


theorem OwnGr.below' {w w' : World} {B : Nat} {g : List Bl} (h : OwnGr w B g) (hb : Below w.heap.size w w') : OwnGr w' B g := by
  obtain ⟨cs, t, hk, hc⟩ := h
  exact ⟨cs, t, hk.below hb hk.lt, hc⟩
theorem OwnGr.lt' {w : World} {B : Nat} {g : List Bl} (h : OwnGr w B g) : B < w.heap.size := by
  obtain ⟨cs, t, hk, hc⟩ := h
  exact hk.lt
theorem OwnGr.mark {w : World} {B : Nat} {g : List Bl} (h : OwnGr w B g) (hl : g.length ≤ 1048576) :
    Calls Tryz.prog 25 #[.slice (some ⟨B, 0, none⟩) g.length g.length, .int .i64 1] w (MarkPost B 1 (g.length * 2) w) := by
  obtain ⟨cs, t, hk, hc⟩ := h
  refine mark_any' B g.length t cs w hk ?_ hl
  by_cases h0 : g.length = 0
  · omega
  · obtain ⟨_, h2⟩ := hc (g.length - 1) (by omega)
    rcases Nat.lt_or_ge ((g.length - 1) * 2 + 1) cs.size with h | h
    · omega
    · rw [Array.getElem?_eq_none h] at h2; cases h2

end Go.Proofs.YtgebedbankibmaaGreatDoor
