/-
  Lists of strings as they lie; the laws' markText, eqStringS, markStringS and heldStringS; lists of strings of a call's own.
-/
import Derived.Test.YtdpjdhllaokbfaaGreatBase
import Derived.Test.YtdpjdhllaokbfaaGreatOnly
import Derived.Test.YtdpjdhllaokbfaaGreatOwnStr
import Derived.Laws.BytesArg
import Derived.Lib.QuietBelow
namespace Go.Proofs.YtdpjdhllaokbfaaGreat
open Go.RowKit Go.Sort

def digit (k : Nat) : ByteArray := strOfNums [48 + (k : Int) % 10]

/-- The digits of a number, before a text. -/
def mkF : Nat → Nat → ByteArray → ByteArray
  | 0, _, o => o
  | f + 1, k, o => if k = 0 then o else mkF f (k / 10) (digit k ++ o)

theorem mkF_zero (f : Nat) (o : ByteArray) : mkF f 0 o = o := by cases f <;> rfl
theorem mkF_step {f k : Nat} {o : ByteArray} (h : 0 < k) : mkF (f + 1) k o = mkF f (k / 10) (digit k ++ o) := by
  show (if k = 0 then o else mkF f (k / 10) (digit k ++ o)) = _
  rw [if_neg (by omega)]

/-- The mark of a number. -/
def mT (n : Nat) : ByteArray := ⟨#[109]⟩ ++ mkF 7 n ⟨#[]⟩

theorem digit_size (k : Nat) : (digit k).size = 1 := rfl

set_option maxRecDepth 100000 in
theorem markText_any (n : Nat) (w : World) (h1 : 1 ≤ n) (h2 : n ≤ 9999999) :
    Calls Tryz.prog 43 #[.int .i64 n] w fun e w' => e = .returned (.string (mT n)) ∧ Below w.heap.size w w' := by
  have h1' : ¬ n = 0 := by omega
  go_enter Tryz.func43, Tryz.ntmps43
  go_wp2_with fail
  go_loopw [0, 3] (fun x s wr => ∃ (f k : Nat) (o : ByteArray), x = .int .i64 k ∧ s = .string o ∧ o.size + f = 7 ∧ ((f = 7 ∧ k ≤ 9999999) ∨ (f = 6 ∧ k ≤ 999999) ∨ (f = 5 ∧ k ≤ 99999) ∨ (f = 4 ∧ k ≤ 9999) ∨ (f = 3 ∧ k ≤ 999) ∨ (f = 2 ∧ k ≤ 99) ∨ (f = 1 ∧ k ≤ 9) ∨ (f = 0 ∧ k = 0)) ∧ Hid (mT n = ⟨#[109]⟩ ++ mkF f k o) ∧ Below w.heap.size w wr) (fun x _ _ => (intOf x).toNat)
  case atStart => exact ⟨7, n, ⟨#[]⟩, rfl, rfl, rfl, .inl ⟨rfl, h2⟩, rfl, Below.refl _ _⟩
  case round =>
    obtain ⟨f, k, o, rfl, rfl, ho, hf, HM, hB⟩ := hrel
    by_cases hk : 0 < k
    · have g0 : decide ((0 : Int) < k) = true := by simp; omega
      have hk9 : k ≤ 9999999 := by omega
      obtain ⟨f', rfl⟩ : ∃ f', f = f' + 1 := ⟨f - 1, by omega⟩
      have HS := Lib.hid (HM.out.trans (by rw [mkF_step hk]))
      have hF : ((f' = 7 ∧ k / 10 ≤ 9999999) ∨ (f' = 6 ∧ k / 10 ≤ 999999) ∨ (f' = 5 ∧ k / 10 ≤ 99999) ∨ (f' = 4 ∧ k / 10 ≤ 9999) ∨ (f' = 3 ∧ k / 10 ≤ 999) ∨ (f' = 2 ∧ k / 10 ≤ 99) ∨ (f' = 1 ∧ k / 10 ≤ 9) ∨ (f' = 0 ∧ k / 10 = 0)) := by omega
      have HF := Lib.hid hF
      have hmd : 0 ≤ (k : Int) % 10 ∧ (k : Int) % 10 ≤ 9 := by omega
      have hcv : ∀ X : Int, (convert 89 9 (.slice (some ⟨wr.heap.size, 0, none⟩) 1 1)).run Tryz.prog (wr.alloc (.cells #[.int .u8 X] 5)) = .ok (.string (strOfNums [X])) (wr.alloc (.cells #[.int .u8 X] 5)) := fun X =>
        run_convert_bytes_arg (wr.alloc (.cells #[.int .u8 X] 5)) 89 5 Tryz.underlying89 Tryz.underlying5 wr.heap.size 0 1 1 [X] rfl (fun i hi => by
          have : i = 0 := by omega
          subst this
          exact (Blk.new wr 5 #[.int .u8 X]).cell 0) 9 Tryz.underlying9
      have hBA := hB.alloc hB.size (.cells #[.int .u8 (48 + (k : Int) % 10)] 5)
      have HBA := Lib.hid hBA
      have hdz : (strOfNums [48 + (k : Int) % 10]).size = 1 := digit_size k
      clear hBA hB hf hF
      go_wp2_with fail
      go_roundw
      case rel => exact ⟨f', k / 10, _, by go_num, rfl, by rw [ByteArray.size_append, hdz]; omega, HF.out, HS, HBA.out⟩
      case measure => simp [intOf]; omega
    · have hk0 : k = 0 := by omega
      subst hk0
      have HE := Lib.hid (show ⟨#[109]⟩ ++ o = mT n by rw [HM.out, mkF_zero])
      have hz : o.size ≤ 7 := by omega
      go_wp2_with fail
      go_ret
      exact ⟨ret_string HE.out, hB⟩

/-- A row of cells that holds marks: the first k cells. -/
def Marked (cs : Array Value) (n m k : Nat) : Prop := m ≤ cs.size ∧ ∀ j, j < k → cs[j]? = some (.string (mT (n + j)))

theorem Marked.step {cs : Array Value} {n m k : Nat} (h : Marked cs n m k) (hk : k < m) : Marked (cs.setIfInBounds k (.string (mT (n + k)))) n m (k + 1) := by
  refine ⟨by simpa using h.1, fun j hj => ?_⟩
  have hsz := h.1
  rw [Array.getElem?_setIfInBounds]
  by_cases e : k = j
  · subst e; rw [if_pos rfl, if_pos (by omega)]
  · rw [if_neg e]; exact h.2 j (by omega)

/-- Only one block's cells changed. -/
def MarkPost (B n m : Nat) (w : World) (e : Ending) (w' : World) : Prop :=
  e = .returned (.int .i64 ((n + m : Nat) : Int)) ∧ (∃ cs t, Blk w' B t cs ∧ Marked cs n m m) ∧ Only B w w'

theorem Only.setCell {R : Nat} {a w : World} (h : Only R a w) (j : Nat) (v : Value) : Only R a (w.setCell ⟨R, j, none⟩ v) :=
  h.trans ⟨rfl, rfl, rfl, by simp, fun k hk _ => Below.heap_setCell w ⟨R, j, none⟩ v k hk⟩

theorem only_belowS {B n : Nat} {w w' : World} (h : Only B w w') (h1 : n ≤ B) (h2 : n ≤ w.heap.size) : Below n w w' :=
  ⟨h.os, h.tape, h.output, h.size, fun k hk => h.block k (by omega) (by omega)⟩
theorem own_onlyS {w w' : World} {base R : Nat} {e : TypeId} {v : Value} {n size : Nat} {xs : List Value} (h : w.ownsRow base e size v n xs) (ho : Only R w w') (hR : R < base) : w'.ownsRow base e size v n xs := by
  refine h.kept (row := some R) ⟨ho.os, ho.tape, ho.output, ho.size, fun k hk hne => ho.block k (fun q => hne (by rw [q])) hk⟩ ?_
  cases hv : v.ownBlock with
  | none => exact .inl rfl
  | some k =>
    have := (h.lt k hv).1
    refine .inr fun q => ?_
    injection q with q
    omega

set_option maxRecDepth 100000 in
theorem eqStr_any (A A' : Option Addr) (cap cap' : Nat) (ps : List ByteArray) (w : World) (hA : Strs w A ps) (hB : Strs w A' ps) (hn : ps.length ≤ 1048576) :
    Calls Tryz.prog 15 #[.slice A ps.length cap, .slice A' ps.length cap'] w fun e w' => e = .returned (.bool true) ∧ Below w.heap.size w w' := by
  have HA := Lib.hid hA
  have HB := Lib.hid hB
  clear hA hB
  go_enter Tryz.func15, Tryz.ntmps15
  go_wp2_with fail
  go_loopw [5] (fun i wr => ∃ k : Nat, k ≤ ps.length ∧ i = .int .i64 k ∧ Hid (Below w.heap.size w wr)) (fun i _ => ps.length - (intOf i).toNat)
  case atStart => exact ⟨0, Nat.zero_le _, rfl, Below.refl _ _⟩
  case round =>
    obtain ⟨k, hk, rfl, HW⟩ := hrel
    by_cases hlt : k < ps.length
    · obtain ⟨b, off, rfl, hb, hc⟩ := HA.out.below HW.out (by omega)
      obtain ⟨b', off', rfl, hb', hc'⟩ := HB.out.below HW.out (by omega)
      have x0 := hc k hlt
      have x1 := hc' k hlt
      obtain ⟨p, hp⟩ : ∃ p, p = ps[k] := ⟨_, rfl⟩
      rw [← hp] at x0 x1
      have k0 := cell_regrown x0
      have k1 := cell_regrown x1
      have q1 : (p.toList == p.toList) = true := by simp
      have q3 : (!(p.toList == p.toList)) = false := by rw [q1]; rfl
      clear hc hc' hp
      go_wp2_with fail
      refine wp_region_quiet_below (by kernel_rfl) (by kernel_rfl) ?_
      repeat (any_goals (first | go_big_quiet_step (fail) | quiet_step (fail)))
      all_goals (refine wpQuiet_nil ?_; intro _ hw'; obtain ⟨⟨dq, osq⟩, hw''⟩ := hw'; subst hw'')
      have hb2 := below_regrown wr dq osq
      generalize grow (redrawn wr dq) osq = w2 at hb2 ⊢
      have HW2 := Lib.hid (below_trans_self HW.out hb2)
      clear k0 k1 x0 x1 hb2
      go_wp2_with fail
      go_roundw
      case rel => exact ⟨k + 1, by omega, by go_num, HW2.out⟩
      case measure => simp [intOf]; omega
    · go_wp2_with fail
      go_ret
      exact ⟨rfl, HW.out⟩

set_option maxRecDepth 100000 in
theorem markStr_any {cp : Nat} (B l : Nat) (t : TypeId) (cs : Array Value) (w : World) (hb : Blk w B t cs) (hs : l ≤ cs.size) (hl : l ≤ 1048576) :
    Calls Tryz.prog 18 #[.slice (some ⟨B, 0, none⟩) l cp, .int .i64 1] w (MarkPost B 1 l w) := by
  have HBK := Lib.hid hb
  clear hb
  go_enter Tryz.func18, Tryz.ntmps18
  go_wp2_with fail
  go_loopw [1, 5] (fun x i wr => ∃ k p : Nat, k ≤ l ∧ i = .int .i64 k ∧ x = .int .i64 p ∧ p ≤ 1048577 ∧ Hid (p = 1 + k) ∧ (∃ cs, Blk wr B t cs ∧ Marked cs 1 l k) ∧ Only B w wr) (fun _ i _ => l - (intOf i).toNat)
  case atStart => exact ⟨0, 1, Nat.zero_le _, rfl, rfl, by omega, rfl, ⟨cs, HBK.out, hs, fun j hj => absurd hj (by omega)⟩, Only.refl _ _⟩
  case round =>
    obtain ⟨k, p, hk, rfl, rfl, hp, HP, ⟨cs1, hblk, hmk⟩, ho⟩ := hrel
    by_cases hlt : k < l
    · have hsz := hmk.1
      have hp1 : 1 ≤ p := by have := HP.out; omega
      have hp2 : p + 1 ≤ 1048577 := by have := HP.out; omega
      have HM1 := Lib.hid hmk
      have HO := Lib.hid ho
      have M1 := Lib.hid (markText_any p wr hp1 (by omega))
      have hblt := hblk.lt
      clear hmk ho
      go_wp2_with fail
      refine M1.out.mono ?_
      rintro e w1 ⟨rfl, b1⟩
      have hblk1 := hblk.below b1 hblk.lt
      have HO1 := Lib.hid (HO.out.trans (Only.of_below b1))
      obtain ⟨v0, x0⟩ := hblk1.some_cell (i := k) (by omega)
      have f0 := hblk1.frozen k
      have HB2 := Lib.hid (hblk1.set_ k (.string (mT p)))
      have HO2 := Lib.hid (HO1.out.setCell k (.string (mT p)))
      have HS1 := Lib.hid (HM1.out.step hlt)
      rw [← HP.out] at HS1
      clear b1 hblk hblk1
      go_wp2_with fail
      go_roundw
      case rel => exact ⟨k + 1, p + 1, by omega, by go_num, by go_num, hp2, by (have := HP.out; show p + 1 = 1 + (k + 1); omega), ⟨_, HB2.out, HS1.out⟩, HO2.out⟩
      case measure => simp [intOf]; omega
    · have hkl : k = l := by omega
      subst hkl
      have HO := Lib.hid ho
      have HM1 := Lib.hid hmk
      have HB1 := Lib.hid hblk
      have HPE := Lib.hid (show (p : Int) = ((1 + k : Nat) : Int) by rw [HP.out])
      clear ho hmk hblk
      go_wp2_with fail
      go_ret
      exact ⟨ret_int HPE.out, ⟨cs1, t, HB1.out, HM1.out⟩, HO.out⟩

set_option maxRecDepth 100000 in
set_option maxHeartbeats 1600000 in
theorem heldStr_any {cp : Nat} (B l : Nat) (t : TypeId) (cs : Array Value) (w : World) (hb : Blk w B t cs) (hm : Marked cs 1 l l) (hl : l ≤ 1048576) :
    Calls Tryz.prog 19 #[.slice (some ⟨B, 0, none⟩) l cp, .int .i64 1] w fun e w' => e = .returned (.int .i64 ((1 + l : Nat) : Int)) ∧ Below w.heap.size w w' := by
  have HBK := Lib.hid hb
  have HM := Lib.hid hm
  clear hb hm
  go_enter Tryz.func19, Tryz.ntmps19
  go_wp2_with fail
  go_loopw [1, 5] (fun x i wr => ∃ k p : Nat, k ≤ l ∧ i = .int .i64 k ∧ x = .int .i64 p ∧ p ≤ 1048577 ∧ Hid (p = 1 + k) ∧ Below w.heap.size w wr) (fun _ i _ => l - (intOf i).toNat)
  case atStart => exact ⟨0, 1, Nat.zero_le _, rfl, rfl, by omega, rfl, Below.refl _ _⟩
  case round =>
    obtain ⟨k, p, hk, rfl, rfl, hp, HP, hB⟩ := hrel
    by_cases hlt : k < l
    · have hp1 : 1 ≤ p := by have := HP.out; omega
      have hp2 : p + 1 ≤ 1048577 := by have := HP.out; omega
      have hblk := HBK.out.below hB HBK.out.lt
      have x0 : wr.cell? ⟨B, k, none⟩ = some (.string (mT p)) := by rw [hblk.cell, HM.out.2 _ hlt, HP.out]
      obtain ⟨a, ha⟩ : ∃ a, a = mT p := ⟨_, rfl⟩
      rw [← ha] at x0
      have c1 : ∀ d os, Calls Tryz.prog 43 #[.int .i64 p] (grow (redrawn wr d) os) fun e w'' => e = .returned (.string a) ∧ ∃ p : Regrown, w'' = grow (redrawn wr p.d) p.os := fun d os => by
        have := markText_any p (grow (redrawn wr d) os) hp1 (by omega)
        rw [← ha] at this
        exact Calls.regrown_of this
      have k0 := cell_regrown x0
      have q1 : (a.toList == a.toList) = true := by simp
      have q3 : (!(a.toList == a.toList)) = false := by rw [q1]; rfl
      have HB := Lib.hid hB
      clear ha hB hblk
      go_wp2_with fail
      refine wp_region_quiet_below (by kernel_rfl) (by kernel_rfl) ?_
      repeat (any_goals (first | go_big_quiet_step (first | with_reducible exact c1 _ _) | quiet_step (first | with_reducible exact c1 _ _)))
      all_goals (refine wpQuiet_nil ?_; intro _ hw'; obtain ⟨⟨dq, osq⟩, hw''⟩ := hw'; subst hw'')
      have hb2 := below_regrown wr dq osq
      generalize grow (redrawn wr dq) osq = w2 at hb2 ⊢
      have HB2 := Lib.hid (HB.out.trans (hb2.mono HB.out.size))
      clear c1 k0 x0 hb2
      go_wp2_with fail
      go_roundw
      case rel => exact ⟨k + 1, p + 1, by omega, by go_num, by go_num, hp2, by (have := HP.out; show p + 1 = 1 + (k + 1); omega), HB2.out⟩
      case measure => simp [intOf]; omega
    · have hkl : k = l := by omega
      subst hkl
      have HB := Lib.hid hB
      have HPE := Lib.hid (show (p : Int) = ((1 + k : Nat) : Int) by rw [HP.out])
      clear hB
      go_wp2_with fail
      go_ret
      exact ⟨ret_int HPE.out, HB.out⟩

theorem markStr_nil (w : World) : Calls Tryz.prog 18 #[.slice none 0 0, .int .i64 1] w fun e w' => e = .returned (.int .i64 1) ∧ w = w' := by
  go_enter Tryz.func18, Tryz.ntmps18
  go_wp2
  go_loop [1, 5] (fun x i => x = .int .i64 ((1 : Nat) : Int) ∧ i = .int .i64 ((0 : Nat) : Int)) (fun _ _ => 0)
  case atStart => exact ⟨rfl, rfl⟩
  case round =>
    obtain ⟨rfl, rfl⟩ := hrel
    go_wp2
    go_ret
    exact ⟨rfl, rfl⟩

theorem heldStr_nil (w : World) : Calls Tryz.prog 19 #[.slice none 0 0, .int .i64 1] w fun e w' => e = .returned (.int .i64 1) ∧ w = w' := by
  go_enter Tryz.func19, Tryz.ntmps19
  go_wp2
  go_loop [1, 5] (fun x i => x = .int .i64 ((1 : Nat) : Int) ∧ i = .int .i64 ((0 : Nat) : Int)) (fun _ _ => 0)
  case atStart => exact ⟨rfl, rfl⟩
  case round =>
    obtain ⟨rfl, rfl⟩ := hrel
    go_wp2
    go_ret
    exact ⟨rfl, rfl⟩

/-- A list that holds marks. -/
def MarkedV (w : World) (v : Value) (n : Nat) : Prop := (v = .slice none 0 0 ∧ n = 0) ∨ ∃ B cap cs t, v = .slice (some ⟨B, 0, none⟩) n cap ∧ Blk w B t cs ∧ Marked cs 1 n n
theorem MarkedV.below {w w' : World} {v : Value} {n : Nat} (h : MarkedV w v n) (hb : Below w.heap.size w w') : MarkedV w' v n := by
  rcases h with h | ⟨B, cap, cs, t, e, hk, hm⟩
  · exact .inl h
  · exact .inr ⟨B, cap, cs, t, e, hk.below hb hk.lt, hm⟩

theorem own_casesS {w : World} {base : Nat} {v : Value} {ps : List ByteArray} (h : OwnStr w base v ps) : (v = .slice none 0 0 ∧ ps.length = 0) ∨ ∃ B cap cs t, v = .slice (some ⟨B, 0, none⟩) ps.length cap ∧ base ≤ B ∧ Blk w B t cs ∧ ps.length ≤ cs.size := by
  rcases h.2 with ⟨hv, hn⟩ | ⟨B, cap, cur, hv, hb, hg, hnc, _, _, ht⟩
  · exact .inl ⟨hv, hn⟩
  · refine .inr ⟨B, cap, cur, 9, hv, hb, hg, ?_⟩
    have := congrArg List.length ht
    rw [List.length_take, List.length_map, Nat.mul_one, Array.length_toList] at this
    omega

theorem markV {w : World} {base : Nat} {v : Value} {ps : List ByteArray} (h : OwnStr w base v ps) (hl : ps.length ≤ 1048576) (hb : base ≤ w.heap.size) :
    Calls Tryz.prog 18 #[v, .int .i64 1] w fun e w' => e = .returned (.int .i64 ((1 + ps.length : Nat) : Int)) ∧ MarkedV w' v ps.length ∧ Below base w w' := by
  rcases own_casesS h with ⟨rfl, hn⟩ | ⟨B, cap, cs, t, rfl, hB, hk, hz⟩
  · rw [hn]
    exact (markStr_nil w).mono fun e w' ⟨h1, h2⟩ => by subst h2; exact ⟨h1, .inl ⟨rfl, rfl⟩, Below.refl _ _⟩
  · refine (markStr_any B ps.length t cs w hk hz hl).mono fun e w' ⟨h1, ⟨cs', t', h2, h3⟩, h4⟩ => ?_
    exact ⟨h1, .inr ⟨B, cap, cs', t', rfl, h2, h3⟩, only_belowS h4 hB hb⟩

theorem heldV {w : World} {v : Value} {n : Nat} (h : MarkedV w v n) (hl : n ≤ 1048576) :
    Calls Tryz.prog 19 #[v, .int .i64 1] w fun e w' => e = .returned (.int .i64 ((1 + n : Nat) : Int)) ∧ Below w.heap.size w w' := by
  rcases h with ⟨rfl, hn⟩ | ⟨B, cap, cs, t, rfl, hk, hm⟩
  · rw [hn]
    exact (heldStr_nil w).mono fun e w' ⟨h1, h2⟩ => by subst h2; exact ⟨h1, Below.refl _ _⟩
  · exact heldStr_any B n t cs w hk hm hl
end Go.Proofs.YtdpjdhllaokbfaaGreat

