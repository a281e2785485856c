/-
  FormatKnots of both.
-/
import Derived.Test.YtibjldngdhcpaaaValids
import Derived.Test.YtibjldngdhcpaaaShelf
import Derived.Test.YtibjldngdhcpaaaNextOf
namespace Go.Proofs.Ytibjldngdhcpaaa
open Go.RowKit Go.Sort

/-- The text of one knot, and of all. -/
def partK (b : Bl) : ByteArray := b.1 ++ ⟨#[62]⟩ ++ b.2
def fmtK (g : List Bl) : ByteArray := ⟨(Lib.join (g.map fun b => (partK b).data.toList) [44]).toArray⟩
def fmtKV (g : List Bl) : ByteArray := if g = [] then ⟨#[45]⟩ else fmtK g
theorem partK_size (b : Bl) : (partK b).size = b.1.size + b.2.size + 1 := by
  unfold partK
  rw [ByteArray.size_append, ByteArray.size_append]
  show b.1.size + 1 + b.2.size = _
  omega
theorem lens_partsK (g : List Bl) : Lib.lens (g.map fun b => (partK b).data.toList) = tot g + g.length := by
  induction g with
  | nil => rfl
  | cons b g ih =>
    have e : Lib.lens ((b :: g).map fun b => (partK b).data.toList) = (partK b).data.toList.length + Lib.lens (g.map fun b => (partK b).data.toList) := by simp [Lib.lens]
    have e2 : (partK b).data.toList.length = (partK b).size := by rw [Array.length_toList]; rfl
    rw [e, ih, e2, partK_size]; simp [tot]; omega
theorem joinK_le (l : List (List UInt8)) : (Lib.join l [44]).length ≤ Lib.lens l + l.length := by
  cases l with
  | nil => exact Nat.zero_le _
  | cons x r => rw [Lib.join_length]; simp; omega
theorem fmtK_toList (g : List Bl) : (fmtK g).data.toList = Lib.join (g.map fun b => (partK b).data.toList) [44] := by simp [fmtK]
theorem fmtK_one (b : Bl) : fmtK [b] = partK b := by
  apply ba_ext; rw [fmtK_toList]; exact Lib.join_one _ _
theorem fmtK_nil : fmtK [] = ⟨#[]⟩ := rfl
theorem fmtK_snoc {g : List Bl} (h : 0 < g.length) (b : Bl) : fmtK (g ++ [b]) = fmtK g ++ ⟨#[44]⟩ ++ partK b := by
  apply ba_ext
  rw [ba_append_toList, ba_append_toList, fmtK_toList, fmtK_toList]
  cases g with
  | nil => simp at h
  | cons a g =>
    simp only [List.cons_append, List.map_cons, List.map_append, List.map_nil, Lib.join_cons]
    unfold Lib.joinTail
    simp
theorem fmtK_size_le (g : List Bl) : (fmtK g).size ≤ tot g + 2 * g.length := by
  have h1 := joinK_le (g.map fun b => (partK b).data.toList)
  rw [lens_partsK, List.length_map] at h1
  have h2 : (fmtK g).size = (Lib.join (g.map fun b => (partK b).data.toList) [44]).length := by rw [← fmtK_toList, Array.length_toList]; rfl
  omega
theorem fmtK_ne {g : List Bl} (h : g ≠ []) : 0 < (fmtK g).size := by
  have h2 : (fmtK g).size = (Lib.join (g.map fun b => (partK b).data.toList) [44]).length := by rw [← fmtK_toList, Array.length_toList]; rfl
  cases g with
  | nil => exact absurd rfl h
  | cons b g =>
    have e2 : (partK b).data.toList.length = (partK b).size := by rw [Array.length_toList]; rfl
    rw [h2, List.map_cons, Lib.join_length]
    have := partK_size b
    simp [Lib.lens]
    omega

structure PartsK (w : World) (PB : Nat) (g : List Bl) (k : Nat) : Prop where
  row : ∃ cs, Blk w PB 9 cs ∧ cs.size = g.length ∧ ∀ i (h : i < g.length), i < k → cs[i]? = some (.string (partK g[i]))
theorem PartsK.below {w w' : World} {PB : Nat} {g : List Bl} {k : Nat} (h : PartsK w PB g k) (hb : Below w.heap.size w w') : PartsK w' PB g k := by
  obtain ⟨cs, hbk, hr⟩ := h.row
  exact ⟨cs, hbk.below hb hbk.lt, hr⟩
theorem PartsK.step {w : World} {PB : Nat} {g : List Bl} {k : Nat} {s : ByteArray} (h : PartsK w PB g k) (hk : k < g.length) (hs : partK g[k] = s) : PartsK (w.setCell ⟨PB, k, none⟩ (.string s)) PB g (k + 1) := by
  obtain ⟨cs, hbk, hsz, hr⟩ := h.row
  refine ⟨_, hbk.set_ k _, by simpa using hsz, fun i hi hik => ?_⟩
  rw [Array.getElem?_setIfInBounds]
  rcases Nat.lt_succ_iff_lt_or_eq.1 hik with hlt | rfl
  · rw [if_neg (by omega)]; exact hr i hi hlt
  · rw [if_pos rfl, if_pos (by omega), hs]

set_option maxRecDepth 100000 in
set_option maxHeartbeats 1600000 in
theorem specFormatK_any (A : Option Addr) (cap : Nat) (g : List Bl) (w : World) (hg : Gr w A g) (hn : g.length + tot g ≤ 1048576) :
    Calls Try.prog 24 #[.slice A g.length cap] w fun e w' => e = .returned (.string (fmtKV g)) ∧ Below w.heap.size w w' := by
  go_enter Try.func24, Try.ntmps24
  go_wp2_with fail
  go_loopw [3, 8] (fun s i wr => ∃ k : Nat, k ≤ g.length ∧ i = .int .i64 k ∧ s = .string (fmtK (g.take k)) ∧ Below w.heap.size w wr) (fun _ i _ => g.length - (intOf i).toNat)
  case atStart => exact ⟨0, Nat.zero_le _, rfl, rfl, Below.refl _ _⟩
  case round =>
    obtain ⟨k, hk, rfl, rfl, hB⟩ := hrel
    have hm1 := fmtK_size_le (g.take k)
    have hm2 := tot_take_le g k
    have hm3 : (g.take k).length ≤ g.length := by simp; omega
    obtain ⟨m, hm⟩ : ∃ m, m = fmtK (g.take k) := ⟨_, rfl⟩
    have HM := Lib.hid hm
    rw [← hm] at hm1 ⊢
    have hms : m.size ≤ 3145728 := by omega
    clear hm hm1 hm2 hm3
    by_cases hlt : k < g.length
    · obtain ⟨b, off, s, t, rfl, hb, hc0, hc1, he, he2⟩ := gr_at (hg.below hB) hlt
      have hs3 := tot_get g k hlt
      rw [he, he2] at hs3
      have hss : s.size ≤ 1048576 := by omega
      have hts : t.size ≤ 1048576 := by omega
      have HP := Lib.hid (show partK g[k] = s ++ ⟨#[62]⟩ ++ t by unfold partK; rw [he, he2])
      have HTK := Lib.hid (take_snoc' g k hlt)
      clear he he2 hs3
      by_cases h0 : 0 < k
      · have HF : Hid (fmtK (g.take (k + 1)) = m ++ ⟨#[44]⟩ ++ (s ++ ⟨#[62]⟩ ++ t)) := by
          show fmtK (g.take (k + 1)) = m ++ ⟨#[44]⟩ ++ (s ++ ⟨#[62]⟩ ++ t)
          rw [HTK.out, fmtK_snoc (by simp; omega), HP.out, HM.out]
        go_wp2_with fail
        go_roundw
        case rel => exact ⟨k + 1, by omega, by go_num, by rw [HF.out, ← ba_append_assoc, ← ba_append_assoc], hB.alloc hB.size _⟩
        case measure => simp [intOf]; omega
      · have HF : Hid (fmtK (g.take (k + 1)) = m ++ (s ++ ⟨#[62]⟩ ++ t)) := by
          show fmtK (g.take (k + 1)) = m ++ (s ++ ⟨#[62]⟩ ++ t)
          have hk0 : k = 0 := by omega
          rw [HTK.out, HM.out]
          subst hk0
          rw [List.take_zero, List.nil_append, fmtK_one, HP.out, fmtK_nil, ba_empty_append]
        go_wp2_with fail
        go_roundw
        case rel => exact ⟨k + 1, by omega, by go_num, by rw [HF.out, ← ba_append_assoc, ← ba_append_assoc], hB.alloc hB.size _⟩
        case measure => simp [intOf]; omega
    · have hall : g.take k = g := List.take_of_length_le (by omega)
      by_cases h0 : g = []
      · have q0 : m.toList = [] := by rw [HM.out, hall, h0, Lib.toList_data]; rfl
        have HE := Lib.hid (show fmtKV g = ⟨#[45]⟩ by unfold fmtKV; rw [if_pos h0])
        go_wp2_with fail
        go_ret
        exact ⟨ret_string HE.out.symm, hB⟩
      · have HE := Lib.hid (show fmtKV g = m by unfold fmtKV; rw [if_neg h0, HM.out, hall])
        have hne : 0 < m.size := by rw [HM.out, hall]; exact fmtK_ne h0
        have q0 : (m.toList == ([] : List UInt8)) = false := by
          rw [Bool.eq_false_iff]
          intro h
          have h : m.toList = [] := by simpa using h
          have h2 : m.toList.length = m.size := by rw [Lib.toList_data, Array.length_toList]; rfl
          rw [h] at h2
          simp at h2
          omega
        have q1 : m.toList.isEmpty = false := by
          rw [Bool.eq_false_iff]
          intro h
          have h : m.toList = [] := by simpa using h
          rw [h] at q0
          simp at q0
        clear hall
        go_wp2_with fail
        go_ret
        exact ⟨ret_string HE.out.symm, hB⟩

set_option maxHeartbeats 1600000 in
set_option maxRecDepth 100000 in
theorem implFormatK_any (A : Option Addr) (cap : Nat) (g : List Bl) (w : World) (hg : Gr w A g) (hn : g.length + tot g ≤ 1048576) :
    Calls Try.prog 25 #[.slice A g.length cap] w fun e w' => e = .returned (.string (fmtKV g)) ∧ Below w.heap.size w w' := by
  by_cases h0 : g = []
  · subst h0
    have hl0 : ((([] : List Bl).length : Nat) : Int) = 0 := rfl
    go_enter Try.func25, Try.ntmps25
    go_wp2_with fail
    go_ret
    exact ⟨rfl, Below.refl _ _⟩
  have hpos : 0 < g.length := List.length_pos_iff.2 h0
  have HV := Lib.hid (show fmtKV g = fmtK g by unfold fmtKV; rw [if_neg h0])
  have hmk := run_make_row' (P := Try.prog) 40 9 (.string ⟨#[]⟩) 16 Try.underlying40 info_string rfl .i64 .i64 g.length (by omega) (by omega)
  have g0 : ¬ ((g.length : Int) = 0) := by omega
  have g0' : ((g.length : Int) == 0) = false := by simpa using h0
  have g0'' : decide ((g.length : Int) = 0) = false := decide_eq_false g0
  have HG := Lib.hid hg
  clear h0 hg
  go_enter Try.func25, Try.ntmps25
  go_wp2_with fail
  clear hmk
  have HP0 : Hid (PartsK (w.alloc (.cells (madeCells #[.string ⟨#[]⟩] g.length) 9)) w.heap.size g 0) := ⟨_, Blk.new _ _ _, size_madeCells _ _, fun i _ hi => absurd hi (by omega)⟩
  obtain ⟨PB, hPB⟩ : ∃ PB, PB = w.heap.size := ⟨_, rfl⟩
  have HPB : Hid (w.heap.size ≤ PB) := by rw [hPB]; exact Nat.le_refl _
  have HB1 := Lib.hid ((Below.refl w.heap.size w).alloc (Nat.le_refl _) (.cells (madeCells #[.string ⟨#[]⟩] g.length) 9))
  rw [← hPB] at HP0 ⊢
  have HNE := Lib.hid hPB
  clear hPB
  go_loopw [14] (fun i wr => ∃ k : Nat, k ≤ g.length ∧ i = .int .i64 k ∧ PartsK wr PB g k ∧ Below w.heap.size w wr) (fun i _ => g.length - (intOf i).toNat)
  case atStart => exact ⟨0, Nat.zero_le _, rfl, HP0.out, HB1.out⟩
  case round =>
    obtain ⟨k, hk, rfl, hP, hB⟩ := hrel
    by_cases hlt : k < g.length
    · obtain ⟨b, off, s, t, rfl, hb, hc0, hc1, he, he2⟩ := gr_at (HG.out.below hB) hlt
      have hs3 := tot_get g k hlt
      rw [he, he2] at hs3
      have hss : s.size ≤ 1048576 := by omega
      have hts : t.size ≤ 1048576 := by omega
      have HPE := Lib.hid (show partK g[k] = s ++ ⟨#[62]⟩ ++ t by unfold partK; rw [he, he2])
      obtain ⟨cs, hbk, hsz, _⟩ := hP.row
      have lp := hbk.lt
      obtain ⟨v0, y0⟩ := hbk.some_cell (i := k) (by omega)
      have f0 := hbk.frozen k
      have HP := Lib.hid hP
      have HB := Lib.hid hB
      clear he he2 hs3 hP hbk hsz hB
      go_wp2_with fail
      refine ⟨⟨k + 1, by omega, by go_num, ?_, ?_⟩, by simp [intOf]; omega⟩
      · exact (HP.out.step hlt HPE.out).below ((Below.refl _ _).alloc (Nat.le_refl _) _)
      · refine Below.alloc (HB.out.setCell (p := ⟨PB, k, none⟩) HPB.out _) ?_ _
        rw [World.size_setCell]; exact HB.out.size
    · obtain ⟨cs, hbk, hsz, hr⟩ := hP.row
      have hjn := Try.strings_Join PB 0 g.length (g.map partK) ⟨#[44]⟩ wr
        (fun j x hx => by
          rw [List.getElem?_map] at hx
          obtain ⟨b, hb, rfl⟩ := Option.map_eq_some_iff.1 hx
          obtain ⟨hj, rfl⟩ := List.getElem?_eq_some_iff.1 hb
          rw [Nat.zero_add, hbk.cell]
          exact hr j hj (by omega))
        hbk.lt (by simp; omega) (by simp)
        (by
          have h1 := joinK_le ((g.map partK).map (·.data.toList))
          have h2 : (g.map partK).map (·.data.toList) = g.map fun b => (partK b).data.toList := by simp
          rw [h2] at h1 ⊢
          rw [lens_partsK] at h1
          simp at h1 ⊢
          omega)
      have h2 : (g.map partK).map (·.data.toList) = g.map fun b => (partK b).data.toList := by simp
      rw [h2, List.length_map] at hjn
      have HJ : Hid (Calls Try.prog 58 #[.slice (some ⟨PB, 0, none⟩) g.length g.length, .string ⟨#[44]⟩] wr fun e w' => e = .returned (.string (fmtK g)) ∧ Below wr.heap.size wr w') := hjn
      clear hjn h2 hP hbk hsz hr
      go_wp2_with fail
      refine HJ.out.mono ?_
      rintro e w2 ⟨rfl, b2⟩
      go_wp2_with fail
      go_ret
      exact ⟨ret_string HV.out.symm, below_trans_self hB b2⟩
end Go.Proofs.Ytibjldngdhcpaaa
