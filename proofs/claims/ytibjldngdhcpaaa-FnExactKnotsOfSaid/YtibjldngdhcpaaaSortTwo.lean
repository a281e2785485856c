/-
  slices.Sort of bytes, two of them at most; inAlphabet of two letters at most.
-/
import Derived.Test.YtibjldngdhcpaaaBase
import Derived.Test.YtibjldngdhcpaaaOnly
import Derived.Test.YtibjldngdhcpaaaValids
import Derived.Test.YtibjldngdhcpaaaStrs
import Derived.Lib.ConvBytes
import Derived.Test.YtibjldngdhcpaaaIter
import Derived.IntWalk
namespace Go.Proofs.Ytibjldngdhcpaaa
open Go.RowKit Go.Sort

set_option maxRecDepth 100000 in
theorem isNaN_any (x : UInt8) (w : World) : Calls Try.prog 150 #[.int .u8 x.toNat] w fun e w' => e = .returned (.bool false) ∧ w = w' := by
  have q1 : ((x.toNat : Int) != (x.toNat : Int)) = false := by simp
  go_enter Try.func150, Try.ntmps150
  go_wp2_with fail
  go_ret
  exact ⟨rfl, rfl⟩
set_option maxRecDepth 100000 in
theorem less_any (x y : UInt8) (w : World) : Calls Try.prog 130 #[.int .u8 x.toNat, .int .u8 y.toNat] w fun e w' => e = .returned (.bool (decide (x.toNat < y.toNat))) ∧ w = w' := by
  have hd : decide ((x.toNat : Int) < (y.toNat : Int)) = decide (x.toNat < y.toNat) := by
    rw [decide_eq_decide]; omega
  have H1 := Lib.hid (isNaN_any x)
  go_enter Try.func130, Try.ntmps130
  go_wp2_with fail
  refine (H1.out _).mono ?_
  rintro e w' ⟨rfl, rfl⟩
  go_wp2_with fail
  go_ret
  exact ⟨rfl, rfl⟩
set_option maxRecDepth 100000 in
theorem len64_two (n : Nat) (w : World) (hn : n ≤ 2) : Calls Try.prog 134 #[.int .u64 n] w fun e w' => (∃ k : Int, e = .returned (.int .i64 k)) ∧ Below w.heap.size w w' := by
  have h : n = 0 ∨ n = 1 ∨ n = 2 := by omega
  rcases h with rfl | rfl | rfl
  · go_enter Try.func134, Try.ntmps134
    go_wp2_with fail
    go_ret
    exact ⟨⟨_, rfl⟩, Below.refl _ _⟩
  · go_enter Try.func134, Try.ntmps134
    go_wp2_with fail
    go_ret
    exact ⟨⟨_, rfl⟩, Below.refl _ _⟩
  · go_enter Try.func134, Try.ntmps134
    go_wp2_with fail
    go_ret
    exact ⟨⟨_, rfl⟩, Below.refl _ _⟩
set_option maxRecDepth 100000 in
theorem len_two (n : Nat) (w : World) (hn : n ≤ 2) : Calls Try.prog 107 #[.int .u64 n] w fun e w' => (∃ k : Int, e = .returned (.int .i64 k)) ∧ Below w.heap.size w w' := by
  have H := Lib.hid (len64_two n w hn)
  go_enter Try.func107, Try.ntmps107
  go_wp2_with fail
  refine H.out.mono ?_
  rintro e w' ⟨⟨k, rfl⟩, b⟩
  go_wp2_with fail
  go_ret
  exact ⟨⟨_, rfl⟩, b⟩

/-- Where bytes lie that a conversion has laid. -/
def Bys (w : World) (B : Nat) (t : TypeId) (l : List UInt8) : Prop := ∃ cs, w.heap[B]? = some (.cells cs t (cs.size, cs.size + 1)) ∧ l.length ≤ cs.size ∧ ∀ j (h : j < l.length), cs[j]? = some (.int .u8 l[j].toNat)
theorem Bys.lt {w : World} {B : Nat} {t : TypeId} {l : List UInt8} (h : Bys w B t l) : B < w.heap.size := by
  obtain ⟨cs, h, _⟩ := h
  rcases Nat.lt_or_ge B w.heap.size with hlt | hge
  · exact hlt
  · rw [Array.getElem?_eq_none hge] at h; cases h
theorem Bys.cell {w : World} {B : Nat} {t : TypeId} {l : List UInt8} (h : Bys w B t l) (j : Nat) (hj : j < l.length) : w.cell? ⟨B, j, none⟩ = some (.int .u8 l[j].toNat) := by
  obtain ⟨cs, h1, _, h2⟩ := h
  rw [cell_of_row w B j cs t _ h1]; exact h2 j hj
theorem Bys.frozen {w : World} {B : Nat} {t : TypeId} {l : List UInt8} (h : Bys w B t l) (j : Nat) (hj : j < l.length) : w.frozen? ⟨B, j, none⟩ = false := by
  obtain ⟨cs, h1, h2, _⟩ := h
  simp [World.frozen?, h1]
  omega
theorem Bys.set_ {w : World} {B : Nat} {t : TypeId} {l : List UInt8} (h : Bys w B t l) (j : Nat) (hj : j < l.length) (c : UInt8) : Bys (w.setCell ⟨B, j, none⟩ (.int .u8 c.toNat)) B t (l.set j c) := by
  obtain ⟨cs, h1, h2, h3⟩ := h
  refine ⟨cs.setIfInBounds j (.int .u8 c.toNat), ?_, by simpa using h2, fun i hi => ?_⟩
  · simp [World.setCell, Array.getElem?_modify, h1]
  · have hi' : i < l.length := by simpa using hi
    rw [Array.getElem?_setIfInBounds, List.getElem_set]
    by_cases e : j = i
    · rw [if_pos e, if_pos (by omega), if_pos e]
    · rw [if_neg e, if_neg e]; exact h3 i hi'
theorem Bys.below {w w' : World} {B : Nat} {t : TypeId} {l : List UInt8} (h : Bys w B t l) (hb : Below w.heap.size w w') : Bys w' B t l := by
  have hlt := h.lt
  obtain ⟨cs, h1, h2⟩ := h
  exact ⟨cs, (hb.block B hlt).trans h1, h2⟩
/-- Two in order. -/
def sort2 : List UInt8 → List UInt8
  | [a, b] => if b.toNat < a.toNat then [b, a] else [a, b]
  | l => l

set_option maxRecDepth 100000 in
set_option maxHeartbeats 1600000 in
theorem insertion_two (B cap : Nat) (t : TypeId) (l : List UInt8) (w : World) (hB : Bys w B t l) (hl : l.length ≤ 2) :
    Calls Try.prog 124 #[.slice (some ⟨B, 0, none⟩) l.length cap, .int .i64 0, .int .i64 l.length] w fun e w' => e = .returned (.tuple #[]) ∧ Bys w' B t (sort2 l) ∧ Only B w w' := by
  match l, hl, hB with
  | [], _, hB =>
    have HB := Lib.hid hB
    clear hB
    go_enter Try.func124, Try.ntmps124
    go_wp2_with fail
    go_loopw [6] (fun i wr => i = .int .i64 1 ∧ wr = w) (fun _ _ => 0)
    case atStart => exact ⟨rfl, rfl⟩
    case round =>
      obtain ⟨rfl, rfl⟩ := hrel
      go_wp2_with fail
      go_end0
      exact ⟨rfl, HB.out, Only.refl _ _⟩
  | [a], _, hB =>
    have HB := Lib.hid hB
    clear hB
    go_enter Try.func124, Try.ntmps124
    go_wp2_with fail
    go_loopw [6] (fun i wr => i = .int .i64 1 ∧ wr = w) (fun _ _ => 0)
    case atStart => exact ⟨rfl, rfl⟩
    case round =>
      obtain ⟨rfl, rfl⟩ := hrel
      go_wp2_with fail
      go_end0
      exact ⟨rfl, HB.out, Only.refl _ _⟩
  | [a, b], _, hB =>
    have HB := Lib.hid hB
    have HL := Lib.hid (fun x y W => less_any x y W)
    clear hB
    go_enter Try.func124, Try.ntmps124
    go_wp2_with fail
    go_loopw [6] (fun i wr => (i = .int .i64 1 ∧ Hid (Bys wr B t [a, b]) ∧ Hid (Only B w wr)) ∨ (i = .int .i64 2 ∧ Hid (Bys wr B t (sort2 [a, b])) ∧ Hid (Only B w wr))) (fun i _ => 2 - (intOf i).toNat)
    case atStart => exact .inl ⟨rfl, HB.out, Only.refl _ _⟩
    case round =>
      rcases hrel with ⟨rfl, HX, HO⟩ | ⟨rfl, HX, HO⟩
      · go_wp2_with fail
        go_loopw [7] (fun j wr => (j = .int .i64 1 ∧ Hid (Bys wr B t [a, b]) ∧ Hid (Only B w wr)) ∨ (j = .int .i64 0 ∧ Hid (Bys wr B t (sort2 [a, b])) ∧ Hid (Only B w wr))) (fun j _ => (intOf j).toNat)
        case atStart => exact .inl ⟨rfl, HX, HO⟩
        case round =>
          rcases hrel with ⟨rfl, HX, HO⟩ | ⟨rfl, HX, HO⟩
          · have x0 : wr.cell? ⟨B, 0, none⟩ = some (.int .u8 a.toNat) := HX.out.cell 0 (by simp)
            have x1 : wr.cell? ⟨B, 1, none⟩ = some (.int .u8 b.toNat) := HX.out.cell 1 (by simp)
            have f0 := HX.out.frozen 0 (by simp)
            have f1 := HX.out.frozen 1 (by simp)
            have tC := fun n => Calls.quiet_of_same ((HL.out b a (wr.drewN n)).mono fun _ _ ⟨h1, h2⟩ => ⟨h1, h2.symm⟩)
            by_cases hlt : b.toNat < a.toNat
            · have hd : decide (b.toNat < a.toNat) = true := decide_eq_true hlt
              rw [hd] at tC
              have HS := Lib.hid (show sort2 [a, b] = [b, a] by show (if b.toNat < a.toNat then [b, a] else [a, b]) = _; rw [if_pos hlt])
              clear hlt hd
              go_wp2_with fail
              go_quiet (with_reducible exact tC _)
              clear tC
              have HX2 := Lib.hid (show Bys (wr.drewN nq) B t [a, b] from HX.out.below (below_drewN wr nq))
              have HO2 := Lib.hid (HO.out.trans (Only.of_below (below_drewN wr nq)))
              generalize wr.drewN nq = w2 at HX2 HO2 ⊢
              clear x0 x1 f0 f1
              have x0 : w2.cell? ⟨B, 0, none⟩ = some (.int .u8 a.toNat) := HX2.out.cell 0 (by simp)
              have x1 : w2.cell? ⟨B, 1, none⟩ = some (.int .u8 b.toNat) := HX2.out.cell 1 (by simp)
              have f0 := HX2.out.frozen 0 (by simp)
              have f1 := HX2.out.frozen 1 (by simp)
              have HE := Lib.hid (show ∀ m, Bys (((w2.setCell ⟨B, 1, none⟩ (.int .u8 a.toNat)).setCell ⟨B, 0, none⟩ (.int .u8 b.toNat)).drewN m) B t [b, a] from fun m => ((HX2.out.set_ 1 (by simp) a).set_ 0 (by simp) b).below (below_drewN _ m))
              go_wp2_with fail
              go_region
              all_goals go_wp2_with fail
              refine ⟨.inr ⟨rfl, ?_, ?_⟩, by simp [intOf]⟩
              · rw [HS.out]; exact HE.out 1
              · exact ((HO2.out.setCell 1 _).setCell 0 _).trans (Only.of_below (below_drewN _ 1))
            · have hd : decide (b.toNat < a.toNat) = false := decide_eq_false hlt
              rw [hd] at tC
              have HS := Lib.hid (show sort2 [a, b] = [a, b] by show (if b.toNat < a.toNat then [b, a] else [a, b]) = _; rw [if_neg hlt])
              clear hlt hd
              go_wp2_with fail
              go_quiet (with_reducible exact tC _)
              clear tC
              have HX2 := Lib.hid (show Bys (wr.drewN nq) B t [a, b] from HX.out.below (below_drewN wr nq))
              have HO2 := Lib.hid (HO.out.trans (Only.of_below (below_drewN wr nq)))
              generalize wr.drewN nq = w2 at HX2 HO2 ⊢
              go_wp2_with fail
              go_roundw
              case rel => exact .inr ⟨rfl, by rw [HS.out]; exact HX2, HO2⟩
              case measure => simp [intOf]
          · go_wp2_with fail
            go_quiet (fail)
            have HX2 := Lib.hid (show Bys (wr.drewN nq) B t (sort2 [a, b]) from HX.out.below (below_drewN wr nq))
            have HO2 := Lib.hid (HO.out.trans (Only.of_below (below_drewN wr nq)))
            go_wp2_with fail
            go_roundw
            case rel => exact .inr ⟨rfl, HX2, HO2⟩
            case measure => simp [intOf]
      · go_wp2_with fail
        go_end0
        exact ⟨rfl, HX.out, HO.out⟩
set_option maxRecDepth 100000 in
theorem pdq_two (B cap : Nat) (t : TypeId) (l : List UInt8) (k : Int) (w : World) (hB : Bys w B t l) (hl : l.length ≤ 2) :
    Calls Try.prog 106 #[.slice (some ⟨B, 0, none⟩) l.length cap, .int .i64 0, .int .i64 l.length, .int .i64 k] w fun e w' => e = .returned (.tuple #[]) ∧ Bys w' B t (sort2 l) ∧ Only B w w' := by
  have H := Lib.hid (insertion_two B cap t l)
  have HB := Lib.hid hB
  have s1 : IntKind.i64.wrap ((l.length : Int) - 0) = l.length := IntWalk.i64_in _ (by omega)
  have g1 : (l.length : Int) ≤ 12 := by omega
  clear hB
  go_enter Try.func106, Try.ntmps106
  go_wp2_with fail
  go_loopw [1, 2, 3] (fun x y z wr => x = .int .i64 0 ∧ y = .int .i64 l.length ∧ z = .int .i64 k ∧ wr = w) (fun _ _ _ _ => 0)
  case atStart => exact ⟨rfl, rfl, rfl, rfl⟩
  case round =>
    obtain ⟨rfl, rfl, rfl, rfl⟩ := hrel
    go_wp2_with fail
    refine (H.out _ HB.out hl).mono ?_
    rintro e w2 ⟨rfl, h2, h3⟩
    have HX := Lib.hid h2
    have HO := Lib.hid h3
    clear h2 h3
    go_wp2_with fail
    exact bodyPost_ret (v := .tuple #[]) (by simp [results, Try.results106, go_sem]) rfl ⟨rfl, HX.out, HO.out⟩
set_option maxRecDepth 100000 in
theorem sort_two (B cap : Nat) (t : TypeId) (l : List UInt8) (w : World) (hB : Bys w B t l) (hl : l.length ≤ 2) :
    Calls Try.prog 80 #[.slice (some ⟨B, 0, none⟩) l.length cap] w fun e w' => e = .returned (.tuple #[]) ∧ Bys w' B t (sort2 l) ∧ Only B w w' := by
  have H1 := Lib.hid (fun W => len_two l.length W hl)
  have H2 := Lib.hid (fun W k (h : Bys W B t l) => pdq_two B cap t l k W h hl)
  have HB := Lib.hid hB
  clear hB
  go_enter Try.func80, Try.ntmps80
  go_wp2_with fail
  refine (H1.out _).mono ?_
  rintro e w1 ⟨⟨k, rfl⟩, b1⟩
  have HB1 := Lib.hid (show Bys w1 B t l from HB.out.below b1)
  have HO1 := Lib.hid (Only.of_below (R := B) b1)
  clear b1
  go_wp2_with fail
  refine (H2.out w1 k HB1.out).mono ?_
  rintro e w2 ⟨rfl, h2, h3⟩
  have HX := Lib.hid h2
  have HO := Lib.hid (HO1.out.trans h3)
  clear h2 h3
  go_wp2_with fail
  go_end0
  exact ⟨rfl, HX.out, HO.out⟩

/-- Two letters in order, as a text. -/
def upS (s : ByteArray) : ByteArray := ⟨(sort2 s.data.toList).toArray⟩
theorem sort2_len (l : List UInt8) : (sort2 l).length = l.length := by
  unfold sort2
  split
  · split <;> rfl
  · rfl
theorem bys_new (w : World) (s : ByteArray) : Bys (Lib.bytesWorld w 5 s) w.heap.size 5 s.data.toList := by
  refine ⟨_, Lib.bytesWorld_at_new w 5 s, ?_, fun j hj => ?_⟩
  · unfold Lib.bytesCells
    rw [Array.size_append, Array.size_map, Array.length_toList]
    exact Nat.le_add_right _ _
  · unfold Lib.bytesCells
    have hj' : j < s.data.size := by rw [Array.length_toList] at hj; exact hj
    rw [Array.getElem?_append_left (by rw [Array.size_map]; exact hj'), Array.getElem?_map, Array.getElem?_eq_getElem hj', Array.getElem_toList]
    rfl
set_option maxRecDepth 100000 in
theorem inAlphabet_two (s : ByteArray) (w : World) (hs : s.size ≤ 2) :
    Calls Try.prog 55 #[.string s] w fun e w' => e = .returned (.string (upS s)) ∧ Below w.heap.size w w' := by
  have hcv := Lib.run_convert_string_bytes (P := Try.prog) w 9 111 5 s Try.underlying9 Try.underlying111 Try.underlying5
  obtain ⟨l, hl⟩ : ∃ l, l = s.data.toList := ⟨_, rfl⟩
  have hlen : l.length = s.size := by rw [hl, Array.length_toList]; rfl
  have HB1 := Lib.hid (bytes_below w 5 s)
  have HX1 := Lib.hid (bys_new w s)
  rw [← hl] at HX1
  have HU := Lib.hid (show upS s = ⟨(sort2 l).toArray⟩ by unfold upS; rw [hl])
  obtain ⟨W1, hW1⟩ : ∃ W1, W1 = Lib.bytesWorld w 5 s := ⟨_, rfl⟩
  obtain ⟨cp, hcp⟩ : ∃ cp, cp = grownCap w s.size 0 5 := ⟨_, rfl⟩
  rw [← hW1] at hcv HB1 HX1
  rw [← hcp] at hcv
  rw [← hlen] at hcv
  have HLEN := Lib.hid hlen
  have hl2 : l.length ≤ 2 := by omega
  clear hW1 hcp hl hlen hs
  go_enter Try.func55, Try.ntmps55
  go_wp2_with fail
  refine (sort_two w.heap.size cp 5 l W1 HX1.out hl2).mono ?_
  rintro e w2 ⟨rfl, h2, h3⟩
  have HB2 := Lib.hid (Only.below HB1.out h3)
  have hback := run_convert_bytes_back (P := Try.prog) w2 111 9 5 ⟨w.heap.size, 0, none⟩ cp (sort2 l) Try.underlying111 Try.underlying5 Try.underlying9 (fun j hj => by
    have := h2.cell j hj
    have e : (⟨w.heap.size, 0, none⟩ : Addr).add j = ⟨w.heap.size, j, none⟩ := by unfold Addr.add; split <;> simp_all
    rw [e]; exact this)
  rw [sort2_len] at hback
  clear h2 h3 hcv
  go_wp2_with fail
  go_ret
  exact ⟨ret_string HU.out.symm, HB2.out⟩
end Go.Proofs.Ytibjldngdhcpaaa
