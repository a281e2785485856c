import Derived.Test.YtlkfakdghjaoaaaGreatDoorJ2
import Derived.Test.YtlkfakdghjaoaaaGreatDoorJ5
namespace Go.Proofs.YtlkfakdghjaoaaaGreatDoor
open Go.RowKit Go.Sort
theorem pieces_pos (c : UInt8) (s : ByteArray) : 0 < (pieces c s).length := by
 rcases Nat.eq_zero_or_pos (pieces c s).length with e | h
 ·have h1 := pieces_lens c s
  have e2 : pieces c s = [] := List.eq_nil_of_length_eq_zero e
  rw [e2] at h1
  simp [lensOf] at h1
 ·exact h
theorem parseVal_small (s : ByteArray) : (parseVal s).length + tot (parseVal s) ≤ s.size := by
 unfold parseVal
 split
 ·rename_i h
  unfold parseOk at h
  have hl := (Bool.and_eq_true_iff.1 h).1
  have h1 : (parsed s).length + tot (parsed s) = lensOf (pieces 44 s) := tot_parsed hl
  have h2 := pieces_lens 44 s
  have h3 := pieces_pos 44 s
  omega
 ·simp [tot]
def DrawPost (n : Nat) (w : World) (e : Ending) (w' : World) : Prop :=
 ∃ v g, e = .returned v ∧ OwnBl w' w.heap.size v g ∧ g.length + tot g ≤ n ∧ Below w.heap.size w w'
def knownTexts : List ByteArray := [⟨#[65, 63, 66, 67, 44, 66, 62, 68, 44, 67, 62, 68, 44, 68, 46]⟩, ⟨#[65, 62, 66, 44, 66, 63, 67, 68, 44, 67, 62, 66, 44, 68, 46]⟩, ⟨#[65, 63, 66, 67, 44, 66, 62, 67, 44, 67, 62, 66]⟩, ⟨#[65, 46]⟩, ⟨#[65, 62, 65]⟩,
 ⟨#[65, 63, 66, 67, 44, 66, 63, 68, 69, 44, 67, 62, 69, 44, 68, 62, 65, 44, 69, 63, 66, 70, 44, 70, 46]⟩, ⟨#[65, 62, 66, 44, 66, 63, 67, 70, 44, 67, 63, 68, 69, 44, 68, 62, 66, 44, 69, 62, 67, 44, 70, 46]⟩, ⟨#[65, 63, 66, 67, 44, 66, 63, 67, 68, 44, 67, 63, 66, 68, 44, 68, 46]⟩,
 ⟨#[65, 63, 65, 66, 44, 66, 46]⟩, ⟨#[65, 63, 66, 68, 44, 66, 62, 67, 44, 67, 46, 44, 68, 62, 67, 44, 69, 62, 65]⟩, ⟨#[65, 62, 66, 44, 66, 63, 66, 67, 44, 67, 63, 65, 68, 44, 68, 46]⟩]
theorem known_small : ∀ s ∈ knownTexts, s.size ≤ 25 := by decide
theorem ownRow_base {w : World} {b b' : Nat} {e : TypeId} {size : Nat} {v : Value} {n : Nat} {xs : List Value} (h : w.ownsRow b e size v n xs) (hb : b' ≤ b) : w.ownsRow b' e size v n xs := by
 refine ⟨h.1, ?_⟩
 rcases h.2 with hn | ⟨g, cap, cur, hv, hb2, rest⟩
 ·exact .inl hn
 ·exact .inr ⟨g, cap, cur, hv, Nat.le_trans hb hb2, rest⟩
set_option maxHeartbeats 1600000 in
set_option maxRecDepth 100000 in
theorem known_any (k : Nat) (w : World) (hk : k < 11) :
  Calls Tryz.prog 91 #[.int .i64 k] w (DrawPost 25 w) := by
 obtain ⟨s, hs⟩ : ∃ s, knownTexts[k]? = some s := ⟨_, List.getElem?_eq_getElem (by simpa [knownTexts] using hk)⟩
 have hsz := known_small s (List.mem_of_getElem? hs)
 have HP : Hid (∀ w, Calls Tryz.prog 134 #[.string s] w (ParsePost s w)) := fun w => specParse_any s w (by omega)
 have HB : Hid ((knownTexts.map Value.string)[k]? = some (.string s)) := by
  show (knownTexts.map Value.string)[k]? = some (.string s)
  rw [List.getElem?_map, hs]; rfl
 have HCELL : Hid (∀ w : World, (w.alloc (.cells (knownTexts.map Value.string).toArray 9)).cell? ⟨w.heap.size, k, none⟩ = some (.string s)) := fun w => by
  rw [(Blk.new w 9 (knownTexts.map Value.string).toArray).cell k]
  simpa using HB.out
 have hm : k % 11 = k := by omega
 have hkl : (k : Int) < 11 := by omega
 clear hs
 go_enter Tryz.func91, Tryz.ntmps91
 have hcell := HCELL.out w
 simp only [knownTexts, List.map_cons, List.map_nil] at hcell
 go_wp2_with fail
 clear hcell
 refine (HP.out _).mono ?_
 rintro e w2 ⟨v, rfl, hv, b2⟩
 have HV := Lib.hid (ownRow_base hv (show w.heap.size ≤ _ by simp))
 have hB := below_trans_self ((Below.refl w.heap.size w).alloc (Nat.le_refl _) _) b2
 have HS := Lib.hid (parseVal_small s)
 clear hv
 go_wp2_with fail
 exact bodyPost_ret (v := v) (by simp [results, Tryz.results91, go_sem]) rfl ⟨v, parseVal s, rfl, HV.out, by have := HS.out; omega, hB⟩
theorem ownRow_only {w w' : World} {R base : Nat} {e : TypeId} {size : Nat} {v : Value} {n : Nat} {xs : List Value} (h : w.ownsRow base e size v n xs) (hR : R < base) (ho : Only R w w') : w'.ownsRow base e size v n xs := by
 refine ⟨h.1, ?_⟩
 rcases h.2 with hn | ⟨g, cap, cur, hv, hb2, hg, rest⟩
 ·exact .inl hn
 ·refine .inr ⟨g, cap, cur, hv, hb2, ?_, rest⟩
  have hlt : g < w.heap.size := by
   rcases Nat.lt_or_ge g w.heap.size with h' | h'
   ·exact h'
   ·rw [Array.getElem?_eq_none h'] at hg; cases hg
  exact (ho.block g (by omega) hlt).trans hg
theorem Rd.grown {w0 a a' : World} {R : Nat} {A : Option Addr} {len cap p p0 : Nat} {row : Option Nat} (h0 : Rd w0 R A len cap p0) (h : Rd a R A len cap p) (hg : a.grownBy a' row) (hr : ∀ k, row = some k → w0.heap.size ≤ k) : Rd a' R A len cap p := by
 have hR := h0.blk.lt
 refine ⟨(hg.block R h.blk.lt (fun e => by have := hr R e.symm; omega)).trans h.blk, fun hl => ?_, h.small⟩
 obtain ⟨b, off, rfl, hlt, hne, hc⟩ := h.bytes hl
 obtain ⟨b0, off0, e0, hlt0, _, _⟩ := h0.bytes hl
 injection e0 with e0
 injection e0 with e1 e2 _
 subst e1; subst e2
 refine ⟨b, off, rfl, Nat.lt_of_lt_of_le hlt hg.size, hne, fun k hk => ?_⟩
 obtain ⟨c, hcc⟩ := hc k hk
 exact ⟨c, hg.cell hcc (fun e => by have := hr b e.symm; omega)⟩
end Go.Proofs.YtlkfakdghjaoaaaGreatDoor
namespace Go.Proofs.YtlkfakdghjaoaaaGreatDoor
open Go.RowKit Go.Sort
def GoodPost (n c R : Nat) (A : Option Addr) (len cap p : Nat) (w : World) (e : Ending) (w' : World) : Prop :=
 ∃ v g q, e = .returned v ∧ OwnBl w' w.heap.size v g ∧ g.length + tot g ≤ n ∧ Only R w w' ∧ Rd w' R A len cap q ∧ q ≤ p + c
theorem num7 (R : Nat) (A : Option Addr) (len cap p : Nat) (w : World) (h : Rd w R A len cap p) (hp : p ≤ 1048576) :
  Calls Tryz.prog 92 #[.pointer (some ⟨R, 0, none⟩), .slice (some ⟨w.heap.size, 0, none⟩) 7 7] (w.alloc (.cells #[.int .i64 4, .int .i64 5, .int .i64 3, .int .i64 6, .int .i64 7, .int .i64 2, .int .i64 1] 3)) fun e w' => ∃ n : Nat, e = .returned (.int .i64 n) ∧ (1 ≤ n ∧ n ≤ 7) ∧ Only R w w' ∧ Rd w' R A len cap (p + 1) := by
 refine (num2 R A len cap p [4, 5, 3, 6, 7, 2, 1] w h (by decide) (by decide) hp).mono ?_
 rintro e w' ⟨z, rfl, hz, o, r⟩
 simp only [List.mem_cons, List.not_mem_nil, or_false] at hz
 refine ⟨z.toNat, ret_int (by omega), by omega, o, r⟩
theorem num5 (R : Nat) (A : Option Addr) (len cap p : Nat) (w : World) (h : Rd w R A len cap p) (hp : p ≤ 1048576) :
  Calls Tryz.prog 92 #[.pointer (some ⟨R, 0, none⟩), .slice (some ⟨w.heap.size, 0, none⟩) 5 5] (w.alloc (.cells #[.int .i64 2, .int .i64 1, .int .i64 2, .int .i64 1, .int .i64 0] 3)) fun e w' => ∃ n : Nat, e = .returned (.int .i64 n) ∧ n ≤ 2 ∧ Only R w w' ∧ Rd w' R A len cap (p + 1) := by
 refine (num2 R A len cap p [2, 1, 2, 1, 0] w h (by decide) (by decide) hp).mono ?_
 rintro e w' ⟨z, rfl, hz, o, r⟩
 simp only [List.mem_cons, List.not_mem_nil, or_false] at hz
 refine ⟨z.toNat, ret_int (by omega), by omega, o, r⟩
set_option maxHeartbeats 3200000 in
set_option maxRecDepth 100000 in
theorem good_any (R : Nat) (A : Option Addr) (len cap p : Nat) (w : World) (hr : Rd w R A len cap p) (hp : p ≤ 1000) :
  Calls Tryz.prog 127 #[.pointer (some ⟨R, 0, none⟩)] w (GoodPost 28 100 R A len cap p w) := by
 obtain ⟨i0, hi, hz0, hz1, hz2⟩ := info_parts info_block
 have hRlt := hr.blk.lt
 have HR := Lib.hid hr
 clear hr
 go_enter Tryz.func127, Tryz.ntmps127
 go_wp2_with fail
 refine (pick2 R A len cap p 3 w HR.out (by omega) (by omega) (by omega)).mono ?_
 rintro e w1 ⟨x, rfl, hx, o1, r1⟩
 by_cases h0 : x = 0
 ·have g0 : ((x : Int) == 0) = true := by rw [h0]; rfl
  have HR1 := Lib.hid r1
  clear h0 r1
  go_wp2_with fail
  refine (pick2 R A len cap (p + 1) 11 w1 HR1.out (by omega) (by omega) (by omega)).mono ?_
  rintro e w2 ⟨y, rfl, hy, o2, r2⟩
  have HR2 := Lib.hid r2
  clear r2
  go_wp2_with fail
  refine (known_any y w2 hy).mono ?_
  rintro e w3 ⟨v, g, rfl, hv, hs, b3⟩
  have HV := Lib.hid (ownRow_base hv (Nat.le_trans o1.size o2.size))
  have hO := (o1.trans o2).trans (.of_below b3)
  clear hv
  go_wp2_with fail
  exact bodyPost_ret (v := v) (by simp [results, Tryz.results127, go_sem]) rfl ⟨v, g, p + 2, rfl, HV.out, by omega, hO, HR2.out.below b3, by omega⟩
 ·have g0 : ((x : Int) == 0) = false := by simp; omega
  have HR1 := Lib.hid r1
  have hR1 := r1.blk.lt
  clear h0 r1
  go_wp2_with fail
  refine (num7 R A len cap (p + 1) w1 HR1.out (by omega)).mono ?_
  rintro e w2 ⟨n, rfl, ⟨hn1, hn7⟩, o2, r2⟩
  have HO2 := Lib.hid (o1.trans o2)
  have HR2 := Lib.hid r2
  have hR2 := r2.blk.lt
  have hs2 := (o1.trans o2).size
  clear o1 o2 r2 hR1
  go_wp2_with fail
  have HO0 := Lib.hid (World.ownsRow_made (base := w.heap.size) (e := 45) (size := 2) w2 #[] 0 hs2 (Nat.zero_le _) rfl)
  go_loopw [5, 20] (fun v i wr => ∃ (k q : Nat) (g : List Bl), k ≤ n ∧ i = .int .i64 k ∧ g.length = k ∧ tot g ≤ 3 * k ∧ q ≤ p + 2 + 7 * k ∧ OwnBl wr w.heap.size v g ∧ Rd wr R A len cap q ∧ Only R w wr) (fun _ i _ => n - (intOf i).toNat)
  case atStart => exact ⟨0, p + 2, [], Nat.zero_le _, rfl, rfl, Nat.zero_le _, by omega, HO0.out, HR2.out.below ((Below.refl _ _).alloc (Nat.le_refl _) _), HO2.out.alloc _⟩
  case round =>
   obtain ⟨k, q, g, hk, rfl, hgl, hgt, hq, hown, hrd, ho⟩ := hrel
   have HGL := Lib.hid hgl
   have HGT := Lib.hid hgt
   have HOWN := Lib.hid hown
   have HRD := Lib.hid hrd
   have HO := Lib.hid ho
   have hlt3 := hrd.blk.lt
   clear hgl hgt hown hrd ho
   by_cases hlt : k < n
   ·go_wp2_with fail
    refine (num5 R A len cap q wr HRD.out (by omega)).mono ?_
    rintro e w3 ⟨t, rfl, ht, o3, r3⟩
    have HO3 := Lib.hid (HO.out.trans o3)
    have HR3 := Lib.hid r3
    have HOWN3 := Lib.hid (ownRow_only HOWN.out hRlt o3)
    clear o3 r3
    go_wp2_with fail
    obtain ⟨wo, hwo⟩ : ∃ wo : World, wo = wr := ⟨_, rfl⟩
    rw [← hwo] at hlt3
    clear hwo
    go_loopw [7, 26] (fun s c wr => ∃ (j q' : Nat) (next : ByteArray), j ≤ t ∧ c = .int .i64 j ∧ s = .string next ∧ next.size ≤ j ∧ q' ≤ q + 1 + 3 * j ∧ Rd wr R A len cap q' ∧ Only R w wr ∧ w3.heap.size ≤ wr.heap.size ∧ Only R w3 wr) (fun _ c _ => t - (intOf c).toNat)
    case atStart => exact ⟨0, q + 1, ⟨#[]⟩, Nat.zero_le _, rfl, rfl, Nat.zero_le _, by omega, HR3.out, HO3.out, Nat.le_refl _, Only.refl _ _⟩
    case round =>
     obtain ⟨j, q', next, hj, rfl, rfl, hnx, hq', hrd, ho, hsz, ho3⟩ := hrel
     have HRD' := Lib.hid hrd
     have HO' := Lib.hid ho
     have HO3' := Lib.hid ho3
     clear hrd ho ho3
     by_cases hjt : j < t
     ·go_wp2_with fail
      refine (pick2 R A len cap q' n _ HRD'.out (by omega) (by omega) (by omega)).mono ?_
      rintro e w4 ⟨a, rfl, ha, o4, r4⟩
      have HR4 := Lib.hid r4
      have HO4 := Lib.hid o4
      clear r4 o4
      go_wp2_with fail
      refine (pick2 R A len cap (q' + 1) 3 _ HR4.out (by omega) (by omega) (by omega)).mono ?_
      rintro e w5 ⟨b, rfl, hb, o5, r5⟩
      have HR5 := Lib.hid r5
      have HO5 := Lib.hid o5
      clear r5 o5
      by_cases hb0 : 0 < b
      ·have g1 : decide ((0 : Int) < b) = true := by simp; omega
       go_wp2_with fail
       refine (pick2 R A len cap (q' + 2) 2 _ HR5.out (by omega) (by omega) (by omega)).mono ?_
       rintro e w6 ⟨c, rfl, hc, o6, r6⟩
       have HR6 := Lib.hid r6
       have HO6 := Lib.hid o6
       clear r6 o6
       go_wp2_with fail
       refine (find_any next _ _ (by omega)).mono ?_
       rintro e w7 ⟨rfl, rfl⟩
       generalize Lib.indexByte next.data.toList _ = ix
       by_cases hix : ix < 0
       ·go_wp2_with fail
        go_roundw
        case rel => exact ⟨j + 1, q' + 3, _, by omega, by go_num, rfl, by (rw [ByteArray.size_append, ByteArray.size_extract]; omega), by omega, HR6.out, ((HO'.out.trans HO4.out).trans HO5.out).trans HO6.out, Nat.le_trans hsz (((HO4.out.trans HO5.out).trans HO6.out).size), ((HO3'.out.trans HO4.out).trans HO5.out).trans HO6.out⟩
        case measure => simp [intOf]; omega
       ·go_wp2_with fail
        go_roundw
        case rel => exact ⟨j + 1, q' + 3, next, by omega, by go_num, rfl, by omega, by omega, HR6.out, ((HO'.out.trans HO4.out).trans HO5.out).trans HO6.out, Nat.le_trans hsz (((HO4.out.trans HO5.out).trans HO6.out).size), ((HO3'.out.trans HO4.out).trans HO5.out).trans HO6.out⟩
        case measure => simp [intOf]; omega
      ·have g1 : decide ((0 : Int) < b) = false := by simp; omega
       go_wp2_with fail
       refine (find_any next _ _ (by omega)).mono ?_
       rintro e w7 ⟨rfl, rfl⟩
       generalize Lib.indexByte next.data.toList _ = ix
       by_cases hix : ix < 0
       ·go_wp2_with fail
        go_roundw
        case rel => exact ⟨j + 1, q' + 2, _, by omega, by go_num, rfl, by (rw [ByteArray.size_append, ByteArray.size_extract]; omega), by omega, HR5.out, (HO'.out.trans HO4.out).trans HO5.out, Nat.le_trans hsz ((HO4.out.trans HO5.out).size), (HO3'.out.trans HO4.out).trans HO5.out⟩
        case measure => simp [intOf]; omega
       ·go_wp2_with fail
        go_roundw
        case rel => exact ⟨j + 1, q' + 2, next, by omega, by go_num, rfl, by omega, by omega, HR5.out, (HO'.out.trans HO4.out).trans HO5.out, Nat.le_trans hsz ((HO4.out.trans HO5.out).size), (HO3'.out.trans HO4.out).trans HO5.out⟩
        case measure => simp [intOf]; omega
     ·have hown4 := ownRow_only HOWN3.out hRlt HO3'.out
      rw [HGL.out] at hown4
      have HOWN4 := Lib.hid hown4
      have hbs : w.heap.size ≤ wr.heap.size := HO'.out.size
      clear hown4
      obtain ⟨nm, hnm⟩ : ∃ nm, nm = (⟨#[65, 66, 67, 68, 69, 70, 71, 72, 73, 74]⟩ : ByteArray).extract k (k + 1) := ⟨_, rfl⟩
      have hnms : nm.size ≤ 1 := by rw [hnm, ByteArray.size_extract]; omega
      have HNM := Lib.hid hnm
      clear hnm
      go_wp2_with (at_builtin; refine wpList_append_own _ rfl _ _ 23 rfl w.heap.size 45 i0 _ 2 32 Tryz.underlying23 hi hz0 hz1 hz2 rfl (by decide) _ _ _ rfl (HOWN4.out.alloc _) ⟨wr.heap.size, 0, none⟩ 1 1 [.string ((⟨#[65, 66, 67, 68, 69, 70, 71, 72, 73, 74]⟩ : ByteArray).extract k (k + 1)), .string next] rfl rfl ?c1 ?c2 ?c3 ?c4 ?c5 ?_)
      case c1 =>
       exact World.news_of_block (cs := #[.string ((⟨#[65, 66, 67, 68, 69, 70, 71, 72, 73, 74]⟩ : ByteArray).extract k (k + 1)), .string next]) (t := 45) (fr := (0, 0)) (heap_alloc_new wr _)
      case c2 => simp [Value.oneCell']
      case c3 => unfold maxLen; omega
      case c4 => omega
      case c5 => simp; omega
      intro v' w8 hown' hgrow _
      have hrow := (HOWN4.out.alloc (.cells #[.string ((⟨#[65, 66, 67, 68, 69, 70, 71, 72, 73, 74]⟩ : ByteArray).extract k (k + 1)), .string next] 45)).lt
      have HO8 := Lib.hid ((HO'.out.alloc (.cells #[.string ((⟨#[65, 66, 67, 68, 69, 70, 71, 72, 73, 74]⟩ : ByteArray).extract k (k + 1)), .string next] 45)).grown hgrow (fun j hj => (hrow j hj).1))
      have HR8 := Lib.hid (HR.out.grown (HRD'.out.below ((Below.refl _ _).alloc (Nat.le_refl _) (.cells #[.string ((⟨#[65, 66, 67, 68, 69, 70, 71, 72, 73, 74]⟩ : ByteArray).extract k (k + 1)), .string next] 45))) hgrow (fun j hj => (hrow j hj).1))
      have HO9 : Hid (OwnBl w8 w.heap.size v' (g ++ [(nm, next)])) := by
       show w8.ownsRow w.heap.size 45 2 v' (g ++ [(nm, next)]).length (cells2 (g ++ [(nm, next)]))
       rw [List.length_append, cells2_append, HGL.out, HNM.out]
       exact hown'
      have HT9 : Hid (tot (g ++ [(nm, next)]) ≤ 3 * (k + 1)) := by
       show tot (g ++ [(nm, next)]) ≤ 3 * (k + 1)
       have := HGT.out
       simp only [tot_append, tot]
       omega
      clear hown' hgrow hrow
      go_wp2_with fail
      go_roundw
      case rel => exact ⟨k + 1, q', g ++ [(nm, next)], by omega, by go_num, by simp [HGL.out], HT9.out, by omega, HO9.out, HR8.out, HO8.out⟩
      case measure => simp [intOf]; omega
   ·go_wp2_with fail
    refine bodyPost_ret (v := u5) (by simp [results, Tryz.results127, go_sem]) rfl ⟨u5, g, q, rfl, HOWN.out, ?_, HO.out, HRD.out, by omega⟩
    have h1 := HGL.out
    have h2 := HGT.out
    omega
end Go.Proofs.YtlkfakdghjaoaaaGreatDoor
namespace Go.Proofs.YtlkfakdghjaoaaaGreatDoor
open Go.RowKit Go.Sort
theorem cells2_one (g : List Bl) : ∀ u ∈ cells2 g, u.oneCell' = true := by
 intro u hu
 unfold cells2 at hu
 obtain ⟨b, _, hb⟩ := List.mem_flatMap.1 hu
 simp only [List.mem_cons, List.not_mem_nil, or_false] at hb
 rcases hb with rfl | rfl <;> rfl
theorem of5a (R : Nat) (A : Option Addr) (len cap p : Nat) (w : World) (h : Rd w R A len cap p) (hp : p ≤ 1048576) :
  Calls Tryz.prog 123 #[.pointer (some ⟨R, 0, none⟩), .slice (some ⟨w.heap.size, 0, none⟩) 5 5] (w.alloc (.cells #[.string ⟨#[65]⟩, .string ⟨#[74]⟩, .string ⟨#[107]⟩, .string ⟨#[]⟩, .string ⟨#[65, 66]⟩] 9)) fun e w' => ∃ s : ByteArray, e = .returned (.string s) ∧ s.size ≤ 3 ∧ Only R w w' ∧ Rd w' R A len cap (p + 1) := by
 refine (of2 R A len cap p [⟨#[65]⟩, ⟨#[74]⟩, ⟨#[107]⟩, ⟨#[]⟩, ⟨#[65, 66]⟩] w h (by decide) (by decide) hp).mono ?_
 rintro e w' ⟨z, rfl, hz, o, r⟩
 refine ⟨z, rfl, ?_, o, r⟩
 revert z; decide
theorem of5b (R : Nat) (A : Option Addr) (len cap p : Nat) (w : World) (h : Rd w R A len cap p) (hp : p ≤ 1048576) :
  Calls Tryz.prog 123 #[.pointer (some ⟨R, 0, none⟩), .slice (some ⟨w.heap.size, 0, none⟩) 5 5] (w.alloc (.cells #[.string ⟨#[65]⟩, .string ⟨#[65, 65]⟩, .string ⟨#[89]⟩, .string ⟨#[65, 65, 65]⟩, .string ⟨#[]⟩] 9)) fun e w' => ∃ s : ByteArray, e = .returned (.string s) ∧ s.size ≤ 3 ∧ Only R w w' ∧ Rd w' R A len cap (p + 1) := by
 refine (of2 R A len cap p [⟨#[65]⟩, ⟨#[65, 65]⟩, ⟨#[89]⟩, ⟨#[65, 65, 65]⟩, ⟨#[]⟩] w h (by decide) (by decide) hp).mono ?_
 rintro e w' ⟨z, rfl, hz, o, r⟩
 refine ⟨z, rfl, ?_, o, r⟩
 revert z; decide
set_option maxHeartbeats 3200000 in
set_option maxRecDepth 100000 in
theorem some_any (R : Nat) (A : Option Addr) (len cap p : Nat) (w : World) (hr : Rd w R A len cap p) (hp : p ≤ 1000) :
  Calls Tryz.prog 83 #[.pointer (some ⟨R, 0, none⟩)] w (GoodPost 40 103 R A len cap p w) := by
 obtain ⟨i0, hi, hz0, hz1, hz2⟩ := info_parts info_block
 have hRlt := hr.blk.lt
 have HR := Lib.hid hr
 clear hr
 go_enter Tryz.func83, Tryz.ntmps83
 go_wp2_with fail
 refine (good_any R A len cap p w HR.out hp).mono ?_
 rintro e w1 ⟨v, g, q, rfl, hown, hg, ho1, r1, hq⟩
 have HOWN := Lib.hid hown
 have HO1 := Lib.hid ho1
 have HR1 := Lib.hid r1
 clear hown ho1 r1
 go_wp2_with fail
 refine (pick2 R A len cap q 30 w1 HR1.out (by omega) (by omega) (by omega)).mono ?_
 rintro e w2 ⟨x, rfl, hx, o2, r2⟩
 have HOWN2 := Lib.hid (ownRow_only HOWN.out hRlt o2)
 have HO2 := Lib.hid (HO1.out.trans o2)
 have HR2 := Lib.hid r2
 clear o2 r2
 by_cases h0 : x = 0
 ·have g0 : ((x : Int) == 0) = true := by rw [h0]; rfl
  clear h0
  have hs2 := HO2.out.size
  have HOA := Lib.hid (World.ownsRow_made (base := w.heap.size) (e := 45) (size := 2) w2 #[] 0 hs2 (Nat.zero_le _) rfl)
  have hlen : g.length ≤ 28 := by omega
  rcases HOWN2.out.2 with ⟨rfl, hn⟩ | ⟨gb, gcap, cur, rfl, hb, hgb, hnc, hcm, hcs, hct⟩
  ·go_wp2_with (at_builtin; refine wpList_append_own_none _ rfl _ _ 23 rfl w.heap.size 45 i0 2 Tryz.underlying23 hi _ _ _ rfl HOA.out rfl ?_)
   have hg0 : g = [] := List.eq_nil_of_length_eq_zero hn
   have HVX : Hid (OwnBl (w2.alloc (.cells #[] 45)) w.heap.size (.slice (some ⟨w2.heap.size, 0, none⟩) 0 0) g) := by rw [hg0]; exact HOA.out
   have HOX : Hid (Only R w (w2.alloc (.cells #[] 45))) := HO2.out.alloc _
   have HRX : Hid (Rd (w2.alloc (.cells #[] 45)) R A len cap (q + 1)) := HR2.out.below ((Below.refl _ _).alloc (Nat.le_refl _) _)
   have hS5 := of5a R A len cap (q + 1) _ HRX.out (by omega)
   rw [show (w2.alloc (.cells #[] 45)).heap.size = w2.heap.size + 1 from by simp] at hS5
   have HS5 := Lib.hid hS5
   clear hS5
   refine HS5.out.mono ?_
   rintro e w4 ⟨nm, rfl, hnm, o4, r4⟩
   have HV4 := Lib.hid (ownRow_only HVX.out hRlt o4)
   have HO4 := Lib.hid (HOX.out.trans o4)
   have HR4 := Lib.hid r4
   clear o4 r4
   have HS6 := Lib.hid (of5b R A len cap (q + 2) w4 HR4.out (by omega))
   go_wp2_with fail
   refine HS6.out.mono ?_
   rintro e w5 ⟨nx, rfl, hnx, o5, r5⟩
   have HV5 := Lib.hid (ownRow_only HV4.out hRlt o5)
   have HO5 := Lib.hid (HO4.out.trans o5)
   have HR5 := Lib.hid r5
   have hs5 := (HO4.out.trans o5).size
   clear o5 r5
   go_wp2_with (at_builtin; refine wpList_append_own _ rfl _ _ 23 rfl w.heap.size 45 i0 _ 2 32 Tryz.underlying23 hi hz0 hz1 hz2 rfl (by decide) _ _ _ rfl (HV5.out.alloc _) ⟨w5.heap.size, 0, none⟩ 1 1 [.string nm, .string nx] rfl rfl ?d1 ?d2 ?d3 ?d4 ?d5 ?_)
   case d1 => exact World.news_of_block (cs := #[.string nm, .string nx]) (t := 45) (fr := (0, 0)) (heap_alloc_new w5 _)
   case d2 => simp [Value.oneCell']
   case d3 => unfold maxLen; omega
   case d4 => omega
   case d5 => simp; omega
   intro v9 w9 hown9 hgrow9 _
   have hrow := (HV5.out.alloc (.cells #[.string nm, .string nx] 45)).lt
   have HO9 := Lib.hid ((HO5.out.alloc (.cells #[.string nm, .string nx] 45)).grown hgrow9 (fun j hj => (hrow j hj).1))
   have HR9 := Lib.hid (HR.out.grown (HR5.out.below ((Below.refl _ _).alloc (Nat.le_refl _) (.cells #[.string nm, .string nx] 45))) hgrow9 (fun j hj => (hrow j hj).1))
   have HV9 : Hid (OwnBl w9 w.heap.size v9 (g ++ [(nm, nx)])) := by
    show w9.ownsRow w.heap.size 45 2 v9 (g ++ [(nm, nx)]).length (cells2 (g ++ [(nm, nx)]))
    rw [List.length_append, cells2_append, hg0]
    exact hown9
   clear hown9 hgrow9 hrow
   go_wp2_with fail
   exact bodyPost_ret (v := v9) (by simp [results, Tryz.results83, go_sem]) rfl ⟨v9, g ++ [(nm, nx)], q + 3, rfl, HV9.out, by simp only [tot_append, tot, List.length_append, List.length_cons, List.length_nil]; omega, HO9.out, HR9.out, by omega⟩
  ·go_wp2_with (at_builtin; refine wpList_append_own _ rfl _ _ 23 rfl w.heap.size 45 i0 _ 2 32 Tryz.underlying23 hi hz0 hz1 hz2 rfl (by decide) _ _ _ rfl HOA.out ⟨gb, 0, none⟩ g.length gcap (cells2 g) rfl (cells2_length g) ?c1 (cells2_one g) ?c3 ?c4 ?c5 ?_)
   case c1 => exact (HOWN2.out.alloc _).cells rfl
   case c3 => unfold maxLen; omega
   case c4 => omega
   case c5 => simp; omega
   intro v' w8 hown' hgrow _
   have HVX : Hid (OwnBl w8 w.heap.size v' g) := by
    show w8.ownsRow w.heap.size 45 2 v' g.length (cells2 g)
    exact hown'
   have HOX := Lib.hid ((HO2.out.alloc (.cells #[] 45)).grown hgrow (fun j hj => (HOA.out.lt j hj).1))
   have HRX := Lib.hid (HR.out.grown (HR2.out.below ((Below.refl _ _).alloc (Nat.le_refl _) (.cells #[] 45))) hgrow (fun j hj => (HOA.out.lt j hj).1))
   clear hown' hgrow hgb
   have HS5 := Lib.hid (of5a R A len cap (q + 1) w8 HRX.out (by omega))
   have hsX : w.heap.size ≤ w8.heap.size := HOX.out.size
   go_wp2_with fail
   refine HS5.out.mono ?_
   rintro e w4 ⟨nm, rfl, hnm, o4, r4⟩
   have HV4 := Lib.hid (ownRow_only HVX.out hRlt o4)
   have HO4 := Lib.hid (HOX.out.trans o4)
   have HR4 := Lib.hid r4
   clear o4 r4
   have HS6 := Lib.hid (of5b R A len cap (q + 2) w4 HR4.out (by omega))
   go_wp2_with fail
   refine HS6.out.mono ?_
   rintro e w5 ⟨nx, rfl, hnx, o5, r5⟩
   have HV5 := Lib.hid (ownRow_only HV4.out hRlt o5)
   have HO5 := Lib.hid (HO4.out.trans o5)
   have HR5 := Lib.hid r5
   have hs5 := (HO4.out.trans o5).size
   clear o5 r5
   go_wp2_with (at_builtin; refine wpList_append_own _ rfl _ _ 23 rfl w.heap.size 45 i0 _ 2 32 Tryz.underlying23 hi hz0 hz1 hz2 rfl (by decide) _ _ _ rfl (HV5.out.alloc _) ⟨w5.heap.size, 0, none⟩ 1 1 [.string nm, .string nx] rfl rfl ?e1 ?e2 ?e3 ?e4 ?e5 ?_)
   case e1 => exact World.news_of_block (cs := #[.string nm, .string nx]) (t := 45) (fr := (0, 0)) (heap_alloc_new w5 _)
   case e2 => simp [Value.oneCell']
   case e3 => unfold maxLen; omega
   case e4 => omega
   case e5 => simp; omega
   intro v9 w9 hown9 hgrow9 _
   have hrow := (HV5.out.alloc (.cells #[.string nm, .string nx] 45)).lt
   have HO9 := Lib.hid ((HO5.out.alloc (.cells #[.string nm, .string nx] 45)).grown hgrow9 (fun j hj => (hrow j hj).1))
   have HR9 := Lib.hid (HR.out.grown (HR5.out.below ((Below.refl _ _).alloc (Nat.le_refl _) (.cells #[.string nm, .string nx] 45))) hgrow9 (fun j hj => (hrow j hj).1))
   have HV9 : Hid (OwnBl w9 w.heap.size v9 (g ++ [(nm, nx)])) := by
    show w9.ownsRow w.heap.size 45 2 v9 (g ++ [(nm, nx)]).length (cells2 (g ++ [(nm, nx)]))
    rw [List.length_append, cells2_append]
    exact hown9
   clear hown9 hgrow9 hrow
   go_wp2_with fail
   exact bodyPost_ret (v := v9) (by simp [results, Tryz.results83, go_sem]) rfl ⟨v9, g ++ [(nm, nx)], q + 3, rfl, HV9.out, by simp only [tot_append, tot, List.length_append, List.length_cons, List.length_nil]; omega, HO9.out, HR9.out, by omega⟩
 ·have g0 : ((x : Int) == 0) = false := by simp; omega
  by_cases h1 : x = 1
  ·have g1 : ((x : Int) == 1) = true := by rw [h1]; rfl
   clear h0 h1
   rcases HOWN2.out.2 with ⟨rfl, hn⟩ | ⟨gb, gcap, cur, rfl, hb, hgb, hnc, hcm, hcs, hct⟩
   ·go_wp2_with fail
    exact bodyPost_ret (v := .slice none 0 0) (by simp [results, Tryz.results83, go_sem]) rfl ⟨.slice none 0 0, [], q + 1, rfl, World.ownsRow_nil _ _ _ _, by simp [tot], HO2.out, HR2.out, by omega⟩
   ·go_wp2_with fail
    exact bodyPost_ret (v := .slice (some ⟨gb, 0, none⟩) 0 gcap) (by simp [results, Tryz.results83, go_sem]) rfl ⟨.slice (some ⟨gb, 0, none⟩) 0 gcap, [], q + 1, rfl, ⟨by simp [cells2], .inr ⟨gb, gcap, cur, rfl, hb, hgb, Nat.zero_le _, hcm, hcs, by simp [cells2]⟩⟩, by simp [tot], HO2.out, HR2.out, by omega⟩
  ·have g1 : ((x : Int) == 1) = false := by simp; omega
   clear h0 h1
   go_wp2_with fail
   exact bodyPost_ret (v := v) (by simp [results, Tryz.results83, go_sem]) rfl ⟨v, g, q + 1, rfl, HOWN2.out, by omega, HO2.out, HR2.out, by omega⟩
end Go.Proofs.YtlkfakdghjaoaaaGreatDoor
namespace Go.Proofs.YtlkfakdghjaoaaaGreatDoor
open Go.RowKit Go.Sort
theorem of12 (R : Nat) (A : Option Addr) (len cap p : Nat) (w : World) (h : Rd w R A len cap p) (hp : p ≤ 1048576) :
  Calls Tryz.prog 123 #[.pointer (some ⟨R, 0, none⟩), .slice (some ⟨w.heap.size, 0, none⟩) 12 12] (w.alloc (.cells #[.string ⟨#[65]⟩, .string ⟨#[66]⟩, .string ⟨#[67]⟩, .string ⟨#[68]⟩, .string ⟨#[69]⟩, .string ⟨#[66]⟩, .string ⟨#[67]⟩, .string ⟨#[70]⟩, .string ⟨#[74]⟩, .string ⟨#[107]⟩, .string ⟨#[]⟩, .string ⟨#[65, 66]⟩] 9)) fun e w' => ∃ s : ByteArray, e = .returned (.string s) ∧ s.size ≤ 2 ∧ Only R w w' ∧ Rd w' R A len cap (p + 1) := by
 refine (of2 R A len cap p [⟨#[65]⟩, ⟨#[66]⟩, ⟨#[67]⟩, ⟨#[68]⟩, ⟨#[69]⟩, ⟨#[66]⟩, ⟨#[67]⟩, ⟨#[70]⟩, ⟨#[74]⟩, ⟨#[107]⟩, ⟨#[]⟩, ⟨#[65, 66]⟩] w h (by decide) (by decide) hp).mono ?_
 rintro e w' ⟨z, rfl, hz, o, r⟩
 refine ⟨z, rfl, ?_, o, r⟩
 revert z; decide
def AnyPost (R : Nat) (A : Option Addr) (len cap p : Nat) (w : World) (e : Ending) (w' : World) : Prop :=
 ∃ s : ByteArray, e = .returned (.string s) ∧ s.size ≤ 2 ∧ Only R w w' ∧ Rd w' R A len cap (p + 1)
set_option maxRecDepth 100000 in
theorem any_any (R : Nat) (A : Option Addr) (len cap p : Nat) (w : World) (h : Rd w R A len cap p) (hp : p ≤ 1048576) :
  Calls Tryz.prog 77 #[.pointer (some ⟨R, 0, none⟩)] w (AnyPost R A len cap p w) := by
 have HC := Lib.hid (of12 R A len cap p w h hp)
 clear h
 go_enter Tryz.func77, Tryz.ntmps77
 go_wp2_with fail
 refine HC.out.mono ?_
 rintro e w' ⟨s, rfl, hs, o, r⟩
 go_wp2_with fail
 go_ret
 exact ⟨s, rfl, hs, o, r⟩
def DrawPlacePost (n : Nat) (w : World) (e : Ending) (w' : World) : Prop :=
 ∃ v g s, e = .returned (.tuple #[v, .string s]) ∧ OwnBl w' w.heap.size v g ∧ g.length + tot g ≤ n ∧ s.size ≤ 2 ∧ Below w.heap.size w w'
end Go.Proofs.YtlkfakdghjaoaaaGreatDoor
