/-
  What the model's l1Good draws is valid.
-/
import Derived.Test.YteodlcgmncchpacDoorSome
namespace Go.Proofs.YteodlcgmncchpacDoor
open Go.RowKit Go.Sort

abbrev LET : ByteArray := ⟨#[65, 66, 67, 68, 69, 70, 71, 72, 73, 74]⟩

structure NextOK (n : Nat) (next : ByteArray) : Prop where
  mem : ∀ c ∈ next.data.toList, c ∈ (LET.extract 0 n).data.toList
  nodup : next.data.toList.Nodup

theorem NextOK.nil (n : Nat) : NextOK n ⟨#[]⟩ := ⟨by simp, by simp⟩

theorem mem_tab : ((List.range 8).all fun n => (List.range n).all fun a => (LET.extract 0 n).data.toList.contains (LET.data.toList.getD a 0)) = true := by kernel_rfl
theorem cat_tab : ((List.range 7).all fun j => (LET.extract 0 j ++ LET.extract j (j + 1)).data.toList == (LET.extract 0 (j + 1)).data.toList) = true := by kernel_rfl
theorem new_tab : ((List.range 7).all fun j => newB (LET.extract 0 j) (LET.extract j (j + 1))) = true := by kernel_rfl
theorem known_tab : (knownTexts.all fun s => validB (parseVal s)) = true := by kernel_rfl
theorem known_valid (s : ByteArray) (h : s ∈ knownTexts) : validB (parseVal s) = true := List.all_eq_true.1 known_tab s h

theorem NextOK.more {n κ : Nat} {next : ByteArray} (h : NextOK n next) (hκ : κ < n) (hn : n ≤ 7) (h10 : κ < LET.size) (hx : Lib.indexByte next.data.toList (LET[κ]'h10) < 0) : NextOK n (next ++ LET.extract κ (κ + 1)) := by
  have hs : LET.size = 10 := rfl
  have he : LET.extract κ (κ + 1) = ⟨#[LET[κ]'h10]⟩ := ex_byte LET (a := κ) (b := κ + 1) (by omega) (by omega) (by omega)
  have hl : (next ++ LET.extract κ (κ + 1)).data.toList = next.data.toList ++ [LET[κ]'h10] := by rw [he, ba_append_toList]
  have hm : LET[κ]'h10 ∈ (LET.extract 0 n).data.toList := by
    have h1 := List.all_eq_true.1 (List.all_eq_true.1 mem_tab n (List.mem_range.2 (by omega))) κ (List.mem_range.2 hκ)
    have h2 := byte_at LET κ h10
    rw [List.getD_eq_getElem?_getD, h2, List.contains_iff_mem] at h1
    exact h1
  have hnx := idx_neg.1 hx
  constructor
  · intro c hc
    rw [hl] at hc
    rcases List.mem_append.1 hc with hc | hc
    · exact h.mem c hc
    · rw [List.mem_singleton.1 hc]; exact hm
  · rw [hl, List.nodup_append]
    refine ⟨h.nodup, by simp, fun x hx y hy e => ?_⟩
    rw [List.mem_singleton.1 hy] at e
    exact hnx (e ▸ hx)

def GoodG (n : Nat) (g : List Bl) : Prop := ∀ j (h : j < g.length), g[j].1 = LET.extract j (j + 1) ∧ g[j].2.size ≤ 2 ∧ NextOK n g[j].2

theorem GoodG.more {n : Nat} {g : List Bl} {nm next : ByteArray} (h : GoodG n g) (hnm : nm = LET.extract g.length (g.length + 1)) (hs : next.size ≤ 2) (hx : NextOK n next) : GoodG n (g ++ [(nm, next)]) := by
  intro j hj
  by_cases hlt : j < g.length
  · rw [List.getElem_append_left hlt]; exact h j hlt
  · have hje : j = g.length := by simp at hj; omega
    subst hje
    rw [List.getElem_append_right (Nat.le_refl _)]
    simp only [Nat.sub_self, List.getElem_cons_zero]
    exact ⟨hnm, hs, hx⟩

theorem good_valid {n : Nat} {g : List Bl} (h1 : 1 ≤ n) (h7 : n ≤ 7) (hl : g.length = n) (h : GoodG n g) : validB g = true := by
  have hnames : ∀ j, j ≤ n → names (g.take j) = LET.extract 0 j := by
    intro j
    induction j with
    | zero => intro _; rfl
    | succ j ih =>
      intro hj
      rw [names_take g j (by omega), ih (by omega), (h j (by omega)).1]
      have := List.all_eq_true.1 cat_tab j (List.mem_range.2 (by omega))
      exact ba_ext (beq_iff_eq.1 this)
  have hall : names g = LET.extract 0 n := by rw [← hnames n (Nat.le_refl _), ← hl, List.take_length]
  refine valid_iff.2 ⟨by omega, by omega, newsB_iff.2 fun k hk => ?_, nextsB_iff.2 fun k hk => ?_⟩
  · rw [hnames k (by omega), (h k hk).1]
    exact List.all_eq_true.1 new_tab k (List.mem_range.2 (by omega))
  · obtain ⟨_, hs2, hok⟩ := h k hk
    rw [hall]
    unfold nextB
    have e1 : decide (g[k].2.size ≤ 2) = true := decide_eq_true hs2
    have e2 : (g[k].2.data.toList.all fun c => (LET.extract 0 n).data.toList.contains c) = true := List.all_eq_true.2 fun c hc => List.contains_iff_mem.2 (hok.mem c hc)
    rw [e1, e2, Bool.true_and, Bool.true_and]
    have hsz : g[k].2.data.toList.length = g[k].2.size := by rw [Array.length_toList]; rfl
    have hnd := hok.nodup
    generalize g[k].2.size = z at hsz ⊢
    generalize g[k].2.data.toList = l at hsz hnd ⊢
    match l, hsz, hnd with
    | [], hz, _ => subst hz; rfl
    | [_], hz, _ => subst hz; rfl
    | [a, b], hz, hnd =>
      have hab : a ≠ b := by simpa using hnd
      simp [hab]
    | a :: b :: c :: r, hz, _ =>
      have : (z == 2) = false := by simp at hz ⊢; omega
      rw [this]; rfl

def GoodPostV (n c R : Nat) (A : Option Addr) (len cap p : Nat) (w : World) (e : Ending) (w' : World) : Prop :=
  ∃ v g q, e = .returned v ∧ OwnBl w' w.heap.size v g ∧ g.length + tot g ≤ n ∧ Only R w w' ∧ Rd w' R A len cap q ∧ q ≤ p + c ∧ validB g = true

set_option maxHeartbeats 1600000 in
set_option maxRecDepth 100000 in
theorem knownValid_any (k : Nat) (w : World) (hk : k < 11) :
    Calls Tryd.prog 46 #[.int .i64 k] w (fun e w' => ∃ v g, e = .returned v ∧ OwnBl w' w.heap.size v g ∧ g.length + tot g ≤ 25 ∧ Below w.heap.size w w' ∧ validB g = true) := by
  obtain ⟨s, hs⟩ : ∃ s, knownTexts[k]? = some s := ⟨_, List.getElem?_eq_getElem (by simpa [knownTexts] using hk)⟩
  have hsz := known_small s (List.mem_of_getElem? hs)
  have HKV := Lib.hid (known_valid s (List.mem_of_getElem? hs))
  have HP : Hid (∀ w, Calls Tryd.prog 14 #[.string s] w (ParsePost s w)) := fun w => specParse_any s w (by omega)
  have HB : Hid ((knownTexts.map Value.string)[k]? = some (.string s)) := by
    show (knownTexts.map Value.string)[k]? = some (.string s)
    rw [List.getElem?_map, hs]; rfl
  have HCELL : Hid (∀ w : World, (w.alloc (.cells (knownTexts.map Value.string).toArray 9)).cell? ⟨w.heap.size, k, none⟩ = some (.string s)) := fun w => by
    rw [(Blk.new w 9 (knownTexts.map Value.string).toArray).cell k]
    simpa using HB.out
  have hm : k % 11 = k := by omega
  have hkl : (k : Int) < 11 := by omega
  clear hs
  go_enter Tryd.func46, Tryd.ntmps46
  have hcell := HCELL.out w
  simp only [knownTexts, List.map_cons, List.map_nil] at hcell
  go_wp2_with fail
  clear hcell
  refine (HP.out _).mono ?_
  rintro e w2 ⟨v, rfl, hv, b2⟩
  have HV := Lib.hid (ownRow_base hv (show w.heap.size ≤ _ by simp))
  have hB := below_trans_self ((Below.refl w.heap.size w).alloc (Nat.le_refl _) _) b2
  have HS := Lib.hid (parseVal_small s)
  clear hv
  go_wp2_with fail
  exact bodyPost_ret (v := v) (by simp [results, Tryd.results46, go_sem]) rfl ⟨v, parseVal s, rfl, HV.out, by have := HS.out; omega, hB, HKV.out⟩

set_option maxHeartbeats 3200000 in
set_option maxRecDepth 100000 in
theorem goodValid_any (R : Nat) (A : Option Addr) (len cap p : Nat) (w : World) (hr : Rd w R A len cap p) (hp : p ≤ 1000) :
    Calls Tryd.prog 34 #[.pointer (some ⟨R, 0, none⟩)] w (GoodPostV 28 100 R A len cap p w) := by
  obtain ⟨i0, hi, hz0, hz1, hz2⟩ := info_parts info_block
  have hRlt := hr.blk.lt
  have HR := Lib.hid hr
  clear hr
  go_enter Tryd.func34, Tryd.ntmps34
  go_wp2_with fail
  refine (pick2 R A len cap p 3 w HR.out (by omega) (by omega) (by omega)).mono ?_
  rintro e w1 ⟨x, rfl, hx, o1, r1⟩
  by_cases h0 : x = 0
  · have g0 : ((x : Int) == 0) = true := by rw [h0]; rfl
    have HR1 := Lib.hid r1
    clear h0 r1
    go_wp2_with fail
    refine (pick2 R A len cap (p + 1) 11 w1 HR1.out (by omega) (by omega) (by omega)).mono ?_
    rintro e w2 ⟨y, rfl, hy, o2, r2⟩
    have HR2 := Lib.hid r2
    clear r2
    go_wp2_with fail
    refine (knownValid_any y w2 hy).mono ?_
    rintro e w3 ⟨v, g, rfl, hv, hs, b3, hvg⟩
    have HVG := Lib.hid hvg
    clear hvg
    have HV := Lib.hid (ownRow_base hv (Nat.le_trans o1.size o2.size))
    have hO := (o1.trans o2).trans (.of_below b3)
    clear hv
    go_wp2_with fail
    exact bodyPost_ret (v := v) (by simp [results, Tryd.results34, go_sem]) rfl ⟨v, g, p + 2, rfl, HV.out, by omega, hO, HR2.out.below b3, by omega, HVG.out⟩
  · have g0 : ((x : Int) == 0) = false := by simp; omega
    have HR1 := Lib.hid r1
    have hR1 := r1.blk.lt
    clear h0 r1
    go_wp2_with fail
    refine (num7 R A len cap (p + 1) w1 HR1.out (by omega)).mono ?_
    rintro e w2 ⟨n, rfl, ⟨hn1, hn7⟩, o2, r2⟩
    have HO2 := Lib.hid (o1.trans o2)
    have HR2 := Lib.hid r2
    have hR2 := r2.blk.lt
    have hs2 := (o1.trans o2).size
    clear o1 o2 r2 hR1
    go_wp2_with fail
    have HO0 := Lib.hid (World.ownsRow_made (base := w.heap.size) (e := 52) (size := 2) w2 #[] 0 hs2 (Nat.zero_le _) rfl)
    go_loopw [5, 20] (fun v i wr => ∃ (k q : Nat) (g : List Bl), k ≤ n ∧ i = .int .i64 k ∧ g.length = k ∧ tot g ≤ 3 * k ∧ q ≤ p + 2 + 7 * k ∧ Hid (GoodG n g) ∧ OwnBl wr w.heap.size v g ∧ Rd wr R A len cap q ∧ Only R w wr) (fun _ i _ => n - (intOf i).toNat)
    case atStart => exact ⟨0, p + 2, [], Nat.zero_le _, rfl, rfl, Nat.zero_le _, by omega, fun j h => absurd h (by simp), HO0.out, HR2.out.below ((Below.refl _ _).alloc (Nat.le_refl _) _), HO2.out.alloc _⟩
    case round =>
      obtain ⟨k, q, g, hk, rfl, hgl, hgt, hq, HGG, hown, hrd, ho⟩ := hrel
      have HGL := Lib.hid hgl
      have HGT := Lib.hid hgt
      have HOWN := Lib.hid hown
      have HRD := Lib.hid hrd
      have HO := Lib.hid ho
      have hlt3 := hrd.blk.lt
      clear hgl hgt hown hrd ho
      by_cases hlt : k < n
      · go_wp2_with fail
        refine (num5 R A len cap q wr HRD.out (by omega)).mono ?_
        rintro e w3 ⟨t, rfl, ht, o3, r3⟩
        have HO3 := Lib.hid (HO.out.trans o3)
        have HR3 := Lib.hid r3
        have HOWN3 := Lib.hid (ownRow_only HOWN.out hRlt o3)
        clear o3 r3
        go_wp2_with fail
        obtain ⟨wo, hwo⟩ : ∃ wo : World, wo = wr := ⟨_, rfl⟩
        rw [← hwo] at hlt3
        clear hwo
        go_loopw [7, 26] (fun s c wr => ∃ (j q' : Nat) (next : ByteArray), j ≤ t ∧ c = .int .i64 j ∧ s = .string next ∧ next.size ≤ j ∧ q' ≤ q + 1 + 3 * j ∧ Hid (NextOK n next) ∧ Rd wr R A len cap q' ∧ Only R w wr ∧ w3.heap.size ≤ wr.heap.size ∧ Only R w3 wr) (fun _ c _ => t - (intOf c).toNat)
        case atStart => exact ⟨0, q + 1, ⟨#[]⟩, Nat.zero_le _, rfl, rfl, Nat.zero_le _, by omega, NextOK.nil n, HR3.out, HO3.out, Nat.le_refl _, Only.refl _ _⟩
        case round =>
          obtain ⟨j, q', next, hj, rfl, rfl, hnx, hq', HNX, hrd, ho, hsz, ho3⟩ := hrel
          have HRD' := Lib.hid hrd
          have HO' := Lib.hid ho
          have HO3' := Lib.hid ho3
          clear hrd ho ho3
          by_cases hjt : j < t
          · go_wp2_with fail
            refine (pick2 R A len cap q' n _ HRD'.out (by omega) (by omega) (by omega)).mono ?_
            rintro e w4 ⟨a, rfl, ha, o4, r4⟩
            have HR4 := Lib.hid r4
            have HO4 := Lib.hid o4
            clear r4 o4
            go_wp2_with fail
            refine (pick2 R A len cap (q' + 1) 3 _ HR4.out (by omega) (by omega) (by omega)).mono ?_
            rintro e w5 ⟨b, rfl, hb, o5, r5⟩
            have HR5 := Lib.hid r5
            have HO5 := Lib.hid o5
            clear r5 o5
            by_cases hb0 : 0 < b
            · have g1 : decide ((0 : Int) < b) = true := by simp; omega
              go_wp2_with fail
              refine (pick2 R A len cap (q' + 2) 2 _ HR5.out (by omega) (by omega) (by omega)).mono ?_
              rintro e w6 ⟨c, rfl, hc, o6, r6⟩
              have HR6 := Lib.hid r6
              have HO6 := Lib.hid o6
              clear r6 o6
              go_wp2_with fail
              refine (find_any next _ _ (by omega)).mono ?_
              rintro e w7 ⟨rfl, rfl⟩
              have hκ0 : (min ((k : Int) + 1 + (c : Int)) ((n : Int) - 1)).toNat < n := by omega
              have hκ1 : (min ((k : Int) + 1 + (c : Int)) ((n : Int) - 1) + 1).toNat = (min ((k : Int) + 1 + (c : Int)) ((n : Int) - 1)).toNat + 1 := by omega
              have h10a : (min ((k : Int) + 1 + (c : Int)) ((n : Int) - 1)).toNat < LET.size := by show _ < 10; omega
              have HMO := Lib.hid (fun (hx : Lib.indexByte next.data.toList (LET[(min ((k : Int) + 1 + (c : Int)) ((n : Int) - 1)).toNat]'h10a) < 0) => HNX.out.more hκ0 hn7 h10a hx)
              have HK1 := Lib.hid hκ1
              clear hκ0 hκ1
              obtain ⟨ix, hix0⟩ : ∃ ix, ix = Lib.indexByte next.data.toList (LET[(min ((k : Int) + 1 + (c : Int)) ((n : Int) - 1)).toNat]'h10a) := ⟨_, rfl⟩
              rw [← hix0] at HMO ⊢
              clear hix0
              by_cases hix : ix < 0
              · go_wp2_with fail
                go_roundw
                case rel => exact ⟨j + 1, q' + 3, _, by omega, by go_num, rfl, by (rw [ByteArray.size_append, ByteArray.size_extract]; omega), by omega, (by rw [HK1.out]; exact HMO.out hix), HR6.out, ((HO'.out.trans HO4.out).trans HO5.out).trans HO6.out, Nat.le_trans hsz (((HO4.out.trans HO5.out).trans HO6.out).size), ((HO3'.out.trans HO4.out).trans HO5.out).trans HO6.out⟩
                case measure => simp [intOf]; omega
              · go_wp2_with fail
                go_roundw
                case rel => exact ⟨j + 1, q' + 3, next, by omega, by go_num, rfl, by omega, by omega, HNX, HR6.out, ((HO'.out.trans HO4.out).trans HO5.out).trans HO6.out, Nat.le_trans hsz (((HO4.out.trans HO5.out).trans HO6.out).size), ((HO3'.out.trans HO4.out).trans HO5.out).trans HO6.out⟩
                case measure => simp [intOf]; omega
            · have g1 : decide ((0 : Int) < b) = false := by simp; omega
              go_wp2_with fail
              refine (find_any next _ _ (by omega)).mono ?_
              rintro e w7 ⟨rfl, rfl⟩
              have h10a : a < LET.size := by show _ < 10; omega
              have HMO := Lib.hid (fun (hx : Lib.indexByte next.data.toList (LET[a]'h10a) < 0) => HNX.out.more ha hn7 h10a hx)
              obtain ⟨ix, hix0⟩ : ∃ ix, ix = Lib.indexByte next.data.toList (LET[a]'h10a) := ⟨_, rfl⟩
              rw [← hix0] at HMO ⊢
              clear hix0
              by_cases hix : ix < 0
              · go_wp2_with fail
                go_roundw
                case rel => exact ⟨j + 1, q' + 2, _, by omega, by go_num, rfl, by (rw [ByteArray.size_append, ByteArray.size_extract]; omega), by omega, HMO.out hix, HR5.out, (HO'.out.trans HO4.out).trans HO5.out, Nat.le_trans hsz ((HO4.out.trans HO5.out).size), (HO3'.out.trans HO4.out).trans HO5.out⟩
                case measure => simp [intOf]; omega
              · go_wp2_with fail
                go_roundw
                case rel => exact ⟨j + 1, q' + 2, next, by omega, by go_num, rfl, by omega, by omega, HNX, HR5.out, (HO'.out.trans HO4.out).trans HO5.out, Nat.le_trans hsz ((HO4.out.trans HO5.out).size), (HO3'.out.trans HO4.out).trans HO5.out⟩
                case measure => simp [intOf]; omega
          · have hown4 := ownRow_only HOWN3.out hRlt HO3'.out
            rw [HGL.out] at hown4
            have HOWN4 := Lib.hid hown4
            have hbs : w.heap.size ≤ wr.heap.size := HO'.out.size
            clear hown4
            obtain ⟨nm, hnm⟩ : ∃ nm, nm = (⟨#[65, 66, 67, 68, 69, 70, 71, 72, 73, 74]⟩ : ByteArray).extract k (k + 1) := ⟨_, rfl⟩
            have hnms : nm.size ≤ 1 := by rw [hnm, ByteArray.size_extract]; omega
            have HNM := Lib.hid hnm
            clear hnm
            go_wp2_with (at_builtin; refine wpList_append_own _ rfl _ _ 23 rfl w.heap.size 52 i0 _ 2 32 Tryd.underlying23 hi hz0 hz1 hz2 rfl (by decide) _ _ _ rfl (HOWN4.out.alloc _) ⟨wr.heap.size, 0, none⟩ 1 1 [.string ((⟨#[65, 66, 67, 68, 69, 70, 71, 72, 73, 74]⟩ : ByteArray).extract k (k + 1)), .string next] rfl rfl ?c1 ?c2 ?c3 ?c4 ?c5 ?_)
            case c1 =>
              exact World.news_of_block (cs := #[.string ((⟨#[65, 66, 67, 68, 69, 70, 71, 72, 73, 74]⟩ : ByteArray).extract k (k + 1)), .string next]) (t := 52) (fr := (0, 0)) (heap_alloc_new wr _)
            case c2 => simp [Value.oneCell']
            case c3 => unfold maxLen; omega
            case c4 => omega
            case c5 => simp; omega
            intro v' w8 hown' hgrow _
            have hrow := (HOWN4.out.alloc (.cells #[.string ((⟨#[65, 66, 67, 68, 69, 70, 71, 72, 73, 74]⟩ : ByteArray).extract k (k + 1)), .string next] 52)).lt
            have HO8 := Lib.hid ((HO'.out.alloc (.cells #[.string ((⟨#[65, 66, 67, 68, 69, 70, 71, 72, 73, 74]⟩ : ByteArray).extract k (k + 1)), .string next] 52)).grown hgrow (fun j hj => (hrow j hj).1))
            have HR8 := Lib.hid (HR.out.grown (HRD'.out.below ((Below.refl _ _).alloc (Nat.le_refl _) (.cells #[.string ((⟨#[65, 66, 67, 68, 69, 70, 71, 72, 73, 74]⟩ : ByteArray).extract k (k + 1)), .string next] 52))) hgrow (fun j hj => (hrow j hj).1))
            have HO9 : Hid (OwnBl w8 w.heap.size v' (g ++ [(nm, next)])) := by
              show w8.ownsRow w.heap.size 52 2 v' (g ++ [(nm, next)]).length (cells2 (g ++ [(nm, next)]))
              rw [List.length_append, cells2_append, HGL.out, HNM.out]
              exact hown'
            have HT9 : Hid (tot (g ++ [(nm, next)]) ≤ 3 * (k + 1)) := by
              show tot (g ++ [(nm, next)]) ≤ 3 * (k + 1)
              have := HGT.out
              simp only [tot_append, tot]
              omega
            have HG9 : Hid (GoodG n (g ++ [(nm, next)])) := HGG.out.more (by rw [HGL.out]; exact HNM.out) (by omega) HNX.out
            clear hown' hgrow hrow
            go_wp2_with fail
            go_roundw
            case rel => exact ⟨k + 1, q', g ++ [(nm, next)], by omega, by go_num, by simp [HGL.out], HT9.out, by omega, HG9, HO9.out, HR8.out, HO8.out⟩
            case measure => simp [intOf]; omega
      · go_wp2_with fail
        refine bodyPost_ret (v := u5) (by simp [results, Tryd.results34, go_sem]) rfl ⟨u5, g, q, rfl, HOWN.out, ?_, HO.out, HRD.out, by omega, good_valid hn1 hn7 (by rw [HGL.out]; omega) HGG.out⟩
        have h1 := HGL.out
        have h2 := HGT.out
        omega
end Go.Proofs.YteodlcgmncchpacDoor
