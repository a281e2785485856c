/-
  Contracts of the model: DominatorsOf, ParentOf, ChildrenOf, Dominates.
-/
import Derived.Test.YtklnhbfpmmdhjaaGreatSpecOrder
namespace Go.Proofs.YtklnhbfpmmdhjaaGreat
open Go.RowKit Go.Sort

theorem beq_emp {s : ByteArray} (h : 0 < s.size) : (s.toList == ([] : List UInt8)) = false := by
  have hl := list_of_size (s := s)
  rw [Lib.toList_data]
  cases hd : s.data.toList with
  | nil => rw [hd] at hl; simp at hl; omega
  | cons c r => rfl

def domV (g : List Bl) (s : ByteArray) : ByteArray := match liveOf g s with | some n => namesAt g (domL g n) | none => ⟨#[]⟩
def liveB (g : List Bl) (s : ByteArray) : Bool := (liveOf g s).isSome
theorem domV_some {g : List Bl} {s : ByteArray} {n : Nat} (h : liveOf g s = some n) : domV g s = namesAt g (domL g n) := by unfold domV; rw [h]
theorem domV_none {g : List Bl} {s : ByteArray} (h : liveOf g s = none) : domV g s = ⟨#[]⟩ := by unfold domV; rw [h]
theorem liveB_some {g : List Bl} {s : ByteArray} {n : Nat} (h : liveOf g s = some n) : liveB g s = true := by unfold liveB; rw [h]; rfl
theorem liveB_none {g : List Bl} {s : ByteArray} (h : liveOf g s = none) : liveB g s = false := by unfold liveB; rw [h]; rfl

/-- A live block's name. -/
theorem live_name {g : List Bl} {s : ByteArray} {n : Nat} (h : liveOf g s = some n) : validB g = true ∧ n < g.length ∧ s = nthName g n ∧ Rch g [] n := by
  obtain ⟨hv, hp, hr⟩ := liveOf_is h
  obtain ⟨hl, e⟩ := posOf_is hp
  exact ⟨hv, hl, by rw [nthName_at hl, e], (mem_reach hv).1 hr⟩


def parV (g : List Bl) (s : ByteArray) : ByteArray := match liveOf g s with | some n => parS g n | none => ⟨#[]⟩
def parO (g : List Bl) (s : ByteArray) : Bool := match liveOf g s with | some n => (parL g n).isSome | none => false


theorem parS_is {g : List Bl} (hv : validB g = true) {n c : Nat} (hn : n < g.length) (hc : Rch g [] c) : ((parS g c).toList == (nthName g n).toList) = decide (parL g c = some n) := by
  rw [Bool.eq_iff_iff, beq_toList, decide_eq_true_iff]
  cases hp : parL g c with
  | none =>
    rw [parS_none hp]
    constructor
    · intro e
      have := congrArg ByteArray.size e
      rw [one_size hv hn] at this; cases this
    · intro e; cases e
  | some p =>
    rw [parS_some hp]
    have hpl := ((parL_iff hv hc).1 hp).2.1.lt hv
    constructor
    · intro e
      rw [nthName_at hpl, nthName_at hn] at e
      rw [name_inj hv hpl hn e]
    · intro e; cases e; rfl

theorem kids_dm {g : List Bl} (hv : validB g = true) {n c : Nat} (hc : Rch g [] c) (h : dmB g n c = false) : decide (parL g c = some n) = false := by
  rw [decide_eq_false_iff_not]
  intro e
  have := ((parL_iff hv hc).1 e).2.2 n
  have h2 : dmB g n c = true := (dmB_iff hv).2 (this.2 (.inr (.refl g n)))
  rw [h] at h2; cases h2

set_option maxRecDepth 100000 in
set_option maxHeartbeats 2000000 in
theorem l3Children_any (A : Option Addr) (cap : Nat) (g : List Bl) (nm : ByteArray) (n : Nat) (w : World) (hg : Gr w A g) (hn : g.length + tot g ≤ 1048576) (hv : validB g = true) (hnl : n < g.length) (hnm : nm = nthName g n) :
    Calls Tryz.prog 54 #[.slice A g.length cap, .string nm] w fun e w' => e = .returned (.string (namesAt g (kidsL g n))) ∧ Below w.heap.size w w' := by
  have h26 := (valid_iff.1 hv).2.1
  have hrl : ∀ j ∈ reachS g, j < g.length := fun j hj => ((mem_reachS' hv).1 hj).lt hv
  have HO := Lib.hid (l1Reached_any A cap g w hg hn hv)
  obtain ⟨o, ho⟩ : ∃ o, o = namesAt g (reachS g) := ⟨_, rfl⟩
  have hos : o.size = (reachS g).length := by rw [ho]; exact namesAt_size hv _ hrl
  have hol : (reachS g).length ≤ g.length := srt_len g (reach g) g.length
  rw [← ho] at HO
  have HOO := Lib.hid ho
  have HOS := Lib.hid hos
  have hos2 : o.size ≤ 26 := by omega
  have HG := Lib.hid hg
  have HV := Lib.hid hv
  have HNM := Lib.hid hnm
  have HNL := Lib.hid hnl
  have HRL := Lib.hid hrl
  clear ho hg hv hnm hnl hos hrl
  go_enter Tryz.func54, Tryz.ntmps54
  go_wp2_with fail
  refine HO.out.mono ?_
  rintro e w1 ⟨rfl, b1⟩
  have HB1 := Lib.hid b1
  clear b1
  go_wp2_with fail
  go_loopw [5, 12] (fun ov iv wr => ∃ (k : Nat) (out : ByteArray), k ≤ o.size ∧ iv = .int .i64 k ∧ ov = .string out ∧ Hid (out = namesAt g (((reachS g).take k).filter fun c => decide (parL g c = some n))) ∧ Below w.heap.size w wr) (fun _ iv _ => o.size - (intOf iv).toNat)
  case atStart => exact ⟨0, ⟨#[]⟩, Nat.zero_le _, rfl, rfl, rfl, HB1.out⟩
  case round =>
    obtain ⟨k, out, hk, rfl, rfl, HOUT, hB⟩ := hrel
    have HB := Lib.hid hB
    have hoz : out.size ≤ k := by
      rw [HOUT.out, namesAt_size HV.out _ fun i hi => HRL.out i ((List.take_subset _ _) (List.mem_filter.1 hi).1)]
      have := List.length_filter_le (fun c => decide (parL g c = some n)) ((reachS g).take k)
      have := List.length_take_le k (reachS g)
      omega
    clear hB
    by_cases hlt : k < o.size
    · have hlt' : k < (reachS g).length := by rw [← HOS.out]; exact hlt
      obtain ⟨x, hx⟩ : ∃ x, x = (reachS g)[k] := ⟨_, rfl⟩
      have hxm : x ∈ reachS g := hx ▸ List.getElem_mem hlt'
      have hxl : x < g.length := HRL.out x hxm
      have hxr := (mem_reachS' HV.out).1 hxm
      obtain ⟨_, hcut⟩ := namesAt_cut HV.out HRL.out hlt'
      have HEX := Lib.hid (show o.extract k (k + 1) = nthName g x by rw [HOO.out, hcut, nthName_at hxl]; congr 2; exact hx.symm)
      have hk1 : k + 1 ≤ o.size := by omega
      have hxz : (o.extract k (k + 1)).size = 1 := by rw [HEX.out]; exact one_size HV.out hxl
      have hz : out.size + (o.extract k (k + 1)).size ≤ 1048576 := by omega
      have HD := Lib.hid (fun W (h : Gr W A g) => l3Dominates_any A cap g nm (o.extract k (k + 1)) n x W h (by omega) HV.out HNL.out hxl HNM.out HEX.out)
      have HPA := Lib.hid (fun W (h : Gr W A g) => l3Parent_any A cap g (o.extract k (k + 1)) x W h (by omega) HV.out hxr HEX.out)
      have HFT := Lib.hid (filter_take (p := fun c => decide (parL g c = some n)) hlt')
      have hpi := parS_is HV.out HNL.out hxr
      rw [← HNM.out] at hpi
      obtain ⟨ps, hps⟩ : ∃ ps, ps = parS g x := ⟨_, rfl⟩
      rw [← hps] at HPA hpi
      have HX := Lib.hid hx
      have hkd := kids_dm HV.out (n := n) hxr
      clear hx hcut hxz hxm hps
      cases hd : dmB g n x with
      | false =>
        rw [hd] at HD
        have HO2 := Lib.hid (show out = namesAt g (((reachS g).take (k + 1)).filter fun c => decide (parL g c = some n)) by
          rw [HFT.out, ← HX.out, hkd hd, if_neg (by simp), List.append_nil, HOUT.out])
        clear hd hkd hpi hxr
        go_wp2_with fail
        refine (HD.out _ (HG.out.below HB.out)).mono ?_
        rintro e w4 ⟨rfl, b4⟩
        have HB4 := Lib.hid (below_trans_self HB.out b4)
        clear b4
        go_wp2_with fail
        go_roundw
        case rel => exact ⟨k + 1, _, by omega, by go_num, rfl, HO2.out, HB4.out⟩
        case measure => simp [intOf]; omega
      | true =>
        rw [hd] at HD
        clear hkd
        cases hq : decide (parL g x = some n) with
        | true =>
          rw [hq] at hpi
          have HO2 := Lib.hid (show out ++ o.extract k (k + 1) = namesAt g (((reachS g).take (k + 1)).filter fun c => decide (parL g c = some n)) by
            rw [HFT.out, ← HX.out, hq, if_pos rfl, namesAt_append, namesAt_one, HOUT.out, HEX.out])
          clear hd hq hxr
          go_wp2_with fail
          refine (HD.out _ (HG.out.below HB.out)).mono ?_
          rintro e w4 ⟨rfl, b4⟩
          have HB4 := Lib.hid (below_trans_self HB.out b4)
          clear b4
          go_wp2_with fail
          refine (HPA.out _ (HG.out.below HB4.out)).mono ?_
          rintro e w5 ⟨rfl, b5⟩
          have HB5 := Lib.hid (below_trans_self HB4.out b5)
          clear b5
          go_wp2_with fail
          go_roundw
          case rel => exact ⟨k + 1, _, by omega, by go_num, rfl, HO2.out, HB5.out⟩
          case measure => simp [intOf]; omega
        | false =>
          rw [hq] at hpi
          have HO2 := Lib.hid (show out = namesAt g (((reachS g).take (k + 1)).filter fun c => decide (parL g c = some n)) by
            rw [HFT.out, ← HX.out, hq, if_neg (by simp), List.append_nil, HOUT.out])
          clear hd hq hxr
          go_wp2_with fail
          refine (HD.out _ (HG.out.below HB.out)).mono ?_
          rintro e w4 ⟨rfl, b4⟩
          have HB4 := Lib.hid (below_trans_self HB.out b4)
          clear b4
          go_wp2_with fail
          refine (HPA.out _ (HG.out.below HB4.out)).mono ?_
          rintro e w5 ⟨rfl, b5⟩
          have HB5 := Lib.hid (below_trans_self HB4.out b5)
          clear b5
          go_wp2_with fail
          go_roundw
          case rel => exact ⟨k + 1, _, by omega, by go_num, rfl, HO2.out, HB5.out⟩
          case measure => simp [intOf]; omega
    · have HE := Lib.hid (show out = namesAt g (kidsL g n) by
        rw [HOUT.out, List.take_of_length_le (by rw [← HOS.out]; omega)]; rfl)
      go_wp2_with fail
      go_ret
      exact ⟨ret_string HE.out, HB.out⟩

def kidsV (g : List Bl) (s : ByteArray) : ByteArray := match liveOf g s with | some n => namesAt g (kidsL g n) | none => ⟨#[]⟩

set_option maxRecDepth 100000 in
theorem specChildren_any (A : Option Addr) (cap : Nat) (g : List Bl) (s : ByteArray) (w : World) (hg : Gr w A g) (hn : g.length + tot g ≤ 1048576) (hcap : g.length ≤ cap) :
    Calls Tryz.prog 22 #[.slice A g.length cap, .string s] w fun e w' => e = .returned (.tuple #[.string (kidsV g s), .bool (liveB g s)]) ∧ Below w.heap.size w w' := by
  have hL := l3Live_any A cap g s w hg hn hcap
  have HG := Lib.hid hg
  cases hl : liveOf g s with
  | none =>
    rw [hl] at hL
    have HL : Hid (Calls Tryz.prog 39 #[.slice A g.length cap, .string s] w fun e w' => e = .returned (.int .i64 (-1)) ∧ Below w.heap.size w w') := hL
    have H1 := Lib.hid (show (⟨#[]⟩ : ByteArray) = kidsV g s by unfold kidsV; rw [hl])
    have H2 := Lib.hid (liveB_none hl)
    clear hL hl hg
    go_enter Tryz.func22, Tryz.ntmps22
    go_wp2_with fail
    refine HL.out.mono ?_
    rintro e w1 ⟨rfl, b1⟩
    go_wp2_with fail
    go_ret2
    exact ⟨ret_sb H1.out H2.out.symm, b1⟩
  | some n =>
    rw [hl] at hL
    have HL : Hid (Calls Tryz.prog 39 #[.slice A g.length cap, .string s] w fun e w' => e = .returned (.int .i64 (n : Int)) ∧ Below w.heap.size w w') := hL
    obtain ⟨hv, hnl, hs, hr⟩ := live_name hl
    have H1 := Lib.hid (show namesAt g (kidsL g n) = kidsV g s by unfold kidsV; rw [hl])
    have H2 := Lib.hid (liveB_some hl)
    have HO := Lib.hid (fun W (h : Gr W A g) => l3Children_any A cap g s n W h hn hv hnl hs)
    have q0 : ¬ ((n : Int) < 0) := by omega
    clear hL hl hg hv hs hr
    go_enter Tryz.func22, Tryz.ntmps22
    go_wp2_with fail
    refine HL.out.mono ?_
    rintro e w1 ⟨rfl, b1⟩
    go_wp2_with fail
    refine (HO.out w1 (HG.out.below b1)).mono ?_
    rintro e w2 ⟨rfl, b2⟩
    go_wp2_with fail
    go_ret2
    exact ⟨ret_sb H1.out H2.out.symm, below_trans_self b1 b2⟩

def domB (g : List Bl) (s t : ByteArray) : Bool := match liveOf g s, liveOf g t with | some a, some b => dmB g a b | _, _ => false
theorem domB_none1 {g : List Bl} {s t : ByteArray} (h : liveOf g s = none) : domB g s t = false := by unfold domB; rw [h]
theorem domB_none2 {g : List Bl} {s t : ByteArray} (h : liveOf g t = none) : domB g s t = false := by unfold domB; rw [h]; split <;> simp_all
theorem domB_some {g : List Bl} {s t : ByteArray} {a b : Nat} (h : liveOf g s = some a) (k : liveOf g t = some b) : domB g s t = dmB g a b := by unfold domB; rw [h, k]

end Go.Proofs.YtklnhbfpmmdhjaaGreat
