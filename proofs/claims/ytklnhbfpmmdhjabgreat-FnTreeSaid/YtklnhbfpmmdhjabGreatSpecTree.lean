/-
  Contracts of the model: the text of the tree, the frontier, where two lines part.
-/
import Derived.Test.YtklnhbfpmmdhjabGreatSpecDom
namespace Go.Proofs.YtklnhbfpmmdhjabGreat
open Go.RowKit Go.Sort

def treeV (g : List Bl) : ByteArray := if validB g then treeT g g.length 0 else ⟨#[]⟩
theorem treeV_yes {g : List Bl} (h : validB g = true) : treeV g = treeT g g.length 0 := by unfold treeV; rw [h]; rfl
theorem treeV_no {g : List Bl} (h : validB g = false) : treeV g = ⟨#[]⟩ := by unfold treeV; rw [h]; rfl

theorem kids_line {g : List Bl} (hv : validB g = true) {n c : Nat} (hc : c ∈ kidsL g n) : (domL g c).length = (domL g n).length + 1 := by
  obtain ⟨hr, hp⟩ := (mem_kids hv).1 hc
  rw [domL_par hv hr hp]; simp

/-- The text of the first k children. -/
theorem inner_next (f : Nat → ByteArray) {l : List Nat} {k : Nat} (h : k < l.length) : innerT f (l.take (k + 1)) = if k = 0 then f l[k] else innerT f (l.take k) ++ (⟨#[44]⟩ ++ f l[k]) := by
  rw [List.take_succ_eq_append_getElem h]
  by_cases e : k = 0
  · subst e; rfl
  · rw [if_neg e, innerT_snoc]
    intro q
    have h0 : (l.take k).length = 0 := by rw [q]; rfl
    rw [List.length_take] at h0
    omega

set_option maxRecDepth 100000 in
set_option maxHeartbeats 2000000 in
theorem l3Tree_any (A : Option Addr) (cap : Nat) (g : List Bl) (hn : g.length + tot g ≤ 1048576) (hv : validB g = true) : ∀ (m n : Nat) (nm : ByteArray) (w : World), Gr w A g → Rch g [] n → g.length < m + (domL g n).length → nm = nthName g n →
    Calls Tryz.prog 98 #[.slice A g.length cap, .string nm] w fun e w' => e = .returned (.string (treeT g m n)) ∧ Below w.heap.size w w'
  | 0, n, nm, w, _, _, hm, _ => by
    have := domL_len hv n
    omega
  | m + 1, n, nm, w, hg, hr, hm, hnm => by
    have ih := l3Tree_any A cap g hn hv m
    have h26 := (valid_iff.1 hv).2.1
    have hnl := hr.lt hv
    have HC := Lib.hid (l3Children_any A cap g nm n w hg hn hv hnl hnm)
    have hkl := kids_lt hv (n := n)
    have hn1 : nm.size = 1 := by rw [hnm]; exact one_size hv hnl
    have hkn : (kidsL g n).length ≤ 26 := by
      have h1 : (kidsL g n).length ≤ (reachS g).length := List.length_filter_le _ _
      have h2 : (reachS g).length ≤ g.length := srt_len g (reach g) g.length
      omega
    obtain ⟨ks, hks⟩ : ∃ ks, ks = namesAt g (kidsL g n) := ⟨_, rfl⟩
    have hkz : ks.size = (kidsL g n).length := by rw [hks]; exact namesAt_size hv _ hkl
    rw [← hks] at HC
    have hall : (treeT g (m + 1) n).size ≤ 104 := treeT_small hv hr
    by_cases hk0 : kidsL g n = []
    · have h0 : ks.size = 0 := by rw [hkz, hk0]; rfl
      have q0 : ks.toList = [] := by
        have : ks = ⟨#[]⟩ := by rw [hks, hk0]; rfl
        rw [this, Lib.toList_data]
      have HR := Lib.hid (show nm = treeT g (m + 1) n by rw [treeT_leaf hk0, hnm])
      clear ih hg hr hm hnm hkl hks hkz hk0 hall
      go_enter Tryz.func98, Tryz.ntmps98
      go_wp2_with fail
      refine HC.out.mono ?_
      rintro e w1 ⟨rfl, b1⟩
      go_wp2_with fail
      go_ret
      exact ⟨ret_string HR.out, b1⟩
    · have hpos : 0 < ks.size := by rw [hkz]; exact List.length_pos_iff.2 hk0
      have q0 : (ks.toList == ([] : List UInt8)) = false := beq_emp hpos
      have q1 : (!ks.toList.isEmpty) = true := by
        cases h : ks.toList with
        | nil => rw [h] at q0; simp at q0
        | cons => rfl
      have HT := Lib.hid (treeT_kids (m := m) hk0)
      have hin : (innerT (treeT g m) (kidsL g n)).size ≤ 104 := by
        have := congrArg ByteArray.size HT.out
        rw [ByteArray.size_append, ByteArray.size_append, ByteArray.size_append] at this
        omega
      have HKL := Lib.hid hkl
      have HKS := Lib.hid hks
      have HKZ := Lib.hid hkz
      have HG := Lib.hid hg
      have HM := Lib.hid hm
      have HNM := Lib.hid hnm
      have HIH := Lib.hid ih
      have hkz2 : ks.size ≤ 26 := by omega
      clear hg hr hm hnm ih hkl hks hkz hk0 hall
      go_enter Tryz.func98, Tryz.ntmps98
      go_wp2_with fail
      refine HC.out.mono ?_
      rintro e w1 ⟨rfl, b1⟩
      have HB1 := Lib.hid b1
      clear b1
      go_wp2_with fail
      go_loopw [7, 18] (fun ov iv wr => ∃ (k : Nat) (out : ByteArray), k ≤ ks.size ∧ iv = .int .i64 k ∧ ov = .string out ∧ Hid (out = innerT (treeT g m) ((kidsL g n).take k)) ∧ Below w.heap.size w wr) (fun _ iv _ => ks.size - (intOf iv).toNat)
      case atStart => exact ⟨0, ⟨#[]⟩, Nat.zero_le _, rfl, rfl, rfl, HB1.out⟩
      case round =>
        obtain ⟨k, out, hk, rfl, rfl, HOUT, hB⟩ := hrel
        have HB := Lib.hid hB
        have hoz : out.size ≤ 104 := by
          rw [HOUT.out]
          have := innerT_take (f := treeT g m) (kidsL g n) k
          omega
        clear hB
        by_cases hlt : k < ks.size
        · have hlt' : k < (kidsL g n).length := by rw [← HKZ.out]; exact hlt
          obtain ⟨x, hx⟩ : ∃ x, x = (kidsL g n)[k] := ⟨_, rfl⟩
          have hxm : x ∈ kidsL g n := hx ▸ List.getElem_mem hlt'
          have hxl := HKL.out x hxm
          have hxr := ((mem_kids hv).1 hxm).1
          obtain ⟨_, hcut⟩ := namesAt_cut hv HKL.out hlt'
          have HEX := Lib.hid (show ks.extract k (k + 1) = nthName g x by rw [HKS.out, hcut, nthName_at hxl]; congr 2; exact hx.symm)
          have hk1 : k + 1 ≤ ks.size := by omega
          have hfu : g.length < m + (domL g x).length := by rw [kids_line hv hxm]; have := HM.out; omega
          have HCC := Lib.hid (fun W (h : Gr W A g) => HIH.out x (ks.extract k (k + 1)) W h hxr hfu HEX.out)
          have hsz := treeT_small hv (m := m) hxr
          obtain ⟨tx, htx⟩ : ∃ tx, tx = treeT g m x := ⟨_, rfl⟩
          rw [← htx] at HCC hsz
          have hnx := inner_next (treeT g m) hlt'
          rw [← hx, ← htx, ← HOUT.out] at hnx
          clear hx hxm hcut hfu htx hxr
          have hc1 : (⟨#[44]⟩ : ByteArray).size = 1 := rfl
          have hs1 : out.size + (⟨#[44]⟩ : ByteArray).size ≤ 1048576 := by omega
          have hs2 : (out ++ (⟨#[44]⟩ : ByteArray)).size + tx.size ≤ 1048576 := by rw [ByteArray.size_append]; omega
          have hs3 : out.size + tx.size ≤ 1048576 := by omega
          by_cases hk0 : k = 0
          · rw [if_pos hk0] at hnx
            have HO2 := Lib.hid (show out ++ tx = innerT (treeT g m) ((kidsL g n).take (k + 1)) by
              rw [hnx, HOUT.out, hk0]; exact ba_empty_append _)
            have q2 : ¬ (0 < (k : Int)) := by omega
            have hkk := Lib.hid hk0
            clear hnx hk0 hs2 hs1 hc1
            go_wp2_with fail
            refine (HCC.out _ (HG.out.below HB.out)).mono ?_
            rintro e w4 ⟨rfl, b4⟩
            have HB4 := Lib.hid (below_trans_self HB.out b4)
            clear b4
            go_wp2_with fail
            go_roundw
            case rel => exact ⟨k + 1, _, by omega, by go_num, rfl, HO2.out, HB4.out⟩
            case measure => simp [intOf]; omega
          · rw [if_neg hk0] at hnx
            have HO2 := Lib.hid (show out ++ (⟨#[44]⟩ : ByteArray) ++ tx = innerT (treeT g m) ((kidsL g n).take (k + 1)) by
              rw [hnx, ba_append_assoc])
            have q2 : 0 < (k : Int) := by omega
            clear hnx hk0 hc1
            go_wp2_with fail
            refine (HCC.out _ (HG.out.below HB.out)).mono ?_
            rintro e w4 ⟨rfl, b4⟩
            have HB4 := Lib.hid (below_trans_self HB.out b4)
            clear b4
            go_wp2_with fail
            go_roundw
            case rel => exact ⟨k + 1, _, by omega, by go_num, rfl, HO2.out, HB4.out⟩
            case measure => simp [intOf]; omega
        · have HE := Lib.hid (show nm ++ (⟨#[40]⟩ : ByteArray) ++ out ++ (⟨#[41]⟩ : ByteArray) = treeT g (m + 1) n by
            rw [HT.out, HOUT.out, List.take_of_length_le (by rw [← HKZ.out]; omega), HNM.out]
            simp only [ba_append_assoc])
          have e1 : (⟨#[40]⟩ : ByteArray).size = 1 := rfl
          have e2 : (⟨#[41]⟩ : ByteArray).size = 1 := rfl
          have s1 : nm.size + (⟨#[40]⟩ : ByteArray).size ≤ 1048576 := by omega
          have s2 : (nm ++ (⟨#[40]⟩ : ByteArray)).size + out.size ≤ 1048576 := by rw [ByteArray.size_append]; omega
          have s3 : (nm ++ (⟨#[40]⟩ : ByteArray) ++ out).size + (⟨#[41]⟩ : ByteArray).size ≤ 1048576 := by rw [ByteArray.size_append, ByteArray.size_append]; omega
          clear e1 e2
          go_wp2_with fail
          go_ret
          exact ⟨ret_string HE.out, HB.out⟩

set_option maxRecDepth 100000 in
theorem specTree_any (A : Option Addr) (cap : Nat) (g : List Bl) (w : World) (hg : Gr w A g) (hn : g.length + tot g ≤ 1048576) (hcap : g.length ≤ cap) :
    Calls Tryz.prog 38 #[.slice A g.length cap] w fun e w' => e = .returned (.tuple #[.string (treeV g), .bool (validB g)]) ∧ Below w.heap.size w w' := by
  have hc := specValid_any A cap g w hg hn hcap
  cases hv : validB g with
  | false =>
    rw [hv] at hc
    have HC := Lib.hid hc
    have H1 := Lib.hid (treeV_no hv)
    clear hc hv hg
    go_enter Tryz.func38, Tryz.ntmps38
    go_wp2_with fail
    refine HC.out.mono ?_
    rintro e w1 ⟨rfl, b1⟩
    go_wp2_with fail
    go_ret2
    exact ⟨ret_sb H1.out.symm rfl, b1⟩
  | true =>
    rw [hv] at hc
    have HC := Lib.hid hc
    have hpos := (valid_iff.1 hv).1
    obtain ⟨b, off, t, t2, hA, hb, hc0, hc1, he, he2⟩ := gr_at hg hpos
    have hc0' : w.cell? ⟨b, off, none⟩ = some (.string t) := by simpa using hc0
    have H1 := Lib.hid (treeV_yes hv)
    have h0 : Rch g [] 0 := .start (by simp)
    have HT := Lib.hid (fun W (h : Gr W A g) => l3Tree_any A cap g hn hv g.length 0 t W h h0 (by rw [domL_entry hv]; simp) (by rw [nthName_at hpos, he]))
    have HC0 := Lib.hid hc0'
    have HG := Lib.hid hg
    clear hc hv hg hc0 hc1 he he2 hc0' h0
    subst hA
    go_enter Tryz.func38, Tryz.ntmps38
    go_wp2_with fail
    refine HC.out.mono ?_
    rintro e w1 ⟨rfl, b1⟩
    have x0 := (b1.cell (p := ⟨b, off, none⟩) hb).trans HC0.out
    have HT1 := Lib.hid (HT.out w1 (HG.out.below b1))
    go_wp2_with fail
    refine HT1.out.mono ?_
    rintro e w2 ⟨rfl, b2⟩
    go_wp2_with fail
    go_ret2
    exact ⟨ret_sb H1.out.symm rfl, below_trans_self b1 b2⟩
end Go.Proofs.YtklnhbfpmmdhjabGreat
