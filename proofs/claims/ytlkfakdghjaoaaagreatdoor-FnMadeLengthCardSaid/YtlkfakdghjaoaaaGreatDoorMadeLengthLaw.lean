import Derived.Test.YtlkfakdghjaoaaaGreatDoorJ8
import Derived.Test.YtlkfakdghjaoaaaGreatDoorJ12
import Derived.Test.YtlkfakdghjaoaaaGreatDoorMadeFacts
import Derived.Test.YtlkfakdghjaoaaaGreatDoorReachedOf
import Derived.Test.YtlkfakdghjaoaaaGreatDoorJ11
namespace Go.Proofs.YtlkfakdghjaoaaaGreatDoor
open Go.RowKit Go.Sort
theorem ints_three {w : World} {base : Nat} {v : Value} {a b c : Int} (h : IntsV w base v [a, b, c]) : ∃ B cap, v = .slice (some ⟨B, 0, none⟩) 3 cap ∧ B < w.heap.size ∧ w.cell? ⟨B, 0, none⟩ = some (.int .i64 a) ∧ w.cell? ⟨B, 1, none⟩ = some (.int .i64 b) ∧ w.cell? ⟨B, 2, none⟩ = some (.int .i64 c) := by
 rcases h with ⟨_, h⟩ | ⟨B, cap, t, cs, e, _, hk, hs, hc⟩
 ·simp at h
 ·refine ⟨B, cap, e, hk.lt, ?_, ?_, ?_⟩
  ·rw [hk.cell]; exact hc 0 (by simp)
  ·rw [hk.cell]; exact hc 1 (by simp)
  ·rw [hk.cell]; exact hc 2 (by simp)
set_option maxRecDepth 100000 in
set_option maxHeartbeats 6400000 in
theorem madeLength_walk (A : Option Addr) (la ca : Nat) (w : World) (hA : Bytes w A la) (h1 : la ≤ ca) (h3 : ca ≤ 9223372036854775807) :
  Calls Tryz.prog 6 #[.slice A la ca] w fun e w' => e = .returned (.bool true) ∧ Below w.heap.size w w' := by
 by_cases g1 : (1048576 : Int) < la
 ·clear hA
  go_enter Tryz.func6, Tryz.ntmps6
  go_wp2_with fail
  go_ret
  exact ⟨rfl, Below.refl _ _⟩
 have HA := Lib.hid (drawMakeLength_any A la ca w hA h1 h3)
 clear hA
 go_enter Tryz.func6, Tryz.ntmps6
 go_wp2_with fail
 refine HA.out.mono ?_
 intro e w1 hd1
 obtain ⟨A1, c1, g, rfl, hc1, gg, hn1, b1⟩ := drawn_of hd1
 have HB1 := Lib.hid b1
 have HG1 := Lib.hid gg
 clear hd1 b1 gg
 obtain ⟨mb, hmb⟩ : ∃ x, x = madeB g := ⟨_, rfl⟩
 obtain ⟨mn, hmn⟩ : ∃ x, x = madeN g := ⟨_, rfl⟩
 have HLI := Lib.hid (fun W (h : Gr W A1 g) => (hmn ▸ implMakeLength_any A1 c1 g W h (by omega) : Calls Tryz.prog 15 #[.slice A1 g.length c1] W fun e w' => e = .returned (.int .i64 mn) ∧ Below W.heap.size W w'))
 have HLS := Lib.hid (fun W (h : Gr W A1 g) => (hmn ▸ specMakeLength_any A1 c1 g W h (by omega) hc1 : Calls Tryz.prog 16 #[.slice A1 g.length c1] W fun e w' => e = .returned (.int .i64 mn) ∧ Below W.heap.size W w'))
 have HNI := Lib.hid (fun W (h : Gr W A1 g) => (hmb ▸ implCountNeeded_any A1 c1 g W h (by omega) : Calls Tryz.prog 25 #[.slice A1 g.length c1] W fun e w' => (∃ v, e = .returned (.tuple #[v, .bool mb]) ∧ IntsV w' W.heap.size v (needL g)) ∧ Below W.heap.size W w'))
 have q5 : (mn == mn) = true := by simp
 have q6 : (mn != mn) = false := by simp
 have HMB := Lib.hid hmb
 have HMN := Lib.hid hmn
 clear hmb hmn
 go_wp2_with fail
 refine (HLI.out w1 HG1.out).mono ?_
 rintro e w2 ⟨rfl, b2⟩
 have HG2 := Lib.hid (HG1.out.below b2)
 have HB2 := Lib.hid (below_trans_self HB1.out b2)
 clear b2
 go_wp2_with fail
 refine (HNI.out w2 HG2.out).mono ?_
 rintro e w3 ⟨⟨v, rfl, hv3⟩, b3⟩
 have HG3 := Lib.hid (HG2.out.below b3)
 have HB3 := Lib.hid (below_trans_self HB2.out b3)
 have HV3 := Lib.hid hv3
 clear b3 hv3
 go_wp2_with fail
 refine (HLS.out w3 HG3.out).mono ?_
 rintro e w4 ⟨rfl, b4⟩
 have HG4 := Lib.hid (HG3.out.below b4)
 have HB4 := Lib.hid (below_trans_self HB3.out b4)
 have HV4 := Lib.hid (HV3.out.below b4)
 clear b4
 cases mb with
 | false =>
  obtain rfl : mn = -1 := by rw [HMN.out]; unfold madeN; rw [if_neg (by rw [← HMB.out]; simp)]
  go_wp2_with fail
  refine (HLS.out w4 HG4.out).mono ?_
  rintro e w7 ⟨rfl, b7⟩
  have HB7 := Lib.hid (below_trans_self HB4.out b7)
  clear b7
  go_wp2_with fail
  go_ret
  exact ⟨rfl, HB7.out⟩
 | true =>
  have hb : madeB g = true := HMB.out.symm
  have hv := (tameB_iff.1 (madeB_tame hb)).1
  have hz := madeV_small g
  have hsum := made_sum hb
  obtain ⟨S, hS⟩ : ∃ S, S = (madeT g).length := ⟨_, rfl⟩
  have hS416 : S ≤ 416 := by
   rw [hS]
   have := madeV_small g
   unfold madeV at this
   rw [if_pos hb, tb_size] at this
   exact this
  obtain rfl : mn = (S : Int) := by rw [HMN.out, hS]; unfold madeN madeV; rw [if_pos hb, if_pos hb, tb_size]
  rw [← hS] at hsum
  obtain ⟨a, ha⟩ : ∃ a, a = (meetsL g).length := ⟨_, rfl⟩
  obtain ⟨b, hbb⟩ : ∃ b, b = (headL g).length := ⟨_, rfl⟩
  obtain ⟨c, hc⟩ : ∃ c, c = cnL 94 (madeI g) := ⟨_, rfl⟩
  have hneed : needL g = [(a : Int), (b : Int), (c : Int)] := by rw [needs hb, ha, hbb, hc]
  rw [← ha, ← hbb, ← hc] at hsum
  rw [hneed] at HV4
  obtain ⟨B, cap, rfl, hBl, x0, x1, x2⟩ := ints_three HV4.out
  obtain ⟨rs, hrs⟩ : ∃ x, x = reachV g := ⟨_, rfl⟩
  have hre : rs = namesAt g (reachS g) := by rw [hrs]; exact reachV_yes hv
  have hrl : ∀ i ∈ reachS g, i < g.length := fun i hi => srt_lt (g := g) (l := reach g) (Nat.le_refl _) i hi
  have hrz : rs.size = (reachS g).length := by rw [hre]; exact namesAt_size hv _ hrl
  have hr26 : rs.size ≤ 26 := by rw [hrz]; exact reachS_small hv
  have HRI := Lib.hid (fun W (h : Gr W A1 g) => (by have := implReached_any A1 c1 g W h (by omega); rw [← hrs, hv] at this; exact this : Calls Tryz.prog 18 #[.slice A1 g.length c1] W fun e w' => e = .returned (.tuple #[.string rs, .bool true]) ∧ Below W.heap.size W w'))
  have HNX := Lib.hid (fun W (h : Gr W A1 g) i (hi : i < rs.size) => show ∃ nx : ByteArray, (Calls Tryz.prog 39 #[.slice A1 g.length c1, .string (rs.extract i (i + 1))] W fun e w' => (∃ bb, e = .returned (.tuple #[.string nx, .bool bb])) ∧ Below W.heap.size W w') ∧ nx.size ≤ 2 ∧ sizeS g ((reachS g).take (i + 1)) = sizeS g ((reachS g).take i) + (if nx.size = 0 then 2 else if nx.size = 1 then 1 else 6) from by
   have hi' : i < (reachS g).length := by omega
   have hlt := hrl _ (List.getElem_mem hi')
   have e1 : nextVal g (rs.extract i (i + 1)) = g[(reachS g)[i]].2 := by
    rw [hre, names_at hv hrl hi', nextVal_some hv (pos_name hv hlt) hlt]
   refine ⟨g[(reachS g)[i]].2, ?_, ?_, ?_⟩
   ·have := implNext_any A1 c1 g (rs.extract i (i + 1)) W h (by omega)
    rw [e1] at this
    exact this.mono fun e w' ⟨he, hb'⟩ => ⟨⟨_, he⟩, hb'⟩
   ·have := nxt_length hlt
    have := nxt_two hv hlt
    omega
   ·rw [sizeS_next hi', sizeB_at hlt])
  have HS0 := Lib.hid (fun i (hi : i ≤ rs.size) => show sizeS g ((reachS g).take i) ≤ 156 from by
   have := sizeS_most g ((reachS g).take i)
   rw [List.length_take] at this
   omega)
  have HSE := Lib.hid (show sizeS g ((reachS g).take rs.size) = sizeS g (reachS g) by rw [List.take_of_length_le (by omega)])
  have HSUM := Lib.hid hsum
  have hab : a ≤ 416 ∧ b ≤ 416 ∧ c ≤ 416 := by omega
  obtain ⟨hA, hB', hC⟩ := hab
  clear hb hv hz ha hbb hc hneed hrs hre hrl hrz hS hsum
  have s1 : IntKind.i64.wrap ((a : Int) + b) = (a : Int) + b := IntWalk.i64_in _ (by omega)
  have s2 : IntKind.i64.wrap ((a : Int) + b + c) = (a : Int) + b + c := IntWalk.i64_in _ (by omega)
  have s3 : IntKind.i64.wrap (2 * ((a : Int) + b + c)) = 2 * ((a : Int) + b + c) := IntWalk.i64_in _ (by omega)
  have g5 : ¬ ((S : Int) < 0) := by omega
  go_wp2_with fail
  refine (HRI.out w4 HG4.out).mono ?_
  rintro e w9 ⟨rfl, b9⟩
  have HG9 := Lib.hid (HG4.out.below b9)
  have HB9 := Lib.hid (below_trans_self HB4.out b9)
  have y0 := (b9.cell (p := ⟨B, 0, none⟩) hBl).trans x0
  have y1 := (b9.cell (p := ⟨B, 1, none⟩) hBl).trans x1
  have y2 := (b9.cell (p := ⟨B, 2, none⟩) hBl).trans x2
  clear b9 x0 x1 x2
  go_wp2_with fail
  go_quiet (fail)
  have HGa := Lib.hid (HG9.out.below (below_drewN w9 nq))
  have HBa := Lib.hid (below_trans_self HB9.out (below_drewN w9 nq))
  generalize w9.drewN nq = wa at HGa HBa ⊢
  clear y0 y1 y2
  go_wp2_with fail
  go_loopw [9, 60] (fun sv iv wr => ∃ (x i : Nat), i ≤ rs.size ∧ iv = .int .i64 i ∧ sv = .int .i64 (2 * ((a : Int) + b + c) + (x : Int)) ∧ Hid (x = sizeS g ((reachS g).take i)) ∧ Hid (Gr wr A1 g) ∧ Hid (Below w.heap.size w wr)) (fun _ iv _ => rs.size - (intOf iv).toNat)
  case atStart => exact ⟨0, 0, Nat.zero_le _, rfl, by congr 1 <;> omega, (by simp [sizeS] : 0 = sizeS g ((reachS g).take 0)), HGa.out, HBa.out⟩
  case round =>
   obtain ⟨x, i, hi, rfl, rfl, HX, HG, HB⟩ := hrel
   have hx156 : x ≤ 156 := by rw [HX.out]; exact HS0.out i hi
   by_cases hlt : i < rs.size
   ·have hi1 : i + 1 ≤ rs.size := by omega
    obtain ⟨nx, hc, hn2, hstep⟩ := HNX.out wr HG.out i hlt
    have HC := Lib.hid hc
    have HST := Lib.hid hstep
    clear hc hstep
    go_wp2_with fail
    refine HC.out.mono ?_
    rintro e v1 ⟨⟨bb, rfl⟩, d1⟩
    have HGb := Lib.hid (HG.out.below d1)
    have HBb := Lib.hid (below_trans_self HB.out d1)
    clear d1 HC
    by_cases z0 : nx.size = 0
    ·have HN := Lib.hid (show x + 2 = sizeS g ((reachS g).take (i + 1)) by rw [HST.out, ← HX.out, if_pos z0])
     have y0 : ((nx.size : Int) == 0) = true := by rw [z0]; rfl
     have y1 : decide ((nx.size : Int) = 0) = true := by rw [z0]; rfl
     have y2 : (nx.size : Int) = 0 := by omega
     have s5 : IntKind.i64.wrap (2 * ((a : Int) + b + c) + (x : Int) + 2) = 2 * ((a : Int) + b + c) + (x : Int) + 2 := IntWalk.i64_in _ (by omega)
     go_wp2_with fail
     go_roundw
     case rel => exact ⟨x + 2, i + 1, by omega, by go_num, by congr 1 <;> omega, HN.out, HGb.out, HBb.out⟩
     case measure => simp [intOf]; omega
    ·by_cases z1 : nx.size = 1
     ·have HN := Lib.hid (show x + 1 = sizeS g ((reachS g).take (i + 1)) by rw [HST.out, ← HX.out, if_neg z0, if_pos z1])
      have y0 : ((nx.size : Int) == 0) = false := by rw [z1]; rfl
      have y0' : ¬ (nx.size : Int) = 0 := by omega
      have y1 : ((nx.size : Int) == 1) = true := by rw [z1]; rfl
      have y2 : (nx.size : Int) = 1 := by omega
      have s5 : IntKind.i64.wrap (2 * ((a : Int) + b + c) + (x : Int) + 1) = 2 * ((a : Int) + b + c) + (x : Int) + 1 := IntWalk.i64_in _ (by omega)
      go_wp2_with fail
      go_roundw
      case rel => exact ⟨x + 1, i + 1, by omega, by go_num, by congr 1 <;> omega, HN.out, HGb.out, HBb.out⟩
      case measure => simp [intOf]; omega
     ·have HN := Lib.hid (show x + 6 = sizeS g ((reachS g).take (i + 1)) by rw [HST.out, ← HX.out, if_neg z0, if_neg z1])
      have y0 : ((nx.size : Int) == 0) = false := by simpa using z0
      have y0' : ¬ (nx.size : Int) = 0 := by omega
      have y1 : ((nx.size : Int) == 1) = false := by rw [beq_eq_false_iff_ne]; omega
      have y2 : ¬ (nx.size : Int) = 1 := by omega
      have s5 : IntKind.i64.wrap (2 * ((a : Int) + b + c) + (x : Int) + 6) = 2 * ((a : Int) + b + c) + (x : Int) + 6 := IntWalk.i64_in _ (by omega)
      go_wp2_with fail
      go_roundw
      case rel => exact ⟨x + 6, i + 1, by omega, by go_num, by congr 1 <;> omega, HN.out, HGb.out, HBb.out⟩
      case measure => simp [intOf]; omega
   ·have hxe : 2 * ((a : Int) + b + c) + (x : Int) = (S : Int) := by
     have h1 : i = rs.size := by omega
     have h2 := HX.out
     rw [h1, HSE.out] at h2
     have h3 := HSUM.out
     omega
    have y1 : ((2 * ((a : Int) + b + c) + (x : Int)) == (S : Int)) = true := by rw [hxe]; simp
    have y2 : decide (2 * ((a : Int) + b + c) + (x : Int) = (S : Int)) = true := decide_eq_true hxe
    go_wp2_with fail
    go_ret
    exact ⟨rfl, HB.out⟩
end Go.Proofs.YtlkfakdghjaoaaaGreatDoor
