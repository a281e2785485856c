/-
  The law FnFramed: a frame around a text lies around all of it, and no step within means it.
-/
import Derived.Test.YtelhogeaobofpaaTextLaws
namespace Go.Proofs.Ytelhogeaobofpaa
open Go.RowKit Go.Sort
attribute [local go_sem] Oper.semAt_some

/-- A text with a frame around it. -/
def frS (b : Bool) (s : List UInt8) : List UInt8 := opn b :: (s ++ [cls b])
theorem frS_tx (b : Bool) (l : List It) : txL [.frame b l] = frS b (txL l) := by
  rw [txL, txL, txI, List.append_nil]; rfl
theorem frS_len (b : Bool) (s : List UInt8) : (frS b s).length = s.length + 2 := by unfold frS; simp

theorem fr_yes {s : List UInt8} {l : List It} (b : Bool) (h : textOk s l) (hd : dpL l < 9) (hn : (frS b s).length ≤ 200) : textOk (frS b s) [.frame b l] := by
  refine ⟨hn, ?_, by rw [frS_tx, ← h.2.2]⟩
  rw [OkL, OkL, OkI]
  exact ⟨⟨by omega, ok_nextL l 0 h.2.1 (by omega)⟩, trivial⟩
theorem fr_no {s : List UInt8} {l : List It} (b : Bool) (h : textOk s l) {l' : List It} (h' : textOk (frS b s) l') : dpL l < 9 ∧ (frS b s).length ≤ 200 := by
  refine ⟨?_, h'.1⟩
  have h1 := scan_all h'.2.1
  rw [← h'.2.2] at h1
  unfold frS at h1
  rw [List.foldl_cons, scn_opn, List.foldl_append, h.2.2, scanL l 0 _ _ h.2.1] at h1
  simp only [List.foldl_cons, List.foldl_nil, scn_cls] at h1
  have h2 := (Prod.mk.inj h1).2
  have h3 := dp_okL l' 0 h'.2.1 (by omega)
  unfold scU at h2
  split at h2 <;> omega
theorem fr_textB {s : List UInt8} {l : List It} (b : Bool) (h : textOk s l) : textB (frS b s) = (decide (dpL l < 9) && decide (s.length + 2 ≤ 200)) := by
  by_cases hd : dpL l < 9 ∧ s.length + 2 ≤ 200
  · rw [textB_ok (fr_yes b h hd.1 (by rw [frS_len]; exact hd.2)), decide_eq_true hd.1, decide_eq_true hd.2]; rfl
  · have : textB (frS b s) = false := textB_no fun l' h' => hd (by have := fr_no b h h'; rw [frS_len] at this; exact this)
    rw [this]
    by_cases h1 : dpL l < 9
    · rw [decide_eq_true h1, decide_eq_false (fun h2 => hd ⟨h1, h2⟩)]; rfl
    · rw [decide_eq_false h1]; rfl
/-- A loop in a frame around a text. -/
theorem fr2_textB {s : List UInt8} {l : List It} (h : textOk s l) : textB (frS false (frS true s)) = (decide (dpL l + 1 < 9) && decide (s.length + 4 ≤ 200)) := by
  by_cases hd : dpL l < 9 ∧ s.length + 2 ≤ 200
  · have h1 := fr_textB false (fr_yes true h hd.1 (by rw [frS_len]; exact hd.2))
    rw [h1, frS_len]
    have e : dpL [.frame true l] = dpL l + 1 := by rw [dpL, dpL, dpI]; omega
    rw [e]
  · have h0 : textB (frS false (frS true s)) = false := textB_no fun l' h' => by
      -- its brackets are balanced as those of s are, two deeper
      have h1 := scan_all h'.2.1
      have hlen := h'.1
      rw [← h'.2.2] at h1
      unfold frS at h1
      simp only [List.foldl_cons, List.foldl_append, List.foldl_nil, scn_opn] at h1
      rw [h.2.2, scanL l 0 _ _ h.2.1] at h1
      simp only [scn_cls] at h1
      have h2 := (Prod.mk.inj h1).2
      have h3 := dp_okL l' 0 h'.2.1 (by omega)
      rw [frS_len, frS_len] at hlen
      unfold scU at h2
      split at h2 <;> omega
    rw [h0]
    by_cases h1 : dpL l + 1 < 9
    · rw [decide_eq_true h1, decide_eq_false (fun h2 => hd ⟨by omega, by omega⟩)]; rfl
    · rw [decide_eq_false h1]; rfl
theorem fr_frames {s : List UInt8} {l : List It} (b : Bool) (h : textOk s l) (hd : dpL l < 9) (hn : s.length + 2 ≤ 200) : framesZ (frS b s) = framesZ s + 1 := by
  rw [framesZ_yes (fr_yes b h hd (by rw [frS_len]; exact hn)), framesZ_yes h]
  have e : dpL [.frame b l] = dpL l + 1 := by rw [dpL, dpL, dpI]; omega
  rw [e]; omega
theorem fr_leaves {s : List UInt8} {l : List It} (b : Bool) (h : textOk s l) (hd : dpL l < 9) (hn : s.length + 2 ≤ 200) : countZ (frS b s) [94] = countZ s [94] := by
  rw [countZ_yes (fr_yes b h hd (by rw [frS_len]; exact hn)) rfl (by decide), countZ_yes h rfl (by decide)]
  rw [cnL, cnL, cnI, show (if kdI (.frame b l) = 94 then 1 else 0) = 0 by cases b <;> rfl]; simp
theorem fr_far {s : List UInt8} {l : List It} (b : Bool) (h : textOk s l) (hd : dpL l < 9) (hn : s.length + 2 ≤ 200) : farZ (frS b s) = farZ s := by
  rw [farZ_yes (fr_yes b h hd (by rw [frS_len]; exact hn)), farZ_yes h]
  rw [faL, faL, faI]; simp
theorem frA_data (s : ByteArray) : ((⟨#[40]⟩ : ByteArray) ++ s ++ ⟨#[41]⟩).data.toList = frS false s.data.toList := by rw [data_app, data_app]; rfl
theorem frB_data (s : ByteArray) : ((⟨#[123]⟩ : ByteArray) ++ s ++ ⟨#[125]⟩).data.toList = frS true s.data.toList := by rw [data_app, data_app]; rfl
theorem frC_data (s : ByteArray) : ((⟨#[40, 123]⟩ : ByteArray) ++ s ++ ⟨#[125, 41]⟩).data.toList = frS false (frS true s.data.toList) := by
  rw [data_app, data_app]; unfold frS
  show [40, 123] ++ s.data.toList ++ [125, 41] = 40 :: ((123 :: (s.data.toList ++ [125])) ++ [41])
  simp

theorem framesZ_neg {s : List UInt8} (h : framesZ s < 0) : textB s = false := by
  refine textB_no fun l hl => ?_
  rw [framesZ_yes hl] at h; omega
theorem framesZ_ok {s : List UInt8} (h : ¬ framesZ s < 0) : ∃ l, textOk s l := by
  by_cases k : ∃ l, textOk s l
  · exact k
  · rw [framesZ_no fun l hl => k ⟨l, hl⟩] at h; exact absurd (by decide) h

set_option maxRecDepth 100000 in
set_option maxHeartbeats 6400000 in
theorem exFnFramed_walk (A : Option Addr) (len cap : Nat) (w : World) (hb : Bytes w A len) (hlc : len ≤ cap) (hl : cap ≤ 9223372036854775807) :
    Calls Try.prog 11 #[.slice A len cap] w fun e w' => e = .returned (.bool true) ∧ Below w.heap.size w w' := by
  by_cases hbig : 1048576 < len
  · have g0 : decide ((1048576 : Int) < len) = true := by simp; omega
    go_enter Try.func11, Try.ntmps11
    go_wp2_with fail
    go_ret
    exact ⟨rfl, Below.refl _ _⟩
  · have g0 : decide ((1048576 : Int) < len) = false := by simp; omega
    have HD := Lib.hid (drawCountLeaves_any A len cap w hb hlc hl)
    clear hb
    go_enter Try.func11, Try.ntmps11
    go_wp2_with fail
    refine HD.out.mono ?_
    rintro e w1 ⟨s, rfl, hs, b1⟩
    have HB1 := Lib.hid b1
    have HI := Lib.hid (implFrames_text s)
    have HS := Lib.hid (fun W => specFrames_text s W (by omega))
    have HV := Lib.hid (implValid_text s)
    clear b1
    by_cases hneg : framesZ s.data.toList < 0
    · have htb := framesZ_neg hneg
      rw [htb] at HV
      have hg : decide (framesZ s.data.toList < 0) = true := decide_eq_true hneg
      generalize framesZ s.data.toList = z at HI HS hg hneg
      clear htb
      go_wp2_with fail
      refine (HI.out w1).mono ?_
      rintro e w2 ⟨rfl, b2⟩
      have HB2 := Lib.hid (below_trans_self HB1.out b2)
      clear b2
      go_wp2_with fail
      refine (HS.out w2).mono ?_
      rintro e w3 ⟨rfl, b3⟩
      have HB3 := Lib.hid (below_trans_self HB2.out b3)
      clear b3
      go_wp2_with fail
      refine (HV.out w3).mono ?_
      rintro e w4 ⟨rfl, b4⟩
      have HB4 := Lib.hid (below_trans_self HB3.out b4)
      clear b4
      go_wp2_with fail
      go_ret
      exact ⟨rfl, HB4.out⟩
    · obtain ⟨l, hl1⟩ := framesZ_ok hneg
      have hz := framesZ_yes hl1
      have hd9 : dpL l ≤ 9 := by have := dp_okL l 0 hl1.2.1 (by omega); omega
      have h1 := fr_textB false hl1
      have h2 := fr_textB true hl1
      have h3 := fr2_textB hl1
      rw [← frA_data] at h1
      rw [← frB_data] at h2
      rw [← frC_data] at h3
      have V1 := Lib.hid (implValid_text ((⟨#[40]⟩ : ByteArray) ++ s ++ ⟨#[41]⟩))
      have V2 := Lib.hid (implValid_text ((⟨#[123]⟩ : ByteArray) ++ s ++ ⟨#[125]⟩))
      have V3 := Lib.hid (implValid_text ((⟨#[40, 123]⟩ : ByteArray) ++ s ++ ⟨#[125, 41]⟩))
      rw [h1] at V1
      rw [h2] at V2
      rw [h3] at V3
      have hsl : s.data.toList.length = s.size := by simp
      rw [hsl] at V1 V2 V3
      rw [hz] at HI HS
      have q1 : ((⟨#[40]⟩ : ByteArray) ++ s ++ ⟨#[41]⟩).size = s.size + 2 := by rw [ByteArray.size_append, ByteArray.size_append, sz1, sz1]; omega
      have q2 : ((⟨#[123]⟩ : ByteArray) ++ s ++ ⟨#[125]⟩).size = s.size + 2 := by rw [ByteArray.size_append, ByteArray.size_append, sz1, sz1]; omega
      have q3 : ((⟨#[40, 123]⟩ : ByteArray) ++ s ++ ⟨#[125, 41]⟩).size = s.size + 4 := by rw [ByteArray.size_append, ByteArray.size_append, sz2, sz2]; omega
      have HR : Hid (dpL l < 9 → s.size + 2 ≤ 200 → framesZ (frS false s.data.toList) = framesZ s.data.toList + 1 ∧ framesZ (frS true s.data.toList) = framesZ s.data.toList + 1 ∧ countZ (frS false s.data.toList) [94] = countZ s.data.toList [94] ∧ farZ (frS true s.data.toList) = farZ s.data.toList) := by
        intro a b
        rw [← hsl] at b
        exact ⟨fr_frames false hl1 a b, fr_frames true hl1 a b, fr_leaves false hl1 a b, fr_far true hl1 a b⟩
      have HZ := Lib.hid hz
      obtain ⟨d, hd⟩ : ∃ d, d = dpL l := ⟨_, rfl⟩
      rw [← hd] at V1 V2 V3 HI HS hd9 HR HZ
      clear hz h1 h2 h3 hsl hneg hl1 hd
      have s1 : IntKind.i64.wrap ((d : Int) + 1) = (d : Int) + 1 := IntWalk.i64_in _ (by omega)
      have gd : decide ((d : Int) < 0) = false := decide_eq_false (by omega)
      by_cases ha : d < 9
      · by_cases hc : s.size + 2 ≤ 200
        · rw [decide_eq_true ha, decide_eq_true hc] at V1 V2
          obtain ⟨r1, r2, r3, r4⟩ := HR.out ha hc
          rw [HZ.out] at r1 r2
          have F1 := Lib.hid (implFrames_text ((⟨#[40]⟩ : ByteArray) ++ s ++ ⟨#[41]⟩))
          have F2 := Lib.hid (implFrames_text ((⟨#[123]⟩ : ByteArray) ++ s ++ ⟨#[125]⟩))
          have L1 := Lib.hid (implLeaves_text ((⟨#[40]⟩ : ByteArray) ++ s ++ ⟨#[41]⟩))
          have L0 := Lib.hid (implLeaves_text s)
          have R2 := Lib.hid (implFar_text ((⟨#[123]⟩ : ByteArray) ++ s ++ ⟨#[125]⟩))
          have R0 := Lib.hid (implFar_text s)
          rw [frA_data, r1] at F1
          rw [frB_data, r2] at F2
          rw [frA_data, r3] at L1
          rw [frB_data, r4] at R2
          generalize countZ s.data.toList [94] = c at L1 L0
          generalize farZ s.data.toList = r at R2 R0
          clear r1 r2 r3 r4
          by_cases hd1 : d + 1 < 9
          · have gd1 : decide ((d : Int) + 1 < 9) = true := decide_eq_true (by omega)
            by_cases h4 : s.size + 4 ≤ 200
            · have gs4 : decide ((s.size : Int) + 4 ≤ 200) = true := decide_eq_true (by omega)
              have V3' : Hid (∀ w, Calls Try.prog 30 #[.string ((⟨#[40, 123]⟩ : ByteArray) ++ s ++ ⟨#[125, 41]⟩)] w fun e w' => e = .returned (.bool true) ∧ Below w.heap.size w w') := by
                have := V3.out
                rw [decide_eq_true hd1, decide_eq_true h4] at this
                exact this
              go_wp2_with fail
              refine (HI.out w1).mono ?_
              rintro e w2 ⟨rfl, b2⟩
              have HB2 := Lib.hid (below_trans_self HB1.out b2)
              clear b2
              go_wp2_with fail
              refine (HS.out w2).mono ?_
              rintro e w3 ⟨rfl, b3⟩
              have HB3 := Lib.hid (below_trans_self HB2.out b3)
              clear b3
              go_wp2_with fail
              refine (V1.out w3).mono ?_
              rintro e w4 ⟨rfl, b4⟩
              have HB4 := Lib.hid (below_trans_self HB3.out b4)
              clear b4
              go_wp2_with fail
              refine (V2.out w4).mono ?_
              rintro e w5 ⟨rfl, b5⟩
              have HB5 := Lib.hid (below_trans_self HB4.out b5)
              clear b5
              go_wp2_with fail
              refine (V3'.out w5).mono ?_
              rintro e w6 ⟨rfl, b6⟩
              have HB6 := Lib.hid (below_trans_self HB5.out b6)
              clear b6
              go_wp2_with fail
              refine (F1.out w6).mono ?_
              rintro e w7 ⟨rfl, b7⟩
              have HB7 := Lib.hid (below_trans_self HB6.out b7)
              clear b7
              go_wp2_with fail
              refine (F2.out w7).mono ?_
              rintro e w8 ⟨rfl, b8⟩
              have HB8 := Lib.hid (below_trans_self HB7.out b8)
              clear b8
              go_wp2_with fail
              refine (L1.out w8).mono ?_
              rintro e w9 ⟨rfl, b9⟩
              have HB9 := Lib.hid (below_trans_self HB8.out b9)
              clear b9
              go_wp2_with fail
              refine (L0.out w9).mono ?_
              rintro e w10 ⟨rfl, b10⟩
              have HB10 := Lib.hid (below_trans_self HB9.out b10)
              clear b10
              go_wp2_with fail
              refine (R2.out w10).mono ?_
              rintro e w11 ⟨rfl, b11⟩
              have HB11 := Lib.hid (below_trans_self HB10.out b11)
              clear b11
              go_wp2_with fail
              refine (R0.out w11).mono ?_
              rintro e w12 ⟨rfl, b12⟩
              have HB12 := Lib.hid (below_trans_self HB11.out b12)
              clear b12
              go_wp2_with fail
              go_ret
              exact ⟨rfl, HB12.out⟩
            · have gs4 : decide ((s.size : Int) + 4 ≤ 200) = false := decide_eq_false (by omega)
              rw [decide_eq_false h4, Bool.and_false] at V3
              go_wp2_with fail
              refine (HI.out w1).mono ?_
              rintro e w2 ⟨rfl, b2⟩
              have HB2 := Lib.hid (below_trans_self HB1.out b2)
              clear b2
              go_wp2_with fail
              refine (HS.out w2).mono ?_
              rintro e w3 ⟨rfl, b3⟩
              have HB3 := Lib.hid (below_trans_self HB2.out b3)
              clear b3
              go_wp2_with fail
              refine (V1.out w3).mono ?_
              rintro e w4 ⟨rfl, b4⟩
              have HB4 := Lib.hid (below_trans_self HB3.out b4)
              clear b4
              go_wp2_with fail
              refine (V2.out w4).mono ?_
              rintro e w5 ⟨rfl, b5⟩
              have HB5 := Lib.hid (below_trans_self HB4.out b5)
              clear b5
              go_wp2_with fail
              refine (V3.out w5).mono ?_
              rintro e w6 ⟨rfl, b6⟩
              have HB6 := Lib.hid (below_trans_self HB5.out b6)
              clear b6
              go_wp2_with fail
              refine (F1.out w6).mono ?_
              rintro e w7 ⟨rfl, b7⟩
              have HB7 := Lib.hid (below_trans_self HB6.out b7)
              clear b7
              go_wp2_with fail
              refine (F2.out w7).mono ?_
              rintro e w8 ⟨rfl, b8⟩
              have HB8 := Lib.hid (below_trans_self HB7.out b8)
              clear b8
              go_wp2_with fail
              refine (L1.out w8).mono ?_
              rintro e w9 ⟨rfl, b9⟩
              have HB9 := Lib.hid (below_trans_self HB8.out b9)
              clear b9
              go_wp2_with fail
              refine (L0.out w9).mono ?_
              rintro e w10 ⟨rfl, b10⟩
              have HB10 := Lib.hid (below_trans_self HB9.out b10)
              clear b10
              go_wp2_with fail
              refine (R2.out w10).mono ?_
              rintro e w11 ⟨rfl, b11⟩
              have HB11 := Lib.hid (below_trans_self HB10.out b11)
              clear b11
              go_wp2_with fail
              refine (R0.out w11).mono ?_
              rintro e w12 ⟨rfl, b12⟩
              have HB12 := Lib.hid (below_trans_self HB11.out b12)
              clear b12
              go_wp2_with fail
              go_ret
              exact ⟨rfl, HB12.out⟩
          · have gd1 : decide ((d : Int) + 1 < 9) = false := decide_eq_false (by omega)
            rw [decide_eq_false hd1] at V3
            have V3' : Hid (∀ w, Calls Try.prog 30 #[.string ((⟨#[40, 123]⟩ : ByteArray) ++ s ++ ⟨#[125, 41]⟩)] w fun e w' => e = .returned (.bool false) ∧ Below w.heap.size w w') := V3.out
            clear V3
            go_wp2_with fail
            refine (HI.out w1).mono ?_
            rintro e w2 ⟨rfl, b2⟩
            have HB2 := Lib.hid (below_trans_self HB1.out b2)
            clear b2
            go_wp2_with fail
            refine (HS.out w2).mono ?_
            rintro e w3 ⟨rfl, b3⟩
            have HB3 := Lib.hid (below_trans_self HB2.out b3)
            clear b3
            go_wp2_with fail
            refine (V1.out w3).mono ?_
            rintro e w4 ⟨rfl, b4⟩
            have HB4 := Lib.hid (below_trans_self HB3.out b4)
            clear b4
            go_wp2_with fail
            refine (V2.out w4).mono ?_
            rintro e w5 ⟨rfl, b5⟩
            have HB5 := Lib.hid (below_trans_self HB4.out b5)
            clear b5
            go_wp2_with fail
            refine (V3'.out w5).mono ?_
            rintro e w6 ⟨rfl, b6⟩
            have HB6 := Lib.hid (below_trans_self HB5.out b6)
            clear b6
            go_wp2_with fail
            refine (F1.out w6).mono ?_
            rintro e w7 ⟨rfl, b7⟩
            have HB7 := Lib.hid (below_trans_self HB6.out b7)
            clear b7
            go_wp2_with fail
            refine (F2.out w7).mono ?_
            rintro e w8 ⟨rfl, b8⟩
            have HB8 := Lib.hid (below_trans_self HB7.out b8)
            clear b8
            go_wp2_with fail
            refine (L1.out w8).mono ?_
            rintro e w9 ⟨rfl, b9⟩
            have HB9 := Lib.hid (below_trans_self HB8.out b9)
            clear b9
            go_wp2_with fail
            refine (L0.out w9).mono ?_
            rintro e w10 ⟨rfl, b10⟩
            have HB10 := Lib.hid (below_trans_self HB9.out b10)
            clear b10
            go_wp2_with fail
            refine (R2.out w10).mono ?_
            rintro e w11 ⟨rfl, b11⟩
            have HB11 := Lib.hid (below_trans_self HB10.out b11)
            clear b11
            go_wp2_with fail
            refine (R0.out w11).mono ?_
            rintro e w12 ⟨rfl, b12⟩
            have HB12 := Lib.hid (below_trans_self HB11.out b12)
            clear b12
            go_wp2_with fail
            go_ret
            exact ⟨rfl, HB12.out⟩
        · have h4 : ¬ s.size + 4 ≤ 200 := by omega
          rw [decide_eq_true ha, decide_eq_false hc] at V1 V2
          rw [decide_eq_false h4, Bool.and_false] at V3
          go_wp2_with fail
          refine (HI.out w1).mono ?_
          rintro e w2 ⟨rfl, b2⟩
          have HB2 := Lib.hid (below_trans_self HB1.out b2)
          clear b2
          go_wp2_with fail
          refine (HS.out w2).mono ?_
          rintro e w3 ⟨rfl, b3⟩
          have HB3 := Lib.hid (below_trans_self HB2.out b3)
          clear b3
          go_wp2_with fail
          refine (V1.out w3).mono ?_
          rintro e w4 ⟨rfl, b4⟩
          have HB4 := Lib.hid (below_trans_self HB3.out b4)
          clear b4
          go_wp2_with fail
          refine (V2.out w4).mono ?_
          rintro e w5 ⟨rfl, b5⟩
          have HB5 := Lib.hid (below_trans_self HB4.out b5)
          clear b5
          go_wp2_with fail
          refine (V3.out w5).mono ?_
          rintro e w6 ⟨rfl, b6⟩
          have HB6 := Lib.hid (below_trans_self HB5.out b6)
          clear b6
          go_wp2_with fail
          all_goals
            go_ret
            exact ⟨rfl, HB6.out⟩
      · have hd1 : ¬ d + 1 < 9 := by omega
        have gd1 : decide ((d : Int) + 1 < 9) = false := decide_eq_false (by omega)
        have gd2 : decide ((d : Int) < 9) = false := decide_eq_false (by omega)
        rw [decide_eq_false ha] at V1 V2
        rw [decide_eq_false hd1] at V3
        have V1' : Hid (∀ w, Calls Try.prog 30 #[.string ((⟨#[40]⟩ : ByteArray) ++ s ++ ⟨#[41]⟩)] w fun e w' => e = .returned (.bool false) ∧ Below w.heap.size w w') := V1.out
        have V2' : Hid (∀ w, Calls Try.prog 30 #[.string ((⟨#[123]⟩ : ByteArray) ++ s ++ ⟨#[125]⟩)] w fun e w' => e = .returned (.bool false) ∧ Below w.heap.size w w') := V2.out
        have V3' : Hid (∀ w, Calls Try.prog 30 #[.string ((⟨#[40, 123]⟩ : ByteArray) ++ s ++ ⟨#[125, 41]⟩)] w fun e w' => e = .returned (.bool false) ∧ Below w.heap.size w w') := V3.out
        clear V1 V2 V3
        go_wp2_with fail
        refine (HI.out w1).mono ?_
        rintro e w2 ⟨rfl, b2⟩
        have HB2 := Lib.hid (below_trans_self HB1.out b2)
        clear b2
        go_wp2_with fail
        refine (HS.out w2).mono ?_
        rintro e w3 ⟨rfl, b3⟩
        have HB3 := Lib.hid (below_trans_self HB2.out b3)
        clear b3
        go_wp2_with fail
        refine (V1'.out w3).mono ?_
        rintro e w4 ⟨rfl, b4⟩
        have HB4 := Lib.hid (below_trans_self HB3.out b4)
        clear b4
        go_wp2_with fail
        refine (V2'.out w4).mono ?_
        rintro e w5 ⟨rfl, b5⟩
        have HB5 := Lib.hid (below_trans_self HB4.out b5)
        clear b5
        go_wp2_with fail
        refine (V3'.out w5).mono ?_
        rintro e w6 ⟨rfl, b6⟩
        have HB6 := Lib.hid (below_trans_self HB5.out b6)
        clear b6
        go_wp2_with fail
        all_goals
          go_ret
          exact ⟨rfl, HB6.out⟩
end Go.Proofs.Ytelhogeaobofpaa
