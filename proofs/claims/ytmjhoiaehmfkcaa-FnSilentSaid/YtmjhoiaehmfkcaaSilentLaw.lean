/-
  The law FnSilent: a run that goes on silently is never asked again, and needs a loop.
-/
import Derived.Test.YtmjhoiaehmfkcaaDrawEnds
import Derived.Test.YtmjhoiaehmfkcaaRunEnds
import Derived.Test.YtmjhoiaehmfkcaaSilentMath
namespace Go.Proofs.Ytmjhoiaehmfkcaa
open Go.RowKit Go.Sort
attribute [local go_sem] Oper.semAt_some

theorem has_mem {S : List UInt8} {c : UInt8} (h : c ∈ S) : hasB (tb S) (tb [c]) = true := by
  obtain ⟨i, hi, e⟩ := List.getElem_of_mem h
  refine hasB_yes (i := i) (by rw [tb_size]; exact hi) ?_
  apply ba_ext
  simp [tb]
  rw [List.drop_eq_getElem_cons hi, e]
  rfl
theorem esB_get {o : Option ROut} (h : esB o = true) : ∃ o1, o = some o1 ∧ o1.code = 2 ∧ o1.trace.length < 60 := by
  cases o with
  | none => cases h
  | some o1 =>
    rw [esB_some, Bool.and_eq_true, decide_eq_true_iff, decide_eq_true_iff] at h
    exact ⟨o1, rfl, h.1, h.2⟩

set_option maxRecDepth 100000 in
set_option maxHeartbeats 3200000 in
theorem silent_walk (A : Option Addr) (len cap : Nat) (w : World) (hb : Bytes w A len) (hlc : len ≤ cap) (hl : cap ≤ 9223372036854775807) :
    Calls Try.prog 10 #[.slice A len cap] w fun e w' => e = .returned (.bool true) ∧ Below w.heap.size w w' := by
  by_cases hbig : 1048576 < len
  · have hbI : (1048576 : Int) < len := by omega
    clear hb hlc hl
    go_enter Try.func10, Try.ntmps10
    go_wp2_with fail
    go_ret
    exact ⟨rfl, Below.refl _ _⟩
  have HC := Lib.hid (drawEnds_any A len cap w hb hlc hl)
  have hbI : ¬ (1048576 : Int) < len := by omega
  clear hb
  go_enter Try.func10, Try.ntmps10
  go_wp2_with fail
  refine HC.out.mono ?_
  rintro e w1 ⟨s, t, rfl, hs, ht, b1⟩
  obtain ⟨S, rfl⟩ : ∃ S, s = tb S := ⟨_, (tb_of s).symm⟩
  obtain ⟨T, rfl⟩ : ∃ T, t = tb T := ⟨_, (tb_of t).symm⟩
  rw [tb_size] at hs ht
  have HB1 := Lib.hid b1
  have HR1 := Lib.hid (implEnds_any S T w1 (by omega))
  have HSS := Lib.hid (And.intro hs ht)
  clear b1 hs
  go_wp2_with fail
  refine HR1.out.mono ?_
  rintro e w2 ⟨o, hr, rfl, b2⟩
  have HO := Lib.hid hr
  have HB2 := Lib.hid (HB1.out.trans (b2.mono HB1.out.size))
  have HR2 := Lib.hid (specEnds_any S T w2 (by have := HSS.out.1; omega) (by omega))
  clear hr b2
  cases hes : esB o with
  | false =>
    have HES := Lib.hid hes
    clear hes
    go_wp2_with fail
    refine HR2.out.mono ?_
    rintro e w3 ⟨o', hr', rfl, b3⟩
    obtain rfl := HO.out.uniq hr'
    have HB3 := Lib.hid (HB2.out.trans (b3.mono HB2.out.size))
    have HR3 := Lib.hid (specEnds_any S T w3 (by have := HSS.out.1; omega) (by omega))
    clear hr' b3
    rw [HES.out]
    go_wp2_with fail
    refine HR3.out.mono ?_
    rintro e w4 ⟨o', hr', rfl, b4⟩
    obtain rfl := HO.out.uniq hr'
    have HB4 := Lib.hid (HB3.out.trans (b4.mono HB3.out.size))
    clear hr' b4
    rw [HES.out]
    go_wp2_with fail
    go_ret
    exact ⟨rfl, HB4.out⟩
  | true =>
    have HES := Lib.hid hes
    clear hes
    go_wp2_with fail
    refine HR2.out.mono ?_
    rintro e w3 ⟨o', hr', rfl, b3⟩
    obtain rfl := HO.out.uniq hr'
    have HB3 := Lib.hid (HB2.out.trans (b3.mono HB2.out.size))
    have HR3 := Lib.hid (implRunText_any S T w3 (by omega))
    clear hr' b3
    rw [HES.out]
    go_wp2_with fail
    refine HR3.out.mono ?_
    rintro e w4 ⟨o', hr', rfl, b4⟩
    obtain rfl := HO.out.uniq hr'
    obtain ⟨o1, rfl, h2, h60⟩ := esB_get HES.out
    have HB4 := Lib.hid (HB3.out.trans (b4.mono HB3.out.size))
    have HE := Lib.hid (And.intro h2 h60)
    have hz : (tb o1.trace).size = o1.trace.length := tb_size _
    have g2 : ((o1.code : Int) == 2) = true := by rw [h2]; rfl
    have g60 : decide ((60 : Int) ≤ (o1.trace.length : Int)) = false := decide_eq_false (by omega)
    have g60n : ¬ 60 ≤ o1.trace.length := by omega
    have hzT : (tb T).size = T.length := tb_size T
    have hm1 : hasB (tb S) (tb [123]) = true := has_mem (silent_has HO.out HE.out (.inl rfl))
    have hm2 : hasB (tb S) (tb [94]) = true := has_mem (silent_has HO.out HE.out (.inr rfl))
    have HS1 : Hid (∀ w, Calls Try.prog 21 #[.string (tb S), .string ⟨#[123]⟩] w fun e w' => e = .returned (.bool true) ∧ w = w') := fun w => by
      have := sjHas_any (tb S) (tb [123]) w (by rw [tb_size]; have := HSS.out.1; omega)
      rw [hm1] at this; exact this
    have HS2 : Hid (∀ w, Calls Try.prog 21 #[.string (tb S), .string ⟨#[94]⟩] w fun e w' => e = .returned (.bool true) ∧ w = w') := fun w => by
      have := sjHas_any (tb S) (tb [94]) w (by rw [tb_size]; have := HSS.out.1; omega)
      rw [hm2] at this; exact this
    clear hr' b4 hm1 hm2
    unfold rtV
    by_cases hT20 : T.length < 20
    · have gs : ¬ 9223372036854775807 < T.length + 1 := by omega
      have gi : decide ((T.length : Int) < 20) = true := decide_eq_true (by omega)
      have HX1 : Hid (∀ w, Calls Try.prog 13 #[.string (tb S), .string (tb T ++ ⟨#[108]⟩)] w fun e w' => ∃ o, RanT S (T ++ [108]) o ∧ e = .returned (rtV o) ∧ Below w.heap.size w w') := fun w => by
        have := implRunText_any S (T ++ [108]) w (by rw [List.length_append, List.length_singleton]; omega)
        rw [← mtb_snoc] at this; exact this
      have HX2 : Hid (∀ w, Calls Try.prog 17 #[.string (tb S), .string (tb T ++ ⟨#[114]⟩)] w fun e w' => ∃ o, RanT S (T ++ [114]) o ∧ e = .returned (.bool (esB o)) ∧ Below w.heap.size w w') := fun w => by
        have := implEnds_any S (T ++ [114]) w (by rw [List.length_append, List.length_singleton]; omega)
        rw [← mtb_snoc] at this; exact this
      clear h60
      go_wp2_with fail
      refine (HX1.out w4).mono ?_
      rintro e w5 ⟨q, hq, rfl, b5⟩
      obtain ⟨o2, rfl, e1, e2⟩ := silent_more HO.out HE.out.1 (.inl rfl) hT20 hq
      have HB5 := Lib.hid (HB4.out.trans (b5.mono HB4.out.size))
      have g5 : ((tb o2.trace).toList == (tb o1.trace).toList) = true := by rw [e1]; simp
      have g6 : ((o2.code : Int) == (o1.code : Int)) = true := by rw [e2]; simp
      have g7 : ((o2.code : Int) != (o1.code : Int)) = false := by rw [e2]; simp
      clear hq b5 e1
      unfold rtV
      go_wp2_with fail
      refine (HX2.out w5).mono ?_
      rintro e w6 ⟨q, hq, rfl, b6⟩
      obtain ⟨o3, rfl, e3, e4⟩ := silent_more HO.out HE.out.1 (.inr rfl) hT20 hq
      have HB6 := Lib.hid (HB5.out.trans (b6.mono HB5.out.size))
      have hq3 : esB (some o3) = true := by rw [esB_some, decide_eq_true (by rw [e4]; exact HE.out.1), decide_eq_true (by rw [e3]; exact HE.out.2)]; rfl
      rw [hq3]
      clear hq b6 e3 e4 hq3
      go_wp2_with fail
      refine (HS1.out w6).mono ?_
      rintro e w7 ⟨rfl, rfl⟩
      go_wp2_with fail
      refine (HS2.out w6).mono ?_
      rintro e w7 ⟨rfl, rfl⟩
      go_wp2_with fail
      go_ret
      exact ⟨rfl, HB6.out⟩
    · have gi : decide ((T.length : Int) < 20) = false := decide_eq_false (by omega)
      clear h60
      go_wp2_with fail
      refine (HS1.out w4).mono ?_
      rintro e w7 ⟨rfl, rfl⟩
      go_wp2_with fail
      refine (HS2.out w4).mono ?_
      rintro e w7 ⟨rfl, rfl⟩
      go_wp2_with fail
      go_ret
      exact ⟨rfl, HB4.out⟩
end Go.Proofs.Ytmjhoiaehmfkcaa
