/-
  The law FnNoLoop: without loops each run ends, and does blocks in the order of the text.
-/
import Derived.Test.YtmjhoiaehmfkcaaDrawRunText
import Derived.Test.YtmjhoiaehmfkcaaRunEnds
import Derived.Test.YtmjhoiaehmfkcaaNoLoopMath
import Derived.Test.YtmjhoiaehmfkcaaBlocks
namespace Go.Proofs.Ytmjhoiaehmfkcaa
open Go.RowKit Go.Sort
attribute [local go_sem] Oper.semAt_some

theorem ran_noLoop {s c : List UInt8} {o : ROut} (h : RanT s c (some o)) (hn : countZ s [123] = 0) : o.trace.Sublist (blocksV s) ∧ (o.code = 2 → 60 < (blocksV s).length) := by
  obtain ⟨l, hl, _, hr⟩ := h
  rw [countZ_yes hl rfl (by decide)] at hn
  rw [blocksV_yes hl]
  exact noLoop_run hl hr (by omega)
theorem count_pos {s c : List UInt8} {o : ROut} (h : RanT s c (some o)) : 0 ≤ countZ s [123] := by
  obtain ⟨l, hl, _, hr⟩ := h
  rw [countZ_yes hl rfl (by decide)]
  omega
theorem tb_get (a : List UInt8) (i : Nat) (h : i < a.length) (h' : i < (tb a).size) : (tb a)[i]'h' = a[i]'h := by
  show (tb a).data[i]'_ = _
  simp [tb]

set_option maxRecDepth 100000 in
set_option maxHeartbeats 3200000 in
theorem noLoop_walk (A : Option Addr) (len cap : Nat) (w : World) (hb : Bytes w A len) (hlc : len ≤ cap) (hl : cap ≤ 9223372036854775807) :
    Calls Try.prog 11 #[.slice A len cap] w fun e w' => e = .returned (.bool true) ∧ Below w.heap.size w w' := by
  by_cases hbig : 1048576 < len
  · have hbI : (1048576 : Int) < len := by omega
    clear hb hlc hl
    go_enter Try.func11, Try.ntmps11
    go_wp2_with fail
    go_ret
    exact ⟨rfl, Below.refl _ _⟩
  have HC := Lib.hid (drawRunText_any A len cap w hb hlc hl)
  have hbI : ¬ (1048576 : Int) < len := by omega
  clear hb
  go_enter Try.func11, Try.ntmps11
  go_wp2_with fail
  refine HC.out.mono ?_
  rintro e w1 ⟨s, t, rfl, hs, ht, b1⟩
  obtain ⟨S, rfl⟩ : ∃ S, s = tb S := ⟨_, (tb_of s).symm⟩
  obtain ⟨T, rfl⟩ : ∃ T, t = tb T := ⟨_, (tb_of t).symm⟩
  rw [tb_size] at hs ht
  have HB1 := Lib.hid b1
  have HR1 := Lib.hid (implRunText_any S T w1 (by omega))
  have HSS := Lib.hid (And.intro hs ht)
  clear b1 hs
  go_wp2_with fail
  refine HR1.out.mono ?_
  rintro e w2 ⟨o, hr, rfl, b2⟩
  have HO := Lib.hid hr
  have HB2 := Lib.hid (HB1.out.trans (b2.mono HB1.out.size))
  have HR2 := Lib.hid (specRunText_any S T w2 (by have := HSS.out.1; omega) (by omega))
  clear hr b2
  cases o with
  | none =>
    unfold rtV
    go_wp2_with fail
    refine HR2.out.mono ?_
    rintro e w3 ⟨o', hr', rfl, b3⟩
    obtain rfl := HO.out.uniq hr'
    have HB3 := Lib.hid (HB2.out.trans (b3.mono HB2.out.size))
    have t1 : (tb []).toList.isEmpty = true := by rw [tb_toList]; rfl
    clear hr' b3
    unfold rtV
    go_wp2_with fail
    go_ret
    exact ⟨rfl, HB3.out⟩
  | some o =>
    unfold rtV
    go_wp2_with fail
    refine HR2.out.mono ?_
    rintro e w3 ⟨o', hr', rfl, b3⟩
    obtain rfl := HO.out.uniq hr'
    have HB3 := Lib.hid (HB2.out.trans (b3.mono HB2.out.size))
    have HCI : Hid (Calls Try.prog 26 #[.string (tb S), .string ⟨#[123]⟩] w3 fun e w' => e = .returned (.int .i64 (countZ S [123])) ∧ Below w3.heap.size w3 w') := implCountItems_any S [123] w3
    clear hr' b3
    unfold rtV
    go_wp2_with fail
    refine HCI.out.mono ?_
    rintro e w4 ⟨rfl, b4⟩
    have HB4 := Lib.hid (HB3.out.trans (b4.mono HB3.out.size))
    have hcp := count_pos HO.out
    clear b4
    by_cases hc : countZ S [123] = 0
    · have hx := ran_noLoop HO.out hc
      rw [hc]
      have HX := Lib.hid hx
      have HBI := Lib.hid (implBlocksIn_any S w4)
      clear hx hc hcp
      go_wp2_with fail
      refine HBI.out.mono ?_
      rintro e w5 ⟨rfl, b5⟩
      have HB5 := Lib.hid (HB4.out.trans (b5.mono HB4.out.size))
      obtain ⟨nm, hnm⟩ : ∃ nm, nm = blocksV S := ⟨_, rfl⟩
      have hn200 : nm.length ≤ 200 := by rw [hnm]; exact blV_len
      rw [← hnm] at HX ⊢
      have hzn : (tb nm).size = nm.length := tb_size _
      obtain ⟨tr, htr⟩ : ∃ tr, tr = o.trace := ⟨_, rfl⟩
      rw [← htr] at HX ⊢
      have hzt : (tb tr).size = tr.length := tb_size _
      have htl : tr.length ≤ 200 := Nat.le_trans HX.out.1.length_le hn200
      clear b5 hnm htr
      go_wp2_with fail
      go_loopg [13, 59] nm.length (fun gk kv iv wr => ∃ i k : Nat, gk = nm.length - i ∧ i ≤ nm.length ∧ iv = .int .i64 i ∧ kv = .int .i64 k ∧ k ≤ tr.length ∧ Hid ((tr.drop k).Sublist (nm.drop i)) ∧ Hid (Below w.heap.size w wr))
      case atStart => exact ⟨0, 0, by omega, Nat.zero_le _, rfl, rfl, Nat.zero_le _, HX.out.1, HB5.out⟩
      case round =>
        obtain ⟨i, k, rfl, hi, rfl, rfl, hk, HS, HB⟩ := hrel
        by_cases hil : i < nm.length
        · have hdn : nm.drop i = nm[i] :: nm.drop (i + 1) := List.drop_eq_getElem_cons hil
          by_cases hkl : k < tr.length
          · have hdk : tr.drop k = tr[k] :: tr.drop (k + 1) := List.drop_eq_getElem_cons hkl
            have q1 : (tb nm)[i]'(by omega) = nm[i] := tb_get nm i hil _
            have q2 : (tb tr)[k]'(by omega) = tr[k] := tb_get tr k hkl _
            have HSS2 := Lib.hid (show (tr[k] :: tr.drop (k + 1)).Sublist (nm[i] :: nm.drop (i + 1)) by rw [← hdn, ← hdk]; exact HS.out)
            clear hdn hdk
            by_cases e : nm[i] = tr[k]
            · have g1 : (((nm[i]).toNat : Int) == ((tr[k]).toNat : Int)) = true := by rw [e]; simp
              have HN := Lib.hid (scan_same HSS2.out e)
              clear e
              go_wp2_with fail
              go_quiet (fail)
              go_wp2_with fail
              go_roundg (nm.length - (i + 1))
              case measure => omega
              case rel => exact ⟨i + 1, k + 1, rfl, by omega, by go_num, by go_num, by omega, HN, HB.out.trans ((count_drewN _ nq).mono HB.out.size)⟩
            · have g1 : (((nm[i]).toNat : Int) == ((tr[k]).toNat : Int)) = false := by
                have : (nm[i]).toNat ≠ (tr[k]).toNat := fun h => e (UInt8.toNat_inj.1 h)
                simp; omega
              have HN := Lib.hid (show (tr.drop k).Sublist (nm.drop (i + 1)) by rw [List.drop_eq_getElem_cons hkl]; exact scan_other HSS2.out e)
              clear e
              go_wp2_with fail
              go_quiet (fail)
              go_wp2_with fail
              go_roundg (nm.length - (i + 1))
              case measure => omega
              case rel => exact ⟨i + 1, k, rfl, by omega, by go_num, rfl, by omega, HN, HB.out.trans ((count_drewN _ nq).mono HB.out.size)⟩
          · have HN := Lib.hid (show (tr.drop k).Sublist (nm.drop (i + 1)) by rw [List.drop_eq_nil_of_le (by omega)]; exact List.nil_sublist _)
            clear hdn
            go_wp2_with fail
            go_quiet (fail)
            go_wp2_with fail
            go_roundg (nm.length - (i + 1))
            case measure => omega
            case rel => exact ⟨i + 1, k, rfl, by omega, by go_num, rfl, by omega, HN, HB.out.trans ((count_drewN _ nq).mono HB.out.size)⟩
        · have hin : i = nm.length := by omega
          have hkt : k = tr.length := by
            have h1 := HS.out.length_le
            rw [List.length_drop, List.length_drop] at h1
            omega
          have hcode : nm.length ≤ 60 → ((o.code : Int) == 2) = false := fun h => by
            have : o.code ≠ 2 := fun h2 => by have := HX.out.2 h2; omega
            simp; omega
          subst hkt
          clear hin
          by_cases h60 : nm.length ≤ 60
          · have g1 := hcode h60
            clear hcode
            go_wp2_with fail
            go_ret
            exact ⟨rfl, HB.out⟩
          · clear hcode
            go_wp2_with fail
            go_ret
            exact ⟨rfl, HB.out⟩
    · have g1 : decide ((0 : Int) < countZ S [123]) = true := decide_eq_true (by omega)
      have g2 : (0 : Int) < countZ S [123] := by omega
      clear hcp hc
      go_wp2_with fail
      go_ret
      exact ⟨rfl, HB4.out⟩
end Go.Proofs.Ytmjhoiaehmfkcaa
