/-
  The model's reader: a row between two bytes, a frame.
-/
import Derived.Test.YtelhogeaobofpaaMBody
namespace Go.Proofs.Ytelhogeaobofpaa
open Go.RowKit Go.Sort

def MWithPost (R f : Nat) (tx : List UInt8) (p : Nat) (b c : UInt8) (w : World) (e : Ending) (w' : World) : Prop :=
  (∃ l p' A n k, OkL l f ∧ tx.drop p = b :: (txL l ++ c :: tx.drop p') ∧ p < p' ∧ p' ≤ tx.length ∧ e = .returned (.slice A n k) ∧ MRowAt w' (NewIn w) l (.slice A n k) ∧ Mrd w' R tx p' false f ∧ Only R w w') ∨
  (∃ A n k p', (∀ l r, OkL l f → tx.drop p ≠ b :: (txL l ++ c :: r)) ∧ p' + 3 * p ≤ 4 * tx.length + 2 ∧ e = .returned (.slice A n k) ∧ Mrd w' R tx p' true f ∧ Only R w w')

set_option maxRecDepth 100000 in
set_option maxHeartbeats 1600000 in
theorem mwithin_bad (R f p : Nat) (tx : List UInt8) (b c : UInt8) (w : World) (hp : p ≤ 8388600) (h : Mrd w R tx p true f) :
    Calls Try.prog 83 #[.pointer (some ⟨R, 0, none⟩), .int .u8 b.toNat, .int .u8 c.toNat] w fun e w' => ∃ A n k, e = .returned (.slice A n k) ∧ Mrd w' R tx (p + 2) true f ∧ Only R w w' := by
  have H1 := Lib.hid (is_any R p f tx true b w (by omega) h)
  have H2 := Lib.hid (fun W (k : Mrd W R tx (p + 1) true f) => mbody_bad R f (p + 1) tx c W k)
  have H3 := Lib.hid (fun W (k : Mrd W R tx (p + 1) true f) => is_any R (p + 1) f tx true c W (by omega) k)
  clear h
  go_enter Try.func83, Try.ntmps83
  go_wp2_with fail
  refine H1.out.mono ?_
  rintro e w1 ⟨rfl, k1, o1⟩
  have K1 := Lib.hid k1
  have O1 := Lib.hid o1
  clear k1 o1
  go_wp2_with fail
  refine (H2.out _ (by have := K1.out; simpa using this)).mono ?_
  rintro e w2 ⟨A, n, k, rfl, k2, o2⟩
  have K2 := Lib.hid k2
  have O2 := Lib.hid o2
  clear k2 o2
  go_wp2_with fail
  refine (H3.out _ K2.out).mono ?_
  rintro e w3 ⟨rfl, k3, o3⟩
  have K3 := Lib.hid k3
  have O3 := Lib.hid o3
  clear k3 o3
  go_wp2_with fail
  go_ret
  exact ⟨A, n, k, rfl, by have := K3.out; simpa using this, (O1.out.trans O2.out).trans O3.out⟩

theorem sees_at {tx : List UInt8} {p : Nat} {c : UInt8} (h : seesB tx p c = true) : tx[p]? = some c := of_decide_eq_true h
theorem sees_not {tx : List UInt8} {p : Nat} {c : UInt8} (h : seesB tx p c = false) : tx[p]? ≠ some c := of_decide_eq_false h
theorem sees_halt {tx : List UInt8} {p : Nat} {c : UInt8} (hp : p ≤ tx.length) (h : seesB tx p c = false) (hh : HaltAt c (tx.drop p)) : p = tx.length := by
  rcases hh with hh | ⟨t, hh⟩
  · have := congrArg List.length hh
    simp at this; omega
  · exact absurd (drop_cons hh).2.2 (sees_not h)

set_option maxRecDepth 100000 in
set_option maxHeartbeats 1600000 in
theorem mwithin_any (n : Nat) (HB : MBodyOk n) (R f p : Nat) (tx : List UInt8) (b c : UInt8) (w : World) (hc : c = 41 ∨ c = 125 ∨ c = 93) (hn : tx.length - p ≤ n + 1) (hp : p ≤ tx.length) (htx : tx.length ≤ 1048576) (hf : f ≤ 9) (h : Mrd w R tx p false f) :
    Calls Try.prog 83 #[.pointer (some ⟨R, 0, none⟩), .int .u8 b.toNat, .int .u8 c.toNat] w (MWithPost R f tx p b c w) := by
  have H1 := Lib.hid (is_any R p f tx false b w (by omega) h)
  have hR := h.lt
  have HBX := Lib.hid HB
  clear h HB
  cases hs : seesB tx p b with
  | false =>
    rw [hs] at H1
    have H2 := Lib.hid (fun W (k : Mrd W R tx (p + 1) true f) => mbody_bad R f (p + 1) tx c W k)
    have H3 := Lib.hid (fun W (k : Mrd W R tx (p + 1) true f) => is_any R (p + 1) f tx true c W (by omega) k)
    have HNO := Lib.hid (show ∀ l r, OkL l f → tx.drop p ≠ b :: (txL l ++ c :: r) from fun l r _ e => sees_not hs (drop_cons e).2.2)
    clear hs hc
    go_enter Try.func83, Try.ntmps83
    go_wp2_with fail
    refine H1.out.mono ?_
    rintro e w1 ⟨rfl, k1, o1⟩
    have K1 := Lib.hid k1
    have O1 := Lib.hid o1
    clear k1 o1
    go_wp2_with fail
    refine (H2.out _ (by have := K1.out; simpa using this)).mono ?_
    rintro e w2 ⟨A, m, k, rfl, k2, o2⟩
    have K2 := Lib.hid k2
    have O2 := Lib.hid o2
    clear k2 o2
    go_wp2_with fail
    refine (H3.out _ K2.out).mono ?_
    rintro e w3 ⟨rfl, k3, o3⟩
    have K3 := Lib.hid k3
    have O3 := Lib.hid o3
    clear k3 o3
    go_wp2_with fail
    go_ret
    exact .inr ⟨A, m, k, p + 2, HNO.out, by omega, rfl, by have := K3.out; simpa using this, (O1.out.trans O2.out).trans O3.out⟩
  | true =>
    rw [hs] at H1
    have hget := sees_at hs
    have hd := drop_at hget
    have hlt := (drop_cons hd).1
    have HD := Lib.hid hd
    have H2 := Lib.hid (fun W (k : Mrd W R tx (p + 1) false f) => HBX.out R f tx (p + 1) c W (by omega) (by omega) htx hf k)
    have H3 := Lib.hid (fun q bad W (hq : q ≤ 8388608) (k : Mrd W R tx q bad f) => is_any R q f tx bad c W hq k)
    have HC := Lib.hid hc
    clear hs hc hget hd
    go_enter Try.func83, Try.ntmps83
    go_wp2_with fail
    refine H1.out.mono ?_
    rintro e w1 ⟨rfl, k1, o1⟩
    have K1 := Lib.hid k1
    have O1 := Lib.hid o1
    clear k1 o1
    go_wp2_with fail
    refine (H2.out _ (by have := K1.out; simpa using this)).mono ?_
    rintro e w2 (⟨l, q, v, hl, hdq, hpq, hq, hh, rfl, hrow, k2, o2⟩ | ⟨A, m, k, q, hno, hfar, rfl, k2, o2⟩)
    · obtain ⟨xs, ⟨A, k, rfl, hx2⟩, hx3⟩ := hrow
      have HROW : Hid (MRowAt w2 (NewIn w1) l (.slice A l.length k)) := ⟨xs, ⟨A, k, rfl, hx2⟩, hx3⟩
      have HL := Lib.hid hl
      have HDQ := Lib.hid hdq
      have HH := Lib.hid hh
      have K2 := Lib.hid k2
      have O2 := Lib.hid o2
      clear hl hdq hh k2 o2 hx2 hx3
      go_wp2_with fail
      refine (H3.out q false _ (by omega) K2.out).mono ?_
      rintro e w3 ⟨rfl, k3, o3⟩
      have K3 := Lib.hid k3
      have O3 := Lib.hid o3
      clear k3 o3
      go_wp2_with fail
      go_ret
      cases hs2 : seesB tx q c with
      | true =>
        have hd2 := drop_at (sees_at hs2)
        have hq2 := (drop_cons hd2).1
        refine .inl ⟨l, q + 1, A, l.length, k, HL.out, by rw [HD.out, HDQ.out, hd2], by omega, by omega, rfl, ?_, by have := K3.out; rw [hs2] at this; simpa using this, (O1.out.trans O2.out).trans O3.out⟩
        refine (HROW.out.stay (?_ : Stay w2 (NewIn w1) w3 (NewIn w)))
        have h1 := O1.out.size
        exact ⟨O3.out.size, fun b hb hp => ⟨Nat.le_trans h1 hp, O3.out.block b (by have hp' : w1.heap.size ≤ b := hp; omega) hb⟩⟩
      | false =>
        have hqe := sees_halt hq hs2 HH.out
        refine .inr ⟨A, l.length, k, q + 1, fun l' r hl' e => ?_, by omega, rfl, by have := K3.out; rw [hs2] at this; simpa using this, (O1.out.trans O2.out).trans O3.out⟩
        rw [HD.out] at e
        have e2 := (List.cons.inj e).2
        rw [HDQ.out, hqe, List.drop_length] at e2
        have hce : Ends (c :: r) := by
          rcases HC.out with h | h | h <;> subst h
          · exact .inr ⟨r, .inl rfl⟩
          · exact .inr ⟨r, .inr (.inl rfl)⟩
          · exact .inr ⟨r, .inr (.inr rfl)⟩
        have := (uniqL l l' f f [] (c :: r) HL.out hl' (.inl rfl) hce e2).2
        cases this
    · have HNO := Lib.hid hno
      have K2 := Lib.hid k2
      have O2 := Lib.hid o2
      clear hno k2 o2
      go_wp2_with fail
      refine (H3.out q true _ (by omega) K2.out).mono ?_
      rintro e w3 ⟨rfl, k3, o3⟩
      have K3 := Lib.hid k3
      have O3 := Lib.hid o3
      clear k3 o3
      go_wp2_with fail
      go_ret
      refine .inr ⟨A, m, k, q + 1, fun l' r hl' e => ?_, by omega, rfl, by have := K3.out; simpa using this, (O1.out.trans O2.out).trans O3.out⟩
      rw [HD.out] at e
      exact HNO.out l' (c :: r) hl' (.inr ⟨HC.out, r, rfl⟩) (List.cons.inj e).2

def MFramePost (R f : Nat) (tx : List UInt8) (p : Nat) (b : Bool) (w : World) (e : Ending) (w' : World) : Prop :=
  (∃ l p' A n k, f < 9 ∧ OkL l (f + 1) ∧ tx.drop p = opn b :: (txL l ++ cls b :: tx.drop p') ∧ p < p' ∧ p' ≤ tx.length ∧ e = .returned (.slice A n k) ∧ MRowAt w' (NewIn w) l (.slice A n k) ∧ Mrd w' R tx p' false f ∧ Only R w w') ∨
  (∃ A n k p', NoI f (tx.drop p) ∧ p' + 3 * p ≤ 4 * tx.length + 2 ∧ e = .returned (.slice A n k) ∧ Mrd w' R tx p' true f ∧ Only R w w')

theorem only_set_size {R : Nat} {w : World} (i : Nat) (u : Value) {w' : World} (h : Only R (w.setCell ⟨R, i, none⟩ u) w') : Only R w w' := (Only.set R w i u).trans h

set_option maxRecDepth 100000 in
set_option maxHeartbeats 1600000 in
theorem mframe_any (n : Nat) (HB : MBodyOk n) (R f p : Nat) (tx : List UInt8) (b : Bool) (w : World) (hat : tx[p]? = some (opn b)) (hn : tx.length - p ≤ n + 1) (hp : p ≤ tx.length) (htx : tx.length ≤ 1048576) (hf : f ≤ 9) (h : Mrd w R tx p false f) :
    Calls Try.prog 84 #[.pointer (some ⟨R, 0, none⟩), .int .u8 (opn b).toNat, .int .u8 (cls b).toNat] w (MFramePost R f tx p b w) := by
  have d3 : w.cell? ⟨R, 3, none⟩ = some (.int .i64 f) := Blk.cell h 3
  have f3 : w.frozen? ⟨R, 3, none⟩ = false := Blk.frozen h 3
  have k1 := Blk.set_ h 3 (.int .i64 ((f : Int) + 1))
  have d2' : (w.setCell ⟨R, 3, none⟩ (.int .i64 ((f : Int) + 1))).cell? ⟨R, 2, none⟩ = some (.bool false) := k1.cell 2
  have d3' : (w.setCell ⟨R, 3, none⟩ (.int .i64 ((f : Int) + 1))).cell? ⟨R, 3, none⟩ = some (.int .i64 ((f : Int) + 1)) := k1.cell 3
  have f2' := k1.frozen 2
  have e1 : ((f + 1 : Nat) : Int) = (f : Int) + 1 := by omega
  have hR := h.lt
  have hd := drop_at hat
  have s2 : IntKind.i64.wrap ((f : Int) + 1 - 1) = (f : Int) := by rw [show (f : Int) + 1 - 1 = (f : Int) by omega]; exact IntWalk.i64_in _ (by omega)
  have s3 : (f : Int) + 1 - 1 = (f : Int) := by omega
  by_cases h9 : f = 9
  · have q1 : decide ((9 : Int) < (f : Int) + 1) = true := decide_eq_true (by omega)
    have k2 := k1.set_ 2 (.bool true)
    have HK : Hid (Mrd ((w.setCell ⟨R, 3, none⟩ (.int .i64 ((f : Int) + 1))).setCell ⟨R, 2, none⟩ (.bool true)) R tx p true (f + 1)) := by
      show Mrd _ _ _ _ _ _
      unfold Mrd
      rw [e1]; exact k2
    have HW := Lib.hid (mwithin_bad R (f + 1) p tx (opn b) (cls b) _ (by omega) HK.out)
    have HNO := Lib.hid (show NoI f (tx.drop p) by rw [hd]; exact noI_frame_full b (by omega))
    have H9 := Lib.hid h9
    have HE := Lib.hid e1
    have hf1 : (9 : Int) < (f : Int) + 1 := by omega
    clear h k1 k2 HB h9 hat hd e1
    go_enter Try.func84, Try.ntmps84
    go_wp2_with fail
    refine HW.out.mono ?_
    rintro e w2 ⟨A, m, k, rfl, k2, o2⟩
    have c3 : w2.cell? ⟨R, 3, none⟩ = some (.int .i64 ((f : Int) + 1)) := by rw [← HE.out]; exact Blk.cell k2 3
    have g3 := Blk.frozen k2 3
    have K3 := Lib.hid (Blk.set_ k2 3 (.int .i64 (f : Int)))
    have O3 := Lib.hid ((only_set_size _ _ (only_set_size _ _ o2)).trans (Only.set R w2 3 (.int .i64 (f : Int))))
    clear k2 o2 d2' d3' f2' d3 f3
    go_wp2_with fail
    go_ret
    exact .inr ⟨A, m, k, p + 2, HNO.out, by omega, rfl, K3.out, O3.out⟩
  · have q1 : decide ((9 : Int) < (f : Int) + 1) = false := decide_eq_false (by omega)
    have k2 := k1.set_ 2 (.bool false)
    have HK : Hid (Mrd ((w.setCell ⟨R, 3, none⟩ (.int .i64 ((f : Int) + 1))).setCell ⟨R, 2, none⟩ (.bool false)) R tx p false (f + 1)) := by
      show Mrd _ _ _ _ _ _
      unfold Mrd
      rw [e1]; exact k2
    have HW := Lib.hid (mwithin_any n HB R (f + 1) p tx (opn b) (cls b) _ (by cases b <;> simp [cls]) hn hp htx (by omega) HK.out)
    have HD := Lib.hid hd
    have HE := Lib.hid e1
    have hf1 : (f : Int) + 1 ≤ 9 := by omega
    clear h k1 k2 HB hat hd e1
    go_enter Try.func84, Try.ntmps84
    go_wp2_with fail
    refine HW.out.mono ?_
    rintro e w2 (⟨l, q, A, m, k, hl, hdq, hpq, hq, rfl, hrow, k2, o2⟩ | ⟨A, m, k, q, hno, hfar, rfl, k2, o2⟩)
    · have c3 : w2.cell? ⟨R, 3, none⟩ = some (.int .i64 ((f : Int) + 1)) := by rw [← HE.out]; exact Blk.cell k2 3
      have g3 := Blk.frozen k2 3
      have K3 := Lib.hid (Blk.set_ k2 3 (.int .i64 (f : Int)))
      have O3 := Lib.hid ((only_set_size _ _ (only_set_size _ _ o2)).trans (Only.set R w2 3 (.int .i64 (f : Int))))
      have HL := Lib.hid hl
      have HDQ := Lib.hid hdq
      have HROW := Lib.hid hrow
      clear k2 o2 d2' d3' f2' d3 f3 hl hdq hrow
      go_wp2_with fail
      go_ret
      refine .inl ⟨l, q, A, m, k, by omega, HL.out, HDQ.out, hpq, hq, rfl, ?_, K3.out, O3.out⟩
      have h5 := HROW.out
      rw [newIn_set, newIn_set] at h5
      exact h5.stay (stay_set hR 3 _)
    · have c3 : w2.cell? ⟨R, 3, none⟩ = some (.int .i64 ((f : Int) + 1)) := by rw [← HE.out]; exact Blk.cell k2 3
      have g3 := Blk.frozen k2 3
      have K3 := Lib.hid (Blk.set_ k2 3 (.int .i64 (f : Int)))
      have O3 := Lib.hid ((only_set_size _ _ (only_set_size _ _ o2)).trans (Only.set R w2 3 (.int .i64 (f : Int))))
      have HNO := Lib.hid (show NoI f (tx.drop p) from fun i r hi _ e => by
        rw [HD.out] at e
        obtain ⟨l, _, _, hl⟩ := frame_parts b hi e
        exact hno l r hl.1 (by rw [HD.out, hl.2.2]))
      clear k2 o2 d2' d3' f2' d3 f3 hno
      go_wp2_with fail
      go_ret
      exact .inr ⟨A, m, k, q, HNO.out, hfar, rfl, K3.out, O3.out⟩
end Go.Proofs.Ytelhogeaobofpaa
