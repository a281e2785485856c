/-
  The model's reader of texts: what it is in memory, and the contracts of its small steps.
-/
import Derived.Test.YtelhogeaobofpaaTrees
import Derived.IntWalk
namespace Go.Proofs.Ytelhogeaobofpaa
open Go.RowKit Go.Sort

/-- The model's reader in block R: its text, how far it has come, whether it went wrong, how many frames lie around it. -/
def Mrd (w : World) (R : Nat) (tx : List UInt8) (p : Nat) (bad : Bool) (f : Nat) : Prop := Blk w R 89 #[.string (tb tx), .int .i64 p, .bool bad, .int .i64 f]
theorem Mrd.lt {w : World} {R : Nat} {tx : List UInt8} {p : Nat} {bad : Bool} {f : Nat} (h : Mrd w R tx p bad f) : R < w.heap.size := Blk.lt h

/-- Is this byte read next? -/
def seesB (tx : List UInt8) (p : Nat) (c : UInt8) : Bool := decide (tx[p]? = some c)

set_option maxRecDepth 100000 in
set_option maxHeartbeats 1600000 in
theorem sees_any (R p f : Nat) (tx : List UInt8) (bad : Bool) (c : UInt8) (w : World) (h : Mrd w R tx p bad f) :
    Calls Try.prog 86 #[.pointer (some ⟨R, 0, none⟩), .int .u8 c.toNat] w fun e w' => e = .returned (.bool (seesB tx p c)) ∧ ∃ m, w' = w.drewN m := by
  have c0 := Blk.cell h 0
  have c1 := Blk.cell h 1
  obtain ⟨x, hx⟩ : ∃ x, x = tb tx := ⟨_, rfl⟩
  have hxz : x.size = tx.length := by rw [hx, tb_size]
  have hxd : x.data.toList = tx := by rw [hx, tb_data]
  have d0 : w.cell? ⟨R, 0, none⟩ = some (.string x) := by rw [hx]; exact c0
  have d1 : w.cell? ⟨R, 1, none⟩ = some (.int .i64 p) := c1
  clear c0 c1 h
  by_cases hp : p < x.size
  · have hb := byte_at x p hp
    have q1 : decide ((p : Int) < (x.size : Int)) = true := decide_eq_true (by omega)
    have hget : tx[p]? = some x[p] := by rw [← hxd]; exact hb
    obtain ⟨b, hbb⟩ : ∃ b, b = x[p] := ⟨_, rfl⟩
    rw [← hbb] at hb hget
    cases hs : seesB tx p c with
    | true =>
      have hbc : b = c := by have := of_decide_eq_true hs; rw [hget] at this; exact Option.some.inj this
      have q2 : ((x[p].toNat : Int) == (c.toNat : Int)) = true := by rw [← hbb, hbc]; simp
      clear hs hget hx hb hbb hbc hxz hxd
      go_enter Try.func86, Try.ntmps86
      go_wp2_with fail
      go_quiet (fail)
      go_wp2_with fail
      go_ret
      exact ⟨rfl, _, rfl⟩
    | false =>
      have hbc : b ≠ c := fun e => by have := of_decide_eq_false hs; rw [hget, e] at this; exact this rfl
      have q2 : ((x[p].toNat : Int) == (c.toNat : Int)) = false := by rw [← hbb]; exact byte_ne hbc
      clear hs hget hx hb hbb hbc hxz hxd
      go_enter Try.func86, Try.ntmps86
      go_wp2_with fail
      go_quiet (fail)
      go_wp2_with fail
      go_ret
      exact ⟨rfl, _, rfl⟩
  · have q1 : decide ((p : Int) < (x.size : Int)) = false := decide_eq_false (by omega)
    have hs : seesB tx p c = false := decide_eq_false (by rw [List.getElem?_eq_none (by omega)]; simp)
    rw [hs]
    clear hx hs hxz hxd
    go_enter Try.func86, Try.ntmps86
    go_wp2_with fail
    go_quiet (fail)
    go_wp2_with fail
    go_ret
    exact ⟨rfl, _, rfl⟩

theorem Mrd.drewN {w : World} {R : Nat} {tx : List UInt8} {p : Nat} {bad : Bool} {f : Nat} (h : Mrd w R tx p bad f) (m : Nat) : Mrd (w.drewN m) R tx p bad f := h
theorem only_drewN (R : Nat) (w : World) (m : Nat) : Only R w (w.drewN m) := ⟨rfl, rfl, rfl, Nat.le_refl _, fun _ _ _ => rfl⟩

set_option maxRecDepth 100000 in
set_option maxHeartbeats 1600000 in
theorem is_any (R p f : Nat) (tx : List UInt8) (bad : Bool) (c : UInt8) (w : World) (hp : p ≤ 8388608) (h : Mrd w R tx p bad f) :
    Calls Try.prog 98 #[.pointer (some ⟨R, 0, none⟩), .int .u8 c.toNat] w fun e w' => e = .returned (.tuple #[]) ∧ Mrd w' R tx (p + 1) (bad || !seesB tx p c) f ∧ Only R w w' := by
  have d1 : w.cell? ⟨R, 1, none⟩ = some (.int .i64 p) := Blk.cell h 1
  have d2 : w.cell? ⟨R, 2, none⟩ = some (.bool bad) := Blk.cell h 2
  have f1 := Blk.frozen h 1
  have f2 := Blk.frozen h 2
  have e1 : ((p + 1 : Nat) : Int) = (p : Int) + 1 := by omega
  cases bad with
  | true =>
    have k1 := Blk.set_ h 2 (.bool true)
    have g1 : (w.setCell ⟨R, 2, none⟩ (.bool true)).cell? ⟨R, 1, none⟩ = some (.int .i64 p) := k1.cell 1
    have n1 := k1.frozen 1
    have HK := Lib.hid (k1.set_ 1 (.int .i64 ((p : Int) + 1)))
    clear h k1
    go_enter Try.func98, Try.ntmps98
    go_wp2_with fail
    go_end0
    refine ⟨rfl, ?_, (Only.set R w 2 _).trans (Only.set R _ 1 _)⟩
    unfold Mrd
    rw [e1]; exact HK.out
  | false =>
    have HS := Lib.hid (sees_any R p f tx false c w h)
    obtain ⟨sb, hsb⟩ : ∃ sb, sb = seesB tx p c := ⟨_, rfl⟩
    rw [← hsb] at HS ⊢
    have H := Lib.hid h
    clear h hsb d1 d2 f1 f2
    have d2 : w.cell? ⟨R, 2, none⟩ = some (.bool false) := Blk.cell H.out 2
    go_enter Try.func98, Try.ntmps98
    go_wp2_with fail
    refine HS.out.mono ?_
    rintro e w1 ⟨rfl, m, rfl⟩
    have h1 := H.out.drewN m
    have f2 : (w.drewN m).frozen? ⟨R, 2, none⟩ = false := Blk.frozen h1 2
    have c2 : (w.drewN m).cell? ⟨R, 2, none⟩ = some (.bool false) := Blk.cell h1 2
    have k1 := Blk.set_ h1 2 (.bool (!sb))
    have g1 : ((w.drewN m).setCell ⟨R, 2, none⟩ (.bool (!sb))).cell? ⟨R, 1, none⟩ = some (.int .i64 p) := k1.cell 1
    have n1 := k1.frozen 1
    have HK := Lib.hid (k1.set_ 1 (.int .i64 ((p : Int) + 1)))
    have HO := Lib.hid (((only_drewN R w m).trans (Only.set R _ 2 (.bool (!sb)))).trans (Only.set R _ 1 (.int .i64 ((p : Int) + 1))))
    clear h1 k1
    go_wp2_with fail
    go_end0
    refine ⟨rfl, ?_, HO.out⟩
    unfold Mrd
    rw [e1]; exact HK.out

/-- The digit that is read next. -/
def digAt (tx : List UInt8) (p : Nat) : Option Nat := match tx[p]? with | some c => if 48 ≤ c.toNat ∧ c.toNat ≤ 57 then some (c.toNat - 48) else none | none => none

set_option maxRecDepth 100000 in
set_option maxHeartbeats 1600000 in
theorem mdigit_any (R p f : Nat) (tx : List UInt8) (w : World) (hp : p ≤ 1048576) (h : Mrd w R tx p false f) :
    Calls Try.prog 85 #[.pointer (some ⟨R, 0, none⟩)] w fun e w' => Only R w w' ∧
      match digAt tx p with
      | some n => e = .returned (.int .i64 n) ∧ Mrd w' R tx (p + 1) false f
      | none => e = .returned (.int .i64 0) ∧ Mrd w' R tx p true f := by
  have c0 := Blk.cell h 0
  obtain ⟨x, hx⟩ : ∃ x, x = tb tx := ⟨_, rfl⟩
  have hxz : x.size = tx.length := by rw [hx, tb_size]
  have hxd : x.data.toList = tx := by rw [hx, tb_data]
  have d0 : w.cell? ⟨R, 0, none⟩ = some (.string x) := by rw [hx]; exact c0
  have d1 : w.cell? ⟨R, 1, none⟩ = some (.int .i64 p) := Blk.cell h 1
  have d2 : w.cell? ⟨R, 2, none⟩ = some (.bool false) := Blk.cell h 2
  have f2 := Blk.frozen h 2
  have H := Lib.hid h
  clear c0 h
  by_cases hlt : p < x.size
  · have hb := byte_at x p hlt
    have hget : tx[p]? = some x[p] := by rw [← hxd]; exact hb
    have q0 : ¬ x.size ≤ p := by omega
    have q1 : decide ((x.size : Int) ≤ (p : Int)) = false := decide_eq_false (by omega)
    have s0 : IntKind.i64.wrap (x[p].toNat : Int) = (x[p].toNat : Int) := IntWalk.i64_in _ (by have := UInt8.toNat_lt x[p]; omega)
    have tC := fun n => Calls.quiet_of_same ((in_any (x[p].toNat : Int) 48 57 (w.drewN n)).mono fun _ _ ⟨a, b⟩ => ⟨a, b.symm⟩)
    obtain ⟨ib, hib⟩ : ∃ ib, ib = inB (x[p].toNat : Int) 48 57 := ⟨_, rfl⟩
    rw [← hib] at tC
    cases ib with
    | false =>
      have hd : digAt tx p = none := by
        unfold digAt
        rw [hget]
        show (if 48 ≤ (x[p]).toNat ∧ (x[p]).toNat ≤ 57 then some ((x[p]).toNat - 48) else none) = none
        rw [if_neg]
        intro q
        unfold inB at hib
        rw [decide_eq_true (by omega : (48 : Int) ≤ (x[p].toNat : Int)), decide_eq_true (by omega : (x[p].toNat : Int) ≤ 57)] at hib
        cases hib
      rw [hd]
      have HK := Lib.hid (fun m => Blk.set_ (H.out.drewN m) 2 (.bool true))
      have HF := Lib.hid (fun m => Blk.frozen (H.out.drewN m) 2)
      clear hb hget hib hxz hxd hd hx
      go_enter Try.func85, Try.ntmps85
      go_wp2_with fail
      go_quiet (with_reducible exact tC _)
      have f9 := HF.out nq
      clear tC
      go_wp2_with fail
      go_ret
      exact ⟨(only_drewN R w nq).trans (Only.set R _ 2 _), rfl, HK.out nq⟩
    | true =>
      have hr : 48 ≤ (x[p]).toNat ∧ (x[p]).toNat ≤ 57 := by
        have h9 := hib.symm
        unfold inB at h9
        have := Bool.and_eq_true_iff.1 h9
        have a := of_decide_eq_true this.1
        have b := of_decide_eq_true this.2
        omega
      have hd : digAt tx p = some ((x[p]).toNat - 48) := by
        unfold digAt
        rw [hget]
        show (if 48 ≤ (x[p]).toNat ∧ (x[p]).toNat ≤ 57 then some ((x[p]).toNat - 48) else none) = _
        rw [if_pos hr]
      rw [hd]
      have e1 : ((p + 1 : Nat) : Int) = (p : Int) + 1 := by omega
      have s1 : IntKind.i64.wrap ((p : Int) + 1 - 1) = (p : Int) := by rw [show (p : Int) + 1 - 1 = (p : Int) by omega]; exact IntWalk.i64_in _ (by omega)
      have s2 : (p : Int) + 1 - 1 = (p : Int) := by omega
      have HR := Lib.hid (show (x[p].toNat : Int) - 48 = ((x[p].toNat - 48 : Nat) : Int) by omega)
      have s3 : IntKind.i64.wrap ((x[p].toNat : Int) - 48) = (x[p].toNat : Int) - 48 := IntWalk.i64_in _ (by omega)
      have HK := Lib.hid (fun m => Blk.set_ (H.out.drewN m) 1 (.int .i64 ((p : Int) + 1)))
      have HF := Lib.hid (fun m => Blk.frozen (H.out.drewN m) 1)
      clear hb hget hib hxz hxd hd hx f2
      go_enter Try.func85, Try.ntmps85
      go_wp2_with fail
      go_quiet (with_reducible exact tC _)
      have f9 := HF.out nq
      have k9 := HK.out nq
      have c90 : ((w.drewN nq).setCell ⟨R, 1, none⟩ (.int .i64 ((p : Int) + 1))).cell? ⟨R, 0, none⟩ = some (.string x) := by
        have := (World.cell?_setCell_other (w.drewN nq) ⟨R, 1, none⟩ ⟨R, 0, none⟩ (.int .i64 ((p : Int) + 1)) (fun e => by injection e with _ e2 _; exact absurd e2 (by decide)))
        rw [this]; exact d0
      have c91 : ((w.drewN nq).setCell ⟨R, 1, none⟩ (.int .i64 ((p : Int) + 1))).cell? ⟨R, 1, none⟩ = some (.int .i64 ((p : Int) + 1)) := k9.cell 1
      have HK9 := Lib.hid k9
      clear tC k9
      go_wp2_with fail
      have HO9 := Lib.hid ((only_drewN R w nq).trans (Only.set R (w.drewN nq) 1 (.int .i64 ((p : Int) + 1))))
      generalize hw9 : (w.drewN nq).setCell ⟨R, 1, none⟩ (.int .i64 ((p : Int) + 1)) = w9 at *
      clear d0 d1 d2 f9 hw9
      go_quiet (fail)
      go_wp2_with fail
      go_ret
      refine ⟨HO9.out.trans (only_drewN R w9 _), ret_int HR.out, ?_⟩
      unfold Mrd
      rw [e1]; exact HK9.out
  · have hd : digAt tx p = none := by unfold digAt; rw [List.getElem?_eq_none (by omega)]
    rw [hd]
    have HK := Lib.hid (fun m => Blk.set_ (H.out.drewN m) 2 (.bool true))
    have HF := Lib.hid (fun m => Blk.frozen (H.out.drewN m) 2)
    have q0 : x.size ≤ p := by omega
    have q1 : decide ((x.size : Int) ≤ (p : Int)) = true := decide_eq_true (by omega)
    clear hxz hxd hd hx
    go_enter Try.func85, Try.ntmps85
    go_wp2_with fail
    go_quiet (fail)
    have f9 := HF.out nq
    go_wp2_with fail
    go_ret
    exact ⟨(only_drewN R w nq).trans (Only.set R _ 2 _), rfl, HK.out nq⟩
end Go.Proofs.Ytelhogeaobofpaa
