import Derived.Test.YtlkfakdghjaoaaaGreatDoorJ3
import Derived.Test.YtlkfakdghjaoaaaGreatDoorItemsOf
import Derived.Deep.AppendLies
import Derived.Deep.DeepCutAuto
import Derived.BigQuiet
import Derived.Deep.RegionHeld3
import Derived.Deep.RegionLaw
import Derived.Deep.QuietTactic
set_option maxRecDepth 100000
set_option maxHeartbeats 3200000
namespace Go.Proofs.YtlkfakdghjaoaaaGreatDoor
open Go.RowKit Go.Sort
def dF (R f : Nat) (tx : List UInt8) (p : Nat) (w : World) (e : Ending) (w' : World) : Prop :=
 (∃ i p' A n k, RdI f (tx.drop p) i (tx.drop p') ∧ p < p' ∧ p' ≤ tx.length ∧ e = .returned (.agg #[.int .u8 (dn i).toNat, .string (tb (et i)), .int .i64 (fJ i), .slice A n k]) ∧ MBodAt w' (bi w) i (.slice A n k) ∧ Mrd w' R tx p' false f ∧ Only R w w') ∨
 (∃ (kd : Nat) (b : ByteArray) (z : Int) (A : Option Addr) (n k p' : Nat), dB f (tx.drop p) ∧ p' + 3 * p ≤ 4 * tx.length + 4 ∧ e = .returned (.agg #[.int .u8 kd, .string b, .int .i64 z, .slice A n k]) ∧ Mrd w' R tx p' true f ∧ Only R w w')
def AW (R f : Nat) (tx : List UInt8) (p : Nat) (c : UInt8) (w : World) (e : Ending) (w' : World) : Prop :=
 (∃ l p' v, az l f ∧ tx.drop p = aH l ++ tx.drop p' ∧ p ≤ p' ∧ p' ≤ tx.length ∧ rr c (tx.drop p') ∧ e = .returned v ∧ MRowAt w' (bi w) l v ∧ Mrd w' R tx p' false f ∧ Only R w w') ∨
 (∃ A n k p', DU c f (tx.drop p) ∧ p' + 3 * p ≤ 4 * tx.length + 4 ∧ e = .returned (.slice A n k) ∧ Mrd w' R tx p' true f ∧ Only R w w')
def yq (n : Nat) : Prop := ∀ (R f : Nat) (tx : List UInt8) (p : Nat) (w : World), tx.length - p ≤ n → p < tx.length → tx.length ≤ 1048576 → f ≤ 9 → Mrd w R tx p false f →
 Calls Tryz.prog 197 #[.pointer (some ⟨R, 0, none⟩)] w (dF R f tx p w)
def eV (n : Nat) : Prop := ∀ (R f : Nat) (tx : List UInt8) (p : Nat) (c : UInt8) (w : World), tx.length - p ≤ n → p ≤ tx.length → tx.length ≤ 1048576 → f ≤ 9 → Mrd w R tx p false f →
 Calls Tryz.prog 157 #[.pointer (some ⟨R, 0, none⟩), .int .u8 c.toNat] w (AW R f tx p c w)
theorem pa : (Tryz.prog.info? 172).map (fun i => (i.zero, i.size, i.bytes)) = some (some (.agg #[.int .u8 0, .string ⟨#[]⟩, .int .i64 0, .slice none 0 0]), 4, 56) := by kernel_rfl
theorem ig : (Tryz.prog.info? 165).map (fun i => (i.zero, i.size, i.bytes)) = some (some (.slice none 0 0), 1, 24) := by kernel_rfl
theorem AX {w : World} {base : Nat} {e : TypeId} {size : Nat} {v : Value} {n : Nat} {xs : List Value} (h : w.ownsRow base e size v n xs) : ∃ A k, v = .slice A n k := by
 rcases h.2 with ⟨rfl, h0⟩ | ⟨gb, cap, cur, hv, _⟩
 ·exact ⟨none, 0, by rw [h0]⟩
 ·exact ⟨_, _, hv⟩
theorem AY {w : World} {base : Nat} {e : TypeId} {size : Nat} {v : Value} {n : Nat} {xs : List Value} (h : w.ownsRow base e size v n xs) (m : Nat) : (w.drewN m).ownsRow base e size v n xs := h
theorem sV (R f p : Nat) (tx : List UInt8) (c : UInt8) (w : World) (h : Mrd w R tx p true f) :
  Calls Tryz.prog 157 #[.pointer (some ⟨R, 0, none⟩), .int .u8 c.toNat] w fun e w' => ∃ A n k, e = .returned (.slice A n k) ∧ Mrd w' R tx p true f ∧ Only R w w' := by
 have h1 := Blk.alloc h (.cells #[] 172)
 have d2 : (w.alloc (.cells #[] 172)).cell? ⟨R, 2, none⟩ = some (.bool true) := Blk.cell h1 2
 have H1 := GR h1
 clear h h1
 go_enter Tryz.func157, Tryz.ntmps157
 go_wp2_with fail
 go_loopg [5] 0 (fun gk pv wr => pv = .slice (some ⟨w.heap.size, 0, none⟩) 0 0 ∧ wr = w.alloc (.cells #[] 172))
 case atStart => exact ⟨rfl, rfl⟩
 case round =>
  obtain ⟨rfl, rfl⟩ := hrel
  go_wp2_with fail
  go_quiet (fail)
  go_wp2_with fail
  go_ret
  exact ⟨_, _, _, rfl, H1.out, ((Only.refl R w).alloc _).trans (c8 R _ _)⟩
theorem sW (n : Nat) (HI : yq n) : eV n := by
 intro R f tx p c w hn hp htx hf h
 obtain ⟨i0, hi, hz0, hz1, hz2⟩ := info_parts pa
 have HIX := GR HI
 have hR := h.lt
 obtain ⟨x, hx⟩ : ∃ x, x = tb tx := ⟨_, rfl⟩
 have hxz : x.size = tx.length := by rw [hx, aB]
 have hxd : x.data.toList = tx := by rw [hx, aI]
 have HR0 : Hid (Mrd (w.alloc (.cells #[] 172)) R tx p false f) := Blk.alloc h (.cells #[] 172)
 have HX := GR hx
 have HXZ := GR hxz
 have HXD := GR hxd
 have hpx : p ≤ x.size := by omega
 have htx2 : x.size ≤ 1048576 := by omega
 clear HI h hx hxz hxd
 go_enter Tryz.func157, Tryz.ntmps157
 go_wp2_with fail
 have HO0 := GR (World.ownsRow_made (base := w.heap.size) (e := 172) (size := 4) w #[] 0 (Nat.le_refl _) (Nat.zero_le _) rfl)
 go_loopg [5] (tx.length + 1 - p) (fun gk pv wr =>
  (∃ (l : List It) (q : Nat) (vs : List Value) (pv' : Value), gk = tx.length + 1 - q ∧ pv' = pv ∧ p ≤ q ∧ q ≤ tx.length ∧ l.length + p ≤ q ∧ Hid (tX f (tx.drop p) l (tx.drop q)) ∧ Hid (wr.ownsRow w.heap.size 172 4 pv l.length vs) ∧ Hid (MAllAt wr (dc w.heap.size pv) l vs) ∧ Hid (Mrd wr R tx q false f) ∧ Hid (Only R w wr)) ∨
  (∃ A m k q, gk = 0 ∧ pv = .slice A m k ∧ q + 3 * p ≤ 4 * tx.length + 4 ∧ Hid (DU c f (tx.drop p)) ∧ Hid (Mrd wr R tx q true f) ∧ Hid (Only R w wr)))
 case atStart => exact .inl ⟨[], p, [], _, rfl, rfl, Nat.le_refl _, hp, by simp, tY f _, HO0.out, MAllAt.nil _ _, HR0.out, (Only.refl R w).alloc _⟩
 case round =>
  rcases hrel with ⟨l, q, vs, pv, rfl, rfl, hpq, hq, hlq, HS, HOW, HAT, HR, HO⟩ | ⟨A, m, k, q, rfl, rfl, hq, HNL, HR, HO⟩
  ·have d0 : wr.cell? ⟨R, 0, none⟩ = some (.string x) := by rw [HX.out]; exact Blk.cell HR.out 0
   have d1 : wr.cell? ⟨R, 1, none⟩ = some (.int .i64 q) := Blk.cell HR.out 1
   have d2 : wr.cell? ⟨R, 2, none⟩ = some (.bool false) := Blk.cell HR.out 2
   have hqx : q ≤ x.size := by have := HXZ.out; omega
   by_cases hlt : q < x.size
   ·have hb := aF x q hlt
    have hget : tx[q]? = some x[q] := by rw [← HXD.out]; exact hb
    have hdq := aR hget
    have q1 : decide ((q : Int) < (x.size : Int)) = true := decide_eq_true (by omega)
    by_cases hbc : x[q] = c
    ·have q2 : ((x[q].toNat : Int) != (c.toNat : Int)) = false := by rw [hbc]; simp
     have HH := GR (show rr c (tx.drop q) from .inr ⟨_, by rw [hdq, hbc]⟩)
     clear hb hget hdq hbc
     go_wp2_with fail
     go_quiet (fail)
     go_wp2_with fail
     go_ret
     have ho := rq HOW.out HAT.out.len
     refine .inl ⟨l, q, _, HS.out.1, HS.out.2.1, hpq, hq, HH.out, rfl, ⟨vs, ?_, ?_⟩, HR.out, HO.out.trans (c8 R _ _)⟩
     ·exact ho
     ·exact MAllAt.stay (w := wr) (P := dc w.heap.size pv) (w' := wr.drewN nq) (P' := bi w) ⟨Nat.le_refl _, fun b _ hp => ⟨hp.1, rfl⟩⟩ l vs HAT.out
    ·have q2 : ((x[q].toNat : Int) != (c.toNat : Int)) = true := by have := dI hbc; simp only [bne, this]; rfl
     have HNE := GR (show ¬ EndAt c (tx.drop q) from fun e => by
      rcases e with e | ⟨_, t, e⟩
      ·rw [hdq] at e; cases e
      ·rw [hdq] at e; exact hbc (List.cons.inj e).1)
     clear hb hget hdq hbc
     go_wp2_with fail
     go_quiet (fail)
     have HIT := GR (HIX.out R f tx q (wr.drewN nq) (by omega) (by have := HXZ.out; omega) htx hf (HR.out.drewN nq))
     have HO1 := GR (HO.out.trans (c8 R wr nq))
     have HOW1 : Hid ((wr.drewN nq).ownsRow w.heap.size 172 4 pv l.length vs) := AY HOW.out nq
     have HAT1 : Hid (MAllAt (wr.drewN nq) (dc w.heap.size pv) l vs) := MAllAt.stay (w := wr) (w' := wr.drewN nq) ⟨Nat.le_refl _, fun b _ hp => ⟨hp, rfl⟩⟩ l vs HAT.out
     generalize wr.drewN nq = w1 at *
     clear d0 d1 d2
     go_wp2_with fail
     refine HIT.out.mono ?_
     rintro e w2 (⟨i, p', A, m, k, hrd, hqp, hpl, rfl, hit, hr2, ho2⟩ | ⟨kd, b, z, A, m, k, p', hno, hfar, rfl, hr2, ho2⟩)
     ·have HOW2 := GR (ek HOW1.out ho2 hR)
      have HRD := GR hrd
      have hsz2 := ho2.size
      have hown := HOW1.out.lt
      have HIT2 : Hid (MBodAt w2 (dc w.heap.size pv) i (.slice A m k)) := MBodAt.stay ⟨Nat.le_refl _, fun b _ hp => ⟨⟨Nat.le_trans HO1.out.size hp, fun e => by have := (hown b e.symm).2; have hp' : w1.heap.size ≤ b := hp; omega⟩, rfl⟩⟩ i _ hit
      have HAT2 : Hid (MAllAt w2 (dc w.heap.size pv) l vs) := MAllAt.stay ⟨hsz2, fun b hb hp => ⟨hp, ho2.block b (by have := hp.1; omega) hb⟩⟩ l vs HAT1.out
      have HR2 := GR hr2
      have HO2 := GR (HO1.out.trans ho2)
      have hll : l.length ≤ 1048576 := by omega
      have hbs := HO1.out.size
      clear hrd hit hr2 ho2
      go_wp2_with (at_builtin; go_loud (refine wpList_append_own_at _ rfl _ _ 165 rfl w.heap.size 172 i0 _ 4 56 Tryz.underlying165 hi hz0 hz1 hz2 rfl (by decide) _ _ _ rfl (HOW2.out.alloc _) ⟨w2.heap.size, 0, none⟩ 1 1 [.int .u8 (dn i).toNat, .string (tb (et i)), .int .i64 (fJ i), .slice A m k] rfl rfl ?c1 ?c2 ?c3 ?c4 ?c5 ?_))
      case c1 => exact World.news_of_block (cs := #[.int .u8 (dn i).toNat, .string (tb (et i)), .int .i64 (fJ i), .slice A m k]) (t := 172) (fr := (0, 0)) (heap_alloc_new w2 _)
      case c2 => simp [Value.oneCell']
      case c3 => unfold maxLen; omega
      case c4 => omega
      case c5 => simp; omega
      intro v' w5 hown' hgrow _ hat
      have hown2 := HOW2.out.lt
      have hG : w2.grownBy w5 pv.ownBlock := (World.grownBy_alloc w2 _ _).trans hgrow
      have HST : Stay w2 (dc w.heap.size pv) w5 (dc w.heap.size v') := ⟨hG.size, fun b hb hp => ⟨⟨hp.1, by
       rcases hat with q | q
       ·rw [q]; exact hp.2
       ·rw [q]; intro e; have := Option.some.inj e; first | omega | (rw [World.size_alloc] at this; omega) | (simp at this; omega)⟩, hG.block b hb hp.2⟩⟩
      have HAT5 := GR (MAllAt.stay HST _ _ (HAT2.out.snoc HIT2.out))
      have HR5 : Hid (Mrd w5 R tx p' false f) := (hG.block R HR2.out.lt (fun e => by have := (hown2 R e.symm).1; omega)).trans HR2.out
      have HO5 := GR (HO2.out.grown hG fun k e => (hown2 k e).1)
      have HOW5 : Hid (w5.ownsRow w.heap.size 172 4 v' (l ++ [i]).length (vs ++ gi i (.slice A m k))) := by
       show w5.ownsRow _ _ _ _ _ _
       rw [List.length_append, List.length_singleton]; exact hown'
      have HS5 := GR (wR HS.out HRD.out)
      have hl5 : (l ++ [i]).length + p ≤ p' := by rw [List.length_append, List.length_singleton]; omega
      clear hown2 hG HST hgrow hat hown'
      go_wp2_with fail
      go_roundg (tx.length + 1 - p')
      case measure => omega
      case rel => exact .inl ⟨l ++ [i], p', vs ++ gi i (.slice A m k), v', rfl, rfl, by omega, hpl, hl5, HS5.out, HOW5.out, HAT5.out, HR5.out, HO5.out⟩
     ·have HOW2 := GR (ek HOW1.out ho2 hR)
      have HR2 := GR hr2
      have HO2 := GR (HO1.out.trans ho2)
      have HNL := GR (Fd HS.out HNE.out hno)
      have hll : l.length ≤ 1048576 := by omega
      have hbs := HO1.out.size
      have hsz2 := ho2.size
      clear hr2 ho2 hno
      go_wp2_with (at_builtin; go_loud (refine wpList_append_own_at _ rfl _ _ 165 rfl w.heap.size 172 i0 _ 4 56 Tryz.underlying165 hi hz0 hz1 hz2 rfl (by decide) _ _ _ rfl (HOW2.out.alloc _) ⟨w2.heap.size, 0, none⟩ 1 1 [.int .u8 kd, .string b, .int .i64 z, .slice A m k] rfl rfl ?c1 ?c2 ?c3 ?c4 ?c5 ?_))
      case c1 => exact World.news_of_block (cs := #[.int .u8 kd, .string b, .int .i64 z, .slice A m k]) (t := 172) (fr := (0, 0)) (heap_alloc_new w2 _)
      case c2 => simp [Value.oneCell']
      case c3 => unfold maxLen; omega
      case c4 => omega
      case c5 => simp; omega
      intro v' w5 hown' hgrow _ hat
      have hown2 := HOW2.out.lt
      have hG : w2.grownBy w5 pv.ownBlock := (World.grownBy_alloc w2 _ _).trans hgrow
      have HR5 : Hid (Mrd w5 R tx p' true f) := (hG.block R HR2.out.lt (fun e => by have := (hown2 R e.symm).1; omega)).trans HR2.out
      have HO5 := GR (HO2.out.grown hG fun k e => (hown2 k e).1)
      obtain ⟨A5, k5, rfl⟩ := AX hown'
      clear hown2 hG hgrow hat hown'
      go_wp2_with fail
      go_roundg 0
      case measure => have := HXZ.out; omega
      case rel => exact .inr ⟨A5, _, k5, p', rfl, rfl, by omega, HNL.out, HR5.out, HO5.out⟩
   ·have hqe : q = tx.length := by have := HXZ.out; omega
    have q1 : decide ((q : Int) < (x.size : Int)) = false := decide_eq_false (by omega)
    have HH := GR (show rr c (tx.drop q) from .inl (List.drop_eq_nil_of_le (by omega)))
    have hql : q ≤ tx.length := hq
    clear hqe
    go_wp2_with fail
    go_quiet (fail)
    go_wp2_with fail
    go_ret
    have ho := rq HOW.out HAT.out.len
    refine .inl ⟨l, q, _, HS.out.1, HS.out.2.1, hpq, hql, HH.out, rfl, ⟨vs, ?_, ?_⟩, HR.out, HO.out.trans (c8 R _ _)⟩
    ·exact ho
    ·exact MAllAt.stay (w := wr) (P := dc w.heap.size pv) (w' := wr.drewN nq) (P' := bi w) ⟨Nat.le_refl _, fun b _ hp => ⟨hp.1, rfl⟩⟩ l vs HAT.out
  ·have d2 : wr.cell? ⟨R, 2, none⟩ = some (.bool true) := Blk.cell HR.out 2
   go_wp2_with fail
   go_quiet (fail)
   go_wp2_with fail
   go_ret
   exact .inr ⟨A, m, k, q, HNL.out, hq, rfl, HR.out, HO.out.trans (c8 R _ _)⟩
end Go.Proofs.YtlkfakdghjaoaaaGreatDoor
namespace Go.Proofs.YtlkfakdghjaoaaaGreatDoor
open Go.RowKit Go.Sort
def AZ (R f : Nat) (tx : List UInt8) (p : Nat) (b c : UInt8) (w : World) (e : Ending) (w' : World) : Prop :=
 (∃ l p' A n k, az l f ∧ tx.drop p = b :: (aH l ++ c :: tx.drop p') ∧ p < p' ∧ p' ≤ tx.length ∧ e = .returned (.slice A n k) ∧ MRowAt w' (bi w) l (.slice A n k) ∧ Mrd w' R tx p' false f ∧ Only R w w') ∨
 (∃ A n k p', (∀ l r, az l f → tx.drop p ≠ b :: (aH l ++ c :: r)) ∧ p' + 3 * p ≤ 4 * tx.length + 2 ∧ e = .returned (.slice A n k) ∧ Mrd w' R tx p' true f ∧ Only R w w')
theorem pb (R f p : Nat) (tx : List UInt8) (b c : UInt8) (w : World) (hp : p ≤ 8388600) (h : Mrd w R tx p true f) :
  Calls Tryz.prog 216 #[.pointer (some ⟨R, 0, none⟩), .int .u8 b.toNat, .int .u8 c.toNat] w fun e w' => ∃ A n k, e = .returned (.slice A n k) ∧ Mrd w' R tx (p + 2) true f ∧ Only R w w' := by
 have H1 := GR (oh R p f tx true b w (by omega) h)
 have H2 := GR (fun W (k : Mrd W R tx (p + 1) true f) => sV R f (p + 1) tx c W k)
 have H3 := GR (fun W (k : Mrd W R tx (p + 1) true f) => oh R (p + 1) f tx true c W (by omega) k)
 clear h
 go_enter Tryz.func216, Tryz.ntmps216
 go_wp2_with fail
 refine H1.out.mono ?_
 rintro e w1 ⟨rfl, k1, o1⟩
 have K1 := GR k1
 have O1 := GR o1
 clear k1 o1
 go_wp2_with fail
 refine (H2.out _ (by have := K1.out; simpa using this)).mono ?_
 rintro e w2 ⟨A, n, k, rfl, k2, o2⟩
 have K2 := GR k2
 have O2 := GR o2
 clear k2 o2
 go_wp2_with fail
 refine (H3.out _ K2.out).mono ?_
 rintro e w3 ⟨rfl, k3, o3⟩
 have K3 := GR k3
 have O3 := GR o3
 clear k3 o3
 go_wp2_with fail
 go_ret
 exact ⟨A, n, k, rfl, by have := K3.out; simpa using this, (O1.out.trans O2.out).trans O3.out⟩
theorem rT {tx : List UInt8} {p : Nat} {c : UInt8} (h : fO tx p c = true) : tx[p]? = some c := of_decide_eq_true h
theorem pO {tx : List UInt8} {p : Nat} {c : UInt8} (h : fO tx p c = false) : tx[p]? ≠ some c := of_decide_eq_false h
theorem A7 {tx : List UInt8} {p : Nat} {c : UInt8} (hp : p ≤ tx.length) (h : fO tx p c = false) (hh : rr c (tx.drop p)) : p = tx.length := by
 rcases hh with hh | ⟨t, hh⟩
 ·have := congrArg List.length hh
  simp at this; omega
 ·exact absurd (ba hh).2.2 (pO h)
theorem pc (n : Nat) (HB : eV n) (R f p : Nat) (tx : List UInt8) (b c : UInt8) (w : World) (hc : c = 41 ∨ c = 125 ∨ c = 93) (hn : tx.length - p ≤ n + 1) (hp : p ≤ tx.length) (htx : tx.length ≤ 1048576) (hf : f ≤ 9) (h : Mrd w R tx p false f) :
  Calls Tryz.prog 216 #[.pointer (some ⟨R, 0, none⟩), .int .u8 b.toNat, .int .u8 c.toNat] w (AZ R f tx p b c w) := by
 have H1 := GR (oh R p f tx false b w (by omega) h)
 have hR := h.lt
 have HBX := GR HB
 clear h HB
 cases hs : fO tx p b with
 | false =>
  rw [hs] at H1
  have H2 := GR (fun W (k : Mrd W R tx (p + 1) true f) => sV R f (p + 1) tx c W k)
  have H3 := GR (fun W (k : Mrd W R tx (p + 1) true f) => oh R (p + 1) f tx true c W (by omega) k)
  have HNO := GR (show ∀ l r, az l f → tx.drop p ≠ b :: (aH l ++ c :: r) from fun l r _ e => pO hs (ba e).2.2)
  clear hs hc
  go_enter Tryz.func216, Tryz.ntmps216
  go_wp2_with fail
  refine H1.out.mono ?_
  rintro e w1 ⟨rfl, k1, o1⟩
  have K1 := GR k1
  have O1 := GR o1
  clear k1 o1
  go_wp2_with fail
  refine (H2.out _ (by have := K1.out; simpa using this)).mono ?_
  rintro e w2 ⟨A, m, k, rfl, k2, o2⟩
  have K2 := GR k2
  have O2 := GR o2
  clear k2 o2
  go_wp2_with fail
  refine (H3.out _ K2.out).mono ?_
  rintro e w3 ⟨rfl, k3, o3⟩
  have K3 := GR k3
  have O3 := GR o3
  clear k3 o3
  go_wp2_with fail
  go_ret
  exact .inr ⟨A, m, k, p + 2, HNO.out, by omega, rfl, by have := K3.out; simpa using this, (O1.out.trans O2.out).trans O3.out⟩
 | true =>
  rw [hs] at H1
  have hget := rT hs
  have hd := aR hget
  have hlt := (ba hd).1
  have HD := GR hd
  have H2 := GR (fun W (k : Mrd W R tx (p + 1) false f) => HBX.out R f tx (p + 1) c W (by omega) (by omega) htx hf k)
  have H3 := GR (fun q bad W (hq : q ≤ 8388608) (k : Mrd W R tx q bad f) => oh R q f tx bad c W hq k)
  have HC := GR hc
  clear hs hc hget hd
  go_enter Tryz.func216, Tryz.ntmps216
  go_wp2_with fail
  refine H1.out.mono ?_
  rintro e w1 ⟨rfl, k1, o1⟩
  have K1 := GR k1
  have O1 := GR o1
  clear k1 o1
  go_wp2_with fail
  refine (H2.out _ (by have := K1.out; simpa using this)).mono ?_
  rintro e w2 (⟨l, q, v, hl, hdq, hpq, hq, hh, rfl, hrow, k2, o2⟩ | ⟨A, m, k, q, hno, hfar, rfl, k2, o2⟩)
  ·obtain ⟨xs, ⟨A, k, rfl, hx2⟩, hx3⟩ := hrow
   have HROW : Hid (MRowAt w2 (bi w1) l (.slice A l.length k)) := ⟨xs, ⟨A, k, rfl, hx2⟩, hx3⟩
   have HL := GR hl
   have HDQ := GR hdq
   have HH := GR hh
   have K2 := GR k2
   have O2 := GR o2
   clear hl hdq hh k2 o2 hx2 hx3
   go_wp2_with fail
   refine (H3.out q false _ (by omega) K2.out).mono ?_
   rintro e w3 ⟨rfl, k3, o3⟩
   have K3 := GR k3
   have O3 := GR o3
   clear k3 o3
   go_wp2_with fail
   go_ret
   cases hs2 : fO tx q c with
   | true =>
    have hd2 := aR (rT hs2)
    have hq2 := (ba hd2).1
    refine .inl ⟨l, q + 1, A, l.length, k, HL.out, by rw [HD.out, HDQ.out, hd2], by omega, by omega, rfl, ?_, by have := K3.out; rw [hs2] at this; simpa using this, (O1.out.trans O2.out).trans O3.out⟩
    refine (HROW.out.stay (?_ : Stay w2 (bi w1) w3 (bi w)))
    have h1 := O1.out.size
    exact ⟨O3.out.size, fun b hb hp => ⟨Nat.le_trans h1 hp, O3.out.block b (by have hp' : w1.heap.size ≤ b := hp; omega) hb⟩⟩
   | false =>
    have hqe := A7 hq hs2 HH.out
    refine .inr ⟨A, l.length, k, q + 1, fun l' r hl' e => ?_, by omega, rfl, by have := K3.out; rw [hs2] at this; simpa using this, (O1.out.trans O2.out).trans O3.out⟩
    rw [HD.out] at e
    have e2 := (List.cons.inj e).2
    rw [HDQ.out, hqe, List.drop_length] at e2
    have hce : Ends (c :: r) := by
     rcases HC.out with h | h | h <;> subst h
     ·exact .inr ⟨r, .inl rfl⟩
     ·exact .inr ⟨r, .inr (.inl rfl)⟩
     ·exact .inr ⟨r, .inr (.inr rfl)⟩
    have := (kU l l' f f [] (c :: r) HL.out hl' (.inl rfl) hce e2).2
    cases this
  ·have HNO := GR hno
   have K2 := GR k2
   have O2 := GR o2
   clear hno k2 o2
   go_wp2_with fail
   refine (H3.out q true _ (by omega) K2.out).mono ?_
   rintro e w3 ⟨rfl, k3, o3⟩
   have K3 := GR k3
   have O3 := GR o3
   clear k3 o3
   go_wp2_with fail
   go_ret
   refine .inr ⟨A, m, k, q + 1, fun l' r hl' e => ?_, by omega, rfl, by have := K3.out; simpa using this, (O1.out.trans O2.out).trans O3.out⟩
   rw [HD.out] at e
   exact HNO.out l' (c :: r) hl' (.inr ⟨HC.out, r, rfl⟩) (List.cons.inj e).2
def zx (R f : Nat) (tx : List UInt8) (p : Nat) (b : Bool) (w : World) (e : Ending) (w' : World) : Prop :=
 (∃ l p' A n k, f < 9 ∧ az l (f + 1) ∧ tx.drop p = eG b :: (aH l ++ gj b :: tx.drop p') ∧ p < p' ∧ p' ≤ tx.length ∧ e = .returned (.slice A n k) ∧ MRowAt w' (bi w) l (.slice A n k) ∧ Mrd w' R tx p' false f ∧ Only R w w') ∨
 (∃ A n k p', dB f (tx.drop p) ∧ p' + 3 * p ≤ 4 * tx.length + 2 ∧ e = .returned (.slice A n k) ∧ Mrd w' R tx p' true f ∧ Only R w w')
theorem ey {R : Nat} {w : World} (i : Nat) (u : Value) {w' : World} (h : Only R (w.setCell ⟨R, i, none⟩ u) w') : Only R w w' := (Only.set R w i u).trans h
theorem zy (n : Nat) (HB : eV n) (R f p : Nat) (tx : List UInt8) (b : Bool) (w : World) (hat : tx[p]? = some (eG b)) (hn : tx.length - p ≤ n + 1) (hp : p ≤ tx.length) (htx : tx.length ≤ 1048576) (hf : f ≤ 9) (h : Mrd w R tx p false f) :
  Calls Tryz.prog 217 #[.pointer (some ⟨R, 0, none⟩), .int .u8 (eG b).toNat, .int .u8 (gj b).toNat] w (zx R f tx p b w) := by
 have d3 : w.cell? ⟨R, 3, none⟩ = some (.int .i64 f) := Blk.cell h 3
 have f3 : w.frozen? ⟨R, 3, none⟩ = false := Blk.frozen h 3
 have k1 := Blk.set_ h 3 (.int .i64 ((f : Int) + 1))
 have d2' : (w.setCell ⟨R, 3, none⟩ (.int .i64 ((f : Int) + 1))).cell? ⟨R, 2, none⟩ = some (.bool false) := k1.cell 2
 have d3' : (w.setCell ⟨R, 3, none⟩ (.int .i64 ((f : Int) + 1))).cell? ⟨R, 3, none⟩ = some (.int .i64 ((f : Int) + 1)) := k1.cell 3
 have f2' := k1.frozen 2
 have e1 : ((f + 1 : Nat) : Int) = (f : Int) + 1 := by omega
 have hR := h.lt
 have hd := aR hat
 have s2 : IntKind.i64.wrap ((f : Int) + 1 - 1) = (f : Int) := by rw [show (f : Int) + 1 - 1 = (f : Int) by omega]; exact IntWalk.i64_in _ (by omega)
 have s3 : (f : Int) + 1 - 1 = (f : Int) := by omega
 by_cases h9 : f = 9
 ·have q1 : decide ((9 : Int) < (f : Int) + 1) = true := decide_eq_true (by omega)
  have k2 := k1.set_ 2 (.bool true)
  have HK : Hid (Mrd ((w.setCell ⟨R, 3, none⟩ (.int .i64 ((f : Int) + 1))).setCell ⟨R, 2, none⟩ (.bool true)) R tx p true (f + 1)) := by
   show Mrd _ _ _ _ _ _
   unfold Mrd
   rw [e1]; exact k2
  have HW := GR (pb R (f + 1) p tx (eG b) (gj b) _ (by omega) HK.out)
  have HNO := GR (show dB f (tx.drop p) by rw [hd]; exact lU b (by omega))
  have H9 := GR h9
  have HE := GR e1
  have hf1 : (9 : Int) < (f : Int) + 1 := by omega
  clear h k1 k2 HB h9 hat hd e1
  go_enter Tryz.func217, Tryz.ntmps217
  go_wp2_with fail
  refine HW.out.mono ?_
  rintro e w2 ⟨A, m, k, rfl, k2, o2⟩
  have c3 : w2.cell? ⟨R, 3, none⟩ = some (.int .i64 ((f : Int) + 1)) := by rw [← HE.out]; exact Blk.cell k2 3
  have g3 := Blk.frozen k2 3
  have K3 := GR (Blk.set_ k2 3 (.int .i64 (f : Int)))
  have O3 := GR ((ey _ _ (ey _ _ o2)).trans (Only.set R w2 3 (.int .i64 (f : Int))))
  clear k2 o2 d2' d3' f2' d3 f3
  go_wp2_with fail
  go_ret
  exact .inr ⟨A, m, k, p + 2, HNO.out, by omega, rfl, K3.out, O3.out⟩
 ·have q1 : decide ((9 : Int) < (f : Int) + 1) = false := decide_eq_false (by omega)
  have k2 := k1.set_ 2 (.bool false)
  have HK : Hid (Mrd ((w.setCell ⟨R, 3, none⟩ (.int .i64 ((f : Int) + 1))).setCell ⟨R, 2, none⟩ (.bool false)) R tx p false (f + 1)) := by
   show Mrd _ _ _ _ _ _
   unfold Mrd
   rw [e1]; exact k2
  have HW := GR (pc n HB R (f + 1) p tx (eG b) (gj b) _ (by cases b <;> simp [gj]) hn hp htx (by omega) HK.out)
  have HD := GR hd
  have HE := GR e1
  have hf1 : (f : Int) + 1 ≤ 9 := by omega
  clear h k1 k2 HB hat hd e1
  go_enter Tryz.func217, Tryz.ntmps217
  go_wp2_with fail
  refine HW.out.mono ?_
  rintro e w2 (⟨l, q, A, m, k, hl, hdq, hpq, hq, rfl, hrow, k2, o2⟩ | ⟨A, m, k, q, hno, hfar, rfl, k2, o2⟩)
  ·have c3 : w2.cell? ⟨R, 3, none⟩ = some (.int .i64 ((f : Int) + 1)) := by rw [← HE.out]; exact Blk.cell k2 3
   have g3 := Blk.frozen k2 3
   have K3 := GR (Blk.set_ k2 3 (.int .i64 (f : Int)))
   have O3 := GR ((ey _ _ (ey _ _ o2)).trans (Only.set R w2 3 (.int .i64 (f : Int))))
   have HL := GR hl
   have HDQ := GR hdq
   have HROW := GR hrow
   clear k2 o2 d2' d3' f2' d3 f3 hl hdq hrow
   go_wp2_with fail
   go_ret
   refine .inl ⟨l, q, A, m, k, by omega, HL.out, HDQ.out, hpq, hq, rfl, ?_, K3.out, O3.out⟩
   have h5 := HROW.out
   rw [eF, eF] at h5
   exact h5.stay (gP hR 3 _)
  ·have c3 : w2.cell? ⟨R, 3, none⟩ = some (.int .i64 ((f : Int) + 1)) := by rw [← HE.out]; exact Blk.cell k2 3
   have g3 := Blk.frozen k2 3
   have K3 := GR (Blk.set_ k2 3 (.int .i64 (f : Int)))
   have O3 := GR ((ey _ _ (ey _ _ o2)).trans (Only.set R w2 3 (.int .i64 (f : Int))))
   have HNO := GR (show dB f (tx.drop p) from fun i r hi _ e => by
    rw [HD.out] at e
    obtain ⟨l, _, _, hl⟩ := i5 b hi e
    exact hno l r hl.1 (by rw [HD.out, hl.2.2]))
   clear k2 o2 d2' d3' f2' d3 f3 hno
   go_wp2_with fail
   go_ret
   exact .inr ⟨A, m, k, q, HNO.out, hfar, rfl, K3.out, O3.out⟩
end Go.Proofs.YtlkfakdghjaoaaaGreatDoor
namespace Go.Proofs.YtlkfakdghjaoaaaGreatDoor
open Go.RowKit Go.Sort
theorem av {w : World} {B : Nat} {T : TypeId} {cs : Array Value} (h : Blk w B T cs) {R : Nat} (hne : B ≠ R) (i : Nat) (u : Value) : Blk (w.setCell ⟨R, i, none⟩ u) B T cs := (Below.heap_setCell w ⟨R, i, none⟩ u B hne).trans h
theorem A8 {x : ByteArray} {p : Nat} {c : UInt8} (h : p < x.size) (hx : x[p] = c) : x.extract p (p + 1) = tb [c] := by
 apply bg
 have hb := aF x p h
 rw [hx] at hb
 rw [← Lib.toList_data, Lib.extract_toList, aI, aR hb]
 simp
def dt (W : World) (Q : Nat) (a b c d : Value) : World := (((W.setCell ⟨Q, 0, none⟩ a).setCell ⟨Q, 1, none⟩ b).setCell ⟨Q, 2, none⟩ c).setCell ⟨Q, 3, none⟩ d
theorem bL {W : World} {Q : Nat} {T : TypeId} {z0 z1 z2 z3 : Value} (h : Blk W Q T #[z0, z1, z2, z3]) (a b c d : Value) : Blk (dt W Q a b c d) Q T #[a, b, c, d] := (((h.set_ 0 a).set_ 1 b).set_ 2 c).set_ 3 d
theorem bM {W : World} {Q B : Nat} {T : TypeId} {cs : Array Value} (h : Blk W B T cs) (hne : B ≠ Q) (a b c d : Value) : Blk (dt W Q a b c d) B T cs := av (av (av (av h hne 0 a) hne 1 b) hne 2 c) hne 3 d
theorem bj {R : Nat} {w W : World} {Q : Nat} (h : Only R w W) (hQ : w.heap.size ≤ Q) (a b c d : Value) : Only R w (dt W Q a b c d) := by
 refine ⟨h.os, h.tape, h.output, by simpa [dt] using h.size, fun k hk hlt => ?_⟩
 have hne : k ≠ Q := by omega
 have e : ∀ (V : World) (i : Nat) (u : Value), (V.setCell ⟨Q, i, none⟩ u).heap[k]? = V.heap[k]? := fun V i u => Below.heap_setCell V ⟨Q, i, none⟩ u k hne
 rw [dt, e, e, e, e]
 exact h.block k hk hlt
theorem Ba {W w : World} {Q : Nat} (hQ : w.heap.size = Q) (a b c d : Value) : Stay W (fun k => w.heap.size + 1 ≤ k) (dt W Q a b c d) (bi w) := by
 refine ⟨by simp [dt], fun k _ hp => ⟨show w.heap.size ≤ k by omega, ?_⟩⟩
 have hne : k ≠ Q := by omega
 have e : ∀ (V : World) (i : Nat) (u : Value), (V.setCell ⟨Q, i, none⟩ u).heap[k]? = V.heap[k]? := fun V i u => Below.heap_setCell V ⟨Q, i, none⟩ u k hne
 rw [dt, e, e, e, e]
theorem dW {R : Nat} {w W : World} (h : Below w.heap.size w W) : Only R w W := ⟨h.os, h.tape, h.output, h.size, fun k _ hlt => h.block k hlt⟩
theorem fd {R : Nat} {w W : World} {B : Nat} (h : Only R w W) (hB : w.heap.size ≤ B) (i : Nat) (u : Value) : Only R w (W.setCell ⟨B, i, none⟩ u) :=
 ⟨h.os, h.tape, h.output, by simpa using h.size, fun k hk hlt => (Below.heap_setCell W ⟨B, i, none⟩ u k (by show k ≠ B; omega)).trans (h.block k hk hlt)⟩
theorem Only.drew {R : Nat} {w W : World} (h : Only R w W) : Only R w W.drew := h.trans (c8 R W 1)
theorem cj {w w' : World} {B : Nat} {T : TypeId} {cs : Array Value} (h : Blk w B T cs) {R : Nat} (ho : Only R w w') (hne : B ≠ R) : Blk w' B T cs := (ho.block B hne h.lt).trans h
theorem qx {tx : List UInt8} {q n : Nat} (h : gw tx q = some n) : n < 10 ∧ q + 1 ≤ tx.length ∧ tx.drop q = dH n :: tx.drop (q + 1) := by
 unfold gw at h
 cases hg : tx[q]? with
 | none => rw [hg] at h; cases h
 | some c =>
  rw [hg] at h
  simp only at h
  by_cases hr : 48 ≤ c.toNat ∧ c.toNat ≤ 57
  ·rw [if_pos hr] at h
   have hn : c.toNat - 48 = n := Option.some.inj h
   have hd := aR hg
   refine ⟨by omega, (ba hd).1, ?_⟩
   rw [hd]
   congr 1
   apply UInt8.toNat_inj.1
   unfold dH
   simp
   omega
  ·rw [if_neg hr] at h; cases h
theorem qy {tx : List UInt8} {q : Nat} (h : gw tx q = none) : ∀ n u, n < 10 → tx.drop q ≠ dH n :: u := by
 intro n u hn e
 have hg := (ba e).2.2
 unfold gw at h
 rw [hg] at h
 simp only at h
 have hd : (dH n).toNat = 48 + n := by unfold dH; simp; omega
 rw [hd, if_pos (by omega)] at h
 cases h
structure Begun (w : World) (c : UInt8) (OB XB : Nat) (wx : World) : Prop where
 item : Blk wx OB 172 #[.int .u8 c.toNat, .string ⟨#[]⟩, .int .i64 0, .slice (some ⟨XB, 0, none⟩) 0 0]
 row : wx.ownsRow (w.heap.size + 1) 165 1 (.slice (some ⟨XB, 0, none⟩) 0 0) 0 []
 res : Blk wx w.heap.size 172 #[.int .u8 0, .string ⟨#[]⟩, .int .i64 0, .slice none 0 0]
 below : Below w.heap.size w wx
 ltO : w.heap.size < OB
 ltX : w.heap.size < XB
theorem fy (w : World) (c : UInt8) : Begun w c (w.heap.size + 1 + 1) (w.heap.size + 1) (((w.alloc (.cells #[.int .u8 0, .string ⟨#[]⟩, .int .i64 0, .slice none 0 0] 172)).alloc (.cells #[] 165)).alloc (.cells #[.int .u8 c.toNat, .string ⟨#[]⟩, .int .i64 0, .slice (some ⟨w.heap.size + 1, 0, none⟩) 0 0] 172)).drew := by
 refine ⟨?_, ?_, (((Blk.new w _ _).alloc _).alloc _).drew, ((((Below.refl _ w).alloc (Nat.le_refl _) _).alloc (by simp) _).alloc (by simp; omega) _).drew, by omega, by omega⟩
 ·have h := Blk.new ((w.alloc (.cells #[.int .u8 0, .string ⟨#[]⟩, .int .i64 0, .slice none 0 0] 172)).alloc (.cells #[] 165)) 172 #[.int .u8 c.toNat, .string ⟨#[]⟩, .int .i64 0, .slice (some ⟨w.heap.size + 1, 0, none⟩) 0 0]
  rw [World.size_alloc, World.size_alloc] at h
  exact h.drew
 ·have h := World.ownsRow_made (base := w.heap.size + 1) (e := 165) (size := 1) (w.alloc (.cells #[.int .u8 0, .string ⟨#[]⟩, .int .i64 0, .slice none 0 0] 172)) #[] 0 (by simp) (Nat.zero_le _) rfl
  rw [World.size_alloc] at h
  exact (h.alloc _).drew
theorem fA (w : World) (c : UInt8) : Begun w c (w.heap.size + 1) (w.heap.size + 1 + 1) (((w.alloc (.cells #[.int .u8 0, .string ⟨#[]⟩, .int .i64 0, .slice none 0 0] 172)).alloc (.cells #[.int .u8 c.toNat, .string ⟨#[]⟩, .int .i64 0, .slice (some ⟨w.heap.size + 1 + 1, 0, none⟩) 0 0] 172)).alloc (.cells #[] 165)).drew := by
 refine ⟨?_, ?_, (((Blk.new w _ _).alloc _).alloc _).drew, ((((Below.refl _ w).alloc (Nat.le_refl _) _).alloc (by simp) _).alloc (by simp; omega) _).drew, by omega, by omega⟩
 ·have h := Blk.new (w.alloc (.cells #[.int .u8 0, .string ⟨#[]⟩, .int .i64 0, .slice none 0 0] 172)) 172 #[.int .u8 c.toNat, .string ⟨#[]⟩, .int .i64 0, .slice (some ⟨w.heap.size + 1 + 1, 0, none⟩) 0 0]
  rw [World.size_alloc] at h
  exact (h.alloc _).drew
 ·have h := World.ownsRow_made (base := w.heap.size + 1) (e := 165) (size := 1) ((w.alloc (.cells #[.int .u8 0, .string ⟨#[]⟩, .int .i64 0, .slice none 0 0] 172)).alloc (.cells #[.int .u8 c.toNat, .string ⟨#[]⟩, .int .i64 0, .slice (some ⟨w.heap.size + 1 + 1, 0, none⟩) 0 0] 172)) #[] 0 (by simp) (Nat.zero_le _) rfl
  rw [World.size_alloc, World.size_alloc] at h
  exact h.drew
theorem zA (R f p : Nat) (tx : List UInt8) (c : UInt8) (w : World) (hc : c = 46) (hat : tx[p]? = some c) (htx : tx.length ≤ 1048576) (h : Mrd w R tx p false f) :
  Calls Tryz.prog 197 #[.pointer (some ⟨R, 0, none⟩)] w (dF R f tx p w) := by
 have c0 := Blk.cell h 0
 obtain ⟨x, hx⟩ : ∃ x, x = tb tx := ⟨_, rfl⟩
 have hxz : x.size = tx.length := by rw [hx, aB]
 have hxd : x.data.toList = tx := by rw [hx, aI]
 have hlt : p < x.size := by have := (ba (aR hat)).1; omega
 have hb := aF x p hlt
 rw [hxd, hat] at hb
 have hxp : x[p] = c := (Option.some.inj hb).symm
 have d0 : w.cell? ⟨R, 0, none⟩ = some (.string x) := by rw [hx]; exact c0
 have d1 : w.cell? ⟨R, 1, none⟩ = some (.int .i64 p) := Blk.cell h 1
 have HXP := GR hxp
 have HXZ := GR hxz
 have HX := GR hx
 have HD := GR (aR hat)
 have H := GR h
 have hR := h.lt
 have hR1 : R < w.heap.size + 1 := by omega
 have hR2 : R < w.heap.size + 1 + 1 := by omega
 have hp1 : p + 1 ≤ 1048576 := by omega
 have e1 : ((p + 1 : Nat) : Int) = (p : Int) + 1 := by omega
 have HE := GR e1
 clear hb hxd hx c0 hxp hxz h hat e1
 have e46 : ((c.toNat : Int) == 46) = true := by rw [hc]; rfl
 have HL := GR (fun W => (by have := cr c W; rw [show a7 c = false by rw [hc]; rfl] at this; exact this : Calls Tryz.prog 161 #[.int .u8 c.toNat] W fun e w' => e = .returned (.bool false) ∧ W = w'))
 have HC := GR hc
 clear hc
 go_enter Tryz.func197, Tryz.ntmps197
 go_upto_region 1 with fail
 go_cut [3] (fun s3 wx => ∃ OB XB, s3 = .pointer (some ⟨OB, 0, none⟩) ∧ Begun w c OB XB wx)
 case first =>
  go_region
  all_goals (go_wp2_with fail; go_meet)
  all_goals rw [HXP.out]
  case rel => exact ⟨_, _, rfl, fy w c⟩
  case rel => exact ⟨_, _, rfl, fA w c⟩
 case rest =>
  obtain ⟨OB, XB, rfl, hst⟩ := hcut
  clear d0 d1
  have hlO := hst.ltO
  have hOR : OB ≠ R := by omega
  have hQR : w.heap.size ≠ R := by omega
  have hOQ : OB ≠ w.heap.size := by omega
  have k0 : wc.cell? ⟨OB, 0, none⟩ = some (.int .u8 c.toNat) := hst.item.cell 0
  have hm : Mrd wc R tx p false f := Blk.below H.out hst.below hR
  have d0 : wc.cell? ⟨R, 0, none⟩ = some (.string x) := by rw [HX.out]; exact Blk.cell hm 0
  have d1 : wc.cell? ⟨R, 1, none⟩ = some (.int .i64 p) := Blk.cell hm 1
  have g1 : wc.frozen? ⟨R, 1, none⟩ = false := Blk.frozen hm 1
  have m1 : Mrd (wc.setCell ⟨R, 1, none⟩ (.int .i64 ((p : Int) + 1))) R tx (p + 1) false f := by
   unfold Mrd
   rw [HE.out]; exact Blk.set_ hm 1 (.int .i64 ((p : Int) + 1))
  have i1 := av hst.item hOR 1 (.int .i64 ((p : Int) + 1))
  have r1 := av hst.res hQR 1 (.int .i64 ((p : Int) + 1))
  have HM1 := GR m1
  have HI1 := GR i1
  have HR1 := GR r1
  have HST := GR hst
  clear hm m1 i1 r1 hst
  have hI9 := HI1.out
  have hR9 := HR1.out
  have l0 := hI9.cell 0
  have l1 := hI9.cell 1
  have l2 := hI9.cell 2
  have l3 := hI9.cell 3
  have z0 := hR9.cell 0
  have z1 := hR9.cell 1
  have z2 := hR9.cell 2
  have z3 := hR9.cell 3
  have y0 := hR9.frozen 0
  have y1 := hR9.frozen 1
  have y2 := hR9.frozen 2
  have y3 := hR9.frozen 3
  clear hI9 hR9
  go_wp2_with fail
  refine (HL.out _).mono ?_
  rintro e w2 ⟨rfl, rfl⟩
  go_wp2_with fail
  have V := bL HR1.out (.int .u8 c.toNat) (.string ⟨#[]⟩) (.int .i64 0) (.slice (some ⟨XB, 0, none⟩) 0 0)
  have v0 := V.cell 0
  have v1 := V.cell 1
  have v2 := V.cell 2
  have v3 := V.cell 3
  unfold dt at v0 v1 v2 v3
  refine bodyPost_ret (v := .agg #[.int .u8 c.toNat, .string ⟨#[]⟩, .int .i64 0, .slice (some ⟨XB, 0, none⟩) 0 0]) (by simp [results, Tryz.results197, go_sem, v0, v1, v2, v3]) rfl ?_
  clear v0 v1 v2 v3 V
  refine .inl ⟨.stop, p + 1, _, _, _, by rw [HD.out, HC.out]; exact ⟨by rw [aC]; trivial, .inr trivial, by rw [aK]; rfl⟩, by omega, by have := HXZ.out; omega, by rw [HC.out]; rfl, by rw [MBodAt]; exact ⟨_, _, rfl, fun h => absurd h (by simp)⟩, bM HM1.out hQR.symm _ _ _ _, bj ((dW HST.out.below).trans (Only.set R wc 1 _)) (Nat.le_refl _) _ _ _ _⟩
end Go.Proofs.YtlkfakdghjaoaaaGreatDoor
namespace Go.Proofs.YtlkfakdghjaoaaaGreatDoor
open Go.RowKit Go.Sort
theorem Bb (R f p : Nat) (tx : List UInt8) (c : UInt8) (w : World) (hc : a7 c = true) (hat : tx[p]? = some c) (htx : tx.length ≤ 1048576) (h : Mrd w R tx p false f) :
  Calls Tryz.prog 197 #[.pointer (some ⟨R, 0, none⟩)] w (dF R f tx p w) := by
 have c0 := Blk.cell h 0
 obtain ⟨x, hx⟩ : ∃ x, x = tb tx := ⟨_, rfl⟩
 have hxz : x.size = tx.length := by rw [hx, aB]
 have hxd : x.data.toList = tx := by rw [hx, aI]
 have hlt : p < x.size := by have := (ba (aR hat)).1; omega
 have hb := aF x p hlt
 rw [hxd, hat] at hb
 have hxp : x[p] = c := (Option.some.inj hb).symm
 have d0 : w.cell? ⟨R, 0, none⟩ = some (.string x) := by rw [hx]; exact c0
 have d1 : w.cell? ⟨R, 1, none⟩ = some (.int .i64 p) := Blk.cell h 1
 have HXP := GR hxp
 have HXZ := GR hxz
 have HX := GR hx
 have HD := GR (aR hat)
 have H := GR h
 have hR := h.lt
 have hR1 : R < w.heap.size + 1 := by omega
 have hR2 : R < w.heap.size + 1 + 1 := by omega
 have hp1 : p + 1 ≤ 1048576 := by omega
 have e1 : ((p + 1 : Nat) : Int) = (p : Int) + 1 := by omega
 have HE := GR e1
 clear hb hxd hx c0 hxp hxz h hat e1
 have HL := GR (fun W => (by have := cr c W; rw [hc] at this; exact this : Calls Tryz.prog 161 #[.int .u8 c.toNat] W fun e w' => e = .returned (.bool true) ∧ W = w'))
 have HC := GR hc
 have HEX := GR (show x.extract p (p + 1) = tb [c] from A8 hlt HXP.out)
 have hl1 : p ≤ p + 1 := by omega
 have hl2 : (p : Int) ≤ (p : Int) + 1 := by omega
 have hl3 : (p : Int) + 1 ≤ (x.size : Int) := by omega
 have hl4 : p + 1 ≤ x.size := by omega
 have s1 : IntKind.i64.wrap ((p : Int) + 1) = (p : Int) + 1 := IntWalk.i64_in _ (by omega)
 have s2 : ((p : Int) + 1).toNat = p + 1 := by omega
 have s3 : (0 : Int) ≤ (p : Int) + 1 := by omega
 clear hc
 go_enter Tryz.func197, Tryz.ntmps197
 go_upto_region 1 with fail
 go_cut [3] (fun s3 wx => ∃ OB XB, s3 = .pointer (some ⟨OB, 0, none⟩) ∧ Begun w c OB XB wx)
 case first =>
  go_region
  all_goals (go_wp2_with fail; go_meet)
  all_goals rw [HXP.out]
  case rel => exact ⟨_, _, rfl, fy w c⟩
  case rel => exact ⟨_, _, rfl, fA w c⟩
 case rest =>
  obtain ⟨OB, XB, rfl, hst⟩ := hcut
  clear d0 d1
  have hlO := hst.ltO
  have hOR : OB ≠ R := by omega
  have hQR : w.heap.size ≠ R := by omega
  have hOQ : OB ≠ w.heap.size := by omega
  have k0 : wc.cell? ⟨OB, 0, none⟩ = some (.int .u8 c.toNat) := hst.item.cell 0
  have hm : Mrd wc R tx p false f := Blk.below H.out hst.below hR
  have d0 : wc.cell? ⟨R, 0, none⟩ = some (.string x) := by rw [HX.out]; exact Blk.cell hm 0
  have d1 : wc.cell? ⟨R, 1, none⟩ = some (.int .i64 p) := Blk.cell hm 1
  have g1 : wc.frozen? ⟨R, 1, none⟩ = false := Blk.frozen hm 1
  have m1 : Mrd (wc.setCell ⟨R, 1, none⟩ (.int .i64 ((p : Int) + 1))) R tx (p + 1) false f := by
   unfold Mrd
   rw [HE.out]; exact Blk.set_ hm 1 (.int .i64 ((p : Int) + 1))
  have i1 := av hst.item hOR 1 (.int .i64 ((p : Int) + 1))
  have r1 := av hst.res hQR 1 (.int .i64 ((p : Int) + 1))
  have HM1 := GR m1
  have HI1 := GR i1
  have HR1 := GR r1
  have HST := GR hst
  clear hm m1 i1 r1 hst
  have f1 := HST.out.item.frozen 1
  have j1 := HST.out.item.cell 1
  go_wp2_with fail
  refine (HL.out _).mono ?_
  rintro e w2 ⟨rfl, rfl⟩
  go_wp2_with fail
  go_region
  have i1 : Blk (wc.setCell ⟨OB, 1, none⟩ (.string (x.extract p (p + 1)))).drew OB 172 #[.int .u8 c.toNat, .string (x.extract p (p + 1)), .int .i64 0, .slice (some ⟨XB, 0, none⟩) 0 0] := (HST.out.item.set_ 1 (.string (x.extract p (p + 1)))).drew
  have m1 : Mrd (wc.setCell ⟨OB, 1, none⟩ (.string (x.extract p (p + 1)))).drew R tx p false f := Blk.drew (av (Blk.below H.out HST.out.below hR) hOR.symm 1 _)
  have r1 := Blk.drew (av HST.out.res hOQ.symm 1 (.string (x.extract p (p + 1))))
  have o1 := Only.drew (fd (dW (R := R) HST.out.below) (Nat.le_of_lt hlO) 1 (.string (x.extract p (p + 1))))
  obtain ⟨W1, hW1⟩ : ∃ W1, W1 = (wc.setCell ⟨OB, 1, none⟩ (.string (x.extract p (p + 1)))).drew := ⟨_, rfl⟩
  rw [← hW1] at i1 m1 r1 o1 ⊢
  have b0 := i1.cell 0
  have b1 := i1.frozen 0
  have i2 : Blk (W1.setCell ⟨OB, 0, none⟩ (.int .u8 88)) OB 172 #[.int .u8 88, .string (x.extract p (p + 1)), .int .i64 0, .slice (some ⟨XB, 0, none⟩) 0 0] := i1.set_ 0 (.int .u8 88)
  have m2 : Mrd (W1.setCell ⟨OB, 0, none⟩ (.int .u8 88)) R tx p false f := av m1 hOR.symm 0 _
  have r2 := av r1 hOQ.symm 0 (.int .u8 88)
  have b2 := Blk.cell m2 1
  have b3 := Blk.frozen m2 1
  have HM3 : Hid (Mrd ((W1.setCell ⟨OB, 0, none⟩ (.int .u8 88)).setCell ⟨R, 1, none⟩ (.int .i64 ((p : Int) + 1))) R tx (p + 1) false f) := by
   show Mrd _ _ _ _ _ _
   unfold Mrd
   rw [HE.out]; exact Blk.set_ m2 1 (.int .i64 ((p : Int) + 1))
  have HI3 := GR (av i2 hOR 1 (.int .i64 ((p : Int) + 1)))
  have HR3 := GR (av r2 hQR 1 (.int .i64 ((p : Int) + 1)))
  have HO3 := GR (fd o1 (Nat.le_of_lt hlO) 0 (.int .u8 88))
  clear i1 m1 r1 o1 i2 m2 r2 d0 d1 g1 k0 j1 f1 hW1
  have hI9 := HI3.out
  have hR9 := HR3.out
  have l0 := hI9.cell 0
  have l1 := hI9.cell 1
  have l2 := hI9.cell 2
  have l3 := hI9.cell 3
  have z0 := hR9.cell 0
  have z1 := hR9.cell 1
  have z2 := hR9.cell 2
  have z3 := hR9.cell 3
  have y0 := hR9.frozen 0
  have y1 := hR9.frozen 1
  have y2 := hR9.frozen 2
  have y3 := hR9.frozen 3
  clear hI9 hR9
  go_wp2_with fail
  have V := bL HR3.out (.int .u8 88) (.string (x.extract p (p + 1))) (.int .i64 0) (.slice (some ⟨XB, 0, none⟩) 0 0)
  have v0 := V.cell 0
  have v1 := V.cell 1
  have v2 := V.cell 2
  have v3 := V.cell 3
  unfold dt at v0 v1 v2 v3
  refine bodyPost_ret (v := .agg #[.int .u8 88, .string (x.extract p (p + 1)), .int .i64 0, .slice (some ⟨XB, 0, none⟩) 0 0]) (by simp [results, Tryz.results197, go_sem, v0, v1, v2, v3]) rfl ?_
  clear v0 v1 v2 v3 V
  refine .inl ⟨.blk c, p + 1, _, _, _, by rw [HD.out]; exact Cp HC.out (.inr trivial), by omega, by have := HXZ.out; omega, by rw [HEX.out]; rfl, by rw [MBodAt]; exact ⟨_, _, rfl, fun h => absurd h (by simp)⟩, bM HM3.out hQR.symm _ _ _ _, bj (HO3.out.trans (Only.set R _ 1 _)) (Nat.le_refl _) _ _ _ _⟩
end Go.Proofs.YtlkfakdghjaoaaaGreatDoor
namespace Go.Proofs.YtlkfakdghjaoaaaGreatDoor
open Go.RowKit Go.Sort
theorem xx (R f p : Nat) (tx : List UInt8) (c : UInt8) (w : World) (hl : a7 c = false) (hc : c ≠ 63 ∧ c ≠ 46 ∧ c ≠ 40 ∧ c ≠ 123 ∧ c ≠ 94 ∧ c ≠ 61 ∧ c ≠ 35) (hat : tx[p]? = some c) (htx : tx.length ≤ 1048576) (h : Mrd w R tx p false f) :
  Calls Tryz.prog 197 #[.pointer (some ⟨R, 0, none⟩)] w (dF R f tx p w) := by
 have c0 := Blk.cell h 0
 obtain ⟨x, hx⟩ : ∃ x, x = tb tx := ⟨_, rfl⟩
 have hxz : x.size = tx.length := by rw [hx, aB]
 have hxd : x.data.toList = tx := by rw [hx, aI]
 have hlt : p < x.size := by have := (ba (aR hat)).1; omega
 have hb := aF x p hlt
 rw [hxd, hat] at hb
 have hxp : x[p] = c := (Option.some.inj hb).symm
 have d0 : w.cell? ⟨R, 0, none⟩ = some (.string x) := by rw [hx]; exact c0
 have d1 : w.cell? ⟨R, 1, none⟩ = some (.int .i64 p) := Blk.cell h 1
 have HXP := GR hxp
 have HXZ := GR hxz
 have HX := GR hx
 have HD := GR (aR hat)
 have H := GR h
 have hR := h.lt
 have hR1 : R < w.heap.size + 1 := by omega
 have hR2 : R < w.heap.size + 1 + 1 := by omega
 have hp1 : p + 1 ≤ 1048576 := by omega
 have e1 : ((p + 1 : Nat) : Int) = (p : Int) + 1 := by omega
 have HE := GR e1
 clear hb hxd hx c0 hxp hxz h hat e1
 obtain ⟨n63, n46, n40, n123, n94, n61, n35⟩ := id hc
 have e46 : ((c.toNat : Int) == 46) = false := dI (b := 46) n46
 have e63 : ((c.toNat : Int) == 63) = false := dI (b := 63) n63
 have e40 : ((c.toNat : Int) == 40) = false := dI (b := 40) n40
 have e123 : ((c.toNat : Int) == 123) = false := dI (b := 123) n123
 have e94 : ((c.toNat : Int) == 94) = false := dI (b := 94) n94
 have e61 : ((c.toNat : Int) == 61) = false := dI (b := 61) n61
 have e35 : ((c.toNat : Int) == 35) = false := dI (b := 35) n35
 have HL := GR (fun W => (by have := cr c W; rw [hl] at this; exact this : Calls Tryz.prog 161 #[.int .u8 c.toNat] W fun e w' => e = .returned (.bool false) ∧ W = w'))
 have HNO := GR (show dB f (tx.drop p) by rw [HD.out]; exact Cq hl hc)
 clear hc hl n63 n46 n40 n123 n94 n61 n35
 go_enter Tryz.func197, Tryz.ntmps197
 go_upto_region 1 with fail
 go_cut [3] (fun s3 wx => ∃ OB XB, s3 = .pointer (some ⟨OB, 0, none⟩) ∧ Begun w c OB XB wx)
 case first =>
  go_region
  all_goals (go_wp2_with fail; go_meet)
  all_goals rw [HXP.out]
  case rel => exact ⟨_, _, rfl, fy w c⟩
  case rel => exact ⟨_, _, rfl, fA w c⟩
 case rest =>
  obtain ⟨OB, XB, rfl, hst⟩ := hcut
  clear d0 d1
  have hlO := hst.ltO
  have hOR : OB ≠ R := by omega
  have hQR : w.heap.size ≠ R := by omega
  have hOQ : OB ≠ w.heap.size := by omega
  have k0 : wc.cell? ⟨OB, 0, none⟩ = some (.int .u8 c.toNat) := hst.item.cell 0
  have hm : Mrd wc R tx p false f := Blk.below H.out hst.below hR
  have d0 : wc.cell? ⟨R, 0, none⟩ = some (.string x) := by rw [HX.out]; exact Blk.cell hm 0
  have d1 : wc.cell? ⟨R, 1, none⟩ = some (.int .i64 p) := Blk.cell hm 1
  have g1 : wc.frozen? ⟨R, 1, none⟩ = false := Blk.frozen hm 1
  have m1 : Mrd (wc.setCell ⟨R, 1, none⟩ (.int .i64 ((p : Int) + 1))) R tx (p + 1) false f := by
   unfold Mrd
   rw [HE.out]; exact Blk.set_ hm 1 (.int .i64 ((p : Int) + 1))
  have i1 := av hst.item hOR 1 (.int .i64 ((p : Int) + 1))
  have r1 := av hst.res hQR 1 (.int .i64 ((p : Int) + 1))
  have HM1 := GR m1
  have HI1 := GR i1
  have HR1 := GR r1
  have HST := GR hst
  clear hm m1 i1 r1 hst
  have g2 : wc.frozen? ⟨R, 2, none⟩ = false := Blk.frozen (Blk.below H.out HST.out.below hR) 2
  have x2 : wc.cell? ⟨R, 2, none⟩ = some (.bool false) := Blk.cell (Blk.below H.out HST.out.below hR) 2
  have HM3 : Hid (Mrd (wc.setCell ⟨R, 2, none⟩ (.bool true)) R tx p true f) := Blk.set_ (Blk.below H.out HST.out.below hR) 2 (.bool true)
  have HI3 := GR (av HST.out.item hOR 2 (.bool true))
  have HR3 := GR (av HST.out.res hQR 2 (.bool true))
  clear HM1 HI1 HR1
  have hI9 := HI3.out
  have hR9 := HR3.out
  have l0 := hI9.cell 0
  have l1 := hI9.cell 1
  have l2 := hI9.cell 2
  have l3 := hI9.cell 3
  have z0 := hR9.cell 0
  have z1 := hR9.cell 1
  have z2 := hR9.cell 2
  have z3 := hR9.cell 3
  have y0 := hR9.frozen 0
  have y1 := hR9.frozen 1
  have y2 := hR9.frozen 2
  have y3 := hR9.frozen 3
  clear hI9 hR9
  go_wp2_with fail
  refine (HL.out _).mono ?_
  rintro e w2 ⟨rfl, rfl⟩
  go_wp2_with fail
  have V := bL HR3.out (.int .u8 c.toNat) (.string ⟨#[]⟩) (.int .i64 0) (.slice (some ⟨XB, 0, none⟩) 0 0)
  have v0 := V.cell 0
  have v1 := V.cell 1
  have v2 := V.cell 2
  have v3 := V.cell 3
  unfold dt at v0 v1 v2 v3
  refine bodyPost_ret (v := .agg #[.int .u8 c.toNat, .string ⟨#[]⟩, .int .i64 0, .slice (some ⟨XB, 0, none⟩) 0 0]) (by simp [results, Tryz.results197, go_sem, v0, v1, v2, v3]) rfl ?_
  clear v0 v1 v2 v3 V
  refine .inr ⟨c.toNat, ⟨#[]⟩, 0, _, _, _, p, HNO.out, by have := HXZ.out; omega, rfl, bM HM3.out hQR.symm _ _ _ _, bj ((dW HST.out.below).trans (Only.set R wc 2 _)) (Nat.le_refl _) _ _ _ _⟩
end Go.Proofs.YtlkfakdghjaoaaaGreatDoor
namespace Go.Proofs.YtlkfakdghjaoaaaGreatDoor
open Go.RowKit Go.Sort
theorem Bc (R f p : Nat) (tx : List UInt8) (c : UInt8) (w : World) (hc : c = 61) (hat : tx[p]? = some c) (htx : tx.length ≤ 1048576) (h : Mrd w R tx p false f) :
  Calls Tryz.prog 197 #[.pointer (some ⟨R, 0, none⟩)] w (dF R f tx p w) := by
 have c0 := Blk.cell h 0
 obtain ⟨x, hx⟩ : ∃ x, x = tb tx := ⟨_, rfl⟩
 have hxz : x.size = tx.length := by rw [hx, aB]
 have hxd : x.data.toList = tx := by rw [hx, aI]
 have hlt : p < x.size := by have := (ba (aR hat)).1; omega
 have hb := aF x p hlt
 rw [hxd, hat] at hb
 have hxp : x[p] = c := (Option.some.inj hb).symm
 have d0 : w.cell? ⟨R, 0, none⟩ = some (.string x) := by rw [hx]; exact c0
 have d1 : w.cell? ⟨R, 1, none⟩ = some (.int .i64 p) := Blk.cell h 1
 have HXP := GR hxp
 have HXZ := GR hxz
 have HX := GR hx
 have HD := GR (aR hat)
 have H := GR h
 have hR := h.lt
 have hR1 : R < w.heap.size + 1 := by omega
 have hR2 : R < w.heap.size + 1 + 1 := by omega
 have hp1 : p + 1 ≤ 1048576 := by omega
 have e1 : ((p + 1 : Nat) : Int) = (p : Int) + 1 := by omega
 have HE := GR e1
 clear hb hxd hx c0 hxp hxz h hat e1
 have e46 : ((c.toNat : Int) == 46) = false := by rw [hc]; rfl
 have e63 : ((c.toNat : Int) == 63) = false := by rw [hc]; rfl
 have e40 : ((c.toNat : Int) == 40) = false := by rw [hc]; rfl
 have e123 : ((c.toNat : Int) == 123) = false := by rw [hc]; rfl
 have e94 : ((c.toNat : Int) == 94) = false := by rw [hc]; rfl
 have e61 : ((c.toNat : Int) == 61) = true := by rw [hc]; rfl
 have e35 : ((c.toNat : Int) == 35) = false := by rw [hc]; rfl
 have HL := GR (fun W => (by have := cr c W; rw [show a7 c = false by rw [hc]; rfl] at this; exact this : Calls Tryz.prog 161 #[.int .u8 c.toNat] W fun e w' => e = .returned (.bool false) ∧ W = w'))
 have HC := GR hc
 clear hc
 have HG := GR (fun W (k : Mrd W R tx (p + 1) false f) => rt R (p + 1) f tx W (by omega) k)
 go_enter Tryz.func197, Tryz.ntmps197
 go_upto_region 1 with fail
 go_cut [3] (fun s3 wx => ∃ OB XB, s3 = .pointer (some ⟨OB, 0, none⟩) ∧ Begun w c OB XB wx)
 case first =>
  go_region
  all_goals (go_wp2_with fail; go_meet)
  all_goals rw [HXP.out]
  case rel => exact ⟨_, _, rfl, fy w c⟩
  case rel => exact ⟨_, _, rfl, fA w c⟩
 case rest =>
  obtain ⟨OB, XB, rfl, hst⟩ := hcut
  clear d0 d1
  have hlO := hst.ltO
  have hOR : OB ≠ R := by omega
  have hQR : w.heap.size ≠ R := by omega
  have hOQ : OB ≠ w.heap.size := by omega
  have k0 : wc.cell? ⟨OB, 0, none⟩ = some (.int .u8 c.toNat) := hst.item.cell 0
  have hm : Mrd wc R tx p false f := Blk.below H.out hst.below hR
  have d0 : wc.cell? ⟨R, 0, none⟩ = some (.string x) := by rw [HX.out]; exact Blk.cell hm 0
  have d1 : wc.cell? ⟨R, 1, none⟩ = some (.int .i64 p) := Blk.cell hm 1
  have g1 : wc.frozen? ⟨R, 1, none⟩ = false := Blk.frozen hm 1
  have m1 : Mrd (wc.setCell ⟨R, 1, none⟩ (.int .i64 ((p : Int) + 1))) R tx (p + 1) false f := by
   unfold Mrd
   rw [HE.out]; exact Blk.set_ hm 1 (.int .i64 ((p : Int) + 1))
  have i1 := av hst.item hOR 1 (.int .i64 ((p : Int) + 1))
  have r1 := av hst.res hQR 1 (.int .i64 ((p : Int) + 1))
  have HM1 := GR m1
  have HI1 := GR i1
  have HR1 := GR r1
  have HST := GR hst
  clear hm m1 i1 r1 hst
  go_wp2_with fail
  refine (HL.out _).mono ?_
  rintro e w2 ⟨rfl, rfl⟩
  go_wp2_with fail
  refine (HG.out _ HM1.out).mono ?_
  rintro e w3 ⟨o3, q3⟩
  have O3 := GR o3
  have hs3 := o3.size
  have hsc := HST.out.below.size
  have hOl := HST.out.item.lt
  have HI3 := GR (cj HI1.out o3 hOR)
  have HR3 := GR (cj HR1.out o3 hQR)
  clear o3 HI1 HR1
  cases hdg : gw tx (p + 1) with
  | some n =>
   rw [hdg] at q3
   obtain ⟨rfl, m3⟩ := q3
   have HM3 := GR m3
   have HDG := GR (qx hdg)
   have f2 := HI3.out.frozen 2
   have j2 := HI3.out.cell 2
   have HM4 : Hid (Mrd (w3.setCell ⟨OB, 2, none⟩ (.int .i64 n)) R tx (p + 1 + 1) false f) := av m3 hOR.symm 2 _
   have HI4 := GR (HI3.out.set_ 2 (.int .i64 n))
   have HR4 := GR (av HR3.out hOQ.symm 2 (.int .i64 n))
   clear m3 hdg
   have hI9 := HI4.out
   have hR9 := HR4.out
   have l0 := hI9.cell 0
   have l1 := hI9.cell 1
   have l2 := hI9.cell 2
   have l3 := hI9.cell 3
   have z0 := hR9.cell 0
   have z1 := hR9.cell 1
   have z2 := hR9.cell 2
   have z3 := hR9.cell 3
   have y0 := hR9.frozen 0
   have y1 := hR9.frozen 1
   have y2 := hR9.frozen 2
   have y3 := hR9.frozen 3
   clear hI9 hR9
   go_wp2_with fail
   have V := bL HR4.out (.int .u8 c.toNat) (.string ⟨#[]⟩) (.int .i64 n) (.slice (some ⟨XB, 0, none⟩) 0 0)
   have v0 := V.cell 0
   have v1 := V.cell 1
   have v2 := V.cell 2
   have v3 := V.cell 3
   unfold dt at v0 v1 v2 v3
   refine bodyPost_ret (v := .agg #[.int .u8 c.toNat, .string ⟨#[]⟩, .int .i64 n, .slice (some ⟨XB, 0, none⟩) 0 0]) (by simp [results, Tryz.results197, go_sem, v0, v1, v2, v3]) rfl ?_
   clear v0 v1 v2 v3 V
   refine .inl ⟨.set n, p + 1 + 1, _, _, _, by rw [HD.out, HDG.out.2.2, HC.out]; exact Ct HDG.out.1 (.inr trivial), by omega, HDG.out.2.1, by rw [HC.out]; rfl, by rw [MBodAt]; exact ⟨_, _, rfl, fun h => absurd h (by simp)⟩, bM HM4.out hQR.symm _ _ _ _, bj (fd (((dW HST.out.below).trans (Only.set R wc 1 _)).trans O3.out) (Nat.le_of_lt hlO) 2 _) (Nat.le_refl _) _ _ _ _⟩
  | none =>
   rw [hdg] at q3
   obtain ⟨rfl, m3⟩ := q3
   have HM3 := GR m3
   have HDG := GR (qy hdg)
   have f2 := HI3.out.frozen 2
   have j2 := HI3.out.cell 2
   have HM4 : Hid (Mrd (w3.setCell ⟨OB, 2, none⟩ (.int .i64 0)) R tx (p + 1) true f) := av m3 hOR.symm 2 _
   have HI4 := GR (HI3.out.set_ 2 (.int .i64 0))
   have HR4 := GR (av HR3.out hOQ.symm 2 (.int .i64 0))
   have HNO := GR (show dB f (tx.drop p) by rw [HD.out, HC.out]; exact yS fun n u h10 => HDG.out n u h10)
   clear m3 hdg
   have hI9 := HI4.out
   have hR9 := HR4.out
   have l0 := hI9.cell 0
   have l1 := hI9.cell 1
   have l2 := hI9.cell 2
   have l3 := hI9.cell 3
   have z0 := hR9.cell 0
   have z1 := hR9.cell 1
   have z2 := hR9.cell 2
   have z3 := hR9.cell 3
   have y0 := hR9.frozen 0
   have y1 := hR9.frozen 1
   have y2 := hR9.frozen 2
   have y3 := hR9.frozen 3
   clear hI9 hR9
   go_wp2_with fail
   have V := bL HR4.out (.int .u8 c.toNat) (.string ⟨#[]⟩) (.int .i64 0) (.slice (some ⟨XB, 0, none⟩) 0 0)
   have v0 := V.cell 0
   have v1 := V.cell 1
   have v2 := V.cell 2
   have v3 := V.cell 3
   unfold dt at v0 v1 v2 v3
   refine bodyPost_ret (v := .agg #[.int .u8 c.toNat, .string ⟨#[]⟩, .int .i64 0, .slice (some ⟨XB, 0, none⟩) 0 0]) (by simp [results, Tryz.results197, go_sem, v0, v1, v2, v3]) rfl ?_
   clear v0 v1 v2 v3 V
   refine .inr ⟨c.toNat, ⟨#[]⟩, 0, _, _, _, p + 1, HNO.out, by have := HXZ.out; omega, rfl, bM HM4.out hQR.symm _ _ _ _, bj (fd (((dW HST.out.below).trans (Only.set R wc 1 _)).trans O3.out) (Nat.le_of_lt hlO) 2 _) (Nat.le_refl _) _ _ _ _⟩
end Go.Proofs.YtlkfakdghjaoaaaGreatDoor
namespace Go.Proofs.YtlkfakdghjaoaaaGreatDoor
open Go.RowKit Go.Sort
theorem xy (R f p : Nat) (tx : List UInt8) (c : UInt8) (w : World) (hc : c = 94) (hat : tx[p]? = some c) (htx : tx.length ≤ 1048576) (h : Mrd w R tx p false f) :
  Calls Tryz.prog 197 #[.pointer (some ⟨R, 0, none⟩)] w (dF R f tx p w) := by
 have c0 := Blk.cell h 0
 obtain ⟨x, hx⟩ : ∃ x, x = tb tx := ⟨_, rfl⟩
 have hxz : x.size = tx.length := by rw [hx, aB]
 have hxd : x.data.toList = tx := by rw [hx, aI]
 have hlt : p < x.size := by have := (ba (aR hat)).1; omega
 have hb := aF x p hlt
 rw [hxd, hat] at hb
 have hxp : x[p] = c := (Option.some.inj hb).symm
 have d0 : w.cell? ⟨R, 0, none⟩ = some (.string x) := by rw [hx]; exact c0
 have d1 : w.cell? ⟨R, 1, none⟩ = some (.int .i64 p) := Blk.cell h 1
 have HXP := GR hxp
 have HXZ := GR hxz
 have HX := GR hx
 have HD := GR (aR hat)
 have H := GR h
 have hR := h.lt
 have hR1 : R < w.heap.size + 1 := by omega
 have hR2 : R < w.heap.size + 1 + 1 := by omega
 have hp1 : p + 1 ≤ 1048576 := by omega
 have e1 : ((p + 1 : Nat) : Int) = (p : Int) + 1 := by omega
 have HE := GR e1
 clear hb hxd hx c0 hxp hxz h hat e1
 have e46 : ((c.toNat : Int) == 46) = false := by rw [hc]; rfl
 have e63 : ((c.toNat : Int) == 63) = false := by rw [hc]; rfl
 have e40 : ((c.toNat : Int) == 40) = false := by rw [hc]; rfl
 have e123 : ((c.toNat : Int) == 123) = false := by rw [hc]; rfl
 have e94 : ((c.toNat : Int) == 94) = true := by rw [hc]; rfl
 have e61 : ((c.toNat : Int) == 61) = false := by rw [hc]; rfl
 have e35 : ((c.toNat : Int) == 35) = false := by rw [hc]; rfl
 have HL := GR (fun W => (by have := cr c W; rw [show a7 c = false by rw [hc]; rfl] at this; exact this : Calls Tryz.prog 161 #[.int .u8 c.toNat] W fun e w' => e = .returned (.bool false) ∧ W = w'))
 have HC := GR hc
 clear hc
 have HG := GR (fun W (k : Mrd W R tx (p + 1) false f) => rt R (p + 1) f tx W (by omega) k)
 go_enter Tryz.func197, Tryz.ntmps197
 go_upto_region 1 with fail
 go_cut [3] (fun s3 wx => ∃ OB XB, s3 = .pointer (some ⟨OB, 0, none⟩) ∧ Begun w c OB XB wx)
 case first =>
  go_region
  all_goals (go_wp2_with fail; go_meet)
  all_goals rw [HXP.out]
  case rel => exact ⟨_, _, rfl, fy w c⟩
  case rel => exact ⟨_, _, rfl, fA w c⟩
 case rest =>
  obtain ⟨OB, XB, rfl, hst⟩ := hcut
  clear d0 d1
  have hlO := hst.ltO
  have hOR : OB ≠ R := by omega
  have hQR : w.heap.size ≠ R := by omega
  have hOQ : OB ≠ w.heap.size := by omega
  have k0 : wc.cell? ⟨OB, 0, none⟩ = some (.int .u8 c.toNat) := hst.item.cell 0
  have hm : Mrd wc R tx p false f := Blk.below H.out hst.below hR
  have d0 : wc.cell? ⟨R, 0, none⟩ = some (.string x) := by rw [HX.out]; exact Blk.cell hm 0
  have d1 : wc.cell? ⟨R, 1, none⟩ = some (.int .i64 p) := Blk.cell hm 1
  have g1 : wc.frozen? ⟨R, 1, none⟩ = false := Blk.frozen hm 1
  have m1 : Mrd (wc.setCell ⟨R, 1, none⟩ (.int .i64 ((p : Int) + 1))) R tx (p + 1) false f := by
   unfold Mrd
   rw [HE.out]; exact Blk.set_ hm 1 (.int .i64 ((p : Int) + 1))
  have i1 := av hst.item hOR 1 (.int .i64 ((p : Int) + 1))
  have r1 := av hst.res hQR 1 (.int .i64 ((p : Int) + 1))
  have HM1 := GR m1
  have HI1 := GR i1
  have HR1 := GR r1
  have HST := GR hst
  clear hm m1 i1 r1 hst
  go_wp2_with fail
  refine (HL.out _).mono ?_
  rintro e w2 ⟨rfl, rfl⟩
  go_wp2_with fail
  refine (HG.out _ HM1.out).mono ?_
  rintro e w3 ⟨o3, q3⟩
  have O3 := GR o3
  have hs3 := o3.size
  have hsc := HST.out.below.size
  have hOl := HST.out.item.lt
  have HI3 := GR (cj HI1.out o3 hOR)
  have HR3 := GR (cj HR1.out o3 hQR)
  clear o3 HI1 HR1
  cases hdg : gw tx (p + 1) with
  | some n =>
   rw [hdg] at q3
   obtain ⟨rfl, m3⟩ := q3
   have HM3 := GR m3
   have HDG := GR (qx hdg)
   have f2 := HI3.out.frozen 2
   have j2 := HI3.out.cell 2
   have HM4 : Hid (Mrd (w3.setCell ⟨OB, 2, none⟩ (.int .i64 n)) R tx (p + 1 + 1) false f) := av m3 hOR.symm 2 _
   have HI4 := GR (HI3.out.set_ 2 (.int .i64 n))
   have HR4 := GR (av HR3.out hOQ.symm 2 (.int .i64 n))
   have x2 := Blk.cell HM4.out 2
   have x3 := Blk.cell HM4.out 3
   have g2 := Blk.frozen HM4.out 2
   have y2 := HI4.out.cell 2
   clear m3 hdg
   by_cases hnf : n < f
   ·have q9 : decide ((f : Int) ≤ (n : Int)) = false := decide_eq_false (by omega)
    have q8 : ¬ f ≤ n := by omega
    go_wp2_with fail
    go_region
    have HM5 : Hid (Mrd ((w3.setCell ⟨OB, 2, none⟩ (.int .i64 n)).setCell ⟨R, 2, none⟩ (.bool false)).drew R tx (p + 1 + 1) false f) := (Blk.set_ HM4.out 2 (.bool false)).drew
    have HI5 := GR (Blk.drew (av HI4.out hOR 2 (.bool false)))
    have HR5 := GR (Blk.drew (av HR4.out hQR 2 (.bool false)))
    have HO5 := GR (Only.drew ((fd (((dW HST.out.below).trans (Only.set R wc 1 (.int .i64 ((p : Int) + 1)))).trans O3.out) (Nat.le_of_lt hlO) 2 (.int .i64 n)).trans (Only.set R _ 2 (.bool false))))
    generalize ((w3.setCell ⟨OB, 2, none⟩ (.int .i64 n)).setCell ⟨R, 2, none⟩ (.bool false)).drew = W5 at *
    clear x2 x3 g2 y2
    have hI9 := HI5.out
    have hR9 := HR5.out
    have l0 := hI9.cell 0
    have l1 := hI9.cell 1
    have l2 := hI9.cell 2
    have l3 := hI9.cell 3
    have z0 := hR9.cell 0
    have z1 := hR9.cell 1
    have z2 := hR9.cell 2
    have z3 := hR9.cell 3
    have y0 := hR9.frozen 0
    have y1 := hR9.frozen 1
    have y2 := hR9.frozen 2
    have y3 := hR9.frozen 3
    clear hI9 hR9
    go_wp2_with fail
    have V := bL HR5.out (.int .u8 c.toNat) (.string ⟨#[]⟩) (.int .i64 n) (.slice (some ⟨XB, 0, none⟩) 0 0)
    have v0 := V.cell 0
    have v1 := V.cell 1
    have v2 := V.cell 2
    have v3 := V.cell 3
    unfold dt at v0 v1 v2 v3
    refine bodyPost_ret (v := .agg #[.int .u8 c.toNat, .string ⟨#[]⟩, .int .i64 n, .slice (some ⟨XB, 0, none⟩) 0 0]) (by simp [results, Tryz.results197, go_sem, v0, v1, v2, v3]) rfl ?_
    clear v0 v1 v2 v3 V
    refine .inl ⟨.leave n, p + 1 + 1, _, _, _, by rw [HD.out, HDG.out.2.2, HC.out]; exact wV hnf HDG.out.1 (.inr trivial), by omega, HDG.out.2.1, by rw [HC.out]; rfl, by rw [MBodAt]; exact ⟨_, _, rfl, fun h => absurd h (by simp)⟩, bM HM5.out hQR.symm _ _ _ _, bj HO5.out (Nat.le_refl _) _ _ _ _⟩
   ·have q9 : decide ((f : Int) ≤ (n : Int)) = true := decide_eq_true (by omega)
    have q8 : f ≤ n := by omega
    have HNO := GR (show dB f (tx.drop p) by rw [HD.out, HC.out]; exact oo fun m u hm h10 e => by rw [HDG.out.2.2] at e; have := so HDG.out.1 h10 (List.cons.inj e).1; omega)
    go_wp2_with fail
    go_region
    have HM5 : Hid (Mrd ((w3.setCell ⟨OB, 2, none⟩ (.int .i64 n)).setCell ⟨R, 2, none⟩ (.bool true)).drew R tx (p + 1 + 1) true f) := (Blk.set_ HM4.out 2 (.bool true)).drew
    have HI5 := GR (Blk.drew (av HI4.out hOR 2 (.bool true)))
    have HR5 := GR (Blk.drew (av HR4.out hQR 2 (.bool true)))
    have HO5 := GR (Only.drew ((fd (((dW HST.out.below).trans (Only.set R wc 1 (.int .i64 ((p : Int) + 1)))).trans O3.out) (Nat.le_of_lt hlO) 2 (.int .i64 n)).trans (Only.set R _ 2 (.bool true))))
    generalize ((w3.setCell ⟨OB, 2, none⟩ (.int .i64 n)).setCell ⟨R, 2, none⟩ (.bool true)).drew = W5 at *
    clear x2 x3 g2 y2
    have hI9 := HI5.out
    have hR9 := HR5.out
    have l0 := hI9.cell 0
    have l1 := hI9.cell 1
    have l2 := hI9.cell 2
    have l3 := hI9.cell 3
    have z0 := hR9.cell 0
    have z1 := hR9.cell 1
    have z2 := hR9.cell 2
    have z3 := hR9.cell 3
    have y0 := hR9.frozen 0
    have y1 := hR9.frozen 1
    have y2 := hR9.frozen 2
    have y3 := hR9.frozen 3
    clear hI9 hR9
    go_wp2_with fail
    have V := bL HR5.out (.int .u8 c.toNat) (.string ⟨#[]⟩) (.int .i64 n) (.slice (some ⟨XB, 0, none⟩) 0 0)
    have v0 := V.cell 0
    have v1 := V.cell 1
    have v2 := V.cell 2
    have v3 := V.cell 3
    unfold dt at v0 v1 v2 v3
    refine bodyPost_ret (v := .agg #[.int .u8 c.toNat, .string ⟨#[]⟩, .int .i64 n, .slice (some ⟨XB, 0, none⟩) 0 0]) (by simp [results, Tryz.results197, go_sem, v0, v1, v2, v3]) rfl ?_
    clear v0 v1 v2 v3 V
    refine .inr ⟨c.toNat, ⟨#[]⟩, n, _, _, _, p + 1 + 1, HNO.out, by have := HXZ.out; omega, rfl, bM HM5.out hQR.symm _ _ _ _, bj HO5.out (Nat.le_refl _) _ _ _ _⟩
  | none =>
   rw [hdg] at q3
   obtain ⟨rfl, m3⟩ := q3
   have HM3 := GR m3
   have HDG := GR (qy hdg)
   have f2 := HI3.out.frozen 2
   have j2 := HI3.out.cell 2
   have HM4 : Hid (Mrd (w3.setCell ⟨OB, 2, none⟩ (.int .i64 0)) R tx (p + 1) true f) := av m3 hOR.symm 2 _
   have HI4 := GR (HI3.out.set_ 2 (.int .i64 0))
   have HR4 := GR (av HR3.out hOQ.symm 2 (.int .i64 0))
   have HNO := GR (show dB f (tx.drop p) by rw [HD.out, HC.out]; exact oo fun n u _ h10 => HDG.out n u h10)
   have x2 := Blk.cell HM4.out 2
   have g2 := Blk.frozen HM4.out 2
   clear m3 hdg
   go_wp2_with fail
   go_region
   have HM5 : Hid (Mrd ((w3.setCell ⟨OB, 2, none⟩ (.int .i64 0)).setCell ⟨R, 2, none⟩ (.bool true)).drew R tx (p + 1) true f) := Blk.drew (Blk.set_ HM4.out 2 (.bool true))
   have HI5 := GR (Blk.drew (av HI4.out hOR 2 (.bool true)))
   have HR5 := GR (Blk.drew (av HR4.out hQR 2 (.bool true)))
   have HO5 := GR (Only.drew ((fd (((dW HST.out.below).trans (Only.set R wc 1 (.int .i64 ((p : Int) + 1)))).trans O3.out) (Nat.le_of_lt hlO) 2 (.int .i64 0)).trans (Only.set R _ 2 (.bool true))))
   generalize ((w3.setCell ⟨OB, 2, none⟩ (.int .i64 0)).setCell ⟨R, 2, none⟩ (.bool true)).drew = W5 at *
   clear x2 g2
   have hI9 := HI5.out
   have hR9 := HR5.out
   have l0 := hI9.cell 0
   have l1 := hI9.cell 1
   have l2 := hI9.cell 2
   have l3 := hI9.cell 3
   have z0 := hR9.cell 0
   have z1 := hR9.cell 1
   have z2 := hR9.cell 2
   have z3 := hR9.cell 3
   have y0 := hR9.frozen 0
   have y1 := hR9.frozen 1
   have y2 := hR9.frozen 2
   have y3 := hR9.frozen 3
   clear hI9 hR9
   go_wp2_with fail
   have V := bL HR5.out (.int .u8 c.toNat) (.string ⟨#[]⟩) (.int .i64 0) (.slice (some ⟨XB, 0, none⟩) 0 0)
   have v0 := V.cell 0
   have v1 := V.cell 1
   have v2 := V.cell 2
   have v3 := V.cell 3
   unfold dt at v0 v1 v2 v3
   refine bodyPost_ret (v := .agg #[.int .u8 c.toNat, .string ⟨#[]⟩, .int .i64 0, .slice (some ⟨XB, 0, none⟩) 0 0]) (by simp [results, Tryz.results197, go_sem, v0, v1, v2, v3]) rfl ?_
   clear v0 v1 v2 v3 V
   refine .inr ⟨c.toNat, ⟨#[]⟩, 0, _, _, _, p + 1, HNO.out, by have := HXZ.out; omega, rfl, bM HM5.out hQR.symm _ _ _ _, bj HO5.out (Nat.le_refl _) _ _ _ _⟩
end Go.Proofs.YtlkfakdghjaoaaaGreatDoor
namespace Go.Proofs.YtlkfakdghjaoaaaGreatDoor
open Go.RowKit Go.Sort
structure Made (w : World) (R : Nat) (tx : List UInt8) (q : Nat) (bad : Bool) (f : Nat) (k0 k1 k2 : Value) (OB : Nat) (bs : List (List It)) (vs : List Value) (vb : Value) (wx : World) : Prop where
 item : Blk wx OB 172 #[k0, k1, k2, vb]
 row : wx.ownsRow (w.heap.size + 1) 165 1 vb vs.length vs
 rows : bad = false → MAllRows wx (fun k => w.heap.size + 1 ≤ k ∧ some k ≠ vb.ownBlock ∧ k ≠ OB) bs vs
 res : Blk wx w.heap.size 172 #[.int .u8 0, .string ⟨#[]⟩, .int .i64 0, .slice none 0 0]
 only : Only R w wx
 rd : Mrd wx R tx q bad f
theorem Begun.made {w wx : World} {c : UInt8} {OB XB R : Nat} {tx : List UInt8} {p f : Nat} (h : Begun w c OB XB wx) (hm : Mrd w R tx p false f) (hR : R < w.heap.size) :
  Made w R tx p false f (.int .u8 c.toNat) (.string ⟨#[]⟩) (.int .i64 0) OB [] [] (.slice (some ⟨XB, 0, none⟩) 0 0) wx :=
 ⟨h.item, h.row, fun _ => MAllRows.nil _ _, h.res, dW h.below, Blk.below hm h.below hR⟩
theorem Made.drew {w : World} {R : Nat} {tx : List UInt8} {q : Nat} {bad : Bool} {f : Nat} {k0 k1 k2 : Value} {OB : Nat} {bs : List (List It)} {vs : List Value} {vb : Value} {wx : World} (h : Made w R tx q bad f k0 k1 k2 OB bs vs vb wx) (n : Nat) :
  Made w R tx q bad f k0 k1 k2 OB bs vs vb (wx.drewN n) :=
 ⟨h.item, h.row, fun e => MAllRows.stay (w := wx) (w' := wx.drewN n) ⟨Nat.le_refl _, fun _ _ hp => ⟨hp, rfl⟩⟩ bs vs (h.rows e), h.res, h.only.trans (c8 R wx n), h.rd⟩
theorem Made.reader {w : World} {R : Nat} {tx : List UInt8} {q : Nat} {f : Nat} {k0 k1 k2 : Value} {OB : Nat} {bs : List (List It)} {vs : List Value} {vb : Value} {wx : World} (h : Made w R tx q false f k0 k1 k2 OB bs vs vb wx) (hR : R < w.heap.size) (hO : OB ≠ R) (i : Nat) (u : Value) {q' : Nat} {bad' : Bool} (hm : Mrd (wx.setCell ⟨R, i, none⟩ u) R tx q' bad' f) :
  Made w R tx q' bad' f k0 k1 k2 OB bs vs vb (wx.setCell ⟨R, i, none⟩ u) :=
 ⟨av h.item hO i u, ek h.row (Only.set R wx i u) (by omega), fun _ => MAllRows.stay (w := wx) ⟨by simp, fun b hb hp => ⟨hp, Below.heap_setCell wx ⟨R, i, none⟩ u b (by show b ≠ R; have := hp.1; omega)⟩⟩ bs vs (h.rows rfl), av h.res (by omega) i u, h.only.trans (Only.set R wx i u), hm⟩
theorem xz {w : World} {OB base : Nat} {cs : Array Value} {vb : Value} {n : Nat} {vs : List Value} (h : Blk w OB 172 cs) (k : w.ownsRow base 165 1 vb n vs) : some OB ≠ vb.ownBlock := by
 rcases k.2 with ⟨rfl, _⟩ | ⟨g, cap, cur, rfl, _, hg, _⟩
 ·intro e; cases e
 ·intro e
  have e2 : OB = g := Option.some.inj e
  subst e2
  have := h.symm.trans hg
  injection this with this
  injection this with _ t _
  revert t; decide
theorem Made.ne {w : World} {R : Nat} {tx : List UInt8} {q : Nat} {bad : Bool} {f : Nat} {k0 k1 k2 : Value} {OB : Nat} {bs : List (List It)} {vs : List Value} {vb : Value} {wx : World} (h : Made w R tx q bad f k0 k1 k2 OB bs vs vb wx) : some OB ≠ vb.ownBlock := xz h.item h.row
theorem Made.cell {w : World} {R : Nat} {tx : List UInt8} {q : Nat} {bad : Bool} {f : Nat} {k0 k1 k2 : Value} {OB : Nat} {bs : List (List It)} {vs : List Value} {vb : Value} {wx : World} (h : Made w R tx q bad f k0 k1 k2 OB bs vs vb wx)
  (i : Nat) (a : Value) {k0' k1' k2' : Value} (hi : (#[k0, k1, k2, vb] : Array Value).setIfInBounds i a = #[k0', k1', k2', vb]) (hO : OB ≠ R) (hl : w.heap.size < OB) : Made w R tx q bad f k0' k1' k2' OB bs vs vb (wx.setCell ⟨OB, i, none⟩ a) := by
 refine ⟨?_, ?_, fun e => ?_, av h.res (by omega) i a, fd h.only (Nat.le_of_lt hl) i a, av h.rd hO.symm i a⟩
 ·have := h.item.set_ i a
  rw [hi] at this; exact this
 ·refine ⟨h.row.1, ?_⟩
  have hne := h.ne
  rcases h.row.2 with hn | ⟨g, cap, cur, hv, hb, hg, rest⟩
  ·exact .inl hn
  ·refine .inr ⟨g, cap, cur, hv, hb, ?_, rest⟩
   rw [← hg]
   exact Below.heap_setCell wx ⟨OB, i, none⟩ a g (fun e => hne (by rw [hv]; show some OB = some g; rw [e]))
 ·exact MAllRows.stay (w := wx) ⟨by simp, fun b hb hp => ⟨hp, Below.heap_setCell wx ⟨OB, i, none⟩ a b (fun e => hp.2.2 e)⟩⟩ bs vs (h.rows e)
theorem Made.stepG {w : World} {R : Nat} {tx : List UInt8} {q : Nat} {bad : Bool} {f : Nat} {k0 k1 k2 : Value} {OB : Nat} {bs : List (List It)} {vs : List Value} {vb : Value} {wx : World} (h : Made w R tx q bad f k0 k1 k2 OB bs vs vb wx) (hR : R < w.heap.size) (hO : OB ≠ R) (hl : w.heap.size < OB)
  {w2 w5 : World} {q' : Nat} {bad' : Bool} {l : List It} {u : Value} {o : Obj} (ho : Only R wx w2) (hr : Mrd w2 R tx q' bad' f) (hrow : bad' = false → MRowAt w2 (bi wx) l u)
  {gg cap : Nat} (hown : w5.ownsRow (w.heap.size + 1) 165 1 (.slice (some ⟨gg, 0, none⟩) (vs.length + 1) cap) (vs.length + 1) (vs ++ [u])) (hgrow : (w2.alloc o).grownBy w5 vb.ownBlock) (hat : vb.ownBlock = some gg ∨ gg = w2.heap.size + 1) (hbb : bad' = false → bad = false) :
  Made w R tx q' bad' f k0 k1 k2 OB (bs ++ [l]) (vs ++ [u]) (.slice (some ⟨gg, 0, none⟩) (vs.length + 1) cap) (w5.setCell ⟨OB, 3, none⟩ (.slice (some ⟨gg, 0, none⟩) (vs.length + 1) cap)) := by
 have hG : w2.grownBy w5 vb.ownBlock := (World.grownBy_alloc w2 _ _).trans hgrow
 have hlt := h.row.lt
 have hRr : some R ≠ vb.ownBlock := fun e => by have := (hlt R e.symm).1; omega
 have hQr : some w.heap.size ≠ vb.ownBlock := fun e => by have := (hlt _ e.symm).1; omega
 have hOx := h.item.lt
 have hsx := ho.size
 have hsw := h.only.size
 have hi2 : Blk w2 OB 172 #[k0, k1, k2, vb] := cj h.item ho hO
 have hr2 : Blk w2 w.heap.size 172 #[.int .u8 0, .string ⟨#[]⟩, .int .i64 0, .slice none 0 0] := cj h.res ho (by omega)
 have hi5 : Blk w5 OB 172 #[k0, k1, k2, vb] := (hG.block OB hi2.lt h.ne).trans hi2
 have hr5 : Blk w5 w.heap.size 172 #[.int .u8 0, .string ⟨#[]⟩, .int .i64 0, .slice none 0 0] := (hG.block _ hr2.lt hQr).trans hr2
 have hm5 : Mrd w5 R tx q' bad' f := (hG.block R hr.lt hRr).trans hr
 have ho5 : Only R w w5 := (h.only.trans ho).grown hG fun k e => by have := (hlt k e).1; omega
 have hgne : OB ≠ gg := by
  rcases hat with e | e
  ·intro e2; exact h.ne (by rw [e, e2])
  ·omega
 have hlen : (vs ++ [u]).length = vs.length + 1 := by simp
 refine ⟨hi5.set_ 3 _, ?_, fun e => ?_, av hr5 (by omega) 3 _, fd ho5 (Nat.le_of_lt hl) 3 _, av hm5 hO.symm 3 _⟩
 ·rw [hlen]
  refine ⟨hown.1, ?_⟩
  rcases hown.2 with hn | ⟨g, c, cur, hv, hb, hg, rest⟩
  ·exact .inl hn
  ·refine .inr ⟨g, c, cur, hv, hb, ?_, rest⟩
   rw [← hg]
   refine Below.heap_setCell w5 ⟨OB, 3, none⟩ _ g (fun e => hgne ?_)
   injection hv with hv1 _ _
   injection hv1 with hv1
   injection hv1 with hv1 _ _
   have e' : g = OB := e
   rw [hv1, e']
 ·have hst : Stay w2 (fun k => w.heap.size + 1 ≤ k ∧ some k ≠ vb.ownBlock ∧ k ≠ OB) (w5.setCell ⟨OB, 3, none⟩ (.slice (some ⟨gg, 0, none⟩) (vs.length + 1) cap)) (fun k => w.heap.size + 1 ≤ k ∧ some k ≠ (Value.slice (some ⟨gg, 0, none⟩) (vs.length + 1) cap).ownBlock ∧ k ≠ OB) := by
   refine ⟨by simpa using hG.size, fun b hb hp => ⟨⟨hp.1, fun e => ?_, hp.2.2⟩, (Below.heap_setCell w5 ⟨OB, 3, none⟩ _ b hp.2.2).trans (hG.block b hb hp.2.1)⟩⟩
   have e2 : b = gg := Option.some.inj e
   rcases hat with e3 | e3
   ·exact hp.2.1 (by rw [e3, e2])
   ·omega
  have h1 : MAllRows w2 (fun k => w.heap.size + 1 ≤ k ∧ some k ≠ vb.ownBlock ∧ k ≠ OB) bs vs := MAllRows.stay (w := wx) ⟨hsx, fun b hb hp => ⟨hp, ho.block b (by have := hp.1; omega) hb⟩⟩ bs vs (h.rows (hbb e))
  have h2 : MRowAt w2 (fun k => w.heap.size + 1 ≤ k ∧ some k ≠ vb.ownBlock ∧ k ≠ OB) l u := (hrow e).stay ⟨Nat.le_refl _, fun b _ hp => by
   have hp' : wx.heap.size ≤ b := hp
   exact ⟨⟨by omega, fun e => by have := (hlt b e.symm).2; omega, by omega⟩, rfl⟩⟩
  exact MAllRows.stay hst _ _ (h1.snoc h2)
theorem Made.step {w : World} {R : Nat} {tx : List UInt8} {q : Nat} {f : Nat} {k0 k1 k2 : Value} {OB : Nat} {bs : List (List It)} {vs : List Value} {vb : Value} {wx : World} (h : Made w R tx q false f k0 k1 k2 OB bs vs vb wx) (hR : R < w.heap.size) (hO : OB ≠ R) (hl : w.heap.size < OB)
  {w2 w5 : World} {q' : Nat} {bad' : Bool} {l : List It} {u : Value} {o : Obj} (ho : Only R wx w2) (hr : Mrd w2 R tx q' bad' f) (hrow : bad' = false → MRowAt w2 (bi wx) l u)
  {gg cap : Nat} (hown : w5.ownsRow (w.heap.size + 1) 165 1 (.slice (some ⟨gg, 0, none⟩) (vs.length + 1) cap) (vs.length + 1) (vs ++ [u])) (hgrow : (w2.alloc o).grownBy w5 vb.ownBlock) (hat : vb.ownBlock = some gg ∨ gg = w2.heap.size + 1) :
  Made w R tx q' bad' f k0 k1 k2 OB (bs ++ [l]) (vs ++ [u]) (.slice (some ⟨gg, 0, none⟩) (vs.length + 1) cap) (w5.setCell ⟨OB, 3, none⟩ (.slice (some ⟨gg, 0, none⟩) (vs.length + 1) cap)) :=
 h.stepG hR hO hl ho hr hrow hown hgrow hat fun _ => rfl
theorem Made.grown {w : World} {R : Nat} {tx : List UInt8} {q : Nat} {bad : Bool} {f : Nat} {k0 k1 k2 : Value} {OB : Nat} {bs : List (List It)} {vs : List Value} {vb : Value} {wx : World} (h : Made w R tx q bad f k0 k1 k2 OB bs vs vb wx) (hO : OB ≠ R)
  {w2 w5 : World} {o : Obj} (ho : Only R wx w2) (hgrow : (w2.alloc o).grownBy w5 vb.ownBlock) : Blk w5 OB 172 #[k0, k1, k2, vb] :=
 have hi2 : Blk w2 OB 172 #[k0, k1, k2, vb] := cj h.item ho hO
 (((World.grownBy_alloc w2 o (row := vb.ownBlock)).trans hgrow).block OB hi2.lt h.ne).trans hi2
theorem Made.bodies {w : World} {R : Nat} {tx : List UInt8} {q : Nat} {f : Nat} {k0 k1 k2 : Value} {OB : Nat} {bs : List (List It)} {vs : List Value} {vb : Value} {W : World} (h : Made w R tx q false f k0 k1 k2 OB bs vs vb W) {i : It} (hi : aM i = bs) (a b c d : Value) :
  MBodAt (dt W w.heap.size a b c d) (bi w) i vb := by
 rw [pZ, hi]
 have hs := Ba (W := W) (w := w) rfl a b c d
 refine ⟨vs, (gW h.row rfl).stay hs, ?_⟩
 exact MAllRows.stay (w := W) ⟨hs.size, fun k hk hp => hs.same k hk hp.1⟩ bs vs (h.rows rfl)
end Go.Proofs.YtlkfakdghjaoaaaGreatDoor
namespace Go.Proofs.YtlkfakdghjaoaaaGreatDoor
open Go.RowKit Go.Sort
def zB (R f : Nat) (tx : List UInt8) (p : Nat) (b : Bool) (w : World) (e : Ending) (w' : World) : Prop :=
 ∃ A m k, e = .returned (.slice A m k) ∧ Hid (Only R w w') ∧ Hid ((∃ l p', f < 9 ∧ az l (f + 1) ∧ tx.drop p = eG b :: (aH l ++ gj b :: tx.drop p') ∧ p < p' ∧ p' ≤ tx.length ∧ MRowAt w' (bi w) l (.slice A m k) ∧ Mrd w' R tx p' false f) ∨ (∃ p', dB f (tx.drop p) ∧ p' + 3 * p ≤ 4 * tx.length + 2 ∧ Mrd w' R tx p' true f))
theorem qz (n : Nat) (HB : eV n) (R f p : Nat) (tx : List UInt8) (b : Bool) (w : World) (hat : tx[p]? = some (eG b)) (hn : tx.length - p ≤ n + 1) (hp : p ≤ tx.length) (htx : tx.length ≤ 1048576) (hf : f ≤ 9) (h : Mrd w R tx p false f) :
  Calls Tryz.prog 217 #[.pointer (some ⟨R, 0, none⟩), .int .u8 (eG b).toNat, .int .u8 (gj b).toNat] w (zB R f tx p b w) := by
 refine (zy n HB R f p tx b w hat hn hp htx hf h).mono ?_
 rintro e w' (⟨l, p', A, m, k, h1, h2, h3, h4, h5, rfl, h6, h7, h8⟩ | ⟨A, m, k, p', h1, h2, rfl, h3, h4⟩)
 ·exact ⟨A, m, k, rfl, h8, .inl ⟨l, p', h1, h2, h3, h4, h5, h6, h7⟩⟩
 ·exact ⟨A, m, k, rfl, h4, .inr ⟨p', h1, h2, h3⟩⟩
theorem oN (n : Nat) (HB : eV n) (R f p : Nat) (tx : List UInt8) (c : UInt8) (w : World) (hc : c = 40) (hat : tx[p]? = some c) (hn : tx.length - p ≤ n + 1) (htx : tx.length ≤ 1048576) (hf : f ≤ 9) (h : Mrd w R tx p false f) :
  Calls Tryz.prog 197 #[.pointer (some ⟨R, 0, none⟩)] w (dF R f tx p w) := by
 have HFR := GR (fun W (k : Mrd W R tx p false f) => (qz n HB R f p tx false W (by rw [hat, hc]; rfl) hn (by have := (ba (aR hat)).1; omega) htx hf k : Calls Tryz.prog 217 #[.pointer (some ⟨R, 0, none⟩), .int .u8 40, .int .u8 41] W (zB R f tx p false W)))
 have c0 := Blk.cell h 0
 obtain ⟨x, hx⟩ : ∃ x, x = tb tx := ⟨_, rfl⟩
 have hxz : x.size = tx.length := by rw [hx, aB]
 have hxd : x.data.toList = tx := by rw [hx, aI]
 have hlt : p < x.size := by have := (ba (aR hat)).1; omega
 have hb := aF x p hlt
 rw [hxd, hat] at hb
 have hxp : x[p] = c := (Option.some.inj hb).symm
 have d0 : w.cell? ⟨R, 0, none⟩ = some (.string x) := by rw [hx]; exact c0
 have d1 : w.cell? ⟨R, 1, none⟩ = some (.int .i64 p) := Blk.cell h 1
 have HXP := GR hxp
 have HXZ := GR hxz
 have HX := GR hx
 have HD := GR (aR hat)
 have H := GR h
 have hR := h.lt
 have hR1 : R < w.heap.size + 1 := by omega
 have hR2 : R < w.heap.size + 1 + 1 := by omega
 have hp1 : p + 1 ≤ 1048576 := by omega
 have e1 : ((p + 1 : Nat) : Int) = (p : Int) + 1 := by omega
 have HE := GR e1
 clear hb hxd hx c0 hxp hxz h hat e1
 have e46 : ((c.toNat : Int) == 46) = false := by rw [hc]; rfl
 have e63 : ((c.toNat : Int) == 63) = false := by rw [hc]; rfl
 have e40 : ((c.toNat : Int) == 40) = true := by rw [hc]; rfl
 have e123 : ((c.toNat : Int) == 123) = false := by rw [hc]; rfl
 have e94 : ((c.toNat : Int) == 94) = false := by rw [hc]; rfl
 have e61 : ((c.toNat : Int) == 61) = false := by rw [hc]; rfl
 have e35 : ((c.toNat : Int) == 35) = false := by rw [hc]; rfl
 have HL := GR (fun W => (by have := cr c W; rw [show a7 c = false by rw [hc]; rfl] at this; exact this : Calls Tryz.prog 161 #[.int .u8 c.toNat] W fun e w' => e = .returned (.bool false) ∧ W = w'))
 have HC := GR hc
 obtain ⟨i0, hi, hz0, hz1, hz2⟩ := info_parts ig
 clear hc HB
 go_enter Tryz.func197, Tryz.ntmps197
 go_upto_region 1 with fail
 go_cut [3] (fun s3 wx => ∃ OB XB, s3 = .pointer (some ⟨OB, 0, none⟩) ∧ Begun w c OB XB wx)
 case first =>
  go_region
  all_goals (go_wp2_with fail; go_meet)
  all_goals rw [HXP.out]
  case rel => exact ⟨_, _, rfl, fy w c⟩
  case rel => exact ⟨_, _, rfl, fA w c⟩
 case rest =>
  obtain ⟨OB, XB, rfl, hst⟩ := hcut
  clear d0 d1
  have hlO := hst.ltO
  have hOR : OB ≠ R := by omega
  have hQR : w.heap.size ≠ R := by omega
  have hOQ : OB ≠ w.heap.size := by omega
  have k0 : wc.cell? ⟨OB, 0, none⟩ = some (.int .u8 c.toNat) := hst.item.cell 0
  have hm : Mrd wc R tx p false f := Blk.below H.out hst.below hR
  have d0 : wc.cell? ⟨R, 0, none⟩ = some (.string x) := by rw [HX.out]; exact Blk.cell hm 0
  have d1 : wc.cell? ⟨R, 1, none⟩ = some (.int .i64 p) := Blk.cell hm 1
  have g1 : wc.frozen? ⟨R, 1, none⟩ = false := Blk.frozen hm 1
  have m1 : Mrd (wc.setCell ⟨R, 1, none⟩ (.int .i64 ((p : Int) + 1))) R tx (p + 1) false f := by
   unfold Mrd
   rw [HE.out]; exact Blk.set_ hm 1 (.int .i64 ((p : Int) + 1))
  have i1 := av hst.item hOR 1 (.int .i64 ((p : Int) + 1))
  have r1 := av hst.res hQR 1 (.int .i64 ((p : Int) + 1))
  have HM1 := GR m1
  have HI1 := GR i1
  have HR1 := GR r1
  have HST := GR hst
  have hM0 := (hst.made H.out hR).drew 1
  have HM0 := GR hM0
  have q0 : wc.cell? ⟨OB, 3, none⟩ = some (.slice (some ⟨XB, 0, none⟩) 0 0) := hst.item.cell 3
  clear hm m1 i1 r1 hst HM1 HI1 HR1 hM0
  go_wp2_with fail
  refine (HL.out _).mono ?_
  rintro e w2 ⟨rfl, rfl⟩
  go_wp2_with fail
  go_region_law (first
   | (refine step_append_lies _ (by rfl) _ _ _ (by rfl) (w.heap.size + 1) 165 i0 _ 1 24 Tryz.underlying170 hi hz0 hz1 hz2 rfl (by omega) _ _ _ (by rfl) ((ek HM0.out.row ho2.out (by omega)).alloc _) ⟨w2.heap.size, 0, none⟩ 1 1 [.slice A2 m2 k2] (by rfl) (by rfl) (World.news_of_block (cs := #[.slice A2 m2 k2]) (t := 165) (fr := (0, 0)) (heap_alloc_new w2 _)) (by simp [Value.oneCell']) (by omega) (by unfold maxLen; decide) (by decide) ?_ (w2.heap.size + 1) (by simp) ?_
      · simp; omega
      intro gg capg w5 hown5 hgrow hat5 hltg
      have q6 : w5.cell? ⟨OB, 3, none⟩ = some (.slice (some ⟨XB, 0, none⟩) 0 0) := (HM0.out.grown hOR ho2.out hgrow).cell 3
      have q7 := (HM0.out.grown hOR ho2.out hgrow).frozen 3)
   | (go_simp; go_at_call 217; refine (HFR.out _ HM0.out.rd).mono ?_; rintro e w2 ⟨A2, m2, k2, rfl, ho2, hr2⟩; have q5 : w2.cell? ⟨OB, 3, none⟩ = some (.slice (some ⟨XB, 0, none⟩) 0 0) := (cj HM0.out.item ho2.out hOR).cell 3; have hlw : w.heap.size + 1 ≤ w2.heap.size := (by have := HM0.out.only.size; have := ho2.out.size; have := HM0.out.item.lt; omega); have hO2 : OB < w2.heap.size := (cj HM0.out.item ho2.out hOR).lt)
   | fail)
  all_goals
   rcases hr2.out with ⟨l, p', hf9, hl, hdq, hpp, hpl, hrow, hm⟩ | ⟨p', hno, hfar, hm⟩
   ·have HM := GR (HM0.out.step (l := l) hR hOR hlO ho2.out hm (fun _ => hrow) hown5 hgrow hat5)
    have HMR : Hid (Blk (w5.setCell ⟨OB, 3, none⟩ (.slice (some ⟨gg, 0, none⟩) 1 capg)) w.heap.size 172 #[.int .u8 0, .string ⟨#[]⟩, .int .i64 0, .slice none 0 0]) := HM.out.res
    have HMI : Hid (Blk (w5.setCell ⟨OB, 3, none⟩ (.slice (some ⟨gg, 0, none⟩) 1 capg)) OB 172 #[.int .u8 c.toNat, .string ⟨#[]⟩, .int .i64 0, .slice (some ⟨gg, 0, none⟩) 1 capg]) := HM.out.item
    have HL5 := GR hl
    have HDQ := GR hdq
    clear hm hrow hown5 hgrow hat5 hr2 ho2 hl hdq q5 q6 q7
    have hI9 := HMI.out
    have hR9 := HMR.out
    have l0 := hI9.cell 0
    have l1 := hI9.cell 1
    have l2 := hI9.cell 2
    have l3 := hI9.cell 3
    have z0 := hR9.cell 0
    have z1 := hR9.cell 1
    have z2 := hR9.cell 2
    have z3 := hR9.cell 3
    have y0 := hR9.frozen 0
    have y1 := hR9.frozen 1
    have y2 := hR9.frozen 2
    have y3 := hR9.frozen 3
    clear hI9 hR9
    go_wp2_with fail
    have V := bL HMR.out (.int .u8 c.toNat) (.string ⟨#[]⟩) (.int .i64 0) (.slice (some ⟨gg, 0, none⟩) 1 capg)
    have v0 := V.cell 0
    have v1 := V.cell 1
    have v2 := V.cell 2
    have v3 := V.cell 3
    unfold dt at v0 v1 v2 v3
    refine bodyPost_ret (v := .agg #[.int .u8 c.toNat, .string ⟨#[]⟩, .int .i64 0, .slice (some ⟨gg, 0, none⟩) 1 capg]) (by simp [results, Tryz.results197, go_sem, v0, v1, v2, v3]) rfl ?_
    clear v0 v1 v2 v3 V
    refine .inl ⟨.frame false l, p', _, _, _, ⟨by rw [aC]; exact ⟨hf9, HL5.out⟩, .inr trivial, by rw [HDQ.out, aK]; simp⟩, hpp, hpl, by rw [HC.out]; rfl, HM.out.bodies rfl _ _ _ _, bM HM.out.rd hQR.symm _ _ _ _, bj HM.out.only (Nat.le_refl _) _ _ _ _⟩
   ·have HM := GR (HM0.out.step (l := []) (bad' := true) hR hOR hlO ho2.out hm (fun e => by cases e) hown5 hgrow hat5)
    have HMR : Hid (Blk (w5.setCell ⟨OB, 3, none⟩ (.slice (some ⟨gg, 0, none⟩) 1 capg)) w.heap.size 172 #[.int .u8 0, .string ⟨#[]⟩, .int .i64 0, .slice none 0 0]) := HM.out.res
    have HMI : Hid (Blk (w5.setCell ⟨OB, 3, none⟩ (.slice (some ⟨gg, 0, none⟩) 1 capg)) OB 172 #[.int .u8 c.toNat, .string ⟨#[]⟩, .int .i64 0, .slice (some ⟨gg, 0, none⟩) 1 capg]) := HM.out.item
    have HNO := GR hno
    clear hm hown5 hgrow hat5 hr2 ho2 hno q5 q6 q7
    have hI9 := HMI.out
    have hR9 := HMR.out
    have l0 := hI9.cell 0
    have l1 := hI9.cell 1
    have l2 := hI9.cell 2
    have l3 := hI9.cell 3
    have z0 := hR9.cell 0
    have z1 := hR9.cell 1
    have z2 := hR9.cell 2
    have z3 := hR9.cell 3
    have y0 := hR9.frozen 0
    have y1 := hR9.frozen 1
    have y2 := hR9.frozen 2
    have y3 := hR9.frozen 3
    clear hI9 hR9
    go_wp2_with fail
    have V := bL HMR.out (.int .u8 c.toNat) (.string ⟨#[]⟩) (.int .i64 0) (.slice (some ⟨gg, 0, none⟩) 1 capg)
    have v0 := V.cell 0
    have v1 := V.cell 1
    have v2 := V.cell 2
    have v3 := V.cell 3
    unfold dt at v0 v1 v2 v3
    refine bodyPost_ret (v := .agg #[.int .u8 c.toNat, .string ⟨#[]⟩, .int .i64 0, .slice (some ⟨gg, 0, none⟩) 1 capg]) (by simp [results, Tryz.results197, go_sem, v0, v1, v2, v3]) rfl ?_
    clear v0 v1 v2 v3 V
    exact .inr ⟨c.toNat, ⟨#[]⟩, 0, _, _, _, p', HNO.out, by omega, rfl, bM HM.out.rd hQR.symm _ _ _ _, bj HM.out.only (Nat.le_refl _) _ _ _ _⟩
end Go.Proofs.YtlkfakdghjaoaaaGreatDoor
namespace Go.Proofs.YtlkfakdghjaoaaaGreatDoor
open Go.RowKit Go.Sort
theorem pP (n : Nat) (HB : eV n) (R f p : Nat) (tx : List UInt8) (c : UInt8) (w : World) (hc : c = 123) (hat : tx[p]? = some c) (hn : tx.length - p ≤ n + 1) (htx : tx.length ≤ 1048576) (hf : f ≤ 9) (h : Mrd w R tx p false f) :
  Calls Tryz.prog 197 #[.pointer (some ⟨R, 0, none⟩)] w (dF R f tx p w) := by
 have HFR := GR (fun W (k : Mrd W R tx p false f) => (qz n HB R f p tx true W (by rw [hat, hc]; rfl) hn (by have := (ba (aR hat)).1; omega) htx hf k : Calls Tryz.prog 217 #[.pointer (some ⟨R, 0, none⟩), .int .u8 123, .int .u8 125] W (zB R f tx p true W)))
 have c0 := Blk.cell h 0
 obtain ⟨x, hx⟩ : ∃ x, x = tb tx := ⟨_, rfl⟩
 have hxz : x.size = tx.length := by rw [hx, aB]
 have hxd : x.data.toList = tx := by rw [hx, aI]
 have hlt : p < x.size := by have := (ba (aR hat)).1; omega
 have hb := aF x p hlt
 rw [hxd, hat] at hb
 have hxp : x[p] = c := (Option.some.inj hb).symm
 have d0 : w.cell? ⟨R, 0, none⟩ = some (.string x) := by rw [hx]; exact c0
 have d1 : w.cell? ⟨R, 1, none⟩ = some (.int .i64 p) := Blk.cell h 1
 have HXP := GR hxp
 have HXZ := GR hxz
 have HX := GR hx
 have HD := GR (aR hat)
 have H := GR h
 have hR := h.lt
 have hR1 : R < w.heap.size + 1 := by omega
 have hR2 : R < w.heap.size + 1 + 1 := by omega
 have hp1 : p + 1 ≤ 1048576 := by omega
 have e1 : ((p + 1 : Nat) : Int) = (p : Int) + 1 := by omega
 have HE := GR e1
 clear hb hxd hx c0 hxp hxz h hat e1
 have e46 : ((c.toNat : Int) == 46) = false := by rw [hc]; rfl
 have e63 : ((c.toNat : Int) == 63) = false := by rw [hc]; rfl
 have e40 : ((c.toNat : Int) == 40) = false := by rw [hc]; rfl
 have e123 : ((c.toNat : Int) == 123) = true := by rw [hc]; rfl
 have e94 : ((c.toNat : Int) == 94) = false := by rw [hc]; rfl
 have e61 : ((c.toNat : Int) == 61) = false := by rw [hc]; rfl
 have e35 : ((c.toNat : Int) == 35) = false := by rw [hc]; rfl
 have HL := GR (fun W => (by have := cr c W; rw [show a7 c = false by rw [hc]; rfl] at this; exact this : Calls Tryz.prog 161 #[.int .u8 c.toNat] W fun e w' => e = .returned (.bool false) ∧ W = w'))
 have HC := GR hc
 obtain ⟨i0, hi, hz0, hz1, hz2⟩ := info_parts ig
 clear hc HB
 go_enter Tryz.func197, Tryz.ntmps197
 go_upto_region 1 with fail
 go_cut [3] (fun s3 wx => ∃ OB XB, s3 = .pointer (some ⟨OB, 0, none⟩) ∧ Begun w c OB XB wx)
 case first =>
  go_region
  all_goals (go_wp2_with fail; go_meet)
  all_goals rw [HXP.out]
  case rel => exact ⟨_, _, rfl, fy w c⟩
  case rel => exact ⟨_, _, rfl, fA w c⟩
 case rest =>
  obtain ⟨OB, XB, rfl, hst⟩ := hcut
  clear d0 d1
  have hlO := hst.ltO
  have hOR : OB ≠ R := by omega
  have hQR : w.heap.size ≠ R := by omega
  have hOQ : OB ≠ w.heap.size := by omega
  have k0 : wc.cell? ⟨OB, 0, none⟩ = some (.int .u8 c.toNat) := hst.item.cell 0
  have hm : Mrd wc R tx p false f := Blk.below H.out hst.below hR
  have d0 : wc.cell? ⟨R, 0, none⟩ = some (.string x) := by rw [HX.out]; exact Blk.cell hm 0
  have d1 : wc.cell? ⟨R, 1, none⟩ = some (.int .i64 p) := Blk.cell hm 1
  have g1 : wc.frozen? ⟨R, 1, none⟩ = false := Blk.frozen hm 1
  have m1 : Mrd (wc.setCell ⟨R, 1, none⟩ (.int .i64 ((p : Int) + 1))) R tx (p + 1) false f := by
   unfold Mrd
   rw [HE.out]; exact Blk.set_ hm 1 (.int .i64 ((p : Int) + 1))
  have i1 := av hst.item hOR 1 (.int .i64 ((p : Int) + 1))
  have r1 := av hst.res hQR 1 (.int .i64 ((p : Int) + 1))
  have HM1 := GR m1
  have HI1 := GR i1
  have HR1 := GR r1
  have HST := GR hst
  have hM0 := (hst.made H.out hR).drew 1
  have HM0 := GR hM0
  have q0 : wc.cell? ⟨OB, 3, none⟩ = some (.slice (some ⟨XB, 0, none⟩) 0 0) := hst.item.cell 3
  clear hm m1 i1 r1 hst HM1 HI1 HR1 hM0
  go_wp2_with fail
  refine (HL.out _).mono ?_
  rintro e w2 ⟨rfl, rfl⟩
  go_wp2_with fail
  go_region_law (first
   | (refine step_append_lies _ (by rfl) _ _ _ (by rfl) (w.heap.size + 1) 165 i0 _ 1 24 Tryz.underlying170 hi hz0 hz1 hz2 rfl (by omega) _ _ _ (by rfl) ((ek HM0.out.row ho2.out (by omega)).alloc _) ⟨w2.heap.size, 0, none⟩ 1 1 [.slice A2 m2 k2] (by rfl) (by rfl) (World.news_of_block (cs := #[.slice A2 m2 k2]) (t := 165) (fr := (0, 0)) (heap_alloc_new w2 _)) (by simp [Value.oneCell']) (by omega) (by unfold maxLen; decide) (by decide) ?_ (w2.heap.size + 1) (by simp) ?_
      · simp; omega
      intro gg capg w5 hown5 hgrow hat5 hltg
      have q6 : w5.cell? ⟨OB, 3, none⟩ = some (.slice (some ⟨XB, 0, none⟩) 0 0) := (HM0.out.grown hOR ho2.out hgrow).cell 3
      have q7 := (HM0.out.grown hOR ho2.out hgrow).frozen 3)
   | (go_simp; go_at_call 217; refine (HFR.out _ HM0.out.rd).mono ?_; rintro e w2 ⟨A2, m2, k2, rfl, ho2, hr2⟩; have q5 : w2.cell? ⟨OB, 3, none⟩ = some (.slice (some ⟨XB, 0, none⟩) 0 0) := (cj HM0.out.item ho2.out hOR).cell 3; have hlw : w.heap.size + 1 ≤ w2.heap.size := (by have := HM0.out.only.size; have := ho2.out.size; have := HM0.out.item.lt; omega); have hO2 : OB < w2.heap.size := (cj HM0.out.item ho2.out hOR).lt)
   | fail)
  all_goals
   rcases hr2.out with ⟨l, p', hf9, hl, hdq, hpp, hpl, hrow, hm⟩ | ⟨p', hno, hfar, hm⟩
   ·have HM := GR (HM0.out.step (l := l) hR hOR hlO ho2.out hm (fun _ => hrow) hown5 hgrow hat5)
    have HMR : Hid (Blk (w5.setCell ⟨OB, 3, none⟩ (.slice (some ⟨gg, 0, none⟩) 1 capg)) w.heap.size 172 #[.int .u8 0, .string ⟨#[]⟩, .int .i64 0, .slice none 0 0]) := HM.out.res
    have HMI : Hid (Blk (w5.setCell ⟨OB, 3, none⟩ (.slice (some ⟨gg, 0, none⟩) 1 capg)) OB 172 #[.int .u8 c.toNat, .string ⟨#[]⟩, .int .i64 0, .slice (some ⟨gg, 0, none⟩) 1 capg]) := HM.out.item
    have HL5 := GR hl
    have HDQ := GR hdq
    clear hm hrow hown5 hgrow hat5 hr2 ho2 hl hdq q5 q6 q7
    have hI9 := HMI.out
    have hR9 := HMR.out
    have l0 := hI9.cell 0
    have l1 := hI9.cell 1
    have l2 := hI9.cell 2
    have l3 := hI9.cell 3
    have z0 := hR9.cell 0
    have z1 := hR9.cell 1
    have z2 := hR9.cell 2
    have z3 := hR9.cell 3
    have y0 := hR9.frozen 0
    have y1 := hR9.frozen 1
    have y2 := hR9.frozen 2
    have y3 := hR9.frozen 3
    clear hI9 hR9
    go_wp2_with fail
    have V := bL HMR.out (.int .u8 c.toNat) (.string ⟨#[]⟩) (.int .i64 0) (.slice (some ⟨gg, 0, none⟩) 1 capg)
    have v0 := V.cell 0
    have v1 := V.cell 1
    have v2 := V.cell 2
    have v3 := V.cell 3
    unfold dt at v0 v1 v2 v3
    refine bodyPost_ret (v := .agg #[.int .u8 c.toNat, .string ⟨#[]⟩, .int .i64 0, .slice (some ⟨gg, 0, none⟩) 1 capg]) (by simp [results, Tryz.results197, go_sem, v0, v1, v2, v3]) rfl ?_
    clear v0 v1 v2 v3 V
    refine .inl ⟨.frame true l, p', _, _, _, ⟨by rw [aC]; exact ⟨hf9, HL5.out⟩, .inr trivial, by rw [HDQ.out, aK]; simp⟩, hpp, hpl, by rw [HC.out]; rfl, HM.out.bodies rfl _ _ _ _, bM HM.out.rd hQR.symm _ _ _ _, bj HM.out.only (Nat.le_refl _) _ _ _ _⟩
   ·have HM := GR (HM0.out.step (l := []) (bad' := true) hR hOR hlO ho2.out hm (fun e => by cases e) hown5 hgrow hat5)
    have HMR : Hid (Blk (w5.setCell ⟨OB, 3, none⟩ (.slice (some ⟨gg, 0, none⟩) 1 capg)) w.heap.size 172 #[.int .u8 0, .string ⟨#[]⟩, .int .i64 0, .slice none 0 0]) := HM.out.res
    have HMI : Hid (Blk (w5.setCell ⟨OB, 3, none⟩ (.slice (some ⟨gg, 0, none⟩) 1 capg)) OB 172 #[.int .u8 c.toNat, .string ⟨#[]⟩, .int .i64 0, .slice (some ⟨gg, 0, none⟩) 1 capg]) := HM.out.item
    have HNO := GR hno
    clear hm hown5 hgrow hat5 hr2 ho2 hno q5 q6 q7
    have hI9 := HMI.out
    have hR9 := HMR.out
    have l0 := hI9.cell 0
    have l1 := hI9.cell 1
    have l2 := hI9.cell 2
    have l3 := hI9.cell 3
    have z0 := hR9.cell 0
    have z1 := hR9.cell 1
    have z2 := hR9.cell 2
    have z3 := hR9.cell 3
    have y0 := hR9.frozen 0
    have y1 := hR9.frozen 1
    have y2 := hR9.frozen 2
    have y3 := hR9.frozen 3
    clear hI9 hR9
    go_wp2_with fail
    have V := bL HMR.out (.int .u8 c.toNat) (.string ⟨#[]⟩) (.int .i64 0) (.slice (some ⟨gg, 0, none⟩) 1 capg)
    have v0 := V.cell 0
    have v1 := V.cell 1
    have v2 := V.cell 2
    have v3 := V.cell 3
    unfold dt at v0 v1 v2 v3
    refine bodyPost_ret (v := .agg #[.int .u8 c.toNat, .string ⟨#[]⟩, .int .i64 0, .slice (some ⟨gg, 0, none⟩) 1 capg]) (by simp [results, Tryz.results197, go_sem, v0, v1, v2, v3]) rfl ?_
    clear v0 v1 v2 v3 V
    exact .inr ⟨c.toNat, ⟨#[]⟩, 0, _, _, _, p', HNO.out, by omega, rfl, bM HM.out.rd hQR.symm _ _ _ _, bj HM.out.only (Nat.le_refl _) _ _ _ _⟩
end Go.Proofs.YtlkfakdghjaoaaaGreatDoor
namespace Go.Proofs.YtlkfakdghjaoaaaGreatDoor
open Go.RowKit Go.Sort
def qA (R f : Nat) (tx : List UInt8) (p : Nat) (b c : UInt8) (bad : Bool) (w : World) (e : Ending) (w' : World) : Prop :=
 ∃ A m k, e = .returned (.slice A m k) ∧ Hid (Only R w w') ∧ Hid ((bad = false ∧ ∃ l p', az l f ∧ tx.drop p = b :: (aH l ++ c :: tx.drop p') ∧ p < p' ∧ p' ≤ tx.length ∧ MRowAt w' (bi w) l (.slice A m k) ∧ Mrd w' R tx p' false f) ∨ (∃ p', (bad = false → ∀ l r, az l f → tx.drop p ≠ b :: (aH l ++ c :: r)) ∧ (bad = false → p' + 3 * p ≤ 4 * tx.length + 2) ∧ (bad = true → p' = p + 2) ∧ Mrd w' R tx p' true f))
theorem lc (n : Nat) (HB : eV n) (R f p : Nat) (tx : List UInt8) (b c : UInt8) (w : World) (hc : c = 41 ∨ c = 125 ∨ c = 93) (hn : tx.length - p ≤ n + 1) (hp : p ≤ tx.length) (htx : tx.length ≤ 1048576) (hf : f ≤ 9) (h : Mrd w R tx p false f) :
  Calls Tryz.prog 216 #[.pointer (some ⟨R, 0, none⟩), .int .u8 b.toNat, .int .u8 c.toNat] w (qA R f tx p b c false w) := by
 refine (pc n HB R f p tx b c w hc hn hp htx hf h).mono ?_
 rintro e w' (⟨l, p', A, m, k, h2, h3, h4, h5, rfl, h6, h7, h8⟩ | ⟨A, m, k, p', h1, h2, rfl, h3, h4⟩)
 ·exact ⟨A, m, k, rfl, h8, .inl ⟨rfl, l, p', h2, h3, h4, h5, h6, h7⟩⟩
 ·exact ⟨A, m, k, rfl, h4, .inr ⟨p', fun _ => h1, fun _ => h2, (fun e => by cases e), h3⟩⟩
theorem qB (R f p : Nat) (tx : List UInt8) (b c : UInt8) (w : World) (hp : p ≤ 8388600) (h : Mrd w R tx p true f) :
  Calls Tryz.prog 216 #[.pointer (some ⟨R, 0, none⟩), .int .u8 b.toNat, .int .u8 c.toNat] w (qA R f tx p b c true w) := by
 refine (pb R f p tx b c w hp h).mono ?_
 rintro e w' ⟨A, m, k, rfl, h1, h2⟩
 exact ⟨A, m, k, rfl, h2, .inr ⟨p + 2, (fun e => by cases e), (fun e => by cases e), fun _ => rfl, h1⟩⟩
theorem nJ (R f p : Nat) (tx : List UInt8) (c : UInt8) (w : World) (hc : c = 63) (hat : tx[p]? = some c) (hno : ∀ b, tx[p + 1]? = some b → a7 b = false) (htx : tx.length ≤ 1048576) (h : Mrd w R tx p false f) :
  Calls Tryz.prog 197 #[.pointer (some ⟨R, 0, none⟩)] w (dF R f tx p w) := by
 have c0 := Blk.cell h 0
 obtain ⟨x, hx⟩ : ∃ x, x = tb tx := ⟨_, rfl⟩
 have hxz : x.size = tx.length := by rw [hx, aB]
 have hxd : x.data.toList = tx := by rw [hx, aI]
 have hlt : p < x.size := by have := (ba (aR hat)).1; omega
 have hb := aF x p hlt
 rw [hxd, hat] at hb
 have hxp : x[p] = c := (Option.some.inj hb).symm
 have d0 : w.cell? ⟨R, 0, none⟩ = some (.string x) := by rw [hx]; exact c0
 have d1 : w.cell? ⟨R, 1, none⟩ = some (.int .i64 p) := Blk.cell h 1
 have HXP := GR hxp
 have HXZ := GR hxz
 have HX := GR hx
 have HD := GR (aR hat)
 have H := GR h
 have hR := h.lt
 have hR1 : R < w.heap.size + 1 := by omega
 have hR2 : R < w.heap.size + 1 + 1 := by omega
 have hp1 : p + 1 ≤ 1048576 := by omega
 have e1 : ((p + 1 : Nat) : Int) = (p : Int) + 1 := by omega
 have HE := GR e1
 clear hb hxd hx c0 hxp hxz h hat e1
 have e46 : ((c.toNat : Int) == 46) = false := by rw [hc]; rfl
 have e63 : ((c.toNat : Int) == 63) = true := by rw [hc]; rfl
 have e40 : ((c.toNat : Int) == 40) = false := by rw [hc]; rfl
 have e123 : ((c.toNat : Int) == 123) = false := by rw [hc]; rfl
 have e94 : ((c.toNat : Int) == 94) = false := by rw [hc]; rfl
 have e61 : ((c.toNat : Int) == 61) = false := by rw [hc]; rfl
 have e35 : ((c.toNat : Int) == 35) = false := by rw [hc]; rfl
 have HL := GR (fun W => (by have := cr c W; rw [show a7 c = false by rw [hc]; rfl] at this; exact this : Calls Tryz.prog 161 #[.int .u8 c.toNat] W fun e w' => e = .returned (.bool false) ∧ W = w'))
 have HC := GR hc
 have HNB := GR hno
 have hxd2 : x.data.toList = tx := by rw [HX.out, aI]
 have HXD := GR hxd2
 have s1 : ((p : Int) + 1).toNat = p + 1 := by omega
 have s2 : (0 : Int) ≤ (p : Int) + 1 := by omega
 have HNO : Hid (dB f (tx.drop p)) := by
  show dB f (tx.drop p)
  rw [HD.out, hc]
  cases hg : tx[p + 1]? with
  | none =>
   have : tx.drop (p + 1) = [] := by
    apply List.drop_eq_nil_of_le
    rcases Nat.lt_or_ge (p + 1) tx.length with q | q
    ·rw [List.getElem?_eq_getElem q] at hg; cases hg
    ·exact q
   rw [this]; exact pr f
  | some b => rw [aR hg]; exact om (hno b hg)
 clear hc hno hxd2
 go_enter Tryz.func197, Tryz.ntmps197
 go_upto_region 1 with fail
 go_cut [3] (fun s3 wx => ∃ OB XB, s3 = .pointer (some ⟨OB, 0, none⟩) ∧ Begun w c OB XB wx)
 case first =>
  go_region
  all_goals (go_wp2_with fail; go_meet)
  all_goals rw [HXP.out]
  case rel => exact ⟨_, _, rfl, fy w c⟩
  case rel => exact ⟨_, _, rfl, fA w c⟩
 case rest =>
  obtain ⟨OB, XB, rfl, hst⟩ := hcut
  clear d0 d1
  have hlO := hst.ltO
  have hOR : OB ≠ R := by omega
  have hQR : w.heap.size ≠ R := by omega
  have hOQ : OB ≠ w.heap.size := by omega
  have k0 : wc.cell? ⟨OB, 0, none⟩ = some (.int .u8 c.toNat) := hst.item.cell 0
  have hm : Mrd wc R tx p false f := Blk.below H.out hst.below hR
  have d0 : wc.cell? ⟨R, 0, none⟩ = some (.string x) := by rw [HX.out]; exact Blk.cell hm 0
  have d1 : wc.cell? ⟨R, 1, none⟩ = some (.int .i64 p) := Blk.cell hm 1
  have g1 : wc.frozen? ⟨R, 1, none⟩ = false := Blk.frozen hm 1
  have m1 : Mrd (wc.setCell ⟨R, 1, none⟩ (.int .i64 ((p : Int) + 1))) R tx (p + 1) false f := by
   unfold Mrd
   rw [HE.out]; exact Blk.set_ hm 1 (.int .i64 ((p : Int) + 1))
  have i1 := av hst.item hOR 1 (.int .i64 ((p : Int) + 1))
  have r1 := av hst.res hQR 1 (.int .i64 ((p : Int) + 1))
  have HM1 := GR m1
  have HI1 := GR i1
  have HR1 := GR r1
  have HST := GR hst
  have hM1 : Made w R tx (p + 1) false f (.int .u8 c.toNat) (.string ⟨#[]⟩) (.int .i64 0) OB [] [] (.slice (some ⟨XB, 0, none⟩) 0 0) (wc.setCell ⟨R, 1, none⟩ (.int .i64 ((p : Int) + 1))) := (hst.made H.out hR).reader hR hOR 1 _ m1
  have HMA := GR hM1
  clear hm m1 i1 r1 hst HM1 HI1 HR1 hM1
  have d0' := Blk.cell HMA.out.rd 0
  have d1' := Blk.cell HMA.out.rd 1
  have d0'' : (wc.setCell ⟨R, 1, none⟩ (.int .i64 ((p : Int) + 1))).cell? ⟨R, 0, none⟩ = some (.string x) := by rw [HX.out]; exact d0'
  have d1'' : (wc.setCell ⟨R, 1, none⟩ (.int .i64 ((p : Int) + 1))).cell? ⟨R, 1, none⟩ = some (.int .i64 ((p : Int) + 1)) := by rw [← HE.out]; exact d1'
  clear d0' d1'
  go_wp2_with fail
  refine (HL.out _).mono ?_
  rintro e w2 ⟨rfl, rfl⟩
  go_wp2_with fail
  generalize wc.setCell ⟨R, 1, none⟩ (.int .i64 ((p : Int) + 1)) = WA at *
  by_cases hlt1 : p + 1 < x.size
  ·have hb1 := aF x (p + 1) hlt1
   have hlb : a7 x[p + 1] = false := HNB.out _ (by rw [← HXD.out]; exact hb1)
   have q0 : decide ((x.size : Int) ≤ (p : Int) + 1) = false := decide_eq_false (by omega)
   have q1 : ¬ x.size ≤ p + 1 := by omega
   have q2 : (p : Int) + 1 < (x.size : Int) := by omega
   have tC := fun n => (by have := Calls.quiet_of_same ((cr x[p + 1] (WA.drewN n)).mono fun _ _ ⟨a, b⟩ => ⟨a, b.symm⟩); rw [hlb] at this; exact this)
   clear hb1 hlb
   go_quiet (with_reducible exact tC _)
   have HMB := GR (HMA.out.drew nq)
   generalize WA.drewN nq = WB at *
   clear tC d0'' d1''
   have x2 : WB.cell? ⟨R, 2, none⟩ = some (.bool false) := Blk.cell HMB.out.rd 2
   have x3 := Blk.frozen HMB.out.rd 2
   have HM2 := GR (HMB.out.reader (q' := p + 1) (bad' := true) hR hOR 2 (.bool true) (Blk.set_ HMB.out.rd 2 (.bool true)))
   have hI9 := HM2.out.item
   have hR9 := HM2.out.res
   have l0 := hI9.cell 0
   have l1 := hI9.cell 1
   have l2 := hI9.cell 2
   have l3 := hI9.cell 3
   have z0 := hR9.cell 0
   have z1 := hR9.cell 1
   have z2 := hR9.cell 2
   have z3 := hR9.cell 3
   have y0 := hR9.frozen 0
   have y1 := hR9.frozen 1
   have y2 := hR9.frozen 2
   have y3 := hR9.frozen 3
   clear hI9 hR9
   go_wp2_with fail
   have V := bL HM2.out.res (.int .u8 c.toNat) (.string ⟨#[]⟩) (.int .i64 0) (.slice (some ⟨XB, 0, none⟩) 0 0)
   have v0 := V.cell 0
   have v1 := V.cell 1
   have v2 := V.cell 2
   have v3 := V.cell 3
   unfold dt at v0 v1 v2 v3
   refine bodyPost_ret (v := .agg #[.int .u8 c.toNat, .string ⟨#[]⟩, .int .i64 0, .slice (some ⟨XB, 0, none⟩) 0 0]) (by simp [results, Tryz.results197, go_sem, v0, v1, v2, v3]) rfl ?_
   clear v0 v1 v2 v3 V
   exact .inr ⟨c.toNat, ⟨#[]⟩, 0, _, _, _, p + 1, HNO.out, by have := HXZ.out; omega, rfl, bM HM2.out.rd hQR.symm _ _ _ _, bj HM2.out.only (Nat.le_refl _) _ _ _ _⟩
  ·have q0 : decide ((x.size : Int) ≤ (p : Int) + 1) = true := decide_eq_true (by omega)
   have q1 : x.size ≤ p + 1 := by omega
   go_quiet (fail)
   have HMB := GR (HMA.out.drew nq)
   generalize WA.drewN nq = WB at *
   clear d0'' d1''
   have x2 : WB.cell? ⟨R, 2, none⟩ = some (.bool false) := Blk.cell HMB.out.rd 2
   have x3 := Blk.frozen HMB.out.rd 2
   have HM2 := GR (HMB.out.reader (q' := p + 1) (bad' := true) hR hOR 2 (.bool true) (Blk.set_ HMB.out.rd 2 (.bool true)))
   have hI9 := HM2.out.item
   have hR9 := HM2.out.res
   have l0 := hI9.cell 0
   have l1 := hI9.cell 1
   have l2 := hI9.cell 2
   have l3 := hI9.cell 3
   have z0 := hR9.cell 0
   have z1 := hR9.cell 1
   have z2 := hR9.cell 2
   have z3 := hR9.cell 3
   have y0 := hR9.frozen 0
   have y1 := hR9.frozen 1
   have y2 := hR9.frozen 2
   have y3 := hR9.frozen 3
   clear hI9 hR9
   go_wp2_with fail
   have V := bL HM2.out.res (.int .u8 c.toNat) (.string ⟨#[]⟩) (.int .i64 0) (.slice (some ⟨XB, 0, none⟩) 0 0)
   have v0 := V.cell 0
   have v1 := V.cell 1
   have v2 := V.cell 2
   have v3 := V.cell 3
   unfold dt at v0 v1 v2 v3
   refine bodyPost_ret (v := .agg #[.int .u8 c.toNat, .string ⟨#[]⟩, .int .i64 0, .slice (some ⟨XB, 0, none⟩) 0 0]) (by simp [results, Tryz.results197, go_sem, v0, v1, v2, v3]) rfl ?_
   clear v0 v1 v2 v3 V
   exact .inr ⟨c.toNat, ⟨#[]⟩, 0, _, _, _, p + 1, HNO.out, by have := HXZ.out; omega, rfl, bM HM2.out.rd hQR.symm _ _ _ _, bj HM2.out.only (Nat.le_refl _) _ _ _ _⟩
end Go.Proofs.YtlkfakdghjaoaaaGreatDoor
namespace Go.Proofs.YtlkfakdghjaoaaaGreatDoor
open Go.RowKit Go.Sort
def AskMid (w : World) (R : Nat) (tx : List UInt8) (p f : Nat) (c b : UInt8) (OB : Nat) (wx : World) : Prop :=
 ∃ l u gg cap q bad, Made w R tx q bad f (.int .u8 c.toNat) (.string (tb [b])) (.int .i64 0) OB [l] [u] (.slice (some ⟨gg, 0, none⟩) 1 cap) wx ∧
  (bad = false → az l f ∧ tx.drop (p + 2) = 91 :: (aH l ++ 93 :: tx.drop q) ∧ p + 2 < q ∧ q ≤ tx.length) ∧ (bad = true → dB f (tx.drop p) ∧ q + 3 * (p + 2) ≤ 4 * tx.length + 2)
theorem AskMid.drew {w : World} {R : Nat} {tx : List UInt8} {p f : Nat} {c b : UInt8} {OB : Nat} {wx : World} (h : AskMid w R tx p f c b OB wx) (n : Nat) : AskMid w R tx p f c b OB (wx.drewN n) := by
 obtain ⟨l, u, gg, cap, q, bad, h1, h2, h3⟩ := h
 exact ⟨l, u, gg, cap, q, bad, h1.drew n, h2, h3⟩
theorem um (n : Nat) (HB : eV n) (R f p : Nat) (tx : List UInt8) (c b : UInt8) (w : World) (hc : c = 63) (hat : tx[p]? = some c) (hb : tx[p + 1]? = some b) (hlb : a7 b = true) (hn : tx.length - p ≤ n + 1) (htx : tx.length ≤ 1048576) (hf : f ≤ 9) (h : Mrd w R tx p false f) :
  Calls Tryz.prog 197 #[.pointer (some ⟨R, 0, none⟩)] w (dF R f tx p w) := by
 have hd1 := aR hb
 have hlen1 := (ba hd1).1
 have hdd : tx.drop p = 63 :: b :: tx.drop (p + 2) := by rw [aR hat, hc, hd1]
 have HDD := GR hdd
 have HLB := GR hlb
 have HW1 := GR (fun W (k : Mrd W R tx (p + 2) false f) => (lc n HB R f (p + 2) tx 91 93 W (.inr (.inr rfl)) (by omega) (by omega) htx hf k : Calls Tryz.prog 216 #[.pointer (some ⟨R, 0, none⟩), .int .u8 91, .int .u8 93] W (qA R f tx (p + 2) 91 93 false W)))
 have HW2 := GR (fun q bad W (hq : bad = false → q ≤ tx.length ∧ p + 2 < q) (hq2 : bad = true → q ≤ 8388600) (k : Mrd W R tx q bad f) => (by
  cases bad with
  | false => exact lc n HB R f q tx 91 93 W (.inr (.inr rfl)) (by have := hq rfl; omega) (hq rfl).1 htx hf k
  | true => exact qB R f q tx 91 93 W (hq2 rfl) k : Calls Tryz.prog 216 #[.pointer (some ⟨R, 0, none⟩), .int .u8 91, .int .u8 93] W (qA R f tx q 91 93 bad W)))
 have c0 := Blk.cell h 0
 obtain ⟨x, hx⟩ : ∃ x, x = tb tx := ⟨_, rfl⟩
 have hxz : x.size = tx.length := by rw [hx, aB]
 have hxd : x.data.toList = tx := by rw [hx, aI]
 have hlt : p < x.size := by have := (ba (aR hat)).1; omega
 have hb := aF x p hlt
 rw [hxd, hat] at hb
 have hxp : x[p] = c := (Option.some.inj hb).symm
 have d0 : w.cell? ⟨R, 0, none⟩ = some (.string x) := by rw [hx]; exact c0
 have d1 : w.cell? ⟨R, 1, none⟩ = some (.int .i64 p) := Blk.cell h 1
 have HXP := GR hxp
 have HXZ := GR hxz
 have HX := GR hx
 have HD := GR (aR hat)
 have H := GR h
 have hR := h.lt
 have hR1 : R < w.heap.size + 1 := by omega
 have hR2 : R < w.heap.size + 1 + 1 := by omega
 have hp1 : p + 1 ≤ 1048576 := by omega
 have e1 : ((p + 1 : Nat) : Int) = (p : Int) + 1 := by omega
 have HE := GR e1
 clear hb hxd hx c0 hxp hxz h hat e1
 have e46 : ((c.toNat : Int) == 46) = false := by rw [hc]; rfl
 have e63 : ((c.toNat : Int) == 63) = true := by rw [hc]; rfl
 have e40 : ((c.toNat : Int) == 40) = false := by rw [hc]; rfl
 have e123 : ((c.toNat : Int) == 123) = false := by rw [hc]; rfl
 have e94 : ((c.toNat : Int) == 94) = false := by rw [hc]; rfl
 have e61 : ((c.toNat : Int) == 61) = false := by rw [hc]; rfl
 have e35 : ((c.toNat : Int) == 35) = false := by rw [hc]; rfl
 have HL := GR (fun W => (by have := cr c W; rw [show a7 c = false by rw [hc]; rfl] at this; exact this : Calls Tryz.prog 161 #[.int .u8 c.toNat] W fun e w' => e = .returned (.bool false) ∧ W = w'))
 have HC := GR hc
 have hlt1 : p + 1 < x.size := by have := HXZ.out; omega
 have hxd2 : x.data.toList = tx := by rw [HX.out, aI]
 have hb1 := aF x (p + 1) hlt1
 rw [hxd2, hb] at hb1
 have hxb : x[p + 1] = b := (Option.some.inj hb1).symm
 have s1 : ((p : Int) + 1).toNat = p + 1 := by omega
 have s2 : (0 : Int) ≤ (p : Int) + 1 := by omega
 have q0 : decide ((x.size : Int) ≤ (p : Int) + 1) = false := decide_eq_false (by omega)
 have q1 : ¬ x.size ≤ p + 1 := by omega
 have q2 : (p : Int) + 1 < (x.size : Int) := by omega
 have HEX := GR (show x.extract (p + 1) (p + 1 + 1) = tb [b] from A8 hlt1 hxb)
 have HXB := GR hxb
 obtain ⟨i0, hi, hz0, hz1, hz2⟩ := info_parts ig
 clear hc hxd2 hb hb1 hlb hd1 hdd HB hxb
 go_enter Tryz.func197, Tryz.ntmps197
 go_upto_region 1 with fail
 go_cut [3] (fun s3 wx => ∃ OB XB, s3 = .pointer (some ⟨OB, 0, none⟩) ∧ Begun w c OB XB wx)
 case first =>
  go_region
  all_goals (go_wp2_with fail; go_meet)
  all_goals rw [HXP.out]
  case rel => exact ⟨_, _, rfl, fy w c⟩
  case rel => exact ⟨_, _, rfl, fA w c⟩
 case rest =>
  obtain ⟨OB, XB, rfl, hst⟩ := hcut
  clear d0 d1
  have hlO := hst.ltO
  have hOR : OB ≠ R := by omega
  have hQR : w.heap.size ≠ R := by omega
  have hOQ : OB ≠ w.heap.size := by omega
  have k0 : wc.cell? ⟨OB, 0, none⟩ = some (.int .u8 c.toNat) := hst.item.cell 0
  have hm : Mrd wc R tx p false f := Blk.below H.out hst.below hR
  have d0 : wc.cell? ⟨R, 0, none⟩ = some (.string x) := by rw [HX.out]; exact Blk.cell hm 0
  have d1 : wc.cell? ⟨R, 1, none⟩ = some (.int .i64 p) := Blk.cell hm 1
  have g1 : wc.frozen? ⟨R, 1, none⟩ = false := Blk.frozen hm 1
  have m1 : Mrd (wc.setCell ⟨R, 1, none⟩ (.int .i64 ((p : Int) + 1))) R tx (p + 1) false f := by
   unfold Mrd
   rw [HE.out]; exact Blk.set_ hm 1 (.int .i64 ((p : Int) + 1))
  have i1 := av hst.item hOR 1 (.int .i64 ((p : Int) + 1))
  have r1 := av hst.res hQR 1 (.int .i64 ((p : Int) + 1))
  have HM1 := GR m1
  have HI1 := GR i1
  have HR1 := GR r1
  have HST := GR hst
  have hM1 : Made w R tx (p + 1) false f (.int .u8 c.toNat) (.string ⟨#[]⟩) (.int .i64 0) OB [] [] (.slice (some ⟨XB, 0, none⟩) 0 0) (wc.setCell ⟨R, 1, none⟩ (.int .i64 ((p : Int) + 1))) := (hst.made H.out hR).reader hR hOR 1 _ m1
  have HMA := GR hM1
  clear hm m1 i1 r1 hst HM1 HI1 HR1 hM1
  have d0' := Blk.cell HMA.out.rd 0
  have d1' := Blk.cell HMA.out.rd 1
  have d0'' : (wc.setCell ⟨R, 1, none⟩ (.int .i64 ((p : Int) + 1))).cell? ⟨R, 0, none⟩ = some (.string x) := by rw [HX.out]; exact d0'
  have d1'' : (wc.setCell ⟨R, 1, none⟩ (.int .i64 ((p : Int) + 1))).cell? ⟨R, 1, none⟩ = some (.int .i64 ((p : Int) + 1)) := by rw [← HE.out]; exact d1'
  clear d0' d1'
  go_wp2_with fail
  refine (HL.out _).mono ?_
  rintro e w2 ⟨rfl, rfl⟩
  go_wp2_with fail
  generalize wc.setCell ⟨R, 1, none⟩ (.int .i64 ((p : Int) + 1)) = WA at *
  have tC := fun n => (by have := Calls.quiet_of_same ((cr x[p + 1] (WA.drewN n)).mono fun _ _ ⟨a, b⟩ => ⟨a, b.symm⟩); rw [show a7 x[p + 1] = true by rw [HXB.out]; exact HLB.out] at this; exact this)
  go_quiet (with_reducible exact tC _)
  have HMB := GR (HMA.out.drew nq)
  have d0 : (WA.drewN nq).cell? ⟨R, 0, none⟩ = some (.string x) := d0''
  have d1 : (WA.drewN nq).cell? ⟨R, 1, none⟩ = some (.int .i64 ((p : Int) + 1)) := d1''
  generalize WA.drewN nq = WB at *
  clear tC d0'' d1'' HMA g1
  have hl1 : (p : Int) + 1 ≤ (p : Int) + 1 + 1 := by omega
  have hl2 : (p : Int) + 1 + 1 ≤ (x.size : Int) := by omega
  have hl3 : (0 : Int) ≤ (p : Int) + 1 + 1 := by omega
  have hl4 : ((p : Int) + 1 + 1).toNat = p + 1 + 1 := by omega
  have hl5 : IntKind.i64.wrap ((p : Int) + 1 + 1) = (p : Int) + 1 + 1 := IntWalk.i64_in _ (by omega)
  have hl6 : p + 1 + 1 ≤ x.size := by omega
  have j1 := HMB.out.item.cell 1
  have j2 := HMB.out.item.frozen 1
  go_wp2_with fail
  go_region
  have HMC : Hid (Made w R tx (p + 1) false f (.int .u8 c.toNat) (.string (tb [b])) (.int .i64 0) OB [] [] (.slice (some ⟨XB, 0, none⟩) 0 0) (WB.setCell ⟨OB, 1, none⟩ (.string (x.extract (p + 1) (p + 1 + 1)))).drew) := by
   rw [HEX.out]
   exact (HMB.out.cell 1 (.string (tb [b])) rfl hOR hlO).drew 1
  generalize (WB.setCell ⟨OB, 1, none⟩ (.string (x.extract (p + 1) (p + 1 + 1)))).drew = WC at *
  clear d0 d1 j1 j2 HMB
  have r1 : WC.cell? ⟨R, 1, none⟩ = some (.int .i64 ((p : Int) + 1)) := by rw [← HE.out]; exact Blk.cell HMC.out.rd 1
  have g1 : WC.frozen? ⟨R, 1, none⟩ = false := Blk.frozen HMC.out.rd 1
  have HMD : Hid (Made w R tx (p + 2) false f (.int .u8 c.toNat) (.string (tb [b])) (.int .i64 0) OB [] [] (.slice (some ⟨XB, 0, none⟩) 0 0) (WC.setCell ⟨R, 1, none⟩ (.int .i64 ((p : Int) + 1 + 1)))) := by
   refine HMC.out.reader hR hOR 1 _ ?_
   unfold Mrd
   rw [show ((p + 2 : Nat) : Int) = (p : Int) + 1 + 1 by omega]
   exact Blk.set_ HMC.out.rd 1 (.int .i64 ((p : Int) + 1 + 1))
  go_upto_region 16 with fail
  generalize WC.setCell ⟨R, 1, none⟩ (.int .i64 ((p : Int) + 1 + 1)) = WD at *
  clear r1 g1 HMC
  go_cut [] (fun wx => AskMid w R tx p f c b OB wx)
  case first =>
   have HME : Hid (Made w R tx (p + 2) false f (.int .u8 c.toNat) (.string (tb [b])) (.int .i64 0) OB [] [] (.slice (some ⟨XB, 0, none⟩) 0 0) WD.drew) := HMD.out.drew 1
   have q9 : WD.cell? ⟨OB, 3, none⟩ = some (.slice (some ⟨XB, 0, none⟩) 0 0) := HMD.out.item.cell 3
   go_region_law (first
    | (refine step_append_lies _ (by rfl) _ _ _ (by rfl) (w.heap.size + 1) 165 i0 _ 1 24 Tryz.underlying170 hi hz0 hz1 hz2 rfl (by omega) _ _ _ (by rfl) ((ek HME.out.row ho2.out (by omega)).alloc _) ⟨w2.heap.size, 0, none⟩ 1 1 [.slice A2 m2 k2] (by rfl) (by rfl) (World.news_of_block (cs := #[.slice A2 m2 k2]) (t := 165) (fr := (0, 0)) (heap_alloc_new w2 _)) (by simp [Value.oneCell']) (by omega) (by unfold maxLen; simp) (by simp) ?_ (w2.heap.size + 1) (by simp) ?_
       · simp; omega
       intro gg2 capg w5 hown5 hgrow hat5 hltg
       have q6 : w5.cell? ⟨OB, 3, none⟩ = some (.slice (some ⟨XB, 0, none⟩) 0 0) := (HME.out.grown hOR ho2.out hgrow).cell 3
       have q7 := (HME.out.grown hOR ho2.out hgrow).frozen 3)
    | (go_simp; go_at_call 216; refine (HW1.out _ HME.out.rd).mono ?_; rintro e w2 ⟨A2, m2, k2, rfl, ho2, hr2⟩; have q5 : w2.cell? ⟨OB, 3, none⟩ = some (.slice (some ⟨XB, 0, none⟩) 0 0) := (cj HME.out.item ho2.out hOR).cell 3; have hlw : w.heap.size + 1 ≤ w2.heap.size := (by have := HME.out.only.size; have := ho2.out.size; have := HME.out.item.lt; omega); have hO2 : OB < w2.heap.size := (cj HME.out.item ho2.out hOR).lt)
    | fail)
   all_goals
    have HMID : Hid (AskMid w R tx p f c b OB (w5.setCell ⟨OB, 3, none⟩ (.slice (some ⟨gg2, 0, none⟩) 1 capg))) := by
     rcases hr2.out with ⟨_, l, q, hl, hdq, hpq, hq, hrow, hm⟩ | ⟨q, hno, hfar, _, hm⟩
     ·exact ⟨l, _, gg2, capg, q, false, HME.out.step (l := l) hR hOR hlO ho2.out hm (fun _ => hrow) hown5 hgrow hat5, fun _ => ⟨hl, hdq, hpq, hq⟩, fun e => by cases e⟩
     ·exact ⟨[], _, gg2, capg, q, true, HME.out.step (l := []) (bad' := true) hR hOR hlO ho2.out hm (fun e => by cases e) hown5 hgrow hat5, (fun e => by cases e), fun _ => ⟨by rw [HDD.out]; exact wS fun l r k => hno rfl l r k.1 k.2, hfar rfl⟩⟩
    clear hown5 hgrow hat5 hr2 ho2 q5 q6 q7
    go_wp2_with fail
    go_meet
    exact HMID.out
  case rest =>
   obtain ⟨l, u, gg, cap, q, bad, hM, hgood, hbad⟩ := hcut
   have HMF := GR (hM.drew 1)
   have q9 := hM.item.cell 3
   clear hM HMD
   go_upto_region 17 with fail
   go_region_law (first
     | (refine step_append_lies _ (by rfl) _ _ _ (by rfl) (w.heap.size + 1) 165 i0 _ 1 24 Tryz.underlying170 hi hz0 hz1 hz2 rfl (by omega) _ _ _ (by rfl) ((ek HMF.out.row ho2.out (by omega)).alloc _) ⟨w2.heap.size, 0, none⟩ 1 1 [.slice A2 m2 k2] (by rfl) (by rfl) (World.news_of_block (cs := #[.slice A2 m2 k2]) (t := 165) (fr := (0, 0)) (heap_alloc_new w2 _)) (by simp [Value.oneCell']) (by omega) (by unfold maxLen; simp) (by simp) ?_ (w2.heap.size + 1) (by simp) ?_
        · simp; omega
        intro gg3 capg w5 hown5 hgrow hat5 hltg
        have q6 : w5.cell? ⟨OB, 3, none⟩ = some (.slice (some ⟨gg, 0, none⟩) 1 cap) := (HMF.out.grown hOR ho2.out hgrow).cell 3
        have q7 := (HMF.out.grown hOR ho2.out hgrow).frozen 3)
     | (go_simp; go_at_call 216; refine (HW2.out q bad _ (fun e => ⟨(hgood e).2.2.2, (hgood e).2.2.1⟩) (fun e => by have := (hbad e).2; omega) HMF.out.rd).mono ?_; rintro e w2 ⟨A2, m2, k2, rfl, ho2, hr2⟩; have q5 : w2.cell? ⟨OB, 3, none⟩ = some (.slice (some ⟨gg, 0, none⟩) 1 cap) := (cj HMF.out.item ho2.out hOR).cell 3; have hlw : w.heap.size + 1 ≤ w2.heap.size := (by have := HMF.out.only.size; have := ho2.out.size; have := HMF.out.item.lt; omega); have hO2 : OB < w2.heap.size := (cj HMF.out.item ho2.out hOR).lt)
     | fail)
   all_goals
    rcases hr2.out with ⟨rfl, lr, q2, hl2, hdq2, hpq2, hq2, hrow, hm⟩ | ⟨q2, hno, hfar, hfar2, hm⟩
    ·have HM := GR (HMF.out.stepG (l := lr) hR hOR hlO ho2.out hm (fun _ => hrow) hown5 hgrow hat5 (fun _ => rfl))
     obtain ⟨hl, hdq, hpq, hq⟩ := hgood rfl
     have HRD := GR (show RdI f (tx.drop p) (.ask b l lr) (tx.drop q2) by rw [HDD.out]; exact Cr HLB.out ⟨hl, hdq⟩ ⟨hl2, hdq2⟩ (.inr trivial))
     clear hgood hbad hdq hdq2 hrow hl hl2
     have HMR : Hid (Blk (w5.setCell ⟨OB, 3, none⟩ (.slice (some ⟨gg3, 0, none⟩) 2 capg)) w.heap.size 172 #[.int .u8 0, .string ⟨#[]⟩, .int .i64 0, .slice none 0 0]) := HM.out.res
     have HMI : Hid (Blk (w5.setCell ⟨OB, 3, none⟩ (.slice (some ⟨gg3, 0, none⟩) 2 capg)) OB 172 #[.int .u8 c.toNat, .string (tb [b]), .int .i64 0, .slice (some ⟨gg3, 0, none⟩) 2 capg]) := HM.out.item
     clear hm hown5 hgrow hat5 hr2 ho2 q5 q6 q7
     have hI9 := HMI.out
     have hR9 := HMR.out
     have l0 := hI9.cell 0
     have l1 := hI9.cell 1
     have l2 := hI9.cell 2
     have l3 := hI9.cell 3
     have z0 := hR9.cell 0
     have z1 := hR9.cell 1
     have z2 := hR9.cell 2
     have z3 := hR9.cell 3
     have y0 := hR9.frozen 0
     have y1 := hR9.frozen 1
     have y2 := hR9.frozen 2
     have y3 := hR9.frozen 3
     clear hI9 hR9
     go_wp2_with fail
     have V := bL HMR.out (.int .u8 c.toNat) (.string (tb [b])) (.int .i64 0) (.slice (some ⟨gg3, 0, none⟩) 2 capg)
     have v0 := V.cell 0
     have v1 := V.cell 1
     have v2 := V.cell 2
     have v3 := V.cell 3
     unfold dt at v0 v1 v2 v3
     refine bodyPost_ret (v := .agg #[.int .u8 c.toNat, .string (tb [b]), .int .i64 0, .slice (some ⟨gg3, 0, none⟩) 2 capg]) (by simp [results, Tryz.results197, go_sem, v0, v1, v2, v3]) rfl ?_
     clear v0 v1 v2 v3 V
     exact .inl ⟨.ask b l lr, q2, _, _, _, HRD.out, by omega, hq2, by rw [HC.out]; rfl, HM.out.bodies rfl _ _ _ _, bM HM.out.rd hQR.symm _ _ _ _, bj HM.out.only (Nat.le_refl _) _ _ _ _⟩
    ·have HM := GR (HMF.out.stepG (l := []) (bad' := true) hR hOR hlO ho2.out hm (fun e => by cases e) hown5 hgrow hat5 (fun e => by cases e))
     have HNF : Hid (dB f (tx.drop p) ∧ q2 + 3 * p ≤ 4 * tx.length + 4) := by
      show _ ∧ _
      cases bad with
      | false =>
       obtain ⟨hl, hdq, hpq, hq⟩ := hgood rfl
       exact ⟨by rw [HDD.out]; exact wT (⟨hl, hdq⟩ : RdB f (tx.drop (p + 2)) l (tx.drop q)) fun l' r k => hno rfl l' r k.1 k.2, by have := hfar rfl; omega⟩
      | true => exact ⟨(hbad rfl).1, by have := (hbad rfl).2; have := hfar2 rfl; omega⟩
     clear hgood hbad hno hfar hfar2
     have HMR : Hid (Blk (w5.setCell ⟨OB, 3, none⟩ (.slice (some ⟨gg3, 0, none⟩) 2 capg)) w.heap.size 172 #[.int .u8 0, .string ⟨#[]⟩, .int .i64 0, .slice none 0 0]) := HM.out.res
     have HMI : Hid (Blk (w5.setCell ⟨OB, 3, none⟩ (.slice (some ⟨gg3, 0, none⟩) 2 capg)) OB 172 #[.int .u8 c.toNat, .string (tb [b]), .int .i64 0, .slice (some ⟨gg3, 0, none⟩) 2 capg]) := HM.out.item
     clear hm hown5 hgrow hat5 hr2 ho2 q5 q6 q7
     have hI9 := HMI.out
     have hR9 := HMR.out
     have l0 := hI9.cell 0
     have l1 := hI9.cell 1
     have l2 := hI9.cell 2
     have l3 := hI9.cell 3
     have z0 := hR9.cell 0
     have z1 := hR9.cell 1
     have z2 := hR9.cell 2
     have z3 := hR9.cell 3
     have y0 := hR9.frozen 0
     have y1 := hR9.frozen 1
     have y2 := hR9.frozen 2
     have y3 := hR9.frozen 3
     clear hI9 hR9
     go_wp2_with fail
     have V := bL HMR.out (.int .u8 c.toNat) (.string (tb [b])) (.int .i64 0) (.slice (some ⟨gg3, 0, none⟩) 2 capg)
     have v0 := V.cell 0
     have v1 := V.cell 1
     have v2 := V.cell 2
     have v3 := V.cell 3
     unfold dt at v0 v1 v2 v3
     refine bodyPost_ret (v := .agg #[.int .u8 c.toNat, .string (tb [b]), .int .i64 0, .slice (some ⟨gg3, 0, none⟩) 2 capg]) (by simp [results, Tryz.results197, go_sem, v0, v1, v2, v3]) rfl ?_
     clear v0 v1 v2 v3 V
     exact .inr ⟨c.toNat, tb [b], 0, _, _, _, q2, HNF.out.1, HNF.out.2, rfl, bM HM.out.rd hQR.symm _ _ _ _, bj HM.out.only (Nat.le_refl _) _ _ _ _⟩
end Go.Proofs.YtlkfakdghjaoaaaGreatDoor
namespace Go.Proofs.YtlkfakdghjaoaaaGreatDoor
open Go.RowKit Go.Sort
theorem ve {f : Nat} {s t : List UInt8} {bs : List (List It)} (h : rE f s bs t) (ht : eP t) (hl : bs.length = 0 ∨ 10 < bs.length) : dB f (35 :: s) := fun i r hi hr e => by
 obtain ⟨bs', _, h0, h10, hb, e2⟩ := mW hi e
 rcases hl with hl | hl
 ·have hn : bs = [] := List.eq_nil_of_length_eq_zero hl
  subst hn
  have e3 := h.2.1
  rw [bV, List.nil_append] at e3
  rw [e3] at e2
  cases bs' with
  | nil => simp at h0
  | cons l bs' => rw [bV] at e2; exact ht _ (by rw [e2, List.cons_append])
 ·have e4 : bV bs' ++ r = bV bs ++ t := e2.symm.trans h.2.1
  obtain ⟨e5, _⟩ := uH bs bs' f f t r h.1 hb (.inr (by omega)) hr e4.symm
  rw [e5] at hl; omega
theorem EC {tx : List UInt8} {q : Nat} (h : fO tx q 91 = false) : eP (tx.drop q) := fun _ e => pO h (ba e).2.2
def rU (w : World) (R : Nat) (tx : List UInt8) (p f : Nat) (c : UInt8) (OB : Nat) (q : Nat) (bad : Bool) (wx : World) : Prop :=
 ∃ bs vs A cap, Made w R tx q bad f (.int .u8 c.toNat) (.string ⟨#[]⟩) (.int .i64 0) OB bs vs (.slice A vs.length cap) wx ∧ vs.length = bs.length ∧
  (bad = false → rE f (tx.drop (p + 1)) bs (tx.drop q) ∧ p + 1 ≤ q ∧ q ≤ tx.length ∧ vs.length ≤ q) ∧ (bad = true → dB f (tx.drop p) ∧ q + 3 * p ≤ 4 * tx.length + 4)
theorem zC (n : Nat) (HB : eV n) (R f p : Nat) (tx : List UInt8) (c : UInt8) (w : World) (hc : c = 35) (hat : tx[p]? = some c) (hn : tx.length - p ≤ n + 1) (htx : tx.length ≤ 1048576) (hf : f ≤ 9) (h : Mrd w R tx p false f) :
  Calls Tryz.prog 197 #[.pointer (some ⟨R, 0, none⟩)] w (dF R f tx p w) := by
 have hplt := (ba (aR hat)).1
 have HW1 := GR (fun q W (hq1 : p + 1 ≤ q) (hq : q ≤ tx.length) (k : Mrd W R tx q false f) => (lc n HB R f q tx 91 93 W (.inr (.inr rfl)) (by omega) hq htx hf k : Calls Tryz.prog 216 #[.pointer (some ⟨R, 0, none⟩), .int .u8 91, .int .u8 93] W (qA R f tx q 91 93 false W)))
 have HSE := GR (fun q bad W (k : Mrd W R tx q bad f) => (wI R q f tx bad 91 W k : Calls Tryz.prog 219 #[.pointer (some ⟨R, 0, none⟩), .int .u8 91] W fun e w' => e = .returned (.bool (fO tx q 91)) ∧ ∃ m, w' = W.drewN m))
 have c0 := Blk.cell h 0
 obtain ⟨x, hx⟩ : ∃ x, x = tb tx := ⟨_, rfl⟩
 have hxz : x.size = tx.length := by rw [hx, aB]
 have hxd : x.data.toList = tx := by rw [hx, aI]
 have hlt : p < x.size := by have := (ba (aR hat)).1; omega
 have hb := aF x p hlt
 rw [hxd, hat] at hb
 have hxp : x[p] = c := (Option.some.inj hb).symm
 have d0 : w.cell? ⟨R, 0, none⟩ = some (.string x) := by rw [hx]; exact c0
 have d1 : w.cell? ⟨R, 1, none⟩ = some (.int .i64 p) := Blk.cell h 1
 have HXP := GR hxp
 have HXZ := GR hxz
 have HX := GR hx
 have HD := GR (aR hat)
 have H := GR h
 have hR := h.lt
 have hR1 : R < w.heap.size + 1 := by omega
 have hR2 : R < w.heap.size + 1 + 1 := by omega
 have hp1 : p + 1 ≤ 1048576 := by omega
 have e1 : ((p + 1 : Nat) : Int) = (p : Int) + 1 := by omega
 have HE := GR e1
 clear hb hxd hx c0 hxp hxz h hat e1
 have e46 : ((c.toNat : Int) == 46) = false := by rw [hc]; rfl
 have e63 : ((c.toNat : Int) == 63) = false := by rw [hc]; rfl
 have e40 : ((c.toNat : Int) == 40) = false := by rw [hc]; rfl
 have e123 : ((c.toNat : Int) == 123) = false := by rw [hc]; rfl
 have e94 : ((c.toNat : Int) == 94) = false := by rw [hc]; rfl
 have e61 : ((c.toNat : Int) == 61) = false := by rw [hc]; rfl
 have e35 : ((c.toNat : Int) == 35) = true := by rw [hc]; rfl
 have HL := GR (fun W => (by have := cr c W; rw [show a7 c = false by rw [hc]; rfl] at this; exact this : Calls Tryz.prog 161 #[.int .u8 c.toNat] W fun e w' => e = .returned (.bool false) ∧ W = w'))
 have HC := GR hc
 obtain ⟨i0, hi, hz0, hz1, hz2⟩ := info_parts ig
 clear hc HB
 go_enter Tryz.func197, Tryz.ntmps197
 go_upto_region 1 with fail
 go_cut [3] (fun s3 wx => ∃ OB XB, s3 = .pointer (some ⟨OB, 0, none⟩) ∧ Begun w c OB XB wx)
 case first =>
  go_region
  all_goals (go_wp2_with fail; go_meet)
  all_goals rw [HXP.out]
  case rel => exact ⟨_, _, rfl, fy w c⟩
  case rel => exact ⟨_, _, rfl, fA w c⟩
 case rest =>
  obtain ⟨OB, XB, rfl, hst⟩ := hcut
  clear d0 d1
  have hlO := hst.ltO
  have hOR : OB ≠ R := by omega
  have hQR : w.heap.size ≠ R := by omega
  have hOQ : OB ≠ w.heap.size := by omega
  have k0 : wc.cell? ⟨OB, 0, none⟩ = some (.int .u8 c.toNat) := hst.item.cell 0
  have hm : Mrd wc R tx p false f := Blk.below H.out hst.below hR
  have d0 : wc.cell? ⟨R, 0, none⟩ = some (.string x) := by rw [HX.out]; exact Blk.cell hm 0
  have d1 : wc.cell? ⟨R, 1, none⟩ = some (.int .i64 p) := Blk.cell hm 1
  have g1 : wc.frozen? ⟨R, 1, none⟩ = false := Blk.frozen hm 1
  have m1 : Mrd (wc.setCell ⟨R, 1, none⟩ (.int .i64 ((p : Int) + 1))) R tx (p + 1) false f := by
   unfold Mrd
   rw [HE.out]; exact Blk.set_ hm 1 (.int .i64 ((p : Int) + 1))
  have i1 := av hst.item hOR 1 (.int .i64 ((p : Int) + 1))
  have r1 := av hst.res hQR 1 (.int .i64 ((p : Int) + 1))
  have HM1 := GR m1
  have HI1 := GR i1
  have HR1 := GR r1
  have HST := GR hst
  have hM1 : Made w R tx (p + 1) false f (.int .u8 c.toNat) (.string ⟨#[]⟩) (.int .i64 0) OB [] [] (.slice (some ⟨XB, 0, none⟩) 0 0) (wc.setCell ⟨R, 1, none⟩ (.int .i64 ((p : Int) + 1))) := (hst.made H.out hR).reader hR hOR 1 _ m1
  have HMA := GR hM1
  clear hm m1 i1 r1 hst HM1 HI1 HR1 hM1
  go_wp2_with fail
  refine (HL.out _).mono ?_
  rintro e w2 ⟨rfl, rfl⟩
  go_wp2_with fail
  have HM0 : Hid (rU w R tx p f c OB (p + 1) false (wc.setCell ⟨R, 1, none⟩ (.int .i64 ((p : Int) + 1)))) := ⟨[], [], some ⟨XB, 0, none⟩, 0, HMA.out, rfl, fun _ => ⟨tZ _ _, Nat.le_refl _, by omega, Nat.zero_le _⟩, fun e => by cases e⟩
  generalize wc.setCell ⟨R, 1, none⟩ (.int .i64 ((p : Int) + 1)) = WA at *
  clear d0 d1 g1 k0 HMA
  go_loopg [] (tx.length + 1 - (p + 1)) (fun gk wr => ∃ q bad, gk = (if bad then 0 else tx.length + 1 - q) ∧ Hid (rU w R tx p f c OB q bad wr))
  case atStart => exact ⟨p + 1, false, rfl, HM0.out⟩
  case round =>
   obtain ⟨q, bad, rfl, HP⟩ := hrel
   obtain ⟨bs, vs, A, cap, hM, hvl, hgood, hbad⟩ := HP.out
   have HVL := GR hvl
   have HS := GR (HSE.out q bad wr hM.rd)
   have HMX := GR hM
   clear hM hvl
   cases bad with
   | false =>
    obtain ⟨hso, hpq, hq, hvq⟩ := hgood rfl
    have HSO := GR hso
    clear hgood hbad hso
    cases hs : fO tx q 91 with
    | true =>
     rw [hs] at HS
     have HBR := GR (aR (rT hs))
     clear hs
     have x2 : wr.cell? ⟨R, 2, none⟩ = some (.bool false) := Blk.cell HMX.out.rd 2
     go_wp2_with fail
     refine HS.out.mono ?_
     rintro e w2 ⟨rfl, m, rfl⟩
     have HMY := GR (HMX.out.drew m)
     have x2 : (wr.drewN m).cell? ⟨R, 2, none⟩ = some (.bool false) := Blk.cell HMY.out.rd 2
     have x3 := HMY.out.item.cell 3
     have HME : Hid (Made w R tx q false f (.int .u8 c.toNat) (.string ⟨#[]⟩) (.int .i64 0) OB bs vs (.slice A vs.length cap) (wr.drewN m).drew) := HMY.out.drew 1
     generalize wr.drewN m = wy at *
     have hvn : vs.length ≤ 1048576 := by omega
     go_wp2_with fail
     go_region_law (first
      | (refine step_append_lies _ (by rfl) _ _ _ (by rfl) (w.heap.size + 1) 165 i0 _ 1 24 Tryz.underlying170 hi hz0 hz1 hz2 rfl (by omega) _ _ _ (by rfl) ((ek HME.out.row ho2.out (by omega)).alloc _) ⟨w2.heap.size, 0, none⟩ 1 1 [.slice A2 m2 k2] (by rfl) (by rfl) (World.news_of_block (cs := #[.slice A2 m2 k2]) (t := 165) (fr := (0, 0)) (heap_alloc_new w2 _)) (by simp [Value.oneCell']) (by omega) (by unfold maxLen; omega) (by omega) ?_ (w2.heap.size + 1) (by simp) ?_
         · simp; omega
         intro gg capg w5 hown5 hgrow hat5 hltg
         have q6 : w5.cell? ⟨OB, 3, none⟩ = some (.slice A vs.length cap) := (HME.out.grown hOR ho2.out hgrow).cell 3
         have q7 := (HME.out.grown hOR ho2.out hgrow).frozen 3)
      | (go_simp; go_at_call 216; refine (HW1.out q _ hpq hq HME.out.rd).mono ?_; rintro e w2 ⟨A2, m2, k2, rfl, ho2, hr2⟩; have q5 : w2.cell? ⟨OB, 3, none⟩ = some (.slice A vs.length cap) := (cj HME.out.item ho2.out hOR).cell 3; have hlw : w.heap.size + 1 ≤ w2.heap.size := (by have := HME.out.only.size; have := ho2.out.size; have := HME.out.item.lt; omega); have hO2 : OB < w2.heap.size := (cj HME.out.item ho2.out hOR).lt)
      | fail)
     all_goals
      clear x2 x3 q5 q6 q7
      have HSTEP : Hid (∃ q' bad', (if bad' then 0 else tx.length + 1 - q') < tx.length + 1 - q ∧ rU w R tx p f c OB q' bad' (w5.setCell ⟨OB, 3, none⟩ (.slice (some ⟨gg, 0, none⟩) (vs.length + 1) capg))) := by
       rcases hr2.out with ⟨_, l, q', hl, hdq, hpq', hq', hrow, hm⟩ | ⟨q', hno, hfar, _, hm⟩
       ·refine ⟨q', false, by show tx.length + 1 - q' < _; omega, bs ++ [l], vs ++ [.slice A2 m2 k2], some ⟨gg, 0, none⟩, capg, ?_, by have := HVL.out; simp; omega, fun _ => ⟨p7 HSO.out ⟨hl, hdq⟩, by omega, hq', by simp; omega⟩, fun e => by cases e⟩
        have := HME.out.step (l := l) hR hOR hlO ho2.out hm (fun _ => hrow) hown5 hgrow hat5
        rw [show (vs ++ [Value.slice A2 m2 k2]).length = vs.length + 1 by simp]
        exact this
       ·refine ⟨q', true, by show 0 < _; omega, bs ++ [[]], vs ++ [.slice A2 m2 k2], some ⟨gg, 0, none⟩, capg, ?_, by have := HVL.out; simp; omega, (fun e => by cases e), fun _ => ⟨?_, ?_⟩⟩
        ·have := HME.out.step (l := []) (bad' := true) hR hOR hlO ho2.out hm (fun e => by cases e) hown5 hgrow hat5
         rw [show (vs ++ [Value.slice A2 m2 k2]).length = vs.length + 1 by simp]
         exact this
        ·rw [HD.out, HC.out]
         refine wX (t := tx.drop (q + 1)) (by rw [← HBR.out]; exact HSO.out) fun l r k => hno rfl l r k.1 ?_
         rw [HBR.out]; exact k.2
        ·have := hfar rfl; omega
      clear hown5 hgrow hat5 hr2 ho2
      go_wp2_with fail
      obtain ⟨q', bad', hlt', hpm⟩ := HSTEP.out
      go_roundg (if bad' then 0 else tx.length + 1 - q')
      case measure => simpa using hlt'
      case rel => exact ⟨q', bad', rfl, hpm⟩
    | false =>
     rw [hs] at HS
     have HNB := GR (EC hs)
     clear hs
     go_wp2_with fail
     refine HS.out.mono ?_
     rintro e w2 ⟨rfl, m, rfl⟩
     have HMY := GR (HMX.out.drew m)
     have x2 : (wr.drewN m).cell? ⟨R, 2, none⟩ = some (.bool false) := Blk.cell HMY.out.rd 2
     have g2 := Blk.frozen HMY.out.rd 2
     have x3 := HMY.out.item.cell 3
     generalize wr.drewN m = wy at *
     have HIN := GR (fun W => qe (vs.length : Int) 1 10 W)
     cases hin : lA (vs.length : Int) 1 10 with
     | true =>
      rw [hin] at HIN
      have hr : 1 ≤ vs.length ∧ vs.length ≤ 10 := by
       unfold lA at hin
       have := Bool.and_eq_true_iff.1 hin
       have a := of_decide_eq_true this.1
       have b := of_decide_eq_true this.2
       omega
      have HRD := GR (show RdI f (tx.drop p) (.pick bs) (tx.drop q) by rw [HD.out, HC.out]; have := HVL.out; exact yT HSO.out (by omega) (by omega) (.inl HNB.out))
      have HM2 : Hid (Made w R tx q false f (.int .u8 c.toNat) (.string ⟨#[]⟩) (.int .i64 0) OB bs vs (.slice A vs.length cap) (wy.setCell ⟨R, 2, none⟩ (.bool false))) := HMY.out.reader hR hOR 2 (.bool false) (Blk.set_ HMY.out.rd 2 (.bool false))
      clear hin hr
      have hI9 := HM2.out.item
      have hR9 := HM2.out.res
      have l0 := hI9.cell 0
      have l1 := hI9.cell 1
      have l2 := hI9.cell 2
      have l3 := hI9.cell 3
      have z0 := hR9.cell 0
      have z1 := hR9.cell 1
      have z2 := hR9.cell 2
      have z3 := hR9.cell 3
      have y0 := hR9.frozen 0
      have y1 := hR9.frozen 1
      have y2 := hR9.frozen 2
      have y3 := hR9.frozen 3
      clear hI9 hR9
      go_wp2_with fail
      refine (HIN.out _).mono ?_
      rintro e w3 ⟨rfl, rfl⟩
      go_wp2_with fail
      have V := bL HM2.out.res (.int .u8 c.toNat) (.string ⟨#[]⟩) (.int .i64 0) (.slice A vs.length cap)
      have v0 := V.cell 0
      have v1 := V.cell 1
      have v2 := V.cell 2
      have v3 := V.cell 3
      unfold dt at v0 v1 v2 v3
      refine bodyPost_ret (v := .agg #[.int .u8 c.toNat, .string ⟨#[]⟩, .int .i64 0, .slice A vs.length cap]) (by simp [results, Tryz.results197, go_sem, v0, v1, v2, v3]) rfl ?_
      clear v0 v1 v2 v3 V
      exact .inl ⟨.pick bs, q, _, _, _, HRD.out, by omega, hq, by rw [HC.out]; rfl, HM2.out.bodies rfl _ _ _ _, bM HM2.out.rd hQR.symm _ _ _ _, bj HM2.out.only (Nat.le_refl _) _ _ _ _⟩
     | false =>
      rw [hin] at HIN
      have hr : vs.length = 0 ∨ 10 < vs.length := by
       unfold lA at hin
       rcases Bool.and_eq_false_iff.1 hin with h | h
       ·have := of_decide_eq_false h; omega
       ·have := of_decide_eq_false h; omega
      have HNF : Hid (dB f (tx.drop p) ∧ q + 3 * p ≤ 4 * tx.length + 4) := ⟨by rw [HD.out, HC.out]; exact ve HSO.out HNB.out (by have := HVL.out; omega), by omega⟩
      have HM2 : Hid (Made w R tx q true f (.int .u8 c.toNat) (.string ⟨#[]⟩) (.int .i64 0) OB bs vs (.slice A vs.length cap) (wy.setCell ⟨R, 2, none⟩ (.bool true))) := HMY.out.reader hR hOR 2 (.bool true) (Blk.set_ HMY.out.rd 2 (.bool true))
      clear hin hr
      have hI9 := HM2.out.item
      have hR9 := HM2.out.res
      have l0 := hI9.cell 0
      have l1 := hI9.cell 1
      have l2 := hI9.cell 2
      have l3 := hI9.cell 3
      have z0 := hR9.cell 0
      have z1 := hR9.cell 1
      have z2 := hR9.cell 2
      have z3 := hR9.cell 3
      have y0 := hR9.frozen 0
      have y1 := hR9.frozen 1
      have y2 := hR9.frozen 2
      have y3 := hR9.frozen 3
      clear hI9 hR9
      go_wp2_with fail
      refine (HIN.out _).mono ?_
      rintro e w3 ⟨rfl, rfl⟩
      go_wp2_with fail
      have V := bL HM2.out.res (.int .u8 c.toNat) (.string ⟨#[]⟩) (.int .i64 0) (.slice A vs.length cap)
      have v0 := V.cell 0
      have v1 := V.cell 1
      have v2 := V.cell 2
      have v3 := V.cell 3
      unfold dt at v0 v1 v2 v3
      refine bodyPost_ret (v := .agg #[.int .u8 c.toNat, .string ⟨#[]⟩, .int .i64 0, .slice A vs.length cap]) (by simp [results, Tryz.results197, go_sem, v0, v1, v2, v3]) rfl ?_
      clear v0 v1 v2 v3 V
      exact .inr ⟨c.toNat, ⟨#[]⟩, 0, _, _, _, q, HNF.out.1, HNF.out.2, rfl, bM HM2.out.rd hQR.symm _ _ _ _, bj HM2.out.only (Nat.le_refl _) _ _ _ _⟩
   | true =>
    have HNF := GR (hbad rfl)
    clear hgood hbad
    generalize fO tx q 91 = sb at HS
    go_wp2_with fail
    refine HS.out.mono ?_
    rintro e w2 ⟨rfl, m, rfl⟩
    have HMY := GR (HMX.out.drew m)
    have x2 : (wr.drewN m).cell? ⟨R, 2, none⟩ = some (.bool true) := Blk.cell HMY.out.rd 2
    have g2 := Blk.frozen HMY.out.rd 2
    have HM2 : Hid (Made w R tx q true f (.int .u8 c.toNat) (.string ⟨#[]⟩) (.int .i64 0) OB bs vs (.slice A vs.length cap) ((wr.drewN m).setCell ⟨R, 2, none⟩ (.bool true))) := by
     have h := HMY.out
     exact ⟨av h.item hOR 2 _, ek h.row (Only.set R _ 2 _) (by omega), (fun e => by cases e), av h.res hQR 2 _, h.only.trans (Only.set R _ 2 _), Blk.set_ h.rd 2 (.bool true)⟩
    generalize wr.drewN m = wy at *
    have hI9 := HM2.out.item
    have hR9 := HM2.out.res
    have l0 := hI9.cell 0
    have l1 := hI9.cell 1
    have l2 := hI9.cell 2
    have l3 := hI9.cell 3
    have z0 := hR9.cell 0
    have z1 := hR9.cell 1
    have z2 := hR9.cell 2
    have z3 := hR9.cell 3
    have y0 := hR9.frozen 0
    have y1 := hR9.frozen 1
    have y2 := hR9.frozen 2
    have y3 := hR9.frozen 3
    clear hI9 hR9
    cases sb
    all_goals
     go_wp2_with fail
     have V := bL HM2.out.res (.int .u8 c.toNat) (.string ⟨#[]⟩) (.int .i64 0) (.slice A vs.length cap)
     have v0 := V.cell 0
     have v1 := V.cell 1
     have v2 := V.cell 2
     have v3 := V.cell 3
     unfold dt at v0 v1 v2 v3
     refine bodyPost_ret (v := .agg #[.int .u8 c.toNat, .string ⟨#[]⟩, .int .i64 0, .slice A vs.length cap]) (by simp [results, Tryz.results197, go_sem, v0, v1, v2, v3]) rfl ?_
     clear v0 v1 v2 v3 V
     exact .inr ⟨c.toNat, ⟨#[]⟩, 0, _, _, _, q, HNF.out.1, HNF.out.2, rfl, bM HM2.out.rd hQR.symm _ _ _ _, bj HM2.out.only (Nat.le_refl _) _ _ _ _⟩
end Go.Proofs.YtlkfakdghjaoaaaGreatDoor
namespace Go.Proofs.YtlkfakdghjaoaaaGreatDoor
open Go.RowKit Go.Sort
theorem Be (n : Nat) (HB : eV n) : yq (n + 1) := by
 intro R f tx p w hn hp htx hf h
 obtain ⟨c, hc⟩ : ∃ c, tx[p]? = some c := ⟨_, List.getElem?_eq_getElem hp⟩
 cases hl : a7 c with
 | true => exact Bb R f p tx c w hl hc htx h
 | false =>
  by_cases e1 : c = 63
  ·cases hb : tx[p + 1]? with
   | none => exact nJ R f p tx c w e1 hc (fun b e => by rw [hb] at e; cases e) htx h
   | some b =>
    cases hlb : a7 b with
    | true => exact um n HB R f p tx c b w e1 hc hb hlb hn htx hf h
    | false => exact nJ R f p tx c w e1 hc (fun b' e => by rw [hb] at e; cases e; exact hlb) htx h
  by_cases e2 : c = 46
  ·exact zA R f p tx c w e2 hc htx h
  by_cases e3 : c = 40
  ·exact oN n HB R f p tx c w e3 hc hn htx hf h
  by_cases e4 : c = 123
  ·exact pP n HB R f p tx c w e4 hc hn htx hf h
  by_cases e5 : c = 94
  ·exact xy R f p tx c w e5 hc htx h
  by_cases e6 : c = 61
  ·exact Bc R f p tx c w e6 hc htx h
  by_cases e7 : c = 35
  ·exact zC n HB R f p tx c w e7 hc hn htx hf h
  exact xx R f p tx c w hl ⟨e1, e2, e3, e4, e5, e6, e7⟩ hc htx h
theorem sX : ∀ n, eV n
 | 0 => sW 0 fun R f tx p w hn hp _ _ _ => by omega
 | n + 1 => sW (n + 1) (Be n (sX n))
theorem ED {l : List It} {f : Nat} (h : az l f) : (0 : UInt8) ∉ aH l := by
 have h1 := lT (x := 0) ⟨by decide, fun n hn e => by have := congrArg UInt8.toNat e; unfold dH at this; simp at this; omega⟩ (by decide) (by decide) (by decide) (by decide) (by decide) l f h
 have h2 : ce 0 l = 0 := by
  rw [← ji 0 l 0, List.countP_eq_zero]
  rintro ⟨k, i⟩ _
  cases i with
  | frame b _ => cases b <;> simp [cJ, eG]
  | _ => simp [cJ]
 rw [h2] at h1
 intro hm
 have h3 := List.countP_eq_zero.1 h1 0 hm
 simp at h3
def Bf (s : List UInt8) (w : World) (e : Ending) (w' : World) : Prop :=
 (∃ l A n k, bh s l ∧ e = .returned (.tuple #[.slice A n k, .bool true]) ∧ MRowAt w' (bi w) l (.slice A n k) ∧ Below w.heap.size w w') ∨
 ((∀ l, ¬ bh s l) ∧ ∃ A k, e = .returned (.tuple #[.slice A 0 k, .bool false]) ∧ Below w.heap.size w w')
theorem zD {w w1 w2 : World} (h : w.heap.size ≤ w1.heap.size) : Stay w2 (bi w1) w2 (bi w) := ⟨Nat.le_refl _, fun _ _ hp => ⟨Nat.le_trans h hp, rfl⟩⟩
theorem pd {w w1 w2 : World} {B R : Nat} (h : Below B w w1) (k : Only R w1 w2) (hR : B ≤ R) (hB : B ≤ w1.heap.size) : Below B w w2 :=
 ⟨k.os.trans h.os, k.tape.trans h.tape, k.output.trans h.output, Nat.le_trans h.size k.size, fun i hi => (k.block i (by omega) (Nat.lt_of_lt_of_le hi hB)).trans (h.block i hi)⟩
theorem qC (s : List UInt8) (w : World) (hs : s.length ≤ 1048576) :
  Calls Tryz.prog 113 #[.string (tb s)] w (Bf s w) := by
 have hz : (tb s).size = s.length := aB s
 have hR : Mrd (w.alloc (.cells #[.string (tb s), .int .i64 0, .bool false, .int .i64 0] 225)) w.heap.size s 0 false 0 := Blk.new w _ _
 have HBD := GR (sX s.length w.heap.size 0 s 0 0 _ (by omega) (by omega) hs (by omega) hR)
 have hb0 := (Below.refl w.heap.size w).alloc (Nat.le_refl _) (.cells #[.string (tb s), .int .i64 0, .bool false, .int .i64 0] 225)
 have HB0 := GR hb0
 have HZ := GR hz
 obtain ⟨x, hx⟩ : ∃ x, x = tb s := ⟨_, rfl⟩
 clear hR hb0 hz
 rw [← hx] at HBD HB0 HZ ⊢
 clear hx
 go_enter Tryz.func113, Tryz.ntmps113
 go_wp2_with fail
 refine HBD.out.mono ?_
 rintro e w1 (⟨l, p, v, hl, hd, _, hp, hh, rfl, hrow, hm, ho⟩ | ⟨A, m, k, p, hno, hfar, rfl, hm, ho⟩)
 ·obtain ⟨xs, ⟨A, k, rfl, hx2⟩, hx3⟩ := hrow
  have HROW : Hid (MRowAt w1 (bi (w.alloc (.cells #[.string x, .int .i64 0, .bool false, .int .i64 0] 225))) l (.slice A l.length k)) := ⟨xs, ⟨A, k, rfl, hx2⟩, hx3⟩
  have HB1 := GR (pd HB0.out ho (Nat.le_refl _) (by simp))
  have c1 := Blk.cell hm 1
  have c2 := Blk.cell hm 2
  have HL := GR hl
  have HD := GR hd
  have HH := GR hh
  have hbs := HB1.out.size
  clear hl hd hh hm ho hx2 hx3
  have hpx : p ≤ x.size := by have := HZ.out; omega
  by_cases hpe : p = x.size
  ·have q1 : ((p : Int) != (x.size : Int)) = false := by rw [hpe]; simp
   have HE : Hid (s = aH l) := by
    show s = aH l
    have h5 := HD.out
    rw [List.drop_zero, hpe, HZ.out, List.drop_length, List.append_nil] at h5
    exact h5
   clear hpe
   by_cases h200 : 200 < x.size
   ·have q2 : decide ((200 : Int) < (x.size : Int)) = true := decide_eq_true (by omega)
    go_wp2_with fail
    go_ret2
    exact .inr ⟨fun l' h => by have := h.1; have := HZ.out; omega, _, _, rfl, HB1.out.alloc hbs _⟩
   ·have q2 : decide ((200 : Int) < (x.size : Int)) = false := decide_eq_false (by omega)
    go_wp2_with fail
    go_ret2
    exact .inl ⟨l, _, _, _, ⟨by have := HZ.out; omega, HL.out, HE.out⟩, rfl, HROW.out.stay (zD (by simp)), HB1.out⟩
  ·have q1 : ((p : Int) != (x.size : Int)) = true := by simpa using (by omega : ¬ (p : Int) = (x.size : Int))
   have HN : Hid (∀ l, ¬ bh s l) := by
    intro l' h
    have hlt : p < s.length := by have := HZ.out; omega
    rcases HH.out with e | ⟨t, e⟩
    ·have := congrArg List.length e; simp at this; omega
    ·have h5 := HD.out
     rw [List.drop_zero, e] at h5
     have h6 : (0 : UInt8) ∈ s := by rw [h5]; simp
     rw [h.2.2] at h6
     exact ED h.2.1 h6
   clear hpe
   go_wp2_with fail
   go_ret2
   exact .inr ⟨HN.out, _, _, rfl, HB1.out.alloc hbs _⟩
 ·have HB1 := GR (pd HB0.out ho (Nat.le_refl _) (by simp))
  have c2 := Blk.cell hm 2
  have hbs := HB1.out.size
  have HN : Hid (∀ l, ¬ bh s l) := fun l h => hno l [] h.2.1 (.inl rfl) (by rw [List.append_nil, List.drop_zero]; exact h.2.2)
  clear hm ho hno
  go_wp2_with fail
  go_ret2
  exact .inr ⟨HN.out, _, _, rfl, HB1.out.alloc hbs _⟩
end Go.Proofs.YtlkfakdghjaoaaaGreatDoor
namespace Go.Proofs.YtlkfakdghjaoaaaGreatDoor
open Go.RowKit Go.Sort
theorem oO (s : List UInt8) (w : World) (hs : s.length ≤ 1048576) :
  Calls Tryz.prog 96 #[.string (tb s)] w fun e w' => ((∃ l, bh s l) ∧ e = .returned (.bool true) ∨ (∀ l, ¬ bh s l) ∧ e = .returned (.bool false)) ∧ Below w.heap.size w w' := by
 have HC := GR (qC s w hs)
 go_enter Tryz.func96, Tryz.ntmps96
 go_wp2_with fail
 refine HC.out.mono ?_
 rintro e w1 (⟨l, A, n, k, hl, rfl, _, b1⟩ | ⟨hno, A, k, rfl, b1⟩)
 ·have HL := GR hl
  have HB := GR b1
  clear hl b1
  go_wp2_with fail
  go_ret
  exact ⟨.inl ⟨⟨l, HL.out⟩, rfl⟩, HB.out⟩
 ·have HN := GR hno
  have HB := GR b1
  clear hno b1
  go_wp2_with fail
  go_ret
  exact ⟨.inr ⟨HN.out, rfl⟩, HB.out⟩
end Go.Proofs.YtlkfakdghjaoaaaGreatDoor
