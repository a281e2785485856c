/-
  The model's reader: a row of items, a row between two bytes, a frame, given one item.
-/
import Derived.Test.YtgkamcnbpiipoaaGreatSpecReader
import Derived.Test.YtgkamcnbpiipoaaGreatItems
import Derived.Deep.AppendLies
import Derived.Deep.DeepCutAuto
import Derived.BigQuiet
import Derived.Deep.RegionHeld3
namespace Go.Proofs.YtgkamcnbpiipoaaGreat
open Go.RowKit Go.Sort

/-- What the model's reader hands back for one item: it goes on behind it, or has gone wrong. -/
def MItemPost (R f : Nat) (tx : List UInt8) (p : Nat) (w : World) (e : Ending) (w' : World) : Prop :=
  (∃ i p' A n k, RdI f (tx.drop p) i (tx.drop p') ∧ p < p' ∧ p' ≤ tx.length ∧ e = .returned (.agg #[.int .u8 (kindI i).toNat, .string (tb (nameI i)), .int .i64 (numI i), .slice A n k]) ∧ MBodAt w' (NewIn w) i (.slice A n k) ∧ Mrd w' R tx p' false f ∧ Only R w w') ∨
  (∃ (kd : Nat) (b : ByteArray) (z : Int) (A : Option Addr) (n k p' : Nat), NoI f (tx.drop p) ∧ p' + 3 * p ≤ 4 * tx.length + 4 ∧ e = .returned (.agg #[.int .u8 kd, .string b, .int .i64 z, .slice A n k]) ∧ Mrd w' R tx p' true f ∧ Only R w w')
def MBodyPost (R f : Nat) (tx : List UInt8) (p : Nat) (c : UInt8) (w : World) (e : Ending) (w' : World) : Prop :=
  (∃ l p' v, OkL l f ∧ tx.drop p = txL l ++ tx.drop p' ∧ p ≤ p' ∧ p' ≤ tx.length ∧ HaltAt c (tx.drop p') ∧ e = .returned v ∧ MRowAt w' (NewIn w) l v ∧ Mrd w' R tx p' false f ∧ Only R w w') ∨
  (∃ A n k p', NoLe c f (tx.drop p) ∧ p' + 3 * p ≤ 4 * tx.length + 4 ∧ e = .returned (.slice A n k) ∧ Mrd w' R tx p' true f ∧ Only R w w')

/-- The contract of the model's item and body, for texts of which so many bytes are left at most. -/
def MItemOk (n : Nat) : Prop := ∀ (R f : Nat) (tx : List UInt8) (p : Nat) (w : World), tx.length - p ≤ n → p < tx.length → tx.length ≤ 1048576 → f ≤ 9 → Mrd w R tx p false f →
  Calls Tryz.prog 85 #[.pointer (some ⟨R, 0, none⟩)] w (MItemPost R f tx p w)
def MBodyOk (n : Nat) : Prop := ∀ (R f : Nat) (tx : List UInt8) (p : Nat) (c : UInt8) (w : World), tx.length - p ≤ n → p ≤ tx.length → tx.length ≤ 1048576 → f ≤ 9 → Mrd w R tx p false f →
  Calls Tryz.prog 66 #[.pointer (some ⟨R, 0, none⟩), .int .u8 c.toNat] w (MBodyPost R f tx p c w)

theorem info_l5item : (Tryz.prog.info? 157).map (fun i => (i.zero, i.size, i.bytes)) = some (some (.agg #[.int .u8 0, .string ⟨#[]⟩, .int .i64 0, .slice none 0 0]), 4, 56) := by kernel_rfl
theorem info_l5items : (Tryz.prog.info? 90).map (fun i => (i.zero, i.size, i.bytes)) = some (some (.slice none 0 0), 1, 24) := by kernel_rfl

theorem own_slice {w : World} {base : Nat} {e : TypeId} {size : Nat} {v : Value} {n : Nat} {xs : List Value} (h : w.ownsRow base e size v n xs) : ∃ A k, v = .slice A n k := by
  rcases h.2 with ⟨rfl, h0⟩ | ⟨gb, cap, cur, hv, _⟩
  · exact ⟨none, 0, by rw [h0]⟩
  · exact ⟨_, _, hv⟩

theorem own_drewN {w : World} {base : Nat} {e : TypeId} {size : Nat} {v : Value} {n : Nat} {xs : List Value} (h : w.ownsRow base e size v n xs) (m : Nat) : (w.drewN m).ownsRow base e size v n xs := h

set_option maxRecDepth 100000 in
set_option maxHeartbeats 1600000 in
/-- Where it has gone wrong, no item is read. -/
theorem mbody_bad (R f p : Nat) (tx : List UInt8) (c : UInt8) (w : World) (h : Mrd w R tx p true f) :
    Calls Tryz.prog 66 #[.pointer (some ⟨R, 0, none⟩), .int .u8 c.toNat] w fun e w' => ∃ A n k, e = .returned (.slice A n k) ∧ Mrd w' R tx p true f ∧ Only R w w' := by
  have h1 := Blk.alloc h (.cells #[] 157)
  have d2 : (w.alloc (.cells #[] 157)).cell? ⟨R, 2, none⟩ = some (.bool true) := Blk.cell h1 2
  have H1 := Lib.hid h1
  clear h h1
  go_enter Tryz.func66, Tryz.ntmps66
  go_wp2_with fail
  go_loopg [5] 0 (fun gk pv wr => pv = .slice (some ⟨w.heap.size, 0, none⟩) 0 0 ∧ wr = w.alloc (.cells #[] 157))
  case atStart => exact ⟨rfl, rfl⟩
  case round =>
    obtain ⟨rfl, rfl⟩ := hrel
    go_wp2_with fail
    go_quiet (fail)
    go_wp2_with fail
    go_ret
    exact ⟨_, _, _, rfl, H1.out, ((Only.refl R w).alloc _).trans (only_drewN R _ _)⟩

set_option maxRecDepth 100000 in
set_option maxHeartbeats 3200000 in
theorem mbody_any (n : Nat) (HI : MItemOk n) : MBodyOk n := by
  intro R f tx p c w hn hp htx hf h
  obtain ⟨i0, hi, hz0, hz1, hz2⟩ := info_parts info_l5item
  have HIX := Lib.hid HI
  have hR := h.lt
  obtain ⟨x, hx⟩ : ∃ x, x = tb tx := ⟨_, rfl⟩
  have hxz : x.size = tx.length := by rw [hx, tb_size]
  have hxd : x.data.toList = tx := by rw [hx, tb_data]
  have HR0 : Hid (Mrd (w.alloc (.cells #[] 157)) R tx p false f) := Blk.alloc h (.cells #[] 157)
  have HX := Lib.hid hx
  have HXZ := Lib.hid hxz
  have HXD := Lib.hid hxd
  have hpx : p ≤ x.size := by omega
  have htx2 : x.size ≤ 1048576 := by omega
  clear HI h hx hxz hxd
  go_enter Tryz.func66, Tryz.ntmps66
  go_wp2_with fail
  have HO0 := Lib.hid (World.ownsRow_made (base := w.heap.size) (e := 157) (size := 4) w #[] 0 (Nat.le_refl _) (Nat.zero_le _) rfl)
  go_loopg [5] (tx.length + 1 - p) (fun gk pv wr =>
    (∃ (l : List It) (q : Nat) (vs : List Value) (pv' : Value), gk = tx.length + 1 - q ∧ pv' = pv ∧ p ≤ q ∧ q ≤ tx.length ∧ l.length + p ≤ q ∧ Hid (SoL f (tx.drop p) l (tx.drop q)) ∧ Hid (wr.ownsRow w.heap.size 157 4 pv l.length vs) ∧ Hid (MAllAt wr (NewBut w.heap.size pv) l vs) ∧ Hid (Mrd wr R tx q false f) ∧ Hid (Only R w wr)) ∨
    (∃ A m k q, gk = 0 ∧ pv = .slice A m k ∧ q + 3 * p ≤ 4 * tx.length + 4 ∧ Hid (NoLe c f (tx.drop p)) ∧ Hid (Mrd wr R tx q true f) ∧ Hid (Only R w wr)))
  case atStart => exact .inl ⟨[], p, [], _, rfl, rfl, Nat.le_refl _, hp, by simp, soL_start f _, HO0.out, MAllAt.nil _ _, HR0.out, (Only.refl R w).alloc _⟩
  case round =>
    rcases hrel with ⟨l, q, vs, pv, rfl, rfl, hpq, hq, hlq, HS, HOW, HAT, HR, HO⟩ | ⟨A, m, k, q, rfl, rfl, hq, HNL, HR, HO⟩
    · have d0 : wr.cell? ⟨R, 0, none⟩ = some (.string x) := by rw [HX.out]; exact Blk.cell HR.out 0
      have d1 : wr.cell? ⟨R, 1, none⟩ = some (.int .i64 q) := Blk.cell HR.out 1
      have d2 : wr.cell? ⟨R, 2, none⟩ = some (.bool false) := Blk.cell HR.out 2
      have hqx : q ≤ x.size := by have := HXZ.out; omega
      by_cases hlt : q < x.size
      · have hb := byte_at x q hlt
        have hget : tx[q]? = some x[q] := by rw [← HXD.out]; exact hb
        have hdq := drop_at hget
        have q1 : decide ((q : Int) < (x.size : Int)) = true := decide_eq_true (by omega)
        by_cases hbc : x[q] = c
        · have q2 : ((x[q].toNat : Int) != (c.toNat : Int)) = false := by rw [hbc]; simp
          have HH := Lib.hid (show HaltAt c (tx.drop q) from .inr ⟨_, by rw [hdq, hbc]⟩)
          clear hb hget hdq hbc
          go_wp2_with fail
          go_quiet (fail)
          go_wp2_with fail
          go_ret
          have ho := own_reads4 HOW.out HAT.out.len
          refine .inl ⟨l, q, _, HS.out.1, HS.out.2.1, hpq, hq, HH.out, rfl, ⟨vs, ?_, ?_⟩, HR.out, HO.out.trans (only_drewN R _ _)⟩
          · exact ho
          · exact MAllAt.stay (w := wr) (P := NewBut w.heap.size pv) (w' := wr.drewN nq) (P' := NewIn w) ⟨Nat.le_refl _, fun b _ hp => ⟨hp.1, rfl⟩⟩ l vs HAT.out
        · have q2 : ((x[q].toNat : Int) != (c.toNat : Int)) = true := by have := byte_ne hbc; simp only [bne, this]; rfl
          have HNE := Lib.hid (show ¬ EndAt c (tx.drop q) from fun e => by
            rcases e with e | ⟨_, t, e⟩
            · rw [hdq] at e; cases e
            · rw [hdq] at e; exact hbc (List.cons.inj e).1)
          clear hb hget hdq hbc
          go_wp2_with fail
          go_quiet (fail)
          have HIT := Lib.hid (HIX.out R f tx q (wr.drewN nq) (by omega) (by have := HXZ.out; omega) htx hf (HR.out.drewN nq))
          have HO1 := Lib.hid (HO.out.trans (only_drewN R wr nq))
          have HOW1 : Hid ((wr.drewN nq).ownsRow w.heap.size 157 4 pv l.length vs) := own_drewN HOW.out nq
          have HAT1 : Hid (MAllAt (wr.drewN nq) (NewBut w.heap.size pv) l vs) := MAllAt.stay (w := wr) (w' := wr.drewN nq) ⟨Nat.le_refl _, fun b _ hp => ⟨hp, rfl⟩⟩ l vs HAT.out
          generalize wr.drewN nq = w1 at *
          clear d0 d1 d2
          go_wp2_with fail
          refine HIT.out.mono ?_
          rintro e w2 (⟨i, p', A, m, k, hrd, hqp, hpl, rfl, hit, hr2, ho2⟩ | ⟨kd, b, z, A, m, k, p', hno, hfar, rfl, hr2, ho2⟩)
          · have HOW2 := Lib.hid (own_only HOW1.out ho2 hR)
            have HRD := Lib.hid hrd
            have hsz2 := ho2.size
            have hown := HOW1.out.lt
            have HIT2 : Hid (MBodAt w2 (NewBut w.heap.size pv) i (.slice A m k)) := MBodAt.stay ⟨Nat.le_refl _, fun b _ hp => ⟨⟨Nat.le_trans HO1.out.size hp, fun e => by have := (hown b e.symm).2; have hp' : w1.heap.size ≤ b := hp; omega⟩, rfl⟩⟩ i _ hit
            have HAT2 : Hid (MAllAt w2 (NewBut w.heap.size pv) l vs) := MAllAt.stay ⟨hsz2, fun b hb hp => ⟨hp, ho2.block b (by have := hp.1; omega) hb⟩⟩ l vs HAT1.out
            have HR2 := Lib.hid hr2
            have HO2 := Lib.hid (HO1.out.trans ho2)
            have hll : l.length ≤ 1048576 := by omega
            have hbs := HO1.out.size
            clear hrd hit hr2 ho2
            go_wp2_with (at_builtin; go_loud (refine wpList_append_own_at _ rfl _ _ 90 rfl w.heap.size 157 i0 _ 4 56 Tryz.underlying90 hi hz0 hz1 hz2 rfl (by decide) _ _ _ rfl (HOW2.out.alloc _) ⟨w2.heap.size, 0, none⟩ 1 1 [.int .u8 (kindI i).toNat, .string (tb (nameI i)), .int .i64 (numI i), .slice A m k] rfl rfl ?c1 ?c2 ?c3 ?c4 ?c5 ?_))
            case c1 => exact World.news_of_block (cs := #[.int .u8 (kindI i).toNat, .string (tb (nameI i)), .int .i64 (numI i), .slice A m k]) (t := 157) (fr := (0, 0)) (heap_alloc_new w2 _)
            case c2 => simp [Value.oneCell']
            case c3 => unfold maxLen; omega
            case c4 => omega
            case c5 => simp; omega
            intro v' w5 hown' hgrow _ hat
            have hown2 := HOW2.out.lt
            have hG : w2.grownBy w5 pv.ownBlock := (World.grownBy_alloc w2 _ _).trans hgrow
            have HST : Stay w2 (NewBut w.heap.size pv) w5 (NewBut w.heap.size v') := ⟨hG.size, fun b hb hp => ⟨⟨hp.1, by
              rcases hat with q | q
              · rw [q]; exact hp.2
              · rw [q]; intro e; have := Option.some.inj e; first | omega | (rw [World.size_alloc] at this; omega) | (simp at this; omega)⟩, hG.block b hb hp.2⟩⟩
            have HAT5 := Lib.hid (MAllAt.stay HST _ _ (HAT2.out.snoc HIT2.out))
            have HR5 : Hid (Mrd w5 R tx p' false f) := (hG.block R HR2.out.lt (fun e => by have := (hown2 R e.symm).1; omega)).trans HR2.out
            have HO5 := Lib.hid (HO2.out.grown hG fun k e => (hown2 k e).1)
            have HOW5 : Hid (w5.ownsRow w.heap.size 157 4 v' (l ++ [i]).length (vs ++ mcells i (.slice A m k))) := by
              show w5.ownsRow _ _ _ _ _ _
              rw [List.length_append, List.length_singleton]; exact hown'
            have HS5 := Lib.hid (soL_next HS.out HRD.out)
            have hl5 : (l ++ [i]).length + p ≤ p' := by rw [List.length_append, List.length_singleton]; omega
            clear hown2 hG HST hgrow hat hown'
            go_wp2_with fail
            go_roundg (tx.length + 1 - p')
            case measure => omega
            case rel => exact .inl ⟨l ++ [i], p', vs ++ mcells i (.slice A m k), v', rfl, rfl, by omega, hpl, hl5, HS5.out, HOW5.out, HAT5.out, HR5.out, HO5.out⟩
          · have HOW2 := Lib.hid (own_only HOW1.out ho2 hR)
            have HR2 := Lib.hid hr2
            have HO2 := Lib.hid (HO1.out.trans ho2)
            have HNL := Lib.hid (soL_noE HS.out HNE.out hno)
            have hll : l.length ≤ 1048576 := by omega
            have hbs := HO1.out.size
            have hsz2 := ho2.size
            clear hr2 ho2 hno
            go_wp2_with (at_builtin; go_loud (refine wpList_append_own_at _ rfl _ _ 90 rfl w.heap.size 157 i0 _ 4 56 Tryz.underlying90 hi hz0 hz1 hz2 rfl (by decide) _ _ _ rfl (HOW2.out.alloc _) ⟨w2.heap.size, 0, none⟩ 1 1 [.int .u8 kd, .string b, .int .i64 z, .slice A m k] rfl rfl ?c1 ?c2 ?c3 ?c4 ?c5 ?_))
            case c1 => exact World.news_of_block (cs := #[.int .u8 kd, .string b, .int .i64 z, .slice A m k]) (t := 157) (fr := (0, 0)) (heap_alloc_new w2 _)
            case c2 => simp [Value.oneCell']
            case c3 => unfold maxLen; omega
            case c4 => omega
            case c5 => simp; omega
            intro v' w5 hown' hgrow _ hat
            have hown2 := HOW2.out.lt
            have hG : w2.grownBy w5 pv.ownBlock := (World.grownBy_alloc w2 _ _).trans hgrow
            have HR5 : Hid (Mrd w5 R tx p' true f) := (hG.block R HR2.out.lt (fun e => by have := (hown2 R e.symm).1; omega)).trans HR2.out
            have HO5 := Lib.hid (HO2.out.grown hG fun k e => (hown2 k e).1)
            obtain ⟨A5, k5, rfl⟩ := own_slice hown'
            clear hown2 hG hgrow hat hown'
            go_wp2_with fail
            go_roundg 0
            case measure => have := HXZ.out; omega
            case rel => exact .inr ⟨A5, _, k5, p', rfl, rfl, by omega, HNL.out, HR5.out, HO5.out⟩
      · have hqe : q = tx.length := by have := HXZ.out; omega
        have q1 : decide ((q : Int) < (x.size : Int)) = false := decide_eq_false (by omega)
        have HH := Lib.hid (show HaltAt c (tx.drop q) from .inl (List.drop_eq_nil_of_le (by omega)))
        have hql : q ≤ tx.length := hq
        clear hqe
        go_wp2_with fail
        go_quiet (fail)
        go_wp2_with fail
        go_ret
        have ho := own_reads4 HOW.out HAT.out.len
        refine .inl ⟨l, q, _, HS.out.1, HS.out.2.1, hpq, hql, HH.out, rfl, ⟨vs, ?_, ?_⟩, HR.out, HO.out.trans (only_drewN R _ _)⟩
        · exact ho
        · exact MAllAt.stay (w := wr) (P := NewBut w.heap.size pv) (w' := wr.drewN nq) (P' := NewIn w) ⟨Nat.le_refl _, fun b _ hp => ⟨hp.1, rfl⟩⟩ l vs HAT.out
    · have d2 : wr.cell? ⟨R, 2, none⟩ = some (.bool true) := Blk.cell HR.out 2
      go_wp2_with fail
      go_quiet (fail)
      go_wp2_with fail
      go_ret
      exact .inr ⟨A, m, k, q, HNL.out, hq, rfl, HR.out, HO.out.trans (only_drewN R _ _)⟩
end Go.Proofs.YtgkamcnbpiipoaaGreat

/-
  The model's reader: a row between two bytes, a frame.
-/
namespace Go.Proofs.YtgkamcnbpiipoaaGreat
open Go.RowKit Go.Sort

def MWithPost (R f : Nat) (tx : List UInt8) (p : Nat) (b c : UInt8) (w : World) (e : Ending) (w' : World) : Prop :=
  (∃ l p' A n k, OkL l f ∧ tx.drop p = b :: (txL l ++ c :: tx.drop p') ∧ p < p' ∧ p' ≤ tx.length ∧ e = .returned (.slice A n k) ∧ MRowAt w' (NewIn w) l (.slice A n k) ∧ Mrd w' R tx p' false f ∧ Only R w w') ∨
  (∃ A n k p', (∀ l r, OkL l f → tx.drop p ≠ b :: (txL l ++ c :: r)) ∧ p' + 3 * p ≤ 4 * tx.length + 2 ∧ e = .returned (.slice A n k) ∧ Mrd w' R tx p' true f ∧ Only R w w')

set_option maxRecDepth 100000 in
set_option maxHeartbeats 1600000 in
theorem mwithin_bad (R f p : Nat) (tx : List UInt8) (b c : UInt8) (w : World) (hp : p ≤ 8388600) (h : Mrd w R tx p true f) :
    Calls Tryz.prog 100 #[.pointer (some ⟨R, 0, none⟩), .int .u8 b.toNat, .int .u8 c.toNat] w fun e w' => ∃ A n k, e = .returned (.slice A n k) ∧ Mrd w' R tx (p + 2) true f ∧ Only R w w' := by
  have H1 := Lib.hid (is_any R p f tx true b w (by omega) h)
  have H2 := Lib.hid (fun W (k : Mrd W R tx (p + 1) true f) => mbody_bad R f (p + 1) tx c W k)
  have H3 := Lib.hid (fun W (k : Mrd W R tx (p + 1) true f) => is_any R (p + 1) f tx true c W (by omega) k)
  clear h
  go_enter Tryz.func100, Tryz.ntmps100
  go_wp2_with fail
  refine H1.out.mono ?_
  rintro e w1 ⟨rfl, k1, o1⟩
  have K1 := Lib.hid k1
  have O1 := Lib.hid o1
  clear k1 o1
  go_wp2_with fail
  refine (H2.out _ (by have := K1.out; simpa using this)).mono ?_
  rintro e w2 ⟨A, n, k, rfl, k2, o2⟩
  have K2 := Lib.hid k2
  have O2 := Lib.hid o2
  clear k2 o2
  go_wp2_with fail
  refine (H3.out _ K2.out).mono ?_
  rintro e w3 ⟨rfl, k3, o3⟩
  have K3 := Lib.hid k3
  have O3 := Lib.hid o3
  clear k3 o3
  go_wp2_with fail
  go_ret
  exact ⟨A, n, k, rfl, by have := K3.out; simpa using this, (O1.out.trans O2.out).trans O3.out⟩

theorem sees_at {tx : List UInt8} {p : Nat} {c : UInt8} (h : seesB tx p c = true) : tx[p]? = some c := of_decide_eq_true h
theorem sees_not {tx : List UInt8} {p : Nat} {c : UInt8} (h : seesB tx p c = false) : tx[p]? ≠ some c := of_decide_eq_false h
theorem sees_halt {tx : List UInt8} {p : Nat} {c : UInt8} (hp : p ≤ tx.length) (h : seesB tx p c = false) (hh : HaltAt c (tx.drop p)) : p = tx.length := by
  rcases hh with hh | ⟨t, hh⟩
  · have := congrArg List.length hh
    simp at this; omega
  · exact absurd (drop_cons hh).2.2 (sees_not h)

set_option maxRecDepth 100000 in
set_option maxHeartbeats 1600000 in
theorem mwithin_any (n : Nat) (HB : MBodyOk n) (R f p : Nat) (tx : List UInt8) (b c : UInt8) (w : World) (hc : c = 41 ∨ c = 125 ∨ c = 93) (hn : tx.length - p ≤ n + 1) (hp : p ≤ tx.length) (htx : tx.length ≤ 1048576) (hf : f ≤ 9) (h : Mrd w R tx p false f) :
    Calls Tryz.prog 100 #[.pointer (some ⟨R, 0, none⟩), .int .u8 b.toNat, .int .u8 c.toNat] w (MWithPost R f tx p b c w) := by
  have H1 := Lib.hid (is_any R p f tx false b w (by omega) h)
  have hR := h.lt
  have HBX := Lib.hid HB
  clear h HB
  cases hs : seesB tx p b with
  | false =>
    rw [hs] at H1
    have H2 := Lib.hid (fun W (k : Mrd W R tx (p + 1) true f) => mbody_bad R f (p + 1) tx c W k)
    have H3 := Lib.hid (fun W (k : Mrd W R tx (p + 1) true f) => is_any R (p + 1) f tx true c W (by omega) k)
    have HNO := Lib.hid (show ∀ l r, OkL l f → tx.drop p ≠ b :: (txL l ++ c :: r) from fun l r _ e => sees_not hs (drop_cons e).2.2)
    clear hs hc
    go_enter Tryz.func100, Tryz.ntmps100
    go_wp2_with fail
    refine H1.out.mono ?_
    rintro e w1 ⟨rfl, k1, o1⟩
    have K1 := Lib.hid k1
    have O1 := Lib.hid o1
    clear k1 o1
    go_wp2_with fail
    refine (H2.out _ (by have := K1.out; simpa using this)).mono ?_
    rintro e w2 ⟨A, m, k, rfl, k2, o2⟩
    have K2 := Lib.hid k2
    have O2 := Lib.hid o2
    clear k2 o2
    go_wp2_with fail
    refine (H3.out _ K2.out).mono ?_
    rintro e w3 ⟨rfl, k3, o3⟩
    have K3 := Lib.hid k3
    have O3 := Lib.hid o3
    clear k3 o3
    go_wp2_with fail
    go_ret
    exact .inr ⟨A, m, k, p + 2, HNO.out, by omega, rfl, by have := K3.out; simpa using this, (O1.out.trans O2.out).trans O3.out⟩
  | true =>
    rw [hs] at H1
    have hget := sees_at hs
    have hd := drop_at hget
    have hlt := (drop_cons hd).1
    have HD := Lib.hid hd
    have H2 := Lib.hid (fun W (k : Mrd W R tx (p + 1) false f) => HBX.out R f tx (p + 1) c W (by omega) (by omega) htx hf k)
    have H3 := Lib.hid (fun q bad W (hq : q ≤ 8388608) (k : Mrd W R tx q bad f) => is_any R q f tx bad c W hq k)
    have HC := Lib.hid hc
    clear hs hc hget hd
    go_enter Tryz.func100, Tryz.ntmps100
    go_wp2_with fail
    refine H1.out.mono ?_
    rintro e w1 ⟨rfl, k1, o1⟩
    have K1 := Lib.hid k1
    have O1 := Lib.hid o1
    clear k1 o1
    go_wp2_with fail
    refine (H2.out _ (by have := K1.out; simpa using this)).mono ?_
    rintro e w2 (⟨l, q, v, hl, hdq, hpq, hq, hh, rfl, hrow, k2, o2⟩ | ⟨A, m, k, q, hno, hfar, rfl, k2, o2⟩)
    · obtain ⟨xs, ⟨A, k, rfl, hx2⟩, hx3⟩ := hrow
      have HROW : Hid (MRowAt w2 (NewIn w1) l (.slice A l.length k)) := ⟨xs, ⟨A, k, rfl, hx2⟩, hx3⟩
      have HL := Lib.hid hl
      have HDQ := Lib.hid hdq
      have HH := Lib.hid hh
      have K2 := Lib.hid k2
      have O2 := Lib.hid o2
      clear hl hdq hh k2 o2 hx2 hx3
      go_wp2_with fail
      refine (H3.out q false _ (by omega) K2.out).mono ?_
      rintro e w3 ⟨rfl, k3, o3⟩
      have K3 := Lib.hid k3
      have O3 := Lib.hid o3
      clear k3 o3
      go_wp2_with fail
      go_ret
      cases hs2 : seesB tx q c with
      | true =>
        have hd2 := drop_at (sees_at hs2)
        have hq2 := (drop_cons hd2).1
        refine .inl ⟨l, q + 1, A, l.length, k, HL.out, by rw [HD.out, HDQ.out, hd2], by omega, by omega, rfl, ?_, by have := K3.out; rw [hs2] at this; simpa using this, (O1.out.trans O2.out).trans O3.out⟩
        refine (HROW.out.stay (?_ : Stay w2 (NewIn w1) w3 (NewIn w)))
        have h1 := O1.out.size
        exact ⟨O3.out.size, fun b hb hp => ⟨Nat.le_trans h1 hp, O3.out.block b (by have hp' : w1.heap.size ≤ b := hp; omega) hb⟩⟩
      | false =>
        have hqe := sees_halt hq hs2 HH.out
        refine .inr ⟨A, l.length, k, q + 1, fun l' r hl' e => ?_, by omega, rfl, by have := K3.out; rw [hs2] at this; simpa using this, (O1.out.trans O2.out).trans O3.out⟩
        rw [HD.out] at e
        have e2 := (List.cons.inj e).2
        rw [HDQ.out, hqe, List.drop_length] at e2
        have hce : Ends (c :: r) := by
          rcases HC.out with h | h | h <;> subst h
          · exact .inr ⟨r, .inl rfl⟩
          · exact .inr ⟨r, .inr (.inl rfl)⟩
          · exact .inr ⟨r, .inr (.inr rfl)⟩
        have := (uniqL l l' f f [] (c :: r) HL.out hl' (.inl rfl) hce e2).2
        cases this
    · have HNO := Lib.hid hno
      have K2 := Lib.hid k2
      have O2 := Lib.hid o2
      clear hno k2 o2
      go_wp2_with fail
      refine (H3.out q true _ (by omega) K2.out).mono ?_
      rintro e w3 ⟨rfl, k3, o3⟩
      have K3 := Lib.hid k3
      have O3 := Lib.hid o3
      clear k3 o3
      go_wp2_with fail
      go_ret
      refine .inr ⟨A, m, k, q + 1, fun l' r hl' e => ?_, by omega, rfl, by have := K3.out; simpa using this, (O1.out.trans O2.out).trans O3.out⟩
      rw [HD.out] at e
      exact HNO.out l' (c :: r) hl' (.inr ⟨HC.out, r, rfl⟩) (List.cons.inj e).2

def MFramePost (R f : Nat) (tx : List UInt8) (p : Nat) (b : Bool) (w : World) (e : Ending) (w' : World) : Prop :=
  (∃ l p' A n k, f < 9 ∧ OkL l (f + 1) ∧ tx.drop p = opn b :: (txL l ++ cls b :: tx.drop p') ∧ p < p' ∧ p' ≤ tx.length ∧ e = .returned (.slice A n k) ∧ MRowAt w' (NewIn w) l (.slice A n k) ∧ Mrd w' R tx p' false f ∧ Only R w w') ∨
  (∃ A n k p', NoI f (tx.drop p) ∧ p' + 3 * p ≤ 4 * tx.length + 2 ∧ e = .returned (.slice A n k) ∧ Mrd w' R tx p' true f ∧ Only R w w')

theorem only_set_size {R : Nat} {w : World} (i : Nat) (u : Value) {w' : World} (h : Only R (w.setCell ⟨R, i, none⟩ u) w') : Only R w w' := (Only.set R w i u).trans h

set_option maxRecDepth 100000 in
set_option maxHeartbeats 1600000 in
theorem mframe_any (n : Nat) (HB : MBodyOk n) (R f p : Nat) (tx : List UInt8) (b : Bool) (w : World) (hat : tx[p]? = some (opn b)) (hn : tx.length - p ≤ n + 1) (hp : p ≤ tx.length) (htx : tx.length ≤ 1048576) (hf : f ≤ 9) (h : Mrd w R tx p false f) :
    Calls Tryz.prog 101 #[.pointer (some ⟨R, 0, none⟩), .int .u8 (opn b).toNat, .int .u8 (cls b).toNat] w (MFramePost R f tx p b w) := by
  have d3 : w.cell? ⟨R, 3, none⟩ = some (.int .i64 f) := Blk.cell h 3
  have f3 : w.frozen? ⟨R, 3, none⟩ = false := Blk.frozen h 3
  have k1 := Blk.set_ h 3 (.int .i64 ((f : Int) + 1))
  have d2' : (w.setCell ⟨R, 3, none⟩ (.int .i64 ((f : Int) + 1))).cell? ⟨R, 2, none⟩ = some (.bool false) := k1.cell 2
  have d3' : (w.setCell ⟨R, 3, none⟩ (.int .i64 ((f : Int) + 1))).cell? ⟨R, 3, none⟩ = some (.int .i64 ((f : Int) + 1)) := k1.cell 3
  have f2' := k1.frozen 2
  have e1 : ((f + 1 : Nat) : Int) = (f : Int) + 1 := by omega
  have hR := h.lt
  have hd := drop_at hat
  have s2 : IntKind.i64.wrap ((f : Int) + 1 - 1) = (f : Int) := by rw [show (f : Int) + 1 - 1 = (f : Int) by omega]; exact IntWalk.i64_in _ (by omega)
  have s3 : (f : Int) + 1 - 1 = (f : Int) := by omega
  by_cases h9 : f = 9
  · have q1 : decide ((9 : Int) < (f : Int) + 1) = true := decide_eq_true (by omega)
    have k2 := k1.set_ 2 (.bool true)
    have HK : Hid (Mrd ((w.setCell ⟨R, 3, none⟩ (.int .i64 ((f : Int) + 1))).setCell ⟨R, 2, none⟩ (.bool true)) R tx p true (f + 1)) := by
      show Mrd _ _ _ _ _ _
      unfold Mrd
      rw [e1]; exact k2
    have HW := Lib.hid (mwithin_bad R (f + 1) p tx (opn b) (cls b) _ (by omega) HK.out)
    have HNO := Lib.hid (show NoI f (tx.drop p) by rw [hd]; exact noI_frame_full b (by omega))
    have H9 := Lib.hid h9
    have HE := Lib.hid e1
    have hf1 : (9 : Int) < (f : Int) + 1 := by omega
    clear h k1 k2 HB h9 hat hd e1
    go_enter Tryz.func101, Tryz.ntmps101
    go_wp2_with fail
    refine HW.out.mono ?_
    rintro e w2 ⟨A, m, k, rfl, k2, o2⟩
    have c3 : w2.cell? ⟨R, 3, none⟩ = some (.int .i64 ((f : Int) + 1)) := by rw [← HE.out]; exact Blk.cell k2 3
    have g3 := Blk.frozen k2 3
    have K3 := Lib.hid (Blk.set_ k2 3 (.int .i64 (f : Int)))
    have O3 := Lib.hid ((only_set_size _ _ (only_set_size _ _ o2)).trans (Only.set R w2 3 (.int .i64 (f : Int))))
    clear k2 o2 d2' d3' f2' d3 f3
    go_wp2_with fail
    go_ret
    exact .inr ⟨A, m, k, p + 2, HNO.out, by omega, rfl, K3.out, O3.out⟩
  · have q1 : decide ((9 : Int) < (f : Int) + 1) = false := decide_eq_false (by omega)
    have k2 := k1.set_ 2 (.bool false)
    have HK : Hid (Mrd ((w.setCell ⟨R, 3, none⟩ (.int .i64 ((f : Int) + 1))).setCell ⟨R, 2, none⟩ (.bool false)) R tx p false (f + 1)) := by
      show Mrd _ _ _ _ _ _
      unfold Mrd
      rw [e1]; exact k2
    have HW := Lib.hid (mwithin_any n HB R (f + 1) p tx (opn b) (cls b) _ (by cases b <;> simp [cls]) hn hp htx (by omega) HK.out)
    have HD := Lib.hid hd
    have HE := Lib.hid e1
    have hf1 : (f : Int) + 1 ≤ 9 := by omega
    clear h k1 k2 HB hat hd e1
    go_enter Tryz.func101, Tryz.ntmps101
    go_wp2_with fail
    refine HW.out.mono ?_
    rintro e w2 (⟨l, q, A, m, k, hl, hdq, hpq, hq, rfl, hrow, k2, o2⟩ | ⟨A, m, k, q, hno, hfar, rfl, k2, o2⟩)
    · have c3 : w2.cell? ⟨R, 3, none⟩ = some (.int .i64 ((f : Int) + 1)) := by rw [← HE.out]; exact Blk.cell k2 3
      have g3 := Blk.frozen k2 3
      have K3 := Lib.hid (Blk.set_ k2 3 (.int .i64 (f : Int)))
      have O3 := Lib.hid ((only_set_size _ _ (only_set_size _ _ o2)).trans (Only.set R w2 3 (.int .i64 (f : Int))))
      have HL := Lib.hid hl
      have HDQ := Lib.hid hdq
      have HROW := Lib.hid hrow
      clear k2 o2 d2' d3' f2' d3 f3 hl hdq hrow
      go_wp2_with fail
      go_ret
      refine .inl ⟨l, q, A, m, k, by omega, HL.out, HDQ.out, hpq, hq, rfl, ?_, K3.out, O3.out⟩
      have h5 := HROW.out
      rw [newIn_set, newIn_set] at h5
      exact h5.stay (stay_set hR 3 _)
    · have c3 : w2.cell? ⟨R, 3, none⟩ = some (.int .i64 ((f : Int) + 1)) := by rw [← HE.out]; exact Blk.cell k2 3
      have g3 := Blk.frozen k2 3
      have K3 := Lib.hid (Blk.set_ k2 3 (.int .i64 (f : Int)))
      have O3 := Lib.hid ((only_set_size _ _ (only_set_size _ _ o2)).trans (Only.set R w2 3 (.int .i64 (f : Int))))
      have HNO := Lib.hid (show NoI f (tx.drop p) from fun i r hi _ e => by
        rw [HD.out] at e
        obtain ⟨l, _, _, hl⟩ := frame_parts b hi e
        exact hno l r hl.1 (by rw [HD.out, hl.2.2]))
      clear k2 o2 d2' d3' f2' d3 f3 hno
      go_wp2_with fail
      go_ret
      exact .inr ⟨A, m, k, q, HNO.out, hfar, rfl, K3.out, O3.out⟩
end Go.Proofs.YtgkamcnbpiipoaaGreat

/-
  The model's reader: one item; and by that, all.
-/
namespace Go.Proofs.YtgkamcnbpiipoaaGreat
open Go.RowKit Go.Sort

theorem blk_other {w : World} {B : Nat} {T : TypeId} {cs : Array Value} (h : Blk w B T cs) {R : Nat} (hne : B ≠ R) (i : Nat) (u : Value) : Blk (w.setCell ⟨R, i, none⟩ u) B T cs := (Below.heap_setCell w ⟨R, i, none⟩ u B hne).trans h

theorem ex_one {x : ByteArray} {p : Nat} {c : UInt8} (h : p < x.size) (hx : x[p] = c) : x.extract p (p + 1) = tb [c] := by
  apply ba_ext
  have hb := byte_at x p h
  rw [hx] at hb
  rw [← Lib.toList_data, Lib.extract_toList, tb_data, drop_at hb]
  simp

/-- A result of four cells, stored. -/
def Res4 (W : World) (Q : Nat) (a b c d : Value) : World := (((W.setCell ⟨Q, 0, none⟩ a).setCell ⟨Q, 1, none⟩ b).setCell ⟨Q, 2, none⟩ c).setCell ⟨Q, 3, none⟩ d
theorem res4_blk {W : World} {Q : Nat} {T : TypeId} {z0 z1 z2 z3 : Value} (h : Blk W Q T #[z0, z1, z2, z3]) (a b c d : Value) : Blk (Res4 W Q a b c d) Q T #[a, b, c, d] := (((h.set_ 0 a).set_ 1 b).set_ 2 c).set_ 3 d
theorem res4_far {W : World} {Q B : Nat} {T : TypeId} {cs : Array Value} (h : Blk W B T cs) (hne : B ≠ Q) (a b c d : Value) : Blk (Res4 W Q a b c d) B T cs := blk_other (blk_other (blk_other (blk_other h hne 0 a) hne 1 b) hne 2 c) hne 3 d
theorem res4_only {R : Nat} {w W : World} {Q : Nat} (h : Only R w W) (hQ : w.heap.size ≤ Q) (a b c d : Value) : Only R w (Res4 W Q a b c d) := by
  refine ⟨h.os, h.tape, h.output, by simpa [Res4] using h.size, fun k hk hlt => ?_⟩
  have hne : k ≠ Q := by omega
  have e : ∀ (V : World) (i : Nat) (u : Value), (V.setCell ⟨Q, i, none⟩ u).heap[k]? = V.heap[k]? := fun V i u => Below.heap_setCell V ⟨Q, i, none⟩ u k hne
  rw [Res4, e, e, e, e]
  exact h.block k hk hlt
theorem res4_stay {W w : World} {Q : Nat} (hQ : w.heap.size = Q) (a b c d : Value) : Stay W (fun k => w.heap.size + 1 ≤ k) (Res4 W Q a b c d) (NewIn w) := by
  refine ⟨by simp [Res4], fun k _ hp => ⟨show w.heap.size ≤ k by omega, ?_⟩⟩
  have hne : k ≠ Q := by omega
  have e : ∀ (V : World) (i : Nat) (u : Value), (V.setCell ⟨Q, i, none⟩ u).heap[k]? = V.heap[k]? := fun V i u => Below.heap_setCell V ⟨Q, i, none⟩ u k hne
  rw [Res4, e, e, e, e]
theorem only_below {R : Nat} {w W : World} (h : Below w.heap.size w W) : Only R w W := ⟨h.os, h.tape, h.output, h.size, fun k _ hlt => h.block k hlt⟩

theorem only_obj {R : Nat} {w W : World} {B : Nat} (h : Only R w W) (hB : w.heap.size ≤ B) (i : Nat) (u : Value) : Only R w (W.setCell ⟨B, i, none⟩ u) :=
  ⟨h.os, h.tape, h.output, by simpa using h.size, fun k hk hlt => (Below.heap_setCell W ⟨B, i, none⟩ u k (by show k ≠ B; omega)).trans (h.block k hk hlt)⟩
theorem Only.drew {R : Nat} {w W : World} (h : Only R w W) : Only R w W.drew := h.trans (only_drewN R W 1)
theorem blk_only {w w' : World} {B : Nat} {T : TypeId} {cs : Array Value} (h : Blk w B T cs) {R : Nat} (ho : Only R w w') (hne : B ≠ R) : Blk w' B T cs := (ho.block B hne h.lt).trans h
theorem digAt_some {tx : List UInt8} {q n : Nat} (h : digAt tx q = some n) : n < 10 ∧ q + 1 ≤ tx.length ∧ tx.drop q = dig n :: tx.drop (q + 1) := by
  unfold digAt at h
  cases hg : tx[q]? with
  | none => rw [hg] at h; cases h
  | some c =>
    rw [hg] at h
    simp only at h
    by_cases hr : 48 ≤ c.toNat ∧ c.toNat ≤ 57
    · rw [if_pos hr] at h
      have hn : c.toNat - 48 = n := Option.some.inj h
      have hd := drop_at hg
      refine ⟨by omega, (drop_cons hd).1, ?_⟩
      rw [hd]
      congr 1
      apply UInt8.toNat_inj.1
      unfold dig
      simp
      omega
    · rw [if_neg hr] at h; cases h
theorem digAt_none {tx : List UInt8} {q : Nat} (h : digAt tx q = none) : ∀ n u, n < 10 → tx.drop q ≠ dig n :: u := by
  intro n u hn e
  have hg := (drop_cons e).2.2
  unfold digAt at h
  rw [hg] at h
  simp only at h
  have hd : (dig n).toNat = 48 + n := by unfold dig; simp; omega
  rw [hd, if_pos (by omega)] at h
  cases h

/-- What stands where an item has been begun: the item with its first byte for its kind, and no more. -/
structure Begun (w : World) (c : UInt8) (OB XB : Nat) (wx : World) : Prop where
  item : Blk wx OB 157 #[.int .u8 c.toNat, .string ⟨#[]⟩, .int .i64 0, .slice (some ⟨XB, 0, none⟩) 0 0]
  row : wx.ownsRow (w.heap.size + 1) 90 1 (.slice (some ⟨XB, 0, none⟩) 0 0) 0 []
  res : Blk wx w.heap.size 157 #[.int .u8 0, .string ⟨#[]⟩, .int .i64 0, .slice none 0 0]
  below : Below w.heap.size w wx
  ltO : w.heap.size < OB
  ltX : w.heap.size < XB
theorem begun_a (w : World) (c : UInt8) : Begun w c (w.heap.size + 1 + 1) (w.heap.size + 1) (((w.alloc (.cells #[.int .u8 0, .string ⟨#[]⟩, .int .i64 0, .slice none 0 0] 157)).alloc (.cells #[] 90)).alloc (.cells #[.int .u8 c.toNat, .string ⟨#[]⟩, .int .i64 0, .slice (some ⟨w.heap.size + 1, 0, none⟩) 0 0] 157)).drew := by
  refine ⟨?_, ?_, (((Blk.new w _ _).alloc _).alloc _).drew, ((((Below.refl _ w).alloc (Nat.le_refl _) _).alloc (by simp) _).alloc (by simp; omega) _).drew, by omega, by omega⟩
  · have h := Blk.new ((w.alloc (.cells #[.int .u8 0, .string ⟨#[]⟩, .int .i64 0, .slice none 0 0] 157)).alloc (.cells #[] 90)) 157 #[.int .u8 c.toNat, .string ⟨#[]⟩, .int .i64 0, .slice (some ⟨w.heap.size + 1, 0, none⟩) 0 0]
    rw [World.size_alloc, World.size_alloc] at h
    exact h.drew
  · have h := World.ownsRow_made (base := w.heap.size + 1) (e := 90) (size := 1) (w.alloc (.cells #[.int .u8 0, .string ⟨#[]⟩, .int .i64 0, .slice none 0 0] 157)) #[] 0 (by simp) (Nat.zero_le _) rfl
    rw [World.size_alloc] at h
    exact (h.alloc _).drew
theorem begun_b (w : World) (c : UInt8) : Begun w c (w.heap.size + 1) (w.heap.size + 1 + 1) (((w.alloc (.cells #[.int .u8 0, .string ⟨#[]⟩, .int .i64 0, .slice none 0 0] 157)).alloc (.cells #[.int .u8 c.toNat, .string ⟨#[]⟩, .int .i64 0, .slice (some ⟨w.heap.size + 1 + 1, 0, none⟩) 0 0] 157)).alloc (.cells #[] 90)).drew := by
  refine ⟨?_, ?_, (((Blk.new w _ _).alloc _).alloc _).drew, ((((Below.refl _ w).alloc (Nat.le_refl _) _).alloc (by simp) _).alloc (by simp; omega) _).drew, by omega, by omega⟩
  · have h := Blk.new (w.alloc (.cells #[.int .u8 0, .string ⟨#[]⟩, .int .i64 0, .slice none 0 0] 157)) 157 #[.int .u8 c.toNat, .string ⟨#[]⟩, .int .i64 0, .slice (some ⟨w.heap.size + 1 + 1, 0, none⟩) 0 0]
    rw [World.size_alloc] at h
    exact (h.alloc _).drew
  · have h := World.ownsRow_made (base := w.heap.size + 1) (e := 90) (size := 1) ((w.alloc (.cells #[.int .u8 0, .string ⟨#[]⟩, .int .i64 0, .slice none 0 0] 157)).alloc (.cells #[.int .u8 c.toNat, .string ⟨#[]⟩, .int .i64 0, .slice (some ⟨w.heap.size + 1 + 1, 0, none⟩) 0 0] 157)) #[] 0 (by simp) (Nat.zero_le _) rfl
    rw [World.size_alloc, World.size_alloc] at h
    exact h.drew

set_option maxRecDepth 100000 in
set_option maxHeartbeats 1600000 in
theorem mitem_stop (R f p : Nat) (tx : List UInt8) (c : UInt8) (w : World) (hc : c = 46) (hat : tx[p]? = some c) (htx : tx.length ≤ 1048576) (h : Mrd w R tx p false f) :
    Calls Tryz.prog 85 #[.pointer (some ⟨R, 0, none⟩)] w (MItemPost R f tx p w) := by
  have c0 := Blk.cell h 0
  obtain ⟨x, hx⟩ : ∃ x, x = tb tx := ⟨_, rfl⟩
  have hxz : x.size = tx.length := by rw [hx, tb_size]
  have hxd : x.data.toList = tx := by rw [hx, tb_data]
  have hlt : p < x.size := by have := (drop_cons (drop_at hat)).1; omega
  have hb := byte_at x p hlt
  rw [hxd, hat] at hb
  have hxp : x[p] = c := (Option.some.inj hb).symm
  have d0 : w.cell? ⟨R, 0, none⟩ = some (.string x) := by rw [hx]; exact c0
  have d1 : w.cell? ⟨R, 1, none⟩ = some (.int .i64 p) := Blk.cell h 1
  have HXP := Lib.hid hxp
  have HXZ := Lib.hid hxz
  have HX := Lib.hid hx
  have HD := Lib.hid (drop_at hat)
  have H := Lib.hid h
  have hR := h.lt
  have hR1 : R < w.heap.size + 1 := by omega
  have hR2 : R < w.heap.size + 1 + 1 := by omega
  have hp1 : p + 1 ≤ 1048576 := by omega
  have e1 : ((p + 1 : Nat) : Int) = (p : Int) + 1 := by omega
  have HE := Lib.hid e1
  clear hb hxd hx c0 hxp hxz h hat e1
  have e46 : ((c.toNat : Int) == 46) = true := by rw [hc]; rfl
  have HL := Lib.hid (fun W => (by have := letter_any c W; rw [show letB c = false by rw [hc]; rfl] at this; exact this : Calls Tryz.prog 45 #[.int .u8 c.toNat] W fun e w' => e = .returned (.bool false) ∧ W = w'))
  have HC := Lib.hid hc
  clear hc
  go_enter Tryz.func85, Tryz.ntmps85
  go_upto_region 1 with fail
  go_cut [3] (fun s3 wx => ∃ OB XB, s3 = .pointer (some ⟨OB, 0, none⟩) ∧ Begun w c OB XB wx)
  case first =>
    go_region
    all_goals (go_wp2_with fail; go_meet)
    all_goals rw [HXP.out]
    case rel => exact ⟨_, _, rfl, begun_a w c⟩
    case rel => exact ⟨_, _, rfl, begun_b w c⟩
  case rest =>
    obtain ⟨OB, XB, rfl, hst⟩ := hcut
    clear d0 d1
    have hlO := hst.ltO
    have hOR : OB ≠ R := by omega
    have hQR : w.heap.size ≠ R := by omega
    have hOQ : OB ≠ w.heap.size := by omega
    have k0 : wc.cell? ⟨OB, 0, none⟩ = some (.int .u8 c.toNat) := hst.item.cell 0
    have hm : Mrd wc R tx p false f := Blk.below H.out hst.below hR
    have d0 : wc.cell? ⟨R, 0, none⟩ = some (.string x) := by rw [HX.out]; exact Blk.cell hm 0
    have d1 : wc.cell? ⟨R, 1, none⟩ = some (.int .i64 p) := Blk.cell hm 1
    have g1 : wc.frozen? ⟨R, 1, none⟩ = false := Blk.frozen hm 1
    have m1 : Mrd (wc.setCell ⟨R, 1, none⟩ (.int .i64 ((p : Int) + 1))) R tx (p + 1) false f := by
      unfold Mrd
      rw [HE.out]; exact Blk.set_ hm 1 (.int .i64 ((p : Int) + 1))
    have i1 := blk_other hst.item hOR 1 (.int .i64 ((p : Int) + 1))
    have r1 := blk_other hst.res hQR 1 (.int .i64 ((p : Int) + 1))
    have HM1 := Lib.hid m1
    have HI1 := Lib.hid i1
    have HR1 := Lib.hid r1
    have HST := Lib.hid hst
    clear hm m1 i1 r1 hst
    have hI9 := HI1.out
    have hR9 := HR1.out
    have l0 := hI9.cell 0
    have l1 := hI9.cell 1
    have l2 := hI9.cell 2
    have l3 := hI9.cell 3
    have z0 := hR9.cell 0
    have z1 := hR9.cell 1
    have z2 := hR9.cell 2
    have z3 := hR9.cell 3
    have y0 := hR9.frozen 0
    have y1 := hR9.frozen 1
    have y2 := hR9.frozen 2
    have y3 := hR9.frozen 3
    clear hI9 hR9
    go_wp2_with fail
    refine (HL.out _).mono ?_
    rintro e w2 ⟨rfl, rfl⟩
    go_wp2_with fail
    have V := res4_blk HR1.out (.int .u8 c.toNat) (.string ⟨#[]⟩) (.int .i64 0) (.slice (some ⟨XB, 0, none⟩) 0 0)
    have v0 := V.cell 0
    have v1 := V.cell 1
    have v2 := V.cell 2
    have v3 := V.cell 3
    unfold Res4 at v0 v1 v2 v3
    refine bodyPost_ret (v := .agg #[.int .u8 c.toNat, .string ⟨#[]⟩, .int .i64 0, .slice (some ⟨XB, 0, none⟩) 0 0]) (by simp [results, Tryz.results85, go_sem, v0, v1, v2, v3]) rfl ?_
    clear v0 v1 v2 v3 V
    refine .inl ⟨.stop, p + 1, _, _, _, by rw [HD.out, HC.out]; exact ⟨by rw [OkI]; trivial, .inr trivial, by rw [txI]; rfl⟩, by omega, by have := HXZ.out; omega, by rw [HC.out]; rfl, by rw [MBodAt]; exact ⟨_, _, rfl, fun h => absurd h (by simp)⟩, res4_far HM1.out hQR.symm _ _ _ _, res4_only ((only_below HST.out.below).trans (Only.set R wc 1 _)) (Nat.le_refl _) _ _ _ _⟩
end Go.Proofs.YtgkamcnbpiipoaaGreat
