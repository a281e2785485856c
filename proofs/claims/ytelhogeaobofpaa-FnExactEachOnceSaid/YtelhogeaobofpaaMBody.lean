/-
  The model's reader: a row of items, a row between two bytes, a frame, given one item.
-/
import Derived.Test.YtelhogeaobofpaaMTrees
import Derived.Test.YtelhogeaobofpaaSpecReader
import Derived.Test.YtelhogeaobofpaaItems
import Derived.Deep.AppendLies
namespace Go.Proofs.Ytelhogeaobofpaa
open Go.RowKit Go.Sort

/-- What the model's reader hands back for one item: it goes on behind it, or has gone wrong. -/
def MItemPost (R f : Nat) (tx : List UInt8) (p : Nat) (w : World) (e : Ending) (w' : World) : Prop :=
  (∃ i p' A n k, RdI f (tx.drop p) i (tx.drop p') ∧ p < p' ∧ p' ≤ tx.length ∧ e = .returned (.agg #[.int .u8 (kindI i).toNat, .string (tb (nameI i)), .int .i64 (numI i), .slice A n k]) ∧ MBodAt w' (NewIn w) i (.slice A n k) ∧ Mrd w' R tx p' false f ∧ Only R w w') ∨
  (∃ (kd : Nat) (b : ByteArray) (z : Int) (A : Option Addr) (n k p' : Nat), NoI f (tx.drop p) ∧ p' + 3 * p ≤ 4 * tx.length + 4 ∧ e = .returned (.agg #[.int .u8 kd, .string b, .int .i64 z, .slice A n k]) ∧ Mrd w' R tx p' true f ∧ Only R w w')
def MBodyPost (R f : Nat) (tx : List UInt8) (p : Nat) (c : UInt8) (w : World) (e : Ending) (w' : World) : Prop :=
  (∃ l p' v, OkL l f ∧ tx.drop p = txL l ++ tx.drop p' ∧ p ≤ p' ∧ p' ≤ tx.length ∧ HaltAt c (tx.drop p') ∧ e = .returned v ∧ MRowAt w' (NewIn w) l v ∧ Mrd w' R tx p' false f ∧ Only R w w') ∨
  (∃ A n k p', NoLe c f (tx.drop p) ∧ p' + 3 * p ≤ 4 * tx.length + 4 ∧ e = .returned (.slice A n k) ∧ Mrd w' R tx p' true f ∧ Only R w w')

/-- The contract of the model's item and body, for texts of which so many bytes are left at most. -/
def MItemOk (n : Nat) : Prop := ∀ (R f : Nat) (tx : List UInt8) (p : Nat) (w : World), tx.length - p ≤ n → p < tx.length → tx.length ≤ 1048576 → f ≤ 9 → Mrd w R tx p false f →
  Calls Try.prog 76 #[.pointer (some ⟨R, 0, none⟩)] w (MItemPost R f tx p w)
def MBodyOk (n : Nat) : Prop := ∀ (R f : Nat) (tx : List UInt8) (p : Nat) (c : UInt8) (w : World), tx.length - p ≤ n → p ≤ tx.length → tx.length ≤ 1048576 → f ≤ 9 → Mrd w R tx p false f →
  Calls Try.prog 66 #[.pointer (some ⟨R, 0, none⟩), .int .u8 c.toNat] w (MBodyPost R f tx p c w)

theorem info_l5item : (Try.prog.info? 46).map (fun i => (i.zero, i.size, i.bytes)) = some (some (.agg #[.int .u8 0, .string ⟨#[]⟩, .int .i64 0, .slice none 0 0]), 4, 56) := by kernel_rfl
theorem info_l5items : (Try.prog.info? 40).map (fun i => (i.zero, i.size, i.bytes)) = some (some (.slice none 0 0), 1, 24) := by kernel_rfl

theorem own_slice {w : World} {base : Nat} {e : TypeId} {size : Nat} {v : Value} {n : Nat} {xs : List Value} (h : w.ownsRow base e size v n xs) : ∃ A k, v = .slice A n k := by
  rcases h.2 with ⟨rfl, h0⟩ | ⟨gb, cap, cur, hv, _⟩
  · exact ⟨none, 0, by rw [h0]⟩
  · exact ⟨_, _, hv⟩

theorem own_drewN {w : World} {base : Nat} {e : TypeId} {size : Nat} {v : Value} {n : Nat} {xs : List Value} (h : w.ownsRow base e size v n xs) (m : Nat) : (w.drewN m).ownsRow base e size v n xs := h

set_option maxRecDepth 100000 in
set_option maxHeartbeats 1600000 in
/-- Where it has gone wrong, no item is read. -/
theorem mbody_bad (R f p : Nat) (tx : List UInt8) (c : UInt8) (w : World) (h : Mrd w R tx p true f) :
    Calls Try.prog 66 #[.pointer (some ⟨R, 0, none⟩), .int .u8 c.toNat] w fun e w' => ∃ A n k, e = .returned (.slice A n k) ∧ Mrd w' R tx p true f ∧ Only R w w' := by
  have h1 := Blk.alloc h (.cells #[] 46)
  have d2 : (w.alloc (.cells #[] 46)).cell? ⟨R, 2, none⟩ = some (.bool true) := Blk.cell h1 2
  have H1 := Lib.hid h1
  clear h h1
  go_enter Try.func66, Try.ntmps66
  go_wp2_with fail
  go_loopg [5] 0 (fun gk pv wr => pv = .slice (some ⟨w.heap.size, 0, none⟩) 0 0 ∧ wr = w.alloc (.cells #[] 46))
  case atStart => exact ⟨rfl, rfl⟩
  case round =>
    obtain ⟨rfl, rfl⟩ := hrel
    go_wp2_with fail
    go_quiet (fail)
    go_wp2_with fail
    go_ret
    exact ⟨_, _, _, rfl, H1.out, ((Only.refl R w).alloc _).trans (only_drewN R _ _)⟩

set_option maxRecDepth 100000 in
set_option maxHeartbeats 3200000 in
theorem mbody_any (n : Nat) (HI : MItemOk n) : MBodyOk n := by
  intro R f tx p c w hn hp htx hf h
  obtain ⟨i0, hi, hz0, hz1, hz2⟩ := info_parts info_l5item
  have HIX := Lib.hid HI
  have hR := h.lt
  obtain ⟨x, hx⟩ : ∃ x, x = tb tx := ⟨_, rfl⟩
  have hxz : x.size = tx.length := by rw [hx, tb_size]
  have hxd : x.data.toList = tx := by rw [hx, tb_data]
  have HR0 : Hid (Mrd (w.alloc (.cells #[] 46)) R tx p false f) := Blk.alloc h (.cells #[] 46)
  have HX := Lib.hid hx
  have HXZ := Lib.hid hxz
  have HXD := Lib.hid hxd
  have hpx : p ≤ x.size := by omega
  have htx2 : x.size ≤ 1048576 := by omega
  clear HI h hx hxz hxd
  go_enter Try.func66, Try.ntmps66
  go_wp2_with fail
  have HO0 := Lib.hid (World.ownsRow_made (base := w.heap.size) (e := 46) (size := 4) w #[] 0 (Nat.le_refl _) (Nat.zero_le _) rfl)
  go_loopg [5] (tx.length + 1 - p) (fun gk pv wr =>
    (∃ (l : List It) (q : Nat) (vs : List Value) (pv' : Value), gk = tx.length + 1 - q ∧ pv' = pv ∧ p ≤ q ∧ q ≤ tx.length ∧ l.length + p ≤ q ∧ Hid (SoL f (tx.drop p) l (tx.drop q)) ∧ Hid (wr.ownsRow w.heap.size 46 4 pv l.length vs) ∧ Hid (MAllAt wr (NewBut w.heap.size pv) l vs) ∧ Hid (Mrd wr R tx q false f) ∧ Hid (Only R w wr)) ∨
    (∃ A m k q, gk = 0 ∧ pv = .slice A m k ∧ q + 3 * p ≤ 4 * tx.length + 4 ∧ Hid (NoLe c f (tx.drop p)) ∧ Hid (Mrd wr R tx q true f) ∧ Hid (Only R w wr)))
  case atStart => exact .inl ⟨[], p, [], _, rfl, rfl, Nat.le_refl _, hp, by simp, soL_start f _, HO0.out, MAllAt.nil _ _, HR0.out, (Only.refl R w).alloc _⟩
  case round =>
    rcases hrel with ⟨l, q, vs, pv, rfl, rfl, hpq, hq, hlq, HS, HOW, HAT, HR, HO⟩ | ⟨A, m, k, q, rfl, rfl, hq, HNL, HR, HO⟩
    · have d0 : wr.cell? ⟨R, 0, none⟩ = some (.string x) := by rw [HX.out]; exact Blk.cell HR.out 0
      have d1 : wr.cell? ⟨R, 1, none⟩ = some (.int .i64 q) := Blk.cell HR.out 1
      have d2 : wr.cell? ⟨R, 2, none⟩ = some (.bool false) := Blk.cell HR.out 2
      have hqx : q ≤ x.size := by have := HXZ.out; omega
      by_cases hlt : q < x.size
      · have hb := byte_at x q hlt
        have hget : tx[q]? = some x[q] := by rw [← HXD.out]; exact hb
        have hdq := drop_at hget
        have q1 : decide ((q : Int) < (x.size : Int)) = true := decide_eq_true (by omega)
        by_cases hbc : x[q] = c
        · have q2 : ((x[q].toNat : Int) != (c.toNat : Int)) = false := by rw [hbc]; simp
          have HH := Lib.hid (show HaltAt c (tx.drop q) from .inr ⟨_, by rw [hdq, hbc]⟩)
          clear hb hget hdq hbc
          go_wp2_with fail
          go_quiet (fail)
          go_wp2_with fail
          go_ret
          have ho := own_reads4 HOW.out HAT.out.len
          refine .inl ⟨l, q, _, HS.out.1, HS.out.2.1, hpq, hq, HH.out, rfl, ⟨vs, ?_, ?_⟩, HR.out, HO.out.trans (only_drewN R _ _)⟩
          · exact ho
          · exact MAllAt.stay (w := wr) (P := NewBut w.heap.size pv) (w' := wr.drewN nq) (P' := NewIn w) ⟨Nat.le_refl _, fun b _ hp => ⟨hp.1, rfl⟩⟩ l vs HAT.out
        · have q2 : ((x[q].toNat : Int) != (c.toNat : Int)) = true := by have := byte_ne hbc; simp only [bne, this]; rfl
          have HNE := Lib.hid (show ¬ EndAt c (tx.drop q) from fun e => by
            rcases e with e | ⟨_, t, e⟩
            · rw [hdq] at e; cases e
            · rw [hdq] at e; exact hbc (List.cons.inj e).1)
          clear hb hget hdq hbc
          go_wp2_with fail
          go_quiet (fail)
          have HIT := Lib.hid (HIX.out R f tx q (wr.drewN nq) (by omega) (by have := HXZ.out; omega) htx hf (HR.out.drewN nq))
          have HO1 := Lib.hid (HO.out.trans (only_drewN R wr nq))
          have HOW1 : Hid ((wr.drewN nq).ownsRow w.heap.size 46 4 pv l.length vs) := own_drewN HOW.out nq
          have HAT1 : Hid (MAllAt (wr.drewN nq) (NewBut w.heap.size pv) l vs) := MAllAt.stay (w := wr) (w' := wr.drewN nq) ⟨Nat.le_refl _, fun b _ hp => ⟨hp, rfl⟩⟩ l vs HAT.out
          generalize wr.drewN nq = w1 at *
          clear d0 d1 d2
          go_wp2_with fail
          refine HIT.out.mono ?_
          rintro e w2 (⟨i, p', A, m, k, hrd, hqp, hpl, rfl, hit, hr2, ho2⟩ | ⟨kd, b, z, A, m, k, p', hno, hfar, rfl, hr2, ho2⟩)
          · have HOW2 := Lib.hid (own_only HOW1.out ho2 hR)
            have HRD := Lib.hid hrd
            have hsz2 := ho2.size
            have hown := HOW1.out.lt
            have HIT2 : Hid (MBodAt w2 (NewBut w.heap.size pv) i (.slice A m k)) := MBodAt.stay ⟨Nat.le_refl _, fun b _ hp => ⟨⟨Nat.le_trans HO1.out.size hp, fun e => by have := (hown b e.symm).2; have hp' : w1.heap.size ≤ b := hp; omega⟩, rfl⟩⟩ i _ hit
            have HAT2 : Hid (MAllAt w2 (NewBut w.heap.size pv) l vs) := MAllAt.stay ⟨hsz2, fun b hb hp => ⟨hp, ho2.block b (by have := hp.1; omega) hb⟩⟩ l vs HAT1.out
            have HR2 := Lib.hid hr2
            have HO2 := Lib.hid (HO1.out.trans ho2)
            have hll : l.length ≤ 1048576 := by omega
            have hbs := HO1.out.size
            clear hrd hit hr2 ho2
            go_wp2_with (at_builtin; go_loud (refine wpList_append_own_at _ rfl _ _ 40 rfl w.heap.size 46 i0 _ 4 56 Try.underlying40 hi hz0 hz1 hz2 rfl (by decide) _ _ _ rfl (HOW2.out.alloc _) ⟨w2.heap.size, 0, none⟩ 1 1 [.int .u8 (kindI i).toNat, .string (tb (nameI i)), .int .i64 (numI i), .slice A m k] rfl rfl ?c1 ?c2 ?c3 ?c4 ?c5 ?_))
            case c1 => exact World.news_of_block (cs := #[.int .u8 (kindI i).toNat, .string (tb (nameI i)), .int .i64 (numI i), .slice A m k]) (t := 46) (fr := (0, 0)) (heap_alloc_new w2 _)
            case c2 => simp [Value.oneCell']
            case c3 => unfold maxLen; omega
            case c4 => omega
            case c5 => simp; omega
            intro v' w5 hown' hgrow _ hat
            have hown2 := HOW2.out.lt
            have hG : w2.grownBy w5 pv.ownBlock := (World.grownBy_alloc w2 _ _).trans hgrow
            have HST : Stay w2 (NewBut w.heap.size pv) w5 (NewBut w.heap.size v') := ⟨hG.size, fun b hb hp => ⟨⟨hp.1, by
              rcases hat with q | q
              · rw [q]; exact hp.2
              · rw [q]; intro e; have := Option.some.inj e; first | omega | (rw [World.size_alloc] at this; omega) | (simp at this; omega)⟩, hG.block b hb hp.2⟩⟩
            have HAT5 := Lib.hid (MAllAt.stay HST _ _ (HAT2.out.snoc HIT2.out))
            have HR5 : Hid (Mrd w5 R tx p' false f) := (hG.block R HR2.out.lt (fun e => by have := (hown2 R e.symm).1; omega)).trans HR2.out
            have HO5 := Lib.hid (HO2.out.grown hG fun k e => (hown2 k e).1)
            have HOW5 : Hid (w5.ownsRow w.heap.size 46 4 v' (l ++ [i]).length (vs ++ mcells i (.slice A m k))) := by
              show w5.ownsRow _ _ _ _ _ _
              rw [List.length_append, List.length_singleton]; exact hown'
            have HS5 := Lib.hid (soL_next HS.out HRD.out)
            have hl5 : (l ++ [i]).length + p ≤ p' := by rw [List.length_append, List.length_singleton]; omega
            clear hown2 hG HST hgrow hat hown'
            go_wp2_with fail
            go_roundg (tx.length + 1 - p')
            case measure => omega
            case rel => exact .inl ⟨l ++ [i], p', vs ++ mcells i (.slice A m k), v', rfl, rfl, by omega, hpl, hl5, HS5.out, HOW5.out, HAT5.out, HR5.out, HO5.out⟩
          · have HOW2 := Lib.hid (own_only HOW1.out ho2 hR)
            have HR2 := Lib.hid hr2
            have HO2 := Lib.hid (HO1.out.trans ho2)
            have HNL := Lib.hid (soL_noE HS.out HNE.out hno)
            have hll : l.length ≤ 1048576 := by omega
            have hbs := HO1.out.size
            have hsz2 := ho2.size
            clear hr2 ho2 hno
            go_wp2_with (at_builtin; go_loud (refine wpList_append_own_at _ rfl _ _ 40 rfl w.heap.size 46 i0 _ 4 56 Try.underlying40 hi hz0 hz1 hz2 rfl (by decide) _ _ _ rfl (HOW2.out.alloc _) ⟨w2.heap.size, 0, none⟩ 1 1 [.int .u8 kd, .string b, .int .i64 z, .slice A m k] rfl rfl ?c1 ?c2 ?c3 ?c4 ?c5 ?_))
            case c1 => exact World.news_of_block (cs := #[.int .u8 kd, .string b, .int .i64 z, .slice A m k]) (t := 46) (fr := (0, 0)) (heap_alloc_new w2 _)
            case c2 => simp [Value.oneCell']
            case c3 => unfold maxLen; omega
            case c4 => omega
            case c5 => simp; omega
            intro v' w5 hown' hgrow _ hat
            have hown2 := HOW2.out.lt
            have hG : w2.grownBy w5 pv.ownBlock := (World.grownBy_alloc w2 _ _).trans hgrow
            have HR5 : Hid (Mrd w5 R tx p' true f) := (hG.block R HR2.out.lt (fun e => by have := (hown2 R e.symm).1; omega)).trans HR2.out
            have HO5 := Lib.hid (HO2.out.grown hG fun k e => (hown2 k e).1)
            obtain ⟨A5, k5, rfl⟩ := own_slice hown'
            clear hown2 hG hgrow hat hown'
            go_wp2_with fail
            go_roundg 0
            case measure => have := HXZ.out; omega
            case rel => exact .inr ⟨A5, _, k5, p', rfl, rfl, by omega, HNL.out, HR5.out, HO5.out⟩
      · have hqe : q = tx.length := by have := HXZ.out; omega
        have q1 : decide ((q : Int) < (x.size : Int)) = false := decide_eq_false (by omega)
        have HH := Lib.hid (show HaltAt c (tx.drop q) from .inl (List.drop_eq_nil_of_le (by omega)))
        have hql : q ≤ tx.length := hq
        clear hqe
        go_wp2_with fail
        go_quiet (fail)
        go_wp2_with fail
        go_ret
        have ho := own_reads4 HOW.out HAT.out.len
        refine .inl ⟨l, q, _, HS.out.1, HS.out.2.1, hpq, hql, HH.out, rfl, ⟨vs, ?_, ?_⟩, HR.out, HO.out.trans (only_drewN R _ _)⟩
        · exact ho
        · exact MAllAt.stay (w := wr) (P := NewBut w.heap.size pv) (w' := wr.drewN nq) (P' := NewIn w) ⟨Nat.le_refl _, fun b _ hp => ⟨hp.1, rfl⟩⟩ l vs HAT.out
    · have d2 : wr.cell? ⟨R, 2, none⟩ = some (.bool true) := Blk.cell HR.out 2
      go_wp2_with fail
      go_quiet (fail)
      go_wp2_with fail
      go_ret
      exact .inr ⟨A, m, k, q, HNL.out, hq, rfl, HR.out, HO.out.trans (only_drewN R _ _)⟩
end Go.Proofs.Ytelhogeaobofpaa
