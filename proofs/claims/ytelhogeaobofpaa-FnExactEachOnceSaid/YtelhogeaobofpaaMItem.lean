/-
  The model's reader: one item; and by that, all.
-/
import Derived.Test.YtelhogeaobofpaaMWithin
import Derived.Deep.DeepCutAuto
import Derived.BigQuiet
import Derived.Deep.RegionHeld3
namespace Go.Proofs.Ytelhogeaobofpaa
open Go.RowKit Go.Sort

theorem blk_other {w : World} {B : Nat} {T : TypeId} {cs : Array Value} (h : Blk w B T cs) {R : Nat} (hne : B ≠ R) (i : Nat) (u : Value) : Blk (w.setCell ⟨R, i, none⟩ u) B T cs := (Below.heap_setCell w ⟨R, i, none⟩ u B hne).trans h

theorem ex_one {x : ByteArray} {p : Nat} {c : UInt8} (h : p < x.size) (hx : x[p] = c) : x.extract p (p + 1) = tb [c] := by
  apply ba_ext
  have hb := byte_at x p h
  rw [hx] at hb
  rw [← Lib.toList_data, Lib.extract_toList, tb_data, drop_at hb]
  simp

/-- A result of four cells, stored. -/
def Res4 (W : World) (Q : Nat) (a b c d : Value) : World := (((W.setCell ⟨Q, 0, none⟩ a).setCell ⟨Q, 1, none⟩ b).setCell ⟨Q, 2, none⟩ c).setCell ⟨Q, 3, none⟩ d
theorem res4_blk {W : World} {Q : Nat} {T : TypeId} {z0 z1 z2 z3 : Value} (h : Blk W Q T #[z0, z1, z2, z3]) (a b c d : Value) : Blk (Res4 W Q a b c d) Q T #[a, b, c, d] := (((h.set_ 0 a).set_ 1 b).set_ 2 c).set_ 3 d
theorem res4_far {W : World} {Q B : Nat} {T : TypeId} {cs : Array Value} (h : Blk W B T cs) (hne : B ≠ Q) (a b c d : Value) : Blk (Res4 W Q a b c d) B T cs := blk_other (blk_other (blk_other (blk_other h hne 0 a) hne 1 b) hne 2 c) hne 3 d
theorem res4_only {R : Nat} {w W : World} {Q : Nat} (h : Only R w W) (hQ : w.heap.size ≤ Q) (a b c d : Value) : Only R w (Res4 W Q a b c d) := by
  refine ⟨h.os, h.tape, h.output, by simpa [Res4] using h.size, fun k hk hlt => ?_⟩
  have hne : k ≠ Q := by omega
  have e : ∀ (V : World) (i : Nat) (u : Value), (V.setCell ⟨Q, i, none⟩ u).heap[k]? = V.heap[k]? := fun V i u => Below.heap_setCell V ⟨Q, i, none⟩ u k hne
  rw [Res4, e, e, e, e]
  exact h.block k hk hlt
theorem res4_stay {W w : World} {Q : Nat} (hQ : w.heap.size = Q) (a b c d : Value) : Stay W (fun k => w.heap.size + 1 ≤ k) (Res4 W Q a b c d) (NewIn w) := by
  refine ⟨by simp [Res4], fun k _ hp => ⟨show w.heap.size ≤ k by omega, ?_⟩⟩
  have hne : k ≠ Q := by omega
  have e : ∀ (V : World) (i : Nat) (u : Value), (V.setCell ⟨Q, i, none⟩ u).heap[k]? = V.heap[k]? := fun V i u => Below.heap_setCell V ⟨Q, i, none⟩ u k hne
  rw [Res4, e, e, e, e]
theorem only_below {R : Nat} {w W : World} (h : Below w.heap.size w W) : Only R w W := ⟨h.os, h.tape, h.output, h.size, fun k _ hlt => h.block k hlt⟩

theorem only_obj {R : Nat} {w W : World} {B : Nat} (h : Only R w W) (hB : w.heap.size ≤ B) (i : Nat) (u : Value) : Only R w (W.setCell ⟨B, i, none⟩ u) :=
  ⟨h.os, h.tape, h.output, by simpa using h.size, fun k hk hlt => (Below.heap_setCell W ⟨B, i, none⟩ u k (by show k ≠ B; omega)).trans (h.block k hk hlt)⟩
theorem Only.drew {R : Nat} {w W : World} (h : Only R w W) : Only R w W.drew := h.trans (only_drewN R W 1)
theorem blk_only {w w' : World} {B : Nat} {T : TypeId} {cs : Array Value} (h : Blk w B T cs) {R : Nat} (ho : Only R w w') (hne : B ≠ R) : Blk w' B T cs := (ho.block B hne h.lt).trans h
theorem digAt_some {tx : List UInt8} {q n : Nat} (h : digAt tx q = some n) : n < 10 ∧ q + 1 ≤ tx.length ∧ tx.drop q = dig n :: tx.drop (q + 1) := by
  unfold digAt at h
  cases hg : tx[q]? with
  | none => rw [hg] at h; cases h
  | some c =>
    rw [hg] at h
    simp only at h
    by_cases hr : 48 ≤ c.toNat ∧ c.toNat ≤ 57
    · rw [if_pos hr] at h
      have hn : c.toNat - 48 = n := Option.some.inj h
      have hd := drop_at hg
      refine ⟨by omega, (drop_cons hd).1, ?_⟩
      rw [hd]
      congr 1
      apply UInt8.toNat_inj.1
      unfold dig
      simp
      omega
    · rw [if_neg hr] at h; cases h
theorem digAt_none {tx : List UInt8} {q : Nat} (h : digAt tx q = none) : ∀ n u, n < 10 → tx.drop q ≠ dig n :: u := by
  intro n u hn e
  have hg := (drop_cons e).2.2
  unfold digAt at h
  rw [hg] at h
  simp only at h
  have hd : (dig n).toNat = 48 + n := by unfold dig; simp; omega
  rw [hd, if_pos (by omega)] at h
  cases h

/-- What stands where an item has been begun: the item with its first byte for its kind, and no more. -/
structure Begun (w : World) (c : UInt8) (OB XB : Nat) (wx : World) : Prop where
  item : Blk wx OB 46 #[.int .u8 c.toNat, .string ⟨#[]⟩, .int .i64 0, .slice (some ⟨XB, 0, none⟩) 0 0]
  row : wx.ownsRow (w.heap.size + 1) 40 1 (.slice (some ⟨XB, 0, none⟩) 0 0) 0 []
  res : Blk wx w.heap.size 46 #[.int .u8 0, .string ⟨#[]⟩, .int .i64 0, .slice none 0 0]
  below : Below w.heap.size w wx
  ltO : w.heap.size < OB
  ltX : w.heap.size < XB
theorem begun_a (w : World) (c : UInt8) : Begun w c (w.heap.size + 1 + 1) (w.heap.size + 1) (((w.alloc (.cells #[.int .u8 0, .string ⟨#[]⟩, .int .i64 0, .slice none 0 0] 46)).alloc (.cells #[] 40)).alloc (.cells #[.int .u8 c.toNat, .string ⟨#[]⟩, .int .i64 0, .slice (some ⟨w.heap.size + 1, 0, none⟩) 0 0] 46)).drew := by
  refine ⟨?_, ?_, (((Blk.new w _ _).alloc _).alloc _).drew, ((((Below.refl _ w).alloc (Nat.le_refl _) _).alloc (by simp) _).alloc (by simp; omega) _).drew, by omega, by omega⟩
  · have h := Blk.new ((w.alloc (.cells #[.int .u8 0, .string ⟨#[]⟩, .int .i64 0, .slice none 0 0] 46)).alloc (.cells #[] 40)) 46 #[.int .u8 c.toNat, .string ⟨#[]⟩, .int .i64 0, .slice (some ⟨w.heap.size + 1, 0, none⟩) 0 0]
    rw [World.size_alloc, World.size_alloc] at h
    exact h.drew
  · have h := World.ownsRow_made (base := w.heap.size + 1) (e := 40) (size := 1) (w.alloc (.cells #[.int .u8 0, .string ⟨#[]⟩, .int .i64 0, .slice none 0 0] 46)) #[] 0 (by simp) (Nat.zero_le _) rfl
    rw [World.size_alloc] at h
    exact (h.alloc _).drew
theorem begun_b (w : World) (c : UInt8) : Begun w c (w.heap.size + 1) (w.heap.size + 1 + 1) (((w.alloc (.cells #[.int .u8 0, .string ⟨#[]⟩, .int .i64 0, .slice none 0 0] 46)).alloc (.cells #[.int .u8 c.toNat, .string ⟨#[]⟩, .int .i64 0, .slice (some ⟨w.heap.size + 1 + 1, 0, none⟩) 0 0] 46)).alloc (.cells #[] 40)).drew := by
  refine ⟨?_, ?_, (((Blk.new w _ _).alloc _).alloc _).drew, ((((Below.refl _ w).alloc (Nat.le_refl _) _).alloc (by simp) _).alloc (by simp; omega) _).drew, by omega, by omega⟩
  · have h := Blk.new (w.alloc (.cells #[.int .u8 0, .string ⟨#[]⟩, .int .i64 0, .slice none 0 0] 46)) 46 #[.int .u8 c.toNat, .string ⟨#[]⟩, .int .i64 0, .slice (some ⟨w.heap.size + 1 + 1, 0, none⟩) 0 0]
    rw [World.size_alloc] at h
    exact (h.alloc _).drew
  · have h := World.ownsRow_made (base := w.heap.size + 1) (e := 40) (size := 1) ((w.alloc (.cells #[.int .u8 0, .string ⟨#[]⟩, .int .i64 0, .slice none 0 0] 46)).alloc (.cells #[.int .u8 c.toNat, .string ⟨#[]⟩, .int .i64 0, .slice (some ⟨w.heap.size + 1 + 1, 0, none⟩) 0 0] 46)) #[] 0 (by simp) (Nat.zero_le _) rfl
    rw [World.size_alloc, World.size_alloc] at h
    exact h.drew

set_option maxRecDepth 100000 in
set_option maxHeartbeats 1600000 in
theorem mitem_stop (R f p : Nat) (tx : List UInt8) (c : UInt8) (w : World) (hc : c = 46) (hat : tx[p]? = some c) (htx : tx.length ≤ 1048576) (h : Mrd w R tx p false f) :
    Calls Try.prog 76 #[.pointer (some ⟨R, 0, none⟩)] w (MItemPost R f tx p w) := by
  have c0 := Blk.cell h 0
  obtain ⟨x, hx⟩ : ∃ x, x = tb tx := ⟨_, rfl⟩
  have hxz : x.size = tx.length := by rw [hx, tb_size]
  have hxd : x.data.toList = tx := by rw [hx, tb_data]
  have hlt : p < x.size := by have := (drop_cons (drop_at hat)).1; omega
  have hb := byte_at x p hlt
  rw [hxd, hat] at hb
  have hxp : x[p] = c := (Option.some.inj hb).symm
  have d0 : w.cell? ⟨R, 0, none⟩ = some (.string x) := by rw [hx]; exact c0
  have d1 : w.cell? ⟨R, 1, none⟩ = some (.int .i64 p) := Blk.cell h 1
  have HXP := Lib.hid hxp
  have HXZ := Lib.hid hxz
  have HX := Lib.hid hx
  have HD := Lib.hid (drop_at hat)
  have H := Lib.hid h
  have hR := h.lt
  have hR1 : R < w.heap.size + 1 := by omega
  have hR2 : R < w.heap.size + 1 + 1 := by omega
  have hp1 : p + 1 ≤ 1048576 := by omega
  have e1 : ((p + 1 : Nat) : Int) = (p : Int) + 1 := by omega
  have HE := Lib.hid e1
  clear hb hxd hx c0 hxp hxz h hat e1
  have e46 : ((c.toNat : Int) == 46) = true := by rw [hc]; rfl
  have HL := Lib.hid (fun W => (by have := letter_any c W; rw [show letB c = false by rw [hc]; rfl] at this; exact this : Calls Try.prog 82 #[.int .u8 c.toNat] W fun e w' => e = .returned (.bool false) ∧ W = w'))
  have HC := Lib.hid hc
  clear hc
  go_enter Try.func76, Try.ntmps76
  go_upto_region 1 with fail
  go_cut [3] (fun s3 wx => ∃ OB XB, s3 = .pointer (some ⟨OB, 0, none⟩) ∧ Begun w c OB XB wx)
  case first =>
    go_region
    all_goals (go_wp2_with fail; go_meet)
    all_goals rw [HXP.out]
    case rel => exact ⟨_, _, rfl, begun_a w c⟩
    case rel => exact ⟨_, _, rfl, begun_b w c⟩
  case rest =>
    obtain ⟨OB, XB, rfl, hst⟩ := hcut
    clear d0 d1
    have hlO := hst.ltO
    have hOR : OB ≠ R := by omega
    have hQR : w.heap.size ≠ R := by omega
    have hOQ : OB ≠ w.heap.size := by omega
    have k0 : wc.cell? ⟨OB, 0, none⟩ = some (.int .u8 c.toNat) := hst.item.cell 0
    have hm : Mrd wc R tx p false f := Blk.below H.out hst.below hR
    have d0 : wc.cell? ⟨R, 0, none⟩ = some (.string x) := by rw [HX.out]; exact Blk.cell hm 0
    have d1 : wc.cell? ⟨R, 1, none⟩ = some (.int .i64 p) := Blk.cell hm 1
    have g1 : wc.frozen? ⟨R, 1, none⟩ = false := Blk.frozen hm 1
    have m1 : Mrd (wc.setCell ⟨R, 1, none⟩ (.int .i64 ((p : Int) + 1))) R tx (p + 1) false f := by
      unfold Mrd
      rw [HE.out]; exact Blk.set_ hm 1 (.int .i64 ((p : Int) + 1))
    have i1 := blk_other hst.item hOR 1 (.int .i64 ((p : Int) + 1))
    have r1 := blk_other hst.res hQR 1 (.int .i64 ((p : Int) + 1))
    have HM1 := Lib.hid m1
    have HI1 := Lib.hid i1
    have HR1 := Lib.hid r1
    have HST := Lib.hid hst
    clear hm m1 i1 r1 hst
    have hI9 := HI1.out
    have hR9 := HR1.out
    have l0 := hI9.cell 0
    have l1 := hI9.cell 1
    have l2 := hI9.cell 2
    have l3 := hI9.cell 3
    have z0 := hR9.cell 0
    have z1 := hR9.cell 1
    have z2 := hR9.cell 2
    have z3 := hR9.cell 3
    have y0 := hR9.frozen 0
    have y1 := hR9.frozen 1
    have y2 := hR9.frozen 2
    have y3 := hR9.frozen 3
    clear hI9 hR9
    go_wp2_with fail
    refine (HL.out _).mono ?_
    rintro e w2 ⟨rfl, rfl⟩
    go_wp2_with fail
    have V := res4_blk HR1.out (.int .u8 c.toNat) (.string ⟨#[]⟩) (.int .i64 0) (.slice (some ⟨XB, 0, none⟩) 0 0)
    have v0 := V.cell 0
    have v1 := V.cell 1
    have v2 := V.cell 2
    have v3 := V.cell 3
    unfold Res4 at v0 v1 v2 v3
    refine bodyPost_ret (v := .agg #[.int .u8 c.toNat, .string ⟨#[]⟩, .int .i64 0, .slice (some ⟨XB, 0, none⟩) 0 0]) (by simp [results, Try.results76, go_sem, v0, v1, v2, v3]) rfl ?_
    clear v0 v1 v2 v3 V
    refine .inl ⟨.stop, p + 1, _, _, _, by rw [HD.out, HC.out]; exact ⟨by rw [OkI]; trivial, .inr trivial, by rw [txI]; rfl⟩, by omega, by have := HXZ.out; omega, by rw [HC.out]; rfl, by rw [MBodAt]; exact ⟨_, _, rfl, fun h => absurd h (by simp)⟩, res4_far HM1.out hQR.symm _ _ _ _, res4_only ((only_below HST.out.below).trans (Only.set R wc 1 _)) (Nat.le_refl _) _ _ _ _⟩
end Go.Proofs.Ytelhogeaobofpaa
