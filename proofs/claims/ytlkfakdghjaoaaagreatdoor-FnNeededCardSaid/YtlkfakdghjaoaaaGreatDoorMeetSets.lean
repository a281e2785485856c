import Derived.WalkLawsBesides
import Derived.Test.YtlkfakdghjaoaaaGreatDoorJ6
import Derived.BigQuiet
import Derived.Test.YtlkfakdghjaoaaaGreatDoorJ1
import Derived.Test.YtlkfakdghjaoaaaGreatDoorJ10
import Derived.LaidEqlPtr
set_option maxRecDepth 100000
set_option maxHeartbeats 3200000
namespace Go.Proofs.YtlkfakdghjaoaaaGreatDoor
open Go.RowKit
theorem vu (n : Int) : IntKind.u32.wrap n = n % 4294967296 := rfl
theorem oG (a : Nat) (ha : a < 4294967296) : (BitVec.ofInt 32 (a : Int)).toNat = a := by
 rw [BitVec.ofInt_natCast, BitVec.toNat_ofNat]; exact Nat.mod_eq_of_lt (by omega)
theorem yy (a b : Nat) (ha : a < 4294967296) (hb : b < 4294967296) : bits .and .u32 (a : Int) (b : Int) = ((a &&& b : Nat) : Int) := by
 have hx : a &&& b < 2 ^ 32 := Nat.and_lt_two_pow _ (by omega)
 show IntKind.u32.wrap ((BitVec.ofInt 32 (a : Int) &&& BitVec.ofInt 32 (b : Int)).toNat : Int) = _
 rw [BitVec.toNat_and, oG a ha, oG b hb, vu]
 omega
theorem FD (a b : Nat) (ha : a < 4294967296) (hb : b < 4294967296) : bits .or .u32 (a : Int) (b : Int) = ((a ||| b : Nat) : Int) := by
 have hx : a ||| b < 2 ^ 32 := Nat.or_lt_two_pow (by omega) (by omega)
 show IntKind.u32.wrap ((BitVec.ofInt 32 (a : Int) ||| BitVec.ofInt 32 (b : Int)).toNat : Int) = _
 rw [BitVec.toNat_or, oG a ha, oG b hb, vu]
 omega
theorem By : ∀ k : Nat, k < 26 → ((2 : Int) ^ k % 4294967296) = ((2 ^ k : Nat) : Int) := by decide
theorem vw : ∀ k : Nat, k < 26 → 2 ^ k < 4294967296 := by decide
theorem Ds (s t : Nat) (w : World) (hs : s < 4294967296) (ht : t < 4294967296) :
  Calls Tryz.prog 166 #[.int .u32 s, .int .u32 t] w fun e w' => e = .returned (.int .u32 ((s &&& t : Nat) : Int)) ∧ w = w' := by
 have HB := GR (yy s t hs ht)
 go_enter Tryz.func166, Tryz.ntmps166
 go_wp2
 go_ret
 exact ⟨bz HB.out, rfl⟩
theorem mz (s b k : Nat) (w : World) (hs : s < 4294967296) (hc : w.cell? ⟨b, 0, none⟩ = some (.int .i64 k)) (hk : k < 26) :
  Calls Tryz.prog 165 #[.int .u32 s, .pointer (some ⟨b, 0, none⟩)] w fun e w' => e = .returned (.int .u32 ((s ||| 2 ^ k : Nat) : Int)) ∧ w = w' := by
 have hk0 : (0 : Int) ≤ k := by omega
 have HB : Hid (bits .or .u32 (s : Int) ((2 : Int) ^ k % 4294967296) = ((s ||| 2 ^ k : Nat) : Int)) := by
  rw [By k hk]; exact FD s (2 ^ k) hs (vw k hk)
 go_enter Tryz.func165, Tryz.ntmps165
 go_wp2
 go_ret
 exact ⟨bz HB.out, rfl⟩
theorem FE (s k : Nat) (hs : s < 4294967296) : (bits .and .u32 ((s : Int) / 2 ^ k) 1 == 1) = s.testBit k := by
 have e : ((s : Int) / 2 ^ k) = ((s / 2 ^ k : Nat) : Int) := by norm_cast
 have hl : s / 2 ^ k < 4294967296 := Nat.lt_of_le_of_lt (Nat.div_le_self _ _) hs
 rw [e, show (1 : Int) = ((1 : Nat) : Int) from rfl, yy _ _ hl (by decide), Nat.and_one_is_mod, Nat.testBit_eq_decide_div_mod_eq]
 by_cases h : s / 2 ^ k % 2 = 1
 ·rw [h]; rfl
 ·rw [decide_eq_false h]
  have : s / 2 ^ k % 2 = 0 := by omega
  rw [this]; rfl
theorem EI (s b k : Nat) (w : World) (hs : s < 4294967296) (hc : w.cell? ⟨b, 0, none⟩ = some (.int .i64 k)) (hk : k < 26) :
  Calls Tryz.prog 126 #[.int .u32 s, .pointer (some ⟨b, 0, none⟩)] w fun e w' => e = .returned (.bool (s.testBit k)) ∧ w = w' := by
 have hk0 : (0 : Int) ≤ k := by omega
 have HB := GR (FE s k hs)
 go_enter Tryz.func126, Tryz.ntmps126
 go_wp2
 go_ret
 exact ⟨aQ HB.out, rfl⟩
end Go.Proofs.YtlkfakdghjaoaaaGreatDoor
namespace Go.Proofs.YtlkfakdghjaoaaaGreatDoor
open Go.RowKit Go.Sort
def TreeIn (w : World) (tb : Nat) (V : Value) (S : Nat → Nat) (Pr : Nat → Value) : Prop :=
 ∃ cs, Blk w tb 122 cs ∧ cs.size = 53 ∧ cs[0]? = some V ∧ (∀ k, k < 26 → cs[1 + k]? = some (.int .u32 (S k))) ∧ (∀ k, k < 26 → cs[27 + k]? = some (Pr k))
theorem TreeIn.set {w : World} {tb : Nat} {V : Value} {S : Nat → Nat} {Pr : Nat → Value} (h : TreeIn w tb V S Pr) {k : Nat} (hk : k < 26) : w.cell? ⟨tb, 1 + k, none⟩ = some (.int .u32 (S k)) := by
 obtain ⟨cs, hb, _, _, hs, _⟩ := h
 rw [hb.cell]; exact hs k hk
theorem TreeIn.nodes {w : World} {tb : Nat} {V : Value} {S : Nat → Nat} {Pr : Nat → Value} (h : TreeIn w tb V S Pr) : w.cell? ⟨tb, 0, none⟩ = some V := by
 obtain ⟨cs, hb, _, hv, _⟩ := h
 rw [hb.cell]; exact hv
theorem TreeIn.parent {w : World} {tb : Nat} {V : Value} {S : Nat → Nat} {Pr : Nat → Value} (h : TreeIn w tb V S Pr) {k : Nat} (hk : k < 26) : w.cell? ⟨tb, 27 + k, none⟩ = some (Pr k) := by
 obtain ⟨cs, hb, _, _, _, hp⟩ := h
 rw [hb.cell]; exact hp k hk
theorem TreeIn.below {w w' : World} {tb : Nat} {V : Value} {S : Nat → Nat} {Pr : Nat → Value} (h : TreeIn w tb V S Pr) (hb : Below w.heap.size w w') : TreeIn w' tb V S Pr := by
 obtain ⟨cs, hk, hr⟩ := h
 exact ⟨cs, hk.below hb hk.lt, hr⟩
theorem TreeIn.put {w : World} {tb : Nat} {V : Value} {S : Nat → Nat} {Pr : Nat → Value} (h : TreeIn w tb V S Pr) {t : Nat} (ht : t < 26) (v : Nat) : TreeIn (w.setCell ⟨tb, 1 + t, none⟩ (.int .u32 v)) tb V (fun k => if k = t then v else S k) Pr := by
 obtain ⟨cs, hb, hz, hv, hs, hp⟩ := h
 refine ⟨_, hb.set_ (1 + t) _, by simp [hz], ?_, fun k hk => ?_, fun k hk => ?_⟩
 ·rw [Array.getElem?_setIfInBounds_ne (by omega)]; exact hv
 ·show _ = some (Value.int .u32 ((if k = t then v else S k : Nat) : Int))
  by_cases e : k = t
  ·subst e
   rw [if_pos rfl, Array.getElem?_setIfInBounds_self_of_lt (by omega)]
  ·rw [if_neg e, Array.getElem?_setIfInBounds_ne (by omega)]; exact hs k hk
 ·rw [Array.getElem?_setIfInBounds_ne (by omega)]; exact hp k hk
theorem uo (tb NB : Nat) (V : Value) (S : Nat → Nat) (Pr : Nat → Value) (g : List Bl) (a b : Nat) (w : World) (hT : TreeIn w tb V S Pr) (hN : NodesIn w NB g) (hl : g.length ≤ 26) (ha : a < g.length) (hb : b < g.length) (hS : S b < 4294967296) :
  Calls Tryz.prog 82 #[.pointer (some ⟨tb, 0, none⟩), ag NB a, ag NB b] w fun e w' => e = .returned (.bool ((S b).testBit a)) ∧ ∃ m, w' = w.drewN m := by
 have c0 : w.cell? ⟨nb NB b, 0, none⟩ = some (.int .i64 b) := by have := (hN b hb).cell 0; simpa using this
 have c1 := hT.set (k := b) (by omega)
 have hb0 : (0 : Int) ≤ (b : Int) := by omega
 have hb1 : (b : Int) < 26 := by omega
 have hb2 : b < 26 := by omega
 obtain ⟨x, hx⟩ : ∃ x, x = S b := ⟨_, rfl⟩
 rw [← hx] at c1 hS ⊢
 have tS : ∀ n, Calls Tryz.prog 126 #[.int .u32 x, ag NB a] (w.drewN n) fun e w'' => e = .returned (.bool (x.testBit a)) ∧ ∃ m, w'' = w.drewN m := fun n => by
  have hN2 := hN.below (ab w n)
  have c : (w.drewN n).cell? ⟨nb NB a, 0, none⟩ = some (.int .i64 a) := by have := (hN2 a ha).cell 0; simpa using this
  exact Calls.quiet_of_same ((EI x (nb NB a) a (w.drewN n) hS c (by omega)).mono fun _ _ ⟨p, q⟩ => ⟨p, q.symm⟩)
 clear hx hT hN
 go_enter Tryz.func82, Tryz.ntmps82
 go_wp2_with fail
 go_quiet (with_reducible exact tS _)
 clear tS
 go_wp2_with fail
 go_ret
 exact ⟨rfl, _, rfl⟩
end Go.Proofs.YtlkfakdghjaoaaaGreatDoor
namespace Go.Proofs.YtlkfakdghjaoaaaGreatDoor
open Go.RowKit Go.Sort
theorem Only.cellAt {R : Nat} {w w' : World} (h : Only R w w') {b o : Nat} (hne : b ≠ R) (hlt : b < w.heap.size) : w'.cell? ⟨b, o, none⟩ = w.cell? ⟨b, o, none⟩ := by
 simp only [World.cell?, h.block b hne hlt]
theorem Only.setAt {R : Nat} {a w : World} (h : Only R a w) (j : Nat) (v : Value) : Only R a (w.setCell ⟨R, j, none⟩ v) :=
 h.trans ⟨rfl, rfl, rfl, by simp, fun k hk _ => Below.heap_setCell w ⟨R, j, none⟩ v k hk⟩
theorem TreeIn.free {w : World} {tb : Nat} {V : Value} {S : Nat → Nat} {Pr : Nat → Value} (h : TreeIn w tb V S Pr) (k : Nat) : w.frozen? ⟨tb, k, none⟩ = false := by
 obtain ⟨cs, hb, _⟩ := h
 exact hb.frozen k
def vx (w : World) (tb : Nat) : Nat := bB (fun k => match w.cell? ⟨tb, 1 + k, none⟩ with | some (.int _ n) => n.toNat | _ => 0) 26
theorem qJ {S T : Nat → Nat} : ∀ {n : Nat}, (∀ k, k < n → S k = T k) → bB S n = bB T n
 | 0, _ => rfl
 | n + 1, h => by rw [bB, bB, qJ fun k hk => h k (by omega), h n (by omega)]
theorem TreeIn.mass {w : World} {tb : Nat} {V : Value} {S : Nat → Nat} {Pr : Nat → Value} (h : TreeIn w tb V S Pr) : vx w tb = bB S 26 := by
 unfold vx
 exact qJ fun k hk => by rw [h.set hk]; rfl
structure Turn (g : List Bl) (l : List Nat) (S S2 : Nat → Nat) (ch : Bool) (k : Nat) : Prop where
 less : bB S2 26 + (if ch then 1 else 0) ≤ bB S 26
 same : ch = false → S2 = S ∧ ∀ j (h : j < l.length), j < k → ∀ t ∈ ai g l[j], ei S l[j] t = S t
theorem Turn.next {g : List Bl} {l : List Nat} {S S2 : Nat → Nat} {ch : Bool} {k : Nat} (h : Turn g l S S2 ch k) (hk : k < l.length) {S3 : Nat → Nat} {ch' : Bool} (h1 : bB S3 26 + (if ch' then 1 else 0) ≤ bB S 26) (h2 : ch' = false → ch = false ∧ S3 = S ∧ ∀ t ∈ ai g l[k], ei S l[k] t = S t) : Turn g l S S3 ch' (k + 1) := by
 refine ⟨h1, fun e => ?_⟩
 obtain ⟨e1, e2, e3⟩ := h2 e
 refine ⟨e2, fun j hj hjk => ?_⟩
 rcases Nat.lt_succ_iff_lt_or_eq.1 hjk with hjk | rfl
 ·exact (h.same e1).2 j hj hjk
 ·exact e3
theorem vy (tb NB B off cap : Nat) (g : List Bl) (l : List Nat) (Pr : Nat → Value) (S0 : Nat → Nat) (w : World) (hv : aa g = true) (hT : TreeIn w tb (.slice (some ⟨B, off, none⟩) l.length cap) S0 Pr)
  (hP : ∀ k (h : k < l.length), w.cell? ⟨B, off + k, none⟩ = some (ag NB l[k])) (hBlt : B < w.heap.size) (hN : NodesIn w NB g) (hB : B ≠ tb) (hNe : ∀ i, i < g.length → nb NB i ≠ tb)
  (hS0 : ∀ k, S0 k < 4294967296) (hl : ∀ x, x ∈ l ↔ Rch g [] x) (hl0 : l[0]? = some 0) (hn : l.length ≤ 26) :
  Calls Tryz.prog 124 #[.pointer (some ⟨tb, 0, none⟩)] w fun e w' => e = .returned (.tuple #[]) ∧ ∃ S, TreeIn w' tb (.slice (some ⟨B, off, none⟩) l.length cap) S Pr ∧ Only tb w w' ∧ (∀ b, S b < 4294967296) ∧ ∀ b, Rch g [] b → ∀ a, (S b).testBit a = true ↔ Dm g a b := by
 have hlt26 : ∀ x ∈ l, x < g.length ∧ x < 26 := fun x hx => by
  have h1 := ((hl x).1 hx).lt hv
  have h2 := (aj.1 hv).2.1
  exact ⟨h1, by omega⟩
 have cN := hT.nodes
 have HT := GR hT
 have HN := GR hN
 have HP := GR hP
 have HNE := GR hNe
 have HL := GR hl
 have HL0 := GR hl0
 have HLT := GR hlt26
 have HV := GR hv
 have HS0 := GR hS0
 clear hT hN hP hNe hl hl0 hlt26 hv hS0
 go_enter Tryz.func124, Tryz.ntmps124
 go_wp2_with fail
 go_loop [2, 20] (fun m i => ∃ (k q : Nat), k ≤ l.length ∧ i = .int .i64 k ∧ m = .int .u32 q ∧ q < 4294967296 ∧ Hid (∀ j (h : j < l.length), j < k → q.testBit l[j] = true)) (fun _ i => l.length - (intOf i).toNat)
 case atStart => exact ⟨0, 0, Nat.zero_le _, rfl, rfl, by omega, fun j _ h => absurd h (by omega)⟩
 case round =>
  obtain ⟨k, q, hk, rfl, rfl, hq, HK⟩ := hrel
  by_cases hlt : k < l.length
  ·have c0 := HP.out k hlt
   have hx := HLT.out l[k] (List.getElem_mem hlt)
   obtain ⟨x, hxe⟩ : ∃ x, x = l[k] := ⟨_, rfl⟩
   rw [← hxe] at c0 hx
   have HXE := GR hxe
   have cx : w.cell? ⟨nb NB x, 0, none⟩ = some (.int .i64 x) := by have := (HN.out x hx.1).cell 0; simpa using this
   have HW := GR (mz q (nb NB x) x w hq cx hx.2)
   have hq2 : q ||| 2 ^ x < 4294967296 := Nat.or_lt_two_pow (n := 32) (by omega) (by have := vw x hx.2; omega)
   clear hxe cx
   go_wp2_with fail
   refine HW.out.mono ?_
   rintro e w' ⟨rfl, rfl⟩
   go_wp2_with fail
   go_round
   case rel =>
    refine ⟨k + 1, q ||| 2 ^ x, by omega, by go_num, rfl, hq2, fun j h hj => ?_⟩
    rw [Nat.testBit_or, Nat.testBit_two_pow]
    rcases Nat.lt_succ_iff_lt_or_eq.1 hj with hj | rfl
    ·rw [HK.out j h hj]; rfl
    ·rw [HXE.out]; simp
   case measure => simp [intOf]; omega
  ·have HQ := GR (show ∀ a, Rch g [] a → q.testBit a = true from fun a ha => by
    obtain ⟨j, hj, rfl⟩ := List.getElem_of_mem ((HL.out a).2 ha)
    exact HK.out j hj (by omega))
   go_wp2_with fail
   go_loopw [33] (fun i wr => ∃ (k : Nat) (S : Nat → Nat), k ≤ l.length ∧ i = .int .i64 k ∧ TreeIn wr tb (.slice (some ⟨B, off, none⟩) l.length cap) S Pr ∧ Hid (∀ j (h : j < l.length), j < k → S l[j] = q) ∧ Hid (∀ b, S b < 4294967296) ∧ Only tb w wr) (fun i _ => l.length - (intOf i).toNat)
   case atStart => exact ⟨0, S0, Nat.zero_le _, rfl, HT.out, fun j _ h => absurd h (by omega), HS0, Only.refl _ _⟩
   case round =>
    obtain ⟨k2, S, hk2, rfl, hT, HSJ, HSS, hO⟩ := hrel
    have HO := GR hO
    have HTR := GR hT
    clear hO hT
    by_cases hlt2 : k2 < l.length
    ·have c0 : wr.cell? ⟨B, off + k2, none⟩ = some (ag NB l[k2]) := (HO.out.cellAt hB hBlt).trans (HP.out k2 hlt2)
     have hx := HLT.out l[k2] (List.getElem_mem hlt2)
     obtain ⟨x, hxe⟩ : ∃ x, x = l[k2] := ⟨_, rfl⟩
     rw [← hxe] at c0 hx
     have HXE := GR hxe
     have cx : wr.cell? ⟨nb NB x, 0, none⟩ = some (.int .i64 x) := (HO.out.cellAt (HNE.out x hx.1) (HN.out x hx.1).lt).trans (by have := (HN.out x hx.1).cell 0; simpa using this)
     have cs : wr.cell? ⟨tb, 1 + x, none⟩ = some (.int .u32 (S x)) := HTR.out.set hx.2
     have fs := HTR.out.free (1 + x)
     have hx0 : (0 : Int) ≤ (x : Int) := by omega
     have hx1 : (x : Int) < 26 := by omega
     clear hxe
     go_wp2_with fail
     go_region
     go_wp2_with fail
     go_roundw
     case rel =>
      refine ⟨k2 + 1, fun k => if k = x then q else S k, by omega, by go_num, HTR.out.put hx.2 q, fun j h hj => ?_, fun b => ?_, (HO.out.setAt (1 + x) _).trans (Only.of_below (ab _ 1))⟩
      ·show (if l[j] = x then q else S l[j]) = q
       split
       ·rfl
       ·rename_i hne
        rcases Nat.lt_succ_iff_lt_or_eq.1 hj with hj | rfl
        ·exact HSJ.out j h hj
        ·exact absurd HXE.out.symm hne
      ·show (if b = x then q else S b) < 4294967296
       split
       ·exact hq
       ·exact HSS.out b
     case measure => simp [intOf]; omega
    ·have hpos : 0 < l.length := by
      rcases Nat.eq_zero_or_pos l.length with h | h
      ·have := HL0.out; rw [List.eq_nil_of_length_eq_zero h] at this; cases this
      ·exact h
     have h00 : l[0]'hpos = 0 := by have := HL0.out; rw [List.getElem?_eq_getElem hpos] at this; exact Option.some.inj this
     have hg0 := (HLT.out 0 (by rw [← h00]; exact List.getElem_mem hpos)).1
     have c0 : wr.cell? ⟨B, off, none⟩ = some (ag NB 0) := (HO.out.cellAt hB hBlt).trans (by have := HP.out 0 hpos; rw [h00] at this; simpa using this)
     have cE : wr.cell? ⟨nb NB 0, 0, none⟩ = some (.int .i64 0) := (HO.out.cellAt (HNE.out 0 hg0) (HN.out 0 hg0).lt).trans (by have := (HN.out 0 hg0).cell 0; simpa using this)
     have cN2 := HTR.out.nodes
     have fs := HTR.out.free 1
     have cs := HTR.out.set (k := 0) (by omega)
     have HW : Hid (Calls Tryz.prog 165 #[.int .u32 0, ag NB 0] wr.drew fun e w' => e = .returned (.int .u32 1) ∧ wr.drew = w') := by
      have h := mz 0 (nb NB 0) 0 wr.drew (by decide) cE (by decide)
      exact h
     have hposI : (0 : Int) < l.length := by omega
     clear h00
     go_wp2_with fail
     go_region_with (go_at_call 165; refine HW.out.mono ?_; rintro e w' ⟨rfl, rfl⟩)
     all_goals
      have HT2 : Hid (TreeIn (wr.setCell ⟨tb, 1, none⟩ (.int .u32 1)).drew tb (.slice (some ⟨B, off, none⟩) l.length cap) (fun k => if k = 0 then 1 else S k) Pr) := HTR.out.put (t := 0) (by omega) 1
      have HO2 : Hid (Only tb w (wr.setCell ⟨tb, 1, none⟩ (.int .u32 1)).drew) := (HO.out.setAt 1 _).trans (Only.of_below (ab _ 1))
      have HD2 : Hid (DInv g (fun k => if k = 0 then 1 else S k)) := DInv.start HQ.out (if_pos rfl)
       (fun b hb hr => by
        show (if b = 0 then 1 else S b) = q
        rw [if_neg hb]
        obtain ⟨j, hj, rfl⟩ := List.getElem_of_mem ((HL.out b).2 hr)
        exact HSJ.out j hj (by omega))
       (fun b => by
        show (if b = 0 then 1 else S b) < 4294967296
        split
        ·decide
        ·exact HSS.out b)
      obtain ⟨wq, hwq⟩ : ∃ wq, wq = (wr.setCell ⟨tb, 1, none⟩ (.int .u32 1)).drew := ⟨_, rfl⟩
      rw [← hwq] at HT2 HO2 ⊢
      clear hwq HTR HO HSJ HSS c0 cE cN2 fs cs HW
      go_wp2_with fail
      go_loopw [8] (fun c wr => ∃ (ch : Bool) (S : Nat → Nat), c = .bool ch ∧ TreeIn wr tb (.slice (some ⟨B, off, none⟩) l.length cap) S Pr ∧ Hid (DInv g S) ∧ Only tb w wr ∧ Hid (ch = false → ∀ i t, Rch g [] i → t ∈ ai g i → ei S i t = S t)) (fun c wr => match c with | .bool true => vx wr tb + 1 | _ => 0)
      case atStart => exact ⟨true, _, rfl, HT2.out, HD2, HO2.out, fun h => by cases h⟩
      case round =>
       obtain ⟨ch, S, rfl, hT, HD, hO, HF⟩ := hrel
       have HTR := GR hT
       have HO := GR hO
       clear hT hO
       cases ch with
       | false =>
        go_wp2_with fail
        go_end0
        exact ⟨rfl, S, HTR.out, HO.out, HD.out.small, fun b hb a => HD.out.done (HF.out trivial) hb a⟩
       | true =>
        have cN3 := HTR.out.nodes
        go_wp2_with fail
        go_loopw [8, 69] (fun c i wr => ∃ (k : Nat) (ch : Bool) (S2 : Nat → Nat), k ≤ l.length ∧ c = .bool ch ∧ i = .int .i64 k ∧ TreeIn wr tb (.slice (some ⟨B, off, none⟩) l.length cap) S2 Pr ∧ Hid (DInv g S2) ∧ Only tb w wr ∧ Hid (Turn g l S S2 ch k)) (fun _ i _ => l.length - (intOf i).toNat)
        case atStart => exact ⟨0, false, S, Nat.zero_le _, rfl, rfl, HTR.out, HD, HO.out, ⟨by simp, fun _ => ⟨rfl, fun j _ h => absurd h (by omega)⟩⟩⟩
        case round =>
         rename_i wo _ _ _
         obtain ⟨k3, ch, S2, hk3, rfl, rfl, hT, HD2, hO, HP2⟩ := hrel
         have HT3 := GR hT
         have HO3 := GR hO
         clear hT hO
         by_cases hlt3 : k3 < l.length
         ·have c0 : wr.cell? ⟨B, off + k3, none⟩ = some (ag NB l[k3]) := (HO3.out.cellAt hB hBlt).trans (HP.out k3 hlt3)
          have hx := HLT.out l[k3] (List.getElem_mem hlt3)
          have hxr := (HL.out l[k3]).1 (List.getElem_mem hlt3)
          obtain ⟨x, hxe⟩ : ∃ x, x = l[k3] := ⟨_, rfl⟩
          rw [← hxe] at c0 hx hxr
          have HXE := GR hxe
          have HXR := GR hxr
          obtain ⟨T, tv, F2, hd⟩ := rv (NB := NB) HV.out hx.1
          have x2 : wr.cell? ⟨nb NB x, 2, none⟩ = some (.iface T tv) := (HO3.out.cellAt (HNE.out x hx.1) (HN.out x hx.1).lt).trans (by have := (HN.out x hx.1).cell 2; rw [hd.val] at this; simpa using this)
          have hlook := hd.look
          have hent := hd.enter
          have HDG := GR hd.goes
          have hn2 := iO HV.out hx.1
          clear hd hxe hxr
          go_wp2_with fail
          refine (HDG.out wr).mono ?_
          rintro e w3 ⟨A3, rfl, b3, hrow⟩
          have HR := GR hrow
          have HT4 := GR (HT3.out.below b3)
          have HO4 := GR (HO3.out.trans (Only.of_below b3))
          clear hlook hent x2 hrow b3 c0
          go_wp2_with fail
          go_loopw [8, 79] (fun c i wr => ∃ (p : Nat) (ch2 : Bool) (S3 : Nat → Nat), p ≤ (ai g x).length ∧ c = .bool ch2 ∧ i = .int .i64 p ∧ TreeIn wr tb (.slice (some ⟨B, off, none⟩) l.length cap) S3 Pr ∧ Hid (DInv g S3) ∧ Only tb w wr ∧ Only tb w3 wr ∧ Hid (bB S3 26 + (if ch2 then 1 else 0) ≤ bB S 26) ∧ Hid (ch2 = false → ch = false ∧ S3 = S ∧ ∀ m (h : m < (ai g x).length), m < p → ei S x (ai g x)[m] = S (ai g x)[m])) (fun _ i _ => (ai g x).length - (intOf i).toNat)
          case atStart => exact ⟨0, ch, S2, Nat.zero_le _, rfl, rfl, HT4.out, HD2, HO4.out, Only.refl _ _, HP2.out.less, fun e => ⟨e, (HP2.out.same e).1, fun m _ h => absurd h (by omega)⟩⟩
          case round =>
           obtain ⟨p, ch2, S3, hp, rfl, rfl, hT, HD3, hO, hO3, HL3, HS3⟩ := hrel
           have HT5 := GR hT
           have HO5 := GR hO
           have HO6 := GR hO3
           clear hT hO hO3
           by_cases hpl : p < (ai g x).length
           ·obtain ⟨bb, rfl, hbb, hrowb⟩ := HR.out (by omega)
            have hbt : bb ≠ tb := by
             obtain ⟨cs0, hk0, _⟩ := HT3.out
             have := hk0.lt; omega
            obtain ⟨t, hte⟩ : ∃ t, t = (ai g x)[p] := ⟨_, rfl⟩
            have htm : t ∈ ai g x := hte ▸ List.getElem_mem hpl
            have htl := bP HV.out hx.1 htm
            have ht26 : t < 26 := (HLT.out t ((HL.out t).2 (.step HXR.out htm (by simp)))).2
            have ct : wr.cell? ⟨bb, p, none⟩ = some (ag NB t) := (HO6.out.cellAt hbt hrowb.lt).trans (by rw [hrowb.cell, List.getElem?_toArray, List.getElem?_map, List.getElem?_eq_getElem hpl, hte]; rfl)
            have cit : wr.cell? ⟨nb NB t, 0, none⟩ = some (.int .i64 t) := (HO5.out.cellAt (HNE.out t htl) (HN.out t htl).lt).trans (by have := (HN.out t htl).cell 0; simpa using this)
            have cix : wr.cell? ⟨nb NB x, 0, none⟩ = some (.int .i64 x) := (HO5.out.cellAt (HNE.out x hx.1) (HN.out x hx.1).lt).trans (by have := (HN.out x hx.1).cell 0; simpa using this)
            have cst := HT5.out.set ht26
            have csx := HT5.out.set hx.2
            have fs := HT5.out.free (1 + t)
            have sa := HD3.out.small t
            have sb := HD3.out.small x
            have HTE := GR hte
            have HTM := GR htm
            obtain ⟨a, ha⟩ : ∃ a, a = S3 t := ⟨_, rfl⟩
            obtain ⟨b, hb⟩ : ∃ b, b = S3 x := ⟨_, rfl⟩
            rw [← ha] at cst sa
            rw [← hb] at csx sb
            obtain ⟨v, hv0⟩ : ∃ v, v = a &&& (b ||| 2 ^ t) := ⟨_, rfl⟩
            have hvm : v = ei S3 x t := by rw [hv0, ha, hb]; rfl
            have sb2 : b ||| 2 ^ t < 4294967296 := Nat.or_lt_two_pow (n := 32) (by omega) (by have := vw t ht26; omega)
            have HWA := GR (fun (u : World) (hu : u.cell? ⟨nb NB t, 0, none⟩ = some (.int .i64 t)) => mz b (nb NB t) t u sb hu ht26)
            have HMA := GR (fun (u : World) => (Ds a (b ||| 2 ^ t) u sa sb2).mono fun e w' h => show e = .returned (.int .u32 (v : Int)) ∧ u = w' from hv0 ▸ h)
            have HA := GR ha
            have HVM := GR hvm
            have HCT := GR cit
            have t0 : (0 : Int) ≤ (t : Int) := by omega
            have t1 : (t : Int) < 26 := by omega
            have x0 : (0 : Int) ≤ (x : Int) := by omega
            have x1 : (x : Int) < 26 := by omega
            have t2 := ht26
            have x2 := hx.2
            clear hte htm ha hb hv0 hvm hrowb
            go_wp2_with fail
            go_quiet (fail)
            rename Nat => n1
            go_wp2_with fail
            have tW : ∀ n, Calls Tryz.prog 165 #[.int .u32 b, ag NB t] (wr.drewN (n1 + n)) fun e w'' => e = .returned (.int .u32 ((b ||| 2 ^ t : Nat) : Int)) ∧ ∃ m, w'' = wr.drewN (n1 + m) := fun n => (HWA.out (wr.drewN (n1 + n)) HCT.out).mono fun _ _ ⟨p, q⟩ => ⟨p, n, q.symm⟩
            have tM : ∀ n, Calls Tryz.prog 166 #[.int .u32 a, .int .u32 ((b ||| 2 ^ t : Nat) : Int)] (wr.drewN (n1 + n)) fun e w'' => e = .returned (.int .u32 (v : Int)) ∧ ∃ m, w'' = wr.drewN (n1 + m) := fun n => (HMA.out (wr.drewN (n1 + n))).mono fun _ _ ⟨p, q⟩ => ⟨p, n, q.symm⟩
            go_quiet (first | with_reducible exact tW _ | with_reducible exact tM _)
            clear tW tM
            go_wp2_with fail
            have HT6 := GR ((HT5.out.below (ab wr n1)).below (ab _ nq))
            have HO7 := GR ((HO5.out.trans (Only.of_below (ab wr n1))).trans (Only.of_below (ab _ nq)))
            have HO8 := GR ((HO6.out.trans (Only.of_below (ab wr n1))).trans (Only.of_below (ab _ nq)))
            have cit6 : ((wr.drewN n1).drewN nq).cell? ⟨nb NB t, 0, none⟩ = some (.int .i64 t) := HCT.out
            have cst6 : ((wr.drewN n1).drewN nq).cell? ⟨tb, 1 + t, none⟩ = some (.int .u32 a) := cst
            have fs6 : ((wr.drewN n1).drewN nq).frozen? ⟨tb, 1 + t, none⟩ = false := fs
            obtain ⟨wq, hwq⟩ : ∃ wq, wq = (wr.drewN n1).drewN nq := ⟨_, rfl⟩
            rw [← hwq] at HT6 HO7 HO8 cit6 cst6 fs6 ⊢
            clear hwq HT5 HO5 HO6 ct cit cix cst csx fs HWA HMA HCT
            go_region
            have HT7 := GR (HT6.out.put ht26 v)
            have HO9 := GR ((HO7.out.setAt (1 + t) (.int .u32 (v : Int))).trans (Only.of_below (ab _ 1)))
            have HOA := GR ((HO8.out.setAt (1 + t) (.int .u32 (v : Int))).trans (Only.of_below (ab _ 1)))
            have HDN : Hid (DInv g (eu S3 t v)) := by rw [HVM.out]; exact HD3.out.step HXR.out HTM.out
            have HSL : Hid (bB (eu S3 t v) 26 ≤ bB S3 26) := by rw [HVM.out]; exact Eq ht26
            clear cit6 cst6 fs6 HT6 HO7 HO8
            cases ch2 with
            | true =>
             have HL3' : bB S3 26 + 1 ≤ bB S 26 := by have := HL3.out; simpa using this
             go_wp2_with fail
             go_roundw
             case rel => exact ⟨p + 1, true, eu S3 t v, by omega, rfl, by go_num, HT7.out, HDN, HO9.out, HOA.out, (show bB (eu S3 t v) 26 + (if (true : Bool) then 1 else 0) ≤ bB S 26 by have := HSL.out; rw [if_pos rfl]; omega), fun e => by cases e⟩
             case measure => simp [intOf]; omega
            | false =>
             have HL3' : bB S3 26 ≤ bB S 26 := by have := HL3.out; simpa using this
             by_cases hva : v = a
             ·have q0 : ((v : Int) != (a : Int)) = false := by rw [hva]; simp
              have HVA := GR hva
              clear hva
              go_wp2_with fail
              go_roundw
              case rel =>
               refine ⟨p + 1, false, eu S3 t v, by omega, rfl, by go_num, HT7.out, HDN, HO9.out, HOA.out, (show bB (eu S3 t v) 26 + (if (false : Bool) then 1 else 0) ≤ bB S 26 by have := HSL.out; rw [if_neg (by simp)]; omega), fun _ => ?_⟩
               obtain ⟨e1, e2, e3⟩ := HS3.out rfl
               have e4 : eu S3 t v = S3 := CR (by rw [HVA.out, HA.out])
               refine ⟨e1, e4.trans e2, fun m hm hmp => ?_⟩
               rcases Nat.lt_succ_iff_lt_or_eq.1 hmp with h | h
               ·exact e3 m hm h
               ·subst h
                rw [← HTE.out, ← e2, ← HVM.out, HVA.out, HA.out]
              case measure => simp [intOf]; omega
             ·have q0 : ((v : Int) != (a : Int)) = true := by simp; omega
              have HVN : Hid (bB (eu S3 t v) 26 < bB S3 26) := by
               rw [HVM.out]; exact AJ ht26 (by rw [← HVM.out, ← HA.out]; exact hva)
              clear hva
              go_wp2_with fail
              go_roundw
              case rel => exact ⟨p + 1, true, eu S3 t v, by omega, rfl, by go_num, HT7.out, HDN, HO9.out, HOA.out, (show bB (eu S3 t v) 26 + (if (true : Bool) then 1 else 0) ≤ bB S 26 by have := HVN.out; rw [if_pos rfl]; omega), fun e => by cases e⟩
              case measure => simp [intOf]; omega
           ·go_wp2_with fail
            go_roundw
            case rel =>
             refine ⟨k3 + 1, ch2, S3, by omega, rfl, by go_num, HT5.out, HD3, HO5.out, HP2.out.next hlt3 HL3.out fun e => ?_⟩
             obtain ⟨e1, e2, e3⟩ := HS3.out e
             refine ⟨e1, e2, fun t ht => ?_⟩
             rw [← HXE.out] at ht ⊢
             obtain ⟨m, hm, rfl⟩ := List.getElem_of_mem ht
             exact e3 m hm (by omega)
            case measure => simp [intOf]; omega
         ·go_wp2_with fail
          go_roundw
          case rel =>
           refine ⟨ch, S2, rfl, HT3.out, HD2, HO3.out, fun e i t hi hn => ?_⟩
           obtain ⟨j, hj, rfl⟩ := List.getElem_of_mem ((HL.out i).2 hi)
           obtain ⟨e1, e2⟩ := HP2.out.same e
           rw [e1]
           exact e2 j hj (by omega) t hn
          case measure =>
           have h1 := HT3.out.mass
           have h2 := HTR.out.mass
           have h3 := HP2.out.less
           cases ch with
           | true => simp only [if_pos] at h3 ⊢; omega
           | false => simp
end Go.Proofs.YtlkfakdghjaoaaaGreatDoor
namespace Go.Proofs.YtlkfakdghjaoaaaGreatDoor
open Go.RowKit Go.Sort
theorem oP {P : Program} (w : World) {tp te : TypeId} {j : TypeInfo} {a b : Addr} {ca cb : Array Value} {ta tb : TypeId} (hp : P.underlying tp = some (.pointer te)) (hte : P.info? te = some j) (hsz : j.size ≠ 0)
  (hne : a ≠ b) (ha : w.heap[a.block]? = some (.cells ca ta (0, 0))) (hb : w.heap[b.block]? = some (.cells cb tb (0, 0))) :
  (binOp .neq tp (.pointer (some a)) (.pointer (some b))).run P w = .ok (.bool true) w := by
 have h : ∀ d : Nat, (Op.equalIn (d + 1) tp (.pointer (some a)) (.pointer (some b))).run P w = .ok false w := fun d => by
  simp [Op.equalIn, run_underlying hp, sizeOf, typeInfo, hte, hsz, run_sameAddr_other w hne ha hb]
 simp only [binOp]
 simp [Op.equal, Op.maxDepth, h 9999]
theorem qK : (Tryz.prog.info? 101).map (·.size) = some 3 := by kernel_rfl
theorem TreeIn.putP {w : World} {tb : Nat} {V : Value} {S : Nat → Nat} {Pr : Nat → Value} (h : TreeIn w tb V S Pr) {t : Nat} (ht : t < 26) (v : Value) : TreeIn (w.setCell ⟨tb, 27 + t, none⟩ v) tb V S (fun k => if k = t then v else Pr k) := by
 obtain ⟨cs, hb, hz, hv, hs, hp⟩ := h
 refine ⟨_, hb.set_ (27 + t) _, by simp [hz], ?_, fun k hk => ?_, fun k hk => ?_⟩
 ·rw [Array.getElem?_setIfInBounds_ne (by omega)]; exact hv
 ·rw [Array.getElem?_setIfInBounds_ne (by omega)]; exact hs k hk
 ·show _ = some (if k = t then v else Pr k)
  by_cases e : k = t
  ·subst e
   rw [if_pos rfl, Array.getElem?_setIfInBounds_self_of_lt (by omega)]
  ·rw [if_neg e, Array.getElem?_setIfInBounds_ne (by omega)]; exact hp k hk
theorem TreeIn.same {w : World} {tb : Nat} {V : Value} {S : Nat → Nat} {Pr Pr' : Nat → Value} (h : TreeIn w tb V S Pr) (e : ∀ k, k < 26 → Pr k = Pr' k) : TreeIn w tb V S Pr' := by
 obtain ⟨cs, hb, hz, hv, hs, hp⟩ := h
 exact ⟨cs, hb, hz, hv, hs, fun k hk => by rw [← e k hk]; exact hp k hk⟩
def eL (g : List Bl) (l : List Nat) (n : Nat) : Option Nat := (bF g n).filter fun p => decide (p ∈ l)
theorem vz (g : List Bl) (n : Nat) : eL g [] n = none := by unfold eL; cases bF g n <;> simp
theorem vA {g : List Bl} (hv : aa g = true) {n : Nat} (hn : Rch g [] n) {l : List Nat} (hl : ∀ x, Rch g [] x → x ∈ l) : eL g l n = bF g n := by
 unfold eL
 cases hp : bF g n with
 | none => rfl
 | some p => simp [hl p ((db hv hn).1 hp).2.1]
theorem vB {g : List Bl} {l : List Nat} {n p : Nat} (h : bF g n = some p) : eL g (l ++ [p]) n = some p := by unfold eL; rw [h]; simp
theorem ph {g : List Bl} {l : List Nat} {n p : Nat} (h : bF g n ≠ some p) : eL g (l ++ [p]) n = eL g l n := by
 unfold eL
 cases hp : bF g n with
 | none => rfl
 | some q =>
  have hq : q ≠ p := fun e => h (by rw [hp, e])
  rw [Option.filter_some, Option.filter_some]
  simp [hq]
def fY (NB : Nat) (g : List Bl) (l : List Nat) (n : Nat) : Value := if n ∈ l then il NB (bF g n) else .pointer none
def fq (NB : Nat) (g : List Bl) (l m : List Nat) (x n : Nat) : Value := if n = x then il NB (eL g m x) else fY NB g l n
theorem vC (NB : Nat) (g : List Bl) {l : List Nat} {x : Nat} (hx : x ∉ l) (n : Nat) : fY NB g l n = fq NB g l [] x n := by
 unfold fq
 split
 ·rename_i e
  subst e
  rw [vz]
  unfold fY
  rw [if_neg hx]; rfl
 ·rfl
theorem zI {NB : Nat} {g : List Bl} (hv : aa g = true) {l m : List Nat} {x : Nat} (hx : Rch g [] x) (hm : ∀ x, Rch g [] x → x ∈ m) (n : Nat) : fq NB g l m x n = fY NB g (l ++ [x]) n := by
 unfold fq fY
 rw [vA hv hx hm]
 by_cases e : n = x
 ·subst e; simp
 ·simp [e]
theorem qL (tb NB B off cap : Nat) (g : List Bl) (l : List Nat) (S : Nat → Nat) (w : World) (hv : aa g = true) (hT : TreeIn w tb (.slice (some ⟨B, off, none⟩) l.length cap) S (fun _ => .pointer none))
  (hP : ∀ k (h : k < l.length), w.cell? ⟨B, off + k, none⟩ = some (ag NB l[k])) (hBlt : B < w.heap.size) (hN : NodesIn w NB g) (hB : B ≠ tb) (hNe : ∀ i, i < g.length → nb NB i ≠ tb)
  (hS : ∀ b, S b < 4294967296) (hD : ∀ b, Rch g [] b → ∀ a, (S b).testBit a = true ↔ Dm g a b) (hl : ∀ x, x ∈ l ↔ Rch g [] x) (hnd : l.Nodup) (hn : l.length ≤ 26) :
  Calls Tryz.prog 125 #[.pointer (some ⟨tb, 0, none⟩)] w fun e w' => e = .returned (.tuple #[]) ∧ TreeIn w' tb (.slice (some ⟨B, off, none⟩) l.length cap) S (fY NB g l) ∧ Only tb w w' := by
 have hlt26 : ∀ x ∈ l, x < g.length ∧ x < 26 := fun x hx => by
  have h1 := ((hl x).1 hx).lt hv
  have h2 := (aj.1 hv).2.1
  exact ⟨h1, by omega⟩
 obtain ⟨jt, hjt, hjs⟩ := Option.map_eq_some_iff.1 qK
 have cN := hT.nodes
 have HT := GR hT
 have HN := GR hN
 have HP := GR hP
 have HNE := GR hNe
 have HL := GR hl
 have HLT := GR hlt26
 have HV := GR hv
 have HS := GR hS
 have HD := GR hD
 have HND := GR hnd
 have HJS := GR hjs
 clear hT hN hP hNe hl hlt26 hv hS hD hnd hjs
 go_enter Tryz.func125, Tryz.ntmps125
 go_wp2_with fail
 go_loopw [11] (fun i wr => ∃ (k : Nat), k ≤ l.length ∧ i = .int .i64 k ∧ TreeIn wr tb (.slice (some ⟨B, off, none⟩) l.length cap) S (fY NB g (l.take k)) ∧ Only tb w wr) (fun i _ => l.length - (intOf i).toNat)
 case atStart => exact ⟨0, Nat.zero_le _, rfl, HT.out, Only.refl _ _⟩
 case round =>
  obtain ⟨k, hk, rfl, hT, hO⟩ := hrel
  have HTR := GR hT
  have HO := GR hO
  have cN2 := hT.nodes
  clear hT hO
  by_cases hlt : k < l.length
  ·have c0 : wr.cell? ⟨B, off + k, none⟩ = some (ag NB l[k]) := (HO.out.cellAt hB hBlt).trans (HP.out k hlt)
   have hx := HLT.out l[k] (List.getElem_mem hlt)
   have hxr := (HL.out l[k]).1 (List.getElem_mem hlt)
   obtain ⟨x, hxe⟩ : ∃ x, x = l[k] := ⟨_, rfl⟩
   have hxn : x ∉ l.take k := fun h => by
    obtain ⟨j, hj, e⟩ := List.getElem_of_mem h
    rw [List.getElem_take] at e
    have hj2 : j < k := by rw [List.length_take] at hj; omega
    have := (List.nodup_iff_pairwise_ne.1 HND.out)
    have := List.pairwise_iff_getElem.1 this j k (by omega) hlt hj2
    exact this (e.trans hxe)
   rw [← hxe] at c0 hx hxr
   have HXE := GR hxe
   have HXR := GR hxr
   have HXN := GR hxn
   clear hxe hxr hxn
   go_wp2_with fail
   obtain ⟨wo, hwo⟩ : ∃ wo : World, wo = wr := ⟨_, rfl⟩
   have HT2 : Hid (TreeIn wo tb (.slice (some ⟨B, off, none⟩) l.length cap) S (fq NB g (l.take k) (l.take 0) x)) := by
    rw [hwo]; exact HTR.out.same fun n _ => vC NB g HXN.out n
   have HO2 : Hid (Only tb w wo) := by rw [hwo]; exact HO.out
   rw [← hwo]
   clear hwo HTR HO c0 cN2
   go_loopw [20] (fun i wr => ∃ (j : Nat), j ≤ l.length ∧ i = .int .i64 j ∧ TreeIn wr tb (.slice (some ⟨B, off, none⟩) l.length cap) S (fq NB g (l.take k) (l.take j) x) ∧ Only tb w wr) (fun i _ => l.length - (intOf i).toNat)
   case atStart => exact ⟨0, Nat.zero_le _, rfl, HT2.out, HO2.out⟩
   case round =>
    obtain ⟨j, hj, rfl, hT, hO⟩ := hrel
    have HT3 := GR hT
    have HO3 := GR hO
    clear hT hO
    by_cases hlt2 : j < l.length
    ·have c1 : wr.cell? ⟨B, off + j, none⟩ = some (ag NB l[j]) := (HO3.out.cellAt hB hBlt).trans (HP.out j hlt2)
     have hy := HLT.out l[j] (List.getElem_mem hlt2)
     have hyr := (HL.out l[j]).1 (List.getElem_mem hlt2)
     obtain ⟨y, hye⟩ : ∃ y, y = l[j] := ⟨_, rfl⟩
     rw [← hye] at c1 hy hyr
     have HTK := GR (show l.take (j + 1) = l.take j ++ [y] by rw [List.take_succ_eq_append_getElem hlt2, hye])
     have HYR := GR hyr
     clear hye hyr
     by_cases hyx : y = x
     ·have HTN : Hid (TreeIn wr tb (.slice (some ⟨B, off, none⟩) l.length cap) S (fq NB g (l.take k) (l.take (j + 1)) x)) := HT3.out.same fun n _ => by
       rw [HTK.out]
       unfold fq
       rw [ph]
       intro e
       exact ((db HV.out HXR.out).1 e).1 hyx
      subst hyx
      have heq := fun w => Lib.run_neq_ptr_same (P := Tryz.prog) w ⟨nb NB y, 0, none⟩ Tryz.underlying95 hjt
      go_wp2_with fail
      go_quiet (fail)
      have HT6 := GR (HTN.out.below (ab wr nq))
      have HO6 := GR (HO3.out.trans (Only.of_below (ab wr nq)))
      clear heq
      go_wp2_with fail
      go_roundw
      case rel => exact ⟨j + 1, by omega, by go_num, HT6.out, HO6.out⟩
      case measure => simp [intOf]; omega
     ·have HB1 := HN.out
      have hnx : (⟨nb NB y, 0, none⟩ : Addr) ≠ ⟨nb NB x, 0, none⟩ := fun e => hyx (by have h7 := (Addr.mk.inj e).1; simp only [nb] at h7; omega)
      have hbx := fun (n : Nat) => (show Blk (wr.drewN n) (nb NB x) 101 _ from (HO3.out.block _ (HNE.out x hx.1) (HN.out x hx.1).lt).trans (HN.out x hx.1))
      have hby := fun (n : Nat) => (show Blk (wr.drewN n) (nb NB y) 101 _ from (HO3.out.block _ (HNE.out y hy.1) (HN.out y hy.1).lt).trans (HN.out y hy.1))
      have heq := fun n => oP (P := Tryz.prog) (wr.drewN n) Tryz.underlying95 hjt (by rw [HJS.out]; decide) hnx (hby n) (hbx n)
      have cix : wr.cell? ⟨nb NB x, 0, none⟩ = some (.int .i64 x) := by have := Blk.cell (hbx 0) 0; simpa using this
      have ciy : wr.cell? ⟨nb NB y, 0, none⟩ = some (.int .i64 y) := by have := Blk.cell (hby 0) 0; simpa using this
      have csx := HT3.out.set hx.2
      have csy := HT3.out.set hy.2
      have fs := fun (k : Nat) => HT3.out.free k
      have sx := HS.out x
      have sy := HS.out y
      have HSP := GR (y8 HD.out HYR.out HXR.out hyx)
      obtain ⟨a, ha⟩ : ∃ a, a = S y := ⟨_, rfl⟩
      obtain ⟨b, hb⟩ : ∃ b, b = S x := ⟨_, rfl⟩
      rw [← ha] at csy sy
      rw [← hb] at csx sx
      have HSP2 : Hid (a ||| 2 ^ x = b ↔ dK g y x) := by rw [ha, hb]; exact HSP.out
      have tW : ∀ n, Calls Tryz.prog 165 #[.int .u32 a, ag NB x] (wr.drewN n) fun e w'' => e = .returned (.int .u32 ((a ||| 2 ^ x : Nat) : Int)) ∧ ∃ m, w'' = wr.drewN m := fun n =>
       (mz a (nb NB x) x (wr.drewN n) sy cix hx.2).mono fun _ _ ⟨p, q⟩ => ⟨p, n, q.symm⟩
      have fsx := fs (27 + x)
      have x0 : (0 : Int) ≤ (x : Int) := by omega
      have x1 : (x : Int) < 26 := by omega
      have y0 : (0 : Int) ≤ (y : Int) := by omega
      have y1 : (y : Int) < 26 := by omega
      have hx2 := hx.2
      have hy2 := hy.2
      clear hbx hby ha hb HSP HB1 hnx fs
      by_cases hq : a ||| 2 ^ x = b
      ·have q0 : (((a ||| 2 ^ x : Nat) : Int) == (b : Int)) = true := by rw [hq]; simp
       have HPY := GR ((db HV.out HXR.out).2 (HSP2.out.1 hq))
       clear hq
       go_wp2_with fail
       go_quiet (with_reducible exact tW _)
       go_wp2_with fail
       have HT6 := GR (HT3.out.below (ab wr nq))
       have HO6 := GR (HO3.out.trans (Only.of_below (ab wr nq)))
       have cix6 : (wr.drewN nq).cell? ⟨nb NB x, 0, none⟩ = some (.int .i64 x) := cix
       have cpx6 := HT6.out.parent hx2
       have fs6 := HT6.out.free (27 + x)
       obtain ⟨wq, hwq⟩ : ∃ wq, wq = wr.drewN nq := ⟨_, rfl⟩
       rw [← hwq] at HT6 HO6 cix6 cpx6 fs6 ⊢
       clear hwq heq tW cix ciy csx csy fsx HT3 HO3 c1 q0
       go_region
       have HT7 : Hid (TreeIn (wq.setCell ⟨tb, 27 + x, none⟩ (ag NB y)).drew tb (.slice (some ⟨B, off, none⟩) l.length cap) S (fq NB g (l.take k) (l.take (j + 1)) x)) := (HT6.out.putP hx2 (ag NB y)).same fun n _ => by
        rw [HTK.out]
        unfold fq
        rw [vB HPY.out]
        split <;> rfl
       have HO7 : Hid (Only tb w (wq.setCell ⟨tb, 27 + x, none⟩ (ag NB y)).drew) := (HO6.out.setAt (27 + x) _).trans (Only.of_below (ab _ 1))
       clear cix6 cpx6 fs6 HT6 HO6
       go_wp2_with fail
       go_roundw
       case rel => exact ⟨j + 1, by omega, by go_num, HT7.out, HO7.out⟩
       case measure => simp [intOf]; omega
      ·have q0 : (((a ||| 2 ^ x : Nat) : Int) == (b : Int)) = false := beq_eq_false_iff_ne.2 fun e => hq (Int.ofNat.inj e)
       have HTN : Hid (TreeIn wr tb (.slice (some ⟨B, off, none⟩) l.length cap) S (fq NB g (l.take k) (l.take (j + 1)) x)) := HT3.out.same fun n _ => by
        rw [HTK.out]
        unfold fq
        rw [ph]
        intro e
        exact hq (HSP2.out.2 ((db HV.out HXR.out).1 e))
       clear hq
       go_wp2_with fail
       go_quiet (with_reducible exact tW _)
       have HT6 := GR (HTN.out.below (ab wr nq))
       have HO6 := GR (HO3.out.trans (Only.of_below (ab wr nq)))
       clear heq tW
       go_wp2_with fail
       go_roundw
       case rel => exact ⟨j + 1, by omega, by go_num, HT6.out, HO6.out⟩
       case measure => simp [intOf]; omega
    ·have HTN : Hid (TreeIn wr tb (.slice (some ⟨B, off, none⟩) l.length cap) S (fY NB g (l.take (k + 1)))) := HT3.out.same fun n _ => by
      rw [List.take_of_length_le (by omega : l.length ≤ j), zI HV.out HXR.out (fun x hx => (HL.out x).2 hx), List.take_succ_eq_append_getElem hlt, HXE.out]
     go_wp2_with fail
     go_roundw
     case rel => exact ⟨k + 1, by omega, by go_num, HTN.out, HO3.out⟩
     case measure => simp [intOf]; omega
  ·have HTN : Hid (TreeIn wr tb (.slice (some ⟨B, off, none⟩) l.length cap) S (fY NB g l)) := by
    have := HTR.out
    rwa [List.take_of_length_le (by omega)] at this
   go_wp2_with fail
   go_end0
   exact ⟨rfl, HTN.out, HO.out⟩
end Go.Proofs.YtlkfakdghjaoaaaGreatDoor
