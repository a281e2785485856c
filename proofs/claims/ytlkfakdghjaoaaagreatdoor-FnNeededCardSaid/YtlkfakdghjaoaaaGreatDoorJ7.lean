import Derived.Test.YtlkfakdghjaoaaaGreatDoorIter
import Derived.Test.YtlkfakdghjaoaaaGreatDoorJ5
import Derived.RangeFuncBound
import Derived.RangeFuncCalls
import Derived.RangeFuncLeaves
import Derived.WalkKit
import Derived.OwnWalkIn
import Derived.TacticsInMore
import Derived.LoopNIn
import Derived.LoopIn
import Derived.Sort.LoopGhostIn
import Derived.IntWalk
import Derived.Deep.RegionWith
import Derived.StillTailTactics
set_option maxRecDepth 100000
set_option maxHeartbeats 6400000
namespace Go.Proofs.YtlkfakdghjaoaaaGreatDoor
open Go.RowKit Go.Sort
attribute [local go_sem] Oper.semAt_some
abbrev Gk (x : Nat × It × Value) : Array Value := #[.int .i64 x.1, x.2.2]
def CX (w : World) (P : Nat → Prop) (E : List (Nat × It)) (xs : List (Nat × It × Value)) : Prop := xs.map (fun x => (x.1, x.2.1)) <+: E ∧ ∀ x ∈ xs, ItemAt w P x.2.1 x.2.2
def zg (w : World) (P : Nat → Prop) (E : List (Nat × It)) (xs : List (Nat × It × Value)) : Prop := xs.map (fun x => (x.1, x.2.1)) = E ∧ ∀ x ∈ xs, ItemAt w P x.2.1 x.2.2
abbrev Gl (n : Nat) (w : World) (P : Nat → Prop) (w1 : World) (E : List (Nat × It)) (CB FB : Nat) : Prop :=
 qu Fence.wide n Tryz.prog 100 #[.pointer (some ⟨CB, 0, none⟩), .pointer (some ⟨FB, 0, none⟩)] Gk (fun b => P b ∨ b = CB ∨ b = FB) (fun pre x => CX w P E (pre ++ [x])) (fun xs => zg w P E xs) w1
theorem uQ {m m' l f : Nat} {P : Program} {tmps : Array Value} {assign body : Code} {w : World} {R : Ending → World → Prop} (h : RoundIn Fence.wide m P l f tmps assign body w R) : RoundIn Fence.wide m' P l f tmps assign body w R :=
 ⟨h.1, fun c cs _ => h.2 c cs (room_wide _)⟩
theorem zh {m m' l f k : Nat} {P : Program} {tmps : Array Value} {assign body : Code} {w : World} {R : Ending → World → Prop} (h : RoundIn Fence.wide m P l f tmps assign body w R) : RoundIn (Fence.wide.inRound k) m' P l f tmps assign body w R :=
 ⟨h.1, fun c cs _ => h.2 c cs (room_wide _)⟩
theorem oX {α : Type} {n m : Nat} {P : Program} {g : Nat} {lb : Array Value} {encs : α → Array Value} {R : Nat → Prop} {Nx : List α → α → Prop} {S : List α → Prop} {w : World} (h : qu Fence.wide n P g lb encs R Nx S w) : qu Fence.wide m P g lb encs R Nx S w := by
 intro l J W hW hJ hY h0
 refine callsIn_wide.2 (callsIn_wide.1 (h l J W hW hJ (fun O pre x A hj hn => ?_) h0))
 obtain ⟨fn, tmps, assign, body, hy, hr⟩ := hY O pre x A hj hn
 exact ⟨fn, tmps, assign, body, hy, uQ hr⟩
structure EvInv (W : World) (R : Nat → Prop) (YB ln : Nat) (J : (Nat → Prop) → List (Nat × It × Value) → World → Prop) (O : Nat → Prop) (pre : List (Nat × It × Value)) (ds : List Nat) (wr : World) : Prop where
 j : J O pre wr
 yo : O YB
 yb : Blk wr YB 145 #[.func (.yield ln) #[] #[]]
 keep : ∀ b, R b → wr.heap[b]? = W.heap[b]?
 size : W.heap.size ≤ wr.heap.size
 own : ∀ b, O b → W.heap.size ≤ b ∧ b < wr.heap.size
 marks : ∀ D ∈ ds, O D ∧ wr.heap[D]? = some (.deferred (some []))
 nodup : ds.Nodup
theorem EvInv.below {W : World} {R : Nat → Prop} {YB ln : Nat} {J : (Nat → Prop) → List (Nat × It × Value) → World → Prop} {O : Nat → Prop} {pre : List (Nat × It × Value)} {ds : List Nat} {wr w2 : World} (h : EvInv W R YB ln J O pre ds wr)
  (hJ : ∀ O pre A B, J O pre A → Turns O A B → J (more O A B) pre B) (hR : ∀ b, R b → b < W.heap.size) (hb : Below wr.heap.size wr w2) : EvInv W R YB ln J (more O wr w2) pre ds w2 where
 j := hJ O pre wr w2 h.j (Turns.of_below hb)
 yo := .inl h.yo
 yb := (hb.block YB h.yb.lt).trans h.yb
 keep := fun b hb' => (hb.block b (by have := hR b hb'; have := h.size; omega)).trans (h.keep b hb')
 size := Nat.le_trans h.size hb.size
 own := fun b hb' => by
  rcases hb' with hb' | hb'
  ·have := h.own b hb'; have := hb.size; omega
  ·have := h.size; omega
 marks := fun D hD => ⟨.inl (h.marks D hD).1, (hb.block D (h.own D (h.marks D hD).1).2).trans (h.marks D hD).2⟩
 nodup := h.nodup
theorem EvInv.round {W : World} {R : Nat → Prop} {YB ln : Nat} {J : (Nat → Prop) → List (Nat × It × Value) → World → Prop} {O : Nat → Prop} {pre pre' : List (Nat × It × Value)} {ds : List Nat} {wr w2 : World} (h : EvInv W R YB ln J O pre ds wr)
  (hR : ∀ b, R b → b < W.heap.size) (hj : J O pre' w2) (hk : Keeps (fun b => R b ∨ O b) wr w2) : EvInv W R YB ln J O pre' ds w2 where
 j := hj
 yo := h.yo
 yb := (hk.2 YB h.yb.lt (.inr h.yo)).trans h.yb
 keep := fun b hb' => (hk.2 b (by have := hR b hb'; have := h.size; omega) (.inl hb')).trans (h.keep b hb')
 size := Nat.le_trans h.size hk.1
 own := fun b hb' => by have := h.own b hb'; have := hk.1; omega
 marks := fun D hD => ⟨(h.marks D hD).1, (hk.2 D (h.own D (h.marks D hD).1).2 (.inr (h.marks D hD).1)).trans (h.marks D hD).2⟩
 nodup := h.nodup
def AK (ds : List Nat) : List Deferred := ds.map fun D => { target := .collected D, args := #[] }
theorem CY (D : Nat) (ds : List Nat) : AK (D :: ds) = { target := .collected D, args := #[] } :: AK ds := rfl
theorem ny {F : Fence} {n : Nat} {P : Program} {fn : Func} {tmps : Array Value} {R : Ending → World → Prop} : ∀ (ds : List Nat) (w : World), (∀ D ∈ ds, w.heap[D]? = some (.deferred (some []))) → ds.Nodup →
  (∀ w2, Turns (fun b => b ∈ ds) w w2 → LeavesInM F n P fn tmps R [] .returning w2) → LeavesInM F n P fn tmps R (AK ds) .returning w
 | [], w, _, _, h => h w (Turns.refl _ _)
 | D :: ds, w, hm, hnd, h => by
  refine ⟨by simp, .inl ⟨_, _, rfl, run_takeDeferred (hm D (by simp)), ?_⟩⟩
  have hnd' := List.nodup_cons.1 hnd
  refine ny ds _ (fun E hE => ?_) hnd'.2 fun w2 hT => h w2 ?_
  ·exact (World.putObj_heap_other (by intro e; subst e; exact hnd'.1 hE)).trans (hm E (List.mem_cons_of_mem _ hE))
  ·have h1 : Turns (fun b => b ∈ D :: ds) w (w.putObj D (.deferred none)) := Turns.putObj (by simp) _
   refine h1.trans (hT.wider fun b hb => .inl (List.mem_cons_of_mem _ hb))
theorem zi {l : List It} {k j : Nat} (h : j < l.length) : bI (l.take j) k ++ [(k, l[j])] <+: bI l k := by
 have e : l = l.take j ++ l[j] :: l.drop (j + 1) := by rw [List.getElem_cons_drop]; simp
 conv => rhs; rw [e]
 rw [gy, bI, su]
 exact ⟨da (aM l[j]) (if nf l[j] = true then k + 1 else k) ++ bI (l.drop (j + 1)) k, by simp⟩
theorem uR {l : List It} {k j : Nat} (h : j < l.length) : bI (l.take (j + 1)) k = bI (l.take j) k ++ (k, l[j]) :: da (aM l[j]) (if nf l[j] then k + 1 else k) := by
 rw [List.take_succ_eq_append_getElem h, gy, bI, bI, List.append_nil, su]
theorem rP {l : List It} {k j m : Nat} (h : j < l.length) (hm : m < (aM l[j]).length) : bI (l.take j) k ++ (k, l[j]) :: (da ((aM l[j]).take m) (if nf l[j] then k + 1 else k) ++ bI (aM l[j])[m] (if nf l[j] then k + 1 else k)) <+: bI l k := by
 have e : l = l.take (j + 1) ++ l.drop (j + 1) := by simp
 conv => rhs; rw [e]
 rw [gy, uR h]
 have e2 : aM l[j] = (aM l[j]).take m ++ (aM l[j])[m] :: (aM l[j]).drop (m + 1) := by rw [List.getElem_cons_drop]; simp
 obtain ⟨bs, hbs⟩ : ∃ bs, bs = aM l[j] := ⟨_, rfl⟩
 generalize (if nf l[j] = true then k + 1 else k) = k'
 refine ⟨da ((aM l[j]).drop (m + 1)) k' ++ bI (l.drop (j + 1)) k, ?_⟩
 conv => rhs; lhs; rhs; rhs; rw [e2]
 rw [iw, da]
 simp
theorem CZ {bs : List (List It)} {k m : Nat} (h : m < bs.length) : da (bs.take (m + 1)) k = da (bs.take m) k ++ bI bs[m] k := by
 rw [List.take_succ_eq_append_getElem h, iw, sr]
theorem EvInv.turns {W : World} {R : Nat → Prop} {YB ln : Nat} {J : (Nat → Prop) → List (Nat × It × Value) → World → Prop} {O Ot : Nat → Prop} {pre : List (Nat × It × Value)} {ds : List Nat} {wr w2 : World} (h : EvInv W R YB ln J O pre ds wr)
  (hJ : ∀ O pre A B, J O pre A → Turns O A B → J (more O A B) pre B) (hR : ∀ b, R b → b < W.heap.size) (hT : Turns Ot wr w2) (hs : ∀ b, Ot b → O b) (hy : ¬ Ot YB) (hd : ∀ D ∈ ds, ¬ Ot D) (hr : ∀ b, R b → ¬ Ot b) : EvInv W R YB ln J (more O wr w2) pre ds w2 where
 j := hJ O pre wr w2 h.j (hT.wider hs)
 yo := .inl h.yo
 yb := (hT.block YB h.yb.lt hy).trans h.yb
 keep := fun b hb' => (hT.block b (by have := hR b hb'; have := h.size; omega) (hr b hb')).trans (h.keep b hb')
 size := Nat.le_trans h.size hT.size
 own := fun b hb' => by
  rcases hb' with hb' | hb'
  ·have := h.own b hb'; have := hT.size; omega
  ·have := h.size; omega
 marks := fun D hD => ⟨.inl (h.marks D hD).1, (hT.block D (h.own D (h.marks D hD).1).2 (hd D hD)).trans (h.marks D hD).2⟩
 nodup := h.nodup
theorem m8 (A : Option Addr) (n c : Nat) (k : Nat) (w : World) : Calls Tryz.prog 56 #[.slice A n c, .int .i64 k] w fun e w' =>
  e = .returned (.func (.func 100) #[] #[.pointer (some ⟨w.heap.size, 0, none⟩), .pointer (some ⟨w.heap.size + 1, 0, none⟩)]) ∧ w' = (w.alloc (.cells #[.slice A n c] 69)).alloc (.cells #[.int .i64 k] 3) := by
 have hmf : ∀ (fn : Fn) (first cap : Array Value) (w : World), (Instr.makeFunc fn first cap).run Tryz.prog w = .ok (.func fn first cap) w := fun _ _ _ _ => rfl
 go_enter Tryz.func56, Tryz.ntmps56
 go_wp2_with fail
 go_ret
 exact ⟨rfl, rfl⟩
theorem rQ (w : World) (P : Nat → Prop) (hP : ∀ b, P b → b < w.heap.size) : ∀ (N : Nat) (l : List It) (k : Nat) (w1 : World) (CB FB : Nat) (v : Value), N ≤ 1000 → (aH l).length < N → az l k → k ≤ 9 → RowAt w P l v → Av P w w1 → Blk w1 CB 69 #[v] → Blk w1 FB 3 #[.int .i64 k] →
  Gl 3 w P w1 (bI l k) CB FB := by
 intro N
 induction N with
 | zero => intro l k w1 CB FB v _ hN; omega
 | succ N IH =>
  intro l k w1 CB FB v hN1 hN hok hk hrow hsame hC hF ln J W hW hJ hY h0
  obtain ⟨xs, ⟨A, cap, rfl, hcells⟩, hall⟩ := hrow
  have hlen := hall.len
  have HLEN := GR hlen
  have hl1000 : xs.length ≤ 1000 := by have := jK l; omega
  have HCL := GR hcells
  have HALL := GR hall
  have HOK := GR hok
  have HN := GR hN
  have hCl : CB < W.heap.size := Nat.lt_of_lt_of_le hC.lt hW.size
  have hFl : FB < W.heap.size := Nat.lt_of_lt_of_le hF.lt hW.size
  have HC := GR (hC.below hW hC.lt)
  have HF := GR (hF.below hW hF.lt)
  have HSW : Hid (∀ b, P b → W.heap[b]? = w.heap[b]?) := fun b hb => (hW.block b (by have := hP b hb; have := hsame.1; omega)).trans (hsame.2 b (hP b hb) hb)
  have HRL : Hid (∀ b, (P b ∨ b = CB ∨ b = FB) → b < W.heap.size) := fun b hb => by
   rcases hb with hb | rfl | rfl
   ·have := hP b hb; have := hsame.1; have := hW.size; omega
   ·exact hCl
   ·exact hFl
  have HPL := GR hP
  have hwW : w.heap.size ≤ W.heap.size := Nat.le_trans hsame.1 hW.size
  have c1 := HC.out.cell 0
  have HY := GR hY
  have HJ := GR hJ
  have HIH := GR IH
  have HJ0 := GR h0
  clear hlen hcells hall hok hN hC hF hsame hW hJ hY IH h0 hP
  refine callsIn_of_wp_marks Tryz.func100 rfl trivial ?_ rfl
  simp only [Tryz.ntmps100, List.size_toArray, List.length_cons, List.length_nil, Nat.reduceAdd, Nat.reduceSub, Array.replicate_succ, Array.replicate_zero, List.push_toArray, List.append_toArray, List.nil_append, List.cons_append]
  refine wpIn_mono (Q := rR _) ?_ lE
  gi_wp2_with fail
  have HI0 : Hid (EvInv W (fun b => P b ∨ b = CB ∨ b = FB) W.heap.size ln J (more (fun _ => False) W (W.alloc (.cells #[.func (.yield ln) #[] #[]] 145))) [] [] (W.alloc (.cells #[.func (.yield ln) #[] #[]] 145))) := by
   refine ⟨HJ.out _ _ _ _ HJ0.out (Turns.alloc _ _ _), .inr ⟨Nat.le_refl _, by simp⟩, Blk.new W _ _, fun b hb => Below.heap_alloc W _ b (HRL.out b hb), by simp, fun b hb => ?_, (fun D hD => by cases hD), List.nodup_nil⟩
   rcases hb with hb | hb
   ·exact hb.elim
   ·exact hb
  clear HJ0 c1
  refine wpIn_loop_ghost_k (fun gk a wr => ∃ u4 u5 u6 u7 u8 u9 u10 u11 u12 u16 u17 u18 u19 u20 u21 u22 u23 u24 u25 u26 u27 u28 u29 u30 u31 u32 u33 u34 u35 u36 u37 u38 u39 u40 u41 u42 u43 u44 u45 u46 u47 u48 u49 u50 u51 O pre j ds, a = { tmps := #[.func (.yield ln) #[] #[], .pointer (some ⟨CB, 0, none⟩), .pointer (some ⟨FB, 0, none⟩), .pointer (some ⟨W.heap.size, 0, none⟩), u4, u5, u6, u7, u8, u9, u10, u11, u12, .slice A xs.length cap, .int .i64 xs.length, .int .i64 (j : Nat), u16, u17, u18, u19, u20, u21, u22, u23, u24, u25, u26, u27, u28, u29, u30, u31, u32, u33, u34, u35, u36, u37, u38, u39, u40, u41, u42, u43, u44, u45, u46, u47, u48, u49, u50, u51], defers := AK ds } ∧ gk = l.length - j ∧ j ≤ l.length ∧ Hid (zg w P (bI (l.take j) k) pre) ∧ Hid (EvInv W (fun b => P b ∨ b = CB ∨ b = FB) W.heap.size ln J O pre ds wr)) l.length ?_ ?_
  ·refine ⟨_, _, _, _, _, _, _, _, _, _, _, _, _, _, _, _, _, _, _, _, _, _, _, _, _, _, _, _, _, _, _, _, _, _, _, _, _, _, _, _, _, _, _, _, _, _, [], 0, [], rfl, by simp, Nat.zero_le _, ⟨by rw [List.take_zero, bI]; rfl, fun x hx => by cases hx⟩, HI0.out⟩
  ·rintro gk a wr ⟨u4, u5, u6, u7, u8, u9, u10, u11, u12, u16, u17, u18, u19, u20, u21, u22, u23, u24, u25, u26, u27, u28, u29, u30, u31, u32, u33, u34, u35, u36, u37, u38, u39, u40, u41, u42, u43, u44, u45, u46, u47, u48, u49, u50, u51, O, pre, j, ds, rfl, rfl, hj, HEV, HINV⟩ J' K hJ' hK
   by_cases hjl : j < l.length
   ·obtain ⟨vj, hvj, hit⟩ := HALL.out.at_ j hjl
    obtain ⟨T, x, F, b0, bA, bn, bk, hd⟩ := CL hit
    obtain rfl := hd.val
    have hxl : j < xs.length := by have := HLEN.out; omega
    obtain ⟨b, off, rfl, hbl, hPb, hcell⟩ := HCL.out (by omega)
    have x0 : wr.cell? ⟨b, off + j, none⟩ = some (.iface T x) := by
     rw [dG ((HINV.out.keep b (.inl hPb)).trans (HSW.out b hPb)) (off + j), hcell j hxl, ← List.getElem?_eq_getElem hxl]; exact hvj
    have cY : wr.cell? ⟨W.heap.size, 0, none⟩ = some (.func (.yield ln) #[] #[]) := HINV.out.yb.cell 0
    have c2 : wr.cell? ⟨FB, 0, none⟩ = some (.int .i64 k) := by
     rw [dG (HINV.out.keep FB (.inr (.inr rfl))) 0]; exact HF.out.cell 0
    have hnx : CX w P (bI l k) (pre ++ [(k, l[j], .iface T x)]) := by
     refine ⟨?_, fun y hy => ?_⟩
     ·rw [List.map_append, HEV.out.1]; exact zi hjl
     ·rcases List.mem_append.1 hy with hy | hy
      ·exact HEV.out.2 y hy
      ·rw [List.mem_singleton.1 hy]; exact hit
    obtain ⟨fn, tmps, assign, body, hy, hRd⟩ := HY.out O pre (k, l[j], .iface T x) wr HINV.out.j hnx
    have hy' : (Instr.yield ln #[.int .i64 k, .iface T x]).run Tryz.prog wr = .ok (.round ln fn tmps assign body) wr := hy
    have HNX := GR hnx
    have HIT := GR hit
    have HD := GR hd
    have q1 : decide ((j : Int) < (xs.length : Int)) = true := decide_eq_true (by omega)
    clear hy hnx hcell hit hd hvj
    gi_wp2_with fail
    refine hRd.mono ?_
    rintro e W3 ⟨rfl, hJ3, hk3⟩
    have HINV3 := GR (HINV.out.round HRL.out hJ3 hk3)
    have c2 : W3.cell? ⟨FB, 0, none⟩ = some (.int .i64 k) := by
     rw [dG (HINV3.out.keep FB (.inr (.inr rfl))) 0]; exact HF.out.cell 0
    have ha := HD.out.asrt
    have hlk := HD.out.look
    have hen := HD.out.enter
    have hwr := HINV3.out.size
    clear hJ3 hk3 hy' x0 cY
    have HINV4 := GR (HINV3.out.below HJ.out HRL.out ((Below.refl _ W3).alloc (Nat.le_refl _) (.cells #[.bool b0, .slice bA bn bk] 147)))
    have HW := GR (HD.out.goes w P (W3.alloc (.cells #[.bool b0, .slice bA bn bk] 147)) HIT.out ⟨by simp; omega, fun b hb hp => (HINV4.out.keep b (.inl hp)).trans (HSW.out b hp)⟩)
    obtain ⟨k', hk'⟩ : ∃ k', k' = (if nf l[j] = true then k + 1 else k) := ⟨_, rfl⟩
    have HK' := GR hk'
    have hk9 : k' ≤ 9 := by
     rw [hk']
     split
     ·have := CH (sw HOK.out l[j] (List.getElem_mem hjl)) (by assumption); omega
     ·exact hk
    have s1 : IntKind.i64.wrap ((k : Int) + 1) = (k : Int) + 1 := IntWalk.i64_in _ (by omega)
    have HE6 : Hid (Value.int .i64 ((k' : Nat) : Int) = (if nf l[j] = true then Value.int .i64 ((k : Int) + 1) else Value.int .i64 (k : Int))) := by
     show _ = _
     rw [hk']
     split <;> simp
    clear hk'
    obtain ⟨W4, hW4⟩ : ∃ W4, W4 = W3.alloc (.cells #[.bool b0, .slice bA bn bk] 147) := ⟨_, rfl⟩
    rw [← hW4] at HINV4 HW
    have HW4 := GR hW4
    clear hW4
    cases hfr : nf l[j]
    any_goals
     rw [hfr] at ha HE6
     gi_wp2_with fail
     rw [← HW4.out]
     refine ⟨trivial, (callsIn_wide.2 HW.out).mono ?_⟩
     rintro e W5 ⟨A2, k2, vs2, rfl, hr2, hrows, hb5⟩
     have HINV5 := GR (HINV4.out.below HJ.out HRL.out hb5)
     have HR2 := GR hr2
     have HROWS := GR hrows
     have HVL := GR hrows.len
     have hv1000 : vs2.length ≤ 1000 := by have := hrows.len; have := rK l[j]; have := jT (List.getElem_mem hjl); have := HN.out; omega
     clear hr2 hrows hb5 ha hlk hen c2
     gi_wp2_with fail
     refine wpIn_loop_ghost_k (fun gk a wr => ∃ u4 u5 u7 u8 u9 u10 u11 u12 u16 u17 u18 u19 u20 u21 u22 u23 u24 u25 u26 u27 u28 u29 u30 u31 u32 u33 u37 u38 u39 u40 u41 u42 u43 u44 u45 u46 u47 u48 u49 u50 u51 O2 pre2 m ds2, a = { tmps := #[.func (.yield ln) #[] #[], .pointer (some ⟨CB, 0, none⟩), .pointer (some ⟨FB, 0, none⟩), .pointer (some ⟨W.heap.size, 0, none⟩), u4, u5, .int .i64 (k' : Nat), u7, u8, u9, u10, u11, u12, .slice (some ⟨b, off, none⟩) xs.length cap, .int .i64 xs.length, .int .i64 (j : Nat), u16, u17, u18, u19, u20, u21, u22, u23, u24, u25, u26, u27, u28, u29, u30, u31, u32, u33, .slice A2 vs2.length k2, .int .i64 vs2.length, .int .i64 (m : Nat), u37, u38, u39, u40, u41, u42, u43, u44, u45, u46, u47, u48, u49, u50, u51], defers := AK ds2 } ∧ gk = vs2.length - m ∧ m ≤ vs2.length ∧ Hid (zg w P (bI (l.take j) k ++ (k, l[j]) :: da ((aM l[j]).take m) k') pre2) ∧ Hid (EvInv W (fun b => P b ∨ b = CB ∨ b = FB) W.heap.size ln J O2 pre2 ds2 wr) ∧ Hid (∀ b, W4.heap.size ≤ b → b < W5.heap.size → O2 b ∧ wr.heap[b]? = W5.heap[b]?)) vs2.length ?_ ?_
     ·refine ⟨_, _, _, _, _, _, _, _, _, _, _, _, _, _, _, _, _, _, _, _, _, _, _, _, _, _, _, _, _, _, _, _, _, _, _, _, _, _, _, _, _, more (more O W3 W4) W4 W5, pre ++ [(k, l[j], Value.iface T x)], 0, ds, by rw [HE6.out]; rfl, by simp, Nat.zero_le _, ⟨?_, HNX.out.2⟩, HINV5.out, fun b h1 h2 => ⟨.inr ⟨h1, h2⟩, rfl⟩⟩
      rw [List.map_append, HEV.out.1, List.take_zero, da]; rfl
     ·rintro gk a wr2 ⟨u4, u5, u7, u8, u9, u10, u11, u12, u16, u17, u18, u19, u20, u21, u22, u23, u24, u25, u26, u27, u28, u29, u30, u31, u32, u33, u37, u38, u39, u40, u41, u42, u43, u44, u45, u46, u47, u48, u49, u50, u51, O2, pre2, m, ds2, rfl, rfl, hm, HEV2, HINV2, HB2⟩ J2 K2 hJ2 hK2
      by_cases hml : m < vs2.length
      ·have hmb : m < (aM l[j]).length := by have := HVL.out; omega
       obtain ⟨vm, hvm, hrowm⟩ := HROWS.out.at_ m hmb
       obtain ⟨A6, k6, m6, rfl, hrowm⟩ := eA hrowm
       obtain ⟨A2', cap2', e2, hc2⟩ := HR2.out
       obtain ⟨b2, off2, e3, hb2l, hb2p, hcell2⟩ := hc2 (by omega)
       injection e2 with e2 _ e4
       subst e2 e3 e4
       have hb2w : wr2.heap[b2]? = W5.heap[b2]? := by
        rcases hb2p with hp | hp
        ·exact (HINV2.out.keep b2 (.inl hp)).trans (HINV5.out.keep b2 (.inl hp)).symm
        ·exact (HB2.out b2 hp hb2l).2
       have x0 : wr2.cell? ⟨b2, off2 + m, none⟩ = some (.slice A6 m6 k6) := by
        rw [dG hb2w (off2 + m), hcell2 m hml, ← List.getElem?_eq_getElem hml]; exact hvm
       have HROWM := GR hrowm
       have q1 : decide ((m : Int) < (vs2.length : Int)) = true := decide_eq_true (by omega)
       clear hvm hrowm hc2 hcell2 hb2w
       gi_wp2_with fail
       refine ⟨trivial, (callsIn_wide.2 (m8 A6 m6 k6 k' wr2)).mono ?_⟩
       rintro e W6 ⟨rfl, hW6⟩
       have hb6 : Below wr2.heap.size wr2 W6 := by rw [hW6]; exact ((Below.refl _ _).alloc (Nat.le_refl _) _).alloc (by simp) _
       have hB1 : Blk W6 wr2.heap.size 69 #[.slice A6 m6 k6] := by rw [hW6]; exact (Blk.new wr2 _ _).alloc _
       have hB2 : Blk W6 (wr2.heap.size + 1) 3 #[.int .i64 k'] := by
        have := Blk.new (wr2.alloc (.cells #[.slice A6 m6 k6] 69)) 3 #[.int .i64 k']
        rw [World.size_alloc] at this
        rw [hW6]; exact this
       have hs6 : W6.heap.size = wr2.heap.size + 2 := by rw [hW6]; simp
       have HINV6 := GR (HINV2.out.below HJ.out HRL.out hb6)
       have hwr2 := HINV2.out.size
       have HSEQ := GR (oX (m := 2) (HIH.out (aM l[j])[m] k' W6 wr2.heap.size (wr2.heap.size + 1) (.slice A6 m6 k6) (by omega) (by
        have h1 := lz (List.getElem_mem hmb)
        have h2 := jT (List.getElem_mem hjl)
        have h3 := HN.out
        omega) (by
        have := Fp (sw HOK.out l[j] (List.getElem_mem hjl)) _ (List.getElem_mem hmb)
        rw [← HK'.out] at this; exact this) hk9 HROWM.out ⟨by omega, fun b hb hp => (HINV6.out.keep b (.inl hp)).trans (HSW.out b hp)⟩ hB1 hB2))
       have HB6 := GR hb6
       have hy6 : W.heap.size < wr2.heap.size := HINV2.out.yb.lt
       clear hW6 hb6 hB1 hB2 x0
       gi_wp2_with fail
       refine i8 rfl (by decide) (gf := 100) (lb := #[.pointer (some ⟨wr2.heap.size, 0, none⟩), .pointer (some ⟨wr2.heap.size + 1, 0, none⟩)]) rfl trivial (enters_of Tryz.func100 (by kernel_rfl) rfl) HSEQ.out (Below.refl _ _) (fun _ => rfl) (fun b hb => ?_)
        (fun Oin pre3 Wt => ∃ Oo, (∀ b, Oin b → Oo b) ∧ (∀ b, more O2 wr2 W6 b → Oo b) ∧ Hid (EvInv W (fun b => P b ∨ b = CB ∨ b = FB) W.heap.size ln J Oo (pre2 ++ pre3) ds2 Wt) ∧ Hid (∀ b, b < W6.heap.size → more O2 wr2 W6 b → Wt.heap[b]? = W6.heap[b]?))
        ?_ ?_ (fun x3 : Nat × It × Value => { tmps := #[.func (.yield ln) #[] #[], .pointer (some ⟨CB, 0, none⟩), .pointer (some ⟨FB, 0, none⟩), .pointer (some ⟨W.heap.size, 0, none⟩), u4, u5, .int .i64 (k' : Nat), u7, u8, u9, .slice A6 m6 k6, .int .i64 x3.1, x3.2.2, .slice (some ⟨b, off, none⟩) xs.length cap, .int .i64 xs.length, .int .i64 (j : Nat), u16, u17, u18, u19, u20, u21, u22, u23, u24, u25, u26, u27, u28, u29, u30, u31, u32, u33, .slice (some ⟨b2, off2, none⟩) vs2.length k2, .int .i64 vs2.length, .int .i64 (m : Nat), .bool true, .pointer (some ⟨b2, off2 + m, none⟩), .slice A6 m6 k6, .slice A6 m6 k6, .int .i64 (k' : Nat), .func (.func 100) #[] #[.pointer (some ⟨wr2.heap.size, 0, none⟩), .pointer (some ⟨wr2.heap.size + 1, 0, none⟩)], .int .i64 x3.1, x3.2.2, u45, u46, u47, u48, u49, u50, u51], defers := [] }) ?_ ?_ ?_
       ·rcases hb with hb | hb | hb
        ·have := HPL.out b hb; omega
        ·omega
        ·omega
       ·rintro Ot pre3 X Y hle hO ⟨Oo, h1, h2, h3, h4⟩ hT
        refine ⟨more Oo X Y, ?_, fun b hb => .inl (h2 b hb), h3.out.turns HJ.out HRL.out hT h1 ?_ ?_ ?_, ?_⟩
        ·rintro b (hb | hb)
         ·exact .inl (h1 b hb)
         ·exact .inr hb
        ·intro hb; have := hO _ hb; omega
        ·intro D hD hb
         have := hO _ hb
         have := HINV2.out.own D (HINV2.out.marks D hD).1
         omega
        ·intro b hb hb'; have := hO _ hb'; have := HRL.out b hb; omega
        ·intro b hb hb'
         exact (hT.block b (by omega) fun e => by have := hO b e; omega).trans (h4.out b hb hb')
       ·exact ⟨_, fun b hb => hb.elim, fun b hb => hb, by rw [List.append_nil]; exact HINV6.out, fun b _ _ => rfl⟩
       ·intro l3 x3 W7 K7 hK7
        gi_wp2
        exact hK7
       ·rintro l3 Oin pre3 x3 Wt hle hO ⟨Oo, h1, h2, h3, h4⟩ hnx3
        obtain ⟨xk, xi, xv⟩ := x3
        have hnx4 : CX w P (bI l k) (pre2 ++ pre3 ++ [(xk, xi, xv)]) := by
         refine ⟨?_, fun y hy => ?_⟩
         ·rw [List.append_assoc, List.map_append, HEV2.out.1]
          obtain ⟨t, ht⟩ := hnx3.1
          have h5 := rP (k := k) hjl hmb
          rw [← HK'.out] at h5
          refine List.IsPrefix.trans ⟨t, ?_⟩ h5
          rw [← ht]; simp
         ·rw [List.append_assoc] at hy
          rcases List.mem_append.1 hy with hy | hy
          ·exact HEV2.out.2 y hy
          ·exact hnx3.2 y hy
        obtain ⟨fn, tmps, assign, body, hy, hRd⟩ := HY.out Oo (pre2 ++ pre3) (xk, xi, xv) Wt h3.out.j hnx4
        have hy' : (Instr.yield ln #[.int .i64 xk, xv]).run Tryz.prog Wt = .ok (.round ln fn tmps assign body) Wt := hy
        have cY : Wt.cell? ⟨W.heap.size, 0, none⟩ = some (.func (.yield ln) #[] #[]) := h3.out.yb.cell 0
        obtain ⟨T7, x7, rfl⟩ := (hnx3.2 (xk, xi, xv) (by simp)).iface
        clear hy hnx4
        gi_wp2_with fail
        refine (zh hRd).mono ?_
        rintro e W7 ⟨rfl, hJ7, hk7⟩
        have H7 := GR (h3.out.round HRL.out hJ7 hk7)
        have HK7 : Hid (Keeps (fun b => (P b ∨ b = CB ∨ b = FB) ∨ Oo b) Wt W7) := hk7
        clear hJ7 hk7 hy' cY
        gi_wp2_with fail
        refine ⟨HK7.out.fewer fun b hb => ?_, Oo, h1, h2, ?_, fun b hb hb' => (HK7.out.2 b (by omega) (.inr (h2 b hb'))).trans (h4.out b hb hb')⟩
        ·rcases hb with (hb | hb | hb) | hb
         ·exact .inl (.inl hb)
         ·exact .inr (h2 b (.inr ⟨by omega, by omega⟩))
         ·exact .inr (h2 b (.inr ⟨by omega, by omega⟩))
         ·exact .inr (h1 b hb)
        ·rw [← List.append_assoc]; exact H7.out
       ·rintro D Oin xs3 Wt hD hO hS ⟨Oo, h1, h2, h3, h4⟩ hOD hKD
        have s2 : IntKind.i64.wrap ((m : Int) + 1) = (m : Int) + 1 := IntWalk.i64_in _ (by omega)
        have hm2 : (m : Int) + 1 ≤ 1001 := by omega
        have hm3 : (0 : Int) ≤ (m : Int) + 1 := by omega
        have HDD := GR hD
        have HKD := GR hKD
        have HSS := GR hS
        clear hD hKD hS
        gi_wp2_with fail
        refine Handed.intro (vs2.length - (m + 1)) (by omega) (hJ2 _ _ _ ?_)
        have hsz5 : ∀ b, W4.heap.size ≤ b → b < W5.heap.size → b < wr2.heap.size := fun b hb1 hb2 => (HINV2.out.own b (HB2.out b hb1 hb2).1).2
        refine ⟨_, _, _, _, _, _, _, _, _, _, _, _, _, _, _, _, _, _, _, _, _, _, _, _, _, _, _, _, _, _, _, _, _, _, _, _, _, _, _, _, _, Oo, pre2 ++ xs3, m + 1, D :: ds2, by rw [CY]; rfl, rfl, by omega, ?_, ?_, fun b hb1 hb2 => ⟨h2 b (.inl (HB2.out b hb1 hb2).1), ?_⟩⟩
        ·refine ⟨?_, fun y hy => ?_⟩
         ·rw [List.map_append, HEV2.out.1, HSS.out.1, CZ hmb]; simp
         ·rcases List.mem_append.1 hy with hy | hy
          ·exact HEV2.out.2 y hy
          ·exact HSS.out.2 y hy
        ·have h5 := h3.out
         refine ⟨h5.j, h5.yo, h5.yb, h5.keep, h5.size, h5.own, fun E hE => ?_, List.nodup_cons.2 ⟨fun hE => ?_, h5.nodup⟩⟩
         ·rcases List.mem_cons.1 hE with rfl | hE
          ·exact ⟨h1 E hOD, HKD.out⟩
          ·exact h5.marks E hE
         ·have := HINV2.out.own D (HINV2.out.marks D hE).1
          have := HDD.out
          omega
        ·have h6 := hsz5 b hb1 hb2
         exact ((h4.out b (by omega) (.inl (HB2.out b hb1 hb2).1)).trans (HB6.out.block b h6)).trans (HB2.out b hb1 hb2).2
      ·have q1 : decide ((m : Int) < (vs2.length : Int)) = false := decide_eq_false (by omega)
       have q2 : ¬ m < vs2.length := hml
       have s3 : IntKind.i64.wrap ((j : Int) + 1) = (j : Int) + 1 := IntWalk.i64_in _ (by omega)
       have hj2 : (j : Int) + 1 ≤ 1001 := by omega
       have hj3 : (0 : Int) ≤ (j : Int) + 1 := by omega
       gi_wp2_with fail
       refine Handed.intro (l.length - (j + 1)) (by omega) (hJ' _ _ _ ?_)
       refine ⟨_, _, _, _, _, _, _, _, _, _, _, _, _, _, _, _, _, _, _, _, _, _, _, _, _, _, _, _, _, _, _, _, _, _, _, _, _, _, _, _, _, _, _, _, _, O2, pre2, j + 1, ds2, rfl, rfl, by omega, ⟨?_, HEV2.out.2⟩, HINV2.out⟩
       rw [HEV2.out.1, uR hjl, ← HK'.out, List.take_of_length_le (l := aM l[j]) (i := m) (by have := HVL.out; omega)]
   ·have q1 : decide ((j : Int) < (xs.length : Int)) = false := decide_eq_false (by have := HLEN.out; omega)
    have q2 : ¬ j < xs.length := by have := HLEN.out; omega
    gi_wp2_with fail
    refine ny ds wr (fun D hD => (HINV.out.marks D hD).2) HINV.out.nodup fun w2 hT => ?_
    have hjl2 : j = l.length := by omega
    refine ⟨_, results_none rfl _ _ _, ⟨_, rfl⟩, pre, ?_, more O wr w2, HJ.out O pre wr w2 HINV.out.j (hT.wider fun b hb => (HINV.out.marks b hb).1)⟩
    have h5 := HEV.out
    rw [hjl2, List.take_length] at h5
    exact h5
end Go.Proofs.YtlkfakdghjaoaaaGreatDoor

set_option maxRecDepth 100000
namespace Go.Proofs.YtlkfakdghjaoaaaGreatDoor
open Go.RowKit Go.Sort
attribute [local go_sem] Oper.semAt_some
abbrev js (R : Nat) : Nat → Prop := fun b => b ≠ R
theorem gQ {R : Nat} {w w' : World} (h : Only R w w') : Stay w (js R) w' (js R) := ⟨h.size, fun b hb hr => ⟨hr, h.block b hr hb⟩⟩
abbrev yF (R : Nat) (l : List It) (v : Value) (s : RSt) (w : World) : Prop :=
 Calls Tryz.prog 168 #[.pointer (some ⟨R, 0, none⟩), v] w fun e w' => ∃ o, Runs (.l l) s o ∧ uG R w o e w'
abbrev gX (R : Nat) (i : It) (v : Value) (s : RSt) (w : World) : Prop :=
 Calls Tryz.prog 199 #[.pointer (some ⟨R, 0, none⟩), v] w fun e w' => ∃ o, Runs (.i i) s o ∧ uG R w o e w'
abbrev mJ (R N : Nat) : Prop := ∀ (l : List It) (v : Value) (f : Nat) (s : RSt) (w : World), s.ok → s.room < N → (aH l).length ≤ 1048576 → RowAt w (js R) l v → az l f → Trn w R s → yF R l v s w
theorem FM (R : Nat) (c : UInt8) (s : RSt) (w : World) (hs : s.ok) (hT : Trn w R s) : gX R (.blk c) (.iface 152 (.agg #[.string (tb [c])])) s w := by
 have a0 : ∀ w, (Instr.typeAssert (.iface 152 (.agg #[.string (tb [c])])) 76 152 true).run Tryz.prog w = .ok (.tuple #[.agg #[.string (tb [c])], .bool true]) w := fun w => by kernel_rfl
 have hT2 : Trn (w.alloc (.cells #[.string (tb [c])] 152)) R s := Blk.alloc hT _
 have HA := GR ((Only.refl R w).alloc (.cells #[.string (tb [c])] 152))
 by_cases hl : s.trace.length = 60
 ·have HB := GR (rh R s c _ hT2 hl)
  have HR := GR (Runs.blkLong (c := c) hl)
  have HT := GR hT2
  clear hT hT2 hl hs
  go_enter Tryz.func199, Tryz.ntmps199
  go_wp2_with fail
  refine HB.out.mono ?_
  rintro e w1 ⟨⟨older, hgo, rfl⟩, rfl⟩
  exact ⟨rfl, _, HR.out, HA.out, ⟨older, hgo, rfl⟩, s, HT.out, rfl, rfl⟩
 ·have HB := GR (tJ R s c _ hT2 (by have := hs.1; omega))
  have HR := GR (Runs.blk (c := c) hl)
  clear hT hT2 hl hs
  go_enter Tryz.func199, Tryz.ntmps199
  go_wp2_with fail
  refine HB.out.mono ?_
  rintro e w1 ⟨rfl, hT, ho⟩
  have HT := GR hT
  have HO := GR ho
  clear hT ho
  go_wp2_with fail
  first | go_end0 | refine bodyPost_ret (results_none rfl _ _ _) rfl ?_
  exact ⟨_, HR.out, HA.out.trans HO.out, rfl, HT.out⟩
theorem EX (R : Nat) (s : RSt) (w : World) (hT : Trn w R s) : gX R .stop (.iface 248 (.agg #[])) s w := by
 have a0 : ∀ w, (Instr.typeAssert (.iface 248 (.agg #[])) 76 152 true).run Tryz.prog w = .ok (.tuple #[.agg #[.string ⟨#[]⟩], .bool false]) w := fun w => by kernel_rfl
 have a1 : ∀ w, (Instr.typeAssert (.iface 248 (.agg #[])) 76 154 true).run Tryz.prog w = .ok (.tuple #[.agg #[.string ⟨#[]⟩, .slice none 0 0, .slice none 0 0], .bool false]) w := fun w => by kernel_rfl
 have a2 : ∀ w, (Instr.typeAssert (.iface 248 (.agg #[])) 76 248 true).run Tryz.prog w = .ok (.tuple #[.agg #[], .bool true]) w := fun w => by kernel_rfl
 have HT := GR (Blk.alloc hT (.cells #[] 248))
 have HA := GR ((Only.refl R w).alloc (.cells #[] 248))
 clear hT
 go_enter Tryz.func199, Tryz.ntmps199
 go_wp2_with fail
 exact ⟨rfl, _, Runs.stop s, HA.out, kp _ _, s, HT.out, rfl, rfl⟩
theorem DJ (R n : Nat) (s : RSt) (w : World) (hT : Trn w R s) : gX R (.leave n) (.iface 218 (.agg #[.int .i64 (n : Nat)])) s w := by
 have a0 : ∀ w, (Instr.typeAssert (.iface 218 (.agg #[.int .i64 (n : Nat)])) 76 152 true).run Tryz.prog w = .ok (.tuple #[.agg #[.string ⟨#[]⟩], .bool false]) w := fun w => by kernel_rfl
 have a1 : ∀ w, (Instr.typeAssert (.iface 218 (.agg #[.int .i64 (n : Nat)])) 76 154 true).run Tryz.prog w = .ok (.tuple #[.agg #[.string ⟨#[]⟩, .slice none 0 0, .slice none 0 0], .bool false]) w := fun w => by kernel_rfl
 have a2 : ∀ w, (Instr.typeAssert (.iface 218 (.agg #[.int .i64 (n : Nat)])) 76 248 true).run Tryz.prog w = .ok (.tuple #[.agg #[], .bool false]) w := fun w => by kernel_rfl
 have a3 : ∀ w, (Instr.typeAssert (.iface 218 (.agg #[.int .i64 (n : Nat)])) 76 147 true).run Tryz.prog w = .ok (.tuple #[.agg #[.bool false, .slice none 0 0], .bool false]) w := fun w => by kernel_rfl
 have a4 : ∀ w, (Instr.typeAssert (.iface 218 (.agg #[.int .i64 (n : Nat)])) 76 218 true).run Tryz.prog w = .ok (.tuple #[.agg #[.int .i64 (n : Nat)], .bool true]) w := fun w => by kernel_rfl
 have HT := GR (Blk.alloc hT (.cells #[.int .i64 (n : Nat)] 218))
 have HA := GR ((Only.refl R w).alloc (.cells #[.int .i64 (n : Nat)] 218))
 clear hT
 go_enter Tryz.func199, Tryz.ntmps199
 go_wp2_with fail
 exact ⟨rfl, _, Runs.leave n s, HA.out, kp _ _, HT.out⟩
theorem FN (R n : Nat) (s : RSt) (w : World) (hT : Trn w R s) : gX R (.set n) (.iface 220 (.agg #[.int .i64 (n : Nat)])) s w := by
 have a0 : ∀ w, (Instr.typeAssert (.iface 220 (.agg #[.int .i64 (n : Nat)])) 76 152 true).run Tryz.prog w = .ok (.tuple #[.agg #[.string ⟨#[]⟩], .bool false]) w := fun w => by kernel_rfl
 have a1 : ∀ w, (Instr.typeAssert (.iface 220 (.agg #[.int .i64 (n : Nat)])) 76 154 true).run Tryz.prog w = .ok (.tuple #[.agg #[.string ⟨#[]⟩, .slice none 0 0, .slice none 0 0], .bool false]) w := fun w => by kernel_rfl
 have a2 : ∀ w, (Instr.typeAssert (.iface 220 (.agg #[.int .i64 (n : Nat)])) 76 248 true).run Tryz.prog w = .ok (.tuple #[.agg #[], .bool false]) w := fun w => by kernel_rfl
 have a3 : ∀ w, (Instr.typeAssert (.iface 220 (.agg #[.int .i64 (n : Nat)])) 76 147 true).run Tryz.prog w = .ok (.tuple #[.agg #[.bool false, .slice none 0 0], .bool false]) w := fun w => by kernel_rfl
 have a4 : ∀ w, (Instr.typeAssert (.iface 220 (.agg #[.int .i64 (n : Nat)])) 76 218 true).run Tryz.prog w = .ok (.tuple #[.agg #[.int .i64 0], .bool false]) w := fun w => by kernel_rfl
 have a5 : ∀ w, (Instr.typeAssert (.iface 220 (.agg #[.int .i64 (n : Nat)])) 76 220 true).run Tryz.prog w = .ok (.tuple #[.agg #[.int .i64 (n : Nat)], .bool true]) w := fun w => by kernel_rfl
 have hT2 : Trn (w.alloc (.cells #[.int .i64 (n : Nat)] 220)) R s := Blk.alloc hT _
 have f2 : (w.alloc (.cells #[.int .i64 (n : Nat)] 220)).frozen? ⟨R, 2, none⟩ = false := Blk.frozen hT2 2
 have c2 : (w.alloc (.cells #[.int .i64 (n : Nat)] 220)).cell? ⟨R, 2, none⟩ = some (.int .i64 (s.num : Nat)) := Blk.cell hT2 2
 have HT := GR (Blk.set_ hT2 2 (.int .i64 (n : Nat)))
 have HA := GR (((Only.refl R w).alloc (.cells #[.int .i64 (n : Nat)] 220)).trans (Only.set R _ 2 (.int .i64 (n : Nat))))
 clear hT hT2
 go_enter Tryz.func199, Tryz.ntmps199
 go_wp2_with fail
 first | go_end0 | refine bodyPost_ret (results_none rfl _ _ _) rfl ?_
 exact ⟨_, Runs.set n s, HA.out, rfl, HT.out⟩
theorem FP (R N : Nat) (H : mJ R N) (c : UInt8) (l r : List It) (bl : Hid ((aH l).length ≤ 1048576)) (br : Hid ((aH r).length ≤ 1048576)) (f : Nat) (A A2 : Option Addr) (n k n2 k2 : Nat) (s : RSt) (w : World) (hs : s.ok) (hN : s.room < N)
  (hl : RowAt w (js R) l (.slice A n k)) (hr : RowAt w (js R) r (.slice A2 n2 k2)) (ol : az l f) (or : az r f) (hT : Trn w R s) :
  gX R (.ask c l r) (.iface 154 (.agg #[.string (tb [c]), .slice A n k, .slice A2 n2 k2])) s w := by
 have a0 : ∀ w, (Instr.typeAssert (.iface 154 (.agg #[.string (tb [c]), .slice A n k, .slice A2 n2 k2])) 76 152 true).run Tryz.prog w = .ok (.tuple #[.agg #[.string ⟨#[]⟩], .bool false]) w := fun w => by kernel_rfl
 have a1 : ∀ w, (Instr.typeAssert (.iface 154 (.agg #[.string (tb [c]), .slice A n k, .slice A2 n2 k2])) 76 154 true).run Tryz.prog w = .ok (.tuple #[.agg #[.string (tb [c]), .slice A n k, .slice A2 n2 k2], .bool true]) w := fun w => by kernel_rfl
 have hlt := Blk.lt hT
 have hT2 : Trn (w.alloc (.cells #[.string (tb [c]), .slice A n k, .slice A2 n2 k2] 154)) R s := Blk.alloc hT _
 have hA := (Only.refl R w).alloc (.cells #[.string (tb [c]), .slice A n k, .slice A2 n2 k2] 154)
 have HA := GR hA
 have HK := GR (Blk.new w 154 #[.string (tb [c]), .slice A n k, .slice A2 n2 k2])
 by_cases ht : s.trace.length = 60
 ·have HB := GR (rh R s c _ hT2 ht)
  have HR := GR (Runs.askLong (c := c) (l := l) (r := r) ht)
  have HT := GR hT2
  clear hT hT2 ht hs hl hr ol or H hA
  go_enter Tryz.func199, Tryz.ntmps199
  go_wp2_with fail
  refine HB.out.mono ?_
  rintro e w1 ⟨⟨older, hgo, rfl⟩, rfl⟩
  exact ⟨rfl, _, HR.out, HA.out, ⟨older, hgo, rfl⟩, s, HT.out, rfl, rfl⟩
 ·have HB := GR (tJ R s c _ hT2 (by have := hs.1; omega))
  have HS := GR (RSt.blk_ok hs ht c)
  have HT60 := GR ht
  have HH := GR H
  have HL := GR hl
  have HR := GR hr
  have OL := GR ol
  have OR := GR or
  clear hT hT2 ht hs hl hr ol or H hA
  go_enter Tryz.func199, Tryz.ntmps199
  go_wp2_with fail
  refine HB.out.mono ?_
  rintro e w1 ⟨rfl, hT1, ho1⟩
  have k1 := HK.out.only ho1 (by omega)
  have c0 : w1.cell? ⟨w.heap.size, 0, none⟩ = some (.string (tb [c])) := k1.cell 0
  have c1 : w1.cell? ⟨w.heap.size, 1, none⟩ = some (.slice A n k) := k1.cell 1
  have c2 : w1.cell? ⟨w.heap.size, 2, none⟩ = some (.slice A2 n2 k2) := k1.cell 2
  have HO1 := GR (HA.out.trans ho1)
  have HT1 := GR hT1
  cases hx : s.left with
  | nil =>
   have HC := GR (xS R (s.blk c) (.string (tb [c])) (.slice A n k) (.slice A2 n2 k2) w1 hT1 hx)
   have HX := GR hx
   clear hT1 ho1 k1 hx
   go_wp2_with fail
   refine HC.out.mono ?_
   rintro e w2 ⟨⟨older, hgo, rfl⟩, hb⟩
   exact ⟨rfl, _, Runs.askNone HT60.out HX.out, HO1.out.trans (.of_below hb), ⟨older, hgo, rfl⟩, s.blk c, Blk.below HT1.out hb (Blk.lt HT1.out), rfl, rfl⟩
  | cons x t =>
   have HC := GR (z8 R (s.blk c) x t (.string (tb [c])) (.slice A n k) (.slice A2 n2 k2) w1 hT1 hx)
   have HX := GR hx
   clear hT1 ho1 k1 hx
   go_wp2_with fail
   refine HC.out.mono ?_
   rintro e w2 ⟨rfl, hT2, ho2⟩
   have HO2 := GR (HO1.out.trans ho2)
   by_cases hxl : x = 108
   ·have HD := GR (HH.out l (.slice A n k) f _ w2 (show RSt.ok { s.blk c with left := t } from HS.out.1) (show RSt.room { s.blk c with left := t } < N from by have := HS.out.2; show (s.blk c).room < N; omega) bl.out (HL.out.stay (gQ HO2.out)) OL.out hT2)
    rw [if_pos hxl]
    have HXL := GR hxl
    clear hT2 ho2 hxl
    go_wp2_with fail
    refine HD.out.mono ?_
    rintro e w3 ⟨o, hr, ho, hp⟩
    have HRO : Runs (.i (.ask c l r)) s o := Runs.ask HT60.out HX.out (by rw [if_pos HXL.out]; exact hr)
    have HO3 : Only R w w3 := HO2.out.trans ho
    match o, hp, HRO with
    | .next s', hp, HRO =>
     obtain ⟨rfl, hT⟩ := hp
     have HP := GR (And.intro HRO (And.intro HO3 hT))
     clear hr ho HRO HO3 hT
     go_wp2_with fail
     first | go_end0 | refine bodyPost_ret (results_none rfl _ _ _) rfl ?_
     exact ⟨_, HP.out.1, HP.out.2.1, rfl, HP.out.2.2⟩
    | .leave m s', hp, HRO =>
     obtain ⟨⟨older, hgo, rfl⟩, hT⟩ := hp
     exact ⟨rfl, _, HRO, HO3, ⟨older, hgo, rfl⟩, hT⟩
    | .fin q u m, hp, HRO =>
     obtain ⟨⟨older, hgo, rfl⟩, hT⟩ := hp
     exact ⟨rfl, _, HRO, HO3, ⟨older, hgo, rfl⟩, hT⟩
   ·have HD := GR (HH.out r (.slice A2 n2 k2) f _ w2 (show RSt.ok { s.blk c with left := t } from HS.out.1) (show RSt.room { s.blk c with left := t } < N from by have := HS.out.2; show (s.blk c).room < N; omega) br.out (HR.out.stay (gQ HO2.out)) OR.out hT2)
    rw [if_neg hxl]
    have HXL := GR hxl
    clear hT2 ho2 hxl
    go_wp2_with fail
    refine HD.out.mono ?_
    rintro e w3 ⟨o, hr, ho, hp⟩
    have HRO : Runs (.i (.ask c l r)) s o := Runs.ask HT60.out HX.out (by rw [if_neg HXL.out]; exact hr)
    have HO3 : Only R w w3 := HO2.out.trans ho
    match o, hp, HRO with
    | .next s', hp, HRO =>
     obtain ⟨rfl, hT⟩ := hp
     have HP := GR (And.intro HRO (And.intro HO3 hT))
     clear hr ho HRO HO3 hT
     go_wp2_with fail
     first | go_end0 | refine bodyPost_ret (results_none rfl _ _ _) rfl ?_
     exact ⟨_, HP.out.1, HP.out.2.1, rfl, HP.out.2.2⟩
    | .leave m s', hp, HRO =>
     obtain ⟨⟨older, hgo, rfl⟩, hT⟩ := hp
     exact ⟨rfl, _, HRO, HO3, ⟨older, hgo, rfl⟩, hT⟩
    | .fin q u m, hp, HRO =>
     obtain ⟨⟨older, hgo, rfl⟩, hT⟩ := hp
     exact ⟨rfl, _, HRO, HO3, ⟨older, hgo, rfl⟩, hT⟩
theorem DK (R N : Nat) (H : mJ R N) (b : Bool) (l : List It) (bl : Hid ((aH l).length ≤ 1048576)) (f : Nat) (A : Option Addr) (n k : Nat) (s : RSt) (w : World) (hs : s.ok) (hN : s.room < N)
  (hl : RowAt w (js R) l (.slice A n k)) (hf : f < 9) (ol : az l (f + 1)) (hT : Trn w R s) :
  gX R (.frame b l) (.iface 147 (.agg #[.bool b, .slice A n k])) s w := by
 have a0 : ∀ w, (Instr.typeAssert (.iface 147 (.agg #[.bool b, .slice A n k])) 76 152 true).run Tryz.prog w = .ok (.tuple #[.agg #[.string ⟨#[]⟩], .bool false]) w := fun w => by kernel_rfl
 have a1 : ∀ w, (Instr.typeAssert (.iface 147 (.agg #[.bool b, .slice A n k])) 76 154 true).run Tryz.prog w = .ok (.tuple #[.agg #[.string ⟨#[]⟩, .slice none 0 0, .slice none 0 0], .bool false]) w := fun w => by kernel_rfl
 have a2 : ∀ w, (Instr.typeAssert (.iface 147 (.agg #[.bool b, .slice A n k])) 76 248 true).run Tryz.prog w = .ok (.tuple #[.agg #[], .bool false]) w := fun w => by kernel_rfl
 have a3 : ∀ w, (Instr.typeAssert (.iface 147 (.agg #[.bool b, .slice A n k])) 76 147 true).run Tryz.prog w = .ok (.tuple #[.agg #[.bool b, .slice A n k], .bool true]) w := fun w => by kernel_rfl
 have hlt := Blk.lt hT
 have HA := GR ((Only.refl R w).alloc (.cells #[.bool b, .slice A n k] 147))
 have HK := GR (Blk.new w 147 #[.bool b, .slice A n k])
 have HT := GR (show Trn (w.alloc (.cells #[.bool b, .slice A n k] 147)) R s from Blk.alloc hT _)
 have HS := GR (And.intro hs hN)
 have HH := GR H
 have HL := GR hl
 have OL := GR ol
 clear hT hs hl ol H hN
 go_enter Tryz.func199, Tryz.ntmps199
 go_wp2_with fail
 go_loopg [] s.room (fun gk wr => ∃ s1 : RSt, gk = s1.room ∧ Hid (Only R w wr) ∧ Hid (Blk wr w.heap.size 147 #[.bool b, .slice A n k]) ∧ Hid (Trn wr R s1) ∧ Hid (s1.ok ∧ s1.room < N) ∧ Hid (∀ o, Runs (.f b l) s1 o → Runs (.f b l) s o))
 case atStart => exact ⟨s, rfl, HA, HK, HT, HS, fun _ h => h⟩
 case round =>
  obtain ⟨s1, rfl, HO, HKr, HTr, HSr, HRR⟩ := hrel
  have c0 : wr.cell? ⟨w.heap.size, 0, none⟩ = some (.bool b) := HKr.out.cell 0
  have c1 : wr.cell? ⟨w.heap.size, 1, none⟩ = some (.slice A n k) := HKr.out.cell 1
  have HF := GR (wj R b l (.slice A n k) f s1 wr hf OL.out HTr.out (fun W hW hTW => HH.out l (.slice A n k) (f + 1) s1 W HSr.out.1 HSr.out.2 bl.out (HL.out.stay (gQ (HO.out.trans hW))) OL.out hTW))
  go_wp2_with fail
  refine HF.out.mono ?_
  rintro e w1 ⟨o, hr, ho, hp⟩
  have HO1 := GR (HO.out.trans ho)
  have HK1 := GR (HKr.out.only ho (by omega))
  match o, hp, hr with
  | .next s2, hp, hr =>
   obtain ⟨rfl, hT⟩ := hp
   have HP := GR (And.intro (Runs.frame (HRR.out _ (Runs.f_next hr))) hT)
   clear hr ho hT
   go_wp2_with fail
   first | go_end0 | refine bodyPost_ret (results_none rfl _ _ _) rfl ?_
   exact ⟨_, HP.out.1, HO1.out, rfl, HP.out.2⟩
  | .leave (m + 1) s2, hp, hr =>
   obtain ⟨⟨older, hgo, rfl⟩, hT⟩ := hp
   exact ⟨rfl, _, Runs.frame (HRR.out _ (Runs.f_out hr)), HO1.out, ⟨older, hgo, rfl⟩, hT⟩
  | .fin q u m, hp, hr =>
   obtain ⟨⟨older, hgo, rfl⟩, hT⟩ := hp
   exact ⟨rfl, _, Runs.frame (HRR.out _ (Runs.f_fin hr)), HO1.out, ⟨older, hgo, rfl⟩, hT⟩
  | .leave 0 s2, hp, hr =>
   obtain ⟨rfl, hT⟩ := hp
   have hok : s2.ok ∧ s2.room ≤ s1.room := Runs.ok hr HSr.out.1
   have HT2 := GR hT
   have HR2 := GR hr
   clear hr ho hT
   cases b with
   | false =>
    go_wp2_with fail
    first | go_end0 | refine bodyPost_ret (results_none rfl _ _ _) rfl ?_
    exact ⟨_, Runs.frame (HRR.out _ (Runs.f_once HR2.out)), HO1.out, rfl, HT2.out⟩
   | true =>
    by_cases hi : s2.idle = 4000
    ·have HSt := GR (tI R s2 w1 HT2.out hi)
     have HI := GR hi
     clear hi
     go_wp2_with fail
     refine HSt.out.mono ?_
     rintro e w3 ⟨⟨older, hgo, rfl⟩, rfl⟩
     exact ⟨rfl, _, Runs.frame (HRR.out _ (Runs.f_long HR2.out HI.out)), HO1.out, ⟨older, hgo, rfl⟩, s2, HT2.out, rfl, rfl⟩
    ·have hst := RSt.step_ok hok.1 hi
     have HSt := GR (wi R s2 w1 HT2.out (by have := hok.1.2; omega))
     have HI := GR hi
     have hlt2 : s2.step.room < s1.room := by have := hok.2; omega
     have HS3 := GR (And.intro hst.1 (Nat.lt_trans hlt2 HSr.out.2))
     clear hi hok hst
     go_wp2_with fail
     refine HSt.out.mono ?_
     rintro e w3 ⟨rfl, hT3, ho3⟩
     have HT3 := GR hT3
     have HO3 := GR (HO1.out.trans ho3)
     have HK3 := GR (HK1.out.only ho3 (by omega))
     clear hT3 ho3
     go_wp2_with fail
     go_roundg (s2.step.room)
     case measure => omega
     case rel => exact ⟨s2.step, rfl, HO3, HK3, HT3, HS3, fun o h => HRR.out o (Runs.f_again HR2.out HI.out h)⟩
theorem iW (w : World) (n : Nat) : Below w.heap.size w (w.drewN n) := ⟨rfl, rfl, rfl, Nat.le_refl _, fun _ _ => rfl⟩
theorem Trn.below {w w' : World} {R : Nat} {s : RSt} (h : Trn w R s) (hb : Below w.heap.size w w') : Trn w' R s := Blk.below h hb (Blk.lt h)
theorem EY (R N : Nat) (H : mJ R N) (bs : List (List It)) (bl : Hid (∀ b ∈ bs, (aH b).length ≤ 1048576)) (f : Nat) (A : Option Addr) (vs : List Value) (k : Nat) (s : RSt) (w : World) (hs : s.ok) (hN : s.room < N)
  (hl : Reads w (js R) (.slice A vs.length k) vs) (ha : AllRows w (js R) bs vs) (ol : dx bs f) (hT : Trn w R s) :
  gX R (.pick bs) (.iface 222 (.agg #[.slice A vs.length k])) s w := by
 obtain ⟨n, hn⟩ : ∃ n, n = vs.length := ⟨_, rfl⟩
 have hlen := ha.len
 rw [← hn] at hl hlen ⊢
 have a0 : ∀ w, (Instr.typeAssert (.iface 222 (.agg #[.slice A n k])) 76 152 true).run Tryz.prog w = .ok (.tuple #[.agg #[.string ⟨#[]⟩], .bool false]) w := fun w => by kernel_rfl
 have a1 : ∀ w, (Instr.typeAssert (.iface 222 (.agg #[.slice A n k])) 76 154 true).run Tryz.prog w = .ok (.tuple #[.agg #[.string ⟨#[]⟩, .slice none 0 0, .slice none 0 0], .bool false]) w := fun w => by kernel_rfl
 have a2 : ∀ w, (Instr.typeAssert (.iface 222 (.agg #[.slice A n k])) 76 248 true).run Tryz.prog w = .ok (.tuple #[.agg #[], .bool false]) w := fun w => by kernel_rfl
 have a3 : ∀ w, (Instr.typeAssert (.iface 222 (.agg #[.slice A n k])) 76 147 true).run Tryz.prog w = .ok (.tuple #[.agg #[.bool false, .slice none 0 0], .bool false]) w := fun w => by kernel_rfl
 have a4 : ∀ w, (Instr.typeAssert (.iface 222 (.agg #[.slice A n k])) 76 218 true).run Tryz.prog w = .ok (.tuple #[.agg #[.int .i64 0], .bool false]) w := fun w => by kernel_rfl
 have a5 : ∀ w, (Instr.typeAssert (.iface 222 (.agg #[.slice A n k])) 76 220 true).run Tryz.prog w = .ok (.tuple #[.agg #[.int .i64 0], .bool false]) w := fun w => by kernel_rfl
 have a6 : ∀ w, (Instr.typeAssert (.iface 222 (.agg #[.slice A n k])) 76 222 true).run Tryz.prog w = .ok (.tuple #[.agg #[.slice A n k], .bool true]) w := fun w => by kernel_rfl
 have hlt := Blk.lt hT
 have hA := (Only.refl R w).alloc (.cells #[.slice A n k] 222)
 have hT2 : Trn (w.alloc (.cells #[.slice A n k] 222)) R s := Blk.alloc hT _
 have c2 : (w.alloc (.cells #[.slice A n k] 222)).cell? ⟨R, 2, none⟩ = some (.int .i64 (s.num : Nat)) := Blk.cell hT2 2
 have HT := GR hT2
 have HA := GR hA
 by_cases hk : s.num < n
 ·obtain ⟨v, hv, hrow⟩ := AllRows.at_ ha s.num (by omega)
  have hb' : bs[s.num]? = some bs[s.num] := List.getElem?_eq_getElem (by omega)
  obtain ⟨l, hll⟩ : ∃ l, l = bs[s.num] := ⟨_, rfl⟩
  rw [← hll] at hrow hb'
  have hol := sf ol hb'
  obtain ⟨_, _, he, hcell⟩ := hl
  injection he with he1 he2 he3
  subst he1; subst he3
  obtain ⟨B, off, rfl, hB, hBR, hcell⟩ := hcell (by omega)
  have hcv : w.cell? ⟨B, off + s.num, none⟩ = some v := by
   rw [hcell s.num (by omega)]
   rw [List.getElem?_eq_getElem (by omega)] at hv
   exact hv
  have cv : (w.alloc (.cells #[.slice (some ⟨B, off, none⟩) n k] 222)).cell? ⟨B, off + s.num, none⟩ = some v := (dG (hA.block B hBR hB) _).trans hcv
  have HC : ∀ (W : World), Below (w.alloc (.cells #[.slice (some ⟨B, off, none⟩) n k] 222)).heap.size (w.alloc (.cells #[.slice (some ⟨B, off, none⟩) n k] 222)) W → Calls Tryz.prog 168 #[.pointer (some ⟨R, 0, none⟩), v] W fun e w' => ∃ o, Runs (.i (.pick bs)) s o ∧ uG R w o e w' := fun W hb =>
   (H l v f s W hs hN (bl.out l (List.mem_of_getElem? hb')) (hrow.stay (gQ (hA.trans (.of_below hb)))) hol (hT2.below hb)).mono fun e w' ⟨o, h1, h2, h3⟩ => ⟨o, Runs.pick hb' h1, (hA.trans (.of_below hb)).trans h2, h3⟩
  have HD := GR HC
  clear hT hT2 hs ha ol H hA hcell hrow hol hv hb' hcv hll hn he2 hlen hB hBR HC
  go_enter Tryz.func199, Tryz.ntmps199
  go_wp2_with fail
  go_quiet (fail)
  go_wp2_with fail
  refine wp_region_still_tail 9 (by kernel_rfl) (by kernel_rfl) ?_
  change wpStill _ _ (World.drew _) (fun a' => wpList _ _ _ _ a' (World.drew _)) _ _
  simp only [List.take_succ_cons, List.take_zero, List.drop_succ_cons, List.drop_zero]
  repeat still_step
  refine wpStill_nil ?_
  go_wp2_with fail
  refine (HD.out _ (iW _ _)).mono ?_
  rintro e w1 ⟨o, hr, ho, hp⟩
  match o, hp, hr with
  | .next s', hp, hr =>
   obtain ⟨rfl, hT⟩ := hp
   have HP := GR (And.intro hr (And.intro ho hT))
   clear hr ho hT
   go_wp2_with fail
   first | go_end0 | refine bodyPost_ret (results_none rfl _ _ _) rfl ?_
   exact ⟨_, HP.out.1, HP.out.2.1, rfl, HP.out.2.2⟩
  | .leave m s', hp, hr =>
   obtain ⟨⟨older, hgo, rfl⟩, hT⟩ := hp
   exact ⟨rfl, _, hr, ho, ⟨older, hgo, rfl⟩, hT⟩
  | .fin q u m, hp, hr =>
   obtain ⟨⟨older, hgo, rfl⟩, hT⟩ := hp
   exact ⟨rfl, _, hr, ho, ⟨older, hgo, rfl⟩, hT⟩
 ·have hb : bs[s.num]? = none := List.getElem?_eq_none (by omega)
  have HB := GR hb
  clear hT hT2 hs hl ha ol H hA hb hn hlen
  go_enter Tryz.func199, Tryz.ntmps199
  go_wp2_with fail
  go_quiet (fail)
  go_wp2_with fail
  first | go_end0 | refine bodyPost_ret (results_none rfl _ _ _) rfl ?_
  exact ⟨_, Runs.pickNone HB.out, HA.out.trans (.of_below (iW _ _)), rfl, HT.out.below (iW _ _)⟩
theorem ItemAt.do_any {R N : Nat} (H : mJ R N) {i : It} {v : Value} {f : Nat} {s : RSt} {w : World} (hs : s.ok) (hN : s.room < N) (hb : (aK i).length ≤ 1048576) (hi : ItemAt w (js R) i v) (ho : aC i f) (hT : Trn w R s) : gX R i v s w := by
 have hB : ∀ b ∈ aM i, (aH b).length ≤ 1048576 := fun b h => by have := lz h; omega
 cases i with
 | blk c => rw [ItemAt] at hi; subst hi; exact FM R c s w hs hT
 | stop => rw [ItemAt] at hi; subst hi; exact EX R s w hT
 | leave n => rw [ItemAt] at hi; subst hi; exact DJ R n s w hT
 | set n => rw [ItemAt] at hi; subst hi; exact FN R n s w hT
 | ask c l r =>
  rw [ItemAt] at hi; rw [aC] at ho
  obtain ⟨vl, vr, xs, ys, rfl, h1, h2, h3, h4⟩ := hi
  obtain ⟨A, k, rfl, g1⟩ := h1
  obtain ⟨A2, k2, rfl, g2⟩ := h3
  exact FP R N H c l r (GR (hB l (by simp [aM]))) (GR (hB r (by simp [aM]))) f A A2 _ k _ k2 s w hs hN ⟨xs, ⟨A, k, rfl, g1⟩, h2⟩ ⟨ys, ⟨A2, k2, rfl, g2⟩, h4⟩ ho.2.1 ho.2.2 hT
 | frame b l =>
  rw [ItemAt] at hi; rw [aC] at ho
  obtain ⟨vl, xs, rfl, h1, h2⟩ := hi
  obtain ⟨A, k, rfl, g1⟩ := h1
  exact DK R N H b l (GR (hB l (by simp [aM]))) f A _ k s w hs hN ⟨xs, ⟨A, k, rfl, g1⟩, h2⟩ ho.1 ho.2 hT
 | pick bs =>
  rw [ItemAt] at hi; rw [aC] at ho
  obtain ⟨vb, xs, rfl, h1, h2⟩ := hi
  obtain ⟨A, k, rfl, g1⟩ := h1
  exact EY R N H bs (GR hB) f A xs k s w hs hN ⟨A, k, rfl, g1⟩ h2 ho.2.2 hT
theorem z7 (R N : Nat) (H : mJ R N) : mJ R (N + 1) := by
 intro l v f s w hs hN hbl hrow hol hT
 obtain ⟨xs, ⟨A, cap, rfl, hc⟩, ha⟩ := hrow
 have hlen := ha.len
 have hle := jK l
 obtain ⟨n, hn⟩ : ∃ n, n = xs.length := ⟨_, rfl⟩
 rw [← hn] at hlen ⊢
 have hn9 : n ≤ 1048576 := by omega
 have HBL := GR hbl
 have HC := GR hc
 have HA := GR ha
 have HX := GR (And.intro hn hlen)
 have HH := GR H
 have HOL := GR hol
 have HT := GR hT
 have HS := GR (show s.ok ∧ s.room < N + 1 from ⟨hs, hN⟩)
 clear hs hN ha hol hT hc H hn hlen hle hbl
 go_enter Tryz.func168, Tryz.ntmps168
 go_wp2_with fail
 go_loopg [8] n (fun gk iv wr => ∃ (i : Nat) (s1 : RSt), gk = n - i ∧ i ≤ n ∧ iv = .int .i64 i ∧ Hid (Only R w wr) ∧ Hid (Trn wr R s1) ∧ Hid (s1.ok ∧ s1.room < N + 1) ∧ Hid (∀ o, Runs (.l (l.drop i)) s1 o → Runs (.l l) s o))
 case atStart => exact ⟨0, s, by omega, Nat.zero_le _, rfl, Only.refl R w, HT.out, HS.out, fun _ h => h⟩
 case round =>
  obtain ⟨i, s1, rfl, hi, rfl, HO, HTr, HSr, HRR⟩ := hrel
  by_cases hil : i < n
  ·obtain ⟨B, off, hAe, hB, hBR, hcell⟩ := HC.out (by have := HX.out.1; omega)
   obtain ⟨v, hv, hat⟩ := AllAt.at_ HA.out i (by have := HX.out.2; omega)
   have cv : wr.cell? ⟨B, off + i, none⟩ = some v := by
    rw [dG (HO.out.block B hBR hB), hcell i (by have := HX.out.1; omega)]
    rw [List.getElem?_eq_getElem (by have := HX.out.1; omega)] at hv
    exact hv
   have hdrop : l.drop i = l[i]'(by have := HX.out.2; omega) :: l.drop (i + 1) := List.drop_eq_getElem_cons _
   obtain ⟨it, hit⟩ : ∃ it, it = l[i]'(by have := HX.out.2; omega) := ⟨_, rfl⟩
   rw [← hit] at hat hdrop
   have hoi : aC it f := sw HOL.out it (by rw [hit]; exact List.getElem_mem _)
   have HDR := GR hdrop
   have HAT := GR (hat.stay (gQ HO.out))
   have HOI := GR hoi
   have HIB := GR (show (aK it).length ≤ 1048576 from Nat.le_trans (jT (by rw [hit]; exact List.getElem_mem _)) HBL.out)
   subst hAe
   by_cases hid : s1.idle = 4000
   ·have HSt := GR (tI R s1 wr HTr.out hid)
    have HI := GR hid
    clear hid hdrop hat hoi hcell hv hit hBR hB
    go_wp2_with fail
    refine HSt.out.mono ?_
    rintro e w3 ⟨⟨older, hgo, rfl⟩, rfl⟩
    exact ⟨rfl, _, HRR.out (.fin 2 s1.trace s1.num) (by rw [HDR.out]; exact Runs.long HI.out), HO.out, ⟨older, hgo, rfl⟩, s1, HTr.out, rfl, rfl⟩
   ·have hst := RSt.step_ok HSr.out.1 hid
    have HSt := GR (wi R s1 wr HTr.out (by have := HSr.out.1.2; omega))
    have HI := GR hid
    have HS2 := GR (show s1.step.ok ∧ s1.step.room < N from ⟨hst.1, by have := HSr.out.2; omega⟩)
    clear hid hst hdrop hat hoi hcell hv hit hBR hB
    go_wp2_with fail
    refine HSt.out.mono ?_
    rintro e w3 ⟨rfl, hT3, ho3⟩
    have HO3 := GR (HO.out.trans ho3)
    have HD := GR (ItemAt.do_any HH.out HS2.out.1 HS2.out.2 HIB.out (HAT.out.stay (gQ ho3)) HOI.out hT3)
    clear hT3 ho3
    go_wp2_with fail
    refine HD.out.mono ?_
    rintro e w4 ⟨o, hr, ho, hp⟩
    have HO4 := GR (HO3.out.trans ho)
    match o, hp, hr with
    | .next s2, hp, hr =>
     obtain ⟨rfl, hT⟩ := hp
     have hok : s2.ok ∧ s2.room ≤ s1.step.room := Runs.ok hr HS2.out.1
     have HS4 := GR (show s2.ok ∧ s2.room < N + 1 from ⟨hok.1, by have := HS2.out.2; have := hok.2; omega⟩)
     have HT4 := GR hT
     have HR4 := GR hr
     clear hr ho hT hok
     go_wp2_with fail
     go_roundg (n - (i + 1))
     case measure => omega
     case rel => exact ⟨i + 1, s2, rfl, by omega, by go_num, HO4, HT4, HS4, fun o h => HRR.out o (by rw [HDR.out]; exact Runs.cons HI.out HR4.out h)⟩
    | .leave m s2, hp, hr =>
     obtain ⟨⟨older, hgo, rfl⟩, hT⟩ := hp
     exact ⟨rfl, _, HRR.out (.leave m s2) (by rw [HDR.out]; exact Runs.cons_leave HI.out hr), HO4.out, ⟨older, hgo, rfl⟩, hT⟩
    | .fin q u m, hp, hr =>
     obtain ⟨⟨older, hgo, rfl⟩, hT⟩ := hp
     exact ⟨rfl, _, HRR.out (.fin q u m) (by rw [HDR.out]; exact Runs.cons_fin HI.out hr), HO4.out, ⟨older, hgo, rfl⟩, hT⟩
  ·have hin : i = n := by omega
   have HE := GR (show l.drop i = [] from List.drop_eq_nil_of_le (by have := HX.out.2; omega))
   clear hin
   go_wp2_with fail
   first | go_end0 | refine bodyPost_ret (results_none rfl _ _ _) rfl ?_
   exact ⟨_, HRR.out (.next s1) (by rw [HE.out]; exact Runs.nil s1), HO.out, rfl, HTr.out⟩
theorem Ej (R : Nat) : ∀ N, mJ R N
 | 0 => fun _ _ _ _ _ _ h => absurd h (Nat.not_lt_zero _)
 | N + 1 => z7 R N (Ej R N)
theorem BW (R : Nat) (l : List It) (v : Value) (f : Nat) (s : RSt) (w : World) (hs : s.ok) (hbl : (aH l).length ≤ 1048576) (hrow : RowAt w (js R) l v) (hol : az l f) (hT : Trn w R s) : yF R l v s w :=
 Ej R (s.room + 1) l v f s w hs (Nat.lt_succ_self _) hbl hrow hol hT
end Go.Proofs.YtlkfakdghjaoaaaGreatDoor
