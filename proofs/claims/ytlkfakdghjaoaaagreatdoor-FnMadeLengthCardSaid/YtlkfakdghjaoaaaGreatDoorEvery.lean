import Derived.Test.YtlkfakdghjaoaaaGreatDoorIter
import Derived.Test.YtlkfakdghjaoaaaGreatDoorJ4
import Derived.RangeFuncBound
import Derived.RangeFuncCalls
import Derived.RangeFuncLeaves
import Derived.WalkKit
import Derived.OwnWalkIn
import Derived.TacticsInMore
import Derived.LoopNIn
import Derived.LoopIn
import Derived.Sort.LoopGhostIn
import Derived.IntWalk
namespace Go.Proofs.YtlkfakdghjaoaaaGreatDoor
open Go.RowKit Go.Sort
attribute [local go_sem] Oper.semAt_some
abbrev encEv (x : Nat × It × Value) : Array Value := #[.int .i64 x.1, x.2.2]
def EvIn (w : World) (P : Nat → Prop) (E : List (Nat × It)) (xs : List (Nat × It × Value)) : Prop := xs.map (fun x => (x.1, x.2.1)) <+: E ∧ ∀ x ∈ xs, ItemAt w P x.2.1 x.2.2
def EvAll (w : World) (P : Nat → Prop) (E : List (Nat × It)) (xs : List (Nat × It × Value)) : Prop := xs.map (fun x => (x.1, x.2.1)) = E ∧ ∀ x ∈ xs, ItemAt w P x.2.1 x.2.2
abbrev SeqEv (n : Nat) (w : World) (P : Nat → Prop) (w1 : World) (E : List (Nat × It)) (CB FB : Nat) : Prop :=
 SeqAll Fence.wide n Tryz.prog 100 #[.pointer (some ⟨CB, 0, none⟩), .pointer (some ⟨FB, 0, none⟩)] encEv (fun b => P b ∨ b = CB ∨ b = FB) (fun pre x => EvIn w P E (pre ++ [x])) (fun xs => EvAll w P E xs) w1
theorem roundIn_wide {m m' l f : Nat} {P : Program} {tmps : Array Value} {assign body : Code} {w : World} {R : Ending → World → Prop} (h : RoundIn Fence.wide m P l f tmps assign body w R) : RoundIn Fence.wide m' P l f tmps assign body w R :=
 ⟨h.1, fun c cs _ => h.2 c cs (room_wide _)⟩
theorem roundIn_in {m m' l f k : Nat} {P : Program} {tmps : Array Value} {assign body : Code} {w : World} {R : Ending → World → Prop} (h : RoundIn Fence.wide m P l f tmps assign body w R) : RoundIn (Fence.wide.inRound k) m' P l f tmps assign body w R :=
 ⟨h.1, fun c cs _ => h.2 c cs (room_wide _)⟩
theorem seqAll_wide {α : Type} {n m : Nat} {P : Program} {g : Nat} {lb : Array Value} {encs : α → Array Value} {R : Nat → Prop} {Nx : List α → α → Prop} {S : List α → Prop} {w : World} (h : SeqAll Fence.wide n P g lb encs R Nx S w) : SeqAll Fence.wide m P g lb encs R Nx S w := by
 intro l J W hW hJ hY h0
 refine callsIn_wide.2 (callsIn_wide.1 (h l J W hW hJ (fun O pre x A hj hn => ?_) h0))
 obtain ⟨fn, tmps, assign, body, hy, hr⟩ := hY O pre x A hj hn
 exact ⟨fn, tmps, assign, body, hy, roundIn_wide hr⟩
structure EvInv (W : World) (R : Nat → Prop) (YB ln : Nat) (J : (Nat → Prop) → List (Nat × It × Value) → World → Prop) (O : Nat → Prop) (pre : List (Nat × It × Value)) (ds : List Nat) (wr : World) : Prop where
 j : J O pre wr
 yo : O YB
 yb : Blk wr YB 145 #[.func (.yield ln) #[] #[]]
 keep : ∀ b, R b → wr.heap[b]? = W.heap[b]?
 size : W.heap.size ≤ wr.heap.size
 own : ∀ b, O b → W.heap.size ≤ b ∧ b < wr.heap.size
 marks : ∀ D ∈ ds, O D ∧ wr.heap[D]? = some (.deferred (some []))
 nodup : ds.Nodup
theorem EvInv.below {W : World} {R : Nat → Prop} {YB ln : Nat} {J : (Nat → Prop) → List (Nat × It × Value) → World → Prop} {O : Nat → Prop} {pre : List (Nat × It × Value)} {ds : List Nat} {wr w2 : World} (h : EvInv W R YB ln J O pre ds wr)
  (hJ : ∀ O pre A B, J O pre A → Turns O A B → J (more O A B) pre B) (hR : ∀ b, R b → b < W.heap.size) (hb : Below wr.heap.size wr w2) : EvInv W R YB ln J (more O wr w2) pre ds w2 where
 j := hJ O pre wr w2 h.j (Turns.of_below hb)
 yo := .inl h.yo
 yb := (hb.block YB h.yb.lt).trans h.yb
 keep := fun b hb' => (hb.block b (by have := hR b hb'; have := h.size; omega)).trans (h.keep b hb')
 size := Nat.le_trans h.size hb.size
 own := fun b hb' => by
  rcases hb' with hb' | hb'
  ·have := h.own b hb'; have := hb.size; omega
  ·have := h.size; omega
 marks := fun D hD => ⟨.inl (h.marks D hD).1, (hb.block D (h.own D (h.marks D hD).1).2).trans (h.marks D hD).2⟩
 nodup := h.nodup
theorem EvInv.round {W : World} {R : Nat → Prop} {YB ln : Nat} {J : (Nat → Prop) → List (Nat × It × Value) → World → Prop} {O : Nat → Prop} {pre pre' : List (Nat × It × Value)} {ds : List Nat} {wr w2 : World} (h : EvInv W R YB ln J O pre ds wr)
  (hR : ∀ b, R b → b < W.heap.size) (hj : J O pre' w2) (hk : Keeps (fun b => R b ∨ O b) wr w2) : EvInv W R YB ln J O pre' ds w2 where
 j := hj
 yo := h.yo
 yb := (hk.2 YB h.yb.lt (.inr h.yo)).trans h.yb
 keep := fun b hb' => (hk.2 b (by have := hR b hb'; have := h.size; omega) (.inl hb')).trans (h.keep b hb')
 size := Nat.le_trans h.size hk.1
 own := fun b hb' => by have := h.own b hb'; have := hk.1; omega
 marks := fun D hD => ⟨(h.marks D hD).1, (hk.2 D (h.own D (h.marks D hD).1).2 (.inr (h.marks D hD).1)).trans (h.marks D hD).2⟩
 nodup := h.nodup
def mks (ds : List Nat) : List Deferred := ds.map fun D => { target := .collected D, args := #[] }
theorem mks_cons (D : Nat) (ds : List Nat) : mks (D :: ds) = { target := .collected D, args := #[] } :: mks ds := rfl
theorem leaves_marks {F : Fence} {n : Nat} {P : Program} {fn : Func} {tmps : Array Value} {R : Ending → World → Prop} : ∀ (ds : List Nat) (w : World), (∀ D ∈ ds, w.heap[D]? = some (.deferred (some []))) → ds.Nodup →
  (∀ w2, Turns (fun b => b ∈ ds) w w2 → LeavesInM F n P fn tmps R [] .returning w2) → LeavesInM F n P fn tmps R (mks ds) .returning w
 | [], w, _, _, h => h w (Turns.refl _ _)
 | D :: ds, w, hm, hnd, h => by
  refine ⟨by simp, .inl ⟨_, _, rfl, run_takeDeferred (hm D (by simp)), ?_⟩⟩
  have hnd' := List.nodup_cons.1 hnd
  refine leaves_marks ds _ (fun E hE => ?_) hnd'.2 fun w2 hT => h w2 ?_
  ·exact (World.putObj_heap_other (by intro e; subst e; exact hnd'.1 hE)).trans (hm E (List.mem_cons_of_mem _ hE))
  ·have h1 : Turns (fun b => b ∈ D :: ds) w (w.putObj D (.deferred none)) := Turns.putObj (by simp) _
   refine h1.trans (hT.wider fun b hb => .inl (List.mem_cons_of_mem _ hb))
theorem evL_prefix {l : List It} {k j : Nat} (h : j < l.length) : evL (l.take j) k ++ [(k, l[j])] <+: evL l k := by
 have e : l = l.take j ++ l[j] :: l.drop (j + 1) := by rw [List.getElem_cons_drop]; simp
 conv => rhs; rw [e]
 rw [evL_append, evL, evI_bod]
 exact ⟨evB (bodI l[j]) (if frI l[j] = true then k + 1 else k) ++ evL (l.drop (j + 1)) k, by simp⟩
theorem evL_step {l : List It} {k j : Nat} (h : j < l.length) : evL (l.take (j + 1)) k = evL (l.take j) k ++ (k, l[j]) :: evB (bodI l[j]) (if frI l[j] then k + 1 else k) := by
 rw [List.take_succ_eq_append_getElem h, evL_append, evL, evL, List.append_nil, evI_bod]
theorem evL_prefix_bod {l : List It} {k j m : Nat} (h : j < l.length) (hm : m < (bodI l[j]).length) : evL (l.take j) k ++ (k, l[j]) :: (evB ((bodI l[j]).take m) (if frI l[j] then k + 1 else k) ++ evL (bodI l[j])[m] (if frI l[j] then k + 1 else k)) <+: evL l k := by
 have e : l = l.take (j + 1) ++ l.drop (j + 1) := by simp
 conv => rhs; rw [e]
 rw [evL_append, evL_step h]
 have e2 : bodI l[j] = (bodI l[j]).take m ++ (bodI l[j])[m] :: (bodI l[j]).drop (m + 1) := by rw [List.getElem_cons_drop]; simp
 obtain ⟨bs, hbs⟩ : ∃ bs, bs = bodI l[j] := ⟨_, rfl⟩
 generalize (if frI l[j] = true then k + 1 else k) = k'
 refine ⟨evB ((bodI l[j]).drop (m + 1)) k' ++ evL (l.drop (j + 1)) k, ?_⟩
 conv => rhs; lhs; rhs; rhs; rw [e2]
 rw [evB_append, evB]
 simp
theorem evB_step {bs : List (List It)} {k m : Nat} (h : m < bs.length) : evB (bs.take (m + 1)) k = evB (bs.take m) k ++ evL bs[m] k := by
 rw [List.take_succ_eq_append_getElem h, evB_append, evB_one]
theorem EvInv.turns {W : World} {R : Nat → Prop} {YB ln : Nat} {J : (Nat → Prop) → List (Nat × It × Value) → World → Prop} {O Ot : Nat → Prop} {pre : List (Nat × It × Value)} {ds : List Nat} {wr w2 : World} (h : EvInv W R YB ln J O pre ds wr)
  (hJ : ∀ O pre A B, J O pre A → Turns O A B → J (more O A B) pre B) (hR : ∀ b, R b → b < W.heap.size) (hT : Turns Ot wr w2) (hs : ∀ b, Ot b → O b) (hy : ¬ Ot YB) (hd : ∀ D ∈ ds, ¬ Ot D) (hr : ∀ b, R b → ¬ Ot b) : EvInv W R YB ln J (more O wr w2) pre ds w2 where
 j := hJ O pre wr w2 h.j (hT.wider hs)
 yo := .inl h.yo
 yb := (hT.block YB h.yb.lt hy).trans h.yb
 keep := fun b hb' => (hT.block b (by have := hR b hb'; have := h.size; omega) (hr b hb')).trans (h.keep b hb')
 size := Nat.le_trans h.size hT.size
 own := fun b hb' => by
  rcases hb' with hb' | hb'
  ·have := h.own b hb'; have := hT.size; omega
  ·have := h.size; omega
 marks := fun D hD => ⟨.inl (h.marks D hD).1, (hT.block D (h.own D (h.marks D hD).1).2 (hd D hD)).trans (h.marks D hD).2⟩
 nodup := h.nodup
set_option maxRecDepth 100000 in
theorem everyItem_any (A : Option Addr) (n c : Nat) (k : Nat) (w : World) : Calls Tryz.prog 56 #[.slice A n c, .int .i64 k] w fun e w' =>
  e = .returned (.func (.func 100) #[] #[.pointer (some ⟨w.heap.size, 0, none⟩), .pointer (some ⟨w.heap.size + 1, 0, none⟩)]) ∧ w' = (w.alloc (.cells #[.slice A n c] 69)).alloc (.cells #[.int .i64 k] 3) := by
 have hmf : ∀ (fn : Fn) (first cap : Array Value) (w : World), (Instr.makeFunc fn first cap).run Tryz.prog w = .ok (.func fn first cap) w := fun _ _ _ _ => rfl
 go_enter Tryz.func56, Tryz.ntmps56
 go_wp2_with fail
 go_ret
 exact ⟨rfl, rfl⟩
set_option maxRecDepth 100000 in
set_option maxHeartbeats 6400000 in
theorem everyItem1_own (w : World) (P : Nat → Prop) (hP : ∀ b, P b → b < w.heap.size) : ∀ (N : Nat) (l : List It) (k : Nat) (w1 : World) (CB FB : Nat) (v : Value), N ≤ 1000 → (txL l).length < N → OkL l k → k ≤ 9 → RowAt w P l v → Same P w w1 → Blk w1 CB 69 #[v] → Blk w1 FB 3 #[.int .i64 k] →
  SeqEv 3 w P w1 (evL l k) CB FB := by
 intro N
 induction N with
 | zero => intro l k w1 CB FB v _ hN; omega
 | succ N IH =>
  intro l k w1 CB FB v hN1 hN hok hk hrow hsame hC hF ln J W hW hJ hY h0
  obtain ⟨xs, ⟨A, cap, rfl, hcells⟩, hall⟩ := hrow
  have hlen := hall.len
  have HLEN := Lib.hid hlen
  have hl1000 : xs.length ≤ 1000 := by have := txL_length l; omega
  have HCL := Lib.hid hcells
  have HALL := Lib.hid hall
  have HOK := Lib.hid hok
  have HN := Lib.hid hN
  have hCl : CB < W.heap.size := Nat.lt_of_lt_of_le hC.lt hW.size
  have hFl : FB < W.heap.size := Nat.lt_of_lt_of_le hF.lt hW.size
  have HC := Lib.hid (hC.below hW hC.lt)
  have HF := Lib.hid (hF.below hW hF.lt)
  have HSW : Hid (∀ b, P b → W.heap[b]? = w.heap[b]?) := fun b hb => (hW.block b (by have := hP b hb; have := hsame.1; omega)).trans (hsame.2 b (hP b hb) hb)
  have HRL : Hid (∀ b, (P b ∨ b = CB ∨ b = FB) → b < W.heap.size) := fun b hb => by
   rcases hb with hb | rfl | rfl
   ·have := hP b hb; have := hsame.1; have := hW.size; omega
   ·exact hCl
   ·exact hFl
  have HPL := Lib.hid hP
  have hwW : w.heap.size ≤ W.heap.size := Nat.le_trans hsame.1 hW.size
  have c1 := HC.out.cell 0
  have HY := Lib.hid hY
  have HJ := Lib.hid hJ
  have HIH := Lib.hid IH
  have HJ0 := Lib.hid h0
  clear hlen hcells hall hok hN hC hF hsame hW hJ hY IH h0 hP
  refine callsIn_of_wp_marks Tryz.func100 rfl trivial ?_ rfl
  simp only [Tryz.ntmps100, List.size_toArray, List.length_cons, List.length_nil, Nat.reduceAdd, Nat.reduceSub, Array.replicate_succ, Array.replicate_zero, List.push_toArray, List.append_toArray, List.nil_append, List.cons_append]
  refine wpIn_mono (Q := calm _) ?_ calm_le
  gi_wp2_with fail
  have HI0 : Hid (EvInv W (fun b => P b ∨ b = CB ∨ b = FB) W.heap.size ln J (more (fun _ => False) W (W.alloc (.cells #[.func (.yield ln) #[] #[]] 145))) [] [] (W.alloc (.cells #[.func (.yield ln) #[] #[]] 145))) := by
   refine ⟨HJ.out _ _ _ _ HJ0.out (Turns.alloc _ _ _), .inr ⟨Nat.le_refl _, by simp⟩, Blk.new W _ _, fun b hb => Below.heap_alloc W _ b (HRL.out b hb), by simp, fun b hb => ?_, (fun D hD => by cases hD), List.nodup_nil⟩
   rcases hb with hb | hb
   ·exact hb.elim
   ·exact hb
  clear HJ0 c1
  refine wpIn_loop_ghost_k (fun gk a wr => ∃ u4 u5 u6 u7 u8 u9 u10 u11 u12 u16 u17 u18 u19 u20 u21 u22 u23 u24 u25 u26 u27 u28 u29 u30 u31 u32 u33 u34 u35 u36 u37 u38 u39 u40 u41 u42 u43 u44 u45 u46 u47 u48 u49 u50 u51 O pre j ds, a = { tmps := #[.func (.yield ln) #[] #[], .pointer (some ⟨CB, 0, none⟩), .pointer (some ⟨FB, 0, none⟩), .pointer (some ⟨W.heap.size, 0, none⟩), u4, u5, u6, u7, u8, u9, u10, u11, u12, .slice A xs.length cap, .int .i64 xs.length, .int .i64 (j : Nat), u16, u17, u18, u19, u20, u21, u22, u23, u24, u25, u26, u27, u28, u29, u30, u31, u32, u33, u34, u35, u36, u37, u38, u39, u40, u41, u42, u43, u44, u45, u46, u47, u48, u49, u50, u51], defers := mks ds } ∧ gk = l.length - j ∧ j ≤ l.length ∧ Hid (EvAll w P (evL (l.take j) k) pre) ∧ Hid (EvInv W (fun b => P b ∨ b = CB ∨ b = FB) W.heap.size ln J O pre ds wr)) l.length ?_ ?_
  ·refine ⟨_, _, _, _, _, _, _, _, _, _, _, _, _, _, _, _, _, _, _, _, _, _, _, _, _, _, _, _, _, _, _, _, _, _, _, _, _, _, _, _, _, _, _, _, _, _, [], 0, [], rfl, by simp, Nat.zero_le _, ⟨by rw [List.take_zero, evL]; rfl, fun x hx => by cases hx⟩, HI0.out⟩
  ·rintro gk a wr ⟨u4, u5, u6, u7, u8, u9, u10, u11, u12, u16, u17, u18, u19, u20, u21, u22, u23, u24, u25, u26, u27, u28, u29, u30, u31, u32, u33, u34, u35, u36, u37, u38, u39, u40, u41, u42, u43, u44, u45, u46, u47, u48, u49, u50, u51, O, pre, j, ds, rfl, rfl, hj, HEV, HINV⟩ J' K hJ' hK
   by_cases hjl : j < l.length
   ·obtain ⟨vj, hvj, hit⟩ := HALL.out.at_ j hjl
    obtain ⟨T, x, F, b0, bA, bn, bk, hd⟩ := item_disp hit
    obtain rfl := hd.val
    have hxl : j < xs.length := by have := HLEN.out; omega
    obtain ⟨b, off, rfl, hbl, hPb, hcell⟩ := HCL.out (by omega)
    have x0 : wr.cell? ⟨b, off + j, none⟩ = some (.iface T x) := by
     rw [cell_same ((HINV.out.keep b (.inl hPb)).trans (HSW.out b hPb)) (off + j), hcell j hxl, ← List.getElem?_eq_getElem hxl]; exact hvj
    have cY : wr.cell? ⟨W.heap.size, 0, none⟩ = some (.func (.yield ln) #[] #[]) := HINV.out.yb.cell 0
    have c2 : wr.cell? ⟨FB, 0, none⟩ = some (.int .i64 k) := by
     rw [cell_same (HINV.out.keep FB (.inr (.inr rfl))) 0]; exact HF.out.cell 0
    have hnx : EvIn w P (evL l k) (pre ++ [(k, l[j], .iface T x)]) := by
     refine ⟨?_, fun y hy => ?_⟩
     ·rw [List.map_append, HEV.out.1]; exact evL_prefix hjl
     ·rcases List.mem_append.1 hy with hy | hy
      ·exact HEV.out.2 y hy
      ·rw [List.mem_singleton.1 hy]; exact hit
    obtain ⟨fn, tmps, assign, body, hy, hRd⟩ := HY.out O pre (k, l[j], .iface T x) wr HINV.out.j hnx
    have hy' : (Instr.yield ln #[.int .i64 k, .iface T x]).run Tryz.prog wr = .ok (.round ln fn tmps assign body) wr := hy
    have HNX := Lib.hid hnx
    have HIT := Lib.hid hit
    have HD := Lib.hid hd
    have q1 : decide ((j : Int) < (xs.length : Int)) = true := decide_eq_true (by omega)
    clear hy hnx hcell hit hd hvj
    gi_wp2_with fail
    refine hRd.mono ?_
    rintro e W3 ⟨rfl, hJ3, hk3⟩
    have HINV3 := Lib.hid (HINV.out.round HRL.out hJ3 hk3)
    have c2 : W3.cell? ⟨FB, 0, none⟩ = some (.int .i64 k) := by
     rw [cell_same (HINV3.out.keep FB (.inr (.inr rfl))) 0]; exact HF.out.cell 0
    have ha := HD.out.asrt
    have hlk := HD.out.look
    have hen := HD.out.enter
    have hwr := HINV3.out.size
    clear hJ3 hk3 hy' x0 cY
    have HINV4 := Lib.hid (HINV3.out.below HJ.out HRL.out ((Below.refl _ W3).alloc (Nat.le_refl _) (.cells #[.bool b0, .slice bA bn bk] 147)))
    have HW := Lib.hid (HD.out.goes w P (W3.alloc (.cells #[.bool b0, .slice bA bn bk] 147)) HIT.out ⟨by simp; omega, fun b hb hp => (HINV4.out.keep b (.inl hp)).trans (HSW.out b hp)⟩)
    obtain ⟨k', hk'⟩ : ∃ k', k' = (if frI l[j] = true then k + 1 else k) := ⟨_, rfl⟩
    have HK' := Lib.hid hk'
    have hk9 : k' ≤ 9 := by
     rw [hk']
     split
     ·have := okI_frame (okL_get HOK.out l[j] (List.getElem_mem hjl)) (by assumption); omega
     ·exact hk
    have s1 : IntKind.i64.wrap ((k : Int) + 1) = (k : Int) + 1 := IntWalk.i64_in _ (by omega)
    have HE6 : Hid (Value.int .i64 ((k' : Nat) : Int) = (if frI l[j] = true then Value.int .i64 ((k : Int) + 1) else Value.int .i64 (k : Int))) := by
     show _ = _
     rw [hk']
     split <;> simp
    clear hk'
    obtain ⟨W4, hW4⟩ : ∃ W4, W4 = W3.alloc (.cells #[.bool b0, .slice bA bn bk] 147) := ⟨_, rfl⟩
    rw [← hW4] at HINV4 HW
    have HW4 := Lib.hid hW4
    clear hW4
    cases hfr : frI l[j]
    any_goals
     rw [hfr] at ha HE6
     gi_wp2_with fail
     rw [← HW4.out]
     refine ⟨trivial, (callsIn_wide.2 HW.out).mono ?_⟩
     rintro e W5 ⟨A2, k2, vs2, rfl, hr2, hrows, hb5⟩
     have HINV5 := Lib.hid (HINV4.out.below HJ.out HRL.out hb5)
     have HR2 := Lib.hid hr2
     have HROWS := Lib.hid hrows
     have HVL := Lib.hid hrows.len
     have hv1000 : vs2.length ≤ 1000 := by have := hrows.len; have := bod_length l[j]; have := txL_mem (List.getElem_mem hjl); have := HN.out; omega
     clear hr2 hrows hb5 ha hlk hen c2
     gi_wp2_with fail
     refine wpIn_loop_ghost_k (fun gk a wr => ∃ u4 u5 u7 u8 u9 u10 u11 u12 u16 u17 u18 u19 u20 u21 u22 u23 u24 u25 u26 u27 u28 u29 u30 u31 u32 u33 u37 u38 u39 u40 u41 u42 u43 u44 u45 u46 u47 u48 u49 u50 u51 O2 pre2 m ds2, a = { tmps := #[.func (.yield ln) #[] #[], .pointer (some ⟨CB, 0, none⟩), .pointer (some ⟨FB, 0, none⟩), .pointer (some ⟨W.heap.size, 0, none⟩), u4, u5, .int .i64 (k' : Nat), u7, u8, u9, u10, u11, u12, .slice (some ⟨b, off, none⟩) xs.length cap, .int .i64 xs.length, .int .i64 (j : Nat), u16, u17, u18, u19, u20, u21, u22, u23, u24, u25, u26, u27, u28, u29, u30, u31, u32, u33, .slice A2 vs2.length k2, .int .i64 vs2.length, .int .i64 (m : Nat), u37, u38, u39, u40, u41, u42, u43, u44, u45, u46, u47, u48, u49, u50, u51], defers := mks ds2 } ∧ gk = vs2.length - m ∧ m ≤ vs2.length ∧ Hid (EvAll w P (evL (l.take j) k ++ (k, l[j]) :: evB ((bodI l[j]).take m) k') pre2) ∧ Hid (EvInv W (fun b => P b ∨ b = CB ∨ b = FB) W.heap.size ln J O2 pre2 ds2 wr) ∧ Hid (∀ b, W4.heap.size ≤ b → b < W5.heap.size → O2 b ∧ wr.heap[b]? = W5.heap[b]?)) vs2.length ?_ ?_
     ·refine ⟨_, _, _, _, _, _, _, _, _, _, _, _, _, _, _, _, _, _, _, _, _, _, _, _, _, _, _, _, _, _, _, _, _, _, _, _, _, _, _, _, _, more (more O W3 W4) W4 W5, pre ++ [(k, l[j], Value.iface T x)], 0, ds, by rw [HE6.out]; rfl, by simp, Nat.zero_le _, ⟨?_, HNX.out.2⟩, HINV5.out, fun b h1 h2 => ⟨.inr ⟨h1, h2⟩, rfl⟩⟩
      rw [List.map_append, HEV.out.1, List.take_zero, evB]; rfl
     ·rintro gk a wr2 ⟨u4, u5, u7, u8, u9, u10, u11, u12, u16, u17, u18, u19, u20, u21, u22, u23, u24, u25, u26, u27, u28, u29, u30, u31, u32, u33, u37, u38, u39, u40, u41, u42, u43, u44, u45, u46, u47, u48, u49, u50, u51, O2, pre2, m, ds2, rfl, rfl, hm, HEV2, HINV2, HB2⟩ J2 K2 hJ2 hK2
      by_cases hml : m < vs2.length
      ·have hmb : m < (bodI l[j]).length := by have := HVL.out; omega
       obtain ⟨vm, hvm, hrowm⟩ := HROWS.out.at_ m hmb
       obtain ⟨A6, k6, m6, rfl, hrowm⟩ := rowAt_form hrowm
       obtain ⟨A2', cap2', e2, hc2⟩ := HR2.out
       obtain ⟨b2, off2, e3, hb2l, hb2p, hcell2⟩ := hc2 (by omega)
       injection e2 with e2 _ e4
       subst e2 e3 e4
       have hb2w : wr2.heap[b2]? = W5.heap[b2]? := by
        rcases hb2p with hp | hp
        ·exact (HINV2.out.keep b2 (.inl hp)).trans (HINV5.out.keep b2 (.inl hp)).symm
        ·exact (HB2.out b2 hp hb2l).2
       have x0 : wr2.cell? ⟨b2, off2 + m, none⟩ = some (.slice A6 m6 k6) := by
        rw [cell_same hb2w (off2 + m), hcell2 m hml, ← List.getElem?_eq_getElem hml]; exact hvm
       have HROWM := Lib.hid hrowm
       have q1 : decide ((m : Int) < (vs2.length : Int)) = true := decide_eq_true (by omega)
       clear hvm hrowm hc2 hcell2 hb2w
       gi_wp2_with fail
       refine ⟨trivial, (callsIn_wide.2 (everyItem_any A6 m6 k6 k' wr2)).mono ?_⟩
       rintro e W6 ⟨rfl, hW6⟩
       have hb6 : Below wr2.heap.size wr2 W6 := by rw [hW6]; exact ((Below.refl _ _).alloc (Nat.le_refl _) _).alloc (by simp) _
       have hB1 : Blk W6 wr2.heap.size 69 #[.slice A6 m6 k6] := by rw [hW6]; exact (Blk.new wr2 _ _).alloc _
       have hB2 : Blk W6 (wr2.heap.size + 1) 3 #[.int .i64 k'] := by
        have := Blk.new (wr2.alloc (.cells #[.slice A6 m6 k6] 69)) 3 #[.int .i64 k']
        rw [World.size_alloc] at this
        rw [hW6]; exact this
       have hs6 : W6.heap.size = wr2.heap.size + 2 := by rw [hW6]; simp
       have HINV6 := Lib.hid (HINV2.out.below HJ.out HRL.out hb6)
       have hwr2 := HINV2.out.size
       have HSEQ := Lib.hid (seqAll_wide (m := 2) (HIH.out (bodI l[j])[m] k' W6 wr2.heap.size (wr2.heap.size + 1) (.slice A6 m6 k6) (by omega) (by
        have h1 := bod_shorter (List.getElem_mem hmb)
        have h2 := txL_mem (List.getElem_mem hjl)
        have h3 := HN.out
        omega) (by
        have := okI_bod (okL_get HOK.out l[j] (List.getElem_mem hjl)) _ (List.getElem_mem hmb)
        rw [← HK'.out] at this; exact this) hk9 HROWM.out ⟨by omega, fun b hb hp => (HINV6.out.keep b (.inl hp)).trans (HSW.out b hp)⟩ hB1 hB2))
       have HB6 := Lib.hid hb6
       have hy6 : W.heap.size < wr2.heap.size := HINV2.out.yb.lt
       clear hW6 hb6 hB1 hB2 x0
       gi_wp2_with fail
       refine wpIn_rangeFunc_all rfl (by decide) (gf := 100) (lb := #[.pointer (some ⟨wr2.heap.size, 0, none⟩), .pointer (some ⟨wr2.heap.size + 1, 0, none⟩)]) rfl trivial (enters_of Tryz.func100 (by kernel_rfl) rfl) HSEQ.out (Below.refl _ _) (fun _ => rfl) (fun b hb => ?_)
        (fun Oin pre3 Wt => ∃ Oo, (∀ b, Oin b → Oo b) ∧ (∀ b, more O2 wr2 W6 b → Oo b) ∧ Hid (EvInv W (fun b => P b ∨ b = CB ∨ b = FB) W.heap.size ln J Oo (pre2 ++ pre3) ds2 Wt) ∧ Hid (∀ b, b < W6.heap.size → more O2 wr2 W6 b → Wt.heap[b]? = W6.heap[b]?))
        ?_ ?_ (fun x3 : Nat × It × Value => { tmps := #[.func (.yield ln) #[] #[], .pointer (some ⟨CB, 0, none⟩), .pointer (some ⟨FB, 0, none⟩), .pointer (some ⟨W.heap.size, 0, none⟩), u4, u5, .int .i64 (k' : Nat), u7, u8, u9, .slice A6 m6 k6, .int .i64 x3.1, x3.2.2, .slice (some ⟨b, off, none⟩) xs.length cap, .int .i64 xs.length, .int .i64 (j : Nat), u16, u17, u18, u19, u20, u21, u22, u23, u24, u25, u26, u27, u28, u29, u30, u31, u32, u33, .slice (some ⟨b2, off2, none⟩) vs2.length k2, .int .i64 vs2.length, .int .i64 (m : Nat), .bool true, .pointer (some ⟨b2, off2 + m, none⟩), .slice A6 m6 k6, .slice A6 m6 k6, .int .i64 (k' : Nat), .func (.func 100) #[] #[.pointer (some ⟨wr2.heap.size, 0, none⟩), .pointer (some ⟨wr2.heap.size + 1, 0, none⟩)], .int .i64 x3.1, x3.2.2, u45, u46, u47, u48, u49, u50, u51], defers := [] }) ?_ ?_ ?_
       ·rcases hb with hb | hb | hb
        ·have := HPL.out b hb; omega
        ·omega
        ·omega
       ·rintro Ot pre3 X Y hle hO ⟨Oo, h1, h2, h3, h4⟩ hT
        refine ⟨more Oo X Y, ?_, fun b hb => .inl (h2 b hb), h3.out.turns HJ.out HRL.out hT h1 ?_ ?_ ?_, ?_⟩
        ·rintro b (hb | hb)
         ·exact .inl (h1 b hb)
         ·exact .inr hb
        ·intro hb; have := hO _ hb; omega
        ·intro D hD hb
         have := hO _ hb
         have := HINV2.out.own D (HINV2.out.marks D hD).1
         omega
        ·intro b hb hb'; have := hO _ hb'; have := HRL.out b hb; omega
        ·intro b hb hb'
         exact (hT.block b (by omega) fun e => by have := hO b e; omega).trans (h4.out b hb hb')
       ·exact ⟨_, fun b hb => hb.elim, fun b hb => hb, by rw [List.append_nil]; exact HINV6.out, fun b _ _ => rfl⟩
       ·intro l3 x3 W7 K7 hK7
        gi_wp2
        exact hK7
       ·rintro l3 Oin pre3 x3 Wt hle hO ⟨Oo, h1, h2, h3, h4⟩ hnx3
        obtain ⟨xk, xi, xv⟩ := x3
        have hnx4 : EvIn w P (evL l k) (pre2 ++ pre3 ++ [(xk, xi, xv)]) := by
         refine ⟨?_, fun y hy => ?_⟩
         ·rw [List.append_assoc, List.map_append, HEV2.out.1]
          obtain ⟨t, ht⟩ := hnx3.1
          have h5 := evL_prefix_bod (k := k) hjl hmb
          rw [← HK'.out] at h5
          refine List.IsPrefix.trans ⟨t, ?_⟩ h5
          rw [← ht]; simp
         ·rw [List.append_assoc] at hy
          rcases List.mem_append.1 hy with hy | hy
          ·exact HEV2.out.2 y hy
          ·exact hnx3.2 y hy
        obtain ⟨fn, tmps, assign, body, hy, hRd⟩ := HY.out Oo (pre2 ++ pre3) (xk, xi, xv) Wt h3.out.j hnx4
        have hy' : (Instr.yield ln #[.int .i64 xk, xv]).run Tryz.prog Wt = .ok (.round ln fn tmps assign body) Wt := hy
        have cY : Wt.cell? ⟨W.heap.size, 0, none⟩ = some (.func (.yield ln) #[] #[]) := h3.out.yb.cell 0
        obtain ⟨T7, x7, rfl⟩ := (hnx3.2 (xk, xi, xv) (by simp)).iface
        clear hy hnx4
        gi_wp2_with fail
        refine (roundIn_in hRd).mono ?_
        rintro e W7 ⟨rfl, hJ7, hk7⟩
        have H7 := Lib.hid (h3.out.round HRL.out hJ7 hk7)
        have HK7 : Hid (Keeps (fun b => (P b ∨ b = CB ∨ b = FB) ∨ Oo b) Wt W7) := hk7
        clear hJ7 hk7 hy' cY
        gi_wp2_with fail
        refine ⟨HK7.out.fewer fun b hb => ?_, Oo, h1, h2, ?_, fun b hb hb' => (HK7.out.2 b (by omega) (.inr (h2 b hb'))).trans (h4.out b hb hb')⟩
        ·rcases hb with (hb | hb | hb) | hb
         ·exact .inl (.inl hb)
         ·exact .inr (h2 b (.inr ⟨by omega, by omega⟩))
         ·exact .inr (h2 b (.inr ⟨by omega, by omega⟩))
         ·exact .inr (h1 b hb)
        ·rw [← List.append_assoc]; exact H7.out
       ·rintro D Oin xs3 Wt hD hO hS ⟨Oo, h1, h2, h3, h4⟩ hOD hKD
        have s2 : IntKind.i64.wrap ((m : Int) + 1) = (m : Int) + 1 := IntWalk.i64_in _ (by omega)
        have hm2 : (m : Int) + 1 ≤ 1001 := by omega
        have hm3 : (0 : Int) ≤ (m : Int) + 1 := by omega
        have HDD := Lib.hid hD
        have HKD := Lib.hid hKD
        have HSS := Lib.hid hS
        clear hD hKD hS
        gi_wp2_with fail
        refine Handed.intro (vs2.length - (m + 1)) (by omega) (hJ2 _ _ _ ?_)
        have hsz5 : ∀ b, W4.heap.size ≤ b → b < W5.heap.size → b < wr2.heap.size := fun b hb1 hb2 => (HINV2.out.own b (HB2.out b hb1 hb2).1).2
        refine ⟨_, _, _, _, _, _, _, _, _, _, _, _, _, _, _, _, _, _, _, _, _, _, _, _, _, _, _, _, _, _, _, _, _, _, _, _, _, _, _, _, _, Oo, pre2 ++ xs3, m + 1, D :: ds2, by rw [mks_cons]; rfl, rfl, by omega, ?_, ?_, fun b hb1 hb2 => ⟨h2 b (.inl (HB2.out b hb1 hb2).1), ?_⟩⟩
        ·refine ⟨?_, fun y hy => ?_⟩
         ·rw [List.map_append, HEV2.out.1, HSS.out.1, evB_step hmb]; simp
         ·rcases List.mem_append.1 hy with hy | hy
          ·exact HEV2.out.2 y hy
          ·exact HSS.out.2 y hy
        ·have h5 := h3.out
         refine ⟨h5.j, h5.yo, h5.yb, h5.keep, h5.size, h5.own, fun E hE => ?_, List.nodup_cons.2 ⟨fun hE => ?_, h5.nodup⟩⟩
         ·rcases List.mem_cons.1 hE with rfl | hE
          ·exact ⟨h1 E hOD, HKD.out⟩
          ·exact h5.marks E hE
         ·have := HINV2.out.own D (HINV2.out.marks D hE).1
          have := HDD.out
          omega
        ·have h6 := hsz5 b hb1 hb2
         exact ((h4.out b (by omega) (.inl (HB2.out b hb1 hb2).1)).trans (HB6.out.block b h6)).trans (HB2.out b hb1 hb2).2
      ·have q1 : decide ((m : Int) < (vs2.length : Int)) = false := decide_eq_false (by omega)
       have q2 : ¬ m < vs2.length := hml
       have s3 : IntKind.i64.wrap ((j : Int) + 1) = (j : Int) + 1 := IntWalk.i64_in _ (by omega)
       have hj2 : (j : Int) + 1 ≤ 1001 := by omega
       have hj3 : (0 : Int) ≤ (j : Int) + 1 := by omega
       gi_wp2_with fail
       refine Handed.intro (l.length - (j + 1)) (by omega) (hJ' _ _ _ ?_)
       refine ⟨_, _, _, _, _, _, _, _, _, _, _, _, _, _, _, _, _, _, _, _, _, _, _, _, _, _, _, _, _, _, _, _, _, _, _, _, _, _, _, _, _, _, _, _, _, O2, pre2, j + 1, ds2, rfl, rfl, by omega, ⟨?_, HEV2.out.2⟩, HINV2.out⟩
       rw [HEV2.out.1, evL_step hjl, ← HK'.out, List.take_of_length_le (l := bodI l[j]) (i := m) (by have := HVL.out; omega)]
   ·have q1 : decide ((j : Int) < (xs.length : Int)) = false := decide_eq_false (by have := HLEN.out; omega)
    have q2 : ¬ j < xs.length := by have := HLEN.out; omega
    gi_wp2_with fail
    refine leaves_marks ds wr (fun D hD => (HINV.out.marks D hD).2) HINV.out.nodup fun w2 hT => ?_
    have hjl2 : j = l.length := by omega
    refine ⟨_, results_none rfl _ _ _, ⟨_, rfl⟩, pre, ?_, more O wr w2, HJ.out O pre wr w2 HINV.out.j (hT.wider fun b hb => (HINV.out.marks b hb).1)⟩
    have h5 := HEV.out
    rw [hjl2, List.take_length] at h5
    exact h5
end Go.Proofs.YtlkfakdghjaoaaaGreatDoor
