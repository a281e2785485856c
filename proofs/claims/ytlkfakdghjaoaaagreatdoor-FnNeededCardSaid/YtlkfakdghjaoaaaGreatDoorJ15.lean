import Derived.Test.YtlkfakdghjaoaaaGreatDoorWayOrder
import Derived.Test.YtlkfakdghjaoaaaGreatDoorLoopMath
import Derived.Test.YtlkfakdghjaoaaaGreatDoorJ11
set_option maxRecDepth 100000
set_option maxHeartbeats 4000000
namespace Go.Proofs.YtlkfakdghjaoaaaGreatDoor
open Go.RowKit Go.Sort
def NKeep (w w' : World) : Prop := w.heap.size ≤ w'.heap.size ∧ ∀ k cs, Blk w k 95 cs → Blk w' k 95 cs
theorem NKeep.refl (w : World) : NKeep w w := ⟨Nat.le_refl _, fun _ _ h => h⟩
theorem NKeep.trans {a b c : World} (h : NKeep a b) (k : NKeep b c) : NKeep a c := ⟨Nat.le_trans h.1 k.1, fun i cs hi => k.2 i cs (h.2 i cs hi)⟩
theorem NKeep.of_below {w w' : World} (h : Below w.heap.size w w') : NKeep w w' := ⟨h.size, fun k _ hk => (h.block k hk.lt).trans hk⟩
theorem uU {w : World} {k : Nat} {t t' : TypeId} {cs cs' : Array Value} (h : Blk w k t cs) (h' : Blk w k t' cs') : t = t' := by
 unfold Blk at h h'
 rw [h] at h'
 injection h' with h1
 injection h1 with _ h2 _
theorem NKeep.setCell {w : World} {b i : Nat} {t : TypeId} {cs : Array Value} (hb : Blk w b t cs) (ht : t ≠ 95) (u : Value) : NKeep w (w.setCell ⟨b, i, none⟩ u) :=
 ⟨by simp, fun k cs2 hk => (Below.heap_setCell w ⟨b, i, none⟩ u k (fun e => by
   have e' : k = b := e
   subst e'
   exact ht (uU hb hk))).trans hk⟩
theorem NKeep.grown {w w' : World} {B : Nat} {e : TypeId} {v : Value} {n : Nat} {xs : List Value} (hown : w.ownsRow B e 1 v n xs) (he : e ≠ 95) (hg : w.grownBy w' v.ownBlock) : NKeep w w' :=
 ⟨hg.size, fun k cs hk => (hg.block k hk.lt (fun e2 => by
   rcases hown.2 with ⟨rfl, _⟩ | ⟨gb, cap, cur, rfl, _, hgb, _⟩
   ·cases e2
   ·simp only [Value.ownBlock, Option.some.injEq] at e2
    exact he (uU (show Blk w k e cur from e2 ▸ hgb) hk))).trans hk⟩
end Go.Proofs.YtlkfakdghjaoaaaGreatDoor
namespace Go.Proofs.YtlkfakdghjaoaaaGreatDoor
open Go.RowKit Go.Sort Go.Shelf Go.Maps Go.WideMaps
attribute [local go_sem] Oper.semAt_some
def KindsAt (w : World) (b : Nat) (ks : List Nat) : Prop := Blk w b 90 (ks.map fun (k : Nat) => Value.int .i64 k).toArray
theorem KindsAt.below {w w' : World} {b : Nat} {ks : List Nat} (h : KindsAt w b ks) (hb : Below w.heap.size w w') : KindsAt w' b ks := (hb.block _ (Blk.lt h)).trans h
theorem KindsAt.get {w : World} {b : Nat} {ks : List Nat} (h : KindsAt w b ks) {k : Nat} (hk : k < ks.length) : w.cell? ⟨b, k, none⟩ = some (.int .i64 (ks[k] : Nat)) := by
 rw [Blk.cell h, List.getElem?_toArray, List.getElem?_map, List.getElem?_eq_getElem hk]; rfl
theorem ui (b : Nat) (ks : List Nat) (x : Nat) (w : World) (h : KindsAt w b ks) (hl : ks.length ≤ 8) (hx : x ∈ ks) :
  Calls Tryz.prog 159 #[.slice (some ⟨b, 0, none⟩) ks.length ks.length, .int .i64 x] w fun e w' => (∃ k : Nat, e = .returned (.int .i64 k)) ∧ w = w' := by
 have H := GR h
 have HX := GR hx
 clear h hx
 go_enter Tryz.func159, Tryz.ntmps159
 go_wp2_with fail
 go_loop [8] (fun i => ∃ k : Nat, k ≤ ks.length ∧ i = .int .i64 k ∧ Hid (∀ j (h : j < ks.length), j < k → ks[j] ≠ x)) (fun i => ks.length - (intOf i).toNat)
 case atStart => exact ⟨0, Nat.zero_le _, rfl, fun j _ h => absurd h (by omega)⟩
 case round =>
  obtain ⟨k, hk, rfl, HK⟩ := hrel
  by_cases hlt : k < ks.length
  ·have c0 := H.out.get hlt
   obtain ⟨y, hy⟩ : ∃ y, y = ks[k] := ⟨_, rfl⟩
   rw [← hy] at c0
   have HY := GR hy
   clear hy
   by_cases e : x = y
   ·have eI : ((x : Int) == (y : Int)) = true := by rw [e]; simp
    clear e
    go_wp2_with fail
    go_ret
    exact ⟨⟨k, rfl⟩, rfl⟩
   ·have eI : ((x : Int) == (y : Int)) = false := beq_eq_false_iff_ne.2 fun h => e (Int.ofNat.inj h)
    have HE := GR e
    clear e
    go_wp2_with fail
    go_round
    case rel =>
     refine ⟨k + 1, by omega, by go_num, fun j h hj => ?_⟩
     rcases Nat.lt_succ_iff_lt_or_eq.1 hj with hj | rfl
     ·exact HK.out j h hj
     ·rw [← HY.out]; exact fun e => HE.out e.symm
    case measure => simp [intOf]; omega
  ·exfalso
   obtain ⟨j, hj, e⟩ := List.getElem_of_mem HX.out
   exact HK.out j hj (by omega) e
theorem uV (b : Nat) (ks : List Nat) (x : Nat) (w : World) (h : KindsAt w b ks) (hl : ks.length ≤ 8) (hx : x ∉ ks) :
  Calls Tryz.prog 159 #[.slice (some ⟨b, 0, none⟩) ks.length ks.length, .int .i64 x] w fun e w' => e = .returned (.int .i64 (-1)) ∧ w = w' := by
 have H := GR h
 have HX := GR hx
 clear h hx
 go_enter Tryz.func159, Tryz.ntmps159
 go_wp2_with fail
 go_loop [8] (fun i => ∃ k : Nat, k ≤ ks.length ∧ i = .int .i64 k) (fun i => ks.length - (intOf i).toNat)
 case atStart => exact ⟨0, Nat.zero_le _, rfl⟩
 case round =>
  obtain ⟨k, hk, rfl⟩ := hrel
  by_cases hlt : k < ks.length
  ·have c0 := H.out.get hlt
   obtain ⟨y, hy⟩ : ∃ y, y = ks[k] := ⟨_, rfl⟩
   rw [← hy] at c0
   have e : ¬ x = y := fun e => HX.out (e ▸ hy ▸ List.getElem_mem hlt)
   have eI : ((x : Int) == (y : Int)) = false := beq_eq_false_iff_ne.2 fun h => e (Int.ofNat.inj h)
   clear e hy
   go_wp2_with fail
   go_round
   case rel => exact ⟨k + 1, by omega, by go_num⟩
   case measure => simp [intOf]; omega
  ·go_wp2_with fail
   go_ret
   exact ⟨rfl, rfl⟩
theorem j3 (b : Nat) (ks : List Nat) (x : Nat) (w : World) (h : KindsAt w b ks) (hl : ks.length ≤ 8) :
  Calls Tryz.prog 118 #[.slice (some ⟨b, 0, none⟩) ks.length ks.length, .int .i64 x] w fun e w' => e = .returned (.bool (decide (x ∈ ks))) ∧ w = w' := by
 by_cases hx : x ∈ ks
 ·rw [decide_eq_true hx]
  have HC := GR (ui b ks x w h hl hx)
  clear h hx
  go_enter Tryz.func118, Tryz.ntmps118
  go_wp2_with fail
  refine HC.out.mono ?_
  rintro e w1 ⟨⟨k, rfl⟩, rfl⟩
  have hk0 : (0 : Int) ≤ (k : Int) := by omega
  go_wp2_with fail
  go_ret
  exact ⟨rfl, rfl⟩
 ·rw [decide_eq_false hx]
  have HC := GR (uV b ks x w h hl hx)
  clear h hx
  go_enter Tryz.func118, Tryz.ntmps118
  go_wp2_with fail
  refine HC.out.mono ?_
  rintro e w1 ⟨rfl, rfl⟩
  go_wp2_with fail
  go_ret
  exact ⟨rfl, rfl⟩
theorem uj (K : Nat → Bool) (ks : List Nat) (kb : Nat) (hK : ∀ k, K k = decide (k ∈ ks)) (hkl : ks.length ≤ 8) (WB tb NB MB cap : Nat) (A : Option Addr) (g : List Bl) (B off tcap : Nat) (S : Nat → Nat) (t : Nat) (w : World) (hv : aa g = true)
  (hO : OrdAt w WB tb NB MB A cap g B off tcap S) (hM : KMap w g MB 52 (fun i t => Rch g [] i ∧ t ∈ ai g i)) (hks : KindsAt w kb ks) (htl : t < g.length) :
  Calls Tryz.prog 158 #[.pointer (some ⟨WB, 0, none⟩), ag NB t, .slice (some ⟨kb, 0, none⟩) ks.length ks.length] w fun e w' => ∃ v, e = .returned v ∧ w'.ownsRow w.heap.size 95 1 v (dg g K t).length ((dg g K t).map (ag NB)) ∧ Below w.heap.size w w' := by
 have h26 := (aj.1 hv).2.1
 have hrs := bO hv
 obtain ⟨ip, hip, hz0, hz1, hz2⟩ := info_parts f7
 have cT := hO.store.cell 0
 have cN := hO.tree.tree.nodes
 have HO := GR hO
 have HM := GR hM
 have HKS := GR hks
 have HV := GR hv
 have HKK := GR hK
 clear hO hM hks hv hK
 go_enter Tryz.func158, Tryz.ntmps158
 go_wp2_with fail
 go_loopw [7, 20] (fun pv iv wr => ∃ (k : Nat) (P : List Nat), k ≤ (am g).length ∧ iv = .int .i64 k ∧ Hid (P = ((am g).take k).filter fun i => decide (t ∈ ai g i) && K (aG g i t)) ∧ wr.ownsRow w.heap.size 95 1 pv P.length (P.map (ag NB)) ∧ Below w.heap.size w wr) (fun _ iv _ => (am g).length - (intOf iv).toNat)
 case atStart => exact ⟨0, [], Nat.zero_le _, rfl, rfl, World.ownsRow_nil _ _ _ _, Below.refl _ _⟩
 case round =>
  obtain ⟨k, P, hk, rfl, HP, hown, hB⟩ := hrel
  have hPl : P.length ≤ k := by
   rw [HP.out]
   have := List.length_filter_le (fun i => decide (t ∈ ai g i) && K (aG g i t)) ((am g).take k)
   have := List.length_take_le k (am g)
   omega
  have HB := GR hB
  have hsz0 := hB.size
  have HOB := GR (HO.out.below hB)
  have HMB := GR (HM.out.keep (hB.block MB HM.out.lt))
  have HKB := GR (HKS.out.below hB)
  have HOWN := GR hown
  clear hB hown
  by_cases hlt : k < (am g).length
  ·obtain ⟨x, hx⟩ : ∃ x, x = (am g)[k] := ⟨_, rfl⟩
   have hxr := (aU HV.out).1 (hx ▸ List.getElem_mem hlt : x ∈ am g)
   have hxl := hxr.lt HV.out
   have c0 : wr.cell? ⟨B, off + k, none⟩ = some (ag NB x) := by rw [hx]; exact HOB.out.tree.row k hlt
   have c9 : wr.cell? ⟨WB, 2, none⟩ = some (.map (some MB)) := HOB.out.store.cell 2
   have hWl := HOB.out.store.lt
   have HFT := GR (eO (p := fun i => decide (t ∈ ai g i) && K (aG g i t)) hlt)
   have HX := GR hx
   have HXR := GR hxr
   have HJ := GR (dO NB g x t wr.drew HV.out HOB.out.tree.nodes hxl htl)
   clear hx hxr
   by_cases htn : t ∈ ai g x
   ·have HLOOK := GR (fun (w' : World) (hb : Below wr.drew.heap.size wr.drew w') => (HMB.out.keep (w' := w') ((hb.block MB HMB.out.lt : w'.heap[MB]? = wr.drew.heap[MB]?))).look_ok hxl htl ⟨HXR.out, htn⟩)
    have HCK := GR (fun (w' : World) (hb : Below wr.drew.heap.size wr.drew w') => j3 kb ks (aG g x t) w' (KindsAt.below (w := wr.drew) (w' := w') (HKB.out.below (ab wr 1)) hb) hkl)
    obtain ⟨z, hz⟩ : ∃ z, z = aG g x t := ⟨_, rfl⟩
    rw [← hz] at HLOOK HCK
    by_cases hq : z ∈ ks
    ·have HP2 := GR (show P ++ [x] = ((am g).take (k + 1)).filter fun i => decide (t ∈ ai g i) && K (aG g i t) by
      rw [HFT.out, ← HX.out, decide_eq_true htn, HKK.out, ← hz, decide_eq_true hq, Bool.and_self, if_pos rfl, HP.out])
     rw [decide_eq_true hq] at HCK
     clear hz hq htn HOB HMB HKB
     go_wp2_with fail
     go_region_with (go_at_call 117; refine HJ.out.mono ?_; rintro e w' ⟨rfl, hb9⟩; have c10 : w'.cell? ⟨WB, 2, none⟩ = some (.map (some MB)) := (hb9.cell (p := ⟨WB, 2, none⟩) hWl).trans c9; have hlook := HLOOK.out w' hb9; have HC9 := GR (HCK.out w' hb9); have HB9 := GR hb9; clear hb9)
     all_goals
      have HO6 := GR (aW (aW HOWN.out (ab wr 1)) HB9.out)
      have HB6 := GR (HB.out.trans (((ab wr 1).trans HB9.out).mono HB.out.size))
      have hszq := HB6.out.size
      rename World => wq
      clear hlook c10 c9 c0 HB9
      go_wp2_with fail
      refine HC9.out.mono ?_
      rintro e w' ⟨rfl, rfl⟩
      go_wp2_with (at_builtin; refine wpList_append_own _ rfl _ _ 58 rfl w.heap.size 95 ip (.pointer none) 1 8 Tryz.underlying58 hip hz0 hz1 hz2 rfl (by decide) _ _ _ rfl (HO6.out.alloc _) ⟨wq.heap.size, 0, none⟩ 1 1 [ag NB x] rfl rfl ?c1 ?c2 ?c3 ?c4 ?c5 ?_)
      case c1 =>
       intro j u hj
       match j, hj with
       | 0, hj =>
        have hu : ag NB x = u := by simpa using hj
        rw [← hu]
        simp [Addr.add]
      case c2 => intro u hu; have hu' : u = ag NB x := by simpa using hu
                 subst hu'; rfl
      case c3 => unfold maxLen; omega
      case c4 => omega
      case c5 => simp; omega
      intro v' w5 hown' hgrow _
      have hsz := (HO6.out.alloc (.cells #[ag NB x] 95)).lt
      have hB5 := (HB6.out.alloc hszq (.cells #[ag NB x] 95)).grown hgrow (by simp; omega) (fun j hj => (hsz j hj).1)
      have HO5 := GR (nE hown')
      have HB5 := GR hB5
      clear hown' hsz hgrow hB5
      go_wp2_with fail
      go_roundw
      case rel => exact ⟨k + 1, P ++ [x], by omega, by go_num, HP2.out, HO5.out, HB5.out⟩
      case measure => simp [intOf]; omega
    ·have HP2 := GR (show P = ((am g).take (k + 1)).filter fun i => decide (t ∈ ai g i) && K (aG g i t) by
      rw [HFT.out, ← HX.out, HKK.out, ← hz, decide_eq_false hq, Bool.and_false, if_neg (by simp), List.append_nil, HP.out])
     rw [decide_eq_false hq] at HCK
     clear hz hq htn HOB HMB HKB
     go_wp2_with fail
     go_region_with (go_at_call 117; refine HJ.out.mono ?_; rintro e w' ⟨rfl, hb9⟩; have c10 : w'.cell? ⟨WB, 2, none⟩ = some (.map (some MB)) := (hb9.cell (p := ⟨WB, 2, none⟩) hWl).trans c9; have hlook := HLOOK.out w' hb9; have HC9 := GR (HCK.out w' hb9); have HB9 := GR hb9; clear hb9)
     all_goals
      have HO6 := GR (aW (aW HOWN.out (ab wr 1)) HB9.out)
      have HB6 := GR (HB.out.trans (((ab wr 1).trans HB9.out).mono HB.out.size))
      clear hlook c10 c9 c0 HB9
      go_wp2_with fail
      refine HC9.out.mono ?_
      rintro e w' ⟨rfl, rfl⟩
      go_wp2_with fail
      go_roundw
      case rel => exact ⟨k + 1, P, by omega, by go_num, HP2.out, HO6.out, HB6.out⟩
      case measure => simp [intOf]; omega
   ·have HLOOK := GR (fun (w' : World) (hb : Below wr.drew.heap.size wr.drew w') => (HMB.out.keep (w' := w') ((hb.block MB HMB.out.lt : w'.heap[MB]? = wr.drew.heap[MB]?))).look_no hxl htl (fun h => htn h.2))
    have HP2 := GR (show P = ((am g).take (k + 1)).filter fun i => decide (t ∈ ai g i) && K (aG g i t) by
     rw [HFT.out, ← HX.out, decide_eq_false htn, Bool.false_and, if_neg (by simp), List.append_nil, HP.out])
    clear htn HOB HMB HKB
    go_wp2_with fail
    go_region_with (go_at_call 117; refine HJ.out.mono ?_; rintro e w' ⟨rfl, hb9⟩; have c10 : w'.cell? ⟨WB, 2, none⟩ = some (.map (some MB)) := (hb9.cell (p := ⟨WB, 2, none⟩) hWl).trans c9; obtain ⟨zz, hlook⟩ := HLOOK.out w' hb9; have HB9 := GR hb9; clear hb9)
    all_goals
     have HO6 := GR (aW (aW HOWN.out (ab wr 1)) HB9.out)
     have HB6 := GR (HB.out.trans (((ab wr 1).trans HB9.out).mono HB.out.size))
     clear hlook c10 c9 c0 HB9
     go_wp2_with fail
     go_roundw
     case rel => exact ⟨k + 1, P, by omega, by go_num, HP2.out, HO6.out, HB6.out⟩
     case measure => simp [intOf]; omega
  ·have HE := GR (show P = dg g K t by rw [HP.out, List.take_of_length_le (by omega)]; rfl)
   go_wp2_with fail
   go_ret
   exact ⟨_, rfl, by rw [← HE.out]; exact HOWN.out, HB.out⟩
end Go.Proofs.YtlkfakdghjaoaaaGreatDoor
namespace Go.Proofs.YtlkfakdghjaoaaaGreatDoor
open Go.RowKit Go.Sort Go.Shelf Go.Maps Go.WideMaps
attribute [local go_sem] Oper.semAt_some
theorem oZ (m : Nat) (K : Nat → Bool) (ks : List Nat) (kb : Nat) (hK : ∀ k, K k = decide (k ∈ ks)) (hkl : ks.length ≤ 8) (WB tb NB MB cap : Nat) (A : Option Addr) (g : List Bl) (B off tcap : Nat) (S : Nat → Nat) (w : World) (hv : aa g = true)
  (hO : OrdAt w WB tb NB MB A cap g B off tcap S) (hM : KMap w g MB 52 (fun i t => Rch g [] i ∧ t ∈ ai g i)) (hks : KindsAt w kb ks) :
  Calls Tryz.prog 116 #[.pointer (some ⟨WB, 0, none⟩), .int .i64 m, .slice (some ⟨kb, 0, none⟩) ks.length ks.length] w fun e w' => ∃ v, e = .returned v ∧ w'.ownsRow w.heap.size 95 1 v (fL g m K).length ((fL g m K).map (ag NB)) ∧ Below w.heap.size w w' := by
 have h26 := (aj.1 hv).2.1
 have hrs := bO hv
 obtain ⟨ip, hip, hz0, hz1, hz2⟩ := info_parts f7
 have cT := hO.store.cell 0
 have cN := hO.tree.tree.nodes
 have HO := GR hO
 have HM := GR hM
 have HKS := GR hks
 have HV := GR hv
 have HKK := GR hK
 clear hO hM hks hv hK
 go_enter Tryz.func116, Tryz.ntmps116
 go_wp2_with fail
 go_loopw [7, 18] (fun pv iv wr => ∃ (k : Nat) (P : List Nat), k ≤ (am g).length ∧ iv = .int .i64 k ∧ Hid (P = ((am g).take k).filter fun t => decide (m ≤ (dg g K t).length)) ∧ wr.ownsRow w.heap.size 95 1 pv P.length (P.map (ag NB)) ∧ Below w.heap.size w wr) (fun _ iv _ => (am g).length - (intOf iv).toNat)
 case atStart => exact ⟨0, [], Nat.zero_le _, rfl, rfl, World.ownsRow_nil _ _ _ _, Below.refl _ _⟩
 case round =>
  obtain ⟨k, P, hk, rfl, HP, hown, hB⟩ := hrel
  have hPl : P.length ≤ k := by
   rw [HP.out]
   have := List.length_filter_le (fun t => decide (m ≤ (dg g K t).length)) ((am g).take k)
   have := List.length_take_le k (am g)
   omega
  have HB := GR hB
  have hsz0 := hB.size
  have HOB := GR (HO.out.below hB)
  have HMB := GR (HM.out.keep (hB.block MB HM.out.lt))
  have HKB := GR (HKS.out.below hB)
  have HOWN := GR hown
  clear hB hown
  by_cases hlt : k < (am g).length
  ·obtain ⟨x, hx⟩ : ∃ x, x = (am g)[k] := ⟨_, rfl⟩
   have hxr := (aU HV.out).1 (hx ▸ List.getElem_mem hlt : x ∈ am g)
   have hxl := hxr.lt HV.out
   have c0 : wr.cell? ⟨B, off + k, none⟩ = some (ag NB x) := by rw [hx]; exact HOB.out.tree.row k hlt
   have HFT := GR (eO (p := fun t => decide (m ≤ (dg g K t).length)) hlt)
   have HX := GR hx
   have HS := GR (uj K ks kb HKK.out hkl WB tb NB MB cap A g B off tcap S x wr HV.out HOB.out HMB.out HKB.out hxl)
   clear hx hxr
   go_wp2_with fail
   refine HS.out.mono ?_
   rintro e w3 ⟨v3, rfl, hown3, hb3⟩
   obtain ⟨A3, cap3, rfl, -, -⟩ := jN hown3
   have HO6 := GR (aW HOWN.out hb3)
   have HB6 := GR (HB.out.trans (hb3.mono HB.out.size))
   have hszq := HB6.out.size
   obtain ⟨n, hn⟩ : ∃ n, n = (dg g K x).length := ⟨_, rfl⟩
   rw [← hn]
   clear hown3 hb3 HS HOB HMB HKB c0
   by_cases hq : m ≤ n
   ·have hqI : (m : Int) ≤ (n : Int) := by omega
    have HP2 := GR (show P ++ [x] = ((am g).take (k + 1)).filter fun t => decide (m ≤ (dg g K t).length) by
     rw [HFT.out, ← HX.out, ← hn, decide_eq_true hq, if_pos rfl, HP.out])
    clear hn
    go_wp2_with (at_builtin; refine wpList_append_own _ rfl _ _ 58 rfl w.heap.size 95 ip (.pointer none) 1 8 Tryz.underlying58 hip hz0 hz1 hz2 rfl (by decide) _ _ _ rfl (HO6.out.alloc _) ⟨w3.heap.size, 0, none⟩ 1 1 [ag NB x] rfl rfl ?c1 ?c2 ?c3 ?c4 ?c5 ?_)
    case c1 =>
     intro j u hj
     match j, hj with
     | 0, hj =>
      have hu : ag NB x = u := by simpa using hj
      rw [← hu]
      simp [Addr.add]
    case c2 => intro u hu; have hu' : u = ag NB x := by simpa using hu
               subst hu'; rfl
    case c3 => unfold maxLen; omega
    case c4 => omega
    case c5 => simp; omega
    intro v' w5 hown' hgrow _
    have hsz := (HO6.out.alloc (.cells #[ag NB x] 95)).lt
    have hB5 := (HB6.out.alloc hszq (.cells #[ag NB x] 95)).grown hgrow (by simp; omega) (fun j hj => (hsz j hj).1)
    have HO5 := GR (nE hown')
    have HB5 := GR hB5
    clear hown' hsz hgrow hB5
    go_wp2_with fail
    go_roundw
    case rel => exact ⟨k + 1, P ++ [x], by omega, by go_num, HP2.out, HO5.out, HB5.out⟩
    case measure => simp [intOf]; omega
   ·have hqI : ¬ (m : Int) ≤ (n : Int) := by omega
    have HP2 := GR (show P = ((am g).take (k + 1)).filter fun t => decide (m ≤ (dg g K t).length) by
     rw [HFT.out, ← HX.out, ← hn, decide_eq_false hq, if_neg (by simp), List.append_nil, HP.out])
    clear hn
    go_wp2_with fail
    go_roundw
    case rel => exact ⟨k + 1, P, by omega, by go_num, HP2.out, HO6.out, HB6.out⟩
    case measure => simp [intOf]; omega
  ·have HE := GR (show P = fL g m K by rw [HP.out, List.take_of_length_le (by omega)]; rfl)
   go_wp2_with fail
   go_ret
   exact ⟨_, rfl, by rw [← HE.out]; exact HOWN.out, HB.out⟩
theorem sI (k : Nat) : aS k = decide (k ∈ [1, 2]) := by
 unfold aS
 rw [Bool.eq_iff_iff]; simp
theorem AN (k : Nat) : dj k = decide (k ∈ [2]) := by
 unfold dj
 rw [Bool.eq_iff_iff]; simp
theorem C4 (k : Nat) : bD k = decide (k ∈ [0]) := by
 unfold bD
 rw [Bool.eq_iff_iff]; simp
theorem o7 (WB tb NB MB cap : Nat) (A : Option Addr) (g : List Bl) (B off tcap : Nat) (S : Nat → Nat) (w : World) (hv : aa g = true)
  (hO : OrdAt w WB tb NB MB A cap g B off tcap S) (hM : KMap w g MB 52 (fun i t => Rch g [] i ∧ t ∈ ai g i)) :
  Calls Tryz.prog 69 #[.pointer (some ⟨WB, 0, none⟩)] w fun e w' => ∃ v, e = .returned v ∧ w'.ownsRow w.heap.size 95 1 v (aL g).length ((aL g).map (ag NB)) ∧ Below w.heap.size w w' := by
 have b1 := (Below.refl w.heap.size w).alloc (Nat.le_refl _) (.cells #[.int .i64 1, .int .i64 2] 90)
 have k1 : KindsAt (w.alloc (.cells #[.int .i64 1, .int .i64 2] 90)) w.heap.size [1, 2] := Blk.new w _ _
 have HG := GR (oZ 1 aS [1, 2] w.heap.size sI (by decide) WB tb NB MB cap A g B off tcap S _ hv (hO.below b1) (hM.keep (b1.block MB hM.lt)) k1)
 have HB := GR b1
 clear hO hM hv b1 k1
 go_enter Tryz.func69, Tryz.ntmps69
 go_wp2_with fail
 refine HG.out.mono ?_
 rintro e w2 ⟨v, rfl, hown, hb⟩
 have HW := GR hown
 have HB2 := GR (HB.out.trans (hb.mono HB.out.size))
 clear hown hb
 go_wp2_with fail
 go_ret
 refine ⟨_, rfl, ?_, HB2.out⟩
 exact ky HW.out (by simp)
end Go.Proofs.YtlkfakdghjaoaaaGreatDoor

namespace Go.Proofs.YtlkfakdghjaoaaaGreatDoor
theorem yp {g : List Bl} : ∀ i ∈ aL g, i < g.length := dP 1 aS
theorem sU {g : List Bl} (hv : aa g = true) : mf g = ae g (aL g) := by unfold mf; rw [if_pos hv]
theorem xw {g : List Bl} (hv : aa g = true) : (mf g).size = (aL g).length ∧ (mf g).size ≤ 26 := by
 have h := ax hv _ (yp (g := g))
 rw [sU hv]
 exact ⟨h, by have := mg hv; omega⟩
end Go.Proofs.YtlkfakdghjaoaaaGreatDoor
