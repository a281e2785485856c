import Derived.Test.YtlkfakdghjaoaaaGreatDoorJ13
import Derived.Test.YtlkfakdghjaoaaaGreatDoorJ2
import Derived.Test.YtlkfakdghjaoaaaGreatDoorCount
import Derived.Test.YtlkfakdghjaoaaaGreatDoorJ12
set_option maxRecDepth 100000
set_option maxHeartbeats 6400000
namespace Go.Proofs.YtlkfakdghjaoaaaGreatDoor
open Go.RowKit Go.Sort
attribute [local go_sem] Oper.semAt_some
theorem vT (a : List UInt8) : Lib.strCells (tb a) = Lib.byteCells a := rfl
theorem sY (a b : List UInt8) : Lib.byteCells a ++ Lib.strCells (tb b) = Lib.byteCells (a ++ b) := by
 rw [vT]; unfold Lib.byteCells; rw [List.map_append]
theorem sZ (a : List UInt8) : (Lib.byteCells a).length = a.length := by unfold Lib.byteCells; rw [List.length_map]
def iW (l : List (Nat × It)) : List UInt8 := l.flatMap fun p => li p.2
theorem BO (l : List (Nat × It)) (x : Nat × It) : iW (l ++ [x]) = iW l ++ li x.2 := by unfold iW; rw [List.flatMap_append]; simp
theorem Dl (l : List It) : iW (bO l 0) = da l := jN l 0
theorem Dn (a b : List (Nat × It)) : iW (a ++ b) = iW a ++ iW b := by unfold iW; rw [List.flatMap_append]
theorem Ez (l : List (Nat × It)) : (iW l).length ≤ l.length := by
 unfold iW
 induction l with
 | nil => simp
 | cons i l ih => rw [List.flatMap_cons, List.length_append, List.length_cons]; have := De i.2; omega
theorem jo (s : List UInt8) (w : World) :
  Calls Tryz.prog 17 #[.string (tb s)] w (y8 s w) := by
 have HC := F7 (ig s w)
 refine (callsIn_wide (n := 4)).1 ?_
 refine callsIn_of_wp_marks Tryz.func17 rfl trivial ?_ rfl
 simp only [Tryz.ntmps17, List.size_toArray, List.length_cons, List.length_nil, Nat.reduceAdd, Nat.reduceSub, Array.replicate_succ, Array.replicate_zero, List.push_toArray, List.append_toArray, List.nil_append, List.cons_append]
 refine wpIn_mono (Q := m7 _) ?_ gQ
 gi_wp2_with fail
 refine ⟨trivial, (callsIn_wide.2 HC.out).mono ?_⟩
 intro e w1 hp
 obtain ⟨l, A, n, k, ok, rfl, hrow, hlen, hok0, hv, hok, b1⟩ : ∃ l A n k ok, e = .returned (.tuple #[.slice A n k, .bool ok]) ∧ RowAt w1 (aZ w) l (.slice A n k) ∧ (aF l).length < 201 ∧ az l 0 ∧ dp s = da l ∧ dw s = ok ∧ Below w.heap.size w w1 := by
  rcases hp with ⟨l, v, hl, rfl, h1c, hrow, b1⟩ | ⟨hno, rfl, b1⟩
  ·obtain ⟨A, k, n, rfl, hrow⟩ := dJ hrow
   exact ⟨l, A, n, k, true, rfl, hrow, by have := hl.1; rw [hl.2.2] at this; omega, hl.2.1, iq hl, nP ⟨l, hl⟩, b1⟩
  ·refine ⟨[], none, 0, 0, false, rfl, ⟨[], ⟨none, 0, rfl, fun h => absurd h (by decide)⟩, by rw [AllAt]⟩, by rw [aF]; decide, by rw [az]; trivial, ?_, mo hno, b1⟩
   rw [qE hno]; rw [da]
 have HROW := F7 (show RowAt w1 (fun b => w.heap.size ≤ b ∧ b < w1.heap.size) l (.slice A n k) from hrow.stay ⟨Nat.le_refl _, fun b hb hp => ⟨⟨hp, hb⟩, rfl⟩⟩)
 have HOK := F7 hok0
 have HZ := F7 hv
 have HOKB := F7 hok
 have HB := F7 b1
 clear hp b1 hrow hok0 hv hok
 gi_wp2_with fail
 refine ⟨trivial, (callsIn_wide.2 (iP A n k 0 _)).mono ?_⟩
 rintro e w3 ⟨rfl, hw3⟩
 have hs3 : w3.heap.size = w1.heap.size + 3 := by rw [hw3]; simp
 have hsz1 : w.heap.size ≤ w1.heap.size := HB.out.size
 have hB1 : Blk w3 (w1.heap.size + 1) 69 #[.slice A n k] := by
  have := (Blk.new (w1.alloc (.cells #[.pointer none, .slice none 0 0] 61)) 69 #[.slice A n k]).alloc (.cells #[.int .i64 ((0 : Nat) : Int)] 3)
  rw [World.size_alloc] at this
  rw [hw3]; exact this
 have hB2 : Blk w3 (w1.heap.size + 1 + 1) 3 #[.int .i64 ((0 : Nat) : Int)] := by
  have := Blk.new ((w1.alloc (.cells #[.pointer none, .slice none 0 0] 61)).alloc (.cells #[.slice A n k] 69)) 3 #[.int .i64 ((0 : Nat) : Int)]
  rw [World.size_alloc, World.size_alloc] at this
  rw [hw3]; exact this
 have hM : Blk w3 w1.heap.size 61 #[.pointer none, .slice none 0 0] := by rw [hw3]; exact ((Blk.new w1 _ _).alloc _).alloc _
 have hb3 : Below w1.heap.size w1 w3 := by rw [hw3]; exact (((Below.refl _ _).alloc (Nat.le_refl _) _).alloc (by simp) _).alloc (by simp; omega) _
 have HSEQ := F7 (km (m := 3) (kM w1 (fun b => w.heap.size ≤ b ∧ b < w1.heap.size) (fun b hb => hb.2) 201 l 0 w3 (w1.heap.size + 1) (w1.heap.size + 1 + 1) _ (by omega) hlen HOK.out (by omega) HROW.out ⟨by omega, fun b hb _ => hb3.block b hb⟩ hB1 hB2))
 have HM := F7 hM
 have HB3 := F7 (ac HB.out hb3)
 have HDP := F7 (Dl l)
 have HLE := F7 (show (bO l 0).length ≤ 200 by rw [oz]; have := l9 l; omega)
 clear hw3 hM hB1 hB2 hb3
 gi_wp2_with fail
 refine fu rfl (by decide) (gf := 100) (lb := #[.pointer (some ⟨w1.heap.size + 1, 0, none⟩), .pointer (some ⟨w1.heap.size + 1 + 1, 0, none⟩)]) rfl trivial (enters_of Tryz.func100 (by kernel_rfl) rfl) HSEQ.out (Below.refl _ _) (fun _ => rfl) (fun b hb => ?_)
  (fun O pre W => Hid (BdK w1.heap.size (Lib.byteCells (iW (pre.map fun x => (x.1, x.2.1)))) (fun k => ((w.heap.size ≤ k ∧ k < w1.heap.size) ∨ k = w1.heap.size + 1 ∨ k = w1.heap.size + 1 + 1) ∨ O k) W) ∧ Hid (Below w.heap.size w W))
  ?_ ?_ ?a1 ?assign ?body ?done
 case assign =>
  intro l3 x3 W7 K7 hK7
  gi_wp2
  exact hK7
 ·rcases hb with hb | hb | hb
  ·have := hb.2; omega
  ·omega
  ·omega
 ·rintro Ot pre X Y hle hO ⟨h1, h2⟩ hT
  refine ⟨h1.out.kept (hT.block _ h1.out.lt fun e => by have := hO _ e; omega) (fun g hg hn => ⟨hT.block g hg fun e => hn (.inr e), ?_⟩), h2.out.trans (hT.below h2.out.size fun b hb => by have := hO b hb; omega)⟩
  rintro (h | h | h)
  ·exact hn (.inl h)
  ·exact hn (.inr h)
  ·omega
 ·exact ⟨EA _ HM.out, HB3.out⟩
 case body =>
  rintro l3 Oin pre ⟨xk, xi, xv⟩ Wt hle hO ⟨h1, h2⟩ hnx
  have hit := hnx.2 (xk, xi, xv) (by simp)
  have HBI := F7 (fun W => wj hit W)
  have hmap : (pre ++ [(xk, xi, xv)]).map (fun x => (x.1, x.2.1)) = pre.map (fun x => (x.1, x.2.1)) ++ [(xk, xi)] := by simp
  have hst : iW ((pre ++ [(xk, xi, xv)]).map fun x => (x.1, x.2.1)) = iW (pre.map fun x => (x.1, x.2.1)) ++ li xi := by
   rw [hmap, BO]
  have hle9 : (iW (pre.map fun x => (x.1, x.2.1))).length + (li xi).length ≤ 200 := by
   obtain ⟨t, ht⟩ := hnx.1
   have h5 := Ez (bO l 0)
   have h6 := HLE.out
   rw [← ht, Dn, hst, List.length_append, List.length_append] at h5
   rw [← ht] at h6
   omega
  have HST := F7 hst
  have HLE9 := F7 hle9
  have H2 := F7 h2.out
  have H1 := F7 h1.out
  have HO := F7 hO
  clear hnx hit hmap hst h1 h2 hle9 hO
  gi_wp2_with fail
  refine ⟨trivial, ((callsIn_wide.2 (HBI.out _)).inRound l3).mono ?_⟩
  rintro e w4 ⟨rfl, b4⟩
  have HB4 := F7 b4
  have hlt1 := H1.out.lt
  have hbk4 := H1.out.kept (K' := fun k => ((w.heap.size ≤ k ∧ k < w1.heap.size) ∨ k = w1.heap.size + 1 ∨ k = w1.heap.size + 1 + 1) ∨ Oin k) (b4.block _ hlt1) (fun g hg hn => ⟨b4.block g hg, hn⟩)
  have hs4 := b4.size
  have HW := F7 (Do w1.heap.size _ (tb (li xi)) _ w4 hbk4 (fun k hk => by
   rcases hk with (hk | hk | hk) | hk
   ·omega
   ·omega
   ·omega
   ·have := HO.out k hk; omega) (by rw [sZ, ay]; have := HLE9.out; omega))
  clear b4 hbk4
  gi_wp2_with fail
  refine ⟨trivial, ((callsIn_wide.2 HW.out).inRound l3).mono ?_⟩
  rintro e w5 ⟨rfl, hbk5, b5, k5⟩
  have HBK5 := F7 hbk5
  have HB5 := F7 b5
  have HK5 := F7 k5
  clear hbk5 b5 k5
  gi_wp2_with fail
  have hk4 : Keeps (fun k => ((w.heap.size ≤ k ∧ k < w1.heap.size) ∨ k = w1.heap.size + 1 ∨ k = w1.heap.size + 1 + 1) ∨ Oin k) Wt w4 := ⟨HB4.out.size, fun k hk _ => HB4.out.block k hk⟩
  refine ⟨hk4.trans HK5.out, ?_, ?_⟩
  ·rw [HST.out]
   have := HBK5.out
   rw [sY] at this
   exact this
  ·exact (H2.out.trans (HB4.out.mono H2.out.size)).trans (HB5.out.mono hsz1)
 case done =>
  rintro D Oin xs3 Wt hD hO hS ⟨h1, h2⟩ hOD hK
  have HK := F7 hK
  have H2 := F7 h2.out
  have H1 := F7 h1.out
  have HMS := F7 (show iW (xs3.map fun x => (x.1, x.2.1)) = da l by rw [hS.1]; exact HDP.out)
  have hDl := (hO D hOD)
  have hlt1 := H1.out.lt
  have HSTR := F7 (Tryz.Builder_String_any_k w1.heap.size w1.heap.size (iW (xs3.map fun x => (x.1, x.2.1))) Wt (Lib.IsBuilderF.of H1.out.bd) (by omega))
  clear hD h1 h2 hK
  gi_wp2_with fail
  refine ⟨trivial, (callsIn_wide.2 HSTR.out).mono ?_⟩
  rintro e w6 ⟨rfl, _, b6, ok6⟩
  have hK6 : w6.heap[D]? = some (.deferred (some [])) := ok6 D _ HK.out (fun e => by injection e with e; omega) (fun c fz e => by cases e)
  have HK6 := F7 hK6
  have HB6 := F7 b6
  clear ok6 hK6 b6
  gi_wp2_with fail
  refine ⟨by simp, .inl ⟨_, _, rfl, run_takeDeferred HK6.out, ?_⟩⟩
  refine ⟨_, results_tmp2 rfl _ _ _, ?_, pU (H2.out.trans (HB6.out.mono hsz1)) (by omega) _⟩
  exact E8 (by rw [HMS.out, HZ.out]) HOKB.out.symm
end Go.Proofs.YtlkfakdghjaoaaaGreatDoor

namespace Go.Proofs.YtlkfakdghjaoaaaGreatDoor
open Go.RowKit Go.Sort
end Go.Proofs.YtlkfakdghjaoaaaGreatDoor
