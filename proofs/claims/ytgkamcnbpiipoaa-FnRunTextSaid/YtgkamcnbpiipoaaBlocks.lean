/-
  BlocksIn of the program.
-/
import Derived.Test.YtgkamcnbpiipoaaSpecBlocks
import Derived.Test.YtgkamcnbpiipoaaKindOf
import Derived.Test.YtgkamcnbpiipoaaBuild
import Derived.Test.YtgkamcnbpiipoaaCount
namespace Go.Proofs.Ytgkamcnbpiipoaa
open Go.RowKit Go.Sort
attribute [local go_sem] Oper.semAt_some

theorem strCells_tb (a : List UInt8) : Lib.strCells (tb a) = Lib.byteCells a := rfl
theorem byteCells_app (a b : List UInt8) : Lib.byteCells a ++ Lib.strCells (tb b) = Lib.byteCells (a ++ b) := by
  rw [strCells_tb]; unfold Lib.byteCells; rw [List.map_append]
theorem byteCells_len (a : List UInt8) : (Lib.byteCells a).length = a.length := by unfold Lib.byteCells; rw [List.length_map]
/-- The blocks of what has been yielded. -/
def nmE (l : List (Nat × It)) : List UInt8 := l.flatMap fun p => nmI p.2
theorem nmE_snoc (l : List (Nat × It)) (x : Nat × It) : nmE (l ++ [x]) = nmE l ++ nmI x.2 := by unfold nmE; rw [List.flatMap_append]; simp
theorem nmE_all (l : List It) : nmE (evL l 0) = blL l := bl_evL l 0
theorem nmE_app (a b : List (Nat × It)) : nmE (a ++ b) = nmE a ++ nmE b := by unfold nmE; rw [List.flatMap_append]
theorem nmE_le (l : List (Nat × It)) : (nmE l).length ≤ l.length := by
  unfold nmE
  induction l with
  | nil => simp
  | cons i l ih => rw [List.flatMap_cons, List.length_append, List.length_cons]; have := nm_le i.2; omega

set_option maxRecDepth 100000 in
set_option maxHeartbeats 6400000 in
theorem implBlocksIn_any (s : List UInt8) (w : World) :
    Calls Try.prog 18 #[.string (tb s)] w (BlocksPost s w) := by
  have HC := Lib.hid (itemsOf_any s w)
  refine (callsIn_wide (n := 4)).1 ?_
  refine callsIn_of_wp_marks Try.func18 rfl trivial ?_ rfl
  simp only [Try.ntmps18, List.size_toArray, List.length_cons, List.length_nil, Nat.reduceAdd, Nat.reduceSub, Array.replicate_succ, Array.replicate_zero, List.push_toArray, List.append_toArray, List.nil_append, List.cons_append]
  refine wpIn_mono (Q := calm _) ?_ calm_le
  gi_wp2_with fail
  refine ⟨trivial, (callsIn_wide.2 HC.out).mono ?_⟩
  intro e w1 hp
  obtain ⟨l, A, n, k, ok, rfl, hrow, hlen, hok0, hv, hok, b1⟩ : ∃ l A n k ok, e = .returned (.tuple #[.slice A n k, .bool ok]) ∧ RowAt w1 (NewIn w) l (.slice A n k) ∧ (txL l).length < 201 ∧ OkL l 0 ∧ blocksV s = blL l ∧ textB s = ok ∧ Below w.heap.size w w1 := by
    rcases hp with ⟨l, v, hl, rfl, h1c, hrow, b1⟩ | ⟨hno, rfl, b1⟩
    · obtain ⟨A, k, n, rfl, hrow⟩ := rowAt_form hrow
      exact ⟨l, A, n, k, true, rfl, hrow, by have := hl.1; rw [hl.2.2] at this; omega, hl.2.1, blocksV_yes hl, textB_yes ⟨l, hl⟩, b1⟩
    · refine ⟨[], none, 0, 0, false, rfl, ⟨[], ⟨none, 0, rfl, fun h => absurd h (by decide)⟩, by rw [AllAt]⟩, by rw [txL]; decide, by rw [OkL]; trivial, ?_, textB_no hno, b1⟩
      rw [blocksV_no hno]; rw [blL]
  have HROW := Lib.hid (show RowAt w1 (fun b => w.heap.size ≤ b ∧ b < w1.heap.size) l (.slice A n k) from hrow.stay ⟨Nat.le_refl _, fun b hb hp => ⟨⟨hp, hb⟩, rfl⟩⟩)
  have HOK := Lib.hid hok0
  have HZ := Lib.hid hv
  have HOKB := Lib.hid hok
  have HB := Lib.hid b1
  clear hp b1 hrow hok0 hv hok
  gi_wp2_with fail
  refine ⟨trivial, (callsIn_wide.2 (everyItem_any A n k 0 _)).mono ?_⟩
  rintro e w3 ⟨rfl, hw3⟩
  have hs3 : w3.heap.size = w1.heap.size + 3 := by rw [hw3]; simp
  have hsz1 : w.heap.size ≤ w1.heap.size := HB.out.size
  have hB1 : Blk w3 (w1.heap.size + 1) 51 #[.slice A n k] := by
    have := (Blk.new (w1.alloc (.cells #[.pointer none, .slice none 0 0] 69)) 51 #[.slice A n k]).alloc (.cells #[.int .i64 ((0 : Nat) : Int)] 3)
    rw [World.size_alloc] at this
    rw [hw3]; exact this
  have hB2 : Blk w3 (w1.heap.size + 1 + 1) 3 #[.int .i64 ((0 : Nat) : Int)] := by
    have := Blk.new ((w1.alloc (.cells #[.pointer none, .slice none 0 0] 69)).alloc (.cells #[.slice A n k] 51)) 3 #[.int .i64 ((0 : Nat) : Int)]
    rw [World.size_alloc, World.size_alloc] at this
    rw [hw3]; exact this
  have hM : Blk w3 w1.heap.size 69 #[.pointer none, .slice none 0 0] := by rw [hw3]; exact ((Blk.new w1 _ _).alloc _).alloc _
  have hb3 : Below w1.heap.size w1 w3 := by rw [hw3]; exact (((Below.refl _ _).alloc (Nat.le_refl _) _).alloc (by simp) _).alloc (by simp; omega) _
  have HSEQ := Lib.hid (seqAll_wide (m := 3) (everyItem1_own w1 (fun b => w.heap.size ≤ b ∧ b < w1.heap.size) (fun b hb => hb.2) 201 l 0 w3 (w1.heap.size + 1) (w1.heap.size + 1 + 1) _ (by omega) hlen HOK.out (by omega) HROW.out ⟨by omega, fun b hb _ => hb3.block b hb⟩ hB1 hB2))
  have HM := Lib.hid hM
  have HB3 := Lib.hid (below_trans_self HB.out hb3)
  have HDP := Lib.hid (nmE_all l)
  have HLE := Lib.hid (show (evL l 0).length ≤ 200 by rw [evL_length0]; have := flL_length l; omega)
  clear hw3 hM hB1 hB2 hb3
  gi_wp2_with fail
  refine wpIn_rangeFunc_all rfl (by decide) (gf := 76) (lb := #[.pointer (some ⟨w1.heap.size + 1, 0, none⟩), .pointer (some ⟨w1.heap.size + 1 + 1, 0, none⟩)]) rfl trivial (enters_of Try.func76 (by kernel_rfl) rfl) HSEQ.out (Below.refl _ _) (fun _ => rfl) (fun b hb => ?_)
    (fun O pre W => Hid (BdK w1.heap.size (Lib.byteCells (nmE (pre.map fun x => (x.1, x.2.1)))) (fun k => ((w.heap.size ≤ k ∧ k < w1.heap.size) ∨ k = w1.heap.size + 1 ∨ k = w1.heap.size + 1 + 1) ∨ O k) W) ∧ Hid (Below w.heap.size w W))
    ?_ ?_ ?a1 ?assign ?body ?done
  case assign =>
    intro l3 x3 W7 K7 hK7
    gi_wp2
    exact hK7
  · rcases hb with hb | hb | hb
    · have := hb.2; omega
    · omega
    · omega
  · rintro Ot pre X Y hle hO ⟨h1, h2⟩ hT
    refine ⟨h1.out.kept (hT.block _ h1.out.lt fun e => by have := hO _ e; omega) (fun g hg hn => ⟨hT.block g hg fun e => hn (.inr e), ?_⟩), h2.out.trans (hT.below h2.out.size fun b hb => by have := hO b hb; omega)⟩
    rintro (h | h | h)
    · exact hn (.inl h)
    · exact hn (.inr h)
    · omega
  · exact ⟨bdK_at _ HM.out, HB3.out⟩
  case body =>
    rintro l3 Oin pre ⟨xk, xi, xv⟩ Wt hle hO ⟨h1, h2⟩ hnx
    have hit := hnx.2 (xk, xi, xv) (by simp)
    have HBI := Lib.hid (fun W => blockIn_any hit W)
    have hmap : (pre ++ [(xk, xi, xv)]).map (fun x => (x.1, x.2.1)) = pre.map (fun x => (x.1, x.2.1)) ++ [(xk, xi)] := by simp
    have hst : nmE ((pre ++ [(xk, xi, xv)]).map fun x => (x.1, x.2.1)) = nmE (pre.map fun x => (x.1, x.2.1)) ++ nmI xi := by
      rw [hmap, nmE_snoc]
    have hle9 : (nmE (pre.map fun x => (x.1, x.2.1))).length + (nmI xi).length ≤ 200 := by
      obtain ⟨t, ht⟩ := hnx.1
      have h5 := nmE_le (evL l 0)
      have h6 := HLE.out
      rw [← ht, nmE_app, hst, List.length_append, List.length_append] at h5
      rw [← ht] at h6
      omega
    have HST := Lib.hid hst
    have HLE9 := Lib.hid hle9
    have H2 := Lib.hid h2.out
    have H1 := Lib.hid h1.out
    have HO := Lib.hid hO
    clear hnx hit hmap hst h1 h2 hle9 hO
    gi_wp2_with fail
    refine ⟨trivial, ((callsIn_wide.2 (HBI.out _)).inRound l3).mono ?_⟩
    rintro e w4 ⟨rfl, b4⟩
    have HB4 := Lib.hid b4
    have hlt1 := H1.out.lt
    have hbk4 := H1.out.kept (K' := fun k => ((w.heap.size ≤ k ∧ k < w1.heap.size) ∨ k = w1.heap.size + 1 ∨ k = w1.heap.size + 1 + 1) ∨ Oin k) (b4.block _ hlt1) (fun g hg hn => ⟨b4.block g hg, hn⟩)
    have hs4 := b4.size
    have HW := Lib.hid (write_k w1.heap.size _ (tb (nmI xi)) _ w4 hbk4 (fun k hk => by
      rcases hk with (hk | hk | hk) | hk
      · omega
      · omega
      · omega
      · have := HO.out k hk; omega) (by rw [byteCells_len, tb_size]; have := HLE9.out; omega))
    clear b4 hbk4
    gi_wp2_with fail
    refine ⟨trivial, ((callsIn_wide.2 HW.out).inRound l3).mono ?_⟩
    rintro e w5 ⟨rfl, hbk5, b5, k5⟩
    have HBK5 := Lib.hid hbk5
    have HB5 := Lib.hid b5
    have HK5 := Lib.hid k5
    clear hbk5 b5 k5
    gi_wp2_with fail
    have hk4 : Keeps (fun k => ((w.heap.size ≤ k ∧ k < w1.heap.size) ∨ k = w1.heap.size + 1 ∨ k = w1.heap.size + 1 + 1) ∨ Oin k) Wt w4 := ⟨HB4.out.size, fun k hk _ => HB4.out.block k hk⟩
    refine ⟨hk4.trans HK5.out, ?_, ?_⟩
    · rw [HST.out]
      have := HBK5.out
      rw [byteCells_app] at this
      exact this
    · exact (H2.out.trans (HB4.out.mono H2.out.size)).trans (HB5.out.mono hsz1)
  case done =>
    rintro D Oin xs3 Wt hD hO hS ⟨h1, h2⟩ hOD hK
    have HK := Lib.hid hK
    have H2 := Lib.hid h2.out
    have H1 := Lib.hid h1.out
    have HMS := Lib.hid (show nmE (xs3.map fun x => (x.1, x.2.1)) = blL l by rw [hS.1]; exact HDP.out)
    have hDl := (hO D hOD)
    have hlt1 := H1.out.lt
    have HSTR := Lib.hid (Try.Builder_String_any_k w1.heap.size w1.heap.size (nmE (xs3.map fun x => (x.1, x.2.1))) Wt (Lib.IsBuilderF.of H1.out.bd) (by omega))
    clear hD h1 h2 hK
    gi_wp2_with fail
    refine ⟨trivial, (callsIn_wide.2 HSTR.out).mono ?_⟩
    rintro e w6 ⟨rfl, _, b6, ok6⟩
    have hK6 : w6.heap[D]? = some (.deferred (some [])) := ok6 D _ HK.out (fun e => by injection e with e; omega) (fun c fz e => by cases e)
    have HK6 := Lib.hid hK6
    have HB6 := Lib.hid b6
    clear ok6 hK6 b6
    gi_wp2_with fail
    refine ⟨by simp, .inl ⟨_, _, rfl, run_takeDeferred HK6.out, ?_⟩⟩
    refine ⟨_, results_tmp2 rfl _ _ _, ?_, below_putD (H2.out.trans (HB6.out.mono hsz1)) (by omega) _⟩
    exact ret_tb (by rw [HMS.out, HZ.out]) HOKB.out.symm
end Go.Proofs.Ytgkamcnbpiipoaa
