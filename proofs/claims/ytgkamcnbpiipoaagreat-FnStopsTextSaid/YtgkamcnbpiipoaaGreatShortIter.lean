/-
  The program's shortChoices: the iterator with its queue; and ShortChoices.
-/
import Derived.Test.YtgkamcnbpiipoaaGreatShortSpec
import Derived.Test.YtgkamcnbpiipoaaGreatIter
import Derived.RangeFuncBound
import Derived.RangeFuncCalls
import Derived.RangeFuncLeaves
import Derived.OwnWalkIn
import Derived.TacticsInMore
import Derived.LoopNIn
import Derived.LoopIn
import Derived.Sort.LoopGhostIn
import Derived.Maps.AppendAt
namespace Go.Proofs.YtgkamcnbpiipoaaGreat
open Go.RowKit Go.Sort
attribute [local go_sem] Oper.semAt_some

/-- A choice as a value. -/
def sv (x : List UInt8) : Value := .string (tb x)

theorem shortChoices_any (n : Int) (w : World) :
    Calls Tryz.prog 19 #[.int .i64 n] w fun e w' =>
      e = .returned (.func (.func 42) #[] #[.pointer (some ⟨w.heap.size, 0, none⟩)]) ∧ w' = w.alloc (.cells #[.int .i64 n] 3) := by
  have hmf : ∀ (fn : Fn) (first cap : Array Value) (w : World), (Instr.makeFunc fn first cap).run Tryz.prog w = .ok (.func fn first cap) w := fun _ _ _ _ => rfl
  go_enter Tryz.func19, Tryz.ntmps19
  go_wp2_with fail
  go_ret
  exact ⟨rfl, rfl⟩

set_option maxRecDepth 100000 in
set_option maxHeartbeats 3200000 in
theorem shortChoices1_own (m : Nat) (n NB : Nat) (w : World) (hm : 1 ≤ m) (hn : n ≤ 6) (hE : w.cell? ⟨NB, 0, none⟩ = some (.int .i64 n)) (hEl : NB < w.heap.size) :
    SeqOwn Fence.wide m Tryz.prog 42 #[.pointer (some ⟨NB, 0, none⟩)] (fun x : List UInt8 => #[sv x]) (fun b => b = NB) (fun _ => True) (fun pre x => pre ++ [x] <+: shortL n)
      (fun xs => xs = shortL n) (fun pre => pre <+: shortL n) w := by
  intro l J Jx W hW hJ hBd hY h0
  obtain ⟨i0, hi0, hz0, hz1, hz2⟩ := info_parts info_str
  have he0 := (hW.cell (p := ⟨NB, 0, none⟩) hEl).trans hE
  have HY := Lib.hid hY
  have HJ := Lib.hid hJ
  have el : NB < W.heap.size := by have := hW.size; omega
  clear hE hW hY hJ hBd
  refine callsIn_of_wp Tryz.func42 rfl trivial ?_ rfl
  simp only [Tryz.ntmps42, List.size_toArray, List.length_cons, List.length_nil, Nat.reduceAdd, Nat.reduceSub, Array.replicate_succ, Array.replicate_zero, List.push_toArray, List.append_toArray, List.nil_append, List.cons_append]
  gi_wp2
  obtain ⟨W2, hW2⟩ : ∃ W2, W.alloc (.cells #[.string ⟨#[]⟩] 9) = W2 := ⟨_, rfl⟩
  have hb2 : Below W.heap.size W W2 := by rw [← hW2]; exact (Below.refl _ W).alloc (Nat.le_refl _) _
  have hs2 : W2.heap.size = W.heap.size + 1 := by rw [← hW2]; simp
  have hQ : Que W2 9 1 (more (fun _ => False) W W2) (.slice (some ⟨W.heap.size, 0, none⟩) 1 1) 1 [sv []] := by
    have := Que.made W 9 1 (more (fun _ => False) W W2) #[.string ⟨#[]⟩] 1 rfl (.inr ⟨Nat.le_refl _, by omega⟩)
    rw [hW2] at this
    exact this
  have hJ2 := HJ.out _ _ _ W2 h0 (Turns.of_below hb2)
  have he2 := (hb2.cell (p := ⟨NB, 0, none⟩) el).trans he0
  have HQ := Lib.hid hQ
  have HJ2 := Lib.hid hJ2
  rw [hW2]
  clear hW2 hb2 hQ he0 h0 hJ2
  gi_loopg [3] 127 (fun gk q wr => ∃ O k, gk = 127 - k ∧ k ≤ 127 ∧ k ≤ (bq n k).length ∧ J O ((bq n k).take k) wr ∧
    Que wr 9 1 O q ((bq n k).length - k) (((bq n k).drop k).map sv) ∧ wr.cell? ⟨NB, 0, none⟩ = some (.int .i64 n) ∧ W.heap.size < wr.heap.size ∧ ∀ k, O k → W.heap.size ≤ k)
  case atStart => exact ⟨_, 0, rfl, by omega, Nat.zero_le _, HJ2.out, HQ.out, he2, by omega, fun k hk => hk.elim (fun h => h.elim) fun h => h.1⟩
  case round =>
    obtain ⟨O, k, rfl, hk, hkl, hJs, hQu, hcN, hWl, hOW⟩ := hrel
    have hlen := bq_len hn hk
    obtain ⟨B, off, cap, rfl, hcap, hOB, hBl, hcells⟩ := hQu.cells
    by_cases hlt : k < (bq n k).length
    · have hk1 : k < 127 := by omega
      obtain ⟨x, hx⟩ : ∃ x, x = (bq n k)[k] := ⟨_, rfl⟩
      have hxs : x.length ≤ 6 := by rw [hx]; exact Nat.le_trans (bq_size n k _ (List.getElem_mem hlt)) hn
      obtain ⟨m', hm'⟩ : ∃ m', (bq n k).length - k = m' + 1 := ⟨(bq n k).length - k - 1, by omega⟩
      have hdrop : (bq n k).drop k = x :: (bq n k).drop (k + 1) := by rw [List.drop_eq_getElem_cons hlt, ← hx]
      rw [hm', hdrop, List.map_cons] at hQu
      rw [hdrop, List.map_cons] at hcells
      have hc0 : wr.cell? ⟨B, off, none⟩ = some (.string (tb x)) := by have := hcells 0 (by simp); simpa [sv] using this
      rw [hm'] at hcap ⊢
      have hQ2 : ∃ v2, Que wr 9 1 O v2 m' (((bq n k).drop (k + 1)).map sv) ∧ (cap = 1 ∧ v2 = .slice (some ⟨B, off, none⟩) m' 0 ∨ cap ≠ 1 ∧ v2 = .slice (some ⟨B, off + 1, none⟩) m' (cap - 1)) := by
        by_cases h1 : cap = 1
        · exact ⟨_, hQu.tail0 h1, .inl ⟨h1, rfl⟩⟩
        · exact ⟨_, by have := hQu.tail; simpa using this, .inr ⟨h1, rfl⟩⟩
      obtain ⟨v2, hQ2, hv2⟩ := hQ2
      have HQ2 := Lib.hid hQ2
      have hpx : (bq n k).take k ++ [x] <+: shortL n := by rw [hx]; exact bq_take hk1 hlt
      have HPX := Lib.hid hpx
      have HTK := Lib.hid (show (bq n k).take k ++ [x] = (bq n (k + 1)).take (k + 1) by rw [bq_take' hlt, hx])
      have HST : Hid (bq n (k + 1) = if x.length < n then bq n k ++ [x ++ [108], x ++ [114]] else bq n k) := by
        by_cases hs : x.length < n
        · rw [if_pos hs, hx]; exact bq_more hlt (by rw [← hx]; exact hs)
        · rw [if_neg hs]; exact bq_same hlt (by rw [← hx]; exact hs)
      have HM := Lib.hid hm'
      obtain ⟨fn, tmps, assign, body, hy, hRd⟩ := HY.out O _ x wr hJs hpx
      have hy' : (Instr.yield l #[.string (tb x)]).run Tryz.prog wr = .ok (.round l fn tmps assign body) wr := hy
      have hcap1 : 1 ≤ cap := by omega
      have hz : (tb x).size = x.length := tb_size x
      have HKL := Lib.hid hkl
      have HLEN := Lib.hid hlen
      have HLT := Lib.hid hlt
      clear hy hpx hx hm' hdrop hcells hQu hQ2 hJs hkl hlen hlt
      rcases hv2 with ⟨hc1, rfl⟩ | ⟨hc1, rfl⟩
      all_goals
        gi_wp2
        refine hRd.mono ?_
        rintro e W3 (⟨rfl, hJ3, hk3⟩ | ⟨rfl, hJx3⟩)
        · have hs3 := hk3.1
          have hNb : NB < wr.heap.size := by omega
          have c3 : W3.cell? ⟨NB, 0, none⟩ = some (.int .i64 n) := (World.cell?_of_block (a := ⟨NB, 0, none⟩) (hk3.2 NB hNb (.inl rfl))).trans hcN
          have KQ := Lib.hid (HQ2.out.kept (hk3.fewer fun k h => .inr h) fun k _ h => h)
          have HOW := Lib.hid hOW
          rw [HTK.out] at hJ3
          have HJ3 := Lib.hid hJ3
          clear hk3 hJ3 hc0 hcN hOW
          by_cases hs : x.length < n
          · have HST2 := Lib.hid (show bq n (k + 1) = bq n k ++ [x ++ [108], x ++ [114]] by rw [HST.out, if_pos hs])
            have KQ2 := Lib.hid (KQ.out.kept (Turns.keeps (O := fun _ => False) (Turns.alloc _ W3 (.cells #[.string (tb x ++ ⟨#[108]⟩), .string (tb x ++ ⟨#[114]⟩)] 9)) fun _ _ h => h) fun k _ h => h)
            have HNEW := Lib.hid (show ∀ j u, [(.string (tb x ++ ⟨#[108]⟩) : Value), .string (tb x ++ ⟨#[114]⟩)][j]? = some u → (W3.alloc (.cells #[.string (tb x ++ ⟨#[108]⟩), .string (tb x ++ ⟨#[114]⟩)] 9)).cell? ((⟨W3.heap.size, 0, none⟩ : Addr).add j) = some u from
              World.news_of_block (cs := #[.string (tb x ++ ⟨#[108]⟩), .string (tb x ++ ⟨#[114]⟩)]) (t := 9) (fr := (0, 0)) (heap_alloc_new W3 _))
            have hcat : ¬ 9223372036854775807 < x.length + 1 := by omega
            have hmm : m' + 2 ≤ 1048576 := by have := HM.out; have := HLEN.out; omega
            gi_wp2_with (gi_at_builtin; refine wpListIn_append_que _ rfl _ _ 51 rfl 9 i0 (.string ⟨#[]⟩) 1 Tryz.underlying51 hi0 hz0 hz1 (by rw [hz2]; decide) rfl O _ m' (((bq n k).drop (k + 1)).map sv) rfl KQ2.out ⟨W3.heap.size, 0, none⟩ 2 2 [.string (tb x ++ ⟨#[108]⟩), .string (tb x ++ ⟨#[114]⟩)] rfl rfl HNEW.out (by simp [Value.oneCell']) (by omega) ?_; intro v' w1 hq' hT')
            have T1 : Turns O W3 w1 := (Turns.alloc O W3 _).trans (hT'.wider fun k h => .inl h)
            have hwA : (W3.alloc (.cells #[.string (tb x ++ ⟨#[108]⟩), .string (tb x ++ ⟨#[114]⟩)] 9)).heap.size = W3.heap.size + 1 := by simp
            gi_roundg (127 - (k + 1))
            case measure => omega
            case rel =>
              have hl1 := HLT.out
              have hm1 := HM.out
              have hl2 : (bq n k ++ [x ++ [108], x ++ [114]]).length = (bq n k).length + 2 := by simp
              refine ⟨more O W3 w1, k + 1, rfl, by omega, by rw [HST2.out, hl2]; omega, HJ.out O _ W3 w1 HJ3.out T1, ?_, ?_, by have := T1.size; omega, fun q hq => ?_⟩
              · have e1 : (bq n k ++ [x ++ [108], x ++ [114]]).length - (k + 1) = m' + 2 := by rw [hl2]; omega
                have e2 : ((bq n k ++ [x ++ [108], x ++ [114]]).drop (k + 1)).map sv = ((bq n k).drop (k + 1)).map sv ++ [.string (tb x ++ ⟨#[108]⟩), .string (tb x ++ ⟨#[114]⟩)] := by
                  rw [List.drop_append_of_le_length (by omega), List.map_append, tb_l, tb_r]; rfl
                rw [HST2.out, e1, e2]
                refine Que.kept (O' := more O W3 w1) hq' (Keeps.refl _ _) fun q _ h => ?_
                rcases h with h | h
                · exact .inl h
                · rw [hwA] at h
                  exact .inr ⟨by omega, h.2⟩
              · exact (World.cell?_of_block (a := ⟨NB, 0, none⟩) (T1.block NB (by omega) fun h => by have := HOW.out _ h; omega)).trans c3
              · rcases hq with h | h
                · exact HOW.out q h
                · omega
          · have HST2 := Lib.hid (show bq n (k + 1) = bq n k by rw [HST.out, if_neg hs])
            gi_wp2
            gi_roundg (127 - (k + 1))
            case measure => omega
            case rel =>
              refine ⟨O, k + 1, rfl, by omega, by rw [HST2.out]; exact HLT.out, HJ3.out, ?_, c3, by omega, HOW.out⟩
              rw [HST2.out, show (bq n k).length - (k + 1) = m' by have := HM.out; omega]
              exact KQ.out
        · gi_wp2
          refine bodyPost_ret (results_none rfl _ _ _) rfl ?_
          exact ⟨⟨_, rfl⟩, .inr ⟨_, HPX.out, hJx3⟩⟩
    · have hq0 : (bq n k).length - k = 0 := by omega
      have hre : (bq n k).take k = shortL n := by rw [List.take_of_length_le (by omega)]; exact bq_end hk hlt
      rw [hq0]
      rw [hre] at hJs
      clear hcells hQu
      gi_wp2
      go_end0
      exact ⟨⟨_, rfl⟩, .inl ⟨_, _, rfl, hJs⟩⟩
end Go.Proofs.YtgkamcnbpiipoaaGreat
