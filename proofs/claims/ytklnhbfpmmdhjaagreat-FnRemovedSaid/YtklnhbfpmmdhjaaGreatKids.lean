/-
  What is found in the tree for a block: its children; the names of what is found.
-/
import Derived.Test.YtklnhbfpmmdhjaaGreatFound
namespace Go.Proofs.YtklnhbfpmmdhjaaGreat
open Go.RowKit Go.Sort Go.Shelf

theorem reachS_small {g : List Bl} (hv : validB g = true) : (reachS g).length ≤ 26 := by
  have h1 := srt_len g (reach g) g.length
  rw [← reachS_srt] at h1
  have := (valid_iff.1 hv).2.1
  omega

theorem domL_lt2 {g : List Bl} (hv : validB g = true) {n : Nat} (hr : Rch g [] n) : ∀ x ∈ domL g n, x < g.length := fun _ hx => (((mem_domL hv hr).1 hx).live hr).lt hv

theorem run_eql_nil_ptr {P : Program} (w : World) {tp te : TypeId} {b : Addr} (hp : P.underlying tp = some (.pointer te)) :
    (binOp .eql tp (.pointer none) (.pointer (some b))).run P w = .ok (.bool false) w := by
  have h : ∀ d : Nat, (Op.equalIn (d + 1) tp (.pointer none) (.pointer (some b))).run P w = .ok false w := fun d => by
    simp [Op.equalIn, run_underlying hp]
  simp only [binOp]
  simp [Op.equal, Op.maxDepth, h 9999]

theorem nptr_ne {NB x y : Nat} (h : x ≠ y) : (⟨nb NB x, 0, none⟩ : Addr) ≠ ⟨nb NB y, 0, none⟩ := fun e => h (by have h7 := (Addr.mk.inj e).1; simp only [nb] at h7; omega)

set_option maxRecDepth 100000 in
set_option maxHeartbeats 2000000 in
theorem childrenOf_own (tb NB : Nat) (g : List Bl) (B off cap : Nat) (S : Nat → Nat) (n : Nat) (w : World) (hv : validB g = true) (h : TreeAt w tb NB g B off cap S) (hnl : n < g.length) :
    Calls Tryz.prog 53 #[.pointer (some ⟨tb, 0, none⟩), nptr NB n] w fun e w' => ∃ v, e = .returned v ∧ w'.ownsRow w.heap.size 53 1 v (kidsL g n).length ((kidsL g n).map (nptr NB)) ∧ Below w.heap.size w w' := by
  have h26 := (valid_iff.1 hv).2.1
  have hrs := reachS_small hv
  obtain ⟨ip, hip, hz0, hz1, hz2⟩ := info_parts info_ptr
  obtain ⟨jt, hjt, hjs⟩ := Option.map_eq_some_iff.1 info_node2
  have HJS := Lib.hid hjs
  have cN := h.tree.nodes
  have HT := Lib.hid h
  have HV := Lib.hid hv
  clear h hv hjs
  go_enter Tryz.func53, Tryz.ntmps53
  go_wp2_with fail
  go_loopw [5, 13] (fun pv iv wr => ∃ (k : Nat) (P : List Nat), k ≤ (reachS g).length ∧ iv = .int .i64 k ∧ Hid (P = ((reachS g).take k).filter fun c => decide (parL g c = some n)) ∧ wr.ownsRow w.heap.size 53 1 pv P.length (P.map (nptr NB)) ∧ Below w.heap.size w wr) (fun _ iv _ => (reachS g).length - (intOf iv).toNat)
  case atStart => exact ⟨0, [], Nat.zero_le _, rfl, rfl, World.ownsRow_nil _ _ _ _, Below.refl _ _⟩
  case round =>
    obtain ⟨k, P, hk, rfl, HP, hown, hB⟩ := hrel
    have hPl : P.length ≤ k := by
      rw [HP.out]
      have := List.length_filter_le (fun c => decide (parL g c = some n)) ((reachS g).take k)
      have := List.length_take_le k (reachS g)
      omega
    have HTB := Lib.hid (HT.out.below hB)
    have HB := Lib.hid hB
    have hsz0 := hB.size
    have HOWN := Lib.hid hown
    clear hB hown
    by_cases hlt : k < (reachS g).length
    · obtain ⟨x, hx⟩ : ∃ x, x = (reachS g)[k] := ⟨_, rfl⟩
      have hxr := (mem_reachS' HV.out).1 (hx ▸ List.getElem_mem hlt : x ∈ reachS g)
      have hxl := hxr.lt HV.out
      have c0 : wr.cell? ⟨B, off + k, none⟩ = some (nptr NB x) := by rw [hx]; exact HTB.out.row k hlt
      have x0 : wr.cell? ⟨nb NB x, 0, none⟩ = some (.int .i64 x) := by have := (HTB.out.nodes x hxl).cell 0; simpa using this
      have cp := HTB.out.parent HV.out hxr
      have HFT := Lib.hid (filter_take (p := fun c => decide (parL g c = some n)) hlt)
      have HX := Lib.hid hx
      have HXR := Lib.hid hxr
      have a0 : (0 : Int) ≤ (x : Int) := by omega
      have a1 : (x : Int) < 26 := by omega
      have a2 : x < 26 := by omega
      clear hx hxr
      by_cases hq : parL g x = some n
      · rw [hq] at cp
        have cp' : wr.cell? ⟨tb, 27 + x, none⟩ = some (nptr NB n) := cp
        have HP2 := Lib.hid (show P ++ [x] = ((reachS g).take (k + 1)).filter fun c => decide (parL g c = some n) by
          rw [HFT.out, ← HX.out, decide_eq_true hq, if_pos rfl, HP.out])
        have heq := fun w => run_eql_ptr_same (P := Tryz.prog) w ⟨nb NB n, 0, none⟩ Tryz.underlying53 hjt
        clear hq cp
        go_wp2_with fail
        go_quiet (fail)
        have HO6 := Lib.hid (own_below HOWN.out (below_drewN wr nq))
        have HB6 := Lib.hid (HB.out.trans ((below_drewN wr nq).mono HB.out.size))
        obtain ⟨wq, hwq⟩ : ∃ wq, wq = wr.drewN nq := ⟨_, rfl⟩
        rw [← hwq] at HO6 HB6 ⊢
        have hszq := HB6.out.size
        clear hwq heq c0 x0 cp' HOWN HB HTB
        go_wp2_with (at_builtin; refine wpList_append_own _ rfl _ _ 55 rfl w.heap.size 53 ip (.pointer none) 1 8 Tryz.underlying55 hip hz0 hz1 hz2 rfl (by decide) _ _ _ rfl (HO6.out.alloc _) ⟨wq.heap.size, 0, none⟩ 1 1 [nptr NB x] rfl rfl ?c1 ?c2 ?c3 ?c4 ?c5 ?_)
        case c1 =>
          intro j u hj
          match j, hj with
          | 0, hj =>
            have hu : nptr NB x = u := by simpa using hj
            rw [← hu]
            simp [Addr.add]
        case c2 => intro u hu; have hu' : u = nptr NB x := by simpa using hu
                   subst hu'; rfl
        case c3 => unfold maxLen; omega
        case c4 => omega
        case c5 => simp; omega
        intro v' w5 hown' hgrow _
        have hsz := (HO6.out.alloc (.cells #[nptr NB x] 53)).lt
        have hB5 := (HB6.out.alloc hszq (.cells #[nptr NB x] 53)).grown hgrow (by simp; omega) (fun j hj => (hsz j hj).1)
        have HO5 := Lib.hid (grown_row hown')
        have HB5 := Lib.hid hB5
        clear hown' hsz hgrow hB5
        go_wp2_with fail
        go_roundw
        case rel => exact ⟨k + 1, P ++ [x], by omega, by go_num, HP2.out, HO5.out, HB5.out⟩
        case measure => simp [intOf]; omega
      · have HP2 := Lib.hid (show P = ((reachS g).take (k + 1)).filter fun c => decide (parL g c = some n) by
          rw [HFT.out, ← HX.out, decide_eq_false hq, if_neg (by simp), List.append_nil, HP.out])
        cases hp : parL g x with
        | none =>
          rw [hp] at cp
          have cp' : wr.cell? ⟨tb, 27 + x, none⟩ = some (.pointer none) := cp
          have heq := fun w => run_eql_nil_ptr (P := Tryz.prog) w (b := ⟨nb NB n, 0, none⟩) Tryz.underlying53
          clear hq hp cp
          go_wp2_with fail
          go_quiet (fail)
          have HO6 := Lib.hid (own_below HOWN.out (below_drewN wr nq))
          have HB6 := Lib.hid (HB.out.trans ((below_drewN wr nq).mono HB.out.size))
          clear heq
          go_wp2_with fail
          go_roundw
          case rel => exact ⟨k + 1, P, by omega, by go_num, HP2.out, HO6.out, HB6.out⟩
          case measure => simp [intOf]; omega
        | some p =>
          have hpn : p ≠ n := fun e => hq (by rw [hp, e])
          have hpl := ((parL_iff HV.out HXR.out).1 hp).2.1.lt HV.out
          rw [hp] at cp
          have cp' : wr.cell? ⟨tb, 27 + x, none⟩ = some (nptr NB p) := cp
          have hbp := fun (m : Nat) => (show Blk (wr.drewN m) (nb NB p) 87 _ from HTB.out.nodes p hpl)
          have hbn := fun (m : Nat) => (show Blk (wr.drewN m) (nb NB n) 87 _ from HTB.out.nodes n hnl)
          have heq := fun m => run_eql_ptr_other (P := Tryz.prog) (wr.drewN m) Tryz.underlying53 hjt (by rw [HJS.out]; decide) (nptr_ne hpn) (hbp m) (hbn m)
          clear hq hp cp hpn hpl hbp hbn
          go_wp2_with fail
          go_quiet (fail)
          have HO6 := Lib.hid (own_below HOWN.out (below_drewN wr nq))
          have HB6 := Lib.hid (HB.out.trans ((below_drewN wr nq).mono HB.out.size))
          clear heq
          go_wp2_with fail
          go_roundw
          case rel => exact ⟨k + 1, P, by omega, by go_num, HP2.out, HO6.out, HB6.out⟩
          case measure => simp [intOf]; omega
    · have HE := Lib.hid (show P = kidsL g n by rw [HP.out, List.take_of_length_le (by omega)]; rfl)
      go_wp2_with fail
      go_ret
      exact ⟨_, rfl, by rw [← HE.out]; exact HOWN.out, HB.out⟩

theorem childrenOf_any (tb NB : Nat) (g : List Bl) (B off cap : Nat) (S : Nat → Nat) (n : Nat) (w : World) (hv : validB g = true) (h : TreeAt w tb NB g B off cap S) (hnl : n < g.length) :
    Calls Tryz.prog 53 #[.pointer (some ⟨tb, 0, none⟩), nptr NB n] w (FoundPost w NB (kidsL g n)) := by
  refine (childrenOf_own tb NB g B off cap S n w hv h hnl).mono ?_
  rintro e w' ⟨v, rfl, hown, hb⟩
  obtain ⟨A5, cap5, rfl, hp5, _⟩ := own_idx hown
  exact ⟨A5, cap5, rfl, hp5, hb⟩

/-- The names of what is found in the tree. -/
def FindsAt (F : FuncId) (L : List Bl → Nat → List Nat) : Prop := ∀ (tb NB : Nat) (g : List Bl) (B off cap : Nat) (S : Nat → Nat) (n : Nat) (w : World), validB g = true → TreeAt w tb NB g B off cap S → Rch g [] n →
  Calls Tryz.prog F #[.pointer (some ⟨tb, 0, none⟩), nptr NB n] w (FoundPost w NB (L g n))

def foundV (L : List Bl → Nat → List Nat) (g : List Bl) (s : ByteArray) : ByteArray := match liveOf g s with | some n => namesAt g (L g n) | none => ⟨#[]⟩

set_option maxRecDepth 100000 in
set_option maxHeartbeats 1000000 in
theorem namesFound_any (F : FuncId) (L : List Bl → Nat → List Nat) (hF : FindsAt F L) (hL : ∀ g n, validB g = true → Rch g [] n → (∀ x ∈ L g n, x < g.length) ∧ (L g n).length ≤ 26) (hent : ∀ args w, (callFunc F args).run Tryz.prog w = .ok (.enter F args) w)
    (A : Option Addr) (cap : Nat) (g : List Bl) (s : ByteArray) (w : World) (hg : Gr w A g) (hn : g.length + tot g ≤ 1048576) :
    Calls Tryz.prog 50 #[.slice A g.length cap, .string s, .func (.func F) #[] #[]] w fun e w' => e = .returned (.tuple #[.string (foundV L g s), .bool (liveB g s)]) ∧ Below w.heap.size w w' := by
  cases hv : validB g with
  | false =>
    have HC := Lib.hid (treeOf_no A cap g w hg hn hv)
    have H1 := Lib.hid (show (⟨#[]⟩ : ByteArray) = foundV L g s by unfold foundV; rw [liveOf_no hv])
    have H2 := Lib.hid (liveB_none (liveOf_no (s := s) hv))
    clear hv hF hL
    go_enter Tryz.func50, Tryz.ntmps50
    go_wp2_with fail
    refine HC.out.mono ?_
    rintro e w1 ⟨tb, rfl, hT, b1⟩
    have HT := Lib.hid hT
    clear hT
    go_wp2_with fail
    refine (treeNamed_no tb _ _ s w1 HT.out).mono ?_
    rintro e w2 ⟨rfl, rfl⟩
    go_wp2_with fail
    go_ret2
    exact ⟨ret_sb H1.out H2.out.symm, b1⟩
  | true =>
    have HC := Lib.hid (treeOf_yes A cap g w hg hn hv)
    have HV := Lib.hid hv
    have HNA := Lib.hid (fun tb NB B off c1 S s w1 => treeNamed_any tb NB g B off c1 S s w1 hv)
    have HFF := Lib.hid hF
    have HLL := Lib.hid hL
    cases ha : liveOf g s with
    | none =>
      have H1 := Lib.hid (show (⟨#[]⟩ : ByteArray) = foundV L g s by unfold foundV; rw [ha])
      have H2 := Lib.hid (liveB_none ha)
      have HA := Lib.hid ha
      clear hv ha hF hL
      go_enter Tryz.func50, Tryz.ntmps50
      go_wp2_with fail
      refine HC.out.mono ?_
      rintro e w1 ⟨tb, NB, B, off, c1, S, _, rfl, hT, b1⟩
      have n1 := HNA.out tb NB B off c1 S s w1 hT
      rw [HA.out] at n1
      have N1 : Hid (Calls Tryz.prog 40 #[.pointer (some ⟨tb, 0, none⟩), .string s] w1 fun e w' => e = .returned (.pointer none) ∧ w1 = w') := n1
      clear n1 hT
      go_wp2_with fail
      refine N1.out.mono ?_
      rintro e w2 ⟨rfl, rfl⟩
      go_wp2_with fail
      go_ret2
      exact ⟨ret_sb H1.out H2.out.symm, b1⟩
    | some n =>
      have HA := Lib.hid ha
      have HR := Lib.hid (live_name ha).2.2.2
      have H1 := Lib.hid (show namesAt g (L g n) = foundV L g s by unfold foundV; rw [ha])
      have H2 := Lib.hid (liveB_some ha)
      clear hv ha hF hL
      go_enter Tryz.func50, Tryz.ntmps50
      go_wp2_with fail
      refine HC.out.mono ?_
      rintro e w1 ⟨tb, NB, B, off, c1, S, _, rfl, hT, b1⟩
      have n1 := HNA.out tb NB B off c1 S s w1 hT
      rw [HA.out] at n1
      have N1 : Hid (Calls Tryz.prog 40 #[.pointer (some ⟨tb, 0, none⟩), .string s] w1 fun e w' => e = .returned (nptr NB n) ∧ w1 = w') := n1
      have HFN := Lib.hid (HFF.out tb NB g B off c1 S n w1 HV.out hT HR.out)
      have HN1 := Lib.hid hT.nodes
      clear n1 hT
      go_wp2_with fail
      refine N1.out.mono ?_
      rintro e w2 ⟨rfl, rfl⟩
      go_wp2_with fail
      refine HFN.out.mono ?_
      rintro e w3 ⟨A3, c3, rfl, hp3, b3⟩
      obtain ⟨hl1, hl2⟩ := HLL.out g n HV.out HR.out
      have hj := join_any A3 c3 (nodesAt NB g (L g n)) w3 (pts_of_idx hp3 (HN1.out.below b3) hl1) (by rw [nodesAt_length]; omega) (by rw [joined_nodesAt, namesAt_size HV.out _ hl1]; omega)
      rw [nodesAt_length, joined_nodesAt] at hj
      have HJ := Lib.hid hj
      clear hp3 hl1 hj
      go_wp2_with fail
      refine HJ.out.mono ?_
      rintro e w4 ⟨rfl, b4⟩
      go_wp2_with fail
      go_ret2
      exact ⟨ret_sb H1.out H2.out.symm, below_trans_self (below_trans_self b1 b3) b4⟩
end Go.Proofs.YtklnhbfpmmdhjaaGreat
