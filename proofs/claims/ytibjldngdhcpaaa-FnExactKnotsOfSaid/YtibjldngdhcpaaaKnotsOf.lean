/-
  KnotsOf of both.
-/
import Derived.Test.YtibjldngdhcpaaaKnots
import Derived.Test.YtibjldngdhcpaaaSortTwo
import Derived.Test.YtibjldngdhcpaaaPrune
import Derived.Test.YtibjldngdhcpaaaSpecReached
import Derived.Test.YtibjldngdhcpaaaOwnStr
import Derived.Deep.AppendLies
namespace Go.Proofs.Ytibjldngdhcpaaa
open Go.RowKit Go.Sort

/-- The cells of knots. -/
def cellsK (g : List Bl) : List Value := g.flatMap fun b => [.string b.1, .string b.2]
theorem cellsK_append (g h : List Bl) : cellsK (g ++ h) = cellsK g ++ cellsK h := by simp [cellsK]
theorem cellsK_at : ∀ {g : List Bl} {k : Nat} (h : k < g.length), (cellsK g)[k * 2]? = some (.string g[k].1) ∧ (cellsK g)[k * 2 + 1]? = some (.string g[k].2)
  | b :: g, 0, _ => by simp [cellsK]
  | b :: g, k + 1, h => by
    have ih := cellsK_at (g := g) (k := k) (by simpa using h)
    have e : cellsK (b :: g) = .string b.1 :: .string b.2 :: cellsK g := rfl
    have e1 : (k + 1) * 2 = k * 2 + 1 + 1 := by omega
    rw [e, e1]
    simpa using ih
/-- A slice of the call's own that holds knots. -/
abbrev OwnKn (w : World) (base : Nat) (v : Value) (g : List Bl) : Prop := w.ownsRow base 58 2 v g.length (cellsK g)
theorem ownK_gr {w : World} {base : Nat} {v : Value} {g : List Bl} (h : OwnKn w base v g) : ∃ A cap, v = .slice A g.length cap ∧ g.length ≤ cap ∧ Gr w A g := by
  rcases h.2 with ⟨rfl, hn⟩ | ⟨gb, cap, cur, hv, _, hg, hnc, _⟩
  · exact ⟨none, 0, by rw [hn], by omega, fun hpos => absurd hpos (by omega)⟩
  · subst hv
    refine ⟨_, _, rfl, hnc, fun _ => ⟨gb, 0, rfl, ?_, fun j hj => ?_⟩⟩
    · rcases Nat.lt_or_ge gb w.heap.size with h' | h'
      · exact h'
      · rw [Array.getElem?_eq_none h'] at hg; cases hg
    · have c0 := h.cellAt (j * 2) (by omega)
      have c1 := h.cellAt (j * 2 + 1) (by omega)
      rw [(cellsK_at hj).1] at c0
      rw [(cellsK_at hj).2] at c1
      rw [Nat.zero_add]
      exact ⟨c0, c1⟩
theorem ownK_cases {w : World} {base : Nat} {v : Value} {g : List Bl} (h : OwnKn w base v g) : (v = .slice none 0 0 ∧ g = []) ∨ ∃ B cap, v = .slice (some ⟨B, 0, none⟩) g.length cap ∧ base ≤ B ∧ OwnGr w B g := by
  rcases h.2 with ⟨hv, hn⟩ | ⟨B, cap, cur, hv, hb, hg, hnc, _, _, ht⟩
  · exact .inl ⟨hv, List.eq_nil_of_length_eq_zero hn⟩
  · refine .inr ⟨B, cap, hv, hb, cur, 58, hg, fun k hk => ?_⟩
    have c := cellsK_at hk
    have key : ∀ j, j < g.length * 2 → cur[j]? = (cellsK g)[j]? := fun j hj => by
      rw [← ht, List.getElem?_take_of_lt hj, Array.getElem?_toList]
    rw [key _ (by omega), key _ (by omega)]
    exact c
theorem belowG {n : Nat} {w a a' : World} {row : Option Nat} (h : Below n w a) (hg : a.grownBy a' row) (hn : n ≤ a.heap.size) (hr : ∀ k, row = some k → n ≤ k) : Below n w a' :=
  ⟨hg.os.trans h.os, hg.tape.trans h.tape, hg.output.trans h.output, Nat.le_trans h.size hg.size, fun k hk => (hg.block k (by omega) (fun e => by have := hr k e.symm; omega)).trans (h.block k hk)⟩

/-- The letters of a text in their order. -/
def upTo (l : List UInt8) (k : Nat) : List UInt8 := ((List.range k).map fun i => UInt8.ofNat (65 + i)).filter fun c => decide (c ∈ l)
def upL (l : List UInt8) : List UInt8 := upTo l 26
theorem upTo_next (l : List UInt8) (k : Nat) : upTo l (k + 1) = upTo l k ++ (if UInt8.ofNat (65 + k) ∈ l then [UInt8.ofNat (65 + k)] else []) := by
  unfold upTo
  rw [List.range_succ, List.map_append, List.filter_append]
  congr 1
  simp only [List.map_cons, List.map_nil, List.filter_cons, List.filter_nil]
  split <;> rename_i h
  · rw [if_pos (of_decide_eq_true h)]
  · rw [if_neg (fun h2 => h (decide_eq_true h2))]
theorem upTo_len (l : List UInt8) (k : Nat) : (upTo l k).length ≤ k := by
  unfold upTo
  refine Nat.le_trans (List.length_filter_le _ _) ?_
  simp
theorem up_two (i j : Nat) (hi : i < 26) (hj : j < 26) (h : i ≠ j) : upL [UInt8.ofNat (65 + i), UInt8.ofNat (65 + j)] = sort2 [UInt8.ofNat (65 + i), UInt8.ofNat (65 + j)] := by
  have key : (List.range 26).all (fun i => (List.range 26).all fun j => i == j || upL [UInt8.ofNat (65 + i), UInt8.ofNat (65 + j)] == sort2 [UInt8.ofNat (65 + i), UInt8.ofNat (65 + j)]) = true := by decide +kernel
  have := List.all_eq_true.1 (List.all_eq_true.1 key i (List.mem_range.2 hi)) j (List.mem_range.2 hj)
  simpa [h] using this
theorem up_one (i : Nat) (hi : i < 26) : upL [UInt8.ofNat (65 + i)] = sort2 [UInt8.ofNat (65 + i)] := by
  have key : (List.range 26).all (fun i => upL [UInt8.ofNat (65 + i)] == sort2 [UInt8.ofNat (65 + i)]) = true := by decide +kernel
  simpa using List.all_eq_true.1 key i (List.mem_range.2 hi)
theorem let_num {c : UInt8} (h : letB c = true) : ∃ i, i < 26 ∧ c = UInt8.ofNat (65 + i) := by
  unfold letB at h
  rw [Bool.and_eq_true, decide_eq_true_eq, decide_eq_true_eq] at h
  refine ⟨c.toNat - 65, by omega, ?_⟩
  rw [show 65 + (c.toNat - 65) = c.toNat by omega]
  simp
/-- What a block goes on to, in order. -/
theorem up_next {g : List Bl} (hv : validB g = true) {i : Nat} (hi : i < g.length) : upL g[i].2.data.toList = sort2 g[i].2.data.toList := by
  have hl := list_of_size (s := g[i].2)
  have hlet : ∀ c ∈ g[i].2.data.toList, letB c = true := fun c hc => by
    obtain ⟨t, ht, htg⟩ : ∃ t, ∃ h : t < g.length, g[t].1 = ⟨#[c]⟩ := by
      obtain ⟨k, hk, e⟩ := List.getElem_of_mem hc
      obtain ⟨p, hp, _, hs⟩ := posOf_valid hv hi (j := k) (by omega)
      refine ⟨p, hp, ?_⟩
      rw [hs]
      have h0 := byte_at g[i].2 k (by omega)
      rw [List.getElem?_eq_getElem hk, e] at h0
      rw [← Option.some.inj h0]
    obtain ⟨d, hd, hl⟩ := valid_one hv (List.getElem_mem ht)
    rw [htg] at hd
    have : c = d := by injection hd with h; simpa using h
    rw [this]; exact hl
  have h2 := nextB_iff.1 (nextsB_iff.1 (valid_iff.1 hv).2.2.2 i hi)
  match hm : g[i].2.data.toList with
  | [] => rfl
  | [a] =>
    obtain ⟨x, hx, rfl⟩ := let_num (hlet a (by rw [hm]; simp))
    exact up_one x hx
  | [a, b] =>
    obtain ⟨x, hx, ha⟩ := let_num (hlet a (by rw [hm]; simp))
    obtain ⟨y, hy, hb⟩ := let_num (hlet b (by rw [hm]; simp))
    have hs : g[i].2.size = 2 := by rw [← hl, hm]; rfl
    have hne := h2.2.2 hs
    have h0 := byte_at g[i].2 0 (by omega)
    have h1 := byte_at g[i].2 1 (by omega)
    rw [hm] at h0 h1
    have h0 : a = g[i].2[0]'(by omega) := by simpa using h0
    have h1 : b = g[i].2[1]'(by omega) := by simpa using h1
    rw [ha, hb]
    refine up_two x y hx hy fun e => hne ?_
    rw [← h0, ← h1, ha, hb, e]
  | a :: b :: c :: l => have h3 := h2.1; rw [← hl, hm] at h3; simp at h3

/-- The knots of a graph. -/
def knotsG (g : List Bl) : List Bl := (pruneG g).map fun b => (b.1, upS b.2)

/-- Those that come from the first k blocks. -/
def knotsTo (g : List Bl) (k : Nat) : List Bl := (srt g (reachS g) k).map fun i => (nthName g i, upS (nthNext g i))
theorem knotsTo_all {g : List Bl} (hv : validB g = true) : knotsTo g g.length = knotsG g := by
  unfold knotsTo knotsG pruneG
  rw [List.map_map]
  congr 1
  conv => rhs; rw [reachS_srt]
  unfold srt
  apply List.filter_congr
  intro i _
  rw [Bool.eq_iff_iff, decide_eq_true_iff, decide_eq_true_iff]
  rw [reachS_srt]; unfold srt
  rw [List.mem_filter, List.mem_range]
  constructor
  · rintro ⟨_, h⟩; simpa using h
  · intro h; exact ⟨reach_lt hv h, by simpa using h⟩
theorem knotsTo_yes {g : List Bl} {k : Nat} (hk : k < g.length) (h : k ∈ reachS g) : knotsTo g (k + 1) = knotsTo g k ++ [(g[k].1, upS g[k].2)] := by
  unfold knotsTo; rw [srt_yes h, List.map_append]
  congr 1
  simp only [List.map_cons, List.map_nil]
  rw [nthName_at hk, nthNext_at hk]
theorem knotsTo_no {g : List Bl} {k : Nat} (h : k ∉ reachS g) : knotsTo g (k + 1) = knotsTo g k := by unfold knotsTo; rw [srt_no h]
theorem knotsTo_length (g : List Bl) (k : Nat) : (knotsTo g k).length ≤ k := by unfold knotsTo; rw [List.length_map]; exact srt_len g _ k

set_option maxRecDepth 100000 in
set_option maxHeartbeats 1600000 in
theorem l9Up_any (s : ByteArray) (w : World) (hs : s.size ≤ 4611686018427387904) :
    Calls Try.prog 78 #[.string s] w fun e w' => e = .returned (.string ⟨(upL s.data.toList).toArray⟩) ∧ Below w.heap.size w w' := by
  have HF := Lib.hid (fun (c : UInt8) W => find_any s c W hs)
  clear hs
  go_enter Try.func78, Try.ntmps78
  obtain ⟨l, hl⟩ : ∃ l, l = s.data.toList := ⟨_, rfl⟩
  rw [← hl] at HF
  have HL := Lib.hid hl
  go_wp2_with fail
  go_loopw [3, 4] (fun ov cv wr => ∃ k : Nat, k ≤ 26 ∧ cv = .int .u8 (65 + (k : Int)) ∧ ov = .string ⟨(upTo l k).toArray⟩ ∧ Below w.heap.size w wr) (fun _ cv _ => 91 - (intOf cv).toNat)
  case atStart => exact ⟨0, by omega, rfl, rfl, Below.refl _ _⟩
  case round =>
    obtain ⟨k, hk, rfl, rfl, hB⟩ := hrel
    by_cases hlt : k < 26
    · have g1 : (65 : Int) + k ≤ 90 := by omega
      have hcN : ((UInt8.ofNat (65 + k)).toNat : Int) = 65 + (k : Int) := by rw [UInt8.toNat_ofNat']; omega
      have hstep := upTo_next l k
      have hlen := upTo_len l k
      obtain ⟨c, hc⟩ : ∃ c, c = UInt8.ofNat (65 + k) := ⟨_, rfl⟩
      rw [← hc] at hcN hstep
      obtain ⟨m, hm⟩ : ∃ m, m = (⟨(upTo l k).toArray⟩ : ByteArray) := ⟨_, rfl⟩
      have hms : m.size ≤ 26 := by rw [hm]; show (upTo l k).toArray.size ≤ 26; simp; omega
      rw [← hm]
      have HF1 := Lib.hid (by have := HF.out c wr; rw [hcN] at this; exact this : Calls Try.prog 71 #[.string s, .int .u8 (65 + (k : Int))] wr fun e w' => e = .returned (.int .i64 (Lib.indexByte l c)) ∧ wr = w')
      obtain ⟨z, hz⟩ : ∃ z, z = Lib.indexByte l c := ⟨_, rfl⟩
      rw [← hz] at HF1
      have s1 : ((65 : Int) + k + 1) % 256 = 65 + k + 1 := by omega
      have s2 : IntKind.u8.wrap ((65 : Int) + k + 1) = 65 + k + 1 := by
        show ((65 : Int) + k + 1) % 256 = _
        exact s1
      have hcv : (convert 111 9 (.slice (some ⟨wr.heap.size, 0, none⟩) 1 1)).run Try.prog (wr.alloc (.cells #[.int .u8 (65 + (k : Int))] 5)) = .ok (.string ⟨#[c]⟩) (wr.alloc (.cells #[.int .u8 (65 + (k : Int))] 5)) :=
        run_convert_bytes_back (P := Try.prog) (wr.alloc (.cells #[.int .u8 (65 + (k : Int))] 5)) 111 9 5 ⟨wr.heap.size, 0, none⟩ 1 [c] Try.underlying111 Try.underlying5 Try.underlying9 (fun j hj => by
          have hj0 : j = 0 := by simpa using hj
          subst hj0
          have := (Blk.new wr 5 #[.int .u8 (65 + (k : Int))]).cell 0
          rw [List.getElem_cons_zero, hcN]
          exact this)
      have HM := Lib.hid hm
      by_cases hin : c ∈ l
      · have hz0 : 0 ≤ z := by rw [hz]; exact idx_mem.2 hin
        have HN : Hid ((⟨(upTo l (k + 1)).toArray⟩ : ByteArray) = m ++ ⟨#[c]⟩) := Lib.hid (by
          rw [hstep, if_pos hin, HM.out]
          apply ba_ext
          rw [ba_append_toList])
        clear hin hz hstep hc hm hlen hcN
        go_wp2_with fail
        refine HF1.out.mono ?_
        rintro e w' ⟨rfl, rfl⟩
        go_wp2_with fail
        go_roundw
        case rel => exact ⟨k + 1, by omega, by congr 1 <;> omega, by rw [HN.out], hB.alloc hB.size _⟩
        case measure => simp [intOf]; omega
      · have hz0 : ¬ 0 ≤ z := fun h => hin (idx_mem.1 (by rw [← hz]; exact h))
        have HN : Hid ((⟨(upTo l (k + 1)).toArray⟩ : ByteArray) = m) := Lib.hid (by
          rw [hstep, if_neg hin, List.append_nil, HM.out])
        clear hin hz hstep hc hm hlen hcN hcv
        go_wp2_with fail
        refine HF1.out.mono ?_
        rintro e w' ⟨rfl, rfl⟩
        go_wp2_with fail
        go_roundw
        case rel => exact ⟨k + 1, by omega, by congr 1 <;> omega, by rw [HN.out], hB⟩
        case measure => simp [intOf]; omega
    · have hk26 : k = 26 := by omega
      subst hk26
      go_wp2_with fail
      go_ret
      exact ⟨ret_string (by rw [HL.out]; rfl), hB⟩

set_option maxRecDepth 100000 in
set_option maxHeartbeats 3200000 in
theorem l9Knots_any (A : Option Addr) (cap : Nat) (g : List Bl) (w : World) (hg : Gr w A g) (hn : g.length + tot g ≤ 1048576) (hv : validB g = true) :
    Calls Try.prog 52 #[.slice A g.length cap] w fun e w' => ∃ v, e = .returned v ∧ OwnKn w' w.heap.size v (knotsG g) ∧ Below w.heap.size w w' := by
  obtain ⟨i0, hi, hz0, hz1, hz2⟩ := info_parts info_knot
  have HRC := Lib.hid (fun w h => l1Reached_any A cap g w h hn hv)
  have h26 := (valid_iff.1 hv).2.1
  have HG := Lib.hid hg
  have HV := Lib.hid hv
  obtain ⟨r, hr⟩ : ∃ r, r = namesAt g (reachS g) := ⟨_, rfl⟩
  have hrs : r.size ≤ 26 := by
    rw [hr, namesAt_size hv _ (reachS_lt g), reachS_srt]
    have := srt_len g (reach g) g.length; omega
  rw [← hr] at HRC
  have HR := Lib.hid hr
  have HA0 := Lib.hid (World.ownsRow_made (base := w.heap.size) (e := 58) (size := 2) w #[] 0 (Nat.le_refl _) (Nat.zero_le _) rfl)
  have HB0 : Hid (Below w.heap.size w (w.alloc (.cells #[] 58))) := (Below.refl _ _).alloc (Nat.le_refl _) _
  clear hg hv hr
  go_enter Try.func52, Try.ntmps52
  go_wp2_with fail
  refine (HRC.out _ (HG.out.below HB0.out)).mono ?_
  rintro e w2 ⟨rfl, b2⟩
  have HO2 : Hid (OwnKn w2 w.heap.size (.slice (some ⟨w.heap.size, 0, none⟩) 0 0) []) := by
    have h := HA0.out
    exact ownRow_below h b2
  have HB2 := Lib.hid (HB0.out.trans (b2.mono HB0.out.size))
  clear b2
  go_wp2_with fail
  go_loopw [3, 12] (fun v i wr => ∃ k : Nat, k ≤ g.length ∧ i = .int .i64 k ∧ Hid (OwnKn wr w.heap.size v (knotsTo g k)) ∧ Below w.heap.size w wr) (fun _ i _ => g.length - (intOf i).toNat)
  case atStart => exact ⟨0, Nat.zero_le _, rfl, HO2, HB2.out⟩
  case round =>
    obtain ⟨k, hk, rfl, HOW, hB⟩ := hrel
    by_cases hlt : k < g.length
    · obtain ⟨b, off, t, t2, hA, hb, hc0, hc1, he, he2⟩ := gr_at (HG.out.below hB) hlt
      obtain ⟨c, hc, _⟩ := valid_one HV.out (List.getElem_mem hlt)
      have htc : t = ⟨#[c]⟩ := he.symm.trans hc
      have ht1 : t.size = 1 := by rw [htc]; rfl
      have h0t : 0 < t.size := by omega
      have hidx := idx_namesAt HV.out (reachS_lt g) hlt hc
      rw [← HR.out] at hidx
      obtain ⟨z, hz⟩ : ∃ z, z = Lib.indexByte r.data.toList c := ⟨_, rfl⟩
      rw [← hz] at hidx
      have HFC : Hid (∀ w, Calls Try.prog 71 #[.string r, .int .u8 (t[0]'h0t).toNat] w fun e w' => e = .returned (.int .i64 z) ∧ w = w') := fun w => by
        rw [hz, one_get htc h0t]; exact find_any r c w (by omega)
      have hup : upL t2.data.toList = sort2 t2.data.toList := by
        have := up_next HV.out hlt
        rw [he2] at this; exact this
      have ht2 : t2.size ≤ 2 := by
        have := (nextB_iff.1 (nextsB_iff.1 (valid_iff.1 HV.out).2.2.2 k hlt)).1
        rw [he2] at this; exact this
      obtain ⟨u, hu⟩ : ∃ u, u = upS t2 := ⟨_, rfl⟩
      have HUP : Hid (∀ w, Calls Try.prog 78 #[.string t2] w fun e w' => e = .returned (.string u) ∧ Below w.heap.size w w') := fun w => by
        have := l9Up_any t2 w (by omega)
        rw [hup] at this
        rw [hu]; exact this
      have HE := Lib.hid he
      have HE2 := Lib.hid he2
      have HU := Lib.hid hu
      have HBA := Lib.hid (hB.alloc hB.size (.cells #[.string t, .string t2] 71))
      have HOA : Hid (∀ v, OwnKn wr w.heap.size v (knotsTo g k) → OwnKn (wr.alloc (.cells #[.string t, .string t2] 71)) w.heap.size v (knotsTo g k)) := fun v h => h.alloc _
      subst hA
      clear he he2 hc htc hz hup hu
      have hca := Blk.new wr 71 #[.string t, .string t2]
      have hsz1 : wr.heap.size < (wr.alloc (.cells #[.string t, .string t2] 71)).heap.size := by simp
      by_cases hin : k ∈ reachS g
      · have q2 : 0 ≤ z := hidx.2 hin
        have HPT := Lib.hid (show knotsTo g (k + 1) = knotsTo g k ++ [(t, u)] by rw [knotsTo_yes hlt hin, HE.out, HE2.out, HU.out])
        have hpl := knotsTo_length g k
        clear hidx hin
        go_wp2_with fail
        refine (HFC.out _).mono ?_
        rintro e w4 ⟨rfl, rfl⟩
        obtain ⟨wa, hwa⟩ : ∃ wa, wa = wr.alloc (.cells #[.string t, .string t2] 71) := ⟨_, rfl⟩
        rw [← hwa] at HBA HOA hca hsz1 ⊢
        have HOB := Lib.hid (HOA.out _ HOW.out)
        have hbs := HBA.out.size
        have x0 := hca.cell 0
        have x1 := hca.cell 1
        clear hwa hca HOA
        go_wp2_with fail
        have HOC : Hid (∀ W, Below wa.heap.size wa W → OwnKn W w.heap.size _ (knotsTo g k)) := Lib.hid fun W h => ownRow_below HOB.out h
        go_region_law (first
          | (refine step_append_lies _ (by rfl) _ _ _ (by rfl) w.heap.size 58 i0 _ 2 32 Try.underlying25 hi hz0 hz1 hz2 rfl (by omega) _ _ _ (by rfl) ((HOC.out _ (below_trans_self (below_drewN wa 1) b5)).alloc _) ⟨w5.heap.size, 0, none⟩ 1 1 [.string t, .string u] (by rfl) (by rfl) (World.news_of_block (cs := #[.string t, .string u]) (t := 58) (fr := (0, 0)) (heap_alloc_new w5 _)) (by simp [Value.oneCell']) (by omega) (by unfold maxLen; omega) (by omega) ?_ (w5.heap.size + 1) (by simp) ?_
             · have z5 := b5.size; simp at z5 ⊢; omega
             intro gg2 capg w6 hown6 hgrow hat6 hltg)
          | (go_simp; go_at_call 78; refine (HUP.out _).mono ?_; rintro e w5 ⟨rfl, b5⟩; have y0 : w5.cell? ⟨wr.heap.size, 0, none⟩ = some (.string t) := ((below_trans_self (below_drewN wa 1) b5).cell (p := ⟨wr.heap.size, 0, none⟩) hsz1).trans x0; have y1 : w5.cell? ⟨wr.heap.size, 1, none⟩ = some (.string t2) := ((below_trans_self (below_drewN wa 1) b5).cell (p := ⟨wr.heap.size, 1, none⟩) hsz1).trans x1)
          | fail)
        all_goals
          have hrow := ((HOC.out _ (below_trans_self (below_drewN wa 1) b5)).alloc (.cells #[.string t, .string u] 58)).lt
          have HB9 : Hid (Below w.heap.size w w6) := Lib.hid (belowG ((HBA.out.trans ((below_trans_self (below_drewN wa 1) b5).mono hbs)).alloc (Nat.le_trans hbs (below_trans_self (below_drewN wa 1) b5).size) (.cells #[.string t, .string u] 58)) hgrow (by have := (below_trans_self (below_drewN wa 1) b5).size; simp; omega) (fun j hj => (hrow j hj).1))
          have HV9 : Hid (OwnKn w6 w.heap.size (.slice (some ⟨gg2, 0, none⟩) ((knotsTo g k).length + 1) capg) (knotsTo g (k + 1))) := Lib.hid (by
            rw [HPT.out]
            show w6.ownsRow w.heap.size 58 2 _ (knotsTo g k ++ [(t, u)]).length (cellsK (knotsTo g k ++ [(t, u)]))
            rw [List.length_append, cellsK_append]
            exact hown6)
          clear hown6 hgrow hrow hat6 hltg b5
          go_wp2_with fail
          go_roundw
          case rel => exact ⟨k + 1, by omega, by go_num, HV9, HB9.out⟩
          case measure => simp [intOf]; omega
      · have q2 : ¬ 0 ≤ z := fun h => hin (hidx.1 h)
        have HPT := Lib.hid (knotsTo_no (g := g) hin)
        clear hidx hin hca hsz1
        go_wp2_with fail
        refine (HFC.out _).mono ?_
        rintro e w4 ⟨rfl, rfl⟩
        go_wp2_with fail
        go_roundw
        case rel => exact ⟨k + 1, by omega, by go_num, by rw [HPT.out]; exact HOA.out _ HOW.out, HBA.out⟩
        case measure => simp [intOf]; omega
    · have hke : k = g.length := by omega
      have HF := Lib.hid (show OwnKn wr w.heap.size _ (knotsG g) by rw [← knotsTo_all HV.out, ← hke]; exact HOW.out)
      have HB := Lib.hid hB
      clear hke hB
      go_wp2_with fail
      exact bodyPost_ret (by simp [results, Try.results52, go_sem]) rfl ⟨_, rfl, HF.out, HB.out⟩
/-- What KnotsOf answers. -/
def knotsV (g : List Bl) : List Bl := if validB g = true then knotsG g else []
def KnotsPost (g : List Bl) (w : World) (e : Ending) (w' : World) : Prop :=
  ∃ v, e = .returned (.tuple #[v, .bool (validB g)]) ∧ OwnKn w' w.heap.size v (knotsV g) ∧ Below w.heap.size w w'
theorem ownK_low {w : World} {b b' : Nat} {v : Value} {g : List Bl} (h : OwnKn w b v g) (hb : b' ≤ b) : OwnKn w b' v g := by
  refine ⟨h.1, h.2.imp id ?_⟩
  rintro ⟨gb, cap, cur, hv, hg, h⟩
  exact ⟨gb, cap, cur, hv, by omega, h⟩

set_option maxRecDepth 100000 in
theorem specKnotsOf_any (A : Option Addr) (cap : Nat) (g : List Bl) (w : World) (hg : Gr w A g) (hn : g.length + tot g ≤ 1048576) (hcap : g.length ≤ cap) :
    Calls Try.prog 17 #[.slice A g.length cap] w (KnotsPost g w) := by
  have HVC := Lib.hid (specValid_any A cap g w hg hn hcap)
  have HG := Lib.hid hg
  clear hg
  unfold KnotsPost knotsV
  by_cases hv : validB g = true
  · have HK := Lib.hid (fun W (h : Gr W A g) => l9Knots_any A cap g W h hn hv)
    rw [hv] at HVC
    rw [if_pos hv, hv]
    clear hv
    go_enter Try.func17, Try.ntmps17
    go_wp2_with fail
    refine HVC.out.mono ?_
    rintro e w1 ⟨rfl, b1⟩
    have HG1 := Lib.hid (HG.out.below b1)
    have HB1 := Lib.hid b1
    clear b1
    go_wp2_with fail
    refine (HK.out w1 HG1.out).mono ?_
    rintro e w2 ⟨v, rfl, h2, b2⟩
    have HO := Lib.hid (ownK_low h2 HB1.out.size)
    have HB2 := Lib.hid (below_trans_self HB1.out b2)
    clear h2 b2
    go_wp2_with fail
    exact bodyPost_ret (v := .tuple #[v, .bool true]) (by simp [results, Try.results17, go_sem]) rfl ⟨v, rfl, HO.out, HB2.out⟩
  · have hv : validB g = false := by simpa using hv
    rw [hv] at HVC
    rw [if_neg (by rw [hv]; simp), hv]
    clear hv
    go_enter Try.func17, Try.ntmps17
    go_wp2_with fail
    refine HVC.out.mono ?_
    rintro e w1 ⟨rfl, b1⟩
    have HB1 := Lib.hid b1
    have hs1 := b1.size
    clear b1
    have HA0 := Lib.hid (World.ownsRow_made (base := w.heap.size) (e := 58) (size := 2) w1 #[] 0 hs1 (Nat.zero_le _) rfl)
    go_wp2_with fail
    exact bodyPost_ret (v := .tuple #[.slice (some ⟨w1.heap.size, 0, none⟩) 0 0, .bool false]) (by simp [results, Try.results17, go_sem]) rfl ⟨_, rfl, HA0.out, HB1.out.alloc hs1 _⟩

/-- The knots of the first blocks that are left. -/
def knotsP (p : List Bl) (k : Nat) : List Bl := (p.take k).map fun b => (b.1, upS b.2)
theorem knotsP_next {p : List Bl} {k : Nat} (h : k < p.length) : knotsP p (k + 1) = knotsP p k ++ [(p[k].1, upS p[k].2)] := by
  unfold knotsP
  rw [take_snoc' p k h, List.map_append]; rfl
theorem knotsP_len (p : List Bl) (k : Nat) : (knotsP p k).length ≤ k := by
  unfold knotsP; rw [List.length_map]; exact List.length_take_le k p

set_option maxRecDepth 100000 in
theorem implKnotsOf_no (A : Option Addr) (cap : Nat) (g : List Bl) (w : World) (hg : Gr w A g) (hn : g.length + tot g ≤ 1048576) (hv : validB g = false) :
    Calls Try.prog 19 #[.slice A g.length cap] w fun e w' => e = .returned (.tuple #[.slice none 0 0, .bool false]) ∧ Below w.heap.size w w' := by
  have HC := Lib.hid (implPrune_no A cap g w hg hn hv)
  clear hg hv
  go_enter Try.func19, Try.ntmps19
  go_wp2_with fail
  refine HC.out.mono ?_
  rintro e w1 ⟨rfl, b1⟩
  have HB1 := Lib.hid b1
  clear b1
  go_wp2_with fail
  go_loopw [6, 16] (fun v i wr => v = .slice none 0 0 ∧ i = .int .i64 0 ∧ wr = w1) (fun _ _ _ => 0)
  case atStart => exact ⟨rfl, rfl, rfl⟩
  case round =>
    obtain ⟨rfl, rfl, rfl⟩ := hrel
    go_wp2_with fail
    exact bodyPost_ret (v := .tuple #[.slice none 0 0, .bool false]) (by simp [results, Try.results19, go_sem]) rfl ⟨rfl, HB1.out⟩

set_option maxRecDepth 100000 in
set_option maxHeartbeats 3200000 in
theorem implKnotsOf_any (A : Option Addr) (cap : Nat) (g : List Bl) (w : World) (hg : Gr w A g) (hn : g.length + tot g ≤ 1048576) :
    Calls Try.prog 19 #[.slice A g.length cap] w (KnotsPost g w) := by
  obtain ⟨i0, hi, hz0, hz1, hz2⟩ := info_parts info_knot
  unfold KnotsPost knotsV
  by_cases hv : validB g = true
  · have HC := Lib.hid (implPrune_yes A cap g w hg hn hv)
    rw [if_pos hv, hv]
    obtain ⟨p, hp⟩ : ∃ p, p = pruneG g := ⟨_, rfl⟩
    have hp26 : p.length ≤ 26 := by
      rw [hp, pruneG_length]
      have := srt_len g (reach g) g.length
      rw [← reachS_srt] at this
      have := (valid_iff.1 hv).2.1
      omega
    have HN2 := Lib.hid (show ∀ b ∈ p, b.2.size ≤ 2 from fun b hb => by
      rw [hp] at hb
      unfold pruneG at hb
      obtain ⟨x, hx, rfl⟩ := List.mem_map.1 hb
      have hxl := reachS_lt g _ hx
      show (nthNext g x).size ≤ 2
      rw [nthNext_at hxl]
      exact (nextB_iff.1 (nextsB_iff.1 (valid_iff.1 hv).2.2.2 x hxl)).1)
    have HKG := Lib.hid (show knotsG g = knotsP p p.length by unfold knotsG knotsP; rw [← hp, List.take_length])
    unfold PrunePost at HC
    rw [← hp] at HC
    clear hg hv hp
    go_enter Try.func19, Try.ntmps19
    go_wp2_with fail
    refine HC.out.mono ?_
    rintro e w1 ⟨B, hB, rfl, ho, b1⟩
    have HP := Lib.hid ho.gr
    have HB1 := Lib.hid b1
    have hs1 := b1.size
    clear ho b1
    go_wp2_with fail
    go_loopw [6, 16] (fun v i wr => ∃ k : Nat, k ≤ p.length ∧ i = .int .i64 k ∧ Hid (OwnKn wr w1.heap.size v (knotsP p k)) ∧ Below w1.heap.size w1 wr) (fun _ i _ => p.length - (intOf i).toNat)
    case atStart => exact ⟨0, Nat.zero_le _, rfl, World.ownsRow_nil _ _ _ _, Below.refl _ _⟩
    case round =>
      obtain ⟨k, hk, rfl, HOW, hB'⟩ := hrel
      by_cases hlt : k < p.length
      · obtain ⟨b, off, t, t2, hA, hb, hc0, hc1, he, he2⟩ := gr_at (HP.out.below hB') hlt
        injection hA with hA
        injection hA with hA1 hA2 _
        subst hA1; subst hA2
        rw [Nat.zero_add] at hc0 hc1
        have ht2 : t2.size ≤ 2 := by rw [← he2]; exact HN2.out _ (List.getElem_mem hlt)
        obtain ⟨u, hu⟩ : ∃ u, u = upS t2 := ⟨_, rfl⟩
        have HUP : Hid (∀ w, Calls Try.prog 55 #[.string t2] w fun e w' => e = .returned (.string u) ∧ Below w.heap.size w w') := fun w => by
          have := inAlphabet_two t2 w ht2
          rw [hu]; exact this
        have HPT := Lib.hid (show knotsP p (k + 1) = knotsP p k ++ [(t, u)] by rw [knotsP_next hlt, he, he2, hu])
        have hpl := knotsP_len p k
        have HBR := Lib.hid (below_trans_self HB1.out hB')
        obtain ⟨wa, hwa⟩ : ∃ wa, wa = wr.alloc (.cells #[.string t, .string t2] 71) := ⟨_, rfl⟩
        have HBA : Hid (Below w.heap.size w wa) := Lib.hid (by rw [hwa]; exact HBR.out.alloc HBR.out.size _)
        have HBW : Hid (Below w1.heap.size w1 wa) := Lib.hid (by rw [hwa]; exact hB'.alloc hB'.size _)
        have hca : Blk wa wr.heap.size 71 #[.string t, .string t2] := by rw [hwa]; exact Blk.new wr _ _
        have hsz1 : wr.heap.size < wa.heap.size := by rw [hwa]; simp
        have HOB : Hid (OwnKn wa w1.heap.size _ (knotsP p k)) := Lib.hid (by rw [hwa]; exact HOW.out.alloc _)
        have hbs := HBA.out.size
        have hbs1 := HBW.out.size
        have x0 := hca.cell 0
        have x1 := hca.cell 1
        have HOC : Hid (∀ W, Below wa.heap.size wa W → OwnKn W w1.heap.size _ (knotsP p k)) := Lib.hid fun W h => ownRow_below HOB.out h
        have HWA := Lib.hid hwa
        clear hca he he2 hu hwa
        go_wp2_with fail
        rw [← HWA.out]
        go_region_law (first
          | (refine step_append_lies _ (by rfl) _ _ _ (by rfl) w1.heap.size 58 i0 _ 2 32 Try.underlying25 hi hz0 hz1 hz2 rfl (by omega) _ _ _ (by rfl) ((HOC.out _ (below_trans_self (below_drewN wa 1) b5)).alloc _) ⟨w5.heap.size, 0, none⟩ 1 1 [.string t, .string u] (by rfl) (by rfl) (World.news_of_block (cs := #[.string t, .string u]) (t := 58) (fr := (0, 0)) (heap_alloc_new w5 _)) (by simp [Value.oneCell']) (by omega) (by unfold maxLen; omega) (by omega) ?_ (w5.heap.size + 1) (by simp) ?_
             · have z5 := b5.size; simp at z5 ⊢; omega
             intro gg2 capg w6 hown6 hgrow hat6 hltg)
          | (go_simp; go_at_call 55; refine (HUP.out _).mono ?_; rintro e w5 ⟨rfl, b5⟩; have y0 : w5.cell? ⟨wr.heap.size, 0, none⟩ = some (.string t) := ((below_trans_self (below_drewN wa 1) b5).cell (p := ⟨wr.heap.size, 0, none⟩) hsz1).trans x0; have y1 : w5.cell? ⟨wr.heap.size, 1, none⟩ = some (.string t2) := ((below_trans_self (below_drewN wa 1) b5).cell (p := ⟨wr.heap.size, 1, none⟩) hsz1).trans x1)
          | fail)
        all_goals
          have hrow := ((HOC.out _ (below_trans_self (below_drewN wa 1) b5)).alloc (.cells #[.string t, .string u] 58)).lt
          have b6 := below_trans_self (below_drewN wa 1) b5
          have HB9 : Hid (Below w1.heap.size w1 w6) := Lib.hid (belowG ((HBW.out.trans (b6.mono hbs1)).alloc (Nat.le_trans hbs1 b6.size) (.cells #[.string t, .string u] 58)) hgrow (by have := b6.size; simp; omega) (fun j hj => (hrow j hj).1))
          have HV9 : Hid (OwnKn w6 w1.heap.size (.slice (some ⟨gg2, 0, none⟩) ((knotsP p k).length + 1) capg) (knotsP p (k + 1))) := Lib.hid (by
            rw [HPT.out]
            show w6.ownsRow w1.heap.size 58 2 _ (knotsP p k ++ [(t, u)]).length (cellsK (knotsP p k ++ [(t, u)]))
            rw [List.length_append, cellsK_append]
            exact hown6)
          clear hown6 hgrow hrow hat6 hltg b5 b6
          go_wp2_with fail
          go_roundw
          case rel => exact ⟨k + 1, by omega, by go_num, HV9, HB9.out⟩
          case measure => simp [intOf]; omega
      · have hke : k = p.length := by omega
        have HF := Lib.hid (show OwnKn wr w.heap.size _ (knotsG g) by rw [HKG.out, ← hke]; exact ownK_low HOW.out hs1)
        have HBF := Lib.hid (below_trans_self HB1.out hB')
        clear hke hB'
        go_wp2_with fail
        exact bodyPost_ret (by simp [results, Try.results19, go_sem]) rfl ⟨_, rfl, HF.out, HBF.out⟩
  · have hv : validB g = false := by simpa using hv
    rw [if_neg (by rw [hv]; simp), hv]
    exact (implKnotsOf_no A cap g w hg hn hv).mono fun e w' h => ⟨_, h.1, World.ownsRow_nil _ _ _ _, h.2⟩
end Go.Proofs.Ytibjldngdhcpaaa
