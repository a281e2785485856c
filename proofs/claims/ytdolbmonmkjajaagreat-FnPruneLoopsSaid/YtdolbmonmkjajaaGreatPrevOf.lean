/-
  Contracts of PrevOf, the program's and the model's.
-/
import Derived.Test.YtdolbmonmkjajaaGreatNodes
import Derived.OwnWalk
import Derived.LaidEqlPtr
namespace Go.Proofs.YtdolbmonmkjajaaGreat
open Go.RowKit Go.Sort

def idxP (ns : List (Nat × ByteArray)) (q : Nat) : Int :=
  match ns.findIdx? (fun x => decide (x.1 = q)) with
  | some i => i
  | none => -1

theorem idxP_some {ns : List (Nat × ByteArray)} {q k : Nat} (h : k < ns.length) (hk : ns[k].1 = q) (hb : ∀ j (h' : j < ns.length), j < k → ns[j].1 ≠ q) : idxP ns q = k := by
  unfold idxP
  have : ns.findIdx? (fun x => decide (x.1 = q)) = some k := by
    rw [List.findIdx?_eq_some_iff_getElem]
    exact ⟨h, by simpa using hk, fun j hj => by simpa using hb j (by omega) hj⟩
  rw [this]

theorem idxP_none {ns : List (Nat × ByteArray)} {q : Nat} (hb : ∀ j (h' : j < ns.length), ns[j].1 ≠ q) : idxP ns q = -1 := by
  unfold idxP
  have : ns.findIdx? (fun x => decide (x.1 = q)) = none := by
    rw [List.findIdx?_eq_none_iff]
    intro x hx
    obtain ⟨j, hj, rfl⟩ := List.getElem_of_mem hx
    simpa using hb j hj
  rw [this]

theorem idxP_has {ns : List (Nat × ByteArray)} {q : Nat} : 0 ≤ idxP ns q ↔ ∃ j, ∃ h : j < ns.length, ns[j].1 = q := by
  constructor
  · intro h
    by_cases hc : ∃ j, ∃ h : j < ns.length, ns[j].1 = q
    · exact hc
    · rw [idxP_none (fun j hj e => hc ⟨j, hj, e⟩)] at h; omega
  · rintro ⟨j, hj, e⟩
    unfold idxP
    cases hf : ns.findIdx? (fun x => decide (x.1 = q)) with
    | some i => simp
    | none =>
      rw [List.findIdx?_eq_none_iff] at hf
      have := hf ns[j] (List.getElem_mem hj)
      simp [e] at this

/-- Each of these is a node of the graph. -/
def Among (NB : Nat) (g : List Bl) (ns : List (Nat × ByteArray)) : Prop := ∀ k (h : k < ns.length), ∃ i, i < g.length ∧ ns[k].1 = nb NB i

theorem info_node : (Tryz.prog.info? 86).map (·.size) = some 3 := by kernel_rfl

set_option maxRecDepth 100000 in
theorem index_ptr (A : Option Addr) (cap : Nat) (ns : List (Nat × ByteArray)) (NB : Nat) (g : List Bl) (E : Nat → Value) (i0 : Nat) (w : World) (hp : Pts w A ns) (hn : ns.length ≤ 1048576) (hN : Nodes w NB g E) (ha : Among NB g ns) (hi0 : i0 < g.length) :
    Calls Tryz.prog 102 #[.slice A ns.length cap, nptr NB i0] w fun e w' => e = .returned (.int .i64 (idxP ns (nb NB i0))) ∧ w = w' := by
  obtain ⟨jt, hjt, hjs⟩ := Option.map_eq_some_iff.1 info_node
  have HI := Lib.hid hi0
  have HN := Lib.hid hN
  have HA := Lib.hid ha
  have HP := Lib.hid hp
  clear hN ha hp
  go_enter Tryz.func102, Tryz.ntmps102
  go_wp2_with fail
  go_loop [8] (fun i => ∃ k : Nat, k ≤ ns.length ∧ i = .int .i64 k ∧ Hid (∀ j (h : j < ns.length), j < k → ns[j].1 ≠ nb NB i0)) (fun i => ns.length - (intOf i).toNat)
  case atStart => exact ⟨0, Nat.zero_le _, rfl, fun j _ h => absurd h (by omega)⟩
  case round =>
    obtain ⟨k, hk, rfl, HK⟩ := hrel
    by_cases hlt : k < ns.length
    · obtain ⟨b, off, rfl, hb, hc⟩ := HP.out (by omega)
      have x0 := (hc k hlt).1
      obtain ⟨p, hpl, hpe⟩ := HA.out k hlt
      rw [hpe] at x0
      have HPE := Lib.hid hpe
      clear hpe hc
      by_cases hq : p = i0
      · subst hq
        have HPX := Lib.hid (show idxP ns (nb NB p) = k from idxP_some hlt HPE.out HK.out)
        have heq := fun w => run_eql_ptr_same (P := Tryz.prog) w ⟨nb NB p, 0, none⟩ Tryz.underlying61 hjt
        go_wp2_with fail
        go_ret
        exact ⟨ret_int HPX.out.symm, rfl⟩
      · have HQ := Lib.hid hq
        have heq := run_eql_ptr_other (P := Tryz.prog) w (a := ⟨nb NB i0, 0, none⟩) (b := ⟨nb NB p, 0, none⟩) Tryz.underlying61 hjt (by rw [hjs]; decide) (by intro e; injection e with e1 _; unfold nb at e1; omega) (HN.out.node i0 HI.out) (HN.out.node p hpl)
        clear hq
        go_wp2_with fail
        go_round
        case rel =>
          refine ⟨k + 1, by omega, by go_num, fun j h hj => ?_⟩
          rcases Nat.lt_succ_iff_lt_or_eq.1 hj with hj | rfl
          · exact HK.out j h hj
          · rw [HPE.out]; intro e; have := HQ.out; unfold nb at e; omega
        case measure => simp [intOf]; omega
    · have HPX := Lib.hid (show idxP ns (nb NB i0) = -1 from idxP_none fun j h => HK.out j h (by omega))
      go_wp2_with fail
      go_ret
      exact ⟨ret_int HPX.out.symm, rfl⟩

theorem contains_ptr (A : Option Addr) (cap : Nat) (ns : List (Nat × ByteArray)) (NB : Nat) (g : List Bl) (E : Nat → Value) (i0 : Nat) (w : World) (hp : Pts w A ns) (hn : ns.length ≤ 1048576) (hN : Nodes w NB g E) (ha : Among NB g ns) (hi0 : i0 < g.length) :
    Calls Tryz.prog 65 #[.slice A ns.length cap, nptr NB i0] w fun e w' => e = .returned (.bool (decide (0 ≤ idxP ns (nb NB i0)))) ∧ w = w' := by
  have HC := Lib.hid (index_ptr A cap ns NB g E i0 w hp hn hN ha hi0)
  clear hp hN ha
  go_enter Tryz.func65, Tryz.ntmps65
  go_wp2_with fail
  refine HC.out.mono ?_
  rintro e w1 ⟨rfl, rfl⟩
  go_wp2_with fail
  go_ret
  exact ⟨rfl, rfl⟩

theorem goList_get {NB : Nat} {g : List Bl} (hv : validB g = true) {k : Nat} (hk : k < g.length) {j : Nat} (hj : j < g[k].2.size) :
    ∃ p, ∃ hp : p < g.length, posOf g ⟨#[g[k].2[j]'hj]⟩ = some p ∧ (goList NB g g[k].2)[j]? = some (nb NB p, ⟨#[g[k].2[j]'hj]⟩) ∧ g[p].1 = ⟨#[g[k].2[j]'hj]⟩ := by
  have h2 := (nextB_iff.1 (nextsB_iff.1 (valid_iff.1 hv).2.2.2 k hk)).1
  obtain ⟨p, hp, hpos, hname⟩ := posOf_valid hv hk hj
  refine ⟨p, hp, hpos, ?_, hname⟩
  by_cases e1 : g[k].2.size = 1
  · have hj0 : j = 0 := by omega
    subst hj0
    have hb := one_byte e1
    unfold goList
    rw [if_pos e1]
    rw [← hb] at hpos ⊢
    rw [hpos]; rfl
  · have e2 : g[k].2.size = 2 := by omega
    unfold goList
    rw [if_neg e1, if_pos e2]
    have hj01 : j = 0 ∨ j = 1 := by omega
    rcases hj01 with rfl | rfl
    · rw [ex_byte g[k].2 (a := 0) (b := 1) (by omega) (by omega) rfl, hpos]; rfl
    · rw [ex_byte g[k].2 (a := 1) (b := g[k].2.size) (by omega) (by omega) (by omega), hpos]; rfl

theorem among_goes {NB : Nat} {g : List Bl} (hv : validB g = true) {k : Nat} (hk : k < g.length) : Among NB g (goList NB g g[k].2) := by
  intro j hj
  have h2 := (nextB_iff.1 (nextsB_iff.1 (valid_iff.1 hv).2.2.2 k hk)).1
  rw [goList_length NB g h2] at hj
  obtain ⟨p, hp, _, hget, _⟩ := goList_get (NB := NB) hv hk hj
  obtain ⟨_, he⟩ := List.getElem?_eq_some_iff.1 hget
  exact ⟨p, hp, by rw [he]⟩

/-- Does a block with this next go on to the one with this name? -/
def goesN (s next : ByteArray) : Bool := decide (0 ≤ Lib.indexByte next.data.toList (s.data.toList.getD 0 0))

theorem goes_iff {NB : Nat} {g : List Bl} (hv : validB g = true) {k : Nat} (hk : k < g.length) {s : ByteArray} {i0 : Nat} (hs : posOf g s = some i0) :
    decide (0 ≤ idxP (goList NB g g[k].2) (nb NB i0)) = goesN s g[k].2 := by
  obtain ⟨hi0, hn0⟩ := posOf_is hs
  obtain ⟨d, hd, _⟩ := valid_one hv (List.getElem_mem hi0)
  rw [hn0] at hd
  have h2 := (nextB_iff.1 (nextsB_iff.1 (valid_iff.1 hv).2.2.2 k hk)).1
  unfold goesN
  apply decide_eq_decide.2
  rw [idx_mem, idxP_has]
  have ed : s.data.toList.getD 0 0 = d := by rw [hd]; rfl
  rw [ed]
  constructor
  · rintro ⟨j, hj, e⟩
    have hj' : j < g[k].2.size := by rwa [goList_length NB g h2] at hj
    obtain ⟨p, hp, hpos, hget, hname⟩ := goList_get (NB := NB) hv hk hj'
    obtain ⟨_, he⟩ := List.getElem?_eq_some_iff.1 hget
    rw [he] at e
    have hpi : p = i0 := by have : nb NB p = nb NB i0 := e; unfold nb at this; omega
    subst hpi
    rw [hn0, hd] at hname
    have : g[k].2[j]'hj' = d := by injection hname with h; simpa using h.symm
    rw [← this]
    exact List.mem_of_getElem? (byte_at g[k].2 j hj')
  · intro hm
    obtain ⟨j, hj, e⟩ := List.getElem_of_mem hm
    have hj' : j < g[k].2.size := by simpa using hj
    have hb : g[k].2[j]'hj' = d := by
      have h1 := byte_at g[k].2 j hj'
      rw [List.getElem?_eq_getElem hj, e] at h1
      exact (Option.some.inj h1).symm
    obtain ⟨p, hp, hpos, hget, hname⟩ := goList_get (NB := NB) hv hk hj'
    rw [hb, ← hd, hs] at hpos
    obtain rfl := Option.some.inj hpos
    obtain ⟨hl, he⟩ := List.getElem?_eq_some_iff.1 hget
    exact ⟨j, hl, by rw [he]⟩

/-- The blocks before the k-th that go on to one. -/
def prevL (NB : Nat) (g : List Bl) (s : ByteArray) (k : Nat) : List (Nat × ByteArray) := ((List.range k).filter fun i => goesN s (nthNext g i)).map fun i => (nb NB i, nthName g i)

theorem prevL_yes {NB : Nat} {g : List Bl} {s : ByteArray} {k : Nat} (hk : k < g.length) (h : goesN s g[k].2 = true) : prevL NB g s (k + 1) = prevL NB g s k ++ [(nb NB k, g[k].1)] := by
  unfold prevL
  rw [List.range_succ, List.filter_append, List.map_append]
  simp [nthNext_at hk, h, nthName_at hk]
theorem prevL_no {NB : Nat} {g : List Bl} {s : ByteArray} {k : Nat} (hk : k < g.length) (h : goesN s g[k].2 = false) : prevL NB g s (k + 1) = prevL NB g s k := by
  unfold prevL
  rw [List.range_succ, List.filter_append, List.map_append]
  simp [nthNext_at hk, h]

def prevs (g : List Bl) (s : ByteArray) : ByteArray := names (g.filter fun b => goesN s b.2)

theorem prevs_yes {g : List Bl} {s : ByteArray} {k : Nat} (hk : k < g.length) (h : goesN s g[k].2 = true) : prevs (g.take (k + 1)) s = prevs (g.take k) s ++ g[k].1 := by
  unfold prevs
  rw [take_snoc' g k hk, List.filter_append, names_append]
  simp only [List.filter_cons, h, if_true, List.filter_nil, names, ba_append_empty]
theorem prevs_no {g : List Bl} {s : ByteArray} {k : Nat} (hk : k < g.length) (h : goesN s g[k].2 = false) : prevs (g.take (k + 1)) s = prevs (g.take k) s := by
  unfold prevs
  rw [take_snoc' g k hk, List.filter_append, names_append]
  simp only [List.filter_cons, h, Bool.false_eq_true, if_false, List.filter_nil, names, ba_append_empty]

theorem joined_prevL (NB : Nat) (g : List Bl) (s : ByteArray) : ∀ k, k ≤ g.length → joined (prevL NB g s k) = prevs (g.take k) s
  | 0, _ => rfl
  | k + 1, h => by
    have ih := joined_prevL NB g s k (by omega)
    have hk : k < g.length := by omega
    by_cases hg : goesN s g[k].2 = true
    · rw [prevL_yes hk hg, prevs_yes hk hg, joined_append, ih]; simp only [joined, ba_append_empty]
    · have hg' : goesN s g[k].2 = false := by simpa using hg
      rw [prevL_no hk hg', prevs_no hk hg', ih]

theorem prevL_length (NB : Nat) (g : List Bl) (s : ByteArray) (k : Nat) : (prevL NB g s k).length ≤ k := by
  unfold prevL
  rw [List.length_map]
  exact Nat.le_trans (List.length_filter_le _ _) (by simp)

theorem prevL_node {NB : Nat} {g : List Bl} {s : ByteArray} {k : Nat} (hk : k ≤ g.length) {j : Nat} (hj : j < (prevL NB g s k).length) : ∃ i, ∃ h : i < g.length, (prevL NB g s k)[j] = (nb NB i, g[i].1) := by
  have hm := List.getElem_mem hj
  unfold prevL at hm
  obtain ⟨i, hi, e⟩ := List.mem_map.1 hm
  have hi' : i < g.length := by have := List.mem_range.1 (List.mem_filter.1 hi).1; omega
  refine ⟨i, hi', ?_⟩
  rw [nthName_at hi'] at e
  exact e.symm

theorem prevs_size_le (g : List Bl) (s : ByteArray) : (prevs g s).size ≤ tot g := by
  unfold prevs
  induction g with
  | nil => exact Nat.le_refl 0
  | cons b g ih =>
    by_cases h : goesN s b.2 = true
    · simp only [List.filter_cons, h, if_true, names, tot, ByteArray.size_append]; omega
    · have h' : goesN s b.2 = false := by simpa using h
      simp only [List.filter_cons, h', Bool.false_eq_true, if_false, tot]; omega

def ptrV (x : Nat × ByteArray) : Value := .pointer (some ⟨x.1, 0, none⟩)

theorem own_below {w w' : World} {base : Nat} {e : TypeId} {v : Value} {n : Nat} {xs : List Value} (h : w.ownsRow base e 1 v n xs) (hb : Below w.heap.size w w') : w'.ownsRow base e 1 v n xs := by
  refine ⟨h.1, ?_⟩
  rcases h.2 with hn | ⟨g, cap, cur, hv, hb2, hg, rest⟩
  · exact .inl hn
  · refine .inr ⟨g, cap, cur, hv, hb2, ?_, rest⟩
    have hlt : g < w.heap.size := by
      rcases Nat.lt_or_ge g w.heap.size with h' | h'
      · exact h'
      · rw [Array.getElem?_eq_none h'] at hg; cases hg
    exact (hb.block g hlt).trans hg

theorem own_pts {w : World} {base NB : Nat} {g : List Bl} {E : Nat → Value} {v : Value} {ns : List (Nat × ByteArray)} (h : w.ownsRow base 61 1 v ns.length (ns.map ptrV)) (hN : Nodes w NB g E)
    (hns : ∀ j (hj : j < ns.length), ∃ i, ∃ h : i < g.length, ns[j] = (nb NB i, g[i].1)) : ∃ A cap, v = .slice A ns.length cap ∧ Pts w A ns := by
  rcases h.2 with ⟨rfl, hn⟩ | ⟨gb, cap, cur, hv, _, hg, _⟩
  · exact ⟨none, 0, by rw [hn], fun hpos => absurd hpos (by omega)⟩
  · subst hv
    refine ⟨_, _, rfl, fun _ => ⟨gb, 0, rfl, ?_, fun j hj => ?_⟩⟩
    · rcases Nat.lt_or_ge gb w.heap.size with h' | h'
      · exact h'
      · rw [Array.getElem?_eq_none h'] at hg; cases hg
    · obtain ⟨i, hi, e⟩ := hns j hj
      have hc := h.cellAt j (by omega)
      rw [List.getElem?_map, List.getElem?_eq_getElem hj] at hc
      rw [Nat.zero_add]
      obtain ⟨q1, q2⟩ := hN.at_ hi
      rw [e] at hc ⊢
      exact ⟨hc, q1, q2⟩

def prevVal (g : List Bl) (s : ByteArray) : ByteArray := if validB g then (match posOf g s with | some _ => prevs g s | none => ⟨#[]⟩) else ⟨#[]⟩
theorem prevVal_no {g : List Bl} {s : ByteArray} (h : validB g = false) : prevVal g s = ⟨#[]⟩ := by unfold prevVal; rw [h]; rfl
theorem prevVal_none {g : List Bl} {s : ByteArray} (hp : posOf g s = none) : prevVal g s = ⟨#[]⟩ := by unfold prevVal; rw [hp]; split <;> rfl
theorem prevVal_some {g : List Bl} {s : ByteArray} {i : Nat} (h : validB g = true) (hp : posOf g s = some i) : prevVal g s = prevs g s := by unfold prevVal; rw [if_pos h, hp]

set_option maxHeartbeats 1600000 in
set_option maxRecDepth 100000 in
theorem implPrev_any (A : Option Addr) (cap : Nat) (g : List Bl) (s : ByteArray) (w : World) (hg : Gr w A g) (hn : g.length + tot g ≤ 1048576) :
    Calls Tryz.prog 30 #[.slice A g.length cap, .string s] w fun e w' => e = .returned (.tuple #[.string (prevVal g s), .bool (nextHas g s)]) ∧ Below w.heap.size w w' := by
  by_cases hv : validB g = true
  · have HC := Lib.hid (nodesOf_yes A cap g w hg hn hv)
    have h26 := (valid_iff.1 hv).2.1
    cases hp : posOf g s with
    | none =>
      have H1 := Lib.hid (prevVal_none (g := g) hp)
      have H2 := Lib.hid (nextHas_none (g := g) hp)
      have HP := Lib.hid hp
      clear hp hv
      go_enter Tryz.func30, Tryz.ntmps30
      go_wp2_with fail
      refine HC.out.mono ?_
      rintro e w1 ⟨NB, hle, rfl, hN, b1⟩
      have hx := named_any NB g _ g.length s w1 hN h26
      rw [HP.out] at hx
      have HX : Hid (Calls Tryz.prog 58 #[.slice (some ⟨NB, 0, none⟩) g.length g.length, .string s] w1 fun e w' => e = .returned (.pointer none) ∧ w1 = w') := hx
      clear hx hN
      go_wp2_with fail
      refine HX.out.mono ?_
      rintro e w2 ⟨rfl, rfl⟩
      go_wp2_with fail
      go_ret2
      exact ⟨ret_sb H1.out.symm H2.out.symm, b1⟩
    | some i0 =>
      obtain ⟨hi0, _⟩ := posOf_is hp
      have H1 := Lib.hid (prevVal_some hv hp)
      have H2 := Lib.hid (nextHas_some hv hp)
      have HP := Lib.hid hp
      have HT := Lib.hid hv
      obtain ⟨ip, hip, hz0, hz1, hz2⟩ := info_parts info_ptr
      clear hp hv
      go_enter Tryz.func30, Tryz.ntmps30
      go_wp2_with fail
      refine HC.out.mono ?_
      rintro e w1 ⟨NB, hle, rfl, hN, b1⟩
      have hx := named_any NB g _ g.length s w1 hN h26
      rw [HP.out] at hx
      have HX : Hid (Calls Tryz.prog 58 #[.slice (some ⟨NB, 0, none⟩) g.length g.length, .string s] w1 fun e w' => e = .returned (nptr NB i0) ∧ w1 = w') := hx
      have HN := Lib.hid hN
      clear hx hN
      go_wp2_with fail
      refine HX.out.mono ?_
      rintro e w2 ⟨rfl, rfl⟩
      go_wp2_with fail
      go_loopw [9, 24] (fun v i wr => ∃ k : Nat, k ≤ g.length ∧ i = .int .i64 k ∧ wr.ownsRow w1.heap.size 61 1 v (prevL NB g s k).length ((prevL NB g s k).map ptrV) ∧ Below w1.heap.size w1 wr) (fun _ i _ => g.length - (intOf i).toNat)
      case atStart => exact ⟨0, Nat.zero_le _, rfl, World.ownsRow_nil _ _ _ _, Below.refl _ _⟩
      case round =>
        obtain ⟨k, hk, rfl, hown, hB⟩ := hrel
        by_cases hlt : k < g.length
        · have hN := HN.out.below hB
          have x0 := hN.ptr hlt
          have x2 := (hN.node k hlt).cell 2
          obtain ⟨T, v, F, hd⟩ := disp (NB := NB) HT.out hlt
          have hE : ends NB g k = .iface T v := by unfold ends; rw [nthNext_at hlt]; exact hd.val
          rw [hE] at x2
          have hlook := hd.look
          have hent := hd.enter
          have HD := Lib.hid hd.goes
          have HS2 := Lib.hid (nextB_iff.1 (nextsB_iff.1 (valid_iff.1 HT.out).2.2.2 k hlt)).1
          have HNN := Lib.hid hN
          have HOWN := Lib.hid hown
          have HLEN := Lib.hid (prevL_length NB g s k)
          clear hE hd hN hown
          go_wp2_with fail
          refine (HD.out _ _ HNN.out).mono ?_
          rintro e w3 ⟨A3, rfl, hp3, b3⟩
          have hct := contains_ptr A3 g[k].2.size (goList NB g g[k].2) NB g _ i0 w3 hp3 (by rw [goList_length NB g HS2.out]; have := HS2.out; omega) (HNN.out.below b3) (among_goes HT.out hlt) hi0
          rw [goes_iff HT.out hlt HP.out, goList_length NB g HS2.out] at hct
          have hown3 := own_below HOWN.out b3
          have hB3 := hB.trans (b3.mono hB.size)
          clear hlook hent hp3
          by_cases hgo : goesN s g[k].2 = true
          · rw [hgo] at hct
            have HCT := Lib.hid hct
            have HY := Lib.hid (prevL_yes (NB := NB) hlt hgo)
            have HOWN3 := Lib.hid hown3
            have hsz3 := hB3.size
            clear hct hgo hown3
            go_wp2_with fail
            refine HCT.out.mono ?_
            rintro e w4 ⟨rfl, rfl⟩
            go_wp2_with (at_builtin; refine wpList_append_own _ rfl _ _ 63 rfl w1.heap.size 61 ip (.pointer none) 1 8 Tryz.underlying63 hip hz0 hz1 hz2 rfl (by decide) _ _ _ rfl (HOWN3.out.alloc _) ⟨w3.heap.size, 0, none⟩ 1 1 [nptr NB k] rfl rfl ?c1 ?c2 ?c3 ?c4 ?c5 ?_)
            case c1 =>
              intro j u hj
              match j, hj with
              | 0, hj =>
                have hu : nptr NB k = u := by simpa using hj
                rw [← hu]
                simp [Addr.add]
            case c2 => intro u hu; have hu' : u = nptr NB k := by simpa using hu
                       subst hu'; rfl
            case c3 => have := HLEN.out; unfold maxLen; omega
            case c4 => have := HLEN.out; omega
            case c5 => simp; omega
            intro v' w5 hown' hgrow _
            have hsz := (HOWN3.out.alloc (.cells #[nptr NB k] 61)).lt
            have hB5 := (hB3.alloc hsz3 (.cells #[nptr NB k] 61)).grown hgrow (by simp; omega) (fun j hj => (hsz j hj).1)
            have HO5 : Hid (w5.ownsRow w1.heap.size 61 1 v' (prevL NB g s (k + 1)).length ((prevL NB g s (k + 1)).map ptrV)) := by
              show w5.ownsRow w1.heap.size 61 1 v' (prevL NB g s (k + 1)).length ((prevL NB g s (k + 1)).map ptrV)
              rw [HY.out, List.length_append, List.map_append]; exact hown'
            clear hown' hsz hgrow
            go_wp2_with fail
            go_roundw
            case rel => exact ⟨k + 1, by omega, by go_num, HO5.out, hB5⟩
            case measure => simp [intOf]; omega
          · have hgo' : goesN s g[k].2 = false := by simpa using hgo
            rw [hgo'] at hct
            have HCT := Lib.hid hct
            have HY := Lib.hid (prevL_no (NB := NB) hlt hgo')
            have HOWN3 := Lib.hid hown3
            clear hct hgo hgo' hown3
            go_wp2_with fail
            refine HCT.out.mono ?_
            rintro e w4 ⟨rfl, rfl⟩
            go_wp2_with fail
            go_roundw
            case rel => exact ⟨k + 1, by omega, by go_num, by rw [HY.out]; exact HOWN3.out, hB3⟩
            case measure => simp [intOf]; omega
        · have hkk : k = g.length := by omega
          obtain ⟨A5, cap5, hv5, hp5⟩ := own_pts hown (HN.out.below hB) (fun j hj => prevL_node hk hj)
          have hjn := join_any A5 cap5 (prevL NB g s k) wr hp5 (by have := prevL_length NB g s k; omega) (by
            rw [joined_prevL NB g s k hk]
            have h1 := prevs_size_le (g.take k) s
            have h2 := tot_take_le g k
            omega)
          rw [joined_prevL NB g s k hk, hkk, List.take_length] at hjn
          rw [hkk] at hv5
          have HJ := Lib.hid hjn
          rw [hv5]
          clear hjn hown hp5 hkk hv5
          go_wp2_with fail
          refine HJ.out.mono ?_
          rintro e w6 ⟨rfl, b6⟩
          go_wp2_with fail
          go_ret2
          exact ⟨ret_sb H1.out.symm H2.out.symm, below_trans_self (b1.trans (hB.mono b1.size)) b6⟩
  · have hv' : validB g = false := by simpa using hv
    have HC := Lib.hid (nodesOf_no A cap g w hg hn hv')
    have H1 := Lib.hid (prevVal_no (s := s) hv')
    have H2 := Lib.hid (nextHas_no (s := s) hv')
    clear hv hv'
    go_enter Tryz.func30, Tryz.ntmps30
    go_wp2_with fail
    refine HC.out.mono ?_
    rintro e w1 ⟨rfl, b1⟩
    go_wp2_with fail
    refine (named_nil s w1 none 0).mono ?_
    rintro e w2 ⟨rfl, rfl⟩
    go_wp2_with fail
    go_ret2
    exact ⟨ret_sb H1.out.symm H2.out.symm, b1⟩

set_option maxHeartbeats 400000 in
theorem l1Prev_any (A : Option Addr) (cap : Nat) (g : List Bl) (c : UInt8) (w : World) (hg : Gr w A g) (hn : g.length + tot g ≤ 1048576) :
    Calls Tryz.prog 91 #[.slice A g.length cap, .string ⟨#[c]⟩] w fun e w' => e = .returned (.string (prevs g ⟨#[c]⟩)) ∧ Below w.heap.size w w' := by
  have l0 : 0 < (⟨#[c]⟩ : ByteArray).size := Nat.one_pos
  have i0 : (0 : Int) < (⟨#[c]⟩ : ByteArray).size := Int.one_pos
  go_enter Tryz.func91, Tryz.ntmps91
  go_wp2_with fail
  go_loopw [5, 10] (fun o i wr => ∃ k : Nat, k ≤ g.length ∧ i = .int .i64 k ∧ o = .string (prevs (g.take k) ⟨#[c]⟩) ∧ Below w.heap.size w wr) (fun _ i _ => g.length - (intOf i).toNat)
  case atStart => exact ⟨0, Nat.zero_le _, rfl, rfl, Below.refl _ _⟩
  case round =>
    obtain ⟨k, hk, rfl, rfl, hB⟩ := hrel
    have hm1 := prevs_size_le (g.take k) ⟨#[c]⟩
    have hm2 := tot_take_le g k
    obtain ⟨m, hm⟩ : ∃ m, m = prevs (g.take k) ⟨#[c]⟩ := ⟨_, rfl⟩
    have HM := Lib.hid hm
    rw [← hm] at hm1 ⊢
    have hms : m.size ≤ 1048576 := by omega
    clear hm hm1 hm2
    by_cases hlt : k < g.length
    · obtain ⟨b, off, s, t, rfl, hb, hc0, hc1, he, he2⟩ := gr_at (hg.below hB) hlt
      have hs3 := tot_get g k hlt
      rw [he, he2] at hs3
      have hss : s.size ≤ 1048576 := by omega
      have HE := Lib.hid he
      have hy := prevs_yes (s := ⟨#[c]⟩) hlt
      have hno := prevs_no (s := ⟨#[c]⟩) hlt
      rw [he2] at hy hno
      have HY := Lib.hid hy
      have HNO := Lib.hid hno
      obtain ⟨q, hq⟩ : ∃ q, q = Lib.indexByte t.data.toList c := ⟨_, rfl⟩
      have HG : Hid (goesN ⟨#[c]⟩ t = decide (0 ≤ q)) := by show goesN ⟨#[c]⟩ t = decide (0 ≤ q); rw [hq]; rfl
      go_wp2_with fail
      have ca := Blk.new wr 56 #[.string s, .string t]
      have hBa := hB.alloc hB.size (.cells #[.string s, .string t] 56)
      obtain ⟨wa, hwa⟩ : ∃ wa, wa = wr.alloc (.cells #[.string s, .string t] 56) := ⟨_, rfl⟩
      rw [← hwa] at hBa ca ⊢
      have k1 := cell_regrown (ca.cell 1)
      have cF : ∀ d os, Calls Tryz.prog 53 #[.string t, .int .u8 c.toNat] (grow (redrawn wa d) os) fun e w'' => e = .returned (.int .i64 q) ∧ ∃ p : Regrown, w'' = grow (redrawn wa p.d) p.os := fun d os => by
        have := same_grown (find_any t c (grow (redrawn wa d) os) (by omega))
        rwa [← hq] at this
      clear hwa hq he he2 hs3 hy hno
      by_cases hq0 : 0 ≤ q
      · have hq1 : decide (0 ≤ q) = true := by simpa using hq0
        have HY2 := Lib.hid (HY.out (HG.out.trans hq1))
        refine wp_region_quiet_below (by kernel_rfl) (by kernel_rfl) ?_
        repeat (any_goals (first | go_big_quiet_step (exact cF _ _) | quiet_step (exact cF _ _)))
        all_goals (refine wpQuiet_nil ?_; intro _ hw'; obtain ⟨⟨dq, osq⟩, hw''⟩ := hw'; subst hw'')
        have hb2 := below_regrown wa dq osq
        have c2 := ca.below hb2 ca.lt
        generalize grow (redrawn wa dq) osq = w2 at hb2 c2 ⊢
        have x0 := c2.cell 0
        clear cF k1 ca c2
        go_wp2_with fail
        go_roundw
        case rel => exact ⟨k + 1, by omega, by go_num, by rw [HY2.out, HE.out, ← HM.out], below_trans_self hBa hb2⟩
        case measure => simp [intOf]; omega
      · have hq1 : decide (0 ≤ q) = false := by simpa using hq0
        have HY2 := Lib.hid (HNO.out (HG.out.trans hq1))
        refine wp_region_quiet_below (by kernel_rfl) (by kernel_rfl) ?_
        repeat (any_goals (first | go_big_quiet_step (exact cF _ _) | quiet_step (exact cF _ _)))
        all_goals (refine wpQuiet_nil ?_; intro _ hw'; obtain ⟨⟨dq, osq⟩, hw''⟩ := hw'; subst hw'')
        have hb2 := below_regrown wa dq osq
        generalize grow (redrawn wa dq) osq = w2 at hb2 ⊢
        clear cF k1 ca
        go_wp2_with fail
        go_roundw
        case rel => exact ⟨k + 1, by omega, by go_num, by rw [HY2.out, ← HM.out], below_trans_self hBa hb2⟩
        case measure => simp [intOf]; omega
    · have HE := Lib.hid (show m = prevs g ⟨#[c]⟩ by rw [HM.out, List.take_of_length_le (by omega)])
      go_wp2_with fail
      go_ret
      exact ⟨ret_string HE.out, hB⟩


end Go.Proofs.YtdolbmonmkjajaaGreat
