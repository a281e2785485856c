/-
  Contracts of the model: where the lines of two blocks part; the frontier.
-/
import Derived.Test.YtklnhbfpmmdhjabGreatSpecDom
namespace Go.Proofs.YtklnhbfpmmdhjabGreat
open Go.RowKit Go.Sort

/-- The last block that dominates both. -/
def meetN (g : List Bl) (a b : Nat) : Option Nat := ((domL g a).filter fun x => dmB g x b).getLast?

theorem meetN_is {g : List Bl} (hv : validB g = true) {a b m : Nat} (ha : Rch g [] a) (h : IsMeet g a b m) : meetN g a b = some m := by
  have hm := h.1.live ha
  have e : ((domL g a).filter fun x => dmB g x b) = domL g m := by
    refine line_same ((domL_line hv ha).sublist List.filter_sublist) (domL_line hv hm) ((domL_nodup hv a).sublist List.filter_sublist) (domL_nodup hv m) (fun x hx => ((mem_domL hv ha).1 (List.mem_filter.1 hx).1).live ha) fun x => ?_
    rw [List.mem_filter, mem_domL hv ha, dmB_iff hv, mem_domL hv hm]
    exact ⟨fun k => h.2.2 x k.1 k.2, fun k => ⟨k.trans h.1, k.trans h.2.1⟩⟩
  unfold meetN
  rw [e]
  obtain ⟨l, hl⟩ := domL_pos hv hm
  rw [hl, List.getLast?_concat]

def meetV (g : List Bl) (s t : ByteArray) : ByteArray := match liveOf g s, liveOf g t with | some a, some b => (match meetN g a b with | some m => nthName g m | none => ⟨#[]⟩) | _, _ => ⟨#[]⟩
def bothB (g : List Bl) (s t : ByteArray) : Bool := liveB g s && liveB g t
theorem meetV_none1 {g : List Bl} {s t : ByteArray} (h : liveOf g s = none) : meetV g s t = ⟨#[]⟩ := by unfold meetV; rw [h]
theorem meetV_none2 {g : List Bl} {s t : ByteArray} (h : liveOf g t = none) : meetV g s t = ⟨#[]⟩ := by unfold meetV; rw [h]; split <;> simp_all
theorem meetV_some {g : List Bl} {s t : ByteArray} {a b m : Nat} (h : liveOf g s = some a) (k : liveOf g t = some b) (hm : meetN g a b = some m) : meetV g s t = nthName g m := by unfold meetV; rw [h, k]; simp only [hm]
theorem both_none1 {g : List Bl} {s t : ByteArray} (h : liveOf g s = none) : bothB g s t = false := by unfold bothB; rw [liveB_none h]; rfl
theorem both_none2 {g : List Bl} {s t : ByteArray} (h : liveOf g t = none) : bothB g s t = false := by unfold bothB; rw [liveB_none h, Bool.and_false]
theorem both_some {g : List Bl} {s t : ByteArray} {a b : Nat} (h : liveOf g s = some a) (k : liveOf g t = some b) : bothB g s t = true := by unfold bothB; rw [liveB_some h, liveB_some k]; rfl

theorem domL_lt {g : List Bl} (hv : validB g = true) {n : Nat} (hr : Rch g [] n) : ∀ x ∈ domL g n, x < g.length := fun _ hx => (((mem_domL hv hr).1 hx).live hr).lt hv

/-- A letter of a text of names. -/
theorem name_byte {g : List Bl} (hv : validB g = true) {l : List Nat} (hl : ∀ i ∈ l, i < g.length) {s : ByteArray} (hs : s = namesAt g l) {k : Nat} (hk : k < l.length) (hk2 : k < s.size) : nthName g l[k] = ⟨#[s[k]]⟩ := by
  obtain ⟨hlt, hcut⟩ := namesAt_cut hv hl hk
  rw [nthName_at hlt, ← hcut, ← hs, ex_byte s (a := k) (b := k + 1) (by omega) (by omega) (by omega)]

theorem byte_same {g : List Bl} (hv : validB g = true) {l m : List Nat} (hl : ∀ i ∈ l, i < g.length) (hm : ∀ i ∈ m, i < g.length) {s t : ByteArray} (hs : s = namesAt g l) (ht : t = namesAt g m) {k : Nat} (h1 : k < l.length) (h2 : k < m.length) (h3 : k < s.size) (h4 : k < t.size) :
    s[k] = t[k] ↔ l[k] = m[k] := by
  have e1 := name_byte hv hl hs h1 h3
  have e2 := name_byte hv hm ht h2 h4
  have k1 := hl _ (List.getElem_mem h1)
  have k2 := hm _ (List.getElem_mem h2)
  constructor
  · intro e
    rw [e, ← e2, nthName_at k1, nthName_at k2] at e1
    exact name_inj hv k1 k2 e1
  · intro e
    rw [e, e2] at e1
    have := congrArg (fun b : ByteArray => b.data[0]?) e1
    simpa using this.symm

set_option maxRecDepth 100000 in
set_option maxHeartbeats 2000000 in
theorem specMeet_any (A : Option Addr) (cap : Nat) (g : List Bl) (s t : ByteArray) (w : World) (hg : Gr w A g) (hn : g.length + tot g ≤ 1048576) (hcap : g.length ≤ cap) :
    Calls Tryz.prog 19 #[.slice A g.length cap, .string s, .string t] w fun e w' => e = .returned (.tuple #[.string (meetV g s t), .bool (bothB g s t)]) ∧ Below w.heap.size w w' := by
  have hL1 := l3Live_any A cap g s w hg hn hcap
  have hL2 := fun w h => l3Live_any A cap g t w h hn hcap
  have HG := Lib.hid hg
  cases ha : liveOf g s with
  | none =>
    rw [ha] at hL1
    have HL1 : Hid (Calls Tryz.prog 72 #[.slice A g.length cap, .string s] w fun e w' => e = .returned (.int .i64 (-1)) ∧ Below w.heap.size w w') := hL1
    have H1 := Lib.hid (meetV_none1 (t := t) ha)
    have H2 := Lib.hid (both_none1 (t := t) ha)
    clear hL1 hL2 ha hg
    go_enter Tryz.func19, Tryz.ntmps19
    go_wp2_with fail
    refine HL1.out.mono ?_
    rintro e w1 ⟨rfl, b1⟩
    go_wp2_with fail
    go_ret2
    exact ⟨ret_sb H1.out.symm H2.out.symm, b1⟩
  | some a =>
    rw [ha] at hL1
    have HL1 : Hid (Calls Tryz.prog 72 #[.slice A g.length cap, .string s] w fun e w' => e = .returned (.int .i64 (a : Int)) ∧ Below w.heap.size w w') := hL1
    obtain ⟨hv, hal, hs, hra⟩ := live_name ha
    have qa : ¬ ((a : Int) < 0) := by omega
    cases hb : liveOf g t with
    | none =>
      rw [hb] at hL2
      have HL2 : Hid (∀ w, Gr w A g → Calls Tryz.prog 72 #[.slice A g.length cap, .string t] w fun e w' => e = .returned (.int .i64 (-1)) ∧ Below w.heap.size w w') := hL2
      have H1 := Lib.hid (meetV_none2 (s := s) hb)
      have H2 := Lib.hid (both_none2 (s := s) hb)
      clear hL1 hL2 ha hb hg hv hal hs hra
      go_enter Tryz.func19, Tryz.ntmps19
      go_wp2_with fail
      refine HL1.out.mono ?_
      rintro e w1 ⟨rfl, b1⟩
      go_wp2_with fail
      refine (HL2.out w1 (HG.out.below b1)).mono ?_
      rintro e w2 ⟨rfl, b2⟩
      go_wp2_with fail
      go_ret2
      exact ⟨ret_sb H1.out.symm H2.out.symm, below_trans_self b1 b2⟩
    | some b =>
      rw [hb] at hL2
      have HL2 : Hid (∀ w, Gr w A g → Calls Tryz.prog 72 #[.slice A g.length cap, .string t] w fun e w' => e = .returned (.int .i64 (b : Int)) ∧ Below w.heap.size w w') := hL2
      obtain ⟨hv2, hbl, ht, hrb⟩ := live_name hb
      clear hv2
      have qb : ¬ ((b : Int) < 0) := by omega
      have H2 := Lib.hid (both_some ha hb)
      have h26 := (valid_iff.1 hv).2.1
      obtain ⟨x, hx⟩ : ∃ x, x = namesAt g (domL g a) := ⟨_, rfl⟩
      obtain ⟨y, hy⟩ : ∃ y, y = namesAt g (domL g b) := ⟨_, rfl⟩
      have hxz : x.size = (domL g a).length := by rw [hx]; exact namesAt_size hv _ (domL_lt hv hra)
      have hyz : y.size = (domL g b).length := by rw [hy]; exact namesAt_size hv _ (domL_lt hv hrb)
      have HOA := Lib.hid (fun W (h : Gr W A g) => (hx ▸ l3Of_any A cap g s a W h (by omega) hv hal hs : Calls Tryz.prog 79 #[.slice A g.length cap, .string s] W fun e w' => e = .returned (.string x) ∧ Below W.heap.size W w'))
      have HOB := Lib.hid (fun W (h : Gr W A g) => (hy ▸ l3Of_any A cap g t b W h (by omega) hv hbl ht : Calls Tryz.prog 79 #[.slice A g.length cap, .string t] W fun e w' => e = .returned (.string y) ∧ Below W.heap.size W w'))
      have hx26 : x.size ≤ 26 := by have := domL_len hv a; omega
      have hy26 : y.size ≤ 26 := by have := domL_len hv b; omega
      have HX := Lib.hid hx
      have HY := Lib.hid hy
      have HXZ := Lib.hid hxz
      have HYZ := Lib.hid hyz
      have HV := Lib.hid hv
      have HA := Lib.hid ha
      have HB := Lib.hid hb
      have HRA := Lib.hid hra
      have HRB := Lib.hid hrb
      clear hL1 hL2 ha hb hg hv hal hs hra hbl ht hrb hx hy hxz hyz
      go_enter Tryz.func19, Tryz.ntmps19
      go_wp2_with fail
      refine HL1.out.mono ?_
      rintro e w1 ⟨rfl, b1⟩
      go_wp2_with fail
      refine (HL2.out w1 (HG.out.below b1)).mono ?_
      rintro e w2 ⟨rfl, b2⟩
      have g2 := (HG.out.below b1).below b2
      go_wp2_with fail
      refine (HOA.out w2 g2).mono ?_
      rintro e w3 ⟨rfl, b3⟩
      have g3 := g2.below b3
      go_wp2_with fail
      refine (HOB.out w3 g3).mono ?_
      rintro e w4 ⟨rfl, b4⟩
      have HB4 := Lib.hid (below_trans_self (below_trans_self (below_trans_self b1 b2) b3) b4)
      clear b1 b2 b3 b4 g2 g3
      go_wp2_with fail
      go_loopw [10] (fun nv wr => ∃ (k : Nat), k ≤ x.size ∧ k ≤ y.size ∧ nv = .int .i64 k ∧ Hid ((domL g a).take k = (domL g b).take k) ∧ Below w.heap.size w wr) (fun nv _ => x.size - (intOf nv).toNat)
      case atStart => exact ⟨0, Nat.zero_le _, Nat.zero_le _, rfl, rfl, HB4.out⟩
      case round =>
        obtain ⟨k, hk1, hk2, rfl, HK, hB⟩ := hrel
        have HB5 := Lib.hid hB
        clear hB
        have HEX : Hid ((∀ (h1 : k < (domL g a).length) (h2 : k < (domL g b).length), (domL g a)[k] ≠ (domL g b)[k]) → 1 ≤ k ∧ x.extract (k - 1) k = meetV g s t) := fun he => by
          obtain ⟨h0, hm⟩ := meet_lines HV.out HRA.out HRB.out HK.out (by have := HXZ.out; omega) (by have := HYZ.out; omega) he
          refine ⟨h0, ?_⟩
          rw [meetV_some HA.out HB.out (meetN_is HV.out HRA.out hm)]
          have hkl : k - 1 < (domL g a).length := by have := HXZ.out; omega
          obtain ⟨hlt, hcut⟩ := namesAt_cut HV.out (domL_lt HV.out HRA.out) hkl
          refine (congrArg (fun b : ByteArray => b.extract (k - 1) k) HX.out).trans ?_
          show (namesAt g (domL g a)).extract (k - 1) k = _
          rw [nthName_at hlt, ← hcut]
          congr 1
          omega
        by_cases h1 : k < x.size
        · by_cases h2 : k < y.size
          · have hbs := byte_same HV.out (domL_lt HV.out HRA.out) (domL_lt HV.out HRB.out) HX.out HY.out (k := k) (by have := HXZ.out; omega) (by have := HYZ.out; omega) h1 h2
            have d1 : decide (k < x.size) = true := decide_eq_true h1
            have d2 : decide (k < y.size) = true := decide_eq_true h2
            have i0 : (0 : Int) ≤ (k : Int) := by omega
            have i1 : (k : Int) < x.size := by omega
            have i2 : (k : Int) < y.size := by omega
            by_cases hq : x[k] = y[k]
            · have q0 : (((x[k]).toNat : Int) == ((y[k]).toNat : Int)) = true := by rw [hq]; simp
              have HK2 : Hid ((domL g a).take (k + 1) = (domL g b).take (k + 1)) := by
                show (domL g a).take (k + 1) = (domL g b).take (k + 1)
                rw [List.take_succ_eq_append_getElem (by have := HXZ.out; omega), List.take_succ_eq_append_getElem (by have := HYZ.out; omega), HK.out, hbs.1 hq]
              clear hq hbs
              go_wp2_with fail
              go_quiet (fail)
              have HB6 := Lib.hid (HB5.out.trans ((below_drewN wr nq).mono HB5.out.size))
              go_wp2_with fail
              go_roundw
              case rel => exact ⟨k + 1, by omega, by omega, by go_num, HK2.out, HB6.out⟩
              case measure => simp [intOf]; omega
            · have q0 := byte_ne hq
              obtain ⟨k1, hex⟩ := HEX.out fun h3 h4 e => hq (hbs.2 e)
              have HE := Lib.hid hex
              clear hq hbs hex
              go_wp2_with fail
              go_quiet (fail)
              have HB6 := Lib.hid (HB5.out.trans ((below_drewN wr nq).mono HB5.out.size))
              have w1' : wrap64 ((k : Int) - 1) = ((k - 1 : Nat) : Int) := by unfold wrap64; omega
              have k2 : k ≤ x.size := hk1
              have k3 : k - 1 ≤ k := by omega
              have k4 : (1 : Int) ≤ (k : Int) := by omega
              go_wp2_with fail
              go_ret2
              exact ⟨ret_sb HE.out H2.out.symm, HB6.out⟩
          · have d1 : decide (k < x.size) = true := decide_eq_true h1
            have d2 : decide (k < y.size) = false := decide_eq_false h2
            obtain ⟨k1, hex⟩ := HEX.out fun h3 h4 _ => by have := HYZ.out; omega
            have HE := Lib.hid hex
            clear hex
            go_wp2_with fail
            go_quiet (fail)
            have HB6 := Lib.hid (HB5.out.trans ((below_drewN wr nq).mono HB5.out.size))
            have w1' : wrap64 ((k : Int) - 1) = ((k - 1 : Nat) : Int) := by unfold wrap64; omega
            have k2 : k ≤ x.size := hk1
            have k3 : k - 1 ≤ k := by omega
            have k4 : (1 : Int) ≤ (k : Int) := by omega
            go_wp2_with fail
            go_ret2
            exact ⟨ret_sb HE.out H2.out.symm, HB6.out⟩
        · have d1 : decide (k < x.size) = false := decide_eq_false h1
          obtain ⟨k1, hex⟩ := HEX.out fun h3 h4 _ => by have := HXZ.out; omega
          have HE := Lib.hid hex
          clear hex
          go_wp2_with fail
          go_quiet (fail)
          have HB6 := Lib.hid (HB5.out.trans ((below_drewN wr nq).mono HB5.out.size))
          have w1' : wrap64 ((k : Int) - 1) = ((k - 1 : Nat) : Int) := by unfold wrap64; omega
          have k2 : k ≤ x.size := hk1
          have k3 : k - 1 ≤ k := by omega
          have k4 : (1 : Int) ≤ (k : Int) := by omega
          go_wp2_with fail
          go_ret2
          exact ⟨ret_sb HE.out H2.out.symm, HB6.out⟩
end Go.Proofs.YtklnhbfpmmdhjabGreat
