/-
  Contracts of IsTrace, the program's and the model's.
-/
import Derived.Test.YteodlcgmncchpaaDoorRunGraph
import Derived.Test.YteodlcgmncchpaaDoorNextOf
namespace Go.Proofs.YteodlcgmncchpaaDoor
open Go.RowKit Go.Sort

/-- Of some blocks, the one with this name. -/
def named (g : List Bl) (cs : List Nat) (s : ByteArray) : Option Nat := cs.find? fun i => decide (nthName g i = s)

/-- Can a run that is to come to one of these come to blocks with these names? -/
def traceGo (g : List Bl) : List Nat → List UInt8 → Bool
  | _, [] => true
  | cs, c :: l => match named g cs ⟨#[c]⟩ with
    | none => false
    | some i => traceGo g (nxt g i) l

def traceB (g : List Bl) (t : ByteArray) : Bool := validB g && decide (t.size ≤ 60) && traceGo g [0] t.data.toList

theorem traceB_no {g : List Bl} {t : ByteArray} (h : validB g = false) : traceB g t = false := by unfold traceB; rw [h]; rfl
theorem traceB_long {g : List Bl} {t : ByteArray} (h : 60 < t.size) : traceB g t = false := by
  unfold traceB; rw [decide_eq_false (by omega), Bool.and_false, Bool.false_and]
theorem traceB_yes {g : List Bl} {t : ByteArray} (hv : validB g = true) (h : t.size ≤ 60) : traceB g t = traceGo g [0] t.data.toList := by
  unfold traceB; rw [hv, decide_eq_true h]; rfl

theorem drop_byte {t : ByteArray} {k : Nat} (h : k < t.size) : t.data.toList.drop k = t[k] :: t.data.toList.drop (k + 1) := by
  have hl := list_of_size (s := t)
  have h1 : k < t.data.toList.length := by omega
  rw [List.drop_eq_getElem_cons h1]
  congr 1

theorem traceGo_cons {g : List Bl} {cs : List Nat} {t : ByteArray} {k : Nat} (h : k < t.size) :
    traceGo g cs (t.data.toList.drop k) = match named g cs ⟨#[t[k]]⟩ with | none => false | some i => traceGo g (nxt g i) (t.data.toList.drop (k + 1)) := by
  rw [drop_byte h]; rfl

theorem traceGo_end {g : List Bl} {cs : List Nat} {t : ByteArray} {k : Nat} (h : t.size ≤ k) : traceGo g cs (t.data.toList.drop k) = true := by
  rw [List.drop_eq_nil_of_le (by rw [list_of_size]; exact h)]
  cases cs <;> rfl

theorem named_some {g : List Bl} {cs : List Nat} {s : ByteArray} {k : Nat} (h : k < cs.length) (hk : nthName g cs[k] = s) (hb : ∀ j (h' : j < cs.length), j < k → nthName g cs[j] ≠ s) : named g cs s = some cs[k] := by
  unfold named
  rw [List.find?_eq_some_iff_getElem]
  exact ⟨by simpa using hk, k, h, rfl, fun j hj => by simpa using hb j (by omega) hj⟩

theorem traced_none {g : List Bl} {cs : List Nat} {s : ByteArray} (hb : ∀ j (h' : j < cs.length), nthName g cs[j] ≠ s) : named g cs s = none := by
  unfold named
  rw [List.find?_eq_none]
  intro x hx
  obtain ⟨j, hj, rfl⟩ := List.getElem_of_mem hx
  simpa using hb j hj

theorem named_is {g : List Bl} {cs : List Nat} {s : ByteArray} {i : Nat} (h : named g cs s = some i) : i ∈ cs ∧ nthName g i = s := by
  unfold named at h
  exact ⟨List.mem_of_find?_eq_some h, by simpa using List.find?_some h⟩

/-- A slice of nodes by their numbers. -/
def PtsI (w : World) (A : Option Addr) (NB : Nat) (cs : List Nat) : Prop :=
  0 < cs.length → ∃ b off, A = some ⟨b, off, none⟩ ∧ b < w.heap.size ∧ ∀ k (h : k < cs.length), w.cell? ⟨b, off + k, none⟩ = some (nptr NB cs[k])

theorem namedAt_any (A : Option Addr) (NB cap : Nat) (g : List Bl) (cs : List Nat) (s : ByteArray) (w : World) (hP : PtsI w A NB cs) (hN : NodesIn w NB g) (hc : ∀ c ∈ cs, c < g.length) (hn : cs.length ≤ 1048576) :
    Calls Tryd.prog 25 #[.slice A cs.length cap, .string s] w fun e w' => e = .returned (ptrAt NB (named g cs s)) ∧ w = w' := by
  go_enter Tryd.func25, Tryd.ntmps25
  go_wp2
  go_loop [9] (fun i => ∃ k : Nat, k ≤ cs.length ∧ i = .int .i64 k ∧ Hid (∀ j (h : j < cs.length), j < k → nthName g cs[j] ≠ s)) (fun i => cs.length - (intOf i).toNat)
  case atStart => exact ⟨0, Nat.zero_le _, rfl, fun j _ h => absurd h (by omega)⟩
  case round =>
    obtain ⟨k, hk, rfl, HK⟩ := hrel
    by_cases hlt : k < cs.length
    · obtain ⟨b, off, rfl, hb, hcell⟩ := hP (by omega)
      have c0 := hcell k hlt
      obtain ⟨x, hx⟩ : ∃ x, x = cs[k] := ⟨_, rfl⟩
      have hxl : x < g.length := hx ▸ hc _ (List.getElem_mem hlt)
      rw [← hx] at c0
      have c1 : w.cell? ⟨nb NB x, 1, none⟩ = some (.string (nthName g x)) := by have := (hN x hxl).cell 1; rw [nthName_at hxl]; simpa using this
      obtain ⟨t, ht⟩ : ∃ t, t = nthName g x := ⟨_, rfl⟩
      rw [← ht] at c1
      have HT := Lib.hid ht
      have HX := Lib.hid hx
      clear ht hx hcell
      by_cases hq : (t.toList == s.toList) = true
      · have HP := Lib.hid (show named g cs s = some x by rw [HX.out]; exact named_some hlt (by rw [← HX.out, ← HT.out]; exact beq_toList.1 hq) HK.out)
        go_wp2
        go_ret
        exact ⟨by rw [HP.out]; rfl, rfl⟩
      · have hq' : (t.toList == s.toList) = false := by simpa using hq
        have HNE := Lib.hid (show nthName g cs[k] ≠ s from fun e => hq (beq_toList.2 (by rw [HT.out, HX.out]; exact e)))
        clear hq
        go_wp2
        go_round
        case rel =>
          refine ⟨k + 1, by omega, by go_num, fun j h hj => ?_⟩
          rcases Nat.lt_succ_iff_lt_or_eq.1 hj with hj | rfl
          · exact HK.out j h hj
          · exact HNE.out
        case measure => simp [intOf]; omega
    · have HP := Lib.hid (show named g cs s = none from traced_none fun j h => HK.out j h (by omega))
      go_wp2
      go_ret
      exact ⟨by rw [HP.out]; rfl, rfl⟩

set_option maxRecDepth 100000 in
theorem implTrace_any (A : Option Addr) (cap : Nat) (g : List Bl) (t : ByteArray) (w : World) (hg : Gr w A g) (hn : g.length + tot g ≤ 1048576) :
    Calls Tryd.prog 15 #[.slice A g.length cap, .string t] w fun e w' => e = .returned (.bool (traceB g t)) ∧ Below w.heap.size w w' := by
  by_cases hv : validB g = true
  · have HC := Lib.hid (nodesOf_yes A cap g w hg hn hv)
    have hpos := (valid_iff.1 hv).1
    by_cases hz : 60 < t.size
    · have HL := Lib.hid (traceB_long (g := g) hz)
      clear hv
      go_enter Tryd.func15, Tryd.ntmps15
      go_wp2_with fail
      refine HC.out.mono ?_
      rintro e w1 ⟨NB, hle, rfl, hN, b1⟩
      clear hN
      go_wp2_with fail
      go_ret
      exact ⟨ret_bool HL.out.symm, b1⟩
    · have HL := Lib.hid (traceB_yes (g := g) hv (t := t) (by omega))
      have HT := Lib.hid hv
      have h60 : t.size ≤ 60 := by omega
      have hpos2 : (1 : Int) ≤ g.length := by omega
      clear hv
      go_enter Tryd.func15, Tryd.ntmps15
      go_wp2_with fail
      refine HC.out.mono ?_
      rintro e w1 ⟨NB, hle, rfl, hN, b1⟩
      have HN := Lib.hid (NodesIn.of hN)
      have HP0 := Lib.hid (show PtsI w1 (some ⟨NB, 0, none⟩) NB [0] from fun _ => ⟨NB, 0, rfl, hN.lt, fun k hk => by
        have hk0 : k = 0 := by simpa using hk
        subst hk0; exact hN.ptr hpos⟩)
      have HB1 := Lib.hid b1
      clear hN b1
      go_wp2_with fail
      go_loopw [7, 26] (fun v i wr => ∃ (k : Nat) (cs : List Nat) (A2 : Option Addr) (c2 : Nat), k ≤ t.size ∧ i = .int .i64 k ∧ v = .slice A2 cs.length c2 ∧ PtsI wr A2 NB cs ∧ NodesIn wr NB g ∧ cs.length ≤ 2 ∧ Hid (∀ c ∈ cs, c < g.length) ∧
        Hid (traceGo g [0] t.data.toList = traceGo g cs (t.data.toList.drop k)) ∧ Below w.heap.size w wr) (fun _ i _ => t.size - (intOf i).toNat)
      case atStart => exact ⟨0, [0], _, _, Nat.zero_le _, rfl, rfl, HP0.out, HN.out, by simp, fun c hc => by simp at hc; omega, rfl, HB1.out⟩
      case round =>
        obtain ⟨k, cs, A2, c2, hk, rfl, rfl, hP, hN, h2, HCL, HGO, hB⟩ := hrel
        by_cases hlt : k < t.size
        · have hk1 : k + 1 ≤ t.size := by omega
          have HEX : Hid (t.extract k (k + 1) = ⟨#[t[k]]⟩) := ex_byte t (a := k) (b := k + 1) (by omega) (by omega) (by omega)
          have HNA := Lib.hid (namedAt_any A2 NB c2 g cs (t.extract k (k + 1)) wr hP hN HCL.out (by omega))
          have HST := Lib.hid (traceGo_cons (g := g) (cs := cs) hlt)
          have HNN := Lib.hid hN
          have HB := Lib.hid hB
          clear hP hN hB
          cases hf : named g cs (t.extract k (k + 1)) with
          | none =>
            rw [hf] at HNA
            have HNA2 : Hid (Calls Tryd.prog 25 #[.slice A2 cs.length c2, .string (t.extract k (k + 1))] wr fun e w' => e = .returned (.pointer none) ∧ wr = w') := HNA
            have HF := Lib.hid (show traceB g t = false by
              have h := HST.out
              rw [← HEX.out, hf] at h
              rw [HL.out, HGO.out, h])
            clear hf HNA
            go_wp2_with fail
            refine HNA2.out.mono ?_
            rintro e w2 ⟨rfl, rfl⟩
            go_wp2_with fail
            go_ret
            exact ⟨ret_bool HF.out.symm, HB.out⟩
          | some x =>
            rw [hf] at HNA
            have HNA2 : Hid (Calls Tryd.prog 25 #[.slice A2 cs.length c2, .string (t.extract k (k + 1))] wr fun e w' => e = .returned (.pointer (some ⟨nb NB x, 0, none⟩)) ∧ wr = w') := HNA
            have hxl : x < g.length := HCL.out x (named_is hf).1
            have HF := Lib.hid (show traceGo g [0] t.data.toList = traceGo g (nxt g x) (t.data.toList.drop (k + 1)) by
              have h := HST.out
              rw [← HEX.out, hf] at h
              rw [HGO.out, h])
            obtain ⟨T, tv, F2, hd⟩ := disp2 (NB := NB) HT.out hxl
            have x2 : wr.cell? ⟨nb NB x, 2, none⟩ = some (.iface T tv) := by have := (HNN.out x hxl).cell 2; rw [hd.val] at this; simpa using this
            have hlook := hd.look
            have hent := hd.enter
            have HD := Lib.hid hd.goes
            have hn2 := nxt_two HT.out hxl
            clear hd hf HNA
            go_wp2_with fail
            refine HNA2.out.mono ?_
            rintro e w2 ⟨rfl, rfl⟩
            go_wp2_with fail
            refine (HD.out wr).mono ?_
            rintro e w3 ⟨A3, rfl, b3, hrow⟩
            have HR := Lib.hid hrow
            have HB3 := Lib.hid b3
            clear hlook hent x2 hrow b3
            go_wp2_with fail
            go_roundw
            case rel =>
              refine ⟨k + 1, nxt g x, A3, _, by omega, by go_num, rfl, fun h => ?_, HNN.out.below HB3.out, hn2, fun c hc => nxt_lt HT.out hxl hc, HF.out, HB.out.trans (HB3.out.mono HB.out.size)⟩
              obtain ⟨b, rfl, _, hbk⟩ := HR.out h
              refine ⟨b, 0, rfl, hbk.lt, fun q hq => ?_⟩
              rw [hbk.cell, Nat.zero_add, List.getElem?_toArray, List.getElem?_map, List.getElem?_eq_getElem hq]; rfl
            case measure => simp [intOf]; omega
        · have HF := Lib.hid (show traceB g t = true by rw [HL.out, HGO.out, traceGo_end (by omega)])
          go_wp2_with fail
          go_ret
          exact ⟨ret_bool HF.out.symm, hB⟩
  · have hv' : validB g = false := by simpa using hv
    have HC := Lib.hid (nodesOf_no A cap g w hg hn hv')
    have HL := Lib.hid (traceB_no (t := t) hv')
    clear hv hv'
    go_enter Tryd.func15, Tryd.ntmps15
    go_wp2_with fail
    refine HC.out.mono ?_
    rintro e w1 ⟨rfl, b1⟩
    go_wp2_with fail
    go_ret
    exact ⟨ret_bool HL.out.symm, b1⟩
end Go.Proofs.YteodlcgmncchpaaDoor
