/-
  Contracts of IsTrace, the program's and the model's.
-/
import Derived.Test.YtdpjdhllaokbfaaGreatSpecRun
import Derived.Test.YtdpjdhllaokbfaaGreatNextOf
import Derived.Test.YtdpjdhllaokbfaaGreatSpecReached
namespace Go.Proofs.YtdpjdhllaokbfaaGreat
open Go.RowKit Go.Sort

/-- Of some blocks, the one with this name. -/
def named (g : List Bl) (cs : List Nat) (s : ByteArray) : Option Nat := cs.find? fun i => decide (nthName g i = s)

/-- Can a run that is to come to one of these come to blocks with these names? -/
def traceGo (g : List Bl) : List Nat → List UInt8 → Bool
  | _, [] => true
  | cs, c :: l => match named g cs ⟨#[c]⟩ with
    | none => false
    | some i => traceGo g (nxt g i) l

def traceB (g : List Bl) (t : ByteArray) : Bool := validB g && decide (t.size ≤ 60) && traceGo g [0] t.data.toList

theorem traceB_no {g : List Bl} {t : ByteArray} (h : validB g = false) : traceB g t = false := by unfold traceB; rw [h]; rfl
theorem traceB_long {g : List Bl} {t : ByteArray} (h : 60 < t.size) : traceB g t = false := by
  unfold traceB; rw [decide_eq_false (by omega), Bool.and_false, Bool.false_and]
theorem traceB_yes {g : List Bl} {t : ByteArray} (hv : validB g = true) (h : t.size ≤ 60) : traceB g t = traceGo g [0] t.data.toList := by
  unfold traceB; rw [hv, decide_eq_true h]; rfl

theorem drop_byte {t : ByteArray} {k : Nat} (h : k < t.size) : t.data.toList.drop k = t[k] :: t.data.toList.drop (k + 1) := by
  have hl := list_of_size (s := t)
  have h1 : k < t.data.toList.length := by omega
  rw [List.drop_eq_getElem_cons h1]
  congr 1

theorem traceGo_cons {g : List Bl} {cs : List Nat} {t : ByteArray} {k : Nat} (h : k < t.size) :
    traceGo g cs (t.data.toList.drop k) = match named g cs ⟨#[t[k]]⟩ with | none => false | some i => traceGo g (nxt g i) (t.data.toList.drop (k + 1)) := by
  rw [drop_byte h]; rfl

theorem traceGo_end {g : List Bl} {cs : List Nat} {t : ByteArray} {k : Nat} (h : t.size ≤ k) : traceGo g cs (t.data.toList.drop k) = true := by
  rw [List.drop_eq_nil_of_le (by rw [list_of_size]; exact h)]
  cases cs <;> rfl

theorem named_some {g : List Bl} {cs : List Nat} {s : ByteArray} {k : Nat} (h : k < cs.length) (hk : nthName g cs[k] = s) (hb : ∀ j (h' : j < cs.length), j < k → nthName g cs[j] ≠ s) : named g cs s = some cs[k] := by
  unfold named
  rw [List.find?_eq_some_iff_getElem]
  exact ⟨by simpa using hk, k, h, rfl, fun j hj => by simpa using hb j (by omega) hj⟩

theorem traced_none {g : List Bl} {cs : List Nat} {s : ByteArray} (hb : ∀ j (h' : j < cs.length), nthName g cs[j] ≠ s) : named g cs s = none := by
  unfold named
  rw [List.find?_eq_none]
  intro x hx
  obtain ⟨j, hj, rfl⟩ := List.getElem_of_mem hx
  simpa using hb j hj

theorem named_is {g : List Bl} {cs : List Nat} {s : ByteArray} {i : Nat} (h : named g cs s = some i) : i ∈ cs ∧ nthName g i = s := by
  unfold named at h
  exact ⟨List.mem_of_find?_eq_some h, by simpa using List.find?_some h⟩

/-- A slice of nodes by their numbers. -/
def PtsI (w : World) (A : Option Addr) (NB : Nat) (cs : List Nat) : Prop :=
  0 < cs.length → ∃ b off, A = some ⟨b, off, none⟩ ∧ b < w.heap.size ∧ ∀ k (h : k < cs.length), w.cell? ⟨b, off + k, none⟩ = some (nptr NB cs[k])

theorem namedAt_any (A : Option Addr) (NB cap : Nat) (g : List Bl) (cs : List Nat) (s : ByteArray) (w : World) (hP : PtsI w A NB cs) (hN : NodesIn w NB g) (hc : ∀ c ∈ cs, c < g.length) (hn : cs.length ≤ 1048576) :
    Calls Tryz.prog 55 #[.slice A cs.length cap, .string s] w fun e w' => e = .returned (ptrAt NB (named g cs s)) ∧ w = w' := by
  go_enter Tryz.func55, Tryz.ntmps55
  go_wp2
  go_loop [9] (fun i => ∃ k : Nat, k ≤ cs.length ∧ i = .int .i64 k ∧ Hid (∀ j (h : j < cs.length), j < k → nthName g cs[j] ≠ s)) (fun i => cs.length - (intOf i).toNat)
  case atStart => exact ⟨0, Nat.zero_le _, rfl, fun j _ h => absurd h (by omega)⟩
  case round =>
    obtain ⟨k, hk, rfl, HK⟩ := hrel
    by_cases hlt : k < cs.length
    · obtain ⟨b, off, rfl, hb, hcell⟩ := hP (by omega)
      have c0 := hcell k hlt
      obtain ⟨x, hx⟩ : ∃ x, x = cs[k] := ⟨_, rfl⟩
      have hxl : x < g.length := hx ▸ hc _ (List.getElem_mem hlt)
      rw [← hx] at c0
      have c1 : w.cell? ⟨nb NB x, 1, none⟩ = some (.string (nthName g x)) := by have := (hN x hxl).cell 1; rw [nthName_at hxl]; simpa using this
      obtain ⟨t, ht⟩ : ∃ t, t = nthName g x := ⟨_, rfl⟩
      rw [← ht] at c1
      have HT := Lib.hid ht
      have HX := Lib.hid hx
      clear ht hx hcell
      by_cases hq : (t.toList == s.toList) = true
      · have HP := Lib.hid (show named g cs s = some x by rw [HX.out]; exact named_some hlt (by rw [← HX.out, ← HT.out]; exact beq_toList.1 hq) HK.out)
        go_wp2
        go_ret
        exact ⟨by rw [HP.out]; rfl, rfl⟩
      · have hq' : (t.toList == s.toList) = false := by simpa using hq
        have HNE := Lib.hid (show nthName g cs[k] ≠ s from fun e => hq (beq_toList.2 (by rw [HT.out, HX.out]; exact e)))
        clear hq
        go_wp2
        go_round
        case rel =>
          refine ⟨k + 1, by omega, by go_num, fun j h hj => ?_⟩
          rcases Nat.lt_succ_iff_lt_or_eq.1 hj with hj | rfl
          · exact HK.out j h hj
          · exact HNE.out
        case measure => simp [intOf]; omega
    · have HP := Lib.hid (show named g cs s = none from traced_none fun j h => HK.out j h (by omega))
      go_wp2
      go_ret
      exact ⟨by rw [HP.out]; rfl, rfl⟩

end Go.Proofs.YtdpjdhllaokbfaaGreat
