/-
  The program's itemsOf: a text with frames is read, or what panics is caught.
-/
import Derived.Test.YtgkamcnbpiipoaaGreatItem
import Derived.Defers
import Derived.Recover
import Derived.Laws.Pointers
namespace Go.Proofs.YtgkamcnbpiipoaaGreat
open Go.RowKit Go.Sort

set_option maxRecDepth 100000 in
theorem catch_panic (B : Nat) (v0 v1 : Value) (u : TypeId) (pv : Value) (older : List PanicEntry) (w : World) (h0 : Blk w B 41 #[v0]) (h1 : Blk w (B + 1) 4 #[v1]) :
    CallsD Tryz.prog 39 #[.pointer (some ⟨B, 0, none⟩), .pointer (some ⟨B + 1, 0, none⟩)] (.panicking ({ v := .iface u pv, recovered := false } :: older)) w fun e u' w' =>
      e = .returned (.tuple #[]) ∧ u' = .panicking ({ v := .iface u pv, recovered := true } :: older) ∧ w' = (w.setCell ⟨B, 0, none⟩ (.slice none 0 0)).setCell ⟨B + 1, 0, none⟩ (.bool false) := by
  have c0 := h0.cell 0
  have f0 := h0.frozen 0
  have c1 : (w.setCell ⟨B, 0, none⟩ (.slice none 0 0)).cell? ⟨B + 1, 0, none⟩ = some v1 := (World.cell?_setCell_other w ⟨B, 0, none⟩ ⟨B + 1, 0, none⟩ _ (fun e => by injection e with e1 _; omega)).trans (h1.cell 0)
  have f1 : (w.setCell ⟨B, 0, none⟩ (.slice none 0 0)).frozen? ⟨B + 1, 0, none⟩ = false := by
    have := h1.frozen 0
    rw [← this]
    exact World.frozen?_of_block (Below.heap_setCell w ⟨B, 0, none⟩ _ (B + 1) (by show B + 1 ≠ B; omega))
  refine callsD_of_wpS Tryz.func39 rfl fun c₀ cs hu => ?_
  apply wpS_seq
  apply wpS_region
  simp [wpOpsS, go_sem, recoverD, hu, Tryz.ntmps39, Exit.thenS]
  refine wpS_cond (t := true) (by simp [Act.eval, Array.replicate]) ?_
  simp only [if_true]
  apply wpS_region
  simp [wpOpsS, go_sem, c0, f0, c1, f1, bodyPostS, results, Tryz.results39]

set_option maxRecDepth 100000 in
theorem catch_idle (B : Nat) (w : World) :
    CallsD Tryz.prog 39 #[.pointer (some ⟨B, 0, none⟩), .pointer (some ⟨B + 1, 0, none⟩)] .returning w fun e u' w' => e = .returned (.tuple #[]) ∧ u' = .returning ∧ w' = w := by
  refine callsD_of_wpS Tryz.func39 rfl fun c₀ cs hu => ?_
  apply wpS_seq
  apply wpS_region
  simp [wpOpsS, go_sem, recoverD, hu, Tryz.ntmps39, Exit.thenS]
  refine wpS_cond (t := false) (by simp [Act.eval, Array.replicate]) ?_
  simp only [Bool.false_eq_true, if_false]
  refine wpS_of_wp (wp_skip ?_)
  cases c₀
  simp_all [bodyPostS, results, Tryz.results39]

theorem below_only {w w1 w2 : World} {B R : Nat} (h : Below B w w1) (k : Only R w1 w2) (hR : B ≤ R) (hB : B ≤ w1.heap.size) : Below B w w2 :=
  ⟨k.os.trans h.os, k.tape.trans h.tape, k.output.trans h.output, Nat.le_trans h.size k.size, fun i hi => (k.block i (by omega) (Nat.lt_of_lt_of_le hi hB)).trans (h.block i hi)⟩
theorem Blk.other {w : World} {B : Nat} {T : TypeId} {cs : Array Value} (h : Blk w B T cs) {R : Nat} (hne : B ≠ R) (i : Nat) (u : Value) : Blk (w.setCell ⟨R, i, none⟩ u) B T cs := (Below.heap_setCell w ⟨R, i, none⟩ u B hne).trans h
theorem Blk.only {w w' : World} {B : Nat} {T : TypeId} {cs : Array Value} (h : Blk w B T cs) {R : Nat} (ho : Only R w w') (hne : B ≠ R) : Blk w' B T cs := (ho.block B hne h.lt).trans h

theorem below_set {w w1 : World} {B R : Nat} (h : Below B w w1) (hR : B ≤ R) (i : Nat) (u : Value) : Below B w (w1.setCell ⟨R, i, none⟩ u) :=
  ⟨h.os, h.tape, h.output, by simpa using h.size, fun k hk => (Below.heap_setCell w1 ⟨R, i, none⟩ u k (by show k ≠ R; omega)).trans (h.block k hk)⟩

/-- What itemsOf hands back. -/
def ItemsOfPost (s : List UInt8) (w : World) (e : Ending) (w' : World) : Prop :=
  (∃ l v, textOk s l ∧ e = .returned (.tuple #[v, .bool true]) ∧ v.oneCell' = true ∧ RowAt w' (NewIn w) l v ∧ Below w.heap.size w w') ∨
  ((∀ l, ¬ textOk s l) ∧ e = .returned (.tuple #[.slice none 0 0, .bool false]) ∧ Below w.heap.size w w')

set_option maxRecDepth 100000 in
theorem itemsOf_long (s : List UInt8) (w : World) (hs : 200 < s.length) :
    Calls Tryz.prog 18 #[.string (tb s)] w (ItemsOfPost s w) := by
  have hz : (tb s).size = s.length := tb_size s
  obtain ⟨x, hx⟩ : ∃ x, x = tb s := ⟨_, rfl⟩
  rw [← hx] at hz ⊢
  have q1 : decide ((200 : Int) < (x.size : Int)) = true := decide_eq_true (by omega)
  have q2 : 200 < x.size := by omega
  clear hx
  go_enter_defers Tryz.func18, Tryz.ntmps18
  go_wp2_with fail
  simp [bodyPostD, Leaves, results, Tryz.results18, go_sem]
  exact .inr ⟨fun l h => by have := h.1; omega, rfl, ((Below.refl _ w).alloc (Nat.le_refl _) _).alloc (by simp) _⟩

set_option maxRecDepth 100000 in
set_option maxHeartbeats 1600000 in
theorem itemsOf_short (s : List UInt8) (w : World) (hs : s.length ≤ 200) :
    Calls Tryz.prog 18 #[.string (tb s)] w (ItemsOfPost s w) := by
  have hz : (tb s).size = s.length := tb_size s
  have q1 : decide ((200 : Int) < ((tb s).size : Int)) = false := decide_eq_false (by omega)
  have q2 : ¬ 200 < (tb s).size := by omega
  have hmf : ∀ (fn : Fn) (first cap : Array Value) (w : World), (Instr.makeFunc fn first cap).run Tryz.prog w = .ok (.func fn first cap) w := fun _ _ _ _ => rfl
  have hB0 : Blk (((w.alloc (.cells #[.slice none 0 0] 41)).alloc (.cells #[.bool false] 4)).alloc (.cells #[.string (tb s), .int .i64 0] 80)) w.heap.size 41 #[.slice none 0 0] := ((Blk.new w 41 #[.slice none 0 0]).alloc _).alloc _
  have hB1 : Blk (((w.alloc (.cells #[.slice none 0 0] 41)).alloc (.cells #[.bool false] 4)).alloc (.cells #[.string (tb s), .int .i64 0] 80)) (w.heap.size + 1) 4 #[.bool false] := by
    have := (Blk.new (w.alloc (.cells #[.slice none 0 0] 41)) 4 #[.bool false]).alloc (.cells #[.string (tb s), .int .i64 0] 80)
    rw [World.size_alloc] at this; exact this
  have hR : Rdr (((w.alloc (.cells #[.slice none 0 0] 41)).alloc (.cells #[.bool false] 4)).alloc (.cells #[.string (tb s), .int .i64 0] 80)) (w.heap.size + 1 + 1) s 0 := by
    have := Blk.new ((w.alloc (.cells #[.slice none 0 0] 41)).alloc (.cells #[.bool false] 4)) 80 #[.string (tb s), .int .i64 0]
    rw [World.size_alloc, World.size_alloc] at this; exact this
  have hb : Below w.heap.size w (((w.alloc (.cells #[.slice none 0 0] 41)).alloc (.cells #[.bool false] 4)).alloc (.cells #[.string (tb s), .int .i64 0] 80)) := (((Below.refl _ w).alloc (Nat.le_refl _) _).alloc (by simp) _).alloc (by simp; omega) _
  obtain ⟨wB, hwB⟩ : ∃ wB, wB = ((w.alloc (.cells #[.slice none 0 0] 41)).alloc (.cells #[.bool false] 4)).alloc (.cells #[.string (tb s), .int .i64 0] 80) := ⟨_, rfl⟩
  have hwz : wB.heap.size = w.heap.size + 3 := by rw [hwB]; simp
  rw [← hwB] at hB0 hB1 hR hb
  have HIT := Lib.hid (items_all 200 (by omega) (w.heap.size + 1 + 1) 0 s _ hs (by omega) hR)
  have HW := Lib.hid hwB
  rw [hwB] at HIT
  have HB0 := Lib.hid hB0
  have HB1 := Lib.hid hB1
  have HB := Lib.hid hb
  have HZ := Lib.hid hwz
  clear hwB hB0 hB1 hR hb hwz
  go_enter_defers Tryz.func18, Tryz.ntmps18
  go_wp2_with fail
  refine HIT.out.mono ?_
  rw [← HW.out]
  rintro e w2 (⟨l, r, v, hl, rfl, h1c, hrow, hr, ho⟩ | ⟨⟨u, rfl⟩, hno, ho⟩)
  · obtain ⟨A, cp, m, rfl, hrow⟩ := rowAt_form hrow
    have hn2 : w.heap.size ≤ w2.heap.size := by have := ho.size; rw [HZ.out] at this; omega
    have k0 := HB0.out.only ho (by omega)
    have k1 := HB1.out.only ho (by omega)
    have c0 := k0.cell 0
    have f0 := k0.frozen 0
    have hr3 : Rdr (w2.setCell ⟨w.heap.size, 0, none⟩ (.slice A m cp)) (w.heap.size + 1 + 1) r 0 := Blk.other hr (by omega) 0 (.slice A m cp)
    have k03 := k0.set_ 0 (.slice A m cp)
    have k13 := k1.other (R := w.heap.size) (by omega) 0 (.slice A m cp)
    have c3 : (w2.setCell ⟨w.heap.size, 0, none⟩ (.slice A m cp)).cell? ⟨w.heap.size, 0, none⟩ = some (.slice A m cp) := k03.cell 0
    have f3 := k03.frozen 0
    cases r with
    | nil =>
      have HE := Lib.hid (end_yes (w.heap.size + 1 + 1) 0 _ hr3)
      have k04 := k03.set_ 0 (.slice A m cp)
      have k14 := k13.other (R := w.heap.size) (by omega) 0 (.slice A m cp)
      have f14 := k14.frozen 0
      have c14 : ((w2.setCell ⟨w.heap.size, 0, none⟩ (.slice A m cp)).setCell ⟨w.heap.size, 0, none⟩ (.slice A m cp)).cell? ⟨w.heap.size + 1, 0, none⟩ = some (.bool false) := k14.cell 0
      have k05 := k04.other (R := w.heap.size + 1) (by omega) 0 (.bool true)
      have k15 := k14.set_ 0 (.bool true)
      have d0 : (((w2.setCell ⟨w.heap.size, 0, none⟩ (.slice A m cp)).setCell ⟨w.heap.size, 0, none⟩ (.slice A m cp)).setCell ⟨w.heap.size + 1, 0, none⟩ (.bool true)).cell? ⟨w.heap.size, 0, none⟩ = some (.slice A m cp) := k05.cell 0
      have d1 : (((w2.setCell ⟨w.heap.size, 0, none⟩ (.slice A m cp)).setCell ⟨w.heap.size, 0, none⟩ (.slice A m cp)).setCell ⟨w.heap.size + 1, 0, none⟩ (.bool true)).cell? ⟨w.heap.size + 1, 0, none⟩ = some (.bool true) := k15.cell 0
      have HL := Lib.hid hl
      have HROW := Lib.hid hrow
      have HO := Lib.hid ho
      clear hl hrow hr ho h1c hr3 k03 k13 k0 k1 k04 k14 k05 k15
      go_wp2_with fail
      refine HE.out.mono ?_
      rintro e w3 ⟨rfl, rfl⟩
      go_wp2_with fail
      refine leaves_cons (f := 39) (args := #[.pointer (some ⟨w.heap.size, 0, none⟩), .pointer (some ⟨w.heap.size + 1, 0, none⟩)]) (by simp) (by simp [go_sem]) ?_
      refine (catch_idle w.heap.size _).mono ?_
      rintro e u' w'' ⟨rfl, rfl, rfl⟩
      simp [Leaves, settle, results, Tryz.results18, go_sem, d0, d1]
      refine .inl ⟨l, _, textOk_rd.2 ⟨hs, HL.out⟩, rfl, rfl, ?_, below_set (below_set (below_set (below_only HB.out HO.out (by omega) (by rw [HZ.out]; omega)) (Nat.le_refl _) 0 _) (Nat.le_refl _) 0 _) (by omega) 0 _⟩
      exact (((HROW.out.stay (stay_set (R := w.heap.size) (by rw [HZ.out]; omega) 0 _)).stay (stay_set (R := w.heap.size) (by rw [HZ.out]; omega) 0 _)).stay (stay_set (R := w.heap.size + 1) (by rw [HZ.out]; omega) 0 _)).stay (stay_less (by rw [HZ.out]; omega))
    | cons c t =>
      have HE := Lib.hid (end_no (w.heap.size + 1 + 1) 0 c t _ hr3)
      have HNO := Lib.hid (fun l' => textNo_rest (l' := l') hl (by simp))
      have HO := Lib.hid ho
      have K0 := Lib.hid k03
      have K1 := Lib.hid k13
      have k04 := k03.set_ 0 (.slice none 0 0)
      have k14 := k13.other (R := w.heap.size) (by omega) 0 (.slice none 0 0)
      have k05 := k04.other (R := w.heap.size + 1) (by omega) 0 (.bool false)
      have k15 := k14.set_ 0 (.bool false)
      have d0 : (((w2.setCell ⟨w.heap.size, 0, none⟩ (.slice A m cp)).setCell ⟨w.heap.size, 0, none⟩ (.slice none 0 0)).setCell ⟨w.heap.size + 1, 0, none⟩ (.bool false)).cell? ⟨w.heap.size, 0, none⟩ = some (.slice none 0 0) := k05.cell 0
      have d1 : (((w2.setCell ⟨w.heap.size, 0, none⟩ (.slice A m cp)).setCell ⟨w.heap.size, 0, none⟩ (.slice none 0 0)).setCell ⟨w.heap.size + 1, 0, none⟩ (.bool false)).cell? ⟨w.heap.size + 1, 0, none⟩ = some (.bool false) := k15.cell 0
      clear hl hrow hr ho h1c hr3 k03 k13 k0 k1 k04 k14 k05 k15
      go_wp2_with fail
      refine HE.out.mono ?_
      rintro e w3 ⟨⟨u, rfl⟩, rfl⟩
      go_wp2_with fail
      refine leaves_cons (f := 39) (args := #[.pointer (some ⟨w.heap.size, 0, none⟩), .pointer (some ⟨w.heap.size + 1, 0, none⟩)]) (by simp) (by simp [go_sem]) ?_
      refine (catch_panic w.heap.size _ _ _ _ [] _ K0.out K1.out).mono ?_
      rintro e u' w'' ⟨rfl, rfl, rfl⟩
      simp [Leaves, settle, results, Tryz.results18, go_sem, d0, d1]
      exact .inr ⟨HNO.out, rfl, below_set (below_set (below_set (below_only HB.out HO.out (by omega) (by rw [HZ.out]; omega)) (Nat.le_refl _) 0 _) (Nat.le_refl _) 0 _) (by omega) 0 _⟩
  · have k0 := HB0.out.only ho (by omega)
    have k1 := HB1.out.only ho (by omega)
    have K0 := Lib.hid k0
    have K1 := Lib.hid k1
    have HNO := Lib.hid (fun l' => textNo (l := l') hno)
    have HO := Lib.hid ho
    have k04 := k0.set_ 0 (.slice none 0 0)
    have k14 := k1.other (R := w.heap.size) (by omega) 0 (.slice none 0 0)
    have k05 := k04.other (R := w.heap.size + 1) (by omega) 0 (.bool false)
    have k15 := k14.set_ 0 (.bool false)
    have d0 : ((w2.setCell ⟨w.heap.size, 0, none⟩ (.slice none 0 0)).setCell ⟨w.heap.size + 1, 0, none⟩ (.bool false)).cell? ⟨w.heap.size, 0, none⟩ = some (.slice none 0 0) := k05.cell 0
    have d1 : ((w2.setCell ⟨w.heap.size, 0, none⟩ (.slice none 0 0)).setCell ⟨w.heap.size + 1, 0, none⟩ (.bool false)).cell? ⟨w.heap.size + 1, 0, none⟩ = some (.bool false) := k15.cell 0
    clear hno ho k0 k1 k04 k14 k05 k15
    go_wp2_with fail
    refine leaves_cons (f := 39) (args := #[.pointer (some ⟨w.heap.size, 0, none⟩), .pointer (some ⟨w.heap.size + 1, 0, none⟩)]) (by simp) (by simp [go_sem]) ?_
    refine (catch_panic w.heap.size _ _ _ _ [] _ K0.out K1.out).mono ?_
    rintro e u' w'' ⟨rfl, rfl, rfl⟩
    simp [Leaves, settle, results, Tryz.results18, go_sem, d0, d1]
    exact .inr ⟨HNO.out, rfl, below_set (below_set (below_only HB.out HO.out (by omega) (by rw [HZ.out]; omega)) (Nat.le_refl _) 0 _) (by omega) 0 _⟩

theorem itemsOf_any (s : List UInt8) (w : World) : Calls Tryz.prog 18 #[.string (tb s)] w (ItemsOfPost s w) := by
  by_cases h : s.length ≤ 200
  · exact itemsOf_short s w h
  · exact itemsOf_long s w (by omega)
end Go.Proofs.YtgkamcnbpiipoaaGreat
