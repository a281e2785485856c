/-
  Contracts of RunGraph, the program's and the model's.
-/
import Derived.Test.YteodlcgmncchpaaRunFrom
import Derived.Test.YteodlcgmncchpaaChoices
import Derived.Test.YteodlcgmncchpaaNextOf
import Derived.Test.YteodlcgmncchpaaReach
namespace Go.Proofs.Yteodlcgmncchpaa
open Go.RowKit Go.Sort Go.Shelf
attribute [local go_sem] Oper.semAt_some

def runB (g : List Bl) (choices : ByteArray) : Bool := validB g && choicesB choices
def runT (g : List Bl) (choices : ByteArray) : ByteArray := if runB g choices then traceOf g choices else ⟨#[]⟩
def runE (g : List Bl) (choices : ByteArray) : Int := if runB g choices then (endOf g choices : Int) else 0

theorem runB_no {g : List Bl} {choices : ByteArray} (h : validB g = false) : runB g choices = false := by unfold runB; rw [h]; rfl
theorem runB_no' {g : List Bl} {choices : ByteArray} (h : choicesB choices = false) : runB g choices = false := by unfold runB; rw [h, Bool.and_false]
theorem runB_yes {g : List Bl} {choices : ByteArray} (h : validB g = true) (h' : choicesB choices = true) : runB g choices = true := by unfold runB; rw [h, h']; rfl
theorem runT_no {g : List Bl} {choices : ByteArray} (h : runB g choices = false) : runT g choices = ⟨#[]⟩ := by unfold runT; rw [h]; rfl
theorem runE_no {g : List Bl} {choices : ByteArray} (h : runB g choices = false) : runE g choices = 0 := by unfold runE; rw [h]; rfl
theorem runT_yes {g : List Bl} {choices : ByteArray} (h : runB g choices = true) : runT g choices = traceOf g choices := by unfold runT; rw [h]; rfl
theorem runE_yes {g : List Bl} {choices : ByteArray} (h : runB g choices = true) : runE g choices = (endOf g choices : Int) := by unfold runE; rw [h]; rfl

theorem ret_sib {a a' : ByteArray} {i i' : Int} {b b' : Bool} (h1 : a = a') (h2 : i = i') (h3 : b = b') : Ending.returned (.tuple #[.string a, .int .i64 i, .bool b]) = .returned (.tuple #[.string a', .int .i64 i', .bool b']) := by rw [h1, h2, h3]

/-- What RunGraph returns. -/
def RunPost (g : List Bl) (choices : ByteArray) (w : World) (e : Ending) (w' : World) : Prop :=
  e = .returned (.tuple #[.string (runT g choices), .int .i64 (runE g choices), .bool (runB g choices)]) ∧ Below w.heap.size w w'

theorem runFrom_any (u : Option Addr) (choices : ByteArray) (w : World) :
    Calls Try.prog 72 #[.pointer u, .string choices] w fun e w' =>
      e = .returned (.func (.func 94) #[] #[.pointer (some ⟨w.heap.size + 1, 0, none⟩), .pointer (some ⟨w.heap.size, 0, none⟩)]) ∧
      w' = (w.alloc (.cells #[.pointer u] 61)).alloc (.cells #[.string choices] 9) := by
  go_enter Try.func72, Try.ntmps72
  go_wp2
  go_ret
  exact ⟨rfl, rfl⟩

theorem implRun_no (A : Option Addr) (cap : Nat) (g : List Bl) (choices : ByteArray) (w : World) (hg : Gr w A g) (hn : g.length + tot g ≤ 1048576) (hc : choices.size ≤ 4611686018427387904) (hb : runB g choices = false) :
    Calls Try.prog 37 #[.slice A g.length cap, .string choices] w (RunPost g choices w) := by
  have H1 := Lib.hid (runT_no hb)
  have H2 := Lib.hid (runE_no hb)
  have H3 := Lib.hid hb
  by_cases hv : validB g = true
  · have HC := Lib.hid (nodesOf_yes A cap g w hg hn hv)
    have hcb : choicesB choices = false := by
      cases h : choicesB choices with
      | false => rfl
      | true => rw [runB_yes hv h] at hb; cases hb
    have HV := Lib.hid (fun w => implChoices_any choices w hc)
    rw [hcb] at HV
    clear hb hv hcb
    go_enter Try.func37, Try.ntmps37
    go_wp2_with fail
    refine HC.out.mono ?_
    rintro e w1 ⟨NB, hle, rfl, hN, b1⟩
    clear hN
    go_wp2_with fail
    refine (HV.out w1).mono ?_
    rintro e w2 ⟨rfl, b2⟩
    go_wp2_with fail
    go_ret3
    exact ⟨ret_sib H1.out.symm H2.out.symm H3.out.symm, below_trans_self b1 b2⟩
  · have hv' : validB g = false := by simpa using hv
    have HC := Lib.hid (nodesOf_no A cap g w hg hn hv')
    clear hb hv hv'
    go_enter Try.func37, Try.ntmps37
    go_wp2_with fail
    refine HC.out.mono ?_
    rintro e w1 ⟨rfl, b1⟩
    go_wp2_with fail
    go_ret3
    exact ⟨ret_sib H1.out.symm H2.out.symm H3.out.symm, b1⟩

theorem below_put {n₀ : Nat} {a W : World} (h : Below n₀ a W) {l : Nat} (hl : n₀ ≤ l) (o : Obj) : Below n₀ a (W.putObj l o) :=
  h.trans ⟨rfl, rfl, rfl, by simp, fun k hk => World.putObj_heap_other (by omega)⟩

theorem boxes_step (W : World) (B : Nat) (t1 t2 : TypeId) (u1 u2 v1 v2 : Value) (h1 : Boxed W B t1 u1) (h2 : Boxed W (B + 1) t2 u2) :
    Boxed ((W.setCell ⟨B, 0, none⟩ v1).setCell ⟨B + 1, 0, none⟩ v2).drew B t1 v1 ∧ Boxed ((W.setCell ⟨B, 0, none⟩ v1).setCell ⟨B + 1, 0, none⟩ v2).drew (B + 1) t2 v2 ∧
      Turns (fun k => k = B ∨ k = B + 1) W ((W.setCell ⟨B, 0, none⟩ v1).setCell ⟨B + 1, 0, none⟩ v2).drew :=
  ⟨(h1.set v1).other (by omega) v2, (h2.other (by omega) v1).set v2,
    (Turns.setCell (p := ⟨B, 0, none⟩) (.inl rfl) v1).trans (((Turns.setCell (p := ⟨B + 1, 0, none⟩) (.inr rfl) v2).wider fun k hk => .inl hk).trans (Turns.drew _ _))⟩

set_option maxRecDepth 100000 in
set_option maxHeartbeats 2000000 in
theorem implRun_yes (A : Option Addr) (cap : Nat) (g : List Bl) (choices : ByteArray) (w : World) (hg : Gr w A g) (hn : g.length + tot g ≤ 1048576) (hc : choices.size ≤ 4611686018427387904) (hb : runB g choices = true) :
    Calls Try.prog 37 #[.slice A g.length cap, .string choices] w (RunPost g choices w) := by
  have H1 := Lib.hid (runT_yes hb)
  have H2 := Lib.hid (runE_yes hb)
  have H3 := Lib.hid hb
  have hv : validB g = true := by unfold runB at hb; exact (Bool.and_eq_true_iff.1 hb).1
  have hcb : choicesB choices = true := by unfold runB at hb; exact (Bool.and_eq_true_iff.1 hb).2
  have HC := Lib.hid (nodesOf_yes A cap g w hg hn hv)
  have HV := Lib.hid (fun w => implChoices_any choices w hc)
  rw [hcb] at HV
  have hpos := (valid_iff.1 hv).1
  have HT := Lib.hid hv
  clear hb hv hcb
  refine (callsIn_wide (n := 4)).1 ?_
  refine callsIn_of_wp_marks Try.func37 rfl trivial ?_ rfl
  simp only [Try.ntmps37, List.size_toArray, List.length_cons, List.length_nil, Nat.reduceAdd, Nat.reduceSub, Array.replicate_succ, Array.replicate_zero, List.push_toArray, List.append_toArray, List.nil_append, List.cons_append]
  refine wpIn_mono (Q := calm _) ?_ calm_le
  gi_wp2_with fail
  refine ⟨trivial, (callsIn_wide.2 HC.out).mono ?_⟩
  rintro e w1 ⟨NB, hle, rfl, hN, b1⟩
  have HN := Lib.hid hN
  clear hN
  gi_wp2_with fail
  refine ⟨trivial, (callsIn_wide.2 (HV.out w1)).mono ?_⟩
  rintro e w2 ⟨rfl, b2⟩
  have HN2 := Lib.hid (HN.out.below b2)
  have HB2 := Lib.hid (below_trans_self b1 b2)
  have x0 := HN2.out.ptr hpos
  have hNl := HN2.out.lt
  clear b1 b2
  gi_wp2_with fail
  refine ⟨trivial, (callsIn_wide.2 (runFrom_any _ choices _)).mono ?_⟩
  rintro e w3 ⟨rfl, hw3⟩
  have hs3 : w3.heap.size = w2.heap.size + 4 := by rw [hw3]; simp
  have k1 : Boxed w3 w2.heap.size 9 (.string ⟨#[]⟩) := by rw [hw3]; exact (((Boxed.new w2 _ _).alloc _).alloc _).alloc _
  have k2 : Boxed w3 (w2.heap.size + 1) 3 (.int .i64 0) := by
    have := ((Boxed.new (w2.alloc (.cells #[.string ⟨#[]⟩] 9)) 3 (.int .i64 0)).alloc (.cells #[nptr NB 0] 61)).alloc (.cells #[.string choices] 9)
    rw [hw3]; simpa using this
  have hb3 : Below w2.heap.size w2 w3 := by
    rw [hw3]; exact ((((Below.refl _ w2).alloc (Nat.le_refl _) _).alloc (by simp) _).alloc (by simp; omega) _).alloc (by simp; omega) _
  have kE : w3.cell? ⟨w2.heap.size + 1 + 1, 0, none⟩ = some (nptr NB 0) := by
    have := Boxed.new ((w2.alloc (.cells #[.string ⟨#[]⟩] 9)).alloc (.cells #[.int .i64 0] 3)) 61 (nptr NB 0)
    rw [World.size_alloc, World.size_alloc] at this
    have b : Boxed w3 (w2.heap.size + 1 + 1) 61 (nptr NB 0) := by rw [hw3]; exact Boxed.alloc this _
    exact b.cell
  have kC : w3.cell? ⟨w2.heap.size + 1 + 1 + 1, 0, none⟩ = some (.string choices) := by
    have := Boxed.new (((w2.alloc (.cells #[.string ⟨#[]⟩] 9)).alloc (.cells #[.int .i64 0] 3)).alloc (.cells #[nptr NB 0] 61)) 9 (.string choices)
    have b : Boxed w3 (w2.heap.size + 1 + 1 + 1) 9 (.string choices) := by rw [hw3]; simpa using this
    exact b.cell
  have HN3 := Lib.hid (NodesIn.of (HN2.out.below hb3))
  have HB3 := Lib.hid (below_trans_self HB2.out hb3)
  have HNL := Lib.hid (fun i hi => (HN2.out.node i hi).lt)
  clear hw3
  gi_wp2_with fail
  refine wpIn_rangeFunc_mine rfl (by decide) (gf := 94) rfl trivial (enters_of Try.func94 (by kernel_rfl) rfl)
    (runFrom1_own 3 NB _ _ g choices (fun k => k < w2.heap.size) w3 (by decide) HT.out kC kE HN3.out (fun i hi => HNL.out i hi) (by omega) (by omega)) (Below.refl _ _) (fun _ => rfl) (fun k hk => by omega)
    (fun _ pre W => Boxed W w2.heap.size 9 (.string (namesAt g (pre.map (·.1)))) ∧ Boxed W (w2.heap.size + 1) 3 (.int .i64 (lastEnd pre : Nat)) ∧ NodesIn W NB g ∧ Below w.heap.size w W ∧ pre.length < 60 ∧ ∀ x ∈ pre, x.1 < g.length)
    (fun c pre W => c = .exit 0 ∧ pre.length = 60 ∧ Boxed W w2.heap.size 9 (.string (namesAt g (pre.map (·.1)))) ∧ Boxed W (w2.heap.size + 1) 3 (.int .i64 (lastEnd pre : Nat)) ∧ Below w.heap.size w W)
    ?hI ?hIx (fun _ _ _ h => h.2.2.2.2.1) ?h0
    (fun x => { tmps := #[.slice A g.length cap, .string choices, undef, undef, .string ⟨#[]⟩, .int .i64 0, .bool false, .slice (some ⟨NB, 0, none⟩) g.length g.length,
      .bool true, .pointer (some ⟨w2.heap.size, 0, none⟩), .pointer (some ⟨w2.heap.size + 1, 0, none⟩), nptr NB x.1, .int .i64 x.2,
      .tuple #[.slice (some ⟨NB, 0, none⟩) g.length g.length, .bool true], .slice A g.length cap, .tuple #[.slice (some ⟨NB, 0, none⟩) g.length g.length, .bool true],
      .slice (some ⟨NB, 0, none⟩) g.length g.length, .bool true, .bool true, .bool false, .bool false, .string choices, .bool true, .bool false, .bool false,
      .slice (some ⟨NB, 0, none⟩) g.length g.length, .pointer (some ⟨NB, 0, none⟩), nptr NB 0, .string choices,
      .func (.func 94) #[] #[.pointer (some ⟨w2.heap.size + 1 + 1 + 1, 0, none⟩), .pointer (some ⟨w2.heap.size + 1 + 1, 0, none⟩)],
      nptr NB x.1, .int .i64 x.2, undef, undef, undef, undef, undef, undef, undef, undef, undef, undef, undef, undef], defers := [] }) ?assign ?body ?done ?stop
  case hI =>
    rintro O pre X Y hle hO ⟨h1, h2, h3, h4, h5, h6⟩ hT
    refine ⟨(hT.block _ h1.lt fun h => by have := hO _ h; omega).trans h1, (hT.block _ h2.lt fun h => by have := hO _ h; omega).trans h2,
      fun i hi => (hT.block _ (h3 i hi).lt fun h => by have := hO _ h; have := HNL.out i hi; omega).trans (h3 i hi), h4.trans (hT.below h4.size fun k h => by have := hO k h; have := HB3.out.size; omega), h5, h6⟩
  case hIx =>
    rintro c pre X Y hle ⟨rfl, h0, h1, h2, h4⟩ hT
    refine ⟨rfl, h0, (hT.block _ h1.lt (by omega)).trans h1, (hT.block _ h2.lt (by omega)).trans h2, h4.trans (hT.below h4.size fun k h => by have := HB3.out.size; omega)⟩
  case h0 => exact ⟨k1, k2, HN3.out, HB3.out, by simp, by simp⟩
  case assign =>
    intro l x W K hK
    gi_wp2
    exact hK
  case body =>
    rintro l O pre x W hle hO ⟨h1, h2, h3, h4, h5, h6⟩ hx
    obtain ⟨xi, xe⟩ := x
    have hv := HT.out
    have hxl : xi < g.length := runL_lt hv 60 0 choices.data.toList (valid_iff.1 hv).1 (xi, xe) (hx.subset (by simp))
    have c1 := h1.cell
    have f1 := h1.frozen
    have f2 := h2.frozen
    obtain ⟨u2, c2⟩ : ∃ u, W.cell? ⟨w2.heap.size + 1, 0, none⟩ = some u := ⟨_, h2.cell⟩
    have n1 : W.cell? ⟨nb NB xi, 1, none⟩ = some (.string g[xi].1) := by have := (h3 xi hxl).cell 1; simpa using this
    obtain ⟨t, ht⟩ : ∃ t, t = namesAt g (pre.map (·.1)) := ⟨_, rfl⟩
    rw [← nthName_at hxl] at n1
    obtain ⟨s, hs⟩ : ∃ s, s = nthName g xi := ⟨_, rfl⟩
    have hts : t.size = pre.length := by rw [ht, namesAt_size hv _ (fun i hi => by obtain ⟨y, hy, rfl⟩ := List.mem_map.1 hi; exact h6 y hy), List.length_map]
    have hss : s.size = 1 := by obtain ⟨c, hc, _⟩ := valid_one hv (List.getElem_mem hxl); rw [hs, nthName_at hxl, hc]; rfl
    have hsz : t.size + s.size ≤ 1048576 := by omega
    rw [← ht] at c1 h1
    rw [← hs] at n1
    have HTS := Lib.hid ht
    have HSS := Lib.hid hs
    have K1 := Lib.hid h1
    have K2 := Lib.hid h2
    have K3 := Lib.hid h3
    have K4 := Lib.hid h4
    have HXL := Lib.hid hxl
    have K6 := Lib.hid h6
    have HX := Lib.hid hx
    clear ht hs h1 h2 h3 h4 h6 hx hxl hv
    obtain ⟨ts, hTS⟩ : ∃ ts, ts = t ++ s := ⟨_, rfl⟩
    have htz : ts.size = pre.length + 1 := by rw [hTS, ByteArray.size_append]; omega
    have HNM := Lib.hid (show namesAt g ((pre ++ [((xi : Nat), (xe : Nat))]).map (·.1)) = t ++ s by rw [List.map_append, namesAt_append, HTS.out, HSS.out]; congr 1; exact namesAt_one g xi)
    by_cases h60 : pre.length + 1 = 60
    · have g0 : ((ts.size : Int) == 60) = true := by rw [htz, h60]; rfl
      rw [hTS] at g0
      clear hTS htz
      gi_wp2_with fail
      gi_region_with fail
      all_goals gi_wp2
      all_goals
        obtain ⟨z1, z2, z3⟩ := boxes_step W w2.heap.size _ _ _ _ (.string (t ++ s)) (.int .i64 (xe : Nat)) K1.out K2.out
        refine ⟨z3.keeps fun k hk => ?_, rfl, by simpa using h60, by rw [HNM.out]; exact z1, by rw [lastEnd_snoc]; exact z2, K4.out.trans (z3.below K4.out.size fun k hk => by have := HB3.out.size; omega)⟩
        rcases hk with hk | hk
        · omega
        · have := hO k hk; omega
    · have g0 : ((ts.size : Int) == 60) = false := by rw [htz]; simp; omega
      rw [hTS] at g0
      clear hTS htz
      gi_wp2_with fail
      gi_region_with fail
      all_goals gi_wp2
      all_goals
        obtain ⟨z1, z2, z3⟩ := boxes_step W w2.heap.size _ _ _ _ (.string (t ++ s)) (.int .i64 (xe : Nat)) K1.out K2.out
        have kk : Keeps (fun k => k < w2.heap.size ∨ O k) W ((W.setCell ⟨w2.heap.size, 0, none⟩ (.string (t ++ s))).setCell ⟨w2.heap.size + 1, 0, none⟩ (.int .i64 (xe : Nat))).drew := z3.keeps fun k hk => by
          rcases hk with hk | hk
          · omega
          · have := hO k hk; omega
        refine ⟨kk, by rw [HNM.out]; exact z1, by rw [lastEnd_snoc]; exact z2, K3.out.kept kk fun i hi => .inl (HNL.out i hi), K4.out.trans (z3.below K4.out.size fun k hk => by have := HB3.out.size; omega), by simp; omega, fun y hy => ?_⟩
        rcases List.mem_append.1 hy with hy | hy
        · exact K6.out y hy
        · simp at hy; subst hy; exact HXL.out
  case done =>
    rintro D O xs W rfl hO rfl ⟨h1, h2, h3, h4, h5, h6⟩ hOD hK
    have c1 := h1.cell
    have c2 := h2.cell
    have K1 := Lib.hid h1
    have K2 := Lib.hid h2
    have K4 := Lib.hid h4
    have HK := Lib.hid (show W.drew.heap[w2.heap.size + 4]? = some (.deferred (some [])) by rw [← hs3]; exact hK)
    clear h1 h2 h3 h4 h6 hK
    gi_wp2_with fail
    gi_region_with fail
    all_goals gi_wp2
    all_goals
      refine ⟨by simp, .inl ⟨_, _, rfl, run_takeDeferred HK.out, ?_⟩⟩
      refine ⟨_, results_tmp3 rfl _ _ _, ?_, ?_⟩
      · exact (ret_sib H1.out.symm H2.out.symm H3.out.symm : Ending.returned (.tuple #[.string (traceOf g choices), .int .i64 (endOf g choices : Nat), .bool true]) = _)
      · exact below_put K4.out.drew (by have := HB3.out.size; omega) _
  case stop =>
    rintro D c pre W rfl hpre ⟨rfl, h60, h1, h2, h4⟩ hK
    have hall : pre = runOf g choices := hpre.eq_of_length (by have := runOf_le g choices; have := hpre.length_le; omega)
    subst hall
    have c1 := h1.cell
    have c2 := h2.cell
    have K1 := Lib.hid h1
    have K2 := Lib.hid h2
    have K4 := Lib.hid h4
    have HK := Lib.hid (show W.drew.heap[w2.heap.size + 4]? = some (.deferred (some [])) by rw [← hs3]; exact hK)
    clear h1 h2 h4 hK h60 hpre
    gi_wp2_with fail
    gi_region_with fail
    all_goals gi_wp2
    all_goals
      refine ⟨by simp, .inl ⟨_, _, rfl, run_takeDeferred HK.out, ?_⟩⟩
      refine ⟨_, results_tmp3 rfl _ _ _, ?_, ?_⟩
      · exact (ret_sib H1.out.symm H2.out.symm H3.out.symm : Ending.returned (.tuple #[.string (traceOf g choices), .int .i64 (endOf g choices : Nat), .bool true]) = _)
      · exact below_put K4.out.drew (by have := HB3.out.size; omega) _
end Go.Proofs.Yteodlcgmncchpaa
