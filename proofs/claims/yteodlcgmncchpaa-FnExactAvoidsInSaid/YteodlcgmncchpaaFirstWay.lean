/-
  Contract of firstWay: the first of the ways that leads to a wanted block.
-/
import Derived.Test.YteodlcgmncchpaaWaysFrom
import Derived.Test.YteodlcgmncchpaaRunGraph
namespace Go.Proofs.Yteodlcgmncchpaa
open Go.RowKit Go.Sort Go.Shelf
attribute [local go_sem] Oper.semAt_some

/-- A function value that tells which blocks are wanted. -/
structure Wants (P : Nat → Bool) (NB : Nat) (g : List Bl) (F : FuncId) (cap : Array Value) (w0 : World) : Prop where
  enter : ∀ args w, (callFunc F args).run Try.prog w = .ok (.enter F args) w
  goes : ∀ W i, i < g.length → Below w0.heap.size w0 W → NodesIn W NB g → Calls Try.prog F (#[nptr NB i] ++ cap) W fun e w' => e = .returned (.bool (P i)) ∧ Below W.heap.size W w'

abbrev Wanted (P : Nat → Bool) : Nat → Prop := fun i => P i = true

def FirstPost (g : List Bl) (A : List Nat) (P : Nat → Prop) (w : World) (e : Ending) (w' : World) : Prop :=
  ∃ s ok, e = .returned (.tuple #[.string s, .bool ok]) ∧ FirstWay g A P s ok ∧ SoonAt g A P s ok ∧ Below w.heap.size w w'

set_option maxRecDepth 100000 in
set_option maxHeartbeats 2000000 in
theorem firstWay_any (P : Nat → Bool) (NB : Nat) (g : List Bl) (av : Option Nat) (F : FuncId) (cap : Array Value) (w : World) (hv : validB g = true) (hav : ∀ a, av = some a → a < g.length)
    (hN : NodesIn w NB g) (hW : Wants P NB g F cap w) :
    Calls Try.prog 50 #[nptr NB 0, ptrAt NB av, .func (.func F) #[] cap] w (FirstPost g (avL av) (Wanted P) w) := by
  have HV := Lib.hid hv
  have HN := Lib.hid hN
  have HWG := Lib.hid hW.goes
  have hent := hW.enter
  have HNL := Lib.hid (fun i hi => (hN i hi).lt)
  obtain ⟨pv, hpv⟩ : ∃ pv, ptrAt NB av = .pointer pv := ptrAt_pointer NB av
  clear hv hN hW
  refine (callsIn_wide (n := 4)).1 ?_
  refine callsIn_of_wp_marks Try.func50 rfl trivial ?_ rfl
  simp only [Try.ntmps50, List.size_toArray, List.length_cons, List.length_nil, Nat.reduceAdd, Nat.reduceSub, Array.replicate_succ, Array.replicate_zero, List.push_toArray, List.append_toArray, List.nil_append, List.cons_append]
  refine wpIn_mono (Q := calm _) ?_ calm_le
  rw [hpv]
  have HPV := Lib.hid hpv
  clear hpv
  gi_wp2_with fail
  refine ⟨trivial, (callsIn_wide.2 (waysFrom_any _ _ _)).mono ?_⟩
  rintro e w3 ⟨rfl, hw3⟩
  have hs3 : w3.heap.size = w.heap.size + 5 := by rw [hw3]; simp
  have kF : Boxed w3 w.heap.size 69 (.func (.func F) #[] cap) := by rw [hw3]; exact ((((Boxed.new w _ _).alloc _).alloc _).alloc _).alloc _
  have kS : Boxed w3 (w.heap.size + 1) 9 (.string ⟨#[]⟩) := by
    have := (((Boxed.new (w.alloc (.cells #[.func (.func F) #[] cap] 69)) 9 (.string ⟨#[]⟩)).alloc (.cells #[.bool false] 4)).alloc (.cells #[nptr NB 0] 61)).alloc (.cells #[.pointer pv] 61)
    rw [hw3]; simpa using this
  have kB : Boxed w3 (w.heap.size + 2) 4 (.bool false) := by
    have := ((Boxed.new ((w.alloc (.cells #[.func (.func F) #[] cap] 69)).alloc (.cells #[.string ⟨#[]⟩] 9)) 4 (.bool false)).alloc (.cells #[nptr NB 0] 61)).alloc (.cells #[.pointer pv] 61)
    rw [hw3]; simpa using this
  have kE : w3.cell? ⟨w.heap.size + 3, 0, none⟩ = some (nptr NB 0) := by
    have := (Boxed.new (((w.alloc (.cells #[.func (.func F) #[] cap] 69)).alloc (.cells #[.string ⟨#[]⟩] 9)).alloc (.cells #[.bool false] 4)) 61 (nptr NB 0)).alloc (.cells #[.pointer pv] 61)
    have b : Boxed w3 (w.heap.size + 3) 61 (nptr NB 0) := by rw [hw3]; simpa using this
    exact b.cell
  have kA : w3.cell? ⟨w.heap.size + 4, 0, none⟩ = some (ptrAt NB av) := by
    have := Boxed.new ((((w.alloc (.cells #[.func (.func F) #[] cap] 69)).alloc (.cells #[.string ⟨#[]⟩] 9)).alloc (.cells #[.bool false] 4)).alloc (.cells #[nptr NB 0] 61)) 61 (.pointer pv)
    have b : Boxed w3 (w.heap.size + 4) 61 (.pointer pv) := by rw [hw3]; simpa using this
    rw [HPV.out]; exact b.cell
  have hb3 : Below w.heap.size w w3 := by
    rw [hw3]; exact (((((Below.refl _ w).alloc (Nat.le_refl _) _).alloc (by simp) _).alloc (by simp; omega) _).alloc (by simp; omega) _).alloc (by simp; omega) _
  have HN3 := Lib.hid (HN.out.below hb3)
  have HB3 := Lib.hid hb3
  clear hw3 hb3
  simp only [World.size_alloc, Nat.add_assoc, Nat.reduceAdd]
  gi_wp2_with fail
  refine wpIn_rangeFunc_mine rfl (by decide) (gf := 100) rfl trivial (enters_of Try.func100 (by kernel_rfl) rfl)
    (waysFrom1_own 3 NB _ _ g av (fun k => k < w.heap.size) w3 (by decide) HV.out kA hav kE HN3.out (fun i hi => HNL.out i hi) (by omega) (by omega)) (Below.refl _ _) (fun _ => rfl) (fun k hk => by omega)
    (fun _ pre W => Boxed W w.heap.size 69 (.func (.func F) #[] cap) ∧ (∃ v, Boxed W (w.heap.size + 1) 9 v) ∧ (∃ v, Boxed W (w.heap.size + 2) 4 v) ∧ NodesIn W NB g ∧ Below w.heap.size w W ∧ ∀ y ∈ pre, P y.1 = false)
    (fun c pre W => c = .ret ∧ ∃ s, Boxed W (w.heap.size + 1) 9 (.string s) ∧ Boxed W (w.heap.size + 2) 4 (.bool true) ∧ FirstWay g (avL av) (Wanted P) s true ∧ SoonAt g (avL av) (Wanted P) s true ∧ Below w.heap.size w W)
    ?hI ?hIx (fun _ _ _ _ => trivial) ?h0
    (fun x => { tmps := #[nptr NB 0, .pointer pv, .func (.func F) #[] cap, undef, undef, .pointer (some ⟨w.heap.size, 0, none⟩), .pointer (some ⟨w.heap.size + 1, 0, none⟩), .pointer (some ⟨w.heap.size + 2, 0, none⟩),
      nptr NB x.1, .string x.2, nptr NB 0, .pointer pv, .func (.func 100) #[] #[.pointer (some ⟨w.heap.size + 4, 0, none⟩), .pointer (some ⟨w.heap.size + 3, 0, none⟩)],
      nptr NB x.1, .string x.2, undef, undef, undef, undef], defers := [] }) ?assign ?body ?done ?stop
  case hI =>
    rintro O pre X Y hle hO ⟨h1, ⟨v2, h2⟩, ⟨v3, h3⟩, h4, h5, h6⟩ hT
    refine ⟨(hT.block _ h1.lt fun h => by have := hO _ h; omega).trans h1, ⟨v2, (hT.block _ h2.lt fun h => by have := hO _ h; omega).trans h2⟩, ⟨v3, (hT.block _ h3.lt fun h => by have := hO _ h; omega).trans h3⟩,
      fun i hi => (hT.block _ (h4 i hi).lt fun h => by have := hO _ h; have := HNL.out i hi; omega).trans (h4 i hi), h5.trans (hT.below h5.size fun k h => by have := hO k h; omega), h6⟩
  case hIx =>
    rintro c pre X Y hle ⟨rfl, s, h1, h2, h3, h4, h5⟩ hT
    exact ⟨rfl, s, (hT.block _ h1.lt (by omega)).trans h1, (hT.block _ h2.lt (by omega)).trans h2, h3, h4, h5.trans (hT.below h5.size fun k h => by omega)⟩
  case h0 => exact ⟨kF, ⟨_, kS⟩, ⟨_, kB⟩, HN3.out, HB3.out, by simp⟩
  case assign =>
    intro l x W K hK
    gi_wp2
    exact hK
  case body =>
    rintro l O pre x W hle hO ⟨h1, ⟨v2, h2⟩, ⟨v3, h3⟩, h4, h5, h6⟩ hx
    have c1 := h1.cell
    have hxl := hx.lt
    have HC := Lib.hid (HWG.out W x.1 hxl h5 h4)
    have K1 := Lib.hid h1
    have K2 := Lib.hid h2
    have K3 := Lib.hid h3
    have K4 := Lib.hid h4
    have K5 := Lib.hid h5
    have K6 := Lib.hid h6
    have KX := Lib.hid hx
    clear h1 h2 h3 h4 h5 h6 hx
    gi_wp2_with fail
    refine ⟨trivial, ((callsIn_wide.2 HC.out).inRound l).mono ?_⟩
    rintro e w5 ⟨rfl, b5⟩
    have J1 := Lib.hid (show Boxed w5 w.heap.size 69 (.func (.func F) #[] cap) from (b5.block _ K1.out.lt).trans K1.out)
    have J2 := Lib.hid (show Boxed w5 (w.heap.size + 1) 9 v2 from (b5.block _ K2.out.lt).trans K2.out)
    have J3 := Lib.hid (show Boxed w5 (w.heap.size + 2) 4 v3 from (b5.block _ K3.out.lt).trans K3.out)
    have J4 := Lib.hid (K4.out.below b5)
    have J5 := Lib.hid (below_trans_self K5.out b5)
    have JK := Lib.hid (Turns.keeps (O := fun _ => False) (O' := fun k => k < w.heap.size ∨ O k) (Turns.of_below b5) fun _ _ h => h)
    have hs5 := b5.size
    have c2 := J2.out.cell
    have c3 := J3.out.cell
    have f2 := J2.out.frozen
    have f3 := J3.out.frozen
    clear b5
    cases hP : P x.1 with
    | true =>
      gi_wp2_with fail
      have TX : Turns (fun k => k = w.heap.size + 1 ∨ k = w.heap.size + 2) w5 ((w5.setCell ⟨w.heap.size + 1, 0, none⟩ (.string x.2)).setCell ⟨w.heap.size + 2, 0, none⟩ (.bool true)) :=
        (Turns.setCell (O := fun k => k = w.heap.size + 1 ∨ k = w.heap.size + 2) (p := ⟨w.heap.size + 1, 0, none⟩) (.inl rfl) (.string x.2)).trans ((Turns.setCell (O := fun k => k = w.heap.size + 1 ∨ k = w.heap.size + 2) (p := ⟨w.heap.size + 2, 0, none⟩) (.inr rfl) (.bool true)).wider fun k hk => .inl hk)
      refine ⟨JK.out.trans (TX.keeps fun k hk h => ?_), rfl, x.2, (J2.out.set _).other (by omega) _, (J3.out.other (by omega) _).set _, first_hit (fun y hy h => ?_) KX.out hP, soon_hit KX.out hP, J5.out.trans (TX.below J5.out.size fun k h => by omega)⟩
      · rcases hk with hk | hk
        · omega
        · have := hO k hk; omega
      · have h2 := K6.out y hy
        have h3 : P y.1 = true := h
        rw [h2] at h3; cases h3
    | false =>
      gi_wp2_with fail
      refine ⟨JK.out, J1.out, ⟨_, J2.out⟩, ⟨_, J3.out⟩, J4.out, J5.out, fun y hy => ?_⟩
      rcases List.mem_append.1 hy with hy | hy
      · exact K6.out y hy
      · simp at hy; subst hy; exact hP
  case done =>
    rintro D O xs W rfl hO hxs ⟨h1, ⟨v2, h2⟩, ⟨v3, h3⟩, h4, h5, h6⟩ hOD hK
    have c2 := h2.cell
    have f2 := h2.frozen
    have c3 := h3.cell
    have f3 := h3.frozen
    have K2 := Lib.hid h2
    have K3 := Lib.hid h3
    have K5 := Lib.hid h5
    have K6 := Lib.hid h6
    have KX := Lib.hid hxs
    have HK := Lib.hid hK
    clear h1 h2 h3 h4 h5 h6 hK hxs
    gi_wp2_with fail
    have TX : Turns (fun k => k = w.heap.size + 1 ∨ k = w.heap.size + 2) W ((W.setCell ⟨w.heap.size + 1, 0, none⟩ (.string ⟨#[]⟩)).setCell ⟨w.heap.size + 2, 0, none⟩ (.bool false)) :=
      (Turns.setCell (O := fun k => k = w.heap.size + 1 ∨ k = w.heap.size + 2) (p := ⟨w.heap.size + 1, 0, none⟩) (.inl rfl) (.string ⟨#[]⟩)).trans ((Turns.setCell (O := fun k => k = w.heap.size + 1 ∨ k = w.heap.size + 2) (p := ⟨w.heap.size + 2, 0, none⟩) (.inr rfl) (.bool false)).wider fun k hk => .inl hk)
    obtain ⟨W6, hW6⟩ : ∃ W6, (W.setCell ⟨w.heap.size + 1, 0, none⟩ (.string ⟨#[]⟩)).setCell ⟨w.heap.size + 2, 0, none⟩ (.bool false) = W6 := ⟨_, rfl⟩
    have J2 : Boxed W6 (w.heap.size + 1) 9 (.string ⟨#[]⟩) := by rw [← hW6]; exact (K2.out.set _).other (by omega) _
    have J3 : Boxed W6 (w.heap.size + 2) 4 (.bool false) := by rw [← hW6]; exact (K3.out.other (by omega) _).set _
    rw [hW6] at TX ⊢
    have HK6 : W6.heap[w3.heap.size]? = some (.deferred (some [])) := (TX.block _ (Array.getElem?_eq_some_iff.1 HK.out).1 (by omega)).trans HK.out
    have L2 : Boxed (W6.putObj w3.heap.size (.deferred none)) (w.heap.size + 1) 9 (.string ⟨#[]⟩) := (World.putObj_heap_other (by omega)).trans J2
    have L3 : Boxed (W6.putObj w3.heap.size (.deferred none)) (w.heap.size + 2) 4 (.bool false) := (World.putObj_heap_other (by omega)).trans J3
    have d2 := L2.cell
    have d3 := L3.cell
    refine ⟨by simp, .inl ⟨_, _, rfl, run_takeDeferred HK6, ?_⟩⟩
    refine ⟨.tuple #[.string ⟨#[]⟩, .bool false], by simp [results, Try.results50, go_sem, d2, d3], ?_⟩
    exact ⟨_, _, rfl, first_none (fun y hy h => by have h2 := K6.out y hy; have h3 : P y.1 = true := h; rw [h2] at h3; cases h3) KX.out, soon_none _ _ _ _, below_put (K5.out.trans (TX.below K5.out.size fun k h => by omega)) (by omega) _⟩
  case stop =>
    rintro D c pre W rfl hpre ⟨rfl, s, h1, h2, h3, h4, h5⟩ hK
    have c2 := h1.cell
    have c3 := h2.cell
    have K2 := Lib.hid h1
    have K3 := Lib.hid h2
    have K5 := Lib.hid h5
    have KF := Lib.hid h3
    have KS := Lib.hid h4
    have HK := Lib.hid hK
    clear h1 h2 h3 h4 h5 hK hpre
    gi_wp2_with fail
    have L2 : Boxed (W.putObj w3.heap.size (.deferred none)) (w.heap.size + 1) 9 (.string s) := (World.putObj_heap_other (by omega)).trans K2.out
    have L3 : Boxed (W.putObj w3.heap.size (.deferred none)) (w.heap.size + 2) 4 (.bool true) := (World.putObj_heap_other (by omega)).trans K3.out
    have d2 := L2.cell
    have d3 := L3.cell
    refine ⟨by simp, .inl ⟨_, _, rfl, run_takeDeferred HK.out, ?_⟩⟩
    refine ⟨.tuple #[.string s, .bool true], by simp [results, Try.results50, go_sem, d2, d3], ?_⟩
    exact ⟨_, _, rfl, KF.out, KS.out, below_put K5.out (by omega) _⟩

end Go.Proofs.Yteodlcgmncchpaa
