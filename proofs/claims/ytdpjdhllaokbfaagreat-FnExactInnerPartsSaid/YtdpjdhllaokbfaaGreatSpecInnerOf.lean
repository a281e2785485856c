/-
  The model's InnerParts: what it returns.
-/
import Derived.Test.YtdpjdhllaokbfaaGreatSpecInner
namespace Go.Proofs.YtdpjdhllaokbfaaGreat
open Go.RowKit Go.Sort

theorem find_same {p q : PT → Bool} : ∀ l : List PT, (∀ r ∈ l, p r = q r) → l.find? p = l.find? q
  | [], _ => rfl
  | a :: l, h => by rw [List.find?_cons, List.find?_cons, h a List.mem_cons_self, find_same l fun r hr => h r (List.mem_cons_of_mem _ hr)]
theorem innerV_live {g : List Bl} {s : ByteArray} {i : Nat} (hl : liveOf g s = some i) : innerV g s = innA i (nestF g 26 (reachS g)) := by
  obtain ⟨hv, hp, _⟩ := liveOf_is hl
  obtain ⟨hi, hnm⟩ := posOf_is hp
  unfold innerV innerO innA nestG
  rw [if_pos hv]
  refine find_same _ fun r hr => ?_
  have hG := nest_good 26 (reachS g) (reach_ok hv) r hr
  have hD : ∀ x ∈ r.2.1, x < g.length := fun x hx => by rw [hG.doors] at hx; exact hG.lt x (doorsL_sub hx)
  unfold innerB
  rw [Bool.eq_iff_iff, Bool.and_eq_true, decide_eq_true_eq, decide_eq_true_eq, decide_eq_true_eq]
  constructor
  · rintro ⟨h1, h2⟩
    match hq : r.2.1, h1 with
    | [d], _ =>
      rw [hq] at h2 hD
      have hd := hD d List.mem_cons_self
      rw [List.headD_cons, nthName_at hd, ← hnm] at h2
      rw [name_inj hv hd hi h2]
  · intro h
    rw [h]
    exact ⟨rfl, by rw [List.headD_cons, nthName_at hi, hnm]⟩
theorem innerV_dead {g : List Bl} {s : ByteArray} (hl : liveOf g s = none) : innerV g s = none := by
  unfold innerV
  by_cases hv : validB g = true
  · rw [if_pos hv]
    unfold innerO nestG
    rw [List.find?_eq_none]
    intro r hr h
    have hG := nest_good 26 (reachS g) (reach_ok hv) r hr
    unfold innerB at h
    rw [Bool.and_eq_true, decide_eq_true_eq, decide_eq_true_eq] at h
    obtain ⟨h1, h2⟩ := h
    match hq : r.2.1, h1 with
    | [d], _ =>
      rw [hq, List.headD_cons] at h2
      have hd : d ∈ r.1 := by
        have : d ∈ r.2.1 := by rw [hq]; exact List.mem_cons_self
        rw [hG.doors] at this
        exact doorsL_sub this
      have hdr := nest_within 26 (reachS g) (reach_ok hv) r hr d hd
      rw [← named_liveP hv] at hl
      unfold named at hl
      rw [List.find?_eq_none] at hl
      exact hl d hdr (by simp [h2])
  · rw [if_neg hv]
theorem innerNs_len (g : List Bl) (s : ByteArray) : (innerNs g (innerV g s)).length ≤ 1000 := by
  cases h : innerV g s with
  | none => exact Nat.zero_le _
  | some r =>
    have hv : validB g = true := by
      cases hv : validB g with
      | true => rfl
      | false => unfold innerV at h; rw [hv] at h; cases h
    unfold innerV innerO at h
    rw [if_pos hv] at h
    have hm := List.mem_of_find?_eq_some h
    have h1 := (mem_wt 60 (nestG g) (by have := nestG_wt hv; omega) r hm).1
    have h2 := outerP_len r.2.2
    have h3 := wtL_length r.2.2
    unfold innerNs partNs
    rw [List.length_map]; omega

set_option maxRecDepth 100000 in
theorem specInner_any (A : Option Addr) (cap : Nat) (g : List Bl) (s : ByteArray) (w : World) (hg : Gr w A g) (hn : g.length + tot g ≤ 1048576) (hcap : g.length ≤ cap) :
    Calls Tryz.prog 24 #[.slice A g.length cap, .string s] w fun e w' => ∃ v, e = .returned (.tuple #[v, .bool (innerV g s).isSome]) ∧ OwnStr w' w.heap.size v (innerNs g (innerV g s)) ∧ Below w.heap.size w w' := by
  have HL := Lib.hid (l3Live_any A cap g s w hg hn hcap)
  have HG := Lib.hid hg
  clear hg
  cases hl : liveOf g s with
  | none =>
    rw [hl] at HL
    have HL2 : Hid (Calls Tryz.prog 44 #[.slice A g.length cap, .string s] w fun e w' => e = .returned (.int .i64 (-1)) ∧ Below w.heap.size w w') := HL
    have HE := Lib.hid (innerV_dead hl)
    clear hl HL
    go_enter Tryz.func24, Tryz.ntmps24
    go_wp2_with fail
    refine HL2.out.mono ?_
    rintro e w1 ⟨rfl, b1⟩
    have HB1 := Lib.hid b1
    have HOW := Lib.hid (World.ownsRow_made (base := w.heap.size) (e := 9) (size := 1) w1 #[] 0 b1.size (Nat.zero_le _) rfl)
    clear b1
    go_wp2_with fail
    go_ret2
    exact ⟨_, by rw [HE.out]; rfl, by rw [HE.out]; exact HOW.out, HB1.out.alloc HB1.out.size _⟩
  | some i =>
    obtain ⟨hv, hp, _⟩ := liveOf_is hl
    obtain ⟨hi, hnm⟩ := posOf_is hp
    have hnm2 : s = nthName g i := by rw [nthName_at hi, hnm]
    rw [hl] at HL
    have HL2 : Hid (Calls Tryz.prog 44 #[.slice A g.length cap, .string s] w fun e w' => e = .returned (.int .i64 (i : Int)) ∧ Below w.heap.size w w') := HL
    have HE := Lib.hid (innerV_live hl)
    have hil : ¬ ((i : Int) < 0) := by omega
    obtain ⟨rs, hrs⟩ : ∃ rs, rs = namesAt g (reachS g) := ⟨_, rfl⟩
    have HR1 := Lib.hid (fun w (h : Gr w A g) => (l1Reached_any A cap g w h hn hv).mono fun e w' h => show e = .returned (.string rs) ∧ Below w.heap.size w w' from hrs ▸ h)
    have HF := Lib.hid (fun w (h : Gr w A g) => l10Find_any A cap g i s hn hv hi hnm2 26 (reachS g) [] rs ⟨#[]⟩ w h (reachS_up g) (fun _ h => h) (fun x hx => by cases hx) (by rw [cutL_nil]; exact reachS_len hv) (by simp) hrs rfl)
    rw [cutL_nil] at HF
    obtain ⟨o, ho⟩ : ∃ o, o = innA i (nestF g 26 (reachS g)) := ⟨_, rfl⟩
    rw [← ho] at HF HE
    have HV := Lib.hid hv
    have HI := Lib.hid hi
    have HNM := Lib.hid hnm2
    clear hl HL hv hp hi hnm hnm2 hrs ho
    go_enter Tryz.func24, Tryz.ntmps24
    go_wp2_with fail
    refine HL2.out.mono ?_
    rintro e w1 ⟨rfl, b1⟩
    have HB1 := Lib.hid b1
    clear b1
    go_wp2_with fail
    refine (HR1.out w1 (HG.out.below HB1.out)).mono ?_
    rintro e w2 ⟨rfl, b2⟩
    have HB2 := Lib.hid (HB1.out.trans (b2.mono HB1.out.size))
    clear b2
    go_wp2_with fail
    refine (HF.out w2 (HG.out.below HB2.out)).mono ?_
    rintro e w3 ⟨hpo, b3⟩
    have HB3 := Lib.hid (HB2.out.trans (b3.mono HB2.out.size))
    clear b3
    cases o with
    | none =>
      have he : e = .returned (.tuple #[.string ⟨#[]⟩, .string ⟨#[]⟩]) := hpo
      subst he
      clear hpo
      have HOW := Lib.hid (World.ownsRow_made (base := w.heap.size) (e := 9) (size := 1) w3 #[] 0 HB3.out.size (Nat.zero_le _) rfl)
      go_wp2_with fail
      go_ret2
      exact ⟨_, by rw [HE.out]; rfl, by rw [HE.out]; exact HOW.out, HB3.out.alloc HB3.out.size _⟩
    | some q =>
      obtain ⟨C', m', he, h2, h3, h4, h5, h6, h7, h8⟩ := hpo
      subst he
      have hql : ∀ x ∈ q.1, x < g.length := fun x hx => reach_ok HV.out _ (h6 x hx)
      obtain ⟨pt, hpt⟩ : ∃ pt, pt = namesAt g q.1 := ⟨_, rfl⟩
      obtain ⟨ct, hct⟩ : ∃ ct, ct = namesAt g C' := ⟨_, rfl⟩
      have q0 : pt.toList.isEmpty = false := emp_no (by rw [hpt, namesAt_size HV.out _ hql]; omega)
      have hs1 : s.size = 1 := by rw [HNM.out]; exact nth_size HV.out HI.out
      have hcs : ct.size ≤ 900 := by rw [hct, namesAt_size HV.out _ h5]; exact h4
      have z1 : ct.size + s.size ≤ 1048576 := by omega
      have HP := Lib.hid (fun w (h : Gr w A g) => l10Parts_any A cap g q.1 (C' ++ [i]) pt (ct ++ s) w h hn HV.out h7 hql
        (fun x hx => by rcases List.mem_append.1 hx with h | h; exact h5 x h; rw [List.mem_singleton.1 h]; exact HI.out) (by rw [List.length_append, List.length_singleton]; omega) hpt (by rw [namesAt_append, namesAt_one, ← hct, ← HNM.out]))
      rw [parts_eq hql h3, ← h2, List.map_map] at HP
      have HNS := Lib.hid (show innerNs g (some q) = (outerP q.2.2).map ((fun x => namesAt g x) ∘ fun x => x.1) from rfl)
      rw [← hpt, ← hct]
      clear h2 h3 h4 h5 h6 h7 h8 hql hpt hct
      go_wp2_with fail
      refine (HP.out w3 (HG.out.below HB3.out)).mono ?_
      rintro e w4 ⟨v, rfl, hown, b4⟩
      have HB4 := Lib.hid (HB3.out.trans (b4.mono HB3.out.size))
      have HO := Lib.hid (World.ownsRow.mono hown HB3.out.size)
      clear b4 hown
      go_wp2_with fail
      go_ret2
      exact ⟨v, by rw [HE.out]; rfl, by rw [HE.out, HNS.out]; exact HO.out, HB4.out⟩
end Go.Proofs.YtdpjdhllaokbfaaGreat
