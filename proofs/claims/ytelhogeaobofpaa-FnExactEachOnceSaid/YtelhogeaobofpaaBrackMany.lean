/-
  The program's reader: brackets behind a choice by the number.
-/
import Derived.Test.YtelhogeaobofpaaItems
namespace Go.Proofs.Ytelhogeaobofpaa
open Go.RowKit Go.Sort

def BrsPost (R f : Nat) (s : List UInt8) (w : World) (e : Ending) (w' : World) : Prop :=
  (∃ bs r v, SoB f s bs r ∧ 0 < bs.length ∧ bs.length ≤ 10 ∧ (NoBr r ∨ bs.length = 10) ∧ e = .returned v ∧ v.oneCell' = true ∧ RowsAt w' (NewIn w) bs v ∧ Rdr w' R r f ∧ Only R w w') ∨ (Mis e ∧ NoI f (35 :: s) ∧ Only R w w')

theorem info_items : (Try.prog.info? 47).map (fun i => (i.zero, i.size, i.bytes)) = some (some (.slice none 0 0), 1, 24) := by kernel_rfl

/-- Does a bracket begin here? -/
def isBr : List UInt8 → Bool
  | [] => false
  | c :: _ => decide (c = 91)
theorem isBr_yes {t : List UInt8} (h : isBr t = true) : ∃ u, t = 91 :: u := by
  cases t with
  | nil => cases h
  | cons c u => have : c = 91 := of_decide_eq_true h; exact ⟨u, by rw [this]⟩
theorem isBr_no {t : List UInt8} (h : isBr t = false) : NoBr t := by
  intro u e
  rw [e] at h
  have h2 : isBr (91 :: u) = true := rfl
  rw [h2] at h; cases h
theorem prefix_any (t : List UInt8) (W : World) : Calls Try.prog 101 #[.string (tb t), .string ⟨#[91]⟩] W fun e w' => e = .returned (.bool (isBr t)) ∧ w' = W := by
  have := Try.strings_HasPrefix (tb t) ⟨#[91]⟩ W
  rw [tb_data, show Lib.hasPrefix t (⟨#[91]⟩ : ByteArray).data.toList = isBr t from by
    cases t with
    | nil => rfl
    | cons c u =>
      by_cases h : c = 91
      · subst h; simp [Lib.hasPrefix, isBr]
      · have h' : ¬ (91 : UInt8) = c := fun e => h e.symm
        show ((91 : UInt8) == c && List.isPrefixOf [] u) = decide (c = 91)
        rw [decide_eq_false h, beq_eq_false_iff_ne.2 h']; rfl] at this
  exact this

set_option maxRecDepth 100000 in
set_option maxHeartbeats 3200000 in
theorem brackets_any (n : Nat) (HI : ItemsOk n) (R f : Nat) (s : List UInt8) (w : World) (hs : s.length ≤ n + 1) (hf : f ≤ 9) (h : Rdr w R s f) :
    Calls Try.prog 92 #[.pointer (some ⟨R, 0, none⟩)] w (BrsPost R f s w) := by
  obtain ⟨i0, hi, hz0, hz1, hz2⟩ := info_parts info_items
  have HBR := Lib.hid (fun s' W (hs' : s'.length ≤ n + 1) (k : Rdr W R s' f) => bracket_any n HI R f s' W hs' hf k)
  have hR := h.lt
  have H0 := Lib.hid (HBR.out s w hs h)
  clear HI h
  go_enter Try.func92, Try.ntmps92
  go_wp2_with fail
  refine H0.out.mono ?_
  rintro e w1 (⟨l0, r0, v0, hrd, rfl, h1c, hrow, hr0, ho0⟩ | ⟨⟨q, rfl⟩, hno, ho0⟩)
  · obtain ⟨xs0, ⟨A0, k0, rfl, _⟩, _⟩ := id hrow
    have HOW1 : Hid ((w1.alloc (.cells #[.slice A0 xs0.length k0] 47)).ownsRow w.heap.size 47 1 (.slice (some ⟨w1.heap.size, 0, none⟩) 1 1) [Value.slice A0 xs0.length k0].length [Value.slice A0 xs0.length k0]) := World.ownsRow_lit w1 #[.slice A0 xs0.length k0] 1 ho0.size (by decide) rfl
    have HAT1 : Hid (AllRows (w1.alloc (.cells #[.slice A0 xs0.length k0] 47)) (NewBut w.heap.size (.slice (some ⟨w1.heap.size, 0, none⟩) 1 1)) [l0] [Value.slice A0 xs0.length k0]) := by
      have := AllRows.snoc (hrow.stay (⟨by simp, fun b hb hp => ⟨⟨hp, fun e => by have h9 : b = w1.heap.size := Option.some.inj e; omega⟩, Below.heap_alloc w1 _ b hb⟩⟩ : Stay w1 (NewIn w) (w1.alloc (.cells #[.slice A0 xs0.length k0] 47)) (NewBut w.heap.size (.slice (some ⟨w1.heap.size, 0, none⟩) 1 1)))) (AllRows.nil _ _)
      exact this
    have HR1 := Lib.hid (hr0.alloc (.cells #[.slice A0 xs0.length k0] 47))
    have HO1 := Lib.hid (ho0.alloc (.cells #[.slice A0 xs0.length k0] 47))
    have HS1 := Lib.hid (soB_next (soB_start f s) hrd)
    have hsh0 := hrd.shorter
    clear hrd h1c hrow hr0 ho0 H0
    go_wp2_with fail
    go_loopw [3] (fun pv wr => ∃ (bs : List (List It)) (t : List UInt8) (vs : List Value) (q : Value), q = pv ∧ t.length ≤ n ∧ 0 < bs.length ∧ bs.length ≤ 10 ∧ vs.length = bs.length ∧ Hid (SoB f s bs t) ∧ Hid (wr.ownsRow w.heap.size 47 1 pv vs.length vs) ∧ Hid (AllRows wr (NewBut w.heap.size pv) bs vs) ∧ Hid (Rdr wr R t f) ∧ Hid (Only R w wr)) (fun _ wr => leftOf wr R)
    case atStart => exact ⟨[l0], r0, [.slice A0 xs0.length k0], _, rfl, by omega, by simp, by simp, rfl, HS1.out, HOW1.out, HAT1.out, HR1.out, HO1.out⟩
    case round =>
      obtain ⟨bs, t, vs, pv, rfl, htl, hb0, hb10, hvl, HS, HOW, HAT, HR, HO⟩ := hrel
      obtain ⟨A, cap, rfl, _⟩ := own_reads HOW.out rfl
      have c0 := HR.out.left
      have HVL := Lib.hid hvl
      by_cases hfull : bs.length = 10
      · have HFULL := Lib.hid hfull
        have q1 : decide ((vs.length : Int) < 10) = false := decide_eq_false (by omega)
        have q2 : ¬ vs.length < 10 := by omega
        clear hvl hfull
        go_wp2_with fail
        go_ret
        refine .inl ⟨bs, t, _, HS.out, hb0, hb10, .inr HFULL.out, rfl, rfl, ⟨vs, ?_, ?_⟩, HR.out, HO.out⟩
        · exact own_reads HOW.out rfl
        · exact AllRows.stay ⟨Nat.le_refl _, fun b _ hp => ⟨hp.1, rfl⟩⟩ bs vs HAT.out
      · have q1 : decide ((vs.length : Int) < 10) = true := decide_eq_true (by omega)
        have q2 : vs.length < 10 := by omega
        have q3 : bs.length < 10 := by omega
        clear hvl
        have HC := Lib.hid (fun W => prefix_any t W)
        cases hp : isBr t with
        | true =>
          rw [hp] at HC
          obtain ⟨u, rfl⟩ := isBr_yes hp
          clear hp
          have HIT := Lib.hid (HBR.out (91 :: u) wr (by omega) HR.out)
          go_wp2_with fail
          refine (HC.out _).mono ?_
          rintro e w2 ⟨rfl, rfl⟩
          go_wp2_with fail
          refine HIT.out.mono ?_
          rintro e w3 (⟨l, r, v, hrd, rfl, h1c, hrow, hr3, ho3⟩ | ⟨⟨q, rfl⟩, hno, ho3⟩)
          · obtain ⟨xs3, ⟨A3, k3, rfl, _⟩, _⟩ := id hrow
            have HOW3 := Lib.hid (own_only HOW.out ho3 hR)
            have HRD := Lib.hid hrd
            have hsz3 := ho3.size
            have hown := HOW.out.lt
            have HROW3 : Hid (RowAt w3 (NewBut w.heap.size (.slice A vs.length cap)) l (.slice A3 xs3.length k3)) := hrow.stay ⟨Nat.le_refl _, fun b _ hp => ⟨⟨Nat.le_trans HO.out.size hp, fun e => by have := (hown b e.symm).2; have hp' : w2.heap.size ≤ b := hp; omega⟩, rfl⟩⟩
            have HAT3 : Hid (AllRows w3 (NewBut w.heap.size (.slice A vs.length cap)) bs vs) := AllRows.stay ⟨hsz3, fun b hb hp => ⟨hp, ho3.block b (by have := hp.1; omega) hb⟩⟩ bs vs HAT.out
            have HR3 := Lib.hid hr3
            have HO3 := Lib.hid (HO.out.trans ho3)
            have hbs := HO.out.size
            have HNEW := Lib.hid (cell_one w3 (.slice A3 xs3.length k3) 47)
            have HC2 := Lib.hid (show ∀ u ∈ [Value.slice A3 xs3.length k3], u.oneCell' = true from fun u hu => by rw [List.mem_singleton.1 hu]; exact h1c)
            clear hrd hrow hr3 ho3 h1c c0
            go_wp2_with (at_builtin; refine wpList_append_own_at _ rfl _ _ 96 rfl w.heap.size 47 i0 (.slice none 0 0) 1 24 Try.underlying96 hi hz0 hz1 hz2 rfl (by decide) _ _ _ rfl (HOW3.out.alloc _) ⟨w3.heap.size, 0, none⟩ 1 1 [.slice A3 xs3.length k3] rfl rfl HNEW.out HC2.out ?c3 ?c4 ?c5 ?_)
            case c3 => unfold maxLen; omega
            case c4 => omega
            case c5 => simp; omega
            intro v' w5 hown' hgrow _ hat
            have hown2 := HOW3.out.lt
            have hG : w3.grownBy w5 (Value.slice A vs.length cap).ownBlock := (World.grownBy_alloc w3 _ _).trans hgrow
            have HST : Stay w3 (NewBut w.heap.size (.slice A vs.length cap)) w5 (NewBut w.heap.size v') := ⟨hG.size, fun b hb hp => ⟨⟨hp.1, by
              rcases hat with q | q
              · rw [q]; exact hp.2
              · rw [q]; intro e; have := Option.some.inj e; first | omega | (rw [World.size_alloc] at this; omega) | (simp at this; omega)⟩, hG.block b hb hp.2⟩⟩
            have HAT5 := Lib.hid (AllRows.stay HST _ _ (HAT3.out.snoc HROW3.out))
            have HR5 := Lib.hid (HR3.out.grown hG (fun e => by have := (hown2 R e.symm).1; omega))
            have HO5 := Lib.hid (HO3.out.grown hG fun k e => (hown2 k e).1)
            have HOW5 : Hid (w5.ownsRow w.heap.size 47 1 v' (vs ++ [Value.slice A3 xs3.length k3]).length (vs ++ [Value.slice A3 xs3.length k3])) := by
              show w5.ownsRow _ _ _ _ _ _
              rw [List.length_append, List.length_singleton]; exact hown'
            have HS5 := Lib.hid (soB_next HS.out HRD.out)
            have hsh := HRD.out.shorter
            have hl5 : r.length ≤ n := by omega
            have hb5 : (bs ++ [l]).length ≤ 10 := by simp; omega
            have hb6 : 0 < (bs ++ [l]).length := by simp
            have hv5 : (vs ++ [Value.slice A3 xs3.length k3]).length = (bs ++ [l]).length := by have := HVL.out; simp; omega
            clear hown2 hG HST hgrow hat hown'
            go_wp2_with fail
            go_roundw
            case rel => exact ⟨bs ++ [l], r, vs ++ [Value.slice A3 xs3.length k3], v', rfl, hl5, hb6, hb5, hv5, HS5.out, HOW5.out, HAT5.out, HR5.out, HO5.out⟩
            case measure =>
              show leftOf _ R < leftOf _ R
              rw [HR5.out.leftOf, HR.out.leftOf]; exact hsh
          · go_wp2_with fail
            exact ⟨rfl, .inr ⟨⟨_, rfl⟩, noI_pick HS.out hno, HO.out.trans ho3⟩⟩
        | false =>
          rw [hp] at HC
          have HNB := Lib.hid (isBr_no hp)
          clear hp
          go_wp2_with fail
          refine (HC.out _).mono ?_
          rintro e w2 ⟨rfl, rfl⟩
          go_wp2_with fail
          go_ret
          refine .inl ⟨bs, t, _, HS.out, hb0, hb10, .inl HNB.out, rfl, rfl, ⟨vs, ?_, ?_⟩, HR.out, HO.out⟩
          · exact own_reads HOW.out rfl
          · exact AllRows.stay ⟨Nat.le_refl _, fun b _ hp => ⟨hp.1, rfl⟩⟩ bs vs HAT.out
  · go_wp2_with fail
    exact ⟨rfl, .inr ⟨⟨_, rfl⟩, noI_pick0 hno, ho0⟩⟩
end Go.Proofs.Ytelhogeaobofpaa
