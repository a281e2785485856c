/-
  The program's reader: a bracket, a frame, brackets; each leans on the contract of items for what is shorter.
-/
import Derived.Test.YtelhogeaobofpaaTrees
namespace Go.Proofs.Ytelhogeaobofpaa
open Go.RowKit Go.Sort

/-- Blocks that a call has made. -/
abbrev NewIn (w : World) : Nat → Prop := fun b => w.heap.size ≤ b

def ItemsPost (R f : Nat) (s : List UInt8) (w : World) (e : Ending) (w' : World) : Prop :=
  (∃ l r v, RdL f s l r ∧ e = .returned v ∧ v.oneCell' = true ∧ RowAt w' (NewIn w) l v ∧ Rdr w' R r f ∧ Only R w w') ∨ (Mis e ∧ NoL f s ∧ Only R w w')
def ItemPost (R f : Nat) (s : List UInt8) (w : World) (e : Ending) (w' : World) : Prop :=
  (∃ i r v, RdI f s i r ∧ e = .returned v ∧ v.oneCell' = true ∧ ItemAt w' (NewIn w) i v ∧ Rdr w' R r f ∧ Only R w w') ∨ (Mis e ∧ NoI f s ∧ Only R w w')
def BrPost (R f : Nat) (s : List UInt8) (w : World) (e : Ending) (w' : World) : Prop :=
  (∃ l r v, RdB f s l r ∧ e = .returned v ∧ v.oneCell' = true ∧ RowAt w' (NewIn w) l v ∧ Rdr w' R r f ∧ Only R w w') ∨ (Mis e ∧ NoB f s ∧ Only R w w')

/-- The contract of items, for texts of so many bytes at most. -/
def ItemsOk (n : Nat) : Prop := ∀ (R f : Nat) (s : List UInt8) (w : World), s.length ≤ n → f ≤ 9 → Rdr w R s f →
  Calls Try.prog 68 #[.pointer (some ⟨R, 0, none⟩)] w (ItemsPost R f s w)

theorem Rdr.lt {w : World} {R : Nat} {s : List UInt8} {f : Nat} (h : Rdr w R s f) : R < w.heap.size := Blk.lt h
/-- What a call has made stays, whatever of the reader turns. -/
theorem stay_set {w w1 : World} {R : Nat} (hR : R < w.heap.size) (i : Nat) (u : Value) : Stay w1 (NewIn w) (w1.setCell ⟨R, i, none⟩ u) (NewIn w) :=
  ⟨by simp, fun b hb hp => ⟨hp, Below.heap_setCell w1 ⟨R, i, none⟩ u b (by show b ≠ R; have : w.heap.size ≤ b := hp; omega)⟩⟩
theorem newIn_set {w : World} (R i : Nat) (u : Value) : NewIn (w.setCell ⟨R, i, none⟩ u) = NewIn w := by
  funext b; unfold NewIn; simp

set_option maxRecDepth 100000 in
theorem bracket_any (n : Nat) (HI : ItemsOk n) (R f : Nat) (s : List UInt8) (w : World) (hs : s.length ≤ n + 1) (hf : f ≤ 9) (h : Rdr w R s f) :
    Calls Try.prog 89 #[.pointer (some ⟨R, 0, none⟩)] w (BrPost R f s w) := by
  have HIX := Lib.hid HI
  clear HI
  by_cases hb : ∃ t, s = 91 :: t
  · obtain ⟨t, rfl⟩ := hb
    have HN := Lib.hid (need_yes R f 91 t w h)
    have HT := Lib.hid (HIX.out R f t _ (by simpa using hs) hf (h.to t))
    have hR := h.lt
    clear h
    go_enter Try.func89, Try.ntmps89
    go_wp2_with fail
    refine HN.out.mono ?_
    rintro e w1 ⟨rfl, rfl⟩
    go_wp2_with fail
    refine HT.out.mono ?_
    rintro e w2 (⟨l, r, v, hl, rfl, h1c, hrow, hr, ho⟩ | ⟨⟨u, rfl⟩, hno, ho⟩)
    · have HL := Lib.hid hl
      have HROW := Lib.hid hrow
      have HO := Lib.hid ho
      have H1 := Lib.hid h1c
      by_cases hr93 : ∃ q, r = 93 :: q
      · obtain ⟨q, rfl⟩ := hr93
        have HN2 := Lib.hid (need_yes R f 93 q w2 hr)
        have HR2 := Lib.hid (hr.to q)
        clear hl hrow ho hr h1c
        go_wp2_with fail
        refine HN2.out.mono ?_
        rintro e w3 ⟨rfl, rfl⟩
        go_wp2_with fail
        go_ret
        refine .inl ⟨l, q, v, rdB_of HL.out, rfl, H1.out, ?_, HR2.out, ((Only.set R w 0 _).trans HO.out).trans (Only.set R w2 0 _)⟩
        have := HROW.out
        rw [newIn_set] at this
        exact this.stay (stay_set hR 0 _)
      · have HN2 := Lib.hid (need_no R f 93 r w2 hr fun q e => hr93 ⟨q, e⟩)
        have HNO := Lib.hid (noB_end hl fun q e => hr93 ⟨q, e⟩)
        clear hl hrow ho hr h1c hr93
        go_wp2_with fail
        refine HN2.out.mono ?_
        rintro e w3 ⟨⟨u, rfl⟩, ho3⟩
        go_wp2_with fail
        exact ⟨rfl, .inr ⟨⟨_, rfl⟩, HNO.out, ((Only.set R w 0 _).trans HO.out).trans ho3⟩⟩
    · go_wp2_with fail
      exact ⟨rfl, .inr ⟨⟨_, rfl⟩, noB_items hno, (Only.set R w 0 _).trans ho⟩⟩
  · have HN := Lib.hid (need_no R f 91 s w h fun t e => hb ⟨t, e⟩)
    have HNO := Lib.hid (noB_hd (f := f) fun t e => hb ⟨t, e⟩)
    clear h hb
    go_enter Try.func89, Try.ntmps89
    go_wp2_with fail
    refine HN.out.mono ?_
    rintro e w1 ⟨⟨u, rfl⟩, ho⟩
    go_wp2_with fail
    exact ⟨rfl, .inr ⟨⟨_, rfl⟩, HNO.out, ho⟩⟩

def FrPost (R f : Nat) (b : Bool) (s : List UInt8) (w : World) (e : Ending) (w' : World) : Prop :=
  (∃ l r v, f < 9 ∧ RdL (f + 1) s l (cls b :: r) ∧ e = .returned v ∧ v.oneCell' = true ∧ RowAt w' (NewIn w) l v ∧ Rdr w' R r f ∧ Only R w w') ∨ (Mis e ∧ NoI f (opn b :: s) ∧ Only R w w')

set_option maxRecDepth 100000 in
theorem frame_any (n : Nat) (HI : ItemsOk n) (R f : Nat) (b : Bool) (s : List UInt8) (w : World) (hs : s.length ≤ n) (hf : f ≤ 9) (h : Rdr w R s f) :
    Calls Try.prog 90 #[.pointer (some ⟨R, 0, none⟩), .string (tb [cls b])] w (FrPost R f b s w) := by
  have c1 := h.frames
  have f1 : w.frozen? ⟨R, 1, none⟩ = false := Blk.frozen h 1
  by_cases h9 : f = 9
  · have t1 : ((f : Int) == 9) = true := by subst h9; rfl
    have HNO := Lib.hid (noI_frame_full b (t := s) (by omega : 9 ≤ f))
    clear HI h h9
    go_enter Try.func90, Try.ntmps90
    go_wp2_with fail
    exact ⟨rfl, .inr ⟨⟨_, rfl⟩, HNO.out, Only.refl _ _⟩⟩
  · have t1 : ((f : Int) == 9) = false := beq_eq_false_iff_ne.2 (by omega)
    have hi := h.in_ (f + 1)
    have e1 : ((f + 1 : Nat) : Int) = (f : Int) + 1 := by omega
    rw [e1] at hi
    have HT := Lib.hid (HI R (f + 1) s _ hs (by omega) hi)
    have hR := h.lt
    have s2 : IntKind.i64.wrap ((f : Int) + 1 - 1) = (f : Int) := by rw [show (f : Int) + 1 - 1 = (f : Int) by omega]; exact IntWalk.i64_in _ (by omega)
    clear HI h hi
    go_enter Try.func90, Try.ntmps90
    go_wp2_with fail
    refine HT.out.mono ?_
    rintro e w2 (⟨l, r, v, hl, rfl, h1c, hrow, hr, ho⟩ | ⟨⟨u, rfl⟩, hno, ho⟩)
    · have d1 := hr.frames
      have g1 : w2.frozen? ⟨R, 1, none⟩ = false := Blk.frozen hr 1
      have hr2 := hr.in_ f
      have HL := Lib.hid hl
      have HROW := Lib.hid hrow
      have HO := Lib.hid ho
      have H1 := Lib.hid h1c
      rw [e1] at d1
      by_cases hrc : ∃ q, r = cls b :: q
      · obtain ⟨q, rfl⟩ := hrc
        have HN2 := Lib.hid (need_yes R f (cls b) q _ hr2)
        have HR2 := Lib.hid (hr2.to q)
        clear hl hrow ho hr hr2 h1c
        go_wp2_with fail
        refine HN2.out.mono ?_
        rintro e w3 ⟨rfl, rfl⟩
        go_wp2_with fail
        go_ret
        refine .inl ⟨l, q, v, by omega, HL.out, rfl, H1.out, ?_, HR2.out, (((Only.set R w 1 _).trans HO.out).trans (Only.set R w2 1 _)).trans (Only.set R _ 0 _)⟩
        have := HROW.out
        rw [newIn_set] at this
        exact (this.stay (stay_set hR 1 _)).stay (stay_set hR 0 _)
      · have HN2 := Lib.hid (need_no R f (cls b) r _ hr2 fun q e => hrc ⟨q, e⟩)
        have HNO := Lib.hid (noI_frame_end b hl fun q e => hrc ⟨q, e⟩)
        clear hl hrow ho hr hr2 h1c hrc
        go_wp2_with fail
        refine HN2.out.mono ?_
        rintro e w3 ⟨⟨u, rfl⟩, ho3⟩
        go_wp2_with fail
        exact ⟨rfl, .inr ⟨⟨_, rfl⟩, HNO.out, (((Only.set R w 1 _).trans HO.out).trans (Only.set R w2 1 _)).trans ho3⟩⟩
    · go_wp2_with fail
      exact ⟨rfl, .inr ⟨⟨_, rfl⟩, noI_frame b hno, (Only.set R w 1 _).trans ho⟩⟩
end Go.Proofs.Ytelhogeaobofpaa
