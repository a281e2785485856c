/-
  The program's reader: one item; and by that, all items.
-/
import Derived.Test.YtelhogeaobofpaaBrackMany
namespace Go.Proofs.Ytelhogeaobofpaa
open Go.RowKit Go.Sort

theorem tb_is {c x : UInt8} (h : c ≠ x) : ((tb [c]).toList == [x]) = false := by rw [tb_toList]; simpa using h
theorem rowAt_form {w : World} {P : Nat → Prop} {l : List It} {v : Value} (h : RowAt w P l v) : ∃ A k xs, v = .slice A xs k ∧ RowAt w P l (.slice A xs k) := by
  obtain ⟨xs, ⟨A, k, e, h1⟩, h2⟩ := h
  exact ⟨A, k, xs.length, e, xs, ⟨A, k, rfl, h1⟩, h2⟩
theorem rowsAt_form {w : World} {P : Nat → Prop} {l : List (List It)} {v : Value} (h : RowsAt w P l v) : ∃ A k xs, v = .slice A xs k ∧ RowsAt w P l (.slice A xs k) := by
  obtain ⟨xs, ⟨A, k, e, h1⟩, h2⟩ := h
  exact ⟨A, k, xs.length, e, xs, ⟨A, k, rfl, h1⟩, h2⟩
/-- What a call has made stays, whatever a later one makes. -/
theorem stay_only {w w1 w2 : World} {R : Nat} (hR : R < w.heap.size) (ho : Only R w1 w2) : Stay w1 (NewIn w) w2 (NewIn w) :=
  ⟨ho.size, fun b hb hp => ⟨hp, ho.block b (by have hp' : w.heap.size ≤ b := hp; omega) hb⟩⟩
/-- What a later call has made, a call has made. -/
theorem stay_less {w w1 w2 : World} (h : w.heap.size ≤ w1.heap.size) : Stay w2 (NewIn w1) w2 (NewIn w) := ⟨Nat.le_refl _, fun _ _ hp => ⟨Nat.le_trans h hp, rfl⟩⟩

set_option maxRecDepth 100000 in
set_option maxHeartbeats 1600000 in
theorem item_stop (R f : Nat) (t : List UInt8) (w : World) (h : Rdr w R (46 :: t) f) :
    Calls Try.prog 77 #[.pointer (some ⟨R, 0, none⟩)] w (ItemPost R f (46 :: t) w) := by
  have HN := Lib.hid (next_one R f 46 t w h)
  have HT := Lib.hid (h.to t)
  clear h
  have k63 : ((tb [46]).toList == [63]) = false := by rw [tb_toList]; decide
  have k46 : ((tb [46]).toList == [46]) = true := by rw [tb_toList]; decide
  have k40 : ((tb [46]).toList == [40]) = false := by rw [tb_toList]; decide
  have k123 : ((tb [46]).toList == [123]) = false := by rw [tb_toList]; decide
  have k94 : ((tb [46]).toList == [94]) = false := by rw [tb_toList]; decide
  have k61 : ((tb [46]).toList == [61]) = false := by rw [tb_toList]; decide
  have k35 : ((tb [46]).toList == [35]) = false := by rw [tb_toList]; decide
  go_enter Try.func77, Try.ntmps77
  go_wp2_with fail
  refine HN.out.mono ?_
  rintro e w1 ⟨rfl, rfl⟩
  go_wp2_with fail
  go_ret
  exact .inl ⟨.stop, t, _, ⟨by rw [OkI]; trivial, .inr trivial, by rw [txI]; rfl⟩, rfl, rfl, by rw [ItemAt] <;> rfl, HT.out, Only.set R w 0 _⟩

set_option maxRecDepth 100000 in
set_option maxHeartbeats 1600000 in
theorem item_frame_false (n : Nat) (HI : ItemsOk n) (R f : Nat) (t : List UInt8) (w : World) (hs : t.length ≤ n) (hf : f ≤ 9) (h : Rdr w R (40 :: t) f) :
    Calls Try.prog 77 #[.pointer (some ⟨R, 0, none⟩)] w (ItemPost R f (40 :: t) w) := by
  have HN := Lib.hid (next_one R f 40 t w h)
  have HF := Lib.hid (frame_any n HI R f false t _ hs hf (h.to t))
  have hR := h.lt
  clear h HI
  have k63 : ((tb [40]).toList == [63]) = false := by rw [tb_toList]; decide
  have k46 : ((tb [40]).toList == [46]) = false := by rw [tb_toList]; decide
  have k40 : ((tb [40]).toList == [40]) = true := by rw [tb_toList]; decide
  have k123 : ((tb [40]).toList == [123]) = false := by rw [tb_toList]; decide
  have k94 : ((tb [40]).toList == [94]) = false := by rw [tb_toList]; decide
  have k61 : ((tb [40]).toList == [61]) = false := by rw [tb_toList]; decide
  have k35 : ((tb [40]).toList == [35]) = false := by rw [tb_toList]; decide
  go_enter Try.func77, Try.ntmps77
  go_wp2_with fail
  refine HN.out.mono ?_
  rintro e w1 ⟨rfl, rfl⟩
  go_wp2_with fail
  refine HF.out.mono ?_
  rintro e w2 (⟨l, r, v, hf9, hl, rfl, h1c, hrow, hr, ho⟩ | ⟨⟨u, rfl⟩, hno, ho⟩)
  · obtain ⟨A, k, m, rfl, hrow⟩ := rowAt_form hrow
    have HROW := Lib.hid hrow
    have HL := Lib.hid hl
    have HR := Lib.hid hr
    have HO := Lib.hid ho
    clear hl hrow hr ho h1c
    go_wp2_with fail
    go_ret
    refine .inl ⟨.frame false l, r, _, rd_frame false hf9 HL.out (.inr trivial), rfl, rfl, ?_, HR.out, (Only.set R w 0 _).trans HO.out⟩
    have := HROW.out
    rw [newIn_set] at this
    obtain ⟨xs, h1, h2⟩ := this
    rw [ItemAt]
    exact ⟨_, xs, rfl, h1, h2⟩
  · go_wp2_with fail
    exact ⟨rfl, .inr ⟨⟨_, rfl⟩, hno, (Only.set R w 0 _).trans ho⟩⟩

set_option maxRecDepth 100000 in
set_option maxHeartbeats 1600000 in
theorem item_frame_true (n : Nat) (HI : ItemsOk n) (R f : Nat) (t : List UInt8) (w : World) (hs : t.length ≤ n) (hf : f ≤ 9) (h : Rdr w R (123 :: t) f) :
    Calls Try.prog 77 #[.pointer (some ⟨R, 0, none⟩)] w (ItemPost R f (123 :: t) w) := by
  have HN := Lib.hid (next_one R f 123 t w h)
  have HF := Lib.hid (frame_any n HI R f true t _ hs hf (h.to t))
  have hR := h.lt
  clear h HI
  have k63 : ((tb [123]).toList == [63]) = false := by rw [tb_toList]; decide
  have k46 : ((tb [123]).toList == [46]) = false := by rw [tb_toList]; decide
  have k40 : ((tb [123]).toList == [40]) = false := by rw [tb_toList]; decide
  have k123 : ((tb [123]).toList == [123]) = true := by rw [tb_toList]; decide
  have k94 : ((tb [123]).toList == [94]) = false := by rw [tb_toList]; decide
  have k61 : ((tb [123]).toList == [61]) = false := by rw [tb_toList]; decide
  have k35 : ((tb [123]).toList == [35]) = false := by rw [tb_toList]; decide
  go_enter Try.func77, Try.ntmps77
  go_wp2_with fail
  refine HN.out.mono ?_
  rintro e w1 ⟨rfl, rfl⟩
  go_wp2_with fail
  refine HF.out.mono ?_
  rintro e w2 (⟨l, r, v, hf9, hl, rfl, h1c, hrow, hr, ho⟩ | ⟨⟨u, rfl⟩, hno, ho⟩)
  · obtain ⟨A, k, m, rfl, hrow⟩ := rowAt_form hrow
    have HROW := Lib.hid hrow
    have HL := Lib.hid hl
    have HR := Lib.hid hr
    have HO := Lib.hid ho
    clear hl hrow hr ho h1c
    go_wp2_with fail
    go_ret
    refine .inl ⟨.frame true l, r, _, rd_frame true hf9 HL.out (.inr trivial), rfl, rfl, ?_, HR.out, (Only.set R w 0 _).trans HO.out⟩
    have := HROW.out
    rw [newIn_set] at this
    obtain ⟨xs, h1, h2⟩ := this
    rw [ItemAt]
    exact ⟨_, xs, rfl, h1, h2⟩
  · go_wp2_with fail
    exact ⟨rfl, .inr ⟨⟨_, rfl⟩, hno, (Only.set R w 0 _).trans ho⟩⟩

set_option maxRecDepth 100000 in
set_option maxHeartbeats 1600000 in
theorem item_leave (R f : Nat) (t : List UInt8) (w : World) (h : Rdr w R (94 :: t) f) :
    Calls Try.prog 77 #[.pointer (some ⟨R, 0, none⟩)] w (ItemPost R f (94 :: t) w) := by
  have HN := Lib.hid (next_one R f 94 t w h)
  have c1 : (w.setCell ⟨R, 0, none⟩ (.string (tb t))).cell? ⟨R, 1, none⟩ = some (.int .i64 f) := (h.to t).frames
  have k63 : ((tb [94]).toList == [63]) = false := by rw [tb_toList]; decide
  have k46 : ((tb [94]).toList == [46]) = false := by rw [tb_toList]; decide
  have k40 : ((tb [94]).toList == [40]) = false := by rw [tb_toList]; decide
  have k123 : ((tb [94]).toList == [123]) = false := by rw [tb_toList]; decide
  have k94 : ((tb [94]).toList == [94]) = true := by rw [tb_toList]; decide
  have k61 : ((tb [94]).toList == [61]) = false := by rw [tb_toList]; decide
  have k35 : ((tb [94]).toList == [35]) = false := by rw [tb_toList]; decide
  by_cases hd : ∃ n u, n < 10 ∧ n < f ∧ t = dig n :: u
  · obtain ⟨n, u, h10, hl, rfl⟩ := hd
    have HD := Lib.hid (digit_yes R f n f u _ (h.to (dig n :: u)) h10 hl)
    have HT := Lib.hid ((h.to (dig n :: u)).to u)
    clear h
    go_enter Try.func77, Try.ntmps77
    go_wp2_with fail
    refine HN.out.mono ?_
    rintro e w1 ⟨rfl, rfl⟩
    go_wp2_with fail
    refine HD.out.mono ?_
    rintro e w2 ⟨rfl, rfl⟩
    go_wp2_with fail
    go_ret
    exact .inl ⟨.leave n, u, _, rd_leave hl h10 (.inr trivial), rfl, rfl, by rw [ItemAt] <;> rfl, HT.out, (Only.set R w 0 _).trans (Only.set R _ 0 _)⟩
  · have hx : ∀ n u, n < 10 → n < f → t ≠ dig n :: u := fun n u a b e => hd ⟨n, u, a, b, e⟩
    have HD := Lib.hid (digit_no R f f t _ (h.to t) hx)
    have HNO := Lib.hid (show NoI f (94 :: t) from noI_leave fun n u hl h10 => hx n u h10 hl)
    clear h hd hx
    go_enter Try.func77, Try.ntmps77
    go_wp2_with fail
    refine HN.out.mono ?_
    rintro e w1 ⟨rfl, rfl⟩
    go_wp2_with fail
    refine HD.out.mono ?_
    rintro e w2 ⟨⟨u, rfl⟩, ho⟩
    go_wp2_with fail
    exact ⟨rfl, .inr ⟨⟨_, rfl⟩, HNO.out, (Only.set R w 0 _).trans ho⟩⟩

set_option maxRecDepth 100000 in
set_option maxHeartbeats 1600000 in
theorem item_set (R f : Nat) (t : List UInt8) (w : World) (h : Rdr w R (61 :: t) f) :
    Calls Try.prog 77 #[.pointer (some ⟨R, 0, none⟩)] w (ItemPost R f (61 :: t) w) := by
  have HN := Lib.hid (next_one R f 61 t w h)
  have c1 : (w.setCell ⟨R, 0, none⟩ (.string (tb t))).cell? ⟨R, 1, none⟩ = some (.int .i64 f) := (h.to t).frames
  have k63 : ((tb [61]).toList == [63]) = false := by rw [tb_toList]; decide
  have k46 : ((tb [61]).toList == [46]) = false := by rw [tb_toList]; decide
  have k40 : ((tb [61]).toList == [40]) = false := by rw [tb_toList]; decide
  have k123 : ((tb [61]).toList == [123]) = false := by rw [tb_toList]; decide
  have k94 : ((tb [61]).toList == [94]) = false := by rw [tb_toList]; decide
  have k61 : ((tb [61]).toList == [61]) = true := by rw [tb_toList]; decide
  have k35 : ((tb [61]).toList == [35]) = false := by rw [tb_toList]; decide
  by_cases hd : ∃ n u, n < 10 ∧ n < 10 ∧ t = dig n :: u
  · obtain ⟨n, u, h10, hl, rfl⟩ := hd
    have HD := Lib.hid (digit_yes R f n 10 u _ (h.to (dig n :: u)) h10 hl)
    have HT := Lib.hid ((h.to (dig n :: u)).to u)
    clear h
    go_enter Try.func77, Try.ntmps77
    go_wp2_with fail
    refine HN.out.mono ?_
    rintro e w1 ⟨rfl, rfl⟩
    go_wp2_with fail
    refine HD.out.mono ?_
    rintro e w2 ⟨rfl, rfl⟩
    go_wp2_with fail
    go_ret
    exact .inl ⟨.set n, u, _, rd_set h10 (.inr trivial), rfl, rfl, by rw [ItemAt] <;> rfl, HT.out, (Only.set R w 0 _).trans (Only.set R _ 0 _)⟩
  · have hx : ∀ n u, n < 10 → n < 10 → t ≠ dig n :: u := fun n u a b e => hd ⟨n, u, a, b, e⟩
    have HD := Lib.hid (digit_no R f 10 t _ (h.to t) hx)
    have HNO := Lib.hid (show NoI f (61 :: t) from noI_set fun n u h10 => hx n u h10 h10)
    clear h hd hx
    go_enter Try.func77, Try.ntmps77
    go_wp2_with fail
    refine HN.out.mono ?_
    rintro e w1 ⟨rfl, rfl⟩
    go_wp2_with fail
    refine HD.out.mono ?_
    rintro e w2 ⟨⟨u, rfl⟩, ho⟩
    go_wp2_with fail
    exact ⟨rfl, .inr ⟨⟨_, rfl⟩, HNO.out, (Only.set R w 0 _).trans ho⟩⟩

set_option maxRecDepth 100000 in
set_option maxHeartbeats 1600000 in
theorem item_pick (n : Nat) (HI : ItemsOk n) (R f : Nat) (t : List UInt8) (w : World) (hs : t.length ≤ n) (hf : f ≤ 9) (h : Rdr w R (35 :: t) f) :
    Calls Try.prog 77 #[.pointer (some ⟨R, 0, none⟩)] w (ItemPost R f (35 :: t) w) := by
  have HN := Lib.hid (next_one R f 35 t w h)
  have HF := Lib.hid (brackets_any n HI R f t _ (by omega) hf (h.to t))
  clear h HI
  have k63 : ((tb [35]).toList == [63]) = false := by rw [tb_toList]; decide
  have k46 : ((tb [35]).toList == [46]) = false := by rw [tb_toList]; decide
  have k40 : ((tb [35]).toList == [40]) = false := by rw [tb_toList]; decide
  have k123 : ((tb [35]).toList == [123]) = false := by rw [tb_toList]; decide
  have k94 : ((tb [35]).toList == [94]) = false := by rw [tb_toList]; decide
  have k61 : ((tb [35]).toList == [61]) = false := by rw [tb_toList]; decide
  have k35 : ((tb [35]).toList == [35]) = true := by rw [tb_toList]; decide
  go_enter Try.func77, Try.ntmps77
  go_wp2_with fail
  refine HN.out.mono ?_
  rintro e w1 ⟨rfl, rfl⟩
  go_wp2_with fail
  refine HF.out.mono ?_
  rintro e w2 (⟨bs, r, v, hb, h0, h10, hbr, rfl, h1c, hrow, hr, ho⟩ | ⟨⟨u, rfl⟩, hno, ho⟩)
  · obtain ⟨A, k, m, rfl, hrow⟩ := rowsAt_form hrow
    have HROW := Lib.hid hrow
    have HL := Lib.hid hb
    have HBR := Lib.hid hbr
    have HR := Lib.hid hr
    have HO := Lib.hid ho
    clear hb hrow hr ho h1c hbr
    go_wp2_with fail
    go_ret
    refine .inl ⟨.pick bs, r, _, rd_pick HL.out h0 h10 HBR.out, rfl, rfl, ?_, HR.out, (Only.set R w 0 _).trans HO.out⟩
    have := HROW.out
    rw [newIn_set] at this
    obtain ⟨xs, h1, h2⟩ := this
    rw [ItemAt]
    exact ⟨_, xs, rfl, h1, h2⟩
  · go_wp2_with fail
    exact ⟨rfl, .inr ⟨⟨_, rfl⟩, hno, (Only.set R w 0 _).trans ho⟩⟩

set_option maxRecDepth 100000 in
set_option maxHeartbeats 1600000 in
theorem item_ask (n : Nat) (HI : ItemsOk n) (R f : Nat) (t : List UInt8) (w : World) (hs : t.length ≤ n) (hf : f ≤ 9) (h : Rdr w R (63 :: t) f) :
    Calls Try.prog 77 #[.pointer (some ⟨R, 0, none⟩)] w (ItemPost R f (63 :: t) w) := by
  have HN := Lib.hid (next_one R f 63 t w h)
  have k63 : ((tb [63]).toList == [63]) = true := by rw [tb_toList]; decide
  have k46 : ((tb [63]).toList == [46]) = false := by rw [tb_toList]; decide
  have k40 : ((tb [63]).toList == [40]) = false := by rw [tb_toList]; decide
  have k123 : ((tb [63]).toList == [123]) = false := by rw [tb_toList]; decide
  have k94 : ((tb [63]).toList == [94]) = false := by rw [tb_toList]; decide
  have k61 : ((tb [63]).toList == [61]) = false := by rw [tb_toList]; decide
  have k35 : ((tb [63]).toList == [35]) = false := by rw [tb_toList]; decide
  have hR := h.lt
  have hRt := h.to t
  clear h
  cases t with
  | nil =>
    have HN2 := Lib.hid (next_none R f _ hRt)
    clear hRt HI
    go_enter Try.func77, Try.ntmps77
    go_wp2_with fail
    refine HN.out.mono ?_
    rintro e w1 ⟨rfl, rfl⟩
    go_wp2_with fail
    refine HN2.out.mono ?_
    rintro e w2 ⟨⟨u, rfl⟩, rfl⟩
    go_wp2_with fail
    exact ⟨rfl, .inr ⟨⟨_, rfl⟩, noI_ask_end f, Only.set R w 0 _⟩⟩
  | cons c u =>
    have HN2 := Lib.hid (next_one R f c u _ hRt)
    have hRu := hRt.to u
    have hul : u.length ≤ n + 1 := by simp at hs; omega
    clear hRt
    cases hl : letB c with
    | false =>
      have HM := Lib.hid (fun W => name_no R c W hl)
      have HNO := Lib.hid (noI_ask_name (f := f) (t := u) hl)
      clear hl hRu HI
      go_enter Try.func77, Try.ntmps77
      go_wp2_with fail
      refine HN.out.mono ?_
      rintro e w1 ⟨rfl, rfl⟩
      go_wp2_with fail
      refine HN2.out.mono ?_
      rintro e w2 ⟨rfl, rfl⟩
      go_wp2_with fail
      refine (HM.out _).mono ?_
      rintro e w3 ⟨⟨q, rfl⟩, rfl⟩
      go_wp2_with fail
      exact ⟨rfl, .inr ⟨⟨_, rfl⟩, HNO.out, (Only.set R w 0 _).trans (Only.set R _ 0 _)⟩⟩
    | true =>
      have HM := Lib.hid (fun W => name_yes R c W hl)
      have HB1 := Lib.hid (bracket_any n HI R f u _ hul hf hRu)
      have HB2 := Lib.hid (fun r W (hr : r.length ≤ n + 1) (k : Rdr W R r f) => bracket_any n HI R f r W hr hf k)
      have HLT := Lib.hid hl
      clear hl hRu HI
      go_enter Try.func77, Try.ntmps77
      go_wp2_with fail
      refine HN.out.mono ?_
      rintro e w1 ⟨rfl, rfl⟩
      go_wp2_with fail
      refine HN2.out.mono ?_
      rintro e w2 ⟨rfl, rfl⟩
      go_wp2_with fail
      refine (HM.out _).mono ?_
      rintro e w3 ⟨rfl, rfl⟩
      go_wp2_with fail
      refine HB1.out.mono ?_
      rintro e w4 (⟨l, r, v, hb, rfl, _, hrow, hr, ho⟩ | ⟨⟨q, rfl⟩, hno, ho⟩)
      · obtain ⟨A, k, m, rfl, hrow⟩ := rowAt_form hrow
        have HROW := Lib.hid hrow
        have HB := Lib.hid hb
        have HO := Lib.hid ho
        have HX := Lib.hid (HB2.out r w4 (by have := hb.shorter; omega) hr)
        clear hb hrow hr ho
        go_wp2_with fail
        refine HX.out.mono ?_
        rintro e w5 (⟨l2, r2, v2, hb2, rfl, _, hrow2, hr2, ho2⟩ | ⟨⟨q, rfl⟩, hno2, ho2⟩)
        · obtain ⟨A2, k2, m2, rfl, hrow2⟩ := rowAt_form hrow2
          have HROW2 := Lib.hid hrow2
          have HBB := Lib.hid hb2
          have HR2 := Lib.hid hr2
          have HO2 := Lib.hid ho2
          clear hb2 hrow2 hr2 ho2
          go_wp2_with fail
          go_ret
          refine .inl ⟨.ask c l l2, r2, _, rd_ask HLT.out HB.out HBB.out (.inr trivial), rfl, rfl, ?_, HR2.out, (((Only.set R w 0 _).trans (Only.set R _ 0 _)).trans HO.out).trans HO2.out⟩
          have q1 := HROW.out
          rw [newIn_set, newIn_set] at q1
          obtain ⟨xs, h1, h2⟩ := q1.stay (stay_only hR HO2.out)
          obtain ⟨ys, h3, h4⟩ := HROW2.out.stay (stay_less (w := w) (by have := HO.out.size; simpa using this))
          rw [ItemAt]
          exact ⟨_, _, xs, ys, rfl, h1, h2, h3, h4⟩
        · go_wp2_with fail
          exact ⟨rfl, .inr ⟨⟨_, rfl⟩, noI_ask2 HB.out hno2, (((Only.set R w 0 _).trans (Only.set R _ 0 _)).trans HO.out).trans ho2⟩⟩
      · go_wp2_with fail
        exact ⟨rfl, .inr ⟨⟨_, rfl⟩, noI_ask1 hno, ((Only.set R w 0 _).trans (Only.set R _ 0 _)).trans ho⟩⟩

set_option maxRecDepth 100000 in
set_option maxHeartbeats 1600000 in
theorem item_blk (R f : Nat) (c : UInt8) (t : List UInt8) (w : World) (h : Rdr w R (c :: t) f) (hc : c ≠ 63 ∧ c ≠ 46 ∧ c ≠ 40 ∧ c ≠ 123 ∧ c ≠ 94 ∧ c ≠ 61 ∧ c ≠ 35) :
    Calls Try.prog 77 #[.pointer (some ⟨R, 0, none⟩)] w (ItemPost R f (c :: t) w) := by
  have HN := Lib.hid (next_one R f c t w h)
  have HT := Lib.hid (h.to t)
  have k63 := tb_is hc.1
  have k46 := tb_is hc.2.1
  have k40 := tb_is hc.2.2.1
  have k123 := tb_is hc.2.2.2.1
  have k94 := tb_is hc.2.2.2.2.1
  have k61 := tb_is hc.2.2.2.2.2.1
  have k35 := tb_is hc.2.2.2.2.2.2
  cases hl : letB c with
  | true =>
    have HM := Lib.hid (fun W => name_yes R c W hl)
    have HI := Lib.hid (rd_blk (f := f) (t := t) hl (.inr trivial))
    clear h hc hl
    go_enter Try.func77, Try.ntmps77
    go_wp2_with fail
    refine HN.out.mono ?_
    rintro e w1 ⟨rfl, rfl⟩
    go_wp2_with fail
    refine (HM.out _).mono ?_
    rintro e w2 ⟨rfl, rfl⟩
    go_wp2_with fail
    go_ret
    exact .inl ⟨.blk c, t, _, HI.out, rfl, rfl, by rw [ItemAt] <;> rfl, HT.out, Only.set R w 0 _⟩
  | false =>
    have HM := Lib.hid (fun W => name_no R c W hl)
    have HNO := Lib.hid (noI_hd (f := f) (t := t) hl hc)
    clear h hc hl
    go_enter Try.func77, Try.ntmps77
    go_wp2_with fail
    refine HN.out.mono ?_
    rintro e w1 ⟨rfl, rfl⟩
    go_wp2_with fail
    refine (HM.out _).mono ?_
    rintro e w2 ⟨⟨u, rfl⟩, rfl⟩
    go_wp2_with fail
    exact ⟨rfl, .inr ⟨⟨_, rfl⟩, HNO.out, Only.set R w 0 _⟩⟩

set_option maxRecDepth 100000 in
theorem item_none (R f : Nat) (w : World) (h : Rdr w R [] f) :
    Calls Try.prog 77 #[.pointer (some ⟨R, 0, none⟩)] w (ItemPost R f [] w) := by
  have HN := Lib.hid (next_none R f w h)
  clear h
  go_enter Try.func77, Try.ntmps77
  go_wp2_with fail
  refine HN.out.mono ?_
  rintro e w1 ⟨⟨u, rfl⟩, rfl⟩
  go_wp2_with fail
  exact ⟨rfl, .inr ⟨⟨_, rfl⟩, noI_nil f, Only.refl _ _⟩⟩

/-- One item, by what is shorter. -/
theorem item_any (n : Nat) (HI : ItemsOk n) : ItemOk (n + 1) := by
  intro R f s w hs hf h
  cases s with
  | nil => exact item_none R f w h
  | cons c t =>
    have ht : t.length ≤ n := by simp at hs; omega
    by_cases e1 : c = 63
    · subst e1; exact item_ask n HI R f t w ht hf h
    by_cases e2 : c = 46
    · subst e2; exact item_stop R f t w h
    by_cases e3 : c = 40
    · subst e3; exact item_frame_false n HI R f t w ht hf h
    by_cases e4 : c = 123
    · subst e4; exact item_frame_true n HI R f t w ht hf h
    by_cases e5 : c = 94
    · subst e5; exact item_leave R f t w h
    by_cases e6 : c = 61
    · subst e6; exact item_set R f t w h
    by_cases e7 : c = 35
    · subst e7; exact item_pick n HI R f t w ht hf h
    exact item_blk R f c t w h ⟨e1, e2, e3, e4, e5, e6, e7⟩

/-- All texts that are short enough are read. -/
theorem items_all : ∀ n, n ≤ 1000 → ItemsOk n
  | 0, _ => items_any 0 (by omega) fun R f s w hs hf h => by
    have : s = [] := List.eq_nil_of_length_eq_zero (by omega)
    subst this; exact item_none R f w h
  | n + 1, hn => items_any (n + 1) hn (item_any n (items_all n (by omega)))
end Go.Proofs.Ytelhogeaobofpaa
