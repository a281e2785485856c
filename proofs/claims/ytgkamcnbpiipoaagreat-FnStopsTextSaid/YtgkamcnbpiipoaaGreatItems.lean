/-
  The program's reader: items, given the contract of one item.
-/
import Derived.Test.YtgkamcnbpiipoaaGreatReader
namespace Go.Proofs.YtgkamcnbpiipoaaGreat
open Go.RowKit Go.Sort

theorem own_only {R : Nat} {w w' : World} {base : Nat} {e : TypeId} {size : Nat} {v : Value} {n : Nat} {xs : List Value} (h : w.ownsRow base e size v n xs) (ho : Only R w w') (hR : R < base) : w'.ownsRow base e size v n xs := by
  refine ⟨h.1, ?_⟩
  rcases h.2 with hn | ⟨g, cap, cur, hv, hb2, hg, rest⟩
  · exact .inl hn
  · refine .inr ⟨g, cap, cur, hv, hb2, ?_, rest⟩
    have hlt : g < w.heap.size := by
      rcases Nat.lt_or_ge g w.heap.size with h' | h'
      · exact h'
      · rw [Array.getElem?_eq_none h'] at hg; cases hg
    exact (ho.block g (by omega) hlt).trans hg

theorem Only.grown {R : Nat} {w w2 w5 : World} {row : Option Nat} (h : Only R w w2) (hg : w2.grownBy w5 row) (hr : ∀ k, row = some k → w.heap.size ≤ k) : Only R w w5 :=
  ⟨hg.os.trans h.os, hg.tape.trans h.tape, hg.output.trans h.output, Nat.le_trans h.size hg.size, fun k hk hlt => (hg.block k (Nat.lt_of_lt_of_le hlt h.size) (fun e => by have := hr k e.symm; omega)).trans (h.block k hk hlt)⟩
theorem Rdr.grown {R : Nat} {w w' : World} {s : List UInt8} {f : Nat} {row : Option Nat} (h : Rdr w R s f) (hg : w.grownBy w' row) (hr : some R ≠ row) : Rdr w' R s f := (hg.block R h.lt hr).trans h
theorem Rdr.alloc {R : Nat} {w : World} {s : List UInt8} {f : Nat} (h : Rdr w R s f) (o : Obj) : Rdr (w.alloc o) R s f := Blk.alloc h o

/-- Blocks that a call has made, but for one. -/
abbrev NewBut (B : Nat) (v : Value) : Nat → Prop := fun b => B ≤ b ∧ some b ≠ v.ownBlock

def leftOf (w : World) (R : Nat) : Nat := match w.cell? ⟨R, 0, none⟩ with | some (.string s) => s.size | _ => 0
theorem Rdr.leftOf {R : Nat} {w : World} {s : List UInt8} {f : Nat} (h : Rdr w R s f) : leftOf w R = s.length := by
  show (match w.cell? ⟨R, 0, none⟩ with | some (.string s) => s.size | _ => 0) = _
  rw [h.left]; exact tb_size s

theorem ends_mem {c : UInt8} {t : List UInt8} : (c ∈ ([41, 125, 93] : List UInt8)) ↔ Ends (c :: t) := by
  unfold Ends
  simp only [List.mem_cons, List.not_mem_nil, or_false]
  constructor
  · rintro (rfl | rfl | rfl)
    · exact .inr ⟨t, .inl rfl⟩
    · exact .inr ⟨t, .inr (.inl rfl)⟩
    · exact .inr ⟨t, .inr (.inr rfl)⟩
  · rintro (h | ⟨u, h | h | h⟩)
    · cases h
    · exact .inl (List.cons.inj h).1
    · exact .inr (.inl (List.cons.inj h).1)
    · exact .inr (.inr (List.cons.inj h).1)
theorem closers_any (c : UInt8) (W : World) : Calls Tryz.prog 27 #[.string ⟨#[41, 125, 93]⟩, .string (tb [c])] W fun e w' => e = .returned (.bool (decide (c ∈ ([41, 125, 93] : List UInt8)))) ∧ w' = W := by
  have := Tryz.strings_Contains_one ⟨#[41, 125, 93]⟩ c W
  rw [show decide (0 ≤ Lib.indexByte (⟨#[41, 125, 93]⟩ : ByteArray).data.toList c) = decide (c ∈ ([41, 125, 93] : List UInt8)) from decide_eq_decide.2 idx_mem] at this
  exact this

theorem cell_one (w : World) (v : Value) (T : TypeId) : ∀ (j : Nat) (u : Value), [v][j]? = some u → (w.alloc (.cells #[v] T)).cell? ((⟨w.heap.size, 0, none⟩ : Addr).add j) = some u := by
  intro j u hj
  match j, hj with
  | 0, hj =>
    have hu : v = u := by simpa using hj
    rw [← hu]
    simp [Addr.add]

theorem ItemAt.iface {w : World} {P : Nat → Prop} {i : It} {v : Value} (h : ItemAt w P i v) : ∃ T x, v = .iface T x := by
  cases i with
  | ask c l r => rw [ItemAt] at h; obtain ⟨_, _, _, _, e, _⟩ := h; exact ⟨_, _, e⟩
  | frame b l => rw [ItemAt] at h; obtain ⟨_, _, e, _⟩ := h; exact ⟨_, _, e⟩
  | pick bs => rw [ItemAt] at h; obtain ⟨_, _, e, _⟩ := h; exact ⟨_, _, e⟩
  | _ => rw [ItemAt] at h; exact ⟨_, _, h⟩

theorem info_item : (Tryz.prog.info? 113).map (fun i => (i.zero, i.size, i.bytes)) = some (some .nilIface, 1, 16) := by kernel_rfl

/-- The contract of one item, for texts of so many bytes at most. -/
def ItemOk (n : Nat) : Prop := ∀ (R f : Nat) (s : List UInt8) (w : World), s.length ≤ n → f ≤ 9 → Rdr w R s f →
  Calls Tryz.prog 63 #[.pointer (some ⟨R, 0, none⟩)] w (ItemPost R f s w)

set_option maxRecDepth 100000 in
set_option maxHeartbeats 3200000 in
theorem items_any (n : Nat) (hn : n ≤ 1000) (HI : ItemOk n) : ItemsOk n := by
  intro R f s w hs hf h
  obtain ⟨i0, hi, hz0, hz1, hz2⟩ := info_parts info_item
  have HIX := Lib.hid HI
  have hR := h.lt
  have HR0 := Lib.hid h
  clear HI h
  go_enter Tryz.func40, Tryz.ntmps40
  go_wp2_with fail
  go_loopw [3] (fun pv wr => ∃ (l : List It) (t : List UInt8) (vs : List Value) (q : Value), q = pv ∧ t.length + l.length ≤ n ∧ vs.length = l.length ∧ Hid (SoL f s l t) ∧ Hid (wr.ownsRow w.heap.size 113 1 pv vs.length vs) ∧ Hid (AllAt wr (NewBut w.heap.size pv) l vs) ∧ Hid (Rdr wr R t f) ∧ Hid (Only R w wr)) (fun _ wr => leftOf wr R)
  case atStart => exact ⟨[], s, [], _, rfl, by simpa using hs, rfl, soL_start f s, World.ownsRow_nil w _ _ _, AllAt.nil _ _, HR0.out, Only.refl R w⟩
  case round =>
    obtain ⟨l, t, vs, pv, rfl, hlen, hvl, HS, HOW, HAT, HR, HO⟩ := hrel
    have c0 := HR.out.left
    cases t with
    | nil =>
      have t1 : ((tb []).toList == ([] : List UInt8)) = true := by rw [tb_toList]; rfl
      have t2 : ((tb []).toList != ([] : List UInt8)) = false := by rw [tb_toList]; rfl
      go_wp2_with fail
      go_ret
      refine .inl ⟨l, [], _, soL_end HS.out ends_nil, rfl, ?_, ⟨vs, ?_, ?_⟩, HR.out, HO.out⟩
      · rcases HOW.out.2 with ⟨rfl, _⟩ | ⟨_, _, _, rfl, _⟩ <;> rfl
      · exact own_reads HOW.out rfl
      · exact AllAt.stay ⟨Nat.le_refl _, fun b _ hp => ⟨hp.1, rfl⟩⟩ l vs HAT.out
    | cons c u =>
      obtain ⟨x, hx⟩ : ∃ x, x = tb (c :: u) := ⟨_, rfl⟩
      have hz : x.size = u.length + 1 := by rw [hx, tb_size]; rfl
      have t1 : (x.toList == ([] : List UInt8)) = false := by rw [hx, tb_toList]; rfl
      have t2 : (x.toList != ([] : List UInt8)) = true := by rw [hx, tb_toList]; rfl
      have HH := tb_head c u
      rw [← hx] at c0 HH
      have l1 : 1 ≤ x.size := by omega
      have l2 : (1 : Int) ≤ (x.size : Int) := by omega
      have HC := Lib.hid (fun W => closers_any c W)
      rw [← HH] at HC
      by_cases he : Ends (c :: u)
      · rw [decide_eq_true ((ends_mem (t := u)).2 he)] at HC
        have HE := Lib.hid he
        clear hx HH he
        go_wp2_with fail
        refine (HC.out _).mono ?_
        rintro e w1 ⟨rfl, rfl⟩
        go_wp2_with fail
        go_ret
        refine .inl ⟨l, c :: u, _, soL_end HS.out HE.out, rfl, ?_, ⟨vs, ?_, ?_⟩, HR.out, HO.out⟩
        · rcases HOW.out.2 with ⟨rfl, _⟩ | ⟨_, _, _, rfl, _⟩ <;> rfl
        · exact own_reads HOW.out rfl
        · exact AllAt.stay ⟨Nat.le_refl _, fun b _ hp => ⟨hp.1, rfl⟩⟩ l vs HAT.out
      · rw [decide_eq_false (fun q => he ((ends_mem (t := u)).1 q))] at HC
        have HE := Lib.hid he
        have HIT := Lib.hid (HIX.out R f (c :: u) wr (by omega) hf HR.out)
        clear hx HH he
        go_wp2_with fail
        refine (HC.out _).mono ?_
        rintro e w1 ⟨rfl, rfl⟩
        go_wp2_with fail
        refine HIT.out.mono ?_
        rintro e w2 (⟨i, r, v, hrd, rfl, h1c, hit, hr2, ho2⟩ | ⟨⟨q, rfl⟩, hno, ho2⟩)
        · obtain ⟨T, y, rfl⟩ := hit.iface
          have HOW2 := Lib.hid (own_only HOW.out ho2 hR)
          have HRD := Lib.hid hrd
          have hsz2 := ho2.size
          have hown := HOW.out.lt
          have HIT2 : Hid (ItemAt w2 (NewBut w.heap.size pv) i (.iface T y)) := ItemAt.stay ⟨Nat.le_refl _, fun b _ hp => ⟨⟨Nat.le_trans HO.out.size hp, fun e => by have := (hown b e.symm).2; have hp' : w1.heap.size ≤ b := hp; omega⟩, rfl⟩⟩ i _ hit
          have HAT2 : Hid (AllAt w2 (NewBut w.heap.size pv) l vs) := AllAt.stay ⟨hsz2, fun b hb hp => ⟨hp, ho2.block b (by have := hp.1; omega) hb⟩⟩ l vs HAT.out
          have HR2 := Lib.hid hr2
          have HO2 := Lib.hid (HO.out.trans ho2)
          have hvn : vs.length ≤ 1000 := by simp at hlen; omega
          have hbs := HO.out.size
          have HNEW := Lib.hid (cell_one w2 (.iface T y) 113)
          have HC2 := Lib.hid (show ∀ u ∈ [Value.iface T y], u.oneCell' = true from fun u hu => by rw [List.mem_singleton.1 hu]; exact h1c)
          clear hrd hit hr2 ho2 h1c c0
          go_wp2_with (at_builtin; go_loud (refine wpList_append_own_at _ rfl _ _ 41 rfl w.heap.size 113 i0 .nilIface 1 16 Tryz.underlying41 hi hz0 hz1 hz2 rfl (by decide) _ _ _ rfl (HOW2.out.alloc _) ⟨w2.heap.size, 0, none⟩ 1 1 [.iface T y] rfl rfl HNEW.out HC2.out ?c3 ?c4 ?c5 ?_))
          case c3 => unfold maxLen; omega
          case c4 => omega
          case c5 => simp; omega
          intro v' w5 hown' hgrow _ hat
          have hown2 := HOW2.out.lt
          have hG : w2.grownBy w5 pv.ownBlock := (World.grownBy_alloc w2 _ _).trans hgrow
          have HST : Stay w2 (NewBut w.heap.size pv) w5 (NewBut w.heap.size v') := ⟨hG.size, fun b hb hp => ⟨⟨hp.1, by
            rcases hat with q | q
            · rw [q]; exact hp.2
            · rw [q]; intro e; have := Option.some.inj e; first | omega | (rw [World.size_alloc] at this; omega) | (simp at this; omega)⟩, hG.block b hb hp.2⟩⟩
          have HAT5 := Lib.hid (AllAt.stay HST _ _ (HAT2.out.snoc HIT2.out))
          have HR5 := Lib.hid (HR2.out.grown hG (fun e => by have := (hown2 R e.symm).1; omega))
          have HO5 := Lib.hid (HO2.out.grown hG fun k e => (hown2 k e).1)
          have HOW5 : Hid (w5.ownsRow w.heap.size 113 1 v' (vs ++ [Value.iface T y]).length (vs ++ [Value.iface T y])) := by
            show w5.ownsRow _ _ _ _ _ _
            rw [List.length_append, List.length_singleton, hvl]; exact hown'
          have HS5 := Lib.hid (soL_next HS.out HRD.out)
          have hsh := HRD.out.shorter
          have hl5 : r.length + (l ++ [i]).length ≤ n := by simp at hsh hlen ⊢; omega
          have hv5 : (vs ++ [Value.iface T y]).length = (l ++ [i]).length := by simp; omega
          clear hown2 hG HST hgrow hat hown'
          go_wp2_with fail
          go_roundw
          case rel => exact ⟨l ++ [i], r, vs ++ [Value.iface T y], v', rfl, hl5, hv5, HS5.out, HOW5.out, HAT5.out, HR5.out, HO5.out⟩
          case measure =>
            show leftOf _ R < leftOf _ R
            rw [HR5.out.leftOf, HR.out.leftOf]; exact hsh
        · go_wp2_with fail
          exact ⟨rfl, .inr ⟨⟨_, rfl⟩, soL_no HS.out HE.out hno, HO.out.trans ho2⟩⟩
end Go.Proofs.YtgkamcnbpiipoaaGreat
