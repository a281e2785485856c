/-
  The program's text of a nest.
-/
import Derived.Test.YtdpjdhllaokbfaaGreatNestTops
import Derived.Test.YtdpjdhllaokbfaaGreatNestText
import Derived.Test.YtdpjdhllaokbfaaGreatBuild
namespace Go.Proofs.YtdpjdhllaokbfaaGreat
open Go.RowKit Go.Sort Go.Shelf

theorem tassert_lone (u : Value) (w : World) : (Instr.typeAssert (.iface 100 (.agg #[u])) 87 100 true).run Tryz.prog w = .ok (.tuple #[.agg #[u], .bool true]) w := by kernel_rfl
theorem tassert_part (b : Nat) (w : World) : (Instr.typeAssert (.iface 61 (.pointer (some ⟨b, 0, none⟩))) 87 100 true).run Tryz.prog w = .ok (.tuple #[.agg #[.pointer none], .bool false]) w := by kernel_rfl

/-- What the builder's row is not. -/
def keptT (M : Nat) (k : Nat) : Prop := k < M ∨ k = M + 1
def writeV (M : Nat) : Value := .func (.func 71) #[] #[.pointer (some ⟨M, 0, none⟩), .pointer (some ⟨M + 1, 0, none⟩)]
/-- The state of the writing. -/
structure TxAt (w0 : World) (bs : ByteArray) (w : World) : Prop where
  below : Below w0.heap.size w0 w
  bld : BdK w0.heap.size (Lib.strCells bs) (keptT w0.heap.size) w
  fn : w.cell? ⟨w0.heap.size + 1, 0, none⟩ = some (writeV w0.heap.size)
  size : w0.heap.size + 1 < w.heap.size
def TxGoes (w0 : World) (NB : Nat) (g : List Bl) (K : Nat → Prop) (n : Nat) : Prop := ∀ (items : List NI) (A : Option Addr) (cap : Nat) (bs : ByteArray) (w : World), wtL items ≤ n → okL g items → NIsAt w0 K NB items A → TxAt w0 bs w → bs.size + (txL g items).size ≤ 100000 →
  Calls Tryz.prog 71 #[.slice A items.length cap, .pointer (some ⟨w0.heap.size, 0, none⟩), .pointer (some ⟨w0.heap.size + 1, 0, none⟩)] w fun e w' => e = .returned (.tuple #[]) ∧ TxAt w0 (bs ++ txL g items) w'
theorem TxAt.write {w0 : World} {bs : ByteArray} {w : World} (h : TxAt w0 bs w) (s : ByteArray) (hsz : bs.size + s.size ≤ 1048576) :
    Calls Tryz.prog 68 #[.pointer (some ⟨w0.heap.size, 0, none⟩), .string s] w fun e w' => e = .returned (.tuple #[.int .i64 s.size, .nilIface]) ∧ TxAt w0 (bs ++ s) w' := by
  refine (write_k w0.heap.size (Lib.strCells bs) s (keptT w0.heap.size) w h.bld (fun k hk => ?_) (by rw [Lib.strCells_length]; omega)).mono ?_
  · have := h.size
    rcases hk with h | h
    · omega
    · omega
  · rintro e w' ⟨rfl, h1, h2, h3⟩
    refine ⟨rfl, ⟨h.below.trans h2, by rw [cells_append]; exact h1, ?_, by have := h.size; have := h3.1; omega⟩⟩
    rw [World.cell?_of_block (h3.2 _ h.size (.inr rfl))]
    exact h.fn
theorem TxAt.alloc {w0 : World} {bs : ByteArray} {w : World} (h : TxAt w0 bs w) (o : Obj) : TxAt w0 bs (w.alloc o) := by
  have hb : Below w.heap.size w (w.alloc o) := (Below.refl _ w).alloc (Nat.le_refl _) o
  exact ⟨h.below.trans (hb.mono h.below.size), h.bld.kept (hb.block _ h.bld.lt) (fun k hk hn => ⟨hb.block k hk, hn⟩), (hb.cell (p := ⟨w0.heap.size + 1, 0, none⟩) h.size).trans h.fn, by have := h.size; have := hb.size; omega⟩
theorem TxAt.drew {w0 : World} {bs : ByteArray} {w : World} (h : TxAt w0 bs w) : TxAt w0 bs w.drew := by
  have hb : Below w.heap.size w w.drew := below_drewN w 1
  exact ⟨h.below.trans (hb.mono h.below.size), h.bld.kept (hb.block _ h.bld.lt) (fun k hk hn => ⟨hb.block k hk, hn⟩), (hb.cell (p := ⟨w0.heap.size + 1, 0, none⟩) h.size).trans h.fn, h.size⟩

set_option maxRecDepth 100000 in
set_option maxHeartbeats 4000000 in
theorem text1_step (w0 : World) (NB : Nat) (g : List Bl) (K : Nat → Prop) (hv : validB g = true) (hN : NodesIn w0 NB g) (n : Nat) (ih : ∀ m, m < n → TxGoes w0 NB g K m) : TxGoes w0 NB g K n := by
  intro items A cap bs w hwt hok hI hT hsz
  have HI := Lib.hid hI
  have HN := Lib.hid hN
  have HIH := Lib.hid ih
  have HT0 := Lib.hid hT
  have HWT := Lib.hid hwt
  have HOK := Lib.hid hok
  have HSZ := Lib.hid hsz
  have hil : items.length ≤ 1048576 := by
    have h1 := txL_len hv hok
    omega
  clear hI hN ih hT hwt hok hsz
  go_enter Tryz.func71, Tryz.ntmps71
  go_wp2_with fail
  go_loopw [10] (fun i wr => ∃ (j : Nat), j ≤ items.length ∧ i = .int .i64 j ∧ Hid (TxAt w0 (bs ++ txL g (items.take j)) wr)) (fun i _ => items.length - (intOf i).toNat)
  case atStart => exact ⟨0, Nat.zero_le _, rfl, by rw [List.take_zero, txL_nil, ba_append_empty]; exact HT0.out⟩
  case round =>
    obtain ⟨j, hj, rfl, HT⟩ := hrel
    by_cases hlt : j < items.length
    · obtain ⟨xs, h1, h2, h3⟩ := HI.out
      obtain ⟨u, hu1, hu2⟩ := NIsV.get items xs h3 j hlt
      obtain ⟨b0, off0, rfl, _, hb0, hc0⟩ := h2 (by omega)
      have cx : wr.cell? ⟨b0, off0 + j, none⟩ = some u := by
        rw [HT.out.below.cell (p := ⟨b0, off0 + j, none⟩) hb0, hc0 j (by omega), ← hu1, List.getElem?_eq_getElem (by omega)]
      obtain ⟨x, hx⟩ : ∃ x, x = items[j] := ⟨_, rfl⟩
      rw [← hx] at hu2
      have hxm : x ∈ items := hx ▸ List.getElem_mem hlt
      have hxw := wtL_mem hxm
      have hxo := okL_mem HOK.out x hxm
      have HSN := Lib.hid (show bs ++ txL g (items.take (j + 1)) = (bs ++ txL g (items.take j)) ++ txN g x by rw [List.take_succ_eq_append_getElem hlt, txL_snoc, ← hx, ba_append_assoc])
      have hbd : (bs ++ txL g (items.take (j + 1))).size ≤ 100000 := by
        have e1 : txL g items = txL g (items.take (j + 1)) ++ txL g (items.drop (j + 1)) := by rw [← txL_append, List.take_append_drop]
        have e2 := congrArg ByteArray.size e1
        have e3 := HSZ.out
        rw [ByteArray.size_append] at e2 ⊢
        omega
      rw [HSN.out, ByteArray.size_append] at hbd
      obtain ⟨b1, hb1⟩ : ∃ b1, b1 = bs ++ txL g (items.take j) := ⟨_, rfl⟩
      rw [← hb1] at HT HSN hbd
      clear hx h1 h2 h3 hu1 hc0 hb1
      cases x with
      | blk i =>
        have hu : u = .iface 100 (.agg #[nptr NB i]) := by unfold NIAt at hu2; exact hu2
        subst hu
        unfold okN at hxo
        have hta := fun w => tassert_lone (nptr NB i) w
        obtain ⟨nm, hnm⟩ : ∃ nm, nm = nthName g i := ⟨_, rfl⟩
        have x1 : wr.cell? ⟨nb NB i, 1, none⟩ = some (.string nm) := by
          have := ((HN.out i hxo).below HT.out.below (HN.out i hxo).lt).cell 1
          rw [hnm, nthName_at hxo]; simpa using this
        have HW := Lib.hid (fun w (h : TxAt w0 b1 w) => h.write nm (by rw [txN_blk, ← hnm] at hbd; omega))
        have HSN2 := Lib.hid (show bs ++ txL g (items.take (j + 1)) = b1 ++ nm by rw [HSN.out, txN_blk, hnm])
        have x1a : ∀ o, (wr.alloc o).cell? ⟨nb NB i, 1, none⟩ = some (.string nm) := fun o => (((Below.refl _ wr).alloc (Nat.le_refl _) o).cell (p := ⟨nb NB i, 1, none⟩) (by have h5 := HT.out.below.size; have h6 := (HN.out i hxo).lt; show nb NB i < wr.heap.size; omega)).trans x1
        clear hu2 hnm hbd hxo x1
        go_wp2_with fail
        refine (HW.out _ (HT.out.alloc _)).mono ?_
        rintro e w2 ⟨rfl, hT2⟩
        have HT2 := Lib.hid hT2
        clear hT2
        go_wp2_with fail
        go_roundw
        case rel => exact ⟨j + 1, by omega, by go_num, by rw [HSN2.out]; exact HT2.out⟩
        case measure => simp [intOf]; omega
      | part P D W =>
        unfold NIAt at hu2
        obtain ⟨b, A1, c1, A2, c2, A3, c3, vs, rfl, k1, k2, k3, k4, k5, k6, k7⟩ := hu2
        unfold okN at hxo
        obtain ⟨o1, o2, o3⟩ := hxo
        obtain ⟨b2, off2, rfl, _, hb2, hc2⟩ := k4 o1
        obtain ⟨d, hd⟩ : ∃ d, d = D[0] := ⟨_, rfl⟩
        have hdl : d < g.length := hd ▸ o2 _ (List.getElem_mem o1)
        have hhd : D.headD 0 = d := by
          cases D with
          | nil => simp at o1
          | cons y ys => rw [hd]; rfl
        have hta := fun w => tassert_part b w
        have htb := fun w => assert_part b w
        obtain ⟨nm, hnm⟩ : ∃ nm, nm = nthName g d := ⟨_, rfl⟩
        have x1 : wr.cell? ⟨nb NB d, 1, none⟩ = some (.string nm) := by
          have := ((HN.out d hdl).below HT.out.below (HN.out d hdl).lt).cell 1
          rw [hnm, nthName_at hdl]; simpa using this
        have hK2 := (k2.below HT.out.below k2.lt)
        have x2 := hK2.cell 1
        have x3 : wr.cell? ⟨b2, off2, none⟩ = some (nptr NB d) := by
          rw [HT.out.below.cell (p := ⟨b2, off2, none⟩) hb2, hd]
          exact hc2 0 o1
        have hDi : (0 : Int) < D.length := by omega
        have hWn : wtL W < n := by rw [wtN_part] at hxw; have := HWT.out; omega
        rw [txN_part, hhd, ← hnm] at HSN hbd
        rw [ByteArray.size_append, ByteArray.size_append, ByteArray.size_append] at hbd
        have hz1 : (⟨#[123]⟩ : ByteArray).size = 1 := rfl
        have hz2 : (⟨#[125]⟩ : ByteArray).size = 1 := rfl
        have zc : (⟨#[123]⟩ : ByteArray).size + nm.size ≤ 1048576 := by omega
        obtain ⟨op, hop⟩ : ∃ op, op = (⟨#[123]⟩ : ByteArray) ++ nm := ⟨_, rfl⟩
        have hops : op.size = 1 + nm.size := by rw [hop, ByteArray.size_append, hz1]
        have HW := Lib.hid (fun w (h : TxAt w0 b1 w) => h.write op (by omega))
        have HR := Lib.hid (fun w (h : TxAt w0 (b1 ++ op) w) => HIH.out (wtL W) hWn W A3 c3 (b1 ++ op) w (Nat.le_refl _) o3 ⟨vs, k5, k6, k7⟩ h (by rw [ByteArray.size_append]; omega))
        have HW3 := Lib.hid (fun w (h : TxAt w0 (b1 ++ op ++ txL g W) w) => h.write ⟨#[125]⟩ (by rw [ByteArray.size_append, ByteArray.size_append, hz2]; omega))
        have HB0 := Lib.hid k2
        have HSN2 := Lib.hid (show bs ++ txL g (items.take (j + 1)) = b1 ++ op ++ txL g W ++ ⟨#[125]⟩ by rw [HSN.out, ← hop]; simp only [ba_append_assoc])
        clear hd hhd hnm k1 k2 k3 k4 k5 k6 k7 o2 o3 hc2 hK2 hbd hops hxw hWn hxm
        rw [hop] at HW
        go_wp2_with fail
        refine (HW.out _ HT.out).mono ?_
        rintro e w2 ⟨rfl, hT2⟩
        rw [← hop] at hT2
        have HT2 := Lib.hid hT2
        have y1 := hT2.fn
        have y2 := (HB0.out.below hT2.below HB0.out.lt).cell 2
        clear hT2 hop
        unfold writeV at y1
        have HR2 := Lib.hid (HR.out w2.drew HT2.out.drew)
        go_wp2_with fail
        go_region_with (go_at_call 71; refine HR2.out.mono ?_; rintro e w3 ⟨rfl, hT3⟩)
        all_goals
          have HT3 := Lib.hid hT3
          clear hT3
          go_wp2_with fail
          refine (HW3.out _ HT3.out).mono ?_
          rintro e w4 ⟨rfl, hT4⟩
          have HT4 := Lib.hid hT4
          clear hT4
          go_wp2_with fail
          go_roundw
          case rel => exact ⟨j + 1, by omega, by go_num, by rw [HSN2.out]; exact HT4.out⟩
          case measure => simp [intOf]; omega
    · have HE := Lib.hid (show TxAt w0 (bs ++ txL g items) wr by have := HT.out; rwa [List.take_of_length_le (by omega)] at this)
      go_wp2_with fail
      refine bodyPost_end (results_none rfl _ _ _) rfl ?_
      exact ⟨rfl, HE.out⟩
theorem text1_any (w0 : World) (NB : Nat) (g : List Bl) (K : Nat → Prop) (hv : validB g = true) (hN : NodesIn w0 NB g) : ∀ n, TxGoes w0 NB g K n := fun n => Nat.strongRecOn n fun n ih => text1_step w0 NB g K hv hN n ih

set_option maxRecDepth 100000 in
theorem text_any (TB NB : Nat) (g : List Bl) (K : Nat → Prop) (w : World) (hv : validB g = true) (hT : NestR w TB NB g K) (hsz : (txL g (nestG g)).size ≤ 100000) (hok : okL g (nestG g)) :
    Calls Tryz.prog 53 #[.pointer (some ⟨TB, 0, none⟩)] w fun e w' => e = .returned (.string (txL g (nestG g))) ∧ Below w.heap.size w w' := by
  obtain ⟨A, cap, I, ic, hB, _, hI⟩ := hT.blk
  have HX := Lib.hid (text1_any w NB g K hv hT.nodes (wtL (nestG g)) (nestG g) I ic ⟨#[]⟩)
  have HI := Lib.hid hI
  have HOK := Lib.hid hok
  have HBL := Lib.hid hB
  have hW0 : TxAt w ⟨#[]⟩ ((w.alloc (.cells #[.pointer none, .slice none 0 0] 92)).alloc (.cells #[writeV w.heap.size] 98)) := by
    have b1 := (Below.refl w.heap.size w).alloc (Nat.le_refl _) (.cells #[.pointer none, .slice none 0 0] 92)
    have b2 := b1.alloc b1.size (.cells #[writeV w.heap.size] 98)
    have hs : (w.alloc (.cells #[.pointer none, .slice none 0 0] 92)).heap.size = w.heap.size + 1 := by rw [World.size_alloc]
    have hb : Below (w.alloc (.cells #[.pointer none, .slice none 0 0] 92)).heap.size (w.alloc (.cells #[.pointer none, .slice none 0 0] 92)) ((w.alloc (.cells #[.pointer none, .slice none 0 0] 92)).alloc (.cells #[writeV w.heap.size] 98)) := (Below.refl _ _).alloc (Nat.le_refl _) _
    have hn := bdK_new (keptT w.heap.size) w
    refine ⟨b2, hn.kept (hb.block _ hn.lt) (fun k hk hn => ⟨hb.block k hk, hn⟩), ?_, by rw [World.size_alloc]; omega⟩
    have := (Blk.new (w.alloc (.cells #[.pointer none, .slice none 0 0] 92)) 98 #[writeV w.heap.size]).cell 0
    rw [hs] at this
    exact this
  unfold writeV at hW0
  obtain ⟨wa, hwa⟩ : ∃ wa, wa = ((w.alloc (.cells #[.pointer none, .slice none 0 0] 92)).alloc (.cells #[.func (.func 71) #[] #[.pointer (some ⟨w.heap.size, 0, none⟩), .pointer (some ⟨w.heap.size + 1, 0, none⟩)]] 98)) := ⟨_, rfl⟩
  rw [← hwa] at hW0
  have HW0 := Lib.hid hW0
  have y1 := hW0.fn
  unfold writeV at y1
  have y2 := (hB.below hW0.below hB.lt).cell 1
  have HR2 := Lib.hid (HX.out wa.drew (Nat.le_refl _) HOK.out HI.out hW0.drew (by rw [show (⟨#[]⟩ : ByteArray).size = 0 from rfl]; omega))
  rw [ba_empty_append] at HR2
  clear hB hI hT hW0 hsz hok
  go_enter Tryz.func53, Tryz.ntmps53
  go_wp2_with fail
  rw [← hwa]
  clear hwa
  go_region_with (go_at_call 71; refine HR2.out.mono ?_; rintro e w3 ⟨rfl, hT3⟩)
  all_goals
    have HT3 := Lib.hid hT3
    have HS := Lib.hid (string_any w.heap.size w.heap.size (txL g (nestG g)) w3 hT3.bld.bd hT3.below.size)
    clear hT3
    go_wp2_with fail
    refine HS.out.mono ?_
    rintro e w4 ⟨rfl, hb4⟩
    have HB4 := Lib.hid (HT3.out.below.trans hb4)
    clear hb4
    go_wp2_with fail
    go_ret
    exact ⟨rfl, HB4.out⟩

/-- What NestOf returns. -/
def nestV (g : List Bl) : ByteArray := if nestedB g then txL g (nestG g) else ⟨#[]⟩
theorem nestG_ok {g : List Bl} (hv : validB g = true) : okL g (nestG g) := nest_ok hv 26 (reachS g) fun _ hx => ⟨reachS_lt hv hx, (mem_reachP hv).1 hx⟩
theorem nestG_size {g : List Bl} (hv : validB g = true) : (txL g (nestG g)).size ≤ 100000 := by
  have h1 := txL_wt hv (nestG_ok hv)
  have h2 := nestG_wt hv
  omega
set_option maxRecDepth 100000 in
theorem implNestOf_any (A : Option Addr) (cap : Nat) (g : List Bl) (w : World) (hg : Gr w A g) (hn : g.length + tot g ≤ 1048576) :
    Calls Tryz.prog 29 #[.slice A g.length cap] w fun e w' => e = .returned (.tuple #[.string (nestV g), .bool (nestedB g)]) ∧ Below w.heap.size w w' := by
  have HC := Lib.hid (nestOf_any A cap g w hg hn)
  clear hg
  go_enter Tryz.func29, Tryz.ntmps29
  go_wp2_with fail
  refine HC.out.mono ?_
  rintro e w1 ⟨TB, rfl, hT, b1⟩
  have HB1 := Lib.hid b1
  have HT := Lib.hid hT
  have HO := Lib.hid (broken_all TB g w1 hT)
  clear b1 hT
  cases hv : validB g with
  | false =>
    have hne : nestedB g = false := by unfold nestedB; rw [hv]; rfl
    have HE := Lib.hid hne
    have HV := Lib.hid (show nestV g = ⟨#[]⟩ by unfold nestV; rw [hne]; rfl)
    clear hv hne
    go_wp2_with fail
    go_ret2
    exact ⟨by rw [HE.out, HV.out]; rfl, HB1.out⟩
  | true =>
    have HVV := Lib.hid hv
    clear hv
    go_wp2_with fail
    refine HO.out.mono ?_
    rintro e w2 ⟨v, rfl, hx, b2⟩
    have HB2 := Lib.hid (HB1.out.trans (b2.mono HB1.out.size))
    have HK2 := Lib.hid b2
    clear b2
    cases ho : brokenV g with
    | none =>
      rw [ho] at hx
      unfold PartX at hx
      subst hx
      have hne : nestedB g = true := by unfold nestedB; rw [HVV.out, ho]; rfl
      have HE := Lib.hid hne
      have HV := Lib.hid (show nestV g = txL g (nestG g) by unfold nestV; rw [hne]; rfl)
      have hneq := fun w => run_neq_nil_ptr2 (P := Tryz.prog) w Tryz.underlying61
      obtain ⟨NB, K, hR⟩ : ∃ NB K, NestR w1 TB NB g K := by
        rcases HT.out with ⟨_, NB, K, h⟩ | ⟨h, _⟩
        · exact ⟨NB, K, h⟩
        · rw [HVV.out] at h; cases h
      have HX := Lib.hid (text_any TB NB g K w2 HVV.out (hR.below HK2.out) (nestG_size HVV.out) (nestG_ok HVV.out))
      clear ho hne hR
      go_wp2_with fail
      refine HX.out.mono ?_
      rintro e w3 ⟨rfl, b3⟩
      have HB3 := Lib.hid (HB2.out.trans (b3.mono HB2.out.size))
      clear b3
      go_wp2_with fail
      go_ret2
      exact ⟨by rw [HE.out, HV.out]; rfl, HB3.out⟩
    | some r =>
      rw [ho] at hx
      unfold PartX at hx
      obtain ⟨b, NB, K, rfl, _⟩ := hx
      have hne : nestedB g = false := by unfold nestedB; rw [HVV.out, ho]; rfl
      have HE := Lib.hid hne
      have HV := Lib.hid (show nestV g = ⟨#[]⟩ by unfold nestV; rw [hne]; rfl)
      have hneq := fun w => run_neq_ptr_nil (P := Tryz.prog) w (b := ⟨b, 0, none⟩) Tryz.underlying61
      clear ho hne
      go_wp2_with fail
      go_ret2
      exact ⟨by rw [HE.out, HV.out]; rfl, HB2.out⟩
end Go.Proofs.YtdpjdhllaokbfaaGreat
