import Derived.Test.YtlkfakdghjaoaaaGreatDoorMakeJump
set_option maxRecDepth 100000
set_option maxHeartbeats 3200000
namespace Go.Proofs.YtlkfakdghjaoaaaGreatDoor
open Go.RowKit Go.Sort Go.Shelf
variable {x : Fix}
theorem mq (hx : FixOk x) {m : Nat} (hBO : iF x m) (n t : Nat) (fr : Fr) (fv : Value) (out : List UInt8) (P : bm) (c : Nat) (v : Value) (w : World) (hn : Rch x.g [] n) (ht : t ∈ ai x.g n) (hL : (ac x.g).length ≤ m + 1 + ah x.g n)
  (hI : InvIn x.g n [] fr) (hO : OkIn x.g n [] fr) (hM : Mkr x w v out P c) (hF : FrAt w (MX x v) x.NB fv fr) (hl : out.length + (aT x.g (aw x.g m) n t fr).length ≤ 100000) (hc : c + (cG x.g (dw x.g m) n t fr).length ≤ 100000)
  (B0 : Nat) (h0 : w.cell? ⟨B0, 0, none⟩ = some (.pointer (some ⟨x.M, 0, none⟩))) (h1 : w.cell? ⟨B0 + 1, 0, none⟩ = some (ag x.NB n)) (h2 : w.cell? ⟨B0 + 2, 0, none⟩ = some fv) :
  Calls Tryz.prog 200 #[ag x.NB t, .pointer (some ⟨B0, 0, none⟩), .pointer (some ⟨B0 + 1, 0, none⟩), .pointer (some ⟨B0 + 2, 0, none⟩)] w (my x w v out P c (aT x.g (aw x.g m) n t fr) (cG x.g (dw x.g m) n t fr)) := by
 have HJ := GR (Bx hx hBO n t fr fv out P c v w hn ht hL hI hO hM hF hl hc)
 clear hM hF hI hO hBO
 go_enter Tryz.func200, Tryz.ntmps200
 go_wp2_with fail
 refine HJ.out.mono ?_
 rintro e w5 ⟨rfl, v5, hM5, hT5⟩
 have HM5 := GR hM5
 have HT5 := GR hT5
 clear hM5 hT5
 go_wp2_with fail
 go_end0
 exact ⟨rfl, v5, HM5.out, HT5.out⟩
theorem Bs (w : World) : (Instr.typeAssert (.iface 230 (.agg #[])) 99 191 true).run Tryz.prog w = .ok (.tuple #[.agg #[.pointer none], .bool false]) w := by kernel_rfl
theorem xD (w : World) : (Instr.typeAssert (.iface 230 (.agg #[])) 99 193 true).run Tryz.prog w = .ok (.tuple #[.agg #[.pointer none, .pointer none], .bool false]) w := by kernel_rfl
theorem Bt (u : Value) (w : World) : (Instr.typeAssert (.iface 191 (.agg #[u])) 99 191 true).run Tryz.prog w = .ok (.tuple #[.agg #[u], .bool true]) w := by kernel_rfl
theorem xE (u u' : Value) (w : World) : (Instr.typeAssert (.iface 193 (.agg #[u, u'])) 99 191 true).run Tryz.prog w = .ok (.tuple #[.agg #[.pointer none], .bool false]) w := by kernel_rfl
theorem un (u u' : Value) (w : World) : (Instr.typeAssert (.iface 193 (.agg #[u, u'])) 99 193 true).run Tryz.prog w = .ok (.tuple #[.agg #[u, u'], .bool true]) w := by kernel_rfl
theorem MT.stay {w w' : World} {v v' : Value} (h : MT x w v w' v') {k : Nat} (hk : k < w.heap.size) (hn : ¬ MX x v k) : w'.heap[k]? = w.heap[k]? ∧ ¬ MX x v' k := by
 refine ⟨h.1.block k hk hn, fun e => hn ?_⟩
 rcases e with e | e | e
 ·exact .inl e
 ·exact .inr (.inl e)
 ·rcases h.2 with q | ⟨j, q, hj⟩
  ·exact .inr (.inr (q ▸ e))
  ·rw [q] at e
   injection e with e
   omega
structure Boxes (x : Fix) (w : World) (v : Value) (B0 n : Nat) (fv : Value) : Prop where
 k0 : Blk w B0 54 #[.pointer (some ⟨x.M, 0, none⟩)]
 k1 : Blk w (B0 + 1) 95 #[ag x.NB n]
 k2 : Blk w (B0 + 2) 198 #[fv]
 n0 : ¬ MX x v B0
 n1 : ¬ MX x v (B0 + 1)
 n2 : ¬ MX x v (B0 + 2)
theorem Boxes.made {w w' : World} {v v' : Value} {B0 n : Nat} {fv : Value} (h : Boxes x w v B0 n fv) (hT : MT x w v w' v') : Boxes x w' v' B0 n fv :=
 ⟨(hT.stay h.k0.lt h.n0).1.trans h.k0, (hT.stay h.k1.lt h.n1).1.trans h.k1, (hT.stay h.k2.lt h.n2).1.trans h.k2, (hT.stay h.k0.lt h.n0).2, (hT.stay h.k1.lt h.n1).2, (hT.stay h.k2.lt h.n2).2⟩
structure InBare (x : Fix) (w0 : World) (v0 : Value) (w : World) (out : List UInt8) (P : bm) (c B0 n : Nat) (fv : Value) (fr : Fr) (E : Nat × TypeId × Array Value) (v : Value) : Prop where
 mkr : Mkr x w v out P c
 bx : Boxes x w v B0 n fv
 fr : FrAt w (MX x v) x.NB fv fr
 mt : MT x w0 v0 w v
 ex : Blk w E.1 E.2.1 E.2.2
 en : ¬ MX x v E.1
theorem InBare.made {w0 w w' : World} {v0 v v' : Value} {out out' : List UInt8} {P P' : bm} {c c' B0 n : Nat} {fv : Value} {fr : Fr} {E : Nat × TypeId × Array Value} (h : InBare x w0 v0 w out P c B0 n fv fr E v) (hm : Mkr x w' v' out' P' c') (hT : MT x w v w' v') : InBare x w0 v0 w' out' P' c' B0 n fv fr E v' :=
 ⟨hm, h.bx.made hT, h.fr.made hT, h.mt.trans hT, (hT.stay h.ex.lt h.en).1.trans h.ex, (hT.stay h.ex.lt h.en).2⟩
theorem InBare.below {w0 w w' : World} {v0 v : Value} {out : List UInt8} {P : bm} {c B0 n : Nat} {fv : Value} {fr : Fr} {E : Nat × TypeId × Array Value} (h : InBare x w0 v0 w out P c B0 n fv fr E v) (hb : Below w.heap.size w w') : InBare x w0 v0 w' out P c B0 n fv fr E v :=
 h.made (h.mkr.below hb) (.below hb)
theorem InBare.cells {w0 w : World} {v0 v : Value} {out : List UInt8} {P : bm} {c B0 n : Nat} {fv : Value} {fr : Fr} {E : Nat × TypeId × Array Value} (hx : FixOk x) (hn : n < x.g.length) (h : InBare x w0 v0 w out P c B0 n fv fr E v) :
  w.cell? ⟨B0, 0, none⟩ = some (.pointer (some ⟨x.M, 0, none⟩)) ∧ w.cell? ⟨B0 + 1, 0, none⟩ = some (ag x.NB n) ∧ w.cell? ⟨B0 + 2, 0, none⟩ = some fv ∧ w.cell? ⟨nb x.NB n, 1, none⟩ = some (.string (cy x.g n)) ∧ w.cell? ⟨nb x.NB n, 2, none⟩ = some (ends x.NB x.g n) := by
 have hnd := h.mkr.nodes hx n hn
 have hnm := eM hx.valid hn
 rw [al hn] at hnm
 refine ⟨h.bx.k0.cell 0, h.bx.k1.cell 0, h.bx.k2.cell 0, ?_, hnd.cell 2⟩
 rw [← hnm]
 exact hnd.cell 1
theorem InBare.other {w0 w : World} {v0 v : Value} {out : List UInt8} {P : bm} {c B0 n : Nat} {fv : Value} {fr : Fr} {E E' : Nat × TypeId × Array Value} (h : InBare x w0 v0 w out P c B0 n fv fr E v) (hE : Blk w E'.1 E'.2.1 E'.2.2) (hn : ¬ MX x v E'.1) :
  InBare x w0 v0 w out P c B0 n fv fr E' v := ⟨h.mkr, h.bx, h.fr, h.mt, hE, hn⟩
theorem InBare.write {w0 w : World} {v0 v : Value} {out : List UInt8} {P : bm} {c B0 n : Nat} {fv : Value} {fr : Fr} {E : Nat × TypeId × Array Value} (hx : FixOk x) (h : InBare x w0 v0 w out P c B0 n fv fr E v) (s : ByteArray) (hl : out.length + s.size ≤ 1048576) (k : Nat) :
  Calls Tryz.prog 57 #[.pointer (some ⟨x.M, 3, none⟩), .string s] (w.drewN k) fun e w' => e = .returned (.tuple #[.int .i64 s.size, .nilIface]) ∧ ∃ v', InBare x w0 v0 w' (out ++ s.data.toList) P c B0 n fv fr E v' := by
 have h' := h.below (ab w k)
 refine (iE hx h'.mkr s hl).mono ?_
 rintro e w' ⟨rfl, v', hM, hT⟩
 exact ⟨rfl, v', h'.made hM hT⟩
theorem Bu (hx : FixOk x) {m : Nat} (hBO : iF x m) (n : Nat) (fr : Fr) (fv : Value) (out : List UInt8) (P : bm) (c : Nat) (v : Value) (w : World) (hn : Rch x.g [] n) (hL : (ac x.g).length ≤ m + 1 + ah x.g n)
  (hI : InvIn x.g n [] fr) (hO : OkIn x.g n [] fr) (hM : Mkr x w v out P c) (hF : FrAt w (MX x v) x.NB fv fr) (hl : out.length + (dM x.g (aw x.g m) n fr).length ≤ 100000) (hc : c + (gp x.g (dw x.g m) n fr).length ≤ 100000) :
  Calls Tryz.prog 173 #[.pointer (some ⟨x.M, 0, none⟩), ag x.NB n, fv] w (my x w v out P c (dM x.g (aw x.g m) n fr) (gp x.g (dw x.g m) n fr)) := by
 have hv := hx.valid
 have hnl := hn.lt hv
 obtain ⟨fa, fc, rfl⟩ := hF.slice
 obtain ⟨W0, hW0⟩ : ∃ W0, W0 = ((w.alloc (.cells #[.pointer (some ⟨x.M, 0, none⟩)] 54)).alloc (.cells #[ag x.NB n] 95)).alloc (.cells #[.slice fa fr.length fc] 198) := ⟨_, rfl⟩
 have HW0 := GR hW0
 have hs1 : (w.alloc (.cells #[.pointer (some ⟨x.M, 0, none⟩)] 54)).heap.size = w.heap.size + 1 := by simp
 have hs2 : ((w.alloc (.cells #[.pointer (some ⟨x.M, 0, none⟩)] 54)).alloc (.cells #[ag x.NB n] 95)).heap.size = w.heap.size + 2 := by simp
 have k0 : Blk W0 w.heap.size 54 #[.pointer (some ⟨x.M, 0, none⟩)] := by rw [hW0]; exact ((Blk.new w _ _).alloc _).alloc _
 have k1 : Blk W0 (w.heap.size + 1) 95 #[ag x.NB n] := by rw [hW0]; exact (Blk.newAt _ _ hs1.symm).alloc _
 have k2 : Blk W0 (w.heap.size + 2) 198 #[.slice fa fr.length fc] := by rw [hW0]; exact Blk.newAt _ _ hs2.symm
 have hb0 : Below w.heap.size w W0 := by rw [hW0]; exact (((Below.refl _ _).alloc (Nat.le_refl _) _).alloc (by rw [hs1]; omega) _).alloc (by rw [hs2]; omega) _
 have hz0 : W0.heap.size = w.heap.size + 3 := by rw [hW0]; simp
 have hxv : ∀ k, w.heap.size ≤ k → ¬ MX x v k := fun k hk e => by have := hM.lt k e; omega
 have HIB := GR (fun W (hb : Below W0.heap.size W0 W) (E : Nat × TypeId × Array Value) (hE : Blk W E.1 E.2.1 E.2.2) (hn : w.heap.size ≤ E.1) => show InBare x w v W out P c w.heap.size n (.slice fa fr.length fc) fr E v from
  (⟨hM.below hb0, ⟨k0, k1, k2, hxv _ (Nat.le_refl _), hxv _ (by omega), hxv _ (by omega)⟩, hF.below hb0, .below hb0, k0, hxv _ (Nat.le_refl _)⟩ : InBare x w v W0 out P c w.heap.size n (.slice fa fr.length fc) fr (w.heap.size, 54, #[.pointer (some ⟨x.M, 0, none⟩)]) v).below hb |>.other hE (hxv _ hn))
 have hk0 := k0
 have HI := GR hI
 have HO := GR hO
 have HBO := GR hBO
 clear hW0 k0 k1 k2 hs1 hs2 hM hF hI hO hBO hxv hb0
 have HIB0 := GR (HIB.out W0 (Below.refl _ _) (w.heap.size, 54, #[.pointer (some ⟨x.M, 0, none⟩)]) hk0 (Nat.le_refl _))
 clear hk0
 obtain ⟨c0, c1, c2, n1, n2⟩ := HIB0.out.cells hx hnl
 rcases sg (NB := x.NB) hnl (goes hv hnl) with ⟨hnx, he⟩ | ⟨p, hp, hnx, he⟩ | ⟨p, q, hp, hq, hnx, he⟩
 ·rw [he] at n2
  rw [mD hnx] at hl ⊢
  rw [jH hnx]
  simp only [List.length_cons, List.length_nil] at hl
  have HWR := GR (HIB0.out.write hx (cy x.g n ++ ⟨#[46]⟩) (by rw [ByteArray.size_append]; show out.length + (1 + 1) ≤ _; omega))
  have hq5 : ¬ 9223372036854775807 < (cy x.g n).size + 1 := by show ¬ 9223372036854775807 < 1 + 1; decide
  clear he hnx HI HO HBO
  have a1 := Bs
  have a2 := xD
  go_enter Tryz.func173, Tryz.ntmps173
  go_upto_region 1 with fail
  rw [← HW0.out]
  go_wp2_with fail
  go_region_law (first
   | (go_simp; go_at_call 57; refine Calls.mono (HWR.out 1) ?_; rintro e w5 ⟨rfl, v5, h5⟩)
   | fail)
  all_goals
   have H5 := GR h5
   clear h5
   go_wp2_with fail
   go_end0
   refine ⟨rfl, v5, ?_, H5.out.mt⟩
   have e5 : (cy x.g n ++ ⟨#[46]⟩).data.toList = [au x.g n, 46] := by simp [cy]
   rw [← e5]
   exact H5.out.mkr
 ·rw [he] at n2
  rw [nU hnx] at hl ⊢
  rw [kH hnx] at hc ⊢
  simp only [List.length_cons] at hl
  obtain ⟨W1, hW1⟩ : ∃ W1, W1 = W0.alloc (.cells #[ag x.NB p] 191) := ⟨_, rfl⟩
  have HW1 := GR hW1
  have kE : Blk W1 (w.heap.size + 3) 191 #[ag x.NB p] := by rw [hW1]; exact Blk.newAt _ _ hz0.symm
  have HIB1 := GR (HIB.out W1 (by rw [hW1]; exact (Below.refl _ _).alloc (Nat.le_refl _) _) (w.heap.size + 3, 191, #[ag x.NB p]) kE (by show w.heap.size ≤ w.heap.size + 3; omega))
  clear hW1 kE HIB HIB0
  obtain ⟨d0, d1, d2, m1, m2⟩ := HIB1.out.cells hx hnl
  have HWR := GR (HIB1.out.write hx (cy x.g n) (by show out.length + 1 ≤ _; omega))
  have HJT := GR (fun w5 v5 (h : InBare x w v w5 (out ++ [au x.g n]) P c w.heap.size n (.slice fa fr.length fc) fr (w.heap.size + 3, 191, #[ag x.NB p]) v5) =>
   mq hx HBO.out n p fr (.slice fa fr.length fc) (out ++ [au x.g n]) P c v5 w5 hn (by rw [hnx]; simp) hL HI.out HO.out h.mkr h.fr (by rw [List.length_append]; simp only [List.length_cons, List.length_nil]; omega) hc w.heap.size (h.cells hx hnl).1 (h.cells hx hnl).2.1 (h.cells hx hnl).2.2.1)
  clear he hnx HI HO HBO
  have a1 := Bt (ag x.NB p)
  go_enter Tryz.func173, Tryz.ntmps173
  go_upto_region 1 with fail
  rw [← HW0.out]
  go_wp2_with fail
  rw [← HW1.out]
  go_region_law (first
   | (go_simp; go_at_call 57; refine Calls.mono (HWR.out 1) ?_; rintro e w5 ⟨rfl, v5, h5⟩)
   | fail)
  all_goals
   have h5' : InBare x w v w5 (out ++ [au x.g n]) P c w.heap.size n (.slice fa fr.length fc) fr (w.heap.size + 3, 191, #[ag x.NB p]) v5 := h5
   have cE : w5.cell? ⟨w.heap.size + 3, 0, none⟩ = some (ag x.NB p) := h5'.ex.cell 0
   have H5 := GR h5'
   have HC5 := GR (HJT.out w5 v5 h5')
   clear h5 h5'
   go_wp2_with fail
   refine HC5.out.mono ?_
   rintro e w6 ⟨rfl, v6, hM6, hT6⟩
   have HM6 := GR hM6
   have HT6 := GR hT6
   clear hM6 hT6
   go_wp2_with fail
   go_end0
   refine ⟨rfl, v6, ?_, H5.out.mt.trans HT6.out⟩
   have hM6 := HM6.out
   rw [List.append_assoc] at hM6
   exact hM6
 ·rw [he] at n2
  rw [nV hnx] at hl ⊢
  rw [kI hnx] at hc ⊢
  rw [List.length_append] at hc
  simp only [List.length_cons, List.length_append, List.length_nil] at hl
  obtain ⟨J1, hJ1⟩ : ∃ J1, J1 = aT x.g (aw x.g m) n p fr := ⟨_, rfl⟩
  obtain ⟨J2, hJ2⟩ : ∃ J2, J2 = aT x.g (aw x.g m) n q fr := ⟨_, rfl⟩
  obtain ⟨V1, hV1⟩ : ∃ V1, V1 = cG x.g (dw x.g m) n p fr := ⟨_, rfl⟩
  obtain ⟨V2, hV2⟩ : ∃ V2, V2 = cG x.g (dw x.g m) n q fr := ⟨_, rfl⟩
  rw [← hJ1, ← hJ2] at hl ⊢
  rw [← hV1, ← hV2] at hc ⊢
  obtain ⟨W1, hW1⟩ : ∃ W1, W1 = W0.alloc (.cells #[ag x.NB p, ag x.NB q] 193) := ⟨_, rfl⟩
  have HW1 := GR hW1
  have kE : Blk W1 (w.heap.size + 3) 193 #[ag x.NB p, ag x.NB q] := by rw [hW1]; exact Blk.newAt _ _ hz0.symm
  have HIB1 := GR (HIB.out W1 (by rw [hW1]; exact (Below.refl _ _).alloc (Nat.le_refl _) _) (w.heap.size + 3, 193, #[ag x.NB p, ag x.NB q]) kE (by show w.heap.size ≤ w.heap.size + 3; omega))
  clear hW1 kE HIB HIB0
  obtain ⟨d0, d1, d2, m1, m2⟩ := HIB1.out.cells hx hnl
  have HWR := GR (HIB1.out.write hx (⟨#[63]⟩ ++ cy x.g n ++ ⟨#[91]⟩) (by rw [ByteArray.size_append, ByteArray.size_append]; show out.length + (1 + 1 + 1) ≤ _; omega))
  have hs3 : (⟨#[63]⟩ ++ cy x.g n ++ ⟨#[91]⟩ : ByteArray).data.toList = [63, au x.g n, 91] := by simp [cy]
  rw [hs3] at HWR
  have HJT := GR (fun w5 v5 out5 P5 c5 (h : InBare x w v w5 out5 P5 c5 w.heap.size n (.slice fa fr.length fc) fr (w.heap.size + 3, 193, #[ag x.NB p, ag x.NB q]) v5) (hl5 : out5.length + J1.length ≤ 100000) (hc5 : c5 + V1.length ≤ 100000) =>
   mq hx HBO.out n p fr (.slice fa fr.length fc) out5 P5 c5 v5 w5 hn (by rw [hnx]; simp) hL HI.out HO.out h.mkr h.fr (hJ1 ▸ hl5) (hV1 ▸ hc5) w.heap.size (h.cells hx hnl).1 (h.cells hx hnl).2.1 (h.cells hx hnl).2.2.1)
  have HJU := GR (fun w5 v5 out5 P5 c5 (h : InBare x w v w5 out5 P5 c5 w.heap.size n (.slice fa fr.length fc) fr (w.heap.size + 3, 193, #[ag x.NB p, ag x.NB q]) v5) (hl5 : out5.length + J2.length ≤ 100000) (hc5 : c5 + V2.length ≤ 100000) =>
   mq hx HBO.out n q fr (.slice fa fr.length fc) out5 P5 c5 v5 w5 hn (by rw [hnx]; simp) hL HI.out HO.out h.mkr h.fr (hJ2 ▸ hl5) (hV2 ▸ hc5) w.heap.size (h.cells hx hnl).1 (h.cells hx hnl).2.1 (h.cells hx hnl).2.2.1)
  rw [← hJ1, ← hV1] at HJT
  rw [← hJ2, ← hV2] at HJU
  have hq1 : ¬ 9223372036854775807 < 1 + (cy x.g n).size := by show ¬ 9223372036854775807 < 1 + 1; decide
  have hq2 : ¬ 9223372036854775807 < 1 + (cy x.g n).size + 1 := by show ¬ 9223372036854775807 < 1 + 1 + 1; decide
  clear he hnx HI HO HBO hJ1 hJ2 hV1 hV2 hs3
  have a1 := xE (ag x.NB p) (ag x.NB q)
  have a2 := un (ag x.NB p) (ag x.NB q)
  go_enter Tryz.func173, Tryz.ntmps173
  go_upto_region 1 with fail
  rw [← HW0.out]
  go_wp2_with fail
  rw [← HW1.out]
  go_region_law (first
   | (go_simp; go_at_call 57; refine Calls.mono (HWR.out 1) ?_; rintro e w5 ⟨rfl, v5, h5⟩)
   | fail)
  all_goals
   have cE : w5.cell? ⟨w.heap.size + 3, 0, none⟩ = some (ag x.NB p) := h5.ex.cell 0
   have HC5 := GR (HJT.out w5 v5 _ P c h5 (by simp only [List.length_append, List.length_cons, List.length_nil]; omega) (by omega))
   have H5 := GR h5
   clear h5
   go_wp2_with fail
   refine HC5.out.mono ?_
   rintro e w6 ⟨rfl, v6, hM6, hT6⟩
   have h6 := H5.out.made hM6 hT6
   obtain ⟨e0, e1, e2, l1, l2⟩ := h6.cells hx hnl
   have HWS := GR (h6.write hx ⟨#[93, 91]⟩ (by simp only [List.length_append, List.length_cons, List.length_nil]; show _ + 2 ≤ _; omega))
   have H6 := GR h6
   clear hM6 hT6 h6
   go_wp2_with fail
   refine (HWS.out 0).mono ?_
   rintro e w7 ⟨rfl, v7, h7⟩
   have cE7 : w7.cell? ⟨w.heap.size + 3, 1, none⟩ = some (ag x.NB q) := h7.ex.cell 1
   obtain ⟨q0, q1, q2, r1, r2⟩ := h7.cells hx hnl
   have HC7 := GR (HJU.out w7 v7 _ (jp x.g P V1) (c + V1.length) h7 (by simp only [List.length_append]; show _ + 1 + 1 + 1 + _ + 2 + _ ≤ _; omega) (by omega))
   have H7 := GR h7
   clear h7
   go_wp2_with fail
   refine HC7.out.mono ?_
   rintro e w8 ⟨rfl, v8, hM8, hT8⟩
   have h8 := H7.out.made hM8 hT8
   obtain ⟨s0, s1, s2, t1, t2⟩ := h8.cells hx hnl
   have HWT := GR (h8.write hx ⟨#[93]⟩ (by simp only [List.length_append]; show _ + 1 + 1 + 1 + _ + 2 + _ + 1 ≤ _; omega))
   clear hM8 hT8 h8
   go_wp2_with fail
   refine (HWT.out 0).mono ?_
   rintro e w9 ⟨rfl, v9, h9⟩
   have H9 := GR h9
   clear h9
   go_wp2_with fail
   go_end0
   refine ⟨rfl, v9, ?_, H9.out.mt⟩
   have hM9 := H9.out.mkr
   rw [iT, List.length_append, ← Nat.add_assoc]
   have e9 : out ++ (63 :: au x.g n :: 91 :: (J1 ++ 93 :: 91 :: (J2 ++ [93]))) = out ++ [63, au x.g n, 91] ++ J1 ++ [93, 91] ++ J2 ++ [93] := by simp
   rw [e9]
   exact hM9
end Go.Proofs.YtlkfakdghjaoaaaGreatDoor
namespace Go.Proofs.YtlkfakdghjaoaaaGreatDoor
open Go.RowKit Go.Sort Go.Shelf
variable {x : Fix}
def dL (g : List Bl) (n c : Nat) : Bool := decide (c ∈ ak g) && decide (bF g c = some n)
theorem vq (g : List Bl) (n : Nat) : (aq g n).reverse = (ac g).filter (dL g n) := by
 unfold aq dL
 rw [List.reverse_reverse]
theorem lI (hx : FixOk x) (n : Nat) (out : List UInt8) (P0 : bm) (c : Nat) (v : Value) (w : World) (hn : Rch x.g [] n) (hM : Mkr x w v out P0 c) :
  Calls Tryz.prog 137 #[.pointer (some ⟨x.M, 0, none⟩), ag x.NB n] w fun e w' => ∃ A cap, e = .returned (.slice A (aq x.g n).reverse.length cap) ∧ PtsI w' A x.NB (aq x.g n).reverse ∧ (0 < (aq x.g n).reverse.length → ∀ b o, A = some ⟨b, o, none⟩ → w.heap.size ≤ b) ∧ (aq x.g n).reverse.length ≤ cap ∧ Below w.heap.size w w' := by
 have hv := hx.valid
 have hnl := hn.lt hv
 have hw26 : (ac x.g).length ≤ 26 := by have := bK hv; have := (aj.1 hv).2.1; omega
 have hml' : (ak x.g).length ≤ 26 := by
  have h1 : (ak x.g).length ≤ (am x.g).length := eX 2 bD
  have h2 := bO hv
  omega
 have hmlt : ∀ i ∈ ak x.g, i < x.g.length := dP 2 bD
 obtain ⟨ip, hip, hz0, hz1, hz2⟩ := info_parts f7
 obtain ⟨jt, hjt, hjs⟩ := Option.map_eq_some_iff.1 qK
 have HJS := GR hjs
 have HM := GR hM
 have HV := GR hv
 have HML := GR hmlt
 have c0 := hM.cells.1
 have c1 := (hM.order hx).store.cell 0
 have c2 : w.cell? ⟨x.WB, 1, none⟩ = some (.slice x.A (ac x.g).length x.cap) := (hM.order hx).store.cell 1
 have hwp : 0 < (ac x.g).length := by
  have := (aA hv).2 (Rch.start (by simp) : Rch x.g [] 0)
  exact List.length_pos_of_mem this
 obtain ⟨rb, ro, hA, _⟩ := (hM.order hx).at_ hwp
 rw [hA] at c2
 have HA := GR hA
 clear hA hM hv hjs hmlt
 go_enter Tryz.func137, Tryz.ntmps137
 go_wp2_with fail
 go_loopw [5, 16] (fun pv iv wr => ∃ (k : Nat) (P : List Nat), k ≤ (ac x.g).length ∧ iv = .int .i64 k ∧ Hid (P = ((ac x.g).take k).filter (dL x.g n)) ∧ wr.ownsRow w.heap.size 95 1 pv P.length (P.map (ag x.NB)) ∧ Below w.heap.size w wr) (fun _ iv _ => (ac x.g).length - (intOf iv).toNat)
 case atStart => exact ⟨0, [], Nat.zero_le _, rfl, rfl, World.ownsRow_nil _ _ _ _, Below.refl _ _⟩
 case round =>
  obtain ⟨k, P, hk, rfl, HP, hown, hB⟩ := hrel
  have hPl : P.length ≤ k := by
   rw [HP.out]
   have := List.length_filter_le (dL x.g n) ((ac x.g).take k)
   have := List.length_take_le k (ac x.g)
   omega
  have HMB := GR (HM.out.below hB)
  have HB := GR hB
  have hsz0 := hB.size
  have HOWN := GR hown
  clear hB hown
  by_cases hlt : k < (ac x.g).length
  ·obtain ⟨y, hy⟩ : ∃ y, y = (ac x.g)[k] := ⟨_, rfl⟩
   have hyr : Rch x.g [] y := (aA HV.out).1 (hy ▸ List.getElem_mem hlt)
   have hyl := hyr.lt HV.out
   have HOR := GR (HMB.out.order hx)
   obtain ⟨rb', ro', hA', hrow⟩ := HOR.out.at_ hlt
   rw [← hy] at hrow
   have hA2 := HA.out.symm.trans hA'
   injection hA2 with hA2
   injection hA2 with hb1 hb2
   subst hb1
   subst hb2
   clear hA'
   have x0 := HOR.out.index hyl
   have cp := HOR.out.tree.parent HV.out hyr
   have d0 := HMB.out.cells.1
   have d2 := HMB.out.cells.2.2.1
   have d1 := HOR.out.store.cell 0
   have HFT := GR (eO (p := dL x.g n) hlt)
   have HCN := GR (fun j => Calls.quiet_of_same ((jo x.mA x.mc (ak x.g) x.NB x.g y (wr.drewN j) (HMB.out.below (ab wr j)).mt (by omega) ((HMB.out.below (ab wr j)).nodes hx) HML.out hyl).mono fun _ _ ⟨p, q⟩ => ⟨p, q.symm⟩))
   have HY := GR hy
   have HYR := GR hyr
   have a0 : (0 : Int) ≤ (y : Int) := by omega
   have a1 : (y : Int) < 26 := by have := (aj.1 HV.out).2.1; omega
   have a2 : y < 26 := by omega
   clear hy hyr
   by_cases hq : bF x.g y = some n
   ·rw [hq] at cp
    have cp' : wr.cell? ⟨x.tb, 27 + y, none⟩ = some (ag x.NB n) := cp
    have heq := fun w => run_eql_ptr_same (P := Tryz.prog) w ⟨nb x.NB n, 0, none⟩ Tryz.underlying95 hjt
    clear cp
    by_cases hm : y ∈ ak x.g
    ·rw [decide_eq_true hm] at HCN
     have tC := HCN.out
     have HP2 := GR (show P ++ [y] = ((ac x.g).take (k + 1)).filter (dL x.g n) by
      rw [HFT.out, ← HY.out, show dL x.g n y = true by unfold dL; rw [decide_eq_true hm, decide_eq_true hq]; rfl, if_pos rfl, HP.out])
     clear hq hm HCN
     go_wp2_with fail
     go_quiet (with_reducible exact tC _)
     have HO6 := GR (aW HOWN.out (ab wr nq))
     have HB6 := GR (HB.out.trans ((ab wr nq).mono HB.out.size))
     obtain ⟨wq, hwq⟩ : ∃ wq, wq = wr.drewN nq := ⟨_, rfl⟩
     rw [← hwq] at HO6 HB6 ⊢
     have hszq := HB6.out.size
     clear hwq heq x0 cp' HOWN HB tC
     go_wp2_with (at_builtin; refine wpList_append_own _ rfl _ _ 58 rfl w.heap.size 95 ip (.pointer none) 1 8 Tryz.underlying58 hip hz0 hz1 hz2 rfl (by decide) _ _ _ rfl (HO6.out.alloc _) ⟨wq.heap.size, 0, none⟩ 1 1 [ag x.NB y] rfl rfl ?c1 ?c2 ?c3 ?c4 ?c5 ?_)
     case c1 =>
      intro j u hj
      match j, hj with
      | 0, hj =>
       have hu : ag x.NB y = u := by simpa using hj
       rw [← hu]
       simp [Addr.add]
     case c2 => intro u hu; have hu' : u = ag x.NB y := by simpa using hu
                subst hu'; rfl
     case c3 => unfold maxLen; omega
     case c4 => omega
     case c5 => simp; omega
     intro v' w5 hown' hgrow _
     have hsz := (HO6.out.alloc (.cells #[ag x.NB y] 95)).lt
     have hB5 := (HB6.out.alloc hszq (.cells #[ag x.NB y] 95)).grown hgrow (by simp; omega) (fun j hj => (hsz j hj).1)
     have HO5 := GR (nE hown')
     have HB5 := GR hB5
     clear hown' hsz hgrow hB5
     go_wp2_with fail
     go_roundw
     case rel => exact ⟨k + 1, P ++ [y], by omega, by go_num, HP2.out, HO5.out, HB5.out⟩
     case measure => simp [intOf]; omega
    ·rw [decide_eq_false hm] at HCN
     have tC := HCN.out
     have HP2 := GR (show P = ((ac x.g).take (k + 1)).filter (dL x.g n) by
      rw [HFT.out, ← HY.out, show dL x.g n y = false by unfold dL; rw [decide_eq_false hm]; rfl, if_neg (by simp), List.append_nil, HP.out])
     clear hq hm HCN
     go_wp2_with fail
     go_quiet (with_reducible exact tC _)
     have HO6 := GR (aW HOWN.out (ab wr nq))
     have HB6 := GR (HB.out.trans ((ab wr nq).mono HB.out.size))
     clear heq tC
     go_wp2_with fail
     go_roundw
     case rel => exact ⟨k + 1, P, by omega, by go_num, HP2.out, HO6.out, HB6.out⟩
     case measure => simp [intOf]; omega
   ·have HP2 := GR (show P = ((ac x.g).take (k + 1)).filter (dL x.g n) by
     rw [HFT.out, ← HY.out, show dL x.g n y = false by unfold dL; rw [decide_eq_false hq, Bool.and_false], if_neg (by simp), List.append_nil, HP.out])
    clear HCN
    cases hp : bF x.g y with
    | none =>
     rw [hp] at cp
     have cp' : wr.cell? ⟨x.tb, 27 + y, none⟩ = some (.pointer none) := cp
     have heq := fun w => qv (P := Tryz.prog) w (b := ⟨nb x.NB n, 0, none⟩) Tryz.underlying95
     clear hq hp cp
     go_wp2_with fail
     go_quiet (fail)
     have HO6 := GR (aW HOWN.out (ab wr nq))
     have HB6 := GR (HB.out.trans ((ab wr nq).mono HB.out.size))
     clear heq
     go_wp2_with fail
     go_roundw
     case rel => exact ⟨k + 1, P, by omega, by go_num, HP2.out, HO6.out, HB6.out⟩
     case measure => simp [intOf]; omega
    | some p =>
     have hpn : p ≠ n := fun e => hq (by rw [hp, e])
     have hpl := ((db HV.out HYR.out).1 hp).2.1.lt HV.out
     rw [hp] at cp
     have cp' : wr.cell? ⟨x.tb, 27 + y, none⟩ = some (ag x.NB p) := cp
     have hbp := fun (m : Nat) => (show Blk (wr.drewN m) (nb x.NB p) 101 _ from HOR.out.tree.nodes p hpl)
     have hbn := fun (m : Nat) => (show Blk (wr.drewN m) (nb x.NB n) 101 _ from HOR.out.tree.nodes n hnl)
     have heq := fun m => run_eql_ptr_other (P := Tryz.prog) (wr.drewN m) Tryz.underlying95 hjt (by rw [HJS.out]; decide) (Ex hpn) (hbp m) (hbn m)
     clear hq hp cp hpn hpl hbp hbn
     go_wp2_with fail
     go_quiet (fail)
     have HO6 := GR (aW HOWN.out (ab wr nq))
     have HB6 := GR (HB.out.trans ((ab wr nq).mono HB.out.size))
     clear heq
     go_wp2_with fail
     go_roundw
     case rel => exact ⟨k + 1, P, by omega, by go_num, HP2.out, HO6.out, HB6.out⟩
     case measure => simp [intOf]; omega
  ·have HE := GR (show P = (aq x.g n).reverse by rw [HP.out, List.take_of_length_le (by omega), vq])
   go_wp2_with fail
   go_ret
   have hown := HOWN.out
   rw [HE.out] at hown
   obtain ⟨A5, cap5, rfl, hp5, hlow⟩ := jN hown
   have hcp : (aq x.g n).reverse.length ≤ cap5 := by
    rcases hown.2 with ⟨_, h0⟩ | ⟨_, _, _, e, _, _, h1, _⟩
    ·omega
    ·injection e with _ _ e
     omega
   refine ⟨A5, cap5, rfl, hp5, fun hpos b o e => ?_, hcp, HB.out⟩
   obtain ⟨B, e', h1, _⟩ := hlow hpos
   rw [e] at e'
   injection e' with e'
   injection e' with e' _
   omega
end Go.Proofs.YtlkfakdghjaoaaaGreatDoor
namespace Go.Proofs.YtlkfakdghjaoaaaGreatDoor
open Go.RowKit Go.Sort Go.Shelf
variable {x : Fix}
theorem PtsI.init {w : World} {A : Option Addr} {NB : Nat} {cs : List Nat} {y : Nat} (h : PtsI w A NB (cs ++ [y])) : PtsI w A NB cs := by
 intro hp
 obtain ⟨b, off, e, hb, hc⟩ := h (by simp)
 refine ⟨b, off, e, hb, fun k hk => ?_⟩
 have := hc k (by rw [List.length_append]; omega)
 rw [List.getElem_append_left hk] at this
 exact this
theorem iD (hx : FixOk x) {m : Nat} (hBO : iF x m) (n : Nat) (hn : Rch x.g [] n) (hL : (ac x.g).length ≤ m + 1 + ah x.g n) :
  ∀ (bs : List Nat) (fr : Fr) (fv : Value) (A : Option Addr) (cap : Nat) (out : List UInt8) (P : bm) (c : Nat) (v : Value) (w : World), bs <:+ aq x.g n → InvIn x.g n bs fr → OkIn x.g n bs fr → Mkr x w v out P c → FrAt w (MX x v) x.NB fv fr → PtsI w A x.NB bs.reverse →
  (0 < bs.length → ∀ b o, A = some ⟨b, o, none⟩ → ¬ MX x v b) → bs.length ≤ cap → out.length + (aJ x.g (aw x.g m) n bs fr).length ≤ 100000 → c + (bt x.g (dw x.g m) n bs fr).length ≤ 100000 →
  Calls Tryz.prog 136 #[.pointer (some ⟨x.M, 0, none⟩), ag x.NB n, .slice A bs.length cap, fv] w (my x w v out P c (aJ x.g (aw x.g m) n bs fr) (bt x.g (dw x.g m) n bs fr))
 | [], fr, fv, A, cap, out, P, c, v, w, hs, hI, hO, hM, hF, hP, hA, hcap, hl, hc => by
  have HB := GR (Bu hx hBO n fr fv out P c v w hn hL hI hO hM hF hl hc)
  clear hs hI hO hM hF hP hA hl hc
  rw [show aJ x.g (aw x.g m) n [] fr = dM x.g (aw x.g m) n fr from rfl, show bt x.g (dw x.g m) n [] fr = gp x.g (dw x.g m) n fr from rfl]
  rw [show ([] : List Nat).length = 0 from rfl]
  go_enter Tryz.func136, Tryz.ntmps136
  go_wp2_with fail
  refine HB.out.mono ?_
  rintro e w5 ⟨rfl, v5, hM5, hT5⟩
  have HM5 := GR hM5
  have HT5 := GR hT5
  clear hM5 hT5
  go_wp2_with fail
  go_end0
  exact ⟨rfl, v5, HM5.out, HT5.out⟩
 | y :: bs, fr, fv, A, cap, out, P, c, v, w, hs, hI, hO, hM, hF, hP, hA, hcap, hl, hc => by
  have hv := hx.valid
  have hyb : y ∈ aq x.g n := hs.subset (List.mem_cons_self ..)
  obtain ⟨hy, _, hp⟩ := (dY hv).1 hyb
  have hsrt : (y :: bs).Pairwise fun a b => ah x.g b < ah x.g a := (ij hv n).sublist hs.sublist
  have hnb : y ∉ bs := fun h => by have := (List.pairwise_cons.1 hsrt).1 y h; omega
  have hs' : bs <:+ aq x.g n := (List.suffix_cons y bs).trans hs
  have hpl := eY hv hy hp
  rw [List.reverse_cons] at hP
  obtain ⟨b, off, rfl, hb, hcell⟩ := hP (by simp)
  have hAb := hA (by simp) b off rfl
  have c0 : w.cell? ⟨b, off + bs.length, none⟩ = some (ag x.NB y) := by
   have := hcell bs.length (by simp)
   rw [List.getElem_append_right (by simp)] at this
   simpa using this
  have hfl := hO.len hv
  have hbl : bs.length ≤ 26 := by
   have h1 : (aq x.g n).length ≤ (ac x.g).length := by unfold aq; rw [List.length_reverse]; exact List.length_filter_le _ _
   have h2 := hs'.sublist.length_le
   have h3 := bK hv
   have := (aj.1 hv).2.1
   omega
  obtain ⟨W1, hW1⟩ : ∃ W1, W1 = aJ x.g (aw x.g m) n bs ((y, false) :: fr) := ⟨_, rfl⟩
  obtain ⟨T1, hT1⟩ : ∃ T1, T1 = aw x.g m y fr := ⟨_, rfl⟩
  obtain ⟨V1, hV1⟩ : ∃ V1, V1 = bt x.g (dw x.g m) n bs ((y, false) :: fr) := ⟨_, rfl⟩
  obtain ⟨U1, hU1⟩ : ∃ U1, U1 = dw x.g m y fr := ⟨_, rfl⟩
  rw [show aJ x.g (aw x.g m) n (y :: bs) fr = 40 :: (aJ x.g (aw x.g m) n bs ((y, false) :: fr) ++ 41 :: aw x.g m y fr) from rfl, ← hW1, ← hT1] at hl ⊢
  rw [show bt x.g (dw x.g m) n (y :: bs) fr = bt x.g (dw x.g m) n bs ((y, false) :: fr) ++ dw x.g m y fr from rfl, ← hV1, ← hU1] at hc ⊢
  simp only [List.length_cons, List.length_append] at hl hc
  have HIN := GR (fun fv' out' v' w' (hM' : Mkr x w' v' out' P c) (hF' : FrAt w' (MX x v') x.NB fv' ((y, false) :: fr)) (hP' : PtsI w' (some ⟨b, off, none⟩) x.NB bs.reverse) (hA' : ¬ MX x v' b) (hl' : out'.length + W1.length ≤ 100000) =>
   iD hx hBO n hn hL bs ((y, false) :: fr) fv' (some ⟨b, off, none⟩) cap out' P c v' w' hs' hI.wrap (hO.wrap hv hy hp hnb) hM' hF' hP' (fun _ b' o' e => by injection e with e; injection e with e _; exact e ▸ hA') (by simp only [List.length_cons] at hcap; omega) (hW1 ▸ hl') (by rw [← hV1]; omega))
  rw [← hW1, ← hV1] at HIN
  have HBK := GR (fun out' P' c' v' w' (hM' : Mkr x w' v' out' P' c') (hF' : FrAt w' (MX x v') x.NB fv fr) (hl' : out'.length + T1.length ≤ 100000) (hc' : c' + U1.length ≤ 100000) =>
   hBO y fr fv out' P' c' v' w' hy (by omega) (hI.child hv hsrt hy hp) (hO.child hv hy hp) hM' hF' (hT1 ▸ hl') (hU1 ▸ hc'))
  rw [← hT1, ← hU1] at HBK
  obtain ⟨fa, fc, rfl⟩ := hF.slice
  have HM := GR hM
  have HF := GR hF
  have HWR := GR (fun k => iE hx (hM.below (ab w k)) ⟨#[40]⟩ (by show out.length + 1 ≤ _; omega))
  have HPP := GR (PtsI.init hP)
  clear hM hF hI hO hBO hP hcell hs hs' hsrt hyb hnb hpl hA hW1 hT1 hV1 hU1
  rw [show (y :: bs).length = bs.length + 1 from rfl] at hcap ⊢
  go_enter Tryz.func136, Tryz.ntmps136
  go_wp2_with fail
  refine (HWR.out 0).mono ?_
  rintro e w2 ⟨rfl, v2, hM2, hT2⟩
  have hF2 := HF.out.made hT2
  have hP2 : PtsI w2 (some ⟨b, off, none⟩) x.NB bs.reverse := HPP.out.turn hT2.1 fun _ b' o' e => by
   injection e with e
   injection e with e _
   exact e ▸ hAb
  have hA2 := (hT2.stay hb hAb).2
  have HIF : Hid (∀ k, Calls Tryz.prog 138 #[ag x.NB y, .bool false, .slice fa fr.length fc] (w2.drewN k) fun e w' => ∃ fv', e = .returned fv' ∧ Hid (FrAt w' (MX x v2) x.NB fv' ((y, false) :: fr)) ∧ Below w2.heap.size w2 w') := GR (fun k =>
   (oY (MX x v2) x.NB y false (.slice fa fr.length fc) fr (w2.drewN k) (hF2.below (ab w2 k)) (by omega) hM2.lt).mono fun e w' ⟨fv', h1, h2, h3⟩ => ⟨fv', h1, h2, (ab w2 k).trans h3⟩)
  have HIN2 := GR (fun fv' w' (hf : Hid (FrAt w' (MX x v2) x.NB fv' ((y, false) :: fr))) (hb' : Below w2.heap.size w2 w') =>
   HIN.out fv' (out ++ [40]) v2 w' (hM2.below hb') hf (hP2.turn (O := fun _ => False) (.of_below hb') fun _ _ _ _ => id) hA2 (by simp only [List.length_append, List.length_cons, List.length_nil]; omega))
  have HT2 := GR hT2
  have HF2 := GR hF2
  have hcb : bs.length ≤ cap := by omega
  have hwr : IntKind.i64.wrap (bs.length : Int) = (bs.length : Int) := IntWalk.i64_in _ (by omega)
  have hci : (bs.length : Int) ≤ (cap : Int) := by omega
  have hc0 : (0 : Int) ≤ (bs.length : Int) := by omega
  clear hM2 hT2 hF2 hP2 hA2 HWR HIN
  go_wp2_with fail
  go_region_law (first
   | (go_simp; go_at_call 138; refine Calls.mono (HIF.out 1) ?_; rintro e w3 ⟨fv3, rfl, hf3, hb3⟩)
   | (go_simp; go_at_call 136; refine Calls.mono (HIN2.out fv3 w3 hf3 hb3) ?_; rintro e w4 ⟨rfl, v4, hM4, hT4⟩)
   | fail)
  all_goals
   have hT24 := (MT.below (x := x) (v := v2) hb3).trans hT4
   have hF4 := HF2.out.made hT24
   have HWS := GR (iE hx hM4 ⟨#[41]⟩ (by simp only [List.length_append, List.length_cons, List.length_nil]; show _ + 1 ≤ _; omega))
   have HT4 := GR hT24
   have HF4 := GR hF4
   clear hf3 hb3 hM4 hT4 hT24 hF4
   go_wp2_with fail
   refine HWS.out.mono ?_
   rintro e w5 ⟨rfl, v5, hM5, hT5⟩
   have HBK5 := GR (HBK.out _ _ _ v5 w5 hM5 (HF4.out.made hT5) (by simp only [List.length_append, List.length_cons, List.length_nil]; show _ + 1 + _ + 1 + _ ≤ _; omega) (by omega))
   have HT5 := GR ((HT2.out.trans HT4.out).trans hT5)
   clear hM5 hT5
   go_wp2_with fail
   refine HBK5.out.mono ?_
   rintro e w6 ⟨rfl, v6, hM6, hT6⟩
   have HM6 := GR hM6
   have HT6 := GR hT6
   clear hM6 hT6
   go_wp2_with fail
   go_end0
   refine ⟨rfl, v6, ?_, HT5.out.trans HT6.out⟩
   have hM6 := HM6.out
   rw [iT, List.length_append, ← Nat.add_assoc]
   have e9 : out ++ (40 :: (W1 ++ 41 :: T1)) = out ++ [40] ++ W1 ++ [41] ++ T1 := by simp
   rw [e9]
   exact hM6
end Go.Proofs.YtlkfakdghjaoaaaGreatDoor
namespace Go.Proofs.YtlkfakdghjaoaaaGreatDoor
open Go.RowKit Go.Sort Go.Shelf
variable {x : Fix}
theorem Dq (g : List Bl) (T : Nat → Fr → List UInt8) (n : Nat) (fr : Fr) : dM g T n fr ≠ [] := by
 unfold dM
 split <;> simp
theorem mr (g : List Bl) (T : Nat → Fr → List UInt8) (n : Nat) : ∀ (bs : List Nat) (fr : Fr), aJ g T n bs fr ≠ []
 | [], fr => Dq g T n fr
 | y :: bs, fr => by rw [aJ]; simp
theorem yw (a b : List UInt8) (k : Nat) (hk : k = (a ++ b).length) : (tb (a ++ b)).extract a.length k = tb b := by
 subst hk
 apply bg
 rw [← Lib.toList_data, Lib.extract_toList, aI, aI]
 simp
theorem zG (hx : FixOk x) {m : Nat} (hBO : iF x m) : iF x (m + 1) := by
 intro n fr fv out P c v w hn hL hI hO hM hF hl hc
 have hv := hx.valid
 have hnl := hn.lt hv
 have hfl := hO.len hv
 have hfr : ∀ e ∈ fr, e.1 < x.g.length := fun e he => (hO.2 e he).1
 have hhd : (aL x.g).length ≤ 26 := mg hv
 have hhl : ∀ i ∈ aL x.g, i < x.g.length := dP 1 aS
 have HCN := GR (fun k => Calls.quiet_of_same ((jo x.hA x.hc (aL x.g) x.NB x.g n (w.drewN k) (hM.below (ab w k)).hd (by omega) ((hM.below (ab w k)).nodes hx) hhl hnl).mono fun _ _ ⟨p, q⟩ => ⟨p, q.symm⟩))
 have HLN := GR (C0 x.M _ _ _ _ _ _ w hM.bd)
 have HCELL := GR (fun W v' out' P' c' (h : Mkr x W v' out' P' c') => show W.cell? ⟨x.M, 5, none⟩ = some (.map (some x.PB)) ∧ W.cell? ⟨nb x.NB n, 1, none⟩ = some (.string (cy x.g n)) from by
  have hnm := eM hv hnl
  rw [al hnl] at hnm
  rw [← hnm]
  exact ⟨h.cells.2.2.2, (h.nodes hx n hnl).cell 1⟩)
 have c1 := hM.cells.2.1
 obtain ⟨fa, fc, rfl⟩ := hF.slice
 have hbel := (aq x.g n).length_reverse
 obtain ⟨T, hT⟩ : ∃ T, T = aw x.g (m + 1) n fr := ⟨_, rfl⟩
 obtain ⟨V, hV⟩ : ∃ V, V = bt x.g (dw x.g m) n (aq x.g n) (cf x.g n fr) := ⟨_, rfl⟩
 rw [show dw x.g (m + 1) n fr = bt x.g (dw x.g m) n (aq x.g n) (cf x.g n fr) ++ [(n, (aw x.g (m + 1) n fr, cH x.g fr))] from rfl, ← hT, ← hV] at hc ⊢
 rw [← hT] at hl
 rw [List.length_append] at hc
 have HM := GR hM
 have HF := GR hF
 have HV := GR hv
 by_cases hh : n ∈ aL x.g
 ·rw [decide_eq_true hh] at HCN
  have hTW : T = 123 :: (aJ x.g (aw x.g m) n (aq x.g n) ((n, true) :: fr) ++ [125]) := by rw [hT, aw, if_pos hh]
  have hTne : T ≠ [] := by rw [hTW]; simp
  have hio : cf x.g n fr = (n, true) :: fr := by unfold cf; rw [if_pos hh]
  have hIi := hI.into hv
  have hOi := hO.into hnl
  rw [if_pos hh] at hIi hOi
  rw [hio] at hV
  obtain ⟨T1, hT1⟩ : ∃ T1, T1 = aJ x.g (aw x.g m) n (aq x.g n) ((n, true) :: fr) := ⟨_, rfl⟩
  rw [← hT1] at hTW
  have hTl : T.length = T1.length + 2 := by rw [hTW]; simp
  have HTW := GR hTW
  have HTL := GR hTl
  have HWM : Hid (∀ v2 A cap fv' w', Mkr x w' v2 (out ++ [123]) P c → FrAt w' (MX x v2) x.NB fv' ((n, true) :: fr) → PtsI w' A x.NB (aq x.g n).reverse → (0 < (aq x.g n).length → ∀ b o, A = some ⟨b, o, none⟩ → ¬ MX x v2 b) → (aq x.g n).length ≤ cap →
    Calls Tryz.prog 136 #[.pointer (some ⟨x.M, 0, none⟩), ag x.NB n, .slice A (aq x.g n).length cap, fv'] w' (my x w' v2 (out ++ [123]) P c T1 V)) := GR (fun v2 A cap fv' w' hm hf hp ha hc' => by
   have := iD hx hBO n hn hL (aq x.g n) ((n, true) :: fr) fv' A cap (out ++ [123]) P c v2 w' (List.suffix_refl _) hIi hOi hm hf hp ha hc' (by rw [← hT1, List.length_append]; simp only [List.length_cons, List.length_nil]; omega) (by rw [← hV]; omega)
   rw [← hT1, ← hV] at this
   exact this)
  have HMB : Hid (∀ v2 w2 k, Mkr x w2 v2 (out ++ [123]) P c → Calls Tryz.prog 137 #[.pointer (some ⟨x.M, 0, none⟩), ag x.NB n] (w2.drewN k) fun e w' => ∃ A cap, e = .returned (.slice A (aq x.g n).length cap) ∧ Hid (PtsI w' A x.NB (aq x.g n).reverse) ∧ Hid (0 < (aq x.g n).length → ∀ b o, A = some ⟨b, o, none⟩ → w2.heap.size ≤ b) ∧ Hid ((aq x.g n).length ≤ cap) ∧ Below w2.heap.size w2 w') := GR (fun v2 w2 k hM2 => by
   have := lI hx n (out ++ [123]) P c v2 (w2.drewN k) hn (hM2.below (ab w2 k))
   rw [List.length_reverse] at this
   exact this.mono fun e w' ⟨A, cap, h1, h2, h3, h4, h5⟩ => ⟨A, cap, h1, h2, h3, h4, (ab w2 k).trans h5⟩)
  have HWR := GR (fun k => iE hx (hM.below (ab w k)) ⟨#[123]⟩ (by show out.length + 1 ≤ _; omega))
  clear hT hV hTW hio hIi hOi hI hO hM hF hBO hh hv hhl hbel hT1 hTl
  have tC := HCN.out
  go_enter Tryz.func93, Tryz.ntmps93
  go_wp2_with fail
  refine HLN.out.mono ?_
  rintro e w1 ⟨rfl, rfl⟩
  go_wp2_with fail
  refine (tC 0).mono ?_
  rintro e w2 ⟨rfl, k2, rfl⟩
  clear tC HCN
  go_wp2_with fail
  refine (HWR.out k2).mono ?_
  rintro e w2 ⟨rfl, v2, hM2, hT2⟩
  have hM2' : Mkr x w2 v2 (out ++ [123]) P c := hM2
  have hT2' := (MT.below (x := x) (v := v) (ab w k2)).trans hT2
  have hF2 := HF.out.made hT2'
  have HMB2 := GR (fun k => HMB.out v2 w2 k hM2')
  have HIF2 : Hid (∀ w3, Below w2.heap.size w2 w3 → Calls Tryz.prog 138 #[ag x.NB n, .bool true, .slice fa fr.length fc] w3 fun e w' => ∃ fv', e = .returned fv' ∧ Hid (FrAt w' (MX x v2) x.NB fv' ((n, true) :: fr)) ∧ Below w2.heap.size w2 w' ∧ Below w3.heap.size w3 w') := GR (fun w3 hb3 =>
   (oY (MX x v2) x.NB n true (.slice fa fr.length fc) fr w3 (hF2.below hb3) (by omega) (hM2'.below hb3).lt).mono fun e w' ⟨fv', h1, h2, h3⟩ => ⟨fv', h1, h2, hb3.trans (h3.mono hb3.size), h3⟩)
  have HWM2 := GR (fun A cap fv' w3 w' (hf : Hid (FrAt w' (MX x v2) x.NB fv' ((n, true) :: fr))) (hp : Hid (PtsI w3 A x.NB (aq x.g n).reverse)) (ha : Hid (0 < (aq x.g n).length → ∀ b o, A = some ⟨b, o, none⟩ → w2.heap.size ≤ b)) (hc' : Hid ((aq x.g n).length ≤ cap)) (hb : Below w2.heap.size w2 w') (hb' : Below w3.heap.size w3 w') =>
   HWM.out v2 A cap fv' w' (hM2'.below hb) hf (hp.out.turn (O := fun _ => False) (.of_below hb') fun _ _ _ _ => id) (fun hl b o e q => by have := hM2'.lt b q; have := ha.out hl b o e; omega) hc'.out)
  have HT2 := GR hT2'
  clear hM2 hT2 hF2 hM2' hT2' HWR HMB HWM
  go_wp2_with fail
  refine (HMB2.out 0).mono ?_
  rintro e w3 ⟨A, cap, rfl, hp3, ha3, hc3, hb3⟩
  have HI3 := GR (HIF2.out w3 hb3)
  have HB3 := GR hb3
  clear hb3
  go_wp2_with fail
  refine HI3.out.mono ?_
  rintro e w4 ⟨fv4, rfl, hf4, hb4, hb34⟩
  have HC4 := GR (HWM2.out A cap fv4 w3 w4 hf4 hp3 ha3 hc3 hb4 hb34)
  have HB4 := GR hb4
  clear hb4 hb34 hf4 hp3 ha3 hc3
  go_wp2_with fail
  refine HC4.out.mono ?_
  rintro e w5 ⟨rfl, v5, hM5, hT5⟩
  have HWE := GR (iE hx hM5 ⟨#[125]⟩ (by have := HTL.out; simp only [List.length_append, List.length_cons, List.length_nil]; show _ + 1 ≤ _; omega))
  have HT5 := GR ((HT2.out.trans (MT.below (x := x) (v := v2) HB4.out)).trans hT5)
  clear hM5 hT5
  go_wp2_with fail
  refine HWE.out.mono ?_
  rintro e W4 ⟨rfl, v4, hM4, hT4⟩
  have HT4 := GR (HT5.out.trans hT4)
  have HF4 := GR (HF.out.made (HT5.out.trans hT4))
  have HM4 : Hid (Mkr x W4 v4 (out ++ T) (jp x.g P V) (c + V.length)) := GR (by
   have e9 : out ++ T = out ++ [123] ++ T1 ++ [125] := by rw [HTW.out]; simp
   rw [e9]
   exact hM4)
  have hv := HV.out
  clear hM4 hT4 HTW
  go_wp2_with fail
  have hne : out ++ T ≠ [] := fun e => hTne (List.append_eq_nil_iff.1 e).2
  have HST := GR (fun k => mx hx (HM4.out.below (ab W4 k)) hne (by rw [List.length_append]; omega))
  have HNF := GR (fun w7 (hM7 : Mkr x w7 v4 (out ++ T) (jp x.g P V) (c + V.length)) (hF7 : FrAt w7 (MX x v4) x.NB (.slice fa fr.length fc) fr) => lD (MX x v4) x.NB (.slice fa fr.length fc) fr x.g w7 hv hF7 (by omega) (hM7.nodes hx) hfr)
  have HPUT := GR (fun w8 (h8 : Mkr x w8 v4 (out ++ T) (jp x.g P V) (c + V.length)) => h8.map.put (by simp only [List.length_cons, List.length_nil] at hc; omega) (cy x.g n) (tb T) (tb (cH x.g fr)) (by show 1 ≤ _; omega))
  have hzo : (tb (out ++ T)).size = out.length + T.length := by rw [aB, List.length_append]
  have hex := yw out T (out.length + T.length) (by rw [List.length_append])
  have hF4' := fun k => HF4.out.below (ab W4 k)
  obtain ⟨c5, n1⟩ := HCELL.out W4 v4 _ _ _ HM4.out
  have hbi : (out.length : Int) ≤ (out.length : Int) + (T.length : Int) := by omega
  have hb0 : (0 : Int) ≤ (out.length : Int) := by omega
  have htn : ((out.length : Int) + (T.length : Int)).toNat = out.length + T.length := by omega
  obtain ⟨OT, hOT⟩ : ∃ OT, OT = tb (out ++ T) := ⟨_, rfl⟩
  rw [← hOT] at HST hzo hex
  clear hOT
  go_region_law (first
   | (go_simp; go_at_call 53; refine Calls.mono (HST.out 1) ?_; rintro e w7 ⟨rfl, hM7, hT7⟩; obtain ⟨p0, p1⟩ := HCELL.out w7 v4 _ _ _ hM7)
   | (go_simp; go_at_call 139; refine Calls.mono (HNF.out w7 hM7 (FrAt.made (hF4' 1) hT7)) ?_; rintro e w8 ⟨rfl, hb8⟩; obtain ⟨q0, q1⟩ := HCELL.out w8 v4 _ _ _ (hM7.below hb8); obtain ⟨w9, hrun, hm9, hg9⟩ := HPUT.out w8 (hM7.below hb8))
   | fail)
  all_goals
   have HT9 := GR (((HT4.out.trans (MT.below (ab W4 1))).trans hT7).trans (MT.below (x := x) (v := v4) hb8))
   have HP9 := GR ((hM7.below hb8).put hx hm9 hg9)
   clear hM7 hT7 hb8 hm9 hg9 hrun
   go_wp2_with fail
   go_end0
   refine ⟨rfl, v4, ?_, HT9.out.trans HP9.out.2⟩
   have h9 := HP9.out.1
   rw [iT, List.length_append]
   exact h9
 ·rw [decide_eq_false hh] at HCN
  have hTW : T = aJ x.g (aw x.g m) n (aq x.g n) fr := by rw [hT, aw, if_neg hh]
  have hTne : T ≠ [] := by rw [hTW]; exact mr _ _ _ _ _
  have hio : cf x.g n fr = fr := by unfold cf; rw [if_neg hh]
  have hIi := hI.into hv
  have hOi := hO.into hnl
  rw [if_neg hh] at hIi hOi
  rw [hio] at hV
  have HWM : Hid (∀ A cap k w', PtsI w' A x.NB (aq x.g n).reverse → (0 < (aq x.g n).length → ∀ b o, A = some ⟨b, o, none⟩ → w.heap.size ≤ b) → (aq x.g n).length ≤ cap → Below w.heap.size (w.drewN k) w' →
    Calls Tryz.prog 136 #[.pointer (some ⟨x.M, 0, none⟩), ag x.NB n, .slice A (aq x.g n).length cap, .slice fa fr.length fc] w' (my x w' v out P c T V)) := GR (fun A cap k w' hp ha hc' hb => by
   have := iD hx hBO n hn hL (aq x.g n) fr (.slice fa fr.length fc) A cap out P c v w' (List.suffix_refl _) hIi hOi (hM.below ((ab w k).trans hb)) (hF.below ((ab w k).trans hb)) hp (fun hl b o e q => by have := hM.lt b q; have := ha hl b o e; omega) hc' (by rw [← hTW]; exact hl) (by rw [← hV]; omega)
   rw [← hTW, ← hV] at this
   exact this)
  have HMB : Hid (∀ k, Calls Tryz.prog 137 #[.pointer (some ⟨x.M, 0, none⟩), ag x.NB n] (w.drewN k) fun e w' => ∃ A cap, e = .returned (.slice A (aq x.g n).length cap) ∧ Hid (PtsI w' A x.NB (aq x.g n).reverse) ∧ Hid (0 < (aq x.g n).length → ∀ b o, A = some ⟨b, o, none⟩ → w.heap.size ≤ b) ∧ Hid ((aq x.g n).length ≤ cap) ∧ Below w.heap.size (w.drewN k) w') := GR (fun k => by
   have := lI hx n out P c v (w.drewN k) hn (hM.below (ab w k))
   rw [List.length_reverse] at this
   exact this)
  clear hT hV hTW hio hIi hOi hI hO hM hF hBO hh hv hhl hbel
  have tC := HCN.out
  go_enter Tryz.func93, Tryz.ntmps93
  go_wp2_with fail
  refine HLN.out.mono ?_
  rintro e w1 ⟨rfl, rfl⟩
  go_wp2_with fail
  refine (tC 0).mono ?_
  rintro e w2 ⟨rfl, k2, rfl⟩
  clear tC HCN
  go_wp2_with fail
  refine (HMB.out k2).mono ?_
  rintro e w3 ⟨A, cap, rfl, hp3, ha3, hc3, hb3⟩
  have HC3 := GR (HWM.out A cap k2 w3 hp3.out ha3.out hc3.out hb3)
  have HT3 := GR (show MT x w v w3 v from MT.below ((ab w k2).trans hb3))
  clear hb3 hp3 ha3 hc3
  go_wp2_with fail
  refine HC3.out.mono ?_
  rintro e W4 ⟨rfl, v4, hM4, hT4⟩
  have HT4 := GR (HT3.out.trans hT4)
  have HF4 := GR (HF.out.made (HT3.out.trans hT4))
  have HM4 := GR hM4
  have hv := HV.out
  clear hM4 hT4
  go_wp2_with fail
  have hne : out ++ T ≠ [] := fun e => hTne (List.append_eq_nil_iff.1 e).2
  have HST := GR (fun k => mx hx (HM4.out.below (ab W4 k)) hne (by rw [List.length_append]; omega))
  have HNF := GR (fun w7 (hM7 : Mkr x w7 v4 (out ++ T) (jp x.g P V) (c + V.length)) (hF7 : FrAt w7 (MX x v4) x.NB (.slice fa fr.length fc) fr) => lD (MX x v4) x.NB (.slice fa fr.length fc) fr x.g w7 hv hF7 (by omega) (hM7.nodes hx) hfr)
  have HPUT := GR (fun w8 (h8 : Mkr x w8 v4 (out ++ T) (jp x.g P V) (c + V.length)) => h8.map.put (by simp only [List.length_cons, List.length_nil] at hc; omega) (cy x.g n) (tb T) (tb (cH x.g fr)) (by show 1 ≤ _; omega))
  have hzo : (tb (out ++ T)).size = out.length + T.length := by rw [aB, List.length_append]
  have hex := yw out T (out.length + T.length) (by rw [List.length_append])
  have hF4' := fun k => HF4.out.below (ab W4 k)
  obtain ⟨c5, n1⟩ := HCELL.out W4 v4 _ _ _ HM4.out
  have hbi : (out.length : Int) ≤ (out.length : Int) + (T.length : Int) := by omega
  have hb0 : (0 : Int) ≤ (out.length : Int) := by omega
  have htn : ((out.length : Int) + (T.length : Int)).toNat = out.length + T.length := by omega
  obtain ⟨OT, hOT⟩ : ∃ OT, OT = tb (out ++ T) := ⟨_, rfl⟩
  rw [← hOT] at HST hzo hex
  clear hOT
  go_region_law (first
   | (go_simp; go_at_call 53; refine Calls.mono (HST.out 1) ?_; rintro e w7 ⟨rfl, hM7, hT7⟩; obtain ⟨p0, p1⟩ := HCELL.out w7 v4 _ _ _ hM7)
   | (go_simp; go_at_call 139; refine Calls.mono (HNF.out w7 hM7 (FrAt.made (hF4' 1) hT7)) ?_; rintro e w8 ⟨rfl, hb8⟩; obtain ⟨q0, q1⟩ := HCELL.out w8 v4 _ _ _ (hM7.below hb8); obtain ⟨w9, hrun, hm9, hg9⟩ := HPUT.out w8 (hM7.below hb8))
   | fail)
  all_goals
   have HT9 := GR (((HT4.out.trans (MT.below (ab W4 1))).trans hT7).trans (MT.below (x := x) (v := v4) hb8))
   have HP9 := GR ((hM7.below hb8).put hx hm9 hg9)
   clear hM7 hT7 hb8 hm9 hg9 hrun
   go_wp2_with fail
   go_end0
   refine ⟨rfl, v4, ?_, HT9.out.trans HP9.out.2⟩
   have h9 := HP9.out.1
   rw [iT, List.length_append]
   exact h9
end Go.Proofs.YtlkfakdghjaoaaaGreatDoor
