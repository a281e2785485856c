/-
  The program's reached.
-/
import Derived.Test.YtibjldngdhcpaaaBuildK
namespace Go.Proofs.Ytibjldngdhcpaaa
open Go.RowKit Go.Sort Go.Shelf

def nsP (ns : List Nat) (l : List Nat) : List Nat := l.map (ns.getD · 0)
theorem nsP_length (ns l : List Nat) : (nsP ns l).length = l.length := List.length_map _

theorem TanAt.memP {w : World} {B0 TB : Nat} {r : Nat → Nat} {ns : List Nat} {L : List Bl} {nx : Nat → List Nat} {fr : Nat → Nat} (h : TanAt w B0 r TB ns L nx fr) {out : List Nat} (ho : ∀ i ∈ out, i < ns.length) {y : Nat} (hy : y < ns.length) : decide (ns[y] ∈ nsP ns out) = decide (y ∈ out) := by
  unfold nsP
  rw [decide_eq_decide, List.mem_map]
  constructor
  · rintro ⟨k, hk, e⟩
    have hkl := ho k hk
    rw [getD_at hkl] at e
    rw [← h.inj hkl hy e]; exact hk
  · exact fun e => ⟨y, e, getD_at hy⟩
theorem nsP_in {ns out : List Nat} (ho : ∀ i ∈ out, i < ns.length) : ∀ b ∈ nsP ns out, b ∈ ns := by
  intro b hb
  obtain ⟨j, hj, rfl⟩ := List.mem_map.1 hb
  rw [getD_at (ho j hj)]; exact List.getElem_mem _
theorem row_pt {w : World} {O : Nat → Prop} {A : Option Addr} {n c : Nat} {ns out : List Nat} (h : Row w 123 1 O (.slice A n c) n ((nsP ns out).map kp)) (hn : n = out.length) : PtK w A (nsP ns out) := by
  subst hn
  have hq' : Row w 123 1 O (.slice A out.length c) (nsP ns out).length ((nsP ns out).map kp) := by rw [nsP_length]; exact h
  obtain ⟨A2, c2, e2, h2⟩ := row_ptk hq'
  injection e2 with e2 _ _
  rw [e2]; exact h2

set_option maxRecDepth 100000 in
set_option maxHeartbeats 2000000 in
theorem reachedT_any {w : World} {B0 TB : Nat} {r : Nat → Nat} {ns : List Nat} {L g : List Bl} {nx : Nat → List Nat} {fr : Nat → Nat} (h : TanAt w B0 r TB ns L nx fr) (hL : g = doorG L) (hl : ns.length = L.length) (hn : L.length + tot L ≤ 1048576) (hd : DG g) (hnx : ∀ m, m < L.length → nx m = nxt g m) :
    Calls Try.prog 74 #[.pointer (some ⟨TB, 0, none⟩)] w fun e w' => (∃ A cap, e = .returned (.slice A (reach g).length cap)) ∧ Below w.heap.size w w' := by
  obtain ⟨i0, hi0, hz0, hz1, hz2⟩ := info_parts info_kptr
  have hgl : g.length = L.length := by rw [hL, doorG_length]
  have hpos := hd.pos
  obtain ⟨v, hv, hR⟩ := h.list
  obtain ⟨A9, cap9, rfl, hP9⟩ := row_ptk hR
  obtain ⟨b9, off9, rfl, hb9, hc9⟩ := hP9 (by omega)
  have hp0 : 0 < ns.length := by omega
  have c9 := hc9 0 hp0
  have cT := hv.cell 0
  have H := Lib.hid h
  have HD := Lib.hid hd
  have HNX := Lib.hid hnx
  have HL := Lib.hid hl
  have HGL := Lib.hid hgl
  have HGE := Lib.hid (show ∀ x (h : x < L.length) (h' : x < g.length), (g[x]'h').2.size = L[x].2.size from fun x h _ => by simp only [hL]; rw [doorG_get h])
  obtain ⟨a0, ha0⟩ : ∃ a0, a0 = ns[0] := ⟨_, rfl⟩
  rw [← ha0] at c9
  unfold kp at c9
  have HA0 := Lib.hid ha0
  clear h hd hnx hl hv hR hP9 hc9 ha0 hL hgl
  rw [Nat.add_zero] at c9
  go_enter Try.func74, Try.ntmps74
  go_wp2_with fail
  go_loopg [3, 4] g.length (fun gk q i wr => ∃ (k : Nat) (Aq : Option Addr) (capq : Nat), gk = g.length - k ∧ k ≤ (bfs g k).length ∧ i = .int .i64 k ∧ q = .slice Aq (bfs g k).length capq ∧ Hid (Row wr 123 1 (fun b => w.heap.size ≤ b) (.slice Aq (bfs g k).length capq) (bfs g k).length ((nsP ns (bfs g k)).map kp)) ∧ Hid (Below w.heap.size w wr))
  case atStart =>
    refine ⟨0, _, _, rfl, by simp [bfs], rfl, rfl, ?_, (Below.refl _ _).alloc (Nat.le_refl _) _⟩
    have e : (nsP ns (bfs g 0)).map kp = [Value.pointer (some ⟨a0, 0, none⟩)] := by
      show [kp (ns.getD 0 0)] = _
      rw [getD_at hp0, HA0.out]; rfl
    rw [e]
    exact .inr (Que.made w 123 1 (fun b => w.heap.size ≤ b) #[.pointer (some ⟨a0, 0, none⟩)] 1 rfl (Nat.le_refl _))
  case round =>
    clear c9 cT
    obtain ⟨k, Aq, capq, rfl, hkl, rfl, rfl, HQ, HB⟩ := hrel
    have hlen := bfs_len_d HD.out k
    have hPq : PtK wr Aq (nsP ns (bfs g k)) := by
      have hq' : Row wr 123 1 (fun b => w.heap.size ≤ b) (.slice Aq (bfs g k).length capq) (nsP ns (bfs g k)).length ((nsP ns (bfs g k)).map kp) := by rw [nsP_length]; exact HQ.out
      obtain ⟨A2, c2, e2, h2⟩ := row_ptk hq'
      injection e2 with e2 _ _
      rw [e2]; exact h2
    by_cases hlt : k < (bfs g k).length
    · obtain ⟨x, hx⟩ : ∃ x, x = (bfs g k)[k] := ⟨_, rfl⟩
      have hxg : x < g.length := hx ▸ bfs_lt_d HD.out k _ (List.getElem_mem hlt)
      have hxs : x < ns.length := by have := HL.out; have := HGL.out; omega
      obtain ⟨bq, offq, rfl, hbq, hcq⟩ := hPq (by rw [nsP_length]; omega)
      have cq := hcq k (by rw [nsP_length]; exact hlt)
      have e1 : (nsP ns (bfs g k))[k]'(by rw [nsP_length]; exact hlt) = ns[x] := by
        unfold nsP
        rw [List.getElem_map, ← hx, getD_at hxs]
      rw [e1] at cq
      obtain ⟨vx, hvx, hRx⟩ := H.out.node x hxs
      have hvx' : Blk wr ns[x] 127 #[.string (nthName L x), vx, .int .i64 (fr x)] := (HB.out.block _ hvx.lt).trans hvx
      have hRx' : Row w 123 1 (fun k => r k = 2 * x + 4) vx (nsP ns (nx x)).length ((nsP ns (nx x)).map kp) := by unfold nsP; rw [List.length_map, List.map_map]; exact hRx
      obtain ⟨Ax, capx, rfl, hPx⟩ := row_ptk hRx'
      obtain ⟨a, ha⟩ : ∃ a, a = ns[x] := ⟨_, rfl⟩
      rw [← ha] at cq hvx'
      have c1 := hvx'.cell 1
      unfold kp at cq
      have HX := Lib.hid hx
      have HPX := Lib.hid hPx
      have hnl : (nx x).length ≤ 1048576 := by
        have hxL : x < L.length := by have := HGL.out; omega
        rw [HNX.out x hxL, nxt_length hxg]
        have := HGE.out x hxL hxg
        have := tot_get L x hxL
        have := HGL.out
        omega
      rw [nsP_length] at c1
      clear hx e1 hcq hPq hvx hvx' hRx hRx' hPx ha
      go_wp2_with fail
      go_loopw [3, 28] (fun q i wr => ∃ (m : Nat) (A2 : Option Addr) (c2 : Nat) (out : List Nat), m ≤ (nx x).length ∧ i = .int .i64 m ∧ q = .slice A2 out.length c2 ∧ Hid (out = stepL (bfs g k) ((nxt g x).take m)) ∧ Hid (Row wr 123 1 (fun b => w.heap.size ≤ b) (.slice A2 out.length c2) out.length ((nsP ns out).map kp)) ∧ Hid (Below w.heap.size w wr)) (fun _ i _ => (nx x).length - (intOf i).toNat)
      case atStart => exact ⟨0, _, _, bfs g k, Nat.zero_le _, rfl, rfl, rfl, HQ.out, HB.out⟩
      case round =>
        clear HQ HB cq c1
        obtain ⟨m, A2, c2, out, hm, rfl, rfl, HOUT, HQ, HB⟩ := hrel
        have HNXX := Lib.hid (HNX.out x (by have := HGL.out; omega))
        have hol : ∀ y ∈ out, y < g.length := by rw [HOUT.out]; exact step_lt_d HD.out hxg (List.take_prefix _ _).subset
        have hole : out.length ≤ g.length := by rw [HOUT.out]; exact step_le_d HD.out hxg (List.take_prefix _ _).subset
        by_cases hmt : m < (nx x).length
        · obtain ⟨y, hy⟩ : ∃ y, y = (nx x)[m] := ⟨_, rfl⟩
          have hym : y ∈ nx x := hy ▸ List.getElem_mem hmt
          have hys := H.out.nxl x hxs y hym
          have hHL := HL.out
          have hHG := HGL.out
          obtain ⟨bx, offx, rfl, hbx, hcx⟩ := HPX.out (by rw [nsP_length]; omega)
          have cx0 := hcx m (by rw [nsP_length]; exact hmt)
          have e1 : (nsP ns (nx x))[m]'(by rw [nsP_length]; exact hmt) = ns[y] := by
            unfold nsP
            rw [List.getElem_map, ← hy, getD_at hys]
          rw [e1] at cx0
          have cx : wr.cell? ⟨bx, offx + m, none⟩ = some (kp ns[y]) := (HB.out.cell (p := ⟨bx, offx + m, none⟩) hbx).trans cx0
          have hons : ∀ i ∈ out, i < ns.length := fun i hi => by have := hol i hi; omega
          have HC := Lib.hid (containsK_any A2 c2 (nsP ns out) ns[y] wr (row_pt HQ.out rfl) (by rw [nsP_length]; omega) (fun b hb => by
            obtain ⟨cs, hcs⟩ := H.out.knode (nsP_in hons b hb)
            exact ⟨cs, (HB.out.block _ hcs.lt).trans hcs⟩) (by
            obtain ⟨cs, hcs⟩ := H.out.knode (List.getElem_mem hys)
            exact ⟨cs, (HB.out.block _ hcs.lt).trans hcs⟩))
          rw [nsP_length, H.out.memP hons hys] at HC
          have HT := Lib.hid (show stepL (bfs g k) ((nxt g x).take (m + 1)) = if y ∈ out then out else out ++ [y] by
            have hml : m < (nxt g x).length := by rw [← HNXX.out]; exact hmt
            have e : (nxt g x)[m] = y := by rw [hy]; congr 1; exact HNXX.out.symm
            rw [List.take_succ_eq_append_getElem hml, e, stepL_snoc, ← HOUT.out])
          have HP := Lib.hid (show (nsP ns (out ++ [y])).map kp = (nsP ns out).map kp ++ [kp ns[y]] by
            unfold nsP
            rw [List.map_append, List.map_append]
            simp only [List.map_cons, List.map_nil]
            rw [getD_at hys])
          obtain ⟨a2, ha2⟩ : ∃ a2, a2 = ns[y] := ⟨_, rfl⟩
          rw [← ha2] at HC cx HP
          unfold kp at HC cx
          have hst : (stepL (bfs g k) ((nxt g x).take (m + 1))).length ≤ g.length := step_le_d HD.out hxg (List.take_prefix _ _).subset
          have hws := HB.out.size
          have hLn : L.length ≤ 1048576 := by omega
          clear hy hym hcx cx0 e1 ha2 hol hole
          by_cases hin : y ∈ out
          · rw [decide_eq_true hin] at HC
            rw [if_pos hin] at HT
            clear hin hst hHL hHG
            go_wp2_with fail
            refine HC.out.mono ?_
            rintro e w3 ⟨rfl, rfl⟩
            go_wp2_with fail
            go_roundw
            case rel => exact ⟨m + 1, A2, c2, out, by omega, by go_num, rfl, HT.out.symm, HQ.out, HB.out⟩
            case measure => simp [intOf]; omega
          · rw [decide_eq_false hin] at HC
            rw [if_neg hin] at HT
            rw [HT.out, List.length_append] at hst
            have hol2 : out.length + 1 ≤ 1048576 := by have : [y].length = 1 := rfl; omega
            clear hst hHL hHG
            have HROW := Lib.hid (show Row (wr.alloc (.cells #[.pointer (some ⟨a2, 0, none⟩)] 123)) 123 1 (fun b => w.heap.size ≤ b) (.slice A2 out.length c2) out.length ((nsP ns out).map kp) from
              HQ.out.kept (Turns.keeps (O := fun _ => False) (Turns.alloc _ _ _) fun _ _ h => h) fun _ _ h => h)
            have HNEW := Lib.hid (cell_one_new wr (.pointer (some ⟨a2, 0, none⟩)) 123)
            clear hin
            go_wp2_with fail
            refine HC.out.mono ?_
            rintro e w3 ⟨rfl, rfl⟩
            go_wp2_with (at_builtin; go_loud (refine wpList_append_rowK (by rfl) _ _ _ (by rfl) 123 i0 (.pointer none) 1 Try.underlying97 hi0 hz0 hz1 (by rw [hz2]; decide) rfl (fun b => w.heap.size ≤ b) (.slice A2 out.length c2) out.length ((nsP ns out).map kp) (by rfl) HROW.out ⟨wr.heap.size, 0, none⟩ 1 1 [.pointer (some ⟨a2, 0, none⟩)] (by rfl) (by rfl) HNEW.out (by simp [Value.oneCell']) ?c3 (by decide) ?_))
            case c3 => omega
            intro v' w1 hq' hT'
            obtain ⟨B', off', cap', rfl, _⟩ := hq'.cells
            have HQ' : Hid (Row w1 123 1 (fun b => w.heap.size ≤ b) (.slice (some ⟨B', off', none⟩) (out ++ [y]).length cap') (out ++ [y]).length ((nsP ns (out ++ [y])).map kp)) := by
              rw [HP.out, List.length_append]
              exact .inr (hq'.kept (Keeps.refl _ _) fun b _ hb => by
                rcases hb with hb | hb
                · exact hb
                · have := hb.1; simp at this; omega)
            have HB' := Lib.hid (HB.out.trans ((((Turns.alloc (fun b => w.heap.size ≤ b) wr (.cells #[.pointer (some ⟨a2, 0, none⟩)] 123))).trans (hT'.wider fun b h => .inl h)).below hws fun b h => h))
            clear hq' hT'
            go_wp2_with fail
            go_roundw
            case rel => exact ⟨m + 1, some ⟨B', off', none⟩, cap', out ++ [y], by omega, by go_num, (by rw [List.length_append]; rfl), HT.out.symm, HQ'.out, HB'.out⟩
            case measure => simp [intOf]; omega
        · have hml : (nx x).length = m := by omega
          have HBF := Lib.hid (show out = bfs g (k + 1) by
            rw [HOUT.out, bfs_step hlt, ← HX.out, List.take_of_length_le (by rw [← HNXX.out]; omega)])
          have hkl2 : k + 1 ≤ out.length := by
            have h1 := (stepL_prefix ((nxt g x).take m) (bfs g k)).length_le
            rw [← HOUT.out] at h1; omega
          have hkb : k + 1 ≤ 1048576 := by have := HGL.out; omega
          clear hml
          go_wp2_with fail
          go_roundg (g.length - (k + 1))
          case measure => omega
          case rel => exact ⟨k + 1, A2, c2, rfl, by rw [← HBF.out]; exact hkl2, by go_num, (by rw [HBF.out]), (by have := HQ.out; rw [HBF.out] at this; exact this), HB.out⟩
    · have hke : k = (bfs g k).length := by omega
      have HR := Lib.hid (show bfs g k = reach g from reach_done (g := g) (k := k) (by omega) (by omega))
      clear hke
      go_wp2_with fail
      go_ret
      exact ⟨⟨Aq, capq, by rw [← HR.out]; rfl⟩, HB.out⟩
end Go.Proofs.Ytibjldngdhcpaaa
