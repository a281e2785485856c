/-
  The program's tangle as it lies; what only reads it: a node among some, its door, the node behind a door.
-/
import Derived.Test.YtibjldngdhcpaaaApart
import Derived.Test.YtibjldngdhcpaaaSpreadFrom
import Derived.Deep.RegionLaw
namespace Go.Proofs.Ytibjldngdhcpaaa
open Go.RowKit Go.Sort Go.Shelf

def kp (b : Nat) : Value := .pointer (some ⟨b, 0, none⟩)
theorem info_knode : (Try.prog.info? 127).map (·.size) = some 3 := by kernel_rfl
theorem info_kptr : (Try.prog.info? 123).map (fun i => (i.zero, i.size, i.bytes)) = some (some (.pointer none), 1, 8) := by kernel_rfl

/-- A node's block. -/
def KNode (w : World) (b : Nat) : Prop := ∃ cs, Blk w b 127 cs
def idxK (l : List Nat) (b : Nat) : Int := if b ∈ l then ((l.findIdx fun y => decide (y = b) : Nat) : Int) else -1
theorem idxK_at {l : List Nat} {k : Nat} (hk : k < l.length) (hb : ∀ j (h : j < l.length), j < k → l[j] ≠ l[k]) : idxK l l[k] = k := by
  have hm : l[k] ∈ l := List.getElem_mem hk
  unfold idxK
  rw [if_pos hm]
  congr 1
  rw [List.findIdx_eq hk]
  exact ⟨by simp, fun j hj => by have := hb j (by omega) hj; simpa using this⟩
theorem idxK_no {l : List Nat} {b : Nat} (h : b ∉ l) : idxK l b = -1 := by unfold idxK; rw [if_neg h]
theorem idxK_has {l : List Nat} {b : Nat} : decide (0 ≤ idxK l b) = decide (b ∈ l) := by
  unfold idxK
  by_cases h : b ∈ l
  · rw [if_pos h, decide_eq_true h]; simp
  · rw [if_neg h, decide_eq_false h]; rfl

/-- Pointers to blocks, in a slice. -/
def PtK (w : World) (A : Option Addr) (l : List Nat) : Prop := 0 < l.length → ∃ b off, A = some ⟨b, off, none⟩ ∧ b < w.heap.size ∧ ∀ i (h : i < l.length), w.cell? ⟨b, off + i, none⟩ = some (kp l[i])

set_option maxRecDepth 100000 in
theorem indexK_any (A : Option Addr) (cap : Nat) (l : List Nat) (b0 : Nat) (w : World) (hp : PtK w A l) (hn : l.length ≤ 1048576) (hN : ∀ b ∈ l, KNode w b) (h0 : KNode w b0) :
    Calls Try.prog 116 #[.slice A l.length cap, kp b0] w fun e w' => e = .returned (.int .i64 (idxK l b0)) ∧ w = w' := by
  obtain ⟨jt, hjt, hjs⟩ := Option.map_eq_some_iff.1 info_knode
  have H0 := Lib.hid h0
  have HN := Lib.hid hN
  have HP := Lib.hid hp
  clear hN hp h0
  unfold kp
  go_enter Try.func116, Try.ntmps116
  go_wp2_with fail
  go_loop [8] (fun i => ∃ k : Nat, k ≤ l.length ∧ i = .int .i64 k ∧ Hid (∀ j (h : j < l.length), j < k → l[j] ≠ b0)) (fun i => l.length - (intOf i).toNat)
  case atStart => exact ⟨0, Nat.zero_le _, rfl, fun j _ h => absurd h (by omega)⟩
  case round =>
    obtain ⟨k, hk, rfl, HK⟩ := hrel
    by_cases hlt : k < l.length
    · obtain ⟨b, off, rfl, hb, hc⟩ := HP.out (by omega)
      have x0 := hc k hlt
      obtain ⟨p, hpe⟩ : ∃ p, p = l[k] := ⟨_, rfl⟩
      rw [← hpe] at x0
      obtain ⟨cp, hcp⟩ := HN.out p (hpe ▸ List.getElem_mem hlt)
      obtain ⟨c0, hc0⟩ := H0.out
      have HPE := Lib.hid hpe
      have HCP := Lib.hid hcp
      have HC0 := Lib.hid hc0
      unfold kp at x0
      clear hpe hc hcp hc0
      by_cases hq : p = b0
      · subst hq
        have HPX := Lib.hid (show idxK l p = k by
          rw [HPE.out]
          exact idxK_at hlt fun j h hj => by rw [← HPE.out]; exact HK.out j h hj)
        have heq := fun w => run_eql_ptr_same (P := Try.prog) w ⟨p, 0, none⟩ Try.underlying123 hjt
        go_wp2_with fail
        go_ret
        exact ⟨ret_int HPX.out.symm, rfl⟩
      · have HQ := Lib.hid hq
        have heq := run_eql_ptr_other (P := Try.prog) w (a := ⟨b0, 0, none⟩) (b := ⟨p, 0, none⟩) Try.underlying123 hjt (by rw [hjs]; decide) (fun e => hq (by injection e with e1 _; exact e1.symm)) HC0.out HCP.out
        clear hq
        go_wp2_with fail
        go_round
        case rel =>
          refine ⟨k + 1, by omega, by go_num, fun j h hj => ?_⟩
          rcases Nat.lt_succ_iff_lt_or_eq.1 hj with hj | rfl
          · exact HK.out j h hj
          · rw [← HPE.out]; exact HQ.out
        case measure => simp [intOf]; omega
    · have HPX := Lib.hid (show idxK l b0 = -1 from idxK_no fun hm => by
        obtain ⟨j, hj, e⟩ := List.getElem_of_mem hm
        exact HK.out j hj (by omega) e)
      go_wp2_with fail
      go_ret
      exact ⟨ret_int HPX.out.symm, rfl⟩

theorem containsK_any (A : Option Addr) (cap : Nat) (l : List Nat) (b0 : Nat) (w : World) (hp : PtK w A l) (hn : l.length ≤ 1048576) (hN : ∀ b ∈ l, KNode w b) (h0 : KNode w b0) :
    Calls Try.prog 100 #[.slice A l.length cap, kp b0] w fun e w' => e = .returned (.bool (decide (b0 ∈ l))) ∧ w = w' := by
  rw [← idxK_has]
  have HC := Lib.hid (indexK_any A cap l b0 w hp hn hN h0)
  clear hp hN h0
  unfold kp at HC ⊢
  go_enter Try.func100, Try.ntmps100
  go_wp2_with fail
  refine HC.out.mono ?_
  rintro e w1 ⟨rfl, rfl⟩
  go_wp2_with fail
  go_ret
  exact ⟨rfl, rfl⟩

/-- The tangle, its nodes and what these go on to. The letter r tells whose each block is: 0 the tangle's, 2 its list's, 2 i + 3 a node's, 2 i + 4 its next ones', 1 nobody's here. -/
structure TanAt (w : World) (B0 : Nat) (r : Nat → Nat) (TB : Nat) (ns : List Nat) (L : List Bl) (nx : Nat → List Nat) (fr : Nat → Nat) : Prop where
  list : ∃ v, Blk w TB 99 #[v] ∧ Row w 123 1 (fun k => r k = 2) v ns.length (ns.map kp)
  node : ∀ i (h : i < ns.length), ∃ v, Blk w ns[i] 127 #[.string (nthName L i), v, .int .i64 (fr i)] ∧ Row w 123 1 (fun k => r k = 2 * i + 4) v (nx i).length ((nx i).map fun j => kp (ns.getD j 0))
  rt : r TB = 0
  rn : ∀ i (h : i < ns.length), r ns[i] = 2 * i + 3
  lo : ∀ k, k < w.heap.size → r k ≠ 1 → B0 ≤ k
  nxl : ∀ i, i < ns.length → ∀ j ∈ nx i, j < ns.length

theorem row_ptk {w : World} {O : Nat → Prop} {v : Value} {l : List Nat} (h : Row w 123 1 O v l.length (l.map kp)) : ∃ A cap, v = .slice A l.length cap ∧ PtK w A l := by
  rcases h with ⟨rfl, h1, h2⟩ | h
  · exact ⟨none, 0, by rw [h1], fun h => by omega⟩
  · obtain ⟨B, off, cap, rfl, _, _, hb, hc⟩ := h.cells
    refine ⟨_, cap, rfl, fun _ => ⟨B, off, rfl, hb, fun i hi => ?_⟩⟩
    rw [hc i (by simpa using hi), List.getElem?_map, List.getElem?_eq_getElem hi]; rfl

section
variable {w w' : World} {B0 TB : Nat} {r : Nat → Nat} {ns : List Nat} {L : List Bl} {nx : Nat → List Nat} {fr : Nat → Nat}
theorem TanAt.inj (h : TanAt w B0 r TB ns L nx fr) {i j : Nat} (hi : i < ns.length) (hj : j < ns.length) (e : ns[i] = ns[j]) : i = j := by
  have h1 := h.rn i hi
  have h2 := h.rn j hj
  rw [e, h2] at h1
  omega
theorem TanAt.knode (h : TanAt w B0 r TB ns L nx fr) {b : Nat} (hb : b ∈ ns) : KNode w b := by
  obtain ⟨i, hi, rfl⟩ := List.getElem_of_mem hb
  obtain ⟨v, hv, _⟩ := h.node i hi
  exact ⟨_, hv⟩
theorem TanAt.low (h : TanAt w B0 r TB ns L nx fr) : B0 ≤ w.heap.size := by
  obtain ⟨v, hv, _⟩ := h.list
  have := h.lo TB hv.lt (by rw [h.rt]; decide)
  have := hv.lt
  omega
theorem getD_at {l : List Nat} {i : Nat} (h : i < l.length) : l.getD i 0 = l[i] := by
  rw [List.getD_eq_getElem?_getD, List.getElem?_eq_getElem h]; rfl
theorem TanAt.nexts (h : TanAt w B0 r TB ns L nx fr) {i : Nat} (hi : i < ns.length) : ∀ b ∈ (nx i).map (ns.getD · 0), b ∈ ns := by
  intro b hb
  obtain ⟨j, hj, rfl⟩ := List.mem_map.1 hb
  rw [getD_at (h.nxl i hi j hj)]; exact List.getElem_mem _
theorem TanAt.mem (h : TanAt w B0 r TB ns L nx fr) {i j : Nat} (hi : i < ns.length) (hj : j < ns.length) : decide (ns[j] ∈ (nx i).map (ns.getD · 0)) = decide (j ∈ nx i) := by
  rw [decide_eq_decide, List.mem_map]
  constructor
  · rintro ⟨k, hk, e⟩
    have hkl := h.nxl i hi k hk
    rw [getD_at hkl] at e
    rw [← h.inj hkl hj e]; exact hk
  · exact fun e => ⟨j, e, getD_at hj⟩
theorem TanAt.below (h : TanAt w B0 r TB ns L nx fr) (hb : Below w.heap.size w w') : TanAt w' B0 (fun k => if k < w.heap.size then r k else 1) TB ns L nx fr := by
  have hk : ∀ O : Nat → Prop, Keeps O w w' := fun O => ⟨hb.size, fun k hk _ => hb.block k hk⟩
  have ho : ∀ m, ∀ k, k < w.heap.size → r k = m → (if k < w.heap.size then r k else 1) = m := fun m k hk e => by rw [if_pos hk]; exact e
  obtain ⟨v, hv, hR⟩ := h.list
  refine ⟨⟨v, (hb.block _ hv.lt).trans hv, hR.kept (hk _) (ho 2)⟩, fun i hi => ?_, ?_, fun i hi => ?_, fun k _ hr => ?_, h.nxl⟩
  · obtain ⟨u, hu, hU⟩ := h.node i hi
    exact ⟨u, (hb.block _ hu.lt).trans hu, hU.kept (hk _) (ho _)⟩
  · show (if TB < w.heap.size then r TB else 1) = 0
    rw [if_pos hv.lt]; exact h.rt
  · obtain ⟨u, hu, _⟩ := h.node i hi
    show (if ns[i] < w.heap.size then r ns[i] else 1) = _
    rw [if_pos hu.lt]; exact h.rn i hi
  · by_cases hl : k < w.heap.size
    · rw [if_pos hl] at hr; exact h.lo k hl hr
    · rw [if_neg hl] at hr; exact absurd rfl hr
end

set_option maxRecDepth 100000 in
theorem goes_any {w : World} {B0 TB : Nat} {r : Nat → Nat} {ns : List Nat} {L : List Bl} {nx : Nat → List Nat} {fr : Nat → Nat} (h : TanAt w B0 r TB ns L nx fr) {i j : Nat} (hi : i < ns.length) (hj : j < ns.length) (hn : (nx i).length ≤ 1048576) :
    Calls Try.prog 86 #[kp ns[i], kp ns[j]] w fun e w' => e = .returned (.bool (decide (j ∈ nx i))) ∧ w = w' := by
  obtain ⟨v, hv, hR⟩ := h.node i hi
  have hR' : Row w 123 1 (fun k => r k = 2 * i + 4) v ((nx i).map (ns.getD · 0)).length (((nx i).map (ns.getD · 0)).map kp) := by rw [List.length_map, List.map_map]; exact hR
  obtain ⟨A, cap, rfl, hp⟩ := row_ptk hR'
  have c1 := hv.cell 1
  have HC := Lib.hid (containsK_any A cap _ ns[j] w hp (by rw [List.length_map]; exact hn) (fun b hb => h.knode (h.nexts hi b hb)) (h.knode (List.getElem_mem hj)))
  rw [h.mem hi hj, List.length_map] at HC
  rw [List.length_map] at c1
  obtain ⟨a, ha⟩ : ∃ a, a = ns[i] := ⟨_, rfl⟩
  obtain ⟨b, hb⟩ : ∃ b, b = ns[j] := ⟨_, rfl⟩
  rw [← hb] at HC ⊢
  rw [← ha] at c1 ⊢
  clear hv hR hR' hp h ha hb
  unfold kp at HC ⊢
  go_enter Try.func86, Try.ntmps86
  go_wp2_with fail
  refine HC.out.mono ?_
  rintro e w1 ⟨rfl, rfl⟩
  go_wp2_with fail
  go_ret
  exact ⟨rfl, rfl⟩

set_option maxRecDepth 100000 in
theorem door_any (b : Nat) (s : ByteArray) (v f : Value) (w : World) (hb : Blk w b 127 #[.string s, v, f]) (h1 : 1 ≤ s.size) :
    Calls Try.prog 87 #[kp b] w fun e w' => e = .returned (.string (s.extract 0 1)) ∧ w = w' := by
  have c0 := hb.cell 0
  have q2 : (1 : Int) ≤ s.size := by omega
  clear hb
  unfold kp
  go_enter Try.func87, Try.ntmps87
  go_wp2_with fail
  go_ret
  exact ⟨rfl, rfl⟩

/-- The node behind a door. -/
def behindV (ns : List Nat) (L : List Bl) (d : ByteArray) : Value := match posOf (doorG L) d with | some i => kp (ns.getD i 0) | none => .pointer none

set_option maxRecDepth 100000 in
theorem behind_any {w : World} {B0 TB : Nat} {r : Nat → Nat} {ns : List Nat} {L : List Bl} {nx : Nat → List Nat} {fr : Nat → Nat} (h : TanAt w B0 r TB ns L nx fr) (hl : ns.length = L.length) (hn : L.length ≤ 1048576) (h1 : ∀ b ∈ L, 1 ≤ b.1.size) (d : ByteArray) :
    Calls Try.prog 98 #[.pointer (some ⟨TB, 0, none⟩), .string d] w fun e w' => e = .returned (behindV ns L d) ∧ w = w' := by
  obtain ⟨v, hv, hR⟩ := h.list
  obtain ⟨A, cap, rfl, hp⟩ := row_ptk hR
  have c0 := hv.cell 0
  have H := Lib.hid h
  have HP := Lib.hid hp
  have H1 := Lib.hid h1
  have HL := Lib.hid hl
  clear hv hR hp h h1
  obtain ⟨n, hnn⟩ : ∃ n, n = ns.length := ⟨_, rfl⟩
  rw [← hnn] at c0
  have HNN := Lib.hid hnn
  have hnl : n ≤ 1048576 := by omega
  clear hnn hl
  go_enter Try.func98, Try.ntmps98
  go_wp2_with fail
  go_loop [12] (fun i => ∃ k : Nat, k ≤ n ∧ i = .int .i64 k ∧ Hid (∀ j (h : j < L.length), j < k → L[j].1.extract 0 1 ≠ d)) (fun i => n - (intOf i).toNat)
  case atStart => exact ⟨0, Nat.zero_le _, rfl, fun j _ h => absurd h (by omega)⟩
  case round =>
    obtain ⟨k, hk, rfl, HK⟩ := hrel
    by_cases hlt : k < n
    · have hkn : k < ns.length := HNN.out ▸ hlt
      have hkL : k < L.length := by have := HL.out; omega
      obtain ⟨b, off, rfl, hb, hc⟩ := HP.out (by omega)
      have x0 := hc k hkn
      obtain ⟨v, hnode, _⟩ := H.out.node k hkn
      rw [nthName_at hkL] at hnode
      obtain ⟨a, ha⟩ : ∃ a, a = ns[k] := ⟨_, rfl⟩
      obtain ⟨s, hs⟩ : ∃ s, s = L[k].1 := ⟨_, rfl⟩
      rw [← ha] at x0 hnode
      rw [← hs] at hnode
      have HD := Lib.hid (door_any a s v (.int .i64 (fr k)) w hnode (hs ▸ H1.out _ (List.getElem_mem hkL)))
      have HA := Lib.hid ha
      have HS := Lib.hid hs
      unfold kp at x0 HD
      clear ha hs hnode hc
      by_cases hc : s.extract 0 1 = d
      · have q1 : ((s.extract 0 1).toList == d.toList) = true := by rw [hc]; simp
        have HN := Lib.hid (show behindV ns L d = .pointer (some ⟨a, 0, none⟩) by
          unfold behindV
          rw [posOf_some (k := k) (by rw [doorG_length]; exact hkL) (by rw [doorG_get hkL, ← HS.out]; exact hc) (fun j h' hj => by rw [doorG_get (by rw [doorG_length] at h'; exact h')]; exact HK.out j _ hj)]
          show kp (ns.getD k 0) = _
          rw [getD_at hkn, ← HA.out]; rfl)
        clear hc
        go_wp2_with fail
        refine HD.out.mono ?_
        rintro e w2 ⟨rfl, rfl⟩
        go_wp2_with fail
        go_ret
        exact ⟨ret_val HN.out.symm, rfl⟩
      · have q1 : ((s.extract 0 1).toList == d.toList) = false := by simpa using fun e => hc (beq_toList.1 (by simpa using e))
        have HC := Lib.hid hc
        clear hc
        go_wp2_with fail
        refine HD.out.mono ?_
        rintro e w2 ⟨rfl, rfl⟩
        go_wp2_with fail
        go_round
        case rel => exact ⟨k + 1, by omega, by go_num, fun j h hj => by
          rcases Nat.lt_succ_iff_lt_or_eq.1 hj with hj | rfl
          · exact HK.out j h hj
          · rw [← HS.out]; exact HC.out⟩
        case measure => simp [intOf]; omega
    · have HN := Lib.hid (show behindV ns L d = .pointer none by
        unfold behindV
        rw [posOf_none fun j h' => by
          have h : j < L.length := by rw [doorG_length] at h'; exact h'
          rw [doorG_get h]; exact HK.out j h (by have := HL.out; have := HNN.out; omega)])
      go_wp2_with fail
      go_ret
      exact ⟨ret_val HN.out.symm, rfl⟩
end Go.Proofs.Ytibjldngdhcpaaa
