/-
  The program's findParents: the parent of each block.
-/
import Derived.Test.YtklnhbfpmmdhjaaGreatMeetSets
import Derived.Test.YtklnhbfpmmdhjaaGreatDomMore
import Derived.LaidEqlPtr
namespace Go.Proofs.YtklnhbfpmmdhjaaGreat
open Go.RowKit Go.Sort

theorem run_neq_ptr_other {P : Program} (w : World) {tp te : TypeId} {j : TypeInfo} {a b : Addr} {ca cb : Array Value} {ta tb : TypeId} (hp : P.underlying tp = some (.pointer te)) (hte : P.info? te = some j) (hsz : j.size ≠ 0)
    (hne : a ≠ b) (ha : w.heap[a.block]? = some (.cells ca ta (0, 0))) (hb : w.heap[b.block]? = some (.cells cb tb (0, 0))) :
    (binOp .neq tp (.pointer (some a)) (.pointer (some b))).run P w = .ok (.bool true) w := by
  have h : ∀ d : Nat, (Op.equalIn (d + 1) tp (.pointer (some a)) (.pointer (some b))).run P w = .ok false w := fun d => by
    simp [Op.equalIn, run_underlying hp, sizeOf, typeInfo, hte, hsz, run_sameAddr_other w hne ha hb]
  simp only [binOp]
  simp [Op.equal, Op.maxDepth, h 9999]

theorem info_node2 : (Tryz.prog.info? 87).map (·.size) = some 3 := by kernel_rfl

/-- A parent is written. -/
theorem TreeIn.putP {w : World} {tb : Nat} {V : Value} {S : Nat → Nat} {Pr : Nat → Value} (h : TreeIn w tb V S Pr) {t : Nat} (ht : t < 26) (v : Value) : TreeIn (w.setCell ⟨tb, 27 + t, none⟩ v) tb V S (fun k => if k = t then v else Pr k) := by
  obtain ⟨cs, hb, hz, hv, hs, hp⟩ := h
  refine ⟨_, hb.set_ (27 + t) _, by simp [hz], ?_, fun k hk => ?_, fun k hk => ?_⟩
  · rw [Array.getElem?_setIfInBounds_ne (by omega)]; exact hv
  · rw [Array.getElem?_setIfInBounds_ne (by omega)]; exact hs k hk
  · show _ = some (if k = t then v else Pr k)
    by_cases e : k = t
    · subst e
      rw [if_pos rfl, Array.getElem?_setIfInBounds_self_of_lt (by omega)]
    · rw [if_neg e, Array.getElem?_setIfInBounds_ne (by omega)]; exact hp k hk

theorem TreeIn.same {w : World} {tb : Nat} {V : Value} {S : Nat → Nat} {Pr Pr' : Nat → Value} (h : TreeIn w tb V S Pr) (e : ∀ k, k < 26 → Pr k = Pr' k) : TreeIn w tb V S Pr' := by
  obtain ⟨cs, hb, hz, hv, hs, hp⟩ := h
  exact ⟨cs, hb, hz, hv, hs, fun k hk => by rw [← e k hk]; exact hp k hk⟩

/-- The parent among some blocks. -/
def parAmong (g : List Bl) (l : List Nat) (n : Nat) : Option Nat := (parL g n).filter fun p => decide (p ∈ l)

theorem parAmong_nil (g : List Bl) (n : Nat) : parAmong g [] n = none := by unfold parAmong; cases parL g n <;> simp
theorem parAmong_all {g : List Bl} (hv : validB g = true) {n : Nat} (hn : Rch g [] n) {l : List Nat} (hl : ∀ x, Rch g [] x → x ∈ l) : parAmong g l n = parL g n := by
  unfold parAmong
  cases hp : parL g n with
  | none => rfl
  | some p => simp [hl p ((parL_iff hv hn).1 hp).2.1]
theorem parAmong_yes {g : List Bl} {l : List Nat} {n p : Nat} (h : parL g n = some p) : parAmong g (l ++ [p]) n = some p := by unfold parAmong; rw [h]; simp
theorem parAmong_no {g : List Bl} {l : List Nat} {n p : Nat} (h : parL g n ≠ some p) : parAmong g (l ++ [p]) n = parAmong g l n := by
  unfold parAmong
  cases hp : parL g n with
  | none => rfl
  | some q =>
    have hq : q ≠ p := fun e => h (by rw [hp, e])
    rw [Option.filter_some, Option.filter_some]
    simp [hq]

/-- The parents of the first k blocks. -/
def parsOf (NB : Nat) (g : List Bl) (l : List Nat) (n : Nat) : Value := if n ∈ l then ptrAt NB (parL g n) else .pointer none
/-- The parents of some blocks, and of one more as far as it is known. -/
def parsAt (NB : Nat) (g : List Bl) (l m : List Nat) (x n : Nat) : Value := if n = x then ptrAt NB (parAmong g m x) else parsOf NB g l n

theorem parsAt_start (NB : Nat) (g : List Bl) {l : List Nat} {x : Nat} (hx : x ∉ l) (n : Nat) : parsOf NB g l n = parsAt NB g l [] x n := by
  unfold parsAt
  split
  · rename_i e
    subst e
    rw [parAmong_nil]
    unfold parsOf
    rw [if_neg hx]; rfl
  · rfl
theorem parsAt_end {NB : Nat} {g : List Bl} (hv : validB g = true) {l m : List Nat} {x : Nat} (hx : Rch g [] x) (hm : ∀ x, Rch g [] x → x ∈ m) (n : Nat) : parsAt NB g l m x n = parsOf NB g (l ++ [x]) n := by
  unfold parsAt parsOf
  rw [parAmong_all hv hx hm]
  by_cases e : n = x
  · subst e; simp
  · simp [e]

set_option maxRecDepth 100000 in
set_option maxHeartbeats 3200000 in
theorem findParents_any (tb NB B off cap : Nat) (g : List Bl) (l : List Nat) (S : Nat → Nat) (w : World) (hv : validB g = true) (hT : TreeIn w tb (.slice (some ⟨B, off, none⟩) l.length cap) S (fun _ => .pointer none))
    (hP : ∀ k (h : k < l.length), w.cell? ⟨B, off + k, none⟩ = some (nptr NB l[k])) (hBlt : B < w.heap.size) (hN : NodesIn w NB g) (hB : B ≠ tb) (hNe : ∀ i, i < g.length → nb NB i ≠ tb)
    (hS : ∀ b, S b < 4294967296) (hD : ∀ b, Rch g [] b → ∀ a, (S b).testBit a = true ↔ Dm g a b) (hl : ∀ x, x ∈ l ↔ Rch g [] x) (hnd : l.Nodup) (hn : l.length ≤ 26) :
    Calls Tryz.prog 79 #[.pointer (some ⟨tb, 0, none⟩)] w fun e w' => e = .returned (.tuple #[]) ∧ TreeIn w' tb (.slice (some ⟨B, off, none⟩) l.length cap) S (parsOf NB g l) ∧ Only tb w w' := by
  have hlt26 : ∀ x ∈ l, x < g.length ∧ x < 26 := fun x hx => by
    have h1 := ((hl x).1 hx).lt hv
    have h2 := (valid_iff.1 hv).2.1
    exact ⟨h1, by omega⟩
  obtain ⟨jt, hjt, hjs⟩ := Option.map_eq_some_iff.1 info_node2
  have cN := hT.nodes
  have HT := Lib.hid hT
  have HN := Lib.hid hN
  have HP := Lib.hid hP
  have HNE := Lib.hid hNe
  have HL := Lib.hid hl
  have HLT := Lib.hid hlt26
  have HV := Lib.hid hv
  have HS := Lib.hid hS
  have HD := Lib.hid hD
  have HND := Lib.hid hnd
  have HJS := Lib.hid hjs
  clear hT hN hP hNe hl hlt26 hv hS hD hnd hjs
  go_enter Tryz.func79, Tryz.ntmps79
  go_wp2_with fail
  go_loopw [11] (fun i wr => ∃ (k : Nat), k ≤ l.length ∧ i = .int .i64 k ∧ TreeIn wr tb (.slice (some ⟨B, off, none⟩) l.length cap) S (parsOf NB g (l.take k)) ∧ Only tb w wr) (fun i _ => l.length - (intOf i).toNat)
  case atStart => exact ⟨0, Nat.zero_le _, rfl, HT.out, Only.refl _ _⟩
  case round =>
    obtain ⟨k, hk, rfl, hT, hO⟩ := hrel
    have HTR := Lib.hid hT
    have HO := Lib.hid hO
    have cN2 := hT.nodes
    clear hT hO
    by_cases hlt : k < l.length
    · have c0 : wr.cell? ⟨B, off + k, none⟩ = some (nptr NB l[k]) := (HO.out.cellAt hB hBlt).trans (HP.out k hlt)
      have hx := HLT.out l[k] (List.getElem_mem hlt)
      have hxr := (HL.out l[k]).1 (List.getElem_mem hlt)
      obtain ⟨x, hxe⟩ : ∃ x, x = l[k] := ⟨_, rfl⟩
      have hxn : x ∉ l.take k := fun h => by
        obtain ⟨j, hj, e⟩ := List.getElem_of_mem h
        rw [List.getElem_take] at e
        have hj2 : j < k := by rw [List.length_take] at hj; omega
        have := (List.nodup_iff_pairwise_ne.1 HND.out)
        have := List.pairwise_iff_getElem.1 this j k (by omega) hlt hj2
        exact this (e.trans hxe)
      rw [← hxe] at c0 hx hxr
      have HXE := Lib.hid hxe
      have HXR := Lib.hid hxr
      have HXN := Lib.hid hxn
      clear hxe hxr hxn
      go_wp2_with fail
      obtain ⟨wo, hwo⟩ : ∃ wo : World, wo = wr := ⟨_, rfl⟩
      have HT2 : Hid (TreeIn wo tb (.slice (some ⟨B, off, none⟩) l.length cap) S (parsAt NB g (l.take k) (l.take 0) x)) := by
        rw [hwo]; exact HTR.out.same fun n _ => parsAt_start NB g HXN.out n
      have HO2 : Hid (Only tb w wo) := by rw [hwo]; exact HO.out
      rw [← hwo]
      clear hwo HTR HO c0 cN2
      go_loopw [20] (fun i wr => ∃ (j : Nat), j ≤ l.length ∧ i = .int .i64 j ∧ TreeIn wr tb (.slice (some ⟨B, off, none⟩) l.length cap) S (parsAt NB g (l.take k) (l.take j) x) ∧ Only tb w wr) (fun i _ => l.length - (intOf i).toNat)
      case atStart => exact ⟨0, Nat.zero_le _, rfl, HT2.out, HO2.out⟩
      case round =>
        obtain ⟨j, hj, rfl, hT, hO⟩ := hrel
        have HT3 := Lib.hid hT
        have HO3 := Lib.hid hO
        clear hT hO
        by_cases hlt2 : j < l.length
        · have c1 : wr.cell? ⟨B, off + j, none⟩ = some (nptr NB l[j]) := (HO3.out.cellAt hB hBlt).trans (HP.out j hlt2)
          have hy := HLT.out l[j] (List.getElem_mem hlt2)
          have hyr := (HL.out l[j]).1 (List.getElem_mem hlt2)
          obtain ⟨y, hye⟩ : ∃ y, y = l[j] := ⟨_, rfl⟩
          rw [← hye] at c1 hy hyr
          have HTK := Lib.hid (show l.take (j + 1) = l.take j ++ [y] by rw [List.take_succ_eq_append_getElem hlt2, hye])
          have HYR := Lib.hid hyr
          clear hye hyr
          by_cases hyx : y = x
          · have HTN : Hid (TreeIn wr tb (.slice (some ⟨B, off, none⟩) l.length cap) S (parsAt NB g (l.take k) (l.take (j + 1)) x)) := HT3.out.same fun n _ => by
              rw [HTK.out]
              unfold parsAt
              rw [parAmong_no]
              intro e
              exact ((parL_iff HV.out HXR.out).1 e).1 hyx
            subst hyx
            have heq := fun w => Lib.run_neq_ptr_same (P := Tryz.prog) w ⟨nb NB y, 0, none⟩ Tryz.underlying53 hjt
            go_wp2_with fail
            go_quiet (fail)
            have HT6 := Lib.hid (HTN.out.below (below_drewN wr nq))
            have HO6 := Lib.hid (HO3.out.trans (Only.of_below (below_drewN wr nq)))
            clear heq
            go_wp2_with fail
            go_roundw
            case rel => exact ⟨j + 1, by omega, by go_num, HT6.out, HO6.out⟩
            case measure => simp [intOf]; omega
          · have HB1 := HN.out
            have hnx : (⟨nb NB y, 0, none⟩ : Addr) ≠ ⟨nb NB x, 0, none⟩ := fun e => hyx (by have h7 := (Addr.mk.inj e).1; simp only [nb] at h7; omega)
            have hbx := fun (n : Nat) => (show Blk (wr.drewN n) (nb NB x) 87 _ from (HO3.out.block _ (HNE.out x hx.1) (HN.out x hx.1).lt).trans (HN.out x hx.1))
            have hby := fun (n : Nat) => (show Blk (wr.drewN n) (nb NB y) 87 _ from (HO3.out.block _ (HNE.out y hy.1) (HN.out y hy.1).lt).trans (HN.out y hy.1))
            have heq := fun n => run_neq_ptr_other (P := Tryz.prog) (wr.drewN n) Tryz.underlying53 hjt (by rw [HJS.out]; decide) hnx (hby n) (hbx n)
            have cix : wr.cell? ⟨nb NB x, 0, none⟩ = some (.int .i64 x) := by have := Blk.cell (hbx 0) 0; simpa using this
            have ciy : wr.cell? ⟨nb NB y, 0, none⟩ = some (.int .i64 y) := by have := Blk.cell (hby 0) 0; simpa using this
            have csx := HT3.out.set hx.2
            have csy := HT3.out.set hy.2
            have fs := fun (k : Nat) => HT3.out.free k
            have sx := HS.out x
            have sy := HS.out y
            have HSP := Lib.hid (set_parent HD.out HYR.out HXR.out hyx)
            obtain ⟨a, ha⟩ : ∃ a, a = S y := ⟨_, rfl⟩
            obtain ⟨b, hb⟩ : ∃ b, b = S x := ⟨_, rfl⟩
            rw [← ha] at csy sy
            rw [← hb] at csx sx
            have HSP2 : Hid (a ||| 2 ^ x = b ↔ Par g y x) := by rw [ha, hb]; exact HSP.out
            have tW : ∀ n, Calls Tryz.prog 100 #[.int .u32 a, nptr NB x] (wr.drewN n) fun e w'' => e = .returned (.int .u32 ((a ||| 2 ^ x : Nat) : Int)) ∧ ∃ m, w'' = wr.drewN m := fun n =>
              (with_any a (nb NB x) x (wr.drewN n) sy cix hx.2).mono fun _ _ ⟨p, q⟩ => ⟨p, n, q.symm⟩
            have fsx := fs (27 + x)
            have x0 : (0 : Int) ≤ (x : Int) := by omega
            have x1 : (x : Int) < 26 := by omega
            have y0 : (0 : Int) ≤ (y : Int) := by omega
            have y1 : (y : Int) < 26 := by omega
            have hx2 := hx.2
            have hy2 := hy.2
            clear hbx hby ha hb HSP HB1 hnx fs
            by_cases hq : a ||| 2 ^ x = b
            · have q0 : (((a ||| 2 ^ x : Nat) : Int) == (b : Int)) = true := by rw [hq]; simp
              have HPY := Lib.hid ((parL_iff HV.out HXR.out).2 (HSP2.out.1 hq))
              clear hq
              go_wp2_with fail
              go_quiet (with_reducible exact tW _)
              go_wp2_with fail
              have HT6 := Lib.hid (HT3.out.below (below_drewN wr nq))
              have HO6 := Lib.hid (HO3.out.trans (Only.of_below (below_drewN wr nq)))
              have cix6 : (wr.drewN nq).cell? ⟨nb NB x, 0, none⟩ = some (.int .i64 x) := cix
              have cpx6 := HT6.out.parent hx2
              have fs6 := HT6.out.free (27 + x)
              obtain ⟨wq, hwq⟩ : ∃ wq, wq = wr.drewN nq := ⟨_, rfl⟩
              rw [← hwq] at HT6 HO6 cix6 cpx6 fs6 ⊢
              clear hwq heq tW cix ciy csx csy fsx HT3 HO3 c1 q0
              go_region
              have HT7 : Hid (TreeIn (wq.setCell ⟨tb, 27 + x, none⟩ (nptr NB y)).drew tb (.slice (some ⟨B, off, none⟩) l.length cap) S (parsAt NB g (l.take k) (l.take (j + 1)) x)) := (HT6.out.putP hx2 (nptr NB y)).same fun n _ => by
                rw [HTK.out]
                unfold parsAt
                rw [parAmong_yes HPY.out]
                split <;> rfl
              have HO7 : Hid (Only tb w (wq.setCell ⟨tb, 27 + x, none⟩ (nptr NB y)).drew) := (HO6.out.setAt (27 + x) _).trans (Only.of_below (below_drewN _ 1))
              clear cix6 cpx6 fs6 HT6 HO6
              go_wp2_with fail
              go_roundw
              case rel => exact ⟨j + 1, by omega, by go_num, HT7.out, HO7.out⟩
              case measure => simp [intOf]; omega
            · have q0 : (((a ||| 2 ^ x : Nat) : Int) == (b : Int)) = false := beq_eq_false_iff_ne.2 fun e => hq (Int.ofNat.inj e)
              have HTN : Hid (TreeIn wr tb (.slice (some ⟨B, off, none⟩) l.length cap) S (parsAt NB g (l.take k) (l.take (j + 1)) x)) := HT3.out.same fun n _ => by
                rw [HTK.out]
                unfold parsAt
                rw [parAmong_no]
                intro e
                exact hq (HSP2.out.2 ((parL_iff HV.out HXR.out).1 e))
              clear hq
              go_wp2_with fail
              go_quiet (with_reducible exact tW _)
              have HT6 := Lib.hid (HTN.out.below (below_drewN wr nq))
              have HO6 := Lib.hid (HO3.out.trans (Only.of_below (below_drewN wr nq)))
              clear heq tW
              go_wp2_with fail
              go_roundw
              case rel => exact ⟨j + 1, by omega, by go_num, HT6.out, HO6.out⟩
              case measure => simp [intOf]; omega
        · have HTN : Hid (TreeIn wr tb (.slice (some ⟨B, off, none⟩) l.length cap) S (parsOf NB g (l.take (k + 1)))) := HT3.out.same fun n _ => by
            rw [List.take_of_length_le (by omega : l.length ≤ j), parsAt_end HV.out HXR.out (fun x hx => (HL.out x).2 hx), List.take_succ_eq_append_getElem hlt, HXE.out]
          go_wp2_with fail
          go_roundw
          case rel => exact ⟨k + 1, by omega, by go_num, HTN.out, HO3.out⟩
          case measure => simp [intOf]; omega
    · have HTN : Hid (TreeIn wr tb (.slice (some ⟨B, off, none⟩) l.length cap) S (parsOf NB g l)) := by
        have := HTR.out
        rwa [List.take_of_length_le (by omega)] at this
      go_wp2_with fail
      go_end0
      exact ⟨rfl, HTN.out, HO.out⟩
end Go.Proofs.YtklnhbfpmmdhjaaGreat
