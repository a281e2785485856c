/-
  Contracts of the model's draws: what is drawn is some small list of blocks.
-/
import Derived.Test.YtklnhbfpmmdhjaaGreatRd
import Derived.Test.YtklnhbfpmmdhjaaGreatOnly
import Derived.Test.YtklnhbfpmmdhjaaGreatSpecParse
namespace Go.Proofs.YtklnhbfpmmdhjaaGreat
open Go.RowKit Go.Sort

theorem pieces_pos (c : UInt8) (s : ByteArray) : 0 < (pieces c s).length := by
  rcases Nat.eq_zero_or_pos (pieces c s).length with e | h
  · have h1 := pieces_lens c s
    have e2 : pieces c s = [] := List.eq_nil_of_length_eq_zero e
    rw [e2] at h1
    simp [lensOf] at h1
  · exact h

theorem parseVal_small (s : ByteArray) : (parseVal s).length + tot (parseVal s) ≤ s.size := by
  unfold parseVal
  split
  · rename_i h
    unfold parseOk at h
    have hl := (Bool.and_eq_true_iff.1 h).1
    have h1 : (parsed s).length + tot (parsed s) = lensOf (pieces 44 s) := tot_parsed hl
    have h2 := pieces_lens 44 s
    have h3 := pieces_pos 44 s
    omega
  · simp [tot]

/-- Some small list of blocks, in memory of the call's own. -/
def DrawPost (n : Nat) (w : World) (e : Ending) (w' : World) : Prop :=
  ∃ v g, e = .returned v ∧ OwnBl w' w.heap.size v g ∧ g.length + tot g ≤ n ∧ Below w.heap.size w w'

def knownTexts : List ByteArray := [⟨#[65, 63, 66, 67, 44, 66, 62, 68, 44, 67, 62, 68, 44, 68, 46]⟩, ⟨#[65, 62, 66, 44, 66, 63, 67, 68, 44, 67, 62, 66, 44, 68, 46]⟩, ⟨#[65, 63, 66, 67, 44, 66, 62, 67, 44, 67, 62, 66]⟩, ⟨#[65, 46]⟩, ⟨#[65, 62, 65]⟩,
  ⟨#[65, 63, 66, 67, 44, 66, 63, 68, 69, 44, 67, 62, 69, 44, 68, 62, 65, 44, 69, 63, 66, 70, 44, 70, 46]⟩, ⟨#[65, 62, 66, 44, 66, 63, 67, 70, 44, 67, 63, 68, 69, 44, 68, 62, 66, 44, 69, 62, 67, 44, 70, 46]⟩, ⟨#[65, 63, 66, 67, 44, 66, 63, 67, 68, 44, 67, 63, 66, 68, 44, 68, 46]⟩,
  ⟨#[65, 63, 65, 66, 44, 66, 46]⟩, ⟨#[65, 63, 66, 68, 44, 66, 62, 67, 44, 67, 46, 44, 68, 62, 67, 44, 69, 62, 65]⟩, ⟨#[65, 62, 66, 44, 66, 63, 66, 67, 44, 67, 63, 65, 68, 44, 68, 46]⟩]

theorem known_small : ∀ s ∈ knownTexts, s.size ≤ 25 := by decide

theorem ownRow_base {w : World} {b b' : Nat} {e : TypeId} {size : Nat} {v : Value} {n : Nat} {xs : List Value} (h : w.ownsRow b e size v n xs) (hb : b' ≤ b) : w.ownsRow b' e size v n xs := by
  refine ⟨h.1, ?_⟩
  rcases h.2 with hn | ⟨g, cap, cur, hv, hb2, rest⟩
  · exact .inl hn
  · exact .inr ⟨g, cap, cur, hv, Nat.le_trans hb hb2, rest⟩

set_option maxHeartbeats 1600000 in
set_option maxRecDepth 100000 in
theorem known_any (k : Nat) (w : World) (hk : k < 11) :
    Calls Tryz.prog 98 #[.int .i64 k] w (DrawPost 25 w) := by
  obtain ⟨s, hs⟩ : ∃ s, knownTexts[k]? = some s := ⟨_, List.getElem?_eq_getElem (by simpa [knownTexts] using hk)⟩
  have hsz := known_small s (List.mem_of_getElem? hs)
  have HP : Hid (∀ w, Calls Tryz.prog 113 #[.string s] w (ParsePost s w)) := fun w => specParse_any s w (by omega)
  have HB : Hid ((knownTexts.map Value.string)[k]? = some (.string s)) := by
    show (knownTexts.map Value.string)[k]? = some (.string s)
    rw [List.getElem?_map, hs]; rfl
  have HCELL : Hid (∀ w : World, (w.alloc (.cells (knownTexts.map Value.string).toArray 9)).cell? ⟨w.heap.size, k, none⟩ = some (.string s)) := fun w => by
    rw [(Blk.new w 9 (knownTexts.map Value.string).toArray).cell k]
    simpa using HB.out
  have hm : k % 11 = k := by omega
  have hkl : (k : Int) < 11 := by omega
  clear hs
  go_enter Tryz.func98, Tryz.ntmps98
  have hcell := HCELL.out w
  simp only [knownTexts, List.map_cons, List.map_nil] at hcell
  go_wp2_with fail
  clear hcell
  refine (HP.out _).mono ?_
  rintro e w2 ⟨v, rfl, hv, b2⟩
  have HV := Lib.hid (ownRow_base hv (show w.heap.size ≤ _ by simp))
  have hB := below_trans_self ((Below.refl w.heap.size w).alloc (Nat.le_refl _) _) b2
  have HS := Lib.hid (parseVal_small s)
  clear hv
  go_wp2_with fail
  exact bodyPost_ret (v := v) (by simp [results, Tryz.results98, go_sem]) rfl ⟨v, parseVal s, rfl, HV.out, by have := HS.out; omega, hB⟩

theorem Rd.below {w w' : World} {R : Nat} {A : Option Addr} {len cap p : Nat} (h : Rd w R A len cap p) (hb : Below w.heap.size w w') : Rd w' R A len cap p := by
  refine ⟨h.blk.below hb h.blk.lt, fun hl => ?_, h.small⟩
  obtain ⟨b, off, rfl, hlt, hne, hc⟩ := h.bytes hl
  have := hb.size
  refine ⟨b, off, rfl, by omega, hne, fun k hk => ?_⟩
  obtain ⟨c, hcc⟩ := hc k hk
  exact ⟨c, (hb.cell (p := ⟨b, off + k, none⟩) hlt).trans hcc⟩

theorem ownRow_only {w w' : World} {R base : Nat} {e : TypeId} {size : Nat} {v : Value} {n : Nat} {xs : List Value} (h : w.ownsRow base e size v n xs) (hR : R < base) (ho : Only R w w') : w'.ownsRow base e size v n xs := by
  refine ⟨h.1, ?_⟩
  rcases h.2 with hn | ⟨g, cap, cur, hv, hb2, hg, rest⟩
  · exact .inl hn
  · refine .inr ⟨g, cap, cur, hv, hb2, ?_, rest⟩
    have hlt : g < w.heap.size := by
      rcases Nat.lt_or_ge g w.heap.size with h' | h'
      · exact h'
      · rw [Array.getElem?_eq_none h'] at hg; cases hg
    exact (ho.block g (by omega) hlt).trans hg

/-- A draw, told without the world's own letters. -/
def Pick2 (R : Nat) (A : Option Addr) (len cap p n : Nat) (w : World) (e : Ending) (w' : World) : Prop :=
  ∃ x : Nat, e = .returned (.int .i64 x) ∧ x < n ∧ Only R w w' ∧ Rd w' R A len cap (p + 1)

theorem pick2 (R : Nat) (A : Option Addr) (len cap p : Nat) (n : Nat) (w : World) (h : Rd w R A len cap p) (hn : 1 ≤ n) (hn2 : n ≤ 1000) (hp : p ≤ 1048576) :
    Calls Tryz.prog 76 #[.pointer (some ⟨R, 0, none⟩), .int .i64 n] w (Pick2 R A len cap p n w) := by
  refine (pick_any R A len cap p n w h hn hn2 hp).mono ?_
  rintro e w' ⟨x, m, rfl, hx, rfl⟩
  exact ⟨x, rfl, by omega, Only.step _ _ _ _, h.next m⟩

def Num2 (R : Nat) (A : Option Addr) (len cap p : Nat) (ls : List Int) (w : World) (e : Ending) (w' : World) : Prop :=
  ∃ z : Int, e = .returned (.int .i64 z) ∧ z ∈ ls ∧ Only R w w' ∧ Rd w' R A len cap (p + 1)

theorem num2 (R : Nat) (A : Option Addr) (len cap p : Nat) (ls : List Int) (w : World) (h : Rd w R A len cap p) (h1 : 1 ≤ ls.length) (h2 : ls.length ≤ 1000) (hp : p ≤ 1048576) :
    Calls Tryz.prog 99 #[.pointer (some ⟨R, 0, none⟩), .slice (some ⟨w.heap.size, 0, none⟩) ls.length ls.length] (w.alloc (.cells (ls.map (Value.int .i64)).toArray 3)) (Num2 R A len cap p ls w) := by
  have hR := h.blk.lt
  have hr := h.below ((Below.refl w.heap.size w).alloc (Nat.le_refl _) (.cells (ls.map (Value.int .i64)).toArray 3))
  refine (num_any R A len cap p w.heap.size ls _ hr (by omega) (fun j hj => ?_) h1 h2 hp).mono ?_
  · rw [(Blk.new w 3 (ls.map (Value.int .i64)).toArray).cell j]
    simp [hj]
  · rintro e w' ⟨x, hx, m, rfl, rfl⟩
    exact ⟨_, rfl, List.getElem_mem hx, ((Only.refl R w).alloc _).trans (Only.step _ _ _ _), hr.next m⟩

def Of2 (R : Nat) (A : Option Addr) (len cap p : Nat) (ls : List ByteArray) (w : World) (e : Ending) (w' : World) : Prop :=
  ∃ s : ByteArray, e = .returned (.string s) ∧ s ∈ ls ∧ Only R w w' ∧ Rd w' R A len cap (p + 1)

theorem of2 (R : Nat) (A : Option Addr) (len cap p : Nat) (ls : List ByteArray) (w : World) (h : Rd w R A len cap p) (h1 : 1 ≤ ls.length) (h2 : ls.length ≤ 1000) (hp : p ≤ 1048576) :
    Calls Tryz.prog 77 #[.pointer (some ⟨R, 0, none⟩), .slice (some ⟨w.heap.size, 0, none⟩) ls.length ls.length] (w.alloc (.cells (ls.map Value.string).toArray 9)) (Of2 R A len cap p ls w) := by
  have hR := h.blk.lt
  have hr := h.below ((Below.refl w.heap.size w).alloc (Nat.le_refl _) (.cells (ls.map Value.string).toArray 9))
  refine (of_any R A len cap p w.heap.size ls _ hr (by omega) (fun j hj => ?_) h1 h2 hp).mono ?_
  · rw [(Blk.new w 9 (ls.map Value.string).toArray).cell j]
    simp [hj]
  · rintro e w' ⟨x, hx, m, rfl, rfl⟩
    exact ⟨_, rfl, List.getElem_mem hx, ((Only.refl R w).alloc _).trans (Only.step _ _ _ _), hr.next m⟩

theorem Only.grown {R : Nat} {w a a' : World} {row : Option Nat} (h : Only R w a) (hg : a.grownBy a' row) (hr : ∀ k, row = some k → w.heap.size ≤ k) : Only R w a' :=
  ⟨hg.os.trans h.os, hg.tape.trans h.tape, hg.output.trans h.output, Nat.le_trans h.size hg.size, fun k hk hlt => (hg.block k (Nat.lt_of_lt_of_le hlt h.size) (fun e => by have := hr k e.symm; omega)).trans (h.block k hk hlt)⟩

theorem Rd.grown {w0 a a' : World} {R : Nat} {A : Option Addr} {len cap p p0 : Nat} {row : Option Nat} (h0 : Rd w0 R A len cap p0) (h : Rd a R A len cap p) (hg : a.grownBy a' row) (hr : ∀ k, row = some k → w0.heap.size ≤ k) : Rd a' R A len cap p := by
  have hR := h0.blk.lt
  refine ⟨(hg.block R h.blk.lt (fun e => by have := hr R e.symm; omega)).trans h.blk, fun hl => ?_, h.small⟩
  obtain ⟨b, off, rfl, hlt, hne, hc⟩ := h.bytes hl
  obtain ⟨b0, off0, e0, hlt0, _, _⟩ := h0.bytes hl
  injection e0 with e0
  injection e0 with e1 e2 _
  subst e1; subst e2
  refine ⟨b, off, rfl, Nat.lt_of_lt_of_le hlt hg.size, hne, fun k hk => ?_⟩
  obtain ⟨c, hcc⟩ := hc k hk
  exact ⟨c, hg.cell hcc (fun e => by have := hr b e.symm; omega)⟩
end Go.Proofs.YtklnhbfpmmdhjaaGreat
