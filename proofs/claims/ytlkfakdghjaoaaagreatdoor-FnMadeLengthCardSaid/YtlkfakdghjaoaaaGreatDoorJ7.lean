import Derived.Test.YtlkfakdghjaoaaaGreatDoorWays
import Derived.Test.YtlkfakdghjaoaaaGreatDoorJ5
import Derived.Test.YtlkfakdghjaoaaaGreatDoorJ4
namespace Go.Proofs.YtlkfakdghjaoaaaGreatDoor
def Dm (g : List Bl) (a b : Nat) : Prop := a = b ∨ ¬ Rch g [a] b
theorem Rch.fewer {g : List Bl} {A A' : List Nat} {i : Nat} (h : Rch g A i) (hs : ∀ x, x ∈ A' → x ∈ A) : Rch g A' i := by
 induction h with
 | start ha => exact .start fun e => ha (hs _ e)
 | step _ hn ha ih => exact .step ih hn fun e => ha (hs _ e)
theorem Rch.free {g : List Bl} {A : List Nat} {i : Nat} (h : Rch g A i) : Rch g [] i := h.fewer (by simp)
theorem Dm.refl (g : List Bl) (a : Nat) : Dm g a a := .inl rfl
theorem Dm.entry (g : List Bl) (b : Nat) : Dm g 0 b := by
 refine .inr fun h => ?_
 induction h with
 | start ha => simp at ha
 | step _ _ _ ih => exact ih
theorem Dm.of_entry {g : List Bl} {a : Nat} (h : Dm g a 0) : a = 0 := by
 rcases h with h | h
 ·exact h
 ·by_cases e : a = 0
  ·exact e
  ·exact absurd (Rch.start (by simpa using fun h => e h.symm)) h
theorem Dm.back {g : List Bl} {a i t : Nat} (h : Dm g a t) (hn : t ∈ nxt g i) : a = t ∨ Dm g a i := by
 rcases h with h | h
 ·exact .inl h
 ·by_cases e : a = t
  ·exact .inl e
  ·exact .inr (.inr fun hi => h (.step hi hn (by simpa using fun h => e h.symm)))
theorem Rch.split {g : List Bl} {A : List Nat} {x : Nat} (b : Nat) (h : Rch g A x) : Rch g [b] x ∨ Rch g A b := by
 induction h with
 | start ha =>
  by_cases e : b = 0
  ·subst e; exact .inr (.start ha)
  ·exact .inl (.start (by simpa using fun h => e h.symm))
 | @step i t hi hn ha ih =>
  rcases ih with ih | ih
  ·by_cases e : b = t
   ·subst e; exact .inr (.step hi hn ha)
   ·exact .inl (.step ih hn (by simpa using fun h => e h.symm))
  ·exact .inr ih
theorem Dm.live {g : List Bl} {a b : Nat} (h : Dm g a b) (hb : Rch g [] b) : Rch g [] a := by
 rcases h with rfl | h
 ·exact hb
 ·rcases hb.split a with h' | h'
  ·exact absurd h' h
  ·exact h'
theorem Dm.trans {g : List Bl} {a b c : Nat} (h : Dm g a b) (k : Dm g b c) : Dm g a c := by
 rcases h with rfl | h
 ·exact k
 ·rcases k with rfl | k
  ·exact .inr h
  ·refine .inr fun hc => ?_
   rcases hc.split b with h' | h'
   ·exact k h'
   ·exact h h'
theorem Dm.antisymm {g : List Bl} {a b : Nat} (h : Dm g a b) (k : Dm g b a) (ha : Rch g [] a) : a = b := by
 by_cases hab : a = b
 ·exact hab
 ·exfalso
  have h' : ¬ Rch g [a] b := h.resolve_left hab
  have k' : ¬ Rch g [b] a := k.resolve_left fun e => hab e.symm
  have key : ∀ x, Rch g [] x → Rch g [a, b] x := by
   intro x hx
   induction hx with
   | start _ =>
    refine .start fun e => ?_
    simp only [List.mem_cons, List.not_mem_nil, or_false] at e
    rcases e with e | e
    ·exact k' (e ▸ .start (by simpa using fun q => hab (e.symm.trans q)))
    ·exact h' (e ▸ .start (by simpa using fun q => hab (q.symm.trans e)))
   | @step i t _ hn _ ih =>
    refine .step ih hn fun e => ?_
    simp only [List.mem_cons, List.not_mem_nil, or_false] at e
    rcases e with e | e
    ·exact k' (e ▸ .step (ih.fewer (by simp)) hn (by simpa using fun q => hab (e.symm.trans q)))
    ·exact h' (e ▸ .step (ih.fewer (by simp)) hn (by simpa using fun q => hab (q.symm.trans e)))
  exact (key a ha).out (by simp)
theorem Dm.total {g : List Bl} {a b c : Nat} (h : Dm g a c) (k : Dm g b c) (hc : Rch g [] c) : Dm g a b ∨ Dm g b a := by
 by_cases hab : a = b
 ·exact .inl (.inl hab)
 by_cases h1 : Rch g [a] b
 ·by_cases h2 : Rch g [b] a
  ·exfalso
   have key : ∀ x, Rch g [] x → Rch g [a] x ∨ Rch g [b] x := by
    intro x hx
    induction hx with
    | start _ =>
     by_cases e : a = 0
     ·exact .inr (.start (by simpa using fun q => hab (e.trans q)))
     ·exact .inl (.start (by simpa using fun q => e q.symm))
    | @step i t _ hn _ ih =>
     by_cases ea : a = t
     ·exact .inr (ea ▸ h2)
     by_cases eb : b = t
     ·exact .inl (eb ▸ h1)
     rcases ih with ih | ih
     ·exact .inl (.step ih hn (by simpa using fun q => ea q.symm))
     ·exact .inr (.step ih hn (by simpa using fun q => eb q.symm))
   rcases key c hc with hx | hx
   ·rcases h with h | h
    ·exact hx.out (by simp [h])
    ·exact h hx
   ·rcases k with k | k
    ·exact hx.out (by simp [k])
    ·exact k hx
  ·exact .inr (.inr h2)
 ·exact .inl (.inr h1)
theorem sets_sound {g : List Bl} {S : Nat → Nat → Prop} (h0 : ∀ a, S 0 a → a = 0) (hs : ∀ i t a, Rch g [] i → t ∈ nxt g i → S t a → a = t ∨ S i a) {a b : Nat} (h : S b a) : Dm g a b := by
 refine .inr fun hb => ?_
 have key : ∀ x, Rch g [a] x → ¬ S x a := by
  intro x hx
  induction hx with
  | start ha => exact fun e => ha (by simp [h0 a e])
  | @step i t hi hn ha ih =>
   intro e
   rcases hs i t a hi.free hn e with rfl | e
   ·exact ha (by simp)
   ·exact ih e
 exact key b hb h
theorem line_last {g : List Bl} {c : Nat} (hc : Rch g [] c) : ∀ (l : List Nat), l ≠ [] → (∀ a ∈ l, Dm g a c) → ∃ p ∈ l, ∀ a ∈ l, Dm g a p
 | [], h, _ => absurd rfl h
 | [x], _, _ => ⟨x, by simp, fun a ha => by rw [List.mem_singleton.1 ha]; exact .refl g x⟩
 | x :: y :: l, _, h => by
  obtain ⟨p, hp, hm⟩ := line_last hc (y :: l) (by simp) fun a ha => h a (List.mem_cons_of_mem _ ha)
  rcases (h x (by simp)).total (h p (List.mem_cons_of_mem _ hp)) hc with k | k
  ·exact ⟨p, List.mem_cons_of_mem _ hp, fun a ha => by
    rcases List.mem_cons.1 ha with rfl | ha
    ·exact k
    ·exact hm a ha⟩
  ·exact ⟨x, by simp, fun a ha => by
    rcases List.mem_cons.1 ha with rfl | ha
    ·exact .refl g a
    ·exact (hm a ha).trans k⟩
def Par (g : List Bl) (p n : Nat) : Prop := p ≠ n ∧ Rch g [] p ∧ ∀ a, Dm g a n ↔ (a = n ∨ Dm g a p)
theorem par_some {g : List Bl} (hv : validB g = true) {n : Nat} (hn : Rch g [] n) (h0 : n ≠ 0) : ∃ p, Par g p n := by
 classical
 let l := (List.range g.length).filter fun a => decide (a ≠ n ∧ Dm g a n)
 have hml : ∀ a, a ∈ l ↔ a < g.length ∧ a ≠ n ∧ Dm g a n := fun a => by simp [l]
 have hne : l ≠ [] := by
  have : 0 ∈ l := (hml 0).2 ⟨(valid_iff.1 hv).1, fun e => h0 e.symm, .entry g n⟩
  intro e; rw [e] at this; simp at this
 obtain ⟨p, hp, hm⟩ := line_last hn l hne fun a ha => ((hml a).1 ha).2.2
 obtain ⟨_, hpn, hd⟩ := (hml p).1 hp
 refine ⟨p, hpn, hd.live hn, fun a => ⟨fun ha => ?_, fun ha => ?_⟩⟩
 ·by_cases e : a = n
  ·exact .inl e
  ·exact .inr (hm a ((hml a).2 ⟨(ha.live hn).lt hv, e, ha⟩))
 ·rcases ha with rfl | ha
  ·exact .refl g a
  ·exact ha.trans hd
theorem par_one {g : List Bl} {p q n : Nat} (h : Par g p n) (k : Par g q n) : p = q := by
 have h1 : Dm g p q := ((k.2.2 p).1 ((h.2.2 p).2 (.inr (.refl g p)))).resolve_left h.1
 have h2 : Dm g q p := ((h.2.2 q).1 ((k.2.2 q).2 (.inr (.refl g q)))).resolve_left k.1
 exact h1.antisymm h2 h.2.1
theorem par_entry {g : List Bl} {p : Nat} (h : Par g p 0) : False :=
 h.1 (Dm.of_entry ((h.2.2 p).2 (.inr (.refl g p))))
end Go.Proofs.YtlkfakdghjaoaaaGreatDoor
namespace Go.Proofs.YtlkfakdghjaoaaaGreatDoor
def upd (S : Nat → Nat) (t v : Nat) : Nat → Nat := fun k => if k = t then v else S k
def meetAt (S : Nat → Nat) (i t : Nat) : Nat := S t &&& (S i ||| 2 ^ t)
structure DInv (g : List Bl) (S : Nat → Nat) : Prop where
 all : ∀ b, Rch g [] b → ∀ a, Dm g a b → (S b).testBit a = true
 ent : ∀ a, (S 0).testBit a = true → a = 0
 small : ∀ b, S b < 4294967296
theorem meetAt_le (S : Nat → Nat) (i t : Nat) : meetAt S i t ≤ S t := Nat.and_le_left
theorem meetAt_bit (S : Nat → Nat) (i t a : Nat) : (meetAt S i t).testBit a = ((S t).testBit a && ((S i).testBit a || decide (t = a))) := by
 unfold meetAt
 rw [Nat.testBit_and, Nat.testBit_or, Nat.testBit_two_pow]
theorem DInv.step {g : List Bl} {S : Nat → Nat} (h : DInv g S) {i t : Nat} (hi : Rch g [] i) (hn : t ∈ nxt g i) : DInv g (upd S t (meetAt S i t)) := by
 refine ⟨fun b hb a hd => ?_, fun a ha => ?_, fun b => ?_⟩
 ·unfold upd
  split
  ·rename_i e
   subst e
   rw [meetAt_bit, h.all b hb a hd, Bool.true_and]
   rcases hd.back hn with rfl | hd'
   ·simp
   ·rw [h.all i hi a hd']; rfl
  ·exact h.all b hb a hd
 ·unfold upd at ha
  split at ha
  ·rename_i e
   rw [meetAt_bit] at ha
   exact h.ent a (by rw [e]; exact (Bool.and_eq_true_iff.1 ha).1)
  ·exact h.ent a ha
 ·unfold upd
  split
  ·exact Nat.lt_of_le_of_lt (meetAt_le S i t) (h.small t)
  ·exact h.small b
theorem DInv.start {g : List Bl} {S : Nat → Nat} {m : Nat} (hm : ∀ a, Rch g [] a → m.testBit a = true) (h0 : S 0 = 1) (hb : ∀ b, b ≠ 0 → Rch g [] b → S b = m) (hsm : ∀ b, S b < 4294967296) : DInv g S := by
 refine ⟨fun b hr a hd => ?_, fun a ha => ?_, hsm⟩
 ·by_cases e : b = 0
  ·subst e
   rw [Dm.of_entry hd, h0]; rfl
  ·rw [hb b e hr]
   exact hm a (hd.live hr)
 ·rw [h0] at ha
  have := Nat.testBit_two_pow (n := 0) (m := a)
  rw [Nat.pow_zero] at this
  rw [this] at ha
  simpa using (of_decide_eq_true ha).symm
theorem DInv.done {g : List Bl} {S : Nat → Nat} (h : DInv g S) (hf : ∀ i t, Rch g [] i → t ∈ nxt g i → meetAt S i t = S t) {b : Nat} (hb : Rch g [] b) (a : Nat) : (S b).testBit a = true ↔ Dm g a b := by
 refine ⟨fun e => ?_, h.all b hb a⟩
 refine sets_sound (S := fun b a => (S b).testBit a = true) h.ent (fun i t a hi hn e => ?_) e
 have := meetAt_bit S i t a
 rw [hf i t hi hn] at this
 rw [e, Bool.true_and] at this
 rcases Bool.or_eq_true_iff.1 this.symm with k | k
 ·exact .inr k
 ·exact .inl (of_decide_eq_true k).symm
def sumS (S : Nat → Nat) : Nat → Nat
 | 0 => 0
 | n + 1 => sumS S n + S n
theorem sumS_upd_out {S : Nat → Nat} {t v : Nat} : ∀ {n : Nat}, n ≤ t → sumS (upd S t v) n = sumS S n
 | 0, _ => rfl
 | n + 1, h => by
  rw [sumS, sumS, sumS_upd_out (by omega)]
  unfold upd
  rw [if_neg (by omega)]
theorem sumS_upd {S : Nat → Nat} {t v : Nat} : ∀ {n : Nat}, t < n → sumS (upd S t v) n + S t = sumS S n + v
 | 0, h => absurd h (by omega)
 | n + 1, h => by
  by_cases e : t = n
  ·subst e
   rw [sumS, sumS, sumS_upd_out (Nat.le_refl _)]
   unfold upd
   rw [if_pos rfl]; omega
  ·have ih := sumS_upd (S := S) (v := v) (show t < n by omega)
   rw [sumS, sumS]
   have : upd S t v n = S n := by unfold upd; rw [if_neg (fun q => e q.symm)]
   rw [this]; omega
theorem sumS_less {S : Nat → Nat} {i t : Nat} (ht : t < 26) (h : meetAt S i t ≠ S t) : sumS (upd S t (meetAt S i t)) 26 < sumS S 26 := by
 have h1 := sumS_upd (S := S) (v := meetAt S i t) ht
 have h2 := meetAt_le S i t
 omega
theorem sumS_le {S : Nat → Nat} {i t : Nat} (ht : t < 26) : sumS (upd S t (meetAt S i t)) 26 ≤ sumS S 26 := by
 have h1 := sumS_upd (S := S) (v := meetAt S i t) ht
 have h2 := meetAt_le S i t
 omega
theorem upd_same {S : Nat → Nat} {t v : Nat} (h : v = S t) : upd S t v = S := by
 funext k; unfold upd; split
 ·rename_i e; rw [h, e]
 ·rfl
theorem set_parent {g : List Bl} {S : Nat → Nat} (hS : ∀ b, Rch g [] b → ∀ a, (S b).testBit a = true ↔ Dm g a b) {p n : Nat} (hp : Rch g [] p) (hn : Rch g [] n) (hne : p ≠ n) : (S p ||| 2 ^ n) = S n ↔ Par g p n := by
 constructor
 ·intro e
  refine ⟨hne, hp, fun a => ?_⟩
  rw [← hS n hn a, ← e, Nat.testBit_or, Nat.testBit_two_pow, Bool.or_eq_true_iff, hS p hp a]
  constructor
  ·rintro (k | k)
   ·exact .inr k
   ·exact .inl (of_decide_eq_true k).symm
  ·rintro (k | k)
   ·exact .inr (decide_eq_true k.symm)
   ·exact .inl k
 ·intro h
  apply Nat.eq_of_testBit_eq
  intro a
  rw [Bool.eq_iff_iff, hS n hn a, h.2.2 a, Nat.testBit_or, Nat.testBit_two_pow, Bool.or_eq_true_iff, hS p hp a]
  constructor
  ·rintro (k | k)
   ·exact .inr k
   ·exact .inl (of_decide_eq_true k).symm
  ·rintro (k | k)
   ·exact .inr (decide_eq_true k.symm)
   ·exact .inl k
end Go.Proofs.YtlkfakdghjaoaaaGreatDoor

namespace Go.Proofs.YtlkfakdghjaoaaaGreatDoor
open Go.RowKit Go.Sort
theorem one_get' {c : UInt8} {s : ByteArray} (h : s = ⟨#[c]⟩) (h0 : 0 < s.size) : s[0]'h0 = c := by subst h; rfl
theorem stepW_lt {g : List Bl} {A : List Nat} (hv : validB g = true) (h0 : 0 ∉ A) {i k : Nat} (hi : i < g.length) {ts : List Nat} (h : ts ⊆ nxt g i) : ∀ x ∈ stepW A (bfsW g A k) ts, x < g.length := by
 intro x hx
 rcases (stepW_mem _ _ _ _).1 hx with h1 | h1
 ·exact bfsW_lt hv h0 k x h1
 ·exact nxt_lt hv hi (h h1.1)
theorem stepW_le {g : List Bl} {A : List Nat} (hv : validB g = true) (h0 : 0 ∉ A) {i k : Nat} (hi : i < g.length) {ts : List Nat} (h : ts ⊆ nxt g i) : (stepW A (bfsW g A k) ts).length ≤ g.length :=
 nodup_lt_len _ _ (stepW_nodup _ _ _ (bfsW_nodup k)) (stepW_lt hv h0 hi h)
set_option maxRecDepth 100000 in
set_option maxHeartbeats 2000000 in
theorem l1FromW_any (A : Option Addr) (cap : Nat) (g : List Bl) (s wo : ByteArray) (a : Nat) (w : World) (hg : Gr w A g) (hn : g.length ≤ 1048576) (hv : validB g = true) (hs : s = nthName g 0) (ha : a < g.length) (hwo : wo = nthName g a) :
  Calls Tryz.prog 164 #[.slice A g.length cap, .string s, .string wo] w fun e w' => e = .returned (.string (namesAt g (reachW g [a]))) ∧ Below w.heap.size w w' := by
 have hpos := (valid_iff.1 hv).1
 have h26 := (valid_iff.1 hv).2.1
 have hs1 : s.size = 1 := by obtain ⟨c, hc, _⟩ := valid_one hv (List.getElem_mem hpos); rw [hs, nthName_at hpos, hc]; rfl
 have h0s : 0 < s.size := by omega
 have hwo1 : wo.size = 1 := by obtain ⟨c, hc, _⟩ := valid_one hv (List.getElem_mem ha); rw [hwo, nthName_at ha, hc]; rfl
 obtain ⟨c0, hc0, _⟩ := valid_one hv (List.getElem_mem hpos)
 have hs0 : s[0]'h0s = c0 := one_get' (by rw [hs, nthName_at hpos, hc0]) h0s
 have hidx0 := idx_namesAt hv (l := [a]) (fun i hi => by simp at hi; omega) hpos hc0
 rw [namesAt_one, ← hwo] at hidx0
 obtain ⟨z0, hz0⟩ : ∃ z0, z0 = Lib.indexByte wo.data.toList c0 := ⟨_, rfl⟩
 rw [← hz0] at hidx0
 have HF : Hid (∀ w, Calls Tryz.prog 114 #[.string wo, .int .u8 (s[0]'h0s).toNat] w fun e w' => e = .returned (.int .i64 z0) ∧ w = w') := fun w => by
  rw [hs0, hz0]; exact find_any wo c0 w (by omega)
 have HV := Lib.hid hv
 have HG := Lib.hid hg
 have HS := Lib.hid hs
 have HWO := Lib.hid hwo
 by_cases h0a : 0 ∈ [a]
 ·have q0 : 0 ≤ z0 := hidx0.2 h0a
  have HR := Lib.hid (show (⟨#[]⟩ : ByteArray) = namesAt g (reachW g [a]) by rw [reachW_no h0a]; rfl)
  clear hv hg hs hwo hidx0 hz0 hs0 hc0
  go_enter Tryz.func164, Tryz.ntmps164
  go_wp2_with fail
  refine (HF.out w).mono ?_
  rintro e w1 ⟨rfl, rfl⟩
  go_wp2_with fail
  go_ret
  exact ⟨ret_string HR.out, Below.refl _ _⟩
 have q0 : ¬ 0 ≤ z0 := fun h => h0a (hidx0.1 h)
 have H0A := Lib.hid h0a
 clear hv hg hs hwo hidx0 hz0 hs0 hc0 h0a
 go_enter Tryz.func164, Tryz.ntmps164
 go_wp2_with fail
 refine (HF.out w).mono ?_
 rintro e w1 ⟨rfl, rfl⟩
 go_wp2_with fail
 go_loopg [7, 8] g.length (fun gk s i wr => ∃ k, gk = g.length - k ∧ k ≤ (bfsW g [a] k).length ∧ s = .string (namesAt g (bfsW g [a] k)) ∧ i = .int .i64 k ∧ Below w.heap.size w wr)
 case atStart => exact ⟨0, rfl, by simp, by rw [HS.out]; show _ = Value.string (namesAt g [0]); rw [namesAt_one], rfl, Below.refl _ _⟩
 case round =>
  obtain ⟨k, rfl, hkl, rfl, rfl, hB⟩ := hrel
  have hlen := bfsW_len HV.out H0A.out k
  obtain ⟨o, ho⟩ : ∃ o, o = namesAt g (bfsW g [a] k) := ⟨_, rfl⟩
  have hos : o.size = (bfsW g [a] k).length := by rw [ho, namesAt_size HV.out _ (bfsW_lt HV.out H0A.out k)]
  rw [← ho]
  by_cases hlt : k < (bfsW g [a] k).length
  ·obtain ⟨x, hx⟩ : ∃ x, x = (bfsW g [a] k)[k] := ⟨_, rfl⟩
   have hxl : x < g.length := hx ▸ bfsW_lt HV.out H0A.out k _ (List.getElem_mem hlt)
   obtain ⟨_, hcut⟩ := namesAt_cut HV.out (bfsW_lt HV.out H0A.out k) hlt
   have hcut' : o.extract k (k + 1) = g[x].1 := by rw [ho, hcut]; congr 2; exact hx.symm
   have HN := Lib.hid (l1Next_any A cap g (o.extract k (k + 1)) x wr (HG.out.keep hB.size (fun b o hlt => hB.cell (p := ⟨b, o, none⟩) hlt)) hn (by rw [hcut']; exact posOf_name HV.out hxl) hxl)
   have q1 : ((k : Int) < o.size) := by omega
   have hko : k + 1 ≤ o.size := by omega
   obtain ⟨nx, hnx⟩ : ∃ nx, nx = g[x].2 := ⟨_, rfl⟩
   have hnl : nx.size ≤ 2 := hnx ▸ nxt_two' HV.out hxl
   rw [← hnx] at HN
   have HO := Lib.hid ho
   have HX := Lib.hid hx
   have HNX := Lib.hid hnx
   have HB := Lib.hid hB
   have HLT := Lib.hid hlt
   have HLEN := Lib.hid hlen
   clear ho hx hcut hcut' hnx hB
   go_wp2_with fail
   refine HN.out.mono ?_
   rintro e w2 ⟨rfl, b2⟩
   have HB2 := Lib.hid (HB.out.trans (b2.mono HB.out.size))
   clear b2
   go_wp2_with fail
   go_loopw [7, 32] (fun s i wr => ∃ j out, j ≤ nx.size ∧ Hid (out = stepW [a] (bfsW g [a] k) ((nxt g x).take j)) ∧ s = .string (namesAt g out) ∧ i = .int .i64 j ∧ Below w.heap.size w wr) (fun _ i _ => nx.size - (intOf i).toNat)
   case atStart => exact ⟨0, bfsW g [a] k, Nat.zero_le _, rfl, by rw [HO.out], rfl, HB2.out⟩
   case round =>
    obtain ⟨j, out, hj, HOUT, rfl, rfl, hB3⟩ := hrel
    have hol : ∀ y ∈ out, y < g.length := by rw [HOUT.out]; exact stepW_lt HV.out H0A.out hxl (List.take_prefix _ _).subset
    have hole : out.length ≤ g.length := by rw [HOUT.out]; exact stepW_le HV.out H0A.out hxl (List.take_prefix _ _).subset
    obtain ⟨p, hp⟩ : ∃ p, p = namesAt g out := ⟨_, rfl⟩
    have hps : p.size = out.length := by rw [hp, namesAt_size HV.out _ hol]
    rw [← hp]
    by_cases hjd : j < nx.size
    ·obtain ⟨t, htl, hget, _, hnm⟩ := nxt_get HV.out hxl (k := j) (by rw [← HNX.out]; exact hjd)
     have hbyte : g[x].2[j]'(by rw [← HNX.out]; exact hjd) = nx[j] := by congr 1; exact HNX.out.symm
     rw [hbyte] at hnm
     have hidx := idx_namesAt HV.out (l := out ++ [a]) (fun i hi => (List.mem_append.1 hi).elim (hol i) fun h => by simp at h; omega) htl hnm
     rw [namesAt_append, namesAt_one, ← hp, ← HWO.out] at hidx
     have HT := Lib.hid (show stepW [a] (bfsW g [a] k) ((nxt g x).take (j + 1)) = if t ∈ out ∨ t ∈ [a] then out else out ++ [t] by
      have hjl : j < (nxt g x).length := (List.getElem?_eq_some_iff.1 hget).1
      have e : (nxt g x)[j] = t := (List.getElem?_eq_some_iff.1 hget).2
      rw [List.take_succ_eq_append_getElem hjl, e, stepW_snoc, ← HOUT.out])
     have HPP := Lib.hid hp
     have HB3 := Lib.hid hB3
     have hz1 : p.size + wo.size ≤ 1048576 := by omega
     have hj1 : j + 1 ≤ nx.size := by omega
     have HEX := Lib.hid (show nx.extract j (j + 1) = nthName g t by rw [ex_byte nx (a := j) (b := j + 1) (by omega) (by omega) (by omega), nthName_at htl, hnm])
     obtain ⟨z, hz⟩ : ∃ z, z = Lib.indexByte (p ++ wo).data.toList nx[j] := ⟨_, rfl⟩
     have HFC : Hid (∀ w, Calls Tryz.prog 114 #[.string (p ++ wo), .int .u8 nx[j].toNat] w fun e w' => e = .returned (.int .i64 z) ∧ w = w') := fun w => by
      rw [hz]; exact find_any (p ++ wo) nx[j] w (by rw [ByteArray.size_append]; omega)
     rw [← hz] at hidx
     clear hp hbyte hnm hget hB3 hz
     by_cases hin : t ∈ out ∨ t ∈ [a]
     ·have q2 : ¬ z < 0 := by have := hidx.2 (List.mem_append.2 hin); omega
      rw [if_pos hin] at HT
      clear hidx hin
      go_wp2_with fail
      refine (HFC.out _).mono ?_
      rintro e w4 ⟨rfl, rfl⟩
      go_wp2_with fail
      go_roundw
      case rel => exact ⟨j + 1, out, by omega, HT.out.symm, by rw [HPP.out], by go_num, HB3.out⟩
      case measure => simp [intOf]; omega
     ·have q2 : z < 0 := by
       rcases Int.lt_or_le z 0 with h | h
       ·exact h
       ·exact absurd (List.mem_append.1 (hidx.1 h)) hin
      rw [if_neg hin] at HT
      have hz2 : p.size + (nx.extract j (j + 1)).size ≤ 1048576 := by rw [HEX.out, nthName_at htl]; obtain ⟨c, hc, _⟩ := valid_one HV.out (List.getElem_mem htl); rw [hc]; show p.size + 1 ≤ _; omega
      have HNX2 := Lib.hid (show namesAt g (out ++ [t]) = p ++ nx.extract j (j + 1) by rw [namesAt_append, namesAt_one, HPP.out, HEX.out])
      clear hidx hin
      go_wp2_with fail
      refine (HFC.out _).mono ?_
      rintro e w4 ⟨rfl, rfl⟩
      go_wp2_with fail
      go_roundw
      case rel => exact ⟨j + 1, out ++ [t], by omega, HT.out.symm, by rw [HNX2.out], by go_num, HB3.out⟩
      case measure => simp [intOf]; omega
    ·have hjn : j = nx.size := by omega
     have HBF := Lib.hid (show out = bfsW g [a] (k + 1) by rw [HOUT.out, bfsW_step HLT.out, ← HX.out, List.take_of_length_le (by rw [nxt_length hxl, ← HNX.out]; omega)])
     have HPP := Lib.hid hp
     have HB3 := Lib.hid hB3
     have hkl2 : k + 1 ≤ out.length := by
      have h1 := (stepW_prefix [a] ((nxt g x).take j) (bfsW g [a] k)).length_le
      rw [← HOUT.out] at h1; have := HLT.out; omega
     clear hp hB3
     go_wp2_with fail
     go_roundg (g.length - (k + 1))
     case measure => have := HLEN.out; have := HLT.out; omega
     case rel => exact ⟨k + 1, rfl, by rw [← HBF.out]; exact hkl2, by rw [HPP.out, HBF.out], by go_num, HB3.out⟩
  ·have hke : k = (bfsW g [a] k).length := by omega
   have HR := Lib.hid (show o = namesAt g (reachW g [a]) by rw [ho, reachW_done H0A.out (k := k) (by omega) (by omega)])
   have q1 : ¬ ((k : Int) < o.size) := by omega
   have HB := Lib.hid hB
   clear ho hke hB
   go_wp2_with fail
   go_ret
   exact ⟨ret_string HR.out, HB.out⟩
def liveOf (g : List Bl) (s : ByteArray) : Option Nat := if validB g then (match posOf g s with | some i => if i ∈ reach g then some i else none | none => none) else none
theorem liveOf_no {g : List Bl} {s : ByteArray} (h : validB g = false) : liveOf g s = none := by unfold liveOf; rw [h]; rfl
theorem liveOf_none {g : List Bl} {s : ByteArray} (hp : posOf g s = none) : liveOf g s = none := by unfold liveOf; rw [hp]; split <;> rfl
theorem liveOf_out {g : List Bl} {s : ByteArray} {i : Nat} (hp : posOf g s = some i) (hr : i ∉ reach g) : liveOf g s = none := by unfold liveOf; rw [hp]; simp [hr]
theorem liveOf_some {g : List Bl} {s : ByteArray} {i : Nat} (h : validB g = true) (hp : posOf g s = some i) (hr : i ∈ reach g) : liveOf g s = some i := by unfold liveOf; rw [h, hp]; simp [hr]
theorem liveOf_is {g : List Bl} {s : ByteArray} {i : Nat} (h : liveOf g s = some i) : validB g = true ∧ posOf g s = some i ∧ i ∈ reach g := by
 cases hv : validB g with
 | false => rw [liveOf_no hv] at h; cases h
 | true =>
  cases hp : posOf g s with
  | none => rw [liveOf_none hp] at h; cases h
  | some j =>
   by_cases hr : j ∈ reach g
   ·rw [liveOf_some hv hp hr] at h
    obtain rfl := Option.some.inj h
    exact ⟨rfl, rfl, hr⟩
   ·rw [liveOf_out hp hr] at h; cases h
set_option maxRecDepth 100000 in
set_option maxHeartbeats 1000000 in
theorem l3Live_any (A : Option Addr) (cap : Nat) (g : List Bl) (s : ByteArray) (w : World) (hg : Gr w A g) (hn : g.length + tot g ≤ 1048576) (hcap : g.length ≤ cap) :
  Calls Tryz.prog 75 #[.slice A g.length cap, .string s] w fun e w' => e = .returned (.int .i64 (idxInt (liveOf g s))) ∧ Below w.heap.size w w' := by
 have cG : ∀ d os, Calls Tryz.prog 121 #[.slice A g.length cap] (grow (redrawn w d) os) fun e w'' => e = .returned (.bool (validB g)) ∧ ∃ p : Regrown, w'' = grow (redrawn w p.d) p.os := fun d os =>
  Calls.regrown_of (specValid_any A cap g _ (gr_grown hg d os) hn hcap)
 have cI : ∀ d os, Calls Tryz.prog 76 #[.slice A g.length cap, .string s] (grow (redrawn w d) os) fun e w'' => e = .returned (.int .i64 (idxInt (posOf g s))) ∧ ∃ p : Regrown, w'' = grow (redrawn w p.d) p.os := fun d os =>
  Calls.regrown_of (index_any A cap g s _ (gr_grown hg d os) (by omega))
 have HIX := Lib.hid (fun w (h : Gr w A g) => index_any A cap g s w h (by omega))
 have HG := Lib.hid hg
 cases hv : validB g with
 | false =>
  rw [hv] at cG
  have HR := Lib.hid (show (-1 : Int) = idxInt (liveOf g s) by rw [liveOf_no hv]; rfl)
  clear hv hg
  go_enter Tryz.func75, Tryz.ntmps75
  go_wp2_with fail
  refine wp_region_quiet_below (by kernel_rfl) (by kernel_rfl) ?_
  repeat (any_goals (first | go_big_quiet_step (with_reducible exact cG _ _) | quiet_step (with_reducible exact cG _ _)))
  all_goals (refine wpQuiet_nil ?_; intro _ hw'; obtain ⟨⟨dq, osq⟩, hw''⟩ := hw'; subst hw'')
  have hb3 := below_regrown w dq osq
  generalize grow (redrawn w dq) osq = w3 at hb3 ⊢
  clear cG cI
  go_wp2_with fail
  go_ret
  exact ⟨ret_int HR.out, hb3⟩
 | true =>
  rw [hv] at cG
  cases hp : posOf g s with
  | none =>
   rw [hp] at cI
   have cI2 : ∀ d os, Calls Tryz.prog 76 #[.slice A g.length cap, .string s] (grow (redrawn w d) os) fun e w'' => e = .returned (.int .i64 (-1)) ∧ ∃ p : Regrown, w'' = grow (redrawn w p.d) p.os := cI
   have HR := Lib.hid (show (-1 : Int) = idxInt (liveOf g s) by rw [liveOf_none hp]; rfl)
   clear hv hg hp cI
   go_enter Tryz.func75, Tryz.ntmps75
   go_wp2_with fail
   refine wp_region_quiet_below (by kernel_rfl) (by kernel_rfl) ?_
   repeat (any_goals (first | go_big_quiet_step (first | with_reducible exact cG _ _ | with_reducible exact cI2 _ _) | quiet_step (first | with_reducible exact cG _ _ | with_reducible exact cI2 _ _)))
   all_goals (refine wpQuiet_nil ?_; intro _ hw'; obtain ⟨⟨dq, osq⟩, hw''⟩ := hw'; subst hw'')
   have hb3 := below_regrown w dq osq
   generalize grow (redrawn w dq) osq = w3 at hb3 ⊢
   clear cG cI2
   go_wp2_with fail
   go_ret
   exact ⟨ret_int HR.out, hb3⟩
  | some i =>
   obtain ⟨hi, hnm⟩ := posOf_is hp
   obtain ⟨c, hc, _⟩ := valid_one hv (List.getElem_mem hi)
   have hsc : s = ⟨#[c]⟩ := by rw [← hnm, hc]
   have hs1 : s.size = 1 := by rw [hsc]; rfl
   have l0 : 0 < s.size := by omega
   rw [hp] at cI
   have cI2 : ∀ d os, Calls Tryz.prog 76 #[.slice A g.length cap, .string s] (grow (redrawn w d) os) fun e w'' => e = .returned (.int .i64 (i : Int)) ∧ ∃ p : Regrown, w'' = grow (redrawn w p.d) p.os := cI
   obtain ⟨rs, hrs⟩ : ∃ rs, rs = namesAt g (reachS g) := ⟨_, rfl⟩
   have hrl : ∀ j ∈ reachS g, j < g.length := fun j hj => by have := (List.mem_filter.1 hj).1; exact List.mem_range.1 this
   have hrz : rs.size ≤ 26 := by rw [hrs, namesAt_size hv _ hrl]; have := srt_len g (reach g) g.length; rw [← reachS_srt] at this; have := (valid_iff.1 hv).2.1; omega
   have cR : ∀ d os, Calls Tryz.prog 122 #[.slice A g.length cap] (grow (redrawn w d) os) fun e w'' => e = .returned (.string rs) ∧ ∃ p : Regrown, w'' = grow (redrawn w p.d) p.os := fun d os => by
    have := l1Reached_any A cap g _ (gr_grown hg d os) hn hv
    rw [← hrs] at this
    exact Calls.regrown_of this
   obtain ⟨z, hz⟩ : ∃ z, z = Lib.indexByte rs.data.toList c := ⟨_, rfl⟩
   have cF : ∀ d os, Calls Tryz.prog 114 #[.string rs, .int .u8 (s[0]'l0).toNat] (grow (redrawn w d) os) fun e w'' => e = .returned (.int .i64 z) ∧ ∃ p : Regrown, w'' = grow (redrawn w p.d) p.os := fun d os => by
    have := same_grown (find_any rs c (grow (redrawn w d) os) (by omega))
    rw [← hz] at this
    rw [one_get' hsc l0]
    exact this
   have hzi : 0 ≤ z ↔ i ∈ reachS g := by rw [hz, hrs]; exact idx_namesAt hv hrl hi hc
   have hri : i ∈ reachS g ↔ i ∈ reach g := by unfold reachS; rw [List.mem_filter, List.mem_range]; exact ⟨fun h => by simpa using h.2, fun h => ⟨hi, by simpa using h⟩⟩
   have qi : decide ((i : Int) < 0) = false := decide_eq_false (by omega)
   have HP := Lib.hid hp
   by_cases hr : i ∈ reach g
   ·have q0 : decide (z < 0) = false := by have := hzi.2 (hri.2 hr); simp; omega
    have HR := Lib.hid (show (idxInt (posOf g s)) = idxInt (liveOf g s) by rw [liveOf_some hv hp hr, hp])
    clear hv hg hp cI hnm hc hsc hrs hz hzi hri hr
    go_enter Tryz.func75, Tryz.ntmps75
    go_wp2_with fail
    refine wp_region_quiet_below (by kernel_rfl) (by kernel_rfl) ?_
    repeat (any_goals (first | go_big_quiet_step (first | with_reducible exact cG _ _ | with_reducible exact cI2 _ _ | with_reducible exact cR _ _ | with_reducible exact cF _ _) | quiet_step (first | with_reducible exact cG _ _ | with_reducible exact cI2 _ _ | with_reducible exact cR _ _ | with_reducible exact cF _ _)))
    all_goals (refine wpQuiet_nil ?_; intro _ hw'; obtain ⟨⟨dq, osq⟩, hw''⟩ := hw'; subst hw'')
    have hb3 := below_regrown w dq osq
    generalize grow (redrawn w dq) osq = w3 at hb3 ⊢
    clear cG cI2 cR cF
    go_wp2_with fail
    refine (HIX.out w3 (HG.out.below hb3)).mono ?_
    rintro e w4 ⟨rfl, b4⟩
    go_wp2_with fail
    go_ret
    exact ⟨ret_int HR.out, below_trans_self hb3 b4⟩
   ·have q0 : decide (z < 0) = true := by
     have h : ¬ 0 ≤ z := fun h => hr (hri.1 (hzi.1 h))
     simp; omega
    have HR := Lib.hid (show (-1 : Int) = idxInt (liveOf g s) by rw [liveOf_out hp hr]; rfl)
    clear hv hg hp cI hnm hc hsc hrs hz hzi hri hr
    go_enter Tryz.func75, Tryz.ntmps75
    go_wp2_with fail
    refine wp_region_quiet_below (by kernel_rfl) (by kernel_rfl) ?_
    repeat (any_goals (first | go_big_quiet_step (first | with_reducible exact cG _ _ | with_reducible exact cI2 _ _ | with_reducible exact cR _ _ | with_reducible exact cF _ _) | quiet_step (first | with_reducible exact cG _ _ | with_reducible exact cI2 _ _ | with_reducible exact cR _ _ | with_reducible exact cF _ _)))
    all_goals (refine wpQuiet_nil ?_; intro _ hw'; obtain ⟨⟨dq, osq⟩, hw''⟩ := hw'; subst hw'')
    have hb3 := below_regrown w dq osq
    generalize grow (redrawn w dq) osq = w3 at hb3 ⊢
    clear cG cI2 cR cF
    go_wp2_with fail
    go_ret
    exact ⟨ret_int HR.out, hb3⟩
def dmB (g : List Bl) (a b : Nat) : Bool := decide (a = b) || decide (b ∉ reachW g [a])
set_option maxRecDepth 100000 in
set_option maxHeartbeats 1000000 in
theorem l3Dominates_any (A : Option Addr) (cap : Nat) (g : List Bl) (s t : ByteArray) (a b : Nat) (w : World) (hg : Gr w A g) (hn : g.length ≤ 1048576) (hv : validB g = true) (ha : a < g.length) (hb : b < g.length) (hs : s = nthName g a) (ht : t = nthName g b) :
  Calls Tryz.prog 170 #[.slice A g.length cap, .string s, .string t] w fun e w' => e = .returned (.bool (dmB g a b)) ∧ Below w.heap.size w w' := by
 by_cases hab : a = b
 ·have q0 : (s.toList == t.toList) = true := by rw [hs, ht, hab]; simp
  have HR := Lib.hid (show true = dmB g a b by unfold dmB; rw [decide_eq_true hab]; rfl)
  clear hab hs ht hv hg
  go_enter Tryz.func170, Tryz.ntmps170
  go_wp2_with fail
  refine wp_region_quiet_below (by kernel_rfl) (by kernel_rfl) ?_
  repeat (any_goals (first | go_big_quiet_step (fail) | quiet_step (fail)))
  all_goals (refine wpQuiet_nil ?_; intro _ hw'; obtain ⟨⟨dq, osq⟩, hw''⟩ := hw'; subst hw'')
  have hb3 := below_regrown w dq osq
  generalize grow (redrawn w dq) osq = w3 at hb3 ⊢
  go_wp2_with fail
  go_ret
  exact ⟨ret_bool HR.out, hb3⟩
 ·have q0 : (s.toList == t.toList) = false := by
   rw [hs, ht]
   cases hq : ((nthName g a).toList == (nthName g b).toList) with
   | false => rfl
   | true =>
    have := beq_toList.1 hq
    rw [nthName_at ha, nthName_at hb] at this
    exact absurd (name_inj hv ha hb this) hab
  have hpos := (valid_iff.1 hv).1
  have h26 := (valid_iff.1 hv).2.1
  obtain ⟨bl, off, e, e2, rfl, hbl, hc0, hc1, he, he2⟩ := gr_at hg hpos
  have hc0' : w.cell? ⟨bl, off, none⟩ = some (.string e) := by simpa using hc0
  have k0 := cell_regrown hc0'
  obtain ⟨c, hc, _⟩ := valid_one hv (List.getElem_mem hb)
  have htc : t = ⟨#[c]⟩ := by rw [ht, nthName_at hb, hc]
  have ht1 : t.size = 1 := by rw [htc]; rfl
  have l0 : 0 < t.size := by omega
  obtain ⟨rs, hrs⟩ : ∃ rs, rs = namesAt g (reachW g [a]) := ⟨_, rfl⟩
  have hrl : ∀ j ∈ reachW g [a], j < g.length := reachW_lt hv
  have hrz : rs.size ≤ 26 := by rw [hrs, namesAt_size hv _ hrl]; have := reachW_len hv [a]; omega
  have cA : ∀ d os, Calls Tryz.prog 164 #[.slice (some ⟨bl, off, none⟩) g.length cap, .string e, .string s] (grow (redrawn w d) os) fun e w'' => e = .returned (.string rs) ∧ ∃ p : Regrown, w'' = grow (redrawn w p.d) p.os := fun d os => by
   have := l1FromW_any (some ⟨bl, off, none⟩) cap g e s a _ (gr_grown hg d os) hn hv (by rw [nthName_at hpos, he]) ha hs
   rw [← hrs] at this
   exact Calls.regrown_of this
  obtain ⟨z, hz⟩ : ∃ z, z = Lib.indexByte rs.data.toList c := ⟨_, rfl⟩
  have cF : ∀ d os, Calls Tryz.prog 114 #[.string rs, .int .u8 (t[0]'l0).toNat] (grow (redrawn w d) os) fun e w'' => e = .returned (.int .i64 z) ∧ ∃ p : Regrown, w'' = grow (redrawn w p.d) p.os := fun d os => by
   have := same_grown (find_any rs c (grow (redrawn w d) os) (by omega))
   rw [← hz] at this
   rw [one_get' htc l0]
   exact this
  have hzi : 0 ≤ z ↔ b ∈ reachW g [a] := by rw [hz, hrs]; exact idx_namesAt hv hrl hb hc
  have HR := Lib.hid (show decide (z < 0) = dmB g a b by
   unfold dmB; rw [decide_eq_false hab, Bool.false_or]; apply decide_eq_decide.2
   exact ⟨fun h h2 => by have := hzi.2 h2; omega, fun h => by have : ¬ 0 ≤ z := fun h2 => h (hzi.1 h2); omega⟩)
  clear hab hs ht hv hg hc0 hc1 he he2 hc0' hc htc hrs hrl hz hzi
  go_enter Tryz.func170, Tryz.ntmps170
  go_wp2_with fail
  refine wp_region_quiet_below (by kernel_rfl) (by kernel_rfl) ?_
  repeat (any_goals (first | go_big_quiet_step (first | with_reducible exact cA _ _ | with_reducible exact cF _ _) | quiet_step (first | with_reducible exact cA _ _ | with_reducible exact cF _ _)))
  all_goals (refine wpQuiet_nil ?_; intro _ hw'; obtain ⟨⟨dq, osq⟩, hw''⟩ := hw'; subst hw'')
  have hb3 := below_regrown w dq osq
  generalize grow (redrawn w dq) osq = w3 at hb3 ⊢
  clear cA cF k0
  go_wp2_with fail
  go_ret
  exact ⟨ret_bool HR.out, hb3⟩
end Go.Proofs.YtlkfakdghjaoaaaGreatDoor

namespace Go.Proofs.YtlkfakdghjaoaaaGreatDoor
open Go.RowKit Go.Sort
def named (g : List Bl) (cs : List Nat) (s : ByteArray) : Option Nat := cs.find? fun i => decide (nthName g i = s)
theorem named_some {g : List Bl} {cs : List Nat} {s : ByteArray} {k : Nat} (h : k < cs.length) (hk : nthName g cs[k] = s) (hb : ∀ j (h' : j < cs.length), j < k → nthName g cs[j] ≠ s) : named g cs s = some cs[k] := by
 unfold named
 rw [List.find?_eq_some_iff_getElem]
 exact ⟨by simpa using hk, k, h, rfl, fun j hj => by simpa using hb j (by omega) hj⟩
theorem traced_none {g : List Bl} {cs : List Nat} {s : ByteArray} (hb : ∀ j (h' : j < cs.length), nthName g cs[j] ≠ s) : named g cs s = none := by
 unfold named
 rw [List.find?_eq_none]
 intro x hx
 obtain ⟨j, hj, rfl⟩ := List.getElem_of_mem hx
 simpa using hb j hj
theorem named_is {g : List Bl} {cs : List Nat} {s : ByteArray} {i : Nat} (h : named g cs s = some i) : i ∈ cs ∧ nthName g i = s := by
 unfold named at h
 exact ⟨List.mem_of_find?_eq_some h, by simpa using List.find?_some h⟩
def PtsI (w : World) (A : Option Addr) (NB : Nat) (cs : List Nat) : Prop :=
 0 < cs.length → ∃ b off, A = some ⟨b, off, none⟩ ∧ b < w.heap.size ∧ ∀ k (h : k < cs.length), w.cell? ⟨b, off + k, none⟩ = some (nptr NB cs[k])
theorem namedAt_any (A : Option Addr) (NB cap : Nat) (g : List Bl) (cs : List Nat) (s : ByteArray) (w : World) (hP : PtsI w A NB cs) (hN : NodesIn w NB g) (hc : ∀ c ∈ cs, c < g.length) (hn : cs.length ≤ 1048576) :
  Calls Tryz.prog 72 #[.slice A cs.length cap, .string s] w fun e w' => e = .returned (ptrAt NB (named g cs s)) ∧ w = w' := by
 go_enter Tryz.func72, Tryz.ntmps72
 go_wp2
 go_loop [9] (fun i => ∃ k : Nat, k ≤ cs.length ∧ i = .int .i64 k ∧ Hid (∀ j (h : j < cs.length), j < k → nthName g cs[j] ≠ s)) (fun i => cs.length - (intOf i).toNat)
 case atStart => exact ⟨0, Nat.zero_le _, rfl, fun j _ h => absurd h (by omega)⟩
 case round =>
  obtain ⟨k, hk, rfl, HK⟩ := hrel
  by_cases hlt : k < cs.length
  ·obtain ⟨b, off, rfl, hb, hcell⟩ := hP (by omega)
   have c0 := hcell k hlt
   obtain ⟨x, hx⟩ : ∃ x, x = cs[k] := ⟨_, rfl⟩
   have hxl : x < g.length := hx ▸ hc _ (List.getElem_mem hlt)
   rw [← hx] at c0
   have c1 : w.cell? ⟨nb NB x, 1, none⟩ = some (.string (nthName g x)) := by have := (hN x hxl).cell 1; rw [nthName_at hxl]; simpa using this
   obtain ⟨t, ht⟩ : ∃ t, t = nthName g x := ⟨_, rfl⟩
   rw [← ht] at c1
   have HT := Lib.hid ht
   have HX := Lib.hid hx
   clear ht hx hcell
   by_cases hq : (t.toList == s.toList) = true
   ·have HP := Lib.hid (show named g cs s = some x by rw [HX.out]; exact named_some hlt (by rw [← HX.out, ← HT.out]; exact beq_toList.1 hq) HK.out)
    go_wp2
    go_ret
    exact ⟨by rw [HP.out]; rfl, rfl⟩
   ·have hq' : (t.toList == s.toList) = false := by simpa using hq
    have HNE := Lib.hid (show nthName g cs[k] ≠ s from fun e => hq (beq_toList.2 (by rw [HT.out, HX.out]; exact e)))
    clear hq
    go_wp2
    go_round
    case rel =>
     refine ⟨k + 1, by omega, by go_num, fun j h hj => ?_⟩
     rcases Nat.lt_succ_iff_lt_or_eq.1 hj with hj | rfl
     ·exact HK.out j h hj
     ·exact HNE.out
    case measure => simp [intOf]; omega
  ·have HP := Lib.hid (show named g cs s = none from traced_none fun j h => HK.out j h (by omega))
   go_wp2
   go_ret
   exact ⟨by rw [HP.out]; rfl, rfl⟩
end Go.Proofs.YtlkfakdghjaoaaaGreatDoor
