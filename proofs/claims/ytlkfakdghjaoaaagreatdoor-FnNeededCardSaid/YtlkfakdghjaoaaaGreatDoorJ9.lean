import Derived.Test.YtlkfakdghjaoaaaGreatDoorWays
import Derived.Test.YtlkfakdghjaoaaaGreatDoorJ6
import Derived.Test.YtlkfakdghjaoaaaGreatDoorJ2
import Derived.Test.YtlkfakdghjaoaaaGreatDoorJ3
import Derived.Test.YtlkfakdghjaoaaaGreatDoorJ4
namespace Go.Proofs.YtlkfakdghjaoaaaGreatDoor
def Dm (g : List Bl) (a b : Nat) : Prop := a = b ∨ ¬ Rch g [a] b
theorem Rch.fewer {g : List Bl} {A A' : List Nat} {i : Nat} (h : Rch g A i) (hs : ∀ x, x ∈ A' → x ∈ A) : Rch g A' i := by
 induction h with
 | start ha => exact .start fun e => ha (hs _ e)
 | step _ hn ha ih => exact .step ih hn fun e => ha (hs _ e)
theorem Rch.free {g : List Bl} {A : List Nat} {i : Nat} (h : Rch g A i) : Rch g [] i := h.fewer (by simp)
theorem Dm.refl (g : List Bl) (a : Nat) : Dm g a a := .inl rfl
theorem Dm.entry (g : List Bl) (b : Nat) : Dm g 0 b := by
 refine .inr fun h => ?_
 induction h with
 | start ha => simp at ha
 | step _ _ _ ih => exact ih
theorem Dm.of_entry {g : List Bl} {a : Nat} (h : Dm g a 0) : a = 0 := by
 rcases h with h | h
 ·exact h
 ·by_cases e : a = 0
  ·exact e
  ·exact absurd (Rch.start (by simpa using fun h => e h.symm)) h
theorem Dm.back {g : List Bl} {a i t : Nat} (h : Dm g a t) (hn : t ∈ ai g i) : a = t ∨ Dm g a i := by
 rcases h with h | h
 ·exact .inl h
 ·by_cases e : a = t
  ·exact .inl e
  ·exact .inr (.inr fun hi => h (.step hi hn (by simpa using fun h => e h.symm)))
theorem Rch.split {g : List Bl} {A : List Nat} {x : Nat} (b : Nat) (h : Rch g A x) : Rch g [b] x ∨ Rch g A b := by
 induction h with
 | start ha =>
  by_cases e : b = 0
  ·subst e; exact .inr (.start ha)
  ·exact .inl (.start (by simpa using fun h => e h.symm))
 | @step i t hi hn ha ih =>
  rcases ih with ih | ih
  ·by_cases e : b = t
   ·subst e; exact .inr (.step hi hn ha)
   ·exact .inl (.step ih hn (by simpa using fun h => e h.symm))
  ·exact .inr ih
theorem Dm.live {g : List Bl} {a b : Nat} (h : Dm g a b) (hb : Rch g [] b) : Rch g [] a := by
 rcases h with rfl | h
 ·exact hb
 ·rcases hb.split a with h' | h'
  ·exact absurd h' h
  ·exact h'
theorem Dm.trans {g : List Bl} {a b c : Nat} (h : Dm g a b) (k : Dm g b c) : Dm g a c := by
 rcases h with rfl | h
 ·exact k
 ·rcases k with rfl | k
  ·exact .inr h
  ·refine .inr fun hc => ?_
   rcases hc.split b with h' | h'
   ·exact k h'
   ·exact h h'
theorem Dm.antisymm {g : List Bl} {a b : Nat} (h : Dm g a b) (k : Dm g b a) (ha : Rch g [] a) : a = b := by
 by_cases hab : a = b
 ·exact hab
 ·exfalso
  have h' : ¬ Rch g [a] b := h.resolve_left hab
  have k' : ¬ Rch g [b] a := k.resolve_left fun e => hab e.symm
  have key : ∀ x, Rch g [] x → Rch g [a, b] x := by
   intro x hx
   induction hx with
   | start _ =>
    refine .start fun e => ?_
    simp only [List.mem_cons, List.not_mem_nil, or_false] at e
    rcases e with e | e
    ·exact k' (e ▸ .start (by simpa using fun q => hab (e.symm.trans q)))
    ·exact h' (e ▸ .start (by simpa using fun q => hab (q.symm.trans e)))
   | @step i t _ hn _ ih =>
    refine .step ih hn fun e => ?_
    simp only [List.mem_cons, List.not_mem_nil, or_false] at e
    rcases e with e | e
    ·exact k' (e ▸ .step (ih.fewer (by simp)) hn (by simpa using fun q => hab (e.symm.trans q)))
    ·exact h' (e ▸ .step (ih.fewer (by simp)) hn (by simpa using fun q => hab (q.symm.trans e)))
  exact (key a ha).out (by simp)
theorem Dm.total {g : List Bl} {a b c : Nat} (h : Dm g a c) (k : Dm g b c) (hc : Rch g [] c) : Dm g a b ∨ Dm g b a := by
 by_cases hab : a = b
 ·exact .inl (.inl hab)
 by_cases h1 : Rch g [a] b
 ·by_cases h2 : Rch g [b] a
  ·exfalso
   have key : ∀ x, Rch g [] x → Rch g [a] x ∨ Rch g [b] x := by
    intro x hx
    induction hx with
    | start _ =>
     by_cases e : a = 0
     ·exact .inr (.start (by simpa using fun q => hab (e.trans q)))
     ·exact .inl (.start (by simpa using fun q => e q.symm))
    | @step i t _ hn _ ih =>
     by_cases ea : a = t
     ·exact .inr (ea ▸ h2)
     by_cases eb : b = t
     ·exact .inl (eb ▸ h1)
     rcases ih with ih | ih
     ·exact .inl (.step ih hn (by simpa using fun q => ea q.symm))
     ·exact .inr (.step ih hn (by simpa using fun q => eb q.symm))
   rcases key c hc with hx | hx
   ·rcases h with h | h
    ·exact hx.out (by simp [h])
    ·exact h hx
   ·rcases k with k | k
    ·exact hx.out (by simp [k])
    ·exact k hx
  ·exact .inr (.inr h2)
 ·exact .inl (.inr h1)
theorem y7 {g : List Bl} {S : Nat → Nat → Prop} (h0 : ∀ a, S 0 a → a = 0) (hs : ∀ i t a, Rch g [] i → t ∈ ai g i → S t a → a = t ∨ S i a) {a b : Nat} (h : S b a) : Dm g a b := by
 refine .inr fun hb => ?_
 have key : ∀ x, Rch g [a] x → ¬ S x a := by
  intro x hx
  induction hx with
  | start ha => exact fun e => ha (by simp [h0 a e])
  | @step i t hi hn ha ih =>
   intro e
   rcases hs i t a hi.free hn e with rfl | e
   ·exact ha (by simp)
   ·exact ih e
 exact key b hb h
theorem sE {g : List Bl} {c : Nat} (hc : Rch g [] c) : ∀ (l : List Nat), l ≠ [] → (∀ a ∈ l, Dm g a c) → ∃ p ∈ l, ∀ a ∈ l, Dm g a p
 | [], h, _ => absurd rfl h
 | [x], _, _ => ⟨x, by simp, fun a ha => by rw [List.mem_singleton.1 ha]; exact .refl g x⟩
 | x :: y :: l, _, h => by
  obtain ⟨p, hp, hm⟩ := sE hc (y :: l) (by simp) fun a ha => h a (List.mem_cons_of_mem _ ha)
  rcases (h x (by simp)).total (h p (List.mem_cons_of_mem _ hp)) hc with k | k
  ·exact ⟨p, List.mem_cons_of_mem _ hp, fun a ha => by
    rcases List.mem_cons.1 ha with rfl | ha
    ·exact k
    ·exact hm a ha⟩
  ·exact ⟨x, by simp, fun a ha => by
    rcases List.mem_cons.1 ha with rfl | ha
    ·exact .refl g a
    ·exact (hm a ha).trans k⟩
def dK (g : List Bl) (p n : Nat) : Prop := p ≠ n ∧ Rch g [] p ∧ ∀ a, Dm g a n ↔ (a = n ∨ Dm g a p)
theorem iA {g : List Bl} (hv : aa g = true) {n : Nat} (hn : Rch g [] n) (h0 : n ≠ 0) : ∃ p, dK g p n := by
 classical
 let l := (List.range g.length).filter fun a => decide (a ≠ n ∧ Dm g a n)
 have hml : ∀ a, a ∈ l ↔ a < g.length ∧ a ≠ n ∧ Dm g a n := fun a => by simp [l]
 have hne : l ≠ [] := by
  have : 0 ∈ l := (hml 0).2 ⟨(aj.1 hv).1, fun e => h0 e.symm, .entry g n⟩
  intro e; rw [e] at this; simp at this
 obtain ⟨p, hp, hm⟩ := sE hn l hne fun a ha => ((hml a).1 ha).2.2
 obtain ⟨_, hpn, hd⟩ := (hml p).1 hp
 refine ⟨p, hpn, hd.live hn, fun a => ⟨fun ha => ?_, fun ha => ?_⟩⟩
 ·by_cases e : a = n
  ·exact .inl e
  ·exact .inr (hm a ((hml a).2 ⟨(ha.live hn).lt hv, e, ha⟩))
 ·rcases ha with rfl | ha
  ·exact .refl g a
  ·exact ha.trans hd
theorem yi {g : List Bl} {p q n : Nat} (h : dK g p n) (k : dK g q n) : p = q := by
 have h1 : Dm g p q := ((k.2.2 p).1 ((h.2.2 p).2 (.inr (.refl g p)))).resolve_left h.1
 have h2 : Dm g q p := ((h.2.2 q).1 ((k.2.2 q).2 (.inr (.refl g q)))).resolve_left k.1
 exact h1.antisymm h2 h.2.1
theorem AI {g : List Bl} {p : Nat} (h : dK g p 0) : False :=
 h.1 (Dm.of_entry ((h.2.2 p).2 (.inr (.refl g p))))
end Go.Proofs.YtlkfakdghjaoaaaGreatDoor
namespace Go.Proofs.YtlkfakdghjaoaaaGreatDoor
def eu (S : Nat → Nat) (t v : Nat) : Nat → Nat := fun k => if k = t then v else S k
def ei (S : Nat → Nat) (i t : Nat) : Nat := S t &&& (S i ||| 2 ^ t)
structure DInv (g : List Bl) (S : Nat → Nat) : Prop where
 all : ∀ b, Rch g [] b → ∀ a, Dm g a b → (S b).testBit a = true
 ent : ∀ a, (S 0).testBit a = true → a = 0
 small : ∀ b, S b < 4294967296
theorem nu (S : Nat → Nat) (i t : Nat) : ei S i t ≤ S t := Nat.and_le_left
theorem l8 (S : Nat → Nat) (i t a : Nat) : (ei S i t).testBit a = ((S t).testBit a && ((S i).testBit a || decide (t = a))) := by
 unfold ei
 rw [Nat.testBit_and, Nat.testBit_or, Nat.testBit_two_pow]
theorem DInv.step {g : List Bl} {S : Nat → Nat} (h : DInv g S) {i t : Nat} (hi : Rch g [] i) (hn : t ∈ ai g i) : DInv g (eu S t (ei S i t)) := by
 refine ⟨fun b hb a hd => ?_, fun a ha => ?_, fun b => ?_⟩
 ·unfold eu
  split
  ·rename_i e
   subst e
   rw [l8, h.all b hb a hd, Bool.true_and]
   rcases hd.back hn with rfl | hd'
   ·simp
   ·rw [h.all i hi a hd']; rfl
  ·exact h.all b hb a hd
 ·unfold eu at ha
  split at ha
  ·rename_i e
   rw [l8] at ha
   exact h.ent a (by rw [e]; exact (Bool.and_eq_true_iff.1 ha).1)
  ·exact h.ent a ha
 ·unfold eu
  split
  ·exact Nat.lt_of_le_of_lt (nu S i t) (h.small t)
  ·exact h.small b
theorem DInv.start {g : List Bl} {S : Nat → Nat} {m : Nat} (hm : ∀ a, Rch g [] a → m.testBit a = true) (h0 : S 0 = 1) (hb : ∀ b, b ≠ 0 → Rch g [] b → S b = m) (hsm : ∀ b, S b < 4294967296) : DInv g S := by
 refine ⟨fun b hr a hd => ?_, fun a ha => ?_, hsm⟩
 ·by_cases e : b = 0
  ·subst e
   rw [Dm.of_entry hd, h0]; rfl
  ·rw [hb b e hr]
   exact hm a (hd.live hr)
 ·rw [h0] at ha
  have := Nat.testBit_two_pow (n := 0) (m := a)
  rw [Nat.pow_zero] at this
  rw [this] at ha
  simpa using (of_decide_eq_true ha).symm
theorem DInv.done {g : List Bl} {S : Nat → Nat} (h : DInv g S) (hf : ∀ i t, Rch g [] i → t ∈ ai g i → ei S i t = S t) {b : Nat} (hb : Rch g [] b) (a : Nat) : (S b).testBit a = true ↔ Dm g a b := by
 refine ⟨fun e => ?_, h.all b hb a⟩
 refine y7 (S := fun b a => (S b).testBit a = true) h.ent (fun i t a hi hn e => ?_) e
 have := l8 S i t a
 rw [hf i t hi hn] at this
 rw [e, Bool.true_and] at this
 rcases Bool.or_eq_true_iff.1 this.symm with k | k
 ·exact .inr k
 ·exact .inl (of_decide_eq_true k).symm
def bB (S : Nat → Nat) : Nat → Nat
 | 0 => 0
 | n + 1 => bB S n + S n
theorem nw {S : Nat → Nat} {t v : Nat} : ∀ {n : Nat}, n ≤ t → bB (eu S t v) n = bB S n
 | 0, _ => rfl
 | n + 1, h => by
  rw [bB, bB, nw (by omega)]
  unfold eu
  rw [if_neg (by omega)]
theorem pE {S : Nat → Nat} {t v : Nat} : ∀ {n : Nat}, t < n → bB (eu S t v) n + S t = bB S n + v
 | 0, h => absurd h (by omega)
 | n + 1, h => by
  by_cases e : t = n
  ·subst e
   rw [bB, bB, nw (Nat.le_refl _)]
   unfold eu
   rw [if_pos rfl]; omega
  ·have ih := pE (S := S) (v := v) (show t < n by omega)
   rw [bB, bB]
   have : eu S t v n = S n := by unfold eu; rw [if_neg (fun q => e q.symm)]
   rw [this]; omega
theorem AJ {S : Nat → Nat} {i t : Nat} (ht : t < 26) (h : ei S i t ≠ S t) : bB (eu S t (ei S i t)) 26 < bB S 26 := by
 have h1 := pE (S := S) (v := ei S i t) ht
 have h2 := nu S i t
 omega
theorem Eq {S : Nat → Nat} {i t : Nat} (ht : t < 26) : bB (eu S t (ei S i t)) 26 ≤ bB S 26 := by
 have h1 := pE (S := S) (v := ei S i t) ht
 have h2 := nu S i t
 omega
theorem CR {S : Nat → Nat} {t v : Nat} (h : v = S t) : eu S t v = S := by
 funext k; unfold eu; split
 ·rename_i e; rw [h, e]
 ·rfl
theorem y8 {g : List Bl} {S : Nat → Nat} (hS : ∀ b, Rch g [] b → ∀ a, (S b).testBit a = true ↔ Dm g a b) {p n : Nat} (hp : Rch g [] p) (hn : Rch g [] n) (hne : p ≠ n) : (S p ||| 2 ^ n) = S n ↔ dK g p n := by
 constructor
 ·intro e
  refine ⟨hne, hp, fun a => ?_⟩
  rw [← hS n hn a, ← e, Nat.testBit_or, Nat.testBit_two_pow, Bool.or_eq_true_iff, hS p hp a]
  constructor
  ·rintro (k | k)
   ·exact .inr k
   ·exact .inl (of_decide_eq_true k).symm
  ·rintro (k | k)
   ·exact .inr (decide_eq_true k.symm)
   ·exact .inl k
 ·intro h
  apply Nat.eq_of_testBit_eq
  intro a
  rw [Bool.eq_iff_iff, hS n hn a, h.2.2 a, Nat.testBit_or, Nat.testBit_two_pow, Bool.or_eq_true_iff, hS p hp a]
  constructor
  ·rintro (k | k)
   ·exact .inr k
   ·exact .inl (of_decide_eq_true k).symm
  ·rintro (k | k)
   ·exact .inr (decide_eq_true k.symm)
   ·exact .inl k
end Go.Proofs.YtlkfakdghjaoaaaGreatDoor

set_option maxRecDepth 100000
set_option maxHeartbeats 2000000
namespace Go.Proofs.YtlkfakdghjaoaaaGreatDoor
open Go.RowKit Go.Sort
theorem uN {c : UInt8} {s : ByteArray} (h : s = ⟨#[c]⟩) (h0 : 0 < s.size) : s[0]'h0 = c := by subst h; rfl
theorem uO {g : List Bl} {A : List Nat} (hv : aa g = true) (h0 : 0 ∉ A) {i k : Nat} (hi : i < g.length) {ts : List Nat} (h : ts ⊆ ai g i) : ∀ x ∈ d7 A (aV g A k) ts, x < g.length := by
 intro x hx
 rcases (oD _ _ _ _).1 hx with h1 | h1
 ·exact lX hv h0 k x h1
 ·exact bP hv hi (h h1.1)
theorem CT {g : List Bl} {A : List Nat} (hv : aa g = true) (h0 : 0 ∉ A) {i k : Nat} (hi : i < g.length) {ts : List Nat} (h : ts ⊆ ai g i) : (d7 A (aV g A k) ts).length ≤ g.length :=
 bS _ _ (py _ _ _ (jI k)) (uO hv h0 hi h)
theorem xh (A : Option Addr) (cap : Nat) (g : List Bl) (s wo : ByteArray) (a : Nat) (w : World) (hg : Gr w A g) (hn : g.length ≤ 1048576) (hv : aa g = true) (hs : s = ay g 0) (ha : a < g.length) (hwo : wo = ay g a) :
  Calls Tryz.prog 164 #[.slice A g.length cap, .string s, .string wo] w fun e w' => e = .returned (.string (ae g (er g [a]))) ∧ Below w.heap.size w w' := by
 have hpos := (aj.1 hv).1
 have h26 := (aj.1 hv).2.1
 have hs1 : s.size = 1 := by obtain ⟨c, hc, _⟩ := a8 hv (List.getElem_mem hpos); rw [hs, al hpos, hc]; rfl
 have h0s : 0 < s.size := by omega
 have hwo1 : wo.size = 1 := by obtain ⟨c, hc, _⟩ := a8 hv (List.getElem_mem ha); rw [hwo, al ha, hc]; rfl
 obtain ⟨c0, hc0, _⟩ := a8 hv (List.getElem_mem hpos)
 have hs0 : s[0]'h0s = c0 := uN (by rw [hs, al hpos, hc0]) h0s
 have hidx0 := co hv (l := [a]) (fun i hi => by simp at hi; omega) hpos hc0
 rw [bp, ← hwo] at hidx0
 obtain ⟨z0, hz0⟩ : ∃ z0, z0 = Lib.indexByte wo.data.toList c0 := ⟨_, rfl⟩
 rw [← hz0] at hidx0
 have HF : Hid (∀ w, Calls Tryz.prog 114 #[.string wo, .int .u8 (s[0]'h0s).toNat] w fun e w' => e = .returned (.int .i64 z0) ∧ w = w') := fun w => by
  rw [hs0, hz0]; exact bf wo c0 w (by omega)
 have HV := GR hv
 have HG := GR hg
 have HS := GR hs
 have HWO := GR hwo
 by_cases h0a : 0 ∈ [a]
 ·have q0 : 0 ≤ z0 := hidx0.2 h0a
  have HR := GR (show (⟨#[]⟩ : ByteArray) = ae g (er g [a]) by rw [oE h0a]; rfl)
  clear hv hg hs hwo hidx0 hz0 hs0 hc0
  go_enter Tryz.func164, Tryz.ntmps164
  go_wp2_with fail
  refine (HF.out w).mono ?_
  rintro e w1 ⟨rfl, rfl⟩
  go_wp2_with fail
  go_ret
  exact ⟨cO HR.out, Below.refl _ _⟩
 have q0 : ¬ 0 ≤ z0 := fun h => h0a (hidx0.1 h)
 have H0A := GR h0a
 clear hv hg hs hwo hidx0 hz0 hs0 hc0 h0a
 go_enter Tryz.func164, Tryz.ntmps164
 go_wp2_with fail
 refine (HF.out w).mono ?_
 rintro e w1 ⟨rfl, rfl⟩
 go_wp2_with fail
 go_loopg [7, 8] g.length (fun gk s i wr => ∃ k, gk = g.length - k ∧ k ≤ (aV g [a] k).length ∧ s = .string (ae g (aV g [a] k)) ∧ i = .int .i64 k ∧ Below w.heap.size w wr)
 case atStart => exact ⟨0, rfl, by simp, by rw [HS.out]; show _ = Value.string (ae g [0]); rw [bp], rfl, Below.refl _ _⟩
 case round =>
  obtain ⟨k, rfl, hkl, rfl, rfl, hB⟩ := hrel
  have hlen := qc HV.out H0A.out k
  obtain ⟨o, ho⟩ : ∃ o, o = ae g (aV g [a] k) := ⟨_, rfl⟩
  have hos : o.size = (aV g [a] k).length := by rw [ho, ax HV.out _ (lX HV.out H0A.out k)]
  rw [← ho]
  by_cases hlt : k < (aV g [a] k).length
  ·obtain ⟨x, hx⟩ : ∃ x, x = (aV g [a] k)[k] := ⟨_, rfl⟩
   have hxl : x < g.length := hx ▸ lX HV.out H0A.out k _ (List.getElem_mem hlt)
   obtain ⟨_, hcut⟩ := dD HV.out (lX HV.out H0A.out k) hlt
   have hcut' : o.extract k (k + 1) = g[x].1 := by rw [ho, hcut]; congr 2; exact hx.symm
   have HN := GR (gq A cap g (o.extract k (k + 1)) x wr (HG.out.keep hB.size (fun b o hlt => hB.cell (p := ⟨b, o, none⟩) hlt)) hn (by rw [hcut']; exact gu HV.out hxl) hxl)
   have q1 : ((k : Int) < o.size) := by omega
   have hko : k + 1 ≤ o.size := by omega
   obtain ⟨nx, hnx⟩ : ∃ nx, nx = g[x].2 := ⟨_, rfl⟩
   have hnl : nx.size ≤ 2 := hnx ▸ gR HV.out hxl
   rw [← hnx] at HN
   have HO := GR ho
   have HX := GR hx
   have HNX := GR hnx
   have HB := GR hB
   have HLT := GR hlt
   have HLEN := GR hlen
   clear ho hx hcut hcut' hnx hB
   go_wp2_with fail
   refine HN.out.mono ?_
   rintro e w2 ⟨rfl, b2⟩
   have HB2 := GR (HB.out.trans (b2.mono HB.out.size))
   clear b2
   go_wp2_with fail
   go_loopw [7, 32] (fun s i wr => ∃ j out, j ≤ nx.size ∧ Hid (out = d7 [a] (aV g [a] k) ((ai g x).take j)) ∧ s = .string (ae g out) ∧ i = .int .i64 j ∧ Below w.heap.size w wr) (fun _ i _ => nx.size - (intOf i).toNat)
   case atStart => exact ⟨0, aV g [a] k, Nat.zero_le _, rfl, by rw [HO.out], rfl, HB2.out⟩
   case round =>
    obtain ⟨j, out, hj, HOUT, rfl, rfl, hB3⟩ := hrel
    have hol : ∀ y ∈ out, y < g.length := by rw [HOUT.out]; exact uO HV.out H0A.out hxl (List.take_prefix _ _).subset
    have hole : out.length ≤ g.length := by rw [HOUT.out]; exact CT HV.out H0A.out hxl (List.take_prefix _ _).subset
    obtain ⟨p, hp⟩ : ∃ p, p = ae g out := ⟨_, rfl⟩
    have hps : p.size = out.length := by rw [hp, ax HV.out _ hol]
    rw [← hp]
    by_cases hjd : j < nx.size
    ·obtain ⟨t, htl, hget, _, hnm⟩ := jR HV.out hxl (k := j) (by rw [← HNX.out]; exact hjd)
     have hbyte : g[x].2[j]'(by rw [← HNX.out]; exact hjd) = nx[j] := by congr 1; exact HNX.out.symm
     rw [hbyte] at hnm
     have hidx := co HV.out (l := out ++ [a]) (fun i hi => (List.mem_append.1 hi).elim (hol i) fun h => by simp at h; omega) htl hnm
     rw [be, bp, ← hp, ← HWO.out] at hidx
     have HT := GR (show d7 [a] (aV g [a] k) ((ai g x).take (j + 1)) = if t ∈ out ∨ t ∈ [a] then out else out ++ [t] by
      have hjl : j < (ai g x).length := (List.getElem?_eq_some_iff.1 hget).1
      have e : (ai g x)[j] = t := (List.getElem?_eq_some_iff.1 hget).2
      rw [List.take_succ_eq_append_getElem hjl, e, At, ← HOUT.out])
     have HPP := GR hp
     have HB3 := GR hB3
     have hz1 : p.size + wo.size ≤ 1048576 := by omega
     have hj1 : j + 1 ≤ nx.size := by omega
     have HEX := GR (show nx.extract j (j + 1) = ay g t by rw [d9 nx (a := j) (b := j + 1) (by omega) (by omega) (by omega), al htl, hnm])
     obtain ⟨z, hz⟩ : ∃ z, z = Lib.indexByte (p ++ wo).data.toList nx[j] := ⟨_, rfl⟩
     have HFC : Hid (∀ w, Calls Tryz.prog 114 #[.string (p ++ wo), .int .u8 nx[j].toNat] w fun e w' => e = .returned (.int .i64 z) ∧ w = w') := fun w => by
      rw [hz]; exact bf (p ++ wo) nx[j] w (by rw [ByteArray.size_append]; omega)
     rw [← hz] at hidx
     clear hp hbyte hnm hget hB3 hz
     by_cases hin : t ∈ out ∨ t ∈ [a]
     ·have q2 : ¬ z < 0 := by have := hidx.2 (List.mem_append.2 hin); omega
      rw [if_pos hin] at HT
      clear hidx hin
      go_wp2_with fail
      refine (HFC.out _).mono ?_
      rintro e w4 ⟨rfl, rfl⟩
      go_wp2_with fail
      go_roundw
      case rel => exact ⟨j + 1, out, by omega, HT.out.symm, by rw [HPP.out], by go_num, HB3.out⟩
      case measure => simp [intOf]; omega
     ·have q2 : z < 0 := by
       rcases Int.lt_or_le z 0 with h | h
       ·exact h
       ·exact absurd (List.mem_append.1 (hidx.1 h)) hin
      rw [if_neg hin] at HT
      have hz2 : p.size + (nx.extract j (j + 1)).size ≤ 1048576 := by rw [HEX.out, al htl]; obtain ⟨c, hc, _⟩ := a8 HV.out (List.getElem_mem htl); rw [hc]; show p.size + 1 ≤ _; omega
      have HNX2 := GR (show ae g (out ++ [t]) = p ++ nx.extract j (j + 1) by rw [be, bp, HPP.out, HEX.out])
      clear hidx hin
      go_wp2_with fail
      refine (HFC.out _).mono ?_
      rintro e w4 ⟨rfl, rfl⟩
      go_wp2_with fail
      go_roundw
      case rel => exact ⟨j + 1, out ++ [t], by omega, HT.out.symm, by rw [HNX2.out], by go_num, HB3.out⟩
      case measure => simp [intOf]; omega
    ·have hjn : j = nx.size := by omega
     have HBF := GR (show out = aV g [a] (k + 1) by rw [HOUT.out, g6 HLT.out, ← HX.out, List.take_of_length_le (by rw [d6 hxl, ← HNX.out]; omega)])
     have HPP := GR hp
     have HB3 := GR hB3
     have hkl2 : k + 1 ≤ out.length := by
      have h1 := (oC [a] ((ai g x).take j) (aV g [a] k)).length_le
      rw [← HOUT.out] at h1; have := HLT.out; omega
     clear hp hB3
     go_wp2_with fail
     go_roundg (g.length - (k + 1))
     case measure => have := HLEN.out; have := HLT.out; omega
     case rel => exact ⟨k + 1, rfl, by rw [← HBF.out]; exact hkl2, by rw [HPP.out, HBF.out], by go_num, HB3.out⟩
  ·have hke : k = (aV g [a] k).length := by omega
   have HR := GR (show o = ae g (er g [a]) by rw [ho, ye H0A.out (k := k) (by omega) (by omega)])
   have q1 : ¬ ((k : Int) < o.size) := by omega
   have HB := GR hB
   clear ho hke hB
   go_wp2_with fail
   go_ret
   exact ⟨cO HR.out, HB.out⟩
def bU (g : List Bl) (a b : Nat) : Bool := decide (a = b) || decide (b ∉ er g [a])
theorem ic (A : Option Addr) (cap : Nat) (g : List Bl) (s t : ByteArray) (a b : Nat) (w : World) (hg : Gr w A g) (hn : g.length ≤ 1048576) (hv : aa g = true) (ha : a < g.length) (hb : b < g.length) (hs : s = ay g a) (ht : t = ay g b) :
  Calls Tryz.prog 170 #[.slice A g.length cap, .string s, .string t] w fun e w' => e = .returned (.bool (bU g a b)) ∧ Below w.heap.size w w' := by
 by_cases hab : a = b
 ·have q0 : (s.toList == t.toList) = true := by rw [hs, ht, hab]; simp
  have HR := GR (show true = bU g a b by unfold bU; rw [decide_eq_true hab]; rfl)
  clear hab hs ht hv hg
  go_enter Tryz.func170, Tryz.ntmps170
  go_wp2_with fail
  refine wp_region_quiet_below (by kernel_rfl) (by kernel_rfl) ?_
  repeat (any_goals (first | go_big_quiet_step (fail) | quiet_step (fail)))
  all_goals (refine wpQuiet_nil ?_; intro _ hw'; obtain ⟨⟨dq, osq⟩, hw''⟩ := hw'; subst hw'')
  have hb3 := below_regrown w dq osq
  generalize grow (redrawn w dq) osq = w3 at hb3 ⊢
  go_wp2_with fail
  go_ret
  exact ⟨aQ HR.out, hb3⟩
 ·have q0 : (s.toList == t.toList) = false := by
   rw [hs, ht]
   cases hq : ((ay g a).toList == (ay g b).toList) with
   | false => rfl
   | true =>
    have := dS.1 hq
    rw [al ha, al hb] at this
    exact absurd (ge hv ha hb this) hab
  have hpos := (aj.1 hv).1
  have h26 := (aj.1 hv).2.1
  obtain ⟨bl, off, e, e2, rfl, hbl, hc0, hc1, he, he2⟩ := gn hg hpos
  have hc0' : w.cell? ⟨bl, off, none⟩ = some (.string e) := by simpa using hc0
  have k0 := cell_regrown hc0'
  obtain ⟨c, hc, _⟩ := a8 hv (List.getElem_mem hb)
  have htc : t = ⟨#[c]⟩ := by rw [ht, al hb, hc]
  have ht1 : t.size = 1 := by rw [htc]; rfl
  have l0 : 0 < t.size := by omega
  obtain ⟨rs, hrs⟩ : ∃ rs, rs = ae g (er g [a]) := ⟨_, rfl⟩
  have hrl : ∀ j ∈ er g [a], j < g.length := CG hv
  have hrz : rs.size ≤ 26 := by rw [hrs, ax hv _ hrl]; have := Au hv [a]; omega
  have cA : ∀ d os, Calls Tryz.prog 164 #[.slice (some ⟨bl, off, none⟩) g.length cap, .string e, .string s] (grow (redrawn w d) os) fun e w'' => e = .returned (.string rs) ∧ ∃ p : Regrown, w'' = grow (redrawn w p.d) p.os := fun d os => by
   have := xh (some ⟨bl, off, none⟩) cap g e s a _ (mX hg d os) hn hv (by rw [al hpos, he]) ha hs
   rw [← hrs] at this
   exact Calls.regrown_of this
  obtain ⟨z, hz⟩ : ∃ z, z = Lib.indexByte rs.data.toList c := ⟨_, rfl⟩
  have cF : ∀ d os, Calls Tryz.prog 114 #[.string rs, .int .u8 (t[0]'l0).toNat] (grow (redrawn w d) os) fun e w'' => e = .returned (.int .i64 z) ∧ ∃ p : Regrown, w'' = grow (redrawn w p.d) p.os := fun d os => by
   have := gx (bf rs c (grow (redrawn w d) os) (by omega))
   rw [← hz] at this
   rw [uN htc l0]
   exact this
  have hzi : 0 ≤ z ↔ b ∈ er g [a] := by rw [hz, hrs]; exact co hv hrl hb hc
  have HR := GR (show decide (z < 0) = bU g a b by
   unfold bU; rw [decide_eq_false hab, Bool.false_or]; apply decide_eq_decide.2
   exact ⟨fun h h2 => by have := hzi.2 h2; omega, fun h => by have : ¬ 0 ≤ z := fun h2 => h (hzi.1 h2); omega⟩)
  clear hab hs ht hv hg hc0 hc1 he he2 hc0' hc htc hrs hrl hz hzi
  go_enter Tryz.func170, Tryz.ntmps170
  go_wp2_with fail
  refine wp_region_quiet_below (by kernel_rfl) (by kernel_rfl) ?_
  repeat (any_goals (first | go_big_quiet_step (first | with_reducible exact cA _ _ | with_reducible exact cF _ _) | quiet_step (first | with_reducible exact cA _ _ | with_reducible exact cF _ _)))
  all_goals (refine wpQuiet_nil ?_; intro _ hw'; obtain ⟨⟨dq, osq⟩, hw''⟩ := hw'; subst hw'')
  have hb3 := below_regrown w dq osq
  generalize grow (redrawn w dq) osq = w3 at hb3 ⊢
  clear cA cF k0
  go_wp2_with fail
  go_ret
  exact ⟨aQ HR.out, hb3⟩
end Go.Proofs.YtlkfakdghjaoaaaGreatDoor

set_option maxHeartbeats 3200000
set_option maxRecDepth 100000
namespace Go.Proofs.YtlkfakdghjaoaaaGreatDoor
open Go.RowKit Go.Sort
theorem zd (c : UInt8) (s : ByteArray) : 0 < (aE c s).length := by
 rcases Nat.eq_zero_or_pos (aE c s).length with e | h
 ·have h1 := lm c s
  have e2 : aE c s = [] := List.eq_nil_of_length_eq_zero e
  rw [e2] at h1
  simp [gE] at h1
 ·exact h
theorem rO (s : ByteArray) : (eq s).length + aO (eq s) ≤ s.size := by
 unfold eq
 split
 ·rename_i h
  unfold gv at h
  have hl := (Bool.and_eq_true_iff.1 h).1
  have h1 : (eo s).length + aO (eo s) = gE (aE 44 s) := mN hl
  have h2 := lm 44 s
  have h3 := zd 44 s
  omega
 ·simp [aO]
def pG (n : Nat) (w : World) (e : Ending) (w' : World) : Prop :=
 ∃ v g, e = .returned v ∧ fN w' w.heap.size v g ∧ g.length + aO g ≤ n ∧ Below w.heap.size w w'
def ez : List ByteArray := [⟨#[65, 63, 66, 67, 44, 66, 62, 68, 44, 67, 62, 68, 44, 68, 46]⟩, ⟨#[65, 62, 66, 44, 66, 63, 67, 68, 44, 67, 62, 66, 44, 68, 46]⟩, ⟨#[65, 63, 66, 67, 44, 66, 62, 67, 44, 67, 62, 66]⟩, ⟨#[65, 46]⟩, ⟨#[65, 62, 65]⟩,
 ⟨#[65, 63, 66, 67, 44, 66, 63, 68, 69, 44, 67, 62, 69, 44, 68, 62, 65, 44, 69, 63, 66, 70, 44, 70, 46]⟩, ⟨#[65, 62, 66, 44, 66, 63, 67, 70, 44, 67, 63, 68, 69, 44, 68, 62, 66, 44, 69, 62, 67, 44, 70, 46]⟩, ⟨#[65, 63, 66, 67, 44, 66, 63, 67, 68, 44, 67, 63, 66, 68, 44, 68, 46]⟩,
 ⟨#[65, 63, 65, 66, 44, 66, 46]⟩, ⟨#[65, 63, 66, 68, 44, 66, 62, 67, 44, 67, 46, 44, 68, 62, 67, 44, 69, 62, 65]⟩, ⟨#[65, 62, 66, 44, 66, 63, 66, 67, 44, 67, 63, 65, 68, 44, 68, 46]⟩]
theorem xl : ∀ s ∈ ez, s.size ≤ 25 := by decide
theorem gB {w : World} {b b' : Nat} {e : TypeId} {size : Nat} {v : Value} {n : Nat} {xs : List Value} (h : w.ownsRow b e size v n xs) (hb : b' ≤ b) : w.ownsRow b' e size v n xs := by
 refine ⟨h.1, ?_⟩
 rcases h.2 with hn | ⟨g, cap, cur, hv, hb2, rest⟩
 ·exact .inl hn
 ·exact .inr ⟨g, cap, cur, hv, Nat.le_trans hb hb2, rest⟩
theorem sG (k : Nat) (w : World) (hk : k < 11) :
  Calls Tryz.prog 91 #[.int .i64 k] w (pG 25 w) := by
 obtain ⟨s, hs⟩ : ∃ s, ez[k]? = some s := ⟨_, List.getElem?_eq_getElem (by simpa [ez] using hk)⟩
 have hsz := xl s (List.mem_of_getElem? hs)
 have HP : Hid (∀ w, Calls Tryz.prog 134 #[.string s] w (tQ s w)) := fun w => uB s w (by omega)
 have HB : Hid ((ez.map Value.string)[k]? = some (.string s)) := by
  show (ez.map Value.string)[k]? = some (.string s)
  rw [List.getElem?_map, hs]; rfl
 have HCELL : Hid (∀ w : World, (w.alloc (.cells (ez.map Value.string).toArray 9)).cell? ⟨w.heap.size, k, none⟩ = some (.string s)) := fun w => by
  rw [(Blk.new w 9 (ez.map Value.string).toArray).cell k]
  simpa using HB.out
 have hm : k % 11 = k := by omega
 have hkl : (k : Int) < 11 := by omega
 clear hs
 go_enter Tryz.func91, Tryz.ntmps91
 have hcell := HCELL.out w
 simp only [ez, List.map_cons, List.map_nil] at hcell
 go_wp2_with fail
 clear hcell
 refine (HP.out _).mono ?_
 rintro e w2 ⟨v, rfl, hv, b2⟩
 have HV := GR (gB hv (show w.heap.size ≤ _ by simp))
 have hB := af ((Below.refl w.heap.size w).alloc (Nat.le_refl _) _) b2
 have HS := GR (rO s)
 clear hv
 go_wp2_with fail
 exact bodyPost_ret (v := v) (by simp [results, Tryz.results91, go_sem]) rfl ⟨v, eq s, rfl, HV.out, by have := HS.out; omega, hB⟩
theorem dC {w w' : World} {R base : Nat} {e : TypeId} {size : Nat} {v : Value} {n : Nat} {xs : List Value} (h : w.ownsRow base e size v n xs) (hR : R < base) (ho : Only R w w') : w'.ownsRow base e size v n xs := by
 refine ⟨h.1, ?_⟩
 rcases h.2 with hn | ⟨g, cap, cur, hv, hb2, hg, rest⟩
 ·exact .inl hn
 ·refine .inr ⟨g, cap, cur, hv, hb2, ?_, rest⟩
  have hlt : g < w.heap.size := by
   rcases Nat.lt_or_ge g w.heap.size with h' | h'
   ·exact h'
   ·rw [Array.getElem?_eq_none h'] at hg; cases hg
  exact (ho.block g (by omega) hlt).trans hg
theorem Only.grown {R : Nat} {w a a' : World} {row : Option Nat} (h : Only R w a) (hg : a.grownBy a' row) (hr : ∀ k, row = some k → w.heap.size ≤ k) : Only R w a' :=
 ⟨hg.os.trans h.os, hg.tape.trans h.tape, hg.output.trans h.output, Nat.le_trans h.size hg.size, fun k hk hlt => (hg.block k (Nat.lt_of_lt_of_le hlt h.size) (fun e => by have := hr k e.symm; omega)).trans (h.block k hk hlt)⟩
theorem Rd.grown {w0 a a' : World} {R : Nat} {A : Option Addr} {len cap p p0 : Nat} {row : Option Nat} (h0 : Rd w0 R A len cap p0) (h : Rd a R A len cap p) (hg : a.grownBy a' row) (hr : ∀ k, row = some k → w0.heap.size ≤ k) : Rd a' R A len cap p := by
 have hR := h0.blk.lt
 refine ⟨(hg.block R h.blk.lt (fun e => by have := hr R e.symm; omega)).trans h.blk, fun hl => ?_, h.small⟩
 obtain ⟨b, off, rfl, hlt, hne, hc⟩ := h.bytes hl
 obtain ⟨b0, off0, e0, hlt0, _, _⟩ := h0.bytes hl
 injection e0 with e0
 injection e0 with e1 e2 _
 subst e1; subst e2
 refine ⟨b, off, rfl, Nat.lt_of_lt_of_le hlt hg.size, hne, fun k hk => ?_⟩
 obtain ⟨c, hcc⟩ := hc k hk
 exact ⟨c, hg.cell hcc (fun e => by have := hr b e.symm; omega)⟩
end Go.Proofs.YtlkfakdghjaoaaaGreatDoor
namespace Go.Proofs.YtlkfakdghjaoaaaGreatDoor
open Go.RowKit Go.Sort
def pH (n c R : Nat) (A : Option Addr) (len cap p : Nat) (w : World) (e : Ending) (w' : World) : Prop :=
 ∃ v g q, e = .returned v ∧ fN w' w.heap.size v g ∧ g.length + aO g ≤ n ∧ Only R w w' ∧ Rd w' R A len cap q ∧ q ≤ p + c
theorem GI (R : Nat) (A : Option Addr) (len cap p : Nat) (w : World) (h : Rd w R A len cap p) (hp : p ≤ 1048576) :
  Calls Tryz.prog 92 #[.pointer (some ⟨R, 0, none⟩), .slice (some ⟨w.heap.size, 0, none⟩) 7 7] (w.alloc (.cells #[.int .i64 4, .int .i64 5, .int .i64 3, .int .i64 6, .int .i64 7, .int .i64 2, .int .i64 1] 3)) fun e w' => ∃ n : Nat, e = .returned (.int .i64 n) ∧ (1 ≤ n ∧ n ≤ 7) ∧ Only R w w' ∧ Rd w' R A len cap (p + 1) := by
 refine (vU R A len cap p [4, 5, 3, 6, 7, 2, 1] w h (by decide) (by decide) hp).mono ?_
 rintro e w' ⟨z, rfl, hz, o, r⟩
 simp only [List.mem_cons, List.not_mem_nil, or_false] at hz
 refine ⟨z.toNat, bz (by omega), by omega, o, r⟩
theorem GJ (R : Nat) (A : Option Addr) (len cap p : Nat) (w : World) (h : Rd w R A len cap p) (hp : p ≤ 1048576) :
  Calls Tryz.prog 92 #[.pointer (some ⟨R, 0, none⟩), .slice (some ⟨w.heap.size, 0, none⟩) 5 5] (w.alloc (.cells #[.int .i64 2, .int .i64 1, .int .i64 2, .int .i64 1, .int .i64 0] 3)) fun e w' => ∃ n : Nat, e = .returned (.int .i64 n) ∧ n ≤ 2 ∧ Only R w w' ∧ Rd w' R A len cap (p + 1) := by
 refine (vU R A len cap p [2, 1, 2, 1, 0] w h (by decide) (by decide) hp).mono ?_
 rintro e w' ⟨z, rfl, hz, o, r⟩
 simp only [List.mem_cons, List.not_mem_nil, or_false] at hz
 refine ⟨z.toNat, bz (by omega), by omega, o, r⟩
theorem CW (R : Nat) (A : Option Addr) (len cap p : Nat) (w : World) (hr : Rd w R A len cap p) (hp : p ≤ 1000) :
  Calls Tryz.prog 127 #[.pointer (some ⟨R, 0, none⟩)] w (pH 28 100 R A len cap p w) := by
 obtain ⟨i0, hi, hz0, hz1, hz2⟩ := info_parts lY
 have hRlt := hr.blk.lt
 have HR := GR hr
 clear hr
 go_enter Tryz.func127, Tryz.ntmps127
 go_wp2_with fail
 refine (kK R A len cap p 3 w HR.out (by omega) (by omega) (by omega)).mono ?_
 rintro e w1 ⟨x, rfl, hx, o1, r1⟩
 by_cases h0 : x = 0
 ·have g0 : ((x : Int) == 0) = true := by rw [h0]; rfl
  have HR1 := GR r1
  clear h0 r1
  go_wp2_with fail
  refine (kK R A len cap (p + 1) 11 w1 HR1.out (by omega) (by omega) (by omega)).mono ?_
  rintro e w2 ⟨y, rfl, hy, o2, r2⟩
  have HR2 := GR r2
  clear r2
  go_wp2_with fail
  refine (sG y w2 hy).mono ?_
  rintro e w3 ⟨v, g, rfl, hv, hs, b3⟩
  have HV := GR (gB hv (Nat.le_trans o1.size o2.size))
  have hO := (o1.trans o2).trans (.of_below b3)
  clear hv
  go_wp2_with fail
  exact bodyPost_ret (v := v) (by simp [results, Tryz.results127, go_sem]) rfl ⟨v, g, p + 2, rfl, HV.out, by omega, hO, HR2.out.below b3, by omega⟩
 ·have g0 : ((x : Int) == 0) = false := by simp; omega
  have HR1 := GR r1
  have hR1 := r1.blk.lt
  clear h0 r1
  go_wp2_with fail
  refine (GI R A len cap (p + 1) w1 HR1.out (by omega)).mono ?_
  rintro e w2 ⟨n, rfl, ⟨hn1, hn7⟩, o2, r2⟩
  have HO2 := GR (o1.trans o2)
  have HR2 := GR r2
  have hR2 := r2.blk.lt
  have hs2 := (o1.trans o2).size
  clear o1 o2 r2 hR1
  go_wp2_with fail
  have HO0 := GR (World.ownsRow_made (base := w.heap.size) (e := 45) (size := 2) w2 #[] 0 hs2 (Nat.zero_le _) rfl)
  go_loopw [5, 20] (fun v i wr => ∃ (k q : Nat) (g : List Bl), k ≤ n ∧ i = .int .i64 k ∧ g.length = k ∧ aO g ≤ 3 * k ∧ q ≤ p + 2 + 7 * k ∧ fN wr w.heap.size v g ∧ Rd wr R A len cap q ∧ Only R w wr) (fun _ i _ => n - (intOf i).toNat)
  case atStart => exact ⟨0, p + 2, [], Nat.zero_le _, rfl, rfl, Nat.zero_le _, by omega, HO0.out, HR2.out.below ((Below.refl _ _).alloc (Nat.le_refl _) _), HO2.out.alloc _⟩
  case round =>
   obtain ⟨k, q, g, hk, rfl, hgl, hgt, hq, hown, hrd, ho⟩ := hrel
   have HGL := GR hgl
   have HGT := GR hgt
   have HOWN := GR hown
   have HRD := GR hrd
   have HO := GR ho
   have hlt3 := hrd.blk.lt
   clear hgl hgt hown hrd ho
   by_cases hlt : k < n
   ·go_wp2_with fail
    refine (GJ R A len cap q wr HRD.out (by omega)).mono ?_
    rintro e w3 ⟨t, rfl, ht, o3, r3⟩
    have HO3 := GR (HO.out.trans o3)
    have HR3 := GR r3
    have HOWN3 := GR (dC HOWN.out hRlt o3)
    clear o3 r3
    go_wp2_with fail
    obtain ⟨wo, hwo⟩ : ∃ wo : World, wo = wr := ⟨_, rfl⟩
    rw [← hwo] at hlt3
    clear hwo
    go_loopw [7, 26] (fun s c wr => ∃ (j q' : Nat) (next : ByteArray), j ≤ t ∧ c = .int .i64 j ∧ s = .string next ∧ next.size ≤ j ∧ q' ≤ q + 1 + 3 * j ∧ Rd wr R A len cap q' ∧ Only R w wr ∧ w3.heap.size ≤ wr.heap.size ∧ Only R w3 wr) (fun _ c _ => t - (intOf c).toNat)
    case atStart => exact ⟨0, q + 1, ⟨#[]⟩, Nat.zero_le _, rfl, rfl, Nat.zero_le _, by omega, HR3.out, HO3.out, Nat.le_refl _, Only.refl _ _⟩
    case round =>
     obtain ⟨j, q', next, hj, rfl, rfl, hnx, hq', hrd, ho, hsz, ho3⟩ := hrel
     have HRD' := GR hrd
     have HO' := GR ho
     have HO3' := GR ho3
     clear hrd ho ho3
     by_cases hjt : j < t
     ·go_wp2_with fail
      refine (kK R A len cap q' n _ HRD'.out (by omega) (by omega) (by omega)).mono ?_
      rintro e w4 ⟨a, rfl, ha, o4, r4⟩
      have HR4 := GR r4
      have HO4 := GR o4
      clear r4 o4
      go_wp2_with fail
      refine (kK R A len cap (q' + 1) 3 _ HR4.out (by omega) (by omega) (by omega)).mono ?_
      rintro e w5 ⟨b, rfl, hb, o5, r5⟩
      have HR5 := GR r5
      have HO5 := GR o5
      clear r5 o5
      by_cases hb0 : 0 < b
      ·have g1 : decide ((0 : Int) < b) = true := by simp; omega
       go_wp2_with fail
       refine (kK R A len cap (q' + 2) 2 _ HR5.out (by omega) (by omega) (by omega)).mono ?_
       rintro e w6 ⟨c, rfl, hc, o6, r6⟩
       have HR6 := GR r6
       have HO6 := GR o6
       clear r6 o6
       go_wp2_with fail
       refine (bf next _ _ (by omega)).mono ?_
       rintro e w7 ⟨rfl, rfl⟩
       generalize Lib.indexByte next.data.toList _ = ix
       by_cases hix : ix < 0
       ·go_wp2_with fail
        go_roundw
        case rel => exact ⟨j + 1, q' + 3, _, by omega, by go_num, rfl, by (rw [ByteArray.size_append, ByteArray.size_extract]; omega), by omega, HR6.out, ((HO'.out.trans HO4.out).trans HO5.out).trans HO6.out, Nat.le_trans hsz (((HO4.out.trans HO5.out).trans HO6.out).size), ((HO3'.out.trans HO4.out).trans HO5.out).trans HO6.out⟩
        case measure => simp [intOf]; omega
       ·go_wp2_with fail
        go_roundw
        case rel => exact ⟨j + 1, q' + 3, next, by omega, by go_num, rfl, by omega, by omega, HR6.out, ((HO'.out.trans HO4.out).trans HO5.out).trans HO6.out, Nat.le_trans hsz (((HO4.out.trans HO5.out).trans HO6.out).size), ((HO3'.out.trans HO4.out).trans HO5.out).trans HO6.out⟩
        case measure => simp [intOf]; omega
      ·have g1 : decide ((0 : Int) < b) = false := by simp; omega
       go_wp2_with fail
       refine (bf next _ _ (by omega)).mono ?_
       rintro e w7 ⟨rfl, rfl⟩
       generalize Lib.indexByte next.data.toList _ = ix
       by_cases hix : ix < 0
       ·go_wp2_with fail
        go_roundw
        case rel => exact ⟨j + 1, q' + 2, _, by omega, by go_num, rfl, by (rw [ByteArray.size_append, ByteArray.size_extract]; omega), by omega, HR5.out, (HO'.out.trans HO4.out).trans HO5.out, Nat.le_trans hsz ((HO4.out.trans HO5.out).size), (HO3'.out.trans HO4.out).trans HO5.out⟩
        case measure => simp [intOf]; omega
       ·go_wp2_with fail
        go_roundw
        case rel => exact ⟨j + 1, q' + 2, next, by omega, by go_num, rfl, by omega, by omega, HR5.out, (HO'.out.trans HO4.out).trans HO5.out, Nat.le_trans hsz ((HO4.out.trans HO5.out).size), (HO3'.out.trans HO4.out).trans HO5.out⟩
        case measure => simp [intOf]; omega
     ·have hown4 := dC HOWN3.out hRlt HO3'.out
      rw [HGL.out] at hown4
      have HOWN4 := GR hown4
      have hbs : w.heap.size ≤ wr.heap.size := HO'.out.size
      clear hown4
      obtain ⟨nm, hnm⟩ : ∃ nm, nm = (⟨#[65, 66, 67, 68, 69, 70, 71, 72, 73, 74]⟩ : ByteArray).extract k (k + 1) := ⟨_, rfl⟩
      have hnms : nm.size ≤ 1 := by rw [hnm, ByteArray.size_extract]; omega
      have HNM := GR hnm
      clear hnm
      go_wp2_with (at_builtin; refine wpList_append_own _ rfl _ _ 23 rfl w.heap.size 45 i0 _ 2 32 Tryz.underlying23 hi hz0 hz1 hz2 rfl (by decide) _ _ _ rfl (HOWN4.out.alloc _) ⟨wr.heap.size, 0, none⟩ 1 1 [.string ((⟨#[65, 66, 67, 68, 69, 70, 71, 72, 73, 74]⟩ : ByteArray).extract k (k + 1)), .string next] rfl rfl ?c1 ?c2 ?c3 ?c4 ?c5 ?_)
      case c1 =>
       exact World.news_of_block (cs := #[.string ((⟨#[65, 66, 67, 68, 69, 70, 71, 72, 73, 74]⟩ : ByteArray).extract k (k + 1)), .string next]) (t := 45) (fr := (0, 0)) (heap_alloc_new wr _)
      case c2 => simp [Value.oneCell']
      case c3 => unfold maxLen; omega
      case c4 => omega
      case c5 => simp; omega
      intro v' w8 hown' hgrow _
      have hrow := (HOWN4.out.alloc (.cells #[.string ((⟨#[65, 66, 67, 68, 69, 70, 71, 72, 73, 74]⟩ : ByteArray).extract k (k + 1)), .string next] 45)).lt
      have HO8 := GR ((HO'.out.alloc (.cells #[.string ((⟨#[65, 66, 67, 68, 69, 70, 71, 72, 73, 74]⟩ : ByteArray).extract k (k + 1)), .string next] 45)).grown hgrow (fun j hj => (hrow j hj).1))
      have HR8 := GR (HR.out.grown (HRD'.out.below ((Below.refl _ _).alloc (Nat.le_refl _) (.cells #[.string ((⟨#[65, 66, 67, 68, 69, 70, 71, 72, 73, 74]⟩ : ByteArray).extract k (k + 1)), .string next] 45))) hgrow (fun j hj => (hrow j hj).1))
      have HO9 : Hid (fN w8 w.heap.size v' (g ++ [(nm, next)])) := by
       show w8.ownsRow w.heap.size 45 2 v' (g ++ [(nm, next)]).length (cz (g ++ [(nm, next)]))
       rw [List.length_append, gJ, HGL.out, HNM.out]
       exact hown'
      have HT9 : Hid (aO (g ++ [(nm, next)]) ≤ 3 * (k + 1)) := by
       show aO (g ++ [(nm, next)]) ≤ 3 * (k + 1)
       have := HGT.out
       simp only [g8, aO]
       omega
      clear hown' hgrow hrow
      go_wp2_with fail
      go_roundw
      case rel => exact ⟨k + 1, q', g ++ [(nm, next)], by omega, by go_num, by simp [HGL.out], HT9.out, by omega, HO9.out, HR8.out, HO8.out⟩
      case measure => simp [intOf]; omega
   ·go_wp2_with fail
    refine bodyPost_ret (v := u5) (by simp [results, Tryz.results127, go_sem]) rfl ⟨u5, g, q, rfl, HOWN.out, ?_, HO.out, HRD.out, by omega⟩
    have h1 := HGL.out
    have h2 := HGT.out
    omega
end Go.Proofs.YtlkfakdghjaoaaaGreatDoor
namespace Go.Proofs.YtlkfakdghjaoaaaGreatDoor
open Go.RowKit Go.Sort
theorem zf (g : List Bl) : ∀ u ∈ cz g, u.oneCell' = true := by
 intro u hu
 unfold cz at hu
 obtain ⟨b, _, hb⟩ := List.mem_flatMap.1 hu
 simp only [List.mem_cons, List.not_mem_nil, or_false] at hb
 rcases hb with rfl | rfl <;> rfl
theorem Fu (R : Nat) (A : Option Addr) (len cap p : Nat) (w : World) (h : Rd w R A len cap p) (hp : p ≤ 1048576) :
  Calls Tryz.prog 123 #[.pointer (some ⟨R, 0, none⟩), .slice (some ⟨w.heap.size, 0, none⟩) 5 5] (w.alloc (.cells #[.string ⟨#[65]⟩, .string ⟨#[74]⟩, .string ⟨#[107]⟩, .string ⟨#[]⟩, .string ⟨#[65, 66]⟩] 9)) fun e w' => ∃ s : ByteArray, e = .returned (.string s) ∧ s.size ≤ 3 ∧ Only R w w' ∧ Rd w' R A len cap (p + 1) := by
 refine (Eh R A len cap p [⟨#[65]⟩, ⟨#[74]⟩, ⟨#[107]⟩, ⟨#[]⟩, ⟨#[65, 66]⟩] w h (by decide) (by decide) hp).mono ?_
 rintro e w' ⟨z, rfl, hz, o, r⟩
 refine ⟨z, rfl, ?_, o, r⟩
 revert z; decide
theorem Fv (R : Nat) (A : Option Addr) (len cap p : Nat) (w : World) (h : Rd w R A len cap p) (hp : p ≤ 1048576) :
  Calls Tryz.prog 123 #[.pointer (some ⟨R, 0, none⟩), .slice (some ⟨w.heap.size, 0, none⟩) 5 5] (w.alloc (.cells #[.string ⟨#[65]⟩, .string ⟨#[65, 65]⟩, .string ⟨#[89]⟩, .string ⟨#[65, 65, 65]⟩, .string ⟨#[]⟩] 9)) fun e w' => ∃ s : ByteArray, e = .returned (.string s) ∧ s.size ≤ 3 ∧ Only R w w' ∧ Rd w' R A len cap (p + 1) := by
 refine (Eh R A len cap p [⟨#[65]⟩, ⟨#[65, 65]⟩, ⟨#[89]⟩, ⟨#[65, 65, 65]⟩, ⟨#[]⟩] w h (by decide) (by decide) hp).mono ?_
 rintro e w' ⟨z, rfl, hz, o, r⟩
 refine ⟨z, rfl, ?_, o, r⟩
 revert z; decide
theorem uP (R : Nat) (A : Option Addr) (len cap p : Nat) (w : World) (hr : Rd w R A len cap p) (hp : p ≤ 1000) :
  Calls Tryz.prog 83 #[.pointer (some ⟨R, 0, none⟩)] w (pH 40 103 R A len cap p w) := by
 obtain ⟨i0, hi, hz0, hz1, hz2⟩ := info_parts lY
 have hRlt := hr.blk.lt
 have HR := GR hr
 clear hr
 go_enter Tryz.func83, Tryz.ntmps83
 go_wp2_with fail
 refine (CW R A len cap p w HR.out hp).mono ?_
 rintro e w1 ⟨v, g, q, rfl, hown, hg, ho1, r1, hq⟩
 have HOWN := GR hown
 have HO1 := GR ho1
 have HR1 := GR r1
 clear hown ho1 r1
 go_wp2_with fail
 refine (kK R A len cap q 30 w1 HR1.out (by omega) (by omega) (by omega)).mono ?_
 rintro e w2 ⟨x, rfl, hx, o2, r2⟩
 have HOWN2 := GR (dC HOWN.out hRlt o2)
 have HO2 := GR (HO1.out.trans o2)
 have HR2 := GR r2
 clear o2 r2
 by_cases h0 : x = 0
 ·have g0 : ((x : Int) == 0) = true := by rw [h0]; rfl
  clear h0
  have hs2 := HO2.out.size
  have HOA := GR (World.ownsRow_made (base := w.heap.size) (e := 45) (size := 2) w2 #[] 0 hs2 (Nat.zero_le _) rfl)
  have hlen : g.length ≤ 28 := by omega
  rcases HOWN2.out.2 with ⟨rfl, hn⟩ | ⟨gb, gcap, cur, rfl, hb, hgb, hnc, hcm, hcs, hct⟩
  ·go_wp2_with (at_builtin; refine wpList_append_own_none _ rfl _ _ 23 rfl w.heap.size 45 i0 2 Tryz.underlying23 hi _ _ _ rfl HOA.out rfl ?_)
   have hg0 : g = [] := List.eq_nil_of_length_eq_zero hn
   have HVX : Hid (fN (w2.alloc (.cells #[] 45)) w.heap.size (.slice (some ⟨w2.heap.size, 0, none⟩) 0 0) g) := by rw [hg0]; exact HOA.out
   have HOX : Hid (Only R w (w2.alloc (.cells #[] 45))) := HO2.out.alloc _
   have HRX : Hid (Rd (w2.alloc (.cells #[] 45)) R A len cap (q + 1)) := HR2.out.below ((Below.refl _ _).alloc (Nat.le_refl _) _)
   have hS5 := Fu R A len cap (q + 1) _ HRX.out (by omega)
   rw [show (w2.alloc (.cells #[] 45)).heap.size = w2.heap.size + 1 from by simp] at hS5
   have HS5 := GR hS5
   clear hS5
   refine HS5.out.mono ?_
   rintro e w4 ⟨nm, rfl, hnm, o4, r4⟩
   have HV4 := GR (dC HVX.out hRlt o4)
   have HO4 := GR (HOX.out.trans o4)
   have HR4 := GR r4
   clear o4 r4
   have HS6 := GR (Fv R A len cap (q + 2) w4 HR4.out (by omega))
   go_wp2_with fail
   refine HS6.out.mono ?_
   rintro e w5 ⟨nx, rfl, hnx, o5, r5⟩
   have HV5 := GR (dC HV4.out hRlt o5)
   have HO5 := GR (HO4.out.trans o5)
   have HR5 := GR r5
   have hs5 := (HO4.out.trans o5).size
   clear o5 r5
   go_wp2_with (at_builtin; refine wpList_append_own _ rfl _ _ 23 rfl w.heap.size 45 i0 _ 2 32 Tryz.underlying23 hi hz0 hz1 hz2 rfl (by decide) _ _ _ rfl (HV5.out.alloc _) ⟨w5.heap.size, 0, none⟩ 1 1 [.string nm, .string nx] rfl rfl ?d1 ?d2 ?d3 ?d4 ?d5 ?_)
   case d1 => exact World.news_of_block (cs := #[.string nm, .string nx]) (t := 45) (fr := (0, 0)) (heap_alloc_new w5 _)
   case d2 => simp [Value.oneCell']
   case d3 => unfold maxLen; omega
   case d4 => omega
   case d5 => simp; omega
   intro v9 w9 hown9 hgrow9 _
   have hrow := (HV5.out.alloc (.cells #[.string nm, .string nx] 45)).lt
   have HO9 := GR ((HO5.out.alloc (.cells #[.string nm, .string nx] 45)).grown hgrow9 (fun j hj => (hrow j hj).1))
   have HR9 := GR (HR.out.grown (HR5.out.below ((Below.refl _ _).alloc (Nat.le_refl _) (.cells #[.string nm, .string nx] 45))) hgrow9 (fun j hj => (hrow j hj).1))
   have HV9 : Hid (fN w9 w.heap.size v9 (g ++ [(nm, nx)])) := by
    show w9.ownsRow w.heap.size 45 2 v9 (g ++ [(nm, nx)]).length (cz (g ++ [(nm, nx)]))
    rw [List.length_append, gJ, hg0]
    exact hown9
   clear hown9 hgrow9 hrow
   go_wp2_with fail
   exact bodyPost_ret (v := v9) (by simp [results, Tryz.results83, go_sem]) rfl ⟨v9, g ++ [(nm, nx)], q + 3, rfl, HV9.out, by simp only [g8, aO, List.length_append, List.length_cons, List.length_nil]; omega, HO9.out, HR9.out, by omega⟩
  ·go_wp2_with (at_builtin; refine wpList_append_own _ rfl _ _ 23 rfl w.heap.size 45 i0 _ 2 32 Tryz.underlying23 hi hz0 hz1 hz2 rfl (by decide) _ _ _ rfl HOA.out ⟨gb, 0, none⟩ g.length gcap (cz g) rfl (uA g) ?c1 (zf g) ?c3 ?c4 ?c5 ?_)
   case c1 => exact (HOWN2.out.alloc _).cells rfl
   case c3 => unfold maxLen; omega
   case c4 => omega
   case c5 => simp; omega
   intro v' w8 hown' hgrow _
   have HVX : Hid (fN w8 w.heap.size v' g) := by
    show w8.ownsRow w.heap.size 45 2 v' g.length (cz g)
    exact hown'
   have HOX := GR ((HO2.out.alloc (.cells #[] 45)).grown hgrow (fun j hj => (HOA.out.lt j hj).1))
   have HRX := GR (HR.out.grown (HR2.out.below ((Below.refl _ _).alloc (Nat.le_refl _) (.cells #[] 45))) hgrow (fun j hj => (HOA.out.lt j hj).1))
   clear hown' hgrow hgb
   have HS5 := GR (Fu R A len cap (q + 1) w8 HRX.out (by omega))
   have hsX : w.heap.size ≤ w8.heap.size := HOX.out.size
   go_wp2_with fail
   refine HS5.out.mono ?_
   rintro e w4 ⟨nm, rfl, hnm, o4, r4⟩
   have HV4 := GR (dC HVX.out hRlt o4)
   have HO4 := GR (HOX.out.trans o4)
   have HR4 := GR r4
   clear o4 r4
   have HS6 := GR (Fv R A len cap (q + 2) w4 HR4.out (by omega))
   go_wp2_with fail
   refine HS6.out.mono ?_
   rintro e w5 ⟨nx, rfl, hnx, o5, r5⟩
   have HV5 := GR (dC HV4.out hRlt o5)
   have HO5 := GR (HO4.out.trans o5)
   have HR5 := GR r5
   have hs5 := (HO4.out.trans o5).size
   clear o5 r5
   go_wp2_with (at_builtin; refine wpList_append_own _ rfl _ _ 23 rfl w.heap.size 45 i0 _ 2 32 Tryz.underlying23 hi hz0 hz1 hz2 rfl (by decide) _ _ _ rfl (HV5.out.alloc _) ⟨w5.heap.size, 0, none⟩ 1 1 [.string nm, .string nx] rfl rfl ?e1 ?e2 ?e3 ?e4 ?e5 ?_)
   case e1 => exact World.news_of_block (cs := #[.string nm, .string nx]) (t := 45) (fr := (0, 0)) (heap_alloc_new w5 _)
   case e2 => simp [Value.oneCell']
   case e3 => unfold maxLen; omega
   case e4 => omega
   case e5 => simp; omega
   intro v9 w9 hown9 hgrow9 _
   have hrow := (HV5.out.alloc (.cells #[.string nm, .string nx] 45)).lt
   have HO9 := GR ((HO5.out.alloc (.cells #[.string nm, .string nx] 45)).grown hgrow9 (fun j hj => (hrow j hj).1))
   have HR9 := GR (HR.out.grown (HR5.out.below ((Below.refl _ _).alloc (Nat.le_refl _) (.cells #[.string nm, .string nx] 45))) hgrow9 (fun j hj => (hrow j hj).1))
   have HV9 : Hid (fN w9 w.heap.size v9 (g ++ [(nm, nx)])) := by
    show w9.ownsRow w.heap.size 45 2 v9 (g ++ [(nm, nx)]).length (cz (g ++ [(nm, nx)]))
    rw [List.length_append, gJ]
    exact hown9
   clear hown9 hgrow9 hrow
   go_wp2_with fail
   exact bodyPost_ret (v := v9) (by simp [results, Tryz.results83, go_sem]) rfl ⟨v9, g ++ [(nm, nx)], q + 3, rfl, HV9.out, by simp only [g8, aO, List.length_append, List.length_cons, List.length_nil]; omega, HO9.out, HR9.out, by omega⟩
 ·have g0 : ((x : Int) == 0) = false := by simp; omega
  by_cases h1 : x = 1
  ·have g1 : ((x : Int) == 1) = true := by rw [h1]; rfl
   clear h0 h1
   rcases HOWN2.out.2 with ⟨rfl, hn⟩ | ⟨gb, gcap, cur, rfl, hb, hgb, hnc, hcm, hcs, hct⟩
   ·go_wp2_with fail
    exact bodyPost_ret (v := .slice none 0 0) (by simp [results, Tryz.results83, go_sem]) rfl ⟨.slice none 0 0, [], q + 1, rfl, World.ownsRow_nil _ _ _ _, by simp [aO], HO2.out, HR2.out, by omega⟩
   ·go_wp2_with fail
    exact bodyPost_ret (v := .slice (some ⟨gb, 0, none⟩) 0 gcap) (by simp [results, Tryz.results83, go_sem]) rfl ⟨.slice (some ⟨gb, 0, none⟩) 0 gcap, [], q + 1, rfl, ⟨by simp [cz], .inr ⟨gb, gcap, cur, rfl, hb, hgb, Nat.zero_le _, hcm, hcs, by simp [cz]⟩⟩, by simp [aO], HO2.out, HR2.out, by omega⟩
  ·have g1 : ((x : Int) == 1) = false := by simp; omega
   clear h0 h1
   go_wp2_with fail
   exact bodyPost_ret (v := v) (by simp [results, Tryz.results83, go_sem]) rfl ⟨v, g, q + 1, rfl, HOWN2.out, by omega, HO2.out, HR2.out, by omega⟩
end Go.Proofs.YtlkfakdghjaoaaaGreatDoor
namespace Go.Proofs.YtlkfakdghjaoaaaGreatDoor
open Go.RowKit Go.Sort
end Go.Proofs.YtlkfakdghjaoaaaGreatDoor

namespace Go.Proofs.YtlkfakdghjaoaaaGreatDoor
open Go.RowKit Go.Sort
def Agr (g : List Bl) (l : List It) (x : List UInt8) : Prop := ∃ o, Runs (.l l) (nc x) o ∧ tb o.trace = lp g (tb x) ∧ (o.code : Int) = lq g (tb x)
def Fw (g : List Bl) (l : List It) (x : List UInt8) : Prop := ∃ o, Runs (.l l) (nc x) o ∧ ¬ (tb o.trace = lp g (tb x) ∧ (o.code : Int) = lq g (tb x))
theorem Agr.not {g : List Bl} {l : List It} {x : List UInt8} (h : Agr g l x) (h' : Fw g l x) : False := by
 obtain ⟨o, h1, h2⟩ := h
 obtain ⟨o', h3, h4⟩ := h'
 rw [h3.uniq h1] at h4
 exact h4 h2
def FO (g : List Bl) (s : List UInt8) : Option (List UInt8) → Prop
 | some x => ∃ l, bh s l ∧ aa g = true ∧ ∃ pre, pre ++ [x] <+: rk 6 ∧ (∀ y ∈ pre, Agr g l y) ∧ Fw g l x
 | none => ∀ l, bh s l → aa g = true → ∀ y ∈ rk 6, Agr g l y
theorem FO.uniq {g : List Bl} {s : List UInt8} {r r' : Option (List UInt8)} (h : FO g s r) (h' : FO g s r') : r = r' := by
 have two : ∀ {x : List UInt8}, FO g s (some x) → ¬ FO g s none := by
  rintro x ⟨l, h1, h2, pre, h3, _, h5⟩ h6
  exact (h6 l h1 h2 x (h3.subset (List.mem_append_right _ (List.mem_singleton.2 rfl)))).not h5
 match r, r', h, h' with
 | none, none, _, _ => rfl
 | some x, none, h, h' => exact absurd h' (two h)
 | none, some x, h, h' => exact absurd h (two h')
 | some x, some x', ⟨l, h1, h2, pre, h3, h4, h5⟩, ⟨l', h1', _, pre', h3', h4', h5'⟩ =>
  have := lu h1 h1'
  subst this
  have key : ∀ {p q : List (List UInt8)} {a b : List UInt8}, p ++ [a] <+: rk 6 → q ++ [b] <+: rk 6 → (∀ y ∈ q, Agr g l y) → Fw g l a → ¬ p.length < q.length := by
   intro p q a b hp hq hqa ha hlt
   have h7 : p ++ [a] <+: q ++ [b] := List.prefix_of_prefix_length_le hp hq (by simp; omega)
   obtain ⟨t, ht⟩ := h7
   have e1 : (q ++ [b])[p.length]? = some a := by rw [← ht]; simp
   rw [List.getElem?_append_left hlt] at e1
   exact (hqa a (List.mem_of_getElem? e1)).not ha
  have k1 := key h3 h3' h4' h5
  have k2 := key h3' h3 h4 h5'
  have h7 : pre ++ [x] <+: pre' ++ [x'] := List.prefix_of_prefix_length_le h3 h3' (by simp; omega)
  have h8 := h7.eq_of_length (by simp; omega)
  have h9 := (List.append_inj' h8 rfl).2
  injection h9 with h9
  rw [h9]
end Go.Proofs.YtlkfakdghjaoaaaGreatDoor

namespace Go.Proofs.YtlkfakdghjaoaaaGreatDoor
open Go.RowKit Go.Sort
def named (g : List Bl) (cs : List Nat) (s : ByteArray) : Option Nat := cs.find? fun i => decide (ay g i = s)
def PtsI (w : World) (A : Option Addr) (NB : Nat) (cs : List Nat) : Prop :=
 0 < cs.length → ∃ b off, A = some ⟨b, off, none⟩ ∧ b < w.heap.size ∧ ∀ k (h : k < cs.length), w.cell? ⟨b, off + k, none⟩ = some (ag NB cs[k])
end Go.Proofs.YtlkfakdghjaoaaaGreatDoor
