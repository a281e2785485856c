import Derived.Test.YtlkfakdghjaoaaaGreatDoorFrameNames
import Derived.Test.YtlkfakdghjaoaaaGreatDoorOrders
import Derived.Maps.StringElems
import Derived.Deep.DeepCutAuto
import Derived.Test.YtlkfakdghjaoaaaGreatDoorJ1
set_option maxRecDepth 100000
set_option maxHeartbeats 1600000
namespace Go.Proofs.YtlkfakdghjaoaaaGreatDoor
open Go.RowKit Go.Sort Go.Shelf Go.Maps Go.WideMaps
abbrev mu := List UInt8 × List UInt8
def dw (g : List Bl) : Nat → Nat → Fr → List (Nat × mu)
 | 0, _, _ => []
 | m + 1, n, fr => bt g (dw g m) n (aq g n) (cf g n fr) ++ [(n, (aw g (m + 1) n fr, cH g fr))]
theorem nO {g : List Bl} {m n t : Nat} {fr : Fr} (h : ∀ c fr, (dw g m c fr).length ≤ (aw g m c fr).length) : (cG g (dw g m) n t fr).length ≤ (aT g (aw g m) n t fr).length := by
 unfold cG aT
 by_cases h1 : ah g n < ah g t
 ·by_cases h2 : t ∈ ak g
  ·rw [if_neg fun k => k.2 h2]; exact Nat.zero_le _
  ·rw [if_pos ⟨h1, h2⟩, if_pos h1, if_neg h2]; exact h t fr
 ·rw [if_neg fun k => h1 k.1]; exact Nat.zero_le _
theorem rY {g : List Bl} (hv : aa g = true) (n : Nat) : (ai g n).length ≤ 2 := by
 by_cases hn : n < g.length
 ·exact iO hv hn
 ·have : ai g n = [] := by
   unfold ai jQ
   rw [List.getD_eq_getElem?_getD, List.getElem?_eq_none (by rw [List.length_map]; omega)]
   rfl
  rw [this]
  exact Nat.zero_le _
theorem Bv {g : List Bl} (hv : aa g = true) {m n : Nat} {fr : Fr} (h : ∀ c fr, (dw g m c fr).length ≤ (aw g m c fr).length) : (gp g (dw g m) n fr).length + 1 ≤ (dM g (aw g m) n fr).length := by
 have h2 := rY hv n
 match hx : ai g n, h2 with
 | [], _ => rw [jH hx, mD hx]; simp
 | [t], _ =>
  rw [kH hx, nU hx]
  have := nO (n := n) (t := t) (fr := fr) h
  simp only [List.length_cons]; omega
 | [t, u], _ =>
  rw [kI hx, nV hx]
  have a1 := nO (n := n) (t := t) (fr := fr) h
  have a2 := nO (n := n) (t := u) (fr := fr) h
  simp only [List.length_cons, List.length_append, List.length_nil]; omega
theorem pg {g : List Bl} (hv : aa g = true) {m n : Nat} (h : ∀ c fr, (dw g m c fr).length ≤ (aw g m c fr).length) : ∀ (bs : List Nat) (fr : Fr), (bt g (dw g m) n bs fr).length + 1 ≤ (aJ g (aw g m) n bs fr).length
 | [], fr => Bv hv h
 | y :: bs, fr => by
  have ih := pg hv (n := n) h bs ((y, false) :: fr)
  have hy := h y fr
  rw [bt, aJ]
  simp only [List.length_cons, List.length_append]
  omega
theorem yx {g : List Bl} (hv : aa g = true) : ∀ (m n : Nat) (fr : Fr), (dw g m n fr).length ≤ (aw g m n fr).length
 | 0, _, _ => Nat.le_refl _
 | m + 1, n, fr => by
  have h := pg hv (n := n) (yx hv m) (aq g n) (cf g n fr)
  rw [dw, aw, List.length_append]
  unfold cf at h ⊢
  by_cases hh : n ∈ aL g
  ·rw [if_pos hh] at h ⊢
   rw [if_pos hh]
   simp only [List.length_cons, List.length_append, List.length_nil]
   omega
  ·rw [if_neg hh] at h ⊢
   rw [if_neg hh]
   simp only [List.length_cons, List.length_nil]
   omega
def mw (v : Value) : Option (DataW Unit × List MemPlace) :=
 match v with
 | .agg cs => match cs.toList with
  | [.string t, .string f] => some (.agg [.lit (.string t.data.toList), .lit (.string f.data.toList)], [])
  | _ => none
 | _ => none
theorem lf (t f : ByteArray) : mw (.agg #[.string t, .string f]) = some (.agg [.lit (.string t.data.toList), .lit (.string f.data.toList)], []) := rfl
theorem nP {v : Value} {z : DataW Unit × List MemPlace} (h : mw v = some z) : ∃ t f : ByteArray, v = .agg #[.string t, .string f] ∧ z = (.agg [.lit (.string t.data.toList), .lit (.string f.data.toList)], []) := by
 unfold mw at h
 split at h
 ·rename_i cs
  split at h
  ·rename_i t f he
   cases h
   refine ⟨t, f, ?_, rfl⟩
   rw [show cs = #[.string t, .string f] from Array.toList_inj.1 he]
  ·cases h
 ·cases h
abbrev FC (w : World) (PB n : Nat) (D : DataW Unit) : Prop := w.ownsMap Tryz.prog 9 mw PB n D
abbrev bm := List UInt8 → Option mu
def PMap (w : World) (PB n : Nat) (P : bm) : Prop :=
 ∃ D : DataW Unit, FC w PB n D ∧ IsMap D ∧ ∀ s : List UInt8, (∀ x, P s = some x → Maps.has D (.string s) = true ∧ ∀ z, D.atKey (.string s) z = .agg [.lit (.string x.1), .lit (.string x.2)]) ∧ (P s = none → Maps.has D (.string s) = false)
def putP (P : bm) (s : List UInt8) (x : mu) : bm := fun k => if k = s then some x else P k
def jp (g : List Bl) (P : bm) (ws : List (Nat × mu)) : bm := ws.foldl (fun P p => putP P [au g p.1] p.2) P
theorem iT (g : List Bl) (P : bm) (a b : List (Nat × mu)) : jp g P (a ++ b) = jp g (jp g P a) b := by unfold jp; rw [List.foldl_append]
theorem vt : Keyed Tryz.prog 9 := string_keyed Tryz.underlying9
theorem zH (w : World) : PMap (w.alloc (.map #[] 0)) w.heap.size 0 (fun _ => none) :=
 ⟨_, World.ownsMap_made w _ _ _, isMap_empty, fun _ => ⟨fun _ h => (by cases h), fun _ => rfl⟩⟩
theorem PMap.lt {w : World} {PB n : Nat} {P : bm} (h : PMap w PB n P) : PB < w.heap.size := by
 obtain ⟨D, h1, _⟩ := h
 exact World.ownsMap.lt h1
theorem PMap.keep {w w' : World} {PB n : Nat} {P : bm} (h : PMap w PB n P) (hk : w'.heap[PB]? = w.heap[PB]?) : PMap w' PB n P := by
 obtain ⟨D, ⟨es, cl, hb, r⟩, h2, h3⟩ := h
 exact ⟨D, ⟨es, cl, hk.trans hb, r⟩, h2, h3⟩
theorem PMap.put {w : World} {PB n : Nat} {P : bm} (h : PMap w PB n P) (hn : n ≤ 1048576) (s t f : ByteArray) (hs : s.size ≤ 1048576) :
  ∃ w', (Instr.mapUpdate 62 (.map (some PB)) (.string s) (.agg #[.string t, .string f])).run Tryz.prog w = .ok () w' ∧ PMap w' PB (n + 1) (putP P s.data.toList (t.data.toList, f.data.toList)) ∧ w.grownBy w' (some PB) := by
 obtain ⟨D, h1, h2, h3⟩ := h
 have hkey := keyOf_string_mk Tryz.underlying9 (s := s) (by unfold maxLen; omega)
 obtain ⟨w', r, h4, h5⟩ := World.ownsMap.update h1 vt Tryz.underlying62 (by unfold maxLen; omega) hkey (lf t f)
 refine ⟨w', r, ⟨_, h4, h2.put _ _, fun k => ?_⟩, h5⟩
 by_cases e : k = s.data.toList
 ·subst e
  refine ⟨fun x hx => ?_, fun hx => ?_⟩
  ·unfold putP at hx
   rw [if_pos rfl] at hx
   injection hx with hx
   subst hx
   exact ⟨has_put_same h2 (show WideAt.IsKeyLit (.string s.data.toList) from trivial) _, fun z => atKey_put_same h2 (show WideAt.IsKeyLit (.string s.data.toList) from trivial) _ z⟩
  ·unfold putP at hx
   rw [if_pos rfl] at hx
   cases hx
 ·have hne : Lit.string k ≠ Lit.string s.data.toList := fun q => e (by injection q)
  have hp : putP P s.data.toList (t.data.toList, f.data.toList) k = P k := by unfold putP; rw [if_neg e]
  rw [has_put_other hne, hp]
  refine ⟨fun x hx => ⟨((h3 k).1 x hx).1, fun z => by rw [atKey_put_other hne]; exact ((h3 k).1 x hx).2 z⟩, (h3 k).2⟩
theorem tj (w : World) : (zeroValue 103).run Tryz.prog w = .ok (.agg #[.string ⟨#[]⟩, .string ⟨#[]⟩]) w := by kernel_rfl
theorem PMap.look {w : World} {PB n : Nat} {P : bm} (h : PMap w PB n P) (s : ByteArray) (hs : s.size ≤ maxLen) {x : mu} (hx : P s.data.toList = some x) :
  (Instr.lookup 62 (.map (some PB)) (.string s) true).run Tryz.prog w = .ok (.tuple #[.agg #[.string (tb x.1), .string (tb x.2)], .bool true]) w := by
 obtain ⟨D, h1, h2, h3⟩ := h
 obtain ⟨v, ps, r, hv⟩ := World.ownsMap.look_ok h1 vt Tryz.underlying62 (tj w) (lf _ _) (keyOf_string_mk Tryz.underlying9 hs)
 have e := (h3 s.data.toList).1 x hx
 rw [e.2] at hv
 obtain ⟨t, f, rfl, hc⟩ := nP hv
 simp only [Prod.mk.injEq, DataW.agg.injEq, List.cons.injEq, DataW.lit.injEq, Lit.string.injEq, and_true] at hc
 rw [r, e.1, hc.1.1, hc.1.2, uF, uF]
theorem PMap.look_no {w : World} {PB n : Nat} {P : bm} (h : PMap w PB n P) (s : ByteArray) (hs : s.size ≤ maxLen) (hx : P s.data.toList = none) :
  ∃ t f, (Instr.lookup 62 (.map (some PB)) (.string s) true).run Tryz.prog w = .ok (.tuple #[.agg #[.string t, .string f], .bool false]) w := by
 obtain ⟨D, h1, h2, h3⟩ := h
 obtain ⟨v, ps, r, hv⟩ := World.ownsMap.look_ok h1 vt Tryz.underlying62 (tj w) (lf _ _) (keyOf_string_mk Tryz.underlying9 hs)
 obtain ⟨t, f, rfl, _⟩ := nP hv
 rw [(h3 s.data.toList).2 hx] at r
 exact ⟨t, f, r⟩
end Go.Proofs.YtlkfakdghjaoaaaGreatDoor
namespace Go.Proofs.YtlkfakdghjaoaaaGreatDoor
open Go.RowKit Go.Sort Go.Shelf
theorem PtsI.turn {w w' : World} {A : Option Addr} {NB : Nat} {cs : List Nat} {O : Nat → Prop} (h : PtsI w A NB cs) (hT : Turns O w w') (hO : 0 < cs.length → ∀ b off, A = some ⟨b, off, none⟩ → ¬ O b) : PtsI w' A NB cs := by
 intro hp
 obtain ⟨b, off, e, hb, hc⟩ := h hp
 refine ⟨b, off, e, Nat.lt_of_lt_of_le hb hT.size, fun k hk => ?_⟩
 have := hc k hk
 unfold World.cell? at this ⊢
 rw [hT.block b hb (hO hp b off e)]
 exact this
structure Fix where
 (M PB WB tb NB KB : Nat)
 (A : Option Addr)
 cap : Nat
 g : List Bl
 (B off tcap : Nat)
 S : Nat → Nat
 (hA mA : Option Addr)
 (hc mc : Nat)
 w1 : World
structure FixOk (x : Fix) : Prop where
 valid : aa x.g = true
 tame : ew x.g
 ord : OrdAt x.w1 x.WB x.tb x.NB x.KB x.A x.cap x.g x.B x.off x.tcap x.S
 kinds : KMap x.w1 x.g x.KB 52 (fun i t => Rch x.g [] i ∧ t ∈ ai x.g i)
 mp : x.M ≠ x.PB
 ml : x.w1.heap.size ≤ x.M
 pl : x.w1.heap.size ≤ x.PB
 hn : ∀ b o, x.hA = some ⟨b, o, none⟩ → b ≠ x.M ∧ b ≠ x.PB
 mn : ∀ b o, x.mA = some ⟨b, o, none⟩ → b ≠ x.M ∧ b ≠ x.PB
def MX (x : Fix) (v : Value) : Nat → Prop := fun k => k = x.M ∨ k = x.PB ∨ v.ownBlock = some k
structure Mkr (x : Fix) (w : World) (v : Value) (out : List UInt8) (P : bm) (c : Nat) : Prop where
 bd : MBd w x.M (.pointer (some ⟨x.WB, 0, none⟩)) (.slice x.hA (aL x.g).length x.hc) (.slice x.mA (ak x.g).length x.mc) v (.map (some x.PB)) out
 map : PMap w x.PB c P
 low : Below x.w1.heap.size x.w1 w
 own : ∀ k, v.ownBlock = some k → x.w1.heap.size ≤ k ∧ k ≠ x.PB
 hd : PtsI w x.hA x.NB (aL x.g)
 mt : PtsI w x.mA x.NB (ak x.g)
 hdn : 0 < (aL x.g).length → ∀ b o, x.hA = some ⟨b, o, none⟩ → v.ownBlock ≠ some b
 mtn : 0 < (ak x.g).length → ∀ b o, x.mA = some ⟨b, o, none⟩ → v.ownBlock ≠ some b
def MT (x : Fix) (w : World) (v : Value) (w' : World) (v' : Value) : Prop := Turns (MX x v) w w' ∧ (v'.ownBlock = v.ownBlock ∨ ∃ k, v'.ownBlock = some k ∧ w.heap.size ≤ k)
variable {x : Fix} {w w' w'' : World} {v v' v'' : Value} {out : List UInt8} {P : bm} {c : Nat}
theorem MT.below (h : Below w.heap.size w w') : MT x w v w' v := ⟨.of_below h, .inl rfl⟩
theorem MT.trans (h : MT x w v w' v') (k : MT x w' v' w'' v'') : MT x w v w'' v'' := by
 obtain ⟨h1, h2⟩ := h
 obtain ⟨k1, k2⟩ := k
 refine ⟨⟨k1.os.trans h1.os, k1.tape.trans h1.tape, k1.output.trans h1.output, Nat.le_trans h1.size k1.size, fun i hi hn => ?_⟩, ?_⟩
 ·refine (k1.block i (Nat.lt_of_lt_of_le hi h1.size) fun e => ?_).trans (h1.block i hi hn)
  rcases e with e | e | e
  ·exact hn (.inl e)
  ·exact hn (.inr (.inl e))
  ·rcases h2 with q | ⟨j, q, hj⟩
   ·exact hn (.inr (.inr (q ▸ e)))
   ·rw [q] at e
    injection e with e
    omega
 ·rcases k2 with e | ⟨j, e, hj⟩
  ·rcases h2 with e' | ⟨i, e', hi⟩
   ·exact .inl (e.trans e')
   ·exact .inr ⟨i, e.trans e', hi⟩
  ·exact .inr ⟨j, e, Nat.le_trans h1.size hj⟩
theorem MT.of_wr (h : Wr x.M w v w' v') : MT x w v w' v' := ⟨h.1.wider fun k hk => by rcases hk with hk | hk; exact .inl hk; exact .inr (.inr hk), h.2⟩
theorem MT.size (h : MT x w v w' v') : w.heap.size ≤ w'.heap.size := h.1.size
theorem FrAt.made {NB : Nat} {fv : Value} {fr : Fr} (h : FrAt w (MX x v) NB fv fr) (hT : MT x w v w' v') : FrAt w' (MX x v') NB fv fr := by
 refine h.turn hT.1 fun k hk e => ?_
 rcases e with e | e | e
 ·exact .inl e
 ·exact .inr (.inl e)
 ·rcases hT.2 with q | ⟨j, q, hj⟩
  ·exact .inr (.inr (q ▸ e))
  ·rw [q] at e
   injection e with e
   omega
theorem Mkr.lt (h : Mkr x w v out P c) : ∀ k, MX x v k → k < w.heap.size := fun k hk => by
 rcases hk with rfl | rfl | hk
 ·exact h.bd.lt
 ·exact h.map.lt
 ·exact h.bd.own_lt k hk
theorem Mkr.below (h : Mkr x w v out P c) (hb : Below w.heap.size w w') : Mkr x w' v out P c :=
 ⟨h.bd.below hb, h.map.keep (hb.block _ h.map.lt), h.low.trans (hb.mono h.low.size), h.own, h.hd.turn (O := fun _ => False) (.of_below hb) fun _ _ _ _ => id, h.mt.turn (O := fun _ => False) (.of_below hb) fun _ _ _ _ => id, h.hdn, h.mtn⟩
theorem Bw {A : Option Addr} {NB : Nat} {cs : List Nat} (hp : PtsI w A NB cs) (hl : 0 < cs.length) {b o : Nat} (e : A = some ⟨b, o, none⟩) : b < w.heap.size := by
 obtain ⟨b', o', e', hb, _⟩ := hp hl
 rw [e] at e'
 injection e' with e'
 injection e' with e' _
 omega
theorem Mkr.write (hx : FixOk x) (h : Mkr x w v out P c) {out' : List UInt8} (hb : MBd w' x.M (.pointer (some ⟨x.WB, 0, none⟩)) (.slice x.hA (aL x.g).length x.hc) (.slice x.mA (ak x.g).length x.mc) v' (.map (some x.PB)) out') (hw : Wr x.M w v w' v') : Mkr x w' v' out' P c := by
 obtain ⟨hT, hv⟩ := hw
 have hz := h.low.size
 refine ⟨hb, h.map.keep (hT.block _ h.map.lt fun e => ?_), h.low.trans (hT.below hz fun k hk => ?_), fun k hk => ?_, h.hd.turn hT fun hl b o e q => ?_, h.mt.turn hT fun hl b o e q => ?_, fun hl b o e q => ?_, fun hl b o e q => ?_⟩
 ·rcases e with e | e
  ·exact hx.mp e.symm
  ·exact (h.own _ e).2 rfl
 ·rcases hk with hk | hk
  ·rw [hk]; exact hx.ml
  ·exact (h.own k hk).1
 ·rcases hv with e | ⟨j, e, hj⟩
  ·exact h.own k (e ▸ hk)
  ·rw [e] at hk
   injection hk with hk
   subst hk
   have := h.map.lt
   exact ⟨by omega, by omega⟩
 ·rcases q with q | q
  ·exact (hx.hn b o e).1 q
  ·exact h.hdn hl b o e q
 ·rcases q with q | q
  ·exact (hx.mn b o e).1 q
  ·exact h.mtn hl b o e q
 ·rcases hv with r | ⟨j, r, hj⟩
  ·exact h.hdn hl b o e (r ▸ q)
  ·rw [r] at q
   injection q with q
   have := Bw h.hd hl e
   omega
 ·rcases hv with r | ⟨j, r, hj⟩
  ·exact h.mtn hl b o e (r ▸ q)
  ·rw [r] at q
   injection q with q
   have := Bw h.mt hl e
   omega
theorem Mkr.put (hx : FixOk x) (h : Mkr x w v out P c) {P' : bm} {c' : Nat} (hm : PMap w' x.PB c' P') (hg : w.grownBy w' (some x.PB)) : Mkr x w' v out P' c' ∧ MT x w v w' v := by
 have hT : Turns (fun k => k = x.PB) w w' := .of_grown hg fun k e => by cases e; rfl
 refine ⟨⟨h.bd.turn hT hx.mp fun k hk e => (h.own k hk).2 e, hm, h.low.trans (hT.below h.low.size fun k hk => hk ▸ hx.pl), h.own, h.hd.turn hT fun _ b o e q => (hx.hn b o e).2 q, h.mt.turn hT fun _ b o e q => (hx.mn b o e).2 q, h.hdn, h.mtn⟩, hT.wider fun k hk => .inr (.inl hk), .inl rfl⟩
theorem Mkr.order (hx : FixOk x) (h : Mkr x w v out P c) : OrdAt w x.WB x.tb x.NB x.KB x.A x.cap x.g x.B x.off x.tcap x.S := hx.ord.below h.low
theorem Mkr.kind (hx : FixOk x) (h : Mkr x w v out P c) : KMap w x.g x.KB 52 (fun i t => Rch x.g [] i ∧ t ∈ ai x.g i) := hx.kinds.keep (h.low.block _ hx.kinds.lt)
theorem Mkr.nodes (hx : FixOk x) (h : Mkr x w v out P c) : NodesIn w x.NB x.g := (h.order hx).tree.nodes
theorem Mkr.cells (h : Mkr x w v out P c) : w.cell? ⟨x.M, 0, none⟩ = some (.pointer (some ⟨x.WB, 0, none⟩)) ∧ w.cell? ⟨x.M, 1, none⟩ = some (.slice x.hA (aL x.g).length x.hc) ∧ w.cell? ⟨x.M, 2, none⟩ = some (.slice x.mA (ak x.g).length x.mc) ∧ w.cell? ⟨x.M, 5, none⟩ = some (.map (some x.PB)) := by
 obtain ⟨⟨p, _, hb⟩, _⟩ := h.bd
 exact ⟨hb.cell 0, hb.cell 1, hb.cell 2, hb.cell 5⟩
theorem iE (hx : FixOk x) (h : Mkr x w v out P c) (s : ByteArray) (hl : out.length + s.size ≤ 1048576) :
  Calls Tryz.prog 57 #[.pointer (some ⟨x.M, 3, none⟩), .string s] w fun e w' => e = .returned (.tuple #[.int .i64 s.size, .nilIface]) ∧ ∃ v', Mkr x w' v' (out ++ s.data.toList) P c ∧ MT x w v w' v' := by
 refine (zm x.M _ _ _ _ _ _ s w h.bd hl).mono ?_
 rintro e w' ⟨rfl, v', hb, hw⟩
 exact ⟨rfl, v', h.write hx hb hw, .of_wr hw⟩
theorem mx (hx : FixOk x) (h : Mkr x w v out P c) (h0 : out ≠ []) (hl : out.length ≤ 1048576) :
  Calls Tryz.prog 53 #[.pointer (some ⟨x.M, 3, none⟩)] w fun e w' => e = .returned (.string (tb out)) ∧ Mkr x w' v out P c ∧ MT x w v w' v := by
 refine (xo x.M _ _ _ _ _ _ w h.bd h0 hl).mono ?_
 rintro e w' ⟨rfl, hb, hT, hs⟩
 have hw : Wr x.M w v w' v := ⟨hT.wider fun k hk => .inr hk, .inl rfl⟩
 exact ⟨rfl, h.write hx hb hw, .of_wr hw⟩
end Go.Proofs.YtlkfakdghjaoaaaGreatDoor
namespace Go.Proofs.YtlkfakdghjaoaaaGreatDoor
open Go.RowKit Go.Sort Go.Shelf
variable {x : Fix}
def my (x : Fix) (w : World) (v : Value) (out : List UInt8) (P : bm) (c : Nat) (txt : List UInt8) (ws : List (Nat × mu)) (e : Ending) (w' : World) : Prop :=
 e = .returned (.tuple #[]) ∧ ∃ v', Mkr x w' v' (out ++ txt) (jp x.g P ws) (c + ws.length) ∧ MT x w v w' v'
def iF (x : Fix) (m : Nat) : Prop :=
 ∀ (n : Nat) (fr : Fr) (fv : Value) (out : List UInt8) (P : bm) (c : Nat) (v : Value) (w : World), Rch x.g [] n → (ac x.g).length ≤ m + ah x.g n → InvOut x.g n fr → OkOut x.g n fr → Mkr x w v out P c → FrAt w (MX x v) x.NB fv fr →
  out.length + (aw x.g m n fr).length ≤ 100000 → c + (dw x.g m n fr).length ≤ 100000 →
  Calls Tryz.prog 93 #[.pointer (some ⟨x.M, 0, none⟩), ag x.NB n, fv] w (my x w v out P c (aw x.g m n fr) (dw x.g m n fr))
theorem Gs {p q : Prop} (hp : p) (h : p → q) : q := h hp
theorem Bx (hx : FixOk x) {m : Nat} (hBO : iF x m) (n t : Nat) (fr : Fr) (fv : Value) (out : List UInt8) (P : bm) (c : Nat) (v : Value) (w : World) (hn : Rch x.g [] n) (ht : t ∈ ai x.g n) (hL : (ac x.g).length ≤ m + 1 + ah x.g n)
  (hI : InvIn x.g n [] fr) (hO : OkIn x.g n [] fr) (hM : Mkr x w v out P c) (hF : FrAt w (MX x v) x.NB fv fr) (hl : out.length + (aT x.g (aw x.g m) n t fr).length ≤ 100000) (hc : c + (cG x.g (dw x.g m) n t fr).length ≤ 100000) :
  Calls Tryz.prog 201 #[.pointer (some ⟨x.M, 0, none⟩), ag x.NB n, ag x.NB t, fv] w (my x w v out P c (aT x.g (aw x.g m) n t fr) (cG x.g (dw x.g m) n t fr)) := by
 have hv := hx.valid
 have htr : Rch x.g [] t := .step hn ht (by simp)
 have hnl := hn.lt hv
 have htl := htr.lt hv
 obtain ⟨W0, hW0⟩ : ∃ W0, W0 = w.alloc (.cells #[ag x.NB t] 95) := ⟨_, rfl⟩
 have hz0 : W0.heap.size = w.heap.size + 1 := by rw [hW0]; simp
 have HB0 := GR (show Below w.heap.size w W0 by rw [hW0]; exact (Below.refl _ _).alloc (Nat.le_refl _) _)
 have kT : Blk W0 w.heap.size 95 #[ag x.NB t] := by rw [hW0]; exact Blk.new w _ _
 have HW0 := GR hW0
 have hM0 := hM.below HB0.out
 have c0 := hM0.cells.1
 have c1 := (hM0.order hx).store.cell 2
 have c2 := kT.cell 0
 have f0 := Lib.cell?_alloc_some (.cells #[.bool false] 4) c0
 have f1 := Lib.cell?_alloc_some (.cells #[.bool false] 4) c1
 have f2 := Lib.cell?_alloc_some (.cells #[.bool false] 4) c2
 have hml := hM0.bd.lt
 have hwl := (hM0.order hx).store.lt
 have htk := kT.lt
 have HJ : Hid (∀ W, Below W0.heap.size W0 W → Calls Tryz.prog 117 #[ag x.NB n, ag x.NB t] W fun e w' => e = .returned (jv (au x.g n) (au x.g t)) ∧ Below W0.heap.size W0 w' ∧ Hid (Below W.heap.size W w')) := GR (fun W hb =>
  (dO x.NB x.g n t W hv ((hM0.below hb).nodes hx) hnl htl).mono fun _ _ ⟨h1, h2⟩ => ⟨h1, hb.trans (h2.mono hb.size), h2⟩)
 have HLK := GR (fun W (hb : Below W0.heap.size W0 W) => ((hM0.below hb).kind hx).look hnl htl ⟨hn, ht⟩)
 obtain ⟨z, hz⟩ : ∃ z, z = aG x.g n t := ⟨_, rfl⟩
 rw [← hz] at HLK
 have hzz : ((z : Int) == 1) = decide (z = 1) := by
  by_cases h : z = 1
  ·subst h; rfl
  ·rw [decide_eq_false h]; simpa using (by omega : ¬ (z : Int) = 1)
 have HZ := GR hz
 clear hz hW0
 go_enter Tryz.func201, Tryz.ntmps201
 go_upto_region 1 with fail
 rw [← HW0.out]
 go_cut [8] (fun s8 wx => ∃ BB, s8 = .pointer (some ⟨BB, 0, none⟩) ∧ Blk wx BB 4 #[.bool (decide (z = 1))] ∧ W0.heap.size ≤ BB ∧ Below W0.heap.size W0 wx)
 case first =>
  go_region_law (first
   | (go_simp; go_at_call 117; refine Calls.mono (HJ.out _ ?_) ?_
      · repeat (first | with_reducible exact Below.refl _ _ | with_reducible refine Below.drew ?_ | with_reducible refine Below.alloc ?_ (by first | omega | (simp; omega)) _)
      rintro e w2 ⟨rfl, b2, b3⟩
      have z2 := b2.size
      have d0 := (b2.cell (p := ⟨x.M, 0, none⟩) hml).trans c0
      have d1 := (b2.cell (p := ⟨x.WB, 2, none⟩) hwl).trans c1
      have k2 := HLK.out w2 b2
      have k3 := HLK.out (w2.alloc (.cells #[.bool false] 4)) (b2.alloc b2.size _)
      have kf := (Blk.new w2 4 #[.bool false]).frozen 0
      have d2 := (b2.cell (p := ⟨w.heap.size, 0, none⟩) htk).trans c2
      have e0 := Lib.cell?_alloc_some (.cells #[.bool false] 4) d0
      have e1 := Lib.cell?_alloc_some (.cells #[.bool false] 4) d1
      have e2 := Lib.cell?_alloc_some (.cells #[.bool false] 4) d2
      try
        refine Gs (p := Blk w2 (w.heap.size + 1) 4 #[.bool false]) ?_ ?_
        · refine Blk.ext b3 ?_
          repeat (first | (with_reducible refine Blk.newAt _ _ ?_; (first | rfl | (simp [hz0])); done) | with_reducible refine Blk.drew ?_)
          done
        intro kb
        have kb0 := kb.cell 0
        have kb1 := kb.frozen 0)
   | fail)
  all_goals
   clear hBO hI hO HLK HJ k2 k3 d0 d1 d2 e0 e1 e2 f0 f1 f2 c0 c1 c2
   go_wp2_with fail
   go_meet
  all_goals first
   | exact ⟨_, rfl, Blk.new w2 _ _, z2, b2.alloc z2 _⟩
   | exact ⟨_, rfl, kb.set_ 0 _, by omega, b2.setCell (p := ⟨w.heap.size + 1, 0, none⟩) (by show W0.heap.size ≤ w.heap.size + 1; omega) _⟩
 case rest =>
  obtain ⟨BB, rfl, hbk, hbl, hb⟩ := hcut
  have hMc := hM0.below hb
  have kTc := kT.below hb htk
  have HBW := GR (show Below w.heap.size w wc from HB0.out.trans (hb.mono HB0.out.size))
  have hFc := hF.below HBW.out
  have g0 := kTc.cell 0
  have g1 := hbk.cell 0
  have g2 := hMc.cells.2.2.1
  have hNc := hMc.nodes hx
  have hml' : (ak x.g).length ≤ 26 := by
   have h1 : (ak x.g).length ≤ (am x.g).length := eX 2 bD
   have h2 := bO hv
   omega
  have hmlt : ∀ i ∈ ak x.g, i < x.g.length := dP 2 bD
  have HCN := GR (fun k => Calls.quiet_of_same ((jo x.mA x.mc (ak x.g) x.NB x.g t (wc.drewN k) hMc.mt (by omega) hNc hmlt htl).mono fun _ _ ⟨p, q⟩ => ⟨p, q.symm⟩))
  have HMC := GR hMc
  have HFC := GR hFc
  have HV := GR hv
  have HFR := GR (fun (b : Bool) (hm : (t, b) ∈ fr) (hb : decide (z = 1) = b) (k : Nat) => uh (MX x v) x.NB w.heap.size BB t b fv fr x.g (wc.drewN k) hFc (by have := hO.len hv; omega) hNc (fun e he => (hO.2 e he).1) htl g0 (hb ▸ g1) hm)
  have hfl := hO.len hv
  clear HLK HJ f0 f1 f2 c0 c1 c2 hM0 kT hM hF hMc hFc kTc hbk hb hNc hmlt
  by_cases hp : ah x.g n < ah x.g t
  ·have hz1 : z = 0 := by rw [HZ.out]; exact gL hp
   subst hz1
   have g1' : wc.cell? ⟨BB, 0, none⟩ = some (.bool false) := g1
   clear g1
   by_cases hm : t ∈ ak x.g
   ·rw [decide_eq_true hm] at HCN
    have tC := HCN.out
    have HFI := GR (HFR.out false (hI.fwd hv hn ht hp hm) rfl)
    have hix := yj (hI.fwd hv hn ht hp hm)
    clear HFR HCN
    go_wp2_with fail
    go_quiet (with_reducible exact tC _)
    go_wp2_with fail
    refine (HFI.out nq).mono ?_
    rintro e w3 ⟨rfl, k3, rfl⟩
    obtain ⟨W3, hW3⟩ : ∃ W3, W3 = (wc.drewN nq).drewN k3 := ⟨_, rfl⟩
    have HB3 := GR (show Below wc.heap.size wc W3 by rw [hW3]; exact (ab wc nq).trans (ab (wc.drewN nq) k3))
    rw [← hW3]
    clear hW3 tC
    have HM3 := GR (HMC.out.below HB3.out)
    obtain ⟨ix, hixe⟩ : ∃ ix, ix = pI fr (t, false) := ⟨_, rfl⟩
    rw [← hixe] at hix
    rw [← hixe]
    have HIX := GR hixe
    clear hixe HFI
    have hi100 : ix < 100 := by omega
    have hdl := ki ix
    have hz5 : (tb (el ix)).size ≤ 2 := by rw [aB]; exact hdl
    have hq5 : ¬ 9223372036854775807 < 1 + (tb (el ix)).size := by omega
    have HJW := GR (show aT x.g (aw x.g m) n t fr = 94 :: el ix by
     unfold aT; rw [if_pos hp, if_pos hm]; rw [HIX.out]; rfl)
    have HJV := GR (show cG x.g (dw x.g m) n t fr = [] by unfold cG; rw [if_neg fun h => h.2 hm])
    rw [HJW.out] at hl
    simp only [List.length_cons] at hl
    have HWR := GR (fun k => iE hx (HM3.out.below (ab W3 k)) (⟨#[94]⟩ ++ tb (el ix)) (by rw [ByteArray.size_append]; show out.length + (1 + _) ≤ _; omega))
    go_wp2_with fail
    go_region_law (first
     | (go_simp; go_at_call 225; refine Calls.mono (uT ix hi100 _) ?_; rintro e w4 ⟨rfl, rfl⟩)
     | (go_simp; go_at_call 57; refine Calls.mono (HWR.out 1) ?_; rintro e w5 ⟨rfl, v5, hM5, hT5⟩)
     | fail)
    all_goals
     have HM5 := GR hM5
     have HT5 := GR hT5
     clear hM5 hT5
     go_wp2_with fail
     go_end0
     refine ⟨rfl, v5, ?_, (MT.below (HBW.out.trans ((HB3.out.trans (ab W3 1 |>.mono HB3.out.size)).mono HBW.out.size))).trans HT5.out⟩
     have hM5 := HM5.out
     rw [jb, aI] at hM5
     rw [HJW.out, HJV.out]
     exact hM5
   ·rw [decide_eq_false hm] at HCN
    have tC := HCN.out
    have hpar := oH hv hx.tame hm hn ht hp
    have HJW := GR (show aT x.g (aw x.g m) n t fr = aw x.g m t fr by unfold aT; rw [if_pos hp, if_neg hm])
    have HJV := GR (show cG x.g (dw x.g m) n t fr = dw x.g m t fr by unfold cG; rw [if_pos ⟨hp, hm⟩])
    rw [HJW.out] at hl
    rw [HJV.out] at hc
    have HBC := GR (fun k => hBO t fr fv out P c v (wc.drewN k) htr (by omega) (hI.jump hv htr hpar) (hO.child hv htr hpar) (HMC.out.below (ab wc k)) (HFC.out.below (ab wc k)) hl hc)
    clear HFR HCN
    go_wp2_with fail
    go_quiet (with_reducible exact tC _)
    go_wp2_with fail
    refine (HBC.out nq).mono ?_
    rintro e w5 ⟨rfl, v5, hM5, hT5⟩
    have HM5 := GR hM5
    have HT5 := GR hT5
    clear hM5 hT5
    go_wp2_with fail
    go_end0
    refine ⟨rfl, v5, ?_, (MT.below (HBW.out.trans ((ab wc nq).mono HBW.out.size))).trans HT5.out⟩
    rw [HJW.out, HJV.out]
    exact HM5.out
  ·have hz1 : z = 1 := by rw [HZ.out]; exact sP hp ((fw hv).2 ((hx.tame n t hn ht).resolve_left hp))
   subst hz1
   have g1' : wc.cell? ⟨BB, 0, none⟩ = some (.bool true) := g1
   clear g1
   have HFI := GR (HFR.out true (hI.back hv hx.tame hn ht hp) rfl)
   have hix := yj (hI.back hv hx.tame hn ht hp)
   clear HFR HCN
   go_wp2_with fail
   go_quiet (fail)
   go_wp2_with fail
   refine (HFI.out nq).mono ?_
   rintro e w3 ⟨rfl, k3, rfl⟩
   obtain ⟨W3, hW3⟩ : ∃ W3, W3 = (wc.drewN nq).drewN k3 := ⟨_, rfl⟩
   have HB3 := GR (show Below wc.heap.size wc W3 by rw [hW3]; exact (ab wc nq).trans (ab (wc.drewN nq) k3))
   rw [← hW3]
   clear hW3
   have HM3 := GR (HMC.out.below HB3.out)
   obtain ⟨ix, hixe⟩ : ∃ ix, ix = pI fr (t, true) := ⟨_, rfl⟩
   rw [← hixe] at hix
   rw [← hixe]
   have HIX := GR hixe
   clear hixe HFI
   have hi100 : ix < 100 := by omega
   have hdl := ki ix
   have hz5 : (tb (el ix)).size ≤ 2 := by rw [aB]; exact hdl
   have hq5 : ¬ 9223372036854775807 < 1 + (tb (el ix)).size := by omega
   have HJW := GR (show aT x.g (aw x.g m) n t fr = 94 :: el ix by
    unfold aT; rw [if_neg hp]; rw [HIX.out]; rfl)
   have HJV := GR (show cG x.g (dw x.g m) n t fr = [] by unfold cG; rw [if_neg fun h => hp h.1])
   rw [HJW.out] at hl
   simp only [List.length_cons] at hl
   have HWR := GR (fun k => iE hx (HM3.out.below (ab W3 k)) (⟨#[94]⟩ ++ tb (el ix)) (by rw [ByteArray.size_append]; show out.length + (1 + _) ≤ _; omega))
   go_wp2_with fail
   go_region_law (first
    | (go_simp; go_at_call 225; refine Calls.mono (uT ix hi100 _) ?_; rintro e w4 ⟨rfl, rfl⟩)
    | (go_simp; go_at_call 57; refine Calls.mono (HWR.out 1) ?_; rintro e w5 ⟨rfl, v5, hM5, hT5⟩)
    | fail)
   all_goals
    have HM5 := GR hM5
    have HT5 := GR hT5
    clear hM5 hT5
    go_wp2_with fail
    go_end0
    refine ⟨rfl, v5, ?_, (MT.below (HBW.out.trans ((HB3.out.trans (ab W3 1 |>.mono HB3.out.size)).mono HBW.out.size))).trans HT5.out⟩
    have hM5 := HM5.out
    rw [jb, aI] at hM5
    rw [HJW.out, HJV.out]
    exact hM5
end Go.Proofs.YtlkfakdghjaoaaaGreatDoor
