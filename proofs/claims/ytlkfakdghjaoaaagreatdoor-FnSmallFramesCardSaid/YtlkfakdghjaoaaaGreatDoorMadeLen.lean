import Derived.Test.YtlkfakdghjaoaaaGreatDoorMadeSums
namespace Go.Proofs.YtlkfakdghjaoaaaGreatDoor
open Go.RowKit Go.Sort
mutual
theorem lenI : ∀ i : It, cnI 35 i = 0 → cnI 61 i = 0 → (txI i).length = cnI 88 i + cnI 46 i + 6 * cnI 63 i + 2 * (cnI 40 i + cnI 123 i + cnI 94 i)
 | .blk c, _, _ => by rw [txI]; simp [cnI, kdI]
 | .ask c l r, h1, h2 => by
  rw [cnI] at h1 h2
  have a := lenL l (by omega) (by omega)
  have b := lenL r (by omega) (by omega)
  rw [txI]
  simp only [cnI, kdI, List.length_cons, List.length_append, List.length_nil, a, b]
  simp
  omega
 | .stop, _, _ => by rw [txI]; simp [cnI, kdI]
 | .frame b l, h1, h2 => by
  rw [cnI] at h1 h2
  have a := lenL l (by omega) (by omega)
  rw [txI]
  cases b
  ·simp only [cnI, kdI, opn, List.length_cons, List.length_append, List.length_nil, a]
   simp
   omega
  ·simp only [cnI, kdI, opn, List.length_cons, List.length_append, List.length_nil, a]
   simp
   omega
 | .leave n, _, _ => by rw [txI]; simp [cnI, kdI]
 | .set n, _, h2 => by rw [cnI] at h2; simp [kdI] at h2
 | .pick bs, h1, _ => by rw [cnI] at h1; simp [kdI] at h1
theorem lenL : ∀ l : List It, cnL 35 l = 0 → cnL 61 l = 0 → (txL l).length = cnL 88 l + cnL 46 l + 6 * cnL 63 l + 2 * (cnL 40 l + cnL 123 l + cnL 94 l)
 | [], _, _ => rfl
 | i :: l, h1, h2 => by
  rw [cnL] at h1 h2
  have a := lenI i (by omega) (by omega)
  have b := lenL l (by omega) (by omega)
  rw [txL, List.length_append, a, b, cnL, cnL, cnL, cnL, cnL, cnL]
  omega
end
def sizeB (g : List Bl) (n : Nat) : Nat := match nxt g n with | [] => 2 | [_] => 1 | _ => 6
theorem made_len {g : List Bl} (hb : madeB g = true) : (madeT g).length = 2 * ((meetsL g).length + (headL g).length + cnL 94 (madeI g)) + ((wayOrd g).map (sizeB g)).sum := by
 have hv := (tameB_iff.1 (madeB_tame hb)).1
 have none : ∀ kd : UInt8, oneC kd 123 = 0 → oneC kd 40 = 0 → (∀ n, bareC g kd n = 0) → cnL kd (madeI g) = 0 := fun kd h1 h2 h3 => by
  rw [made_count hb]
  have : ∀ l : List Nat, (l.map (ownC g kd)).sum = 0 := fun l => by
   induction l with
   | nil => rfl
   | cons a l ih =>
    rw [List.map_cons, List.sum_cons, ih]
    unfold ownC
    rw [h1, h2, h3]
    split <;> rfl
  exact this _
 have h35 := none 35 rfl rfl (bareC_zero (by decide))
 have h61 := none 61 rfl rfl (bareC_zero (by decide))
 rw [(made_ok hb).2.2, lenL _ h35 h61, made_big hb, made_small hb]
 have hk : cnL 88 (madeI g) + cnL 46 (madeI g) + 6 * cnL 63 (madeI g) = ((wayOrd g).map (sizeB g)).sum := by
  rw [made_count hb, made_count hb, made_count hb]
  have : ∀ l : List Nat, (l.map (ownC g 88)).sum + (l.map (ownC g 46)).sum + 6 * (l.map (ownC g 63)).sum = (l.map (sizeB g)).sum := fun l => by
   induction l with
   | nil => rfl
   | cons a l ih =>
    rw [List.map_cons, List.sum_cons, List.map_cons, List.sum_cons, List.map_cons, List.sum_cons, List.map_cons, List.sum_cons]
    have : ownC g 88 a + ownC g 46 a + 6 * ownC g 63 a = sizeB g a := by
     have e : ∀ kd, oneC kd 123 = 0 → oneC kd 40 = 0 → ownC g kd a = bareC g kd a := fun kd h1 h2 => by
      unfold ownC
      rw [h1, h2]
      split <;> omega
     rw [e 88 rfl rfl, e 46 rfl rfl, e 63 rfl rfl]
     have hh := nxt_few hv a
     have z1 : oneC 88 88 = 1 := rfl
     have z2 : oneC 88 46 = 0 := rfl
     have z3 : oneC 88 63 = 0 := rfl
     have z4 : oneC 88 94 = 0 := rfl
     have y1 : oneC 46 88 = 0 := rfl
     have y2 : oneC 46 46 = 1 := rfl
     have y3 : oneC 46 63 = 0 := rfl
     have y4 : oneC 46 94 = 0 := rfl
     have x1 : oneC 63 88 = 0 := rfl
     have x2 : oneC 63 46 = 0 := rfl
     have x3 : oneC 63 63 = 1 := rfl
     have x4 : oneC 63 94 = 0 := rfl
     unfold bareC sizeB
     rw [z1, z2, z3, z4, y1, y2, y3, y4, x1, x2, x3, x4]
     rcases hx : nxt g a with _ | ⟨t, _ | ⟨u, ts⟩⟩
     ·rfl
     ·simp only; omega
     ·simp only; omega
    omega
  exact this _
 omega
end Go.Proofs.YtlkfakdghjaoaaaGreatDoor
