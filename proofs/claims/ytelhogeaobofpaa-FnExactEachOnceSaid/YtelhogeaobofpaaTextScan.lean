/-
  What the bytes of a text with frames tell: its signs, its length, its brackets, how deep frames lie: plain facts.
-/
import Derived.Test.YtelhogeaobofpaaTextCount
namespace Go.Proofs.Ytelhogeaobofpaa

/-- How often a byte stands in a text. -/
def bc (x : UInt8) (s : List UInt8) : Nat := s.countP fun c => decide (c = x)
theorem bc_nil (x : UInt8) : bc x [] = 0 := rfl
theorem bc_append (x : UInt8) (s t : List UInt8) : bc x (s ++ t) = bc x s + bc x t := List.countP_append
theorem bc_cons (x c : UInt8) (s : List UInt8) : bc x (c :: s) = (if c = x then 1 else 0) + bc x s := by
  unfold bc
  rw [List.countP_cons]
  by_cases h : c = x
  · rw [if_pos h, if_pos (by simpa using h)]; omega
  · rw [if_neg h, if_neg (by simpa using h)]; omega

/-- No name, no digit. -/
def Sgn (x : UInt8) : Prop := letB x = false ∧ ∀ n, n < 10 → dig n ≠ x
theorem Sgn.let_ne {x c : UInt8} (h : Sgn x) (hc : letB c = true) : c ≠ x := fun e => by rw [e, h.1] at hc; cases hc
theorem sgn_all : Sgn 63 ∧ Sgn 40 ∧ Sgn 123 ∧ Sgn 94 ∧ Sgn 46 ∧ Sgn 61 ∧ Sgn 35 ∧ Sgn 91 ∧ Sgn 93 ∧ Sgn 41 ∧ Sgn 125 := by
  refine ⟨?_, ?_, ?_, ?_, ?_, ?_, ?_, ?_, ?_, ?_, ?_⟩ <;> exact ⟨by decide, by decide⟩

theorem k0 {i : It} {x : UInt8} (h : (kdI i == x) = false) : (if kdI i = x then 1 else 0) = (0 : Nat) := if_neg (by simpa using h)
theorem k1 {i : It} {x : UInt8} (h : (kdI i == x) = true) : (if kdI i = x then 1 else 0) = (1 : Nat) := if_pos (by simpa using h)
mutual
/-- A sign stands as often as there are items of its kind. -/
theorem bc_okI {x : UInt8} (hx : Sgn x) (h1 : x ≠ 91) (h2 : x ≠ 93) (h3 : x ≠ 41) (h4 : x ≠ 125) (h5 : x ≠ 88) : ∀ (i : It) (f : Nat), OkI i f → bc x (txI i) = cnI x i
  | .blk c, f, h => by rw [OkI] at h; rw [txI, cnI, bc_cons, bc_nil, if_neg (hx.let_ne h), if_neg (show ¬ kdI (.blk c) = x from fun e => h5 e.symm)]
  | .ask c l r, f, h => by
    rw [OkI] at h
    rw [txI, cnI, bc_cons, bc_cons, bc_cons, bc_append, bc_cons, bc_cons, bc_append, bc_cons, bc_nil, bc_okL hx h1 h2 h3 h4 h5 l f h.2.1, bc_okL hx h1 h2 h3 h4 h5 r f h.2.2, if_neg (hx.let_ne h.1), if_neg (Ne.symm h1), if_neg (Ne.symm h2)]
    show (if (63 : UInt8) = x then 1 else 0) + _ = (if (63 : UInt8) = x then 1 else 0) + _
    omega
  | .stop, f, h => by rw [txI, cnI, bc_cons, bc_nil]; rfl
  | .frame b l, f, h => by
    rw [OkI] at h
    have hc : cls b ≠ x := by cases b; exact Ne.symm h3; exact Ne.symm h4
    rw [txI, cnI, bc_cons, bc_append, bc_cons, bc_nil, bc_okL hx h1 h2 h3 h4 h5 l (f + 1) h.2, if_neg hc]
    rfl
  | .leave n, f, h => by rw [OkI] at h; rw [txI, cnI, bc_cons, bc_cons, bc_nil, if_neg (hx.2 n h.2)]; rfl
  | .set n, f, h => by rw [OkI] at h; rw [txI, cnI, bc_cons, bc_cons, bc_nil, if_neg (hx.2 n h)]; rfl
  | .pick bs, f, h => by rw [OkI] at h; rw [txI, cnI, bc_cons, bc_okB hx h1 h2 h3 h4 h5 bs f h.2.2]; rfl
theorem bc_okL {x : UInt8} (hx : Sgn x) (h1 : x ≠ 91) (h2 : x ≠ 93) (h3 : x ≠ 41) (h4 : x ≠ 125) (h5 : x ≠ 88) : ∀ (l : List It) (f : Nat), OkL l f → bc x (txL l) = cnL x l
  | [], f, _ => by rw [txL, cnL, bc_nil]
  | i :: l, f, h => by rw [OkL] at h; rw [txL, cnL, bc_append, bc_okI hx h1 h2 h3 h4 h5 i f h.1, bc_okL hx h1 h2 h3 h4 h5 l f h.2]
theorem bc_okB {x : UInt8} (hx : Sgn x) (h1 : x ≠ 91) (h2 : x ≠ 93) (h3 : x ≠ 41) (h4 : x ≠ 125) (h5 : x ≠ 88) : ∀ (bs : List (List It)) (f : Nat), OkB bs f → bc x (txB bs) = cnB x bs
  | [], f, _ => by rw [txB, cnB, bc_nil]
  | b :: bs, f, h => by rw [OkB] at h; rw [txB, cnB, bc_cons, bc_append, bc_cons, bc_okL hx h1 h2 h3 h4 h5 b f h.1, bc_okB hx h1 h2 h3 h4 h5 bs f h.2, if_neg (Ne.symm h1), if_neg (Ne.symm h2)]; omega
end

mutual
/-- A bracket begins as often as there are brackets, and ends as often. -/
theorem br_okI {x : UInt8} (hx : x = 91 ∨ x = 93) : ∀ (i : It) (f : Nat), OkI i f → bc x (txI i) = brI i
  | .blk c, f, h => by
    rw [OkI] at h
    have hs : Sgn x := by rcases hx with rfl | rfl; exact sgn_all.2.2.2.2.2.2.2.1; exact sgn_all.2.2.2.2.2.2.2.2.1
    rw [txI, brI, bc_cons, bc_nil, if_neg (hs.let_ne h)]
  | .ask c l r, f, h => by
    rw [OkI] at h
    have hs : Sgn x := by rcases hx with rfl | rfl; exact sgn_all.2.2.2.2.2.2.2.1; exact sgn_all.2.2.2.2.2.2.2.2.1
    rw [txI, brI, bc_cons, bc_cons, bc_cons, bc_append, bc_cons, bc_cons, bc_append, bc_cons, bc_nil, br_okL hx l f h.2.1, br_okL hx r f h.2.2, if_neg (hs.let_ne h.1)]
    rcases hx with rfl | rfl
    · rw [if_neg (by decide), if_pos rfl, if_neg (by decide)]; omega
    · rw [if_neg (by decide), if_neg (by decide), if_pos rfl]; omega
  | .stop, f, h => by rw [txI, brI, bc_cons, bc_nil]; rcases hx with rfl | rfl <;> rfl
  | .frame b l, f, h => by
    rw [OkI] at h
    have ho : opn b ≠ x := by rcases hx with rfl | rfl <;> cases b <;> exact fun e => no_eq e rfl
    have hc : cls b ≠ x := by rcases hx with rfl | rfl <;> cases b <;> exact fun e => no_eq e rfl
    rw [txI, brI, bc_cons, bc_append, bc_cons, bc_nil, br_okL hx l (f + 1) h.2, if_neg hc, if_neg ho]; omega
  | .leave n, f, h => by
    rw [OkI] at h
    have hs : Sgn x := by rcases hx with rfl | rfl; exact sgn_all.2.2.2.2.2.2.2.1; exact sgn_all.2.2.2.2.2.2.2.2.1
    rw [txI, brI, bc_cons, bc_cons, bc_nil, if_neg (hs.2 n h.2)]; rcases hx with rfl | rfl <;> rfl
  | .set n, f, h => by
    rw [OkI] at h
    have hs : Sgn x := by rcases hx with rfl | rfl; exact sgn_all.2.2.2.2.2.2.2.1; exact sgn_all.2.2.2.2.2.2.2.2.1
    rw [txI, brI, bc_cons, bc_cons, bc_nil, if_neg (hs.2 n h)]; rcases hx with rfl | rfl <;> rfl
  | .pick bs, f, h => by
    rw [OkI] at h
    rw [txI, brI, bc_cons, br_okB hx bs f h.2.2]
    rcases hx with rfl | rfl
    · rw [if_neg (by decide)]; omega
    · rw [if_neg (by decide)]; omega
theorem br_okL {x : UInt8} (hx : x = 91 ∨ x = 93) : ∀ (l : List It) (f : Nat), OkL l f → bc x (txL l) = brL l
  | [], f, _ => by rw [txL, brL, bc_nil]
  | i :: l, f, h => by rw [OkL] at h; rw [txL, brL, bc_append, br_okI hx i f h.1, br_okL hx l f h.2]
theorem br_okB {x : UInt8} (hx : x = 91 ∨ x = 93) : ∀ (bs : List (List It)) (f : Nat), OkB bs f → bc x (txB bs) = brB bs
  | [], f, _ => by rw [txB, brB, bc_nil]
  | b :: bs, f, h => by
    rw [OkB] at h
    rw [txB, brB, bc_cons, bc_append, bc_cons, br_okL hx b f h.1, br_okB hx bs f h.2]
    rcases hx with rfl | rfl
    · rw [if_pos rfl, if_neg (by decide)]; omega
    · rw [if_neg (by decide), if_pos rfl]; omega
end

/-- The length of an item by what it has. -/
def lnS (x q p c l d e n b : Nat) : Nat := x + 2 * q + 2 * p + 2 * c + 2 * l + d + 2 * e + n + 2 * b
mutual
theorem len_I : ∀ (i : It), (txI i).length = lnS (cnI 88 i) (cnI 63 i) (cnI 40 i) (cnI 123 i) (cnI 94 i) (cnI 46 i) (cnI 61 i) (cnI 35 i) (brI i)
  | .blk c => rfl
  | .ask c l r => by
    have h1 := len_L l
    have h2 := len_L r
    simp only [txI, cnI, brI, lnS, List.length_cons, List.length_append, List.length_nil] at *
    rw [k0 (i := .ask c l r) (x := 88) rfl, k1 (i := .ask c l r) (x := 63) rfl, k0 (i := .ask c l r) (x := 40) rfl, k0 (i := .ask c l r) (x := 123) rfl, k0 (i := .ask c l r) (x := 94) rfl, k0 (i := .ask c l r) (x := 46) rfl, k0 (i := .ask c l r) (x := 61) rfl, k0 (i := .ask c l r) (x := 35) rfl]
    omega
  | .stop => rfl
  | .frame b l => by
    have h1 := len_L l
    cases b
    · simp only [txI, cnI, brI, lnS, List.length_cons, List.length_append, List.length_nil] at *
      rw [k0 (i := .frame false l) (x := 88) rfl, k0 (i := .frame false l) (x := 63) rfl, k1 (i := .frame false l) (x := 40) rfl, k0 (i := .frame false l) (x := 123) rfl, k0 (i := .frame false l) (x := 94) rfl, k0 (i := .frame false l) (x := 46) rfl, k0 (i := .frame false l) (x := 61) rfl, k0 (i := .frame false l) (x := 35) rfl]
      omega
    · simp only [txI, cnI, brI, lnS, List.length_cons, List.length_append, List.length_nil] at *
      rw [k0 (i := .frame true l) (x := 88) rfl, k0 (i := .frame true l) (x := 63) rfl, k0 (i := .frame true l) (x := 40) rfl, k1 (i := .frame true l) (x := 123) rfl, k0 (i := .frame true l) (x := 94) rfl, k0 (i := .frame true l) (x := 46) rfl, k0 (i := .frame true l) (x := 61) rfl, k0 (i := .frame true l) (x := 35) rfl]
      omega
  | .leave n => rfl
  | .set n => rfl
  | .pick bs => by
    have h1 := len_B bs
    simp only [txI, cnI, brI, lnS, List.length_cons] at *
    rw [k0 (i := .pick bs) (x := 88) rfl, k0 (i := .pick bs) (x := 63) rfl, k0 (i := .pick bs) (x := 40) rfl, k0 (i := .pick bs) (x := 123) rfl, k0 (i := .pick bs) (x := 94) rfl, k0 (i := .pick bs) (x := 46) rfl, k0 (i := .pick bs) (x := 61) rfl, k1 (i := .pick bs) (x := 35) rfl]
    omega
theorem len_L : ∀ (l : List It), (txL l).length = lnS (cnL 88 l) (cnL 63 l) (cnL 40 l) (cnL 123 l) (cnL 94 l) (cnL 46 l) (cnL 61 l) (cnL 35 l) (brL l)
  | [] => rfl
  | i :: l => by
    have h1 := len_I i
    have h2 := len_L l
    simp only [txL, cnL, brL, lnS, List.length_append] at *
    omega
theorem len_B : ∀ (bs : List (List It)), (txB bs).length = lnS (cnB 88 bs) (cnB 63 bs) (cnB 40 bs) (cnB 123 bs) (cnB 94 bs) (cnB 46 bs) (cnB 61 bs) (cnB 35 bs) (brB bs)
  | [] => rfl
  | b :: bs => by
    have h1 := len_L b
    have h2 := len_B bs
    simp only [txB, cnB, brB, lnS, List.length_append, List.length_cons] at *
    omega
end

mutual
/-- As many blocks as there are items with one. -/
theorem bl_lenI : ∀ (i : It), (blI i).length = cnI 88 i + cnI 63 i
  | .blk c => rfl
  | .ask c l r => by
    have h1 := bl_lenL l
    have h2 := bl_lenL r
    simp only [blI, cnI, List.length_cons, List.length_append] at *
    rw [k0 (i := .ask c l r) (x := 88) rfl, k1 (i := .ask c l r) (x := 63) rfl]
    omega
  | .stop => rfl
  | .frame b l => by
    have h1 := bl_lenL l
    cases b
    · simp only [blI, cnI] at *; rw [k0 (i := .frame false l) (x := 88) rfl, k0 (i := .frame false l) (x := 63) rfl]; omega
    · simp only [blI, cnI] at *; rw [k0 (i := .frame true l) (x := 88) rfl, k0 (i := .frame true l) (x := 63) rfl]; omega
  | .leave n => rfl
  | .set n => rfl
  | .pick bs => by
    have h1 := bl_lenB bs
    simp only [blI, cnI] at *
    rw [k0 (i := .pick bs) (x := 88) rfl, k0 (i := .pick bs) (x := 63) rfl]
    omega
theorem bl_lenL : ∀ (l : List It), (blL l).length = cnL 88 l + cnL 63 l
  | [] => rfl
  | i :: l => by have h1 := bl_lenI i; have h2 := bl_lenL l; simp only [blL, cnL, List.length_append] at *; omega
theorem bl_lenB : ∀ (bs : List (List It)), (blB bs).length = cnB 88 bs + cnB 63 bs
  | [] => rfl
  | b :: bs => by have h1 := bl_lenL b; have h2 := bl_lenB bs; simp only [blB, cnB, List.length_append] at *; omega
end

mutual
/-- Two brackets for each choice of two, and one or more for each by the number. -/
theorem br_mostI : ∀ (i : It) (f : Nat), OkI i f → 2 * cnI 63 i + cnI 35 i ≤ brI i
  | .blk c, f, _ => Nat.zero_le _
  | .ask c l r, f, h => by
    rw [OkI] at h
    have h1 := br_mostL l f h.2.1
    have h2 := br_mostL r f h.2.2
    simp only [cnI, brI]
    rw [k1 (i := .ask c l r) (x := 63) rfl, k0 (i := .ask c l r) (x := 35) rfl]
    omega
  | .stop, f, _ => Nat.zero_le _
  | .frame b l, f, h => by
    rw [OkI] at h
    have h1 := br_mostL l (f + 1) h.2
    cases b
    · simp only [cnI, brI]; rw [k0 (i := .frame false l) (x := 63) rfl, k0 (i := .frame false l) (x := 35) rfl]; omega
    · simp only [cnI, brI]; rw [k0 (i := .frame true l) (x := 63) rfl, k0 (i := .frame true l) (x := 35) rfl]; omega
  | .leave n, f, _ => Nat.zero_le _
  | .set n, f, _ => Nat.zero_le _
  | .pick bs, f, h => by
    rw [OkI] at h
    have h1 := br_mostB bs f h.2.2
    simp only [cnI, brI]
    rw [k0 (i := .pick bs) (x := 63) rfl, k1 (i := .pick bs) (x := 35) rfl]
    omega
theorem br_mostL : ∀ (l : List It) (f : Nat), OkL l f → 2 * cnL 63 l + cnL 35 l ≤ brL l
  | [], f, _ => Nat.le_refl _
  | i :: l, f, h => by rw [OkL] at h; have h1 := br_mostI i f h.1; have h2 := br_mostL l f h.2; simp only [cnL, brL]; omega
theorem br_mostB : ∀ (bs : List (List It)) (f : Nat), OkB bs f → 2 * cnB 63 bs + cnB 35 bs + bs.length ≤ brB bs
  | [], f, _ => Nat.le_refl _
  | b :: bs, f, h => by rw [OkB] at h; have h1 := br_mostL b f h.1; have h2 := br_mostB bs f h.2; simp only [cnB, brB, List.length_cons]; omega
end

mutual
/-- Blocks are letters. -/
theorem bl_letI : ∀ (i : It) (f : Nat), OkI i f → ∀ c ∈ blI i, letB c = true
  | .blk c, f, h => by rw [OkI] at h; intro x hx; rw [blI] at hx; rw [List.mem_singleton.1 hx]; exact h
  | .ask c l r, f, h => by
    rw [OkI] at h
    intro x hx
    rw [blI, List.mem_cons, List.mem_append] at hx
    rcases hx with hx | hx | hx
    · rw [hx]; exact h.1
    · exact bl_letL l f h.2.1 x hx
    · exact bl_letL r f h.2.2 x hx
  | .stop, f, h => by intro x hx; rw [blI] at hx; cases hx
  | .frame b l, f, h => by rw [OkI] at h; intro x hx; rw [blI] at hx; exact bl_letL l (f + 1) h.2 x hx
  | .leave n, f, h => by intro x hx; rw [blI] at hx; cases hx
  | .set n, f, h => by intro x hx; rw [blI] at hx; cases hx
  | .pick bs, f, h => by rw [OkI] at h; intro x hx; rw [blI] at hx; exact bl_letB bs f h.2.2 x hx
theorem bl_letL : ∀ (l : List It) (f : Nat), OkL l f → ∀ c ∈ blL l, letB c = true
  | [], f, _ => by intro x hx; rw [blL] at hx; cases hx
  | i :: l, f, h => by
    rw [OkL] at h; intro x hx; rw [blL, List.mem_append] at hx
    exact hx.elim (bl_letI i f h.1 x) (bl_letL l f h.2 x)
theorem bl_letB : ∀ (bs : List (List It)) (f : Nat), OkB bs f → ∀ c ∈ blB bs, letB c = true
  | [], f, _ => by intro x hx; rw [blB] at hx; cases hx
  | b :: bs, f, h => by
    rw [OkB] at h; intro x hx; rw [blB, List.mem_append] at hx
    exact hx.elim (bl_letL b f h.1 x) (bl_letB bs f h.2 x)
end

/-- How many frames have begun, and how many at most, byte by byte. -/
def scn (p : Int × Int) (c : UInt8) : Int × Int :=
  if c = 40 ∨ c = 123 then (p.1 + 1, max p.2 (p.1 + 1)) else if c = 41 ∨ c = 125 then (p.1 - 1, p.2) else p
def scU (o d : Int) (k : Nat) : Int := if k = 0 then d else max d (o + k)
theorem scU_max (o d : Int) (a b : Nat) : scU o (scU o d a) b = scU o d (max a b) := by
  unfold scU
  by_cases ha : a = 0
  · by_cases hb : b = 0
    · subst ha hb; simp
    · subst ha; rw [if_neg hb, if_pos rfl, if_neg (by omega)]; congr 2
  · by_cases hb : b = 0
    · subst hb; rw [if_pos rfl, if_neg ha, if_neg (by omega)]; congr 2; simp
    · rw [if_neg ha, if_neg hb, if_neg (by omega)]; omega
theorem scn_other {p : Int × Int} {c : UInt8} (h : c ≠ 40 ∧ c ≠ 123 ∧ c ≠ 41 ∧ c ≠ 125) : scn p c = p := by
  unfold scn; rw [if_neg (fun e => e.elim h.1 h.2.1), if_neg (fun e => e.elim h.2.2.1 h.2.2.2)]
theorem scn_let {p : Int × Int} {c : UInt8} (h : letB c = true) : scn p c = p :=
  scn_other ⟨sgn_all.2.1.let_ne h, sgn_all.2.2.1.let_ne h, sgn_all.2.2.2.2.2.2.2.2.2.1.let_ne h, sgn_all.2.2.2.2.2.2.2.2.2.2.let_ne h⟩
theorem scn_dig {p : Int × Int} {n : Nat} (h : n < 10) : scn p (dig n) = p :=
  scn_other ⟨sgn_all.2.1.2 n h, sgn_all.2.2.1.2 n h, sgn_all.2.2.2.2.2.2.2.2.2.1.2 n h, sgn_all.2.2.2.2.2.2.2.2.2.2.2 n h⟩
theorem scn_opn (b : Bool) (o d : Int) : scn (o, d) (opn b) = (o + 1, max d (o + 1)) := by cases b <;> rfl
theorem scn_cls (b : Bool) (o d : Int) : scn (o, d) (cls b) = (o - 1, d) := by cases b <;> rfl

mutual
theorem scanI : ∀ (i : It) (f : Nat) (o d : Int), OkI i f → (txI i).foldl scn (o, d) = (o, scU o d (dpI i))
  | .blk c, f, o, d, h => by rw [OkI] at h; rw [txI, dpI, List.foldl_cons, scn_let h]; rfl
  | .ask c l r, f, o, d, h => by
    rw [OkI] at h
    rw [txI, dpI, List.foldl_cons, List.foldl_cons, List.foldl_cons, scn_other (by decide), scn_let h.1, scn_other (by decide), List.foldl_append, scanL l f o d h.2.1,
      List.foldl_cons, List.foldl_cons, scn_other (by decide), scn_other (by decide), List.foldl_append, scanL r f o _ h.2.2, List.foldl_cons, scn_other (by decide), scU_max]
    rfl
  | .stop, f, o, d, h => by rw [txI, dpI, List.foldl_cons, scn_other (by decide)]; rfl
  | .frame b l, f, o, d, h => by
    rw [OkI] at h
    rw [txI, dpI, List.foldl_cons, scn_opn, List.foldl_append, scanL l (f + 1) _ _ h.2, List.foldl_cons, scn_cls, List.foldl_nil]
    refine Prod.ext (by show o + 1 - 1 = o; omega) ?_
    show scU (o + 1) (max d (o + 1)) (dpL l) = scU o d (dpL l + 1)
    unfold scU
    rw [if_neg (by omega : ¬ dpL l + 1 = 0)]
    by_cases h0 : dpL l = 0
    · rw [if_pos h0, h0]; simp
    · rw [if_neg h0]; omega
  | .leave n, f, o, d, h => by rw [OkI] at h; rw [txI, dpI, List.foldl_cons, List.foldl_cons, scn_other (c := 94) (by decide), scn_dig h.2]; rfl
  | .set n, f, o, d, h => by rw [OkI] at h; rw [txI, dpI, List.foldl_cons, List.foldl_cons, scn_other (c := 61) (by decide), scn_dig h]; rfl
  | .pick bs, f, o, d, h => by rw [OkI] at h; rw [txI, dpI, List.foldl_cons, scn_other (by decide), scanB bs f o d h.2.2]
theorem scanL : ∀ (l : List It) (f : Nat) (o d : Int), OkL l f → (txL l).foldl scn (o, d) = (o, scU o d (dpL l))
  | [], f, o, d, _ => rfl
  | i :: l, f, o, d, h => by rw [OkL] at h; rw [txL, dpL, List.foldl_append, scanI i f o d h.1, scanL l f o _ h.2, scU_max]
theorem scanB : ∀ (bs : List (List It)) (f : Nat) (o d : Int), OkB bs f → (txB bs).foldl scn (o, d) = (o, scU o d (dpB bs))
  | [], f, o, d, _ => rfl
  | b :: bs, f, o, d, h => by
    rw [OkB] at h
    rw [txB, dpB, List.foldl_cons, scn_other (by decide), List.foldl_append, scanL b f o d h.1, List.foldl_cons, scn_other (by decide), scanB bs f o _ h.2, scU_max]
end
theorem scan_all {l : List It} {f : Nat} (h : OkL l f) : (txL l).foldl scn (0, 0) = (0, (dpL l : Int)) := by
  rw [scanL l f 0 0 h]
  refine Prod.ext rfl ?_
  show scU 0 0 (dpL l) = _
  unfold scU
  by_cases h0 : dpL l = 0
  · rw [if_pos h0, h0]; rfl
  · rw [if_neg h0]; omega
end Go.Proofs.Ytelhogeaobofpaa
