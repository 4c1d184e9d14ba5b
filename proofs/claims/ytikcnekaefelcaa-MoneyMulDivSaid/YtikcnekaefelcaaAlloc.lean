/-
  Plain mathematics of an allocation: the shares, that they add up, and how they are ordered. No program text.
-/
import Derived.Test.YtikcnekaefelcaaRank
namespace Go.Proofs.Ytikcnekaefelcaa.alloc
open Go.Proofs.Ytikcnekaefelcaa.rank

def base (a S w : Int) : Int := a * w / S
def rest (a S w : Int) : Int := a * w % S
def tot (l : List Int) : Int := l.foldr (· + ·) 0
/-- the cents that are left once every share is rounded down -/
def left (a S : Int) (ws : List Int) : Int := a - tot (ws.map (base a S))
def rests (a S : Int) (ws : List Int) : List Int := ws.map (rest a S)
def bonus (a S : Int) (ws : List Int) (i : Nat) : Int := if (rank (rests a S ws) i : Int) < left a S ws then 1 else 0
def shareAt (a S : Int) (ws : List Int) (i : Nat) : Int := base a S (ws.getD i 0) + bonus a S ws i
def shares (a S : Int) (ws : List Int) : List Int := (List.range ws.length).map (shareAt a S ws)

theorem tot_cons (x : Int) (l : List Int) : tot (x :: l) = x + tot l := rfl
theorem tot_app (l m : List Int) : tot (l ++ m) = tot l + tot m := by
  induction l with
  | nil => simp [tot]
  | cons x l ih => rw [List.cons_append, tot_cons, tot_cons, ih]; omega
theorem tot_nonneg {l : List Int} (h : ∀ x ∈ l, 0 ≤ x) : 0 ≤ tot l := by
  induction l with
  | nil => simp [tot]
  | cons x l ih =>
    rw [tot_cons]
    have := ih (fun y hy => h y (List.mem_cons_of_mem _ hy))
    have := h x (List.mem_cons_self ..)
    omega
theorem parts (a S w : Int) : a * w = S * base a S w + rest a S w := by
  unfold base rest; exact (Int.mul_ediv_add_emod (a * w) S).symm
theorem tot_parts (a S : Int) (ws : List Int) : a * tot ws = S * tot (ws.map (base a S)) + tot (rests a S ws) := by
  unfold rests
  induction ws with
  | nil => simp [tot]
  | cons w ws ih =>
    rw [List.map_cons, List.map_cons, tot_cons, tot_cons, tot_cons, Int.mul_add, Int.mul_add, ih, parts a S w]; omega
theorem rest_bounds (a : Int) {S : Int} (hS : 0 < S) (w : Int) : 0 ≤ rest a S w ∧ rest a S w < S :=
  ⟨Int.emod_nonneg _ (by omega), Int.emod_lt_of_pos _ hS⟩
theorem tot_rests_le (a : Int) {S : Int} (hS : 0 < S) (ws : List Int) : 0 ≤ tot (rests a S ws) ∧ tot (rests a S ws) ≤ ws.length * (S - 1) := by
  unfold rests
  induction ws with
  | nil => simp [tot]
  | cons w ws ih =>
    have := rest_bounds a hS w
    rw [List.map_cons, tot_cons, List.length_cons]
    have e : ((ws.length + 1 : Nat) : Int) * (S - 1) = ws.length * (S - 1) + (S - 1) := by
      rw [Int.natCast_add, Int.add_mul]; simp
    omega
/-- what is left makes up the rests -/
theorem left_rests {a S : Int} {ws : List Int} (hS : tot ws = S) : S * left a S ws = tot (rests a S ws) := by
  have := tot_parts a S ws
  rw [hS] at this
  unfold left
  rw [Int.mul_sub, Int.mul_comm S a]; omega
theorem left_nonneg {a S : Int} {ws : List Int} (hS : tot ws = S) (h0 : 0 < S) : 0 ≤ left a S ws := by
  have h1 := left_rests (a := a) hS
  have h2 := (tot_rests_le a h0 ws).1
  rcases Int.lt_or_le (left a S ws) 0 with h | h
  · have := Int.mul_neg_of_pos_of_neg h0 h; omega
  · exact h
theorem left_lt {a S : Int} {ws : List Int} (hS : tot ws = S) (h0 : 0 < S) : left a S ws ≤ ws.length := by
  have h1 := left_rests (a := a) hS
  have h2 := (tot_rests_le a h0 ws).2
  rcases Int.lt_or_le (ws.length : Int) (left a S ws) with h | h
  · have h3 : (ws.length : Int) * S ≤ left a S ws * S := Int.mul_le_mul_of_nonneg_right (by omega) (by omega)
    have h4 : (ws.length : Int) * (S - 1) = ws.length * S - ws.length := by rw [Int.mul_sub]; simp
    rw [Int.mul_comm] at h1
    have h5 : left a S ws * S = (left a S ws - ws.length) * S + ws.length * S := by rw [Int.sub_mul]; omega
    have h6 : 0 < (left a S ws - ws.length) * S := Int.mul_pos (by omega) h0
    omega
  · exact h

theorem tot_map_add (f g : Nat → Int) (l : List Nat) : tot (l.map fun i => f i + g i) = tot (l.map f) + tot (l.map g) := by
  induction l with
  | nil => simp [tot]
  | cons x l ih => rw [List.map_cons, List.map_cons, List.map_cons, tot_cons, tot_cons, tot_cons, ih]; omega
theorem tot_count (p : Nat → Bool) (l : List Nat) : tot (l.map fun i => if p i then 1 else 0) = ((l.filter p).length : Int) := by
  induction l with
  | nil => simp [tot]
  | cons x l ih =>
    rw [List.map_cons, tot_cons, ih, List.filter_cons]
    cases p x <;> simp <;> omega
theorem map_getD (f : Int → Int) (ws : List Int) : (List.range ws.length).map (fun i => f (ws.getD i 0)) = ws.map f := by
  apply List.ext_getElem
  · simp
  · intro i h1 h2
    simp at h1
    simp [List.getD, h1]
/-- THE SHARES ADD UP. -/
theorem shares_tot {a S : Int} {ws : List Int} (hS : tot ws = S) (h0 : 0 < S) : tot (shares a S ws) = a := by
  unfold shares
  have e : (List.range ws.length).map (shareAt a S ws) = (List.range ws.length).map (fun i => base a S (ws.getD i 0) + bonus a S ws i) := rfl
  rw [e, tot_map_add, map_getD (base a S)]
  have hl : 0 ≤ left a S ws := left_nonneg hS h0
  obtain ⟨L, hL⟩ : ∃ L : Nat, left a S ws = L := ⟨(left a S ws).toNat, by omega⟩
  have e2 : bonus a S ws = fun i => if decide (rank (rests a S ws) i < L) then (1 : Int) else 0 := by
    funext i; unfold bonus; rw [hL]
    by_cases h : rank (rests a S ws) i < L
    · rw [if_pos (by omega), if_pos (by simpa using h)]
    · rw [if_neg (by omega), if_neg (by simpa using h)]
  rw [e2, tot_count (fun i => decide (rank (rests a S ws) i < L))]
  have hlen : (rests a S ws).length = ws.length := by simp [rests]
  rw [← hlen, count_before, hlen]
  have := left_lt (a := a) hS h0
  have : left a S ws = a - tot (ws.map (base a S)) := rfl
  omega

/-! ### the order of the shares -/
theorem rests_getD {a S : Int} {ws : List Int} {i : Nat} (hi : i < ws.length) : (rests a S ws).getD i 0 = rest a S (ws.getD i 0) := by
  unfold rests; simp [List.getD, hi]
theorem bonus_01 (a S : Int) (ws : List Int) (i : Nat) : 0 ≤ bonus a S ws i ∧ bonus a S ws i ≤ 1 := by
  unfold bonus; split <;> omega
theorem bonus_better {a S : Int} {ws : List Int} {k i : Nat} (hk : k < ws.length) (h : better (rests a S ws) k i = true) : bonus a S ws i ≤ bonus a S ws k := by
  have := rank_mono (r := rests a S ws) (by simpa [rests] using hk) h
  unfold bonus
  by_cases h2 : (rank (rests a S ws) i : Int) < left a S ws
  · rw [if_pos h2, if_pos (by omega)]; omega
  · rw [if_neg h2]; split <;> omega
theorem base_mono {a S x y : Int} (ha : 0 ≤ a) (hS : 0 < S) (h : x ≤ y) : base a S x ≤ base a S y :=
  Int.ediv_le_ediv hS (Int.mul_le_mul_of_nonneg_left h ha)
/-- a weight that is not less, at an earlier place if it is equal, gets not less -/
theorem share_mono {a S : Int} {ws : List Int} {k i : Nat} (ha : 0 ≤ a) (hS : 0 < S) (hk : k < ws.length) (hi : i < ws.length) (h : ws.getD i 0 < ws.getD k 0 ∨ (ws.getD i 0 = ws.getD k 0 ∧ k < i)) :
    shareAt a S ws i ≤ shareAt a S ws k := by
  unfold shareAt
  have b1 := bonus_01 a S ws i
  have b2 := bonus_01 a S ws k
  rcases h with h | ⟨h, hki⟩
  · have hm := base_mono ha hS (Int.le_of_lt h)
    rcases Int.lt_or_le (base a S (ws.getD i 0)) (base a S (ws.getD k 0)) with g | g
    · omega
    · have e : base a S (ws.getD i 0) = base a S (ws.getD k 0) := by omega
      have p1 := parts a S (ws.getD i 0)
      have p2 := parts a S (ws.getD k 0)
      have p3 : a * ws.getD i 0 ≤ a * ws.getD k 0 := Int.mul_le_mul_of_nonneg_left (Int.le_of_lt h) ha
      rw [e] at p1
      rcases Int.lt_or_le (rest a S (ws.getD i 0)) (rest a S (ws.getD k 0)) with q | q
      · have := bonus_better (a := a) (S := S) (ws := ws) (k := k) (i := i) hk ((better_iff _ _ _).2 (.inl (by rw [rests_getD hk, rests_getD hi]; exact q)))
        omega
      · have e2 : a * ws.getD i 0 = a * ws.getD k 0 := by omega
        have ha0 : a = 0 := by
          rcases Int.lt_or_le 0 a with g2 | g2
          · have := Int.mul_lt_mul_of_pos_left h g2; omega
          · omega
        subst ha0
        have z : ∀ w, rest 0 S w = 0 := fun w => by unfold rest; simp
        have z2 : ∀ w, base 0 S w = 0 := fun w => by unfold base; simp
        have hl : left 0 S ws = 0 := by
          unfold left
          have : ∀ l : List Int, tot (l.map (base 0 S)) = 0 := by
            intro l; induction l with
            | nil => rfl
            | cons x l ih => rw [List.map_cons, tot_cons, ih, z2]; rfl
          rw [this]; rfl
        have n1 : bonus 0 S ws i = 0 := by unfold bonus; rw [hl, if_neg (by omega)]
        omega
  · rw [h]
    have := bonus_better (a := a) (S := S) (ws := ws) (k := k) (i := i) hk ((better_iff _ _ _).2 (.inr ⟨by rw [rests_getD hk, rests_getD hi, h], hki⟩))
    omega
theorem share_near {a S : Int} {ws : List Int} {k i : Nat} (h : ws.getD i 0 = ws.getD k 0) : shareAt a S ws k ≤ shareAt a S ws i + 1 := by
  unfold shareAt
  have b1 := bonus_01 a S ws i
  have b2 := bonus_01 a S ws k
  rw [h]; omega

/-! ### weights of zero -/
theorem tot_le_count (f : Nat → Int) (m : Int) (l : List Nat) (h : ∀ i ∈ l, f i ≤ m) : tot (l.map f) ≤ ((l.filter fun i => decide (0 < f i)).length : Int) * m := by
  induction l with
  | nil => simp [tot]
  | cons x l ih =>
    have i1 := ih (fun i hi => h i (List.mem_cons_of_mem _ hi))
    have i2 := h x (List.mem_cons_self ..)
    rw [List.map_cons, tot_cons, List.filter_cons]
    by_cases g : 0 < f x
    · rw [if_pos (by simpa using g), List.length_cons, Int.natCast_add, Int.add_mul]; simp; omega
    · rw [if_neg (by simpa using g)]; omega
theorem filter_le {α : Type} {l : List α} {p q : α → Bool} (h : ∀ x ∈ l, p x = true → q x = true) : (l.filter p).length ≤ (l.filter q).length := by
  induction l with
  | nil => simp
  | cons z l ih =>
    have := ih (fun x hx => h x (List.mem_cons_of_mem _ hx))
    have hzz := h z (List.mem_cons_self ..)
    rw [List.filter_cons, List.filter_cons]
    cases hp : p z
    · cases hq : q z <;> simp <;> omega
    · rw [hzz hp]; simp; omega
theorem rests_map (a S : Int) (ws : List Int) : (List.range ws.length).map (fun i => (rests a S ws).getD i 0) = rests a S ws := by
  have h := map_getD (fun x => x) (rests a S ws)
  rw [show (rests a S ws).length = ws.length by simp [rests]] at h
  rw [h]; simp
theorem share_zero {a S : Int} {ws : List Int} (hS : tot ws = S) (h0 : 0 < S) {i : Nat} (hi : i < ws.length) (hw : ws.getD i 0 = 0) : shareAt a S ws i = 0 := by
  have hr : rest a S 0 = 0 := by unfold rest; simp
  have hb : base a S 0 = 0 := by unfold base; simp
  have hri : (rests a S ws).getD i 0 = 0 := by rw [rests_getD hi, hw, hr]
  unfold shareAt
  rw [hw, hb]
  unfold bonus
  by_cases h : (rank (rests a S ws) i : Int) < left a S ws
  · exfalso
    have hlen : (rests a S ws).length = ws.length := by simp [rests]
    have hc : ((List.range ws.length).filter fun j => decide (0 < (rests a S ws).getD j 0)).length ≤ rank (rests a S ws) i := by
      unfold rank
      rw [hlen]
      refine filter_le (fun j _ hj => ?_)
      rw [better_iff, hri]
      exact .inl (by simpa using hj)
    have hle := tot_le_count (fun j => (rests a S ws).getD j 0) (S - 1) (List.range ws.length) (fun j hj => by
      have hj := List.mem_range.1 hj
      show (rests a S ws).getD j 0 ≤ S - 1
      rw [rests_getD hj]
      have := rest_bounds a h0 (ws.getD j 0); omega)
    rw [rests_map, ← left_rests (a := a) hS] at hle
    obtain ⟨c, hcc⟩ : ∃ c, ((List.range ws.length).filter fun j => decide (0 < (rests a S ws).getD j 0)).length = c := ⟨_, rfl⟩
    rw [hcc] at hc hle
    have h1 : (c : Int) * (S - 1) ≤ (left a S ws - 1) * (S - 1) := Int.mul_le_mul_of_nonneg_right (by omega) (by omega)
    have h2 : (left a S ws - 1) * (S - 1) = S * left a S ws - left a S ws - (S - 1) := by
      rw [Int.sub_mul, Int.mul_sub, Int.mul_comm (left a S ws) S]; simp
    omega
  · rw [if_neg h]; rfl
theorem base_nonneg {a S w : Int} (ha : 0 ≤ a) (hS : 0 < S) (hw : 0 ≤ w) : 0 ≤ base a S w := Int.ediv_nonneg (Int.mul_nonneg ha hw) (by omega)
theorem share_nonneg {a S : Int} {ws : List Int} (ha : 0 ≤ a) (hS : 0 < S) (h : ∀ w ∈ ws, 0 ≤ w) {i : Nat} (hi : i < ws.length) : 0 ≤ shareAt a S ws i := by
  unfold shareAt
  have h1 := bonus_01 a S ws i
  have h2 : 0 ≤ ws.getD i 0 := by
    have : ws.getD i 0 = ws[i] := by simp [List.getD, hi]
    rw [this]; exact h _ (List.getElem_mem _)
  have := base_nonneg ha hS h2
  omega
theorem mem_le_tot {l : List Int} (h : ∀ x ∈ l, 0 ≤ x) {x : Int} (hx : x ∈ l) : x ≤ tot l := by
  induction l with
  | nil => cases hx
  | cons y l ih =>
    rw [tot_cons]
    have h1 := tot_nonneg (fun z hz => h z (List.mem_cons_of_mem _ hz))
    have h2 := h y (List.mem_cons_self ..)
    rcases List.mem_cons.1 hx with rfl | hx
    · omega
    · have := ih (fun z hz => h z (List.mem_cons_of_mem _ hz)) hx; omega
theorem share_le {a S : Int} {ws : List Int} (hS : tot ws = S) (ha : 0 ≤ a) (h0 : 0 < S) (h : ∀ w ∈ ws, 0 ≤ w) {i : Nat} (hi : i < ws.length) : shareAt a S ws i ≤ a := by
  have := mem_le_tot (l := shares a S ws) (fun x hx => by
    obtain ⟨j, hj, rfl⟩ := List.mem_map.1 hx
    exact share_nonneg ha h0 h (List.mem_range.1 hj)) (List.mem_map.2 ⟨i, List.mem_range.2 hi, rfl⟩)
  rw [shares_tot hS h0] at this; exact this
end Go.Proofs.Ytikcnekaefelcaa.alloc
