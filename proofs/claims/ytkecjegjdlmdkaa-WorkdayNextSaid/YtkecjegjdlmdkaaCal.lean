/-
  Plain mathematics of the calendar of chapter 4: leap years, months, dates from 1900 to 2199. No program text.
-/
import Derived.Lib.Hide
namespace Go.Proofs.Ytkecjegjdlmdkaa.cal
set_option linter.unusedVariables false

def leap (y : Int) : Bool := (y.tmod 4 == 0) && ((y.tmod 100 != 0) || (y.tmod 400 == 0))
def dim (y m : Int) : Int :=
  if m = 2 then (if leap y then 29 else 28) else if m = 4 ∨ m = 6 ∨ m = 9 ∨ m = 11 then 30 else if m = 1 ∨ m = 3 ∨ m = 5 ∨ m = 7 ∨ m = 8 ∨ m = 10 ∨ m = 12 then 31 else 0
def diy (y : Int) : Int := if leap y then 366 else 365
/-- the days of the first k years from 1900 on -/
def dby : Nat → Int
  | 0 => 0
  | k + 1 => dby k + diy (1900 + k)
/-- the days of the first j months of a year -/
def cum (y : Int) : Nat → Int
  | 0 => 0
  | j + 1 => cum y j + dim y (j + 1)
def okD (n : Int) : Bool := decide (0 ≤ n) && decide (n ≤ 109572)
def fromR (y m d : Int) : Int × Int :=
  if y < 1900 ∨ 2199 < y ∨ d < 1 ∨ dim y m < d then (0, 3) else (dby (y - 1900).toNat + cum y (m - 1).toNat + (d - 1), 0)
def yrs (n : Int) : Nat → Nat
  | 0 => 0
  | f + 1 => if dby (f + 1) ≤ n then f + 1 else yrs n f
def mon (y r : Int) : Nat → Nat
  | 0 => 0
  | f + 1 => if cum y (f + 1) ≤ r then f + 1 else mon y r f
def kOf (n : Int) : Nat := yrs n 299
def jOf (n : Int) : Nat := mon (1900 + kOf n) (n - dby (kOf n)) 11
def dOf (n : Int) : Int := n - dby (kOf n) - cum (1900 + kOf n) (jOf n) + 1
def toR (n : Int) : Int × Int × Int := if okD n then (1900 + kOf n, jOf n + 1, dOf n) else (0, 0, 0)
def wkR (n : Int) : Int := if okD n then n % 7 else -1
def addR (a n : Int) : Int × Int :=
  if okD a && (decide (-3600 ≤ n) && decide (n ≤ 3600)) then
    (let k := 12 * (1900 + (kOf a : Int)) + jOf a + n; fromR (k / 12) (k % 12 + 1) (min (dOf a) (dim (k / 12) (k % 12 + 1))))
  else (0, 3)
/-- may one more year be added -/
def more (a b : Int) (n : Nat) : Bool := decide ((addR a (12 * ((n : Int) + 1))).2 = 0) && decide ((addR a (12 * ((n : Int) + 1))).1 ≤ b)
def ybF (a b : Int) : Nat → Nat → Nat
  | 0, n => n
  | f + 1, n => if more a b n then ybF a b f (n + 1) else n
def ybR (a b : Int) : Int := if okD a && okD b then (ybF a b 301 0 : Nat) else 0

theorem okD_iff (n : Int) : okD n = true ↔ 0 ≤ n ∧ n ≤ 109572 := by simp [okD]
theorem diy_bd (y : Int) : 365 ≤ diy y ∧ diy y ≤ 366 := by unfold diy; split <;> omega
theorem dim_bd (y m : Int) : 0 ≤ dim y m ∧ dim y m ≤ 31 := by unfold dim; (repeat' split) <;> omega
theorem dim_pos {y m : Int} (h0 : 1 ≤ m) (h1 : m ≤ 12) : 28 ≤ dim y m := by unfold dim; (repeat' split) <;> omega
theorem dim_out {y m : Int} (h : 1 ≤ dim y m) : 1 ≤ m ∧ m ≤ 12 := by
  unfold dim at h
  split at h
  · omega
  · split at h
    · omega
    · split at h
      · omega
      · omega
theorem dby_step (k : Nat) : dby (k + 1) = dby k + diy (1900 + k) := rfl
theorem cum_step (y : Int) (j : Nat) : cum y (j + 1) = cum y j + dim y (j + 1) := rfl
theorem dby_le : ∀ {a b : Nat}, a ≤ b → dby a + 365 * ((b : Int) - a) ≤ dby b
  | a, b, h => by
    induction b with
    | zero => obtain rfl : a = 0 := by omega
              simp
    | succ b ih =>
      by_cases e : a = b + 1
      · subst e; simp
      · have := ih (by omega)
        have := diy_bd (1900 + b)
        rw [dby_step]; omega
theorem dby_nonneg (k : Nat) : 365 * (k : Int) ≤ dby k := by have := dby_le (Nat.zero_le k); simp [dby] at this; omega
theorem dby_300 : dby 300 = 109573 := by decide +kernel
theorem cum_le (y : Int) : ∀ {a b : Nat}, a ≤ b → cum y a ≤ cum y b
  | a, b, h => by
    induction b with
    | zero => obtain rfl : a = 0 := by omega
              simp
    | succ b ih =>
      by_cases e : a = b + 1
      · subst e; simp
      · have := ih (by omega)
        have := dim_bd y (b + 1)
        rw [cum_step]; omega
theorem cum_12 (y : Int) : cum y 12 = diy y := by
  cases h : leap y <;> simp [cum, dim, diy, h]
theorem cum_nonneg (y : Int) (j : Nat) : 0 ≤ cum y j := by have := cum_le y (Nat.zero_le j); simpa [cum] using this

theorem yrs_spec (n : Int) (h0 : 0 ≤ n) : ∀ f, yrs n f ≤ f ∧ dby (yrs n f) ≤ n ∧ ∀ k, yrs n f < k → k ≤ f → n < dby k
  | 0 => ⟨Nat.le_refl _, by simpa [yrs, dby] using h0, fun k a b => by omega⟩
  | f + 1 => by
    unfold yrs
    by_cases h : dby (f + 1) ≤ n
    · rw [if_pos h]; exact ⟨Nat.le_refl _, h, fun k a b => by omega⟩
    · rw [if_neg h]
      obtain ⟨i1, i2, i3⟩ := yrs_spec n h0 f
      refine ⟨by omega, i2, fun k a b => ?_⟩
      by_cases e : k = f + 1
      · subst e; omega
      · exact i3 k a (by omega)
theorem mon_spec (y r : Int) (h0 : 0 ≤ r) : ∀ f, mon y r f ≤ f ∧ cum y (mon y r f) ≤ r ∧ ∀ k, mon y r f < k → k ≤ f → r < cum y k
  | 0 => ⟨Nat.le_refl _, by simpa [mon, cum] using h0, fun k a b => by omega⟩
  | f + 1 => by
    unfold mon
    by_cases h : cum y (f + 1) ≤ r
    · rw [if_pos h]; exact ⟨Nat.le_refl _, h, fun k a b => by omega⟩
    · rw [if_neg h]
      obtain ⟨i1, i2, i3⟩ := mon_spec y r h0 f
      refine ⟨by omega, i2, fun k a b => ?_⟩
      by_cases e : k = f + 1
      · subst e; omega
      · exact i3 k a (by omega)

/-- the date n is the day d of the month j (from 0) of the year k (from 1900) -/
structure Is (n : Int) (k j : Nat) (d : Int) : Prop where
  k1 : k < 300
  j1 : j < 12
  d0 : 1 ≤ d
  d1 : d ≤ dim (1900 + k) (j + 1)
  n1 : n = dby k + cum (1900 + k) j + (d - 1)
theorem Is.rest {n : Int} {k j : Nat} {d : Int} (h : Is n k j d) : 0 ≤ n - dby k ∧ n - dby k < diy (1900 + k) := by
  have h1 := cum_nonneg (1900 + k) j
  have h2 := cum_le (1900 + k) (show j + 1 ≤ 12 from h.j1)
  rw [cum_step, cum_12] at h2
  have := h.n1; have := h.d0; have := h.d1
  omega
theorem Is.ok {n : Int} {k j : Nat} {d : Int} (h : Is n k j d) : okD n = true := by
  rw [okD_iff]
  have h1 := h.rest
  have h2 := dby_nonneg k
  have h3 := dby_le (show k + 1 ≤ 300 from h.k1)
  rw [dby_300, dby_step] at h3
  have := h.k1
  omega
theorem Is.of (n : Int) (h : okD n = true) : Is n (kOf n) (jOf n) (dOf n) := by
  obtain ⟨h0, h1⟩ := (okD_iff n).1 h
  obtain ⟨a1, a2, a3⟩ := yrs_spec n h0 299
  have hk : n < dby (kOf n + 1) := by
    by_cases e : kOf n = 299
    · rw [e, dby_300]; omega
    · exact a3 (kOf n + 1) (Nat.lt_succ_self _) (by unfold kOf at e ⊢; omega)
  have hkk : dby (kOf n) ≤ n := a2
  obtain ⟨b1, b2, b3⟩ := mon_spec (1900 + kOf n) (n - dby (kOf n)) (by omega) 11
  have hj : n - dby (kOf n) < cum (1900 + kOf n) (jOf n + 1) := by
    by_cases e : jOf n = 11
    · rw [e, cum_12]; rw [dby_step] at hk; omega
    · exact b3 (jOf n + 1) (Nat.lt_succ_self _) (by unfold jOf at e ⊢; omega)
  have hjj : cum (1900 + kOf n) (jOf n) ≤ n - dby (kOf n) := b2
  rw [cum_step] at hj
  refine ⟨by unfold kOf; omega, by unfold jOf; omega, by unfold dOf; omega, by unfold dOf; omega, by unfold dOf; omega⟩
theorem Is.unique {n : Int} {k j k' j' : Nat} {d d' : Int} (h : Is n k j d) (h' : Is n k' j' d') : k = k' ∧ j = j' ∧ d = d' := by
  have r1 := h.rest
  have r2 := h'.rest
  have e : k = k' := by
    rcases Nat.lt_trichotomy k k' with g | g | g
    · have := dby_le (show k + 1 ≤ k' from g)
      rw [dby_step] at this; omega
    · exact g
    · have := dby_le (show k' + 1 ≤ k from g)
      rw [dby_step] at this; omega
  subst e
  have n1 := h.n1
  have n2 := h'.n1
  have e : j = j' := by
    rcases Nat.lt_trichotomy j j' with g | g | g
    · have := cum_le (1900 + k) (show j + 1 ≤ j' from g)
      rw [cum_step] at this
      have := h.d1; have := h'.d0; omega
    · exact g
    · have := cum_le (1900 + k) (show j' + 1 ≤ j from g)
      rw [cum_step] at this
      have := h'.d1; have := h.d0; omega
  subst e
  exact ⟨rfl, rfl, by omega⟩
theorem Is.to {n : Int} {k j : Nat} {d : Int} (h : Is n k j d) : toR n = (1900 + (k : Int), (j : Int) + 1, d) := by
  unfold toR
  rw [if_pos h.ok]
  obtain ⟨e1, e2, e3⟩ := (Is.of n h.ok).unique h
  rw [e1, e2, e3]
theorem Is.from {n : Int} {k j : Nat} {d : Int} (h : Is n k j d) : fromR (1900 + (k : Int)) ((j : Int) + 1) d = (n, 0) := by
  have := h.k1; have := h.d0; have := h.d1
  unfold fromR
  rw [if_neg (by omega), show (1900 + (k : Int) - 1900).toNat = k by omega, show ((j : Int) + 1 - 1).toNat = j by omega, ← h.n1]
theorem from_ok {y m d n : Int} (h : fromR y m d = (n, 0)) : Is n (y - 1900).toNat (m - 1).toNat d ∧ 1900 ≤ y ∧ 1 ≤ m := by
  unfold fromR at h
  by_cases g : y < 1900 ∨ 2199 < y ∨ d < 1 ∨ dim y m < d
  · rw [if_pos g] at h; cases h
  · rw [if_neg g] at h
    have hm := dim_out (y := y) (m := m) (by omega)
    have e1 : (1900 + ((y - 1900).toNat : Int)) = y := by omega
    have e2 : (((m - 1).toNat : Nat) : Int) + 1 = m := by omega
    cases h
    refine ⟨⟨by omega, by omega, by omega, by rw [e1, e2]; omega, by rw [e1]⟩, by omega, by omega⟩
/-- the day after -/
theorem Is.next {n : Int} {k j : Nat} {d : Int} (h : Is n k j d) (hn : n < 109572) :
    (d < dim (1900 + k) (j + 1) ∧ Is (n + 1) k j (d + 1)) ∨ (d = dim (1900 + k) (j + 1) ∧ j < 11 ∧ Is (n + 1) k (j + 1) 1) ∨ (d = dim (1900 + k) (j + 1) ∧ j = 11 ∧ Is (n + 1) (k + 1) 0 1) := by
  have h1 := h.d1
  have h2 := h.n1
  have h3 := h.j1
  by_cases g : d < dim (1900 + k) (j + 1)
  · exact .inl ⟨g, h.k1, h.j1, by have := h.d0; omega, by omega, by omega⟩
  · by_cases g2 : j < 11
    · refine .inr (.inl ⟨by omega, g2, h.k1, by omega, by omega, ?_, ?_⟩)
      · have := dim_pos (y := 1900 + k) (m := ((j + 1 : Nat) : Int) + 1) (by omega) (by omega); omega
      · rw [cum_step]; omega
    · obtain rfl : j = 11 := by omega
      have c := cum_12 (1900 + k)
      rw [cum_step] at c
      have hk : k < 299 := by
        rcases Nat.lt_or_ge k 299 with q | q
        · exact q
        · obtain rfl : k = 299 := by have := h.k1; omega
          have e := dby_300
          rw [dby_step] at e
          omega
      refine .inr (.inr ⟨by omega, rfl, by omega, by omega, by omega, ?_, ?_⟩)
      · have := dim_pos (y := 1900 + ((k + 1 : Nat) : Int)) (m := ((0 : Nat) : Int) + 1) (by omega) (by omega); omega
      · rw [dby_step]; simp [cum]; omega

theorem add_zero {a : Int} (h : okD a = true) : addR a 0 = (a, 0) := by
  have I := Is.of a h
  unfold addR
  rw [h]
  simp only [Bool.true_and, Int.add_zero]
  rw [if_pos (by decide)]
  have e1 : (12 * (1900 + (kOf a : Int)) + (jOf a : Int)) / 12 = 1900 + (kOf a : Int) := by have := I.j1; omega
  have e2 : (12 * (1900 + (kOf a : Int)) + (jOf a : Int)) % 12 + 1 = (jOf a : Int) + 1 := by have := I.j1; omega
  rw [e1, e2, show min (dOf a) (dim (1900 + (kOf a : Int)) ((jOf a : Int) + 1)) = dOf a by have := I.d1; omega]
  exact I.from
theorem more_300 (a b : Int) {n : Nat} (h : 300 ≤ n) : more a b n = false := by
  unfold more addR
  rw [if_neg (by simp; omega)]
  rfl
/-- where the search ends: one more year may not be added, and it has gone one by one -/
theorem ybF_spec (a b : Int) : ∀ (f n : Nat), f + n = 301 → n ≤ ybF a b f n ∧ ybF a b f n ≤ 300 + (if 300 < n then 1 else 0) ∧ (n < 301 → more a b (ybF a b f n) = false) ∧ (∀ k, n ≤ k → k < ybF a b f n → more a b k = true)
  | 0, n, h => by
    obtain rfl : n = 301 := by omega
    exact ⟨Nat.le_refl _, by simp [ybF], fun h => by omega, fun k a b => by simp [ybF] at b; omega⟩
  | f + 1, n, h => by
    unfold ybF
    cases hm : more a b n
    · rw [if_neg (by decide)]
      exact ⟨Nat.le_refl _, by omega, fun _ => hm, fun k x y => by omega⟩
    · rw [if_pos rfl]
      have hn : n < 300 := by
        rcases Nat.lt_or_ge n 300 with g | g
        · exact g
        · rw [more_300 a b g] at hm; cases hm
      obtain ⟨i1, i2, i3, i4⟩ := ybF_spec a b f (n + 1) (by omega)
      refine ⟨by omega, by rw [if_neg (by omega)] at i2 ⊢; exact i2, fun _ => i3 (by omega), fun k x y => ?_⟩
      by_cases e : k = n
      · subst e; exact hm
      · exact i4 k (by omega) y
end Go.Proofs.Ytkecjegjdlmdkaa.cal
