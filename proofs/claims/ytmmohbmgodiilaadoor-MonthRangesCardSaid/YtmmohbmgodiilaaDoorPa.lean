/-
  Several texts in one, in build order:
  Plain mathematics of the calendar of chapter 4: leap years, months, dates from 1900 to 2199. No program text.
  More plain mathematics of the calendar: months and years added, and the number of full years. No program text.
  Plain mathematics of half-open ranges of dates. No program text.
  Plain mathematics of package workday: what its functions answer. No program text.
  Plain mathematics of calendar months. No program text.
  Plain mathematics of package numtext: what its functions answer, over lists of bytes, and the laws between them (parsing what was formatted, formatting what was parsed). No program text.
  Plain mathematics of package numtext, second part: parsing what was formatted gives the number back, and formatting what was parsed gives the text back. No program text.
  Plain mathematics of the texts of dates. No program text.
  Plain mathematics of the texts of months. No program text.
-/
import Derived.Lib.Hide
import Derived.WalkKit
import Derived.Lib.Strings
import Derived.Lib.ItoaNum
import Derived.Lib.ItoaLen
import Derived.Lib.Repeat
import Derived.Lib.IndexMore
import Derived.Lib.IndexLaws
import Derived.Laws.RangeAny
namespace Go.Proofs.YtmmohbmgodiilaaDoor.cal
set_option linter.unusedVariables false

def leap (y : Int) : Bool := (y.tmod 4 == 0) && ((y.tmod 100 != 0) || (y.tmod 400 == 0))
def dim (y m : Int) : Int :=
  if m = 2 then (if leap y then 29 else 28) else if m = 4 ∨ m = 6 ∨ m = 9 ∨ m = 11 then 30 else if m = 1 ∨ m = 3 ∨ m = 5 ∨ m = 7 ∨ m = 8 ∨ m = 10 ∨ m = 12 then 31 else 0
def diy (y : Int) : Int := if leap y then 366 else 365
/-- the days of the first k years from 1900 on -/
def dby : Nat → Int
  | 0 => 0
  | k + 1 => dby k + diy (1900 + k)
/-- the days of the first j months of a year -/
def cum (y : Int) : Nat → Int
  | 0 => 0
  | j + 1 => cum y j + dim y (j + 1)
def okD (n : Int) : Bool := decide (0 ≤ n) && decide (n ≤ 109572)
def fromR (y m d : Int) : Int × Int :=
  if y < 1900 ∨ 2199 < y ∨ d < 1 ∨ dim y m < d then (0, 3) else (dby (y - 1900).toNat + cum y (m - 1).toNat + (d - 1), 0)
def yrs (n : Int) : Nat → Nat
  | 0 => 0
  | f + 1 => if dby (f + 1) ≤ n then f + 1 else yrs n f
def mon (y r : Int) : Nat → Nat
  | 0 => 0
  | f + 1 => if cum y (f + 1) ≤ r then f + 1 else mon y r f
def kOf (n : Int) : Nat := yrs n 299
def jOf (n : Int) : Nat := mon (1900 + kOf n) (n - dby (kOf n)) 11
def dOf (n : Int) : Int := n - dby (kOf n) - cum (1900 + kOf n) (jOf n) + 1
def toR (n : Int) : Int × Int × Int := if okD n then (1900 + kOf n, jOf n + 1, dOf n) else (0, 0, 0)
def wkR (n : Int) : Int := if okD n then n % 7 else -1
def addR (a n : Int) : Int × Int :=
  if okD a && (decide (-3600 ≤ n) && decide (n ≤ 3600)) then
    (let k := 12 * (1900 + (kOf a : Int)) + jOf a + n; fromR (k / 12) (k % 12 + 1) (min (dOf a) (dim (k / 12) (k % 12 + 1))))
  else (0, 3)
/-- may one more year be added -/
def more (a b : Int) (n : Nat) : Bool := decide ((addR a (12 * ((n : Int) + 1))).2 = 0) && decide ((addR a (12 * ((n : Int) + 1))).1 ≤ b)
def ybF (a b : Int) : Nat → Nat → Nat
  | 0, n => n
  | f + 1, n => if more a b n then ybF a b f (n + 1) else n
def ybR (a b : Int) : Int := if okD a && okD b then (ybF a b 301 0 : Nat) else 0

theorem okD_iff (n : Int) : okD n = true ↔ 0 ≤ n ∧ n ≤ 109572 := by simp [okD]
theorem diy_bd (y : Int) : 365 ≤ diy y ∧ diy y ≤ 366 := by unfold diy; split <;> omega
theorem dim_bd (y m : Int) : 0 ≤ dim y m ∧ dim y m ≤ 31 := by unfold dim; (repeat' split) <;> omega
theorem dim_pos {y m : Int} (h0 : 1 ≤ m) (h1 : m ≤ 12) : 28 ≤ dim y m := by unfold dim; (repeat' split) <;> omega
theorem dim_out {y m : Int} (h : 1 ≤ dim y m) : 1 ≤ m ∧ m ≤ 12 := by
  unfold dim at h
  split at h
  · omega
  · split at h
    · omega
    · split at h
      · omega
      · omega
theorem dby_step (k : Nat) : dby (k + 1) = dby k + diy (1900 + k) := rfl
theorem cum_step (y : Int) (j : Nat) : cum y (j + 1) = cum y j + dim y (j + 1) := rfl
theorem dby_le : ∀ {a b : Nat}, a ≤ b → dby a + 365 * ((b : Int) - a) ≤ dby b
  | a, b, h => by
    induction b with
    | zero => obtain rfl : a = 0 := by omega
              simp
    | succ b ih =>
      by_cases e : a = b + 1
      · subst e; simp
      · have := ih (by omega)
        have := diy_bd (1900 + b)
        rw [dby_step]; omega
theorem dby_nonneg (k : Nat) : 365 * (k : Int) ≤ dby k := by have := dby_le (Nat.zero_le k); simp [dby] at this; omega
theorem dby_300 : dby 300 = 109573 := by decide +kernel
theorem cum_le (y : Int) : ∀ {a b : Nat}, a ≤ b → cum y a ≤ cum y b
  | a, b, h => by
    induction b with
    | zero => obtain rfl : a = 0 := by omega
              simp
    | succ b ih =>
      by_cases e : a = b + 1
      · subst e; simp
      · have := ih (by omega)
        have := dim_bd y (b + 1)
        rw [cum_step]; omega
theorem cum_12 (y : Int) : cum y 12 = diy y := by
  cases h : leap y <;> simp [cum, dim, diy, h]
theorem cum_nonneg (y : Int) (j : Nat) : 0 ≤ cum y j := by have := cum_le y (Nat.zero_le j); simpa [cum] using this

theorem yrs_spec (n : Int) (h0 : 0 ≤ n) : ∀ f, yrs n f ≤ f ∧ dby (yrs n f) ≤ n ∧ ∀ k, yrs n f < k → k ≤ f → n < dby k
  | 0 => ⟨Nat.le_refl _, by simpa [yrs, dby] using h0, fun k a b => by omega⟩
  | f + 1 => by
    unfold yrs
    by_cases h : dby (f + 1) ≤ n
    · rw [if_pos h]; exact ⟨Nat.le_refl _, h, fun k a b => by omega⟩
    · rw [if_neg h]
      obtain ⟨i1, i2, i3⟩ := yrs_spec n h0 f
      refine ⟨by omega, i2, fun k a b => ?_⟩
      by_cases e : k = f + 1
      · subst e; omega
      · exact i3 k a (by omega)
theorem mon_spec (y r : Int) (h0 : 0 ≤ r) : ∀ f, mon y r f ≤ f ∧ cum y (mon y r f) ≤ r ∧ ∀ k, mon y r f < k → k ≤ f → r < cum y k
  | 0 => ⟨Nat.le_refl _, by simpa [mon, cum] using h0, fun k a b => by omega⟩
  | f + 1 => by
    unfold mon
    by_cases h : cum y (f + 1) ≤ r
    · rw [if_pos h]; exact ⟨Nat.le_refl _, h, fun k a b => by omega⟩
    · rw [if_neg h]
      obtain ⟨i1, i2, i3⟩ := mon_spec y r h0 f
      refine ⟨by omega, i2, fun k a b => ?_⟩
      by_cases e : k = f + 1
      · subst e; omega
      · exact i3 k a (by omega)

/-- the date n is the day d of the month j (from 0) of the year k (from 1900) -/
structure Is (n : Int) (k j : Nat) (d : Int) : Prop where
  k1 : k < 300
  j1 : j < 12
  d0 : 1 ≤ d
  d1 : d ≤ dim (1900 + k) (j + 1)
  n1 : n = dby k + cum (1900 + k) j + (d - 1)
theorem Is.rest {n : Int} {k j : Nat} {d : Int} (h : Is n k j d) : 0 ≤ n - dby k ∧ n - dby k < diy (1900 + k) := by
  have h1 := cum_nonneg (1900 + k) j
  have h2 := cum_le (1900 + k) (show j + 1 ≤ 12 from h.j1)
  rw [cum_step, cum_12] at h2
  have := h.n1; have := h.d0; have := h.d1
  omega
theorem Is.ok {n : Int} {k j : Nat} {d : Int} (h : Is n k j d) : okD n = true := by
  rw [okD_iff]
  have h1 := h.rest
  have h2 := dby_nonneg k
  have h3 := dby_le (show k + 1 ≤ 300 from h.k1)
  rw [dby_300, dby_step] at h3
  have := h.k1
  omega
theorem Is.of (n : Int) (h : okD n = true) : Is n (kOf n) (jOf n) (dOf n) := by
  obtain ⟨h0, h1⟩ := (okD_iff n).1 h
  obtain ⟨a1, a2, a3⟩ := yrs_spec n h0 299
  have hk : n < dby (kOf n + 1) := by
    by_cases e : kOf n = 299
    · rw [e, dby_300]; omega
    · exact a3 (kOf n + 1) (Nat.lt_succ_self _) (by unfold kOf at e ⊢; omega)
  have hkk : dby (kOf n) ≤ n := a2
  obtain ⟨b1, b2, b3⟩ := mon_spec (1900 + kOf n) (n - dby (kOf n)) (by omega) 11
  have hj : n - dby (kOf n) < cum (1900 + kOf n) (jOf n + 1) := by
    by_cases e : jOf n = 11
    · rw [e, cum_12]; rw [dby_step] at hk; omega
    · exact b3 (jOf n + 1) (Nat.lt_succ_self _) (by unfold jOf at e ⊢; omega)
  have hjj : cum (1900 + kOf n) (jOf n) ≤ n - dby (kOf n) := b2
  rw [cum_step] at hj
  refine ⟨by unfold kOf; omega, by unfold jOf; omega, by unfold dOf; omega, by unfold dOf; omega, by unfold dOf; omega⟩
theorem Is.unique {n : Int} {k j k' j' : Nat} {d d' : Int} (h : Is n k j d) (h' : Is n k' j' d') : k = k' ∧ j = j' ∧ d = d' := by
  have r1 := h.rest
  have r2 := h'.rest
  have e : k = k' := by
    rcases Nat.lt_trichotomy k k' with g | g | g
    · have := dby_le (show k + 1 ≤ k' from g)
      rw [dby_step] at this; omega
    · exact g
    · have := dby_le (show k' + 1 ≤ k from g)
      rw [dby_step] at this; omega
  subst e
  have n1 := h.n1
  have n2 := h'.n1
  have e : j = j' := by
    rcases Nat.lt_trichotomy j j' with g | g | g
    · have := cum_le (1900 + k) (show j + 1 ≤ j' from g)
      rw [cum_step] at this
      have := h.d1; have := h'.d0; omega
    · exact g
    · have := cum_le (1900 + k) (show j' + 1 ≤ j from g)
      rw [cum_step] at this
      have := h'.d1; have := h.d0; omega
  subst e
  exact ⟨rfl, rfl, by omega⟩
theorem Is.to {n : Int} {k j : Nat} {d : Int} (h : Is n k j d) : toR n = (1900 + (k : Int), (j : Int) + 1, d) := by
  unfold toR
  rw [if_pos h.ok]
  obtain ⟨e1, e2, e3⟩ := (Is.of n h.ok).unique h
  rw [e1, e2, e3]
theorem Is.from {n : Int} {k j : Nat} {d : Int} (h : Is n k j d) : fromR (1900 + (k : Int)) ((j : Int) + 1) d = (n, 0) := by
  have := h.k1; have := h.d0; have := h.d1
  unfold fromR
  rw [if_neg (by omega), show (1900 + (k : Int) - 1900).toNat = k by omega, show ((j : Int) + 1 - 1).toNat = j by omega, ← h.n1]
theorem from_ok {y m d n : Int} (h : fromR y m d = (n, 0)) : Is n (y - 1900).toNat (m - 1).toNat d ∧ 1900 ≤ y ∧ 1 ≤ m := by
  unfold fromR at h
  by_cases g : y < 1900 ∨ 2199 < y ∨ d < 1 ∨ dim y m < d
  · rw [if_pos g] at h; cases h
  · rw [if_neg g] at h
    have hm := dim_out (y := y) (m := m) (by omega)
    have e1 : (1900 + ((y - 1900).toNat : Int)) = y := by omega
    have e2 : (((m - 1).toNat : Nat) : Int) + 1 = m := by omega
    cases h
    refine ⟨⟨by omega, by omega, by omega, by rw [e1, e2]; omega, by rw [e1]⟩, by omega, by omega⟩
/-- the day after -/
theorem Is.next {n : Int} {k j : Nat} {d : Int} (h : Is n k j d) (hn : n < 109572) :
    (d < dim (1900 + k) (j + 1) ∧ Is (n + 1) k j (d + 1)) ∨ (d = dim (1900 + k) (j + 1) ∧ j < 11 ∧ Is (n + 1) k (j + 1) 1) ∨ (d = dim (1900 + k) (j + 1) ∧ j = 11 ∧ Is (n + 1) (k + 1) 0 1) := by
  have h1 := h.d1
  have h2 := h.n1
  have h3 := h.j1
  by_cases g : d < dim (1900 + k) (j + 1)
  · exact .inl ⟨g, h.k1, h.j1, by have := h.d0; omega, by omega, by omega⟩
  · by_cases g2 : j < 11
    · refine .inr (.inl ⟨by omega, g2, h.k1, by omega, by omega, ?_, ?_⟩)
      · have := dim_pos (y := 1900 + k) (m := ((j + 1 : Nat) : Int) + 1) (by omega) (by omega); omega
      · rw [cum_step]; omega
    · obtain rfl : j = 11 := by omega
      have c := cum_12 (1900 + k)
      rw [cum_step] at c
      have hk : k < 299 := by
        rcases Nat.lt_or_ge k 299 with q | q
        · exact q
        · obtain rfl : k = 299 := by have := h.k1; omega
          have e := dby_300
          rw [dby_step] at e
          omega
      refine .inr (.inr ⟨by omega, rfl, by omega, by omega, by omega, ?_, ?_⟩)
      · have := dim_pos (y := 1900 + ((k + 1 : Nat) : Int)) (m := ((0 : Nat) : Int) + 1) (by omega) (by omega); omega
      · rw [dby_step]; simp [cum]; omega

theorem add_zero {a : Int} (h : okD a = true) : addR a 0 = (a, 0) := by
  have I := Is.of a h
  unfold addR
  rw [h]
  simp only [Bool.true_and, Int.add_zero]
  rw [if_pos (by decide)]
  have e1 : (12 * (1900 + (kOf a : Int)) + (jOf a : Int)) / 12 = 1900 + (kOf a : Int) := by have := I.j1; omega
  have e2 : (12 * (1900 + (kOf a : Int)) + (jOf a : Int)) % 12 + 1 = (jOf a : Int) + 1 := by have := I.j1; omega
  rw [e1, e2, show min (dOf a) (dim (1900 + (kOf a : Int)) ((jOf a : Int) + 1)) = dOf a by have := I.d1; omega]
  exact I.from
theorem more_300 (a b : Int) {n : Nat} (h : 300 ≤ n) : more a b n = false := by
  unfold more addR
  rw [if_neg (by simp; omega)]
  rfl
/-- where the search ends: one more year may not be added, and it has gone one by one -/
theorem ybF_spec (a b : Int) : ∀ (f n : Nat), f + n = 301 → n ≤ ybF a b f n ∧ ybF a b f n ≤ 300 + (if 300 < n then 1 else 0) ∧ (n < 301 → more a b (ybF a b f n) = false) ∧ (∀ k, n ≤ k → k < ybF a b f n → more a b k = true)
  | 0, n, h => by
    obtain rfl : n = 301 := by omega
    exact ⟨Nat.le_refl _, by simp [ybF], fun h => by omega, fun k a b => by simp [ybF] at b; omega⟩
  | f + 1, n, h => by
    unfold ybF
    cases hm : more a b n
    · rw [if_neg (by decide)]
      exact ⟨Nat.le_refl _, by omega, fun _ => hm, fun k x y => by omega⟩
    · rw [if_pos rfl]
      have hn : n < 300 := by
        rcases Nat.lt_or_ge n 300 with g | g
        · exact g
        · rw [more_300 a b g] at hm; cases hm
      obtain ⟨i1, i2, i3, i4⟩ := ybF_spec a b f (n + 1) (by omega)
      refine ⟨by omega, by rw [if_neg (by omega)] at i2 ⊢; exact i2, fun _ => i3 (by omega), fun k x y => ?_⟩
      by_cases e : k = n
      · subst e; exact hm
      · exact i4 k (by omega) y
end Go.Proofs.YtmmohbmgodiilaaDoor.cal
namespace Go.Proofs.YtmmohbmgodiilaaDoor.cal
open Go
set_option linter.unusedVariables false

theorem from_code (y m d : Int) : fromR y m d = (0, 3) ∨ ∃ n, fromR y m d = (n, 0) := by
  unfold fromR
  split
  · exact .inl rfl
  · exact .inr ⟨_, rfl⟩
theorem add_code (a n : Int) : addR a n = (0, 3) ∨ ∃ x, addR a n = (x, 0) := by
  unfold addR
  split
  · exact from_code _ _ _
  · exact .inl rfl
/-- a year or more later is later -/
theorem add_later {a n x : Int} (h : addR a n = (x, 0)) (hn : 12 ≤ n) : a < x := by
  unfold addR at h
  by_cases g : okD a = true
  · rw [g] at h
    by_cases g2 : (decide (-3600 ≤ n) && decide (n ≤ 3600)) = true
    · rw [g2] at h
      simp only [Bool.and_self, if_true] at h
      obtain ⟨I, y0, -⟩ := from_ok h
      have A := Is.of a g
      have r1 := A.rest
      have r2 := I.rest
      have hk : kOf a + 1 ≤ ((12 * (1900 + (kOf a : Int)) + jOf a + n) / 12 - 1900).toNat := by
        have := A.j1
        omega
      have := dby_le hk
      have s := dby_step (kOf a)
      omega
    · rw [Bool.not_eq_true] at g2
      rw [g2] at h
      simp at h
  · rw [Bool.not_eq_true] at g
    rw [g] at h
    simp at h
theorem more_iff (a b : Int) (n : Nat) : more a b n = true ↔ ∃ x, addR a (12 * (n : Int) + 12) = (x, 0) ∧ x ≤ b := by
  unfold more
  rw [show 12 * ((n : Int) + 1) = 12 * (n : Int) + 12 by omega]
  rcases add_code a (12 * (n : Int) + 12) with h | ⟨x, h⟩ <;> rw [h] <;> simp
theorem yb_turned {a b : Int} (h : b < a) : ybR a b = 0 := by
  unfold ybR
  split
  · have hm : more a b 0 = false := by
      cases hm : more a b 0
      · rfl
      · obtain ⟨x, h1, h2⟩ := (more_iff a b 0).1 hm
        have := add_later h1 (by omega)
        omega
    simp [ybF, hm]
  · rfl
theorem yb_out {a b : Int} (h : a < 0 ∨ 109572 < b) : ybR a b = 0 := by
  unfold ybR
  rw [if_neg]
  intro g
  have g1 := Bool.and_eq_true_iff.1 g
  have ga := (okD_iff a).1 g1.1
  have gb := (okD_iff b).1 g1.2
  omega
theorem yb_ann {a b : Int} (ha : 0 ≤ a) (hb : b ≤ 109572) (hab : a ≤ b) : ∃ n x : Int, ybR a b = n ∧ 0 ≤ n ∧ n ≤ 300 ∧ addR a (12 * n) = (x, 0) ∧ x ≤ b ∧
    (addR a (12 * n + 12) = (0, 3) ∨ ∃ y, addR a (12 * n + 12) = (y, 0) ∧ b < y) := by
  have oa : okD a = true := (okD_iff a).2 ⟨ha, by omega⟩
  have ob : okD b = true := (okD_iff b).2 ⟨by omega, hb⟩
  obtain ⟨-, h2, h3, h4⟩ := ybF_spec a b 301 0 rfl
  obtain ⟨N, hN⟩ : ∃ N, ybF a b 301 0 = N := ⟨_, rfl⟩
  rw [hN] at h2 h3 h4
  have hx : ∃ x, addR a (12 * (N : Int)) = (x, 0) ∧ x ≤ b := by
    rcases N with _ | p
    · exact ⟨a, add_zero oa, hab⟩
    · obtain ⟨x, e1, e2⟩ := (more_iff a b p).1 (h4 p (Nat.zero_le _) (Nat.lt_succ_self _))
      exact ⟨x, by rw [← e1]; congr 1, e2⟩
  obtain ⟨x, e1, e2⟩ := hx
  refine ⟨N, x, by unfold ybR; rw [oa, ob, hN]; rfl, by omega, by simp at h2; omega, e1, e2, ?_⟩
  have hm := h3 (by decide)
  rcases add_code a (12 * (N : Int) + 12) with h | ⟨y, h⟩
  · exact .inl h
  · refine .inr ⟨y, h, ?_⟩
    rcases Int.lt_or_le b y with g | g
    · exact g
    · rw [(more_iff a b N).2 ⟨y, h, g⟩] at hm; cases hm

/-- years added while they stay within the calendar -/
theorem add_years {a : Int} (ha : okD a = true) (n : Nat) (hn : kOf a + n < 300) : ∃ x d, addR a (12 * (n : Int)) = (x, 0) ∧ Is x (kOf a + n) (jOf a) d := by
  have I := Is.of a ha
  have j1 := I.j1
  obtain ⟨g, hg⟩ : ∃ g, dim (1900 + ((kOf a + n : Nat) : Int)) ((jOf a : Int) + 1) = g := ⟨_, rfl⟩
  have g0 := dim_pos (y := 1900 + ((kOf a + n : Nat) : Int)) (m := (jOf a : Int) + 1) (by omega) (by omega)
  have d0 := I.d0
  have X : Is (dby (kOf a + n) + cum (1900 + ((kOf a + n : Nat) : Int)) (jOf a) + (min (dOf a) g - 1)) (kOf a + n) (jOf a) (min (dOf a) g) :=
    ⟨hn, j1, by omega, by omega, rfl⟩
  refine ⟨_, _, ?_, X⟩
  unfold addR
  rw [ha, show decide (-3600 ≤ 12 * (n : Int)) = true by simp; omega, show decide (12 * (n : Int) ≤ 3600) = true by simp; omega]
  simp only [Bool.and_self, if_true]
  have e1 : (12 * (1900 + (kOf a : Int)) + (jOf a : Int) + 12 * (n : Int)) / 12 = 1900 + ((kOf a + n : Nat) : Int) := by omega
  have e2 : (12 * (1900 + (kOf a : Int)) + (jOf a : Int) + 12 * (n : Int)) % 12 + 1 = (jOf a : Int) + 1 := by omega
  rw [e1, e2, hg]
  exact X.from
theorem add_over {a x : Int} (ha : okD a = true) (n : Nat) (h : addR a (12 * (n : Int)) = (x, 0)) : kOf a + n < 300 := by
  have I := Is.of a ha
  have j1 := I.j1
  unfold addR at h
  split at h
  · obtain ⟨J, y0, m0⟩ := from_ok h
    have := J.k1
    have e1 : (12 * (1900 + (kOf a : Int)) + (jOf a : Int) + 12 * (n : Int)) / 12 = 1900 + ((kOf a + n : Nat) : Int) := by omega
    rw [e1] at this
    omega
  · cases h
theorem k_le {x b : Int} {k j k' j' : Nat} {d d' : Int} (h : Is x k j d) (h' : Is b k' j' d') (hle : x ≤ b) : k ≤ k' := by
  rcases Nat.lt_or_ge k' k with g | g
  · have r1 := h.rest
    have r2 := h'.rest
    have := dby_le (show k' + 1 ≤ k from g)
    have s := dby_step k'
    omega
  · exact g
/-- the full years by way of the anniversary in the later date's year -/
theorem yb_by {a b : Int} (ha : okD a = true) (hb : okD b = true) (hab : a ≤ b) :
    kOf a ≤ kOf b ∧ ∃ x, addR a (12 * ((kOf b : Int) - kOf a)) = (x, 0) ∧ ybR a b = (if b < x then (kOf b : Int) - kOf a - 1 else (kOf b : Int) - kOf a) := by
  have A := Is.of a ha
  have B := Is.of b hb
  have hk := k_le A B hab
  have b1 := B.k1
  refine ⟨hk, ?_⟩
  obtain ⟨a0, -⟩ := (okD_iff a).1 ha
  obtain ⟨-, b9⟩ := (okD_iff b).1 hb
  obtain ⟨K, hK⟩ : ∃ K : Nat, kOf b = kOf a + K := ⟨kOf b - kOf a, by omega⟩
  obtain ⟨x, d, hx, X⟩ := add_years ha K (by omega)
  rw [show (kOf b : Int) - kOf a = (K : Int) by omega]
  refine ⟨x, hx, ?_⟩
  obtain ⟨n, z, e1, e2, e3, e4, e5, e6⟩ := yb_ann a0 b9 hab
  obtain ⟨N, rfl⟩ : ∃ N : Nat, n = N := ⟨n.toNat, by omega⟩
  have hN := add_over ha N e4
  obtain ⟨z', dz, hz', Z⟩ := add_years ha N hN
  obtain rfl : z' = z := by rw [e4] at hz'; cases hz'; rfl
  have h1 := k_le Z B e5
  rw [e1]
  by_cases hNK : N = K
  · subst hNK
    obtain rfl : z' = x := by rw [e4] at hx; cases hx; rfl
    rw [if_neg (by omega)]
  · have hlt : N + 1 ≤ K := by omega
    obtain ⟨y, dy, hy, Y⟩ := add_years ha (N + 1) (by omega)
    rw [show 12 * ((N + 1 : Nat) : Int) = 12 * (N : Int) + 12 by omega] at hy
    rcases e6 with e6 | ⟨y', e6, e7⟩
    · rw [hy] at e6; cases e6
    · obtain rfl : y = y' := by rw [hy] at e6; cases e6; rfl
      have h2 := k_le B Y (by omega)
      obtain rfl : K = N + 1 := by omega
      rw [show 12 * ((N + 1 : Nat) : Int) = 12 * (N : Int) + 12 by omega, hy] at hx
      cases hx
      rw [if_pos e7]
      omega
end Go.Proofs.YtmmohbmgodiilaaDoor.cal
namespace Go.Proofs.YtmmohbmgodiilaaDoor.rng
set_option linter.unusedVariables false

abbrev R := Int × Int
def okR (r : R) : Bool := decide (0 ≤ r.1) && (decide (r.1 ≤ r.2) && decide (r.2 ≤ 109573))
def neR (r : R) : Bool := okR r && decide (r.1 < r.2)
def hasR (r : R) (d : Int) : Bool := okR r && (decide (r.1 ≤ d) && decide (d < r.2))
def covers (l : List R) (d : Int) : Bool := l.any fun r => hasR r d
def interR (a b : R) : R × Bool :=
  if okR a && okR b && decide (max a.1 b.1 < min a.2 b.2) then ((max a.1 b.1, min a.2 b.2), true) else ((0, 0), false)
def subR (a b : R) : List R :=
  if neR a then
    (if (interR a b).2 then (if a.1 < (interR a b).1.1 then [(a.1, (interR a b).1.1)] else []) ++ (if (interR a b).1.2 < a.2 then [((interR a b).1.2, a.2)] else []) else [a])
  else []
def putA : List R → R → List R × R
  | [], r => ([], r)
  | x :: l, r => if x.2 < r.1 then (x :: (putA l r).1, (putA l r).2) else if x.1 ≤ r.2 then putA l (min r.1 x.1, max r.2 x.2) else putA l r
def putR (l : List R) (r : R) : List R := (putA l r).1 ++ (putA l r).2 :: l.filter fun x => decide ((putA l r).2.2 < x.1)
def unionR (l : List R) : List R := l.foldl (fun o x => if neR x then putR o x else o) []
def gapsR (l : List R) (w : R) : List R := if neR w then l.foldl (fun o x => o.flatMap fun y => subR y x) [w] else []
def insR (l : List Int) (n : Int) : List Int := (l.filter fun x => decide (x < n)) ++ n :: l.filter fun x => decide (n < x)
def bndR (l : List R) : List Int := l.foldl (fun o x => if neR x then insR (insR o x.1) x.2 else o) []

def Norm (l : List R) : Prop := (∀ x ∈ l, neR x = true) ∧ l.Pairwise fun x y => x.2 < y.1

theorem ne_iff (r : R) : neR r = true ↔ 0 ≤ r.1 ∧ r.1 < r.2 ∧ r.2 ≤ 109573 := by simp [neR, okR]; omega
theorem has_iff (r : R) (d : Int) : hasR r d = true ↔ 0 ≤ r.1 ∧ r.1 ≤ d ∧ d < r.2 ∧ r.2 ≤ 109573 := by simp [hasR, okR]; omega
theorem covers_iff (l : List R) (d : Int) : covers l d = true ↔ ∃ r ∈ l, hasR r d = true := by simp [covers]
theorem covers_cons (x : R) (l : List R) (d : Int) : covers (x :: l) d = (hasR x d || covers l d) := rfl
theorem covers_append (l m : List R) (d : Int) : covers (l ++ m) d = (covers l d || covers m d) := by simp [covers]
theorem Norm.nil : Norm [] := ⟨fun _ h => (by cases h), List.Pairwise.nil⟩
theorem norm_cons {x : R} {l : List R} : Norm (x :: l) ↔ neR x = true ∧ (∀ y ∈ l, x.2 < y.1) ∧ Norm l := by
  unfold Norm
  rw [List.pairwise_cons, List.forall_mem_cons]
  exact ⟨fun ⟨⟨a, b⟩, c, d⟩ => ⟨a, c, b, d⟩, fun ⟨a, c, b, d⟩ => ⟨⟨a, b⟩, c, d⟩⟩
theorem norm_append {l m : List R} : Norm (l ++ m) ↔ Norm l ∧ Norm m ∧ ∀ x ∈ l, ∀ y ∈ m, x.2 < y.1 := by
  unfold Norm
  rw [List.pairwise_append]
  constructor
  · rintro ⟨a, b, c, d⟩
    exact ⟨⟨fun x h => a x (List.mem_append_left _ h), b⟩, ⟨fun x h => a x (List.mem_append_right _ h), c⟩, d⟩
  · rintro ⟨⟨a, b⟩, ⟨c, d⟩, e⟩
    exact ⟨fun x h => (List.mem_append.1 h).elim (a x) (c x), b, d, e⟩
theorem Norm.sub {l m : List R} (h : Norm l) (hs : m.Sublist l) : Norm m := ⟨fun x hx => h.1 x (hs.subset hx), h.2.sublist hs⟩

/-- what begins a list in normal form -/
theorem head_has {x : R} {l : List R} (h : Norm (x :: l)) {d : Int} (hd : covers (x :: l) d = true) : x.1 ≤ d := by
  obtain ⟨h1, h2, h3⟩ := norm_cons.1 h
  rw [ne_iff] at h1
  obtain ⟨r, hr, hh⟩ := (covers_iff _ _).1 hd
  rw [has_iff] at hh
  rcases List.mem_cons.1 hr with rfl | hr
  · omega
  · have := h2 r hr; omega
theorem tail_has {x : R} {l : List R} (h : Norm (x :: l)) {d : Int} (hd : covers l d = true) : x.2 < d := by
  obtain ⟨h1, h2, h3⟩ := norm_cons.1 h
  obtain ⟨r, hr, hh⟩ := (covers_iff _ _).1 hd
  rw [has_iff] at hh
  have := h2 r hr
  omega
theorem head_at {x : R} {l : List R} (h : Norm (x :: l)) (d : Int) (h1 : x.1 ≤ d) (h2 : d < x.2) : covers (x :: l) d = true := by
  have h3 := (ne_iff x).1 (norm_cons.1 h).1
  rw [covers_cons, (has_iff x d).2 ⟨by omega, h1, h2, by omega⟩]; rfl
theorem head_end {x : R} {l : List R} (h : Norm (x :: l)) : covers (x :: l) x.2 = false := by
  cases hc : covers (x :: l) x.2
  · rfl
  · rw [covers_cons] at hc
    rcases Bool.or_eq_true_iff.1 hc with g | g
    · rw [has_iff] at g; omega
    · have := tail_has h g; omega
/-- a list in normal form is known by its dates -/
theorem norm_unique : ∀ {l m : List R}, Norm l → Norm m → (∀ d, covers l d = covers m d) → l = m
  | [], [], _, _, _ => rfl
  | [], y :: m, _, hm, he => by
    have h1 := (ne_iff y).1 (norm_cons.1 hm).1
    have := he y.1
    rw [head_at hm y.1 (by omega) (by omega)] at this; cases this
  | x :: l, [], hl, _, he => by
    have h1 := (ne_iff x).1 (norm_cons.1 hl).1
    have := he x.1
    rw [head_at hl x.1 (by omega) (by omega)] at this; cases this
  | x :: l, y :: m, hl, hm, he => by
    have hx := (ne_iff x).1 (norm_cons.1 hl).1
    have hy := (ne_iff y).1 (norm_cons.1 hm).1
    have a1 : y.1 ≤ x.1 := head_has hm (by rw [← he]; exact head_at hl x.1 (by omega) (by omega))
    have a2 : x.1 ≤ y.1 := head_has hl (by rw [he]; exact head_at hm y.1 (by omega) (by omega))
    have b1 : x.2 = y.2 := by
      rcases Int.lt_trichotomy x.2 y.2 with g | g | g
      · have := he x.2
        rw [head_end hl, head_at hm x.2 (by omega) g] at this; cases this
      · exact g
      · have := he y.2
        rw [head_end hm, head_at hl y.2 (by omega) g] at this; cases this
    have e : x = y := Prod.ext (by omega) b1
    subst e
    have : l = m := norm_unique (norm_cons.1 hl).2.2 (norm_cons.1 hm).2.2 fun d => by
      rcases Int.lt_or_le x.2 d with g | g
      · have h1 := he d
        rw [covers_cons, covers_cons] at h1
        have hf : hasR x d = false := by
          cases hh : hasR x d
          · rfl
          · rw [has_iff] at hh; omega
        rw [hf] at h1
        exact h1
      · have q1 : covers l d = false := by
          cases hh : covers l d
          · rfl
          · have := tail_has hl hh; omega
        have q2 : covers m d = false := by
          cases hh : covers m d
          · rfl
          · have := tail_has hm hh; omega
        rw [q1, q2]
    rw [this]

/-! ### putting one range in -/
theorem putA_past {r : R} : ∀ {l : List R}, (∀ y ∈ l, r.2 < y.1) → (∀ y ∈ l, neR y = true) → r.1 < r.2 → putA l r = ([], r)
  | [], _, _, _ => rfl
  | x :: l, h, hn, hr => by
    have h1 := h x (by simp)
    have h2 := (ne_iff x).1 (hn x (by simp))
    unfold putA
    rw [if_neg (by omega), if_neg (by omega)]
    exact putA_past (fun y hy => h y (by simp [hy])) (fun y hy => hn y (by simp [hy])) hr
theorem putA_spec : ∀ (l : List R) (r : R), Norm l → neR r = true →
    neR (putA l r).2 = true ∧ (putA l r).2.1 ≤ r.1 ∧ r.2 ≤ (putA l r).2.2 ∧ (∀ x ∈ (putA l r).1, x ∈ l) ∧ (∀ z : Int, z < r.1 → (∀ y ∈ l, z < y.1) → z < (putA l r).2.1) ∧
    Norm (putR l r) ∧ ∀ d, covers (putR l r) d = (covers l d || hasR r d)
  | [], r, _, hr => by
    refine ⟨hr, Int.le_refl _, Int.le_refl _, fun x h => (by cases h), fun z h _ => h, ?_, fun d => ?_⟩
    · unfold putR putA
      exact norm_cons.2 ⟨hr, fun y h => (by simp at h), .nil⟩
    · unfold putR putA
      simp [covers]
  | x :: l, r, hl, hr => by
    obtain ⟨hx, hx2, hl'⟩ := norm_cons.1 hl
    have ex := (ne_iff x).1 hx
    have er := (ne_iff r).1 hr
    by_cases g1 : x.2 < r.1
    · obtain ⟨i1, i2, i3, i4, i5, i6, i7⟩ := putA_spec l r hl' hr
      have e : putA (x :: l) r = (x :: (putA l r).1, (putA l r).2) := by rw [putA, if_pos g1]
      have ep : putR (x :: l) r = x :: putR l r := by
        unfold putR
        rw [e]
        rw [List.filter_cons, if_neg (by simp; omega)]
        rfl
      rw [ep, e]
      refine ⟨i1, i2, i3, fun y hy => ?_, fun z h h' => i5 z h (fun y hy => h' y (by simp [hy])), ?_, fun d => ?_⟩
      · rcases List.mem_cons.1 hy with rfl | hy
        · simp
        · exact List.mem_cons_of_mem _ (i4 y hy)
      · refine norm_cons.2 ⟨hx, fun y hy => ?_, i6⟩
        unfold putR at hy
        rcases List.mem_append.1 hy with hy | hy
        · exact hx2 y (i4 y hy)
        · rcases List.mem_cons.1 hy with rfl | hy
          · exact i5 x.2 g1 hx2
          · exact hx2 y ((List.mem_filter.1 hy).1)
      · rw [covers_cons, covers_cons, i7, Bool.or_assoc]
    · by_cases g2 : x.1 ≤ r.2
      · have hr' : neR (min r.1 x.1, max r.2 x.2) = true := by rw [ne_iff]; simp only; omega
        obtain ⟨i1, i2, i3, i4, i5, i6, i7⟩ := putA_spec l (min r.1 x.1, max r.2 x.2) hl' hr'
        have e : putA (x :: l) r = putA l (min r.1 x.1, max r.2 x.2) := by rw [putA, if_neg g1, if_pos g2]
        simp only at i2 i3 i5
        have ep : putR (x :: l) r = putR l (min r.1 x.1, max r.2 x.2) := by
          unfold putR
          rw [e]
          rw [List.filter_cons, if_neg (by simp; omega)]
        rw [ep, e]
        refine ⟨i1, by omega, by omega, fun y hy => List.mem_cons_of_mem _ (i4 y hy), fun z h h' => i5 z (by have := h' x (by simp); omega) (fun y hy => h' y (by simp [hy])), i6, fun d => ?_⟩
        rw [i7, covers_cons]
        have hm : hasR (min r.1 x.1, max r.2 x.2) d = (hasR x d || hasR r d) := by
          rw [Bool.eq_iff_iff, Bool.or_eq_true_iff, has_iff, has_iff, has_iff]; simp only; omega
        rw [hm]
        cases covers l d <;> cases hasR x d <;> rfl
      · have hp : ∀ y ∈ x :: l, r.2 < y.1 := fun y hy => by
          rcases List.mem_cons.1 hy with rfl | hy
          · omega
          · have := hx2 y hy; omega
        have e : putA (x :: l) r = ([], r) := putA_past hp hl.1 er.2.1
        have ep : putR (x :: l) r = r :: x :: l := by
          unfold putR
          rw [e]
          simp only [List.nil_append]
          rw [List.filter_eq_self.2 (fun y hy => by simpa using hp y hy)]
        rw [ep, e]
        refine ⟨hr, Int.le_refl _, Int.le_refl _, fun y h => (by cases h), fun z h _ => h, norm_cons.2 ⟨hr, hp, hl⟩, fun d => ?_⟩
        rw [covers_cons, Bool.or_comm]
theorem union_from : ∀ (l o : List R), Norm o → Norm (l.foldl (fun o x => if neR x then putR o x else o) o) ∧ ∀ d, covers (l.foldl (fun o x => if neR x then putR o x else o) o) d = (covers o d || covers l d)
  | [], o, h => ⟨h, fun d => by simp [covers]⟩
  | x :: l, o, h => by
    rw [List.foldl_cons]
    cases hx : neR x
    · rw [if_neg (by decide)]
      obtain ⟨h1, h2⟩ := union_from l o h
      refine ⟨h1, fun d => ?_⟩
      rw [h2, covers_cons]
      have : hasR x d = false := by
        cases hh : hasR x d
        · rfl
        · rw [has_iff] at hh
          have := (ne_iff x).2 ⟨by omega, by omega, by omega⟩
          rw [hx] at this; cases this
      rw [this]; rfl
    · rw [if_pos rfl]
      obtain ⟨-, -, -, -, -, p1, p2⟩ := putA_spec o x h hx
      obtain ⟨h1, h2⟩ := union_from l (putR o x) p1
      refine ⟨h1, fun d => ?_⟩
      rw [h2, p2, covers_cons, Bool.or_assoc]
/-- the union: in normal form, with just the dates of the ranges -/
theorem union_norm (l : List R) : Norm (unionR l) := (union_from l [] .nil).1
theorem union_covers (l : List R) (d : Int) : covers (unionR l) d = covers l d := by
  unfold unionR
  rw [(union_from l [] .nil).2]
  rfl
theorem union_is {l u : List R} (h : Norm u) (hc : ∀ d, covers u d = covers l d) : unionR l = u :=
  norm_unique (union_norm l) h fun d => by rw [union_covers, hc]

/-! ### taking one range out -/
theorem inter_has (a b : R) (d : Int) : ((interR a b).2 && hasR (interR a b).1 d) = (hasR a d && hasR b d) := by
  unfold interR
  split
  · rename_i h
    have h' := Bool.and_eq_true_iff.1 h
    have h2 := of_decide_eq_true h'.2
    rw [Bool.eq_iff_iff, Bool.true_and, Bool.and_eq_true_iff, has_iff, has_iff, has_iff]
    have h3 := Bool.and_eq_true_iff.1 h'.1
    simp [okR] at h3
    simp only
    omega
  · rename_i h
    rw [Bool.false_and]
    symm
    cases hh : (hasR a d && hasR b d)
    · rfl
    · rw [Bool.and_eq_true_iff, has_iff, has_iff] at hh
      exact absurd (by simp [okR]; omega) h
theorem inter_comm (a b : R) : interR a b = interR b a := by
  unfold interR
  rw [Int.max_comm a.1, Int.min_comm a.2, Bool.and_comm (okR a)]
theorem sub_spec (a b : R) : Norm (subR a b) ∧ (∀ x ∈ subR a b, a.1 ≤ x.1 ∧ x.2 ≤ a.2) ∧ (subR a b).length ≤ 2 ∧ ∀ d, covers (subR a b) d = (hasR a d && !hasR b d) := by
  unfold subR
  cases ha : neR a
  · rw [if_neg (by decide)]
    refine ⟨.nil, fun x h => (by cases h), by simp, fun d => ?_⟩
    have : hasR a d = false := by
      cases hh : hasR a d
      · rfl
      · rw [has_iff] at hh
        have := (ne_iff a).2 ⟨by omega, by omega, by omega⟩
        rw [ha] at this; cases this
    rw [this]; rfl
  · rw [if_pos rfl]
    have ea := (ne_iff a).1 ha
    have hi := inter_has a b
    cases hb : (interR a b).2
    · rw [if_neg (by decide)]
      rw [hb] at hi
      refine ⟨norm_cons.2 ⟨ha, fun y h => (by cases h), .nil⟩, fun x h => by simp at h; subst h; omega, by simp, fun d => ?_⟩
      have := hi d
      rw [Bool.false_and] at this
      rw [covers_cons]
      show (hasR a d || false) = _
      cases h1 : hasR a d <;> cases h2 : hasR b d <;> rw [h1, h2] at this <;> first | rfl | cases this
    · rw [if_pos rfl]
      have h := hb
      unfold interR at h
      split at h
      · rename_i hc
        have e : interR a b = ((max a.1 b.1, min a.2 b.2), true) := by unfold interR; rw [if_pos hc]
        have h' := Bool.and_eq_true_iff.1 hc
        have h2 := of_decide_eq_true h'.2
        have h3 := Bool.and_eq_true_iff.1 h'.1
        simp [okR] at h3
        rw [e]
        simp only
        by_cases c1 : a.1 < max a.1 b.1 <;> by_cases c2 : min a.2 b.2 < a.2
        · rw [if_pos c1, if_pos c2]
          refine ⟨norm_cons.2 ⟨by rw [ne_iff]; simp only; omega, fun y hy => ?_, norm_cons.2 ⟨by rw [ne_iff]; simp only; omega, fun y h => (by simp at h), .nil⟩⟩, fun x hx => ?_, by simp, fun d => ?_⟩
          · simp at hy; subst hy; simp only; omega
          · simp at hx; rcases hx with rfl | rfl <;> simp only <;> omega
          · rw [Bool.eq_iff_iff]
            simp [covers, hasR, okR]
            omega
        · rw [if_pos c1, if_neg c2]
          refine ⟨norm_cons.2 ⟨by rw [ne_iff]; simp only; omega, fun y h => (by simp at h), .nil⟩, fun x hx => ?_, by simp, fun d => ?_⟩
          · simp at hx; subst hx; simp only; omega
          · rw [Bool.eq_iff_iff]
            simp [covers, hasR, okR]
            omega
        · rw [if_neg c1, if_pos c2]
          refine ⟨norm_cons.2 ⟨by rw [ne_iff]; simp only; omega, fun y h => (by simp at h), .nil⟩, fun x hx => ?_, by simp, fun d => ?_⟩
          · simp at hx; subst hx; simp only; omega
          · rw [Bool.eq_iff_iff]
            simp [covers, hasR, okR]
            omega
        · rw [if_neg c1, if_neg c2]
          refine ⟨.nil, fun x hx => (by simp at hx), by simp, fun d => ?_⟩
          rw [Bool.eq_iff_iff]
          simp [covers, hasR, okR]
          omega
      · cases h
theorem cut_spec : ∀ (o : List R) (x : R), Norm o → Norm (o.flatMap fun y => subR y x) ∧ (∀ b : Int, (∀ y ∈ o, b < y.1) → ∀ z ∈ o.flatMap (fun y => subR y x), b < z.1) ∧ ∀ d, covers (o.flatMap fun y => subR y x) d = (covers o d && !hasR x d)
  | [], x, _ => ⟨.nil, fun b _ z h => by simp at h, fun d => rfl⟩
  | y :: o, x, h => by
    obtain ⟨h1, h2, h3⟩ := norm_cons.1 h
    obtain ⟨i1, i2, i3⟩ := cut_spec o x h3
    obtain ⟨s1, s2, -, s3⟩ := sub_spec y x
    rw [List.flatMap_cons]
    refine ⟨norm_append.2 ⟨s1, i1, fun a ha b hb => ?_⟩, fun b hb z hz => ?_, fun d => ?_⟩
    · have := (s2 a ha).2
      have := i2 y.2 h2 b hb
      omega
    · rcases List.mem_append.1 hz with hz | hz
      · have := (s2 z hz).1
        have := hb y (by simp)
        omega
      · exact i2 b (fun u hu => hb u (by simp [hu])) z hz
    · rw [covers_append, s3, i3, covers_cons]
      cases hasR y d <;> cases covers o d <;> cases hasR x d <;> rfl
theorem gaps_from : ∀ (l o : List R), Norm o → Norm (l.foldl (fun o x => o.flatMap fun y => subR y x) o) ∧ ∀ d, covers (l.foldl (fun o x => o.flatMap fun y => subR y x) o) d = (covers o d && !covers l d)
  | [], o, h => ⟨h, fun d => by simp [covers]⟩
  | x :: l, o, h => by
    rw [List.foldl_cons]
    obtain ⟨c1, -, c2⟩ := cut_spec o x h
    obtain ⟨h1, h2⟩ := gaps_from l _ c1
    refine ⟨h1, fun d => ?_⟩
    rw [h2, c2, covers_cons]
    cases covers o d <;> cases hasR x d <;> cases covers l d <;> rfl
theorem gaps_norm (l : List R) (w : R) : Norm (gapsR l w) := by
  unfold gapsR
  split
  · rename_i h
    exact (gaps_from l [w] (norm_cons.2 ⟨h, fun y h => (by cases h), .nil⟩)).1
  · exact .nil
theorem gaps_covers (l : List R) (w : R) (d : Int) : covers (gapsR l w) d = (hasR w d && !covers l d) := by
  unfold gapsR
  split
  · rename_i h
    rw [(gaps_from l [w] (norm_cons.2 ⟨h, fun y h => (by cases h), .nil⟩)).2]
    show ((hasR w d || false) && _) = _
    rw [Bool.or_false]
  · rename_i h
    have : hasR w d = false := by
      cases hh : hasR w d
      · rfl
      · rw [has_iff] at hh
        exact absurd ((ne_iff w).2 ⟨by omega, by omega, by omega⟩) h
    rw [this]; rfl
theorem gaps_is {l g : List R} {w : R} (h : Norm g) (hc : ∀ d, covers g d = (hasR w d && !covers l d)) : gapsR l w = g :=
  norm_unique (gaps_norm l w) h fun d => by rw [gaps_covers, hc]

/-! ### boundaries -/
def Up (l : List Int) : Prop := l.Pairwise (· < ·)
theorem up_unique : ∀ {l m : List Int}, Up l → Up m → (∀ x, x ∈ l ↔ x ∈ m) → l = m
  | [], [], _, _, _ => rfl
  | [], y :: m, _, _, h => by have := (h y).2 (by simp); cases this
  | x :: l, [], _, _, h => by have := (h x).1 (by simp); cases this
  | x :: l, y :: m, hl, hm, h => by
    obtain ⟨l1, l2⟩ := List.pairwise_cons.1 hl
    obtain ⟨m1, m2⟩ := List.pairwise_cons.1 hm
    have e : x = y := by
      have a := List.mem_cons.1 ((h x).1 (by simp))
      have b := List.mem_cons.1 ((h y).2 (by simp))
      rcases a with a | a
      · exact a
      · rcases b with b | b
        · exact b.symm
        · have := m1 x a
          have := l1 y b
          omega
    subst e
    rw [up_unique l2 m2 fun z => ?_]
    constructor
    · intro hz
      rcases List.mem_cons.1 ((h z).1 (by simp [hz])) with rfl | g
      · exact absurd (l1 z hz) (by omega)
      · exact g
    · intro hz
      rcases List.mem_cons.1 ((h z).2 (by simp [hz])) with rfl | g
      · exact absurd (m1 z hz) (by omega)
      · exact g
theorem ins_up {l : List Int} (n : Int) (h : Up l) : Up (insR l n) := by
  unfold insR Up
  rw [List.pairwise_append]
  refine ⟨List.Pairwise.filter _ h, List.pairwise_cons.2 ⟨fun y hy => by simp at hy; exact hy.2, List.Pairwise.filter _ h⟩, fun a ha b hb => ?_⟩
  simp at ha hb
  omega
theorem ins_mem (l : List Int) (n x : Int) : x ∈ insR l n ↔ x = n ∨ x ∈ l := by
  unfold insR
  simp only [List.mem_append, List.mem_cons, List.mem_filter, decide_eq_true_eq]
  constructor
  · rintro (h | h | h)
    · exact .inr h.1
    · exact .inl h
    · exact .inr h.1
  · rintro (h | h)
    · exact .inr (.inl h)
    · rcases Int.lt_trichotomy x n with g | g | g
      · exact .inl ⟨h, g⟩
      · exact .inr (.inl g)
      · exact .inr (.inr ⟨h, g⟩)
theorem bnd_from : ∀ (l : List R) (o : List Int), Up o → Up (l.foldl (fun o x => if neR x then insR (insR o x.1) x.2 else o) o) ∧ ∀ n, n ∈ l.foldl (fun o x => if neR x then insR (insR o x.1) x.2 else o) o ↔ n ∈ o ∨ ∃ x ∈ l, neR x = true ∧ (n = x.1 ∨ n = x.2)
  | [], o, h => ⟨h, fun n => by simp⟩
  | x :: l, o, h => by
    rw [List.foldl_cons]
    cases hx : neR x
    · rw [if_neg (by decide)]
      obtain ⟨h1, h2⟩ := bnd_from l o h
      refine ⟨h1, fun n => ?_⟩
      rw [h2]
      simp [hx]
    · rw [if_pos rfl]
      obtain ⟨h1, h2⟩ := bnd_from l _ (ins_up x.2 (ins_up x.1 h))
      refine ⟨h1, fun n => ?_⟩
      rw [h2, ins_mem, ins_mem]
      simp only [List.mem_cons, exists_eq_or_imp, hx, true_and]
      constructor
      · rintro ((a | a | a) | a)
        · exact .inr (.inl (.inr a))
        · exact .inr (.inl (.inl a))
        · exact .inl a
        · exact .inr (.inr a)
      · rintro (a | (a | a) | a)
        · exact .inl (.inr (.inr a))
        · exact .inl (.inr (.inl a))
        · exact .inl (.inl a)
        · exact .inr a
theorem bnd_up (l : List R) : Up (bndR l) := (bnd_from l [] .nil).1
theorem bnd_mem (l : List R) (n : Int) : n ∈ bndR l ↔ ∃ x ∈ l, neR x = true ∧ (n = x.1 ∨ n = x.2) := by
  unfold bndR
  rw [(bnd_from l [] .nil).2]
  simp
theorem bnd_is {l : List R} {o : List Int} (h : Up o) (hm : ∀ n, n ∈ o ↔ ∃ x ∈ l, neR x = true ∧ (n = x.1 ∨ n = x.2)) : bndR l = o :=
  up_unique (bnd_up l) h fun n => by rw [bnd_mem, hm]

/-! ### the order of the list does not matter -/
theorem union_perm {l m : List R} (h : ∀ x, x ∈ l ↔ x ∈ m) : unionR l = unionR m :=
  union_is (union_norm m) fun d => by
    rw [union_covers, Bool.eq_iff_iff, covers_iff, covers_iff]
    exact ⟨fun ⟨r, a, b⟩ => ⟨r, (h r).2 a, b⟩, fun ⟨r, a, b⟩ => ⟨r, (h r).1 a, b⟩⟩
theorem gaps_perm {l m : List R} (w : R) (h : ∀ x, x ∈ l ↔ x ∈ m) : gapsR l w = gapsR m w :=
  gaps_is (gaps_norm m w) fun d => by
    rw [gaps_covers]
    congr 2
    rw [Bool.eq_iff_iff, covers_iff, covers_iff]
    exact ⟨fun ⟨r, a, b⟩ => ⟨r, (h r).2 a, b⟩, fun ⟨r, a, b⟩ => ⟨r, (h r).1 a, b⟩⟩
theorem bnd_perm {l m : List R} (h : ∀ x, x ∈ l ↔ x ∈ m) : bndR l = bndR m :=
  bnd_is (bnd_up m) fun n => by
    rw [bnd_mem]
    exact ⟨fun ⟨r, a, b⟩ => ⟨r, (h r).2 a, b⟩, fun ⟨r, a, b⟩ => ⟨r, (h r).1 a, b⟩⟩
end Go.Proofs.YtmmohbmgodiilaaDoor.rng
namespace Go.Proofs.YtmmohbmgodiilaaDoor.wd
set_option linter.unusedVariables false

def dayR (d : Int) : Bool := decide (0 ≤ d) && decide (d ≤ 109572)
/-- increasing dates, all behind p -/
def upR : Int → List Int → Bool
  | _, [] => true
  | p, x :: l => decide (p < x) && decide (x ≤ 109572) && upR x l
def calR (wk : Int) (hs : List Int) : Bool := decide (0 ≤ wk) && decide (wk ≤ 126) && decide (hs.length ≤ 64) && upR (-1) hs
def bitR (wk : Int) : Nat → Int
  | 0 => wk
  | k + 1 => bitR (wk / 2) k
def wdR (wk : Int) (hs : List Int) (d : Int) : Bool := calR wk hs && dayR d && !(hs.contains d) && decide (bitR wk (d % 7).toNat % 2 = 0)
def nextFrom (wk : Int) (hs : List Int) : Nat → Int → Int × Int
  | 0, d => (0, 6)
  | k + 1, d => if wdR wk hs d then (d, 0) else nextFrom wk hs k (d + 1)
def nextR (wk : Int) (hs : List Int) (d : Int) : Int × Int :=
  if !calR wk hs then (0, 1) else if !dayR d then (0, 3) else nextFrom wk hs (109573 - d).toNat d
def addFrom (wk : Int) (hs : List Int) : Nat → Int → Int → Int × Int
  | 0, d, n => (0, 6)
  | k + 1, d, n => if wdR wk hs (d + 1) then (if n = 1 then (d + 1, 0) else addFrom wk hs k (d + 1) (n - 1)) else addFrom wk hs k (d + 1) n
def addR (wk : Int) (hs : List Int) (d n : Int) : Int × Int :=
  if !calR wk hs then (0, 1) else if !dayR d || decide (n < 0) || decide (365 < n) then (0, 3) else if n = 0 then nextR wk hs d else addFrom wk hs (109572 - d).toNat d n
def cntFrom (wk : Int) (hs : List Int) : Nat → Int → Int
  | 0, d => 0
  | k + 1, d => (if wdR wk hs d then 1 else 0) + cntFrom wk hs k (d + 1)
def spanR (a b : Int) : Bool := decide (0 ≤ a) && (decide (a ≤ b) && decide (b ≤ 109573))
def cntR (wk : Int) (hs : List Int) (a b : Int) : Int := if calR wk hs && spanR a b then cntFrom wk hs (b - a).toNat a else 0

theorem day_iff (d : Int) : dayR d = true ↔ 0 ≤ d ∧ d ≤ 109572 := by simp [dayR]
theorem cnt_bounds (wk : Int) (hs : List Int) : ∀ (k : Nat) (d : Int), 0 ≤ cntFrom wk hs k d ∧ cntFrom wk hs k d ≤ k
  | 0, d => by simp [cntFrom]
  | k + 1, d => by
    have := cnt_bounds wk hs k (d + 1)
    unfold cntFrom
    split <;> omega
theorem cnt_add (wk : Int) (hs : List Int) : ∀ (j k : Nat) (d : Int), cntFrom wk hs (j + k) d = cntFrom wk hs j d + cntFrom wk hs k (d + j)
  | 0, k, d => by simp [cntFrom]
  | j + 1, k, d => by
    rw [show j + 1 + k = (j + k) + 1 by omega, cntFrom, cntFrom, cnt_add wk hs j k (d + 1), show d + 1 + (j : Int) = d + ((j + 1 : Nat) : Int) by omega]
    omega
theorem cnt_last (wk : Int) (hs : List Int) (k : Nat) (d : Int) : cntFrom wk hs (k + 1) d = cntFrom wk hs k d + if wdR wk hs (d + k) then 1 else 0 := by
  rw [cnt_add wk hs k 1 d]; simp [cntFrom]
/-- two adjacent spans -/
theorem cntR_add {wk : Int} {hs : List Int} {a b c : Int} (h0 : 0 ≤ a) (h1 : a ≤ b) (h2 : b ≤ c) (h3 : c ≤ 109573) : cntR wk hs a b + cntR wk hs b c = cntR wk hs a c := by
  have s1 : spanR a b = true := by simp [spanR]; omega
  have s2 : spanR b c = true := by simp [spanR]; omega
  have s3 : spanR a c = true := by simp [spanR]; omega
  unfold cntR
  rw [s1, s2, s3]
  cases calR wk hs
  · rfl
  · simp only [Bool.and_self, if_true]
    rw [show (c - a).toNat = (b - a).toNat + (c - b).toNat by omega, cnt_add, show a + (((b - a).toNat : Nat) : Int) = b by omega]
theorem wd_cal {wk : Int} {hs : List Int} {d : Int} (h : wdR wk hs d = true) : calR wk hs = true ∧ dayR d = true := by
  unfold wdR at h; simp only [Bool.and_eq_true] at h; exact ⟨h.1.1.1, h.1.1.2⟩
theorem nextFrom_ok {wk : Int} {hs : List Int} : ∀ {k : Nat} {d x : Int}, nextFrom wk hs k d = (x, 0) → wdR wk hs x = true
  | 0, d, x, h => by simp [nextFrom] at h
  | k + 1, d, x, h => by
    unfold nextFrom at h
    split at h
    · rename_i g; cases h; exact g
    · exact nextFrom_ok h
theorem nextR_ok {wk : Int} {hs : List Int} {d x : Int} (h : nextR wk hs d = (x, 0)) : wdR wk hs x = true := by
  unfold nextR at h
  split at h
  · cases h
  · split at h
    · cases h
    · exact nextFrom_ok h
/-- Next of a working day is that day -/
theorem nextR_at {wk : Int} {hs : List Int} {d : Int} (h : wdR wk hs d = true) : nextR wk hs d = (d, 0) := by
  obtain ⟨h1, h2⟩ := wd_cal h
  have h3 := (day_iff d).1 h2
  unfold nextR
  rw [h1, h2, if_neg (by decide), if_neg (by decide), show (109573 - d).toNat = (109572 - d).toNat + 1 by omega, nextFrom, h, if_pos rfl]
theorem addFrom_ok {wk : Int} {hs : List Int} : ∀ {k : Nat} {d n x : Int}, addFrom wk hs k d n = (x, 0) → 1 ≤ n → ∃ j : Nat, x = d + 1 + j ∧ j < k ∧ wdR wk hs x = true ∧ cntFrom wk hs (j + 1) (d + 1) = n
  | 0, d, n, x, h, _ => by simp [addFrom] at h
  | k + 1, d, n, x, h, hn => by
    unfold addFrom at h
    split at h
    · rename_i g
      split at h
      · rename_i g2
        cases h
        exact ⟨0, by simp, by omega, g, by simp [cntFrom, g, g2]⟩
      · obtain ⟨j, hx, hj, hw, hc⟩ := addFrom_ok h (by omega)
        refine ⟨j + 1, by omega, by omega, hw, ?_⟩
        rw [cntFrom, g, if_pos rfl, hc]; omega
    · rename_i g
      obtain ⟨j, hx, hj, hw, hc⟩ := addFrom_ok h hn
      refine ⟨j + 1, by omega, by omega, hw, ?_⟩
      rw [cntFrom, if_neg g, hc]; omega
/-- the n-th working day: it is one, and n of them lie up to it -/
theorem addR_ok {wk : Int} {hs : List Int} {d n x : Int} (h : addR wk hs d n = (x, 0)) (hn : 1 ≤ n) : d < x ∧ 0 ≤ d ∧ x ≤ 109572 ∧ wdR wk hs x = true ∧ cntR wk hs (d + 1) (x + 1) = n := by
  unfold addR at h
  split at h
  · cases h
  · rename_i g1
    split at h
    · cases h
    · rename_i g2
      rw [if_neg (by omega)] at h
      obtain ⟨j, hx, hj, hw, hc⟩ := addFrom_ok h hn
      simp only [Bool.or_eq_true, Bool.not_eq_true', decide_eq_true_eq, not_or] at g2
      have h3 := (day_iff d).1 (by simpa using g2.1.1)
      have h4 := (day_iff x).1 (wd_cal hw).2
      refine ⟨by omega, h3.1, h4.2, hw, ?_⟩
      have s : spanR (d + 1) (x + 1) = true := by simp [spanR]; omega
      unfold cntR
      rw [s, (wd_cal hw).1, Bool.and_self, if_pos rfl, show (x + 1 - (d + 1)).toNat = j + 1 by omega, hc]
theorem addR_range {wk : Int} {hs : List Int} {d n x : Int} (h : addR wk hs d n = (x, 0)) : 0 ≤ n ∧ n ≤ 365 := by
  unfold addR at h
  split at h
  · cases h
  · split at h
    · cases h
    · rename_i g2
      simp only [Bool.or_eq_true, decide_eq_true_eq, not_or] at g2
      omega
end Go.Proofs.YtmmohbmgodiilaaDoor.wd
namespace Go.Proofs.YtmmohbmgodiilaaDoor.mon
open Go.Proofs.YtmmohbmgodiilaaDoor.cal (dby cum dim diy okD okD_iff Is kOf jOf dOf fromR toR)
set_option linter.unusedVariables false

def okM (m : Int) : Bool := decide (0 ≤ m) && decide (m ≤ 3599)
def fdR (n : Int) : Int := if okD n then 12 * (kOf n : Int) + jOf n else -1
def daysR (m : Int) : Int := if okM m then dim (1900 + m / 12) (m % 12 + 1) else 0
def fromM (m : Int) : Int := dby (m / 12).toNat + cum (1900 + m / 12) (m % 12).toNat
def rangeR (m : Int) : (Int × Int) × Int := if okM m then ((fromM m, fromM m + daysR m), 0) else ((0, 0), 3)
def overR (m a b : Int) : Int := if okM m && rng.okR (a, b) then max 0 (min (fromM m + daysR m) b - max (fromM m) a) else 0
/-- the last working day ahead of day n -/
def lastW (wk : Int) (hs : List Int) : Nat → Int × Int
  | 0 => (0, 6)
  | n + 1 => if wd.wdR wk hs n then (n, 0) else lastW wk hs n
def payR (m wk : Int) (hs : List Int) (day : Int) : Int × Int :=
  if !wd.calR wk hs || decide (day < 1) || decide (31 < day) then (0, 1) else if !okM m then (0, 3) else lastW wk hs (fromM m + min day (daysR m)).toNat

theorem okM_iff (m : Int) : okM m = true ↔ 0 ≤ m ∧ m ≤ 3599 := by simp [okM]
theorem days_bd {m : Int} (h : okM m = true) : 28 ≤ daysR m ∧ daysR m ≤ 31 := by
  obtain ⟨h0, h1⟩ := (okM_iff m).1 h
  unfold daysR
  rw [if_pos h]
  have := cal.dim_pos (y := 1900 + m / 12) (m := m % 12 + 1) (by omega) (by omega)
  have := cal.dim_bd (1900 + m / 12) (m % 12 + 1)
  omega
theorem days_dim {m : Int} (h : okM m = true) : daysR m = dim (1900 + (((m / 12).toNat : Nat) : Int)) ((((m % 12).toNat : Nat) : Int) + 1) := by
  obtain ⟨h0, h1⟩ := (okM_iff m).1 h
  unfold daysR
  rw [if_pos h, show 1900 + (((m / 12).toNat : Nat) : Int) = 1900 + m / 12 by omega, show (((m % 12).toNat : Nat) : Int) + 1 = m % 12 + 1 by omega]
theorem from_eq {m : Int} (h : okM m = true) : fromM m = dby (m / 12).toNat + cum (1900 + (((m / 12).toNat : Nat) : Int)) (m % 12).toNat := by
  obtain ⟨h0, h1⟩ := (okM_iff m).1 h
  unfold fromM
  rw [show 1900 + (((m / 12).toNat : Nat) : Int) = 1900 + m / 12 by omega]
/-- the d-th day of month m -/
theorem is_day {m d : Int} (h : okM m = true) (d0 : 1 ≤ d) (d1 : d ≤ daysR m) : Is (fromM m + (d - 1)) (m / 12).toNat (m % 12).toNat d := by
  obtain ⟨h0, h1⟩ := (okM_iff m).1 h
  rw [days_dim h] at d1
  exact ⟨by omega, by omega, d0, d1, by rw [from_eq h]⟩
theorem fd_of {n : Int} {k j : Nat} {d : Int} (h : Is n k j d) : fdR n = 12 * (k : Int) + j := by
  unfold fdR
  rw [if_pos h.ok]
  obtain ⟨e1, e2, e3⟩ := (Is.of n h.ok).unique h
  rw [e1, e2]
theorem fd_in {m x : Int} (h : okM m = true) (h0 : fromM m ≤ x) (h1 : x < fromM m + daysR m) : fdR x = m ∧ okD x = true := by
  obtain ⟨m0, m1⟩ := (okM_iff m).1 h
  have I := is_day (d := x - fromM m + 1) h (by omega) (by omega)
  rw [show fromM m + (x - fromM m + 1 - 1) = x by omega] at I
  refine ⟨?_, I.ok⟩
  rw [fd_of I]; omega
theorem fd_ok {n : Int} (h : okD n = true) : okM (fdR n) = true ∧ fromM (fdR n) ≤ n ∧ n < fromM (fdR n) + daysR (fdR n) := by
  have I := Is.of n h
  have e : fdR n = 12 * (kOf n : Int) + jOf n := by unfold fdR; rw [if_pos h]
  have k1 := I.k1
  have j1 := I.j1
  have ho : okM (fdR n) = true := (okM_iff _).2 (by omega)
  refine ⟨ho, ?_⟩
  have e1 : (fdR n / 12).toNat = kOf n := by omega
  have e2 : (fdR n % 12).toNat = jOf n := by omega
  rw [from_eq ho, days_dim ho, e1, e2]
  have := I.n1
  have := I.d0
  have := I.d1
  omega
theorem fd_out {n : Int} (h : okD n = false) : fdR n = -1 := by unfold fdR; rw [h]; rfl
theorem from_bd {m : Int} (h : okM m = true) : 0 ≤ fromM m ∧ fromM m + daysR m ≤ 109573 := by
  have hb := days_bd h
  have h1 := (okD_iff _).1 (fd_in h (Int.le_refl _) (by omega)).2
  have h2 := (okD_iff _).1 (fd_in (x := fromM m + daysR m - 1) h (by omega) (by omega)).2
  omega
theorem from_r {m : Int} (h : okM m = true) : fromR (1900 + m / 12) (m % 12 + 1) 1 = (fromM m, 0) := by
  obtain ⟨h0, h1⟩ := (okM_iff m).1 h
  have hb := days_bd h
  have I := (is_day (d := 1) h (by omega) (by omega)).from
  rw [show 1900 + (((m / 12).toNat : Nat) : Int) = 1900 + m / 12 by omega, show (((m % 12).toNat : Nat) : Int) + 1 = m % 12 + 1 by omega, show fromM m + (1 - 1) = fromM m by omega] at I
  exact I
/-- months follow one another -/
theorem from_next {m : Int} (h0 : 0 ≤ m) (h1 : m < 3599) : fromM (m + 1) = fromM m + daysR m := by
  have h : okM m = true := (okM_iff m).2 ⟨h0, by omega⟩
  have h' : okM (m + 1) = true := (okM_iff _).2 ⟨by omega, by omega⟩
  rw [from_eq h', from_eq h, days_dim h]
  by_cases g : m % 12 = 11
  · rw [show ((m + 1) / 12).toNat = (m / 12).toNat + 1 by omega, show ((m + 1) % 12).toNat = 0 by omega, show (m % 12).toNat = 11 by omega, cal.dby_step]
    have c := cal.cum_12 (1900 + (((m / 12).toNat : Nat) : Int))
    rw [cal.cum_step] at c
    rw [show cum (1900 + (((m / 12).toNat + 1 : Nat) : Int)) 0 = 0 from rfl]
    omega
  · rw [show ((m + 1) / 12).toNat = (m / 12).toNat by omega, show ((m + 1) % 12).toNat = (m % 12).toNat + 1 by omega, cal.cum_step]
    omega
theorem from_zero : fromM 0 = 0 := by decide +kernel
theorem from_last : fromM 3599 + daysR 3599 = 109573 := by decide +kernel
/-- the overlap with a range is the sum of the overlaps with its parts -/
theorem over_add {m a b c : Int} (h0 : 0 ≤ a) (h1 : a ≤ b) (h2 : b ≤ c) (h3 : c ≤ 109573) : overR m a c = overR m a b + overR m b c ∧ 0 ≤ overR m a b ∧ 0 ≤ overR m b c := by
  have r1 : rng.okR (a, c) = true := by simp [rng.okR]; omega
  have r2 : rng.okR (a, b) = true := by simp [rng.okR]; omega
  have r3 : rng.okR (b, c) = true := by simp [rng.okR]; omega
  unfold overR
  rw [r1, r2, r3]
  cases h : okM m
  · simp
  · have hb := days_bd h
    simp only [Bool.and_self, if_true]
    omega
theorem over_one {n : Int} (h : okD n = true) : overR (fdR n) n (n + 1) = 1 := by
  obtain ⟨h1, h2, h3⟩ := fd_ok h
  obtain ⟨n0, n1⟩ := (okD_iff n).1 h
  have r : rng.okR (n, n + 1) = true := by simp [rng.okR]; omega
  unfold overR
  rw [h1, r]
  simp only [Bool.and_self, if_true]
  omega
theorem over_bd {m a b : Int} : 0 ≤ overR m a b ∧ overR m a b ≤ 31 := by
  unfold overR
  cases h : okM m
  · simp
  · have hb := days_bd h
    split <;> omega
theorem last_bd (wk : Int) (hs : List Int) : ∀ (n : Nat) (x e : Int), lastW wk hs n = (x, e) → 0 ≤ x ∧ x ≤ n
  | 0, x, e, h => by simp [lastW] at h; omega
  | n + 1, x, e, h => by
    unfold lastW at h
    split at h
    · cases h; omega
    · have := last_bd wk hs n x e h; omega
end Go.Proofs.YtmmohbmgodiilaaDoor.mon
namespace Go.Proofs.YtmmohbmgodiilaaDoor.num
open Go

/-- a decimal digit -/
def dig (c : UInt8) : Bool := decide (48 ≤ c.toNat) && decide (c.toNat ≤ 57)
/-- all bytes are digits -/
def digs (l : List UInt8) : Bool := l.all dig
/-- the number that digits stand for -/
def valF (m : Nat) (l : List UInt8) : Nat := l.foldl (fun m c => 10 * m + (c.toNat - 48)) m
def val (l : List UInt8) : Nat := valF 0 l
/-- digits without a superfluous leading zero -/
def whole (l : List UInt8) : Bool := !l.isEmpty && !(l.head? == some 48 && !(l == [48])) && digs l
/-- the number with a sign, or the error -/
def sgn (n : Nat) (neg : Bool) : Int × Int :=
  if 4611686018427387904 < n then (0, 3) else if neg then (if n = 0 then (0, 2) else (-(n : Int), 0)) else ((n : Int), 0)
def minus (l : List UInt8) : Bool := l.head? == some 45
def unsigned (l : List UInt8) : List UInt8 := if minus l then l.drop 1 else l
def parseI (l : List UInt8) : Int × Int := if whole (unsigned l) then sgn (val (unsigned l)) (minus l) else (0, 2)
/-- the places, clamped -/
def clamp (p : Int) : Nat := (min (max p 0) 9).toNat
def padTo (k : Nat) (d : List UInt8) : List UInt8 := List.replicate (k - d.length) 48 ++ d
def fixL (k : Nat) (n : Int) : List UInt8 :=
  if k = 0 then Lib.itoa n else
  (if n < 0 then [45] else []) ++ ((padTo (k + 1) (Lib.decDigits n.natAbs)).take ((padTo (k + 1) (Lib.decDigits n.natAbs)).length - k) ++ 46 :: (padTo (k + 1) (Lib.decDigits n.natAbs)).drop ((padTo (k + 1) (Lib.decDigits n.natAbs)).length - k))
/-- what stands before and behind the first point, and whether there is one -/
def cutDot (l : List UInt8) : List UInt8 × List UInt8 × Bool := Lib.cut l [46]
def parseF (k : Nat) (l : List UInt8) : Int × Int :=
  if k = 0 then parseI l else
  if (cutDot (unsigned l)).2.2 && whole (cutDot (unsigned l)).1 && decide ((cutDot (unsigned l)).2.1.length = k) && digs (cutDot (unsigned l)).2.1
  then sgn (val ((cutDot (unsigned l)).1 ++ (cutDot (unsigned l)).2.1)) (minus l) else (0, 2)

theorem dig_iff (c : UInt8) : dig c = true ↔ 48 ≤ c.toNat ∧ c.toNat ≤ 57 := by simp [dig]

/-! ### a range over a string -/
theorem get_of (s : ByteArray) (i : Nat) (h : i < s.size) : s.get! i = s[i]'h := by
  have := get_at s i h
  simpa using this

/-- A step of a range over a string: a byte below 128 is its own rune; else the rune is 128 or more, and it takes bytes that are all 128 or more. -/
theorem decode_step (s : ByteArray) (pos : Nat) (h : pos < s.size) :
    1 ≤ (Utf8.decode s pos).2 ∧ pos + (Utf8.decode s pos).2 ≤ s.size ∧
    (((s[pos]'h).toNat < 128 ∧ (Utf8.decode s pos).1 = (s[pos]'h).toNat ∧ (Utf8.decode s pos).2 = 1) ∨
     (128 ≤ (s[pos]'h).toNat ∧ 128 ≤ (Utf8.decode s pos).1 ∧ ∀ j (hj : j < s.size), pos ≤ j → j < pos + (Utf8.decode s pos).2 → 128 ≤ (s[j]'hj).toNat)) := by
  by_cases ha : (s[pos]'h).toNat < 128
  · rw [decode_ascii s pos h ha]
    exact ⟨by simp, by simp; omega, .inl ⟨ha, rfl, rfl⟩⟩
  · have hd := decode_high s pos h (by omega)
    have key : (Utf8.decode s pos).2 = 1 ∨ (∀ j, 1 ≤ j → j < (Utf8.decode s pos).2 → pos + j < s.size ∧ 128 ≤ (s.get! (pos + j)).toNat) := by
      have hn : ¬ (s.get! (pos + 0)).toNat < 128 := by rw [get_at s pos h]; exact ha
      have hn' : ¬ (s.get! (pos + 0)).toNat < 0x80 := hn
      simp only [Utf8.decode, hn', if_false]
      have hc : ∀ k, (decide (pos + k < s.size) && (s.get! (pos + k)).toNat / 64 == 2) = true → pos + k < s.size ∧ 128 ≤ (s.get! (pos + k)).toNat := by
        intro k hk
        simp only [Bool.and_eq_true, decide_eq_true_eq, beq_iff_eq] at hk
        exact ⟨hk.1, by omega⟩
      by_cases c1 : ((s.get! (pos + 0)).toNat / 32 == 6 && (decide (pos + 1 < s.size) && (s.get! (pos + 1)).toNat / 64 == 2)) = true
      · simp only [c1, if_true]
        simp only [Bool.and_eq_true] at c1
        have c1' := hc 1 (by simp only [Bool.and_eq_true]; exact c1.2)
        split
        · right
          intro j h1 h2
          obtain rfl : j = 1 := by simp at h2; omega
          exact c1'
        · left; rfl
      · simp only [c1, Bool.false_eq_true, if_false]
        by_cases c2 : ((s.get! (pos + 0)).toNat / 16 == 14 && (decide (pos + 1 < s.size) && (s.get! (pos + 1)).toNat / 64 == 2) && (decide (pos + 2 < s.size) && (s.get! (pos + 2)).toNat / 64 == 2)) = true
        · simp only [c2, if_true]
          rw [Bool.and_eq_true] at c2
          have hA := c2.1
          rw [Bool.and_eq_true] at hA
          have c1' := hc 1 hA.2
          have c2' := hc 2 c2.2
          split
          · right
            intro j h1 h2
            simp at h2
            rcases (by omega : j = 1 ∨ j = 2) with rfl | rfl
            · exact c1'
            · exact c2'
          · left; rfl
        · simp only [c2, Bool.false_eq_true, if_false]
          by_cases c3 : ((s.get! (pos + 0)).toNat / 8 == 30 && (decide (pos + 1 < s.size) && (s.get! (pos + 1)).toNat / 64 == 2) && (decide (pos + 2 < s.size) && (s.get! (pos + 2)).toNat / 64 == 2) && (decide (pos + 3 < s.size) && (s.get! (pos + 3)).toNat / 64 == 2)) = true
          · simp only [c3, if_true]
            rw [Bool.and_eq_true] at c3
            have hA := c3.1
            rw [Bool.and_eq_true] at hA
            have hB := hA.1
            rw [Bool.and_eq_true] at hB
            have c1' := hc 1 hB.2
            have c2' := hc 2 hA.2
            have c3' := hc 3 c3.2
            split
            · right
              intro j h1 h2
              simp at h2
              rcases (by omega : j = 1 ∨ j = 2 ∨ j = 3) with rfl | rfl | rfl
              · exact c1'
              · exact c2'
              · exact c3'
            · left; rfl
          · simp only [c3, Bool.false_eq_true, if_false]
            left; trivial
    refine ⟨hd.2, ?_, .inr ⟨by omega, hd.1, ?_⟩⟩
    · rcases key with k | k
      · omega
      · rcases Nat.lt_or_ge 1 (Utf8.decode s pos).2 with g | g
        · have := (k ((Utf8.decode s pos).2 - 1) (by omega) (by omega)).1
          omega
        · omega
    · intro j hj h1 h2
      rcases Nat.eq_or_lt_of_le h1 with e | e
      · subst e; omega
      · rcases key with k | k
        · omega
        · have := (k (j - pos) (by omega) (by omega)).2
          rw [show pos + (j - pos) = j by omega, get_of s j hj] at this
          exact this

theorem take_snoc (s : ByteArray) (k : Nat) (h : k < s.size) : s.data.toList.take (k + 1) = s.data.toList.take k ++ [s[k]'h] := by
  rw [List.take_succ_eq_append_getElem (by simpa using h)]; rfl
theorem drop_cons (s : ByteArray) (k : Nat) (h : k < s.size) : s.data.toList.drop k = (s[k]'h) :: s.data.toList.drop (k + 1) := by
  rw [List.drop_eq_getElem_cons (by simpa using h)]; rfl
theorem take_all (s : ByteArray) (k : Nat) (h : s.size ≤ k) : s.data.toList.take k = s.data.toList := List.take_of_length_le (by simpa using h)

theorem digs_at (s : ByteArray) (h : digs s.data.toList = true) (k : Nat) (hk : k < s.size) : 48 ≤ (s[k]'hk).toNat ∧ (s[k]'hk).toNat ≤ 57 := by
  have := List.all_eq_true.1 h (s[k]'hk) (by
    have : (s[k]'hk) = s.data.toList[k]'(by simpa using hk) := by simp; rfl
    rw [this]; exact List.getElem_mem _)
  exact (dig_iff _).1 this
theorem digs_stop (s : ByteArray) (k : Nat) (hk : k < s.size) (h : (s[k]'hk).toNat < 48 ∨ 57 < (s[k]'hk).toNat) : digs s.data.toList = false := by
  rw [Bool.eq_false_iff]
  intro hc
  have := digs_at s hc k hk
  omega
theorem digs_snoc (l : List UInt8) (c : UInt8) : digs (l ++ [c]) = (digs l && dig c) := by simp [digs]

end Go.Proofs.YtmmohbmgodiilaaDoor.num
namespace Go.Proofs.YtmmohbmgodiilaaDoor.num
open Go

theorem u8_ofNat (d : Nat) (h : d < 10) : (UInt8.ofNat (48 + d)).toNat = 48 + d := by
  rw [UInt8.toNat_ofNat']; exact Nat.mod_eq_of_lt (by omega)
theorem dec_small {u : Nat} (h : u < 10) : Lib.decDigits u = [UInt8.ofNat (48 + u)] := by rw [Lib.decDigits, dif_pos h]
theorem dec_big {u : Nat} (h : ¬ u < 10) : Lib.decDigits u = Lib.decDigits (u / 10) ++ [UInt8.ofNat (48 + u % 10)] := by rw [Lib.decDigits, dif_neg h]

theorem dec_digs (u : Nat) : digs (Lib.decDigits u) = true := by
  induction u using Nat.strongRecOn with
  | _ u ih =>
    by_cases h : u < 10
    · rw [dec_small h]
      have := u8_ofNat u h
      simp only [digs, List.all_cons, List.all_nil, Bool.and_true]
      exact (dig_iff _).2 (by omega)
    · rw [dec_big h, digs_snoc, ih _ (by omega), Bool.true_and]
      have := u8_ofNat (u % 10) (by omega)
      exact (dig_iff _).2 (by omega)
theorem valF_app (m : Nat) (l : List UInt8) (c : UInt8) : valF m (l ++ [c]) = 10 * valF m l + (c.toNat - 48) := by simp [valF]
theorem dec_val (u : Nat) : val (Lib.decDigits u) = u := by
  induction u using Nat.strongRecOn with
  | _ u ih =>
    by_cases h : u < 10
    · rw [dec_small h]
      have := u8_ofNat u h
      simp only [val, valF, List.foldl_cons, List.foldl_nil]
      omega
    · rw [dec_big h]
      have e := ih (u / 10) (by omega)
      unfold val at e ⊢
      rw [valF_app, e]
      have := u8_ofNat (u % 10) (by omega)
      omega
theorem dec_ne (u : Nat) : Lib.decDigits u ≠ [] := by
  by_cases h : u < 10
  · rw [dec_small h]; simp
  · rw [dec_big h]; simp
theorem dec_head (u : Nat) (h0 : 1 ≤ u) : (Lib.decDigits u).head? ≠ some 48 := by
  induction u using Nat.strongRecOn with
  | _ u ih =>
    by_cases h : u < 10
    · rw [dec_small h]
      have := u8_ofNat u h
      intro e
      simp only [List.head?_cons, Option.some.injEq] at e
      rw [e] at this
      have h48 : (48 : UInt8).toNat = 48 := rfl
      omega
    · rw [dec_big h]
      have i := ih (u / 10) (by omega) (by omega)
      cases hh : Lib.decDigits (u / 10) with
      | nil => exact absurd hh (dec_ne _)
      | cons c t => rw [hh] at i; simpa using i
theorem dec_whole (u : Nat) : whole (Lib.decDigits u) = true := by
  unfold whole
  rw [dec_digs, Bool.and_true, Bool.and_eq_true]
  refine ⟨by simp [dec_ne], ?_⟩
  by_cases h0 : u = 0
  · subst h0; rw [dec_small (by decide)]; decide
  · have := dec_head u (by omega)
    simp [this]
theorem dec_minus (u : Nat) : minus (Lib.decDigits u) = false := by
  have hd := dec_digs u
  unfold minus
  cases hl : Lib.decDigits u with
  | nil => rfl
  | cons c t =>
    rw [hl] at hd
    simp only [digs, List.all_cons, Bool.and_eq_true] at hd
    have := (dig_iff c).1 hd.1
    have h45 : ¬ c = 45 := fun e => by rw [e] at this; have : (45 : UInt8).toNat = 45 := rfl; omega
    simp [h45]
theorem itoa_neg {n : Int} (h : n < 0) : Lib.itoa n = 45 :: Lib.decDigits n.natAbs := by unfold Lib.itoa; rw [if_pos h]
theorem itoa_pos {n : Int} (h : ¬ n < 0) : Lib.itoa n = Lib.decDigits n.natAbs := by
  unfold Lib.itoa; rw [if_neg h]; congr 1; omega
theorem minus_itoa (n : Int) : minus (Lib.itoa n) = decide (n < 0) := by
  by_cases h : n < 0
  · rw [itoa_neg h]; simp [minus, h]
  · rw [itoa_pos h, dec_minus]; simp [h]
theorem unsigned_itoa (n : Int) : unsigned (Lib.itoa n) = Lib.decDigits n.natAbs := by
  unfold unsigned
  rw [minus_itoa]
  by_cases h : n < 0
  · rw [itoa_neg h]; simp [h]
  · rw [itoa_pos h]; simp [h]
/-- what parsing a formatted number answers -/
def back (n : Int) : Int × Int := if n < -4611686018427387904 ∨ 4611686018427387904 < n then (0, 3) else (n, 0)
theorem sgn_abs (n : Int) : sgn n.natAbs (decide (n < 0)) = back n := by
  unfold sgn back
  by_cases h : 4611686018427387904 < n.natAbs
  · rw [if_pos h, if_pos (by omega)]
  · have hb : ¬ (n < -4611686018427387904 ∨ 4611686018427387904 < n) := by omega
    rw [if_neg h, if_neg (c := n < -4611686018427387904 ∨ 4611686018427387904 < n) hb]
    by_cases hn : n < 0
    · have h0 : ¬ n.natAbs = 0 := by omega
      rw [if_pos (by simpa using hn), if_neg h0]
      congr 1; omega
    · rw [if_neg (by simpa using hn)]
      congr 1; omega
theorem parseI_itoa (n : Int) : parseI (Lib.itoa n) = back n := by
  unfold parseI
  rw [unsigned_itoa, dec_whole, if_pos rfl, dec_val, minus_itoa, sgn_abs]

/-! ### the point -/
theorem cutDot_nil : cutDot [] = ([], [], false) := rfl
theorem cutDot_dot (l : List UInt8) : cutDot (46 :: l) = ([], l, true) := by
  have : Lib.index (46 :: l) [46] = 0 := by simp [Lib.index, List.isPrefixOf]
  simp [cutDot, Lib.cut, this]
theorem cutDot_cons (c : UInt8) (l : List UInt8) (h : ¬ c = 46) : cutDot (c :: l) = if (cutDot l).2.2 then (c :: (cutDot l).1, (cutDot l).2.1, true) else (c :: l, [], false) := by
  have hp : List.isPrefixOf [46] (c :: l) = false := by simp [List.isPrefixOf]; exact fun e => h e.symm
  have hg := Lib.index_ge l [46]
  by_cases h1 : Lib.index l [46] = -1
  · have : Lib.index (c :: l) [46] = -1 := by simp [Lib.index, hp, h1]
    simp [cutDot, Lib.cut, this, h1]
  · have e : Lib.index (c :: l) [46] = Lib.index l [46] + 1 := by simp [Lib.index, hp, h1]
    have h0 : 0 ≤ Lib.index l [46] := by omega
    obtain ⟨i, hi⟩ : ∃ i : Nat, Lib.index l [46] = i := ⟨(Lib.index l [46]).toNat, by omega⟩
    rw [hi] at e
    have e1 : ((i : Int) + 1).toNat = i + 1 := by omega
    simp [cutDot, Lib.cut, e, hi, e1]
    have : (0 : Int) ≤ (i : Int) + 1 := by omega
    simp [this]
theorem cutDot_spec (l : List UInt8) : (46 ∉ l ∧ cutDot l = (l, [], false)) ∨ ∃ a b, l = a ++ 46 :: b ∧ 46 ∉ a ∧ cutDot l = (a, b, true) := by
  induction l with
  | nil => exact .inl ⟨by simp, cutDot_nil⟩
  | cons c l ih =>
    by_cases h : c = 46
    · subst h; exact .inr ⟨[], l, rfl, by simp, cutDot_dot l⟩
    · rw [cutDot_cons c l h]
      rcases ih with ⟨h1, h2⟩ | ⟨a, b, h1, h2, h3⟩
      · refine .inl ⟨?_, by rw [h2]; rfl⟩
        simp only [List.mem_cons, not_or]
        exact ⟨fun e => h e.symm, h1⟩
      · refine .inr ⟨c :: a, b, by rw [h1]; rfl, ?_, by rw [h3]; rfl⟩
        simp only [List.mem_cons, not_or]
        exact ⟨fun e => h e.symm, h2⟩
theorem digs_nodot {l : List UInt8} (h : digs l = true) : 46 ∉ l := by
  intro hm
  have := (dig_iff 46).1 (List.all_eq_true.1 h 46 hm)
  have h46 : (46 : UInt8).toNat = 46 := rfl
  omega
theorem cutDot_at {a b : List UInt8} (h : 46 ∉ a) : cutDot (a ++ 46 :: b) = (a, b, true) := by
  induction a with
  | nil => exact cutDot_dot b
  | cons c a ih =>
    simp only [List.mem_cons, not_or] at h
    have := ih h.2
    rw [List.cons_append, cutDot_cons c _ (fun e => h.1 e.symm), this]; rfl

/-! ### digits and their number -/
theorem digs_app (a b : List UInt8) : digs (a ++ b) = (digs a && digs b) := by simp [digs]
theorem digs_rep (k : Nat) : digs (List.replicate k 48) = true := by simp [digs, List.all_replicate, dig]
theorem valF_append (m : Nat) (a b : List UInt8) : valF m (a ++ b) = valF (valF m a) b := by simp [valF]
theorem valF_rep (k : Nat) : valF 0 (List.replicate k 48) = 0 := by
  induction k with
  | zero => rfl
  | succ k ih => rw [List.replicate_succ]; simpa [valF] using ih
theorem val_pad (k : Nat) (l : List UInt8) : val (padTo k l) = val l := by
  unfold val padTo; rw [valF_append, valF_rep]
theorem digs_pad (k : Nat) (l : List UInt8) : digs (padTo k l) = digs l := by
  unfold padTo; rw [digs_app, digs_rep, Bool.true_and]
theorem pad_length (k : Nat) (l : List UInt8) : (padTo k l).length = max k l.length := by
  simp [padTo]; omega
theorem valF_ge (l : List UInt8) : ∀ m, m ≤ valF m l := by
  induction l with
  | nil => intro m; exact Nat.le_refl _
  | cons c l ih => intro m; have := ih (10 * m + (c.toNat - 48)); simp only [valF, List.foldl_cons] at this ⊢; omega
theorem val_pos {c : UInt8} {l : List UInt8} (hc : dig c = true) (h : ¬ c = 48) : 1 ≤ val (c :: l) := by
  have h1 := (dig_iff c).1 hc
  have h2 : c.toNat ≠ 48 := fun e => h (UInt8.toNat_inj.1 e)
  have := valF_ge l (10 * 0 + (c.toNat - 48))
  have e : val (c :: l) = valF (10 * 0 + (c.toNat - 48)) l := rfl
  omega
/-- digits without a leading zero are the numeral of their number -/
theorem dec_of_val {c : UInt8} (h : ¬ c = 48) : ∀ (n : Nat) (l : List UInt8), l.length = n → digs (c :: l) = true → Lib.decDigits (val (c :: l)) = c :: l
  | 0, l, hn, hd => by
    obtain rfl := List.eq_nil_of_length_eq_zero hn
    have hc : dig c = true := by simpa [digs] using hd
    have h1 := (dig_iff c).1 hc
    have e : val [c] = c.toNat - 48 := by simp [val, valF]
    rw [e, dec_small (by omega)]
    congr 1
    apply UInt8.toNat_inj.1
    rw [u8_ofNat _ (by omega)]; omega
  | n + 1, l, hn, hd => by
    rcases List.eq_nil_or_concat l with rfl | ⟨t, x, rfl⟩
    · simp at hn
    · rw [List.concat_eq_append] at hn hd ⊢
      rw [← List.cons_append] at hd ⊢
      rw [digs_snoc, Bool.and_eq_true] at hd
      have hx := (dig_iff x).1 hd.2
      have ih := dec_of_val h n t (by simp at hn; omega) hd.1
      have hc : dig c = true := by
        have := hd.1; simp only [digs, List.all_cons, Bool.and_eq_true] at this; exact this.1
      have hp := val_pos (l := t) hc h
      have e : val ((c :: t) ++ [x]) = 10 * val (c :: t) + (x.toNat - 48) := valF_app _ _ _
      rw [e, dec_big (by omega), show (10 * val (c :: t) + (x.toNat - 48)) / 10 = val (c :: t) by omega, show (10 * val (c :: t) + (x.toNat - 48)) % 10 = x.toNat - 48 by omega, ih]
      congr 2
      apply UInt8.toNat_inj.1
      rw [u8_ofNat _ (by omega)]; omega
/-- digits are their number's numeral, filled up with zeros -/
theorem pad_dec : ∀ (l : List UInt8), l ≠ [] → digs l = true → padTo l.length (Lib.decDigits (val l)) = l ∧ (Lib.decDigits (val l)).length ≤ l.length
  | [], h, _ => absurd rfl h
  | c :: t, _, hd => by
    by_cases h : c = 48
    · subst h
      by_cases ht : t = []
      · subst ht; rw [show val [48] = 0 from rfl, dec_small (by decide)]; decide
      · have hd' : digs t = true := by simp only [digs, List.all_cons, Bool.and_eq_true] at hd; exact hd.2
        obtain ⟨i1, i2⟩ := pad_dec t ht hd'
        have e : val (48 :: t) = val t := rfl
        rw [e]
        refine ⟨?_, by simp; omega⟩
        unfold padTo at i1 ⊢
        rw [List.length_cons, show t.length + 1 - (Lib.decDigits (val t)).length = (t.length - (Lib.decDigits (val t)).length) + 1 by omega, List.replicate_succ, List.cons_append, i1]
    · rw [dec_of_val h t.length t rfl hd]
      simp [padTo]
theorem whole_dec {l : List UInt8} (h : whole l = true) : Lib.decDigits (val l) = l := by
  unfold whole at h
  rw [Bool.and_eq_true, Bool.and_eq_true] at h
  obtain ⟨⟨h1, h2⟩, h3⟩ := h
  cases l with
  | nil => simp at h1
  | cons c t =>
    by_cases hc : c = 48
    · subst hc
      have ht : t = [] := by simpa using h2
      subst ht
      rw [show val [48] = 0 from rfl, dec_small (by decide)]; rfl
    · exact dec_of_val hc t.length t rfl h3

theorem unsigned_back (l : List UInt8) : l = if minus l then 45 :: unsigned l else unsigned l := by
  unfold unsigned
  cases l with
  | nil => rfl
  | cons c t =>
    by_cases h : c = 45
    · subst h; rfl
    · simp [minus, h]
theorem sgn_ok {n : Nat} {m : Bool} {a : Int} (h : sgn n m = (a, 0)) : a.natAbs = n ∧ decide (a < 0) = m := by
  unfold sgn at h
  split at h
  · simp at h
  · cases m
    · simp at h; subst h; exact ⟨by simp, by simp⟩
    · simp only [if_true] at h
      split at h
      · simp at h
      · simp only [Prod.mk.injEq, and_true] at h
        subst h; exact ⟨by simp, by simp; omega⟩
theorem parseI_ok {l : List UInt8} {a : Int} (h : parseI l = (a, 0)) : Lib.itoa a = l := by
  unfold parseI at h
  split at h
  · rename_i hw
    obtain ⟨h1, h2⟩ := sgn_ok h
    have hl := unsigned_back l
    rw [← h2] at hl
    by_cases hn : a < 0
    · rw [itoa_neg hn, h1, whole_dec hw]
      rw [decide_eq_true hn, if_pos rfl] at hl; exact hl.symm
    · rw [itoa_pos hn, h1, whole_dec hw]
      rw [decide_eq_false hn] at hl; exact hl.symm
  · simp at h

/-! ### fixed-point numbers -/
theorem whole_digs' {l : List UInt8} (h : whole l = true) : digs l = true := by
  unfold whole at h; rw [Bool.and_eq_true] at h; exact h.2
theorem whole_ne {l : List UInt8} (h : whole l = true) : l ≠ [] := by
  unfold whole at h; rw [Bool.and_eq_true, Bool.and_eq_true] at h
  simpa using h.1.1
def fixBody (k : Nat) (n : Int) : List UInt8 := (padTo (k + 1) (Lib.decDigits n.natAbs)).take ((padTo (k + 1) (Lib.decDigits n.natAbs)).length - k) ++ 46 :: (padTo (k + 1) (Lib.decDigits n.natAbs)).drop ((padTo (k + 1) (Lib.decDigits n.natAbs)).length - k)
theorem fixL_eq {k : Nat} (hk : ¬ k = 0) (n : Int) : fixL k n = if n < 0 then 45 :: fixBody k n else fixBody k n := by
  unfold fixL fixBody
  rw [if_neg hk]
  by_cases h : n < 0
  · rw [if_pos h, if_pos h]; rfl
  · rw [if_neg h, if_neg h]; rfl
theorem body_parts (k : Nat) (u : Nat) : ∃ a b, padTo (k + 1) (Lib.decDigits u) = a ++ b ∧ b.length = k ∧ whole a = true ∧ digs b = true ∧ a = (padTo (k + 1) (Lib.decDigits u)).take ((padTo (k + 1) (Lib.decDigits u)).length - k) ∧ b = (padTo (k + 1) (Lib.decDigits u)).drop ((padTo (k + 1) (Lib.decDigits u)).length - k) := by
  obtain ⟨p, hp⟩ : ∃ p, padTo (k + 1) (Lib.decDigits u) = p := ⟨_, rfl⟩
  have hl : p.length = max (k + 1) (Lib.decDigits u).length := by rw [← hp, pad_length]
  have hd : digs p = true := by rw [← hp, digs_pad, dec_digs]
  rw [hp]
  refine ⟨p.take (p.length - k), p.drop (p.length - k), (List.take_append_drop _ _).symm, by simp; omega, ?_, ?_, rfl, rfl⟩
  · have hda : digs (p.take (p.length - k)) = true := by
      have := hd; rw [← List.take_append_drop (p.length - k) p, digs_app, Bool.and_eq_true] at this; exact this.1
    unfold whole
    rw [hda, Bool.and_true, Bool.and_eq_true]
    have hlen : (p.take (p.length - k)).length = p.length - k := by simp
    refine ⟨by
      have : p.take (p.length - k) ≠ [] := fun e => by rw [e] at hlen; simp at hlen; omega
      simp [this], ?_⟩
    rcases Nat.lt_or_ge (k + 1) (Lib.decDigits u).length with g | g
    · have h0 : 1 ≤ u := by
        rcases Nat.eq_zero_or_pos u with z | z
        · subst z; rw [dec_small (by decide)] at g; simp at g
        · exact z
      have hpe : p = Lib.decDigits u := by
        rw [← hp]; unfold padTo; rw [show k + 1 - (Lib.decDigits u).length = 0 by omega]; rfl
      have : (p.take (p.length - k)).head? ≠ some 48 := by
        rw [List.head?_take, if_neg (by omega), hpe]; exact dec_head u h0
      simp [this]
    · have h1 : p.length - k = 1 := by omega
      rw [h1] at hlen ⊢
      obtain ⟨c, hc⟩ : ∃ c, p.take 1 = [c] := List.length_eq_one_iff.1 hlen
      rw [hc]
      by_cases e : c = 48
      · subst e; rfl
      · simp
  · have := hd; rw [← List.take_append_drop (p.length - k) p, digs_app, Bool.and_eq_true] at this; exact this.2
theorem whole_minus {l r : List UInt8} (h : whole l = true) : minus (l ++ r) = false := by
  cases l with
  | nil => exact absurd rfl (whole_ne h)
  | cons c t =>
    have hd := whole_digs' h
    simp only [digs, List.all_cons, Bool.and_eq_true] at hd
    have := (dig_iff c).1 hd.1
    have h45 : ¬ c = 45 := fun e => by rw [e] at this; have : (45 : UInt8).toNat = 45 := rfl; omega
    simp [minus, h45]
theorem body_minus (k : Nat) (n : Int) : minus (fixBody k n) = false := by
  obtain ⟨a, b, h1, h2, h3, h4, h5, h6⟩ := body_parts k n.natAbs
  unfold fixBody; rw [← h5]; exact whole_minus h3
theorem minus_fix {k : Nat} (hk : ¬ k = 0) (n : Int) : minus (fixL k n) = decide (n < 0) := by
  rw [fixL_eq hk]
  by_cases h : n < 0
  · rw [if_pos h]; simp [minus, h]
  · rw [if_neg h, body_minus]; simp [h]
theorem unsigned_fix {k : Nat} (hk : ¬ k = 0) (n : Int) : unsigned (fixL k n) = fixBody k n := by
  unfold unsigned
  rw [minus_fix hk, fixL_eq hk]
  by_cases h : n < 0
  · simp [h]
  · simp [h]
theorem parseF_fix (k : Nat) (n : Int) : parseF k (fixL k n) = back n := by
  by_cases hk : k = 0
  · subst hk; unfold parseF fixL; simp only [if_true]; exact parseI_itoa n
  · unfold parseF
    rw [if_neg hk, unsigned_fix hk, minus_fix hk]
    obtain ⟨a, b, h1, h2, h3, h4, h5, h6⟩ := body_parts k n.natAbs
    have e : fixBody k n = a ++ 46 :: b := by unfold fixBody; rw [← h5, ← h6]
    rw [e, cutDot_at (digs_nodot (whole_digs' h3))]
    simp only [h3, h4, h2, decide_true, Bool.and_true, if_true]
    rw [← h1, val_pad, dec_val, sgn_abs]
theorem parseF_ok {k : Nat} {l : List UInt8} {a : Int} (h : parseF k l = (a, 0)) : fixL k a = l := by
  by_cases hk : k = 0
  · subst hk
    unfold parseF at h; unfold fixL
    simp only [if_true] at h ⊢
    exact parseI_ok h
  · unfold parseF at h
    rw [if_neg hk] at h
    split at h
    · rename_i hc
      simp only [Bool.and_eq_true, decide_eq_true_eq] at hc
      obtain ⟨⟨⟨c1, c2⟩, c3⟩, c4⟩ := hc
      obtain ⟨h1, h2⟩ := sgn_ok h
      rcases cutDot_spec (unsigned l) with ⟨_, e⟩ | ⟨x, y, e1, e2, e3⟩
      · rw [e] at c1; simp at c1
      · rw [e3] at c2 c3 c4 h1
        simp only at c2 c3 c4 h1
        have hp : padTo (k + 1) (Lib.decDigits a.natAbs) = x ++ y := by
          rw [h1]
          have hd : digs (x ++ y) = true := by rw [digs_app, whole_digs' c2, c4]; rfl
          have hne : x ++ y ≠ [] := by simp [whole_ne c2]
          rcases Nat.lt_or_ge 1 x.length with g | g
          · have hwx : whole (x ++ y) = true := by
              cases x with
              | nil => simp at g
              | cons c t =>
                unfold whole at c2 ⊢
                rw [hd, Bool.and_true, Bool.and_eq_true]
                refine ⟨by simp, ?_⟩
                rw [Bool.and_eq_true, Bool.and_eq_true] at c2
                have h48 := c2.1.2
                have ht : t ≠ [] := fun e => by subst e; simp at g
                by_cases hc : c = 48
                · subst hc; simp [ht] at h48
                · simp [hc]
            rw [whole_dec hwx]
            unfold padTo
            rw [show k + 1 - (x ++ y).length = 0 by simp; omega]; rfl
          · have hx1 : x.length = 1 := by
              have := List.length_pos_iff.2 (whole_ne c2); omega
            have := (pad_dec (x ++ y) hne hd).1
            rw [show (x ++ y).length = k + 1 by simp; omega] at this
            exact this
        have hb : fixBody k a = unsigned l := by
          unfold fixBody
          rw [hp, show (x ++ y).length - k = x.length by simp; omega, e1]
          simp
        rw [fixL_eq hk, hb]
        have hl := unsigned_back l
        rw [← h2] at hl
        by_cases hn : a < 0
        · rw [if_pos hn]; rw [decide_eq_true hn, if_pos rfl] at hl; exact hl.symm
        · rw [if_neg hn]; rw [decide_eq_false hn] at hl; exact hl.symm
    · simp at h
end Go.Proofs.YtmmohbmgodiilaaDoor.num
namespace Go.Proofs.YtmmohbmgodiilaaDoor.cal
open Go Go.Proofs.YtmmohbmgodiilaaDoor.num
set_option linter.unusedVariables false

def textR (n : Int) : List UInt8 :=
  if okD n then padTo 4 (Lib.decDigits (1900 + kOf n)) ++ 45 :: (padTo 2 (Lib.decDigits (jOf n + 1)) ++ 45 :: padTo 2 (Lib.decDigits (dOf n).toNat)) else []
/-- the number of digits, or -1 -/
def digR (l : List UInt8) : Int := if digs l then (val l : Int) else -1
def okText (l : List UInt8) : Bool := decide (l.length = 10) && (l[4]? == some 45) && (l[7]? == some 45) && digs (l.take 4) && digs ((l.drop 5).take 2) && digs (l.drop 8)
def parseD (l : List UInt8) : Int × Int := if okText l then fromR (val (l.take 4)) (val ((l.drop 5).take 2)) (val (l.drop 8)) else (0, 2)

theorem dec_len2 {u : Nat} (h : u < 100) : (padTo 2 (Lib.decDigits u)).length = 2 := by
  rw [pad_length]
  have : (Lib.decDigits u).length ≤ 2 := by
    rw [Lib.decDigits_length]
    by_cases g : u < 10
    · rw [Lib.nDigits_small g]; omega
    · rw [Lib.nDigits_big g, Lib.nDigits_small (by omega)]; omega
  omega
theorem dec_len4 {u : Nat} (h : u < 10000) : (padTo 4 (Lib.decDigits u)).length = 4 := by
  rw [pad_length]
  have : (Lib.decDigits u).length ≤ 4 := by
    rw [Lib.decDigits_length]
    by_cases g : u < 10
    · rw [Lib.nDigits_small g]; omega
    · rw [Lib.nDigits_big g]
      by_cases g2 : u / 10 < 10
      · rw [Lib.nDigits_small g2]; omega
      · rw [Lib.nDigits_big g2]
        by_cases g3 : u / 10 / 10 < 10
        · rw [Lib.nDigits_small g3]; omega
        · rw [Lib.nDigits_big g3, Lib.nDigits_small (by omega)]; omega
  omega
/-- three parts with hyphens taken apart -/
theorem parts_of {a b c : List UInt8} (ha : a.length = 4) (hb : b.length = 2) (hc : c.length = 2) :
    (a ++ 45 :: (b ++ 45 :: c)).length = 10 ∧ (a ++ 45 :: (b ++ 45 :: c))[4]? = some 45 ∧ (a ++ 45 :: (b ++ 45 :: c))[7]? = some 45 ∧ (a ++ 45 :: (b ++ 45 :: c)).take 4 = a ∧ ((a ++ 45 :: (b ++ 45 :: c)).drop 5).take 2 = b ∧ (a ++ 45 :: (b ++ 45 :: c)).drop 8 = c := by
  match a, ha with
  | [a0, a1, a2, a3], _ =>
    match b, hb with
    | [b0, b1], _ =>
      match c, hc with
      | [c0, c1], _ => simp
theorem text_parts {n : Int} (h : okD n = true) : ∃ a b c : List UInt8, textR n = a ++ 45 :: (b ++ 45 :: c) ∧ a.length = 4 ∧ b.length = 2 ∧ c.length = 2 ∧ a = padTo 4 (Lib.decDigits (1900 + kOf n)) ∧ b = padTo 2 (Lib.decDigits (jOf n + 1)) ∧ c = padTo 2 (Lib.decDigits (dOf n).toNat) := by
  have I := Is.of n h
  have k1 := I.k1
  have j1 := I.j1
  have d1 := I.d1
  have db := dim_bd (1900 + (kOf n : Int)) ((jOf n : Int) + 1)
  exact ⟨_, _, _, by unfold textR; rw [if_pos h], dec_len4 (by omega), dec_len2 (by omega), dec_len2 (by omega), rfl, rfl, rfl⟩
theorem text_length {n : Int} (h : okD n = true) : (textR n).length = 10 := by
  obtain ⟨a, b, c, e, h1, h2, h3, -, -, -⟩ := text_parts h
  rw [e]; exact (parts_of h1 h2 h3).1
/-- the text of a date is read back as the date -/
theorem parse_text {n : Int} (h : okD n = true) : parseD (textR n) = (n, 0) := by
  obtain ⟨a, b, c, e, h1, h2, h3, ea, eb, ec⟩ := text_parts h
  obtain ⟨p1, p2, p3, p4, p5, p6⟩ := parts_of h1 h2 h3
  have I := Is.of n h
  have da : digs a = true := by rw [ea, digs_pad]; exact dec_digs _
  have db : digs b = true := by rw [eb, digs_pad]; exact dec_digs _
  have dc : digs c = true := by rw [ec, digs_pad]; exact dec_digs _
  unfold parseD okText
  rw [e, p1, p2, p3, p4, p5, p6, da, db, dc]
  simp only [decide_true, beq_self_eq_true, Bool.and_self, if_true]
  rw [ea, eb, ec, val_pad, val_pad, val_pad, dec_val, dec_val, dec_val]
  have d0 := I.d0
  rw [show (((1900 + kOf n : Nat)) : Int) = 1900 + (kOf n : Int) by omega, show ((jOf n + 1 : Nat) : Int) = (jOf n : Int) + 1 by omega, show ((dOf n).toNat : Int) = dOf n by omega]
  exact I.from
end Go.Proofs.YtmmohbmgodiilaaDoor.cal
namespace Go.Proofs.YtmmohbmgodiilaaDoor.mon
open Go Go.Proofs.YtmmohbmgodiilaaDoor.num
open Go.Proofs.YtmmohbmgodiilaaDoor.cal (dec_len2 dec_len4)
set_option linter.unusedVariables false

def textM (m : Int) : List UInt8 := if okM m then padTo 4 (Lib.decDigits (1900 + (m / 12).toNat)) ++ 45 :: padTo 2 (Lib.decDigits ((m % 12).toNat + 1)) else []
def okTM (l : List UInt8) : Bool := decide (l.length = 7) && (l[4]? == some 45) && digs (l.take 4) && digs (l.drop 5)
def ymR (y m : Int) : Int × Int := if y < 1900 ∨ 2199 < y ∨ m < 1 ∨ 12 < m then (0, 3) else (12 * (y - 1900) + m - 1, 0)
def parseM (l : List UInt8) : Int × Int := if okTM l then ymR (val (l.take 4)) (val (l.drop 5)) else (0, 2)

theorem parts2 {a b : List UInt8} (ha : a.length = 4) (hb : b.length = 2) :
    (a ++ 45 :: b).length = 7 ∧ (a ++ 45 :: b)[4]? = some 45 ∧ (a ++ 45 :: b).take 4 = a ∧ (a ++ 45 :: b).drop 5 = b := by
  match a, ha with
  | [a0, a1, a2, a3], _ =>
    match b, hb with
    | [b0, b1], _ => simp
theorem tm_parts {m : Int} (h : okM m = true) : ∃ a b : List UInt8, textM m = a ++ 45 :: b ∧ a.length = 4 ∧ b.length = 2 ∧ a = padTo 4 (Lib.decDigits (1900 + (m / 12).toNat)) ∧ b = padTo 2 (Lib.decDigits ((m % 12).toNat + 1)) := by
  obtain ⟨m0, m1⟩ := (okM_iff m).1 h
  exact ⟨_, _, by unfold textM; rw [if_pos h], dec_len4 (by omega), dec_len2 (by omega), rfl, rfl⟩
theorem tm_length {m : Int} (h : okM m = true) : (textM m).length = 7 := by
  obtain ⟨a, b, e, h1, h2, -, -⟩ := tm_parts h
  rw [e]; exact (parts2 h1 h2).1
/-- the text of a month is read back as the month -/
theorem parse_tm {m : Int} (h : okM m = true) : parseM (textM m) = (m, 0) := by
  obtain ⟨m0, m1⟩ := (okM_iff m).1 h
  obtain ⟨a, b, e, h1, h2, ea, eb⟩ := tm_parts h
  obtain ⟨p1, p2, p3, p4⟩ := parts2 h1 h2
  have da : digs a = true := by rw [ea, digs_pad]; exact dec_digs _
  have db : digs b = true := by rw [eb, digs_pad]; exact dec_digs _
  unfold parseM okTM
  rw [e, p1, p2, p3, p4, da, db]
  simp only [decide_true, beq_self_eq_true, Bool.and_self, if_true]
  rw [ea, eb, val_pad, val_pad, dec_val, dec_val]
  unfold ymR
  rw [if_neg (by omega)]
  simp only [Prod.mk.injEq, and_true]
  omega
theorem ym_bd {y m a c : Int} (h : ymR y m = (a, c)) : 0 ≤ a ∧ a ≤ 3599 := by
  unfold ymR at h
  split at h <;> cases h <;> omega
end Go.Proofs.YtmmohbmgodiilaaDoor.mon
