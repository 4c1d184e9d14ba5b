/-
  Plain mathematics of package rate: what its functions answer; quotients by floors. No program text.
-/
import Derived.Test.YtnboimaocmeojaaMoneyMath
namespace Go.Proofs.Ytnboimaocmeojaa.money
set_option linter.unusedVariables false

def rateR (n d m : Int) : Int × Int :=
  if !okMode m then (0, 1) else if d = 0 then (0, 12) else if beyond n 1000000000000000 || beyond d 1000000000000000 then (0, 3)
  else if beyond (quot (n * 1000000) d m) 1000000000 then (0, 3) else (quot (n * 1000000) d m, 0)
def rmulR (a b m : Int) : Int × Int :=
  if !okMode m then (0, 1) else if beyond a 1000000000 || beyond b 1000000000 then (0, 3)
  else if beyond (quot (a * b) 1000000 m) 1000000000 then (0, 3) else (quot (a * b) 1000000 m, 0)
def prorateR (c a t m : Int) : Int × Int :=
  if !okMode m then (0, 1) else if t < 1 then (0, 12) else if decide (109573 < t) || decide (a < 0) || decide (t < a) || beyond c 1000000000000000 then (0, 3)
  else mulR c a t m
def compFrom (r m : Int) : Nat → Int → Int × Int
  | 0, c => (c, 0)
  | k + 1, c => if (mulR c r 1000000 m).2 ≠ 0 then (0, (mulR c r 1000000 m).2) else if beyond (c + (mulR c r 1000000 m).1) 1000000000000000 then (0, 3) else compFrom r m k (c + (mulR c r 1000000 m).1)
def compR (c r n m : Int) : Int × Int :=
  if !okMode m then (0, 1) else if decide (n < 0) || decide (120 < n) || beyond c 1000000000000000 || beyond r 1000000000 then (0, 3)
  else compFrom r m n.toNat c

/-- a quotient given by its floor and rest, rounded -/
def upF (q r d m : Int) : Bool :=
  if m = 1 then true else if m = 2 then decide (q < 0) else if m = 3 then decide (0 ≤ q)
  else if m = 4 then decide (d - r < r) || (decide (r = d - r) && decide (0 ≤ q))
  else if m = 5 then decide (d - r < r) || (decide (r = d - r) && !decide (q % 2 = 0))
  else false
def rndF (q r d m : Int) : Int := if r = 0 then q else if upF q r d m then q + 1 else q

theorem natAbs_ediv_pos {n d : Int} (hn : 0 ≤ n) (hd : 0 < d) : ((n.natAbs / d.natAbs : Nat) : Int) = n / d ∧ ((n.natAbs % d.natAbs : Nat) : Int) = n % d := by
  obtain ⟨a, rfl⟩ := Int.eq_ofNat_of_zero_le hn
  obtain ⟨b, rfl⟩ := Int.eq_ofNat_of_zero_le (Int.le_of_lt hd)
  exact ⟨rfl, rfl⟩
theorem quot_floor {n d m : Int} (hd : 0 < d) (hm : okMode m = true) : rndF (n / d) (n % d) d m = quot n d m := by
  have hm6 : m = 0 ∨ m = 1 ∨ m = 2 ∨ m = 3 ∨ m = 4 ∨ m = 5 := by unfold okMode at hm; simp at hm; omega
  have hdd : decide (d < 0) = false := by simp; omega
  have hr0 := Int.emod_nonneg n (show d ≠ 0 by omega)
  have hr1 := Int.emod_lt_of_pos n hd
  have hdn : ((d.natAbs : Nat) : Int) = d := by omega
  rcases Int.lt_or_le n 0 with hn | hn
  · have e := natAbs_ediv_pos (n := -n) (by omega) hd
    rw [Int.natAbs_neg] at e
    have h1 := Int.mul_ediv_add_emod n d
    have h2 := Int.mul_ediv_add_emod (-n) d
    have s0 := Int.emod_nonneg (-n) (show d ≠ 0 by omega)
    have s1 := Int.emod_lt_of_pos (-n) hd
    have q0 := Int.ediv_nonneg (show 0 ≤ -n by omega) (show 0 ≤ d by omega)
    unfold quot
    rw [e.1, e.2, hdn, hdd, decide_eq_true hn]
    obtain ⟨q, hq⟩ : ∃ q, n / d = q := ⟨_, rfl⟩
    obtain ⟨r, hr⟩ : ∃ r, n % d = r := ⟨_, rfl⟩
    obtain ⟨q', hq'⟩ : ∃ q', -n / d = q' := ⟨_, rfl⟩
    obtain ⟨r', hr'⟩ : ∃ r', -n % d = r' := ⟨_, rfl⟩
    rw [hq, hr] at h1
    rw [hq', hr'] at h2
    rw [hr] at hr0 hr1
    rw [hr'] at s0 s1
    rw [hq'] at q0
    rw [hq, hr, hq', hr']
    have h3 : d * (q + q') = -(r + r') := by rw [Int.mul_add]; omega
    have h4 : (r = 0 ∧ r' = 0 ∧ q = -q') ∨ (r ≠ 0 ∧ r' = d - r ∧ q = -q' - 1) := by
      have h5 : q + q' = 0 ∨ q + q' = -1 := by
        rcases Int.lt_or_le (q + q') (-1) with g | g
        · have : d * (q + q') ≤ d * (-2) := Int.mul_le_mul_of_nonneg_left (by omega) (by omega)
          omega
        · rcases Int.lt_or_le 0 (q + q') with g2 | g2
          · have : 0 < d * (q + q') := Int.mul_pos hd g2
            omega
          · omega
      rcases h5 with h5 | h5
      · left; rw [h5] at h3; simp at h3; omega
      · right; rw [h5] at h3
        have : d * (-1) = -d := by omega
        omega
    clear h1 h2 hq hr hq' hr' h3 e
    unfold rndF rnd mag
    rcases h4 with ⟨rfl, rfl, rfl⟩ | ⟨hr, rfl, rfl⟩
    · rw [if_pos rfl]
      have : up q' 0 d (true != false) m = false := by
        unfold up
        have g1 : ¬ (d - 0 ≤ 0) := by omega
        have g2 : ¬ (d - 0 < 0) := by omega
        have g3 : ¬ ((0 : Int) = d - 0) := by omega
        simp only [decide_eq_false g1, decide_eq_false g2, decide_eq_false g3]
        simp
      rw [this]; simp
    · rw [if_neg hr]
      have hq0 : ¬ (0 ≤ -q' - 1) := by omega
      have hq1 : (-q' - 1 < 0) := by omega
      have hrp : 0 < d - r := by omega
      rcases hm6 with rfl | rfl | rfl | rfl | rfl | rfl
      · simp [upF, up]; omega
      · simp [upF, up]
      · simp [upF, up]; omega
      · simp [upF, up]; omega
      · simp only [upF, up]
        by_cases g : d - r < r
        · have g1 : ¬ (d - (d - r) ≤ d - r) := by omega
          simp [g, g1]
        · have g1 : (d - (d - r) ≤ d - r) := by omega
          have g2 : ¬ (0 ≤ -q' - 1) := by omega
          simp [g, g1]; omega
      · simp only [upF, up]
        by_cases g : d - r < r
        · have g1 : ¬ (d - (d - r) < d - r) := by omega
          have g2 : ¬ (d - r = d - (d - r)) := by omega
          simp [g, g1, g2]
        · by_cases g3 : r = d - r
          · have g1 : ¬ (d - (d - r) < d - r) := by omega
            have g2 : (d - r = d - (d - r)) := by omega
            by_cases g4 : q' % 2 = 1
            · have g5 : (-q' - 1) % 2 = 0 := by omega
              simp only [decide_eq_false g, decide_eq_false g1, decide_eq_true g3, decide_eq_true g2, decide_eq_true g4, decide_eq_true g5]; simp; omega
            · have g5 : ¬ (-q' - 1) % 2 = 0 := by omega
              simp only [decide_eq_false g, decide_eq_false g1, decide_eq_true g3, decide_eq_true g2, decide_eq_false g4, decide_eq_false g5]; simp
          · have g1 : (d - (d - r) < d - r) := by omega
            simp only [decide_eq_false g, decide_eq_true g1, decide_eq_false g3]; simp; omega
  · have e := natAbs_ediv_pos hn hd
    have q0 := Int.ediv_nonneg hn (show 0 ≤ d by omega)
    unfold quot
    rw [e.1, e.2, hdn, hdd, decide_eq_false (by omega : ¬ n < 0)]
    obtain ⟨q, hq⟩ : ∃ q, n / d = q := ⟨_, rfl⟩
    obtain ⟨r, hr⟩ : ∃ r, n % d = r := ⟨_, rfl⟩
    rw [hr] at hr0 hr1
    rw [hq] at q0
    rw [hq, hr]
    clear hq hr e
    unfold rndF rnd mag
    by_cases hr : r = 0
    · subst hr
      rw [if_pos rfl]
      have : up q 0 d (false != false) m = false := by
        unfold up
        have g1 : ¬ (d - 0 ≤ 0) := by omega
        have g2 : ¬ (d - 0 < 0) := by omega
        have g3 : ¬ ((0 : Int) = d - 0) := by omega
        simp only [decide_eq_false g1, decide_eq_false g2, decide_eq_false g3]
        simp
      rw [this]; simp
    · rw [if_neg hr]
      have hrp : 0 < r := by omega
      have hq1 : ¬ q < 0 := by omega
      rcases hm6 with rfl | rfl | rfl | rfl | rfl | rfl
      · simp [upF, up]
      · simp [upF, up, hrp]
      · simp [upF, up]; omega
      · simp [upF, up, hrp]; omega
      · simp only [upF, up]
        by_cases g : d - r < r
        · have g1 : (d - r ≤ r) := by omega
          simp [g, g1]
        · by_cases g3 : r = d - r
          · have g1 : (d - r ≤ r) := by omega
            simp only [decide_eq_false g, decide_eq_true g1, decide_eq_true g3, decide_eq_true q0]; simp
          · have g1 : ¬ (d - r ≤ r) := by omega
            simp only [decide_eq_false g, decide_eq_false g1, decide_eq_false g3]; simp
      · simp only [upF, up]
        by_cases g : d - r < r
        · simp [g]
        · by_cases g3 : r = d - r
          · by_cases g4 : q % 2 = 1
            · have g5 : ¬ q % 2 = 0 := by omega
              simp only [decide_eq_false g, decide_eq_true g3, decide_eq_true g4, decide_eq_false g5]; simp
            · have g5 : q % 2 = 0 := by omega
              simp only [decide_eq_false g, decide_eq_true g3, decide_eq_false g4, decide_eq_true g5]; simp
          · simp only [decide_eq_false g, decide_eq_false g3]; simp
end Go.Proofs.Ytnboimaocmeojaa.money
