/-
  What the reference's Mul, Apply and Prorate of chapter 3 answer: the walks.
-/
import Derived.Test.YtnboimaocmeojaaRateRef
import Derived.Test.YtnboimaocmeojaaMoneyRefMul
namespace Go.Proofs.Ytnboimaocmeojaa.money
open Go Go.RowKit
set_option linter.unusedVariables false

theorem mul_small {a b x y : Int} (ha : (a.natAbs : Int) ≤ x) (hb : (b.natAbs : Int) ≤ y) : -(x * y) ≤ a * b ∧ a * b ≤ x * y := by
  have h1 : ((a * b).natAbs : Int) ≤ x * y := by
    rw [Int.natAbs_mul, Int.natCast_mul]
    exact Int.mul_le_mul ha hb (Int.natCast_nonneg _) (by omega)
  omega
theorem mode_no {m : Int} (h : okMode m = false) : m < 0 ∨ 5 < m := by unfold okMode at h; simp at h; omega
theorem mode_yes {m : Int} (h : okMode m = true) : ¬ m < 0 ∧ ¬ 5 < m := by unfold okMode at h; simp at h; omega

set_option maxHeartbeats 1000000 in
theorem rMul3_is (a b m x k : Int) (w : World) (h : rmulR a b m = (x, k)) :
    Calls Try.prog 13 #[.int .i64 a, .int .i64 b, .int .i64 m] w fun e w' => e = .returned (.tuple #[.int .i64 x, .int .i64 k]) ∧ w = w' := by
  unfold rmulR at h
  cases hm : okMode m
  · rw [hm, if_pos (by decide)] at h
    cases h
    rcases mode_no hm with hm | hm
    · go_enter Try.func13, Try.ntmps13
      go_wp2
      go_ret2
      exact ⟨rfl, rfl⟩
    · have hm0 : ¬ m < 0 := by omega
      go_enter Try.func13, Try.ntmps13
      go_wp2
      go_ret2
      exact ⟨rfl, rfl⟩
  · rw [hm, if_neg (by decide)] at h
    obtain ⟨m0, m5⟩ := mode_yes hm
    have HM := Lib.hid hm
    clear hm
    cases hb1 : beyond a 1000000000
    · cases hb2 : beyond b 1000000000
      · rw [hb1, hb2, if_neg (by decide)] at h
        have hp := mul_small (beyond_abs hb1) (beyond_abs hb2)
        have HB1 := Lib.hid hb1
        have HB2 := Lib.hid hb2
        clear hb1 hb2
        obtain ⟨p, hpp⟩ : ∃ p, a * b = p := ⟨_, rfl⟩
        rw [hpp] at hp h
        have hp0 : -1000000000000000000 ≤ p := by omega
        have hp1 : p ≤ 1000000000000000000 := by omega
        have hw1 : wrap64 p = p := IntWalk.wrap64_in p ⟨by omega, by omega⟩
        have hw2 : IntKind.i64.wrap p = p := i64_in (by omega) (by omega)
        have hq := quot_floor (n := p) (d := 1000000) (m := m) (by decide) HM.out
        obtain ⟨q, hqq⟩ : ∃ q, p / 1000000 = q := ⟨_, rfl⟩
        obtain ⟨r, hrr⟩ : ∃ r, p % 1000000 = r := ⟨_, rfl⟩
        rw [hqq, hrr] at hq
        have q0 : -4611686018427387904 ≤ q := by omega
        have q1 : q ≤ 4611686018427387904 := by omega
        have r0 : 0 ≤ r := by omega
        have r1 : r < 1000000 := by omega
        obtain ⟨z, hz⟩ : ∃ z, quot p 1000000 m = z := ⟨_, rfl⟩
        rw [hz] at hq h
        have HQ := Lib.hid hq
        have HQQ := Lib.hid (And.intro hqq hrr)
        have HR := Lib.hid (And.intro q0 (And.intro q1 (And.intro r0 r1)))
        clear hp hq hqq hrr hz q0 q1 r0 r1
        cases hb : beyond z 1000000000
        · rw [hb, if_neg (by decide)] at h
          cases h
          have HB := Lib.hid hb
          clear hb
          go_enter Try.func13, Try.ntmps13
          go_wp2_with (first
            | (go_at_call 24; (with_reducible refine (rBeyond3_is a _ false _ (by decide) (by decide) HB1.out).mono ?_); rintro e w' ⟨rfl, rfl⟩)
            | (go_at_call 24; (with_reducible refine (rBeyond3_is b _ false _ (by decide) (by decide) HB2.out).mono ?_); rintro e w' ⟨rfl, rfl⟩)
            | (go_at_call 25; (with_reducible refine (rFloor_is p 1000000 q r _ (by omega) (by omega) (by decide) (by decide) HQQ.out.1 HQQ.out.2).mono ?_); rintro e w' ⟨rfl, rfl⟩)
            | (go_at_call 26; (with_reducible refine (rRounded3_is q r 1000000 m x _ HR.out.1 HR.out.2.1 HR.out.2.2.1 HR.out.2.2.2 (by decide) HM.out HQ.out).mono ?_); rintro e w' ⟨rfl, rfl⟩)
            | (go_at_call 24; (with_reducible refine (rBeyond3_is x _ false _ (by decide) (by decide) HB.out).mono ?_); rintro e w' ⟨rfl, rfl⟩)
            | fail)
          go_ret2
          exact ⟨rfl, rfl⟩
        · rw [hb, if_pos rfl] at h
          cases h
          have HB := Lib.hid hb
          clear hb
          go_enter Try.func13, Try.ntmps13
          go_wp2_with (first
            | (go_at_call 24; (with_reducible refine (rBeyond3_is a _ false _ (by decide) (by decide) HB1.out).mono ?_); rintro e w' ⟨rfl, rfl⟩)
            | (go_at_call 24; (with_reducible refine (rBeyond3_is b _ false _ (by decide) (by decide) HB2.out).mono ?_); rintro e w' ⟨rfl, rfl⟩)
            | (go_at_call 25; (with_reducible refine (rFloor_is p 1000000 q r _ (by omega) (by omega) (by decide) (by decide) HQQ.out.1 HQQ.out.2).mono ?_); rintro e w' ⟨rfl, rfl⟩)
            | (go_at_call 26; (with_reducible refine (rRounded3_is q r 1000000 m z _ HR.out.1 HR.out.2.1 HR.out.2.2.1 HR.out.2.2.2 (by decide) HM.out HQ.out).mono ?_); rintro e w' ⟨rfl, rfl⟩)
            | (go_at_call 24; (with_reducible refine (rBeyond3_is z _ true _ (by decide) (by decide) HB.out).mono ?_); rintro e w' ⟨rfl, rfl⟩)
            | fail)
          go_ret2
          exact ⟨rfl, rfl⟩
      · rw [hb1, hb2, if_pos (by decide)] at h
        cases h
        have HB1 := Lib.hid hb1
        have HB2 := Lib.hid hb2
        clear hb1 hb2
        go_enter Try.func13, Try.ntmps13
        go_wp2_with (first
          | (go_at_call 24; (with_reducible refine (rBeyond3_is a _ false _ (by decide) (by decide) HB1.out).mono ?_); rintro e w' ⟨rfl, rfl⟩)
          | (go_at_call 24; (with_reducible refine (rBeyond3_is b _ true _ (by decide) (by decide) HB2.out).mono ?_); rintro e w' ⟨rfl, rfl⟩)
          | fail)
        go_ret2
        exact ⟨rfl, rfl⟩
    · rw [hb1, Bool.true_or, if_pos rfl] at h
      cases h
      have HB1 := Lib.hid hb1
      clear hb1
      go_enter Try.func13, Try.ntmps13
      go_wp2_with (first
        | (go_at_call 24; (with_reducible refine (rBeyond3_is a _ true _ (by decide) (by decide) HB1.out).mono ?_); rintro e w' ⟨rfl, rfl⟩)
        | fail)
      go_ret2
      exact ⟨rfl, rfl⟩

theorem rApply_is (c r m x k : Int) (w : World) (h : mulR c r 1000000 m = (x, k)) :
    Calls Try.prog 15 #[.int .i64 c, .int .i64 r, .int .i64 m] w (Gives w x k) := by
  go_enter Try.func15, Try.ntmps15
  go_wp2_with (go_at_call 28; refine (rMulDiv_is c r 1000000 m x k _ h).mono ?_; rintro e w' ⟨rfl, hb⟩)
  go_ret2
  exact ⟨rfl, hb⟩

set_option maxHeartbeats 1000000 in
theorem rProrate_is (c a t m x k : Int) (w : World) (h : prorateR c a t m = (x, k)) :
    Calls Try.prog 17 #[.int .i64 c, .int .i64 a, .int .i64 t, .int .i64 m] w (Gives w x k) := by
  unfold prorateR at h
  cases hm : okMode m
  · rw [hm, if_pos (by decide)] at h
    cases h
    rcases mode_no hm with hm | hm
    · go_enter Try.func17, Try.ntmps17
      go_wp2
      go_ret2
      exact ⟨rfl, Below.refl _ _⟩
    · have hm0 : ¬ m < 0 := by omega
      go_enter Try.func17, Try.ntmps17
      go_wp2
      go_ret2
      exact ⟨rfl, Below.refl _ _⟩
  · rw [hm, if_neg (by decide)] at h
    obtain ⟨m0, m5⟩ := mode_yes hm
    clear hm
    by_cases ht : t < 1
    · rw [if_pos ht] at h
      cases h
      go_enter Try.func17, Try.ntmps17
      go_wp2
      go_ret2
      exact ⟨rfl, Below.refl _ _⟩
    · rw [if_neg ht] at h
      by_cases h1 : 109573 < t ∨ a < 0 ∨ t < a
      · have e : (decide (109573 < t) || decide (a < 0) || decide (t < a) || beyond c 1000000000000000) = true := by
          simp only [Bool.or_eq_true, decide_eq_true_eq]; omega
        rw [e, if_pos rfl] at h
        cases h
        clear e
        have h2 : 109573 < t ∨ (¬ 109573 < t ∧ a < 0) ∨ (¬ 109573 < t ∧ ¬ a < 0 ∧ t < a) := by omega
        clear h1
        rcases h2 with g | ⟨g, g2⟩ | ⟨g, g2, g3⟩
        all_goals
          go_enter Try.func17, Try.ntmps17
          go_wp2
          go_ret2
          exact ⟨rfl, Below.refl _ _⟩
      · have g1 : ¬ 109573 < t := by omega
        have g2 : ¬ a < 0 := by omega
        have g3 : ¬ t < a := by omega
        rw [decide_eq_false g1, decide_eq_false g2, decide_eq_false g3] at h
        clear h1
        cases hb : beyond c 1000000000000000
        · rw [hb, if_neg (by decide)] at h
          have H := Lib.hid h
          have HB := Lib.hid hb
          clear h hb
          go_enter Try.func17, Try.ntmps17
          go_wp2_with (first
            | (go_at_call 24; (with_reducible refine (rBeyond3_is c _ false _ (by decide) (by decide) HB.out).mono ?_); rintro e w' ⟨rfl, rfl⟩)
            | (go_at_call 28; refine (rMulDiv_is c a t m x k _ H.out).mono ?_; rintro e w' ⟨rfl, hb⟩)
            | fail)
          go_ret2
          exact ⟨rfl, hb⟩
        · rw [hb, if_pos (by decide)] at h
          cases h
          have HB := Lib.hid hb
          clear hb
          go_enter Try.func17, Try.ntmps17
          go_wp2_with (first
            | (go_at_call 24; (with_reducible refine (rBeyond3_is c _ true _ (by decide) (by decide) HB.out).mono ?_); rintro e w' ⟨rfl, rfl⟩)
            | fail)
          go_ret2
          exact ⟨rfl, Below.refl _ _⟩
end Go.Proofs.Ytnboimaocmeojaa.money
