/-
  What package rate's FromRatio, Mul, Apply and Prorate answer: the walks.
-/
import Derived.Test.YtnboimaocmeojaaRateWin
namespace Go.Proofs.Ytnboimaocmeojaa.money
open Go Go.RowKit
set_option linter.unusedVariables false

theorem RApply_is (n d m a c : Int) (w : World) (h : mulR n d 1000000 m = (a, c)) : Calls Try.prog 14 #[.int .i64 n, .int .i64 d, .int .i64 m] w (Gives w a c) := by
  go_enter Try.func14, Try.ntmps14
  go_wp2_with (go_at_call 27; refine (MulDiv_is n d 1000000 m a c _ h).mono ?_; rintro e w' ⟨rfl, hb⟩)
  go_ret2
  exact ⟨rfl, hb⟩

set_option maxHeartbeats 1000000 in
theorem RMul_is (a b m x k : Int) (w : World) (h : rmulR a b m = (x, k)) : Calls Try.prog 12 #[.int .i64 a, .int .i64 b, .int .i64 m] w (Gives w x k) := by
  unfold rmulR at h
  cases hm : okMode m
  · rw [hm, if_pos (by decide)] at h
    cases h
    have HM := Lib.hid hm
    clear hm
    go_enter Try.func12, Try.ntmps12
    go_wp2_with (go_at_call 20; refine (qMode_is m false _ HM.out).mono ?_; rintro e w' ⟨rfl, rfl⟩)
    go_ret2
    exact ⟨rfl, Below.refl _ _⟩
  · rw [hm, if_neg (by decide)] at h
    obtain ⟨m0, m5⟩ := mode_yes hm
    have HM := Lib.hid hm
    clear hm
    cases hb1 : beyond a 1000000000
    · cases hb2 : beyond b 1000000000
      · rw [hb1, hb2, if_neg (by decide)] at h
        have hp := mul_small (beyond_abs hb1) (beyond_abs hb2)
        have HB1 := Lib.hid hb1
        have HB2 := Lib.hid hb2
        clear hb1 hb2
        obtain ⟨p, hpp⟩ : ∃ p, a * b = p := ⟨_, rfl⟩
        rw [hpp] at hp h
        have hp0 : -1000000000000000000 ≤ p := by omega
        have hp1 : p ≤ 1000000000000000000 := by omega
        have hw1 : wrap64 p = p := IntWalk.wrap64_in p ⟨by omega, by omega⟩
        have hw2 : IntKind.i64.wrap p = p := i64_in (by omega) (by omega)
        obtain ⟨z, hz⟩ : ∃ z, quot p 1000000 m = z := ⟨_, rfl⟩
        have hdv : divR p 1000000 m = (z, 0) := by
          rw [← hz]; refine divR_ok (by omega) (by decide) ?_
          unfold beyond
          simp; omega
        rw [hz] at h
        have HD := Lib.hid hdv
        have H := Lib.hid h
        clear hp hdv h hz m0 m5
        go_enter Try.func12, Try.ntmps12
        go_wp2_with (first
          | (go_at_call 20; refine (qMode_is m true _ HM.out).mono ?_; rintro e w' ⟨rfl, rfl⟩)
          | (go_at_call 21; (with_reducible refine (qBeyond_is a _ false _ (by decide) (by decide) HB1.out).mono ?_); rintro e w' ⟨rfl, rfl⟩)
          | (go_at_call 21; (with_reducible refine (qBeyond_is b _ false _ (by decide) (by decide) HB2.out).mono ?_); rintro e w' ⟨rfl, rfl⟩)
          | (go_at_call 22; refine (DivRound_is p 1000000 m z 0 _ HD.out).mono ?_; rintro e w1 ⟨rfl, hb1⟩)
          | (go_at_call 23; refine (within_is z 1000000000 x k _ (by decide) (by decide) H.out).mono ?_; rintro e w2 ⟨rfl, rfl⟩)
          | fail)
        go_ret2
        exact ⟨rfl, hb1⟩
      · rw [hb1, hb2, if_pos (by decide)] at h
        cases h
        have HB1 := Lib.hid hb1
        have HB2 := Lib.hid hb2
        clear hb1 hb2 m0 m5
        go_enter Try.func12, Try.ntmps12
        go_wp2_with (first
          | (go_at_call 20; refine (qMode_is m true _ HM.out).mono ?_; rintro e w' ⟨rfl, rfl⟩)
          | (go_at_call 21; (with_reducible refine (qBeyond_is a _ false _ (by decide) (by decide) HB1.out).mono ?_); rintro e w' ⟨rfl, rfl⟩)
          | (go_at_call 21; (with_reducible refine (qBeyond_is b _ true _ (by decide) (by decide) HB2.out).mono ?_); rintro e w' ⟨rfl, rfl⟩)
          | fail)
        go_ret2
        exact ⟨rfl, Below.refl _ _⟩
    · rw [hb1, Bool.true_or, if_pos rfl] at h
      cases h
      have HB1 := Lib.hid hb1
      clear hb1 m0 m5
      go_enter Try.func12, Try.ntmps12
      go_wp2_with (first
        | (go_at_call 20; refine (qMode_is m true _ HM.out).mono ?_; rintro e w' ⟨rfl, rfl⟩)
        | (go_at_call 21; (with_reducible refine (qBeyond_is a _ true _ (by decide) (by decide) HB1.out).mono ?_); rintro e w' ⟨rfl, rfl⟩)
        | fail)
      go_ret2
      exact ⟨rfl, Below.refl _ _⟩

set_option maxHeartbeats 1000000 in
theorem Prorate_is (c a t m x k : Int) (w : World) (h : prorateR c a t m = (x, k)) : Calls Try.prog 16 #[.int .i64 c, .int .i64 a, .int .i64 t, .int .i64 m] w (Gives w x k) := by
  unfold prorateR at h
  cases hm : okMode m
  · rw [hm, if_pos (by decide)] at h
    cases h
    have HM := Lib.hid hm
    clear hm
    go_enter Try.func16, Try.ntmps16
    go_wp2_with (go_at_call 20; refine (qMode_is m false _ HM.out).mono ?_; rintro e w' ⟨rfl, rfl⟩)
    go_ret2
    exact ⟨rfl, Below.refl _ _⟩
  · rw [hm, if_neg (by decide)] at h
    have HM := Lib.hid hm
    by_cases ht : t < 1
    · rw [if_pos ht] at h
      cases h
      clear hm
      go_enter Try.func16, Try.ntmps16
      go_wp2_with (go_at_call 20; refine (qMode_is m true _ HM.out).mono ?_; rintro e w' ⟨rfl, rfl⟩)
      go_ret2
      exact ⟨rfl, Below.refl _ _⟩
    · rw [if_neg ht] at h
      by_cases h1 : 109573 < t ∨ a < 0 ∨ t < a
      · have e : (decide (109573 < t) || decide (a < 0) || decide (t < a) || beyond c 1000000000000000) = true := by
          simp only [Bool.or_eq_true, decide_eq_true_eq]; omega
        rw [e, if_pos rfl] at h
        cases h
        clear e hm
        have h2 : 109573 < t ∨ (¬ 109573 < t ∧ a < 0) ∨ (¬ 109573 < t ∧ ¬ a < 0 ∧ t < a) := by omega
        clear h1
        rcases h2 with g | ⟨g, g2⟩ | ⟨g, g2, g3⟩
        all_goals
          go_enter Try.func16, Try.ntmps16
          go_wp2_with (go_at_call 20; refine (qMode_is m true _ HM.out).mono ?_; rintro e w' ⟨rfl, rfl⟩)
          go_ret2
          exact ⟨rfl, Below.refl _ _⟩
      · have g1 : ¬ 109573 < t := by omega
        have g2 : ¬ a < 0 := by omega
        have g3 : ¬ t < a := by omega
        rw [decide_eq_false g1, decide_eq_false g2, decide_eq_false g3, Bool.or_self, Bool.or_self, Bool.false_or] at h
        clear h1
        have h' : mulR c a t m = (x, k) := by
          cases hb : beyond c 1000000000000000
          · rwa [hb, if_neg (by decide)] at h
          · rw [hb, if_pos rfl] at h
            rw [mulR_out hm (by omega) (by rw [hb]; rfl)]; exact h
        have H := Lib.hid h'
        clear h h' hm
        go_enter Try.func16, Try.ntmps16
        go_wp2_with (first
          | (go_at_call 20; refine (qMode_is m true _ HM.out).mono ?_; rintro e w' ⟨rfl, rfl⟩)
          | (go_at_call 27; refine (MulDiv_is c a t m x k _ H.out).mono ?_; rintro e w' ⟨rfl, hb⟩)
          | fail)
        go_ret2
        exact ⟨rfl, hb⟩

theorem tdiv_abs (a b : Int) : (a.tdiv b).natAbs ≤ a.natAbs := by rw [Int.natAbs_tdiv]; exact Nat.div_le_self _ _
theorem tmod_abs (a b : Int) (hb : b ≠ 0) : (a.tmod b).natAbs < b.natAbs := by rw [Int.natAbs_tmod]; exact Nat.mod_lt _ (by omega)

set_option maxHeartbeats 2000000 in
theorem FromRatio_is (n d m x k : Int) (w : World) (h : rateR n d m = (x, k)) : Calls Try.prog 9 #[.int .i64 n, .int .i64 d, .int .i64 m] w (Gives w x k) := by
  unfold rateR at h
  cases hm : okMode m
  · rw [hm, if_pos (by decide)] at h
    cases h
    have HM := Lib.hid hm
    clear hm
    go_enter Try.func9, Try.ntmps9
    go_wp2_with (go_at_call 20; refine (qMode_is m false _ HM.out).mono ?_; rintro e w' ⟨rfl, rfl⟩)
    go_ret2
    exact ⟨rfl, Below.refl _ _⟩
  · rw [hm, if_neg (by decide)] at h
    have HM := Lib.hid hm
    by_cases hd : d = 0
    · rw [if_pos hd] at h
      cases h
      subst hd
      clear hm
      go_enter Try.func9, Try.ntmps9
      go_wp2_with (go_at_call 20; refine (qMode_is m true _ HM.out).mono ?_; rintro e w' ⟨rfl, rfl⟩)
      go_ret2
      exact ⟨rfl, Below.refl _ _⟩
    · rw [if_neg hd] at h
      have hd0 : (d == 0) = false := by simpa using hd
      cases hb1 : beyond n 1000000000000000
      · have HB1 := Lib.hid hb1
        cases hb2 : beyond d 1000000000000000
        · have HB2 := Lib.hid hb2
          rw [hb1, hb2, if_neg (by decide)] at h
          have n01 := beyond_abs hb1
          have d01 := beyond_abs hb2
          have hst := quot_steps n d m hd
          have hfar := steps_far n d m hd
          have a1 := tdiv_abs n d
          have a2 := tmod_abs n d hd
          obtain ⟨q1, hq1⟩ : ∃ q, n.tdiv d = q := ⟨_, rfl⟩
          obtain ⟨r1, hr1⟩ : ∃ q, n.tmod d = q := ⟨_, rfl⟩
          rw [hq1] at a1 hst hfar
          rw [hr1] at a2 hst hfar
          obtain ⟨s, hs⟩ : ∃ s, r1 * 1000 = s := ⟨_, rfl⟩
          obtain ⟨p, hp⟩ : ∃ p, q1 * 1000 = p := ⟨_, rfl⟩
          rw [hs, hp] at hst hfar
          have a3 := tdiv_abs s d
          have a4 := tmod_abs s d hd
          have a5 : (s.tdiv d).natAbs ≤ 1000 := by
            have hdp : 0 < d.natAbs := by omega
            rw [Int.natAbs_tdiv]
            refine Nat.div_le_of_le_mul ?_
            rw [← hs, Int.natAbs_mul]
            have := Nat.mul_le_mul_right 1000 (Nat.le_of_lt a2)
            simpa using this
          obtain ⟨q2, hq2⟩ : ∃ q, s.tdiv d = q := ⟨_, rfl⟩
          obtain ⟨r2, hr2⟩ : ∃ q, s.tmod d = q := ⟨_, rfl⟩
          rw [hq2] at a3 a5 hst hfar
          rw [hr2] at a4 hst
          obtain ⟨t, ht⟩ : ∃ t, p + q2 = t := ⟨_, rfl⟩
          obtain ⟨u, hu⟩ : ∃ u, r2 * 1000 = u := ⟨_, rfl⟩
          rw [ht, hu] at hst
          rw [ht] at hfar
          have f1 : wrap64 s = s := IntWalk.wrap64_in s ⟨by omega, by omega⟩
          have f2 : IntKind.i64.wrap s = s := i64_in (by omega) (by omega)
          have f3 : wrap64 p = p := IntWalk.wrap64_in p ⟨by omega, by omega⟩
          have f4 : IntKind.i64.wrap p = p := i64_in (by omega) (by omega)
          have f5 : wrap64 t = t := IntWalk.wrap64_in t ⟨by omega, by omega⟩
          have f6 : IntKind.i64.wrap t = t := i64_in (by omega) (by omega)
          have f7 : wrap64 u = u := IntWalk.wrap64_in u ⟨by omega, by omega⟩
          have f8 : IntKind.i64.wrap u = u := i64_in (by omega) (by omega)
          have f9 : wrap64 q1 = q1 := IntWalk.wrap64_in q1 ⟨by omega, by omega⟩
          have f10 : IntKind.i64.wrap q1 = q1 := i64_in (by omega) (by omega)
          have f11 : wrap64 q2 = q2 := IntWalk.wrap64_in q2 ⟨by omega, by omega⟩
          have f12 : IntKind.i64.wrap q2 = q2 := i64_in (by omega) (by omega)
          have hub : beyond u 4611686018427387904 = false := by unfold beyond; simp; omega
          have hdb : beyond d 4611686018427387904 = false := by unfold beyond; simp; omega
          obtain ⟨z, hz⟩ : ∃ z, quot u d m = z := ⟨_, rfl⟩
          have hdv : divR u d m = (z, 0) := by
            rw [← hz]
            have hm01 : 0 ≤ m ∧ m ≤ 5 := by unfold okMode at hm; simpa using hm
            exact divR_ok hm01 hd (by rw [hub, hdb]; rfl)
          have zb := rnd_abs (u.natAbs / d.natAbs : Nat) (u.natAbs % d.natAbs : Nat) d.natAbs (decide (u < 0) != decide (d < 0)) m (Int.natCast_nonneg _)
          have a6 : u.natAbs / d.natAbs ≤ 1000 := by
            refine Nat.div_le_of_le_mul ?_
            rw [← hu, Int.natAbs_mul]
            have := Nat.mul_le_mul_right 1000 (Nat.le_of_lt a4)
            simpa using this
          rw [← quot_form, hz] at zb
          rw [hz] at hst
          have zb1 : (z.natAbs : Int) ≤ 1001 := by omega
          clear zb a6 hub hdb
          have HD := Lib.hid hdv
          cases hb : beyond t 1000000
          · have HB := Lib.hid hb
            obtain ⟨t0, t1⟩ := beyond_in hb
            obtain ⟨y, hy⟩ : ∃ y, t * 1000 = y := ⟨_, rfl⟩
            rw [hst, hy] at h
            have e1 : wrap64 y = y := IntWalk.wrap64_in y ⟨by omega, by omega⟩
            have e2 : IntKind.i64.wrap y = y := i64_in (by omega) (by omega)
            have e3 : wrap64 (y + z) = y + z := IntWalk.wrap64_in _ ⟨by omega, by omega⟩
            have e4 : IntKind.i64.wrap (y + z) = y + z := i64_in (by omega) (by omega)
            have H := Lib.hid h
            clear hm hst hfar a1 a2 a3 a4 a5 hdv hz zb1 hb hb1 hb2 h n01 d01 t0 t1
            go_enter Try.func9, Try.ntmps9
            go_wp2_with (first
              | (go_at_call 20; refine (qMode_is m true _ HM.out).mono ?_; rintro e w' ⟨rfl, rfl⟩)
              | (go_at_call 21; (with_reducible refine (qBeyond_is n 1000000000000000 false _ (by decide) (by decide) HB1.out).mono ?_); rintro e w' ⟨rfl, rfl⟩)
              | (go_at_call 21; (with_reducible refine (qBeyond_is d 1000000000000000 false _ (by decide) (by decide) HB2.out).mono ?_); rintro e w' ⟨rfl, rfl⟩)
              | fail)
            go_region
            go_wp2_with (first
              | (go_at_call 21; (with_reducible refine (qBeyond_is t 1000000 false _ (by decide) (by decide) HB.out).mono ?_); rintro e w' ⟨rfl, rfl⟩)
              | (go_at_call 22; refine (DivRound_is u d m z 0 _ HD.out).mono ?_; rintro e w1 ⟨rfl, hb1⟩)
              | (go_at_call 23; refine (within_is (y + z) 1000000000 x k _ (by decide) (by decide) H.out).mono ?_; rintro e w2 ⟨rfl, rfl⟩)
              | fail)
            go_ret2
            exact ⟨rfl, tr (below_drewN (Below.refl _ _) 1) hb1⟩
          · have HB := Lib.hid hb
            have hout : beyond (quot (n * 1000000) d m) 1000000000 = true := hfar hb
            rw [hout, if_pos rfl] at h
            cases h
            clear hm hst hfar a1 a2 a3 a4 a5 hdv hz zb1 hb hb1 hb2 hout n01 d01
            go_enter Try.func9, Try.ntmps9
            go_wp2_with (first
              | (go_at_call 20; refine (qMode_is m true _ HM.out).mono ?_; rintro e w' ⟨rfl, rfl⟩)
              | (go_at_call 21; (with_reducible refine (qBeyond_is n 1000000000000000 false _ (by decide) (by decide) HB1.out).mono ?_); rintro e w' ⟨rfl, rfl⟩)
              | (go_at_call 21; (with_reducible refine (qBeyond_is d 1000000000000000 false _ (by decide) (by decide) HB2.out).mono ?_); rintro e w' ⟨rfl, rfl⟩)
              | fail)
            go_region
            go_wp2_with (first
              | (go_at_call 21; (with_reducible refine (qBeyond_is t 1000000 true _ (by decide) (by decide) HB.out).mono ?_); rintro e w' ⟨rfl, rfl⟩)
              | fail)
            go_ret2
            exact ⟨rfl, below_drewN (Below.refl _ _) 1⟩
        · have HB2 := Lib.hid hb2
          rw [hb1, hb2, if_pos (by decide)] at h
          cases h
          clear hb1 hb2 hm hd
          go_enter Try.func9, Try.ntmps9
          go_wp2_with (first
            | (go_at_call 20; refine (qMode_is m true _ HM.out).mono ?_; rintro e w' ⟨rfl, rfl⟩)
            | (go_at_call 21; (with_reducible refine (qBeyond_is n 1000000000000000 false _ (by decide) (by decide) HB1.out).mono ?_); rintro e w' ⟨rfl, rfl⟩)
            | (go_at_call 21; (with_reducible refine (qBeyond_is d 1000000000000000 true _ (by decide) (by decide) HB2.out).mono ?_); rintro e w' ⟨rfl, rfl⟩)
            | fail)
          go_ret2
          exact ⟨rfl, Below.refl _ _⟩
      · have HB1 := Lib.hid hb1
        rw [hb1, Bool.true_or, if_pos rfl] at h
        cases h
        clear hb1 hm hd
        go_enter Try.func9, Try.ntmps9
        go_wp2_with (first
          | (go_at_call 20; refine (qMode_is m true _ HM.out).mono ?_; rintro e w' ⟨rfl, rfl⟩)
          | (go_at_call 21; (with_reducible refine (qBeyond_is n 1000000000000000 true _ (by decide) (by decide) HB1.out).mono ?_); rintro e w' ⟨rfl, rfl⟩)
          | fail)
        go_ret2
        exact ⟨rfl, Below.refl _ _⟩
end Go.Proofs.Ytnboimaocmeojaa.money
