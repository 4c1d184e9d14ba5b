/-
  What package money's DivRound answers: the walk.
-/
import Derived.Test.YtnboimaocmeojaaMineB
namespace Go.Proofs.Ytnboimaocmeojaa.money
open Go Go.RowKit
set_option linter.unusedVariables false

set_option maxHeartbeats 1000000 in
theorem DivRound_is (n d m a c : Int) (w : World) (h : divR n d m = (a, c)) : Calls Try.prog 22 #[.int .i64 n, .int .i64 d, .int .i64 m] w (Gives w a c) := by
  unfold divR at h
  cases hm : okMode m
  · rw [hm] at h
    cases h
    have HM := Lib.hid hm
    clear hm
    go_enter Try.func22, Try.ntmps22
    go_wp2_with (first
      | (go_at_call 29; refine (mMode_is m false _ HM.out).mono ?_; rintro e w' ⟨rfl, rfl⟩)
      | fail)
    go_ret2
    exact ⟨rfl, Below.refl _ _⟩
  · rw [hm] at h
    have HM := Lib.hid hm
    clear hm
    by_cases hd : d = 0
    · rw [if_neg (by decide), if_pos hd] at h
      cases h
      subst hd
      go_enter Try.func22, Try.ntmps22
      go_wp2_with (first
        | (go_at_call 29; refine (mMode_is m true _ HM.out).mono ?_; rintro e w' ⟨rfl, rfl⟩)
        | fail)
      go_ret2
      exact ⟨rfl, Below.refl _ _⟩
    · rw [if_neg (by decide), if_neg hd] at h
      have hd0 : (d == 0) = false := by simpa using hd
      cases hb1 : beyond n 4611686018427387904
      · rw [hb1, Bool.false_or] at h
        have HB1 := Lib.hid hb1
        cases hb2 : beyond d 4611686018427387904
        · rw [hb2, if_neg (by decide)] at h
          cases h
          have HB2 := Lib.hid hb2
          have g1 := beyond_abs hb1
          have g2 := beyond_abs hb2
          have hdp : 0 < d.natAbs := by omega
          obtain ⟨q, hq⟩ : ∃ q : Int, ((n.natAbs / d.natAbs : Nat) : Int) = q := ⟨_, rfl⟩
          obtain ⟨r, hr⟩ : ∃ r : Int, ((n.natAbs % d.natAbs : Nat) : Int) = r := ⟨_, rfl⟩
          obtain ⟨y, hy⟩ : ∃ y : Int, (d.natAbs : Int) = y := ⟨_, rfl⟩
          obtain ⟨neg, hneg⟩ : ∃ neg, (!(decide (n < 0) == decide (d < 0))) = neg := ⟨_, rfl⟩
          obtain ⟨a, ha⟩ : ∃ a, quot n d m = a := ⟨_, rfl⟩
          have hrn : rnd q r y neg m = a := by rw [← ha, ← hq, ← hr, ← hy, ← hneg]; rfl
          have qb : 0 ≤ q ∧ q ≤ 4611686018427387904 := by
            have h1 : (0 : Int) ≤ q := by rw [← hq]; exact Int.natCast_nonneg _
            have h2 : q ≤ (n.natAbs : Int) := by rw [← hq]; exact Int.ofNat_le.2 (Nat.div_le_self _ _)
            exact ⟨h1, by omega⟩
          have rb : 0 ≤ r ∧ r < y := by
            have h1 : (0 : Int) ≤ r := by rw [← hr]; exact Int.natCast_nonneg _
            have h2 : r < (d.natAbs : Int) := by rw [← hr]; exact Int.ofNat_lt.2 (Nat.mod_lt _ hdp)
            exact ⟨h1, by omega⟩
          rw [ha]
          have HD := Lib.hid (divide_is n d q r y neg w (by omega) (by omega) (by omega) (by omega) hd hq hr hy hneg)
          have HR := Lib.hid hrn
          have HB := Lib.hid (And.intro qb rb)
          have HYM := Lib.hid (show y ≤ 4611686018427387904 by omega)
          clear hy hneg hrn hq hr ha hb1 hb2 hdp g1 g2 qb rb hd
          go_enter Try.func22, Try.ntmps22
          go_wp2_with (first
            | (go_at_call 29; refine (mMode_is m true _ HM.out).mono ?_; rintro e w' ⟨rfl, rfl⟩)
            | (go_at_call 30; (with_reducible refine (mBeyond_is n _ false _ (by decide) (by decide) HB1.out).mono ?_); rintro e w' ⟨rfl, rfl⟩)
            | (go_at_call 30; (with_reducible refine (mBeyond_is d _ false _ (by decide) (by decide) HB2.out).mono ?_); rintro e w' ⟨rfl, rfl⟩)
            | (go_at_call 31; refine HD.out.mono ?_; rintro e w1 ⟨rfl, hb1⟩)
            | (go_at_call 32; refine (round_is q r y m a neg _ HB.out.1.1 HB.out.1.2 HB.out.2.1 HB.out.2.2 HYM.out HM.out HR.out).mono ?_; rintro e w2 ⟨rfl, hb2⟩)
            | fail)
          go_ret2
          exact ⟨rfl, tr hb1 hb2⟩
        · rw [hb2, if_pos rfl] at h
          cases h
          have HB2 := Lib.hid hb2
          clear hb1 hb2
          go_enter Try.func22, Try.ntmps22
          go_wp2_with (first
            | (go_at_call 29; refine (mMode_is m true _ HM.out).mono ?_; rintro e w' ⟨rfl, rfl⟩)
            | (go_at_call 30; (with_reducible refine (mBeyond_is n _ false _ (by decide) (by decide) HB1.out).mono ?_); rintro e w' ⟨rfl, rfl⟩)
            | (go_at_call 30; (with_reducible refine (mBeyond_is d _ true _ (by decide) (by decide) HB2.out).mono ?_); rintro e w' ⟨rfl, rfl⟩)
            | fail)
          go_ret2
          exact ⟨rfl, Below.refl _ _⟩
      · rw [hb1, Bool.true_or, if_pos rfl] at h
        cases h
        have HB1 := Lib.hid hb1
        clear hb1
        go_enter Try.func22, Try.ntmps22
        go_wp2_with (first
          | (go_at_call 29; refine (mMode_is m true _ HM.out).mono ?_; rintro e w' ⟨rfl, rfl⟩)
          | (go_at_call 30; (with_reducible refine (mBeyond_is n _ true _ (by decide) (by decide) HB1.out).mono ?_); rintro e w' ⟨rfl, rfl⟩)
          | fail)
        go_ret2
        exact ⟨rfl, Below.refl _ _⟩

end Go.Proofs.Ytnboimaocmeojaa.money
