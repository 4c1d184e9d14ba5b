/-
  What the reference's DivRound of chapter 2 answers: the walk.
-/
import Derived.Test.YtikcnekaefelcaaMoneyRef
namespace Go.Proofs.Ytikcnekaefelcaa.money
open Go Go.RowKit
set_option linter.unusedVariables false

set_option maxHeartbeats 1000000 in
theorem rDivRound_is (n d m a c : Int) (w : World) (h : divR n d m = (a, c)) :
    Calls Try.prog 11 #[.int .i64 n, .int .i64 d, .int .i64 m] w fun e w' => e = .returned (.tuple #[.int .i64 a, .int .i64 c]) ∧ Below w.heap.size w w' := by
  unfold divR at h
  cases hm : okMode m
  · rw [hm] at h
    cases h
    have HM := Lib.hid hm
    clear hm
    go_enter Try.func11, Try.ntmps11
    go_wp2_with (go_at_call 28; refine (rMode_is m false _ HM.out).mono ?_; rintro e w' ⟨rfl, rfl⟩)
    go_ret2
    exact ⟨rfl, Below.refl _ _⟩
  · rw [hm] at h
    have HM := Lib.hid hm
    clear hm
    by_cases hd : d = 0
    · rw [if_neg (by decide), if_pos hd] at h
      cases h
      subst hd
      go_enter Try.func11, Try.ntmps11
      go_wp2_with (go_at_call 28; refine (rMode_is m true _ HM.out).mono ?_; rintro e w' ⟨rfl, rfl⟩)
      go_ret2
      exact ⟨rfl, Below.refl _ _⟩
    · rw [if_neg (by decide), if_neg hd] at h
      have hd0 : (d == 0) = false := by simpa using hd
      cases hb1 : beyond n 4611686018427387904
      · rw [hb1, Bool.false_or] at h
        have HB1 := Lib.hid hb1
        cases hb2 : beyond d 4611686018427387904
        · rw [hb2, if_neg (by decide)] at h
          cases h
          have HB2 := Lib.hid hb2
          have g1 := beyond_abs hb1
          have g2 := beyond_abs hb2
          have hdp : 0 < d.natAbs := by omega
          obtain ⟨q, hq⟩ : ∃ q : Int, ((n.natAbs / d.natAbs : Nat) : Int) = q := ⟨_, rfl⟩
          obtain ⟨r, hr⟩ : ∃ r : Int, ((n.natAbs % d.natAbs : Nat) : Int) = r := ⟨_, rfl⟩
          obtain ⟨x, hx⟩ : ∃ x : Int, (n.natAbs : Int) = x := ⟨_, rfl⟩
          obtain ⟨y, hy⟩ : ∃ y : Int, (d.natAbs : Int) = y := ⟨_, rfl⟩
          obtain ⟨neg, hneg⟩ : ∃ neg, (!(decide (n < 0) == decide (d < 0))) = neg := ⟨_, rfl⟩
          obtain ⟨a, ha⟩ : ∃ a, quot n d m = a := ⟨_, rfl⟩
          have hrn : rnd q r y neg m = a := by rw [← ha, ← hq, ← hr, ← hy, ← hneg]; rfl
          have e1 : x / y = q := by rw [← hx, ← hy, ← hq]; rfl
          have e2 : x % y = r := by rw [← hx, ← hy, ← hr]; rfl
          have x0 : 0 ≤ x := by omega
          have y1 : 1 ≤ y := by omega
          have qb : 0 ≤ q ∧ q ≤ 4611686018427387904 := by
            have h1 : (0 : Int) ≤ q := by rw [← hq]; exact Int.natCast_nonneg _
            have h2 : q ≤ (n.natAbs : Int) := by rw [← hq]; exact Int.ofNat_le.2 (Nat.div_le_self _ _)
            exact ⟨h1, by omega⟩
          have rb : 0 ≤ r ∧ r < y := by
            have h1 : (0 : Int) ≤ r := by rw [← hr]; exact Int.natCast_nonneg _
            have h2 : r < (d.natAbs : Int) := by rw [← hr]; exact Int.ofNat_lt.2 (Nat.mod_lt _ hdp)
            exact ⟨h1, by omega⟩
          have f1 : IntKind.i64.wrap (x / y) = q := by rw [e1]; exact i64_in (by omega) (by omega)
          have f2 : IntKind.i64.wrap (x.tdiv y) = q := by rw [Int.tdiv_eq_ediv_of_nonneg x0, e1]; exact i64_in (by omega) (by omega)
          have f3 : x.tmod y = r := by rw [Int.tmod_eq_emod_of_nonneg x0, e2]
          have f4 : x.tdiv y = q := by rw [Int.tdiv_eq_ediv_of_nonneg x0, e1]
          have f5 : wrap64 q = q := IntWalk.wrap64_in q ⟨by omega, by omega⟩
          have y0 : (y == 0) = false := by simp; omega
          rw [ha]
          have HX := Lib.hid hx
          have HY := Lib.hid hy
          have HR := Lib.hid hrn
          have HB := Lib.hid (And.intro g1 (And.intro g2 (And.intro qb rb)))
          have HYM := Lib.hid (show y ≤ 4611686018427387904 by omega)
          clear hx hy hrn hq hr ha hb1 hb2 hdp e1 e2 g1 g2 qb rb hd
          go_enter Try.func11, Try.ntmps11
          go_wp2_with (first
            | (go_at_call 28; refine (rMode_is m true _ HM.out).mono ?_; rintro e w' ⟨rfl, rfl⟩)
            | (go_at_call 20; (with_reducible refine (rBeyond_is n _ false _ (by decide) (by decide) HB1.out).mono ?_); rintro e w' ⟨rfl, rfl⟩)
            | (go_at_call 20; (with_reducible refine (rBeyond_is d _ false _ (by decide) (by decide) HB2.out).mono ?_); rintro e w' ⟨rfl, rfl⟩)
            | (go_at_call 21; (with_reducible refine (rAbs_is n x _ (by have := HB.out; omega) HX.out).mono ?_); rintro e w' ⟨rfl, rfl⟩)
            | (go_at_call 21; (with_reducible refine (rAbs_is d y _ (by have := HB.out; omega) HY.out).mono ?_); rintro e w' ⟨rfl, rfl⟩)
            | fail)
          go_quiet ((go_at_call 29; with_reducible exact quiet_eq (rRounded_is q r y m a neg _ HB.out.2.2.1.1 HB.out.2.2.1.2 HB.out.2.2.2.1 HB.out.2.2.2.2 HYM.out HM.out HR.out)))
          go_wp2
          go_ret2
          exact ⟨rfl, below_drewN (Below.refl _ _) _⟩
        · rw [hb2, if_pos rfl] at h
          cases h
          have HB2 := Lib.hid hb2
          clear hb1 hb2
          go_enter Try.func11, Try.ntmps11
          go_wp2_with (first
            | (go_at_call 28; refine (rMode_is m true _ HM.out).mono ?_; rintro e w' ⟨rfl, rfl⟩)
            | (go_at_call 20; (with_reducible refine (rBeyond_is n _ false _ (by decide) (by decide) HB1.out).mono ?_); rintro e w' ⟨rfl, rfl⟩)
            | (go_at_call 20; (with_reducible refine (rBeyond_is d _ true _ (by decide) (by decide) HB2.out).mono ?_); rintro e w' ⟨rfl, rfl⟩)
            | fail)
          go_ret2
          exact ⟨rfl, Below.refl _ _⟩
      · rw [hb1, Bool.true_or, if_pos rfl] at h
        cases h
        have HB1 := Lib.hid hb1
        clear hb1
        go_enter Try.func11, Try.ntmps11
        go_wp2_with (first
          | (go_at_call 28; refine (rMode_is m true _ HM.out).mono ?_; rintro e w' ⟨rfl, rfl⟩)
          | (go_at_call 20; (with_reducible refine (rBeyond_is n _ true _ (by decide) (by decide) HB1.out).mono ?_); rintro e w' ⟨rfl, rfl⟩)
          | fail)
        go_ret2
        exact ⟨rfl, Below.refl _ _⟩
end Go.Proofs.Ytikcnekaefelcaa.money
