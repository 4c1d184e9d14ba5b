/-
  What the reference's RoundTo of chapter 2 answers: the walk.
-/
import Derived.Test.YtikcnekaefelcaaMoneyRef
namespace Go.Proofs.Ytikcnekaefelcaa.money
open Go Go.RowKit
set_option linter.unusedVariables false

set_option maxHeartbeats 1000000 in
theorem rRoundTo_is (n d m a c : Int) (w : World) (h : roundR n d m = (a, c)) :
    Calls Try.prog 16 #[.int .i64 n, .int .i64 d, .int .i64 m] w fun e w' => e = .returned (.tuple #[.int .i64 a, .int .i64 c]) ∧ Below w.heap.size w w' := by
  unfold roundR at h
  cases hm : okMode m
  · rw [hm] at h
    cases h
    have HM := Lib.hid hm
    clear hm
    go_enter Try.func16, Try.ntmps16
    go_wp2_with (go_at_call 28; refine (rMode_is m false _ HM.out).mono ?_; rintro e w' ⟨rfl, rfl⟩)
    go_ret2
    exact ⟨rfl, Below.refl _ _⟩
  · rw [hm] at h
    have HM := Lib.hid hm
    clear hm
    by_cases hd : d < 1
    · rw [if_neg (by decide), if_pos hd] at h
      cases h
      go_enter Try.func16, Try.ntmps16
      go_wp2_with (go_at_call 28; refine (rMode_is m true _ HM.out).mono ?_; rintro e w' ⟨rfl, rfl⟩)
      go_ret2
      exact ⟨rfl, Below.refl _ _⟩
    · rw [if_neg (by decide), if_neg hd] at h
      cases hb1 : beyond n 1000000000000000
      · rw [hb1, Bool.false_or] at h
        have HB1 := Lib.hid hb1
        by_cases hb2 : 1000000000000000 < d
        · rw [decide_eq_true hb2, if_pos rfl] at h
          cases h
          clear hb1
          go_enter Try.func16, Try.ntmps16
          go_wp2_with (first
            | (go_at_call 28; refine (rMode_is m true _ HM.out).mono ?_; rintro e w' ⟨rfl, rfl⟩)
            | (go_at_call 20; (with_reducible refine (rBeyond_is n _ false _ (by decide) (by decide) HB1.out).mono ?_); rintro e w' ⟨rfl, rfl⟩)
            | fail)
          go_ret2
          exact ⟨rfl, Below.refl _ _⟩
        · rw [decide_eq_false hb2, if_neg (by decide)] at h
          have g1 := beyond_abs hb1
          have hsc := scaled_le n d m g1 (by omega) (by omega)
          have hdn : (d.natAbs : Int) = d := by omega
          have hdp : 0 < d.natAbs := by omega
          obtain ⟨q, hq⟩ : ∃ q : Int, ((n.natAbs / d.natAbs : Nat) : Int) = q := ⟨_, rfl⟩
          obtain ⟨r, hr⟩ : ∃ r : Int, ((n.natAbs % d.natAbs : Nat) : Int) = r := ⟨_, rfl⟩
          obtain ⟨x, hx⟩ : ∃ x : Int, (n.natAbs : Int) = x := ⟨_, rfl⟩
          obtain ⟨neg, hneg⟩ : ∃ neg, decide (n < 0) = neg := ⟨_, rfl⟩
          obtain ⟨z, hz⟩ : ∃ z, quot n d m = z := ⟨_, rfl⟩
          obtain ⟨p, hp⟩ : ∃ p, z * d = p := ⟨_, rfl⟩
          have hrn : rnd q r d neg m = z := by
            rw [← hz, ← hq, ← hr, ← hneg]
            unfold quot
            rw [hdn, show decide (d < 0) = false by rw [decide_eq_false_iff_not]; omega]
            cases decide (n < 0) <;> rfl
          have e1 : x / d = q := by rw [← hx, ← hq, Int.natCast_ediv, hdn]
          have e2 : x % d = r := by rw [← hx, ← hr, Int.natCast_emod, hdn]
          have x0 : 0 ≤ x := by omega
          have qb : 0 ≤ q ∧ q ≤ 4611686018427387904 := by
            have h1 : (0 : Int) ≤ q := by rw [← hq]; exact Int.natCast_nonneg _
            have h2 : q ≤ (n.natAbs : Int) := by rw [← hq]; exact Int.ofNat_le.2 (Nat.div_le_self _ _)
            exact ⟨h1, by omega⟩
          have rb : 0 ≤ r ∧ r < d := by
            have h1 : (0 : Int) ≤ r := by rw [← hr]; exact Int.natCast_nonneg _
            have h2 : r < (d.natAbs : Int) := by rw [← hr]; exact Int.ofNat_lt.2 (Nat.mod_lt _ hdp)
            exact ⟨h1, by omega⟩
          rw [hz, hp] at hsc h
          have f1 : IntKind.i64.wrap (x / d) = q := by rw [e1]; exact i64_in (by omega) (by omega)
          have f2 : IntKind.i64.wrap (x.tdiv d) = q := by rw [Int.tdiv_eq_ediv_of_nonneg x0, e1]; exact i64_in (by omega) (by omega)
          have f3 : x.tmod d = r := by rw [Int.tmod_eq_emod_of_nonneg x0, e2]
          have f4 : x.tdiv d = q := by rw [Int.tdiv_eq_ediv_of_nonneg x0, e1]
          have f5 : wrap64 q = q := IntWalk.wrap64_in q ⟨by omega, by omega⟩
          have f6 : wrap64 p = p := IntWalk.wrap64_in p ⟨by omega, by omega⟩
          have f7 : IntKind.i64.wrap p = p := i64_in (by omega) (by omega)
          have d0 : (d == 0) = false := by simp; omega
          have HX := Lib.hid hx
          have HR := Lib.hid hrn
          have HB := Lib.hid (And.intro g1 (And.intro qb rb))
          have HYM := Lib.hid (show d ≤ 4611686018427387904 by omega)
          cases hb3 : beyond p 1000000000000000
          all_goals
            rw [hb3] at h
            simp only [Bool.false_eq_true, if_false, if_true, Prod.mk.injEq] at h
            obtain ⟨ha, hc⟩ := h
            subst ha hc
            have HB3 := Lib.hid hb3
            clear hx hrn hq hr hz hb1 hdp e1 e2 g1 qb rb hdn hb3 hsc
            go_enter Try.func16, Try.ntmps16
            go_wp2_with (first
              | (go_at_call 28; refine (rMode_is m true _ HM.out).mono ?_; rintro e w' ⟨rfl, rfl⟩)
              | (go_at_call 20; (with_reducible refine (rBeyond_is n _ false _ (by decide) (by decide) HB1.out).mono ?_); rintro e w' ⟨rfl, rfl⟩)
              | (go_at_call 21; (with_reducible refine (rAbs_is n x _ (by have := HB.out; omega) HX.out).mono ?_); rintro e w' ⟨rfl, rfl⟩)
              | fail)
            go_quiet ((go_at_call 29; with_reducible exact quiet_eq (rRounded_is q r d m z neg _ HB.out.2.1.1 HB.out.2.1.2 HB.out.2.2.1 HB.out.2.2.2 HYM.out HM.out HR.out)))
            go_wp2_with (go_at_call 20; refine (rBeyond_is p 1000000000000000 _ _ (by decide) (by decide) HB3.out).mono ?_; rintro e w' ⟨rfl, rfl⟩)
            go_ret2
            exact ⟨rfl, below_drewN (Below.refl _ _) _⟩
      · rw [hb1, Bool.true_or, if_pos rfl] at h
        cases h
        have HB1 := Lib.hid hb1
        clear hb1
        go_enter Try.func16, Try.ntmps16
        go_wp2_with (first
          | (go_at_call 28; refine (rMode_is m true _ HM.out).mono ?_; rintro e w' ⟨rfl, rfl⟩)
          | (go_at_call 20; (with_reducible refine (rBeyond_is n _ true _ (by decide) (by decide) HB1.out).mono ?_); rintro e w' ⟨rfl, rfl⟩)
          | fail)
        go_ret2
        exact ⟨rfl, Below.refl _ _⟩

end Go.Proofs.Ytikcnekaefelcaa.money
