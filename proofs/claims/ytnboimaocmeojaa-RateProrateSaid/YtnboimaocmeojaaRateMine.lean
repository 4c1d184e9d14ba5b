/-
  What package rate's Compound answers: the walk. (With it all five functions of the package are there.)
-/
import Derived.Test.YtnboimaocmeojaaRateMineA
namespace Go.Proofs.Ytnboimaocmeojaa.money
open Go Go.RowKit
set_option linter.unusedVariables false

set_option maxRecDepth 4000 in
set_option maxHeartbeats 2000000 in
theorem Compound_is (c r n m x e : Int) (w : World) (h : compR c r n m = (x, e)) : Calls Try.prog 18 #[.int .i64 c, .int .i64 r, .int .i64 n, .int .i64 m] w (Gives w x e) := by
  unfold compR at h
  cases hm : okMode m
  · rw [hm, if_pos (by decide)] at h
    cases h
    have HM := Lib.hid hm
    clear hm
    go_enter Try.func18, Try.ntmps18
    go_wp2_with (go_at_call 20; refine (qMode_is m false _ HM.out).mono ?_; rintro e w' ⟨rfl, rfl⟩)
    go_ret2
    exact ⟨rfl, Below.refl _ _⟩
  · rw [hm, if_neg (by decide)] at h
    have HM := Lib.hid hm
    clear hm
    by_cases h1 : n < 0 ∨ 120 < n
    · have e1 : (decide (n < 0) || decide (120 < n) || beyond c 1000000000000000 || beyond r 1000000000) = true := by
        simp only [Bool.or_eq_true, decide_eq_true_eq]; omega
      rw [e1, if_pos rfl] at h
      cases h
      clear e1
      have h2 : n < 0 ∨ (¬ n < 0 ∧ 120 < n) := by omega
      clear h1
      rcases h2 with g | ⟨g, g2⟩
      all_goals
        go_enter Try.func18, Try.ntmps18
        go_wp2_with (go_at_call 20; refine (qMode_is m true _ HM.out).mono ?_; rintro e w' ⟨rfl, rfl⟩)
        go_ret2
        exact ⟨rfl, Below.refl _ _⟩
    · have g1 : ¬ n < 0 := by omega
      have g2 : ¬ 120 < n := by omega
      rw [decide_eq_false g1, decide_eq_false g2, Bool.or_self, Bool.false_or] at h
      clear h1
      cases hb1 : beyond c 1000000000000000
      · cases hb2 : beyond r 1000000000
        · rw [hb1, hb2, if_neg (by decide)] at h
          obtain ⟨c0, c1⟩ := beyond_in hb1
          obtain ⟨N, rfl⟩ : ∃ N : Nat, n = N := ⟨n.toNat, by omega⟩
          rw [Int.toNat_natCast] at h
          have H := Lib.hid h
          have HB1 := Lib.hid hb1
          have HB2 := Lib.hid hb2
          clear hb1 hb2 h
          go_enter Try.func18, Try.ntmps18
          go_wp2_with (first
            | (go_at_call 20; refine (qMode_is m true _ HM.out).mono ?_; rintro e w' ⟨rfl, rfl⟩)
            | (go_at_call 21; (with_reducible refine (qBeyond_is c _ false _ (by decide) (by decide) HB1.out).mono ?_); rintro e w' ⟨rfl, rfl⟩)
            | (go_at_call 21; (with_reducible refine (qBeyond_is r _ false _ (by decide) (by decide) HB2.out).mono ?_); rintro e w' ⟨rfl, rfl⟩)
            | fail)
          go_loopw [0, 30] (fun s i wr => ∃ (k : Nat) (t : Int), k ≤ N ∧ i = .int .i64 k ∧ s = .int .i64 t ∧ -1000000000000000 ≤ t ∧ t ≤ 1000000000000000 ∧ compFrom r m (N - k) t = (x, e) ∧ Below w.heap.size w wr) (fun _ i _ => N - (intOf i).toNat)
          case atStart => exact ⟨0, c, Nat.zero_le _, rfl, rfl, c0, c1, by simpa using H.out, Below.refl _ _⟩
          case round =>
            obtain ⟨k, t, hk, rfl, rfl, t0, t1, hf, hbw⟩ := hrel
            have HBW := Lib.hid hbw
            clear hbw
            by_cases hlt : k < N
            · have hki : (k : Int) < N := by omega
              rw [show N - k = (N - (k + 1)) + 1 by omega, compFrom] at hf
              obtain ⟨y, e2, hy⟩ : ∃ y e2, mulR t r 1000000 m = (y, e2) := ⟨_, _, rfl⟩
              rw [hy] at hf
              obtain ⟨y0, y1⟩ := mulR_small hy
              have HY := Lib.hid hy
              by_cases he : e2 = 0
              · subst he
                simp only [ne_eq, not_true_eq_false, if_false] at hf
                cases hb : beyond (t + y) 1000000000000000
                · rw [hb, if_neg (by decide)] at hf
                  obtain ⟨s0, s1⟩ := beyond_in hb
                  have HB := Lib.hid (show (if beyond (t + y) 1000000000000000 then ((0 : Int), (3 : Int)) else (t + y, 0)) = (t + y, 0) by rw [hb]; rfl)
                  have HF := Lib.hid hf
                  clear hb hf hy
                  go_wp2_with (first
                    | (go_at_call 14; refine (RApply_is t r m y 0 _ HY.out).mono ?_; rintro e w3 ⟨rfl, hb3⟩)
                    | (go_at_call 23; (with_reducible refine (within_is (t + y) 1000000000000000 (t + y) 0 _ (by decide) (by decide) HB.out).mono ?_); rintro e w' ⟨rfl, rfl⟩)
                    | fail)
                  go_roundw
                  case rel => exact ⟨k + 1, t + y, by omega, by go_num, rfl, s0, s1, HF.out, tr HBW.out hb3⟩
                  case measure => simp [intOf]; omega
                · rw [hb, if_pos rfl] at hf
                  cases hf
                  have HB := Lib.hid (show (if beyond (t + y) 1000000000000000 then ((0 : Int), (3 : Int)) else (t + y, 0)) = (0, 3) by rw [hb]; rfl)
                  clear hb hy
                  go_wp2_with (first
                    | (go_at_call 14; refine (RApply_is t r m y 0 _ HY.out).mono ?_; rintro e w3 ⟨rfl, hb3⟩)
                    | (go_at_call 23; (with_reducible refine (within_is (t + y) 1000000000000000 0 3 _ (by decide) (by decide) HB.out).mono ?_); rintro e w' ⟨rfl, rfl⟩)
                    | fail)
                  go_ret2
                  exact ⟨rfl, tr HBW.out hb3⟩
              · simp only [ne_eq, he, not_false_eq_true, if_true] at hf
                simp only [Prod.mk.injEq] at hf
                obtain ⟨rfl, rfl⟩ := hf
                have he1 : (e2 != 0) = true := by simpa using he
                clear hy
                go_wp2_with (first
                  | (go_at_call 14; refine (RApply_is t r m y e2 _ HY.out).mono ?_; rintro e w3 ⟨rfl, hb3⟩)
                  | fail)
                go_ret2
                exact ⟨rfl, tr HBW.out hb3⟩
            · obtain rfl : k = N := by omega
              rw [Nat.sub_self, compFrom] at hf
              cases hf
              go_wp2
              go_ret2
              exact ⟨rfl, HBW.out⟩
        · rw [hb1, hb2, if_pos (by decide)] at h
          cases h
          have HB1 := Lib.hid hb1
          have HB2 := Lib.hid hb2
          clear hb1 hb2
          go_enter Try.func18, Try.ntmps18
          go_wp2_with (first
            | (go_at_call 20; refine (qMode_is m true _ HM.out).mono ?_; rintro e w' ⟨rfl, rfl⟩)
            | (go_at_call 21; (with_reducible refine (qBeyond_is c _ false _ (by decide) (by decide) HB1.out).mono ?_); rintro e w' ⟨rfl, rfl⟩)
            | (go_at_call 21; (with_reducible refine (qBeyond_is r _ true _ (by decide) (by decide) HB2.out).mono ?_); rintro e w' ⟨rfl, rfl⟩)
            | fail)
          go_ret2
          exact ⟨rfl, Below.refl _ _⟩
      · rw [hb1, Bool.true_or, if_pos rfl] at h
        cases h
        have HB1 := Lib.hid hb1
        clear hb1
        go_enter Try.func18, Try.ntmps18
        go_wp2_with (first
          | (go_at_call 20; refine (qMode_is m true _ HM.out).mono ?_; rintro e w' ⟨rfl, rfl⟩)
          | (go_at_call 21; (with_reducible refine (qBeyond_is c _ true _ (by decide) (by decide) HB1.out).mono ?_); rintro e w' ⟨rfl, rfl⟩)
          | fail)
        go_ret2
        exact ⟨rfl, Below.refl _ _⟩
end Go.Proofs.Ytnboimaocmeojaa.money
