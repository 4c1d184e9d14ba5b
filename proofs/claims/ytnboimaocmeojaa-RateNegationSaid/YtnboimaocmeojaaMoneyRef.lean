/-
  What the reference's functions of chapter 2 on single amounts answer: the walks.
-/
import Derived.Test.YtnboimaocmeojaaWalkBase
import Derived.Test.YtnboimaocmeojaaMoneyMath
namespace Go.Proofs.Ytnboimaocmeojaa.money
open Go Go.RowKit
set_option linter.unusedVariables false

theorem rMode_is (m : Int) (b : Bool) (w : World) (h : okMode m = b) :
    Calls Try.prog 37 #[.int .i64 m] w fun e w' => e = .returned (.bool b) ∧ w = w' := by
  have H := Lib.hid h
  clear h
  go_enter Try.func37, Try.ntmps37
  go_wp2
  all_goals go_ret
  all_goals refine ⟨ret_bool ?_, rfl⟩
  all_goals rw [← H.out]; unfold okMode
  all_goals (first | (simp; done) | (simp_all; done) | (simp_all; omega))

theorem rBeyond_is (n most : Int) (b : Bool) (w : World) (h0 : 0 ≤ most) (h1 : most ≤ 9223372036854775807) (h : beyond n most = b) :
    Calls Try.prog 38 #[.int .i64 n, .int .i64 most] w fun e w' => e = .returned (.bool b) ∧ w = w' := by
  have H := Lib.hid h
  clear h
  go_enter Try.func38, Try.ntmps38
  go_wp2
  all_goals go_ret
  all_goals refine ⟨ret_bool ?_, rfl⟩
  all_goals rw [← H.out]; unfold beyond
  all_goals (first | (simp; done) | (simp_all; done) | (simp_all; omega))

theorem rAbs_is (n c : Int) (w : World) (h0 : -9223372036854775807 ≤ n) (h : (n.natAbs : Int) = c) :
    Calls Try.prog 39 #[.int .i64 n] w fun e w' => e = .returned (.int .i64 c) ∧ w = w' := by
  have H := Lib.hid h
  clear h
  by_cases hn : n < 0
  · by_cases hb : n ≤ 9223372036854775807
    · go_enter Try.func39, Try.ntmps39
      go_wp2
      go_ret
      exact ⟨ret_int (by rw [← H.out]; omega), rfl⟩
    · omega
  · go_enter Try.func39, Try.ntmps39
    go_wp2
    go_ret
    exact ⟨ret_int (by rw [← H.out]; omega), rfl⟩

set_option maxHeartbeats 1000000 in
theorem rRounded_is (q r d m c : Int) (neg : Bool) (w : World) (q0 : 0 ≤ q) (q1 : q ≤ 4611686018427387904) (r0 : 0 ≤ r) (r1 : r < d) (d1 : d ≤ 4611686018427387904) (hm : okMode m = true) (h : rnd q r d neg m = c) :
    Calls Try.prog 40 #[.int .i64 q, .int .i64 r, .int .i64 d, .bool neg, .int .i64 m] w fun e w' => e = .returned (.int .i64 c) ∧ w = w' := by
  have H := Lib.hid h
  have hm6 : m = 0 ∨ m = 1 ∨ m = 2 ∨ m = 3 ∨ m = 4 ∨ m = 5 := by
    unfold okMode at hm; simp at hm; omega
  clear h hm
  rcases hm6 with rfl | rfl | rfl | rfl | rfl | rfl
  iterate 4
    by_cases hr : 0 < r
    · have g1 : decide (0 < r) = true := by simpa using hr
      cases neg
      all_goals
        go_enter Try.func40, Try.ntmps40
        go_wp2
        all_goals go_ret
        all_goals refine ⟨ret_int ?_, rfl⟩
        all_goals rw [← H.out]; unfold rnd mag up
        all_goals (first | (simp; done) | (simp_all; done) | (simp_all; omega) | (simp; omega))
    · have g1 : decide (0 < r) = false := by simpa using hr
      cases neg
      all_goals
        go_enter Try.func40, Try.ntmps40
        go_wp2
        all_goals go_ret
        all_goals refine ⟨ret_int ?_, rfl⟩
        all_goals rw [← H.out]; unfold rnd mag up
        all_goals (first | (simp; done) | (simp_all; done) | (simp_all; omega) | (simp; omega))
  · by_cases h1 : d - r ≤ r
    · have g1 : decide (d - r ≤ r) = true := by simpa using h1
      have X := Lib.hid h1
      clear h1
      cases neg
      all_goals
        go_enter Try.func40, Try.ntmps40
        go_wp2
        all_goals go_ret
        all_goals refine ⟨ret_int ?_, rfl⟩
        all_goals rw [← H.out]; unfold rnd mag up
        all_goals (have x1 := X.out; (first | (simp; done) | (simp_all; done) | (simp_all; omega) | (simp; omega)))
    · have g1 : decide (d - r ≤ r) = false := by simpa using h1
      have X := Lib.hid h1
      clear h1
      cases neg
      all_goals
        go_enter Try.func40, Try.ntmps40
        go_wp2
        all_goals go_ret
        all_goals refine ⟨ret_int ?_, rfl⟩
        all_goals rw [← H.out]; unfold rnd mag up
        all_goals (have x1 := X.out; (first | (simp; done) | (simp_all; done) | (simp_all; omega) | (simp; omega)))
  by_cases h1 : d - r < r
  · have g1 : decide (d - r < r) = true := by simpa using h1
    cases neg
    all_goals
      go_enter Try.func40, Try.ntmps40
      go_wp2
      all_goals go_ret
      all_goals refine ⟨ret_int ?_, rfl⟩
      all_goals rw [← H.out]; unfold rnd mag up
      all_goals (first | (simp; done) | (simp_all; done) | (simp_all; omega))
  · have g1 : decide (d - r < r) = false := by simpa using h1
    by_cases h2 : r = d - r
    · have g2 : (r == d - r) = true := by simpa using h2
      have g4 : decide (r = d - r) = true := by simpa using h2
      by_cases h3 : q % 2 = 1
      · have g3 : (q % 2 == 1) = true := by simpa using h3
        have hu : ∀ neg, up q r d neg 5 = true := fun neg => by rw [up5, g1, g4, decide_eq_true h3]; rfl
        have X := Lib.hid hu
        clear h1 h2 h3 g4 hu
        cases neg
        all_goals
          go_enter Try.func40, Try.ntmps40
          go_wp2
          all_goals go_ret
          all_goals refine ⟨ret_int ?_, rfl⟩
          all_goals rw [← H.out]; unfold rnd mag; rw [X.out]; rfl
      · have g3 : (q % 2 == 1) = false := by simpa using h3
        have hu : ∀ neg, up q r d neg 5 = false := fun neg => by rw [up5, g1, g4, decide_eq_false h3]; rfl
        have X := Lib.hid hu
        clear h1 h2 h3 g4 hu
        cases neg
        all_goals
          go_enter Try.func40, Try.ntmps40
          go_wp2
          all_goals go_ret
          all_goals refine ⟨ret_int ?_, rfl⟩
          all_goals rw [← H.out]; unfold rnd mag; rw [X.out]; rfl
    · have g2 : (r == d - r) = false := by simpa using h2
      have g4 : decide (r = d - r) = false := by simpa using h2
      have hu : ∀ neg, up q r d neg 5 = false := fun neg => by rw [up5, g1, g4]; rfl
      have X := Lib.hid hu
      clear h1 h2 g4 hu
      cases neg
      all_goals
        go_enter Try.func40, Try.ntmps40
        go_wp2
        all_goals go_ret
        all_goals refine ⟨ret_int ?_, rfl⟩
        all_goals rw [← H.out]; unfold rnd mag; rw [X.out]; rfl

end Go.Proofs.Ytnboimaocmeojaa.money
