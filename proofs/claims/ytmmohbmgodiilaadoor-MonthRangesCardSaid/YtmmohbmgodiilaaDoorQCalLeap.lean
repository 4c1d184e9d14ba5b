/-
  What the reference's functions of chapter 4 on years and months answer: the walks.
-/
import Derived.Test.YtmmohbmgodiilaaDoorQWalkBase
import Derived.Test.YtmmohbmgodiilaaDoorPa
namespace Go.Proofs.YtmmohbmgodiilaaDoor.cal
open Go Go.RowKit Go.Proofs.YtmmohbmgodiilaaDoor.money
set_option linter.unusedVariables false

theorem rIsLeap_is (y : Int) (b : Bool) (w : World) (h : leap y = b) : Calls Tryd.prog 48 #[.int .i64 y] w fun e w' => e = .returned (.bool b) ∧ w = w' := by
  have H := Lib.hid h
  clear h
  go_enter Tryd.func48, Tryd.ntmps48
  go_wp2
  all_goals go_ret
  all_goals refine ⟨ret_bool ?_, rfl⟩
  all_goals rw [← H.out]; unfold leap
  all_goals (first | (simp; done) | (simp_all; done))

set_option maxHeartbeats 1000000 in
theorem rDaysInMonth_is (y m c : Int) (w : World) (h : dim y m = c) : Calls Tryd.prog 29 #[.int .i64 y, .int .i64 m] w fun e w' => e = .returned (.int .i64 c) ∧ w = w' := by
  obtain ⟨b, hb⟩ : ∃ b, leap y = b := ⟨_, rfl⟩
  unfold dim at h
  rw [hb] at h
  have H := Lib.hid h
  have HB := Lib.hid hb
  clear h hb
  by_cases h12 : m = 1 ∨ m = 2 ∨ m = 3 ∨ m = 4 ∨ m = 5 ∨ m = 6 ∨ m = 7 ∨ m = 8 ∨ m = 9 ∨ m = 10 ∨ m = 11 ∨ m = 12
  · rcases h12 with rfl | rfl | rfl | rfl | rfl | rfl | rfl | rfl | rfl | rfl | rfl | rfl
    all_goals cases b
    all_goals
      go_enter Tryd.func29, Tryd.ntmps29
      go_wp2_with (go_at_call 48; refine (rIsLeap_is y _ _ HB.out).mono ?_; rintro e w' ⟨rfl, rfl⟩)
      go_ret
      exact ⟨ret_int (by rw [← H.out]; rfl), rfl⟩
  · have e1 : (m == 1) = false := by simp; omega
    have e2 : (m == 2) = false := by simp; omega
    have e3 : (m == 3) = false := by simp; omega
    have e4 : (m == 4) = false := by simp; omega
    have e5 : (m == 5) = false := by simp; omega
    have e6 : (m == 6) = false := by simp; omega
    have e7 : (m == 7) = false := by simp; omega
    have e8 : (m == 8) = false := by simp; omega
    have e9 : (m == 9) = false := by simp; omega
    have e10 : (m == 10) = false := by simp; omega
    have e11 : (m == 11) = false := by simp; omega
    have e12 : (m == 12) = false := by simp; omega
    have HM := Lib.hid h12
    clear h12
    go_enter Tryd.func29, Tryd.ntmps29
    go_wp2
    go_ret
    exact ⟨ret_int (by have := HM.out; rw [← H.out, if_neg (by omega), if_neg (by omega), if_neg (by omega)]), rfl⟩
theorem rDaysInYear_is (y c : Int) (w : World) (h : diy y = c) : Calls Tryd.prog 43 #[.int .i64 y] w fun e w' => e = .returned (.int .i64 c) ∧ w = w' := by
  obtain ⟨b, hb⟩ : ∃ b, leap y = b := ⟨_, rfl⟩
  unfold diy at h
  rw [hb] at h
  have H := Lib.hid h
  have HB := Lib.hid hb
  clear h hb
  cases b
  all_goals
    go_enter Tryd.func43, Tryd.ntmps43
    go_wp2_with (go_at_call 48; refine (rIsLeap_is y _ _ HB.out).mono ?_; rintro e w' ⟨rfl, rfl⟩)
    go_ret
    exact ⟨ret_int (by rw [← H.out]; rfl), rfl⟩
end Go.Proofs.YtmmohbmgodiilaaDoor.cal
