/-
  What package date's Weekday answers.
-/
import Derived.Test.YtmmohbmgodiilaaDoorQCalDate
namespace Go.Proofs.YtmmohbmgodiilaaDoor.cal
open Go Go.RowKit Go.Proofs.YtmmohbmgodiilaaDoor.money
set_option linter.unusedVariables false

theorem mWeekday_is (n c : Int) (w : World) (h : wkR n = c) : Calls Tryd.prog 62 #[.int .i64 n] w fun e w' => e = .returned (.int .i64 c) ∧ w = w' := by
  unfold wkR at h
  cases hv : okD n
  · rw [hv, if_neg (by decide)] at h
    subst h
    have HV := Lib.hid hv
    clear hv
    go_enter Tryd.func62, Tryd.ntmps62
    go_wp2_with (go_at_call 44; refine (mIsDate_is n false _ HV.out).mono ?_; rintro e w' ⟨rfl, rfl⟩)
    go_ret
    exact ⟨rfl, rfl⟩
  · rw [hv, if_pos rfl] at h
    obtain ⟨n0, n1⟩ := (okD_iff n).1 hv
    have HV := Lib.hid hv
    have H := Lib.hid h
    clear hv h
    go_enter Tryd.func62, Tryd.ntmps62
    go_wp2_with (go_at_call 44; refine (mIsDate_is n true _ HV.out).mono ?_; rintro e w' ⟨rfl, rfl⟩)
    go_ret
    exact ⟨ret_int (by rw [← H.out]), rfl⟩
end Go.Proofs.YtmmohbmgodiilaaDoor.cal
