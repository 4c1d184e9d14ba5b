/-
  What the reference's Valid of chapter 4 answers: the walk.
-/
import Derived.Test.YtmmohbmgodiilaaDoorQCalLeap
namespace Go.Proofs.YtmmohbmgodiilaaDoor.cal
open Go Go.RowKit Go.Proofs.YtmmohbmgodiilaaDoor.money
set_option linter.unusedVariables false

theorem rValid_is (n : Int) (b : Bool) (w : World) (h : okD n = b) : Calls Tryd.prog 47 #[.int .i64 n] w fun e w' => e = .returned (.bool b) ∧ w = w' := by
  have H := Lib.hid h
  clear h
  go_enter Tryd.func47, Tryd.ntmps47
  go_wp2
  all_goals go_ret
  all_goals refine ⟨ret_bool ?_, rfl⟩
  all_goals rw [← H.out]; unfold okD
  all_goals (first | (simp; done) | (simp_all; done) | (simp_all; omega))
end Go.Proofs.YtmmohbmgodiilaaDoor.cal
