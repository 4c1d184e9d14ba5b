/-
  What the functions of package money answer (landed code of bccb483e): gathered.
-/
import Derived.Test.YtikcnekaefelcaaMineC
import Derived.Test.YtikcnekaefelcaaMineD
import Derived.Test.YtikcnekaefelcaaMineSum
import Derived.Test.YtikcnekaefelcaaMineF
import Derived.Test.YtikcnekaefelcaaMoneyRefAlloc
import Derived.Test.YtikcnekaefelcaaMoneyRefDiv
import Derived.Test.YtikcnekaefelcaaMoneyRefRound
import Derived.Test.YtikcnekaefelcaaMoneyRefMul
namespace Go.Proofs.Ytikcnekaefelcaa.money
open Go Go.RowKit Go.Proofs.Ytikcnekaefelcaa.ints
set_option linter.unusedVariables false

theorem Sum_is (v : Value) (l : List Int) (a c : Int) (w : World) (hv : Ints w v l) (h : sumR l = (a, c)) : Calls Try.prog 22 #[v] w (Gives w a c) := by
  refine (mSum_is v l a c w hv h).mono ?_
  rintro e w' ⟨rfl, rfl⟩
  exact ⟨rfl, Below.refl _ _⟩
end Go.Proofs.Ytikcnekaefelcaa.money
