/-
  What the listed tables give a walk of date's laws: the world's own facts.
-/
import Derived.Test.YtmmohbmgodiilaaDoorQLawKit0
import Derived.Test.YtmmohbmgodiilaaDoorQCalEnv
import Derived.Lib.LaidTab
namespace Go.Proofs.YtmmohbmgodiilaaDoor.kitm
open Go.ChangeShapes Go.WideShapes Go.ChangeAt Go.RowKit
open Go.Proofs.YtmmohbmgodiilaaDoor.num (gPow)
open Go.Proofs.YtmmohbmgodiilaaDoor.cal (gMon monTab)
set_option linter.unusedVariables false

theorem gPowType : (Tryd.prog.globals[2]?).map (·.type) = some 106 := by kernel_rfl
theorem cellsPow : Tryd.prog.cellsOf 106 = 20 := by kernel_rfl
theorem cellsU64 : Tryd.prog.cellsOf 61 = 1 := by kernel_rfl
theorem pow_data : (Rows.laid_internal_strconv_uint64pow10 : DataW Unit) = Lib.tabData .u64 Lib.pow10Tab := by kernel_rfl
theorem gMonType : (Tryd.prog.globals[0]?).map (·.type) = some 53 := by kernel_rfl
theorem cellsMon : Tryd.prog.cellsOf 53 = 13 := by kernel_rfl
theorem cellsInt : Tryd.prog.cellsOf 3 = 1 := by kernel_rfl
theorem mon_data : (Rows.laid_guerdon_date_monthLengths : DataW Unit) = Lib.tabData .i64 monTab := by kernel_rfl

theorem env_of {W : World} (hL : laidMetH Tryd.prog [("math/bits.deBruijn32tab", Rows.laid_math_bits_deBruijn32tab), ("math/bits.deBruijn64tab", Rows.laid_math_bits_deBruijn64tab), ("internal/strconv.uint64pow10", Rows.laid_internal_strconv_uint64pow10), ("guerdon/date.monthLengths", Rows.laid_guerdon_date_monthLengths)] W) (hsh : W.ShapedOpen Tryd.prog) : Go.Proofs.YtmmohbmgodiilaaDoor.cal.Env W := by
  rw [MakeChecks.laidMetH_plain _ _ _ (by kernel_rfl)] at hL
  have h2 := hL.tail.tail
  have h3 := h2.tail
  rw [pow_data] at h2
  rw [mon_data] at h3
  exact ⟨⟨Lib.tabIs_of_head gPow gPowType Tryd.underlying106 Tryd.underlying61 cellsU64 cellsPow h2, Tryd.laysM145.s1_3 W hsh⟩,
    Lib.tabIs_of_head gMon gMonType Tryd.underlying53 Tryd.underlying3 cellsInt cellsMon h3⟩
end Go.Proofs.YtmmohbmgodiilaaDoor.kitm
