/-
  What package date's walks ask of the program's variables: the library's tables and the lengths of the months.
-/
import Derived.Test.YtmmohbmgodiilaaDoorQNumParse
import Derived.Test.YtmmohbmgodiilaaDoorQCalPosts
import Derived.Lib.LaidTab
namespace Go.Proofs.YtmmohbmgodiilaaDoor.cal
open Go Go.RowKit Go.Sort
set_option linter.unusedVariables false

def monTab : List Int := [0, 31, 28, 31, 30, 31, 30, 31, 31, 30, 31, 30, 31]
structure Env (w : World) : Prop where
  num : Go.Proofs.YtmmohbmgodiilaaDoor.num.Env w
  mon : Lib.TabIs Tryd.prog w "guerdon/date.monthLengths" .i64 monTab
theorem gMon : Tryd.prog.globalNamed "guerdon/date.monthLengths" = some 0 := by kernel_rfl
theorem Env.below {w w' : World} (h : Env w) (hb : Below w.heap.size w w') : Env w' :=
  ⟨h.num.below hb, var?_below hb gMon (Go.Proofs.YtmmohbmgodiilaaDoor.num.var_lt gMon h.mon) h.mon⟩
end Go.Proofs.YtmmohbmgodiilaaDoor.cal
