/-
  The forms in which the contracts of package date are stated: what is answered, and that nothing older has turned.
-/
import Derived.Test.YtmmohbmgodiilaaDoorQWalkBase
import Derived.Test.YtmmohbmgodiilaaDoorPa
namespace Go.Proofs.YtmmohbmgodiilaaDoor.cal
open Go Go.RowKit Go.Proofs.YtmmohbmgodiilaaDoor.money
set_option linter.unusedVariables false

def GivesB (w : World) (b : Bool) (e : Ending) (w' : World) : Prop := e = .returned (.bool b) ∧ Below w.heap.size w w'
def GivesI (w : World) (c : Int) (e : Ending) (w' : World) : Prop := e = .returned (.int .i64 c) ∧ Below w.heap.size w w'
def Gives3 (w : World) (y m d : Int) (e : Ending) (w' : World) : Prop := e = .returned (.tuple #[.int .i64 y, .int .i64 m, .int .i64 d]) ∧ Below w.heap.size w w'
def GivesS (w : World) (t : ByteArray) (e : Ending) (w' : World) : Prop := e = .returned (.string t) ∧ Below w.heap.size w w'
def GivesStr (w : World) (t : ByteArray) (e : Ending) (w' : World) : Prop := e = .returned (.string t) ∧ Below w.heap.size w w'
end Go.Proofs.YtmmohbmgodiilaaDoor.cal
