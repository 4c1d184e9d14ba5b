/-
  What the landed functions of package workday answer: gathered, with the statements that the laws' walks take.
-/
import Derived.Test.YtkecjegjdlmdkaaWdMineC
import Derived.Test.YtkecjegjdlmdkaaWdMineD
namespace Go.Proofs.Ytkecjegjdlmdkaa.wd
open Go Go.RowKit Go.Proofs.Ytkecjegjdlmdkaa.money Go.Proofs.Ytkecjegjdlmdkaa.ints Go.Proofs.Ytkecjegjdlmdkaa.rng
set_option linter.unusedVariables false

/-- what the package's variables hold: nothing here -/
def Env (w : World) : Prop := True
theorem Env.below {w w' : World} (h : Env w) (hb : Below w.heap.size w w') : Env w' := trivial

theorem WValid_is (wk : Int) (hv : Value) (hs : List Int) (c : Bool) (w : World) (he : Env w) (hi : Ints w hv hs) (h : calR wk hs = c) : Calls Try.prog 11 #[.agg #[.int .i64 wk, hv]] w (GivesB w c) := mCal_is wk hv hs c w hi h
theorem WIs_is (wk : Int) (hv : Value) (hs : List Int) (d : Int) (c : Bool) (w : World) (he : Env w) (hi : Ints w hv hs) (h : wdR wk hs d = c) : Calls Try.prog 13 #[.agg #[.int .i64 wk, hv], .int .i64 d] w (GivesB w c) := mWd_is wk hv hs d c w hi h
theorem WNext_is (wk : Int) (hv : Value) (hs : List Int) (d x c : Int) (w : World) (he : Env w) (hi : Ints w hv hs) (h : nextR wk hs d = (x, c)) : Calls Try.prog 9 #[.agg #[.int .i64 wk, hv], .int .i64 d] w (Gives w x c) := mNext_is wk hv hs d x c w hi h
theorem WAdd_is (wk : Int) (hv : Value) (hs : List Int) (d n x c : Int) (w : World) (he : Env w) (hi : Ints w hv hs) (h : addR wk hs d n = (x, c)) : Calls Try.prog 15 #[.agg #[.int .i64 wk, hv], .int .i64 d, .int .i64 n] w (Gives w x c) := mAdd_is wk hv hs d n x c w hi h
theorem WCount_is (wk : Int) (hv : Value) (hs : List Int) (a0 a1 c : Int) (w : World) (he : Env w) (hi : Ints w hv hs) (h : cntR wk hs a0 a1 = c) : Calls Try.prog 17 #[.agg #[.int .i64 wk, hv], .agg #[.int .i64 a0, .int .i64 a1]] w (GivesI w c) := mCount_is wk hv hs a0 a1 c w hi h
end Go.Proofs.Ytkecjegjdlmdkaa.wd
