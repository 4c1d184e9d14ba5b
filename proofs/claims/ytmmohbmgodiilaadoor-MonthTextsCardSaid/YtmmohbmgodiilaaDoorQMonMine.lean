/-
  What the functions of package month answer (the landed code): gathered, in the forms that the laws' walks take.
-/
import Derived.Test.YtmmohbmgodiilaaDoorQMonMineP
import Derived.Test.YtmmohbmgodiilaaDoorQMonMineT
import Derived.Test.YtmmohbmgodiilaaDoorQMonRefOver
namespace Go.Proofs.YtmmohbmgodiilaaDoor.mon
open Go Go.RowKit Go.Proofs.YtmmohbmgodiilaaDoor.money Go.Proofs.YtmmohbmgodiilaaDoor.ints
set_option linter.unusedVariables false

theorem MFd_is (n c : Int) (w : World) (he : Env w) (h : fdR n = c) : Calls Tryd.prog 10 #[.int .i64 n] w (GivesI w c) :=
  (mFd_is n c w he h).mono fun e w' ⟨h1, h2⟩ => ⟨h1, h2 ▸ Below.refl _ _⟩
theorem MDays_is (m c : Int) (w : World) (he : Env w) (h : daysR m = c) : Calls Tryd.prog 12 #[.int .i64 m] w (GivesI w c) := mDays_is m c w he h
theorem MRange_is (m a b c : Int) (w : World) (he : Env w) (h : rangeR m = ((a, b), c)) : Calls Tryd.prog 8 #[.int .i64 m] w (GivesRC w a b c) := mRange_is m a b c w he h
theorem MOver_is (m x y c : Int) (w : World) (he : Env w) (h : overR m x y = c) : Calls Tryd.prog 14 #[.int .i64 m, .agg #[.int .i64 x, .int .i64 y]] w (GivesI w c) := mOver_is m x y c w he h
theorem MPay_is (m wk : Int) (hv : Value) (hs : List Int) (day x c : Int) (w : World) (he : Env w) (hi : Ints w hv hs) (h : payR m wk hs day = (x, c)) : Calls Tryd.prog 17 #[.int .i64 m, .agg #[.int .i64 wk, hv], .int .i64 day] w (Gives w x c) := mPay_is m wk hv hs day x c w he hi h
theorem MFormat_is (m : Int) (t : ByteArray) (w : World) (he : Env w) (h : t.data.toList = textM m) : Calls Tryd.prog 21 #[.int .i64 m] w (GivesS w t) := mTm_is m t w he h
theorem MParse_is (s : ByteArray) (a c : Int) (w : World) (he : Env w) (h : parseM s.data.toList = (a, c)) (hs : s.size ≤ 9223372036854775807) : Calls Tryd.prog 19 #[.string s] w (Gives w a c) := mPm_is s a c w he h hs
end Go.Proofs.YtmmohbmgodiilaaDoor.mon
