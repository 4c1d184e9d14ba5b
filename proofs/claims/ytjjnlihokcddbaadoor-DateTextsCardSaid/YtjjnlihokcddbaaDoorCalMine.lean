/-
  What the functions of package date answer (the landed code): gathered, in the forms that the laws' walks take.
-/
import Derived.Test.YtjjnlihokcddbaaDoorCalMineE
import Derived.Test.YtjjnlihokcddbaaDoorCalYb
namespace Go.Proofs.YtjjnlihokcddbaaDoor.cal
open Go Go.RowKit Go.Proofs.YtjjnlihokcddbaaDoor.money
set_option linter.unusedVariables false

theorem IsLeap_is (y : Int) (b : Bool) (w : World) (he : Env w) (h : leap y = b) : Calls Tryd.prog 12 #[.int .i64 y] w (GivesB w b) :=
  (mIsLeap_is y b w h).mono fun e w' ⟨h1, h2⟩ => ⟨h1, h2 ▸ Below.refl _ _⟩
theorem DaysInMonth_is (y m c : Int) (w : World) (he : Env w) (h : dim y m = c) : Calls Tryd.prog 14 #[.int .i64 y, .int .i64 m] w (GivesI w c) :=
  (mDaysInMonth_is y m c w he h).mono fun e w' ⟨h1, h2⟩ => ⟨h1, h2 ▸ Below.refl _ _⟩
theorem FromYMD_is (y m d a c : Int) (w : World) (he : Env w) (h : fromR y m d = (a, c)) : Calls Tryd.prog 8 #[.int .i64 y, .int .i64 m, .int .i64 d] w (Gives w a c) :=
  (mFromYMD_is y m d a c w he h).mono fun e w' ⟨h1, h2⟩ => ⟨h1, h2 ▸ Below.refl _ _⟩
theorem ToYMD_is (n y m d : Int) (w : World) (he : Env w) (h : toR n = (y, m, d)) : Calls Tryd.prog 10 #[.int .i64 n] w (Gives3 w y m d) :=
  (mToYMD_is n y m d w he h).mono fun e w' ⟨h1, h2⟩ => ⟨h1, h2 ▸ Below.refl _ _⟩
theorem Weekday_is (n c : Int) (w : World) (he : Env w) (h : wkR n = c) : Calls Tryd.prog 19 #[.int .i64 n] w (GivesI w c) :=
  (mWeekday_is n c w h).mono fun e w' ⟨h1, h2⟩ => ⟨h1, h2 ▸ Below.refl _ _⟩
theorem AddMonths_is (a n x c : Int) (w : World) (he : Env w) (h : addR a n = (x, c)) : Calls Tryd.prog 17 #[.int .i64 a, .int .i64 n] w (Gives w x c) :=
  (mAddMonths_is a n x c w he h).mono fun e w' ⟨h1, h2⟩ => ⟨h1, h2 ▸ Below.refl _ _⟩
theorem YearsBetween_is (a b r : Int) (w : World) (he : Env w) (h : ybR a b = r) : Calls Tryd.prog 21 #[.int .i64 a, .int .i64 b] w (GivesI w r) :=
  (mYearsBetween_is a b r w he h).mono fun e w' ⟨h1, h2⟩ => ⟨h1, h2 ▸ Below.refl _ _⟩
theorem Format_is (n : Int) (t : ByteArray) (w : World) (he : Env w) (h : t.data.toList = textR n) : Calls Tryd.prog 25 #[.int .i64 n] w (GivesS w t) := mFormat_is n t w he h
theorem Parse_is (s : ByteArray) (a c : Int) (w : World) (he : Env w) (h : parseD s.data.toList = (a, c)) (hs : s.size ≤ 9223372036854775807) : Calls Tryd.prog 23 #[.string s] w (Gives w a c) := mParse_is s a c w he h hs
end Go.Proofs.YtjjnlihokcddbaaDoor.cal
