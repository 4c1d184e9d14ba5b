/-
  What the landed functions of package daterange answer: gathered.
-/
import Derived.Test.YtpdgdcdoaglimaaRngMineF
