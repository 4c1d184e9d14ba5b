/-
  The fixed examples of chapter 4 hold: 'awake' of its laws answers true, whatever the world.
-/
import Derived.Test.YtjjnlihokcddbaaDoorCalMine
namespace Go.Proofs.YtjjnlihokcddbaaDoor.cal
open Go Go.RowKit Go.Proofs.YtjjnlihokcddbaaDoor.money Go.Proofs.YtjjnlihokcddbaaDoor.txt
set_option linter.unusedVariables false

theorem ex1 : fromR 2024 2 29 = (45349, 0) := by decide +kernel
theorem ex2 : addR 45349 12 = (45714, 0) := by decide +kernel
theorem ex3 : fromR 2000 2 29 = (36583, 0) := by decide +kernel
theorem ex4 : fromR 2001 2 28 = (36948, 0) := by decide +kernel
theorem ex5 : textR 45714 = [50, 48, 50, 53, 45, 48, 50, 45, 50, 56] := by decide +kernel
theorem ex6 : ybR 36583 36948 = 1 := by decide +kernel
theorem ex7 : ybR 36583 36947 = 0 := by decide +kernel
theorem ex8 : wkR 0 = 0 := by decide +kernel
theorem ex9 : leap 2000 = true := by decide +kernel
theorem ex10 : leap 1900 = false := by decide +kernel
theorem ex11 : dim 1900 2 = 28 := by decide +kernel

set_option maxHeartbeats 2000000 in
theorem awake_is (w : World) (he : Env w) : Calls Tryd.prog 16 #[] w (GivesB w true) := by
  have hs : (⟨[50, 48, 50, 53, 45, 48, 50, 45, 50, 56].toArray⟩ : ByteArray).data.toList = textR 45714 := by rw [ex5]
  have HS := Lib.hid hs
  clear hs
  go_enter Tryd.func16, Tryd.ntmps16
  go_wp2_with (first
    | (go_at_call 8; (with_reducible refine (FromYMD_is 2024 2 29 45349 0 _ he ex1).mono ?_); rintro e w1 ⟨rfl, hb1⟩; have he1 := he.below hb1)
    | (go_at_call 17; (with_reducible refine (AddMonths_is 45349 12 45714 0 _ he1 ex2).mono ?_); rintro e w2 ⟨rfl, hb2⟩; have he2 := he1.below hb2)
    | (go_at_call 8; (with_reducible refine (FromYMD_is 2000 2 29 36583 0 _ he2 ex3).mono ?_); rintro e w3 ⟨rfl, hb3⟩; have he3 := he2.below hb3)
    | (go_at_call 8; (with_reducible refine (FromYMD_is 2001 2 28 36948 0 _ he3 ex4).mono ?_); rintro e w4 ⟨rfl, hb4⟩; have he4 := he3.below hb4)
    | (go_at_call 25; refine (Format_is 45714 ⟨[50, 48, 50, 53, 45, 48, 50, 45, 50, 56].toArray⟩ _ he4 HS.out).mono ?_; rintro e w5 ⟨rfl, hb5⟩; have he5 := he4.below hb5)
    | (go_at_call 21; (with_reducible refine (YearsBetween_is 36583 36948 1 _ he5 ex6).mono ?_); rintro e w6 ⟨rfl, hb6⟩; have he6 := he5.below hb6)
    | (go_at_call 21; (with_reducible refine (YearsBetween_is 36583 36947 0 _ he6 ex7).mono ?_); rintro e w7 ⟨rfl, hb7⟩; have he7 := he6.below hb7)
    | (go_at_call 19; (with_reducible refine (Weekday_is 0 0 _ he7 ex8).mono ?_); rintro e w8 ⟨rfl, hb8⟩; have he8 := he7.below hb8)
    | (go_at_call 12; (with_reducible refine (IsLeap_is 2000 true _ he8 ex9).mono ?_); rintro e w9 ⟨rfl, hb9⟩; have he9 := he8.below hb9)
    | (go_at_call 12; (with_reducible refine (IsLeap_is 1900 false _ he9 ex10).mono ?_); rintro e w10 ⟨rfl, hb10⟩; have he10 := he9.below hb10)
    | (go_at_call 14; (with_reducible refine (DaysInMonth_is 1900 2 28 _ he10 ex11).mono ?_); rintro e w11 ⟨rfl, hb11⟩)
    | fail)
  go_ret
  exact ⟨rfl, tr (tr (tr (tr (tr (tr (tr (tr (tr (tr hb1 hb2) hb3) hb4) hb5) hb6) hb7) hb8) hb9) hb10) hb11⟩
end Go.Proofs.YtjjnlihokcddbaaDoor.cal
