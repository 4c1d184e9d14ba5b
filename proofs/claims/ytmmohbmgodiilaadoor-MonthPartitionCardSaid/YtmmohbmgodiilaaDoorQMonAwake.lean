/-
  The fixed examples of chapter 7 hold: 'awake' of its laws answers true, whatever the world.
-/
import Derived.Test.YtmmohbmgodiilaaDoorQMonMine
namespace Go.Proofs.YtmmohbmgodiilaaDoor.mon
open Go Go.RowKit Go.Proofs.YtmmohbmgodiilaaDoor.money Go.Proofs.YtmmohbmgodiilaaDoor.ints
open Go.Proofs.YtmmohbmgodiilaaDoor.wd (wdR)
set_option linter.unusedVariables false
set_option linter.unusedSimpArgs false

theorem ex1 : parseM [50, 48, 50, 52, 45, 48, 50] = (1489, 0) := by decide +kernel
theorem ex2 : textM 1489 = [50, 48, 50, 52, 45, 48, 50] := by decide +kernel
theorem ex2b : (⟨#[50, 48, 50, 52, 45, 48, 50]⟩ : ByteArray).data.toList = textM 1489 := by rw [ex2]
theorem ex1b : parseM (⟨#[50, 48, 50, 52, 45, 48, 50]⟩ : ByteArray).data.toList = (1489, 0) := ex1
theorem ex3 : rangeR 1490 = ((45350, 45381), 0) := by decide +kernel
theorem ex4 : daysR 1489 = 29 := by decide +kernel
theorem ex5 : fdR 45349 = 1489 := by decide +kernel
theorem ex6 : fdR (-1) = -1 := by decide +kernel
theorem ex7 : overR 1489 45347 45355 = 3 := by decide +kernel
theorem exw : wdR 96 [] 45380 = false ∧ wdR 96 [] 45379 = false ∧ wdR 96 [] 45378 = true ∧ wd.calR 96 [] = true ∧ okM 1490 = true ∧ fromM 1490 + min 31 (daysR 1490) = 45381 := by decide +kernel
theorem ex8 : payR 1490 96 [] 31 = (45378, 0) := by
  obtain ⟨h0, h1, h2, h3, h4, h5⟩ := exw
  unfold payR
  rw [h3, h4, h5]
  rw [if_neg (by decide), if_neg (by decide), show (45381 : Int).toNat = 45378 + 1 + 1 + 1 from rfl]
  rw [lastW, show (((45378 + 1 + 1 : Nat)) : Int) = 45380 from rfl, h0, if_neg (by decide), lastW, show (((45378 + 1 : Nat)) : Int) = 45379 from rfl, h1, if_neg (by decide), lastW, show ((45378 : Nat) : Int) = 45378 from rfl, h2, if_pos rfl]

set_option maxRecDepth 4000 in
set_option maxHeartbeats 4000000 in
theorem awake_is (w : World) (he : Env w) : Calls Tryd.prog 16 #[] w (GivesB w true) := by
  go_enter Tryd.func16, Tryd.ntmps16
  go_wp2_with (first
    | (go_at_call 19; (with_reducible refine (MParse_is _ 1489 0 _ he ex1b (by decide)).mono ?_); rintro e w1 ⟨rfl, hb1⟩; have BB := Lib.hid hb1)
    | (go_at_call 17; (with_reducible refine (MPay_is 1490 96 _ [] 31 45378 0 _ (he.below BB.out) (Ints.nil _ _ _) ex8).mono ?_); rintro e w2 ⟨rfl, hb2⟩; have BB := Lib.hid (tr BB.out hb2))
    | (go_at_call 8; (with_reducible refine (MRange_is 1490 45350 45381 0 _ (he.below BB.out) ex3).mono ?_); rintro e w3 ⟨rfl, hb3⟩; have k0 : (w3.alloc (.cells #[.int .i64 45350, .int .i64 45381] 23)).cell? ⟨w3.heap.size, 0, none⟩ = some (.int .i64 45350) := (by simp [go_sem]); have BB := Lib.hid (al (tr BB.out hb3) (.cells #[.int .i64 45350, .int .i64 45381] 23)))
    | (go_at_call 21; go_loud (with_reducible refine (MFormat_is 1489 _ _ (he.below BB.out) ex2b).mono ?_); rintro e w4 ⟨rfl, hb4⟩; replace k0 := held hb4 k0; have BB := Lib.hid (tr BB.out hb4))
    | (go_at_call 12; (with_reducible refine (MDays_is 1489 29 _ (he.below BB.out) ex4).mono ?_); rintro e w5 ⟨rfl, hb5⟩; replace k0 := held hb5 k0; have BB := Lib.hid (tr BB.out hb5))
    | (go_at_call 10; (with_reducible refine (MFd_is 45349 1489 _ (he.below BB.out) ex5).mono ?_); rintro e w6 ⟨rfl, hb6⟩; replace k0 := held hb6 k0; have BB := Lib.hid (tr BB.out hb6))
    | (go_at_call 10; (with_reducible refine (MFd_is (-1) (-1) _ (he.below BB.out) ex6).mono ?_); rintro e w7 ⟨rfl, hb7⟩; replace k0 := held hb7 k0; have BB := Lib.hid (tr BB.out hb7))
    | (go_at_call 14; (with_reducible refine (MOver_is 1489 45347 45355 3 _ (he.below BB.out) ex7).mono ?_); rintro e w8 ⟨rfl, hb8⟩; have BB := Lib.hid (tr BB.out hb8))
    | fail)
  go_ret
  exact ⟨rfl, BB.out⟩
end Go.Proofs.YtmmohbmgodiilaaDoor.mon
