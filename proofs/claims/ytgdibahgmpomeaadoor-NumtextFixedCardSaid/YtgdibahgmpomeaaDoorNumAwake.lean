/-
  The fixed examples of chapter 1 hold: 'awake' of its laws answers true, whatever the world.
-/
import Derived.Test.YtgdibahgmpomeaaDoorNumParse
import Derived.Test.YtgdibahgmpomeaaDoorNumLines
namespace Go.Proofs.YtgdibahgmpomeaaDoor.num
open Go Go.RowKit Go.Sort Go.Proofs.YtgdibahgmpomeaaDoor.strs
set_option linter.unusedVariables false

theorem SplitLines_eq (s : ByteArray) (ls : List (List UInt8)) (c : Int) (w : World) (h : splitL s.data.toList = (ls, c)) :
    Calls Tryd.prog 21 #[.string s] w fun e w' => ∃ v, e = .returned (.tuple #[v, .int .i64 c]) ∧ Strs w' v ls ∧ Below w.heap.size w w' := by
  have := SplitLines_is s w
  rw [h] at this; exact this
theorem Fields_eq (s : ByteArray) (ls : List (List UInt8)) (w : World) (hs : s.size ≤ 1000000) (h : fieldsA [] s.data.toList = ls) :
    Calls Tryd.prog 19 #[.string s] w fun e w' => ∃ v, e = .returned v ∧ Strs w' v ls ∧ Below w.heap.size w w' := by
  rw [← h]; exact Fields_is s w hs

theorem ex1 : splitL [97, 10, 98, 10] = ([[97], [98]], 0) := by decide
theorem ex2 : parseI [48, 48, 55] = (0, 2) := by decide
theorem ex3 : parseF (clamp 2) [45, 48, 46, 48, 53] = (-5, 0) := by decide
theorem ex4 : Lib.itoa (-5) = [45, 53] := by rw [itoa_neg (by decide), dec_small (by decide)]; decide
theorem ex5 : fixL (clamp 2) (-5) = [45, 48, 46, 48, 53] := by
  rw [show clamp 2 = 2 by decide, fixL_eq (by decide), if_pos (by decide)]
  unfold fixBody
  rw [dec_small (by decide)]; decide
theorem ex6 : fieldsA [] [32, 97, 9, 98, 99, 32] = [[97], [98, 99]] := by decide

/-- a literal of two texts -/
theorem two_strs (w : World) (a b : ByteArray) (x y : List UInt8) (ha : a.data.toList = x) (hb : b.data.toList = y) : Strs (w.alloc (.cells #[.string a, .string b] 9)) (.slice (some ⟨w.heap.size, 0, none⟩) 2 2) [x, y] := by
  refine ⟨by simp, .inr ⟨w.heap.size, 0, 2, rfl, by simp, fun i l hi => ?_⟩⟩
  have hx : (Value.string a) = strV x := by subst ha; unfold strV; rw [Lib.mk_data]
  have hy : (Value.string b) = strV y := by subst hb; unfold strV; rw [Lib.mk_data]
  match i, hi with
  | 0, hi => simp at hi; subst hi; rw [← hx]; simp
  | 1, hi => simp at hi; subst hi; rw [← hy]; simp
  | i + 2, hi => simp at hi

set_option maxHeartbeats 2000000 in
theorem awake_is (w : World) (he : Env w) :
    Calls Tryd.prog 9 #[] w fun e w' => e = .returned (.bool true) ∧ Below w.heap.size w w' := by
  go_enter Tryd.func9, Tryd.ntmps9
  go_wp2_with (first
    | (go_at_call 21; refine (SplitLines_eq _ _ _ _ ex1).mono ?_; rintro e w1 ⟨v1, rfl, hv1, hb1⟩)
    | (go_at_call 10; refine (ParseInt_is _ _ _ _ ex2).mono ?_; rintro e w2 ⟨rfl, hb2⟩)
    | (go_at_call 14; refine (ParseFixed_is _ _ _ _ _ ((he.below hb1).below hb2) (by decide) ex3).mono ?_; rintro e w3 ⟨rfl, hb3⟩)
    | (go_at_call 12; refine (FormatInt_is _ ⟨#[45, 53]⟩ _ (((he.below hb1).below hb2).below hb3) (by decide) (by decide) ex4.symm).mono ?_; rintro e w4 ⟨rfl, hb4⟩)
    | (go_at_call 16; refine (FormatFixed_is _ _ ⟨#[45, 48, 46, 48, 53]⟩ _ ((((he.below hb1).below hb2).below hb3).below hb4) (by decide) (by decide) ex5.symm).mono ?_; rintro e w5 ⟨rfl, hb5⟩)
    | (go_at_call 18; (with_reducible refine (Strings_is v1 _ _ _ true _ (hv1.below (al (tr (tr (tr hb2 hb3) hb4) hb5) _)) (two_strs w5 ⟨#[97]⟩ ⟨#[98]⟩ [97] [98] rfl rfl) (by decide)).mono ?_); rintro e w6 ⟨rfl, hb6⟩)
    | (go_at_call 19; refine (Fields_eq _ _ _ (by decide) ex6).mono ?_; rintro e w7 ⟨v7, rfl, hv7, hb7⟩)
    | (go_at_call 18; (with_reducible refine (Strings_is v7 _ _ _ true _ (hv7.below (al (Below.refl _ _) _)) (two_strs w7 ⟨#[97]⟩ ⟨#[98, 99]⟩ [97] [98, 99] rfl rfl) (by decide)).mono ?_); rintro e w8 ⟨rfl, hb8⟩))
  go_ret
  exact ⟨rfl, tr (al (tr (tr (al (tr (tr (tr (tr hb1 hb2) hb3) hb4) hb5) _) hb6) hb7) _) hb8⟩
end Go.Proofs.YtgdibahgmpomeaaDoor.num
