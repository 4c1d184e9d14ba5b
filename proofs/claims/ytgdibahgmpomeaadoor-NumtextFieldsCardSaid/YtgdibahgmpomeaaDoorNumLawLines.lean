/-
  The laws NumtextFields and NumtextLines walked: Fields and SplitLines answer what the reference answers.
-/
import Derived.Test.YtgdibahgmpomeaaDoorNumAwake
import Derived.Test.YtgdibahgmpomeaaDoorNumRefLines
namespace Go.Proofs.YtgdibahgmpomeaaDoor.num
open Go Go.RowKit Go.Sort Go.Proofs.YtgdibahgmpomeaaDoor.strs
set_option linter.unusedVariables false

set_option maxHeartbeats 2000000 in
theorem walk_NumtextFields (s : ByteArray) (ws : s.size ≤ maxLen) (w : World) (he : Env w) :
    Calls Tryd.prog 5 #[.string s] w fun e w' => e = .returned (.bool true) ∧ Below w.heap.size w w' := by
  clear ws
  by_cases hs : 5000 < s.size
  · have hsi : (5000 : Int) < s.size := by omega
    go_enter Tryd.func5, Tryd.ntmps5
    go_wp2_with (go_at_call 9; refine (awake_is _ he).mono ?_; rintro e w5 ⟨rfl, hb5⟩)
    go_ret
    exact ⟨rfl, hb5⟩
  · have hsi : ¬ (5000 : Int) < s.size := by omega
    go_enter Tryd.func5, Tryd.ntmps5
    go_wp2_with (first
      | (go_at_call 19; refine (Fields_is s _ (by omega)).mono ?_; rintro e w1 ⟨v1, rfl, hv1, hb1⟩)
      | (go_at_call 20; refine (rFields_is s _ (by omega)).mono ?_; rintro e w2 ⟨v2, rfl, hv2, hb2⟩)
      | (go_at_call 18; refine (Strings_is v1 v2 _ _ true _ (hv1.below hb2) hv2 (by simp)).mono ?_; rintro e w3 ⟨rfl, hb3⟩)
      | (go_at_call 9; refine (awake_is _ (((he.below hb1).below hb2).below hb3)).mono ?_; rintro e w4 ⟨rfl, hb4⟩))
    go_ret
    exact ⟨rfl, tr (tr (tr hb1 hb2) hb3) hb4⟩

set_option maxHeartbeats 2000000 in
theorem walk_NumtextLines (s : ByteArray) (ws : s.size ≤ maxLen) (w : World) (he : Env w) :
    Calls Tryd.prog 6 #[.string s] w fun e w' => e = .returned (.bool true) ∧ Below w.heap.size w w' := by
  clear ws
  by_cases hs : 70000 < s.size
  · have hsi : (70000 : Int) < s.size := by omega
    go_enter Tryd.func6, Tryd.ntmps6
    go_wp2_with (go_at_call 9; refine (awake_is _ he).mono ?_; rintro e w5 ⟨rfl, hb5⟩)
    go_ret
    exact ⟨rfl, hb5⟩
  · have hsi : ¬ (70000 : Int) < s.size := by omega
    obtain ⟨c, hc⟩ : ∃ c, (splitL s.data.toList).2 = c := ⟨_, rfl⟩
    have hA := fun W => SplitLines_is s W
    have hB := fun W => rSplitLines_is s W
    rw [hc] at hA hB
    have HA := Lib.hid hA
    have HB := Lib.hid hB
    clear hA hB hc
    go_enter Tryd.func6, Tryd.ntmps6
    go_wp2_with (first
      | (go_at_call 21; refine (HA.out _).mono ?_; rintro e w1 ⟨v1, rfl, hv1, hb1⟩)
      | (go_at_call 22; refine (HB.out _).mono ?_; rintro e w2 ⟨v2, rfl, hv2, hb2⟩)
      | (go_at_call 18; refine (Strings_is v1 v2 _ _ true _ (hv1.below hb2) hv2 (by simp)).mono ?_; rintro e w3 ⟨rfl, hb3⟩)
      | (go_at_call 9; refine (awake_is _ (((he.below hb1).below hb2).below hb3)).mono ?_; rintro e w4 ⟨rfl, hb4⟩))
    go_ret
    exact ⟨rfl, tr (tr (tr hb1 hb2) hb3) hb4⟩
end Go.Proofs.YtgdibahgmpomeaaDoor.num
