/-
  The law NumtextInts walked: FormatInt and ParseInt answer what the reference answers.
-/
import Derived.Test.YtgdibahgmpomeaaDoorNumAwake
import Derived.Test.YtgdibahgmpomeaaDoorNumRef
namespace Go.Proofs.YtgdibahgmpomeaaDoor.num
open Go Go.RowKit Go.Sort Go.Proofs.YtgdibahgmpomeaaDoor.strs
set_option linter.unusedVariables false

set_option maxHeartbeats 2000000 in
theorem walk_NumtextInts (n : Int) (s : ByteArray) (wn : -9223372036854775808 ≤ n ∧ n ≤ 9223372036854775807) (ws : s.size ≤ maxLen) (w : World) (he : Env w) :
    Calls Tryd.prog 3 #[.int .i64 n, .string s] w fun e w' => e = .returned (.bool true) ∧ Below w.heap.size w w' := by
  by_cases hs : 2000 < s.size
  · have hsi : (2000 : Int) < s.size := by omega
    clear wn ws
    go_enter Tryd.func3, Tryd.ntmps3
    go_wp2_with (go_at_call 9; refine (awake_is _ he).mono ?_; rintro e w5 ⟨rfl, hb5⟩)
    go_ret
    exact ⟨rfl, hb5⟩
  · have hsi : ¬ (2000 : Int) < s.size := by omega
    obtain ⟨t, ht⟩ := str_mk (Lib.itoa n)
    obtain ⟨⟨a, c⟩, hp⟩ : ∃ r, parseI s.data.toList = r := ⟨_, rfl⟩
    have hts : t.size ≤ 21 := by
      rw [str_size ht]; exact Lib.itoa_length_le n wn.1 wn.2
    have hrefl : (t.toList == t.toList) = true := by simp
    have H := Lib.hid ht
    have HP := Lib.hid hp
    have HN := Lib.hid wn
    clear ht hp wn ws
    go_enter Tryd.func3, Tryd.ntmps3
    go_wp2_with (first
      | (go_at_call 10; refine (ParseInt_is s a c _ HP.out).mono ?_; rintro e w1 ⟨rfl, hb1⟩)
      | (go_at_call 11; refine (rParseInt_is s a c _ HP.out (by omega)).mono ?_; rintro e w' ⟨rfl, rfl⟩)
      | (go_at_call 12; refine (FormatInt_is n t _ (he.below hb1) HN.out.1 HN.out.2 H.out).mono ?_; rintro e w2 ⟨rfl, hb2⟩)
      | (go_at_call 13; refine (rFormatInt_is n t _ HN.out.1 HN.out.2 H.out).mono ?_; rintro e w3 ⟨rfl, hb3⟩)
      | (go_at_call 9; refine (awake_is _ (((he.below hb1).below hb2).below hb3)).mono ?_; rintro e w4 ⟨rfl, hb4⟩))
    go_ret
    exact ⟨rfl, tr (tr (tr hb1 hb2) hb3) hb4⟩
end Go.Proofs.YtgdibahgmpomeaaDoor.num
