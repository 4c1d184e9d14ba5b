/-
  The law NumtextFixed walked: FormatFixed and ParseFixed answer what the reference answers, for any number of places.
-/
import Derived.Test.YtgdibahgmpomeaaDoorNumAwake
import Derived.Test.YtgdibahgmpomeaaDoorNumRefFixed
namespace Go.Proofs.YtgdibahgmpomeaaDoor.num
open Go Go.RowKit Go.Sort Go.Proofs.YtgdibahgmpomeaaDoor.strs
set_option linter.unusedVariables false

theorem fix_len (k : Nat) (n : Int) (hk : k ≤ 9) (h0 : -9223372036854775808 ≤ n) (h1 : n ≤ 9223372036854775807) : (fixL k n).length ≤ 100 := by
  have hi := Lib.itoa_length_le n h0 h1
  by_cases h : k = 0
  · subst h; unfold fixL; simp only [if_true]; omega
  · have hd : (Lib.decDigits n.natAbs).length ≤ 21 := by
      by_cases hn : n < 0
      · rw [itoa_neg hn] at hi; simp at hi; omega
      · rw [itoa_pos hn] at hi; omega
    have hb : (fixBody k n).length ≤ 40 := by
      unfold fixBody
      have := pad_length (k + 1) (Lib.decDigits n.natAbs)
      simp
      omega
    rw [fixL_eq h]
    split
    · simp; omega
    · omega

set_option maxHeartbeats 2000000 in
theorem walk_NumtextFixed (n p : Int) (s : ByteArray) (wn : -9223372036854775808 ≤ n ∧ n ≤ 9223372036854775807) (wp : -9223372036854775808 ≤ p ∧ p ≤ 9223372036854775807) (ws : s.size ≤ maxLen) (w : World) (he : Env w) :
    Calls Tryd.prog 4 #[.int .i64 n, .int .i64 p, .string s] w fun e w' => e = .returned (.bool true) ∧ Below w.heap.size w w' := by
  by_cases hs : 2000 < s.size
  · have hsi : (2000 : Int) < s.size := by omega
    clear wn ws wp
    go_enter Tryd.func4, Tryd.ntmps4
    go_wp2_with (go_at_call 9; refine (awake_is _ he).mono ?_; rintro e w5 ⟨rfl, hb5⟩)
    go_ret
    exact ⟨rfl, hb5⟩
  · have hsi : ¬ (2000 : Int) < s.size := by omega
    obtain ⟨t, ht⟩ := str_mk (fixL (clamp p) n)
    obtain ⟨⟨a, c⟩, hp⟩ : ∃ r, parseF (clamp p) s.data.toList = r := ⟨_, rfl⟩
    have hts : t.size ≤ 100 := by
      rw [str_size ht]; exact fix_len (clamp p) n (by unfold clamp; omega) wn.1 wn.2
    have hrefl : (t.toList == t.toList) = true := by simp
    have H := Lib.hid ht
    have HP := Lib.hid hp
    have HN := Lib.hid wn
    clear ht hp wn ws wp
    go_enter Tryd.func4, Tryd.ntmps4
    go_wp2_with (first
      | (go_at_call 14; refine (ParseFixed_is s p a c _ he (by omega) HP.out).mono ?_; rintro e w1 ⟨rfl, hb1⟩)
      | (go_at_call 15; refine (rParseFixed_is s p a c _ (by omega) HP.out).mono ?_; rintro e w2 ⟨rfl, hb2⟩)
      | (go_at_call 16; refine (FormatFixed_is n p t _ ((he.below hb1).below hb2) HN.out.1 HN.out.2 H.out).mono ?_; rintro e w3 ⟨rfl, hb3⟩)
      | (go_at_call 17; refine (rFormatFixed_is n p t _ HN.out.1 HN.out.2 H.out).mono ?_; rintro e w4 ⟨rfl, hb4⟩)
      | (go_at_call 9; refine (awake_is _ ((((he.below hb1).below hb2).below hb3).below hb4)).mono ?_; rintro e w5 ⟨rfl, hb5⟩))
    go_ret
    exact ⟨rfl, tr (tr (tr (tr hb1 hb2) hb3) hb4) hb5⟩
end Go.Proofs.YtgdibahgmpomeaaDoor.num
