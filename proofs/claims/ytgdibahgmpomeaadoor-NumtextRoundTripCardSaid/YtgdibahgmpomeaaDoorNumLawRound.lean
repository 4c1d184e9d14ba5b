/-
  The law NumtextRoundTrip walked: parsing inverts formatting.
-/
import Derived.Test.YtgdibahgmpomeaaDoorNumAwake
namespace Go.Proofs.YtgdibahgmpomeaaDoor.num
open Go Go.RowKit Go.Sort Go.Proofs.YtgdibahgmpomeaaDoor.strs
set_option linter.unusedVariables false

theorem fix_length (k : Nat) (n : Int) (hk : k ≤ 9) (h0 : -9223372036854775808 ≤ n) (h1 : n ≤ 9223372036854775807) : (fixL k n).length ≤ 100 := by
  have hi := Lib.itoa_length_le n h0 h1
  by_cases h : k = 0
  · subst h; unfold fixL; simp only [if_true]; omega
  · have hd : (Lib.decDigits n.natAbs).length ≤ 21 := by
      by_cases hn : n < 0
      · rw [itoa_neg hn] at hi; simp at hi; omega
      · rw [itoa_pos hn] at hi; omega
    have hb : (fixBody k n).length ≤ 40 := by
      unfold fixBody
      have := pad_length (k + 1) (Lib.decDigits n.natAbs)
      simp
      omega
    rw [fixL_eq h]
    split
    · simp; omega
    · omega
theorem clamp_le (p : Int) : clamp p ≤ 9 := by unfold clamp; omega
theorem back_out {n : Int} (h : n < -4611686018427387904 ∨ 4611686018427387904 < n) : back n = (0, 3) := if_pos h
theorem back_in {n : Int} (h : ¬ (n < -4611686018427387904 ∨ 4611686018427387904 < n)) : back n = (n, 0) := if_neg h

set_option maxHeartbeats 2000000 in
theorem walk_NumtextRoundTrip (n p : Int) (wn : -9223372036854775808 ≤ n ∧ n ≤ 9223372036854775807) (wp : -9223372036854775808 ≤ p ∧ p ≤ 9223372036854775807) (w : World) (he : Env w) :
    Calls Tryd.prog 7 #[.int .i64 n, .int .i64 p] w fun e w' => e = .returned (.bool true) ∧ Below w.heap.size w w' := by
  obtain ⟨t1, h1⟩ := str_mk (Lib.itoa n)
  obtain ⟨t2, h2⟩ := str_mk (fixL (clamp p) n)
  obtain ⟨hn0, hn1⟩ := wn
  have hs2 : t2.size < 4294967281 := by
    have := fix_length (clamp p) n (clamp_le p) hn0 hn1
    rw [str_size h2]; omega
  have e1 : parseI t1.data.toList = back n := by rw [h1, parseI_itoa]
  have e2 : parseF (clamp p) t2.data.toList = back n := by rw [h2, parseF_fix]
  have H1 := Lib.hid h1
  have H2 := Lib.hid h2
  have N0 := Lib.hid hn0
  have N1 := Lib.hid hn1
  clear h1 h2 wp hn0 hn1
  by_cases hout : n < -4611686018427387904 ∨ 4611686018427387904 < n
  · rw [back_out hout] at e1 e2
    have E1 := Lib.hid e1
    have E2 := Lib.hid e2
    clear e1 e2
    by_cases hlo : n < -4611686018427387904
    · clear hout
      go_enter Tryd.func7, Tryd.ntmps7
      go_wp2_with (first
        | (go_at_call 12; refine (FormatInt_is n t1 _ he N0.out N1.out H1.out).mono ?_; rintro e w1 ⟨rfl, hb1⟩)
        | (go_at_call 10; refine (ParseInt_is t1 0 3 _ E1.out).mono ?_; rintro e w2 ⟨rfl, hb2⟩)
        | (go_at_call 16; refine (FormatFixed_is n p t2 _ ((he.below hb1).below hb2) N0.out N1.out H2.out).mono ?_; rintro e w3 ⟨rfl, hb3⟩)
        | (go_at_call 14; refine (ParseFixed_is t2 p 0 3 _ (((he.below hb1).below hb2).below hb3) hs2 E2.out).mono ?_; rintro e w4 ⟨rfl, hb4⟩)
        | (go_at_call 9; refine (awake_is _ ((((he.below hb1).below hb2).below hb3).below hb4)).mono ?_; rintro e w5 ⟨rfl, hb5⟩))
      go_ret
      exact ⟨rfl, tr (tr (tr (tr hb1 hb2) hb3) hb4) hb5⟩
    · have hhi : 4611686018427387904 < n := by omega
      clear hout
      go_enter Tryd.func7, Tryd.ntmps7
      go_wp2_with (first
        | (go_at_call 12; refine (FormatInt_is n t1 _ he N0.out N1.out H1.out).mono ?_; rintro e w1 ⟨rfl, hb1⟩)
        | (go_at_call 10; refine (ParseInt_is t1 0 3 _ E1.out).mono ?_; rintro e w2 ⟨rfl, hb2⟩)
        | (go_at_call 16; refine (FormatFixed_is n p t2 _ ((he.below hb1).below hb2) N0.out N1.out H2.out).mono ?_; rintro e w3 ⟨rfl, hb3⟩)
        | (go_at_call 14; refine (ParseFixed_is t2 p 0 3 _ (((he.below hb1).below hb2).below hb3) hs2 E2.out).mono ?_; rintro e w4 ⟨rfl, hb4⟩)
        | (go_at_call 9; refine (awake_is _ ((((he.below hb1).below hb2).below hb3).below hb4)).mono ?_; rintro e w5 ⟨rfl, hb5⟩))
      go_ret
      exact ⟨rfl, tr (tr (tr (tr hb1 hb2) hb3) hb4) hb5⟩
  · rw [back_in hout] at e1 e2
    have hlo : ¬ n < -4611686018427387904 := by omega
    have hhi : ¬ 4611686018427387904 < n := by omega
    have E1 := Lib.hid e1
    have E2 := Lib.hid e2
    clear e1 e2 hout
    go_enter Tryd.func7, Tryd.ntmps7
    go_wp2_with (first
      | (go_at_call 12; refine (FormatInt_is n t1 _ he N0.out N1.out H1.out).mono ?_; rintro e w1 ⟨rfl, hb1⟩)
      | (go_at_call 10; refine (ParseInt_is t1 n 0 _ E1.out).mono ?_; rintro e w2 ⟨rfl, hb2⟩)
      | (go_at_call 16; refine (FormatFixed_is n p t2 _ ((he.below hb1).below hb2) N0.out N1.out H2.out).mono ?_; rintro e w3 ⟨rfl, hb3⟩)
      | (go_at_call 14; refine (ParseFixed_is t2 p n 0 _ (((he.below hb1).below hb2).below hb3) hs2 E2.out).mono ?_; rintro e w4 ⟨rfl, hb4⟩)
      | (go_at_call 9; refine (awake_is _ ((((he.below hb1).below hb2).below hb3).below hb4)).mono ?_; rintro e w5 ⟨rfl, hb5⟩))
    go_ret
    exact ⟨rfl, tr (tr (tr (tr hb1 hb2) hb3) hb4) hb5⟩
end Go.Proofs.YtgdibahgmpomeaaDoor.num
