/-
  What the reference's YearsBetween of chapter 4 answers: the walk.
-/
import Derived.Test.YtjjnlihokcddbaaDoorCalAdd
namespace Go.Proofs.YtjjnlihokcddbaaDoor.cal
open Go Go.RowKit Go.Proofs.YtjjnlihokcddbaaDoor.money
set_option linter.unusedVariables false

set_option maxHeartbeats 1000000 in
theorem rYearsBetween_is (a b r : Int) (w : World) (h : ybR a b = r) : Calls Tryd.prog 22 #[.int .i64 a, .int .i64 b] w fun e w' => e = .returned (.int .i64 r) ∧ w = w' := by
  unfold ybR at h
  cases hv : okD a
  · rw [hv] at h
    simp only [Bool.false_and, Bool.false_eq_true, if_false] at h
    subst h
    have HV := Lib.hid hv
    clear hv
    go_enter Tryd.func22, Tryd.ntmps22
    go_wp2_with (go_at_call 33; refine (rValid_is a false _ HV.out).mono ?_; rintro e w' ⟨rfl, rfl⟩)
    go_ret
    exact ⟨rfl, rfl⟩
  · cases hv2 : okD b
    · rw [hv, hv2] at h
      simp only [Bool.and_false, Bool.false_eq_true, if_false] at h
      subst h
      have HV := Lib.hid hv
      have HV2 := Lib.hid hv2
      clear hv hv2
      go_enter Tryd.func22, Tryd.ntmps22
      go_wp2_with (first
        | (go_at_call 33; (with_reducible refine (rValid_is a true _ HV.out).mono ?_); rintro e w' ⟨rfl, rfl⟩)
        | (go_at_call 33; (with_reducible refine (rValid_is b false _ HV2.out).mono ?_); rintro e w' ⟨rfl, rfl⟩))
      go_ret
      exact ⟨rfl, rfl⟩
    · rw [hv, hv2] at h
      simp only [Bool.and_self, if_true] at h
      have HV := Lib.hid hv
      have HV2 := Lib.hid hv2
      have H := Lib.hid h
      clear hv hv2 h
      go_enter Tryd.func22, Tryd.ntmps22
      go_wp2_with (first
        | (go_at_call 33; (with_reducible refine (rValid_is a true _ HV.out).mono ?_); rintro e w' ⟨rfl, rfl⟩)
        | (go_at_call 33; (with_reducible refine (rValid_is b true _ HV2.out).mono ?_); rintro e w' ⟨rfl, rfl⟩))
      go_loop [5] (fun vn => ∃ n : Nat, vn = .int .i64 n ∧ n ≤ 300 ∧ Hid ((ybF a b (301 - n) n : Int) = r)) (fun vn => 301 - (intOf vn).toNat)
      case atStart => exact ⟨0, rfl, by omega, H.out⟩
      case round =>
        obtain ⟨n, rfl, hn, HN⟩ := hrel
        obtain ⟨⟨x, c⟩, hx⟩ : ∃ p, addR a (12 * ((n : Int) + 1)) = p := ⟨_, rfl⟩
        have hmore : more a b n = (decide (c = 0) && decide (x ≤ b)) := by unfold more; rw [hx]
        have hstep : ybF a b (301 - n) n = if more a b n then ybF a b (300 - n) (n + 1) else n := by
          rw [show 301 - n = (300 - n) + 1 by omega]; rfl
        have HX := Lib.hid hx
        by_cases hc : c = 0
        · subst hc
          by_cases hxb : x ≤ b
          · have hm : more a b n = true := by rw [hmore]; simpa using hxb
            have hn3 : n < 300 := by
              rcases Nat.lt_or_ge n 300 with g | g
              · exact g
              · rw [more_300 a b g] at hm; cases hm
            have HN2 : Hid ((ybF a b (301 - (n + 1)) (n + 1) : Int) = r) := by
              show _ = r
              rw [← HN.out, hstep, hm, if_pos rfl, show 301 - (n + 1) = 300 - n by omega]
            clear hx hmore hstep hm
            go_wp2_with (go_at_call 18; refine (rAddMonths_is a (12 * ((n : Int) + 1)) x 0 _ HX.out).mono ?_; rintro e w' ⟨rfl, rfl⟩)
            go_round
            case rel => exact ⟨n + 1, by go_num, by omega, HN2⟩
            case measure => simp [intOf]; omega
          · have hm : more a b n = false := by rw [hmore]; simp; omega
            have HR : Hid ((n : Int) = r) := by
              show _ = r
              rw [← HN.out, hstep, hm, if_neg (by decide)]
            clear hx hmore hstep hm
            go_wp2_with (go_at_call 18; refine (rAddMonths_is a (12 * ((n : Int) + 1)) x 0 _ HX.out).mono ?_; rintro e w' ⟨rfl, rfl⟩)
            go_ret
            exact ⟨ret_int HR.out, rfl⟩
        · have hm : more a b n = false := by rw [hmore]; simp [hc]
          have HR : Hid ((n : Int) = r) := by
            show _ = r
            rw [← HN.out, hstep, hm, if_neg (by decide)]
          have hcb : (c != 0) = true := by simpa using hc
          clear hx hmore hstep hm
          go_wp2_with (go_at_call 18; refine (rAddMonths_is a (12 * ((n : Int) + 1)) x c _ HX.out).mono ?_; rintro e w' ⟨rfl, rfl⟩)
          go_ret
          exact ⟨ret_int HR.out, rfl⟩
end Go.Proofs.YtjjnlihokcddbaaDoor.cal
