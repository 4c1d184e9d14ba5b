/-
  The law MoneyRoundingOrder walked.
-/
import Derived.Test.YtikcnekaefelcaaMoneyLaw2
namespace Go.Proofs.Ytikcnekaefelcaa.money
open Go Go.RowKit Go.Proofs.Ytikcnekaefelcaa.ints
set_option linter.unusedVariables false

/-! ### the six modes among each other -/
set_option maxRecDepth 4000 in
set_option maxHeartbeats 2000000 in
theorem walk_MoneyRoundingOrder (n d : Int) (wn : In64 n) (wd : In64 d) (w : World) :
    Calls Try.prog 9 #[.int .i64 n, .int .i64 d] w (True64 w) := by
  by_cases hd : d = 0
  · have H0 := Lib.hid (show divR n d 0 = (0, 12) by unfold divR; rw [if_neg (by decide), if_pos hd])
    have H1 := Lib.hid (show divR n d 1 = (0, 12) by unfold divR; rw [if_neg (by decide), if_pos hd])
    clear wn wd hd
    go_enter Try.func9, Try.ntmps9
    go_wp2_with (first
      | (go_at_call 10; (with_reducible refine (DivRound_is n d 0 0 12 _ H0.out).mono ?_); rintro e w1 ⟨rfl, hb1⟩)
      | (go_at_call 10; (with_reducible refine (DivRound_is n d 1 0 12 _ H1.out).mono ?_); rintro e w2 ⟨rfl, hb2⟩)
      | (go_at_call 12; refine (awake_is _).mono ?_; rintro e w3 ⟨rfl, hb3⟩)
      | fail)
    go_ret
    exact ⟨rfl, tr (tr hb1 hb2) hb3⟩
  · cases hb : (beyond n 4611686018427387904 || beyond d 4611686018427387904)
    · have hbn : (beyond (-n) 4611686018427387904 || beyond d 4611686018427387904) = false := by rw [beyond_neg]; exact hb
      have hn := (Bool.or_eq_false_iff.1 hb).1
      obtain ⟨n0, n1⟩ := beyond_in hn
      have HO := Lib.hid (fun m (h0 : 0 ≤ m) (h5 : m ≤ 5) => divR_ok (n := n) ⟨h0, h5⟩ hd hb)
      have HN := Lib.hid (fun m (h0 : 0 ≤ m) (h5 : m ≤ 5) => divR_ok (n := -n) ⟨h0, h5⟩ hd hbn)
      have HB := Lib.hid (fun m => quot_between n d m hd)
      have HT := Lib.hid (fun m => quot_turn n d m hd)
      have HS := Lib.hid (fun m => quot_small n d m hn)
      have hap := quot_apart n d hd
      obtain ⟨lo, hlo⟩ : ∃ lo, quot n d 0 = lo := ⟨_, rfl⟩
      obtain ⟨hi, hhi⟩ : ∃ hi, quot n d 1 = hi := ⟨_, rfl⟩
      rw [hlo, hhi] at hap
      have H0 := Lib.hid (show divR n d 0 = (lo, 0) by rw [HO.out 0 (by decide) (by decide), hlo])
      have H1 := Lib.hid (show divR n d 1 = (hi, 0) by rw [HO.out 1 (by decide) (by decide), hhi])
      have bl := HS.out 0
      have bh := HS.out 1
      rw [hlo] at bl
      rw [hhi] at bh
      obtain ⟨bl0, bl1⟩ := bl
      obtain ⟨bh0, bh1⟩ := bh
      have hd0 : (d == 0) = false := by simpa using hd
      have hge : ¬ hi < lo := by split at hap <;> omega
      have hle : ¬ 1 < hi - lo := by split at hap <;> omega
      obtain ⟨b, hbb⟩ : ∃ b, decide (n.tmod d = 0) = b := ⟨_, rfl⟩
      have he1 : (n.tmod d == 0) = b := by rw [← hbb]; rfl
      have he2 : (hi == lo) = b := by
        rw [← hbb, Bool.eq_iff_iff]; simp only [beq_iff_eq, decide_eq_true_eq]
        split at hap
        · rename_i h; exact ⟨fun _ => h, fun _ => by omega⟩
        · rename_i h; exact ⟨fun _ => by omega, fun g => absurd g h⟩
      have he3 : (b != b) = false := by cases b <;> rfl
      have HLO := Lib.hid hlo
      have HHI := Lib.hid hhi
      obtain ⟨nn, hnn⟩ : ∃ nn, -n = nn := ⟨_, rfl⟩
      have hw1 : wrap64 (-n) = nn := by rw [hnn]; exact IntWalk.wrap64_in nn ⟨by omega, by omega⟩
      have hw2 : IntKind.i64.wrap (-n) = nn := by rw [hnn]; exact i64_in (by omega) (by omega)
      rw [hnn] at HN HT
      clear hnn
      clear wn wd hbn hb hn hap hlo hhi hbb
      go_enter Try.func9, Try.ntmps9
      go_wp2_with (first
        | (go_at_call 10; (with_reducible refine (DivRound_is n d 0 lo 0 _ H0.out).mono ?_); rintro e w1 ⟨rfl, hb1⟩)
        | (go_at_call 10; (with_reducible refine (DivRound_is n d 1 hi 0 _ H1.out).mono ?_); rintro e w2 ⟨rfl, hb2⟩)
        | fail)
      have HW := Lib.hid (tr hb1 hb2)
      clear hb1 hb2 he1 he2 he3 hge hle
      go_loopw [9] (fun v wr => ∃ m : Int, 0 ≤ m ∧ m ≤ 6 ∧ v = .int .i64 m ∧ Below w.heap.size w wr) (fun v _ => 6 - (intOf v).toNat)
      case atStart => exact ⟨0, by decide, by decide, rfl, HW.out⟩
      case round =>
        obtain ⟨m, hm0, hm6, rfl, hbw⟩ := hrel
        have HBW := Lib.hid hbw
        clear hbw
        by_cases h5 : m ≤ 5
        · obtain ⟨q, hq⟩ : ∃ q, quot n d m = q := ⟨_, rfl⟩
          obtain ⟨x, hxx⟩ : ∃ x, quot nn d m = x := ⟨_, rfl⟩
          have hx := HT.out m
          rw [HLO.out, HHI.out, hq, hxx] at hx
          have HX := Lib.hid (show divR nn d m = (x, 0) by rw [HN.out m hm0 h5, hxx])
          have HQ := Lib.hid (show divR n d m = (q, 0) by rw [HO.out m hm0 h5, hq])
          have hqb := HB.out m
          rw [HLO.out, HHI.out, hq] at hqb
          obtain ⟨hq0, hq1⟩ := hqb
          have hql : ¬ q < lo := by omega
          have hqh : ¬ hi < q := by omega
          clear hq hxx
          rcases (show m = 0 ∨ m = 1 ∨ (2 ≤ m ∧ m ≠ 0 ∧ m ≠ 1) by omega) with rfl | rfl | ⟨h2, hne0, hne1⟩
          · rw [if_pos rfl] at hx
            have hy1 : wrap64 (-hi) = x := by rw [hx]; exact IntWalk.wrap64_in (-hi) ⟨by omega, by omega⟩
            have hy2 : IntKind.i64.wrap (-hi) = x := by rw [hx]; exact i64_in (by omega) (by omega)
            clear hx
            go_wp2_with (first
              | (go_at_call 10; (with_reducible refine (DivRound_is n d 0 q 0 _ HQ.out).mono ?_); rintro e w3 ⟨rfl, hb3⟩)
              | (go_at_call 10; (with_reducible refine (DivRound_is nn d 0 x 0 _ HX.out).mono ?_); rintro e w4 ⟨rfl, hb4⟩)
              | fail)
            go_roundw
            case rel => exact ⟨0 + 1, by omega, by omega, by go_num, tr (tr HBW.out hb3) hb4⟩
            case measure => simp [intOf]
          · rw [if_neg (by decide), if_pos rfl] at hx
            have hy1 : wrap64 (-lo) = x := by rw [hx]; exact IntWalk.wrap64_in (-lo) ⟨by omega, by omega⟩
            have hy2 : IntKind.i64.wrap (-lo) = x := by rw [hx]; exact i64_in (by omega) (by omega)
            clear hx
            go_wp2_with (first
              | (go_at_call 10; (with_reducible refine (DivRound_is n d 1 q 0 _ HQ.out).mono ?_); rintro e w3 ⟨rfl, hb3⟩)
              | (go_at_call 10; (with_reducible refine (DivRound_is nn d 1 x 0 _ HX.out).mono ?_); rintro e w4 ⟨rfl, hb4⟩)
              | fail)
            go_roundw
            case rel => exact ⟨1 + 1, by omega, by omega, by go_num, tr (tr HBW.out hb3) hb4⟩
            case measure => simp [intOf]
          · rw [if_neg hne0, if_neg hne1] at hx
            have hy1 : wrap64 (-q) = x := by rw [hx]; exact IntWalk.wrap64_in (-q) ⟨by omega, by omega⟩
            have hy2 : IntKind.i64.wrap (-q) = x := by rw [hx]; exact i64_in (by omega) (by omega)
            have hm1 : (m == 0) = false := by simpa using hne0
            have hm2 : (m == 1) = false := by simpa using hne1
            clear hx
            go_wp2_with (first
              | (go_at_call 10; (with_reducible refine (DivRound_is n d m q 0 _ HQ.out).mono ?_); rintro e w3 ⟨rfl, hb3⟩)
              | (go_at_call 10; (with_reducible refine (DivRound_is nn d m x 0 _ HX.out).mono ?_); rintro e w4 ⟨rfl, hb4⟩)
              | fail)
            go_roundw
            case rel => exact ⟨m + 1, by omega, by omega, by go_num, tr (tr HBW.out hb3) hb4⟩
            case measure => simp [intOf]; omega
        · obtain rfl : m = 6 := by omega
          go_wp2_with (first
            | (go_at_call 12; refine (awake_is _).mono ?_; rintro e w3 ⟨rfl, hb3⟩)
            | fail)
          go_ret
          exact ⟨rfl, tr HBW.out hb3⟩
    · have H0 := Lib.hid (show divR n d 0 = (0, 3) by unfold divR; rw [if_neg (by decide), if_neg hd, hb, if_pos rfl])
      have H1 := Lib.hid (show divR n d 1 = (0, 3) by unfold divR; rw [if_neg (by decide), if_neg hd, hb, if_pos rfl])
      clear wn wd hb
      go_enter Try.func9, Try.ntmps9
      go_wp2_with (first
        | (go_at_call 10; (with_reducible refine (DivRound_is n d 0 0 3 _ H0.out).mono ?_); rintro e w1 ⟨rfl, hb1⟩)
        | (go_at_call 10; (with_reducible refine (DivRound_is n d 1 0 3 _ H1.out).mono ?_); rintro e w2 ⟨rfl, hb2⟩)
        | (go_at_call 12; refine (awake_is _).mono ?_; rintro e w3 ⟨rfl, hb3⟩)
        | fail)
      go_ret
      exact ⟨rfl, tr (tr hb1 hb2) hb3⟩
end Go.Proofs.Ytikcnekaefelcaa.money
