/-
  What package money's MulDiv answers: the walk.
-/
import Derived.Test.YtnboimaocmeojaaMineB
import Derived.Test.YtnboimaocmeojaaDiv64
namespace Go.Proofs.Ytnboimaocmeojaa.money
open Go Go.RowKit Go.Proofs.Ytnboimaocmeojaa.div64
set_option linter.unusedVariables false

theorem Mul64_is (x y h l : Nat) (w : World) (hx : x < 18446744073709551616) (hy : y < 18446744073709551616) (hh : x * y / 18446744073709551616 = h) (hl : x * y % 18446744073709551616 = l) :
    Calls Try.prog 33 #[.int .u64 x, .int .u64 y] w fun e w' => e = .returned (.tuple #[.int .u64 h, .int .u64 l]) ∧ w = w' :=
  (Try.bits_Mul64 x y hx hy w).mono fun e w' ⟨he, hw⟩ => ⟨by rw [he, hh, hl], hw.symm⟩

set_option maxHeartbeats 2000000 in
theorem MulDiv_is (c n d m z k : Int) (w : World) (h : mulR c n d m = (z, k)) : Calls Try.prog 27 #[.int .i64 c, .int .i64 n, .int .i64 d, .int .i64 m] w (Gives w z k) := by
  cases hm : okMode m
  · rw [mulR_mode hm] at h
    cases h
    have HM := Lib.hid hm
    clear hm
    go_enter Try.func27, Try.ntmps27
    go_wp2_with (first
      | (go_at_call 29; refine (mMode_is m false _ HM.out).mono ?_; rintro e w' ⟨rfl, rfl⟩)
      | fail)
    go_ret2
    exact ⟨rfl, Below.refl _ _⟩
  · have HM := Lib.hid hm
    by_cases hd : d = 0
    · rw [mulR_zero hm hd] at h
      cases h
      subst hd
      clear hm
      go_enter Try.func27, Try.ntmps27
      go_wp2_with (first
        | (go_at_call 29; refine (mMode_is m true _ HM.out).mono ?_; rintro e w' ⟨rfl, rfl⟩)
        | fail)
      go_ret2
      exact ⟨rfl, Below.refl _ _⟩
    · have hd0 : (d == 0) = false := by simpa using hd
      cases hb1 : beyond c 1000000000000000
      · have HB1 := Lib.hid hb1
        cases hb2 : beyond n 1000000000
        · have HB2 := Lib.hid hb2
          cases hb3 : beyond d 1000000000
          · have HB3 := Lib.hid hb3
            rw [mulR_in hm hd (by rw [hb1, hb2, hb3]; rfl)] at h
            have g1 := beyond_abs hb1
            have g2 := beyond_abs hb2
            have g3 := beyond_abs hb3
            have hdp : 0 < d.natAbs := by omega
            obtain ⟨a, ha⟩ : ∃ a, c.natAbs = a := ⟨_, rfl⟩
            obtain ⟨b, hb⟩ : ∃ a, n.natAbs = a := ⟨_, rfl⟩
            obtain ⟨y, hy⟩ : ∃ a, d.natAbs = a := ⟨_, rfl⟩
            have hbig := quot_big (c := c) (x := n) (d := d) (m := m) hd
            have hq := quot_mul c n d m hd
            obtain ⟨v, hv⟩ : ∃ v, quot (c * n) d m = v := ⟨_, rfl⟩
            obtain ⟨neg, hneg⟩ : ∃ neg, (!((!(decide (c < 0) == decide (n < 0))) == decide (d < 0))) = neg := ⟨_, rfl⟩
            rw [ha, hb, hy] at hq hbig
            rw [hv] at h hq hbig
            have hnn : ((decide (c < 0) != decide (n < 0)) != decide (d < 0)) = neg := by rw [← hneg]; rfl
            rw [hnn] at hq
            obtain ⟨q, hqq⟩ : ∃ q, a * b / y = q := ⟨_, rfl⟩
            obtain ⟨r, hrr⟩ : ∃ q, a * b % y = q := ⟨_, rfl⟩
            obtain ⟨hi, hhi⟩ : ∃ q, a * b / 18446744073709551616 = q := ⟨_, rfl⟩
            obtain ⟨lo, hlo⟩ : ∃ q, a * b % 18446744073709551616 = q := ⟨_, rfl⟩
            have hlb : lo < 18446744073709551616 := by rw [← hlo]; exact Nat.mod_lt _ (by omega)
            have hab : hi * 18446744073709551616 + lo = a * b := by rw [← hhi, ← hlo, Nat.mul_comm]; exact Nat.div_add_mod _ _
            rw [hqq, hrr] at hq
            rw [hqq] at hbig
            have hry : r < y := by rw [← hrr]; exact Nat.mod_lt _ (by omega)
            have HA := Lib.hid (show (c.natAbs : Int) = (a : Int) by rw [ha])
            have HX := Lib.hid (show (n.natAbs : Int) = (b : Int) by rw [hb])
            have HY := Lib.hid (show (d.natAbs : Int) = (y : Int) by rw [hy])
            have HG := Lib.hid (And.intro g1 (And.intro g2 g3))
            have HU := Lib.hid (fun W => Mul64_is a b hi lo W (by omega) (by omega) hhi hlo)
            by_cases hge : y ≤ hi
            · have hwide : 1000000000000000 < q := by
                rw [← hqq]
                refine Nat.lt_of_lt_of_le (show 1000000000000000 < 18446744073709551616 by decide) ((Nat.le_div_iff_mul_le (by omega)).2 ?_)
                rw [← hab]
                have : 18446744073709551616 * y ≤ 18446744073709551616 * hi := Nat.mul_le_mul_left _ hge
                omega
              rw [hbig hwide, if_pos rfl] at h
              cases h
              clear hm hd hb1 hb2 hb3 ha hb hy hbig hq hv hneg hnn hqq hrr hhi hlo hab hwide hdp g1 g2 g3 hlb hry
              go_enter Try.func27, Try.ntmps27
              go_wp2_with (first
                | (go_at_call 29; refine (mMode_is m true _ HM.out).mono ?_; rintro e w' ⟨rfl, rfl⟩)
                | (go_at_call 30; (with_reducible refine (mBeyond_is c 1000000000000000 false _ (by decide) (by decide) HB1.out).mono ?_); rintro e w' ⟨rfl, rfl⟩)
                | (go_at_call 30; (with_reducible refine (mBeyond_is n 1000000000 false _ (by decide) (by decide) HB2.out).mono ?_); rintro e w' ⟨rfl, rfl⟩)
                | (go_at_call 30; (with_reducible refine (mBeyond_is d 1000000000 false _ (by decide) (by decide) HB3.out).mono ?_); rintro e w' ⟨rfl, rfl⟩)
                | (go_at_call 34; (with_reducible refine (mAbs_is c a _ (by have := HG.out; omega) (by have := HG.out; omega) HA.out).mono ?_); rintro e w' ⟨rfl, rfl⟩)
                | (go_at_call 34; (with_reducible refine (mAbs_is n b _ (by have := HG.out; omega) (by have := HG.out; omega) HX.out).mono ?_); rintro e w' ⟨rfl, rfl⟩)
                | (go_at_call 34; (with_reducible refine (mAbs_is d y _ (by have := HG.out; omega) (by have := HG.out; omega) HY.out).mono ?_); rintro e w' ⟨rfl, rfl⟩)
                | (go_at_call 33; refine (HU.out _).mono ?_; rintro e w' ⟨rfl, rfl⟩)
                | fail)
              go_ret2
              exact ⟨rfl, Below.refl _ _⟩
            · have HD := Lib.hid (fun W => Div64_is hi lo y W (by omega) (by omega) hlb q r (by rw [hab]; exact hqq) (by rw [hab]; exact hrr))
              by_cases hqb : 1000000000000000 < q
              · rw [hbig hqb, if_pos rfl] at h
                cases h
                have hqi : (1000000000000000 : Int) < (q : Int) := by omega
                clear hm hd hb1 hb2 hb3 ha hb hy hbig hq hv hneg hnn hqq hrr hhi hlo hab hdp g1 g2 g3 hlb hry hqb
                go_enter Try.func27, Try.ntmps27
                go_wp2_with (first
                  | (go_at_call 29; refine (mMode_is m true _ HM.out).mono ?_; rintro e w' ⟨rfl, rfl⟩)
                  | (go_at_call 30; (with_reducible refine (mBeyond_is c 1000000000000000 false _ (by decide) (by decide) HB1.out).mono ?_); rintro e w' ⟨rfl, rfl⟩)
                  | (go_at_call 30; (with_reducible refine (mBeyond_is n 1000000000 false _ (by decide) (by decide) HB2.out).mono ?_); rintro e w' ⟨rfl, rfl⟩)
                  | (go_at_call 30; (with_reducible refine (mBeyond_is d 1000000000 false _ (by decide) (by decide) HB3.out).mono ?_); rintro e w' ⟨rfl, rfl⟩)
                  | (go_at_call 34; (with_reducible refine (mAbs_is c a _ (by have := HG.out; omega) (by have := HG.out; omega) HA.out).mono ?_); rintro e w' ⟨rfl, rfl⟩)
                  | (go_at_call 34; (with_reducible refine (mAbs_is n b _ (by have := HG.out; omega) (by have := HG.out; omega) HX.out).mono ?_); rintro e w' ⟨rfl, rfl⟩)
                  | (go_at_call 34; (with_reducible refine (mAbs_is d y _ (by have := HG.out; omega) (by have := HG.out; omega) HY.out).mono ?_); rintro e w' ⟨rfl, rfl⟩)
                  | (go_at_call 33; refine (HU.out _).mono ?_; rintro e w' ⟨rfl, rfl⟩)
                  | (go_at_call 35; refine (HD.out _).mono ?_; rintro e w1 ⟨rfl, nd, rfl⟩)
                  | fail)
                go_ret2
                exact ⟨rfl, below_drewN (Below.refl _ _) _⟩
              · have HR := Lib.hid hq.symm
                have HC := Lib.hid (fun W => cents_is v z k W h)
                have hqi : ¬ (1000000000000000 : Int) < (q : Int) := by omega
                have HQ := Lib.hid (show (q : Int) ≤ 4611686018427387904 by omega)
                have HRY := Lib.hid (show (r : Int) < (y : Int) by omega)
                have HYM := Lib.hid (show (y : Int) ≤ 4611686018427387904 by omega)
                clear hm hd hb1 hb2 hb3 ha hb hy hbig hq hv hnn hqq hrr hhi hlo hab hdp g1 g2 g3 hlb hry hqb h
                go_enter Try.func27, Try.ntmps27
                go_wp2_with (first
                  | (go_at_call 29; refine (mMode_is m true _ HM.out).mono ?_; rintro e w' ⟨rfl, rfl⟩)
                  | (go_at_call 30; (with_reducible refine (mBeyond_is c 1000000000000000 false _ (by decide) (by decide) HB1.out).mono ?_); rintro e w' ⟨rfl, rfl⟩)
                  | (go_at_call 30; (with_reducible refine (mBeyond_is n 1000000000 false _ (by decide) (by decide) HB2.out).mono ?_); rintro e w' ⟨rfl, rfl⟩)
                  | (go_at_call 30; (with_reducible refine (mBeyond_is d 1000000000 false _ (by decide) (by decide) HB3.out).mono ?_); rintro e w' ⟨rfl, rfl⟩)
                  | (go_at_call 34; (with_reducible refine (mAbs_is c a _ (by have := HG.out; omega) (by have := HG.out; omega) HA.out).mono ?_); rintro e w' ⟨rfl, rfl⟩)
                  | (go_at_call 34; (with_reducible refine (mAbs_is n b _ (by have := HG.out; omega) (by have := HG.out; omega) HX.out).mono ?_); rintro e w' ⟨rfl, rfl⟩)
                  | (go_at_call 34; (with_reducible refine (mAbs_is d y _ (by have := HG.out; omega) (by have := HG.out; omega) HY.out).mono ?_); rintro e w' ⟨rfl, rfl⟩)
                  | (go_at_call 33; refine (HU.out _).mono ?_; rintro e w' ⟨rfl, rfl⟩)
                  | (go_at_call 35; refine (HD.out _).mono ?_; rintro e w1 ⟨rfl, nd, rfl⟩)
                  | (go_at_call 32; refine (round_is q r y m v neg _ (Int.natCast_nonneg _) HQ.out (Int.natCast_nonneg _) HRY.out HYM.out HM.out HR.out).mono ?_; rintro e w2 ⟨rfl, hb2⟩)
                  | (go_at_call 36; refine (HC.out _).mono ?_; rintro e w3 ⟨rfl, rfl⟩)
                  | fail)
                go_ret2
                exact ⟨rfl, tr (below_drewN (Below.refl _ _) _) hb2⟩
          · have HB3 := Lib.hid hb3
            rw [mulR_out hm hd (by rw [hb1, hb2, hb3]; rfl)] at h
            cases h
            clear hb1 hb2 hb3 hm hd
            go_enter Try.func27, Try.ntmps27
            go_wp2_with (first
              | (go_at_call 29; refine (mMode_is m true _ HM.out).mono ?_; rintro e w' ⟨rfl, rfl⟩)
              | (go_at_call 30; (with_reducible refine (mBeyond_is c 1000000000000000 false _ (by decide) (by decide) HB1.out).mono ?_); rintro e w' ⟨rfl, rfl⟩)
              | (go_at_call 30; (with_reducible refine (mBeyond_is n 1000000000 false _ (by decide) (by decide) HB2.out).mono ?_); rintro e w' ⟨rfl, rfl⟩)
              | (go_at_call 30; (with_reducible refine (mBeyond_is d 1000000000 true _ (by decide) (by decide) HB3.out).mono ?_); rintro e w' ⟨rfl, rfl⟩)
              | fail)
            go_ret2
            exact ⟨rfl, Below.refl _ _⟩
        · have HB2 := Lib.hid hb2
          rw [mulR_out hm hd (by rw [hb1, hb2]; rfl)] at h
          cases h
          clear hb1 hb2 hm hd
          go_enter Try.func27, Try.ntmps27
          go_wp2_with (first
            | (go_at_call 29; refine (mMode_is m true _ HM.out).mono ?_; rintro e w' ⟨rfl, rfl⟩)
            | (go_at_call 30; (with_reducible refine (mBeyond_is c 1000000000000000 false _ (by decide) (by decide) HB1.out).mono ?_); rintro e w' ⟨rfl, rfl⟩)
            | (go_at_call 30; (with_reducible refine (mBeyond_is n 1000000000 true _ (by decide) (by decide) HB2.out).mono ?_); rintro e w' ⟨rfl, rfl⟩)
            | fail)
          go_ret2
          exact ⟨rfl, Below.refl _ _⟩
      · have HB1 := Lib.hid hb1
        rw [mulR_out hm hd (by rw [hb1]; rfl)] at h
        cases h
        clear hb1 hm hd
        go_enter Try.func27, Try.ntmps27
        go_wp2_with (first
          | (go_at_call 29; refine (mMode_is m true _ HM.out).mono ?_; rintro e w' ⟨rfl, rfl⟩)
          | (go_at_call 30; (with_reducible refine (mBeyond_is c 1000000000000000 true _ (by decide) (by decide) HB1.out).mono ?_); rintro e w' ⟨rfl, rfl⟩)
          | fail)
        go_ret2
        exact ⟨rfl, Below.refl _ _⟩
end Go.Proofs.Ytnboimaocmeojaa.money
