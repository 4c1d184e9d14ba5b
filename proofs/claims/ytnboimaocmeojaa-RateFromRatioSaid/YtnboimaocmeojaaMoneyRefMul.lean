/-
  What the reference's MulDiv of chapter 2 answers: the walk.
-/
import Derived.Test.YtnboimaocmeojaaMoneyRef
namespace Go.Proofs.Ytnboimaocmeojaa.money
open Go Go.RowKit
set_option linter.unusedVariables false

set_option maxHeartbeats 2000000 in
theorem rMulDiv_is (c n d m y k : Int) (w : World) (h : mulR c n d m = (y, k)) :
    Calls Try.prog 28 #[.int .i64 c, .int .i64 n, .int .i64 d, .int .i64 m] w fun e w' => e = .returned (.tuple #[.int .i64 y, .int .i64 k]) ∧ Below w.heap.size w w' := by
  cases hm : okMode m
  · rw [mulR_mode hm] at h
    cases h
    have HM := Lib.hid hm
    clear hm
    go_enter Try.func28, Try.ntmps28
    go_wp2_with (go_at_call 37; refine (rMode_is m false _ HM.out).mono ?_; rintro e w' ⟨rfl, rfl⟩)
    go_ret2
    exact ⟨rfl, Below.refl _ _⟩
  · have HM := Lib.hid hm
    by_cases hd : d = 0
    · rw [mulR_zero hm hd] at h
      cases h
      subst hd
      clear hm
      go_enter Try.func28, Try.ntmps28
      go_wp2_with (go_at_call 37; refine (rMode_is m true _ HM.out).mono ?_; rintro e w' ⟨rfl, rfl⟩)
      go_ret2
      exact ⟨rfl, Below.refl _ _⟩
    · have hd0 : (d == 0) = false := by simpa using hd
      cases hb1 : beyond c 1000000000000000
      · have HB1 := Lib.hid hb1
        cases hb2 : beyond n 1000000000
        · have HB2 := Lib.hid hb2
          cases hb3 : beyond d 1000000000
          · have HB3 := Lib.hid hb3
            rw [mulR_in hm hd (by rw [hb1, hb2, hb3]; rfl)] at h
            have g1 := beyond_abs hb1
            have g2 := beyond_abs hb2
            have g3 := beyond_abs hb3
            have hdp : 0 < d.natAbs := by omega
            have hsp := split_mul c.natAbs n.natAbs d.natAbs hdp
            have HE := Lib.hid (fun hx => early (a := c.natAbs) (x := n.natAbs) (b := d.natAbs) hx hdp)
            have HQ := Lib.hid (quot_mul c n d m hd)
            have HBIG := Lib.hid (fun g => quot_big (c := c) (x := n) (m := m) hd g)
            obtain ⟨a, ha⟩ : ∃ a : Int, (c.natAbs : Int) = a := ⟨_, rfl⟩
            obtain ⟨x, hx⟩ : ∃ x : Int, (n.natAbs : Int) = x := ⟨_, rfl⟩
            obtain ⟨b, hb⟩ : ∃ b : Int, (d.natAbs : Int) = b := ⟨_, rfl⟩
            obtain ⟨u, hu⟩ : ∃ u : Int, a / b = u := ⟨_, rfl⟩
            obtain ⟨e, he⟩ : ∃ e : Int, a % b = e := ⟨_, rfl⟩
            obtain ⟨lo, hlo⟩ : ∃ lo : Int, e * x = lo := ⟨_, rfl⟩
            obtain ⟨p, hp⟩ : ∃ p : Int, u * x = p := ⟨_, rfl⟩
            obtain ⟨s, hs⟩ : ∃ s : Int, lo / b = s := ⟨_, rfl⟩
            obtain ⟨r, hr⟩ : ∃ r : Int, lo % b = r := ⟨_, rfl⟩
            obtain ⟨v, hv⟩ : ∃ v : Int, 1000000000000000 / x = v := ⟨_, rfl⟩
            obtain ⟨q, hq⟩ : ∃ q : Int, p + s = q := ⟨_, rfl⟩
            obtain ⟨g, hg⟩ : ∃ g, (!(decide (c < 0) == decide (n < 0))) = g := ⟨_, rfl⟩
            obtain ⟨neg, hneg⟩ : ∃ neg, (!(g == decide (d < 0))) = neg := ⟨_, rfl⟩
            obtain ⟨z, hz⟩ : ∃ z, quot (c * n) d m = z := ⟨_, rfl⟩
            have a0 : 0 ≤ a := by omega
            have x0 : 0 ≤ x := by omega
            have b1 : 1 ≤ b := by omega
            have e0 : 0 ≤ e := by rw [← he]; exact Int.emod_nonneg _ (by omega)
            have e1 : e < b := by rw [← he]; exact Int.emod_lt_of_pos _ (by omega)
            have u0 : 0 ≤ u := by rw [← hu]; exact Int.ediv_nonneg a0 (by omega)
            have u1 : u ≤ a := by rw [← hu]; exact Int.ediv_le_self _ a0
            have lo0 : 0 ≤ lo := by rw [← hlo]; exact Int.mul_nonneg e0 x0
            have lo1 : lo ≤ 1000000000000000000 := by
              rw [← hlo]
              calc e * x ≤ 1000000000 * 1000000000 := Int.mul_le_mul (by omega) (by omega) x0 (by omega)
                _ ≤ 1000000000000000000 := by decide
            have s0 : 0 ≤ s := by rw [← hs]; exact Int.ediv_nonneg lo0 (by omega)
            have s1 : s ≤ lo := by rw [← hs]; exact Int.ediv_le_self _ lo0
            have r0 : 0 ≤ r := by rw [← hr]; exact Int.emod_nonneg _ (by omega)
            have r1 : r < b := by rw [← hr]; exact Int.emod_lt_of_pos _ (by omega)
            have p0 : 0 ≤ p := by rw [← hp]; exact Int.mul_nonneg u0 x0
            have hrq : ((c.natAbs % d.natAbs * n.natAbs % d.natAbs : Nat) : Int) = r := by
              rw [Int.natCast_emod, Int.natCast_mul, Int.natCast_emod, ha, hx, hb, he, hlo, hr]
            have hqq : ((c.natAbs / d.natAbs * n.natAbs + c.natAbs % d.natAbs * n.natAbs / d.natAbs : Nat) : Int) = q := by
              rw [Int.natCast_add, Int.natCast_mul, Int.natCast_ediv, Int.natCast_ediv, Int.natCast_mul, Int.natCast_emod, ha, hx, hb, hu, he, hp, hlo, hs, hq]
            have hrn : rnd q r b neg m = z := by
              rw [← hz, HQ.out, ← hsp.1, ← hsp.2, hqq, hrq, hb, ← hneg, ← hg]; rfl
            have f1 : a.tdiv b = u := by rw [Int.tdiv_eq_ediv_of_nonneg a0, hu]
            have f2 : a.tmod b = e := by rw [Int.tmod_eq_emod_of_nonneg a0, he]
            have f3 : lo.tdiv b = s := by rw [Int.tdiv_eq_ediv_of_nonneg lo0, hs]
            have f4 : lo.tmod b = r := by rw [Int.tmod_eq_emod_of_nonneg lo0, hr]
            have f5 : Int.tdiv 1000000000000000 x = v := by rw [Int.tdiv_eq_ediv_of_nonneg (by decide), hv]
            have w1 : wrap64 u = u := IntWalk.wrap64_in u ⟨by omega, by omega⟩
            have w2 : wrap64 lo = lo := IntWalk.wrap64_in lo ⟨by omega, by omega⟩
            have w3 : wrap64 s = s := IntWalk.wrap64_in s ⟨by omega, by omega⟩
            have k1 : IntKind.i64.wrap u = u := i64_in (by omega) (by omega)
            have k2 : IntKind.i64.wrap lo = lo := i64_in (by omega) (by omega)
            have k3 : IntKind.i64.wrap s = s := i64_in (by omega) (by omega)
            have v0 : 0 ≤ v := by rw [← hv]; exact Int.ediv_nonneg (by decide) x0
            have v1 : v ≤ 1000000000000000 := by rw [← hv]; exact Int.ediv_le_self _ (by decide)
            have w4 : wrap64 v = v := IntWalk.wrap64_in v ⟨by omega, by omega⟩
            have k4 : IntKind.i64.wrap v = v := i64_in (by omega) (by omega)
            have bne0 : (b == 0) = false := by simp; omega
            have HA := Lib.hid ha
            have HX := Lib.hid hx
            have HY := Lib.hid hb
            have HR := Lib.hid hrn
            have HG := Lib.hid (And.intro g1 (And.intro g2 g3))
            have hfork : (0 < x ∧ v < u) ∨ (((decide (0 < x) = false ∧ ¬ 0 < x) ∨ (decide (0 < x) = true ∧ decide (v < u) = false ∧ 0 < x ∧ ¬ v < u)) ∧ p ≤ 1000000000000000) := by
              by_cases hx0 : 0 < x
              · have E := HE.out (by omega)
                by_cases hvu : v < u
                · exact .inl ⟨hx0, hvu⟩
                · refine .inr ⟨.inr ⟨by simpa using hx0, by simpa using hvu, hx0, hvu⟩, ?_⟩
                  have h2 := E.2 (by
                    have : ((c.natAbs / d.natAbs : Nat) : Int) ≤ ((1000000000000000 / n.natAbs : Nat) : Int) := by
                      rw [Int.natCast_ediv, Int.natCast_ediv, ha, hb, hx, hu]
                      show u ≤ 1000000000000000 / x
                      rw [hv]; omega
                    exact Int.ofNat_le.1 this)
                  have h3 : ((c.natAbs / d.natAbs * n.natAbs : Nat) : Int) ≤ 1000000000000000 := Int.ofNat_le.2 h2
                  rw [Int.natCast_mul, Int.natCast_ediv, ha, hb, hx, hu, hp] at h3
                  exact h3
              · refine .inr ⟨.inl ⟨by simpa using hx0, hx0⟩, ?_⟩
                have : x = 0 := by omega
                rw [← hp, this]; simp
            rw [hz] at h
            have HZ := Lib.hid hz
            clear hm hd hb1 hb2 hb3 hdp hsp HQ hz hrn g1 g2 g3 hrq hqq
            rcases hfork with ⟨x1, vu⟩ | ⟨hgd, pb⟩
            · have hbig : beyond z 1000000000000000 = true := by
                rw [← HZ.out]
                refine HBIG.out ?_
                have h2 := (HE.out (by have := HX.out; omega)).1 (by
                  have : ((1000000000000000 / n.natAbs : Nat) : Int) < ((c.natAbs / d.natAbs : Nat) : Int) := by
                    rw [Int.natCast_ediv, Int.natCast_ediv, HA.out, HY.out, HX.out, hu]
                    show 1000000000000000 / x < u
                    rw [hv]; exact vu
                  exact Int.ofNat_lt.1 this)
                exact h2
              rw [hbig, if_pos rfl] at h
              cases h
              have vd : decide (v < u) = true := by simpa using vu
              have xd : decide (0 < x) = true := by simpa using x1
              clear ha hx hb HE HBIG HZ hbig
              go_enter Try.func28, Try.ntmps28
              go_wp2_with (first
              | (go_at_call 37; refine (rMode_is m true _ HM.out).mono ?_; rintro e w' ⟨rfl, rfl⟩)
              | (go_at_call 38; (with_reducible refine (rBeyond_is c 1000000000000000 false _ (by decide) (by decide) HB1.out).mono ?_); rintro e w' ⟨rfl, rfl⟩)
              | (go_at_call 38; (with_reducible refine (rBeyond_is n 1000000000 false _ (by decide) (by decide) HB2.out).mono ?_); rintro e w' ⟨rfl, rfl⟩)
              | (go_at_call 38; (with_reducible refine (rBeyond_is d 1000000000 false _ (by decide) (by decide) HB3.out).mono ?_); rintro e w' ⟨rfl, rfl⟩)
              | (go_at_call 39; (with_reducible refine (rAbs_is c a _ (by have := HG.out; omega) HA.out).mono ?_); rintro e w' ⟨rfl, rfl⟩)
              | (go_at_call 39; (with_reducible refine (rAbs_is n x _ (by have := HG.out; omega) HX.out).mono ?_); rintro e w' ⟨rfl, rfl⟩)
              | (go_at_call 39; (with_reducible refine (rAbs_is d b _ (by have := HG.out; omega) HY.out).mono ?_); rintro e w' ⟨rfl, rfl⟩)
              | fail)
              go_quiet (fail)
              go_wp2
              go_ret2
              exact ⟨rfl, below_drewN (Below.refl _ _) _⟩
            · have w5 : wrap64 p = p := IntWalk.wrap64_in p ⟨by omega, by omega⟩
              have k5 : IntKind.i64.wrap p = p := i64_in (by omega) (by omega)
              have w6 : wrap64 q = q := IntWalk.wrap64_in q ⟨by omega, by omega⟩
              have k6 : IntKind.i64.wrap q = q := i64_in (by omega) (by omega)
              have HB := Lib.hid (show 0 ≤ q ∧ q ≤ 4611686018427387904 by omega)
              have HBB := Lib.hid (show b ≤ 4611686018427387904 by have := HG.out; have := HY.out; omega)
              have HRR := Lib.hid (And.intro r0 r1)
              cases hb4 : beyond z 1000000000000000
              all_goals
                rw [hb4] at h
                simp only [Bool.false_eq_true, if_false, if_true, Prod.mk.injEq] at h
                obtain ⟨hy, hk⟩ := h
                subst hy hk
                have HB4 := Lib.hid hb4
                clear ha hx hb HE HBIG HZ hb4
                rcases hgd with ⟨j1, j2⟩ | ⟨j1, j2, j3, j4⟩
                all_goals
                  go_enter Try.func28, Try.ntmps28
                  go_wp2_with (first
              | (go_at_call 37; refine (rMode_is m true _ HM.out).mono ?_; rintro e w' ⟨rfl, rfl⟩)
              | (go_at_call 38; (with_reducible refine (rBeyond_is c 1000000000000000 false _ (by decide) (by decide) HB1.out).mono ?_); rintro e w' ⟨rfl, rfl⟩)
              | (go_at_call 38; (with_reducible refine (rBeyond_is n 1000000000 false _ (by decide) (by decide) HB2.out).mono ?_); rintro e w' ⟨rfl, rfl⟩)
              | (go_at_call 38; (with_reducible refine (rBeyond_is d 1000000000 false _ (by decide) (by decide) HB3.out).mono ?_); rintro e w' ⟨rfl, rfl⟩)
              | (go_at_call 39; (with_reducible refine (rAbs_is c a _ (by have := HG.out; omega) HA.out).mono ?_); rintro e w' ⟨rfl, rfl⟩)
              | (go_at_call 39; (with_reducible refine (rAbs_is n x _ (by have := HG.out; omega) HX.out).mono ?_); rintro e w' ⟨rfl, rfl⟩)
              | (go_at_call 39; (with_reducible refine (rAbs_is d b _ (by have := HG.out; omega) HY.out).mono ?_); rintro e w' ⟨rfl, rfl⟩)
              | fail)
                  go_quiet (fail)
                  go_wp2_with fail
                  go_quiet ((go_at_call 40; with_reducible exact quiet_more (rRounded_is q r b m z neg _ HB.out.1 HB.out.2 HRR.out.1 HRR.out.2 HBB.out HM.out HR.out)))
                  go_wp2_with (go_at_call 38; refine (rBeyond_is z 1000000000000000 _ _ (by decide) (by decide) HB4.out).mono ?_; rintro e w' ⟨rfl, rfl⟩)
                  go_ret2
                  exact ⟨rfl, by first | exact below_drewN (Below.refl _ _) _ | exact below_drewN (below_drewN (Below.refl _ _) _) _⟩
          · rw [mulR_out hm hd (by rw [hb1, hb2, hb3]; rfl)] at h
            cases h
            have HB3 := Lib.hid hb3
            clear hb1 hb2 hb3 hm hd
            go_enter Try.func28, Try.ntmps28
            go_wp2_with (first
              | (go_at_call 37; refine (rMode_is m true _ HM.out).mono ?_; rintro e w' ⟨rfl, rfl⟩)
              | (go_at_call 38; (with_reducible refine (rBeyond_is c 1000000000000000 false _ (by decide) (by decide) HB1.out).mono ?_); rintro e w' ⟨rfl, rfl⟩)
              | (go_at_call 38; (with_reducible refine (rBeyond_is n 1000000000 false _ (by decide) (by decide) HB2.out).mono ?_); rintro e w' ⟨rfl, rfl⟩)
              | (go_at_call 38; (with_reducible refine (rBeyond_is d 1000000000 true _ (by decide) (by decide) HB3.out).mono ?_); rintro e w' ⟨rfl, rfl⟩)
              | fail)
            go_ret2
            exact ⟨rfl, Below.refl _ _⟩
        · rw [mulR_out hm hd (by rw [hb1, hb2]; rfl)] at h
          cases h
          have HB2 := Lib.hid hb2
          clear hb1 hb2 hm hd
          go_enter Try.func28, Try.ntmps28
          go_wp2_with (first
            | (go_at_call 37; refine (rMode_is m true _ HM.out).mono ?_; rintro e w' ⟨rfl, rfl⟩)
            | (go_at_call 38; (with_reducible refine (rBeyond_is c 1000000000000000 false _ (by decide) (by decide) HB1.out).mono ?_); rintro e w' ⟨rfl, rfl⟩)
            | (go_at_call 38; (with_reducible refine (rBeyond_is n 1000000000 true _ (by decide) (by decide) HB2.out).mono ?_); rintro e w' ⟨rfl, rfl⟩)
            | fail)
          go_ret2
          exact ⟨rfl, Below.refl _ _⟩
      · rw [mulR_out hm hd (by rw [hb1]; rfl)] at h
        cases h
        have HB1 := Lib.hid hb1
        clear hb1 hm hd
        go_enter Try.func28, Try.ntmps28
        go_wp2_with (first
          | (go_at_call 37; refine (rMode_is m true _ HM.out).mono ?_; rintro e w' ⟨rfl, rfl⟩)
          | (go_at_call 38; (with_reducible refine (rBeyond_is c 1000000000000000 true _ (by decide) (by decide) HB1.out).mono ?_); rintro e w' ⟨rfl, rfl⟩)
          | fail)
        go_ret2
        exact ⟨rfl, Below.refl _ _⟩
end Go.Proofs.Ytnboimaocmeojaa.money
