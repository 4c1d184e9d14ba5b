/-
  What the reference's functions of chapter 3 answer: the small walks.
-/
import Derived.Test.YtnboimaocmeojaaWalkBase
import Derived.Test.YtnboimaocmeojaaRateSpec
namespace Go.Proofs.Ytnboimaocmeojaa.money
open Go Go.RowKit
set_option linter.unusedVariables false

theorem rBeyond3_is (n most : Int) (b : Bool) (w : World) (h0 : 0 ≤ most) (h1 : most ≤ 9223372036854775807) (h : beyond n most = b) :
    Calls Try.prog 24 #[.int .i64 n, .int .i64 most] w fun e w' => e = .returned (.bool b) ∧ w = w' := by
  have H := Lib.hid h
  clear h
  go_enter Try.func24, Try.ntmps24
  go_wp2
  all_goals go_ret
  all_goals refine ⟨ret_bool ?_, rfl⟩
  all_goals rw [← H.out]; unfold beyond
  all_goals (first | (simp; done) | (simp_all; done) | (simp_all; omega))

/-- quotient and rest towards zero, and by floors -/
theorem floor_of {n d : Int} (hd : 0 < d) : (n.tmod d < 0 ∧ n.tdiv d - 1 = n / d ∧ n.tmod d + d = n % d) ∨ (¬ n.tmod d < 0 ∧ n.tdiv d = n / d ∧ n.tmod d = n % d) := by
  rcases Int.lt_or_le n 0 with hn | hn
  · have e1 : n.tdiv d = -((-n) / d) := by
      have : n = -(-n) := by omega
      rw [this, Int.neg_tdiv, Int.tdiv_eq_ediv_of_nonneg (by omega)]; simp
    have e2 : n.tmod d = -((-n) % d) := by
      have : n = -(-n) := by omega
      rw [this, Int.neg_tmod, Int.tmod_eq_emod_of_nonneg (by omega)]; simp
    have h1 := Int.mul_ediv_add_emod n d
    have h2 := Int.mul_ediv_add_emod (-n) d
    have s0 := Int.emod_nonneg (-n) (show d ≠ 0 by omega)
    have s1 := Int.emod_lt_of_pos (-n) hd
    have r0 := Int.emod_nonneg n (show d ≠ 0 by omega)
    have r1 := Int.emod_lt_of_pos n hd
    rw [e1, e2]
    obtain ⟨q, hq⟩ : ∃ q, n / d = q := ⟨_, rfl⟩
    obtain ⟨r, hr⟩ : ∃ r, n % d = r := ⟨_, rfl⟩
    obtain ⟨q', hq'⟩ : ∃ q', -n / d = q' := ⟨_, rfl⟩
    obtain ⟨r', hr'⟩ : ∃ r', -n % d = r' := ⟨_, rfl⟩
    rw [hq, hr] at h1
    rw [hq', hr'] at h2
    rw [hr] at r0 r1
    rw [hr'] at s0 s1
    rw [hq, hr, hq', hr']
    have h3 : d * (q + q') = -(r + r') := by rw [Int.mul_add]; omega
    have h5 : q + q' = 0 ∨ q + q' = -1 := by
      rcases Int.lt_or_le (q + q') (-1) with g | g
      · have : d * (q + q') ≤ d * (-2) := Int.mul_le_mul_of_nonneg_left (by omega) (by omega)
        omega
      · rcases Int.lt_or_le 0 (q + q') with g2 | g2
        · have : 0 < d * (q + q') := Int.mul_pos hd g2
          omega
        · omega
    rcases h5 with h5 | h5
    · right; rw [h5] at h3; simp at h3; omega
    · left; rw [h5] at h3
      have : d * (-1) = -d := by omega
      omega
  · right
    rw [Int.tdiv_eq_ediv_of_nonneg hn, Int.tmod_eq_emod_of_nonneg hn]
    have r0 := Int.emod_nonneg n (show d ≠ 0 by omega)
    omega

theorem rFloor_is (n d q r : Int) (w : World) (n0 : -4611686018427387904 ≤ n) (n1 : n ≤ 4611686018427387904) (hd : 0 < d) (d1 : d ≤ 4611686018427387904) (hq : n / d = q) (hr : n % d = r) :
    Calls Try.prog 25 #[.int .i64 n, .int .i64 d] w fun e w' => e = .returned (.tuple #[.int .i64 q, .int .i64 r]) ∧ w = w' := by
  have hf := floor_of (n := n) hd
  have ha : (n.tdiv d).natAbs ≤ n.natAbs := by rw [Int.natAbs_tdiv]; exact Nat.div_le_self _ _
  have hb : (n.tmod d).natAbs < d.natAbs := by rw [Int.natAbs_tmod]; exact Nat.mod_lt _ (by omega)
  obtain ⟨e, he⟩ : ∃ e, n.tdiv d = e := ⟨_, rfl⟩
  obtain ⟨f, hff⟩ : ∃ f, n.tmod d = f := ⟨_, rfl⟩
  rw [he, hff, hq, hr] at hf
  rw [he] at ha
  rw [hff] at hb
  have d0 : (d == 0) = false := by simp; omega
  have f2 : wrap64 e = e := IntWalk.wrap64_in e ⟨by omega, by omega⟩
  have f3 : IntKind.i64.wrap e = e := i64_in (by omega) (by omega)
  rcases hf with ⟨hlt, h1, h2⟩ | ⟨hlt, rfl, rfl⟩
  · have f4 : wrap64 (e - 1) = q := by rw [h1]; exact IntWalk.wrap64_in q ⟨by omega, by omega⟩
    have f5 : IntKind.i64.wrap (e - 1) = q := by rw [h1]; exact i64_in (by omega) (by omega)
    have f6 : wrap64 (f + d) = r := by rw [h2]; exact IntWalk.wrap64_in r ⟨by omega, by omega⟩
    have f7 : IntKind.i64.wrap (f + d) = r := by rw [h2]; exact i64_in (by omega) (by omega)
    have H := Lib.hid (And.intro h1 h2)
    clear hq hr ha hb h1 h2
    go_enter Try.func25, Try.ntmps25
    go_wp2
    go_ret2
    refine ⟨?_, rfl⟩
    first
      | rfl
      | rw [H.out.1, H.out.2]
  · clear hq hr ha hb
    go_enter Try.func25, Try.ntmps25
    go_wp2
    go_ret2
    exact ⟨rfl, rfl⟩

set_option maxHeartbeats 1000000 in
set_option maxRecDepth 4000 in
theorem rRounded3_is (q r d m c : Int) (w : World) (q0 : -4611686018427387904 ≤ q) (q1 : q ≤ 4611686018427387904) (r0 : 0 ≤ r) (r1 : r < d) (d1 : d ≤ 4611686018427387904) (hm : okMode m = true) (h : rndF q r d m = c) :
    Calls Try.prog 26 #[.int .i64 q, .int .i64 r, .int .i64 d, .int .i64 m] w fun e w' => e = .returned (.int .i64 c) ∧ w = w' := by
  have H := Lib.hid h
  clear h
  have hm6 : m = 0 ∨ m = 1 ∨ m = 2 ∨ m = 3 ∨ m = 4 ∨ m = 5 := by
    unfold okMode at hm; simp at hm; omega
  clear hm
  by_cases hr : r = 0
  · subst hr
    have h := H.out
    rw [rndF, if_pos rfl] at h
    subst h
    clear hm6
    go_enter Try.func26, Try.ntmps26
    go_wp2
    go_ret
    exact ⟨rfl, rfl⟩
  · have hr0 : (r == 0) = false := by simpa using hr
    have h := H.out
    rw [rndF, if_neg hr] at h
    obtain ⟨y, hy⟩ : ∃ y, d - r = y := ⟨_, rfl⟩
    have hw1 : wrap64 (d - r) = y := by rw [hy]; exact IntWalk.wrap64_in y ⟨by omega, by omega⟩
    have hw2 : IntKind.i64.wrap (d - r) = y := by rw [hy]; exact i64_in (by omega) (by omega)
    have H2 := Lib.hid h
    have HY := Lib.hid hy
    clear h hy hr
    rcases hm6 with rfl | rfl | rfl | rfl | rfl | rfl
    · go_enter Try.func26, Try.ntmps26
      go_wp2
      go_ret
      exact ⟨ret_int H2.out, rfl⟩
    · go_enter Try.func26, Try.ntmps26
      go_wp2
      go_ret
      exact ⟨ret_int H2.out, rfl⟩
    · by_cases hq : q < 0
      · go_enter Try.func26, Try.ntmps26
        go_wp2
        go_ret
        refine ⟨ret_int ?_, rfl⟩
        rw [← H2.out, upF]; simp [hq]
      · go_enter Try.func26, Try.ntmps26
        go_wp2
        go_ret
        refine ⟨ret_int ?_, rfl⟩
        rw [← H2.out, upF]; simp; omega
    · by_cases hq : 0 ≤ q
      · go_enter Try.func26, Try.ntmps26
        go_wp2
        go_ret
        refine ⟨ret_int ?_, rfl⟩
        rw [← H2.out, upF]; simp [hq]
      · go_enter Try.func26, Try.ntmps26
        go_wp2
        go_ret
        refine ⟨ret_int ?_, rfl⟩
        rw [← H2.out, upF]; simp; omega
    · rcases Int.lt_trichotomy y r with g | g | g
      · have g1 : decide (y < r) = true := by simpa using g
        have g2 : (r == y) = false := by simp; omega
        have H3 := Lib.hid (show q + 1 = c by rw [← H2.out, show upF q r d 4 = true by unfold upF; rw [HY.out]; simp; omega]; rfl)
        clear H2
        go_enter Try.func26, Try.ntmps26
        go_wp2
        go_ret
        exact ⟨ret_int (by rw [← H3.out]), rfl⟩
      · subst g
        by_cases hq : 0 ≤ q
        · have g1 : decide (y < y) = false := by simp
          have H3 := Lib.hid (show q + 1 = c by rw [← H2.out, show upF q y d 4 = true by unfold upF; rw [HY.out]; simp; omega]; rfl)
          clear H2
          go_enter Try.func26, Try.ntmps26
          go_wp2
          go_ret
          exact ⟨ret_int (by rw [← H3.out]), rfl⟩
        · have g1 : decide (y < y) = false := by simp
          have H3 := Lib.hid (show q = c by rw [← H2.out, show upF q y d 4 = false by unfold upF; rw [HY.out]; simp; omega]; rfl)
          clear H2
          go_enter Try.func26, Try.ntmps26
          go_wp2
          go_ret
          exact ⟨ret_int (by rw [← H3.out]), rfl⟩
      · have g1 : decide (y < r) = false := by simp; omega
        have g2 : (r == y) = false := by simp; omega
        have H3 := Lib.hid (show q = c by rw [← H2.out, show upF q r d 4 = false by unfold upF; rw [HY.out]; simp; omega]; rfl)
        clear H2
        go_enter Try.func26, Try.ntmps26
        go_wp2
        go_ret
        exact ⟨ret_int (by rw [← H3.out]), rfl⟩
    · rcases Int.lt_trichotomy y r with g | g | g
      · have g1 : decide (y < r) = true := by simpa using g
        have g2 : (r == y) = false := by simp; omega
        have H3 := Lib.hid (show q + 1 = c by rw [← H2.out, show upF q r d 5 = true by unfold upF; rw [HY.out]; simp; omega]; rfl)
        clear H2
        go_enter Try.func26, Try.ntmps26
        go_wp2
        go_ret
        exact ⟨ret_int (by rw [← H3.out]), rfl⟩
      · subst g
        obtain ⟨t, ht⟩ : ∃ t, q.tmod 2 = t := ⟨_, rfl⟩
        by_cases hq : q % 2 = 0
        · have g1 : decide (y < y) = false := by simp
          have g3 : (t != 0) = false := by have hta : t.natAbs = q.natAbs % 2 := by { rw [← ht, Int.natAbs_tmod]; rfl }; simp; omega
          have H3 := Lib.hid (show q = c by rw [← H2.out, show upF q y d 5 = false by unfold upF; rw [HY.out]; simp; omega]; rfl)
          clear H2
          go_enter Try.func26, Try.ntmps26
          go_wp2
          go_ret
          exact ⟨ret_int (by rw [← H3.out]), rfl⟩
        · have g1 : decide (y < y) = false := by simp
          have g3 : (t != 0) = true := by have hta : t.natAbs = q.natAbs % 2 := by { rw [← ht, Int.natAbs_tmod]; rfl }; simp; omega
          have H3 := Lib.hid (show q + 1 = c by rw [← H2.out, show upF q y d 5 = true by unfold upF; rw [HY.out]; simp; omega]; rfl)
          clear H2
          go_enter Try.func26, Try.ntmps26
          go_wp2
          go_ret
          exact ⟨ret_int (by rw [← H3.out]), rfl⟩
      · have g1 : decide (y < r) = false := by simp; omega
        have g2 : (r == y) = false := by simp; omega
        have H3 := Lib.hid (show q = c by rw [← H2.out, show upF q r d 5 = false by unfold upF; rw [HY.out]; simp; omega]; rfl)
        clear H2
        go_enter Try.func26, Try.ntmps26
        go_wp2
        go_ret
        exact ⟨ret_int (by rw [← H3.out]), rfl⟩
end Go.Proofs.Ytnboimaocmeojaa.money
