/-
  What the landed functions of package month answer: FromDate, Range, Days, Overlap.
-/
import Derived.Test.YtmmohbmgodiilaaDoorQMonRef
import Derived.Test.YtmmohbmgodiilaaDoorQMonRefPay
import Derived.Test.YtmmohbmgodiilaaDoorQCalMineC
import Derived.Test.YtmmohbmgodiilaaDoorQRngMineB
namespace Go.Proofs.YtmmohbmgodiilaaDoor.mon
open Go Go.RowKit Go.Proofs.YtmmohbmgodiilaaDoor.money Go.Proofs.YtmmohbmgodiilaaDoor.ints
open Go.Proofs.YtmmohbmgodiilaaDoor.cal (dby cum dim diy okD okD_iff Is kOf jOf dOf fromR toR)
open Go.Proofs.YtmmohbmgodiilaaDoor.rng (bcell ref_bool okR neR interR)
set_option linter.unusedVariables false
set_option linter.unusedSimpArgs false

/-- what the packages' variables hold: package date's, the library's tables -/
def Env (w : World) : Prop := Go.Proofs.YtmmohbmgodiilaaDoor.cal.Env w
theorem Env.below {w w' : World} (h : Env w) (hb : Below w.heap.size w w') : Env w' := Go.Proofs.YtmmohbmgodiilaaDoor.cal.Env.below h hb

set_option maxHeartbeats 1000000 in
theorem mFd_is (n c : Int) (w : World) (he : Env w) (h : fdR n = c) : Calls Tryd.prog 10 #[.int .i64 n] w fun e w' => e = .returned (.int .i64 c) ∧ w = w' := by
  cases hv : okD n
  · rw [fd_out hv] at h
    subst h
    have ht : toR n = (0, 0, 0) := by unfold toR; rw [hv]; rfl
    have HT := Lib.hid ht
    clear hv ht
    go_enter Tryd.func10, Tryd.ntmps10
    go_wp2_with (go_at_call 27; refine (cal.mToYMD_is n 0 0 0 _ he HT.out).mono ?_; rintro e w' ⟨rfl, rfl⟩)
    go_ret
    exact ⟨rfl, rfl⟩
  · have I := Is.of n hv
    have ht := I.to
    rw [fd_of I] at h
    obtain ⟨y, hy⟩ : ∃ y, 1900 + (kOf n : Int) = y := ⟨_, rfl⟩
    obtain ⟨m, hm⟩ : ∃ m, (jOf n : Int) + 1 = m := ⟨_, rfl⟩
    obtain ⟨d, hd⟩ : ∃ d, dOf n = d := ⟨_, rfl⟩
    rw [hy, hm, hd] at ht
    have k1 := I.k1
    have j1 := I.j1
    have d0 := I.d0
    have y0 : 1900 ≤ y := by omega
    have y1 : y ≤ 2199 := by omega
    have m0 : 1 ≤ m := by omega
    have m1 : m ≤ 12 := by omega
    have dz : (d == 0) = false := by simp; omega
    have HT := Lib.hid ht
    have H := Lib.hid (And.intro h (And.intro hy hm))
    clear hv ht h hy hm hd I k1 j1 d0
    go_enter Tryd.func10, Tryd.ntmps10
    go_wp2_with (go_at_call 27; refine (cal.mToYMD_is n y m d _ he HT.out).mono ?_; rintro e w' ⟨rfl, rfl⟩)
    go_ret
    exact ⟨ret_int (by obtain ⟨h1, h2, h3⟩ := H.out; omega), rfl⟩

set_option maxRecDepth 4000 in
set_option maxHeartbeats 1000000 in
theorem mRange_is (m a b c : Int) (w : World) (he : Env w) (h : rangeR m = ((a, b), c)) : Calls Tryd.prog 8 #[.int .i64 m] w (GivesRC w a b c) := by
  have hc : Go.Proofs.YtmmohbmgodiilaaDoor.cal.Env w := he
  cases hv : okM m
  · unfold rangeR at h
    rw [hv, if_neg (by decide)] at h
    cases h
    by_cases g0 : m < 0
    · clear hv
      go_enter Tryd.func8, Tryd.ntmps8
      go_wp2
      refine bodyPost_ret (v := .tuple #[.agg #[.int .i64 0, .int .i64 0], .int .i64 3]) (by simp [results, Tryd.results8, go_sem]) rfl ⟨rfl, ?_⟩
      exact al (Below.refl _ _) _
    · have g1 : 3599 < m := by
        by_cases g : 3599 < m
        · exact g
        · rw [(okM_iff m).2 ⟨by omega, by omega⟩] at hv; cases hv
      clear hv
      go_enter Tryd.func8, Tryd.ntmps8
      go_wp2
      refine bodyPost_ret (v := .tuple #[.agg #[.int .i64 0, .int .i64 0], .int .i64 3]) (by simp [results, Tryd.results8, go_sem]) rfl ⟨rfl, ?_⟩
      exact al (Below.refl _ _) _
  · obtain ⟨m0, m1⟩ := (okM_iff m).1 hv
    have hfr := from_r hv
    have hfb := from_bd hv
    have hdb := days_bd hv
    have hdd : daysR m = dim (1900 + m / 12) (m % 12 + 1) := by unfold daysR; rw [hv, if_pos rfl]
    unfold rangeR at h
    rw [hv, if_pos rfl] at h
    obtain ⟨g, hg⟩ : ∃ g, daysR m = g := ⟨_, rfl⟩
    obtain ⟨p, hp⟩ : ∃ p, fromM m = p := ⟨_, rfl⟩
    rw [hg, hp] at h
    rw [hp] at hfr hfb
    rw [hg] at hfb hdb hdd
    cases h
    obtain ⟨Q, hQ⟩ : ∃ Q, m / 12 = Q := ⟨_, rfl⟩
    obtain ⟨R, hR⟩ : ∃ R, m % 12 = R := ⟨_, rfl⟩
    obtain ⟨Y, hY⟩ : ∃ Y, 1900 + Q = Y := ⟨_, rfl⟩
    obtain ⟨Z, hZ⟩ : ∃ Z, R + 1 = Z := ⟨_, rfl⟩
    rw [hQ, hR, hY, hZ] at hfr hdd
    have Q0 : 0 ≤ Q := by omega
    have Q1 : Q ≤ 300 := by omega
    have R0 : 0 ≤ R := by omega
    have R1 : R ≤ 11 := by omega
    have f1 : m.tdiv 12 = Q := by rw [tdiv_of m0]; exact hQ
    have f2 : m.tmod 12 = R := by rw [tmod_of m0]; exact hR
    have f3 : wrap64 Q = Q := IntWalk.wrap64_in Q ⟨by omega, by omega⟩
    have f4 : IntKind.i64.wrap Q = Q := i64_in (by omega) (by omega)
    have f5 : m / 12 = Q := hQ
    have f6 : m % 12 = R := hR
    have HG := Lib.hid hdd.symm
    have HF := Lib.hid hfr
    obtain ⟨p0, p1⟩ := hfb
    obtain ⟨g0, g1⟩ := hdb
    clear hv hg hp hfr hQ hR hdd
    go_enter Tryd.func8, Tryd.ntmps8
    go_wp2_with (first
      | (go_at_call 23; (with_reducible refine (cal.mFromYMD_is Y Z 1 a 0 _ ?_ HF.out).mono ?_); (exact hc.below (al (Below.refl _ _) _)); rintro e w' ⟨rfl, rfl⟩)
      | (go_at_call 24; (with_reducible refine (cal.mDaysInMonth_is Y Z g _ ?_ HG.out).mono ?_); (exact hc.below (al (Below.refl _ _) _)); rintro e w' ⟨rfl, rfl⟩)
      | fail)
    refine bodyPost_ret (v := .tuple #[.agg #[.int .i64 a, .int .i64 (a + g)], .int .i64 0]) (by simp [results, Tryd.results8, go_sem]) rfl ⟨rfl, ?_⟩
    exact al (Below.refl _ _) _

set_option maxRecDepth 4000 in
set_option maxHeartbeats 1000000 in
theorem mDays_is (m c : Int) (w : World) (he : Env w) (h : daysR m = c) : Calls Tryd.prog 12 #[.int .i64 m] w (GivesI w c) := by
  obtain ⟨⟨⟨a, b⟩, e0⟩, hr⟩ : ∃ r, rangeR m = r := ⟨_, rfl⟩
  have hq : b - a = c ∧ 0 ≤ a ∧ a ≤ 109573 ∧ 0 ≤ b ∧ b ≤ 109573 := by
    unfold rangeR at hr
    cases hv : okM m
    · rw [hv, if_neg (by decide)] at hr
      cases hr
      have : daysR m = 0 := by unfold daysR; rw [hv]; rfl
      omega
    · have hfb := from_bd hv
      have hdb := days_bd hv
      rw [hv, if_pos rfl] at hr
      cases hr
      omega
  obtain ⟨hq, a0, a1, b0, b1⟩ := hq
  have HR := Lib.hid hr
  clear hr h
  go_enter Tryd.func12, Tryd.ntmps12
  go_wp2_with (go_at_call 8; refine (mRange_is m a b e0 _ he HR.out).mono ?_; rintro e w1 ⟨rfl, hb1⟩)
  go_ret
  exact ⟨ret_int (by omega), al hb1 _⟩

set_option maxRecDepth 4000 in
set_option maxHeartbeats 2000000 in
theorem mOver_is (m x y c : Int) (w : World) (he : Env w) (h : overR m x y = c) : Calls Tryd.prog 14 #[.int .i64 m, .agg #[.int .i64 x, .int .i64 y]] w (GivesI w c) := by
  obtain ⟨⟨⟨a, b⟩, e0⟩, hr⟩ : ∃ r, rangeR m = r := ⟨_, rfl⟩
  obtain ⟨⟨⟨p, q⟩, t⟩, hi⟩ : ∃ r, interR (a, b) (x, y) = r := ⟨_, rfl⟩
  have hq : q - p = c ∧ 0 ≤ p ∧ p ≤ 109573 ∧ 0 ≤ q ∧ q ≤ 109573 := by
    unfold rangeR at hr
    unfold overR at h
    cases hv : okM m
    · rw [hv, if_neg (by decide)] at hr
      cases hr
      rw [hv] at h
      rw [rng.inter_ne, if_neg (by simp [rng.neR])] at hi
      cases hi
      rw [Bool.false_and, if_neg (by decide)] at h
      omega
    · have hfb := from_bd hv
      have hdb := days_bd hv
      rw [hv, if_pos rfl] at hr
      cases hr
      rw [hv, Bool.true_and] at h
      rw [rng.inter_ne] at hi
      by_cases ho : okR (x, y) = true
      · rw [if_pos ho] at h
        have ho' : 0 ≤ x ∧ x ≤ y ∧ y ≤ 109573 := by simpa [okR] using ho
        split at hi
        · cases hi
          rename_i hh
          have h3 := (rng.ne_iff _).1 hh.2.2
          simp only at h3
          omega
        · cases hi
          rename_i hh
          have : ¬ (max (fromM m) x < min (fromM m + daysR m) y) := by
            intro hlt
            apply hh
            refine ⟨(rng.ne_iff _).2 ?_, (rng.ne_iff _).2 ?_, (rng.ne_iff _).2 ?_⟩ <;> simp only <;> omega
          omega
      · rw [if_neg ho] at h
        rw [if_neg (by
          intro hh
          apply ho
          have h2 := (rng.ne_iff _).1 hh.2.1
          simp only at h2
          simp [okR]; omega)] at hi
        cases hi
        omega
  obtain ⟨hq, p0, p1, q0, q1⟩ := hq
  have HR := Lib.hid hr
  have HI := Lib.hid hi
  clear hr h hi
  go_enter Tryd.func14, Tryd.ntmps14
  go_wp2_with (first
    | (go_at_call 8; refine (mRange_is m a b e0 _ ?_ HR.out).mono ?_; (exact he.below (al (Below.refl _ _) _)); rintro e w1 ⟨rfl, hb1⟩; obtain ⟨hc1, hf1⟩ := bcell hb1; have hz1 := hb1.size; simp at hz1; have s0 : w.heap.size < w1.heap.size := (by omega); have B1 := Lib.hid (tr (al (Below.refl _ _) _) hb1))
    | (go_at_call 30; refine (rng.Intersect_is a b x y p q t _ trivial HI.out).mono ?_; rintro e w2 ⟨rfl, hb2⟩)
    | fail)
  go_ret
  exact ⟨ret_int (by omega), al (tr (al B1.out _) hb2) _⟩
end Go.Proofs.YtmmohbmgodiilaaDoor.mon
