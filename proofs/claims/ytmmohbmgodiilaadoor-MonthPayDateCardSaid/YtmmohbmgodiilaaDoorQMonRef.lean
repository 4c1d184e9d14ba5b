/-
  What the reference of chapter 7 answers: valid, FromDate, Days, Range, Overlap. The walks.
-/
import Derived.Test.YtmmohbmgodiilaaDoorPa
import Derived.Test.YtmmohbmgodiilaaDoorQCalFrom
import Derived.Test.YtmmohbmgodiilaaDoorQCalTo
import Derived.Test.YtmmohbmgodiilaaDoorQRngVal
namespace Go.Proofs.YtmmohbmgodiilaaDoor.mon
open Go Go.RowKit Go.Proofs.YtmmohbmgodiilaaDoor.money
open Go.Proofs.YtmmohbmgodiilaaDoor.cal (dby cum dim diy okD okD_iff Is kOf jOf dOf fromR toR)
open Go.Proofs.YtmmohbmgodiilaaDoor.rng (bcell ref_bool)
set_option linter.unusedVariables false
set_option linter.unusedSimpArgs false

def GivesB (w : World) (b : Bool) (e : Ending) (w' : World) : Prop := e = .returned (.bool b) ∧ Below w.heap.size w w'
def GivesI (w : World) (c : Int) (e : Ending) (w' : World) : Prop := e = .returned (.int .i64 c) ∧ Below w.heap.size w w'
def GivesRC (w : World) (a b c : Int) (e : Ending) (w' : World) : Prop := e = .returned (.tuple #[.agg #[.int .i64 a, .int .i64 b], .int .i64 c]) ∧ Below w.heap.size w w'

theorem rOk_is (n : Int) (b : Bool) (w : World) (h : okM n = b) : Calls Tryd.prog 25 #[.int .i64 n] w fun e w' => e = .returned (.bool b) ∧ w = w' := by
  have H := Lib.hid h
  clear h
  go_enter Tryd.func25, Tryd.ntmps25
  go_wp2
  all_goals go_ret
  all_goals refine ⟨ret_bool ?_, rfl⟩
  all_goals rw [← H.out]; unfold okM
  all_goals (first | (simp; done) | (simp_all; done) | (simp_all; omega))

set_option maxHeartbeats 1000000 in
theorem rFd_is (n c : Int) (w : World) (h : fdR n = c) : Calls Tryd.prog 11 #[.int .i64 n] w fun e w' => e = .returned (.int .i64 c) ∧ w = w' := by
  cases hv : okD n
  · rw [fd_out hv] at h
    subst h
    have ht : toR n = (0, 0, 0) := by unfold toR; rw [hv]; rfl
    have HT := Lib.hid ht
    clear hv ht
    go_enter Tryd.func11, Tryd.ntmps11
    go_wp2_with (go_at_call 28; refine (cal.rToYMD_is n 0 0 0 _ HT.out).mono ?_; rintro e w' ⟨rfl, rfl⟩)
    go_ret
    exact ⟨rfl, rfl⟩
  · have I := Is.of n hv
    have ht := I.to
    rw [fd_of I] at h
    obtain ⟨y, hy⟩ : ∃ y, 1900 + (kOf n : Int) = y := ⟨_, rfl⟩
    obtain ⟨m, hm⟩ : ∃ m, (jOf n : Int) + 1 = m := ⟨_, rfl⟩
    obtain ⟨d, hd⟩ : ∃ d, dOf n = d := ⟨_, rfl⟩
    rw [hy, hm, hd] at ht
    have k1 := I.k1
    have j1 := I.j1
    have y0 : 1900 ≤ y := by omega
    have y1 : y ≤ 2199 := by omega
    have m0 : 1 ≤ m := by omega
    have m1 : m ≤ 12 := by omega
    have mz : (m == 0) = false := by simp; omega
    have HT := Lib.hid ht
    have H := Lib.hid (And.intro h (And.intro hy hm))
    clear hv ht h hy hm hd I k1 j1
    go_enter Tryd.func11, Tryd.ntmps11
    go_wp2_with (go_at_call 28; refine (cal.rToYMD_is n y m d _ HT.out).mono ?_; rintro e w' ⟨rfl, rfl⟩)
    go_ret
    exact ⟨ret_int (by obtain ⟨h1, h2, h3⟩ := H.out; omega), rfl⟩

set_option maxRecDepth 4000 in
set_option maxHeartbeats 1000000 in
theorem rDays_is (m c : Int) (w : World) (h : daysR m = c) : Calls Tryd.prog 13 #[.int .i64 m] w fun e w' => e = .returned (.int .i64 c) ∧ w = w' := by
  cases hv : okM m
  · obtain rfl : c = 0 := by rw [← h]; unfold daysR; rw [hv]; rfl
    have HV := Lib.hid hv
    clear hv h
    go_enter Tryd.func13, Tryd.ntmps13
    go_wp2_with (go_at_call 25; refine (rOk_is m false _ HV.out).mono ?_; rintro e w' ⟨rfl, rfl⟩)
    go_ret
    exact ⟨rfl, rfl⟩
  · obtain ⟨m0, m1⟩ := (okM_iff m).1 hv
    unfold daysR at h
    rw [hv, if_pos rfl] at h
    obtain ⟨Q, hQ⟩ : ∃ Q, m / 12 = Q := ⟨_, rfl⟩
    obtain ⟨R, hR⟩ : ∃ R, m % 12 = R := ⟨_, rfl⟩
    obtain ⟨Y, hY⟩ : ∃ Y, 1900 + Q = Y := ⟨_, rfl⟩
    obtain ⟨Z, hZ⟩ : ∃ Z, R + 1 = Z := ⟨_, rfl⟩
    rw [hQ, hR, hY, hZ] at h
    have Q0 : 0 ≤ Q := by omega
    have Q1 : Q ≤ 300 := by omega
    have R0 : 0 ≤ R := by omega
    have R1 : R ≤ 11 := by omega
    have f1 : m.tdiv 12 = Q := by rw [tdiv_of m0]; exact hQ
    have f2 : m.tmod 12 = R := by rw [tmod_of m0]; exact hR
    have f3 : wrap64 Q = Q := IntWalk.wrap64_in Q ⟨by omega, by omega⟩
    have f4 : IntKind.i64.wrap Q = Q := i64_in (by omega) (by omega)
    have f5 : m / 12 = Q := hQ
    have f6 : m % 12 = R := hR
    have HV := Lib.hid hv
    have H := Lib.hid h
    clear hv h hQ hR
    go_enter Tryd.func13, Tryd.ntmps13
    go_wp2_with (first
      | (go_at_call 25; refine (rOk_is m true _ HV.out).mono ?_; rintro e w' ⟨rfl, rfl⟩)
      | (go_at_call 29; (with_reducible refine (cal.rDaysInMonth_is Y Z c _ H.out).mono ?_); rintro e w' ⟨rfl, rfl⟩)
      | fail)
    go_ret
    exact ⟨rfl, rfl⟩

set_option maxRecDepth 4000 in
set_option maxHeartbeats 1000000 in
theorem rRange_is (m a b c : Int) (w : World) (h : rangeR m = ((a, b), c)) : Calls Tryd.prog 9 #[.int .i64 m] w (GivesRC w a b c) := by
  cases hv : okM m
  · unfold rangeR at h
    rw [hv, if_neg (by decide)] at h
    cases h
    have HV := Lib.hid hv
    clear hv
    go_enter Tryd.func9, Tryd.ntmps9
    go_wp2_with (go_at_call 25; refine (rOk_is m false _ HV.out).mono ?_; rintro e w' ⟨rfl, rfl⟩)
    refine bodyPost_ret (v := .tuple #[.agg #[.int .i64 0, .int .i64 0], .int .i64 3]) (by simp [results, Tryd.results9, go_sem]) rfl ⟨rfl, ?_⟩
    exact al (Below.refl _ _) _
  · obtain ⟨m0, m1⟩ := (okM_iff m).1 hv
    have hfr := from_r hv
    have hfb := from_bd hv
    have hdb := days_bd hv
    unfold rangeR at h
    rw [hv, if_pos rfl] at h
    obtain ⟨g, hg⟩ : ∃ g, daysR m = g := ⟨_, rfl⟩
    obtain ⟨p, hp⟩ : ∃ p, fromM m = p := ⟨_, rfl⟩
    rw [hg, hp] at h
    rw [hp] at hfr hfb
    rw [hg] at hfb hdb
    cases h
    obtain ⟨Q, hQ⟩ : ∃ Q, m / 12 = Q := ⟨_, rfl⟩
    obtain ⟨R, hR⟩ : ∃ R, m % 12 = R := ⟨_, rfl⟩
    obtain ⟨Y, hY⟩ : ∃ Y, 1900 + Q = Y := ⟨_, rfl⟩
    obtain ⟨Z, hZ⟩ : ∃ Z, R + 1 = Z := ⟨_, rfl⟩
    rw [hQ, hR, hY, hZ] at hfr
    have Q0 : 0 ≤ Q := by omega
    have Q1 : Q ≤ 300 := by omega
    have R0 : 0 ≤ R := by omega
    have R1 : R ≤ 11 := by omega
    have f1 : m.tdiv 12 = Q := by rw [tdiv_of m0]; exact hQ
    have f2 : m.tmod 12 = R := by rw [tmod_of m0]; exact hR
    have f3 : wrap64 Q = Q := IntWalk.wrap64_in Q ⟨by omega, by omega⟩
    have f4 : IntKind.i64.wrap Q = Q := i64_in (by omega) (by omega)
    have f5 : m / 12 = Q := hQ
    have f6 : m % 12 = R := hR
    have HV := Lib.hid hv
    have HG := Lib.hid hg
    have HF := Lib.hid hfr
    obtain ⟨p0, p1⟩ := hfb
    obtain ⟨g0, g1⟩ := hdb
    clear hv hg hp hfr hQ hR
    go_enter Tryd.func9, Tryd.ntmps9
    go_wp2_with (first
      | (go_at_call 25; refine (rOk_is m true _ HV.out).mono ?_; rintro e w' ⟨rfl, rfl⟩)
      | (go_at_call 26; (with_reducible refine (cal.rFromYMD_is Y Z 1 a 0 _ HF.out).mono ?_); rintro e w' ⟨rfl, rfl⟩)
      | (go_at_call 13; refine (rDays_is m g _ HG.out).mono ?_; rintro e w' ⟨rfl, rfl⟩)
      | fail)
    refine bodyPost_ret (v := .tuple #[.agg #[.int .i64 a, .int .i64 (a + g)], .int .i64 0]) (by simp [results, Tryd.results9, go_sem]) rfl ⟨rfl, ?_⟩
    exact al (Below.refl _ _) _
end Go.Proofs.YtmmohbmgodiilaaDoor.mon
