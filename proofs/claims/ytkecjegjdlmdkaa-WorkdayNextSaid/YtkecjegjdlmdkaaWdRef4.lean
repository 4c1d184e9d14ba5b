/-
  What the reference of chapter 6 answers: Count. The walk.
-/
import Derived.Test.YtkecjegjdlmdkaaWdRef3
namespace Go.Proofs.Ytkecjegjdlmdkaa.wd
open Go Go.RowKit Go.Proofs.Ytkecjegjdlmdkaa.money Go.Proofs.Ytkecjegjdlmdkaa.ints Go.Proofs.Ytkecjegjdlmdkaa.rng
set_option linter.unusedVariables false
set_option linter.unusedSimpArgs false

/-- a call's answer that is one number -/
def GivesI (w : World) (n : Int) (e : Ending) (w' : World) : Prop := e = .returned (.int .i64 n) ∧ Below w.heap.size w w'

set_option maxHeartbeats 2000000 in
theorem rCount_is (wk : Int) (hv : Value) (hs : List Int) (a0 a1 c : Int) (w : World) (hi : Ints w hv hs) (h : cntR wk hs a0 a1 = c) :
    Calls Try.prog 18 #[.agg #[.int .i64 wk, hv], .agg #[.int .i64 a0, .int .i64 a1]] w (GivesI w c) := by
  obtain ⟨A, cp, rfl⟩ := hi.form0
  obtain ⟨ln, hn⟩ : ∃ n, hs.length = n := ⟨_, rfl⟩
  rw [hn] at hi ⊢
  have HI := Lib.hid hi
  unfold cntR at h
  obtain ⟨a, ha⟩ : ∃ a, calR wk hs = a := ⟨_, rfl⟩
  obtain ⟨b, hb⟩ : ∃ b, spanR a0 a1 = b := ⟨_, rfl⟩
  have HA := Lib.hid ha
  have HS := Lib.hid (show okR (a0, a1) = b by rw [← hb]; rfl)
  rw [ha, hb] at h
  cases a
  · have H := Lib.hid (show 0 = c by rw [← h]; rfl)
    clear hi hn ha hb h
    go_enter Try.func18, Try.ntmps18
    go_wp2_with (go_at_call 12; refine (rCal_is wk _ hs false _ ?_ HA.out).mono ?_; (exact HI.out.below (al (al (Below.refl _ _) _) _)); rintro e w1 ⟨rfl, hb1⟩)
    go_ret
    exact ⟨ret_int H.out, tr (al (al (Below.refl _ _) _) _) hb1⟩
  · cases b
    · have H := Lib.hid (show 0 = c by rw [← h]; rfl)
      clear hi hn ha hb h
      go_enter Try.func18, Try.ntmps18
      go_wp2_with (first
        | (go_at_call 12; refine (rCal_is wk _ hs true _ ?_ HA.out).mono ?_; (exact HI.out.below (al (al (Below.refl _ _) _) _)); rintro e w1 ⟨rfl, hb1⟩; have k2 := kept hb1 (b := w.heap.size + 1) (o := 0) (v := .int .i64 a0) (by simp [go_sem]); have k3 := kept hb1 (b := w.heap.size + 1) (o := 1) (v := .int .i64 a1) (by simp [go_sem]))
        | (go_at_call 27; refine (rValid_is a0 a1 false _ HS.out).mono ?_; rintro e w2 ⟨rfl, hb2⟩)
        | fail)
      go_ret
      exact ⟨ret_int H.out, tr (tr (al (al (Below.refl _ _) _) _) hb1) hb2⟩
    · rw [Bool.and_self, if_pos rfl] at h
      have H := Lib.hid h
      have hab : 0 ≤ a0 ∧ a0 ≤ a1 ∧ a1 ≤ 109573 := by
        unfold spanR at hb; simp only [Bool.and_eq_true, decide_eq_true_eq] at hb; exact hb
      obtain ⟨p0, p1, p2⟩ := hab
      have hcb := cnt_bounds wk hs (a1 - a0).toNat a0
      rw [h] at hcb
      have hcb2 : c ≤ 109573 := by omega
      have hcb0 := hcb.1
      clear hi hn ha hb h hcb
      go_enter Try.func18, Try.ntmps18
      go_wp2_with (first
        | (go_at_call 12; refine (rCal_is wk _ hs true _ ?_ HA.out).mono ?_; (exact HI.out.below (al (al (Below.refl _ _) _) _)); rintro e w1 ⟨rfl, hb1⟩; have k0 := kept hb1 (b := w.heap.size) (o := 0) (v := .int .i64 wk) (by simp [go_sem]); have k1 := kept hb1 (b := w.heap.size) (o := 1) (v := .slice A ln cp) (by simp [go_sem]); have k2 := kept hb1 (b := w.heap.size + 1) (o := 0) (v := .int .i64 a0) (by simp [go_sem]); have k3 := kept hb1 (b := w.heap.size + 1) (o := 1) (v := .int .i64 a1) (by simp [go_sem]); have B1 := Lib.hid (tr (al (al (Below.refl _ _) _) _) hb1); clear hb1)
        | (go_at_call 27; refine (rValid_is a0 a1 true _ HS.out).mono ?_; rintro e w2 ⟨rfl, hb2⟩; replace k0 := kept hb2 k0; replace k1 := kept hb2 k1; replace k2 := kept hb2 k2; replace k3 := kept hb2 k3; have B1 := Lib.hid (tr B1.out hb2); clear hb2)
        | fail)
      go_loopw [5, 6] (fun m i wr => ∃ y z : Int, i = .int .i64 y ∧ m = .int .i64 z ∧ a0 ≤ y ∧ y ≤ a1 ∧ 0 ≤ z ∧ z + cntFrom wk hs (a1 - y).toNat y = c ∧ Below w2.heap.size w2 wr) (fun _ i _ => (a1 - intOf i).toNat)
      case atStart => exact ⟨a0, 0, rfl, rfl, Int.le_refl _, p1, Int.le_refl _, by rw [Int.zero_add]; exact H.out, Below.refl _ _⟩
      case round =>
        obtain ⟨y, z, rfl, rfl, y0, y1, z0, hy, hbr⟩ := hrel
        have m0 := kept hbr k0
        have m1 := kept hbr k1
        have m2 := kept hbr k2
        have m3 := kept hbr k3
        have HBR := Lib.hid hbr
        clear hbr
        by_cases hlt : y < a1
        · have hcb := (cnt_bounds wk hs (a1 - y).toNat y).1
          have z1 : z ≤ 109573 := by omega
          rw [show (a1 - y).toNat = (a1 - (y + 1)).toNat + 1 by omega, cntFrom] at hy
          obtain ⟨q, hq⟩ : ∃ q, wdR wk hs y = q := ⟨_, rfl⟩
          have HQ := Lib.hid hq
          rw [hq] at hy
          clear hq hcb
          cases q
          · have HY := Lib.hid (show z + cntFrom wk hs (a1 - (y + 1)).toNat (y + 1) = c by rw [← hy]; simp)
            clear hy
            go_wp2_with (go_at_call 14; refine (rWd_is wk _ hs y false _ ?_ HQ.out).mono ?_; (exact HI.out.below (tr B1.out HBR.out)); rintro e w3 ⟨rfl, hb3⟩)
            go_roundw
            case rel => exact ⟨y + 1, z, by go_num, rfl, by omega, by omega, z0, HY.out, tr HBR.out hb3⟩
            case measure => simp [intOf]; omega
          · have HY := Lib.hid (show (z + 1) + cntFrom wk hs (a1 - (y + 1)).toNat (y + 1) = c by rw [← hy, if_pos rfl]; omega)
            clear hy
            go_wp2_with (go_at_call 14; refine (rWd_is wk _ hs y true _ ?_ HQ.out).mono ?_; (exact HI.out.below (tr B1.out HBR.out)); rintro e w3 ⟨rfl, hb3⟩)
            go_roundw
            case rel => exact ⟨y + 1, z + 1, by go_num, by go_num, by omega, by omega, by omega, HY.out, tr HBR.out hb3⟩
            case measure => simp [intOf]; omega
        · obtain rfl : y = a1 := by omega
          rw [Int.sub_self, show (0 : Int).toNat = 0 from rfl, cntFrom, Int.add_zero] at hy
          have HY := Lib.hid hy
          clear hy
          go_wp2
          go_ret
          exact ⟨ret_int HY.out, tr B1.out HBR.out⟩
end Go.Proofs.Ytkecjegjdlmdkaa.wd
