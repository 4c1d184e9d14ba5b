/-
  The landed Count walked.
-/
import Derived.Test.YtkecjegjdlmdkaaWdCnt
import Derived.Test.YtkecjegjdlmdkaaRngMineHas
namespace Go.Proofs.Ytkecjegjdlmdkaa.wd
open Go Go.RowKit Go.Proofs.Ytkecjegjdlmdkaa.money Go.Proofs.Ytkecjegjdlmdkaa.ints Go.Proofs.Ytkecjegjdlmdkaa.rng
set_option linter.unusedVariables false
set_option linter.unusedSimpArgs false

set_option maxHeartbeats 2000000 in
theorem mCount_is (wk : Int) (hv : Value) (hs : List Int) (a0 a1 c : Int) (w : World) (hi : Ints w hv hs) (h : cntR wk hs a0 a1 = c) :
    Calls Try.prog 17 #[.agg #[.int .i64 wk, hv], .agg #[.int .i64 a0, .int .i64 a1]] w (GivesI w c) := by
  obtain ⟨A, cp, rfl⟩ := hi.form0
  obtain ⟨ln, hn⟩ : ∃ n, hs.length = n := ⟨_, rfl⟩
  rw [hn] at hi ⊢
  have HI := Lib.hid hi
  have HN := Lib.hid hn
  obtain ⟨a, ha⟩ : ∃ a, calR wk hs = a := ⟨_, rfl⟩
  obtain ⟨b, hb⟩ : ∃ b, spanR a0 a1 = b := ⟨_, rfl⟩
  have HA := Lib.hid ha
  have HS := Lib.hid (show okR (a0, a1) = b by rw [← hb]; rfl)
  cases a
  · have H := Lib.hid (show 0 = c by rw [← h]; unfold cntR; rw [ha]; rfl)
    clear hi hn ha hb h
    go_enter Try.func17, Try.ntmps17
    go_wp2_with (go_at_call 11; refine (mCal_is wk _ hs false _ ?_ HA.out).mono ?_; (exact HI.out.below (al (al (Below.refl _ _) _) _)); rintro e w1 ⟨rfl, hb1⟩)
    go_ret
    exact ⟨ret_int H.out, tr (al (al (Below.refl _ _) _) _) hb1⟩
  · cases b
    · have H := Lib.hid (show 0 = c by rw [← h]; unfold cntR; rw [hb, ha]; rfl)
      clear hi hn ha hb h
      go_enter Try.func17, Try.ntmps17
      go_wp2_with (first
        | (go_at_call 11; refine (mCal_is wk _ hs true _ ?_ HA.out).mono ?_; (exact HI.out.below (al (al (Below.refl _ _) _) _)); rintro e w1 ⟨rfl, hb1⟩; have k2 := kept hb1 (b := w.heap.size + 1) (o := 0) (v := .int .i64 a0) (by simp [go_sem]); have k3 := kept hb1 (b := w.heap.size + 1) (o := 1) (v := .int .i64 a1) (by simp [go_sem]))
        | (go_at_call 23; refine (Valid_is a0 a1 false _ trivial HS.out).mono ?_; rintro e w2 ⟨rfl, hb2⟩)
        | fail)
      go_ret
      exact ⟨ret_int H.out, tr (tr (al (al (Below.refl _ _) _) _) hb1) hb2⟩
    · rw [cntR_sum ha hb] at h
      have hab : 0 ≤ a0 ∧ a0 ≤ a1 ∧ a1 ≤ 109573 := by
        unfold spanR at hb; simp only [Bool.and_eq_true, decide_eq_true_eq] at hb; exact hb
      obtain ⟨p0, p1, p2⟩ := hab
      obtain ⟨v0, v1, n64, hu⟩ := cal_parts ha
      rw [hn] at n64
      have H := Lib.hid h
      have HU := Lib.hid hu
      clear hi hn ha hb h hu
      go_enter Try.func17, Try.ntmps17
      go_wp2_with (first
        | (go_at_call 11; refine (mCal_is wk _ hs true _ ?_ HA.out).mono ?_; (exact HI.out.below (al (al (Below.refl _ _) _) _)); rintro e w1 ⟨rfl, hb1⟩; have k0 := kept hb1 (b := w.heap.size) (o := 0) (v := .int .i64 wk) (by simp [go_sem]); have k1 := kept hb1 (b := w.heap.size) (o := 1) (v := .slice A ln cp) (by simp [go_sem]); have k2 := kept hb1 (b := w.heap.size + 1) (o := 0) (v := .int .i64 a0) (by simp [go_sem]); have k3 := kept hb1 (b := w.heap.size + 1) (o := 1) (v := .int .i64 a1) (by simp [go_sem]); have B1 := Lib.hid (tr (al (al (Below.refl _ _) _) _) hb1); clear hb1)
        | (go_at_call 23; refine (Valid_is a0 a1 true _ trivial HS.out).mono ?_; rintro e w2 ⟨rfl, hb2⟩; replace k0 := kept hb2 k0; replace k1 := kept hb2 k1; replace k2 := kept hb2 k2; replace k3 := kept hb2 k3; have B1 := Lib.hid (tr B1.out hb2); clear hb2)
        | fail)
      go_loopw [5, 17] (fun l i wr => ∃ (k : Nat) (z : Int), k ≤ 7 ∧ i = .int .i64 k ∧ l = .int .i64 z ∧ sumR wk a0 a1 k = z ∧ Below w2.heap.size w2 wr) (fun _ i _ => 7 - (intOf i).toNat)
      case atStart => exact ⟨0, 0, by omega, rfl, rfl, rfl, Below.refl _ _⟩
      case round =>
        obtain ⟨k, z, hk, rfl, rfl, hz, hbr⟩ := hrel
        have m0 := kept hbr k0
        have m1 := kept hbr k1
        have m2 := kept hbr k2
        have m3 := kept hbr k3
        have HBR := Lib.hid hbr
        have HZ := Lib.hid hz
        obtain ⟨z0, z1⟩ := sum_bounds wk p0 p1 p2 k hk
        rw [hz] at z0 z1
        clear hbr hz
        by_cases hlt : k < 7
        · have HD := Lib.hid ((day_iff (k : Int)).2 ⟨by omega, by omega⟩)
          obtain ⟨q, hq⟩ : ∃ q, weR wk k = q := ⟨_, rfl⟩
          have HQ := Lib.hid hq
          obtain ⟨f1, hf1⟩ : ∃ f, befR a1 k = f := ⟨_, rfl⟩
          obtain ⟨f0, hf0⟩ : ∃ f, befR a0 k = f := ⟨_, rfl⟩
          have F1 := Lib.hid hf1
          have F0 := Lib.hid hf0
          have b1 : 0 ≤ f1 ∧ f1 ≤ 15654 := by unfold befR at hf1; omega
          have b0 : 0 ≤ f0 ∧ f0 ≤ 15654 := by unfold befR at hf0; omega
          have HN' := Lib.hid (show sumR wk a0 a1 (k + 1) = z + if q then 0 else f1 - f0 by rw [sumR, HZ.out, hq, hf1, hf0])
          clear hq hf1 hf0
          cases q
          · go_wp2_with (first | (go_at_call 24; refine (weekend_is wk _ k _ _ v0 v1 HD.out HQ.out).mono ?_; rintro e w3 ⟨rfl, hb3⟩; replace m0 := kept hb3 m0; replace m1 := kept hb3 m1; replace m2 := kept hb3 m2; replace m3 := kept hb3 m3; have B3 := Lib.hid (tr HBR.out hb3); clear hb3) | fail)
            go_quiet (first | (go_at_call 25; with_reducible exact quiet_more (before_is a1 k _ _ (by omega) (by omega) (by omega) (by omega) F1.out)) | (go_at_call 25; with_reducible exact quiet_eq (before_is a1 k _ _ (by omega) (by omega) (by omega) (by omega) F1.out)) | (go_at_call 25; with_reducible exact quiet_more (before_is a0 k _ _ (by omega) (by omega) (by omega) (by omega) F0.out)) | (go_at_call 25; with_reducible exact quiet_eq (before_is a0 k _ _ (by omega) (by omega) (by omega) (by omega) F0.out)))
            go_wp2
            go_roundw
            case rel => exact ⟨k + 1, z + (f1 - f0), by omega, by go_num, by go_num, by rw [HN'.out]; rfl, below_drewN B3.out _⟩
            case measure => simp [intOf]; omega
          · go_wp2_with (first | (go_at_call 24; refine (weekend_is wk _ k _ _ v0 v1 HD.out HQ.out).mono ?_; rintro e w3 ⟨rfl, hb3⟩) | fail)
            go_roundw
            case rel => exact ⟨k + 1, z, by omega, by go_num, rfl, by rw [HN'.out]; simp, tr HBR.out hb3⟩
            case measure => simp [intOf]; omega
        · obtain rfl : k = 7 := by omega
          have HZ7 := Lib.hid (show z - holR wk a0 a1 hs = c by rw [← HZ.out]; exact H.out)
          clear HZ
          rw [show ((7 : Nat) : Int) = 7 from rfl] at z1 ⊢
          go_wp2
          have HB := Lib.hid (tr B1.out HBR.out)
          clear HBR B1 k0 k1 k2 k3
          go_loopw [5, 39] (fun l i wx => ∃ (k : Nat) (y : Int), k ≤ ln ∧ i = .int .i64 k ∧ l = .int .i64 y ∧ y ≤ 109578 ∧ -(k : Int) ≤ y ∧ y - holR wk a0 a1 (hs.drop k) = c ∧ Below wr.heap.size wr wx) (fun _ i _ => ln - (intOf i).toNat)
          case atStart => exact ⟨0, z, Nat.zero_le _, rfl, rfl, by omega, by omega, by simpa using HZ7.out, Below.refl _ _⟩
          case round =>
            obtain ⟨k, y, hk, rfl, rfl, y1, y0, hy, hwr⟩ := hrel
            replace m0 := kept hwr m0
            replace m1 := kept hwr m1
            replace m2 := kept hwr m2
            replace m3 := kept hwr m3
            have HWR := Lib.hid hwr
            clear hwr
            by_cases hlt : k < ln
            · obtain ⟨g, off, cp', hv', hg, hc⟩ := (HI.out.below (tr HB.out HWR.out)).form (by have := HN.out; omega)
              simp only [Value.slice.injEq] at hv'
              obtain ⟨rfl, -, -⟩ := hv'
              obtain ⟨x, hx⟩ : ∃ x, hs[k]? = some x := ⟨_, List.getElem?_eq_getElem (by have := HN.out; omega)⟩
              have c0 := hc k x hx
              have hgt := up_gt HU.out hx
              have HX := Lib.hid ((day_iff x).2 ⟨by omega, hgt.2⟩)
              rw [drop_at hx, holR] at hy
              obtain ⟨t, ht⟩ : ∃ t, hasR (a0, a1) x = t := ⟨_, rfl⟩
              obtain ⟨e, he⟩ : ∃ e, weR wk x = e := ⟨_, rfl⟩
              have HT := Lib.hid ht
              have HE := Lib.hid he
              have HO := HS.out
              unfold hasR at ht
              rw [HO, Bool.true_and] at ht
              simp only at ht
              rw [he] at hy
              clear hc hx hgt HO he
              cases t
              · rw [if_neg (by rintro ⟨⟨q1, q2⟩, _⟩; rw [decide_eq_true q1, decide_eq_true q2] at ht; cases ht), Int.zero_add] at hy
                have HY := Lib.hid hy
                clear hy ht
                go_wp2_with (first | (go_at_call 26; refine (Contains_is a0 a1 x false _ trivial HT.out).mono ?_; rintro e w4 ⟨rfl, hb4⟩; replace m0 := kept hb4 m0; replace m1 := kept hb4 m1; have B4 := Lib.hid (tr HWR.out hb4); clear hb4) | fail)
                go_roundw
                case rel => exact ⟨k + 1, y, by omega, by go_num, rfl, y1, by omega, HY.out, B4.out⟩
                case measure => simp [intOf]; omega
              · simp only [Bool.and_eq_true, decide_eq_true_eq] at ht
                cases e
                · rw [if_pos ⟨ht, rfl⟩] at hy
                  have HY := Lib.hid (show y - 1 - holR wk a0 a1 (hs.drop (k + 1)) = c by omega)
                  clear hy ht
                  go_wp2_with (first | (go_at_call 26; refine (Contains_is a0 a1 x true _ trivial HT.out).mono ?_; rintro e w4 ⟨rfl, hb4⟩; replace m0 := kept hb4 m0; replace m1 := kept hb4 m1; have B4 := Lib.hid (tr HWR.out hb4); clear hb4) | (go_at_call 24; refine (weekend_is wk _ x _ _ v0 v1 HX.out HE.out).mono ?_; rintro e w5 ⟨rfl, hb5⟩) | fail)
                  go_roundw
                  case rel => exact ⟨k + 1, y - 1, by omega, by go_num, by go_num, by omega, by omega, HY.out, tr B4.out hb5⟩
                  case measure => simp [intOf]; omega
                · rw [if_neg (by simp), Int.zero_add] at hy
                  have HY := Lib.hid hy
                  clear hy ht
                  go_wp2_with (first | (go_at_call 26; refine (Contains_is a0 a1 x true _ trivial HT.out).mono ?_; rintro e w4 ⟨rfl, hb4⟩; replace m0 := kept hb4 m0; replace m1 := kept hb4 m1; have B4 := Lib.hid (tr HWR.out hb4); clear hb4) | (go_at_call 24; refine (weekend_is wk _ x _ _ v0 v1 HX.out HE.out).mono ?_; rintro e w5 ⟨rfl, hb5⟩) | fail)
                  go_roundw
                  case rel => exact ⟨k + 1, y, by omega, by go_num, rfl, y1, by omega, HY.out, tr B4.out hb5⟩
                  case measure => simp [intOf]; omega
            · obtain rfl : k = ln := by omega
              rw [List.drop_of_length_le (by have := HN.out; omega), holR, Int.sub_zero] at hy
              have HY := Lib.hid hy
              clear hy
              go_wp2
              go_ret
              exact ⟨ret_int HY.out, tr HB.out HWR.out⟩
end Go.Proofs.Ytkecjegjdlmdkaa.wd
