/-
  The landed functions of package workday on one day: Valid, works, IsWorkday. The walks.
-/
import Derived.Test.YtmmohbmgodiilaaDoorQWdMineA
import Derived.Test.YtmmohbmgodiilaaDoorQWdSearch
namespace Go.Proofs.YtmmohbmgodiilaaDoor.wd
open Go Go.RowKit Go.Proofs.YtmmohbmgodiilaaDoor.money Go.Proofs.YtmmohbmgodiilaaDoor.ints Go.Proofs.YtmmohbmgodiilaaDoor.rng
set_option linter.unusedVariables false
set_option linter.unusedSimpArgs false

theorem cal_parts {wk : Int} {hs : List Int} (h : calR wk hs = true) : 0 ≤ wk ∧ wk ≤ 126 ∧ hs.length ≤ 64 ∧ upR (-1) hs = true := by
  unfold calR at h
  simp only [Bool.and_eq_true, decide_eq_true_eq] at h
  exact ⟨h.1.1.1, h.1.1.2, h.1.2, h.2⟩
theorem wd_of {wk : Int} {hs : List Int} {d : Int} (hc : calR wk hs = true) (hd : dayR d = true) : wdR wk hs d = (!weR wk d && !hs.contains d) := by
  unfold wdR weR
  rw [hc, hd, Bool.true_and, Bool.true_and]
  by_cases g : bitR wk (d % 7).toNat % 2 = 0
  · simp [g]
  · simp [g]

set_option maxHeartbeats 2000000 in
theorem works_is (wk : Int) (hv : Value) (hs : List Int) (d : Int) (c : Bool) (w : World) (hi : Ints w hv hs) (hc : calR wk hs = true) (hd : dayR d = true) (h : wdR wk hs d = c) :
    Calls Tryd.prog 51 #[.agg #[.int .i64 wk, hv], .int .i64 d] w (GivesB w c) := by
  obtain ⟨A, cp, rfl⟩ := hi.form0
  obtain ⟨n, hn⟩ : ∃ n, hs.length = n := ⟨_, rfl⟩
  rw [hn] at hi ⊢
  obtain ⟨w0, w1, n64, hu⟩ := cal_parts hc
  rw [hn] at n64
  have HI := Lib.hid hi
  have HN := Lib.hid hn
  have HU := Lib.hid hu
  have HD := Lib.hid hd
  rw [wd_of hc hd] at h
  obtain ⟨a, ha⟩ : ∃ a, weR wk d = a := ⟨_, rfl⟩
  obtain ⟨b, hb⟩ : ∃ b, hs.contains d = b := ⟨_, rfl⟩
  have HA := Lib.hid ha
  have HB := Lib.hid hb
  rw [ha, hb] at h
  have H := Lib.hid h
  clear hi hn hu hd hc ha hb h
  cases a
  · go_enter Tryd.func51, Tryd.ntmps51
    go_wp2_with (first
      | (go_at_call 58; refine (weekend_is wk _ d _ _ w0 w1 HD.out HA.out).mono ?_; rintro e w1 ⟨rfl, hb1⟩; have k1 := kept hb1 (b := w.heap.size) (o := 1) (v := .slice A n cp) (by simp [go_sem]); have B1 := Lib.hid (tr (al (Below.refl _ _) _) hb1); clear hb1)
      | (go_at_call 59; refine (search_is A n cp hs d b _ HN.out (HI.out.below B1.out) HU.out n64 HB.out).mono ?_; rintro e w2 ⟨p, rfl, hb2⟩)
      | fail)
    go_ret
    exact ⟨ref_bool (by rw [← H.out]; simp), tr B1.out hb2⟩
  · go_enter Tryd.func51, Tryd.ntmps51
    go_wp2_with (first
      | (go_at_call 58; refine (weekend_is wk _ d _ _ w0 w1 HD.out HA.out).mono ?_; rintro e w1 ⟨rfl, hb1⟩; have B1 := Lib.hid (tr (al (Below.refl _ _) _) hb1); clear hb1)
      | fail)
    go_ret
    exact ⟨ref_bool (by rw [← H.out]; simp), B1.out⟩

set_option maxHeartbeats 2000000 in
theorem mCal_is (wk : Int) (hv : Value) (hs : List Int) (c : Bool) (w : World) (hi : Ints w hv hs) (h : calR wk hs = c) : Calls Tryd.prog 32 #[.agg #[.int .i64 wk, hv]] w (GivesB w c) := by
  obtain ⟨A, cp, rfl⟩ := hi.form0
  obtain ⟨n, hn⟩ : ∃ n, hs.length = n := ⟨_, rfl⟩
  have HI := Lib.hid hi
  have HN := Lib.hid hn
  unfold calR at h
  rw [hn] at h ⊢
  by_cases h0 : wk < 0
  · have H := Lib.hid (show false = c by rw [← h, decide_eq_false (by omega : ¬ 0 ≤ wk)]; rfl)
    clear h hi hn
    go_enter Tryd.func32, Tryd.ntmps32
    go_wp2
    go_ret
    exact ⟨ref_bool H.out, box_below _ _ _ 0⟩
  · by_cases h1 : 126 < wk
    · have H := Lib.hid (show false = c by rw [← h, decide_eq_false (by omega : ¬ wk ≤ 126)]; simp)
      clear h hi hn
      go_enter Tryd.func32, Tryd.ntmps32
      go_wp2
      go_ret
      exact ⟨ref_bool H.out, box_below _ _ _ 0⟩
    · by_cases h2 : (64 : Int) < n
      · have H := Lib.hid (show false = c by rw [← h, decide_eq_false (by omega : ¬ n ≤ 64)]; simp)
        have h3 : 64 < n := by omega
        clear h hi hn
        go_enter Tryd.func32, Tryd.ntmps32
        go_wp2
        go_ret
        exact ⟨ref_bool H.out, box_below _ _ _ 0⟩
      · have h3 : ¬ 64 < n := by omega
        rw [decide_eq_true (by omega : 0 ≤ wk), decide_eq_true (by omega : wk ≤ 126), decide_eq_true (by omega : n ≤ 64), Bool.and_self, Bool.and_self, Bool.true_and] at h
        have H := Lib.hid h
        clear h hi hn
        go_enter Tryd.func32, Tryd.ntmps32
        go_wp2
        have b0 := box_below w wk (.slice A n cp) 0
        have hz : w.heap.size < (boxed w wk (.slice A n cp)).heap.size := by simp
        generalize hW : w.alloc (.cells #[.int .i64 wk, .slice A n cp] 33) = W0
        rw [show (boxed w wk (.slice A n cp)).drewN 0 = W0 from hW] at b0
        rw [show boxed w wk (.slice A n cp) = W0 from hW] at hz
        have HB := Lib.hid b0
        clear b0 hW
        go_loopw [3, 23] (fun l i wr => ∃ (k m : Nat) (p : Int), k ≤ n ∧ i = .int .i64 k ∧ l = .int .i64 p ∧ wr = W0.drewN m ∧ -1 ≤ p ∧ upR p (hs.drop k) = c) (fun _ i _ => n - (intOf i).toNat)
        case atStart => exact ⟨0, 0, -1, Nat.zero_le _, rfl, rfl, rfl, by omega, by simpa using H.out⟩
        case round =>
          obtain ⟨k, m, p, hk, rfl, rfl, rfl, hp, hu⟩ := hrel
          by_cases hlt : k < n
          · obtain ⟨g, off, cp', hv', hg, hc⟩ := HI.out.form (by have := HN.out; omega)
            simp only [Value.slice.injEq] at hv'
            obtain ⟨rfl, -, -⟩ := hv'
            obtain ⟨x, hx⟩ : ∃ x, hs[k]? = some x := ⟨_, List.getElem?_eq_getElem (by have := HN.out; omega)⟩
            have c0 : W0.cell? ⟨g, off + k, none⟩ = some (.int .i64 x) := by
              rw [HB.out.cell (p := ⟨g, off + k, none⟩) hg]; exact hc k x hx
            rw [drop_at hx, upR] at hu
            obtain ⟨dx, hdx⟩ : ∃ b, dayR x = b := ⟨_, rfl⟩
            have HD := Lib.hid hdx
            by_cases hpx : p < x
            · cases dx
              · have HO := Lib.hid (show false = c by
                  rw [← hu, decide_eq_false (show ¬ x ≤ 109572 from fun g => by
                    have : dayR x = true := by rw [day_iff]; omega
                    rw [hdx] at this; cases this)]; simp)
                clear hu hx hdx hc
                go_wp2_with (first | (go_at_call 50; refine (mDay_is x _ _ HD.out).mono ?_; rintro e w' ⟨rfl, rfl⟩) | fail)
                go_ret
                exact ⟨ref_bool HO.out, below_drewN HB.out _⟩
              · have hd2 := (day_iff x).1 hdx
                rw [decide_eq_true hpx, decide_eq_true (by omega : x ≤ 109572), Bool.and_self, Bool.true_and] at hu
                have HU := Lib.hid hu
                obtain ⟨x0, x1⟩ := hd2
                clear hu hx hdx hc
                go_wp2_with (first | (go_at_call 50; refine (mDay_is x _ _ HD.out).mono ?_; rintro e w' ⟨rfl, rfl⟩) | fail)
                go_roundw
                case rel => exact ⟨k + 1, _, x, by omega, by go_num, rfl, rfl, by omega, HU.out⟩
                case measure => simp [intOf]; omega
            · have HO := Lib.hid (show false = c by rw [← hu, decide_eq_false hpx]; simp)
              clear hu hx hdx hc
              go_wp2_with (first | (go_at_call 50; refine (mDay_is x _ _ HD.out).mono ?_; rintro e w' ⟨rfl, rfl⟩) | fail)
              go_ret
              exact ⟨ref_bool HO.out, below_drewN HB.out _⟩
          · obtain rfl : k = n := by omega
            rw [List.drop_of_length_le (by have := HN.out; omega), upR] at hu
            have HU := Lib.hid hu
            clear hu
            go_wp2
            go_ret
            exact ⟨ref_bool HU.out, below_drewN HB.out _⟩

set_option maxHeartbeats 1000000 in
theorem mWd_is (wk : Int) (hv : Value) (hs : List Int) (d : Int) (c : Bool) (w : World) (hi : Ints w hv hs) (h : wdR wk hs d = c) : Calls Tryd.prog 33 #[.agg #[.int .i64 wk, hv], .int .i64 d] w (GivesB w c) := by
  obtain ⟨A, cp, rfl⟩ := hi.form0
  obtain ⟨n, hn⟩ : ∃ n, hs.length = n := ⟨_, rfl⟩
  rw [hn] at hi ⊢
  have HI := Lib.hid hi
  obtain ⟨a, ha⟩ : ∃ a, calR wk hs = a := ⟨_, rfl⟩
  obtain ⟨b, hb⟩ : ∃ b, dayR d = b := ⟨_, rfl⟩
  have HA := Lib.hid ha
  have HD := Lib.hid hb
  have H := Lib.hid h
  unfold wdR at h
  rw [ha, hb] at h
  cases a
  · have HF := Lib.hid (show false = c by rw [← h]; rfl)
    clear h hi hn ha hb
    go_enter Tryd.func33, Tryd.ntmps33
    go_wp2_with (go_at_call 32; refine (mCal_is wk _ hs false _ ?_ HA.out).mono ?_; (exact HI.out.below (al (Below.refl _ _) _)); rintro e w1 ⟨rfl, hb1⟩)
    go_ret
    exact ⟨ref_bool HF.out, tr (al (Below.refl _ _) _) hb1⟩
  · cases b
    · have HF := Lib.hid (show false = c by rw [← h]; rfl)
      clear h hi hn ha hb
      go_enter Tryd.func33, Tryd.ntmps33
      go_wp2_with (first
        | (go_at_call 32; refine (mCal_is wk _ hs true _ ?_ HA.out).mono ?_; (exact HI.out.below (al (Below.refl _ _) _)); rintro e w1 ⟨rfl, hb1⟩)
        | (go_at_call 50; refine (mDay_is d false _ HD.out).mono ?_; rintro e w2 ⟨rfl, rfl⟩)
        | fail)
      go_ret
      exact ⟨ref_bool HF.out, tr (al (Below.refl _ _) _) hb1⟩
    · clear h hi hn ha hb
      go_enter Tryd.func33, Tryd.ntmps33
      go_wp2_with (first
        | (go_at_call 32; refine (mCal_is wk _ hs true _ ?_ HA.out).mono ?_; (exact HI.out.below (al (Below.refl _ _) _)); rintro e w1 ⟨rfl, hb1⟩; have k0 := kept hb1 (b := w.heap.size) (o := 0) (v := .int .i64 wk) (by simp [go_sem]); have k1 := kept hb1 (b := w.heap.size) (o := 1) (v := .slice A n cp) (by simp [go_sem]); have B1 := Lib.hid (tr (al (Below.refl _ _) _) hb1); clear hb1)
        | (go_at_call 50; refine (mDay_is d true _ HD.out).mono ?_; rintro e w2 ⟨rfl, rfl⟩)
        | (go_at_call 51; refine (works_is wk _ hs d c _ (HI.out.below B1.out) HA.out HD.out H.out).mono ?_; rintro e w3 ⟨rfl, hb3⟩)
        | fail)
      go_ret
      exact ⟨rfl, tr B1.out hb3⟩
end Go.Proofs.YtmmohbmgodiilaaDoor.wd
