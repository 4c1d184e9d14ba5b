/-
  The law MonthPartition walked.
-/
import Derived.Test.YtmmohbmgodiilaaDoorQMonLaw1
import Derived.Deep.RegionHeld3
namespace Go.Proofs.YtmmohbmgodiilaaDoor.mon
open Go Go.RowKit Go.Proofs.YtmmohbmgodiilaaDoor.money Go.Proofs.YtmmohbmgodiilaaDoor.ints
open Go.Proofs.YtmmohbmgodiilaaDoor.txt (str_mk)
set_option linter.unusedVariables false
set_option linter.unusedSimpArgs false

theorem tm_out {m : Int} (h : okM m = false) : (⟨#[]⟩ : ByteArray).data.toList = textM m := by unfold textM; rw [h]; rfl

set_option maxRecDepth 4000 in
set_option maxHeartbeats 8000000 in
theorem part_neg_mneg (date m : Int) (w : World) (he : Env w) (hz : date < 0) (hm : m < 0) : Calls Tryd.prog 6 #[.int .i64 date, .int .i64 m] w (GivesB w true) := by
  have BB := Lib.hid (Below.refl w.heap.size w)
  have hko : fdR date = -1 := fd_out (by cases h : cal.okD date; rfl; exact absurd ((cal.okD_iff date).1 h) (by omega))
  have F1 := Lib.hid hko
  clear hko
  have m0 := hm
  have hmo : okM m = false := by cases h : okM m; rfl; exact absurd ((okM_iff m).1 h) (by omega)
  have G1 := Lib.hid (show rangeR m = ((0, 0), 3) by unfold rangeR; rw [hmo]; rfl)
  have G2 := Lib.hid (show daysR m = 0 by unfold daysR; rw [hmo]; rfl)
  have G3 := Lib.hid hmo
  clear hmo
  go_enter Tryd.func6, Tryd.ntmps6
  go_wp2_with (first
      | (go_at_call 10; (with_reducible refine (MFd_is date (-1) _ ?_ F1.out).mono ?_); (exact he.below BB.out); rintro e w1 ⟨rfl, hbn⟩; have BB := Lib.hid (tr BB.out hbn); clear hbn)
      | (go_at_call 8; (with_reducible refine (MRange_is m 0 0 3 _ ?_ G1.out).mono ?_); (exact he.below BB.out); rintro e w4 ⟨rfl, hbn⟩; have hbn := al hbn (.cells #[.int .i64 0, .int .i64 0] 23); have BB := Lib.hid (tr BB.out hbn); clear hbn)
      | (go_at_call 21; (with_reducible refine (MFormat_is m ⟨#[]⟩ _ ?_ (tm_out G3.out)).mono ?_); (exact he.below BB.out); rintro e w5 ⟨rfl, hbn⟩; have BB := Lib.hid (tr BB.out hbn); clear hbn)
      | (go_at_call 12; (with_reducible refine (MDays_is m 0 _ ?_ G2.out).mono ?_); (exact he.below BB.out); rintro e w6 ⟨rfl, hbn⟩; have BB := Lib.hid (tr BB.out hbn); clear hbn)
      | (go_at_call 16; (with_reducible refine (awake_is _ ?_).mono ?_); (exact he.below BB.out); rintro e wn ⟨rfl, hbn⟩; have BB := Lib.hid (tr BB.out hbn); clear hbn)
      | fail)
  go_ret
  exact ⟨rfl, BB.out⟩

set_option maxRecDepth 4000 in
set_option maxHeartbeats 8000000 in
theorem part_neg_mbig (date m : Int) (w : World) (he : Env w) (hz : date < 0) (hm : ¬ m < 0 ∧ 3599 < m) : Calls Tryd.prog 6 #[.int .i64 date, .int .i64 m] w (GivesB w true) := by
  have BB := Lib.hid (Below.refl w.heap.size w)
  have hko : fdR date = -1 := fd_out (by cases h : cal.okD date; rfl; exact absurd ((cal.okD_iff date).1 h) (by omega))
  have F1 := Lib.hid hko
  clear hko
  obtain ⟨m0, m1⟩ := hm
  have hmo : okM m = false := by cases h : okM m; rfl; exact absurd ((okM_iff m).1 h) (by omega)
  have G1 := Lib.hid (show rangeR m = ((0, 0), 3) by unfold rangeR; rw [hmo]; rfl)
  have G2 := Lib.hid (show daysR m = 0 by unfold daysR; rw [hmo]; rfl)
  have G3 := Lib.hid hmo
  clear hmo
  go_enter Tryd.func6, Tryd.ntmps6
  go_wp2_with (first
      | (go_at_call 10; (with_reducible refine (MFd_is date (-1) _ ?_ F1.out).mono ?_); (exact he.below BB.out); rintro e w1 ⟨rfl, hbn⟩; have BB := Lib.hid (tr BB.out hbn); clear hbn)
      | (go_at_call 8; (with_reducible refine (MRange_is m 0 0 3 _ ?_ G1.out).mono ?_); (exact he.below BB.out); rintro e w4 ⟨rfl, hbn⟩; have hbn := al hbn (.cells #[.int .i64 0, .int .i64 0] 23); have BB := Lib.hid (tr BB.out hbn); clear hbn)
      | (go_at_call 21; (with_reducible refine (MFormat_is m ⟨#[]⟩ _ ?_ (tm_out G3.out)).mono ?_); (exact he.below BB.out); rintro e w5 ⟨rfl, hbn⟩; have BB := Lib.hid (tr BB.out hbn); clear hbn)
      | (go_at_call 12; (with_reducible refine (MDays_is m 0 _ ?_ G2.out).mono ?_); (exact he.below BB.out); rintro e w6 ⟨rfl, hbn⟩; have BB := Lib.hid (tr BB.out hbn); clear hbn)
      | (go_at_call 16; (with_reducible refine (awake_is _ ?_).mono ?_); (exact he.below BB.out); rintro e wn ⟨rfl, hbn⟩; have BB := Lib.hid (tr BB.out hbn); clear hbn)
      | fail)
  go_ret
  exact ⟨rfl, BB.out⟩

set_option maxRecDepth 4000 in
set_option maxHeartbeats 8000000 in
theorem part_neg_mlast (date m : Int) (w : World) (he : Env w) (hz : date < 0) (hm : m = 3599) : Calls Tryd.prog 6 #[.int .i64 date, .int .i64 m] w (GivesB w true) := by
  have BB := Lib.hid (Below.refl w.heap.size w)
  have hko : fdR date = -1 := fd_out (by cases h : cal.okD date; rfl; exact absurd ((cal.okD_iff date).1 h) (by omega))
  have F1 := Lib.hid hko
  clear hko
  have hml := hm
  have hmo : okM m = true := (okM_iff m).2 ⟨by omega, by omega⟩
  have u1 := days_bd hmo
  have u2 := from_bd hmo
  obtain ⟨t, ht⟩ := str_mk (textM m)
  have u3 : parseM t.data.toList = (m, 0) := by rw [ht]; exact parse_tm hmo
  have u4 : t.size ≤ 9223372036854775807 := by rw [txt.str_size ht, tm_length hmo]; decide
  have u5 : rangeR m = ((fromM m, fromM m + daysR m), 0) := by unfold rangeR; rw [hmo, if_pos rfl]
  have u6 := (fd_in (x := fromM m) hmo (Int.le_refl _) (by omega)).1
  have u7 := (fd_in (x := fromM m + daysR m - 1) hmo (by omega) (by omega)).1
  have u8 : rangeR (m + 1) = ((0, 0), 3) := by unfold rangeR; rw [show okM (m + 1) = false by cases h : okM (m + 1); rfl; exact absurd ((okM_iff _).1 h) (by omega)]; rfl
  have u9 := from_last
  subst hml
  obtain ⟨d, hd⟩ : ∃ r, fromM 3599 = r := ⟨_, rfl⟩
  obtain ⟨x, hx⟩ : ∃ r, daysR 3599 = r := ⟨_, rfl⟩
  obtain ⟨y, hy⟩ : ∃ r, d + x = r := ⟨_, rfl⟩
  rw [hd, hx, hy] at u5 u2 u7
  rw [hd] at u6
  rw [hx] at u1
  rw [hd, hx, hy] at u9
  subst u9
  rw [show (109573 : Int) - 1 = 109572 from rfl] at u7
  rw [show (3599 : Int) + 1 = 3600 from rfl] at u8
  obtain ⟨x0, x1⟩ := u1
  obtain ⟨y0, y1⟩ := u2
  have U1 := Lib.hid u5
  have U2 := Lib.hid ht
  have U3 := Lib.hid (And.intro u3 u4)
  have U4 := Lib.hid u6
  have U5 := Lib.hid u7
  have U6 := Lib.hid u8
  clear u3 u4 u5 u6 u7 u8 ht hd hx hmo
  go_enter Tryd.func6, Tryd.ntmps6
  go_wp2_with (first
      | (go_at_call 10; (with_reducible refine (MFd_is date (-1) _ ?_ F1.out).mono ?_); (exact he.below BB.out); rintro e w1 ⟨rfl, hbn⟩; have BB := Lib.hid (tr BB.out hbn); clear hbn)
      | (go_at_call 8; (with_reducible refine (MRange_is 3599 d 109573 0 _ ?_ U1.out).mono ?_); (exact he.below BB.out); rintro e w4 ⟨rfl, hbn⟩; have c0 : (w4.alloc (.cells #[.int .i64 d, .int .i64 109573] 23)).cell? ⟨w4.heap.size, 0, none⟩ = some (.int .i64 d) := (by simp [go_sem]); have c1 : (w4.alloc (.cells #[.int .i64 d, .int .i64 109573] 23)).cell? ⟨w4.heap.size, 1, none⟩ = some (.int .i64 109573) := (by simp [go_sem]); have BB := Lib.hid (al (tr BB.out hbn) (.cells #[.int .i64 d, .int .i64 109573] 23)); clear hbn)
      | (go_at_call 21; (with_reducible refine (MFormat_is 3599 t _ ?_ U2.out).mono ?_); (exact he.below BB.out); rintro e w5 ⟨rfl, hbn⟩; replace c0 := held hbn c0; replace c1 := held hbn c1; have BB := Lib.hid (tr BB.out hbn); clear hbn)
      | (go_at_call 19; (with_reducible refine (MParse_is t 3599 0 _ ?_ U3.out.1 U3.out.2).mono ?_); (exact he.below BB.out); rintro e w6 ⟨rfl, hbn⟩; replace c0 := held hbn c0; replace c1 := held hbn c1; have BB := Lib.hid (tr BB.out hbn); clear hbn)
      | (go_at_call 10; (with_reducible refine (MFd_is d 3599 _ ?_ U4.out).mono ?_); (exact he.below BB.out); rintro e w7 ⟨rfl, hbn⟩; replace c0 := held hbn c0; replace c1 := held hbn c1; have BB := Lib.hid (tr BB.out hbn); clear hbn)
      | (go_at_call 10; (with_reducible refine (MFd_is 109572 3599 _ ?_ U5.out).mono ?_); (exact he.below BB.out); rintro e w8 ⟨rfl, hbn⟩; replace c0 := held hbn c0; replace c1 := held hbn c1; have BB := Lib.hid (tr BB.out hbn); clear hbn)
      | (go_at_call 8; (with_reducible refine (MRange_is 3600 0 0 3 _ ?_ U6.out).mono ?_); (exact he.below BB.out); rintro e w9 ⟨rfl, hbn⟩; replace c0 := held hbn c0; replace c1 := held hbn c1; replace c0 := held_al (.cells #[.int .i64 0, .int .i64 0] 23) c0; replace c1 := held_al (.cells #[.int .i64 0, .int .i64 0] 23) c1; have hbn := al hbn (.cells #[.int .i64 0, .int .i64 0] 23); have BB := Lib.hid (tr BB.out hbn); clear hbn)
      | (go_at_call 16; (with_reducible refine (awake_is _ ?_).mono ?_); (exact he.below BB.out); rintro e wn ⟨rfl, hbn⟩; have BB := Lib.hid (tr BB.out hbn); clear hbn)
      | fail)
  go_ret
  exact ⟨rfl, BB.out⟩

set_option maxRecDepth 4000 in
set_option maxHeartbeats 8000000 in
theorem part_neg_mzero (date m : Int) (w : World) (he : Env w) (hz : date < 0) (hm : m = 0) : Calls Tryd.prog 6 #[.int .i64 date, .int .i64 m] w (GivesB w true) := by
  have BB := Lib.hid (Below.refl w.heap.size w)
  have hko : fdR date = -1 := fd_out (by cases h : cal.okD date; rfl; exact absurd ((cal.okD_iff date).1 h) (by omega))
  have F1 := Lib.hid hko
  clear hko
  have hml := hm
  have hmo : okM m = true := (okM_iff m).2 ⟨by omega, by omega⟩
  have u1 := days_bd hmo
  have u2 := from_bd hmo
  obtain ⟨t, ht⟩ := str_mk (textM m)
  have u3 : parseM t.data.toList = (m, 0) := by rw [ht]; exact parse_tm hmo
  have u4 : t.size ≤ 9223372036854775807 := by rw [txt.str_size ht, tm_length hmo]; decide
  have u5 : rangeR m = ((fromM m, fromM m + daysR m), 0) := by unfold rangeR; rw [hmo, if_pos rfl]
  have u6 := (fd_in (x := fromM m) hmo (Int.le_refl _) (by omega)).1
  have u7 := (fd_in (x := fromM m + daysR m - 1) hmo (by omega) (by omega)).1
  have u8 : rangeR (m + 1) = ((fromM m + daysR m, fromM (m + 1) + daysR (m + 1)), 0) := by unfold rangeR; rw [show okM (m + 1) = true from (okM_iff _).2 ⟨by omega, by omega⟩, if_pos rfl, from_next (by omega) (by omega)]
  obtain ⟨v, hvv⟩ : ∃ r, fromM (m + 1) + daysR (m + 1) = r := ⟨_, rfl⟩
  rw [hvv] at u8
  have u9 := from_zero
  subst hml
  obtain ⟨d, hd⟩ : ∃ r, fromM 0 = r := ⟨_, rfl⟩
  obtain ⟨x, hx⟩ : ∃ r, daysR 0 = r := ⟨_, rfl⟩
  obtain ⟨y, hy⟩ : ∃ r, d + x = r := ⟨_, rfl⟩
  rw [hd, hx, hy] at u5 u2 u7
  rw [hd] at u6
  rw [hx] at u1
  rw [hd, hx, hy] at u8
  rw [hd] at u9
  subst u9
  rw [show (0 : Int) + 1 = 1 from rfl] at u8
  obtain ⟨x0, x1⟩ := u1
  obtain ⟨y0, y1⟩ := u2
  have U1 := Lib.hid u5
  have U2 := Lib.hid ht
  have U3 := Lib.hid (And.intro u3 u4)
  have U4 := Lib.hid u6
  have U5 := Lib.hid u7
  have U6 := Lib.hid u8
  clear u3 u4 u5 u6 u7 u8 ht hd hx hmo
  go_enter Tryd.func6, Tryd.ntmps6
  go_wp2_with (first
      | (go_at_call 10; (with_reducible refine (MFd_is date (-1) _ ?_ F1.out).mono ?_); (exact he.below BB.out); rintro e w1 ⟨rfl, hbn⟩; have BB := Lib.hid (tr BB.out hbn); clear hbn)
      | (go_at_call 8; (with_reducible refine (MRange_is 0 0 y 0 _ ?_ U1.out).mono ?_); (exact he.below BB.out); rintro e w4 ⟨rfl, hbn⟩; have c0 : (w4.alloc (.cells #[.int .i64 0, .int .i64 y] 23)).cell? ⟨w4.heap.size, 0, none⟩ = some (.int .i64 0) := (by simp [go_sem]); have c1 : (w4.alloc (.cells #[.int .i64 0, .int .i64 y] 23)).cell? ⟨w4.heap.size, 1, none⟩ = some (.int .i64 y) := (by simp [go_sem]); have BB := Lib.hid (al (tr BB.out hbn) (.cells #[.int .i64 0, .int .i64 y] 23)); clear hbn)
      | (go_at_call 21; (with_reducible refine (MFormat_is 0 t _ ?_ U2.out).mono ?_); (exact he.below BB.out); rintro e w5 ⟨rfl, hbn⟩; replace c0 := held hbn c0; replace c1 := held hbn c1; have BB := Lib.hid (tr BB.out hbn); clear hbn)
      | (go_at_call 19; (with_reducible refine (MParse_is t 0 0 _ ?_ U3.out.1 U3.out.2).mono ?_); (exact he.below BB.out); rintro e w6 ⟨rfl, hbn⟩; replace c0 := held hbn c0; replace c1 := held hbn c1; have BB := Lib.hid (tr BB.out hbn); clear hbn)
      | (go_at_call 10; (with_reducible refine (MFd_is 0 0 _ ?_ U4.out).mono ?_); (exact he.below BB.out); rintro e w7 ⟨rfl, hbn⟩; replace c0 := held hbn c0; replace c1 := held hbn c1; have BB := Lib.hid (tr BB.out hbn); clear hbn)
      | (go_at_call 10; (with_reducible refine (MFd_is (y - 1) 0 _ ?_ U5.out).mono ?_); (exact he.below BB.out); rintro e w8 ⟨rfl, hbn⟩; replace c0 := held hbn c0; replace c1 := held hbn c1; have BB := Lib.hid (tr BB.out hbn); clear hbn)
      | (go_at_call 8; (with_reducible refine (MRange_is 1 y v 0 _ ?_ U6.out).mono ?_); (exact he.below BB.out); rintro e w9 ⟨rfl, hbn⟩; replace c0 := held hbn c0; replace c1 := held hbn c1; replace c0 := held_al (.cells #[.int .i64 y, .int .i64 v] 23) c0; replace c1 := held_al (.cells #[.int .i64 y, .int .i64 v] 23) c1; have c2 : (w9.alloc (.cells #[.int .i64 y, .int .i64 v] 23)).cell? ⟨w9.heap.size, 0, none⟩ = some (.int .i64 y) := (by simp [go_sem]); have hbn := al hbn (.cells #[.int .i64 y, .int .i64 v] 23); have BB := Lib.hid (tr BB.out hbn); clear hbn)
      | (go_at_call 16; (with_reducible refine (awake_is _ ?_).mono ?_); (exact he.below BB.out); rintro e wn ⟨rfl, hbn⟩; have BB := Lib.hid (tr BB.out hbn); clear hbn)
      | fail)
  go_ret
  exact ⟨rfl, BB.out⟩

set_option maxRecDepth 4000 in
set_option maxHeartbeats 8000000 in
theorem part_neg_mmid (date m : Int) (w : World) (he : Env w) (hz : date < 0) (hm : 0 < m ∧ m < 3599) : Calls Tryd.prog 6 #[.int .i64 date, .int .i64 m] w (GivesB w true) := by
  have BB := Lib.hid (Below.refl w.heap.size w)
  have hko : fdR date = -1 := fd_out (by cases h : cal.okD date; rfl; exact absurd ((cal.okD_iff date).1 h) (by omega))
  have F1 := Lib.hid hko
  clear hko
  obtain ⟨m0, m1⟩ := hm
  have m2 : ¬ m < 0 := by omega
  have m3 : ¬ 3599 < m := by omega
  have m4 : (m == 3599) = false := by simp; omega
  have hmo : okM m = true := (okM_iff m).2 ⟨by omega, by omega⟩
  have u1 := days_bd hmo
  have u2 := from_bd hmo
  obtain ⟨t, ht⟩ := str_mk (textM m)
  have u3 : parseM t.data.toList = (m, 0) := by rw [ht]; exact parse_tm hmo
  have u4 : t.size ≤ 9223372036854775807 := by rw [txt.str_size ht, tm_length hmo]; decide
  have u5 : rangeR m = ((fromM m, fromM m + daysR m), 0) := by unfold rangeR; rw [hmo, if_pos rfl]
  have u6 := (fd_in (x := fromM m) hmo (Int.le_refl _) (by omega)).1
  have u7 := (fd_in (x := fromM m + daysR m - 1) hmo (by omega) (by omega)).1
  have u8 : rangeR (m + 1) = ((fromM m + daysR m, fromM (m + 1) + daysR (m + 1)), 0) := by unfold rangeR; rw [show okM (m + 1) = true from (okM_iff _).2 ⟨by omega, by omega⟩, if_pos rfl, from_next (by omega) (by omega)]
  obtain ⟨v, hvv⟩ : ∃ r, fromM (m + 1) + daysR (m + 1) = r := ⟨_, rfl⟩
  rw [hvv] at u8
  obtain ⟨d, hd⟩ : ∃ r, fromM m = r := ⟨_, rfl⟩
  obtain ⟨x, hx⟩ : ∃ r, daysR m = r := ⟨_, rfl⟩
  obtain ⟨y, hy⟩ : ∃ r, d + x = r := ⟨_, rfl⟩
  rw [hd, hx, hy] at u5 u2 u7
  rw [hd] at u6
  rw [hx] at u1
  rw [hd, hx, hy] at u8
  obtain ⟨x0, x1⟩ := u1
  obtain ⟨y0, y1⟩ := u2
  have U1 := Lib.hid u5
  have U2 := Lib.hid ht
  have U3 := Lib.hid (And.intro u3 u4)
  have U4 := Lib.hid u6
  have U5 := Lib.hid u7
  have U6 := Lib.hid u8
  clear u3 u4 u5 u6 u7 u8 ht hd hx hmo
  go_enter Tryd.func6, Tryd.ntmps6
  go_wp2_with (first
      | (go_at_call 10; (with_reducible refine (MFd_is date (-1) _ ?_ F1.out).mono ?_); (exact he.below BB.out); rintro e w1 ⟨rfl, hbn⟩; have BB := Lib.hid (tr BB.out hbn); clear hbn)
      | (go_at_call 8; (with_reducible refine (MRange_is m d y 0 _ ?_ U1.out).mono ?_); (exact he.below BB.out); rintro e w4 ⟨rfl, hbn⟩; have c0 : (w4.alloc (.cells #[.int .i64 d, .int .i64 y] 23)).cell? ⟨w4.heap.size, 0, none⟩ = some (.int .i64 d) := (by simp [go_sem]); have c1 : (w4.alloc (.cells #[.int .i64 d, .int .i64 y] 23)).cell? ⟨w4.heap.size, 1, none⟩ = some (.int .i64 y) := (by simp [go_sem]); have BB := Lib.hid (al (tr BB.out hbn) (.cells #[.int .i64 d, .int .i64 y] 23)); clear hbn)
      | (go_at_call 21; (with_reducible refine (MFormat_is m t _ ?_ U2.out).mono ?_); (exact he.below BB.out); rintro e w5 ⟨rfl, hbn⟩; replace c0 := held hbn c0; replace c1 := held hbn c1; have BB := Lib.hid (tr BB.out hbn); clear hbn)
      | (go_at_call 19; (with_reducible refine (MParse_is t m 0 _ ?_ U3.out.1 U3.out.2).mono ?_); (exact he.below BB.out); rintro e w6 ⟨rfl, hbn⟩; replace c0 := held hbn c0; replace c1 := held hbn c1; have BB := Lib.hid (tr BB.out hbn); clear hbn)
      | (go_at_call 10; (with_reducible refine (MFd_is d m _ ?_ U4.out).mono ?_); (exact he.below BB.out); rintro e w7 ⟨rfl, hbn⟩; replace c0 := held hbn c0; replace c1 := held hbn c1; have BB := Lib.hid (tr BB.out hbn); clear hbn)
      | (go_at_call 10; (with_reducible refine (MFd_is (y - 1) m _ ?_ U5.out).mono ?_); (exact he.below BB.out); rintro e w8 ⟨rfl, hbn⟩; replace c0 := held hbn c0; replace c1 := held hbn c1; have BB := Lib.hid (tr BB.out hbn); clear hbn)
      | (go_at_call 8; (with_reducible refine (MRange_is (m + 1) y v 0 _ ?_ U6.out).mono ?_); (exact he.below BB.out); rintro e w9 ⟨rfl, hbn⟩; replace c0 := held hbn c0; replace c1 := held hbn c1; replace c0 := held_al (.cells #[.int .i64 y, .int .i64 v] 23) c0; replace c1 := held_al (.cells #[.int .i64 y, .int .i64 v] 23) c1; have c2 : (w9.alloc (.cells #[.int .i64 y, .int .i64 v] 23)).cell? ⟨w9.heap.size, 0, none⟩ = some (.int .i64 y) := (by simp [go_sem]); have hbn := al hbn (.cells #[.int .i64 y, .int .i64 v] 23); have BB := Lib.hid (tr BB.out hbn); clear hbn)
      | (go_at_call 16; (with_reducible refine (awake_is _ ?_).mono ?_); (exact he.below BB.out); rintro e wn ⟨rfl, hbn⟩; have BB := Lib.hid (tr BB.out hbn); clear hbn)
      | fail)
  go_ret
  exact ⟨rfl, BB.out⟩

set_option maxRecDepth 4000 in
set_option maxHeartbeats 8000000 in
theorem part_big_mneg (date m : Int) (w : World) (he : Env w) (hz : 109572 < date) (hm : m < 0) : Calls Tryd.prog 6 #[.int .i64 date, .int .i64 m] w (GivesB w true) := by
  have BB := Lib.hid (Below.refl w.heap.size w)
  have hko : fdR date = -1 := fd_out (by cases h : cal.okD date; rfl; exact absurd ((cal.okD_iff date).1 h) (by omega))
  have F1 := Lib.hid hko
  clear hko
  have m0 := hm
  have hmo : okM m = false := by cases h : okM m; rfl; exact absurd ((okM_iff m).1 h) (by omega)
  have G1 := Lib.hid (show rangeR m = ((0, 0), 3) by unfold rangeR; rw [hmo]; rfl)
  have G2 := Lib.hid (show daysR m = 0 by unfold daysR; rw [hmo]; rfl)
  have G3 := Lib.hid hmo
  clear hmo
  have z2 : ¬ date < 0 := by omega
  go_enter Tryd.func6, Tryd.ntmps6
  go_wp2_with (first
      | (go_at_call 10; (with_reducible refine (MFd_is date (-1) _ ?_ F1.out).mono ?_); (exact he.below BB.out); rintro e w1 ⟨rfl, hbn⟩; have BB := Lib.hid (tr BB.out hbn); clear hbn)
      | (go_at_call 8; (with_reducible refine (MRange_is m 0 0 3 _ ?_ G1.out).mono ?_); (exact he.below BB.out); rintro e w4 ⟨rfl, hbn⟩; have hbn := al hbn (.cells #[.int .i64 0, .int .i64 0] 23); have BB := Lib.hid (tr BB.out hbn); clear hbn)
      | (go_at_call 21; (with_reducible refine (MFormat_is m ⟨#[]⟩ _ ?_ (tm_out G3.out)).mono ?_); (exact he.below BB.out); rintro e w5 ⟨rfl, hbn⟩; have BB := Lib.hid (tr BB.out hbn); clear hbn)
      | (go_at_call 12; (with_reducible refine (MDays_is m 0 _ ?_ G2.out).mono ?_); (exact he.below BB.out); rintro e w6 ⟨rfl, hbn⟩; have BB := Lib.hid (tr BB.out hbn); clear hbn)
      | (go_at_call 16; (with_reducible refine (awake_is _ ?_).mono ?_); (exact he.below BB.out); rintro e wn ⟨rfl, hbn⟩; have BB := Lib.hid (tr BB.out hbn); clear hbn)
      | fail)
  go_ret
  exact ⟨rfl, BB.out⟩

set_option maxRecDepth 4000 in
set_option maxHeartbeats 8000000 in
theorem part_big_mbig (date m : Int) (w : World) (he : Env w) (hz : 109572 < date) (hm : ¬ m < 0 ∧ 3599 < m) : Calls Tryd.prog 6 #[.int .i64 date, .int .i64 m] w (GivesB w true) := by
  have BB := Lib.hid (Below.refl w.heap.size w)
  have hko : fdR date = -1 := fd_out (by cases h : cal.okD date; rfl; exact absurd ((cal.okD_iff date).1 h) (by omega))
  have F1 := Lib.hid hko
  clear hko
  obtain ⟨m0, m1⟩ := hm
  have hmo : okM m = false := by cases h : okM m; rfl; exact absurd ((okM_iff m).1 h) (by omega)
  have G1 := Lib.hid (show rangeR m = ((0, 0), 3) by unfold rangeR; rw [hmo]; rfl)
  have G2 := Lib.hid (show daysR m = 0 by unfold daysR; rw [hmo]; rfl)
  have G3 := Lib.hid hmo
  clear hmo
  have z2 : ¬ date < 0 := by omega
  go_enter Tryd.func6, Tryd.ntmps6
  go_wp2_with (first
      | (go_at_call 10; (with_reducible refine (MFd_is date (-1) _ ?_ F1.out).mono ?_); (exact he.below BB.out); rintro e w1 ⟨rfl, hbn⟩; have BB := Lib.hid (tr BB.out hbn); clear hbn)
      | (go_at_call 8; (with_reducible refine (MRange_is m 0 0 3 _ ?_ G1.out).mono ?_); (exact he.below BB.out); rintro e w4 ⟨rfl, hbn⟩; have hbn := al hbn (.cells #[.int .i64 0, .int .i64 0] 23); have BB := Lib.hid (tr BB.out hbn); clear hbn)
      | (go_at_call 21; (with_reducible refine (MFormat_is m ⟨#[]⟩ _ ?_ (tm_out G3.out)).mono ?_); (exact he.below BB.out); rintro e w5 ⟨rfl, hbn⟩; have BB := Lib.hid (tr BB.out hbn); clear hbn)
      | (go_at_call 12; (with_reducible refine (MDays_is m 0 _ ?_ G2.out).mono ?_); (exact he.below BB.out); rintro e w6 ⟨rfl, hbn⟩; have BB := Lib.hid (tr BB.out hbn); clear hbn)
      | (go_at_call 16; (with_reducible refine (awake_is _ ?_).mono ?_); (exact he.below BB.out); rintro e wn ⟨rfl, hbn⟩; have BB := Lib.hid (tr BB.out hbn); clear hbn)
      | fail)
  go_ret
  exact ⟨rfl, BB.out⟩

set_option maxRecDepth 4000 in
set_option maxHeartbeats 8000000 in
theorem part_big_mlast (date m : Int) (w : World) (he : Env w) (hz : 109572 < date) (hm : m = 3599) : Calls Tryd.prog 6 #[.int .i64 date, .int .i64 m] w (GivesB w true) := by
  have BB := Lib.hid (Below.refl w.heap.size w)
  have hko : fdR date = -1 := fd_out (by cases h : cal.okD date; rfl; exact absurd ((cal.okD_iff date).1 h) (by omega))
  have F1 := Lib.hid hko
  clear hko
  have hml := hm
  have hmo : okM m = true := (okM_iff m).2 ⟨by omega, by omega⟩
  have u1 := days_bd hmo
  have u2 := from_bd hmo
  obtain ⟨t, ht⟩ := str_mk (textM m)
  have u3 : parseM t.data.toList = (m, 0) := by rw [ht]; exact parse_tm hmo
  have u4 : t.size ≤ 9223372036854775807 := by rw [txt.str_size ht, tm_length hmo]; decide
  have u5 : rangeR m = ((fromM m, fromM m + daysR m), 0) := by unfold rangeR; rw [hmo, if_pos rfl]
  have u6 := (fd_in (x := fromM m) hmo (Int.le_refl _) (by omega)).1
  have u7 := (fd_in (x := fromM m + daysR m - 1) hmo (by omega) (by omega)).1
  have u8 : rangeR (m + 1) = ((0, 0), 3) := by unfold rangeR; rw [show okM (m + 1) = false by cases h : okM (m + 1); rfl; exact absurd ((okM_iff _).1 h) (by omega)]; rfl
  have u9 := from_last
  subst hml
  obtain ⟨d, hd⟩ : ∃ r, fromM 3599 = r := ⟨_, rfl⟩
  obtain ⟨x, hx⟩ : ∃ r, daysR 3599 = r := ⟨_, rfl⟩
  obtain ⟨y, hy⟩ : ∃ r, d + x = r := ⟨_, rfl⟩
  rw [hd, hx, hy] at u5 u2 u7
  rw [hd] at u6
  rw [hx] at u1
  rw [hd, hx, hy] at u9
  subst u9
  rw [show (109573 : Int) - 1 = 109572 from rfl] at u7
  rw [show (3599 : Int) + 1 = 3600 from rfl] at u8
  obtain ⟨x0, x1⟩ := u1
  obtain ⟨y0, y1⟩ := u2
  have U1 := Lib.hid u5
  have U2 := Lib.hid ht
  have U3 := Lib.hid (And.intro u3 u4)
  have U4 := Lib.hid u6
  have U5 := Lib.hid u7
  have U6 := Lib.hid u8
  clear u3 u4 u5 u6 u7 u8 ht hd hx hmo
  have z2 : ¬ date < 0 := by omega
  go_enter Tryd.func6, Tryd.ntmps6
  go_wp2_with (first
      | (go_at_call 10; (with_reducible refine (MFd_is date (-1) _ ?_ F1.out).mono ?_); (exact he.below BB.out); rintro e w1 ⟨rfl, hbn⟩; have BB := Lib.hid (tr BB.out hbn); clear hbn)
      | (go_at_call 8; (with_reducible refine (MRange_is 3599 d 109573 0 _ ?_ U1.out).mono ?_); (exact he.below BB.out); rintro e w4 ⟨rfl, hbn⟩; have c0 : (w4.alloc (.cells #[.int .i64 d, .int .i64 109573] 23)).cell? ⟨w4.heap.size, 0, none⟩ = some (.int .i64 d) := (by simp [go_sem]); have c1 : (w4.alloc (.cells #[.int .i64 d, .int .i64 109573] 23)).cell? ⟨w4.heap.size, 1, none⟩ = some (.int .i64 109573) := (by simp [go_sem]); have BB := Lib.hid (al (tr BB.out hbn) (.cells #[.int .i64 d, .int .i64 109573] 23)); clear hbn)
      | (go_at_call 21; (with_reducible refine (MFormat_is 3599 t _ ?_ U2.out).mono ?_); (exact he.below BB.out); rintro e w5 ⟨rfl, hbn⟩; replace c0 := held hbn c0; replace c1 := held hbn c1; have BB := Lib.hid (tr BB.out hbn); clear hbn)
      | (go_at_call 19; (with_reducible refine (MParse_is t 3599 0 _ ?_ U3.out.1 U3.out.2).mono ?_); (exact he.below BB.out); rintro e w6 ⟨rfl, hbn⟩; replace c0 := held hbn c0; replace c1 := held hbn c1; have BB := Lib.hid (tr BB.out hbn); clear hbn)
      | (go_at_call 10; (with_reducible refine (MFd_is d 3599 _ ?_ U4.out).mono ?_); (exact he.below BB.out); rintro e w7 ⟨rfl, hbn⟩; replace c0 := held hbn c0; replace c1 := held hbn c1; have BB := Lib.hid (tr BB.out hbn); clear hbn)
      | (go_at_call 10; (with_reducible refine (MFd_is 109572 3599 _ ?_ U5.out).mono ?_); (exact he.below BB.out); rintro e w8 ⟨rfl, hbn⟩; replace c0 := held hbn c0; replace c1 := held hbn c1; have BB := Lib.hid (tr BB.out hbn); clear hbn)
      | (go_at_call 8; (with_reducible refine (MRange_is 3600 0 0 3 _ ?_ U6.out).mono ?_); (exact he.below BB.out); rintro e w9 ⟨rfl, hbn⟩; replace c0 := held hbn c0; replace c1 := held hbn c1; replace c0 := held_al (.cells #[.int .i64 0, .int .i64 0] 23) c0; replace c1 := held_al (.cells #[.int .i64 0, .int .i64 0] 23) c1; have hbn := al hbn (.cells #[.int .i64 0, .int .i64 0] 23); have BB := Lib.hid (tr BB.out hbn); clear hbn)
      | (go_at_call 16; (with_reducible refine (awake_is _ ?_).mono ?_); (exact he.below BB.out); rintro e wn ⟨rfl, hbn⟩; have BB := Lib.hid (tr BB.out hbn); clear hbn)
      | fail)
  go_ret
  exact ⟨rfl, BB.out⟩

set_option maxRecDepth 4000 in
set_option maxHeartbeats 8000000 in
theorem part_big_mzero (date m : Int) (w : World) (he : Env w) (hz : 109572 < date) (hm : m = 0) : Calls Tryd.prog 6 #[.int .i64 date, .int .i64 m] w (GivesB w true) := by
  have BB := Lib.hid (Below.refl w.heap.size w)
  have hko : fdR date = -1 := fd_out (by cases h : cal.okD date; rfl; exact absurd ((cal.okD_iff date).1 h) (by omega))
  have F1 := Lib.hid hko
  clear hko
  have hml := hm
  have hmo : okM m = true := (okM_iff m).2 ⟨by omega, by omega⟩
  have u1 := days_bd hmo
  have u2 := from_bd hmo
  obtain ⟨t, ht⟩ := str_mk (textM m)
  have u3 : parseM t.data.toList = (m, 0) := by rw [ht]; exact parse_tm hmo
  have u4 : t.size ≤ 9223372036854775807 := by rw [txt.str_size ht, tm_length hmo]; decide
  have u5 : rangeR m = ((fromM m, fromM m + daysR m), 0) := by unfold rangeR; rw [hmo, if_pos rfl]
  have u6 := (fd_in (x := fromM m) hmo (Int.le_refl _) (by omega)).1
  have u7 := (fd_in (x := fromM m + daysR m - 1) hmo (by omega) (by omega)).1
  have u8 : rangeR (m + 1) = ((fromM m + daysR m, fromM (m + 1) + daysR (m + 1)), 0) := by unfold rangeR; rw [show okM (m + 1) = true from (okM_iff _).2 ⟨by omega, by omega⟩, if_pos rfl, from_next (by omega) (by omega)]
  obtain ⟨v, hvv⟩ : ∃ r, fromM (m + 1) + daysR (m + 1) = r := ⟨_, rfl⟩
  rw [hvv] at u8
  have u9 := from_zero
  subst hml
  obtain ⟨d, hd⟩ : ∃ r, fromM 0 = r := ⟨_, rfl⟩
  obtain ⟨x, hx⟩ : ∃ r, daysR 0 = r := ⟨_, rfl⟩
  obtain ⟨y, hy⟩ : ∃ r, d + x = r := ⟨_, rfl⟩
  rw [hd, hx, hy] at u5 u2 u7
  rw [hd] at u6
  rw [hx] at u1
  rw [hd, hx, hy] at u8
  rw [hd] at u9
  subst u9
  rw [show (0 : Int) + 1 = 1 from rfl] at u8
  obtain ⟨x0, x1⟩ := u1
  obtain ⟨y0, y1⟩ := u2
  have U1 := Lib.hid u5
  have U2 := Lib.hid ht
  have U3 := Lib.hid (And.intro u3 u4)
  have U4 := Lib.hid u6
  have U5 := Lib.hid u7
  have U6 := Lib.hid u8
  clear u3 u4 u5 u6 u7 u8 ht hd hx hmo
  have z2 : ¬ date < 0 := by omega
  go_enter Tryd.func6, Tryd.ntmps6
  go_wp2_with (first
      | (go_at_call 10; (with_reducible refine (MFd_is date (-1) _ ?_ F1.out).mono ?_); (exact he.below BB.out); rintro e w1 ⟨rfl, hbn⟩; have BB := Lib.hid (tr BB.out hbn); clear hbn)
      | (go_at_call 8; (with_reducible refine (MRange_is 0 0 y 0 _ ?_ U1.out).mono ?_); (exact he.below BB.out); rintro e w4 ⟨rfl, hbn⟩; have c0 : (w4.alloc (.cells #[.int .i64 0, .int .i64 y] 23)).cell? ⟨w4.heap.size, 0, none⟩ = some (.int .i64 0) := (by simp [go_sem]); have c1 : (w4.alloc (.cells #[.int .i64 0, .int .i64 y] 23)).cell? ⟨w4.heap.size, 1, none⟩ = some (.int .i64 y) := (by simp [go_sem]); have BB := Lib.hid (al (tr BB.out hbn) (.cells #[.int .i64 0, .int .i64 y] 23)); clear hbn)
      | (go_at_call 21; (with_reducible refine (MFormat_is 0 t _ ?_ U2.out).mono ?_); (exact he.below BB.out); rintro e w5 ⟨rfl, hbn⟩; replace c0 := held hbn c0; replace c1 := held hbn c1; have BB := Lib.hid (tr BB.out hbn); clear hbn)
      | (go_at_call 19; (with_reducible refine (MParse_is t 0 0 _ ?_ U3.out.1 U3.out.2).mono ?_); (exact he.below BB.out); rintro e w6 ⟨rfl, hbn⟩; replace c0 := held hbn c0; replace c1 := held hbn c1; have BB := Lib.hid (tr BB.out hbn); clear hbn)
      | (go_at_call 10; (with_reducible refine (MFd_is 0 0 _ ?_ U4.out).mono ?_); (exact he.below BB.out); rintro e w7 ⟨rfl, hbn⟩; replace c0 := held hbn c0; replace c1 := held hbn c1; have BB := Lib.hid (tr BB.out hbn); clear hbn)
      | (go_at_call 10; (with_reducible refine (MFd_is (y - 1) 0 _ ?_ U5.out).mono ?_); (exact he.below BB.out); rintro e w8 ⟨rfl, hbn⟩; replace c0 := held hbn c0; replace c1 := held hbn c1; have BB := Lib.hid (tr BB.out hbn); clear hbn)
      | (go_at_call 8; (with_reducible refine (MRange_is 1 y v 0 _ ?_ U6.out).mono ?_); (exact he.below BB.out); rintro e w9 ⟨rfl, hbn⟩; replace c0 := held hbn c0; replace c1 := held hbn c1; replace c0 := held_al (.cells #[.int .i64 y, .int .i64 v] 23) c0; replace c1 := held_al (.cells #[.int .i64 y, .int .i64 v] 23) c1; have c2 : (w9.alloc (.cells #[.int .i64 y, .int .i64 v] 23)).cell? ⟨w9.heap.size, 0, none⟩ = some (.int .i64 y) := (by simp [go_sem]); have hbn := al hbn (.cells #[.int .i64 y, .int .i64 v] 23); have BB := Lib.hid (tr BB.out hbn); clear hbn)
      | (go_at_call 16; (with_reducible refine (awake_is _ ?_).mono ?_); (exact he.below BB.out); rintro e wn ⟨rfl, hbn⟩; have BB := Lib.hid (tr BB.out hbn); clear hbn)
      | fail)
  go_ret
  exact ⟨rfl, BB.out⟩

set_option maxRecDepth 4000 in
set_option maxHeartbeats 8000000 in
theorem part_big_mmid (date m : Int) (w : World) (he : Env w) (hz : 109572 < date) (hm : 0 < m ∧ m < 3599) : Calls Tryd.prog 6 #[.int .i64 date, .int .i64 m] w (GivesB w true) := by
  have BB := Lib.hid (Below.refl w.heap.size w)
  have hko : fdR date = -1 := fd_out (by cases h : cal.okD date; rfl; exact absurd ((cal.okD_iff date).1 h) (by omega))
  have F1 := Lib.hid hko
  clear hko
  obtain ⟨m0, m1⟩ := hm
  have m2 : ¬ m < 0 := by omega
  have m3 : ¬ 3599 < m := by omega
  have m4 : (m == 3599) = false := by simp; omega
  have hmo : okM m = true := (okM_iff m).2 ⟨by omega, by omega⟩
  have u1 := days_bd hmo
  have u2 := from_bd hmo
  obtain ⟨t, ht⟩ := str_mk (textM m)
  have u3 : parseM t.data.toList = (m, 0) := by rw [ht]; exact parse_tm hmo
  have u4 : t.size ≤ 9223372036854775807 := by rw [txt.str_size ht, tm_length hmo]; decide
  have u5 : rangeR m = ((fromM m, fromM m + daysR m), 0) := by unfold rangeR; rw [hmo, if_pos rfl]
  have u6 := (fd_in (x := fromM m) hmo (Int.le_refl _) (by omega)).1
  have u7 := (fd_in (x := fromM m + daysR m - 1) hmo (by omega) (by omega)).1
  have u8 : rangeR (m + 1) = ((fromM m + daysR m, fromM (m + 1) + daysR (m + 1)), 0) := by unfold rangeR; rw [show okM (m + 1) = true from (okM_iff _).2 ⟨by omega, by omega⟩, if_pos rfl, from_next (by omega) (by omega)]
  obtain ⟨v, hvv⟩ : ∃ r, fromM (m + 1) + daysR (m + 1) = r := ⟨_, rfl⟩
  rw [hvv] at u8
  obtain ⟨d, hd⟩ : ∃ r, fromM m = r := ⟨_, rfl⟩
  obtain ⟨x, hx⟩ : ∃ r, daysR m = r := ⟨_, rfl⟩
  obtain ⟨y, hy⟩ : ∃ r, d + x = r := ⟨_, rfl⟩
  rw [hd, hx, hy] at u5 u2 u7
  rw [hd] at u6
  rw [hx] at u1
  rw [hd, hx, hy] at u8
  obtain ⟨x0, x1⟩ := u1
  obtain ⟨y0, y1⟩ := u2
  have U1 := Lib.hid u5
  have U2 := Lib.hid ht
  have U3 := Lib.hid (And.intro u3 u4)
  have U4 := Lib.hid u6
  have U5 := Lib.hid u7
  have U6 := Lib.hid u8
  clear u3 u4 u5 u6 u7 u8 ht hd hx hmo
  have z2 : ¬ date < 0 := by omega
  go_enter Tryd.func6, Tryd.ntmps6
  go_wp2_with (first
      | (go_at_call 10; (with_reducible refine (MFd_is date (-1) _ ?_ F1.out).mono ?_); (exact he.below BB.out); rintro e w1 ⟨rfl, hbn⟩; have BB := Lib.hid (tr BB.out hbn); clear hbn)
      | (go_at_call 8; (with_reducible refine (MRange_is m d y 0 _ ?_ U1.out).mono ?_); (exact he.below BB.out); rintro e w4 ⟨rfl, hbn⟩; have c0 : (w4.alloc (.cells #[.int .i64 d, .int .i64 y] 23)).cell? ⟨w4.heap.size, 0, none⟩ = some (.int .i64 d) := (by simp [go_sem]); have c1 : (w4.alloc (.cells #[.int .i64 d, .int .i64 y] 23)).cell? ⟨w4.heap.size, 1, none⟩ = some (.int .i64 y) := (by simp [go_sem]); have BB := Lib.hid (al (tr BB.out hbn) (.cells #[.int .i64 d, .int .i64 y] 23)); clear hbn)
      | (go_at_call 21; (with_reducible refine (MFormat_is m t _ ?_ U2.out).mono ?_); (exact he.below BB.out); rintro e w5 ⟨rfl, hbn⟩; replace c0 := held hbn c0; replace c1 := held hbn c1; have BB := Lib.hid (tr BB.out hbn); clear hbn)
      | (go_at_call 19; (with_reducible refine (MParse_is t m 0 _ ?_ U3.out.1 U3.out.2).mono ?_); (exact he.below BB.out); rintro e w6 ⟨rfl, hbn⟩; replace c0 := held hbn c0; replace c1 := held hbn c1; have BB := Lib.hid (tr BB.out hbn); clear hbn)
      | (go_at_call 10; (with_reducible refine (MFd_is d m _ ?_ U4.out).mono ?_); (exact he.below BB.out); rintro e w7 ⟨rfl, hbn⟩; replace c0 := held hbn c0; replace c1 := held hbn c1; have BB := Lib.hid (tr BB.out hbn); clear hbn)
      | (go_at_call 10; (with_reducible refine (MFd_is (y - 1) m _ ?_ U5.out).mono ?_); (exact he.below BB.out); rintro e w8 ⟨rfl, hbn⟩; replace c0 := held hbn c0; replace c1 := held hbn c1; have BB := Lib.hid (tr BB.out hbn); clear hbn)
      | (go_at_call 8; (with_reducible refine (MRange_is (m + 1) y v 0 _ ?_ U6.out).mono ?_); (exact he.below BB.out); rintro e w9 ⟨rfl, hbn⟩; replace c0 := held hbn c0; replace c1 := held hbn c1; replace c0 := held_al (.cells #[.int .i64 y, .int .i64 v] 23) c0; replace c1 := held_al (.cells #[.int .i64 y, .int .i64 v] 23) c1; have c2 : (w9.alloc (.cells #[.int .i64 y, .int .i64 v] 23)).cell? ⟨w9.heap.size, 0, none⟩ = some (.int .i64 y) := (by simp [go_sem]); have hbn := al hbn (.cells #[.int .i64 y, .int .i64 v] 23); have BB := Lib.hid (tr BB.out hbn); clear hbn)
      | (go_at_call 16; (with_reducible refine (awake_is _ ?_).mono ?_); (exact he.below BB.out); rintro e wn ⟨rfl, hbn⟩; have BB := Lib.hid (tr BB.out hbn); clear hbn)
      | fail)
  go_ret
  exact ⟨rfl, BB.out⟩

set_option maxRecDepth 4000 in
set_option maxHeartbeats 8000000 in
theorem part_in_mneg (date m : Int) (w : World) (he : Env w) (hz : 0 ≤ date ∧ date ≤ 109572) (hm : m < 0) : Calls Tryd.prog 6 #[.int .i64 date, .int .i64 m] w (GivesB w true) := by
  have BB := Lib.hid (Below.refl w.heap.size w)
  obtain ⟨z0, z1⟩ := hz
  have hok : cal.okD date = true := (cal.okD_iff date).2 ⟨by omega, by omega⟩
  obtain ⟨f1, f2, f3⟩ := fd_ok hok
  have f4 := over_one hok
  have f5 := days_bd f1
  have f6 := from_bd f1
  obtain ⟨k, hk⟩ : ∃ r, fdR date = r := ⟨_, rfl⟩
  rw [hk] at f1 f2 f3 f4 f5 f6
  have f7 : rangeR k = ((fromM k, fromM k + daysR k), 0) := by unfold rangeR; rw [f1, if_pos rfl]
  have f8 := (okM_iff k).1 f1
  obtain ⟨p, hp⟩ : ∃ r, fromM k = r := ⟨_, rfl⟩
  obtain ⟨g, hg⟩ : ∃ r, daysR k = r := ⟨_, rfl⟩
  obtain ⟨q, hq⟩ : ∃ r, p + g = r := ⟨_, rfl⟩
  rw [hp, hg, hq] at f7 f3 f6
  rw [hp] at f2
  rw [hg] at f5
  obtain ⟨k0', k1'⟩ := f8
  obtain ⟨p0, p1⟩ := f6
  obtain ⟨g0, g1⟩ := f5
  have p0' : 0 ≤ p := p0
  have f3' : ¬ q ≤ date := by omega
  have f2' : ¬ date < p := by omega
  have hqp : q - p = g := by omega
  have F1 := Lib.hid hk
  have F2 := Lib.hid f7
  have F3 := Lib.hid hg
  have F4 := Lib.hid f4
  clear hk f7 hp hg hq f4 f1 hok
  have m0 := hm
  have hmo : okM m = false := by cases h : okM m; rfl; exact absurd ((okM_iff m).1 h) (by omega)
  have G1 := Lib.hid (show rangeR m = ((0, 0), 3) by unfold rangeR; rw [hmo]; rfl)
  have G2 := Lib.hid (show daysR m = 0 by unfold daysR; rw [hmo]; rfl)
  have G3 := Lib.hid hmo
  clear hmo
  have z2 : ¬ date < 0 := by omega
  have z3 : ¬ 109572 < date := by omega
  go_enter Tryd.func6, Tryd.ntmps6
  go_wp2_with (first
      | (go_at_call 10; (with_reducible refine (MFd_is date k _ ?_ F1.out).mono ?_); (exact he.below BB.out); rintro e w1 ⟨rfl, hbn⟩; have BB := Lib.hid (tr BB.out hbn); clear hbn)
      | (go_at_call 8; (with_reducible refine (MRange_is k p q 0 _ ?_ F2.out).mono ?_); (exact he.below BB.out); rintro e w2 ⟨rfl, hbn⟩; have BB := Lib.hid (tr BB.out hbn); clear hbn)
      | fail)
  have n0 : (w2.alloc (.cells #[.int .i64 p, .int .i64 q] 23)).cell? ⟨w2.heap.size, 0, none⟩ = some (.int .i64 p) := by simp [go_sem]
  have n1 : (w2.alloc (.cells #[.int .i64 p, .int .i64 q] 23)).cell? ⟨w2.heap.size, 1, none⟩ = some (.int .i64 q) := by simp [go_sem]
  have BB := Lib.hid (al BB.out (.cells #[.int .i64 p, .int .i64 q] 23))
  have d1 : decide (date < p) = false := decide_eq_false (by omega)
  have d2 : decide (q ≤ date) = false := decide_eq_false (by omega)
  have d3 : (g != g) = false := by simp
  have d4 : IntKind.i64.wrap (q - p) = g := by rw [hqp]; exact i64_in (by omega) (by omega)
  have d5 : IntKind.i64.wrap g = g := i64_in (by omega) (by omega)
  have d6 : IntKind.i64.wrap (date + 1) = date + 1 := i64_in (by omega) (by omega)
  go_region_held3 (fun w' => w'.cell? ⟨w2.heap.size, 0, none⟩ = some (.int .i64 p) ∧ w'.cell? ⟨w2.heap.size, 1, none⟩ = some (.int .i64 q))
    (first | go_keep | (go_split_ands; refine ⟨held hbn ?_, held hbn ?_⟩ <;> assumption))
    (first
      | (go_at_call 12; (with_reducible refine (MDays_is k g _ ?_ F3.out).mono ?_); (exact (by first | exact he.below BB.out | exact he.below (below_drewN BB.out _) | exact he.below (below_drewN BB.out 1))); rintro e wn ⟨rfl, hbn⟩; have BB := (by first | exact Lib.hid (tr BB.out hbn) | exact Lib.hid (tr (below_drewN BB.out _) hbn) | exact Lib.hid (tr (below_drewN BB.out 1) hbn) : Hid (Below w.heap.size w wn)))
      | (go_at_call 14; (with_reducible refine (MOver_is k date (date + 1) 1 _ ?_ F4.out).mono ?_); (exact (by first | exact he.below BB.out | exact he.below (below_drewN BB.out _) | exact he.below (below_drewN BB.out 1))); rintro e wn ⟨rfl, hbn⟩; have BB := (by first | exact Lib.hid (tr BB.out hbn) | exact Lib.hid (tr (below_drewN BB.out _) hbn) | exact Lib.hid (tr (below_drewN BB.out 1) hbn) : Hid (Below w.heap.size w wn)))
      | fail)
  go_wp2_with (first
      | (go_at_call 8; (with_reducible refine (MRange_is m 0 0 3 _ ?_ G1.out).mono ?_); (exact he.below BB.out); rintro e w4 ⟨rfl, hbn⟩; have hbn := al hbn (.cells #[.int .i64 0, .int .i64 0] 23); have BB := Lib.hid (tr BB.out hbn); clear hbn)
      | (go_at_call 21; (with_reducible refine (MFormat_is m ⟨#[]⟩ _ ?_ (tm_out G3.out)).mono ?_); (exact he.below BB.out); rintro e w5 ⟨rfl, hbn⟩; have BB := Lib.hid (tr BB.out hbn); clear hbn)
      | (go_at_call 12; (with_reducible refine (MDays_is m 0 _ ?_ G2.out).mono ?_); (exact he.below BB.out); rintro e w6 ⟨rfl, hbn⟩; have BB := Lib.hid (tr BB.out hbn); clear hbn)
      | (go_at_call 16; (with_reducible refine (awake_is _ ?_).mono ?_); (exact he.below BB.out); rintro e wn ⟨rfl, hbn⟩; have BB := Lib.hid (tr BB.out hbn); clear hbn)
      | fail)
  go_ret
  exact ⟨rfl, BB.out⟩

set_option maxRecDepth 4000 in
set_option maxHeartbeats 8000000 in
theorem part_in_mbig (date m : Int) (w : World) (he : Env w) (hz : 0 ≤ date ∧ date ≤ 109572) (hm : ¬ m < 0 ∧ 3599 < m) : Calls Tryd.prog 6 #[.int .i64 date, .int .i64 m] w (GivesB w true) := by
  have BB := Lib.hid (Below.refl w.heap.size w)
  obtain ⟨z0, z1⟩ := hz
  have hok : cal.okD date = true := (cal.okD_iff date).2 ⟨by omega, by omega⟩
  obtain ⟨f1, f2, f3⟩ := fd_ok hok
  have f4 := over_one hok
  have f5 := days_bd f1
  have f6 := from_bd f1
  obtain ⟨k, hk⟩ : ∃ r, fdR date = r := ⟨_, rfl⟩
  rw [hk] at f1 f2 f3 f4 f5 f6
  have f7 : rangeR k = ((fromM k, fromM k + daysR k), 0) := by unfold rangeR; rw [f1, if_pos rfl]
  have f8 := (okM_iff k).1 f1
  obtain ⟨p, hp⟩ : ∃ r, fromM k = r := ⟨_, rfl⟩
  obtain ⟨g, hg⟩ : ∃ r, daysR k = r := ⟨_, rfl⟩
  obtain ⟨q, hq⟩ : ∃ r, p + g = r := ⟨_, rfl⟩
  rw [hp, hg, hq] at f7 f3 f6
  rw [hp] at f2
  rw [hg] at f5
  obtain ⟨k0', k1'⟩ := f8
  obtain ⟨p0, p1⟩ := f6
  obtain ⟨g0, g1⟩ := f5
  have p0' : 0 ≤ p := p0
  have f3' : ¬ q ≤ date := by omega
  have f2' : ¬ date < p := by omega
  have hqp : q - p = g := by omega
  have F1 := Lib.hid hk
  have F2 := Lib.hid f7
  have F3 := Lib.hid hg
  have F4 := Lib.hid f4
  clear hk f7 hp hg hq f4 f1 hok
  obtain ⟨m0, m1⟩ := hm
  have hmo : okM m = false := by cases h : okM m; rfl; exact absurd ((okM_iff m).1 h) (by omega)
  have G1 := Lib.hid (show rangeR m = ((0, 0), 3) by unfold rangeR; rw [hmo]; rfl)
  have G2 := Lib.hid (show daysR m = 0 by unfold daysR; rw [hmo]; rfl)
  have G3 := Lib.hid hmo
  clear hmo
  have z2 : ¬ date < 0 := by omega
  have z3 : ¬ 109572 < date := by omega
  go_enter Tryd.func6, Tryd.ntmps6
  go_wp2_with (first
      | (go_at_call 10; (with_reducible refine (MFd_is date k _ ?_ F1.out).mono ?_); (exact he.below BB.out); rintro e w1 ⟨rfl, hbn⟩; have BB := Lib.hid (tr BB.out hbn); clear hbn)
      | (go_at_call 8; (with_reducible refine (MRange_is k p q 0 _ ?_ F2.out).mono ?_); (exact he.below BB.out); rintro e w2 ⟨rfl, hbn⟩; have BB := Lib.hid (tr BB.out hbn); clear hbn)
      | fail)
  have n0 : (w2.alloc (.cells #[.int .i64 p, .int .i64 q] 23)).cell? ⟨w2.heap.size, 0, none⟩ = some (.int .i64 p) := by simp [go_sem]
  have n1 : (w2.alloc (.cells #[.int .i64 p, .int .i64 q] 23)).cell? ⟨w2.heap.size, 1, none⟩ = some (.int .i64 q) := by simp [go_sem]
  have BB := Lib.hid (al BB.out (.cells #[.int .i64 p, .int .i64 q] 23))
  have d1 : decide (date < p) = false := decide_eq_false (by omega)
  have d2 : decide (q ≤ date) = false := decide_eq_false (by omega)
  have d3 : (g != g) = false := by simp
  have d4 : IntKind.i64.wrap (q - p) = g := by rw [hqp]; exact i64_in (by omega) (by omega)
  have d5 : IntKind.i64.wrap g = g := i64_in (by omega) (by omega)
  have d6 : IntKind.i64.wrap (date + 1) = date + 1 := i64_in (by omega) (by omega)
  go_region_held3 (fun w' => w'.cell? ⟨w2.heap.size, 0, none⟩ = some (.int .i64 p) ∧ w'.cell? ⟨w2.heap.size, 1, none⟩ = some (.int .i64 q))
    (first | go_keep | (go_split_ands; refine ⟨held hbn ?_, held hbn ?_⟩ <;> assumption))
    (first
      | (go_at_call 12; (with_reducible refine (MDays_is k g _ ?_ F3.out).mono ?_); (exact (by first | exact he.below BB.out | exact he.below (below_drewN BB.out _) | exact he.below (below_drewN BB.out 1))); rintro e wn ⟨rfl, hbn⟩; have BB := (by first | exact Lib.hid (tr BB.out hbn) | exact Lib.hid (tr (below_drewN BB.out _) hbn) | exact Lib.hid (tr (below_drewN BB.out 1) hbn) : Hid (Below w.heap.size w wn)))
      | (go_at_call 14; (with_reducible refine (MOver_is k date (date + 1) 1 _ ?_ F4.out).mono ?_); (exact (by first | exact he.below BB.out | exact he.below (below_drewN BB.out _) | exact he.below (below_drewN BB.out 1))); rintro e wn ⟨rfl, hbn⟩; have BB := (by first | exact Lib.hid (tr BB.out hbn) | exact Lib.hid (tr (below_drewN BB.out _) hbn) | exact Lib.hid (tr (below_drewN BB.out 1) hbn) : Hid (Below w.heap.size w wn)))
      | fail)
  go_wp2_with (first
      | (go_at_call 8; (with_reducible refine (MRange_is m 0 0 3 _ ?_ G1.out).mono ?_); (exact he.below BB.out); rintro e w4 ⟨rfl, hbn⟩; have hbn := al hbn (.cells #[.int .i64 0, .int .i64 0] 23); have BB := Lib.hid (tr BB.out hbn); clear hbn)
      | (go_at_call 21; (with_reducible refine (MFormat_is m ⟨#[]⟩ _ ?_ (tm_out G3.out)).mono ?_); (exact he.below BB.out); rintro e w5 ⟨rfl, hbn⟩; have BB := Lib.hid (tr BB.out hbn); clear hbn)
      | (go_at_call 12; (with_reducible refine (MDays_is m 0 _ ?_ G2.out).mono ?_); (exact he.below BB.out); rintro e w6 ⟨rfl, hbn⟩; have BB := Lib.hid (tr BB.out hbn); clear hbn)
      | (go_at_call 16; (with_reducible refine (awake_is _ ?_).mono ?_); (exact he.below BB.out); rintro e wn ⟨rfl, hbn⟩; have BB := Lib.hid (tr BB.out hbn); clear hbn)
      | fail)
  go_ret
  exact ⟨rfl, BB.out⟩

set_option maxRecDepth 4000 in
set_option maxHeartbeats 8000000 in
theorem part_in_mlast (date m : Int) (w : World) (he : Env w) (hz : 0 ≤ date ∧ date ≤ 109572) (hm : m = 3599) : Calls Tryd.prog 6 #[.int .i64 date, .int .i64 m] w (GivesB w true) := by
  have BB := Lib.hid (Below.refl w.heap.size w)
  obtain ⟨z0, z1⟩ := hz
  have hok : cal.okD date = true := (cal.okD_iff date).2 ⟨by omega, by omega⟩
  obtain ⟨f1, f2, f3⟩ := fd_ok hok
  have f4 := over_one hok
  have f5 := days_bd f1
  have f6 := from_bd f1
  obtain ⟨k, hk⟩ : ∃ r, fdR date = r := ⟨_, rfl⟩
  rw [hk] at f1 f2 f3 f4 f5 f6
  have f7 : rangeR k = ((fromM k, fromM k + daysR k), 0) := by unfold rangeR; rw [f1, if_pos rfl]
  have f8 := (okM_iff k).1 f1
  obtain ⟨p, hp⟩ : ∃ r, fromM k = r := ⟨_, rfl⟩
  obtain ⟨g, hg⟩ : ∃ r, daysR k = r := ⟨_, rfl⟩
  obtain ⟨q, hq⟩ : ∃ r, p + g = r := ⟨_, rfl⟩
  rw [hp, hg, hq] at f7 f3 f6
  rw [hp] at f2
  rw [hg] at f5
  obtain ⟨k0', k1'⟩ := f8
  obtain ⟨p0, p1⟩ := f6
  obtain ⟨g0, g1⟩ := f5
  have p0' : 0 ≤ p := p0
  have f3' : ¬ q ≤ date := by omega
  have f2' : ¬ date < p := by omega
  have hqp : q - p = g := by omega
  have F1 := Lib.hid hk
  have F2 := Lib.hid f7
  have F3 := Lib.hid hg
  have F4 := Lib.hid f4
  clear hk f7 hp hg hq f4 f1 hok
  have hml := hm
  have hmo : okM m = true := (okM_iff m).2 ⟨by omega, by omega⟩
  have u1 := days_bd hmo
  have u2 := from_bd hmo
  obtain ⟨t, ht⟩ := str_mk (textM m)
  have u3 : parseM t.data.toList = (m, 0) := by rw [ht]; exact parse_tm hmo
  have u4 : t.size ≤ 9223372036854775807 := by rw [txt.str_size ht, tm_length hmo]; decide
  have u5 : rangeR m = ((fromM m, fromM m + daysR m), 0) := by unfold rangeR; rw [hmo, if_pos rfl]
  have u6 := (fd_in (x := fromM m) hmo (Int.le_refl _) (by omega)).1
  have u7 := (fd_in (x := fromM m + daysR m - 1) hmo (by omega) (by omega)).1
  have u8 : rangeR (m + 1) = ((0, 0), 3) := by unfold rangeR; rw [show okM (m + 1) = false by cases h : okM (m + 1); rfl; exact absurd ((okM_iff _).1 h) (by omega)]; rfl
  have u9 := from_last
  subst hml
  obtain ⟨d, hd⟩ : ∃ r, fromM 3599 = r := ⟨_, rfl⟩
  obtain ⟨x, hx⟩ : ∃ r, daysR 3599 = r := ⟨_, rfl⟩
  obtain ⟨y, hy⟩ : ∃ r, d + x = r := ⟨_, rfl⟩
  rw [hd, hx, hy] at u5 u2 u7
  rw [hd] at u6
  rw [hx] at u1
  rw [hd, hx, hy] at u9
  subst u9
  rw [show (109573 : Int) - 1 = 109572 from rfl] at u7
  rw [show (3599 : Int) + 1 = 3600 from rfl] at u8
  obtain ⟨x0, x1⟩ := u1
  obtain ⟨y0, y1⟩ := u2
  have U1 := Lib.hid u5
  have U2 := Lib.hid ht
  have U3 := Lib.hid (And.intro u3 u4)
  have U4 := Lib.hid u6
  have U5 := Lib.hid u7
  have U6 := Lib.hid u8
  clear u3 u4 u5 u6 u7 u8 ht hd hx hmo
  have z2 : ¬ date < 0 := by omega
  have z3 : ¬ 109572 < date := by omega
  go_enter Tryd.func6, Tryd.ntmps6
  go_wp2_with (first
      | (go_at_call 10; (with_reducible refine (MFd_is date k _ ?_ F1.out).mono ?_); (exact he.below BB.out); rintro e w1 ⟨rfl, hbn⟩; have BB := Lib.hid (tr BB.out hbn); clear hbn)
      | (go_at_call 8; (with_reducible refine (MRange_is k p q 0 _ ?_ F2.out).mono ?_); (exact he.below BB.out); rintro e w2 ⟨rfl, hbn⟩; have BB := Lib.hid (tr BB.out hbn); clear hbn)
      | fail)
  have n0 : (w2.alloc (.cells #[.int .i64 p, .int .i64 q] 23)).cell? ⟨w2.heap.size, 0, none⟩ = some (.int .i64 p) := by simp [go_sem]
  have n1 : (w2.alloc (.cells #[.int .i64 p, .int .i64 q] 23)).cell? ⟨w2.heap.size, 1, none⟩ = some (.int .i64 q) := by simp [go_sem]
  have BB := Lib.hid (al BB.out (.cells #[.int .i64 p, .int .i64 q] 23))
  have d1 : decide (date < p) = false := decide_eq_false (by omega)
  have d2 : decide (q ≤ date) = false := decide_eq_false (by omega)
  have d3 : (g != g) = false := by simp
  have d4 : IntKind.i64.wrap (q - p) = g := by rw [hqp]; exact i64_in (by omega) (by omega)
  have d5 : IntKind.i64.wrap g = g := i64_in (by omega) (by omega)
  have d6 : IntKind.i64.wrap (date + 1) = date + 1 := i64_in (by omega) (by omega)
  go_region_held3 (fun w' => w'.cell? ⟨w2.heap.size, 0, none⟩ = some (.int .i64 p) ∧ w'.cell? ⟨w2.heap.size, 1, none⟩ = some (.int .i64 q))
    (first | go_keep | (go_split_ands; refine ⟨held hbn ?_, held hbn ?_⟩ <;> assumption))
    (first
      | (go_at_call 12; (with_reducible refine (MDays_is k g _ ?_ F3.out).mono ?_); (exact (by first | exact he.below BB.out | exact he.below (below_drewN BB.out _) | exact he.below (below_drewN BB.out 1))); rintro e wn ⟨rfl, hbn⟩; have BB := (by first | exact Lib.hid (tr BB.out hbn) | exact Lib.hid (tr (below_drewN BB.out _) hbn) | exact Lib.hid (tr (below_drewN BB.out 1) hbn) : Hid (Below w.heap.size w wn)))
      | (go_at_call 14; (with_reducible refine (MOver_is k date (date + 1) 1 _ ?_ F4.out).mono ?_); (exact (by first | exact he.below BB.out | exact he.below (below_drewN BB.out _) | exact he.below (below_drewN BB.out 1))); rintro e wn ⟨rfl, hbn⟩; have BB := (by first | exact Lib.hid (tr BB.out hbn) | exact Lib.hid (tr (below_drewN BB.out _) hbn) | exact Lib.hid (tr (below_drewN BB.out 1) hbn) : Hid (Below w.heap.size w wn)))
      | fail)
  go_wp2_with (first
      | (go_at_call 8; (with_reducible refine (MRange_is 3599 d 109573 0 _ ?_ U1.out).mono ?_); (exact he.below BB.out); rintro e w4 ⟨rfl, hbn⟩; have c0 : (w4.alloc (.cells #[.int .i64 d, .int .i64 109573] 23)).cell? ⟨w4.heap.size, 0, none⟩ = some (.int .i64 d) := (by simp [go_sem]); have c1 : (w4.alloc (.cells #[.int .i64 d, .int .i64 109573] 23)).cell? ⟨w4.heap.size, 1, none⟩ = some (.int .i64 109573) := (by simp [go_sem]); have BB := Lib.hid (al (tr BB.out hbn) (.cells #[.int .i64 d, .int .i64 109573] 23)); clear hbn)
      | (go_at_call 21; (with_reducible refine (MFormat_is 3599 t _ ?_ U2.out).mono ?_); (exact he.below BB.out); rintro e w5 ⟨rfl, hbn⟩; replace c0 := held hbn c0; replace c1 := held hbn c1; have BB := Lib.hid (tr BB.out hbn); clear hbn)
      | (go_at_call 19; (with_reducible refine (MParse_is t 3599 0 _ ?_ U3.out.1 U3.out.2).mono ?_); (exact he.below BB.out); rintro e w6 ⟨rfl, hbn⟩; replace c0 := held hbn c0; replace c1 := held hbn c1; have BB := Lib.hid (tr BB.out hbn); clear hbn)
      | (go_at_call 10; (with_reducible refine (MFd_is d 3599 _ ?_ U4.out).mono ?_); (exact he.below BB.out); rintro e w7 ⟨rfl, hbn⟩; replace c0 := held hbn c0; replace c1 := held hbn c1; have BB := Lib.hid (tr BB.out hbn); clear hbn)
      | (go_at_call 10; (with_reducible refine (MFd_is 109572 3599 _ ?_ U5.out).mono ?_); (exact he.below BB.out); rintro e w8 ⟨rfl, hbn⟩; replace c0 := held hbn c0; replace c1 := held hbn c1; have BB := Lib.hid (tr BB.out hbn); clear hbn)
      | (go_at_call 8; (with_reducible refine (MRange_is 3600 0 0 3 _ ?_ U6.out).mono ?_); (exact he.below BB.out); rintro e w9 ⟨rfl, hbn⟩; replace c0 := held hbn c0; replace c1 := held hbn c1; replace c0 := held_al (.cells #[.int .i64 0, .int .i64 0] 23) c0; replace c1 := held_al (.cells #[.int .i64 0, .int .i64 0] 23) c1; have hbn := al hbn (.cells #[.int .i64 0, .int .i64 0] 23); have BB := Lib.hid (tr BB.out hbn); clear hbn)
      | (go_at_call 16; (with_reducible refine (awake_is _ ?_).mono ?_); (exact he.below BB.out); rintro e wn ⟨rfl, hbn⟩; have BB := Lib.hid (tr BB.out hbn); clear hbn)
      | fail)
  go_ret
  exact ⟨rfl, BB.out⟩

set_option maxRecDepth 4000 in
set_option maxHeartbeats 8000000 in
theorem part_in_mzero (date m : Int) (w : World) (he : Env w) (hz : 0 ≤ date ∧ date ≤ 109572) (hm : m = 0) : Calls Tryd.prog 6 #[.int .i64 date, .int .i64 m] w (GivesB w true) := by
  have BB := Lib.hid (Below.refl w.heap.size w)
  obtain ⟨z0, z1⟩ := hz
  have hok : cal.okD date = true := (cal.okD_iff date).2 ⟨by omega, by omega⟩
  obtain ⟨f1, f2, f3⟩ := fd_ok hok
  have f4 := over_one hok
  have f5 := days_bd f1
  have f6 := from_bd f1
  obtain ⟨k, hk⟩ : ∃ r, fdR date = r := ⟨_, rfl⟩
  rw [hk] at f1 f2 f3 f4 f5 f6
  have f7 : rangeR k = ((fromM k, fromM k + daysR k), 0) := by unfold rangeR; rw [f1, if_pos rfl]
  have f8 := (okM_iff k).1 f1
  obtain ⟨p, hp⟩ : ∃ r, fromM k = r := ⟨_, rfl⟩
  obtain ⟨g, hg⟩ : ∃ r, daysR k = r := ⟨_, rfl⟩
  obtain ⟨q, hq⟩ : ∃ r, p + g = r := ⟨_, rfl⟩
  rw [hp, hg, hq] at f7 f3 f6
  rw [hp] at f2
  rw [hg] at f5
  obtain ⟨k0', k1'⟩ := f8
  obtain ⟨p0, p1⟩ := f6
  obtain ⟨g0, g1⟩ := f5
  have p0' : 0 ≤ p := p0
  have f3' : ¬ q ≤ date := by omega
  have f2' : ¬ date < p := by omega
  have hqp : q - p = g := by omega
  have F1 := Lib.hid hk
  have F2 := Lib.hid f7
  have F3 := Lib.hid hg
  have F4 := Lib.hid f4
  clear hk f7 hp hg hq f4 f1 hok
  have hml := hm
  have hmo : okM m = true := (okM_iff m).2 ⟨by omega, by omega⟩
  have u1 := days_bd hmo
  have u2 := from_bd hmo
  obtain ⟨t, ht⟩ := str_mk (textM m)
  have u3 : parseM t.data.toList = (m, 0) := by rw [ht]; exact parse_tm hmo
  have u4 : t.size ≤ 9223372036854775807 := by rw [txt.str_size ht, tm_length hmo]; decide
  have u5 : rangeR m = ((fromM m, fromM m + daysR m), 0) := by unfold rangeR; rw [hmo, if_pos rfl]
  have u6 := (fd_in (x := fromM m) hmo (Int.le_refl _) (by omega)).1
  have u7 := (fd_in (x := fromM m + daysR m - 1) hmo (by omega) (by omega)).1
  have u8 : rangeR (m + 1) = ((fromM m + daysR m, fromM (m + 1) + daysR (m + 1)), 0) := by unfold rangeR; rw [show okM (m + 1) = true from (okM_iff _).2 ⟨by omega, by omega⟩, if_pos rfl, from_next (by omega) (by omega)]
  obtain ⟨v, hvv⟩ : ∃ r, fromM (m + 1) + daysR (m + 1) = r := ⟨_, rfl⟩
  rw [hvv] at u8
  have u9 := from_zero
  subst hml
  obtain ⟨d, hd⟩ : ∃ r, fromM 0 = r := ⟨_, rfl⟩
  obtain ⟨x, hx⟩ : ∃ r, daysR 0 = r := ⟨_, rfl⟩
  obtain ⟨y, hy⟩ : ∃ r, d + x = r := ⟨_, rfl⟩
  rw [hd, hx, hy] at u5 u2 u7
  rw [hd] at u6
  rw [hx] at u1
  rw [hd, hx, hy] at u8
  rw [hd] at u9
  subst u9
  rw [show (0 : Int) + 1 = 1 from rfl] at u8
  obtain ⟨x0, x1⟩ := u1
  obtain ⟨y0, y1⟩ := u2
  have U1 := Lib.hid u5
  have U2 := Lib.hid ht
  have U3 := Lib.hid (And.intro u3 u4)
  have U4 := Lib.hid u6
  have U5 := Lib.hid u7
  have U6 := Lib.hid u8
  clear u3 u4 u5 u6 u7 u8 ht hd hx hmo
  have z2 : ¬ date < 0 := by omega
  have z3 : ¬ 109572 < date := by omega
  go_enter Tryd.func6, Tryd.ntmps6
  go_wp2_with (first
      | (go_at_call 10; (with_reducible refine (MFd_is date k _ ?_ F1.out).mono ?_); (exact he.below BB.out); rintro e w1 ⟨rfl, hbn⟩; have BB := Lib.hid (tr BB.out hbn); clear hbn)
      | (go_at_call 8; (with_reducible refine (MRange_is k p q 0 _ ?_ F2.out).mono ?_); (exact he.below BB.out); rintro e w2 ⟨rfl, hbn⟩; have BB := Lib.hid (tr BB.out hbn); clear hbn)
      | fail)
  have n0 : (w2.alloc (.cells #[.int .i64 p, .int .i64 q] 23)).cell? ⟨w2.heap.size, 0, none⟩ = some (.int .i64 p) := by simp [go_sem]
  have n1 : (w2.alloc (.cells #[.int .i64 p, .int .i64 q] 23)).cell? ⟨w2.heap.size, 1, none⟩ = some (.int .i64 q) := by simp [go_sem]
  have BB := Lib.hid (al BB.out (.cells #[.int .i64 p, .int .i64 q] 23))
  have d1 : decide (date < p) = false := decide_eq_false (by omega)
  have d2 : decide (q ≤ date) = false := decide_eq_false (by omega)
  have d3 : (g != g) = false := by simp
  have d4 : IntKind.i64.wrap (q - p) = g := by rw [hqp]; exact i64_in (by omega) (by omega)
  have d5 : IntKind.i64.wrap g = g := i64_in (by omega) (by omega)
  have d6 : IntKind.i64.wrap (date + 1) = date + 1 := i64_in (by omega) (by omega)
  go_region_held3 (fun w' => w'.cell? ⟨w2.heap.size, 0, none⟩ = some (.int .i64 p) ∧ w'.cell? ⟨w2.heap.size, 1, none⟩ = some (.int .i64 q))
    (first | go_keep | (go_split_ands; refine ⟨held hbn ?_, held hbn ?_⟩ <;> assumption))
    (first
      | (go_at_call 12; (with_reducible refine (MDays_is k g _ ?_ F3.out).mono ?_); (exact (by first | exact he.below BB.out | exact he.below (below_drewN BB.out _) | exact he.below (below_drewN BB.out 1))); rintro e wn ⟨rfl, hbn⟩; have BB := (by first | exact Lib.hid (tr BB.out hbn) | exact Lib.hid (tr (below_drewN BB.out _) hbn) | exact Lib.hid (tr (below_drewN BB.out 1) hbn) : Hid (Below w.heap.size w wn)))
      | (go_at_call 14; (with_reducible refine (MOver_is k date (date + 1) 1 _ ?_ F4.out).mono ?_); (exact (by first | exact he.below BB.out | exact he.below (below_drewN BB.out _) | exact he.below (below_drewN BB.out 1))); rintro e wn ⟨rfl, hbn⟩; have BB := (by first | exact Lib.hid (tr BB.out hbn) | exact Lib.hid (tr (below_drewN BB.out _) hbn) | exact Lib.hid (tr (below_drewN BB.out 1) hbn) : Hid (Below w.heap.size w wn)))
      | fail)
  go_wp2_with (first
      | (go_at_call 8; (with_reducible refine (MRange_is 0 0 y 0 _ ?_ U1.out).mono ?_); (exact he.below BB.out); rintro e w4 ⟨rfl, hbn⟩; have c0 : (w4.alloc (.cells #[.int .i64 0, .int .i64 y] 23)).cell? ⟨w4.heap.size, 0, none⟩ = some (.int .i64 0) := (by simp [go_sem]); have c1 : (w4.alloc (.cells #[.int .i64 0, .int .i64 y] 23)).cell? ⟨w4.heap.size, 1, none⟩ = some (.int .i64 y) := (by simp [go_sem]); have BB := Lib.hid (al (tr BB.out hbn) (.cells #[.int .i64 0, .int .i64 y] 23)); clear hbn)
      | (go_at_call 21; (with_reducible refine (MFormat_is 0 t _ ?_ U2.out).mono ?_); (exact he.below BB.out); rintro e w5 ⟨rfl, hbn⟩; replace c0 := held hbn c0; replace c1 := held hbn c1; have BB := Lib.hid (tr BB.out hbn); clear hbn)
      | (go_at_call 19; (with_reducible refine (MParse_is t 0 0 _ ?_ U3.out.1 U3.out.2).mono ?_); (exact he.below BB.out); rintro e w6 ⟨rfl, hbn⟩; replace c0 := held hbn c0; replace c1 := held hbn c1; have BB := Lib.hid (tr BB.out hbn); clear hbn)
      | (go_at_call 10; (with_reducible refine (MFd_is 0 0 _ ?_ U4.out).mono ?_); (exact he.below BB.out); rintro e w7 ⟨rfl, hbn⟩; replace c0 := held hbn c0; replace c1 := held hbn c1; have BB := Lib.hid (tr BB.out hbn); clear hbn)
      | (go_at_call 10; (with_reducible refine (MFd_is (y - 1) 0 _ ?_ U5.out).mono ?_); (exact he.below BB.out); rintro e w8 ⟨rfl, hbn⟩; replace c0 := held hbn c0; replace c1 := held hbn c1; have BB := Lib.hid (tr BB.out hbn); clear hbn)
      | (go_at_call 8; (with_reducible refine (MRange_is 1 y v 0 _ ?_ U6.out).mono ?_); (exact he.below BB.out); rintro e w9 ⟨rfl, hbn⟩; replace c0 := held hbn c0; replace c1 := held hbn c1; replace c0 := held_al (.cells #[.int .i64 y, .int .i64 v] 23) c0; replace c1 := held_al (.cells #[.int .i64 y, .int .i64 v] 23) c1; have c2 : (w9.alloc (.cells #[.int .i64 y, .int .i64 v] 23)).cell? ⟨w9.heap.size, 0, none⟩ = some (.int .i64 y) := (by simp [go_sem]); have hbn := al hbn (.cells #[.int .i64 y, .int .i64 v] 23); have BB := Lib.hid (tr BB.out hbn); clear hbn)
      | (go_at_call 16; (with_reducible refine (awake_is _ ?_).mono ?_); (exact he.below BB.out); rintro e wn ⟨rfl, hbn⟩; have BB := Lib.hid (tr BB.out hbn); clear hbn)
      | fail)
  go_ret
  exact ⟨rfl, BB.out⟩

set_option maxRecDepth 4000 in
set_option maxHeartbeats 8000000 in
theorem part_in_mmid (date m : Int) (w : World) (he : Env w) (hz : 0 ≤ date ∧ date ≤ 109572) (hm : 0 < m ∧ m < 3599) : Calls Tryd.prog 6 #[.int .i64 date, .int .i64 m] w (GivesB w true) := by
  have BB := Lib.hid (Below.refl w.heap.size w)
  obtain ⟨z0, z1⟩ := hz
  have hok : cal.okD date = true := (cal.okD_iff date).2 ⟨by omega, by omega⟩
  obtain ⟨f1, f2, f3⟩ := fd_ok hok
  have f4 := over_one hok
  have f5 := days_bd f1
  have f6 := from_bd f1
  obtain ⟨k, hk⟩ : ∃ r, fdR date = r := ⟨_, rfl⟩
  rw [hk] at f1 f2 f3 f4 f5 f6
  have f7 : rangeR k = ((fromM k, fromM k + daysR k), 0) := by unfold rangeR; rw [f1, if_pos rfl]
  have f8 := (okM_iff k).1 f1
  obtain ⟨p, hp⟩ : ∃ r, fromM k = r := ⟨_, rfl⟩
  obtain ⟨g, hg⟩ : ∃ r, daysR k = r := ⟨_, rfl⟩
  obtain ⟨q, hq⟩ : ∃ r, p + g = r := ⟨_, rfl⟩
  rw [hp, hg, hq] at f7 f3 f6
  rw [hp] at f2
  rw [hg] at f5
  obtain ⟨k0', k1'⟩ := f8
  obtain ⟨p0, p1⟩ := f6
  obtain ⟨g0, g1⟩ := f5
  have p0' : 0 ≤ p := p0
  have f3' : ¬ q ≤ date := by omega
  have f2' : ¬ date < p := by omega
  have hqp : q - p = g := by omega
  have F1 := Lib.hid hk
  have F2 := Lib.hid f7
  have F3 := Lib.hid hg
  have F4 := Lib.hid f4
  clear hk f7 hp hg hq f4 f1 hok
  obtain ⟨m0, m1⟩ := hm
  have m2 : ¬ m < 0 := by omega
  have m3 : ¬ 3599 < m := by omega
  have m4 : (m == 3599) = false := by simp; omega
  have hmo : okM m = true := (okM_iff m).2 ⟨by omega, by omega⟩
  have u1 := days_bd hmo
  have u2 := from_bd hmo
  obtain ⟨t, ht⟩ := str_mk (textM m)
  have u3 : parseM t.data.toList = (m, 0) := by rw [ht]; exact parse_tm hmo
  have u4 : t.size ≤ 9223372036854775807 := by rw [txt.str_size ht, tm_length hmo]; decide
  have u5 : rangeR m = ((fromM m, fromM m + daysR m), 0) := by unfold rangeR; rw [hmo, if_pos rfl]
  have u6 := (fd_in (x := fromM m) hmo (Int.le_refl _) (by omega)).1
  have u7 := (fd_in (x := fromM m + daysR m - 1) hmo (by omega) (by omega)).1
  have u8 : rangeR (m + 1) = ((fromM m + daysR m, fromM (m + 1) + daysR (m + 1)), 0) := by unfold rangeR; rw [show okM (m + 1) = true from (okM_iff _).2 ⟨by omega, by omega⟩, if_pos rfl, from_next (by omega) (by omega)]
  obtain ⟨v, hvv⟩ : ∃ r, fromM (m + 1) + daysR (m + 1) = r := ⟨_, rfl⟩
  rw [hvv] at u8
  obtain ⟨d, hd⟩ : ∃ r, fromM m = r := ⟨_, rfl⟩
  obtain ⟨x, hx⟩ : ∃ r, daysR m = r := ⟨_, rfl⟩
  obtain ⟨y, hy⟩ : ∃ r, d + x = r := ⟨_, rfl⟩
  rw [hd, hx, hy] at u5 u2 u7
  rw [hd] at u6
  rw [hx] at u1
  rw [hd, hx, hy] at u8
  obtain ⟨x0, x1⟩ := u1
  obtain ⟨y0, y1⟩ := u2
  have U1 := Lib.hid u5
  have U2 := Lib.hid ht
  have U3 := Lib.hid (And.intro u3 u4)
  have U4 := Lib.hid u6
  have U5 := Lib.hid u7
  have U6 := Lib.hid u8
  clear u3 u4 u5 u6 u7 u8 ht hd hx hmo
  have z2 : ¬ date < 0 := by omega
  have z3 : ¬ 109572 < date := by omega
  go_enter Tryd.func6, Tryd.ntmps6
  go_wp2_with (first
      | (go_at_call 10; (with_reducible refine (MFd_is date k _ ?_ F1.out).mono ?_); (exact he.below BB.out); rintro e w1 ⟨rfl, hbn⟩; have BB := Lib.hid (tr BB.out hbn); clear hbn)
      | (go_at_call 8; (with_reducible refine (MRange_is k p q 0 _ ?_ F2.out).mono ?_); (exact he.below BB.out); rintro e w2 ⟨rfl, hbn⟩; have BB := Lib.hid (tr BB.out hbn); clear hbn)
      | fail)
  have n0 : (w2.alloc (.cells #[.int .i64 p, .int .i64 q] 23)).cell? ⟨w2.heap.size, 0, none⟩ = some (.int .i64 p) := by simp [go_sem]
  have n1 : (w2.alloc (.cells #[.int .i64 p, .int .i64 q] 23)).cell? ⟨w2.heap.size, 1, none⟩ = some (.int .i64 q) := by simp [go_sem]
  have BB := Lib.hid (al BB.out (.cells #[.int .i64 p, .int .i64 q] 23))
  have d1 : decide (date < p) = false := decide_eq_false (by omega)
  have d2 : decide (q ≤ date) = false := decide_eq_false (by omega)
  have d3 : (g != g) = false := by simp
  have d4 : IntKind.i64.wrap (q - p) = g := by rw [hqp]; exact i64_in (by omega) (by omega)
  have d5 : IntKind.i64.wrap g = g := i64_in (by omega) (by omega)
  have d6 : IntKind.i64.wrap (date + 1) = date + 1 := i64_in (by omega) (by omega)
  go_region_held3 (fun w' => w'.cell? ⟨w2.heap.size, 0, none⟩ = some (.int .i64 p) ∧ w'.cell? ⟨w2.heap.size, 1, none⟩ = some (.int .i64 q))
    (first | go_keep | (go_split_ands; refine ⟨held hbn ?_, held hbn ?_⟩ <;> assumption))
    (first
      | (go_at_call 12; (with_reducible refine (MDays_is k g _ ?_ F3.out).mono ?_); (exact (by first | exact he.below BB.out | exact he.below (below_drewN BB.out _) | exact he.below (below_drewN BB.out 1))); rintro e wn ⟨rfl, hbn⟩; have BB := (by first | exact Lib.hid (tr BB.out hbn) | exact Lib.hid (tr (below_drewN BB.out _) hbn) | exact Lib.hid (tr (below_drewN BB.out 1) hbn) : Hid (Below w.heap.size w wn)))
      | (go_at_call 14; (with_reducible refine (MOver_is k date (date + 1) 1 _ ?_ F4.out).mono ?_); (exact (by first | exact he.below BB.out | exact he.below (below_drewN BB.out _) | exact he.below (below_drewN BB.out 1))); rintro e wn ⟨rfl, hbn⟩; have BB := (by first | exact Lib.hid (tr BB.out hbn) | exact Lib.hid (tr (below_drewN BB.out _) hbn) | exact Lib.hid (tr (below_drewN BB.out 1) hbn) : Hid (Below w.heap.size w wn)))
      | fail)
  go_wp2_with (first
      | (go_at_call 8; (with_reducible refine (MRange_is m d y 0 _ ?_ U1.out).mono ?_); (exact he.below BB.out); rintro e w4 ⟨rfl, hbn⟩; have c0 : (w4.alloc (.cells #[.int .i64 d, .int .i64 y] 23)).cell? ⟨w4.heap.size, 0, none⟩ = some (.int .i64 d) := (by simp [go_sem]); have c1 : (w4.alloc (.cells #[.int .i64 d, .int .i64 y] 23)).cell? ⟨w4.heap.size, 1, none⟩ = some (.int .i64 y) := (by simp [go_sem]); have BB := Lib.hid (al (tr BB.out hbn) (.cells #[.int .i64 d, .int .i64 y] 23)); clear hbn)
      | (go_at_call 21; (with_reducible refine (MFormat_is m t _ ?_ U2.out).mono ?_); (exact he.below BB.out); rintro e w5 ⟨rfl, hbn⟩; replace c0 := held hbn c0; replace c1 := held hbn c1; have BB := Lib.hid (tr BB.out hbn); clear hbn)
      | (go_at_call 19; (with_reducible refine (MParse_is t m 0 _ ?_ U3.out.1 U3.out.2).mono ?_); (exact he.below BB.out); rintro e w6 ⟨rfl, hbn⟩; replace c0 := held hbn c0; replace c1 := held hbn c1; have BB := Lib.hid (tr BB.out hbn); clear hbn)
      | (go_at_call 10; (with_reducible refine (MFd_is d m _ ?_ U4.out).mono ?_); (exact he.below BB.out); rintro e w7 ⟨rfl, hbn⟩; replace c0 := held hbn c0; replace c1 := held hbn c1; have BB := Lib.hid (tr BB.out hbn); clear hbn)
      | (go_at_call 10; (with_reducible refine (MFd_is (y - 1) m _ ?_ U5.out).mono ?_); (exact he.below BB.out); rintro e w8 ⟨rfl, hbn⟩; replace c0 := held hbn c0; replace c1 := held hbn c1; have BB := Lib.hid (tr BB.out hbn); clear hbn)
      | (go_at_call 8; (with_reducible refine (MRange_is (m + 1) y v 0 _ ?_ U6.out).mono ?_); (exact he.below BB.out); rintro e w9 ⟨rfl, hbn⟩; replace c0 := held hbn c0; replace c1 := held hbn c1; replace c0 := held_al (.cells #[.int .i64 y, .int .i64 v] 23) c0; replace c1 := held_al (.cells #[.int .i64 y, .int .i64 v] 23) c1; have c2 : (w9.alloc (.cells #[.int .i64 y, .int .i64 v] 23)).cell? ⟨w9.heap.size, 0, none⟩ = some (.int .i64 y) := (by simp [go_sem]); have hbn := al hbn (.cells #[.int .i64 y, .int .i64 v] 23); have BB := Lib.hid (tr BB.out hbn); clear hbn)
      | (go_at_call 16; (with_reducible refine (awake_is _ ?_).mono ?_); (exact he.below BB.out); rintro e wn ⟨rfl, hbn⟩; have BB := Lib.hid (tr BB.out hbn); clear hbn)
      | fail)
  go_ret
  exact ⟨rfl, BB.out⟩

theorem walk_MonthPartition (date m : Int) (w : World) (he : Env w) : Calls Tryd.prog 6 #[.int .i64 date, .int .i64 m] w (GivesB w true) := by
  have ha : date < 0 ∨ 109572 < date ∨ (0 ≤ date ∧ date ≤ 109572) := by omega
  have hb : m < 0 ∨ (¬ m < 0 ∧ 3599 < m) ∨ m = 3599 ∨ m = 0 ∨ (0 < m ∧ m < 3599) := by omega
  rcases ha with ha | ha | ha <;> rcases hb with hb | hb | hb | hb | hb
  · exact part_neg_mneg date m w he ha hb
  · exact part_neg_mbig date m w he ha hb
  · exact part_neg_mlast date m w he ha hb
  · exact part_neg_mzero date m w he ha hb
  · exact part_neg_mmid date m w he ha hb
  · exact part_big_mneg date m w he ha hb
  · exact part_big_mbig date m w he ha hb
  · exact part_big_mlast date m w he ha hb
  · exact part_big_mzero date m w he ha hb
  · exact part_big_mmid date m w he ha hb
  · exact part_in_mneg date m w he ha hb
  · exact part_in_mbig date m w he ha hb
  · exact part_in_mlast date m w he ha hb
  · exact part_in_mzero date m w he ha hb
  · exact part_in_mmid date m w he ha hb
end Go.Proofs.YtmmohbmgodiilaaDoor.mon
