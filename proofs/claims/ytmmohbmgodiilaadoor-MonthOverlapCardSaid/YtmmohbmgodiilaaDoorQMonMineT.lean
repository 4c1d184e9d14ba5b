/-
  What the landed Format and Parse of package month answer.
-/
import Derived.Test.YtmmohbmgodiilaaDoorQMonMineA
import Derived.Test.YtmmohbmgodiilaaDoorQMonRefText
import Derived.Test.YtmmohbmgodiilaaDoorQMonRefParse
import Derived.Test.YtmmohbmgodiilaaDoorQCalMineE
namespace Go.Proofs.YtmmohbmgodiilaaDoor.mon
open Go Go.RowKit Go.Proofs.YtmmohbmgodiilaaDoor.money
open Go.Proofs.YtmmohbmgodiilaaDoor.num (padTo digs val)
open Go.Proofs.YtmmohbmgodiilaaDoor.txt (str_mk str_size ext_list ret_str)
open Go.Proofs.YtmmohbmgodiilaaDoor.cal (dec_len2 dec_len4 textR text_parts parts_of parseD okText fromR Is kOf jOf dOf okD)
set_option linter.unusedVariables false
set_option linter.unusedSimpArgs false

/-- the text of a month is that of its first date, cut short -/
theorem tm_of {m : Int} (h : okM m = true) : textM m = (textR (fromM m)).take 7 := by
  have hdb := days_bd h
  have I := is_day (d := 1) h (by omega) (by omega)
  rw [show fromM m + (1 - 1) = fromM m by omega] at I
  have ho := I.ok
  obtain ⟨e1, e2, e3⟩ := (Is.of _ ho).unique I
  obtain ⟨a, b, c, e, h1, h2, h3, ea, eb, ec⟩ := text_parts ho
  unfold textM
  rw [if_pos h, e, show a ++ 45 :: (b ++ 45 :: c) = (a ++ 45 :: b) ++ 45 :: c by simp, List.take_append_of_le_length (by simp [h1, h2]), List.take_of_length_le (by simp [h1, h2]), ea, eb, e1, e2]

/-- the month of a text, read by the date of its first day -/
theorem parse_of (l : List UInt8) (h7 : l.length = 7) : ∃ a c : Int, parseD (l ++ [45, 48, 49]) = (a, c) ∧ parseM l = (if c = 0 then (fdR a, 0) else (0, c)) ∧ (c = 0 ∨ c = 2 ∨ c = 3) := by
  obtain ⟨x0, x1, x2, x3, x4, x5, x6, rfl⟩ : ∃ x0 x1 x2 x3 x4 x5 x6, l = [x0, x1, x2, x3, x4, x5, x6] := by
    match l, h7 with
    | [a, b, c, d, e, f, g], _ => exact ⟨a, b, c, d, e, f, g, rfl⟩
  have e1 : okText ([x0, x1, x2, x3, x4, x5, x6] ++ [45, 48, 49]) = okTM [x0, x1, x2, x3, x4, x5, x6] := by
    unfold okText okTM
    simp only [List.cons_append, List.nil_append]
    have : digs (([x0, x1, x2, x3, x4, x5, x6, 45, 48, 49] : List UInt8).drop 8) = true := rfl
    rw [this]
    simp
  unfold parseD parseM
  rw [e1]
  cases ho : okTM [x0, x1, x2, x3, x4, x5, x6]
  · exact ⟨0, 2, rfl, rfl, .inr (.inl rfl)⟩
  · have e2 : val (([x0, x1, x2, x3, x4, x5, x6] ++ [45, 48, 49] : List UInt8).drop 8) = 1 := rfl
    have e3 : (([x0, x1, x2, x3, x4, x5, x6] ++ [45, 48, 49] : List UInt8).take 4) = [x0, x1, x2, x3, x4, x5, x6].take 4 := rfl
    have e4 : ((([x0, x1, x2, x3, x4, x5, x6] ++ [45, 48, 49] : List UInt8).drop 5).take 2) = [x0, x1, x2, x3, x4, x5, x6].drop 5 := rfl
    rw [e2, e3, e4, if_pos rfl, if_pos rfl]
    obtain ⟨y, hy⟩ : ∃ y, val ([x0, x1, x2, x3, x4, x5, x6].take 4) = y := ⟨_, rfl⟩
    obtain ⟨z, hz⟩ : ∃ z, val ([x0, x1, x2, x3, x4, x5, x6].drop 5) = z := ⟨_, rfl⟩
    rw [hy, hz]
    unfold ymR
    by_cases g : (y : Int) < 1900 ∨ 2199 < (y : Int) ∨ (z : Int) < 1 ∨ 12 < (z : Int)
    · rw [if_pos g]
      refine ⟨0, 3, ?_, rfl, .inr (.inr rfl)⟩
      unfold fromR
      rw [if_pos]
      by_cases g1 : (y : Int) < 1900
      · exact .inl g1
      · by_cases g2 : 2199 < (y : Int)
        · exact .inr (.inl g2)
        · refine .inr (.inr (.inr ?_))
          have : ¬ 1 ≤ cal.dim (y : Int) (z : Int) := fun hd => by
            have := cal.dim_out hd
            omega
          simpa using (by omega : cal.dim (y : Int) (z : Int) < 1)
    · rw [if_neg g]
      have hM : okM (12 * ((y : Int) - 1900) + z - 1) = true := (okM_iff _).2 (by omega)
      have hfr := from_r hM
      rw [show 1900 + (12 * ((y : Int) - 1900) + (z : Int) - 1) / 12 = y by omega, show (12 * ((y : Int) - 1900) + (z : Int) - 1) % 12 + 1 = z by omega] at hfr
      have hdb := days_bd hM
      refine ⟨_, 0, hfr, ?_, .inl rfl⟩
      rw [if_pos rfl, (fd_in hM (Int.le_refl _) (by omega)).1]

set_option maxRecDepth 4000 in
set_option maxHeartbeats 2000000 in
theorem mTm_is (m : Int) (t : ByteArray) (w : World) (he : Env w) (ht : t.data.toList = textM m) : Calls Tryd.prog 21 #[.int .i64 m] w (GivesS w t) := by
  obtain ⟨⟨⟨p, q⟩, e0⟩, hr⟩ : ∃ r, rangeR m = r := ⟨_, rfl⟩
  have HR := Lib.hid hr
  cases hv : okM m
  · have hz : (⟨#[]⟩ : ByteArray) = t := ext_list (by rw [ht]; unfold textM; rw [hv]; rfl)
    unfold rangeR at hr
    rw [hv, if_neg (by decide)] at hr
    cases hr
    have HE := Lib.hid hz
    clear hz ht hv
    go_enter Tryd.func21, Tryd.ntmps21
    go_wp2_with (go_at_call 8; refine (mRange_is m 0 0 3 _ he HR.out).mono ?_; rintro e w1 ⟨rfl, hb1⟩)
    go_ret
    exact ⟨ret_str HE.out, al hb1 _⟩
  · unfold rangeR at hr
    rw [hv, if_pos rfl] at hr
    have hfb := from_bd hv
    have hdb := days_bd hv
    rw [tm_of hv] at ht
    obtain ⟨p', hp⟩ : ∃ p, fromM m = p := ⟨_, rfl⟩
    rw [hp] at hr ht hfb
    cases hr
    obtain ⟨s, hs⟩ := str_mk (textR p)
    have hsz : s.size = 10 := by rw [str_size hs]; exact cal.text_length ((cal.okD_iff _).2 (by omega))
    have hx : s.extract 0 7 = t := ext_list (by rw [Lib.extract_data, hs, ht]; simp)
    have s7 : 7 ≤ s.size := by omega
    have s8 : s.size ≤ 10 := by omega
    have HS := Lib.hid hs
    have HX := Lib.hid hx
    clear hs hx ht hv hsz hp hfb hdb
    go_enter Tryd.func21, Tryd.ntmps21
    go_wp2_with (first
      | (go_at_call 8; refine (mRange_is m p _ 0 _ he HR.out).mono ?_; rintro e w1 ⟨rfl, hb1⟩; have B1 := Lib.hid (al hb1 (.cells #[.int .i64 p, .int .i64 (p + daysR m)] 23)))
      | (go_at_call 38; refine (cal.mFormat_is p s _ (he.below B1.out) HS.out).mono ?_; rintro e w2 ⟨rfl, hb2⟩)
      | fail)
    go_ret
    exact ⟨ret_str HX.out, tr B1.out hb2⟩

set_option maxRecDepth 4000 in
set_option maxHeartbeats 2000000 in
theorem mPm_is (s : ByteArray) (a c : Int) (w : World) (he : Env w) (h : parseM s.data.toList = (a, c)) (hs : s.size ≤ 9223372036854775807) : Calls Tryd.prog 19 #[.string s] w (Gives w a c) := by
  by_cases hz : s.size = 7
  · obtain ⟨n, e0, hp, hm, hc⟩ := parse_of s.data.toList (by rw [← Lib.size_eq]; exact hz)
    rw [h] at hm
    obtain ⟨t, ht⟩ : ∃ t : ByteArray, s ++ ({ data := #[45, 48, 49] } : ByteArray) = t := ⟨_, rfl⟩
    have htl : t.data.toList = s.data.toList ++ [45, 48, 49] := by rw [← ht]; simp
    rw [← htl] at hp
    have hts : t.size = 10 := by rw [str_size htl, List.length_append, ← Lib.size_eq, hz]; rfl
    have hts' : t.size ≤ 9223372036854775807 := by omega
    have HT := Lib.hid ht
    have HP := Lib.hid hp
    have HZ := Lib.hid hts'
    have hzi : ((s.size : Int) != 7) = false := by simp; omega
    have hz2 : s.size ≤ 7 := by omega
    by_cases hc0 : e0 = 0
    · subst hc0
      rw [if_pos rfl] at hm
      cases hm
      clear ht htl hp hts hts' hc h hz
      obtain ⟨v, hv⟩ : ∃ v, fdR n = v := ⟨_, rfl⟩
      have HV := Lib.hid hv
      rw [hv]
      clear hv
      go_enter Tryd.func19, Tryd.ntmps19
      go_wp2_with (first
        | (go_at_call 36; rw [HT.out]; refine (cal.mParse_is t n 0 _ he HP.out HZ.out).mono ?_; rintro e w1 ⟨rfl, hb1⟩)
        | (go_at_call 10; refine (mFd_is n v _ (he.below hb1) HV.out).mono ?_; rintro e w2 ⟨rfl, rfl⟩)
        | fail)
      go_ret2
      exact ⟨rfl, hb1⟩
    · rw [if_neg hc0] at hm
      cases hm
      have hne : (c == 0) = false := by simpa using hc0
      have hcb : 0 ≤ c ∧ c ≤ 3 := by omega
      clear ht htl hp hts hts' hc h hz
      go_enter Tryd.func19, Tryd.ntmps19
      go_wp2_with (first
        | (go_at_call 36; rw [HT.out]; refine (cal.mParse_is t n c _ he HP.out HZ.out).mono ?_; rintro e w1 ⟨rfl, hb1⟩)
        | fail)
      go_ret2
      exact ⟨rfl, hb1⟩
  · have hb : okTM s.data.toList = false := okTM_len (by rw [← Lib.size_eq]; exact hz)
    unfold parseM at h
    rw [hb, if_neg (by decide)] at h
    cases h
    have hzi : ((s.size : Int) != 7) = true := by simp; omega
    clear hb hz
    go_enter Tryd.func19, Tryd.ntmps19
    go_wp2
    go_ret2
    exact ⟨rfl, Below.refl _ _⟩
end Go.Proofs.YtmmohbmgodiilaaDoor.mon
