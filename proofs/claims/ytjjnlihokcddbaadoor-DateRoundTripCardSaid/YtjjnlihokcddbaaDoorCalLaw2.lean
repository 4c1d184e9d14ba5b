/-
  The laws DateRoundTrip and DateAnniversary walked.
-/
import Derived.Test.YtjjnlihokcddbaaDoorCalLaw1
namespace Go.Proofs.YtjjnlihokcddbaaDoor.cal
open Go Go.RowKit Go.Proofs.YtjjnlihokcddbaaDoor.money Go.Proofs.YtjjnlihokcddbaaDoor.txt
set_option linter.unusedVariables false

theorem wk_next {n : Int} (h0 : 0 ≤ n) (h1 : n < 109572) : ∃ k k' : Int, wkR n = k ∧ wkR (n + 1) = k' ∧ (k + 1).tmod 7 = k' ∧ 0 ≤ k ∧ k ≤ 6 := by
  refine ⟨_, _, rfl, rfl, ?_⟩
  have e0 : okD n = true := (okD_iff n).2 ⟨h0, by omega⟩
  have e1 : okD (n + 1) = true := (okD_iff _).2 ⟨by omega, by omega⟩
  unfold wkR
  rw [if_pos e0, if_pos e1, Int.tmod_eq_emod_of_nonneg (by omega)]
  omega
theorem parse_of {t : ByteArray} {n : Int} (h : okD n = true) (ht : t.data.toList = textR n) : parseD t.data.toList = (n, 0) ∧ t.size ≤ 9223372036854775807 := by
  refine ⟨by rw [ht]; exact parse_text h, ?_⟩
  have : t.size = t.data.toList.length := by simp
  rw [this, ht, text_length h]; decide

set_option maxRecDepth 4000 in
set_option maxHeartbeats 4000000 in
theorem walk_DateRoundTrip (n : Int) (w : World) (he : Env w) : Calls Tryd.prog 6 #[.int .i64 n] w (True64 w) := by
  by_cases hin : 0 ≤ n ∧ n ≤ 109572
  · obtain ⟨n0, n1⟩ := hin
    have hok : okD n = true := (okD_iff n).2 ⟨n0, n1⟩
    have I := Is.of n hok
    obtain ⟨k, hk⟩ : ∃ k, kOf n = k := ⟨_, rfl⟩
    obtain ⟨j, hj⟩ : ∃ j, jOf n = j := ⟨_, rfl⟩
    obtain ⟨d, hd⟩ : ∃ d, dOf n = d := ⟨_, rfl⟩
    rw [hk, hj, hd] at I
    obtain ⟨x, hx⟩ : ∃ x, dim (1900 + (k : Int)) ((j : Int) + 1) = x := ⟨_, rfl⟩
    have hto := I.to
    have hfr := I.from
    obtain ⟨y, hy⟩ : ∃ y, 1900 + (k : Int) = y := ⟨_, rfl⟩
    obtain ⟨m, hm⟩ : ∃ m, (j : Int) + 1 = m := ⟨_, rfl⟩
    have hd0 := I.d0
    have hd1 := I.d1
    have hx1 := dim_bd (1900 + (k : Int)) ((j : Int) + 1)
    have hk1 := I.k1
    have hj1 := I.j1
    have hnext : n < 109572 → (d < x ∧ toR (n + 1) = (y, m, d + 1)) ∨ (d = x ∧ m ≤ 11 ∧ toR (n + 1) = (y, m + 1, 1)) ∨ (d = x ∧ m = 12 ∧ toR (n + 1) = (y + 1, 1, 1)) := by
      intro h
      rcases I.next h with ⟨g1, g2⟩ | ⟨g1, g2, g3⟩ | ⟨g1, g2, g3⟩
      · exact .inl ⟨by omega, by rw [g2.to, hy, hm]⟩
      · refine .inr (.inl ⟨by omega, by omega, ?_⟩)
        rw [g3.to, hy, ← hm]; rfl
      · refine .inr (.inr ⟨by omega, by omega, ?_⟩)
        rw [g3.to, ← hy]
        simp only [Int.natCast_add, Int.natCast_one, Int.add_assoc]
        rfl
    rw [hx] at hd1 hx1
    rw [hy, hm] at hto hfr hx
    have y0 : 1900 ≤ y := by omega
    have y1 : y ≤ 2199 := by omega
    have m0 : 1 ≤ m := by omega
    have m1 : m ≤ 12 := by omega
    obtain ⟨t, ht⟩ := str_mk (textR n)
    obtain ⟨hp, hs⟩ := parse_of hok ht
    obtain ⟨-, x31⟩ := hx1
    have g1 : ¬ n < 0 := by omega
    have g2 : ¬ 109572 < n := by omega
    have g3 : ¬ d < 1 := by omega
    have g4 : ¬ x < d := by omega
    clear I hk hj hd hok hy hm hk1 hj1
    have HT := Lib.hid hto
    have HF := Lib.hid hfr
    have HX := Lib.hid hx
    have HS := Lib.hid ht
    have HP := Lib.hid hp
    have HL := Lib.hid hs
    clear hto hfr hx ht hp hs
    by_cases hlast : n = 109572
    · clear hnext n0 n1 y0 y1 m0 m1 x31 g1 g2
      subst hlast
      go_enter Tryd.func6, Tryd.ntmps6
      go_wp2_with (first
        | (go_at_call 10; (with_reducible refine (ToYMD_is 109572 y m d _ he HT.out).mono ?_); rintro e' w1 ⟨rfl, hb1⟩; have he1 := he.below hb1)
        | (go_at_call 8; (with_reducible refine (FromYMD_is y m d 109572 0 _ he1 HF.out).mono ?_); rintro e' w2 ⟨rfl, hb2⟩; have he2 := he1.below hb2)
        | (go_at_call 25; (with_reducible refine (Format_is 109572 t _ he2 HS.out).mono ?_); rintro e' w3 ⟨rfl, hb3⟩; have he3 := he2.below hb3)
        | (go_at_call 23; (with_reducible refine (Parse_is t 109572 0 _ he3 HP.out HL.out).mono ?_); rintro e' w4 ⟨rfl, hb4⟩; have he4 := he3.below hb4)
        | (go_at_call 14; (with_reducible refine (DaysInMonth_is y m x _ he4 HX.out).mono ?_); rintro e' w5 ⟨rfl, hb5⟩; have he5 := he4.below hb5)
        | (go_at_call 16; (with_reducible refine (awake_is _ he5).mono ?_); rintro e' w9 ⟨rfl, hb9⟩)
        | fail)
      go_ret
      exact ⟨rfl, tr (tr (tr (tr (tr hb1 hb2) hb3) hb4) hb5) hb9⟩
    · have hne : (n == 109572) = false := by simpa using hlast
      obtain ⟨k, k', hk, hk', hkk, k0, k6⟩ := wk_next n0 (show n < 109572 by omega)
      have HK := Lib.hid hk
      have HK' := Lib.hid hk'
      clear hk hk'
      have nl : n < 109572 := by omega
      rcases hnext nl with ⟨a1, hq⟩ | ⟨rfl, a2, hq⟩ | ⟨rfl, rfl, hq⟩
      · have HQ := Lib.hid hq
        clear hq hnext
        go_enter Tryd.func6, Tryd.ntmps6
        go_wp2_with (first
          | (go_at_call 10; (with_reducible refine (ToYMD_is n y m d _ he HT.out).mono ?_); rintro e' w1 ⟨rfl, hb1⟩; have he1 := he.below hb1)
          | (go_at_call 8; (with_reducible refine (FromYMD_is y m d n 0 _ he1 HF.out).mono ?_); rintro e' w2 ⟨rfl, hb2⟩; have he2 := he1.below hb2)
          | (go_at_call 25; (with_reducible refine (Format_is n t _ he2 HS.out).mono ?_); rintro e' w3 ⟨rfl, hb3⟩; have he3 := he2.below hb3)
          | (go_at_call 23; (with_reducible refine (Parse_is t n 0 _ he3 HP.out HL.out).mono ?_); rintro e' w4 ⟨rfl, hb4⟩; have he4 := he3.below hb4)
          | (go_at_call 14; (with_reducible refine (DaysInMonth_is y m x _ he4 HX.out).mono ?_); rintro e' w5 ⟨rfl, hb5⟩; have he5 := he4.below hb5)
          | (go_at_call 10; (with_reducible refine (ToYMD_is (n + 1) y m (d + 1) _ he5 HQ.out).mono ?_); rintro e' w6 ⟨rfl, hb6⟩; have he6 := he5.below hb6)
          | (go_at_call 19; (with_reducible refine (Weekday_is (n + 1) k' _ he6 HK'.out).mono ?_); rintro e' w7 ⟨rfl, hb7⟩; have he7 := he6.below hb7)
          | (go_at_call 19; (with_reducible refine (Weekday_is n k _ he7 HK.out).mono ?_); rintro e' w8 ⟨rfl, hb8⟩; have he8 := he7.below hb8)
          | (go_at_call 16; (with_reducible refine (awake_is _ he8).mono ?_); rintro e' w9 ⟨rfl, hb9⟩)
          | fail)
        go_ret
        exact ⟨rfl, tr (tr (tr (tr (tr (tr (tr (tr hb1 hb2) hb3) hb4) hb5) hb6) hb7) hb8) hb9⟩
      · have HQ := Lib.hid hq
        have hm1 : (m + 1 == m) = false := by simp; omega
        clear hq hnext g4
        go_enter Tryd.func6, Tryd.ntmps6
        go_wp2_with (first
          | (go_at_call 10; (with_reducible refine (ToYMD_is n y m d _ he HT.out).mono ?_); rintro e' w1 ⟨rfl, hb1⟩; have he1 := he.below hb1)
          | (go_at_call 8; (with_reducible refine (FromYMD_is y m d n 0 _ he1 HF.out).mono ?_); rintro e' w2 ⟨rfl, hb2⟩; have he2 := he1.below hb2)
          | (go_at_call 25; (with_reducible refine (Format_is n t _ he2 HS.out).mono ?_); rintro e' w3 ⟨rfl, hb3⟩; have he3 := he2.below hb3)
          | (go_at_call 23; (with_reducible refine (Parse_is t n 0 _ he3 HP.out HL.out).mono ?_); rintro e' w4 ⟨rfl, hb4⟩; have he4 := he3.below hb4)
          | (go_at_call 14; (with_reducible refine (DaysInMonth_is y m d _ he4 HX.out).mono ?_); rintro e' w5 ⟨rfl, hb5⟩; have he5 := he4.below hb5)
          | (go_at_call 10; (with_reducible refine (ToYMD_is (n + 1) y (m + 1) 1 _ he5 HQ.out).mono ?_); rintro e' w6 ⟨rfl, hb6⟩; have he6 := he5.below hb6)
          | (go_at_call 14; (with_reducible refine (DaysInMonth_is y m d _ he6 HX.out).mono ?_); rintro e' w10 ⟨rfl, hb10⟩; have he10 := he6.below hb10)
          | (go_at_call 19; (with_reducible refine (Weekday_is (n + 1) k' _ he10 HK'.out).mono ?_); rintro e' w7 ⟨rfl, hb7⟩; have he7 := he10.below hb7)
          | (go_at_call 19; (with_reducible refine (Weekday_is n k _ he7 HK.out).mono ?_); rintro e' w8 ⟨rfl, hb8⟩; have he8 := he7.below hb8)
          | (go_at_call 16; (with_reducible refine (awake_is _ he8).mono ?_); rintro e' w9 ⟨rfl, hb9⟩)
          | fail)
        go_ret
        exact ⟨rfl, tr (tr (tr (tr (tr (tr (tr (tr (tr hb1 hb2) hb3) hb4) hb5) hb6) hb10) hb7) hb8) hb9⟩
      · have HQ := Lib.hid hq
        have hm1 : (y + 1 == y) = false := by simp; omega
        clear hq hnext g4
        go_enter Tryd.func6, Tryd.ntmps6
        go_wp2_with (first
          | (go_at_call 10; (with_reducible refine (ToYMD_is n y 12 d _ he HT.out).mono ?_); rintro e' w1 ⟨rfl, hb1⟩; have he1 := he.below hb1)
          | (go_at_call 8; (with_reducible refine (FromYMD_is y 12 d n 0 _ he1 HF.out).mono ?_); rintro e' w2 ⟨rfl, hb2⟩; have he2 := he1.below hb2)
          | (go_at_call 25; (with_reducible refine (Format_is n t _ he2 HS.out).mono ?_); rintro e' w3 ⟨rfl, hb3⟩; have he3 := he2.below hb3)
          | (go_at_call 23; (with_reducible refine (Parse_is t n 0 _ he3 HP.out HL.out).mono ?_); rintro e' w4 ⟨rfl, hb4⟩; have he4 := he3.below hb4)
          | (go_at_call 14; (with_reducible refine (DaysInMonth_is y 12 d _ he4 HX.out).mono ?_); rintro e' w5 ⟨rfl, hb5⟩; have he5 := he4.below hb5)
          | (go_at_call 10; (with_reducible refine (ToYMD_is (n + 1) (y + 1) 1 1 _ he5 HQ.out).mono ?_); rintro e' w6 ⟨rfl, hb6⟩; have he6 := he5.below hb6)
          | (go_at_call 14; (with_reducible refine (DaysInMonth_is y 12 d _ he6 HX.out).mono ?_); rintro e' w10 ⟨rfl, hb10⟩; have he10 := he6.below hb10)
          | (go_at_call 19; (with_reducible refine (Weekday_is (n + 1) k' _ he10 HK'.out).mono ?_); rintro e' w7 ⟨rfl, hb7⟩; have he7 := he10.below hb7)
          | (go_at_call 19; (with_reducible refine (Weekday_is n k _ he7 HK.out).mono ?_); rintro e' w8 ⟨rfl, hb8⟩; have he8 := he7.below hb8)
          | (go_at_call 16; (with_reducible refine (awake_is _ he8).mono ?_); rintro e' w9 ⟨rfl, hb9⟩)
          | fail)
        go_ret
        exact ⟨rfl, tr (tr (tr (tr (tr (tr (tr (tr (tr hb1 hb2) hb3) hb4) hb5) hb6) hb10) hb7) hb8) hb9⟩
  · have hok : okD n = false := by
      cases h : okD n
      · rfl
      · exact absurd ((okD_iff n).1 h) hin
    have H1 := Lib.hid (show toR n = (0, 0, 0) by unfold toR; rw [hok]; rfl)
    have H2 := Lib.hid (show (⟨#[]⟩ : ByteArray).data.toList = textR n by unfold textR; rw [hok]; rfl)
    have H3 := Lib.hid (show wkR n = -1 by unfold wkR; rw [hok]; rfl)
    clear hok
    rcases (show n < 0 ∨ (¬ n < 0 ∧ 109572 < n) by omega) with g | ⟨g, g2⟩
    all_goals
      clear hin
      go_enter Tryd.func6, Tryd.ntmps6
      go_wp2_with (first
        | (go_at_call 10; (with_reducible refine (ToYMD_is n 0 0 0 _ he H1.out).mono ?_); rintro e' w1 ⟨rfl, hb1⟩; have he1 := he.below hb1)
        | (go_at_call 25; (with_reducible refine (Format_is n ⟨#[]⟩ _ he1 H2.out).mono ?_); rintro e' w3 ⟨rfl, hb3⟩; have he3 := he1.below hb3)
        | (go_at_call 19; (with_reducible refine (Weekday_is n (-1) _ he3 H3.out).mono ?_); rintro e' w7 ⟨rfl, hb7⟩; have he7 := he3.below hb7)
        | (go_at_call 16; (with_reducible refine (awake_is _ he7).mono ?_); rintro e' w9 ⟨rfl, hb9⟩)
        | fail)
      go_ret
      exact ⟨rfl, tr (tr (tr hb1 hb3) hb7) hb9⟩
end Go.Proofs.YtjjnlihokcddbaaDoor.cal
