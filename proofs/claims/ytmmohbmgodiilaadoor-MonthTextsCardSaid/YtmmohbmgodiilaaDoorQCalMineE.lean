/-
  What package date's Format and Parse answer.
-/
import Derived.Test.YtmmohbmgodiilaaDoorQCalMineD
namespace Go.Proofs.YtmmohbmgodiilaaDoor.cal
open Go Go.RowKit Go.Proofs.YtmmohbmgodiilaaDoor.money
open Go.Proofs.YtmmohbmgodiilaaDoor.num (padTo digs val)
open Go.Proofs.YtmmohbmgodiilaaDoor.txt (str_mk str_size ext_list ret_str)
set_option linter.unusedVariables false

theorem dec_le4 {u : Nat} (h : u < 10000) : (Lib.decDigits u).length ≤ 4 := by
  have := dec_len4 h
  rw [Go.Proofs.YtmmohbmgodiilaaDoor.num.pad_length] at this
  omega
theorem dec_le2 {u : Nat} (h : u < 100) : (Lib.decDigits u).length ≤ 2 := by
  have := dec_len2 h
  rw [Go.Proofs.YtmmohbmgodiilaaDoor.num.pad_length] at this
  omega

set_option maxHeartbeats 1000000 in
theorem mFormat_is (n : Int) (t : ByteArray) (w : World) (he : Env w) (ht : t.data.toList = textR n) : Calls Tryd.prog 38 #[.int .i64 n] w (GivesStr w t) := by
  cases hv : okD n
  · have hz : (⟨#[]⟩ : ByteArray) = t := ext_list (by rw [ht]; unfold textR; rw [hv]; rfl)
    have HE := Lib.hid hz
    have HV := Lib.hid hv
    clear hz ht hv
    go_enter Tryd.func38, Tryd.ntmps38
    go_wp2_with (go_at_call 44; refine (mIsDate_is n false _ HV.out).mono ?_; rintro e w' ⟨rfl, rfl⟩)
    go_ret
    exact ⟨ret_str HE.out, Below.refl _ _⟩
  · have I := Is.of n hv
    obtain ⟨x, hx⟩ := str_mk (padTo 4 (Lib.decDigits (1900 + kOf n)))
    obtain ⟨y, hy⟩ := str_mk (padTo 2 (Lib.decDigits (jOf n + 1)))
    obtain ⟨z, hz⟩ := str_mk (padTo 2 (Lib.decDigits (dOf n).toNat))
    have k1 := I.k1
    have j1 := I.j1
    have d0 := I.d0
    have d1 := I.d1
    have db := dim_bd (1900 + (kOf n : Int)) ((jOf n : Int) + 1)
    have sx : x.size = 4 := by rw [str_size hx]; exact dec_len4 (by omega)
    have sy : y.size = 2 := by rw [str_size hy]; exact dec_len2 (by omega)
    have sz : z.size = 2 := by rw [str_size hz]; exact dec_len2 (by omega)
    have hE : x ++ ⟨#[45]⟩ ++ y ++ ⟨#[45]⟩ ++ z = t := ext_list (by rw [ht]; unfold textR; rw [hv, if_pos rfl, ← hx, ← hy, ← hz]; simp)
    obtain ⟨K, hK⟩ : ∃ K, 1900 + kOf n = K := ⟨_, rfl⟩
    obtain ⟨J, hJ⟩ : ∃ J, jOf n + 1 = J := ⟨_, rfl⟩
    obtain ⟨D, hD⟩ : ∃ D, (dOf n).toNat = D := ⟨_, rfl⟩
    have hto : toR n = ((K : Int), (J : Int), (D : Int)) := by
      rw [I.to, ← hK, ← hJ, ← hD]
      simp only [Prod.mk.injEq]
      omega
    rw [hK] at hx
    rw [hJ] at hy
    rw [hD] at hz
    have HV := Lib.hid hv
    have HT := Lib.hid hto
    have HX := Lib.hid (And.intro hx (And.intro hy (And.intro hz hE)))
    have HB := Lib.hid (show K ≤ 1000000 ∧ J ≤ 1000000 ∧ D ≤ 1000000 by omega)
    have HL := Lib.hid (show (Lib.decDigits K).length ≤ 4 ∧ (Lib.decDigits J).length ≤ 2 ∧ (Lib.decDigits D).length ≤ 2 from ⟨dec_le4 (by omega), dec_le2 (by omega), dec_le2 (by omega)⟩)
    have sx1 : x.size ≤ 4 := by omega
    have sy1 : y.size ≤ 2 := by omega
    have sz1 : z.size ≤ 2 := by omega
    clear hv hto hx hy hz hE hK hJ hD sx sy sz I ht k1 j1 d0 d1 db
    go_enter Tryd.func38, Tryd.ntmps38
    go_wp2_with (first
      | (go_at_call 44; refine (mIsDate_is n true _ HV.out).mono ?_; rintro e w' ⟨rfl, rfl⟩)
      | (go_at_call 27; refine (mToYMD_is n K J D _ he HT.out).mono ?_; rintro e w' ⟨rfl, rfl⟩)
      | (go_at_call 54; (with_reducible refine (mFmt_is K 4 4 rfl x _ he (by omega) (by omega) HB.out.1 HL.out.1 HX.out.1).mono ?_); rintro e w1 ⟨rfl, hb1⟩; have he1 := he.below hb1)
      | (go_at_call 54; (with_reducible refine (mFmt_is J 2 2 rfl y _ he1 (by omega) (by omega) HB.out.2.1 HL.out.2.1 HX.out.2.1).mono ?_); rintro e w2 ⟨rfl, hb2⟩; have he2 := he1.below hb2)
      | (go_at_call 54; (with_reducible refine (mFmt_is D 2 2 rfl z _ he2 (by omega) (by omega) HB.out.2.2 HL.out.2.2 HX.out.2.2.1).mono ?_); rintro e w3 ⟨rfl, hb3⟩)
      | fail)
    go_ret
    exact ⟨ret_str HX.out.2.2.2, tr (tr hb1 hb2) hb3⟩

set_option maxRecDepth 4000 in
set_option maxHeartbeats 4000000 in
theorem mParse_is (s : ByteArray) (a c : Int) (w : World) (he : Env w) (h : parseD s.data.toList = (a, c)) (hs : s.size ≤ 9223372036854775807) : Calls Tryd.prog 36 #[.string s] w (Gives w a c) := by
  by_cases hz : s.size = 10
  · have g4 : 4 < s.size := by omega
    have g7 : 7 < s.size := by omega
    have hzl : s.data.toList.length = 10 := by rw [← Lib.size_eq]; exact hz
    have i4 := at_byte g4
    have i7 := at_byte g7
    have bn : ∀ (b : UInt8), b ≠ 45 → ((b.toNat : Int) != 45) = true := fun b hb => by
      simp
      intro e
      exact hb (UInt8.toNat_inj.1 (show b.toNat = 45 by omega))
    by_cases b4 : (s[4]'g4) = 45
    · have t4 : (((s[4]'g4).toNat : Int) != 45) = false := by rw [b4]; rfl
      by_cases b7 : (s[7]'g7) = 45
      · have t7 : (((s[7]'g7).toNat : Int) != 45) = false := by rw [b7]; rfl
        rw [b4] at i4
        rw [b7] at i7
        have x1 : (s.extract 0 4).data.toList = s.data.toList.take 4 := by rw [Lib.extract_data]; simp
        have x2 : (s.extract 5 7).data.toList = (s.data.toList.drop 5).take 2 := by rw [Lib.extract_data]
        have x3 : (s.extract 8 10).data.toList = s.data.toList.drop 8 := by
          rw [Lib.extract_data, List.take_of_length_le (by rw [List.length_drop, hzl]; omega)]
        have z1 : (s.extract 0 4).size = 4 := by rw [ByteArray.size_extract]; omega
        have z2 : (s.extract 5 7).size = 2 := by rw [ByteArray.size_extract]; omega
        have z3 : (s.extract 8 10).size = 2 := by rw [ByteArray.size_extract]; omega
        obtain ⟨d1, hd1⟩ : ∃ n, digs (s.extract 0 4).data.toList = n := ⟨_, rfl⟩
        obtain ⟨d2, hd2⟩ : ∃ n, digs (s.extract 5 7).data.toList = n := ⟨_, rfl⟩
        obtain ⟨d3, hd3⟩ : ∃ n, digs (s.extract 8 10).data.toList = n := ⟨_, rfl⟩
        obtain ⟨n1, hn1⟩ : ∃ n : Int, pdV d1 (s.extract 0 4).data.toList = n := ⟨_, rfl⟩
        obtain ⟨n2, hn2⟩ : ∃ n : Int, pdV d2 (s.extract 5 7).data.toList = n := ⟨_, rfl⟩
        obtain ⟨n3, hn3⟩ : ∃ n : Int, pdV d3 (s.extract 8 10).data.toList = n := ⟨_, rfl⟩
        have hok : okText s.data.toList = (d1 && d2 && d3) := by
          unfold okText
          rw [i4, i7, hzl, ← x1, ← x2, ← x3, hd1, hd2, hd3]
          rfl
        have hp : parseD s.data.toList = if d1 && d2 && d3 then fromR n1 n2 n3 else (0, 2) := by
          unfold parseD
          rw [hok]
          rw [← x1, ← x2, ← x3, ← hn1, ← hn2, ← hn3]
          cases d1 <;> cases d2 <;> cases d3 <;> simp [pdV]
        rw [h] at hp
        have H1 := Lib.hid (And.intro hd1 hn1)
        have H2 := Lib.hid (And.intro hd2 hn2)
        have H3 := Lib.hid (And.intro hd3 hn3)
        have HZ := Lib.hid (show ((1 ≤ (s.extract 0 4).size ∧ (s.extract 0 4).size ≤ 9) ∧ (1 ≤ (s.extract 5 7).size ∧ (s.extract 5 7).size ≤ 9)) ∧ (1 ≤ (s.extract 8 10).size ∧ (s.extract 8 10).size ≤ 9) by omega)
        clear bn b4 b7 i4 i7 x1 x2 x3 z1 z2 z3 hd1 hd2 hd3 hn1 hn2 hn3 hok h hzl
        cases d1
        · simp only [Bool.false_and, Bool.false_eq_true, if_false, Prod.mk.injEq] at hp
          obtain ⟨rfl, rfl⟩ := hp
          go_enter Tryd.func36, Tryd.ntmps36
          go_wp2_with (first
            | (go_at_call 53; (with_reducible refine (mPD_is (s.extract 0 4) n1 false _ he HZ.out.1.1.1 HZ.out.1.1.2 H1.out.1 H1.out.2).mono ?_); rintro e w1 ⟨rfl, hb1⟩; have he1 := he.below hb1)
            | (go_at_call 53; (with_reducible refine (mPD_is (s.extract 5 7) n2 d2 _ he1 HZ.out.1.2.1 HZ.out.1.2.2 H2.out.1 H2.out.2).mono ?_); rintro e w2 ⟨rfl, hb2⟩; have he2 := he1.below hb2)
            | (go_at_call 53; (with_reducible refine (mPD_is (s.extract 8 10) n3 d3 _ he2 HZ.out.2.1 HZ.out.2.2 H3.out.1 H3.out.2).mono ?_); rintro e w3 ⟨rfl, hb3⟩; have he3 := he2.below hb3)
            | fail)
          go_ret2
          exact ⟨rfl, tr (tr hb1 hb2) hb3⟩
        · cases d2
          · simp only [Bool.true_and, Bool.false_and, Bool.false_eq_true, if_false, Prod.mk.injEq] at hp
            obtain ⟨rfl, rfl⟩ := hp
            go_enter Tryd.func36, Tryd.ntmps36
            go_wp2_with (first
              | (go_at_call 53; (with_reducible refine (mPD_is (s.extract 0 4) n1 true _ he HZ.out.1.1.1 HZ.out.1.1.2 H1.out.1 H1.out.2).mono ?_); rintro e w1 ⟨rfl, hb1⟩; have he1 := he.below hb1)
              | (go_at_call 53; (with_reducible refine (mPD_is (s.extract 5 7) n2 false _ he1 HZ.out.1.2.1 HZ.out.1.2.2 H2.out.1 H2.out.2).mono ?_); rintro e w2 ⟨rfl, hb2⟩; have he2 := he1.below hb2)
              | (go_at_call 53; (with_reducible refine (mPD_is (s.extract 8 10) n3 d3 _ he2 HZ.out.2.1 HZ.out.2.2 H3.out.1 H3.out.2).mono ?_); rintro e w3 ⟨rfl, hb3⟩; have he3 := he2.below hb3)
              | fail)
            go_ret2
            exact ⟨rfl, tr (tr hb1 hb2) hb3⟩
          · cases d3
            · simp only [Bool.true_and, Bool.false_eq_true, if_false, Prod.mk.injEq] at hp
              obtain ⟨rfl, rfl⟩ := hp
              go_enter Tryd.func36, Tryd.ntmps36
              go_wp2_with (first
                | (go_at_call 53; (with_reducible refine (mPD_is (s.extract 0 4) n1 true _ he HZ.out.1.1.1 HZ.out.1.1.2 H1.out.1 H1.out.2).mono ?_); rintro e w1 ⟨rfl, hb1⟩; have he1 := he.below hb1)
                | (go_at_call 53; (with_reducible refine (mPD_is (s.extract 5 7) n2 true _ he1 HZ.out.1.2.1 HZ.out.1.2.2 H2.out.1 H2.out.2).mono ?_); rintro e w2 ⟨rfl, hb2⟩; have he2 := he1.below hb2)
                | (go_at_call 53; (with_reducible refine (mPD_is (s.extract 8 10) n3 false _ he2 HZ.out.2.1 HZ.out.2.2 H3.out.1 H3.out.2).mono ?_); rintro e w3 ⟨rfl, hb3⟩; have he3 := he2.below hb3)
                | fail)
              go_ret2
              exact ⟨rfl, tr (tr hb1 hb2) hb3⟩
            · simp only [Bool.and_self, if_true] at hp
              have HP := Lib.hid hp.symm
              clear hp
              go_enter Tryd.func36, Tryd.ntmps36
              go_wp2_with (first
                | (go_at_call 53; (with_reducible refine (mPD_is (s.extract 0 4) n1 true _ he HZ.out.1.1.1 HZ.out.1.1.2 H1.out.1 H1.out.2).mono ?_); rintro e w1 ⟨rfl, hb1⟩; have he1 := he.below hb1)
                | (go_at_call 53; (with_reducible refine (mPD_is (s.extract 5 7) n2 true _ he1 HZ.out.1.2.1 HZ.out.1.2.2 H2.out.1 H2.out.2).mono ?_); rintro e w2 ⟨rfl, hb2⟩; have he2 := he1.below hb2)
                | (go_at_call 53; (with_reducible refine (mPD_is (s.extract 8 10) n3 true _ he2 HZ.out.2.1 HZ.out.2.2 H3.out.1 H3.out.2).mono ?_); rintro e w3 ⟨rfl, hb3⟩; have he3 := he2.below hb3)
                | (go_at_call 23; (with_reducible refine (mFromYMD_is n1 n2 n3 a c _ he3 HP.out).mono ?_); rintro e w' ⟨rfl, rfl⟩)
                | fail)
              go_ret2
              exact ⟨rfl, tr (tr hb1 hb2) hb3⟩
      · have t7 := bn _ b7
        have hb : okText s.data.toList = false := by unfold okText; rw [i7, show ((some (s[7]'g7) : Option UInt8) == some 45) = false by simpa using b7]; simp
        unfold parseD at h
        rw [hb, if_neg (by decide)] at h
        cases h
        clear b4 b7 bn hb i4 i7 hzl
        go_enter Tryd.func36, Tryd.ntmps36
        go_wp2
        go_ret2
        exact ⟨rfl, Below.refl _ _⟩
    · have t4 := bn _ b4
      have hb : okText s.data.toList = false := by unfold okText; rw [i4, show ((some (s[4]'g4) : Option UInt8) == some 45) = false by simpa using b4]; simp
      unfold parseD at h
      rw [hb, if_neg (by decide)] at h
      cases h
      clear b4 bn hb i4 i7 hzl
      go_enter Tryd.func36, Tryd.ntmps36
      go_wp2
      go_ret2
      exact ⟨rfl, Below.refl _ _⟩
  · have hb : okText s.data.toList = false := okText_len (by rw [← Lib.size_eq]; exact hz)
    unfold parseD at h
    rw [hb, if_neg (by decide)] at h
    cases h
    have hzi : ((s.size : Int) != 10) = true := by simp; omega
    clear hb hz
    go_enter Tryd.func36, Tryd.ntmps36
    go_wp2
    go_ret2
    exact ⟨rfl, Below.refl _ _⟩
end Go.Proofs.YtmmohbmgodiilaaDoor.cal
