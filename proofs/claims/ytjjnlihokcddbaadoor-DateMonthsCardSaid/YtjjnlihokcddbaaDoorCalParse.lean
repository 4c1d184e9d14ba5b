/-
  What the reference's Digits and Parse of chapter 4 answer: the walks.
-/
import Derived.Test.YtjjnlihokcddbaaDoorCalFrom
import Derived.Test.YtjjnlihokcddbaaDoorCalText
import Derived.Test.YtjjnlihokcddbaaDoorTextBase
namespace Go.Proofs.YtjjnlihokcddbaaDoor.cal
open Go Go.RowKit Go.Proofs.YtjjnlihokcddbaaDoor.num Go.Proofs.YtjjnlihokcddbaaDoor.txt Go.Proofs.YtjjnlihokcddbaaDoor.money
set_option linter.unusedVariables false

theorem val_next (s : ByteArray) (k : Nat) (h : k < s.size) : val (s.data.toList.take (k + 1)) = 10 * val (s.data.toList.take k) + ((s[k]'h).toNat - 48) := by
  rw [take_snoc s k h]; unfold val; rw [valF_app]
theorem val_small : ∀ (k : Nat) (l : List UInt8), l.length ≤ k → digs l = true → val l < 10 ^ k
  | 0, l, h, _ => by
    obtain rfl : l = [] := List.eq_nil_of_length_eq_zero (by omega)
    decide
  | k + 1, l, h, hd => by
    rcases List.eq_nil_or_concat l with rfl | ⟨t, c, rfl⟩
    · exact Nat.pow_pos (by omega)
    · rw [List.concat_eq_append] at h hd ⊢
      rw [digs_snoc, Bool.and_eq_true] at hd
      have hc := (dig_iff c).1 hd.2
      have := val_small k t (by simp at h; omega) hd.1
      unfold val at this ⊢
      rw [valF_app, Nat.pow_succ]; omega

set_option maxHeartbeats 1000000 in
theorem rDigits_is (s : ByteArray) (c : Int) (w : World) (h : digR s.data.toList = c) (hs : s.size ≤ 10) : Calls Tryd.prog 35 #[.string s] w fun e w' => e = .returned (.int .i64 c) ∧ w = w' := by
  have H := Lib.hid h
  clear h
  go_enter Tryd.func35, Tryd.ntmps35
  go_wp2
  go_loop [3, 4] (fun vn vi => ∃ k m : Nat, k ≤ s.size ∧ vi = .int .i64 k ∧ vn = .int .i64 m ∧ m < 10000000000 ∧ Hid (digs (s.data.toList.take k) = true ∧ val (s.data.toList.take k) = m)) (fun _ vi => s.size - (intOf vi).toNat)
  case atStart => exact ⟨0, 0, Nat.zero_le _, rfl, rfl, by decide, (show _ from ⟨by simp [digs], by simp [val, valF]⟩)⟩
  case round =>
    obtain ⟨k, m, hk, rfl, rfl, hm, HD⟩ := hrel
    by_cases hlt : k < s.size
    · by_cases h1 : ((s[k]'hlt).toNat : Int) < 48
      · have HS := Lib.hid (digs_stop s k hlt (by omega))
        go_wp2
        go_ret
        exact ⟨ret_int (by rw [← H.out]; unfold digR; rw [HS.out]; rfl), rfl⟩
      · by_cases h2 : 57 < ((s[k]'hlt).toNat : Int)
        · have HS := Lib.hid (digs_stop s k hlt (by omega))
          go_wp2
          go_ret
          exact ⟨ret_int (by rw [← H.out]; unfold digR; rw [HS.out]; rfl), rfl⟩
        · have hd : digs (s.data.toList.take (k + 1)) = true := by rw [take_snoc s k hlt, digs_snoc, HD.out.1, (dig_iff _).2 ⟨by omega, by omega⟩]; rfl
          have hv := val_next s k hlt
          rw [HD.out.2] at hv
          have hsm := val_small 10 (s.data.toList.take (k + 1)) (by rw [List.length_take]; omega) hd
          rw [hv] at hsm
          have hsm2 : 10 * m + ((s[k]'hlt).toNat - 48) < 10000000000 := hsm
          have HS := Lib.hid (And.intro hd hv)
          have u1 : IntKind.u8.wrap (((s[k]'hlt).toNat : Int) - 48) = ((s[k]'hlt).toNat : Int) - 48 := u8_in (by omega) (by omega)
          clear hd hv hsm
          go_wp2
          go_round
          case rel => exact ⟨k + 1, 10 * m + ((s[k]'hlt).toNat - 48), by omega, by go_num, by congr 1; omega, hsm2, HS⟩
          case measure => simp [intOf]; omega
    · obtain rfl : k = s.size := by omega
      have h3 := HD.out
      rw [take_all s s.size (Nat.le_refl _)] at h3
      have HS := Lib.hid h3
      clear h3
      go_wp2
      go_ret
      exact ⟨ret_int (by rw [← H.out]; unfold digR; rw [HS.out.1, if_pos rfl, HS.out.2]), rfl⟩

theorem okText_len {l : List UInt8} (h : l.length ≠ 10) : okText l = false := by unfold okText; rw [decide_eq_false h]; rfl
theorem at_byte {s : ByteArray} {i : Nat} (h : i < s.size) : s.data.toList[i]? = some (s[i]'h) := by
  have : i < s.data.toList.length := by rw [← Lib.size_eq]; exact h
  rw [List.getElem?_eq_getElem this]; rfl

set_option maxHeartbeats 2000000 in
theorem rParse_is (s : ByteArray) (a c : Int) (w : World) (h : parseD s.data.toList = (a, c)) (hs : s.size ≤ 9223372036854775807) : Calls Tryd.prog 24 #[.string s] w fun e w' => e = .returned (.tuple #[.int .i64 a, .int .i64 c]) ∧ ∃ n, w' = w.drewN n := by
  by_cases hz : s.size = 10
  · have g4 : 4 < s.size := by omega
    have g7 : 7 < s.size := by omega
    have hzl : s.data.toList.length = 10 := by rw [← Lib.size_eq]; exact hz
    have i4 := at_byte g4
    have i7 := at_byte g7
    have x1 : (s.extract 0 4).data.toList = s.data.toList.take 4 := by rw [Lib.extract_data]; simp
    have x2 : (s.extract 5 7).data.toList = (s.data.toList.drop 5).take 2 := by rw [Lib.extract_data]
    have x3 : (s.extract 8 10).data.toList = s.data.toList.drop 8 := by
      rw [Lib.extract_data, List.take_of_length_le (by rw [List.length_drop, hzl]; omega)]
    have z1 : (s.extract 0 4).size ≤ 10 := by rw [ByteArray.size_extract]; omega
    have z2 : (s.extract 5 7).size ≤ 10 := by rw [ByteArray.size_extract]; omega
    have z3 : (s.extract 8 10).size ≤ 10 := by rw [ByteArray.size_extract]; omega
    obtain ⟨n1, hn1⟩ : ∃ n, digR (s.extract 0 4).data.toList = n := ⟨_, rfl⟩
    obtain ⟨n2, hn2⟩ : ∃ n, digR (s.extract 5 7).data.toList = n := ⟨_, rfl⟩
    obtain ⟨n3, hn3⟩ : ∃ n, digR (s.extract 8 10).data.toList = n := ⟨_, rfl⟩
    have HZ := Lib.hid (And.intro z1 (And.intro z2 z3))
    have H1 := Lib.hid hn1
    have H2 := Lib.hid hn2
    have H3 := Lib.hid hn3
    rw [x1] at hn1
    rw [x2] at hn2
    rw [x3] at hn3
    have neg1 : ∀ l n, digR l = n → (n < 0 ∧ digs l = false) ∨ (¬ n < 0 ∧ digs l = true ∧ (val l : Int) = n) := fun l n e => by
      unfold digR at e
      cases hd : digs l
      · rw [hd, if_neg (by decide)] at e
        exact .inl ⟨by omega, rfl⟩
      · rw [hd, if_pos rfl] at e
        have := Int.natCast_nonneg (val l)
        exact .inr ⟨by omega, rfl, e⟩
    have e1 := neg1 _ _ hn1
    have e2 := neg1 _ _ hn2
    have e3 := neg1 _ _ hn3
    clear neg1
    have bn : ∀ (b : UInt8), b ≠ 45 → ((b.toNat : Int) != 45) = true := fun b hb => by
      simp
      intro e
      exact hb (UInt8.toNat_inj.1 (show b.toNat = 45 by omega))
    by_cases b4 : (s[4]'g4) = 45
    · have t4 : (((s[4]'g4).toNat : Int) != 45) = false := by rw [b4]; rfl
      by_cases b7 : (s[7]'g7) = 45
      · have t7 : (((s[7]'g7).toNat : Int) != 45) = false := by rw [b7]; rfl
        rw [b4] at i4
        rw [b7] at i7
        rcases e1 with ⟨l1, d1⟩ | ⟨l1, d1, v1⟩
        · have hb : okText s.data.toList = false := by unfold okText; rw [d1]; simp
          unfold parseD at h
          rw [hb, if_neg (by decide)] at h
          cases h
          clear b4 b7 bn e2 e3 d1 hb
          clear hn1 hn2 hn3 x1 x2 x3 z1 z2 z3 hzl i4 i7
          go_enter Tryd.func24, Tryd.ntmps24
          go_wp2_with (first
            | (go_at_call 35; (with_reducible refine (rDigits_is (s.extract 0 4) n1 _ H1.out HZ.out.1).mono ?_); rintro e w' ⟨rfl, rfl⟩)
            | fail)
          go_ret2
          exact ⟨rfl, 0, rfl⟩
        · rcases e2 with ⟨l2, d2⟩ | ⟨l2, d2, v2⟩
          · have hb : okText s.data.toList = false := by unfold okText; rw [d2]; simp
            unfold parseD at h
            rw [hb, if_neg (by decide)] at h
            cases h
            clear b4 b7 bn e3 d1 v1 d2 hb
            clear hn1 hn2 hn3 x1 x2 x3 z1 z2 z3 hzl i4 i7
            go_enter Tryd.func24, Tryd.ntmps24
            go_wp2_with (first
              | (go_at_call 35; (with_reducible refine (rDigits_is (s.extract 0 4) n1 _ H1.out HZ.out.1).mono ?_); rintro e w' ⟨rfl, rfl⟩)
              | (go_at_call 35; (with_reducible refine (rDigits_is (s.extract 5 7) n2 _ H2.out HZ.out.2.1).mono ?_); rintro e w' ⟨rfl, rfl⟩)
              | fail)
            go_ret2
            exact ⟨rfl, 0, rfl⟩
          · rcases e3 with ⟨l3, d3⟩ | ⟨l3, d3, v3⟩
            · have hb : okText s.data.toList = false := by unfold okText; rw [d3]; simp
              unfold parseD at h
              rw [hb, if_neg (by decide)] at h
              cases h
              clear b4 b7 bn d1 v1 d2 v2 d3 hb
              clear hn1 hn2 hn3 x1 x2 x3 z1 z2 z3 hzl i4 i7
              go_enter Tryd.func24, Tryd.ntmps24
              go_wp2_with (first
                | (go_at_call 35; (with_reducible refine (rDigits_is (s.extract 0 4) n1 _ H1.out HZ.out.1).mono ?_); rintro e w' ⟨rfl, rfl⟩)
                | (go_at_call 35; (with_reducible refine (rDigits_is (s.extract 5 7) n2 _ H2.out HZ.out.2.1).mono ?_); rintro e w' ⟨rfl, rfl⟩)
                | (go_at_call 35; (with_reducible refine (rDigits_is (s.extract 8 10) n3 _ H3.out HZ.out.2.2).mono ?_); rintro e w' ⟨rfl, rfl⟩)
                | fail)
              go_ret2
              exact ⟨rfl, 0, rfl⟩
            · have hb : okText s.data.toList = true := by unfold okText; rw [d1, d2, d3, i4, i7, hzl]; rfl
              unfold parseD at h
              rw [hb, if_pos rfl, v1, v2, v3] at h
              have HF := Lib.hid h
              clear b4 b7 bn d1 v1 d2 v2 d3 v3 hb h
              clear hn1 hn2 hn3 x1 x2 x3 z1 z2 z3 hzl i4 i7
              go_enter Tryd.func24, Tryd.ntmps24
              go_wp2_with (first
                | (go_at_call 35; (with_reducible refine (rDigits_is (s.extract 0 4) n1 _ H1.out HZ.out.1).mono ?_); rintro e w' ⟨rfl, rfl⟩)
                | (go_at_call 35; (with_reducible refine (rDigits_is (s.extract 5 7) n2 _ H2.out HZ.out.2.1).mono ?_); rintro e w' ⟨rfl, rfl⟩)
                | (go_at_call 35; (with_reducible refine (rDigits_is (s.extract 8 10) n3 _ H3.out HZ.out.2.2).mono ?_); rintro e w' ⟨rfl, rfl⟩)
                | fail)
              go_quiet (first | (go_at_call 35; with_reducible exact quiet_eq (rDigits_is (s.extract 0 4) n1 _ H1.out HZ.out.1)) | (go_at_call 35; with_reducible exact quiet_eq (rDigits_is (s.extract 5 7) n2 _ H2.out HZ.out.2.1)) | (go_at_call 35; with_reducible exact quiet_eq (rDigits_is (s.extract 8 10) n3 _ H3.out HZ.out.2.2)) | (go_at_call 9; exact quiet_eq (rFromYMD_is n1 n2 n3 a c _ HF.out)))
              go_wp2
              go_ret2
              exact ⟨rfl, _, rfl⟩
      · have t7 := bn _ b7
        have hb : okText s.data.toList = false := by unfold okText; rw [i7, show ((some (s[7]'g7) : Option UInt8) == some 45) = false by simpa using b7]; simp
        unfold parseD at h
        rw [hb, if_neg (by decide)] at h
        cases h
        clear b4 b7 bn e1 e2 e3 hb
        clear hn1 hn2 hn3 x1 x2 x3 z1 z2 z3 hzl i4 i7
        go_enter Tryd.func24, Tryd.ntmps24
        go_wp2
        go_ret2
        exact ⟨rfl, 0, rfl⟩
    · have t4 := bn _ b4
      have hb : okText s.data.toList = false := by unfold okText; rw [i4, show ((some (s[4]'g4) : Option UInt8) == some 45) = false by simpa using b4]; simp
      unfold parseD at h
      rw [hb, if_neg (by decide)] at h
      cases h
      clear b4 bn e1 e2 e3 hb
      clear hn1 hn2 hn3 x1 x2 x3 z1 z2 z3 hzl i4 i7
      go_enter Tryd.func24, Tryd.ntmps24
      go_wp2
      go_ret2
      exact ⟨rfl, 0, rfl⟩
  · have hb : okText s.data.toList = false := okText_len (by rw [← Lib.size_eq]; exact hz)
    unfold parseD at h
    rw [hb, if_neg (by decide)] at h
    cases h
    have hzi : ((s.size : Int) != 10) = true := by simp; omega
    clear hb hz
    go_enter Tryd.func24, Tryd.ntmps24
    go_wp2
    go_ret2
    exact ⟨rfl, 0, rfl⟩
end Go.Proofs.YtjjnlihokcddbaaDoor.cal
