/-
  What the reference of chapter 7 answers: Parse. The walk.
-/
import Derived.Test.YtmmohbmgodiilaaDoorQMonRefText
namespace Go.Proofs.YtmmohbmgodiilaaDoor.mon
open Go Go.RowKit Go.Proofs.YtmmohbmgodiilaaDoor.money
open Go.Proofs.YtmmohbmgodiilaaDoor.num (padTo digs val)
open Go.Proofs.YtmmohbmgodiilaaDoor.txt (str_mk str_size ext_list ret_str)
open Go.Proofs.YtmmohbmgodiilaaDoor.cal (digR rDigits_is at_byte)
set_option linter.unusedVariables false
set_option linter.unusedSimpArgs false

theorem okTM_len {l : List UInt8} (h : l.length ≠ 7) : okTM l = false := by unfold okTM; rw [decide_eq_false h]; rfl
theorem neg_dig (l : List UInt8) (n : Int) (e : digR l = n) : (n < 0 ∧ digs l = false) ∨ (¬ n < 0 ∧ digs l = true ∧ (val l : Int) = n) := by
  unfold digR at e
  cases hd : digs l
  · rw [hd, if_neg (by decide)] at e
    exact .inl ⟨by omega, rfl⟩
  · rw [hd, if_pos rfl] at e
    have := Int.natCast_nonneg (val l)
    exact .inr ⟨by omega, rfl, e⟩
theorem ne45 (b : UInt8) (hb : b ≠ 45) : ((b.toNat : Int) != 45) = true := by
  simp
  intro e
  exact hb (UInt8.toNat_inj.1 (show b.toNat = 45 by omega))

set_option maxRecDepth 4000 in
set_option maxHeartbeats 4000000 in
theorem rPm_is (s : ByteArray) (a c : Int) (w : World) (h : parseM s.data.toList = (a, c)) (hs : s.size ≤ 9223372036854775807) : Calls Tryd.prog 20 #[.string s] w (Gives w a c) := by
  by_cases hz : s.size = 7
  · have g4 : 4 < s.size := by omega
    have hzl : s.data.toList.length = 7 := by rw [← Lib.size_eq]; exact hz
    have i4 := at_byte g4
    by_cases b4 : (s[4]'g4) = 45
    · have t4 : (((s[4]'g4).toNat : Int) != 45) = false := by rw [b4]; rfl
      rw [b4] at i4
      have x1 : (s.extract 0 4).data.toList = s.data.toList.take 4 := by rw [Lib.extract_data]; simp
      have x2 : (s.extract 5 7).data.toList = s.data.toList.drop 5 := by
        rw [Lib.extract_data, List.take_of_length_le (by rw [List.length_drop, hzl]; omega)]
      have z1 : (s.extract 0 4).size ≤ 10 := by rw [ByteArray.size_extract]; omega
      have z2 : (s.extract 5 7).size ≤ 10 := by rw [ByteArray.size_extract]; omega
      obtain ⟨n1, hn1⟩ : ∃ n, digR (s.extract 0 4).data.toList = n := ⟨_, rfl⟩
      obtain ⟨n2, hn2⟩ : ∃ n, digR (s.extract 5 7).data.toList = n := ⟨_, rfl⟩
      have HZ := Lib.hid (And.intro z1 z2)
      have H1 := Lib.hid hn1
      have H2 := Lib.hid hn2
      rw [x1] at hn1
      rw [x2] at hn2
      have e1 := neg_dig _ _ hn1
      have e2 := neg_dig _ _ hn2
      rcases e1 with ⟨l1, d1⟩ | ⟨l1, d1, v1⟩
      · have hb : okTM s.data.toList = false := by unfold okTM; rw [d1]; simp
        unfold parseM at h
        rw [hb, if_neg (by decide)] at h
        cases h
        clear b4 e2 d1 hb hn1 hn2 x1 x2 z1 z2 hzl i4
        go_enter Tryd.func20, Tryd.ntmps20
        go_wp2_with (first
          | (go_at_call 37; (with_reducible refine (rDigits_is (s.extract 0 4) n1 _ H1.out HZ.out.1).mono ?_); rintro e w' ⟨rfl, rfl⟩)
          | fail)
        go_ret2
        exact ⟨rfl, Below.refl _ _⟩
      · rcases e2 with ⟨l2, d2⟩ | ⟨l2, d2, v2⟩
        · have hb : okTM s.data.toList = false := by unfold okTM; rw [d2]; simp
          unfold parseM at h
          rw [hb, if_neg (by decide)] at h
          cases h
          clear b4 d1 v1 d2 hb hn1 hn2 x1 x2 z1 z2 hzl i4
          go_enter Tryd.func20, Tryd.ntmps20
          go_wp2_with (first
            | (go_at_call 37; (with_reducible refine (rDigits_is (s.extract 0 4) n1 _ H1.out HZ.out.1).mono ?_); rintro e w' ⟨rfl, rfl⟩)
            | (go_at_call 37; (with_reducible refine (rDigits_is (s.extract 5 7) n2 _ H2.out HZ.out.2).mono ?_); rintro e w' ⟨rfl, rfl⟩)
            | fail)
          go_ret2
          exact ⟨rfl, Below.refl _ _⟩
        · have hb : okTM s.data.toList = true := by unfold okTM; rw [d1, d2, i4, hzl]; rfl
          unfold parseM at h
          rw [hb, if_pos rfl, v1, v2] at h
          unfold ymR at h
          clear b4 d1 v1 d2 v2 hb hn1 hn2 x1 x2 z1 z2 hzl i4
          have hq : (n1 < 1900) ∨ (1900 ≤ n1 ∧ 2199 < n1) ∨ (1900 ≤ n1 ∧ n1 ≤ 2199 ∧ n2 < 1) ∨ (1900 ≤ n1 ∧ n1 ≤ 2199 ∧ 1 ≤ n2 ∧ 12 < n2) ∨ (1900 ≤ n1 ∧ n1 ≤ 2199 ∧ 1 ≤ n2 ∧ n2 ≤ 12) := by omega
          have HF : Hid (if n1 < 1900 ∨ 2199 < n1 ∨ n2 < 1 ∨ 12 < n2 then ((0 : Int), (3 : Int)) = (a, c) else (12 * (n1 - 1900) + n2 - 1, 0) = (a, c)) := by
            show if _ then _ else _
            split
            · rename_i g; rw [if_pos g] at h; exact h
            · rename_i g; rw [if_neg g] at h; exact h
          clear h
          rcases hq with q1 | ⟨q1, q2⟩ | ⟨q1, q2, q3⟩ | ⟨q1, q2, q3, q4⟩ | ⟨q1, q2, q3, q4⟩
          all_goals
            go_enter Tryd.func20, Tryd.ntmps20
            go_wp2_with (first
              | (go_at_call 37; (with_reducible refine (rDigits_is (s.extract 0 4) n1 _ H1.out HZ.out.1).mono ?_); rintro e w' ⟨rfl, rfl⟩)
              | (go_at_call 37; (with_reducible refine (rDigits_is (s.extract 5 7) n2 _ H2.out HZ.out.2).mono ?_); rintro e w' ⟨rfl, rfl⟩)
              | fail)
            go_quiet (first | (go_at_call 37; with_reducible exact quiet_eq (rDigits_is (s.extract 0 4) n1 _ H1.out HZ.out.1)) | (go_at_call 37; with_reducible exact quiet_eq (rDigits_is (s.extract 5 7) n2 _ H2.out HZ.out.2)))
            go_wp2
            go_ret2
            have hf := HF.out
            first
              | (rw [if_pos (by omega)] at hf; cases hf; exact ⟨rfl, below_drewN (Below.refl _ _) _⟩)
              | (rw [if_neg (by omega)] at hf; obtain ⟨hf1, hf2⟩ := Prod.mk.inj hf; subst hf2; rw [← hf1]; exact ⟨rfl, below_drewN (Below.refl _ _) _⟩)
    · have t4 := ne45 _ b4
      have hb : okTM s.data.toList = false := by unfold okTM; rw [i4, show ((some (s[4]'g4) : Option UInt8) == some 45) = false by simpa using b4]; simp
      unfold parseM at h
      rw [hb, if_neg (by decide)] at h
      cases h
      clear b4 hb i4 hzl
      go_enter Tryd.func20, Tryd.ntmps20
      go_wp2
      go_ret2
      exact ⟨rfl, Below.refl _ _⟩
  · have hb : okTM s.data.toList = false := okTM_len (by rw [← Lib.size_eq]; exact hz)
    unfold parseM at h
    rw [hb, if_neg (by decide)] at h
    cases h
    have hzi : ((s.size : Int) != 7) = true := by simp; omega
    clear hb hz
    go_enter Tryd.func20, Tryd.ntmps20
    go_wp2
    go_ret2
    exact ⟨rfl, Below.refl _ _⟩
end Go.Proofs.YtmmohbmgodiilaaDoor.mon
