/-
  What the document's own answers of chapter 1 are: the walks of the reference functions on numbers, each against the same plain functions as the program's.
-/
import Derived.Test.YtgdibahgmpomeaaDoorNumParse
import Derived.Laws.IdiomStrings
import Derived.Deep.RegionWith
import Derived.RegionTactic
namespace Go.Proofs.YtgdibahgmpomeaaDoor.num
open Go Go.RowKit Go.Sort
set_option linter.unusedVariables false

/-! ### plain -/
def rdig (l : List UInt8) : Bool := digs l && !l.isEmpty
def rnum (l : List UInt8) (neg : Bool) : Int × Int :=
  if 19 < l.length then (0, 3) else if 4611686018427387904 < val l then (0, 3) else if neg then (-(val l : Int), 0) else ((val l : Int), 0)
theorem nDigits_le : ∀ (k u : Nat), u < 10 ^ (k + 1) → Lib.nDigits u ≤ k + 1
  | 0, u, h => by rw [Lib.nDigits_small (by simpa using h)]; exact Nat.le_refl _
  | k + 1, u, h => by
    by_cases h10 : u < 10
    · rw [Lib.nDigits_small h10]; omega
    · rw [Lib.nDigits_big h10]
      have := nDigits_le k (u / 10) (by rw [Nat.pow_succ] at h; omega)
      omega
theorem long_val {l : List UInt8} (h : whole l = true) (hl : 19 < l.length) : 4611686018427387904 < val l := by
  rcases Nat.lt_or_ge 4611686018427387904 (val l) with g | g
  · exact g
  · have := nDigits_le 18 (val l) (by omega)
    rw [← Lib.decDigits_length, whole_dec h] at this
    omega
theorem zero_val {l : List UInt8} (h : whole l = true) (h0 : val l = 0) : l = [48] := by
  have := whole_dec h
  rw [h0, dec_small (by decide)] at this
  exact this.symm
theorem rnum_sgn {l : List UInt8} {neg : Bool} (h : whole l = true) (hn : ¬ (neg = true ∧ l = [48])) : rnum l neg = sgn (val l) neg := by
  unfold rnum sgn
  by_cases h1 : 4611686018427387904 < val l
  · rw [if_pos h1, if_pos h1]; split <;> rfl
  · have h2 : ¬ 19 < l.length := fun g => h1 (long_val h g)
    rw [if_neg h2, if_neg h1, if_neg h1]
    cases neg
    · rfl
    · have h3 : ¬ val l = 0 := fun g => hn ⟨rfl, zero_val h g⟩
      rw [if_pos rfl, if_pos rfl, if_neg h3]
theorem rdig_whole_false {l : List UInt8} (h : rdig l = false) : whole l = false := by
  unfold rdig at h
  unfold whole
  cases hd : digs l
  · simp
  · rw [hd] at h
    simp at h
    subst h; rfl
theorem val_ltN : ∀ (n : Nat) (l : List UInt8), l.length = n → digs l = true → val l < 10 ^ n
  | 0, l, hn, _ => by
    obtain rfl := List.eq_nil_of_length_eq_zero hn
    simp [val, valF]
  | n + 1, l, hn, h => by
    rcases List.eq_nil_or_concat l with rfl | ⟨t, x, rfl⟩
    · simp at hn
    · rw [List.concat_eq_append] at h hn ⊢
      rw [digs_snoc, Bool.and_eq_true] at h
      have ih := val_ltN n t (by simp at hn; omega) h.1
      have hx := (dig_iff x).1 h.2
      have e : val (t ++ [x]) = 10 * val t + (x.toNat - 48) := valF_app _ _ _
      rw [e, Nat.pow_succ]
      omega
theorem val_lt {l : List UInt8} (h : digs l = true) : val l < 10 ^ l.length := val_ltN _ l rfl h
theorem take_digs {s : ByteArray} (h : digs s.data.toList = true) (k : Nat) : digs (s.data.toList.take k) = true := by
  have := h; rw [← List.take_append_drop k s.data.toList, digs_app, Bool.and_eq_true] at this; exact this.1
theorem take_small {s : ByteArray} (h : digs s.data.toList = true) {k : Nat} (hk : k < s.size) (hs : s.size ≤ 19) : val (s.data.toList.take k) ≤ 999999999999999999 := by
  have h1 := val_lt (take_digs h k)
  have h2 : (s.data.toList.take k).length ≤ 18 := by rw [List.length_take]; omega
  have h3 : 10 ^ (s.data.toList.take k).length ≤ 10 ^ 18 := Nat.pow_le_pow_right (by decide) h2
  omega

/-! ### the walks -/
theorem sign_is (s u : ByteArray) (m : Bool) (w : World) (hu : u.data.toList = unsigned s.data.toList) (hm : minus s.data.toList = m) :
    Calls Tryd.prog 26 #[.string s] w fun e w' => e = .returned (.tuple #[.string u, .bool m]) ∧ w = w' := by
  by_cases hz : 0 < s.size
  · obtain ⟨t, ht⟩ := head_of s hz
    by_cases hc : ((s[0]'hz).toNat : Int) = 45
    · have h45 : (s[0]'hz) = 45 := by apply UInt8.toNat_inj.1; show _ = 45; omega
      have hmt : m = true := by rw [← hm, ht, h45]; rfl
      have he : s.extract 1 s.size = u := by
        apply ext_list
        rw [Lib.extract_data, hu]
        unfold unsigned
        rw [hm, hmt, if_pos rfl, List.take_of_length_le]
        rw [List.length_drop, Lib.size_eq]; exact Nat.le_refl _
      subst hmt
      have H := Lib.hid he
      clear hu hm ht h45 he
      go_enter Tryd.func26, Tryd.ntmps26
      go_wp2
      go_ret2
      exact ⟨congrArg (fun q => Ending.returned (.tuple #[.string q, .bool true])) H.out, rfl⟩
    · have h45 : ¬ (s[0]'hz) = 45 := fun e => hc (by rw [e]; rfl)
      have hmt : m = false := by rw [← hm, ht]; simp [minus, h45]
      have he : s = u := by
        apply ext_list
        rw [hu]; unfold unsigned; rw [hm, hmt]; rfl
      subst hmt he
      clear hu hm ht h45
      go_enter Tryd.func26, Tryd.ntmps26
      go_wp2
      go_ret2
      exact ⟨rfl, rfl⟩
  · have hn : s.data.toList = [] := by apply List.eq_nil_of_length_eq_zero; rw [← Lib.size_eq]; omega
    have hmt : m = false := by rw [← hm, hn]; rfl
    have he : s = u := by
      apply ext_list
      rw [hu, hn]; rfl
    subst hmt he
    clear hu hm hn
    go_enter Tryd.func26, Tryd.ntmps26
    go_wp2
    go_ret2
    exact ⟨rfl, rfl⟩

set_option maxHeartbeats 400000 in
theorem rallDigits_is (s : ByteArray) (b : Bool) (w : World) (hb : rdig s.data.toList = b) (hs : s.size ≤ 9223372036854775807) :
    Calls Tryd.prog 27 #[.string s] w fun e w' => e = .returned (.bool b) ∧ w = w' := by
  have HB := Lib.hid hb
  clear hb
  go_enter Tryd.func27, Tryd.ntmps27
  go_wp2
  go_loop [3] (fun i => ∃ k : Nat, k ≤ s.size ∧ i = .int .i64 k ∧ digs (s.data.toList.take k) = true) (fun i => s.size - (intOf i).toNat)
  case atStart => exact ⟨0, Nat.zero_le _, rfl, by simp [digs]⟩
  case round =>
    obtain ⟨k, hk, rfl, hd⟩ := hrel
    have HD := Lib.hid hd
    clear hd
    by_cases hlt : k < s.size
    · by_cases h1 : ((s[k]'hlt).toNat : Int) < 48
      · have HS := Lib.hid (digs_stop s k hlt (by omega))
        go_wp2
        go_ret
        refine ⟨ret_bool ?_, rfl⟩
        rw [← HB.out]; unfold rdig; rw [HS.out]; rfl
      · by_cases h2 : 57 < ((s[k]'hlt).toNat : Int)
        · have HS := Lib.hid (digs_stop s k hlt (by omega))
          go_wp2
          go_ret
          refine ⟨ret_bool ?_, rfl⟩
          rw [← HB.out]; unfold rdig; rw [HS.out]; rfl
        · have HS := Lib.hid (show digs (s.data.toList.take (k + 1)) = true by rw [take_snoc s k hlt, digs_snoc, HD.out, (dig_iff _).2 ⟨by omega, by omega⟩]; rfl)
          go_wp2
          go_round
          case rel => exact ⟨k + 1, by omega, by go_num, HS.out⟩
          case measure => simp [intOf]; omega
    · obtain rfl : k = s.size := by omega
      have h3 := HD.out
      rw [take_all s s.size (Nat.le_refl _)] at h3
      have HS := Lib.hid h3
      clear h3
      by_cases hz : 0 < s.size
      · go_wp2
        go_ret
        refine ⟨ret_bool ?_, rfl⟩
        rw [← HB.out]; unfold rdig; rw [HS.out]
        have : s.data.toList ≠ [] := fun e => by rw [Lib.size_eq, e] at hz; simp at hz
        simp only [Bool.true_and]
        cases hl : s.data.toList with
        | nil => exact absurd hl this
        | cons c t => simp
      · go_wp2
        go_ret
        refine ⟨ret_bool ?_, rfl⟩
        rw [← HB.out]; unfold rdig; rw [HS.out]
        have : s.data.toList = [] := by apply List.eq_nil_of_length_eq_zero; rw [← Lib.size_eq]; omega
        rw [this]; simp

set_option maxHeartbeats 800000 in
theorem number_is (s : ByteArray) (neg : Bool) (a c : Int) (w : World) (hd : digs s.data.toList = true) (h : rnum s.data.toList neg = (a, c)) (hs0 : s.size ≤ 9223372036854775807) :
    Calls Tryd.prog 28 #[.string s, .bool neg] w fun e w' => e = .returned (.tuple #[.int .i64 a, .int .i64 c]) ∧ w = w' := by
  have HD := Lib.hid hd
  clear hd
  by_cases hs : s.size ≤ 19
  · unfold rnum at h
    rw [if_neg (by rw [← Lib.size_eq]; omega)] at h
    have H := Lib.hid h
    have hsi : (s.size : Int) ≤ 19 := by omega
    clear h
    go_enter Tryd.func28, Tryd.ntmps28
    go_wp2
    go_loop [6, 7] (fun v i => ∃ k : Nat, k ≤ s.size ∧ i = .int .i64 k ∧ v = .int .u64 (val (s.data.toList.take k) : Nat)) (fun _ i => s.size - (intOf i).toNat)
    case atStart => exact ⟨0, Nat.zero_le _, rfl, by simp [val, valF]⟩
    case round =>
      obtain ⟨k, hk, rfl, rfl⟩ := hrel
      by_cases hlt : k < s.size
      · have hm := take_small HD.out hlt hs
        obtain ⟨g1, g2⟩ := digs_at s HD.out k hlt
        have HS := Lib.hid (val_step s k hlt)
        obtain ⟨m, hm2⟩ : ∃ m, val (s.data.toList.take k) = m := ⟨_, rfl⟩
        rw [hm2] at hm ⊢
        have HM := Lib.hid hm2
        clear hm2
        go_wp2
        go_round
        case rel =>
          refine ⟨k + 1, by omega, by go_num, ?_⟩
          rw [HS.out, HM.out]
          congr 1
          omega
        case measure => simp [intOf]; omega
      · obtain rfl : k = s.size := by omega
        rw [take_all s s.size (Nat.le_refl _)]
        have hv : val s.data.toList < 10000000000000000000 := by
          have h1 := val_lt HD.out
          have h3 : 10 ^ s.data.toList.length ≤ 10 ^ 19 := Nat.pow_le_pow_right (by decide) (by rw [← Lib.size_eq]; exact hs)
          omega
        obtain ⟨m, hm2⟩ : ∃ m, val s.data.toList = m := ⟨_, rfl⟩
        have h := H.out
        rw [hm2] at hv h ⊢
        clear hm2 H
        by_cases hbig : 4611686018427387904 < m
        · rw [if_pos hbig] at h
          cases h
          have hb2 : (4611686018427387904 : Int) < m := by omega
          clear hbig
          go_wp2
          go_ret2
          exact ⟨rfl, rfl⟩
        · rw [if_neg hbig] at h
          have hb2 : (m : Int) ≤ 4611686018427387904 := by omega
          clear hbig
          cases neg
          · cases h
            go_wp2
            go_ret2
            exact ⟨rfl, rfl⟩
          · cases h
            go_wp2
            go_ret2
            exact ⟨rfl, rfl⟩
  · unfold rnum at h
    rw [if_pos (by rw [← Lib.size_eq]; omega)] at h
    cases h
    have hsi : (19 : Int) < s.size := by omega
    go_enter Tryd.func28, Tryd.ntmps28
    go_wp2
    go_ret2
    exact ⟨rfl, rfl⟩

theorem rclamp_is (p c : Int) (w : World) (h : (clamp p : Int) = c) :
    Calls Tryd.prog 34 #[.int .i64 p] w fun e w' => e = .returned (.int .i64 c) ∧ w = w' := by
  have H := Lib.hid h
  clear h
  go_enter Tryd.func34, Tryd.ntmps34
  go_wp2
  all_goals
    go_ret
    exact ⟨ret_int (by rw [← H.out]; unfold clamp; omega), rfl⟩

theorem whole_of {u : ByteArray} (hr : rdig u.data.toList = true) (hz : 0 < u.size) (hc : ¬ ((u[0]'hz).toNat : Int) = 48) : whole u.data.toList = true := by
  rw [whole_other u hz hc]
  unfold rdig at hr; rw [Bool.and_eq_true] at hr; exact hr.1
theorem rdig_digs {l : List UInt8} (h : rdig l = true) : digs l = true := by
  unfold rdig at h; rw [Bool.and_eq_true] at h; exact h.1
theorem rdig_pos {u : ByteArray} (h : rdig u.data.toList = true) : 0 < u.size := by
  unfold rdig at h; rw [Bool.and_eq_true] at h
  rcases Nat.eq_zero_or_pos u.size with z | z
  · have : u.data.toList = [] := by apply List.eq_nil_of_length_eq_zero; rw [← Lib.size_eq]; omega
    rw [this] at h; simp at h
  · exact z

set_option maxHeartbeats 1000000 in
theorem rParseInt_is (s : ByteArray) (a c : Int) (w : World) (h : parseI s.data.toList = (a, c)) (hs : s.size ≤ 4611686018427387904) :
    Calls Tryd.prog 11 #[.string s] w fun e w' => e = .returned (.tuple #[.int .i64 a, .int .i64 c]) ∧ w = w' := by
  obtain ⟨u, hu⟩ := str_mk (unsigned s.data.toList)
  obtain ⟨m, hm⟩ : ∃ m, minus s.data.toList = m := ⟨_, rfl⟩
  have hus : u.size ≤ 4611686018427387904 := by
    have : u.size ≤ s.size := by
      rw [str_size hu, Lib.size_eq]; unfold unsigned; split <;> simp
    omega
  unfold parseI at h
  rw [hm, ← hu] at h
  have HU := Lib.hid hu
  have HM := Lib.hid hm
  clear hu hm
  cases hr : rdig u.data.toList
  · rw [rdig_whole_false hr] at h
    cases h
    have HR := Lib.hid hr
    clear hr
    go_enter Tryd.func11, Tryd.ntmps11
    go_wp2_with (first | (go_at_call 26; refine (sign_is s u m _ HU.out HM.out).mono ?_; rintro e w' ⟨rfl, rfl⟩) | (go_at_call 27; refine (rallDigits_is u false _ HR.out (by omega)).mono ?_; rintro e w' ⟨rfl, rfl⟩))
    go_ret2
    exact ⟨rfl, rfl⟩
  · have hz := rdig_pos hr
    have HR := Lib.hid hr
    by_cases h1 : 1 < u.size
    · have h1i : (1 : Int) < u.size := by omega
      have hn : (u.toList == [48]) = false := by
        rw [Lib.toList_data, beq_eq_false_iff_ne]; intro e; rw [Lib.size_eq, e] at h1; simp at h1
      by_cases hc : ((u[0]'hz).toNat : Int) = 48
      · rw [whole_zero u hz hc hn] at h
        cases h
        clear hr
        go_enter Tryd.func11, Tryd.ntmps11
        go_wp2_with (first | (go_at_call 26; refine (sign_is s u m _ HU.out HM.out).mono ?_; rintro e w' ⟨rfl, rfl⟩) | (go_at_call 27; refine (rallDigits_is u true _ HR.out (by omega)).mono ?_; rintro e w' ⟨rfl, rfl⟩))
        go_ret2
        exact ⟨rfl, rfl⟩
      · have hw := whole_of hr hz hc
        rw [hw, if_pos rfl, ← rnum_sgn hw (by rintro ⟨_, e⟩; rw [Lib.size_eq, e] at h1; simp at h1)] at h
        have H := Lib.hid h
        clear hr h hw
        cases m
        all_goals
          go_enter Tryd.func11, Tryd.ntmps11
          go_wp2_with (first | (go_at_call 26; refine (sign_is s u _ _ HU.out HM.out).mono ?_; rintro e w' ⟨rfl, rfl⟩) | (go_at_call 27; refine (rallDigits_is u true _ HR.out (by omega)).mono ?_; rintro e w' ⟨rfl, rfl⟩) | (go_at_call 28; refine (number_is u _ a c _ (rdig_digs HR.out) H.out (by omega)).mono ?_; rintro e w' ⟨rfl, rfl⟩))
          go_ret2
          exact ⟨rfl, rfl⟩
    · have h1i : ¬ (1 : Int) < u.size := by omega
      cases hn : (u.toList == [48])
      · have hc : ¬ ((u[0]'hz).toNat : Int) = 48 := by
          intro e
          obtain ⟨t, ht⟩ := head_of u hz
          have ht2 : t = [] := by
            apply List.eq_nil_of_length_eq_zero
            have := congrArg List.length ht; rw [← Lib.size_eq] at this; simp at this; omega
          have h48 : (u[0]'hz) = 48 := by apply UInt8.toNat_inj.1; show _ = 48; omega
          rw [Lib.toList_data, ht, ht2, h48] at hn
          simp at hn
        have hw := whole_of hr hz hc
        rw [hw, if_pos rfl, ← rnum_sgn hw (by rintro ⟨_, e⟩; rw [Lib.toList_data, e] at hn; simp at hn)] at h
        have H := Lib.hid h
        clear hr h hw hc
        cases m
        all_goals
          go_enter Tryd.func11, Tryd.ntmps11
          go_wp2_with (first | (go_at_call 26; refine (sign_is s u _ _ HU.out HM.out).mono ?_; rintro e w' ⟨rfl, rfl⟩) | (go_at_call 27; refine (rallDigits_is u true _ HR.out (by omega)).mono ?_; rintro e w' ⟨rfl, rfl⟩) | (go_at_call 28; refine (number_is u _ a c _ (rdig_digs HR.out) H.out (by omega)).mono ?_; rintro e w' ⟨rfl, rfl⟩))
          go_ret2
          exact ⟨rfl, rfl⟩
      · have hl : u.data.toList = [48] := by rw [Lib.toList_data] at hn; exact eq_of_beq hn
        rw [hl, show whole [48] = true by decide, if_pos rfl, show val [48] = 0 by decide] at h
        clear hr
        cases m
        · cases h
          have HN := Lib.hid (show rnum u.data.toList false = (0, 0) by rw [hl]; decide)
          clear hl
          go_enter Tryd.func11, Tryd.ntmps11
          go_wp2_with (first | (go_at_call 26; refine (sign_is s u _ _ HU.out HM.out).mono ?_; rintro e w' ⟨rfl, rfl⟩) | (go_at_call 27; refine (rallDigits_is u true _ HR.out (by omega)).mono ?_; rintro e w' ⟨rfl, rfl⟩) | (go_at_call 28; refine (number_is u _ 0 0 _ (rdig_digs HR.out) HN.out (by omega)).mono ?_; rintro e w' ⟨rfl, rfl⟩))
          go_ret2
          exact ⟨rfl, rfl⟩
        · cases h
          clear hl
          go_enter Tryd.func11, Tryd.ntmps11
          go_wp2_with (first | (go_at_call 26; refine (sign_is s u _ _ HU.out HM.out).mono ?_; rintro e w' ⟨rfl, rfl⟩) | (go_at_call 27; refine (rallDigits_is u true _ HR.out (by omega)).mono ?_; rintro e w' ⟨rfl, rfl⟩))
          go_ret2
          exact ⟨rfl, rfl⟩

/-! ### the digits of a number -/
theorem conv_digit (z : Int) (b : UInt8) (hz : z = (b.toNat : Int)) (W : World) (A : Nat) (h : W.cell? ⟨A, 0, none⟩ = some (.int .u8 z)) :
    (convert 50 9 (.slice (some ⟨A, 0, none⟩) 1 1)).run Tryd.prog W = .ok (.string ⟨#[b]⟩) W := by
  refine run_convert_bytes_back W 50 9 5 ⟨A, 0, none⟩ 1 [b] Tryd.underlying50 Tryd.underlying5 Tryd.underlying9 ?_
  intro j hj
  obtain rfl : j = 0 := by simpa using hj
  rw [List.getElem_cons_zero, ← hz, ← h]
  simp [Addr.add]
theorem digits_one (n : Nat) (w : World) (hn : n < 10) :
    Calls Tryd.prog 30 #[.int .u64 n] w fun e w' => e = .returned (.string ⟨(Lib.decDigits n).toArray⟩) ∧ Below w.heap.size w w' := by
  have hni : (n : Int) < 10 := by omega
  obtain ⟨b, hb⟩ : ∃ b : UInt8, UInt8.ofNat (48 + n) = b := ⟨_, rfl⟩
  have hbn : b.toNat = 48 + n := by rw [← hb, u8_ofNat n hn]
  have h := dec_small hn
  rw [hb] at h
  have H := Lib.hid h
  have hcv := conv_digit (48 + (n : Int)) b (by omega)
  clear hn hb hbn h
  go_enter Tryd.func30, Tryd.ntmps30
  go_wp2
  go_ret
  refine ⟨?_, (Below.refl _ _).alloc (Nat.le_refl _) _⟩
  rw [H.out]; rfl
theorem bcell {W w1 : World} (hb : Below W.heap.size W w1) : ∀ b o, b < W.heap.size → w1.cell? ⟨b, o, none⟩ = W.cell? ⟨b, o, none⟩ :=
  fun b o h => hb.cell (p := ⟨b, o, none⟩) h
theorem u64_in {x : Int} (h0 : 0 ≤ x) (h1 : x ≤ 18446744073709551615) : IntKind.u64.wrap x = x := by
  unfold IntKind.wrap
  simp only [IntKind.bits, IntKind.signed, Bool.false_and, Bool.false_eq_true, if_false]
  exact Int.emod_eq_of_lt h0 (by omega)
theorem u8_in {x : Int} (h0 : 0 ≤ x) (h1 : x ≤ 255) : IntKind.u8.wrap x = x := by
  unfold IntKind.wrap
  simp only [IntKind.bits, IntKind.signed, Bool.false_and, Bool.false_eq_true, if_false]
  exact Int.emod_eq_of_lt h0 (by omega)
set_option maxHeartbeats 400000 in
theorem digits_big (n : Nat) (w : World) (hn : ¬ n < 10) (hn2 : n ≤ 9223372036854775808)
    (ih : ∀ (w : World), Calls Tryd.prog 30 #[.int .u64 ((n / 10 : Nat) : Int)] w fun e w' => e = .returned (.string ⟨(Lib.decDigits (n / 10)).toArray⟩) ∧ Below w.heap.size w w') :
    Calls Tryd.prog 30 #[.int .u64 n] w fun e w' => e = .returned (.string ⟨(Lib.decDigits n).toArray⟩) ∧ Below w.heap.size w w' := by
  have hni : ¬ (n : Int) < 10 := by omega
  obtain ⟨b, hb⟩ : ∃ b : UInt8, UInt8.ofNat (48 + n % 10) = b := ⟨_, rfl⟩
  have hbn : b.toNat = 48 + n % 10 := by rw [← hb, u8_ofNat _ (by omega)]
  have h := dec_big hn
  rw [hb] at h
  have H := Lib.hid h
  obtain ⟨z, hz⟩ : ∃ z : Int, ((n / 10 : Nat) : Int) = z := ⟨_, rfl⟩
  obtain ⟨y, hy⟩ : ∃ y : Int, ((n % 10 : Nat) : Int) = y := ⟨_, rfl⟩
  obtain ⟨x, hx⟩ : ∃ x : Int, 48 + y = x := ⟨_, rfl⟩
  have hq : IntKind.u64.wrap ((n : Int) / 10) = z := by rw [u64_in (by omega) (by omega)]; omega
  have hr : ((n : Int)).tmod 10 = y := by rw [Int.tmod_eq_emod_of_nonneg (by omega)]; omega
  have hs : IntKind.u64.wrap (48 + y) = x := by rw [u64_in (by omega) (by omega)]; omega
  have hs2 : IntKind.u8.wrap x = x := u8_in (by omega) (by omega)
  have hcv := conv_digit x b (by omega)
  obtain ⟨t, ht⟩ : ∃ t : ByteArray, (⟨(Lib.decDigits (n / 10)).toArray⟩ : ByteArray) = t := ⟨_, rfl⟩
  rw [ht, hz] at ih
  have hts : t.size ≤ 20 := by
    rw [← ht, Lib.size_eq]; simp only
    rw [Lib.decDigits_length]; exact Lib.nDigits_le20 _ (by omega)
  have HT := Lib.hid ht
  have HI := Lib.hid ih
  clear hn ih hb hbn h ht hz hy hx hn2
  go_enter Tryd.func30, Tryd.ntmps30
  go_wp2_with fail
  go_region_with (go_at_call 30; refine (HI.out _).mono ?_; rintro e w1 ⟨rfl, hb1⟩; have hc1 := bcell hb1)
  all_goals go_wp2
  all_goals go_ret
  all_goals refine ⟨?_, ?_⟩
  all_goals try (rw [H.out]; exact congrArg (fun q => Ending.returned (.string q)) (ext_list (by rw [← HT.out]; simp)))
  · exact al (tr (Below.refl _ w).drew hb1) _
  · exact tr (al (Below.refl _ w) _).drew hb1
  · exact tr (al (Below.refl _ w) _).drew hb1
theorem digits_any (n : Nat) (hn : n ≤ 9223372036854775808) : ∀ (w : World),
    Calls Tryd.prog 30 #[.int .u64 n] w fun e w' => e = .returned (.string ⟨(Lib.decDigits n).toArray⟩) ∧ Below w.heap.size w w' := by
  induction n using Nat.strongRecOn with
  | _ n ih =>
    intro w
    by_cases h : n < 10
    · exact digits_one n w h
    · exact digits_big n w h hn (ih (n / 10) (by omega) (by omega))
theorem digits_is (z : Int) (u : Nat) (t : ByteArray) (w : World) (hz : z = (u : Int)) (hu : u ≤ 9223372036854775808) (ht : t.data.toList = Lib.decDigits u) :
    Calls Tryd.prog 30 #[.int .u64 z] w fun e w' => e = .returned (.string t) ∧ Below w.heap.size w w' := by
  subst hz
  have := digits_any u hu w
  rw [str_eq ht] at this; exact this

theorem rFormatInt_is (n : Int) (t : ByteArray) (w : World) (h0 : -9223372036854775808 ≤ n) (h1 : n ≤ 9223372036854775807) (ht : t.data.toList = Lib.itoa n) :
    Calls Tryd.prog 13 #[.int .i64 n] w fun e w' => e = .returned (.string t) ∧ Below w.heap.size w w' := by
  obtain ⟨d, hd⟩ := str_mk (Lib.decDigits n.natAbs)
  have hds : d.size ≤ 20 := by
    rw [str_size hd, Lib.decDigits_length]; exact Lib.nDigits_le20 _ (by omega)
  have HD := Lib.hid hd
  by_cases hn : n < 0
  · rw [itoa_neg hn] at ht
    have he : ({ data := #[45] } : ByteArray) ++ d = t := ext_list (by rw [ht, ← hd]; simp)
    have HE := Lib.hid he
    clear ht hd he
    go_enter Tryd.func13, Tryd.ntmps13
    go_wp2_with (go_at_call 30; refine (digits_is _ n.natAbs d _ (by omega) (by omega) HD.out).mono ?_; rintro e w1 ⟨rfl, hb1⟩)
    go_ret
    exact ⟨congrArg (fun q => Ending.returned (.string q)) HE.out, hb1⟩
  · rw [itoa_pos hn] at ht
    have he : d = t := ext_list (by rw [ht, ← hd])
    subst he
    clear ht hd
    go_enter Tryd.func13, Tryd.ntmps13
    go_wp2_with (go_at_call 30; refine (digits_is _ n.natAbs d _ (by omega) (by omega) HD.out).mono ?_; rintro e w1 ⟨rfl, hb1⟩)
    go_ret
    exact ⟨rfl, hb1⟩
end Go.Proofs.YtgdibahgmpomeaaDoor.num
