/-
  What the reference's FormatFixed and ParseFixed answer: the walks, against the same plain functions as the program's.
-/
import Derived.Test.YtgdibahgmpomeaaDoorNumRef
namespace Go.Proofs.YtgdibahgmpomeaaDoor.num
open Go Go.RowKit Go.Sort
set_option linter.unusedVariables false

def sizeOfV : Value → Nat | .string s => s.size | _ => 0

/-- zeros laid before the digits, not more than are wanted -/
def Padded (k : Nat) (U : List UInt8) (d : ByteArray) : Prop := ∃ j, d.data.toList = List.replicate j 48 ++ U ∧ j + U.length ≤ max (k + 1) U.length
theorem Padded.step {k : Nat} {U : List UInt8} {d : ByteArray} (h : Padded k U d) (hk : d.size ≤ k) : Padded k U ({ data := #[48] } ++ d) := by
  obtain ⟨j, h1, h2⟩ := h
  refine ⟨j + 1, ?_, ?_⟩
  · rw [ByteArray.data_append, Array.toList_append, h1, List.replicate_succ]; rfl
  · rw [Lib.size_eq, h1] at hk; simp at hk; omega
theorem Padded.last {k : Nat} {U : List UInt8} {d : ByteArray} (h : Padded k U d) (hk : ¬ d.size ≤ k) : d.data.toList = padTo (k + 1) U := by
  obtain ⟨j, h1, h2⟩ := h
  rw [Lib.size_eq, h1] at hk
  simp at hk
  rw [h1]; unfold padTo
  rw [show k + 1 - U.length = j by omega]

set_option maxHeartbeats 1000000 in
theorem rFormatFixed_is (n p : Int) (t : ByteArray) (w : World) (h0 : -9223372036854775808 ≤ n) (h1 : n ≤ 9223372036854775807) (ht : t.data.toList = fixL (clamp p) n) :
    Calls Tryd.prog 17 #[.int .i64 n, .int .i64 p] w fun e w' => e = .returned (.string t) ∧ Below w.heap.size w w' := by
  have G0 := Lib.hid h0
  have G1 := Lib.hid h1
  clear h0 h1
  by_cases hk : clamp p = 0
  · rw [hk] at ht
    have H1 := Lib.hid (show (clamp p : Int) = 0 by rw [hk]; rfl)
    have H2 := Lib.hid (show t.data.toList = Lib.itoa n by unfold fixL at ht; simpa using ht)
    clear hk ht
    go_enter Tryd.func17, Tryd.ntmps17
    go_wp2_with (first | (go_at_call 34; refine (rclamp_is p 0 _ H1.out).mono ?_; rintro e w' ⟨rfl, rfl⟩) | (go_at_call 13; refine (rFormatInt_is n t _ G0.out G1.out H2.out).mono ?_; rintro e w' ⟨rfl, hb⟩))
    go_ret
    exact ⟨rfl, hb⟩
  · obtain ⟨k, hkk⟩ : ∃ k, clamp p = k := ⟨_, rfl⟩
    rw [hkk] at ht hk
    have H1 := Lib.hid (show (clamp p : Int) = (k : Int) by rw [hkk])
    have hk9 : k ≤ 9 := by rw [← hkk]; unfold clamp; omega
    clear hkk
    have hk0 : ((k : Int) == 0) = false := by simpa using hk
    obtain ⟨f, hf⟩ := str_mk (Lib.itoa n)
    obtain ⟨u, hu⟩ := str_mk (unsigned f.data.toList)
    obtain ⟨m, hm⟩ : ∃ m, minus f.data.toList = m := ⟨_, rfl⟩
    have hud : u.data.toList = Lib.decDigits n.natAbs := by rw [hu, hf, unsigned_itoa]
    have hmd : m = decide (n < 0) := by rw [← hm, hf, minus_itoa]
    have hus : u.size ≤ 21 := by
      have h5 : u.size ≤ f.size := by
        rw [str_size hu, Lib.size_eq]; unfold unsigned; split <;> simp
      have h6 := Lib.itoa_length_le n G0.out G1.out
      rw [← hf, ← Lib.size_eq] at h6
      omega
    have HF := Lib.hid hf
    have HU := Lib.hid hu
    have HM := Lib.hid hm
    have HT := Lib.hid ht
    have HK := Lib.hid hk
    have HUD := Lib.hid hud
    have HMD := Lib.hid hmd
    clear hf hu hm ht hk hud hmd
    go_enter Tryd.func17, Tryd.ntmps17
    go_wp2_with (first | (go_at_call 34; refine (rclamp_is p k _ H1.out).mono ?_; rintro e w' ⟨rfl, rfl⟩) | (go_at_call 13; refine (rFormatInt_is n f _ G0.out G1.out HF.out).mono ?_; rintro e w1 ⟨rfl, hb1⟩) | (go_at_call 26; refine (sign_is f u m _ HU.out HM.out).mono ?_; rintro e w' ⟨rfl, rfl⟩) | fail)
    go_loop [6] (fun v => ∃ d : ByteArray, v = .string d ∧ d.size ≤ 40 ∧ Padded k u.data.toList d) (fun v => k + 1 - sizeOfV v)
    case atStart => exact ⟨u, rfl, by omega, 0, by simp, by rw [← Lib.size_eq]; omega⟩
    case round =>
      obtain ⟨d, rfl, hd, hp⟩ := hrel
      have HP := Lib.hid hp
      clear hp
      by_cases hlt : d.size ≤ k
      · have hds : ({ data := #[48] } ++ d : ByteArray).size = d.size + 1 := by rw [ByteArray.size_append]; show 1 + _ = _; omega
        have HDS := Lib.hid hds
        clear hds
        go_wp2
        go_round
        case rel => exact ⟨_, rfl, by rw [HDS.out]; omega, HP.out.step hlt⟩
        case measure =>
          show k + 1 - ({ data := #[48] } ++ d : ByteArray).size < k + 1 - d.size
          rw [HDS.out]; omega
      · have hpad := HP.out.last hlt
        rw [HUD.out] at hpad
        have hft := fix_text (i := d.size - k) (j := d.size) HK.out hpad rfl rfl HT.out
        have HFT := Lib.hid hft
        clear hpad hft
        go_wp2_with fail
        go_quiet (fail)
        go_wp2
        all_goals go_ret
        · refine ⟨?_, hb1.trans (below_drewN (Below.refl _ _) _)⟩
          have hn : n < 0 := by have := HMD.out; simp_all
          exact congrArg (fun q => Ending.returned (.string q)) (HFT.out.1 (by omega))
        · refine ⟨?_, hb1.trans (below_drewN (Below.refl _ _) _)⟩
          have hn : ¬ n < 0 := by have := HMD.out; simp_all
          exact congrArg (fun q => Ending.returned (.string q)) (HFT.out.2 (by omega))

/-! ### parsing -/
theorem parseF_bad {k : Nat} {l : List UInt8} (hk : ¬ k = 0) (h : ∀ x y, unsigned l = x ++ 46 :: y → whole x = true → y.length = k → digs y = true → False) : parseF k l = (0, 2) := by
  unfold parseF
  rw [if_neg hk]
  rcases cutDot_spec (unsigned l) with ⟨_, e⟩ | ⟨x, y, e1, e2, e3⟩
  · rw [e]; simp
  · rw [e3]
    simp only [Bool.true_and]
    cases hx : whole x
    · simp
    · cases hy : digs y
      · simp
      · by_cases hl : y.length = k
        · exact absurd hy (fun _ => h x y e1 hx hl hy)
        · simp [hl]
theorem parseF_good {k : Nat} {l x y : List UInt8} (hk : ¬ k = 0) (hu : unsigned l = x ++ 46 :: y) (hx : whole x = true) (hl : y.length = k) (hy : digs y = true) : parseF k l = sgn (val (x ++ y)) (minus l) := by
  unfold parseF
  rw [if_neg hk, hu, cutDot_at (digs_nodot (whole_digs' hx))]
  simp [hx, hl, hy]

/-- What is left of the digits once zeros are taken off the front. -/
def Left (v : Nat) (d : ByteArray) : Prop := digs d.data.toList = true ∧ 0 < d.size ∧ val d.data.toList = v
theorem Left.step {v : Nat} {d : ByteArray} (h : Left v d) (h1 : 1 < d.size) (hc : ((d[0]'h.2.1).toNat : Int) = 48) : Left v (d.extract 1 d.size) := by
  obtain ⟨a, b, c⟩ := h
  obtain ⟨t, ht⟩ := head_of d b
  have h48 : (d[0]'b) = 48 := by apply UInt8.toNat_inj.1; show _ = 48; omega
  have e : (d.extract 1 d.size).data.toList = t := by
    rw [Lib.extract_data, ht]
    simp only [List.drop_succ_cons, List.drop_zero]
    rw [List.take_of_length_le]
    have := congrArg List.length ht
    rw [← Lib.size_eq] at this; simp at this; omega
  rw [ht, h48] at a c
  refine ⟨?_, ?_, ?_⟩
  · rw [e]; simp only [digs, List.all_cons, Bool.and_eq_true] at a; exact a.2
  · rw [ByteArray.size_extract]; omega
  · rw [e]; exact c
theorem Left.whole {v : Nat} {d : ByteArray} (h : Left v d) (hc : ¬ 1 < d.size ∨ ¬ ((d[0]'h.2.1).toNat : Int) = 48) : whole d.data.toList = true := by
  obtain ⟨a, b, c⟩ := h
  rcases hc with hc | hc
  · obtain ⟨t, ht⟩ := head_of d b
    have ht2 : t = [] := by
      apply List.eq_nil_of_length_eq_zero
      have := congrArg List.length ht; rw [← Lib.size_eq] at this; simp at this; omega
    subst ht2
    rw [ht] at a ⊢
    unfold num.whole
    rw [a]
    by_cases e : (d[0]'b) = 48
    · rw [e]; rfl
    · simp
  · rw [whole_other d b hc]; exact a

theorem head_extract (u : ByteArray) (q : Nat) (hz : 0 < u.size) (hx : 0 < (u.extract 0 q).size) : ((u.extract 0 q)[0]'hx) = (u[0]'hz) := by
  obtain ⟨t, ht⟩ := head_of u hz
  obtain ⟨t2, ht2⟩ := head_of (u.extract 0 q) hx
  rw [Lib.extract_data, ht] at ht2
  cases q with
  | zero => simp at hx
  | succ q => simp at ht2; exact ht2.1.symm
theorem rdig_whole {l : List UInt8} (h : whole l = true) : rdig l = true := by
  cases hr : rdig l
  · rw [rdig_whole_false hr] at h; cases h
  · rfl
theorem rdig_of {l : List UInt8} (h : digs l = true) (h0 : 0 < l.length) : rdig l = true := by
  unfold rdig; rw [h]
  cases l with
  | nil => simp at h0
  | cons c t => rfl
theorem take_point {x y : List UInt8} {u : ByteArray} {q : Nat} (hu : u.data.toList = x ++ 46 :: y) (hq : q + y.length + 1 = u.size) : (u.extract 0 q).data.toList = x ∧ (u.extract (q + 1) u.size).data.toList = y ∧ ∃ h : q < u.size, (u[q]'h).toNat = 46 ∧ q = x.length := by
  have hql : q = x.length := by rw [Lib.size_eq, hu] at hq; simp at hq; omega
  subst hql
  refine ⟨?_, ?_, ?_⟩
  · rw [Lib.extract_data, hu]; simp
  · rw [Lib.extract_data, Lib.size_eq, hu, List.take_of_length_le (by simp; omega)]
    rw [show x.length + 1 = (x ++ [46]).length by simp, show x ++ 46 :: y = (x ++ [46]) ++ y by simp, List.drop_left]
  · refine ⟨by omega, ?_, rfl⟩
    have e : (u[x.length]'(by omega)) = u.data.toList[x.length]'(by rw [← Lib.size_eq]; omega) := by simp; rfl
    have e2 : u.data.toList[x.length]? = some 46 := by rw [hu]; simp
    rw [List.getElem?_eq_getElem (by rw [← Lib.size_eq]; omega)] at e2
    rw [e, Option.some.inj e2]; rfl
theorem join_point {u : ByteArray} {q : Nat} (h : q < u.size) (hc : (u[q]'h).toNat = 46) : u.data.toList = (u.extract 0 q).data.toList ++ 46 :: (u.extract (q + 1) u.size).data.toList := by
  have h46 : (u[q]'h) = 46 := by apply UInt8.toNat_inj.1; rw [hc]; rfl
  rw [Lib.extract_data, Lib.extract_data, List.drop_zero, Nat.sub_zero, List.take_of_length_le (l := u.data.toList.drop (q + 1)) (by rw [List.length_drop, Lib.size_eq]; exact Nat.le_refl _), ← h46, ← drop_cons u q h, List.take_append_drop]

set_option maxHeartbeats 2000000 in
theorem rParseFixed_is (s : ByteArray) (p a c : Int) (w : World) (hs : s.size ≤ 4294967280) (h : parseF (clamp p) s.data.toList = (a, c)) :
    Calls Tryd.prog 15 #[.string s, .int .i64 p] w fun e w' => e = .returned (.tuple #[.int .i64 a, .int .i64 c]) ∧ Below w.heap.size w w' := by
  by_cases hk : clamp p = 0
  · rw [hk] at h
    have H1 := Lib.hid (show (clamp p : Int) = 0 by rw [hk]; rfl)
    have H2 := Lib.hid (show parseI s.data.toList = (a, c) by unfold parseF at h; simpa using h)
    clear hk h
    go_enter Tryd.func15, Tryd.ntmps15
    go_wp2_with (first | (go_at_call 34; refine (rclamp_is p 0 _ H1.out).mono ?_; rintro e w' ⟨rfl, rfl⟩) | (go_at_call 11; refine (rParseInt_is s a c _ H2.out (by omega)).mono ?_; rintro e w' ⟨rfl, rfl⟩))
    go_ret2
    exact ⟨rfl, Below.refl _ _⟩
  · obtain ⟨k, hkk⟩ : ∃ k, clamp p = k := ⟨_, rfl⟩
    rw [hkk] at h hk
    have H1 := Lib.hid (show (clamp p : Int) = (k : Int) by rw [hkk])
    have hk9 : k ≤ 9 := by rw [← hkk]; unfold clamp; omega
    clear hkk
    have hk0 : ((k : Int) == 0) = false := by simpa using hk
    obtain ⟨u, hu⟩ := str_mk (unsigned s.data.toList)
    obtain ⟨m, hm⟩ : ∃ m, minus s.data.toList = m := ⟨_, rfl⟩
    have hus : u.size ≤ 4294967280 := by
      have : u.size ≤ s.size := by
        rw [str_size hu, Lib.size_eq]; unfold unsigned; split <;> simp
      omega
    have HU := Lib.hid hu
    have HM := Lib.hid hm
    have HK := Lib.hid hk
    have hk1 : 1 ≤ k := by omega
    by_cases hlen : u.size < k + 2
    · have hb := parseF_bad (l := s.data.toList) hk (fun x y e1 e2 e3 e4 => by
        have := whole_ne e2
        have h2 := List.length_pos_iff.2 this
        have h3 := str_size hu
        rw [e1] at h3; simp at h3; omega)
      rw [hb] at h
      cases h
      have hli : (u.size : Int) - (k : Int) - 1 < 1 := by omega
      clear hu hm hk hb
      go_enter Tryd.func15, Tryd.ntmps15
      go_wp2_with (first | (go_at_call 34; refine (rclamp_is p k _ H1.out).mono ?_; rintro e w' ⟨rfl, rfl⟩) | (go_at_call 26; refine (sign_is s u m _ HU.out HM.out).mono ?_; rintro e w' ⟨rfl, rfl⟩))
      go_ret2
      exact ⟨rfl, Below.refl _ _⟩
    · obtain ⟨q, hq⟩ : ∃ q, u.size = q + k + 1 := ⟨u.size - k - 1, by omega⟩
      have hq1 : 1 ≤ q := by omega
      have hqlt : q < u.size := by omega
      have hat : (u.size : Int) - (k : Int) - 1 = (q : Int) := by omega
      have hq1i : ¬ (q : Int) < 1 := by omega
      have hq1d : decide ((q : Int) < 1) = false := by rw [decide_eq_false_iff_not]; omega
      by_cases hc : (u[q]'hqlt).toNat = 46
      · have hci : ((u[q]'hqlt).toNat : Int) = 46 := by omega
        have hj := join_point hqlt hc
        have hxs : (u.extract 0 q).size = q := by rw [ByteArray.size_extract]; omega
        have hys : (u.extract (q + 1) u.size).size = k := by rw [ByteArray.size_extract]; omega
        have HX := Lib.hid hxs
        have HY := Lib.hid hys
        have HQ := Lib.hid hq
        have HJ := Lib.hid hj
        have HC := Lib.hid hc
        have bad : ∀ (_ : ∀ x y, (u.extract 0 q).data.toList = x → (u.extract (q + 1) u.size).data.toList = y → whole x = true → digs y = true → y.length = k → False), parseF k s.data.toList = (0, 2) := fun g => parseF_bad hk (fun x y e1 e2 e3 e4 => by
          obtain ⟨g1, g2, _⟩ := take_point (u := u) (q := q) (x := x) (y := y) (by rw [hu, e1]) (by omega)
          exact g x y g1 g2 e2 e4 e3)
        cases hrx : rdig (u.extract 0 q).data.toList
        · have hb := bad (fun x y g1 g2 e2 e4 e3 => by rw [g1, rdig_whole e2] at hrx; cases hrx)
          rw [hb] at h
          cases h
          have HRX := Lib.hid hrx
          clear hu hm hk hb hlen hc hq hj hxs hys bad hrx
          go_enter Tryd.func15, Tryd.ntmps15
          go_wp2_with (first | (go_at_call 34; refine (rclamp_is p k _ H1.out).mono ?_; rintro e w' ⟨rfl, rfl⟩) | (go_at_call 26; refine (sign_is s u m _ HU.out HM.out).mono ?_; rintro e w' ⟨rfl, rfl⟩) | (go_at_call 27; refine (rallDigits_is (u.extract 0 q) false _ HRX.out (by rw [HX.out]; omega)).mono ?_; rintro e w' ⟨rfl, rfl⟩))
          go_ret2
          exact ⟨rfl, Below.refl _ _⟩
        · have HRX := Lib.hid hrx
          cases hry : rdig (u.extract (q + 1) u.size).data.toList
          · have hb := bad (fun x y g1 g2 e2 e4 e3 => by rw [g2, rdig_of e4 (by omega)] at hry; cases hry)
            rw [hb] at h
            cases h
            have HRY := Lib.hid hry
            clear hu hm hk hb hlen hc hq hj hxs hys bad hrx hry
            go_enter Tryd.func15, Tryd.ntmps15
            go_wp2_with (first | (go_at_call 34; refine (rclamp_is p k _ H1.out).mono ?_; rintro e w' ⟨rfl, rfl⟩) | (go_at_call 26; refine (sign_is s u m _ HU.out HM.out).mono ?_; rintro e w' ⟨rfl, rfl⟩) | (go_at_call 27; (with_reducible refine (rallDigits_is (u.extract 0 q) true _ HRX.out (by rw [HX.out]; omega)).mono ?_); rintro e w' ⟨rfl, rfl⟩) | (go_at_call 27; (with_reducible refine (rallDigits_is (u.extract (q + 1) u.size) false _ HRY.out (by rw [HY.out]; omega)).mono ?_); rintro e w' ⟨rfl, rfl⟩))
            go_ret2
            exact ⟨rfl, Below.refl _ _⟩
          · have HRY := Lib.hid hry
            have hz : 0 < u.size := by omega
            by_cases hzero : 1 < q ∧ ((u[0]'hz).toNat : Int) = 48
            · obtain ⟨hz1, hz2⟩ := hzero
              have hb := bad (fun x y g1 g2 e2 e4 e3 => by
                have hxz : 0 < (u.extract 0 q).size := by omega
                have hhead := head_extract u q hz hxz
                have hne : ((u.extract 0 q).toList == [48]) = false := by
                  rw [Lib.toList_data, beq_eq_false_iff_ne]; intro e; have := congrArg List.length e; rw [← Lib.size_eq, hxs] at this; simp at this; omega
                have := whole_zero (u.extract 0 q) hxz (by rw [hhead]; exact hz2) hne
                rw [g1, e2] at this; cases this)
              rw [hb] at h
              cases h
              have hzi : (1 : Int) < q := by omega
              clear hu hm hk hb hlen hc hq hj hxs hys bad hrx hry
              go_enter Tryd.func15, Tryd.ntmps15
              go_wp2_with (first | (go_at_call 34; refine (rclamp_is p k _ H1.out).mono ?_; rintro e w' ⟨rfl, rfl⟩) | (go_at_call 26; refine (sign_is s u m _ HU.out HM.out).mono ?_; rintro e w' ⟨rfl, rfl⟩) | (go_at_call 27; (with_reducible refine (rallDigits_is (u.extract 0 q) true _ HRX.out (by rw [HX.out]; omega)).mono ?_); rintro e w' ⟨rfl, rfl⟩) | (go_at_call 27; (with_reducible refine (rallDigits_is (u.extract (q + 1) u.size) true _ HRY.out (by rw [HY.out]; omega)).mono ?_); rintro e w' ⟨rfl, rfl⟩))
              go_ret2
              exact ⟨rfl, Below.refl _ _⟩
            · have hxz : 0 < (u.extract 0 q).size := by omega
              have hhead := head_extract u q hz hxz
              have hwx : whole (u.extract 0 q).data.toList = true := by
                by_cases h48 : ((u[0]'hz).toNat : Int) = 48
                · have hq0 : q = 1 := by
                    rcases Nat.lt_or_ge 1 q with g | g
                    · exact absurd ⟨g, h48⟩ hzero
                    · omega
                  have hl : Left (val (u.extract 0 q).data.toList) (u.extract 0 q) := ⟨rdig_digs hrx, hxz, rfl⟩
                  exact hl.whole (.inl (by omega))
                · exact whole_of hrx hxz (by rw [hhead]; exact h48)
              have hg := parseF_good hk (by rw [← hu]; exact hj) hwx (by rw [← Lib.size_eq]; exact hys) (rdig_digs hry)
              rw [hg, hm] at h
              have hxy : (u.extract 0 q ++ u.extract (q + 1) u.size).data.toList = (u.extract 0 q).data.toList ++ (u.extract (q + 1) u.size).data.toList := by rw [ByteArray.data_append, Array.toList_append]
              rw [← hxy] at h
              have hleft : Left (val (u.extract 0 q ++ u.extract (q + 1) u.size).data.toList) (u.extract 0 q ++ u.extract (q + 1) u.size) := by
                refine ⟨?_, ?_, rfl⟩
                · rw [hxy, digs_app, rdig_digs hrx, rdig_digs hry]; rfl
                · rw [ByteArray.size_append]; omega
              have hsz : (u.extract 0 q ++ u.extract (q + 1) u.size).size ≤ 4294967290 := by rw [ByteArray.size_append]; omega
              obtain ⟨vv, hv⟩ : ∃ vv, val (u.extract 0 q ++ u.extract (q + 1) u.size).data.toList = vv := ⟨_, rfl⟩
              rw [hv] at h hleft
              have H := Lib.hid h
              have HL := Lib.hid hleft
              have HS := Lib.hid hsz
              have hzd : ¬ (1 : Int) < q ∨ ((1 : Int) < q ∧ ¬ ((u[0]'hz).toNat : Int) = 48) := by
                by_cases g : 1 < q
                · exact .inr ⟨by omega, fun e => hzero ⟨g, e⟩⟩
                · exact .inl (by omega)
              clear hu hm hk hlen hc hq hj hxs hys bad hrx hry h hleft hsz hv hxy hg hwx hhead hzero hxz
              have hsx : (u.extract 0 q).size ≤ 4294967280 := by rw [HX.out]; omega
              have hsy : (u.extract (q + 1) u.size).size ≤ 9 := by rw [HY.out]; omega
              rcases hzd with hzd | ⟨hzd, hze⟩
              all_goals
                go_enter Tryd.func15, Tryd.ntmps15
                go_wp2_with (first | (go_at_call 34; refine (rclamp_is p k _ H1.out).mono ?_; rintro e w' ⟨rfl, rfl⟩) | (go_at_call 26; refine (sign_is s u m _ HU.out HM.out).mono ?_; rintro e w' ⟨rfl, rfl⟩) | (go_at_call 27; (with_reducible refine (rallDigits_is (u.extract 0 q) true _ HRX.out (by rw [HX.out]; omega)).mono ?_); rintro e w' ⟨rfl, rfl⟩) | (go_at_call 27; (with_reducible refine (rallDigits_is (u.extract (q + 1) u.size) true _ HRY.out (by rw [HY.out]; omega)).mono ?_); rintro e w' ⟨rfl, rfl⟩))
                go_quiet (fail)
                go_wp2_with fail
                go_loop [7] (fun v => ∃ d : ByteArray, v = .string d ∧ d.size ≤ 4294967290 ∧ Left vv d) (fun v => sizeOfV v)
                case atStart => exact ⟨_, rfl, HS.out, HL.out⟩
                case round =>
                  obtain ⟨d, rfl, hd, hl⟩ := hrel
                  have hd0 := hl.2.1
                  have HLD := Lib.hid hl
                  clear hl
                  by_cases hz1 : 1 < d.size ∧ ((d[0]'hd0).toNat : Int) = 48
                  · obtain ⟨g1, g2⟩ := hz1
                    have g1i : (1 : Int) < d.size := by omega
                    have HN := Lib.hid (HLD.out.step g1 g2)
                    have HNS := Lib.hid (show (d.extract 1 d.size).size = d.size - 1 by rw [ByteArray.size_extract]; omega)
                    go_wp2
                    go_round
                    case rel => exact ⟨_, rfl, by rw [HNS.out]; omega, HN.out⟩
                    case measure =>
                      show (d.extract 1 d.size).size < d.size
                      rw [HNS.out]; omega
                  · have hw : whole d.data.toList = true := HLD.out.whole (by
                      by_cases g : 1 < d.size
                      · exact .inr (fun e => hz1 ⟨g, e⟩)
                      · exact .inl g)
                    have HW := Lib.hid hw
                    have hcase : ¬ (1 : Int) < d.size ∨ ((1 : Int) < d.size ∧ ¬ ((d[0]'hd0).toNat : Int) = 48) := by
                      by_cases g : 1 < d.size
                      · exact .inr ⟨by omega, fun e => hz1 ⟨g, e⟩⟩
                      · exact .inl (by omega)
                    have hV := HLD.out.2.2
                    have hh := H.out
                    rw [← hV] at hh
                    have HH := Lib.hid hh
                    clear hz1 hw hV hh
                    cases hn : (d.toList == [48])
                    · have hr : rnum d.data.toList m = (a, c) := by
                        rw [rnum_sgn HW.out (by rintro ⟨_, e⟩; rw [Lib.toList_data, e] at hn; simp at hn)]; exact HH.out
                      have HR := Lib.hid hr
                      clear hr
                      cases m
                      all_goals
                        rcases hcase with g | ⟨g, g2⟩
                        all_goals
                          go_wp2_with (go_at_call 28; refine (number_is d _ a c _ HLD.out.1 HR.out (by omega)).mono ?_; rintro e w' ⟨rfl, rfl⟩)
                          go_ret2
                          exact ⟨rfl, below_drewN (Below.refl _ _) _⟩
                    · have hl48 : d.data.toList = [48] := by rw [Lib.toList_data] at hn; exact eq_of_beq hn
                      cases m
                      · have hr : rnum d.data.toList false = (a, c) := by
                          rw [rnum_sgn HW.out (by rintro ⟨e, _⟩; cases e)]; exact HH.out
                        have HR := Lib.hid hr
                        clear hr hl48
                        rcases hcase with g | ⟨g, g2⟩
                        all_goals
                          go_wp2_with (go_at_call 28; refine (number_is d _ a c _ HLD.out.1 HR.out (by omega)).mono ?_; rintro e w' ⟨rfl, rfl⟩)
                          go_ret2
                          exact ⟨rfl, below_drewN (Below.refl _ _) _⟩
                      · have hv := HH.out
                        rw [hl48, show sgn (val [48]) true = (0, 2) by decide] at hv
                        cases hv
                        clear hl48
                        rcases hcase with g | ⟨g, g2⟩
                        all_goals
                          go_wp2_with fail
                          go_ret2
                          exact ⟨rfl, below_drewN (Below.refl _ _) _⟩
      · have hb := parseF_bad (l := s.data.toList) hk (fun x y e1 e2 e3 e4 => by
          obtain ⟨_, _, h3, h4, _⟩ := take_point (u := u) (q := q) (x := x) (y := y) (by rw [hu, e1]) (by omega)
          exact hc h4)
        rw [hb] at h
        cases h
        have hci : ¬ ((u[q]'hqlt).toNat : Int) = 46 := by omega
        have HQ := Lib.hid hq
        clear hu hm hk hb hlen hc hq
        go_enter Tryd.func15, Tryd.ntmps15
        go_wp2_with (first | (go_at_call 34; refine (rclamp_is p k _ H1.out).mono ?_; rintro e w' ⟨rfl, rfl⟩) | (go_at_call 26; refine (sign_is s u m _ HU.out HM.out).mono ?_; rintro e w' ⟨rfl, rfl⟩) | fail)
        go_ret2
        exact ⟨rfl, Below.refl _ _⟩
end Go.Proofs.YtgdibahgmpomeaaDoor.num
