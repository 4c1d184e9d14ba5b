/-
  slices.BinarySearch over a list of increasing dates: whether it finds one. The walk.
-/
import Derived.Test.YtmmohbmgodiilaaDoorQWdRef
namespace Go.Proofs.YtmmohbmgodiilaaDoor.wd
open Go Go.RowKit Go.Proofs.YtmmohbmgodiilaaDoor.money Go.Proofs.YtmmohbmgodiilaaDoor.ints Go.Proofs.YtmmohbmgodiilaaDoor.rng
set_option linter.unusedVariables false
set_option linter.unusedSimpArgs false

/-- increasing dates: mathematics -/
theorem up_gt : ∀ {l : List Int} {p : Int}, upR p l = true → ∀ {i : Nat} {x : Int}, l[i]? = some x → p < x ∧ x ≤ 109572
  | [], _, _, i, x, hx => by simp at hx
  | y :: l, p, h, i, x, hx => by
    simp only [upR, Bool.and_eq_true, decide_eq_true_eq] at h
    cases i with
    | zero => simp at hx; subst hx; omega
    | succ i =>
      simp at hx
      have := up_gt h.2 hx
      omega
theorem up_lt : ∀ {l : List Int} {p : Int}, upR p l = true → ∀ {i j : Nat} {x y : Int}, i < j → l[i]? = some x → l[j]? = some y → x < y
  | [], _, _, i, j, x, y, _, hx, _ => by simp at hx
  | z :: l, p, h, i, j, x, y, hij, hx, hy => by
    simp only [upR, Bool.and_eq_true, decide_eq_true_eq] at h
    obtain ⟨j, rfl⟩ : ∃ k, j = k + 1 := ⟨j - 1, by omega⟩
    simp only [List.getElem?_cons_succ] at hy
    cases i with
    | zero => simp at hx; subst hx; exact (up_gt h.2 hy).1
    | succ i => exact up_lt (i := i) (j := j) h.2 (by omega) (by simpa using hx) hy
/-- the list parted at m by the searched date -/
def Parted (hs : List Int) (d : Int) (lo hi : Nat) : Prop := (∀ (t : Nat) (z : Int), hs[t]? = some z → t < lo → z < d) ∧ (∀ (t : Nat) (z : Int), hs[t]? = some z → hi ≤ t → d ≤ z)
theorem parted_end {hs : List Int} {d : Int} {m : Nat} (hp : Parted hs d m m) (hu : upR (-1) hs = true) : hs.contains d = decide (hs[m]? = some d) := by
  by_cases h : hs[m]? = some d
  · rw [decide_eq_true h]
    simp only [List.contains_iff_mem]
    exact List.mem_of_getElem? h
  · rw [decide_eq_false h, Bool.eq_false_iff]
    intro hc
    simp only [List.contains_iff_mem] at hc
    obtain ⟨t, ht⟩ := List.mem_iff_getElem?.1 hc
    rcases Nat.lt_trichotomy t m with g | g | g
    · have := hp.1 t d ht g; omega
    · subst g; exact h ht
    · obtain ⟨tl, _⟩ := List.getElem?_eq_some_iff.1 ht
      obtain ⟨y, hy⟩ : ∃ y, hs[m]? = some y := ⟨_, List.getElem?_eq_getElem (by omega)⟩
      have h1 := hp.2 m y hy (Nat.le_refl _)
      have h2 := up_lt hu g hy ht
      omega
theorem parted_up {hs : List Int} {d y : Int} {lo hi m : Nat} (hp : Parted hs d lo hi) (hu : upR (-1) hs = true) (hm : hs[m]? = some y) (hy : y < d) : Parted hs d (m + 1) hi :=
  ⟨fun t z ht hl => by
    rcases Nat.lt_or_ge t m with g | g
    · have := up_lt hu g ht hm; omega
    · obtain rfl : t = m := by omega
      rw [hm] at ht; cases ht; exact hy, hp.2⟩
theorem parted_down {hs : List Int} {d y : Int} {lo hi m : Nat} (hp : Parted hs d lo hi) (hu : upR (-1) hs = true) (hm : hs[m]? = some y) (hy : d ≤ y) : Parted hs d lo m :=
  ⟨hp.1, fun t z ht hl => by
    rcases Nat.lt_or_ge m t with g | g
    · have := up_lt hu g hm ht; omega
    · obtain rfl : t = m := by omega
      rw [hm] at ht; cases ht; exact hy⟩

theorem nanC_is (x : Int) (w : World) : Calls Tryd.prog 74 #[.int .i64 x] w fun e w' => e = .returned (.bool false) ∧ w = w' := by
  go_enter Tryd.func74, Tryd.ntmps74
  go_wp2
  go_ret
  exact ⟨ref_bool (by simp), rfl⟩
theorem nanS_is (x : Int) (w : World) : Calls Tryd.prog 64 #[.int .i64 x] w fun e w' => e = .returned (.bool false) ∧ w = w' := by
  go_enter Tryd.func64, Tryd.ntmps64
  go_wp2
  go_ret
  exact ⟨ref_bool (by simp), rfl⟩
theorem less_is (x y : Int) (c : Bool) (w : World) (h : decide (x < y) = c) : Calls Tryd.prog 63 #[.int .i64 x, .int .i64 y] w fun e w' => e = .returned (.bool c) ∧ ∃ m, w' = w.drewN m := by
  go_enter Tryd.func63, Tryd.ntmps63
  go_wp2_with (go_at_call 74; refine (nanC_is _ _).mono ?_; rintro e w' ⟨rfl, rfl⟩)
  go_ret
  exact ⟨rfl, 0, rfl⟩
set_option maxRecDepth 4000 in
set_option maxHeartbeats 4000000 in
theorem search_is (A : Option Addr) (n cp : Nat) (hs : List Int) (d : Int) (c : Bool) (w : World) (hn : hs.length = n) (hi : Ints w (.slice A n cp) hs) (hu : upR (-1) hs = true) (n64 : n ≤ 64) (h : hs.contains d = c) :
    Calls Tryd.prog 59 #[.slice A n cp, .int .i64 d] w fun e w' => ∃ p : Int, e = .returned (.tuple #[.int .i64 p, .bool c]) ∧ Below w.heap.size w w' := by
  have HI := Lib.hid hi
  have HN := Lib.hid hn
  have HU := Lib.hid hu
  have H := Lib.hid h
  clear hi hn hu h
  go_enter Tryd.func59, Tryd.ntmps59
  go_wp2
  have HP := Lib.hid (show Parted hs d 0 n from ⟨fun t z _ h => by omega, fun t z ht h => by
    obtain ⟨tl, _⟩ := List.getElem?_eq_some_iff.1 ht
    have := HN.out; omega⟩)
  go_loopw [7, 8] (fun i j wr => ∃ lo hi m : Nat, i = .int .i64 lo ∧ j = .int .i64 hi ∧ lo ≤ hi ∧ hi ≤ n ∧ wr = w.drewN m ∧ Parted hs d lo hi) (fun i j _ => (intOf j).toNat - (intOf i).toNat)
  case atStart => exact ⟨0, n, 0, rfl, rfl, Nat.zero_le _, Nat.le_refl _, rfl, HP.out⟩
  case round =>
    obtain ⟨lo, hi, m, rfl, rfl, hlh, hhn, rfl, hp⟩ := hrel
    by_cases hlt : lo < hi
    · obtain ⟨g, off, cp', hv', hg, hc⟩ := HI.out.form (by have := HN.out; omega)
      simp only [Value.slice.injEq] at hv'
      obtain ⟨rfl, -, -⟩ := hv'
      obtain ⟨y, hy⟩ : ∃ y, hs[(lo + hi) / 2]? = some y := ⟨_, List.getElem?_eq_getElem (by have := HN.out; omega)⟩
      have c0 := hc _ y hy
      have HY := Lib.hid hy
      have HPP := Lib.hid hp
      obtain ⟨q, hq⟩ : ∃ b, decide (y < d) = b := ⟨_, rfl⟩
      have HQ := Lib.hid hq
      clear hc hy hp hq HP
      cases q
      · go_wp2_with (first
          | (go_at_call 63; refine (less_is y d _ _ HQ.out).mono ?_; rintro e w' ⟨rfl, mq, rfl⟩)
          | fail)
        go_roundw
        case rel => exact ⟨lo, (lo + hi) / 2, _, rfl, by go_num, by omega, by omega, rfl, parted_down HPP.out HU.out HY.out (by have := HQ.out; simp at this; omega)⟩
        case measure => simp [intOf]; omega
      · go_wp2_with (first
          | (go_at_call 63; refine (less_is y d _ _ HQ.out).mono ?_; rintro e w' ⟨rfl, mq, rfl⟩)
          | fail)
        go_roundw
        case rel => exact ⟨(lo + hi) / 2 + 1, hi, _, by go_num, rfl, by omega, by omega, rfl, parted_up HPP.out HU.out HY.out (by have := HQ.out; simp at this; omega)⟩
        case measure => simp [intOf]; omega
    · obtain rfl : lo = hi := by omega
      have hc := parted_end hp HU.out
      rw [H.out] at hc
      clear hp HP
      by_cases hl : lo < n
      · obtain ⟨g, off, cp', hv', hg, hcs⟩ := HI.out.form (by have := HN.out; omega)
        simp only [Value.slice.injEq] at hv'
        obtain ⟨rfl, -, -⟩ := hv'
        obtain ⟨y, hy⟩ : ∃ y, hs[lo]? = some y := ⟨_, List.getElem?_eq_getElem (by have := HN.out; omega)⟩
        have c0 := hcs _ y hy
        by_cases hyd : y = d
        · subst hyd
          have HC := Lib.hid (show true = c by rw [hc, hy]; simp)
          clear hcs hy hc
          go_wp2_with (first | (go_at_call 64; refine (nanS_is _ _).mono ?_; rintro e w' ⟨rfl, rfl⟩) | fail)
          go_ret2
          refine ⟨lo, ?_, below_drewN (Below.refl _ _) _⟩
          rw [← HC.out]
          first | rfl | (simp [q1, q2]; done) | (simp; done)
        · have HC := Lib.hid (show false = c by rw [hc, hy]; simp [hyd])
          have q1 : (y == d) = false := by simp [hyd]
          have q2 : (d == y) = false := by simp; exact fun h => hyd h.symm
          clear hcs hy hc
          go_wp2_with (first | (go_at_call 64; refine (nanS_is _ _).mono ?_; rintro e w' ⟨rfl, rfl⟩) | fail)
          go_ret2
          refine ⟨lo, ?_, below_drewN (Below.refl _ _) _⟩
          rw [← HC.out]
          first | rfl | (simp [q1, q2]; done) | (simp; done)
      · have HC := Lib.hid (show false = c by rw [hc, List.getElem?_eq_none (by have := HN.out; omega)]; simp)
        clear hc
        go_wp2_with (first | (go_at_call 64; refine (nanS_is _ _).mono ?_; rintro e w' ⟨rfl, rfl⟩) | fail)
        go_ret2
        refine ⟨lo, ?_, below_drewN (Below.refl _ _) _⟩
        rw [← HC.out]
        first | rfl | (simp [q1, q2]; done) | (simp; done)
end Go.Proofs.YtmmohbmgodiilaaDoor.wd
