/-
  The landed functions of package workday on the next days: workdayFrom, Add, Next. The walks.
-/
import Derived.Test.YtkecjegjdlmdkaaWdMineB
namespace Go.Proofs.Ytkecjegjdlmdkaa.wd
open Go Go.RowKit Go.Proofs.Ytkecjegjdlmdkaa.money Go.Proofs.Ytkecjegjdlmdkaa.ints Go.Proofs.Ytkecjegjdlmdkaa.rng
set_option linter.unusedVariables false
set_option linter.unusedSimpArgs false

/-- the n-th working day among the k days from y on -/
def fromR (wk : Int) (hs : List Int) : Nat → Int → Int → Int × Int
  | 0, y, n => (0, 6)
  | k + 1, y, n => if wdR wk hs y then (if n = 1 then (y, 0) else fromR wk hs k (y + 1) (n - 1)) else fromR wk hs k (y + 1) n
theorem next_from (wk : Int) (hs : List Int) : ∀ (k : Nat) (y : Int), nextFrom wk hs k y = fromR wk hs k y 1
  | 0, y => rfl
  | k + 1, y => by rw [nextFrom, fromR, next_from wk hs k, if_pos rfl]
theorem add_from (wk : Int) (hs : List Int) : ∀ (k : Nat) (y n : Int), addFrom wk hs k y n = fromR wk hs k (y + 1) n
  | 0, y, n => rfl
  | k + 1, y, n => by rw [addFrom, fromR, add_from wk hs k, add_from wk hs k]

set_option maxHeartbeats 2000000 in
theorem from_is (wk : Int) (hv : Value) (hs : List Int) (d n x e : Int) (w : World) (hi : Ints w hv hs) (hc : calR wk hs = true) (d0 : 0 ≤ d) (d1 : d ≤ 109573) (n0 : 1 ≤ n) (n1 : n ≤ 365) (h : fromR wk hs (109573 - d).toNat d n = (x, e)) :
    Calls Try.prog 22 #[.agg #[.int .i64 wk, hv], .int .i64 d, .int .i64 n] w (Gives w x e) := by
  obtain ⟨A, cp, rfl⟩ := hi.form0
  obtain ⟨ln, hn⟩ : ∃ n, hs.length = n := ⟨_, rfl⟩
  rw [hn] at hi ⊢
  have HI := Lib.hid hi
  have HC := Lib.hid hc
  have H := Lib.hid h
  clear h hi hn hc
  go_enter Try.func22, Try.ntmps22
  go_wp2
  have B0 := Lib.hid (al (Below.refl w.heap.size w) (.cells #[.int .i64 wk, .slice A ln cp] 24))
  have b0 : (w.alloc (.cells #[.int .i64 wk, .slice A ln cp] 24)).cell? ⟨w.heap.size, 0, none⟩ = some (.int .i64 wk) := by simp [go_sem]
  have b1 : (w.alloc (.cells #[.int .i64 wk, .slice A ln cp] 24)).cell? ⟨w.heap.size, 1, none⟩ = some (.slice A ln cp) := by simp [go_sem]
  generalize w.alloc (.cells #[.int .i64 wk, .slice A ln cp] 24) = W0 at B0 b0 b1
  go_loopw [8, 9] (fun l i wr => ∃ y m : Int, i = .int .i64 y ∧ l = .int .i64 m ∧ 0 ≤ y ∧ y ≤ 109573 ∧ 1 ≤ m ∧ m ≤ 365 ∧ fromR wk hs (109573 - y).toNat y m = (x, e) ∧ Below W0.heap.size W0 wr) (fun _ i _ => (109573 - intOf i).toNat)
  case atStart => exact ⟨d, n, rfl, rfl, d0, d1, n0, n1, H.out, Below.refl _ _⟩
  case round =>
    obtain ⟨y, m, rfl, rfl, y0, y1, m0, m1, hy, hbr⟩ := hrel
    have k0 := kept hbr b0
    have k1 := kept hbr b1
    have HBR := Lib.hid hbr
    clear hbr
    by_cases hlt : y ≤ 109572
    · rw [show (109573 - y).toNat = (109573 - (y + 1)).toNat + 1 by omega, fromR] at hy
      obtain ⟨q, hq⟩ : ∃ q, wdR wk hs y = q := ⟨_, rfl⟩
      have HQ := Lib.hid hq
      have HD := Lib.hid ((day_iff y).2 ⟨y0, hlt⟩)
      rw [hq] at hy
      clear hq
      cases q
      · have HY := Lib.hid hy
        clear hy
        go_wp2_with (go_at_call 21; refine (works_is wk _ hs y false _ ?_ HC.out HD.out HQ.out).mono ?_; (exact HI.out.below (tr B0.out HBR.out)); rintro e w3 ⟨rfl, hb3⟩)
        go_roundw
        case rel => exact ⟨y + 1, m, by go_num, rfl, by omega, by omega, m0, m1, HY.out, tr HBR.out hb3⟩
        case measure => simp [intOf]; omega
      · rw [if_pos rfl] at hy
        by_cases hm : m = 1
        · rw [if_pos hm] at hy
          cases hy
          subst hm
          go_wp2_with (go_at_call 21; refine (works_is wk _ hs _ true _ ?_ HC.out HD.out HQ.out).mono ?_; (exact HI.out.below (tr B0.out HBR.out)); rintro e w3 ⟨rfl, hb3⟩)
          go_ret2
          exact ⟨rfl, tr B0.out (tr HBR.out hb3)⟩
        · rw [if_neg hm] at hy
          have HY := Lib.hid hy
          clear hy
          go_wp2_with (go_at_call 21; refine (works_is wk _ hs y true _ ?_ HC.out HD.out HQ.out).mono ?_; (exact HI.out.below (tr B0.out HBR.out)); rintro e w3 ⟨rfl, hb3⟩)
          go_roundw
          case rel => exact ⟨y + 1, m - 1, by go_num, by go_num, by omega, by omega, by omega, by omega, HY.out, tr HBR.out hb3⟩
          case measure => simp [intOf]; omega
    · obtain rfl : y = 109573 := by omega
      rw [show ((109573 : Int) - 109573).toNat = 0 from rfl, fromR] at hy
      cases hy
      go_wp2
      go_ret2
      exact ⟨rfl, tr B0.out HBR.out⟩

set_option maxHeartbeats 2000000 in
theorem mAdd_is (wk : Int) (hv : Value) (hs : List Int) (d n x e : Int) (w : World) (hi : Ints w hv hs) (h : addR wk hs d n = (x, e)) :
    Calls Try.prog 15 #[.agg #[.int .i64 wk, hv], .int .i64 d, .int .i64 n] w (Gives w x e) := by
  obtain ⟨A, cp, rfl⟩ := hi.form0
  obtain ⟨ln, hn⟩ : ∃ n, hs.length = n := ⟨_, rfl⟩
  rw [hn] at hi ⊢
  have HI := Lib.hid hi
  unfold addR at h
  obtain ⟨a, ha⟩ : ∃ a, calR wk hs = a := ⟨_, rfl⟩
  obtain ⟨b, hb⟩ : ∃ b, dayR d = b := ⟨_, rfl⟩
  have HA := Lib.hid ha
  have HD := Lib.hid hb
  rw [ha, hb] at h
  cases a
  · cases h
    clear hi hn ha hb
    go_enter Try.func15, Try.ntmps15
    go_wp2_with (go_at_call 11; refine (mCal_is wk _ hs false _ ?_ HA.out).mono ?_; (exact HI.out.below (al (Below.refl _ _) _)); rintro e w1 ⟨rfl, hb1⟩)
    go_ret2
    exact ⟨rfl, tr (al (Below.refl _ _) _) hb1⟩
  · rw [if_neg (by decide)] at h
    cases b
    · cases h
      clear hi hn ha hb
      go_enter Try.func15, Try.ntmps15
      go_wp2_with (first
        | (go_at_call 11; refine (mCal_is wk _ hs true _ ?_ HA.out).mono ?_; (exact HI.out.below (al (Below.refl _ _) _)); rintro e w1 ⟨rfl, hb1⟩)
        | (go_at_call 20; refine (mDay_is d false _ HD.out).mono ?_; rintro e w2 ⟨rfl, rfl⟩)
        | fail)
      go_ret2
      exact ⟨rfl, tr (al (Below.refl _ _) _) hb1⟩
    · obtain ⟨d0, d1⟩ := (day_iff d).1 hb
      by_cases g1 : n < 0
      · rw [decide_eq_true g1, if_pos (by simp)] at h
        cases h
        clear hi hn ha hb
        go_enter Try.func15, Try.ntmps15
        go_wp2_with (first
          | (go_at_call 11; refine (mCal_is wk _ hs true _ ?_ HA.out).mono ?_; (exact HI.out.below (al (Below.refl _ _) _)); rintro e w1 ⟨rfl, hb1⟩)
          | (go_at_call 20; refine (mDay_is d true _ HD.out).mono ?_; rintro e w2 ⟨rfl, rfl⟩)
          | fail)
        go_ret2
        exact ⟨rfl, tr (al (Below.refl _ _) _) hb1⟩
      · by_cases g2 : 365 < n
        · rw [decide_eq_true g2, if_pos (by simp)] at h
          cases h
          clear hi hn ha hb
          go_enter Try.func15, Try.ntmps15
          go_wp2_with (first
            | (go_at_call 11; refine (mCal_is wk _ hs true _ ?_ HA.out).mono ?_; (exact HI.out.below (al (Below.refl _ _) _)); rintro e w1 ⟨rfl, hb1⟩)
            | (go_at_call 20; refine (mDay_is d true _ HD.out).mono ?_; rintro e w2 ⟨rfl, rfl⟩)
            | fail)
          go_ret2
          exact ⟨rfl, tr (al (Below.refl _ _) _) hb1⟩
        · rw [decide_eq_false g1, decide_eq_false g2, if_neg (by simp)] at h
          by_cases g0 : n = 0
          · subst g0
            rw [if_pos rfl] at h
            unfold nextR at h
            rw [ha, hb, if_neg (by decide), if_neg (by decide), next_from] at h
            have H := Lib.hid h
            clear hi hn ha hb h
            go_enter Try.func15, Try.ntmps15
            go_wp2_with (first
              | (go_at_call 11; refine (mCal_is wk _ hs true _ ?_ HA.out).mono ?_; (exact HI.out.below (al (Below.refl _ _) _)); rintro e w1 ⟨rfl, hb1⟩; have k0 := kept hb1 (b := w.heap.size) (o := 0) (v := .int .i64 wk) (by simp [go_sem]); have k1 := kept hb1 (b := w.heap.size) (o := 1) (v := .slice A ln cp) (by simp [go_sem]); have B1 := Lib.hid (tr (al (Below.refl _ _) _) hb1); clear hb1)
              | (go_at_call 20; refine (mDay_is d true _ HD.out).mono ?_; rintro e w2 ⟨rfl, rfl⟩)
              | (go_at_call 22; refine (from_is wk _ hs d 1 x e _ (HI.out.below B1.out) HA.out d0 (by omega) (by decide) (by decide) H.out).mono ?_; rintro e w3 ⟨rfl, hb3⟩)
              | fail)
            go_ret2
            exact ⟨rfl, tr B1.out hb3⟩
          · rw [if_neg g0, add_from, show (109572 - d).toNat = (109573 - (d + 1)).toNat by omega] at h
            have H := Lib.hid h
            clear hi hn ha hb h
            go_enter Try.func15, Try.ntmps15
            go_wp2_with (first
              | (go_at_call 11; refine (mCal_is wk _ hs true _ ?_ HA.out).mono ?_; (exact HI.out.below (al (Below.refl _ _) _)); rintro e w1 ⟨rfl, hb1⟩; have k0 := kept hb1 (b := w.heap.size) (o := 0) (v := .int .i64 wk) (by simp [go_sem]); have k1 := kept hb1 (b := w.heap.size) (o := 1) (v := .slice A ln cp) (by simp [go_sem]); have B1 := Lib.hid (tr (al (Below.refl _ _) _) hb1); clear hb1)
              | (go_at_call 20; refine (mDay_is d true _ HD.out).mono ?_; rintro e w2 ⟨rfl, rfl⟩)
              | (go_at_call 22; refine (from_is wk _ hs (d + 1) n x e _ (HI.out.below B1.out) HA.out (by omega) (by omega) (by omega) (by omega) H.out).mono ?_; rintro e w3 ⟨rfl, hb3⟩)
              | fail)
            go_ret2
            exact ⟨rfl, tr B1.out hb3⟩

theorem next_add (wk : Int) (hs : List Int) (d : Int) : addR wk hs d 0 = nextR wk hs d := by
  unfold addR nextR
  cases calR wk hs
  · rfl
  · cases dayR d <;> rfl
theorem mNext_is (wk : Int) (hv : Value) (hs : List Int) (d x c : Int) (w : World) (hi : Ints w hv hs) (h : nextR wk hs d = (x, c)) : Calls Try.prog 9 #[.agg #[.int .i64 wk, hv], .int .i64 d] w (Gives w x c) := by
  obtain ⟨A, cp, rfl⟩ := hi.form0
  have HI := Lib.hid hi
  rw [← next_add] at h
  have H := Lib.hid h
  clear hi h
  go_enter Try.func9, Try.ntmps9
  go_wp2_with (go_at_call 15; refine (mAdd_is wk _ hs d 0 x c _ (HI.out.below (al (Below.refl _ _) _)) H.out).mono ?_; rintro e w1 ⟨rfl, hb1⟩)
  go_ret2
  exact ⟨rfl, tr (al (Below.refl _ _) _) hb1⟩
end Go.Proofs.Ytkecjegjdlmdkaa.wd
