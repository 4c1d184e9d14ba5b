/-
  What the landed PayDate of package month answers.
-/
import Derived.Test.YtmmohbmgodiilaaDoorQMonMineA
import Derived.Test.YtmmohbmgodiilaaDoorQWdMineB
import Derived.LoopTactic
namespace Go.Proofs.YtmmohbmgodiilaaDoor.mon
open Go Go.RowKit Go.Proofs.YtmmohbmgodiilaaDoor.money Go.Proofs.YtmmohbmgodiilaaDoor.ints
open Go.Proofs.YtmmohbmgodiilaaDoor.rng (bcell ref_bool okR)
open Go.Proofs.YtmmohbmgodiilaaDoor.wd (mCal_is mWd_is calR wdR)
set_option linter.unusedVariables false
set_option linter.unusedSimpArgs false

set_option maxRecDepth 4000 in
set_option maxHeartbeats 4000000 in
theorem mPay_is (m wk : Int) (hv : Value) (hs : List Int) (day x e : Int) (w : World) (he : Env w) (hi : Ints w hv hs) (h : payR m wk hs day = (x, e)) :
    Calls Tryd.prog 17 #[.int .i64 m, .agg #[.int .i64 wk, hv], .int .i64 day] w (Gives w x e) := by
  obtain ⟨A, cp, rfl⟩ := hi.form0
  obtain ⟨n, hn⟩ : ∃ n, hs.length = n := ⟨_, rfl⟩
  rw [hn] at hi ⊢
  have HI := Lib.hid hi
  unfold payR at h
  obtain ⟨a, ha⟩ : ∃ a, calR wk hs = a := ⟨_, rfl⟩
  have HA := Lib.hid ha
  rw [ha] at h
  cases a
  · cases h
    clear hi hn ha
    go_enter Tryd.func17, Tryd.ntmps17
    go_wp2_with (go_at_call 32; refine (mCal_is wk _ hs false _ ?_ HA.out).mono ?_; (exact HI.out.below ((Below.refl _ _).alloc (Nat.le_refl _) _)); rintro e w1 ⟨rfl, hb1⟩)
    go_ret2
    exact ⟨rfl, tr ((Below.refl _ _).alloc (Nat.le_refl _) _) hb1⟩
  · by_cases d0 : day < 1
    · rw [decide_eq_true d0] at h
      cases h
      clear hi hn ha
      go_enter Tryd.func17, Tryd.ntmps17
      go_wp2_with (go_at_call 32; refine (mCal_is wk _ hs true _ ?_ HA.out).mono ?_; (exact HI.out.below ((Below.refl _ _).alloc (Nat.le_refl _) _)); rintro e w1 ⟨rfl, hb1⟩)
      go_ret2
      exact ⟨rfl, tr ((Below.refl _ _).alloc (Nat.le_refl _) _) hb1⟩
    · by_cases d1 : 31 < day
      · rw [decide_eq_false d0, decide_eq_true d1] at h
        cases h
        clear hi hn ha
        go_enter Tryd.func17, Tryd.ntmps17
        go_wp2_with (go_at_call 32; refine (mCal_is wk _ hs true _ ?_ HA.out).mono ?_; (exact HI.out.below ((Below.refl _ _).alloc (Nat.le_refl _) _)); rintro e w1 ⟨rfl, hb1⟩)
        go_ret2
        exact ⟨rfl, tr ((Below.refl _ _).alloc (Nat.le_refl _) _) hb1⟩
      · rw [decide_eq_false d0, decide_eq_false d1] at h
        simp only [Bool.not_true, Bool.or_self, Bool.false_eq_true, if_false] at h
        obtain ⟨⟨⟨p, q⟩, e0⟩, hr⟩ : ∃ r, rangeR m = r := ⟨_, rfl⟩
        have HR := Lib.hid hr
        cases hv : okM m
        · rw [hv] at h
          cases h
          unfold rangeR at hr
          rw [hv, if_neg (by decide)] at hr
          cases hr
          clear hi hn ha hv
          have BB := Lib.hid (al (Below.refl w.heap.size w) (.cells #[.int .i64 wk, .slice A n cp] 33))
          go_enter Tryd.func17, Tryd.ntmps17
          go_wp2_with (first
            | (go_at_call 32; refine (mCal_is wk _ hs true _ ?_ HA.out).mono ?_; (exact HI.out.below ((Below.refl _ _).alloc (Nat.le_refl _) _)); rintro e w1 ⟨rfl, hb1⟩; have B1 := Lib.hid (tr BB.out hb1))
            | (go_at_call 8; refine (mRange_is m 0 0 3 _ (he.below B1.out) HR.out).mono ?_; rintro e w2 ⟨rfl, hb2⟩)
            | fail)
          go_ret2
          exact ⟨rfl, al (tr B1.out hb2) _⟩
        · have hfb := from_bd hv
          have hdb := days_bd hv
          unfold rangeR at hr
          rw [hv, if_pos rfl] at hr
          rw [hv] at h
          simp only [Bool.not_true, Bool.false_eq_true, if_false] at h
          obtain ⟨g, hg⟩ : ∃ g, daysR m = g := ⟨_, rfl⟩
          obtain ⟨f, hp⟩ : ∃ p, fromM m = p := ⟨_, rfl⟩
          rw [hg, hp] at hr h hfb
          rw [hg] at hdb
          cases hr
          obtain ⟨p0, p1⟩ := hfb
          obtain ⟨g0, g1⟩ := hdb
          obtain ⟨k, hk⟩ : ∃ k, min day g = k := ⟨_, rfl⟩
          rw [hk] at h
          have k0 : 1 ≤ k := by omega
          have k1 : k ≤ 31 := by omega
          have k2 : k ≤ g := by omega
          have H := Lib.hid h
          clear hi hn ha hv h hg hp
          have BB := Lib.hid (al (Below.refl w.heap.size w) (.cells #[.int .i64 wk, .slice A n cp] 33))
          obtain ⟨u, hu⟩ : ∃ u, p + day = u := ⟨_, rfl⟩
          obtain ⟨v, hvv⟩ : ∃ v, p + g = v := ⟨_, rfl⟩
          obtain ⟨s, hs'⟩ : ∃ s, p + k = s := ⟨_, rfl⟩
          rw [hs'] at H
          rw [hvv] at HR
          have hmin := Lib.hid (show min u v = s by omega)
          clear hk
          go_enter Tryd.func17, Tryd.ntmps17
          go_wp2_with (first
            | (go_at_call 32; refine (mCal_is wk _ hs true _ ?_ HA.out).mono ?_; (exact HI.out.below BB.out); rintro e w1 ⟨rfl, hb1⟩; have c0 := held hb1 (b := w.heap.size) (o := 0) (v := .int .i64 wk) (by simp [go_sem]); have c1 := held hb1 (b := w.heap.size) (o := 1) (v := .slice A n cp) (by simp [go_sem]); have B1 := Lib.hid (tr BB.out hb1); clear hb1)
            | (go_at_call 8; (with_reducible refine (mRange_is m p v 0 _ (he.below B1.out) HR.out).mono ?_); rintro e w2 ⟨rfl, hb2⟩; have e0 := held ((Below.refl _ _).alloc (Nat.le_refl _) (.cells #[.int .i64 p, .int .i64 v] 23)) (held hb2 c0); have e1 := held ((Below.refl _ _).alloc (Nat.le_refl _) (.cells #[.int .i64 p, .int .i64 v] 23)) (held hb2 c1); have B2 := Lib.hid (al (tr B1.out hb2) (.cells #[.int .i64 p, .int .i64 v] 23)); clear hb2)
            | fail)
          generalize hW : w2.alloc (.cells #[.int .i64 p, .int .i64 v] 23) = wn at e0 e1 B2 ⊢
          clear hW
          go_loopw [11] (fun i wr => ∃ y : Int, i = .int .i64 y ∧ -1 ≤ y ∧ y ≤ 109573 ∧ lastW wk hs (y + 1).toNat = (x, e) ∧ Below wn.heap.size wn wr) (fun i _ => (intOf i + 1).toNat)
          case atStart => exact ⟨s - 1, by rw [hmin.out], by omega, by omega, by rw [show s - 1 + 1 = s by omega]; exact H.out, Below.refl _ _⟩
          case round =>
            obtain ⟨y, rfl, y0, y1, hy, hbr⟩ := hrel
            have m0 := held hbr e0
            have m1 := held hbr e1
            have HBR := Lib.hid hbr
            clear hbr
            by_cases hlt : 0 ≤ y
            · rw [show (y + 1).toNat = y.toNat + 1 by omega, lastW, show ((y.toNat : Nat) : Int) = y by omega] at hy
              obtain ⟨q, hq⟩ : ∃ q, wdR wk hs y = q := ⟨_, rfl⟩
              have HQ := Lib.hid hq
              rw [hq] at hy
              have HY := Lib.hid hy
              clear hq hy
              cases q
              · go_wp2_with (go_at_call 33; refine (mWd_is wk _ hs y false _ ?_ HQ.out).mono ?_; (exact HI.out.below (tr B2.out HBR.out)); rintro e w3 ⟨rfl, hb3⟩)
                go_roundw
                case rel => exact ⟨y - 1, by go_num, by omega, by omega, by rw [show y - 1 + 1 = y by omega]; exact HY.out, tr HBR.out hb3⟩
                case measure => simp [intOf]; omega
              · have he := HY.out
                rw [if_pos rfl] at he
                have hxy : x = y := (Prod.mk.inj he).1.symm
                have hee : e = 0 := (Prod.mk.inj he).2.symm
                subst hxy hee
                clear he HY
                go_wp2_with (go_at_call 33; refine (mWd_is wk _ hs _ true _ ?_ HQ.out).mono ?_; (exact HI.out.below (tr B2.out HBR.out)); rintro e w3 ⟨rfl, hb3⟩)
                go_ret2
                exact ⟨rfl, tr B2.out (tr HBR.out hb3)⟩
            · obtain rfl : y = -1 := by omega
              rw [show ((-1 : Int) + 1).toNat = 0 from rfl, lastW] at hy
              cases hy
              go_wp2
              go_ret2
              exact ⟨rfl, tr B2.out HBR.out⟩
end Go.Proofs.YtmmohbmgodiilaaDoor.mon
