/-
  What the reference of chapter 7 answers: PayDate. The walk.
-/
import Derived.Test.YtmmohbmgodiilaaDoorQMonRef
import Derived.Test.YtmmohbmgodiilaaDoorQWdRef2
import Derived.LoopTactic
import Derived.Deep.RegionHeld3
namespace Go.Proofs.YtmmohbmgodiilaaDoor.mon
open Go Go.RowKit Go.Proofs.YtmmohbmgodiilaaDoor.money Go.Proofs.YtmmohbmgodiilaaDoor.ints
open Go.Proofs.YtmmohbmgodiilaaDoor.rng (bcell ref_bool okR)
open Go.Proofs.YtmmohbmgodiilaaDoor.wd (rCal_is rWd_is calR wdR)
set_option linter.unusedVariables false
set_option linter.unusedSimpArgs false

theorem held {W w' : World} (hb : Below W.heap.size W w') {b o : Nat} {v : Value} (h : W.cell? ⟨b, o, none⟩ = some v) : w'.cell? ⟨b, o, none⟩ = some v := by
  have hl := World.block_lt_of_cell? _ _ h
  rw [hb.cell (p := ⟨b, o, none⟩) hl]; exact h

theorem rFd_b (n c : Int) (w : World) (h : fdR n = c) : Calls Tryd.prog 11 #[.int .i64 n] w (GivesI w c) :=
  (rFd_is n c w h).mono fun e w' ⟨h1, h2⟩ => ⟨h1, h2 ▸ Below.refl _ _⟩
theorem rDays_b (m c : Int) (w : World) (h : daysR m = c) : Calls Tryd.prog 13 #[.int .i64 m] w (GivesI w c) :=
  (rDays_is m c w h).mono fun e w' ⟨h1, h2⟩ => ⟨h1, h2 ▸ Below.refl _ _⟩

set_option maxRecDepth 4000 in
set_option maxHeartbeats 4000000 in
theorem rPay_is (m wk : Int) (hv : Value) (hs : List Int) (day x e : Int) (w : World) (hi : Ints w hv hs) (h : payR m wk hs day = (x, e)) :
    Calls Tryd.prog 18 #[.int .i64 m, .agg #[.int .i64 wk, hv], .int .i64 day] w (Gives w x e) := by
  obtain ⟨A, cp, rfl⟩ := hi.form0
  obtain ⟨n, hn⟩ : ∃ n, hs.length = n := ⟨_, rfl⟩
  rw [hn] at hi ⊢
  have HI := Lib.hid hi
  unfold payR at h
  obtain ⟨a, ha⟩ : ∃ a, calR wk hs = a := ⟨_, rfl⟩
  have HA := Lib.hid ha
  rw [ha] at h
  cases a
  · cases h
    clear hi hn ha
    go_enter Tryd.func18, Tryd.ntmps18
    go_wp2_with (go_at_call 34; refine (rCal_is wk _ hs false _ ?_ HA.out).mono ?_; (exact HI.out.below ((Below.refl _ _).alloc (Nat.le_refl _) _)); rintro e w1 ⟨rfl, hb1⟩)
    go_ret2
    exact ⟨rfl, tr ((Below.refl _ _).alloc (Nat.le_refl _) _) hb1⟩
  · by_cases d0 : day < 1
    · rw [decide_eq_true d0] at h
      cases h
      clear hi hn ha
      go_enter Tryd.func18, Tryd.ntmps18
      go_wp2_with (go_at_call 34; refine (rCal_is wk _ hs true _ ?_ HA.out).mono ?_; (exact HI.out.below ((Below.refl _ _).alloc (Nat.le_refl _) _)); rintro e w1 ⟨rfl, hb1⟩)
      go_ret2
      exact ⟨rfl, tr ((Below.refl _ _).alloc (Nat.le_refl _) _) hb1⟩
    · by_cases d1 : 31 < day
      · rw [decide_eq_false d0, decide_eq_true d1] at h
        cases h
        clear hi hn ha
        go_enter Tryd.func18, Tryd.ntmps18
        go_wp2_with (go_at_call 34; refine (rCal_is wk _ hs true _ ?_ HA.out).mono ?_; (exact HI.out.below ((Below.refl _ _).alloc (Nat.le_refl _) _)); rintro e w1 ⟨rfl, hb1⟩)
        go_ret2
        exact ⟨rfl, tr ((Below.refl _ _).alloc (Nat.le_refl _) _) hb1⟩
      · rw [decide_eq_false d0, decide_eq_false d1] at h
        simp only [Bool.not_true, Bool.or_self, Bool.false_eq_true, if_false] at h
        obtain ⟨⟨⟨p, q⟩, e0⟩, hr⟩ : ∃ r, rangeR m = r := ⟨_, rfl⟩
        have HR := Lib.hid hr
        cases hv : okM m
        · rw [hv] at h
          cases h
          unfold rangeR at hr
          rw [hv, if_neg (by decide)] at hr
          cases hr
          clear hi hn ha hv
          go_enter Tryd.func18, Tryd.ntmps18
          go_wp2_with (first
            | (go_at_call 34; refine (rCal_is wk _ hs true _ ?_ HA.out).mono ?_; (exact HI.out.below ((Below.refl _ _).alloc (Nat.le_refl _) _)); rintro e w1 ⟨rfl, hb1⟩)
            | (go_at_call 9; refine (rRange_is m 0 0 3 _ HR.out).mono ?_; rintro e w2 ⟨rfl, hb2⟩)
            | fail)
          go_ret2
          exact ⟨rfl, al (tr (tr ((Below.refl _ _).alloc (Nat.le_refl _) _) hb1) hb2) _⟩
        · have hfb := from_bd hv
          have hdb := days_bd hv
          unfold rangeR at hr
          rw [hv, if_pos rfl] at hr
          rw [hv] at h
          simp only [Bool.not_true, Bool.false_eq_true, if_false] at h
          obtain ⟨g, hg⟩ : ∃ g, daysR m = g := ⟨_, rfl⟩
          obtain ⟨f, hp⟩ : ∃ p, fromM m = p := ⟨_, rfl⟩
          rw [hg, hp] at hr h hfb
          rw [hg] at hdb
          cases hr
          obtain ⟨p0, p1⟩ := hfb
          obtain ⟨g0, g1⟩ := hdb
          obtain ⟨k, hk⟩ : ∃ k, min day g = k := ⟨_, rfl⟩
          rw [hk] at h
          have k0 : 1 ≤ k := by omega
          have k1 : k ≤ 31 := by omega
          have k2 : k ≤ g := by omega
          have H := Lib.hid h
          have HG := Lib.hid hg
          clear hi hn ha hv h hg hp
          go_enter Tryd.func18, Tryd.ntmps18
          go_wp2_with (first
            | (go_at_call 34; refine (rCal_is wk _ hs true _ ?_ HA.out).mono ?_; (exact HI.out.below ((Below.refl _ _).alloc (Nat.le_refl _) _)); rintro e w1 ⟨rfl, hb1⟩; have c0 := held hb1 (b := w.heap.size) (o := 0) (v := .int .i64 wk) (by simp [go_sem]); have c1 := held hb1 (b := w.heap.size) (o := 1) (v := .slice A n cp) (by simp [go_sem]); have B1 := Lib.hid (tr ((Below.refl _ _).alloc (Nat.le_refl _) _) hb1))
            | (go_at_call 9; (with_reducible refine (rRange_is m p (p + g) 0 _ HR.out).mono ?_); rintro e w2 ⟨rfl, hb2⟩; have e0 := held ((Below.refl _ _).alloc (Nat.le_refl _) (.cells #[.int .i64 p, .int .i64 (p + g)] 23)) (held hb2 c0); have e1 := held ((Below.refl _ _).alloc (Nat.le_refl _) (.cells #[.int .i64 p, .int .i64 (p + g)] 23)) (held hb2 c1); have B2 := Lib.hid (al (tr B1.out hb2) (.cells #[.int .i64 p, .int .i64 (p + g)] 23)))
            | fail)
          clear hb1 hb2
          have e2 : (w2.alloc (.cells #[.int .i64 p, .int .i64 (p + g)] 23)).cell? ⟨w2.heap.size, 0, none⟩ = some (.int .i64 p) := by simp [go_sem]
          have BB := B2
          go_region_held3 (fun w' => w'.cell? ⟨w.heap.size, 0, none⟩ = some (.int .i64 wk) ∧ w'.cell? ⟨w.heap.size, 1, none⟩ = some (.slice A n cp) ∧ w'.cell? ⟨w2.heap.size, 0, none⟩ = some (.int .i64 p))
            (first | go_keep | (go_split_ands; refine ⟨held hbn ?_, held hbn ?_, held hbn ?_⟩ <;> assumption))
            (first
              | (go_at_call 13; (with_reducible refine (rDays_b m g _ HG.out).mono ?_); rintro e wn ⟨rfl, hbn⟩; have BB := (by first | exact Lib.hid (tr BB.out hbn) | exact Lib.hid (tr (below_drewN BB.out _) hbn) | exact Lib.hid (tr (below_drewN BB.out 1) hbn) : Hid (Below w.heap.size w wn)))
              | fail)
          have hS := (by assumption : wn.cell? ⟨w.heap.size, 0, none⟩ = some (.int .i64 wk) ∧ wn.cell? ⟨w.heap.size, 1, none⟩ = some (.slice A n cp) ∧ wn.cell? ⟨w2.heap.size, 0, none⟩ = some (.int .i64 p))
          obtain ⟨j0, j1, j2⟩ := hS
          have hk2 : (if g < day then g else day) = k := by rw [← hk]; split <;> omega
          have hw1 : IntKind.i64.wrap (p + k) = p + k := i64_in (by omega) (by omega)
          have hw2 : IntKind.i64.wrap (p + k - 1) = p + k - 1 := i64_in (by omega) (by omega)
          simp only [hk2, hw1, hw2]
          clear hk hk2 hw1 hw2 e2 hbn
          go_wp2
          go_loopw [10] (fun i wr => ∃ y : Int, i = .int .i64 y ∧ -1 ≤ y ∧ y ≤ 109573 ∧ lastW wk hs (y + 1).toNat = (x, e) ∧ Below wn.heap.size wn wr) (fun i _ => (intOf i + 1).toNat)
          case atStart => exact ⟨p + k - 1, rfl, by omega, by omega, by rw [show p + k - 1 + 1 = p + k by omega]; exact H.out, Below.refl _ _⟩
          case round =>
            obtain ⟨y, rfl, y0, y1, hy, hbr⟩ := hrel
            have m0 := held hbr j0
            have m1 := held hbr j1
            have HBR := Lib.hid hbr
            clear hbr
            by_cases hlt : 0 ≤ y
            · rw [show (y + 1).toNat = y.toNat + 1 by omega, lastW, show ((y.toNat : Nat) : Int) = y by omega] at hy
              obtain ⟨q, hq⟩ : ∃ q, wdR wk hs y = q := ⟨_, rfl⟩
              have HQ := Lib.hid hq
              rw [hq] at hy
              have HY := Lib.hid hy
              clear hq hy
              cases q
              · go_wp2_with (go_at_call 35; refine (rWd_is wk _ hs y false _ ?_ HQ.out).mono ?_; (exact HI.out.below (tr BB.out HBR.out)); rintro e w3 ⟨rfl, hb3⟩)
                go_roundw
                case rel => exact ⟨y - 1, by go_num, by omega, by omega, by rw [show y - 1 + 1 = y by omega]; exact HY.out, tr HBR.out hb3⟩
                case measure => simp [intOf]; omega
              · have he := HY.out
                rw [if_pos rfl] at he
                have hxy : x = y := (Prod.mk.inj he).1.symm
                have hee : e = 0 := (Prod.mk.inj he).2.symm
                subst hxy hee
                clear he HY
                go_wp2_with (go_at_call 35; refine (rWd_is wk _ hs _ true _ ?_ HQ.out).mono ?_; (exact HI.out.below (tr BB.out HBR.out)); rintro e w3 ⟨rfl, hb3⟩)
                go_ret2
                exact ⟨rfl, tr BB.out (tr HBR.out hb3)⟩
            · obtain rfl : y = -1 := by omega
              rw [show ((-1 : Int) + 1).toNat = 0 from rfl, lastW] at hy
              cases hy
              go_wp2
              go_ret2
              exact ⟨rfl, tr BB.out HBR.out⟩
end Go.Proofs.YtmmohbmgodiilaaDoor.mon
