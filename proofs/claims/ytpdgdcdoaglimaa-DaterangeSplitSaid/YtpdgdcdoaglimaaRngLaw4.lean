/-
  The law DaterangeSplit walked. (Written by program: the region's operations one by one.)
-/
import Derived.Test.YtpdgdcdoaglimaaRngLaw3
namespace Go.Proofs.Ytpdgdcdoaglimaa.rng
open Go Go.RowKit Go.Proofs.Ytpdgdcdoaglimaa.money Go.Proofs.Ytpdgdcdoaglimaa.ints
set_option linter.unusedVariables false
set_option linter.unusedSimpArgs false

set_option maxRecDepth 4000 in
set_option maxHeartbeats 16000000 in
theorem split_yes (a0 a1 b0 b1 d c0 c1 : Int) (t q s : Bool) (l : List R) (m : Nat) (w : World) (he : Env w) (h1 : interR (a0, a1) (b0, b1) = ((c0, c1), t)) (h1' : interR (b0, b1) (a0, a1) = ((c0, c1), t)) (h2 : hasR (a0, a1) d = true)
    (h3 : hasR (b0, b1) d = q) (h4 : subR (a0, a1) (b0, b1) = l) (h5 : hasR (c0, c1) d = s) (hin : (t && s) = (true && q)) (s1 : Norm l) (hm : l.length = m) (hm3 : m ≤ 2) (hcl : covers l d = (true && !q)) :
    Calls Try.prog 7 #[.agg #[.int .i64 a0, .int .i64 a1], .agg #[.int .i64 b0, .int .i64 b1], .int .i64 d] w (GivesB w true) := by
  have hm2 : (m : Int) ≤ 2 := by omega
  have hm4 : decide ((m : Int) ≤ 2) = true := by simp; omega
  have hm5 : decide (m ≤ 2) = true := by simp; omega
  have H1 := Lib.hid h1
  have H1' := Lib.hid h1'
  have H2 := Lib.hid h2
  have H3 := Lib.hid h3
  have H4 := Lib.hid h4
  have H5 := Lib.hid h5
  have HM := Lib.hid hm
  have HNm := Lib.hid s1
  have HC := Lib.hid hcl
  clear h1 h1' h2 h3 h4 h5 s1 hm hcl
  cases q <;> cases t
  case false.false =>
    have hc := HC.out
    simp only [Bool.not_true, Bool.not_false, Bool.and_true, Bool.and_false, Bool.false_and, Bool.true_and] at hc
    have HC2 := Lib.hid hc
    clear hin hc HC
    go_enter Try.func7, Try.ntmps7
    go_wp2_with (first
      | (go_at_call 9; (with_reducible refine (Intersect_is a0 a1 b0 b1 c0 c1 _ _ ?_ H1.out).mono ?_); (exact trivial); rintro e w1 ⟨rfl, hb1⟩; have k0 := cell_on hb1 (b := w.heap.size) (o := 0) (v := .int .i64 a0) (by simp [go_sem]); have k1 := cell_on hb1 (b := w.heap.size) (o := 1) (v := .int .i64 a1) (by simp [go_sem]); have k2 := cell_on hb1 (b := w.heap.size + 1) (o := 0) (v := .int .i64 b0) (by simp [go_sem]); have k3 := cell_on hb1 (b := w.heap.size + 1) (o := 1) (v := .int .i64 b1) (by simp [go_sem]); have lz0 := World.block_lt_of_cell? _ _ k0; have lz1 := World.block_lt_of_cell? _ _ k2; simp only at lz0 lz1; have B1 := Lib.hid (tr (al (al (Below.refl _ w) _) _) hb1))
      | (go_at_call 9; (with_reducible refine (Intersect_is b0 b1 a0 a1 c0 c1 _ _ ?_ H1'.out).mono ?_); (exact trivial); rintro e w2 ⟨rfl, hb2⟩; have m0 := cell_on hb2 (cell_al _ k0); have m1 := cell_on hb2 (cell_al _ k1); have m2 := cell_on hb2 (cell_al _ k2); have m3 := cell_on hb2 (cell_al _ k3); have m4 := cell_on hb2 (b := w1.heap.size) (o := 0) (v := .int .i64 c0) (by simp [go_sem]); have m5 := cell_on hb2 (b := w1.heap.size) (o := 1) (v := .int .i64 c1) (by simp [go_sem]); have B2 := Lib.hid (tr (al B1.out _) hb2); have n0 := cell_al (.cells #[.int .i64 c0, .int .i64 c1] 23) m0; have n1 := cell_al (.cells #[.int .i64 c0, .int .i64 c1] 23) m1; have n2 := cell_al (.cells #[.int .i64 c0, .int .i64 c1] 23) m2; have n3 := cell_al (.cells #[.int .i64 c0, .int .i64 c1] 23) m3; have n4 := cell_al (.cells #[.int .i64 c0, .int .i64 c1] 23) m4; have n5 := cell_al (.cells #[.int .i64 c0, .int .i64 c1] 23) m5)
      | (go_at_call 16; (with_reducible refine (Subtract_is a0 a1 b0 b1 l _ ?_ H4.out).mono ?_); (exact trivial); rintro e w3 ⟨v3, rfl, hr3, hb3⟩; obtain ⟨LA, LC, rfl⟩ := hr3.form0; have o0 := cell_on hb3 n0; have o1 := cell_on hb3 n1; have o2 := cell_on hb3 n2; have o3 := cell_on hb3 n3; have o4 := cell_on hb3 n4; have o5 := cell_on hb3 n5; have o6 := cell_on hb3 (b := w2.heap.size) (o := 0) (v := .int .i64 c0) (by simp [go_sem]); have o7 := cell_on hb3 (b := w2.heap.size) (o := 1) (v := .int .i64 c1) (by simp [go_sem]); have BB := Lib.hid (tr (al B2.out _) hb3); have CC := Lib.hid (Below.refl w3.heap.size w3); have HR := Lib.hid hr3; rw [HM.out] at hr3 HR ⊢; clear hr3)
      | (go_at_call 13; (with_reducible refine (Contains_is c0 c1 d _ _ ?_ H5.out).mono ?_); (exact trivial); rintro e w4 ⟨rfl, hb4⟩; replace o0 := cell_on hb4 o0; replace o1 := cell_on hb4 o1; replace o2 := cell_on hb4 o2; replace o3 := cell_on hb4 o3; replace o4 := cell_on hb4 o4; replace o5 := cell_on hb4 o5; replace o6 := cell_on hb4 o6; replace o7 := cell_on hb4 o7; have CC := Lib.hid (tr CC.out hb4))
      | fail)
    refine wp_region_held_drew (S := (fun w' => w'.cell? ⟨w.heap.size, 0, none⟩ = some (.int .i64 a0) ∧ w'.cell? ⟨w.heap.size, 1, none⟩ = some (.int .i64 a1) ∧ w'.cell? ⟨w.heap.size + 1, 0, none⟩ = some (.int .i64 b0) ∧ w'.cell? ⟨w.heap.size + 1, 1, none⟩ = some (.int .i64 b1) ∧ w'.cell? ⟨w1.heap.size, 0, none⟩ = some (.int .i64 c0) ∧ w'.cell? ⟨w1.heap.size, 1, none⟩ = some (.int .i64 c1) ∧ w'.cell? ⟨w2.heap.size, 0, none⟩ = some (.int .i64 c0) ∧ w'.cell? ⟨w2.heap.size, 1, none⟩ = some (.int .i64 c1) ∧ Below w3.heap.size w3 w')) (by kernel_rfl) ?_ (fun hHeld => ?_)
    · exact ⟨o0, o1, o2, o3, o4, o5, o6, o7, below_drewN CC.out 1⟩
    refine' wpAnyH_take (i := 0) (oi := _) (v := _) ?hi1 (by kernel_rfl) (by kernel_rfl) (by kernel_rfl) ?hq1 ?hy1 hHeld ?rest1
    case hi1 => (simp only [List.getElem?_toArray, List.getElem?_cons_succ, List.getElem?_cons_zero]; rfl)
    case hq1 => exact fun _ _ _ h => h
    case hy1 => (refine Or.inl ⟨by rfl, ?_⟩; intro ww hSw; (try dsimp only at hSw); go_simp; try with_reducible rfl)
    try simp only [Act.put, List.setIfInBounds_toArray, List.set_cons_zero, List.set_cons_succ]
    refine' wpAnyH_take (i := 1) (oi := _) (v := _) ?hi2 (by kernel_rfl) (by kernel_rfl) (by kernel_rfl) ?hq2 ?hy2 hHeld ?rest2
    case hi2 => (simp only [List.getElem?_toArray, List.getElem?_cons_succ, List.getElem?_cons_zero]; rfl)
    case hq2 => exact fun _ _ _ h => h
    case hy2 => (refine Or.inl ⟨by rfl, ?_⟩; intro ww hSw; (try dsimp only at hSw); go_simp; try with_reducible rfl)
    try simp only [Act.put, List.setIfInBounds_toArray, List.set_cons_zero, List.set_cons_succ]
    refine' wpAnyH_take (i := 2) (oi := _) (v := _) ?hi3 (by kernel_rfl) (by kernel_rfl) (by kernel_rfl) ?hq3 ?hy3 hHeld ?rest3
    case hi3 => (simp only [List.getElem?_toArray, List.getElem?_cons_succ, List.getElem?_cons_zero]; rfl)
    case hq3 => exact fun _ _ _ h => h
    case hy3 => (refine Or.inl ⟨by rfl, ?_⟩; intro ww hSw; (try dsimp only at hSw); go_simp; try with_reducible rfl)
    try simp only [Act.put, List.setIfInBounds_toArray, List.set_cons_zero, List.set_cons_succ]
    refine' wpAnyH_take (i := 3) (oi := _) (v := _) ?hi4 (by kernel_rfl) (by kernel_rfl) (by kernel_rfl) ?hq4 ?hy4 hHeld ?rest4
    case hi4 => (simp only [List.getElem?_toArray, List.getElem?_cons_succ, List.getElem?_cons_zero]; rfl)
    case hq4 => exact fun _ _ _ h => h
    case hy4 => (refine Or.inl ⟨by rfl, ?_⟩; intro ww hSw; (try dsimp only at hSw); go_simp; try with_reducible rfl)
    try simp only [Act.put, List.setIfInBounds_toArray, List.set_cons_zero, List.set_cons_succ]
    refine' wpAnyH_take (i := 4) (oi := _) (v := _) ?hi5 (by kernel_rfl) (by kernel_rfl) (by kernel_rfl) ?hq5 ?hy5 hHeld ?rest5
    case hi5 => (simp only [List.getElem?_toArray, List.getElem?_cons_succ, List.getElem?_cons_zero]; rfl)
    case hq5 => exact fun _ _ _ h => h
    case hy5 => (refine Or.inl ⟨by rfl, ?_⟩; intro ww hSw; (try dsimp only at hSw); go_simp; try with_reducible rfl)
    try simp only [Act.put, List.setIfInBounds_toArray, List.set_cons_zero, List.set_cons_succ]
    refine' wpAnyH_take (i := 5) (oi := _) (v := _) ?hi6 (by kernel_rfl) (by kernel_rfl) (by kernel_rfl) ?hq6 ?hy6 hHeld ?rest6
    case hi6 => (simp only [List.getElem?_toArray, List.getElem?_cons_succ, List.getElem?_cons_zero]; rfl)
    case hq6 => exact fun _ _ _ h => h
    case hy6 => (refine Or.inl ⟨by rfl, ?_⟩; intro ww hSw; (try dsimp only at hSw); go_simp; try with_reducible rfl)
    try simp only [Act.put, List.setIfInBounds_toArray, List.set_cons_zero, List.set_cons_succ]
    refine' wpAnyH_take (i := 6) (oi := _) (v := _) ?hi7 (by kernel_rfl) (by kernel_rfl) (by kernel_rfl) ?hq7 ?hy7 hHeld ?rest7
    case hi7 => (simp only [List.getElem?_toArray, List.getElem?_cons_succ, List.getElem?_cons_zero]; rfl)
    case hq7 => exact fun _ _ _ h => h
    case hy7 => (refine Or.inl ⟨by rfl, ?_⟩; intro ww hSw; (try dsimp only at hSw); go_simp; try with_reducible rfl)
    try simp only [Act.put, List.setIfInBounds_toArray, List.set_cons_zero, List.set_cons_succ]
    refine' wpAnyH_take (i := 7) (oi := _) (v := _) ?hi8 (by kernel_rfl) (by kernel_rfl) (by kernel_rfl) ?hq8 ?hy8 hHeld ?rest8
    case hi8 => (simp only [List.getElem?_toArray, List.getElem?_cons_succ, List.getElem?_cons_zero]; rfl)
    case hq8 => exact fun _ _ _ h => h
    case hy8 => (refine Or.inl ⟨by rfl, ?_⟩; intro ww hSw; (try dsimp only at hSw); go_simp; try with_reducible rfl)
    try simp only [Act.put, List.setIfInBounds_toArray, List.set_cons_zero, List.set_cons_succ]
    refine' wpAnyH_take (i := 8) (oi := _) (v := _) ?hi9 (by kernel_rfl) (by kernel_rfl) (by kernel_rfl) ?hq9 ?hy9 hHeld ?rest9
    case hi9 => (simp only [List.getElem?_toArray, List.getElem?_cons_succ, List.getElem?_cons_zero]; rfl)
    case hq9 => exact fun _ _ _ h => h
    case hy9 => (refine Or.inl ⟨by rfl, ?_⟩; intro ww hSw; (try dsimp only at hSw); go_simp; try with_reducible rfl)
    try simp only [Act.put, List.setIfInBounds_toArray, List.set_cons_zero, List.set_cons_succ]
    refine' wpAnyH_take (i := 9) (oi := _) (v := _) ?hi10 (by kernel_rfl) (by kernel_rfl) (by kernel_rfl) ?hq10 ?hy10 hHeld ?rest10
    case hi10 => (simp only [List.getElem?_toArray, List.getElem?_cons_succ, List.getElem?_cons_zero]; rfl)
    case hq10 => exact fun _ _ _ h => h
    case hy10 => (refine Or.inl ⟨by rfl, ?_⟩; intro ww hSw; (try dsimp only at hSw); go_simp; try with_reducible rfl)
    try simp only [Act.put, List.setIfInBounds_toArray, List.set_cons_zero, List.set_cons_succ]
    refine' wpAnyH_ready (rs := [10]) (by kernel_rfl) (by simp) ?_
    refine' AllReadyH.cons (o := _) ?hi11 (fun K hK => ?st11) AllReadyH.nil
    case hi11 => (simp only [List.getElem?_toArray, List.getElem?_cons_succ, List.getElem?_cons_zero]; rfl)
    go_simp
    (go_at_call 27; refine (normal_is _ l _ (HR.out.below hHeld.2.2.2.2.2.2.2.2) HNm.out).mono ?_; rintro e wn ⟨rfl, hbn⟩)
    try go_wp2_with fail
    refine hK.out _ _ ?_ (fun hHeld => ?_)
    · exact ⟨cell_on hbn hHeld.1, cell_on hbn hHeld.2.1, cell_on hbn hHeld.2.2.1, cell_on hbn hHeld.2.2.2.1, cell_on hbn hHeld.2.2.2.2.1, cell_on hbn hHeld.2.2.2.2.2.1, cell_on hbn hHeld.2.2.2.2.2.2.1, cell_on hbn hHeld.2.2.2.2.2.2.2.1, tr hHeld.2.2.2.2.2.2.2.2 hbn⟩
    clear hK K
    try simp only [Act.put, List.setIfInBounds_toArray, List.set_cons_zero, List.set_cons_succ]
    refine' wpAnyH_take (i := 11) (oi := _) (v := _) ?hi12 (by kernel_rfl) (by kernel_rfl) (by kernel_rfl) ?hq12 ?hy12 hHeld ?rest12
    case hi12 => (simp only [List.getElem?_toArray, List.getElem?_cons_succ, List.getElem?_cons_zero]; rfl)
    case hq12 => exact fun _ _ _ h => h
    case hy12 => (refine Or.inl ⟨by rfl, ?_⟩; intro ww hSw; (try dsimp only at hSw); go_simp; try with_reducible rfl)
    try simp only [Act.put, List.setIfInBounds_toArray, List.set_cons_zero, List.set_cons_succ]
    refine' wpAnyH_take (i := 12) (oi := _) (v := _) ?hi13 (by kernel_rfl) (by kernel_rfl) (by kernel_rfl) ?hq13 ?hy13 hHeld ?rest13
    case hi13 => (simp only [List.getElem?_toArray, List.getElem?_cons_succ, List.getElem?_cons_zero]; rfl)
    case hq13 => exact fun _ _ _ h => h
    case hy13 => (refine Or.inl ⟨by rfl, ?_⟩; intro ww hSw; (try dsimp only at hSw); go_simp; try with_reducible rfl)
    try simp only [Act.put, List.setIfInBounds_toArray, List.set_cons_zero, List.set_cons_succ]
    refine' wpAnyH_take (i := 13) (oi := _) (v := _) ?hi14 (by kernel_rfl) (by kernel_rfl) (by kernel_rfl) ?hq14 ?hy14 hHeld ?rest14
    case hi14 => (simp only [List.getElem?_toArray, List.getElem?_cons_succ, List.getElem?_cons_zero]; rfl)
    case hq14 => exact fun _ _ _ h => h
    case hy14 => (refine Or.inl ⟨by rfl, ?_⟩; intro ww hSw; (try dsimp only at hSw); go_simp; try with_reducible rfl)
    try simp only [Act.put, List.setIfInBounds_toArray, List.set_cons_zero, List.set_cons_succ]
    refine' wpAnyH_take (i := 14) (oi := _) (v := _) ?hi15 (by kernel_rfl) (by kernel_rfl) (by kernel_rfl) ?hq15 ?hy15 hHeld ?rest15
    case hi15 => (simp only [List.getElem?_toArray, List.getElem?_cons_succ, List.getElem?_cons_zero]; rfl)
    case hq15 => exact fun _ _ _ h => h
    case hy15 => (refine Or.inl ⟨by rfl, ?_⟩; intro ww hSw; (try dsimp only at hSw); go_simp; try with_reducible rfl)
    try simp only [Act.put, List.setIfInBounds_toArray, List.set_cons_zero, List.set_cons_succ]
    refine' wpAnyH_take (i := 15) (oi := _) (v := _) ?hi16 (by kernel_rfl) (by kernel_rfl) (by kernel_rfl) ?hq16 ?hy16 hHeld ?rest16
    case hi16 => (simp only [List.getElem?_toArray, List.getElem?_cons_succ, List.getElem?_cons_zero]; rfl)
    case hq16 => exact fun _ _ _ h => h
    case hy16 => (refine Or.inl ⟨by rfl, ?_⟩; intro ww hSw; (try dsimp only at hSw); go_simp; try with_reducible rfl)
    try simp only [Act.put, List.setIfInBounds_toArray, List.set_cons_zero, List.set_cons_succ]
    refine' wpAnyH_take (i := 16) (oi := _) (v := _) ?hi17 (by kernel_rfl) (by kernel_rfl) (by kernel_rfl) ?hq17 ?hy17 hHeld ?rest17
    case hi17 => (simp only [List.getElem?_toArray, List.getElem?_cons_succ, List.getElem?_cons_zero]; rfl)
    case hq17 => exact fun _ _ _ h => h
    case hy17 => (refine Or.inl ⟨by rfl, ?_⟩; intro ww hSw; (try dsimp only at hSw); go_simp; try with_reducible rfl)
    try simp only [Act.put, List.setIfInBounds_toArray, List.set_cons_zero, List.set_cons_succ]
    refine' wpAnyH_take (i := 17) (oi := _) (v := _) ?hi18 (by kernel_rfl) (by kernel_rfl) (by kernel_rfl) ?hq18 ?hy18 hHeld ?rest18
    case hi18 => (simp only [List.getElem?_toArray, List.getElem?_cons_succ, List.getElem?_cons_zero]; rfl)
    case hq18 => exact fun _ _ _ h => h
    case hy18 => (refine Or.inl ⟨by rfl, ?_⟩; intro ww hSw; (try dsimp only at hSw); go_simp; try with_reducible rfl)
    try simp only [Act.put, List.setIfInBounds_toArray, List.set_cons_zero, List.set_cons_succ]
    refine' wpAnyH_take (i := 18) (oi := _) (v := _) ?hi19 (by kernel_rfl) (by kernel_rfl) (by kernel_rfl) ?hq19 ?hy19 hHeld ?rest19
    case hi19 => (simp only [List.getElem?_toArray, List.getElem?_cons_succ, List.getElem?_cons_zero]; rfl)
    case hq19 => exact fun _ _ _ h => h
    case hy19 => (refine Or.inl ⟨by rfl, ?_⟩; intro ww hSw; (try dsimp only at hSw); go_simp; try with_reducible rfl)
    try simp only [Act.put, List.setIfInBounds_toArray, List.set_cons_zero, List.set_cons_succ]
    refine' wpAnyH_take (i := 19) (oi := _) (v := _) ?hi20 (by kernel_rfl) (by kernel_rfl) (by kernel_rfl) ?hq20 ?hy20 hHeld ?rest20
    case hi20 => (simp only [List.getElem?_toArray, List.getElem?_cons_succ, List.getElem?_cons_zero]; rfl)
    case hq20 => exact fun _ _ _ h => h
    case hy20 => (refine Or.inl ⟨by rfl, ?_⟩; intro ww hSw; (try dsimp only at hSw); go_simp; try with_reducible rfl)
    try simp only [Act.put, List.setIfInBounds_toArray, List.set_cons_zero, List.set_cons_succ]
    refine' wpAnyH_take (i := 20) (oi := _) (v := _) ?hi21 (by kernel_rfl) (by kernel_rfl) (by kernel_rfl) ?hq21 ?hy21 hHeld ?rest21
    case hi21 => (simp only [List.getElem?_toArray, List.getElem?_cons_succ, List.getElem?_cons_zero]; rfl)
    case hq21 => exact fun _ _ _ h => h
    case hy21 => (refine Or.inl ⟨by rfl, ?_⟩; intro ww hSw; (try dsimp only at hSw); go_simp; try with_reducible rfl)
    try simp only [Act.put, List.setIfInBounds_toArray, List.set_cons_zero, List.set_cons_succ]
    refine' wpAnyH_ready (rs := [21]) (by kernel_rfl) (by simp) ?_
    refine' AllReadyH.cons (o := _) ?hi22 (fun K hK => ?st22) AllReadyH.nil
    case hi22 => (simp only [List.getElem?_toArray, List.getElem?_cons_succ, List.getElem?_cons_zero]; rfl)
    go_simp
    (go_at_call 13; refine (Contains_is a0 a1 d _ _ trivial H2.out).mono ?_; rintro e wn ⟨rfl, hbn⟩)
    try go_wp2_with fail
    refine hK.out _ _ ?_ (fun hHeld => ?_)
    · exact ⟨cell_on hbn hHeld.1, cell_on hbn hHeld.2.1, cell_on hbn hHeld.2.2.1, cell_on hbn hHeld.2.2.2.1, cell_on hbn hHeld.2.2.2.2.1, cell_on hbn hHeld.2.2.2.2.2.1, cell_on hbn hHeld.2.2.2.2.2.2.1, cell_on hbn hHeld.2.2.2.2.2.2.2.1, tr hHeld.2.2.2.2.2.2.2.2 hbn⟩
    clear hK K
    try simp only [Act.put, List.setIfInBounds_toArray, List.set_cons_zero, List.set_cons_succ]
    refine' wpAnyH_take (i := 22) (oi := _) (v := _) ?hi23 (by kernel_rfl) (by kernel_rfl) (by kernel_rfl) ?hq23 ?hy23 hHeld ?rest23
    case hi23 => (simp only [List.getElem?_toArray, List.getElem?_cons_succ, List.getElem?_cons_zero]; rfl)
    case hq23 => exact fun _ _ _ h => h
    case hy23 => (refine Or.inl ⟨by rfl, ?_⟩; intro ww hSw; (try dsimp only at hSw); go_simp; try with_reducible rfl)
    try simp only [Act.put, List.setIfInBounds_toArray, List.set_cons_zero, List.set_cons_succ]
    refine' wpAnyH_take (i := 23) (oi := _) (v := _) ?hi24 (by kernel_rfl) (by kernel_rfl) (by kernel_rfl) ?hq24 ?hy24 hHeld ?rest24
    case hi24 => (simp only [List.getElem?_toArray, List.getElem?_cons_succ, List.getElem?_cons_zero]; rfl)
    case hq24 => exact fun _ _ _ h => h
    case hy24 => (refine Or.inl ⟨by rfl, ?_⟩; intro ww hSw; (try dsimp only at hSw); go_simp; try with_reducible rfl)
    try simp only [Act.put, List.setIfInBounds_toArray, List.set_cons_zero, List.set_cons_succ]
    refine' wpAnyH_take (i := 24) (oi := _) (v := _) ?hi25 (by kernel_rfl) (by kernel_rfl) (by kernel_rfl) ?hq25 ?hy25 hHeld ?rest25
    case hi25 => (simp only [List.getElem?_toArray, List.getElem?_cons_succ, List.getElem?_cons_zero]; rfl)
    case hq25 => exact fun _ _ _ h => h
    case hy25 => (refine Or.inl ⟨by rfl, ?_⟩; intro ww hSw; (try dsimp only at hSw); go_simp; try with_reducible rfl)
    try simp only [Act.put, List.setIfInBounds_toArray, List.set_cons_zero, List.set_cons_succ]
    refine' wpAnyH_ready (rs := [25]) (by kernel_rfl) (by simp) ?_
    refine' AllReadyH.cons (o := _) ?hi26 (fun K hK => ?st26) AllReadyH.nil
    case hi26 => (simp only [List.getElem?_toArray, List.getElem?_cons_succ, List.getElem?_cons_zero]; rfl)
    go_simp
    (go_at_call 13; refine (Contains_is b0 b1 d _ _ trivial H3.out).mono ?_; rintro e wn ⟨rfl, hbn⟩)
    try go_wp2_with fail
    refine hK.out _ _ ?_ (fun hHeld => ?_)
    · exact ⟨cell_on hbn hHeld.1, cell_on hbn hHeld.2.1, cell_on hbn hHeld.2.2.1, cell_on hbn hHeld.2.2.2.1, cell_on hbn hHeld.2.2.2.2.1, cell_on hbn hHeld.2.2.2.2.2.1, cell_on hbn hHeld.2.2.2.2.2.2.1, cell_on hbn hHeld.2.2.2.2.2.2.2.1, tr hHeld.2.2.2.2.2.2.2.2 hbn⟩
    clear hK K
    try simp only [Act.put, List.setIfInBounds_toArray, List.set_cons_zero, List.set_cons_succ]
    refine' wpAnyH_take (i := 26) (oi := _) (v := _) ?hi27 (by kernel_rfl) (by kernel_rfl) (by kernel_rfl) ?hq27 ?hy27 hHeld ?rest27
    case hi27 => (simp only [List.getElem?_toArray, List.getElem?_cons_succ, List.getElem?_cons_zero]; rfl)
    case hq27 => exact fun _ _ _ h => h
    case hy27 => (refine Or.inl ⟨by rfl, ?_⟩; intro ww hSw; (try dsimp only at hSw); go_simp; try with_reducible rfl)
    try simp only [Act.put, List.setIfInBounds_toArray, List.set_cons_zero, List.set_cons_succ]
    refine' wpAnyH_take (i := 27) (oi := _) (v := _) ?hi28 (by kernel_rfl) (by kernel_rfl) (by kernel_rfl) ?hq28 ?hy28 hHeld ?rest28
    case hi28 => (simp only [List.getElem?_toArray, List.getElem?_cons_succ, List.getElem?_cons_zero]; rfl)
    case hq28 => exact fun _ _ _ h => h
    case hy28 => (refine Or.inl ⟨by rfl, ?_⟩; intro ww hSw; (try dsimp only at hSw); go_simp; try with_reducible rfl)
    try simp only [Act.put, List.setIfInBounds_toArray, List.set_cons_zero, List.set_cons_succ]
    refine' wpAnyH_take (i := 28) (oi := _) (v := _) ?hi29 (by kernel_rfl) (by kernel_rfl) (by kernel_rfl) ?hq29 ?hy29 hHeld ?rest29
    case hi29 => (simp only [List.getElem?_toArray, List.getElem?_cons_succ, List.getElem?_cons_zero]; rfl)
    case hq29 => exact fun _ _ _ h => h
    case hy29 => (refine Or.inl ⟨by rfl, ?_⟩; intro ww hSw; (try dsimp only at hSw); go_simp; try with_reducible rfl)
    try simp only [Act.put, List.setIfInBounds_toArray, List.set_cons_zero, List.set_cons_succ]
    refine' wpAnyH_take (i := 29) (oi := _) (v := _) ?hi30 (by kernel_rfl) (by kernel_rfl) (by kernel_rfl) ?hq30 ?hy30 hHeld ?rest30
    case hi30 => (simp only [List.getElem?_toArray, List.getElem?_cons_succ, List.getElem?_cons_zero]; rfl)
    case hq30 => exact fun _ _ _ h => h
    case hy30 => (refine Or.inl ⟨by rfl, ?_⟩; intro ww hSw; (try dsimp only at hSw); go_simp; try with_reducible rfl)
    try simp only [Act.put, List.setIfInBounds_toArray, List.set_cons_zero, List.set_cons_succ]
    refine' wpAnyH_take (i := 30) (oi := _) (v := _) ?hi31 (by kernel_rfl) (by kernel_rfl) (by kernel_rfl) ?hq31 ?hy31 hHeld ?rest31
    case hi31 => (simp only [List.getElem?_toArray, List.getElem?_cons_succ, List.getElem?_cons_zero]; rfl)
    case hq31 => exact fun _ _ _ h => h
    case hy31 => (refine Or.inl ⟨by rfl, ?_⟩; intro ww hSw; (try dsimp only at hSw); go_simp; try with_reducible rfl)
    try simp only [Act.put, List.setIfInBounds_toArray, List.set_cons_zero, List.set_cons_succ]
    refine' wpAnyH_take (i := 31) (oi := _) (v := _) ?hi32 (by kernel_rfl) (by kernel_rfl) (by kernel_rfl) ?hq32 ?hy32 hHeld ?rest32
    case hi32 => (simp only [List.getElem?_toArray, List.getElem?_cons_succ, List.getElem?_cons_zero]; rfl)
    case hq32 => exact fun _ _ _ h => h
    case hy32 => (refine Or.inl ⟨by rfl, ?_⟩; intro ww hSw; (try dsimp only at hSw); go_simp; try with_reducible rfl)
    try simp only [Act.put, List.setIfInBounds_toArray, List.set_cons_zero, List.set_cons_succ]
    refine' wpAnyH_take (i := 33) (oi := _) (v := _) ?hi33 (by kernel_rfl) (by kernel_rfl) (by kernel_rfl) ?hq33 ?hy33 hHeld ?rest33
    case hi33 => (simp only [List.getElem?_toArray, List.getElem?_cons_succ, List.getElem?_cons_zero]; rfl)
    case hq33 => exact fun _ _ _ h => h
    case hy33 => (refine Or.inl ⟨by rfl, ?_⟩; intro ww hSw; (try dsimp only at hSw); go_simp; try with_reducible rfl)
    try simp only [Act.put, List.setIfInBounds_toArray, List.set_cons_zero, List.set_cons_succ]
    refine' wpAnyH_take (i := 34) (oi := _) (v := _) ?hi34 (by kernel_rfl) (by kernel_rfl) (by kernel_rfl) ?hq34 ?hy34 hHeld ?rest34
    case hi34 => (simp only [List.getElem?_toArray, List.getElem?_cons_succ, List.getElem?_cons_zero]; rfl)
    case hq34 => exact fun _ _ _ h => h
    case hy34 => (refine Or.inl ⟨by rfl, ?_⟩; intro ww hSw; (try dsimp only at hSw); go_simp; try with_reducible rfl)
    try simp only [Act.put, List.setIfInBounds_toArray, List.set_cons_zero, List.set_cons_succ]
    refine' wpAnyH_ready (rs := [32]) (by kernel_rfl) (by simp) ?_
    refine' AllReadyH.cons (o := _) ?hi35 (fun K hK => ?st35) AllReadyH.nil
    case hi35 => (simp only [List.getElem?_toArray, List.getElem?_cons_succ, List.getElem?_cons_zero]; rfl)
    go_simp
    (go_at_call 28; refine (contains_is _ l d _ _ trivial (HR.out.below hHeld.2.2.2.2.2.2.2.2) HC2.out).mono ?_; rintro e wn ⟨rfl, hbn⟩)
    try go_wp2_with fail
    refine hK.out _ _ ?_ (fun hHeld => ?_)
    · exact ⟨cell_on hbn hHeld.1, cell_on hbn hHeld.2.1, cell_on hbn hHeld.2.2.1, cell_on hbn hHeld.2.2.2.1, cell_on hbn hHeld.2.2.2.2.1, cell_on hbn hHeld.2.2.2.2.2.1, cell_on hbn hHeld.2.2.2.2.2.2.1, cell_on hbn hHeld.2.2.2.2.2.2.2.1, tr hHeld.2.2.2.2.2.2.2.2 hbn⟩
    clear hK K
    try simp only [Act.put, List.setIfInBounds_toArray, List.set_cons_zero, List.set_cons_succ]
    refine' wpAnyH_ready (rs := [35]) (by kernel_rfl) (by simp) ?_
    refine' AllReadyH.cons (o := _) ?hi36 (fun K hK => ?st36) AllReadyH.nil
    case hi36 => (simp only [List.getElem?_toArray, List.getElem?_cons_succ, List.getElem?_cons_zero]; rfl)
    go_simp
    (go_at_call 13; refine (Contains_is a0 a1 d _ _ trivial H2.out).mono ?_; rintro e wn ⟨rfl, hbn⟩)
    try go_wp2_with fail
    refine hK.out _ _ ?_ (fun hHeld => ?_)
    · exact ⟨cell_on hbn hHeld.1, cell_on hbn hHeld.2.1, cell_on hbn hHeld.2.2.1, cell_on hbn hHeld.2.2.2.1, cell_on hbn hHeld.2.2.2.2.1, cell_on hbn hHeld.2.2.2.2.2.1, cell_on hbn hHeld.2.2.2.2.2.2.1, cell_on hbn hHeld.2.2.2.2.2.2.2.1, tr hHeld.2.2.2.2.2.2.2.2 hbn⟩
    clear hK K
    try simp only [Act.put, List.setIfInBounds_toArray, List.set_cons_zero, List.set_cons_succ]
    refine' wpAnyH_take (i := 36) (oi := _) (v := _) ?hi37 (by kernel_rfl) (by kernel_rfl) (by kernel_rfl) ?hq37 ?hy37 hHeld ?rest37
    case hi37 => (simp only [List.getElem?_toArray, List.getElem?_cons_succ, List.getElem?_cons_zero]; rfl)
    case hq37 => exact fun _ _ _ h => h
    case hy37 => (refine Or.inl ⟨by rfl, ?_⟩; intro ww hSw; (try dsimp only at hSw); go_simp; try with_reducible rfl)
    try simp only [Act.put, List.setIfInBounds_toArray, List.set_cons_zero, List.set_cons_succ]
    refine' wpAnyH_take (i := 37) (oi := _) (v := _) ?hi38 (by kernel_rfl) (by kernel_rfl) (by kernel_rfl) ?hq38 ?hy38 hHeld ?rest38
    case hi38 => (simp only [List.getElem?_toArray, List.getElem?_cons_succ, List.getElem?_cons_zero]; rfl)
    case hq38 => exact fun _ _ _ h => h
    case hy38 => (refine Or.inl ⟨by rfl, ?_⟩; intro ww hSw; (try dsimp only at hSw); go_simp; try with_reducible rfl)
    try simp only [Act.put, List.setIfInBounds_toArray, List.set_cons_zero, List.set_cons_succ]
    refine' wpAnyH_take (i := 38) (oi := _) (v := _) ?hi39 (by kernel_rfl) (by kernel_rfl) (by kernel_rfl) ?hq39 ?hy39 hHeld ?rest39
    case hi39 => (simp only [List.getElem?_toArray, List.getElem?_cons_succ, List.getElem?_cons_zero]; rfl)
    case hq39 => exact fun _ _ _ h => h
    case hy39 => (refine Or.inl ⟨by rfl, ?_⟩; intro ww hSw; (try dsimp only at hSw); go_simp; try with_reducible rfl)
    try simp only [Act.put, List.setIfInBounds_toArray, List.set_cons_zero, List.set_cons_succ]
    refine' wpAnyH_ready (rs := [39]) (by kernel_rfl) (by simp) ?_
    refine' AllReadyH.cons (o := _) ?hi40 (fun K hK => ?st40) AllReadyH.nil
    case hi40 => (simp only [List.getElem?_toArray, List.getElem?_cons_succ, List.getElem?_cons_zero]; rfl)
    go_simp
    (go_at_call 13; refine (Contains_is b0 b1 d _ _ trivial H3.out).mono ?_; rintro e wn ⟨rfl, hbn⟩)
    try go_wp2_with fail
    refine hK.out _ _ ?_ (fun hHeld => ?_)
    · exact ⟨cell_on hbn hHeld.1, cell_on hbn hHeld.2.1, cell_on hbn hHeld.2.2.1, cell_on hbn hHeld.2.2.2.1, cell_on hbn hHeld.2.2.2.2.1, cell_on hbn hHeld.2.2.2.2.2.1, cell_on hbn hHeld.2.2.2.2.2.2.1, cell_on hbn hHeld.2.2.2.2.2.2.2.1, tr hHeld.2.2.2.2.2.2.2.2 hbn⟩
    clear hK K
    try simp only [Act.put, List.setIfInBounds_toArray, List.set_cons_zero, List.set_cons_succ]
    refine' wpAnyH_take (i := 40) (oi := _) (v := _) ?hi41 (by kernel_rfl) (by kernel_rfl) (by kernel_rfl) ?hq41 ?hy41 hHeld ?rest41
    case hi41 => (simp only [List.getElem?_toArray, List.getElem?_cons_succ, List.getElem?_cons_zero]; rfl)
    case hq41 => exact fun _ _ _ h => h
    case hy41 => (refine Or.inl ⟨by rfl, ?_⟩; intro ww hSw; (try dsimp only at hSw); go_simp; try with_reducible rfl)
    try simp only [Act.put, List.setIfInBounds_toArray, List.set_cons_zero, List.set_cons_succ]
    refine' wpAnyH_take (i := 41) (oi := _) (v := _) ?hi42 (by kernel_rfl) (by kernel_rfl) (by kernel_rfl) ?hq42 ?hy42 hHeld ?rest42
    case hi42 => (simp only [List.getElem?_toArray, List.getElem?_cons_succ, List.getElem?_cons_zero]; rfl)
    case hq42 => exact fun _ _ _ h => h
    case hy42 => (refine Or.inl ⟨by rfl, ?_⟩; intro ww hSw; (try dsimp only at hSw); go_simp; try with_reducible rfl)
    try simp only [Act.put, List.setIfInBounds_toArray, List.set_cons_zero, List.set_cons_succ]
    refine' wpAnyH_take (i := 42) (oi := _) (v := _) ?hi43 (by kernel_rfl) (by kernel_rfl) (by kernel_rfl) ?hq43 ?hy43 hHeld ?rest43
    case hi43 => (simp only [List.getElem?_toArray, List.getElem?_cons_succ, List.getElem?_cons_zero]; rfl)
    case hq43 => exact fun _ _ _ h => h
    case hy43 => (refine Or.inl ⟨by rfl, ?_⟩; intro ww hSw; (try dsimp only at hSw); go_simp; try with_reducible rfl)
    try simp only [Act.put, List.setIfInBounds_toArray, List.set_cons_zero, List.set_cons_succ]
    refine' wpAnyH_take (i := 43) (oi := _) (v := _) ?hi44 (by kernel_rfl) (by kernel_rfl) (by kernel_rfl) ?hq44 ?hy44 hHeld ?rest44
    case hi44 => (simp only [List.getElem?_toArray, List.getElem?_cons_succ, List.getElem?_cons_zero]; rfl)
    case hq44 => exact fun _ _ _ h => h
    case hy44 => (refine Or.inl ⟨by rfl, ?_⟩; intro ww hSw; (try dsimp only at hSw); go_simp; try with_reducible rfl)
    try simp only [Act.put, List.setIfInBounds_toArray, List.set_cons_zero, List.set_cons_succ]
    refine' wpAnyH_take (i := 44) (oi := _) (v := _) ?hi45 (by kernel_rfl) (by kernel_rfl) (by kernel_rfl) ?hq45 ?hy45 hHeld ?rest45
    case hi45 => (simp only [List.getElem?_toArray, List.getElem?_cons_succ, List.getElem?_cons_zero]; rfl)
    case hq45 => exact fun _ _ _ h => h
    case hy45 => (refine Or.inl ⟨by rfl, ?_⟩; intro ww hSw; (try dsimp only at hSw); go_simp; try with_reducible rfl)
    try simp only [Act.put, List.setIfInBounds_toArray, List.set_cons_zero, List.set_cons_succ]
    refine' wpAnyH_ready (rs := [45]) (by kernel_rfl) (by simp) ?_
    refine' AllReadyH.cons (o := _) ?hi46 (fun K hK => ?st46) AllReadyH.nil
    case hi46 => (simp only [List.getElem?_toArray, List.getElem?_cons_succ, List.getElem?_cons_zero]; rfl)
    go_simp
    (go_at_call 18; refine (awake_is _ trivial).mono ?_; rintro e wn ⟨rfl, hbn⟩)
    try go_wp2_with fail
    refine hK.out _ _ ?_ (fun hHeld => ?_)
    · exact ⟨cell_on hbn hHeld.1, cell_on hbn hHeld.2.1, cell_on hbn hHeld.2.2.1, cell_on hbn hHeld.2.2.2.1, cell_on hbn hHeld.2.2.2.2.1, cell_on hbn hHeld.2.2.2.2.2.1, cell_on hbn hHeld.2.2.2.2.2.2.1, cell_on hbn hHeld.2.2.2.2.2.2.2.1, tr hHeld.2.2.2.2.2.2.2.2 hbn⟩
    clear hK K
    try simp only [Act.put, List.setIfInBounds_toArray, List.set_cons_zero, List.set_cons_succ]
    refine' wpAnyH_take (i := 46) (oi := _) (v := _) ?hi47 (by kernel_rfl) (by kernel_rfl) (by kernel_rfl) ?hq47 ?hy47 hHeld ?rest47
    case hi47 => (simp only [List.getElem?_toArray, List.getElem?_cons_succ, List.getElem?_cons_zero]; rfl)
    case hq47 => exact fun _ _ _ h => h
    case hy47 => (refine Or.inl ⟨by rfl, ?_⟩; intro ww hSw; (try dsimp only at hSw); go_simp; try with_reducible rfl)
    try simp only [Act.put, List.setIfInBounds_toArray, List.set_cons_zero, List.set_cons_succ]
    refine' wpAnyH_take (i := 47) (oi := _) (v := _) ?hi48 (by kernel_rfl) (by kernel_rfl) (by kernel_rfl) ?hq48 ?hy48 hHeld ?rest48
    case hi48 => (simp only [List.getElem?_toArray, List.getElem?_cons_succ, List.getElem?_cons_zero]; rfl)
    case hq48 => exact fun _ _ _ h => h
    case hy48 => (refine Or.inl ⟨by rfl, ?_⟩; intro ww hSw; (try dsimp only at hSw); go_simp; try with_reducible rfl)
    try simp only [Act.put, List.setIfInBounds_toArray, List.set_cons_zero, List.set_cons_succ]
    refine wpAnyH_done (by kernel_rfl) ?_ _
    have hbl := hHeld.2.2.2.2.2.2.2.2
    have HBL := Lib.hid (tr BB.out hbl)
    clear hbl hHeld
    go_wp2_with fail
    go_ret
    exact ⟨rfl, HBL.out⟩
  case false.true =>
    obtain rfl : s = false := by simpa using hin
    have hc := HC.out
    simp only [Bool.not_true, Bool.not_false, Bool.and_true, Bool.and_false, Bool.false_and, Bool.true_and] at hc
    have HC2 := Lib.hid hc
    clear hin hc HC
    go_enter Try.func7, Try.ntmps7
    go_wp2_with (first
      | (go_at_call 9; (with_reducible refine (Intersect_is a0 a1 b0 b1 c0 c1 _ _ ?_ H1.out).mono ?_); (exact trivial); rintro e w1 ⟨rfl, hb1⟩; have k0 := cell_on hb1 (b := w.heap.size) (o := 0) (v := .int .i64 a0) (by simp [go_sem]); have k1 := cell_on hb1 (b := w.heap.size) (o := 1) (v := .int .i64 a1) (by simp [go_sem]); have k2 := cell_on hb1 (b := w.heap.size + 1) (o := 0) (v := .int .i64 b0) (by simp [go_sem]); have k3 := cell_on hb1 (b := w.heap.size + 1) (o := 1) (v := .int .i64 b1) (by simp [go_sem]); have lz0 := World.block_lt_of_cell? _ _ k0; have lz1 := World.block_lt_of_cell? _ _ k2; simp only at lz0 lz1; have B1 := Lib.hid (tr (al (al (Below.refl _ w) _) _) hb1))
      | (go_at_call 9; (with_reducible refine (Intersect_is b0 b1 a0 a1 c0 c1 _ _ ?_ H1'.out).mono ?_); (exact trivial); rintro e w2 ⟨rfl, hb2⟩; have m0 := cell_on hb2 (cell_al _ k0); have m1 := cell_on hb2 (cell_al _ k1); have m2 := cell_on hb2 (cell_al _ k2); have m3 := cell_on hb2 (cell_al _ k3); have m4 := cell_on hb2 (b := w1.heap.size) (o := 0) (v := .int .i64 c0) (by simp [go_sem]); have m5 := cell_on hb2 (b := w1.heap.size) (o := 1) (v := .int .i64 c1) (by simp [go_sem]); have B2 := Lib.hid (tr (al B1.out _) hb2); have n0 := cell_al (.cells #[.int .i64 c0, .int .i64 c1] 23) m0; have n1 := cell_al (.cells #[.int .i64 c0, .int .i64 c1] 23) m1; have n2 := cell_al (.cells #[.int .i64 c0, .int .i64 c1] 23) m2; have n3 := cell_al (.cells #[.int .i64 c0, .int .i64 c1] 23) m3; have n4 := cell_al (.cells #[.int .i64 c0, .int .i64 c1] 23) m4; have n5 := cell_al (.cells #[.int .i64 c0, .int .i64 c1] 23) m5)
      | (go_at_call 16; (with_reducible refine (Subtract_is a0 a1 b0 b1 l _ ?_ H4.out).mono ?_); (exact trivial); rintro e w3 ⟨v3, rfl, hr3, hb3⟩; obtain ⟨LA, LC, rfl⟩ := hr3.form0; have o0 := cell_on hb3 n0; have o1 := cell_on hb3 n1; have o2 := cell_on hb3 n2; have o3 := cell_on hb3 n3; have o4 := cell_on hb3 n4; have o5 := cell_on hb3 n5; have o6 := cell_on hb3 (b := w2.heap.size) (o := 0) (v := .int .i64 c0) (by simp [go_sem]); have o7 := cell_on hb3 (b := w2.heap.size) (o := 1) (v := .int .i64 c1) (by simp [go_sem]); have BB := Lib.hid (tr (al B2.out _) hb3); have CC := Lib.hid (Below.refl w3.heap.size w3); have HR := Lib.hid hr3; rw [HM.out] at hr3 HR ⊢; clear hr3)
      | (go_at_call 13; (with_reducible refine (Contains_is c0 c1 d _ _ ?_ H5.out).mono ?_); (exact trivial); rintro e w4 ⟨rfl, hb4⟩; replace o0 := cell_on hb4 o0; replace o1 := cell_on hb4 o1; replace o2 := cell_on hb4 o2; replace o3 := cell_on hb4 o3; replace o4 := cell_on hb4 o4; replace o5 := cell_on hb4 o5; replace o6 := cell_on hb4 o6; replace o7 := cell_on hb4 o7; have CC := Lib.hid (tr CC.out hb4))
      | fail)
    refine wp_region_held_drew (S := (fun w' => w'.cell? ⟨w.heap.size, 0, none⟩ = some (.int .i64 a0) ∧ w'.cell? ⟨w.heap.size, 1, none⟩ = some (.int .i64 a1) ∧ w'.cell? ⟨w.heap.size + 1, 0, none⟩ = some (.int .i64 b0) ∧ w'.cell? ⟨w.heap.size + 1, 1, none⟩ = some (.int .i64 b1) ∧ w'.cell? ⟨w1.heap.size, 0, none⟩ = some (.int .i64 c0) ∧ w'.cell? ⟨w1.heap.size, 1, none⟩ = some (.int .i64 c1) ∧ w'.cell? ⟨w2.heap.size, 0, none⟩ = some (.int .i64 c0) ∧ w'.cell? ⟨w2.heap.size, 1, none⟩ = some (.int .i64 c1) ∧ Below w3.heap.size w3 w')) (by kernel_rfl) ?_ (fun hHeld => ?_)
    · exact ⟨o0, o1, o2, o3, o4, o5, o6, o7, below_drewN CC.out 1⟩
    refine' wpAnyH_take (i := 0) (oi := _) (v := _) ?hi49 (by kernel_rfl) (by kernel_rfl) (by kernel_rfl) ?hq49 ?hy49 hHeld ?rest49
    case hi49 => (simp only [List.getElem?_toArray, List.getElem?_cons_succ, List.getElem?_cons_zero]; rfl)
    case hq49 => exact fun _ _ _ h => h
    case hy49 => (refine Or.inl ⟨by rfl, ?_⟩; intro ww hSw; (try dsimp only at hSw); go_simp; try with_reducible rfl)
    try simp only [Act.put, List.setIfInBounds_toArray, List.set_cons_zero, List.set_cons_succ]
    refine' wpAnyH_take (i := 1) (oi := _) (v := _) ?hi50 (by kernel_rfl) (by kernel_rfl) (by kernel_rfl) ?hq50 ?hy50 hHeld ?rest50
    case hi50 => (simp only [List.getElem?_toArray, List.getElem?_cons_succ, List.getElem?_cons_zero]; rfl)
    case hq50 => exact fun _ _ _ h => h
    case hy50 => (refine Or.inl ⟨by rfl, ?_⟩; intro ww hSw; (try dsimp only at hSw); go_simp; try with_reducible rfl)
    try simp only [Act.put, List.setIfInBounds_toArray, List.set_cons_zero, List.set_cons_succ]
    refine' wpAnyH_take (i := 2) (oi := _) (v := _) ?hi51 (by kernel_rfl) (by kernel_rfl) (by kernel_rfl) ?hq51 ?hy51 hHeld ?rest51
    case hi51 => (simp only [List.getElem?_toArray, List.getElem?_cons_succ, List.getElem?_cons_zero]; rfl)
    case hq51 => exact fun _ _ _ h => h
    case hy51 => (refine Or.inl ⟨by rfl, ?_⟩; intro ww hSw; (try dsimp only at hSw); go_simp; try with_reducible rfl)
    try simp only [Act.put, List.setIfInBounds_toArray, List.set_cons_zero, List.set_cons_succ]
    refine' wpAnyH_take (i := 3) (oi := _) (v := _) ?hi52 (by kernel_rfl) (by kernel_rfl) (by kernel_rfl) ?hq52 ?hy52 hHeld ?rest52
    case hi52 => (simp only [List.getElem?_toArray, List.getElem?_cons_succ, List.getElem?_cons_zero]; rfl)
    case hq52 => exact fun _ _ _ h => h
    case hy52 => (refine Or.inl ⟨by rfl, ?_⟩; intro ww hSw; (try dsimp only at hSw); go_simp; try with_reducible rfl)
    try simp only [Act.put, List.setIfInBounds_toArray, List.set_cons_zero, List.set_cons_succ]
    refine' wpAnyH_take (i := 4) (oi := _) (v := _) ?hi53 (by kernel_rfl) (by kernel_rfl) (by kernel_rfl) ?hq53 ?hy53 hHeld ?rest53
    case hi53 => (simp only [List.getElem?_toArray, List.getElem?_cons_succ, List.getElem?_cons_zero]; rfl)
    case hq53 => exact fun _ _ _ h => h
    case hy53 => (refine Or.inl ⟨by rfl, ?_⟩; intro ww hSw; (try dsimp only at hSw); go_simp; try with_reducible rfl)
    try simp only [Act.put, List.setIfInBounds_toArray, List.set_cons_zero, List.set_cons_succ]
    refine' wpAnyH_take (i := 5) (oi := _) (v := _) ?hi54 (by kernel_rfl) (by kernel_rfl) (by kernel_rfl) ?hq54 ?hy54 hHeld ?rest54
    case hi54 => (simp only [List.getElem?_toArray, List.getElem?_cons_succ, List.getElem?_cons_zero]; rfl)
    case hq54 => exact fun _ _ _ h => h
    case hy54 => (refine Or.inl ⟨by rfl, ?_⟩; intro ww hSw; (try dsimp only at hSw); go_simp; try with_reducible rfl)
    try simp only [Act.put, List.setIfInBounds_toArray, List.set_cons_zero, List.set_cons_succ]
    refine' wpAnyH_take (i := 6) (oi := _) (v := _) ?hi55 (by kernel_rfl) (by kernel_rfl) (by kernel_rfl) ?hq55 ?hy55 hHeld ?rest55
    case hi55 => (simp only [List.getElem?_toArray, List.getElem?_cons_succ, List.getElem?_cons_zero]; rfl)
    case hq55 => exact fun _ _ _ h => h
    case hy55 => (refine Or.inl ⟨by rfl, ?_⟩; intro ww hSw; (try dsimp only at hSw); go_simp; try with_reducible rfl)
    try simp only [Act.put, List.setIfInBounds_toArray, List.set_cons_zero, List.set_cons_succ]
    refine' wpAnyH_take (i := 7) (oi := _) (v := _) ?hi56 (by kernel_rfl) (by kernel_rfl) (by kernel_rfl) ?hq56 ?hy56 hHeld ?rest56
    case hi56 => (simp only [List.getElem?_toArray, List.getElem?_cons_succ, List.getElem?_cons_zero]; rfl)
    case hq56 => exact fun _ _ _ h => h
    case hy56 => (refine Or.inl ⟨by rfl, ?_⟩; intro ww hSw; (try dsimp only at hSw); go_simp; try with_reducible rfl)
    try simp only [Act.put, List.setIfInBounds_toArray, List.set_cons_zero, List.set_cons_succ]
    refine' wpAnyH_take (i := 8) (oi := _) (v := _) ?hi57 (by kernel_rfl) (by kernel_rfl) (by kernel_rfl) ?hq57 ?hy57 hHeld ?rest57
    case hi57 => (simp only [List.getElem?_toArray, List.getElem?_cons_succ, List.getElem?_cons_zero]; rfl)
    case hq57 => exact fun _ _ _ h => h
    case hy57 => (refine Or.inl ⟨by rfl, ?_⟩; intro ww hSw; (try dsimp only at hSw); go_simp; try with_reducible rfl)
    try simp only [Act.put, List.setIfInBounds_toArray, List.set_cons_zero, List.set_cons_succ]
    refine' wpAnyH_take (i := 9) (oi := _) (v := _) ?hi58 (by kernel_rfl) (by kernel_rfl) (by kernel_rfl) ?hq58 ?hy58 hHeld ?rest58
    case hi58 => (simp only [List.getElem?_toArray, List.getElem?_cons_succ, List.getElem?_cons_zero]; rfl)
    case hq58 => exact fun _ _ _ h => h
    case hy58 => (refine Or.inl ⟨by rfl, ?_⟩; intro ww hSw; (try dsimp only at hSw); go_simp; try with_reducible rfl)
    try simp only [Act.put, List.setIfInBounds_toArray, List.set_cons_zero, List.set_cons_succ]
    refine' wpAnyH_ready (rs := [10]) (by kernel_rfl) (by simp) ?_
    refine' AllReadyH.cons (o := _) ?hi59 (fun K hK => ?st59) AllReadyH.nil
    case hi59 => (simp only [List.getElem?_toArray, List.getElem?_cons_succ, List.getElem?_cons_zero]; rfl)
    go_simp
    (go_at_call 27; refine (normal_is _ l _ (HR.out.below hHeld.2.2.2.2.2.2.2.2) HNm.out).mono ?_; rintro e wn ⟨rfl, hbn⟩)
    try go_wp2_with fail
    refine hK.out _ _ ?_ (fun hHeld => ?_)
    · exact ⟨cell_on hbn hHeld.1, cell_on hbn hHeld.2.1, cell_on hbn hHeld.2.2.1, cell_on hbn hHeld.2.2.2.1, cell_on hbn hHeld.2.2.2.2.1, cell_on hbn hHeld.2.2.2.2.2.1, cell_on hbn hHeld.2.2.2.2.2.2.1, cell_on hbn hHeld.2.2.2.2.2.2.2.1, tr hHeld.2.2.2.2.2.2.2.2 hbn⟩
    clear hK K
    try simp only [Act.put, List.setIfInBounds_toArray, List.set_cons_zero, List.set_cons_succ]
    refine' wpAnyH_take (i := 11) (oi := _) (v := _) ?hi60 (by kernel_rfl) (by kernel_rfl) (by kernel_rfl) ?hq60 ?hy60 hHeld ?rest60
    case hi60 => (simp only [List.getElem?_toArray, List.getElem?_cons_succ, List.getElem?_cons_zero]; rfl)
    case hq60 => exact fun _ _ _ h => h
    case hy60 => (refine Or.inl ⟨by rfl, ?_⟩; intro ww hSw; (try dsimp only at hSw); go_simp; try with_reducible rfl)
    try simp only [Act.put, List.setIfInBounds_toArray, List.set_cons_zero, List.set_cons_succ]
    refine' wpAnyH_take (i := 12) (oi := _) (v := _) ?hi61 (by kernel_rfl) (by kernel_rfl) (by kernel_rfl) ?hq61 ?hy61 hHeld ?rest61
    case hi61 => (simp only [List.getElem?_toArray, List.getElem?_cons_succ, List.getElem?_cons_zero]; rfl)
    case hq61 => exact fun _ _ _ h => h
    case hy61 => (refine Or.inl ⟨by rfl, ?_⟩; intro ww hSw; (try dsimp only at hSw); go_simp; try with_reducible rfl)
    try simp only [Act.put, List.setIfInBounds_toArray, List.set_cons_zero, List.set_cons_succ]
    refine' wpAnyH_take (i := 13) (oi := _) (v := _) ?hi62 (by kernel_rfl) (by kernel_rfl) (by kernel_rfl) ?hq62 ?hy62 hHeld ?rest62
    case hi62 => (simp only [List.getElem?_toArray, List.getElem?_cons_succ, List.getElem?_cons_zero]; rfl)
    case hq62 => exact fun _ _ _ h => h
    case hy62 => (refine Or.inl ⟨by rfl, ?_⟩; intro ww hSw; (try dsimp only at hSw); go_simp; try with_reducible rfl)
    try simp only [Act.put, List.setIfInBounds_toArray, List.set_cons_zero, List.set_cons_succ]
    refine' wpAnyH_take (i := 14) (oi := _) (v := _) ?hi63 (by kernel_rfl) (by kernel_rfl) (by kernel_rfl) ?hq63 ?hy63 hHeld ?rest63
    case hi63 => (simp only [List.getElem?_toArray, List.getElem?_cons_succ, List.getElem?_cons_zero]; rfl)
    case hq63 => exact fun _ _ _ h => h
    case hy63 => (refine Or.inl ⟨by rfl, ?_⟩; intro ww hSw; (try dsimp only at hSw); go_simp; try with_reducible rfl)
    try simp only [Act.put, List.setIfInBounds_toArray, List.set_cons_zero, List.set_cons_succ]
    refine' wpAnyH_take (i := 15) (oi := _) (v := _) ?hi64 (by kernel_rfl) (by kernel_rfl) (by kernel_rfl) ?hq64 ?hy64 hHeld ?rest64
    case hi64 => (simp only [List.getElem?_toArray, List.getElem?_cons_succ, List.getElem?_cons_zero]; rfl)
    case hq64 => exact fun _ _ _ h => h
    case hy64 => (refine Or.inl ⟨by rfl, ?_⟩; intro ww hSw; (try dsimp only at hSw); go_simp; try with_reducible rfl)
    try simp only [Act.put, List.setIfInBounds_toArray, List.set_cons_zero, List.set_cons_succ]
    refine' wpAnyH_take (i := 16) (oi := _) (v := _) ?hi65 (by kernel_rfl) (by kernel_rfl) (by kernel_rfl) ?hq65 ?hy65 hHeld ?rest65
    case hi65 => (simp only [List.getElem?_toArray, List.getElem?_cons_succ, List.getElem?_cons_zero]; rfl)
    case hq65 => exact fun _ _ _ h => h
    case hy65 => (refine Or.inl ⟨by rfl, ?_⟩; intro ww hSw; (try dsimp only at hSw); go_simp; try with_reducible rfl)
    try simp only [Act.put, List.setIfInBounds_toArray, List.set_cons_zero, List.set_cons_succ]
    refine' wpAnyH_take (i := 17) (oi := _) (v := _) ?hi66 (by kernel_rfl) (by kernel_rfl) (by kernel_rfl) ?hq66 ?hy66 hHeld ?rest66
    case hi66 => (simp only [List.getElem?_toArray, List.getElem?_cons_succ, List.getElem?_cons_zero]; rfl)
    case hq66 => exact fun _ _ _ h => h
    case hy66 => (refine Or.inl ⟨by rfl, ?_⟩; intro ww hSw; (try dsimp only at hSw); go_simp; try with_reducible rfl)
    try simp only [Act.put, List.setIfInBounds_toArray, List.set_cons_zero, List.set_cons_succ]
    refine' wpAnyH_take (i := 18) (oi := _) (v := _) ?hi67 (by kernel_rfl) (by kernel_rfl) (by kernel_rfl) ?hq67 ?hy67 hHeld ?rest67
    case hi67 => (simp only [List.getElem?_toArray, List.getElem?_cons_succ, List.getElem?_cons_zero]; rfl)
    case hq67 => exact fun _ _ _ h => h
    case hy67 => (refine Or.inl ⟨by rfl, ?_⟩; intro ww hSw; (try dsimp only at hSw); go_simp; try with_reducible rfl)
    try simp only [Act.put, List.setIfInBounds_toArray, List.set_cons_zero, List.set_cons_succ]
    refine' wpAnyH_take (i := 19) (oi := _) (v := _) ?hi68 (by kernel_rfl) (by kernel_rfl) (by kernel_rfl) ?hq68 ?hy68 hHeld ?rest68
    case hi68 => (simp only [List.getElem?_toArray, List.getElem?_cons_succ, List.getElem?_cons_zero]; rfl)
    case hq68 => exact fun _ _ _ h => h
    case hy68 => (refine Or.inl ⟨by rfl, ?_⟩; intro ww hSw; (try dsimp only at hSw); go_simp; try with_reducible rfl)
    try simp only [Act.put, List.setIfInBounds_toArray, List.set_cons_zero, List.set_cons_succ]
    refine' wpAnyH_take (i := 20) (oi := _) (v := _) ?hi69 (by kernel_rfl) (by kernel_rfl) (by kernel_rfl) ?hq69 ?hy69 hHeld ?rest69
    case hi69 => (simp only [List.getElem?_toArray, List.getElem?_cons_succ, List.getElem?_cons_zero]; rfl)
    case hq69 => exact fun _ _ _ h => h
    case hy69 => (refine Or.inl ⟨by rfl, ?_⟩; intro ww hSw; (try dsimp only at hSw); go_simp; try with_reducible rfl)
    try simp only [Act.put, List.setIfInBounds_toArray, List.set_cons_zero, List.set_cons_succ]
    refine' wpAnyH_ready (rs := [21]) (by kernel_rfl) (by simp) ?_
    refine' AllReadyH.cons (o := _) ?hi70 (fun K hK => ?st70) AllReadyH.nil
    case hi70 => (simp only [List.getElem?_toArray, List.getElem?_cons_succ, List.getElem?_cons_zero]; rfl)
    go_simp
    (go_at_call 13; refine (Contains_is a0 a1 d _ _ trivial H2.out).mono ?_; rintro e wn ⟨rfl, hbn⟩)
    try go_wp2_with fail
    refine hK.out _ _ ?_ (fun hHeld => ?_)
    · exact ⟨cell_on hbn hHeld.1, cell_on hbn hHeld.2.1, cell_on hbn hHeld.2.2.1, cell_on hbn hHeld.2.2.2.1, cell_on hbn hHeld.2.2.2.2.1, cell_on hbn hHeld.2.2.2.2.2.1, cell_on hbn hHeld.2.2.2.2.2.2.1, cell_on hbn hHeld.2.2.2.2.2.2.2.1, tr hHeld.2.2.2.2.2.2.2.2 hbn⟩
    clear hK K
    try simp only [Act.put, List.setIfInBounds_toArray, List.set_cons_zero, List.set_cons_succ]
    refine' wpAnyH_take (i := 22) (oi := _) (v := _) ?hi71 (by kernel_rfl) (by kernel_rfl) (by kernel_rfl) ?hq71 ?hy71 hHeld ?rest71
    case hi71 => (simp only [List.getElem?_toArray, List.getElem?_cons_succ, List.getElem?_cons_zero]; rfl)
    case hq71 => exact fun _ _ _ h => h
    case hy71 => (refine Or.inl ⟨by rfl, ?_⟩; intro ww hSw; (try dsimp only at hSw); go_simp; try with_reducible rfl)
    try simp only [Act.put, List.setIfInBounds_toArray, List.set_cons_zero, List.set_cons_succ]
    refine' wpAnyH_take (i := 23) (oi := _) (v := _) ?hi72 (by kernel_rfl) (by kernel_rfl) (by kernel_rfl) ?hq72 ?hy72 hHeld ?rest72
    case hi72 => (simp only [List.getElem?_toArray, List.getElem?_cons_succ, List.getElem?_cons_zero]; rfl)
    case hq72 => exact fun _ _ _ h => h
    case hy72 => (refine Or.inl ⟨by rfl, ?_⟩; intro ww hSw; (try dsimp only at hSw); go_simp; try with_reducible rfl)
    try simp only [Act.put, List.setIfInBounds_toArray, List.set_cons_zero, List.set_cons_succ]
    refine' wpAnyH_take (i := 24) (oi := _) (v := _) ?hi73 (by kernel_rfl) (by kernel_rfl) (by kernel_rfl) ?hq73 ?hy73 hHeld ?rest73
    case hi73 => (simp only [List.getElem?_toArray, List.getElem?_cons_succ, List.getElem?_cons_zero]; rfl)
    case hq73 => exact fun _ _ _ h => h
    case hy73 => (refine Or.inl ⟨by rfl, ?_⟩; intro ww hSw; (try dsimp only at hSw); go_simp; try with_reducible rfl)
    try simp only [Act.put, List.setIfInBounds_toArray, List.set_cons_zero, List.set_cons_succ]
    refine' wpAnyH_ready (rs := [25]) (by kernel_rfl) (by simp) ?_
    refine' AllReadyH.cons (o := _) ?hi74 (fun K hK => ?st74) AllReadyH.nil
    case hi74 => (simp only [List.getElem?_toArray, List.getElem?_cons_succ, List.getElem?_cons_zero]; rfl)
    go_simp
    (go_at_call 13; refine (Contains_is b0 b1 d _ _ trivial H3.out).mono ?_; rintro e wn ⟨rfl, hbn⟩)
    try go_wp2_with fail
    refine hK.out _ _ ?_ (fun hHeld => ?_)
    · exact ⟨cell_on hbn hHeld.1, cell_on hbn hHeld.2.1, cell_on hbn hHeld.2.2.1, cell_on hbn hHeld.2.2.2.1, cell_on hbn hHeld.2.2.2.2.1, cell_on hbn hHeld.2.2.2.2.2.1, cell_on hbn hHeld.2.2.2.2.2.2.1, cell_on hbn hHeld.2.2.2.2.2.2.2.1, tr hHeld.2.2.2.2.2.2.2.2 hbn⟩
    clear hK K
    try simp only [Act.put, List.setIfInBounds_toArray, List.set_cons_zero, List.set_cons_succ]
    refine' wpAnyH_take (i := 26) (oi := _) (v := _) ?hi75 (by kernel_rfl) (by kernel_rfl) (by kernel_rfl) ?hq75 ?hy75 hHeld ?rest75
    case hi75 => (simp only [List.getElem?_toArray, List.getElem?_cons_succ, List.getElem?_cons_zero]; rfl)
    case hq75 => exact fun _ _ _ h => h
    case hy75 => (refine Or.inl ⟨by rfl, ?_⟩; intro ww hSw; (try dsimp only at hSw); go_simp; try with_reducible rfl)
    try simp only [Act.put, List.setIfInBounds_toArray, List.set_cons_zero, List.set_cons_succ]
    refine' wpAnyH_take (i := 27) (oi := _) (v := _) ?hi76 (by kernel_rfl) (by kernel_rfl) (by kernel_rfl) ?hq76 ?hy76 hHeld ?rest76
    case hi76 => (simp only [List.getElem?_toArray, List.getElem?_cons_succ, List.getElem?_cons_zero]; rfl)
    case hq76 => exact fun _ _ _ h => h
    case hy76 => (refine Or.inl ⟨by rfl, ?_⟩; intro ww hSw; (try dsimp only at hSw); go_simp; try with_reducible rfl)
    try simp only [Act.put, List.setIfInBounds_toArray, List.set_cons_zero, List.set_cons_succ]
    refine' wpAnyH_take (i := 28) (oi := _) (v := _) ?hi77 (by kernel_rfl) (by kernel_rfl) (by kernel_rfl) ?hq77 ?hy77 hHeld ?rest77
    case hi77 => (simp only [List.getElem?_toArray, List.getElem?_cons_succ, List.getElem?_cons_zero]; rfl)
    case hq77 => exact fun _ _ _ h => h
    case hy77 => (refine Or.inl ⟨by rfl, ?_⟩; intro ww hSw; (try dsimp only at hSw); go_simp; try with_reducible rfl)
    try simp only [Act.put, List.setIfInBounds_toArray, List.set_cons_zero, List.set_cons_succ]
    refine' wpAnyH_take (i := 29) (oi := _) (v := _) ?hi78 (by kernel_rfl) (by kernel_rfl) (by kernel_rfl) ?hq78 ?hy78 hHeld ?rest78
    case hi78 => (simp only [List.getElem?_toArray, List.getElem?_cons_succ, List.getElem?_cons_zero]; rfl)
    case hq78 => exact fun _ _ _ h => h
    case hy78 => (refine Or.inl ⟨by rfl, ?_⟩; intro ww hSw; (try dsimp only at hSw); go_simp; try with_reducible rfl)
    try simp only [Act.put, List.setIfInBounds_toArray, List.set_cons_zero, List.set_cons_succ]
    refine' wpAnyH_take (i := 30) (oi := _) (v := _) ?hi79 (by kernel_rfl) (by kernel_rfl) (by kernel_rfl) ?hq79 ?hy79 hHeld ?rest79
    case hi79 => (simp only [List.getElem?_toArray, List.getElem?_cons_succ, List.getElem?_cons_zero]; rfl)
    case hq79 => exact fun _ _ _ h => h
    case hy79 => (refine Or.inl ⟨by rfl, ?_⟩; intro ww hSw; (try dsimp only at hSw); go_simp; try with_reducible rfl)
    try simp only [Act.put, List.setIfInBounds_toArray, List.set_cons_zero, List.set_cons_succ]
    refine' wpAnyH_take (i := 31) (oi := _) (v := _) ?hi80 (by kernel_rfl) (by kernel_rfl) (by kernel_rfl) ?hq80 ?hy80 hHeld ?rest80
    case hi80 => (simp only [List.getElem?_toArray, List.getElem?_cons_succ, List.getElem?_cons_zero]; rfl)
    case hq80 => exact fun _ _ _ h => h
    case hy80 => (refine Or.inl ⟨by rfl, ?_⟩; intro ww hSw; (try dsimp only at hSw); go_simp; try with_reducible rfl)
    try simp only [Act.put, List.setIfInBounds_toArray, List.set_cons_zero, List.set_cons_succ]
    refine' wpAnyH_take (i := 33) (oi := _) (v := _) ?hi81 (by kernel_rfl) (by kernel_rfl) (by kernel_rfl) ?hq81 ?hy81 hHeld ?rest81
    case hi81 => (simp only [List.getElem?_toArray, List.getElem?_cons_succ, List.getElem?_cons_zero]; rfl)
    case hq81 => exact fun _ _ _ h => h
    case hy81 => (refine Or.inl ⟨by rfl, ?_⟩; intro ww hSw; (try dsimp only at hSw); go_simp; try with_reducible rfl)
    try simp only [Act.put, List.setIfInBounds_toArray, List.set_cons_zero, List.set_cons_succ]
    refine' wpAnyH_take (i := 34) (oi := _) (v := _) ?hi82 (by kernel_rfl) (by kernel_rfl) (by kernel_rfl) ?hq82 ?hy82 hHeld ?rest82
    case hi82 => (simp only [List.getElem?_toArray, List.getElem?_cons_succ, List.getElem?_cons_zero]; rfl)
    case hq82 => exact fun _ _ _ h => h
    case hy82 => (refine Or.inl ⟨by rfl, ?_⟩; intro ww hSw; (try dsimp only at hSw); go_simp; try with_reducible rfl)
    try simp only [Act.put, List.setIfInBounds_toArray, List.set_cons_zero, List.set_cons_succ]
    refine' wpAnyH_ready (rs := [32]) (by kernel_rfl) (by simp) ?_
    refine' AllReadyH.cons (o := _) ?hi83 (fun K hK => ?st83) AllReadyH.nil
    case hi83 => (simp only [List.getElem?_toArray, List.getElem?_cons_succ, List.getElem?_cons_zero]; rfl)
    go_simp
    (go_at_call 28; refine (contains_is _ l d _ _ trivial (HR.out.below hHeld.2.2.2.2.2.2.2.2) HC2.out).mono ?_; rintro e wn ⟨rfl, hbn⟩)
    try go_wp2_with fail
    refine hK.out _ _ ?_ (fun hHeld => ?_)
    · exact ⟨cell_on hbn hHeld.1, cell_on hbn hHeld.2.1, cell_on hbn hHeld.2.2.1, cell_on hbn hHeld.2.2.2.1, cell_on hbn hHeld.2.2.2.2.1, cell_on hbn hHeld.2.2.2.2.2.1, cell_on hbn hHeld.2.2.2.2.2.2.1, cell_on hbn hHeld.2.2.2.2.2.2.2.1, tr hHeld.2.2.2.2.2.2.2.2 hbn⟩
    clear hK K
    try simp only [Act.put, List.setIfInBounds_toArray, List.set_cons_zero, List.set_cons_succ]
    refine' wpAnyH_ready (rs := [35]) (by kernel_rfl) (by simp) ?_
    refine' AllReadyH.cons (o := _) ?hi84 (fun K hK => ?st84) AllReadyH.nil
    case hi84 => (simp only [List.getElem?_toArray, List.getElem?_cons_succ, List.getElem?_cons_zero]; rfl)
    go_simp
    (go_at_call 13; refine (Contains_is a0 a1 d _ _ trivial H2.out).mono ?_; rintro e wn ⟨rfl, hbn⟩)
    try go_wp2_with fail
    refine hK.out _ _ ?_ (fun hHeld => ?_)
    · exact ⟨cell_on hbn hHeld.1, cell_on hbn hHeld.2.1, cell_on hbn hHeld.2.2.1, cell_on hbn hHeld.2.2.2.1, cell_on hbn hHeld.2.2.2.2.1, cell_on hbn hHeld.2.2.2.2.2.1, cell_on hbn hHeld.2.2.2.2.2.2.1, cell_on hbn hHeld.2.2.2.2.2.2.2.1, tr hHeld.2.2.2.2.2.2.2.2 hbn⟩
    clear hK K
    try simp only [Act.put, List.setIfInBounds_toArray, List.set_cons_zero, List.set_cons_succ]
    refine' wpAnyH_take (i := 36) (oi := _) (v := _) ?hi85 (by kernel_rfl) (by kernel_rfl) (by kernel_rfl) ?hq85 ?hy85 hHeld ?rest85
    case hi85 => (simp only [List.getElem?_toArray, List.getElem?_cons_succ, List.getElem?_cons_zero]; rfl)
    case hq85 => exact fun _ _ _ h => h
    case hy85 => (refine Or.inl ⟨by rfl, ?_⟩; intro ww hSw; (try dsimp only at hSw); go_simp; try with_reducible rfl)
    try simp only [Act.put, List.setIfInBounds_toArray, List.set_cons_zero, List.set_cons_succ]
    refine' wpAnyH_take (i := 37) (oi := _) (v := _) ?hi86 (by kernel_rfl) (by kernel_rfl) (by kernel_rfl) ?hq86 ?hy86 hHeld ?rest86
    case hi86 => (simp only [List.getElem?_toArray, List.getElem?_cons_succ, List.getElem?_cons_zero]; rfl)
    case hq86 => exact fun _ _ _ h => h
    case hy86 => (refine Or.inl ⟨by rfl, ?_⟩; intro ww hSw; (try dsimp only at hSw); go_simp; try with_reducible rfl)
    try simp only [Act.put, List.setIfInBounds_toArray, List.set_cons_zero, List.set_cons_succ]
    refine' wpAnyH_take (i := 38) (oi := _) (v := _) ?hi87 (by kernel_rfl) (by kernel_rfl) (by kernel_rfl) ?hq87 ?hy87 hHeld ?rest87
    case hi87 => (simp only [List.getElem?_toArray, List.getElem?_cons_succ, List.getElem?_cons_zero]; rfl)
    case hq87 => exact fun _ _ _ h => h
    case hy87 => (refine Or.inl ⟨by rfl, ?_⟩; intro ww hSw; (try dsimp only at hSw); go_simp; try with_reducible rfl)
    try simp only [Act.put, List.setIfInBounds_toArray, List.set_cons_zero, List.set_cons_succ]
    refine' wpAnyH_ready (rs := [39]) (by kernel_rfl) (by simp) ?_
    refine' AllReadyH.cons (o := _) ?hi88 (fun K hK => ?st88) AllReadyH.nil
    case hi88 => (simp only [List.getElem?_toArray, List.getElem?_cons_succ, List.getElem?_cons_zero]; rfl)
    go_simp
    (go_at_call 13; refine (Contains_is b0 b1 d _ _ trivial H3.out).mono ?_; rintro e wn ⟨rfl, hbn⟩)
    try go_wp2_with fail
    refine hK.out _ _ ?_ (fun hHeld => ?_)
    · exact ⟨cell_on hbn hHeld.1, cell_on hbn hHeld.2.1, cell_on hbn hHeld.2.2.1, cell_on hbn hHeld.2.2.2.1, cell_on hbn hHeld.2.2.2.2.1, cell_on hbn hHeld.2.2.2.2.2.1, cell_on hbn hHeld.2.2.2.2.2.2.1, cell_on hbn hHeld.2.2.2.2.2.2.2.1, tr hHeld.2.2.2.2.2.2.2.2 hbn⟩
    clear hK K
    try simp only [Act.put, List.setIfInBounds_toArray, List.set_cons_zero, List.set_cons_succ]
    refine' wpAnyH_take (i := 40) (oi := _) (v := _) ?hi89 (by kernel_rfl) (by kernel_rfl) (by kernel_rfl) ?hq89 ?hy89 hHeld ?rest89
    case hi89 => (simp only [List.getElem?_toArray, List.getElem?_cons_succ, List.getElem?_cons_zero]; rfl)
    case hq89 => exact fun _ _ _ h => h
    case hy89 => (refine Or.inl ⟨by rfl, ?_⟩; intro ww hSw; (try dsimp only at hSw); go_simp; try with_reducible rfl)
    try simp only [Act.put, List.setIfInBounds_toArray, List.set_cons_zero, List.set_cons_succ]
    refine' wpAnyH_take (i := 41) (oi := _) (v := _) ?hi90 (by kernel_rfl) (by kernel_rfl) (by kernel_rfl) ?hq90 ?hy90 hHeld ?rest90
    case hi90 => (simp only [List.getElem?_toArray, List.getElem?_cons_succ, List.getElem?_cons_zero]; rfl)
    case hq90 => exact fun _ _ _ h => h
    case hy90 => (refine Or.inl ⟨by rfl, ?_⟩; intro ww hSw; (try dsimp only at hSw); go_simp; try with_reducible rfl)
    try simp only [Act.put, List.setIfInBounds_toArray, List.set_cons_zero, List.set_cons_succ]
    refine' wpAnyH_take (i := 42) (oi := _) (v := _) ?hi91 (by kernel_rfl) (by kernel_rfl) (by kernel_rfl) ?hq91 ?hy91 hHeld ?rest91
    case hi91 => (simp only [List.getElem?_toArray, List.getElem?_cons_succ, List.getElem?_cons_zero]; rfl)
    case hq91 => exact fun _ _ _ h => h
    case hy91 => (refine Or.inl ⟨by rfl, ?_⟩; intro ww hSw; (try dsimp only at hSw); go_simp; try with_reducible rfl)
    try simp only [Act.put, List.setIfInBounds_toArray, List.set_cons_zero, List.set_cons_succ]
    refine' wpAnyH_take (i := 43) (oi := _) (v := _) ?hi92 (by kernel_rfl) (by kernel_rfl) (by kernel_rfl) ?hq92 ?hy92 hHeld ?rest92
    case hi92 => (simp only [List.getElem?_toArray, List.getElem?_cons_succ, List.getElem?_cons_zero]; rfl)
    case hq92 => exact fun _ _ _ h => h
    case hy92 => (refine Or.inl ⟨by rfl, ?_⟩; intro ww hSw; (try dsimp only at hSw); go_simp; try with_reducible rfl)
    try simp only [Act.put, List.setIfInBounds_toArray, List.set_cons_zero, List.set_cons_succ]
    refine' wpAnyH_take (i := 44) (oi := _) (v := _) ?hi93 (by kernel_rfl) (by kernel_rfl) (by kernel_rfl) ?hq93 ?hy93 hHeld ?rest93
    case hi93 => (simp only [List.getElem?_toArray, List.getElem?_cons_succ, List.getElem?_cons_zero]; rfl)
    case hq93 => exact fun _ _ _ h => h
    case hy93 => (refine Or.inl ⟨by rfl, ?_⟩; intro ww hSw; (try dsimp only at hSw); go_simp; try with_reducible rfl)
    try simp only [Act.put, List.setIfInBounds_toArray, List.set_cons_zero, List.set_cons_succ]
    refine' wpAnyH_ready (rs := [45]) (by kernel_rfl) (by simp) ?_
    refine' AllReadyH.cons (o := _) ?hi94 (fun K hK => ?st94) AllReadyH.nil
    case hi94 => (simp only [List.getElem?_toArray, List.getElem?_cons_succ, List.getElem?_cons_zero]; rfl)
    go_simp
    (go_at_call 18; refine (awake_is _ trivial).mono ?_; rintro e wn ⟨rfl, hbn⟩)
    try go_wp2_with fail
    refine hK.out _ _ ?_ (fun hHeld => ?_)
    · exact ⟨cell_on hbn hHeld.1, cell_on hbn hHeld.2.1, cell_on hbn hHeld.2.2.1, cell_on hbn hHeld.2.2.2.1, cell_on hbn hHeld.2.2.2.2.1, cell_on hbn hHeld.2.2.2.2.2.1, cell_on hbn hHeld.2.2.2.2.2.2.1, cell_on hbn hHeld.2.2.2.2.2.2.2.1, tr hHeld.2.2.2.2.2.2.2.2 hbn⟩
    clear hK K
    try simp only [Act.put, List.setIfInBounds_toArray, List.set_cons_zero, List.set_cons_succ]
    refine' wpAnyH_take (i := 46) (oi := _) (v := _) ?hi95 (by kernel_rfl) (by kernel_rfl) (by kernel_rfl) ?hq95 ?hy95 hHeld ?rest95
    case hi95 => (simp only [List.getElem?_toArray, List.getElem?_cons_succ, List.getElem?_cons_zero]; rfl)
    case hq95 => exact fun _ _ _ h => h
    case hy95 => (refine Or.inl ⟨by rfl, ?_⟩; intro ww hSw; (try dsimp only at hSw); go_simp; try with_reducible rfl)
    try simp only [Act.put, List.setIfInBounds_toArray, List.set_cons_zero, List.set_cons_succ]
    refine' wpAnyH_take (i := 47) (oi := _) (v := _) ?hi96 (by kernel_rfl) (by kernel_rfl) (by kernel_rfl) ?hq96 ?hy96 hHeld ?rest96
    case hi96 => (simp only [List.getElem?_toArray, List.getElem?_cons_succ, List.getElem?_cons_zero]; rfl)
    case hq96 => exact fun _ _ _ h => h
    case hy96 => (refine Or.inl ⟨by rfl, ?_⟩; intro ww hSw; (try dsimp only at hSw); go_simp; try with_reducible rfl)
    try simp only [Act.put, List.setIfInBounds_toArray, List.set_cons_zero, List.set_cons_succ]
    refine wpAnyH_done (by kernel_rfl) ?_ _
    have hbl := hHeld.2.2.2.2.2.2.2.2
    have HBL := Lib.hid (tr BB.out hbl)
    clear hbl hHeld
    go_wp2_with fail
    go_ret
    exact ⟨rfl, HBL.out⟩
  case true.false => (simp at hin)
  case true.true =>
    obtain rfl : s = true := by simpa using hin
    have hc := HC.out
    simp only [Bool.not_true, Bool.not_false, Bool.and_true, Bool.and_false, Bool.false_and, Bool.true_and] at hc
    have HC2 := Lib.hid hc
    clear hin hc HC
    go_enter Try.func7, Try.ntmps7
    go_wp2_with (first
      | (go_at_call 9; (with_reducible refine (Intersect_is a0 a1 b0 b1 c0 c1 _ _ ?_ H1.out).mono ?_); (exact trivial); rintro e w1 ⟨rfl, hb1⟩; have k0 := cell_on hb1 (b := w.heap.size) (o := 0) (v := .int .i64 a0) (by simp [go_sem]); have k1 := cell_on hb1 (b := w.heap.size) (o := 1) (v := .int .i64 a1) (by simp [go_sem]); have k2 := cell_on hb1 (b := w.heap.size + 1) (o := 0) (v := .int .i64 b0) (by simp [go_sem]); have k3 := cell_on hb1 (b := w.heap.size + 1) (o := 1) (v := .int .i64 b1) (by simp [go_sem]); have lz0 := World.block_lt_of_cell? _ _ k0; have lz1 := World.block_lt_of_cell? _ _ k2; simp only at lz0 lz1; have B1 := Lib.hid (tr (al (al (Below.refl _ w) _) _) hb1))
      | (go_at_call 9; (with_reducible refine (Intersect_is b0 b1 a0 a1 c0 c1 _ _ ?_ H1'.out).mono ?_); (exact trivial); rintro e w2 ⟨rfl, hb2⟩; have m0 := cell_on hb2 (cell_al _ k0); have m1 := cell_on hb2 (cell_al _ k1); have m2 := cell_on hb2 (cell_al _ k2); have m3 := cell_on hb2 (cell_al _ k3); have m4 := cell_on hb2 (b := w1.heap.size) (o := 0) (v := .int .i64 c0) (by simp [go_sem]); have m5 := cell_on hb2 (b := w1.heap.size) (o := 1) (v := .int .i64 c1) (by simp [go_sem]); have B2 := Lib.hid (tr (al B1.out _) hb2); have n0 := cell_al (.cells #[.int .i64 c0, .int .i64 c1] 23) m0; have n1 := cell_al (.cells #[.int .i64 c0, .int .i64 c1] 23) m1; have n2 := cell_al (.cells #[.int .i64 c0, .int .i64 c1] 23) m2; have n3 := cell_al (.cells #[.int .i64 c0, .int .i64 c1] 23) m3; have n4 := cell_al (.cells #[.int .i64 c0, .int .i64 c1] 23) m4; have n5 := cell_al (.cells #[.int .i64 c0, .int .i64 c1] 23) m5)
      | (go_at_call 16; (with_reducible refine (Subtract_is a0 a1 b0 b1 l _ ?_ H4.out).mono ?_); (exact trivial); rintro e w3 ⟨v3, rfl, hr3, hb3⟩; obtain ⟨LA, LC, rfl⟩ := hr3.form0; have o0 := cell_on hb3 n0; have o1 := cell_on hb3 n1; have o2 := cell_on hb3 n2; have o3 := cell_on hb3 n3; have o4 := cell_on hb3 n4; have o5 := cell_on hb3 n5; have o6 := cell_on hb3 (b := w2.heap.size) (o := 0) (v := .int .i64 c0) (by simp [go_sem]); have o7 := cell_on hb3 (b := w2.heap.size) (o := 1) (v := .int .i64 c1) (by simp [go_sem]); have BB := Lib.hid (tr (al B2.out _) hb3); have CC := Lib.hid (Below.refl w3.heap.size w3); have HR := Lib.hid hr3; rw [HM.out] at hr3 HR ⊢; clear hr3)
      | (go_at_call 13; (with_reducible refine (Contains_is c0 c1 d _ _ ?_ H5.out).mono ?_); (exact trivial); rintro e w4 ⟨rfl, hb4⟩; replace o0 := cell_on hb4 o0; replace o1 := cell_on hb4 o1; replace o2 := cell_on hb4 o2; replace o3 := cell_on hb4 o3; replace o4 := cell_on hb4 o4; replace o5 := cell_on hb4 o5; replace o6 := cell_on hb4 o6; replace o7 := cell_on hb4 o7; have CC := Lib.hid (tr CC.out hb4))
      | fail)
    refine wp_region_held_drew (S := (fun w' => w'.cell? ⟨w.heap.size, 0, none⟩ = some (.int .i64 a0) ∧ w'.cell? ⟨w.heap.size, 1, none⟩ = some (.int .i64 a1) ∧ w'.cell? ⟨w.heap.size + 1, 0, none⟩ = some (.int .i64 b0) ∧ w'.cell? ⟨w.heap.size + 1, 1, none⟩ = some (.int .i64 b1) ∧ w'.cell? ⟨w1.heap.size, 0, none⟩ = some (.int .i64 c0) ∧ w'.cell? ⟨w1.heap.size, 1, none⟩ = some (.int .i64 c1) ∧ w'.cell? ⟨w2.heap.size, 0, none⟩ = some (.int .i64 c0) ∧ w'.cell? ⟨w2.heap.size, 1, none⟩ = some (.int .i64 c1) ∧ Below w3.heap.size w3 w')) (by kernel_rfl) ?_ (fun hHeld => ?_)
    · exact ⟨o0, o1, o2, o3, o4, o5, o6, o7, below_drewN CC.out 1⟩
    refine' wpAnyH_take (i := 0) (oi := _) (v := _) ?hi97 (by kernel_rfl) (by kernel_rfl) (by kernel_rfl) ?hq97 ?hy97 hHeld ?rest97
    case hi97 => (simp only [List.getElem?_toArray, List.getElem?_cons_succ, List.getElem?_cons_zero]; rfl)
    case hq97 => exact fun _ _ _ h => h
    case hy97 => (refine Or.inl ⟨by rfl, ?_⟩; intro ww hSw; (try dsimp only at hSw); go_simp; try with_reducible rfl)
    try simp only [Act.put, List.setIfInBounds_toArray, List.set_cons_zero, List.set_cons_succ]
    refine' wpAnyH_take (i := 1) (oi := _) (v := _) ?hi98 (by kernel_rfl) (by kernel_rfl) (by kernel_rfl) ?hq98 ?hy98 hHeld ?rest98
    case hi98 => (simp only [List.getElem?_toArray, List.getElem?_cons_succ, List.getElem?_cons_zero]; rfl)
    case hq98 => exact fun _ _ _ h => h
    case hy98 => (refine Or.inl ⟨by rfl, ?_⟩; intro ww hSw; (try dsimp only at hSw); go_simp; try with_reducible rfl)
    try simp only [Act.put, List.setIfInBounds_toArray, List.set_cons_zero, List.set_cons_succ]
    refine' wpAnyH_take (i := 2) (oi := _) (v := _) ?hi99 (by kernel_rfl) (by kernel_rfl) (by kernel_rfl) ?hq99 ?hy99 hHeld ?rest99
    case hi99 => (simp only [List.getElem?_toArray, List.getElem?_cons_succ, List.getElem?_cons_zero]; rfl)
    case hq99 => exact fun _ _ _ h => h
    case hy99 => (refine Or.inl ⟨by rfl, ?_⟩; intro ww hSw; (try dsimp only at hSw); go_simp; try with_reducible rfl)
    try simp only [Act.put, List.setIfInBounds_toArray, List.set_cons_zero, List.set_cons_succ]
    refine' wpAnyH_take (i := 3) (oi := _) (v := _) ?hi100 (by kernel_rfl) (by kernel_rfl) (by kernel_rfl) ?hq100 ?hy100 hHeld ?rest100
    case hi100 => (simp only [List.getElem?_toArray, List.getElem?_cons_succ, List.getElem?_cons_zero]; rfl)
    case hq100 => exact fun _ _ _ h => h
    case hy100 => (refine Or.inl ⟨by rfl, ?_⟩; intro ww hSw; (try dsimp only at hSw); go_simp; try with_reducible rfl)
    try simp only [Act.put, List.setIfInBounds_toArray, List.set_cons_zero, List.set_cons_succ]
    refine' wpAnyH_take (i := 4) (oi := _) (v := _) ?hi101 (by kernel_rfl) (by kernel_rfl) (by kernel_rfl) ?hq101 ?hy101 hHeld ?rest101
    case hi101 => (simp only [List.getElem?_toArray, List.getElem?_cons_succ, List.getElem?_cons_zero]; rfl)
    case hq101 => exact fun _ _ _ h => h
    case hy101 => (refine Or.inl ⟨by rfl, ?_⟩; intro ww hSw; (try dsimp only at hSw); go_simp; try with_reducible rfl)
    try simp only [Act.put, List.setIfInBounds_toArray, List.set_cons_zero, List.set_cons_succ]
    refine' wpAnyH_take (i := 5) (oi := _) (v := _) ?hi102 (by kernel_rfl) (by kernel_rfl) (by kernel_rfl) ?hq102 ?hy102 hHeld ?rest102
    case hi102 => (simp only [List.getElem?_toArray, List.getElem?_cons_succ, List.getElem?_cons_zero]; rfl)
    case hq102 => exact fun _ _ _ h => h
    case hy102 => (refine Or.inl ⟨by rfl, ?_⟩; intro ww hSw; (try dsimp only at hSw); go_simp; try with_reducible rfl)
    try simp only [Act.put, List.setIfInBounds_toArray, List.set_cons_zero, List.set_cons_succ]
    refine' wpAnyH_take (i := 6) (oi := _) (v := _) ?hi103 (by kernel_rfl) (by kernel_rfl) (by kernel_rfl) ?hq103 ?hy103 hHeld ?rest103
    case hi103 => (simp only [List.getElem?_toArray, List.getElem?_cons_succ, List.getElem?_cons_zero]; rfl)
    case hq103 => exact fun _ _ _ h => h
    case hy103 => (refine Or.inl ⟨by rfl, ?_⟩; intro ww hSw; (try dsimp only at hSw); go_simp; try with_reducible rfl)
    try simp only [Act.put, List.setIfInBounds_toArray, List.set_cons_zero, List.set_cons_succ]
    refine' wpAnyH_take (i := 7) (oi := _) (v := _) ?hi104 (by kernel_rfl) (by kernel_rfl) (by kernel_rfl) ?hq104 ?hy104 hHeld ?rest104
    case hi104 => (simp only [List.getElem?_toArray, List.getElem?_cons_succ, List.getElem?_cons_zero]; rfl)
    case hq104 => exact fun _ _ _ h => h
    case hy104 => (refine Or.inl ⟨by rfl, ?_⟩; intro ww hSw; (try dsimp only at hSw); go_simp; try with_reducible rfl)
    try simp only [Act.put, List.setIfInBounds_toArray, List.set_cons_zero, List.set_cons_succ]
    refine' wpAnyH_take (i := 8) (oi := _) (v := _) ?hi105 (by kernel_rfl) (by kernel_rfl) (by kernel_rfl) ?hq105 ?hy105 hHeld ?rest105
    case hi105 => (simp only [List.getElem?_toArray, List.getElem?_cons_succ, List.getElem?_cons_zero]; rfl)
    case hq105 => exact fun _ _ _ h => h
    case hy105 => (refine Or.inl ⟨by rfl, ?_⟩; intro ww hSw; (try dsimp only at hSw); go_simp; try with_reducible rfl)
    try simp only [Act.put, List.setIfInBounds_toArray, List.set_cons_zero, List.set_cons_succ]
    refine' wpAnyH_take (i := 9) (oi := _) (v := _) ?hi106 (by kernel_rfl) (by kernel_rfl) (by kernel_rfl) ?hq106 ?hy106 hHeld ?rest106
    case hi106 => (simp only [List.getElem?_toArray, List.getElem?_cons_succ, List.getElem?_cons_zero]; rfl)
    case hq106 => exact fun _ _ _ h => h
    case hy106 => (refine Or.inl ⟨by rfl, ?_⟩; intro ww hSw; (try dsimp only at hSw); go_simp; try with_reducible rfl)
    try simp only [Act.put, List.setIfInBounds_toArray, List.set_cons_zero, List.set_cons_succ]
    refine' wpAnyH_ready (rs := [10]) (by kernel_rfl) (by simp) ?_
    refine' AllReadyH.cons (o := _) ?hi107 (fun K hK => ?st107) AllReadyH.nil
    case hi107 => (simp only [List.getElem?_toArray, List.getElem?_cons_succ, List.getElem?_cons_zero]; rfl)
    go_simp
    (go_at_call 27; refine (normal_is _ l _ (HR.out.below hHeld.2.2.2.2.2.2.2.2) HNm.out).mono ?_; rintro e wn ⟨rfl, hbn⟩)
    try go_wp2_with fail
    refine hK.out _ _ ?_ (fun hHeld => ?_)
    · exact ⟨cell_on hbn hHeld.1, cell_on hbn hHeld.2.1, cell_on hbn hHeld.2.2.1, cell_on hbn hHeld.2.2.2.1, cell_on hbn hHeld.2.2.2.2.1, cell_on hbn hHeld.2.2.2.2.2.1, cell_on hbn hHeld.2.2.2.2.2.2.1, cell_on hbn hHeld.2.2.2.2.2.2.2.1, tr hHeld.2.2.2.2.2.2.2.2 hbn⟩
    clear hK K
    try simp only [Act.put, List.setIfInBounds_toArray, List.set_cons_zero, List.set_cons_succ]
    refine' wpAnyH_take (i := 11) (oi := _) (v := _) ?hi108 (by kernel_rfl) (by kernel_rfl) (by kernel_rfl) ?hq108 ?hy108 hHeld ?rest108
    case hi108 => (simp only [List.getElem?_toArray, List.getElem?_cons_succ, List.getElem?_cons_zero]; rfl)
    case hq108 => exact fun _ _ _ h => h
    case hy108 => (refine Or.inl ⟨by rfl, ?_⟩; intro ww hSw; (try dsimp only at hSw); go_simp; try with_reducible rfl)
    try simp only [Act.put, List.setIfInBounds_toArray, List.set_cons_zero, List.set_cons_succ]
    refine' wpAnyH_take (i := 12) (oi := _) (v := _) ?hi109 (by kernel_rfl) (by kernel_rfl) (by kernel_rfl) ?hq109 ?hy109 hHeld ?rest109
    case hi109 => (simp only [List.getElem?_toArray, List.getElem?_cons_succ, List.getElem?_cons_zero]; rfl)
    case hq109 => exact fun _ _ _ h => h
    case hy109 => (refine Or.inl ⟨by rfl, ?_⟩; intro ww hSw; (try dsimp only at hSw); go_simp; try with_reducible rfl)
    try simp only [Act.put, List.setIfInBounds_toArray, List.set_cons_zero, List.set_cons_succ]
    refine' wpAnyH_take (i := 13) (oi := _) (v := _) ?hi110 (by kernel_rfl) (by kernel_rfl) (by kernel_rfl) ?hq110 ?hy110 hHeld ?rest110
    case hi110 => (simp only [List.getElem?_toArray, List.getElem?_cons_succ, List.getElem?_cons_zero]; rfl)
    case hq110 => exact fun _ _ _ h => h
    case hy110 => (refine Or.inl ⟨by rfl, ?_⟩; intro ww hSw; (try dsimp only at hSw); go_simp; try with_reducible rfl)
    try simp only [Act.put, List.setIfInBounds_toArray, List.set_cons_zero, List.set_cons_succ]
    refine' wpAnyH_take (i := 14) (oi := _) (v := _) ?hi111 (by kernel_rfl) (by kernel_rfl) (by kernel_rfl) ?hq111 ?hy111 hHeld ?rest111
    case hi111 => (simp only [List.getElem?_toArray, List.getElem?_cons_succ, List.getElem?_cons_zero]; rfl)
    case hq111 => exact fun _ _ _ h => h
    case hy111 => (refine Or.inl ⟨by rfl, ?_⟩; intro ww hSw; (try dsimp only at hSw); go_simp; try with_reducible rfl)
    try simp only [Act.put, List.setIfInBounds_toArray, List.set_cons_zero, List.set_cons_succ]
    refine' wpAnyH_take (i := 15) (oi := _) (v := _) ?hi112 (by kernel_rfl) (by kernel_rfl) (by kernel_rfl) ?hq112 ?hy112 hHeld ?rest112
    case hi112 => (simp only [List.getElem?_toArray, List.getElem?_cons_succ, List.getElem?_cons_zero]; rfl)
    case hq112 => exact fun _ _ _ h => h
    case hy112 => (refine Or.inl ⟨by rfl, ?_⟩; intro ww hSw; (try dsimp only at hSw); go_simp; try with_reducible rfl)
    try simp only [Act.put, List.setIfInBounds_toArray, List.set_cons_zero, List.set_cons_succ]
    refine' wpAnyH_take (i := 16) (oi := _) (v := _) ?hi113 (by kernel_rfl) (by kernel_rfl) (by kernel_rfl) ?hq113 ?hy113 hHeld ?rest113
    case hi113 => (simp only [List.getElem?_toArray, List.getElem?_cons_succ, List.getElem?_cons_zero]; rfl)
    case hq113 => exact fun _ _ _ h => h
    case hy113 => (refine Or.inl ⟨by rfl, ?_⟩; intro ww hSw; (try dsimp only at hSw); go_simp; try with_reducible rfl)
    try simp only [Act.put, List.setIfInBounds_toArray, List.set_cons_zero, List.set_cons_succ]
    refine' wpAnyH_take (i := 17) (oi := _) (v := _) ?hi114 (by kernel_rfl) (by kernel_rfl) (by kernel_rfl) ?hq114 ?hy114 hHeld ?rest114
    case hi114 => (simp only [List.getElem?_toArray, List.getElem?_cons_succ, List.getElem?_cons_zero]; rfl)
    case hq114 => exact fun _ _ _ h => h
    case hy114 => (refine Or.inl ⟨by rfl, ?_⟩; intro ww hSw; (try dsimp only at hSw); go_simp; try with_reducible rfl)
    try simp only [Act.put, List.setIfInBounds_toArray, List.set_cons_zero, List.set_cons_succ]
    refine' wpAnyH_take (i := 18) (oi := _) (v := _) ?hi115 (by kernel_rfl) (by kernel_rfl) (by kernel_rfl) ?hq115 ?hy115 hHeld ?rest115
    case hi115 => (simp only [List.getElem?_toArray, List.getElem?_cons_succ, List.getElem?_cons_zero]; rfl)
    case hq115 => exact fun _ _ _ h => h
    case hy115 => (refine Or.inl ⟨by rfl, ?_⟩; intro ww hSw; (try dsimp only at hSw); go_simp; try with_reducible rfl)
    try simp only [Act.put, List.setIfInBounds_toArray, List.set_cons_zero, List.set_cons_succ]
    refine' wpAnyH_take (i := 19) (oi := _) (v := _) ?hi116 (by kernel_rfl) (by kernel_rfl) (by kernel_rfl) ?hq116 ?hy116 hHeld ?rest116
    case hi116 => (simp only [List.getElem?_toArray, List.getElem?_cons_succ, List.getElem?_cons_zero]; rfl)
    case hq116 => exact fun _ _ _ h => h
    case hy116 => (refine Or.inl ⟨by rfl, ?_⟩; intro ww hSw; (try dsimp only at hSw); go_simp; try with_reducible rfl)
    try simp only [Act.put, List.setIfInBounds_toArray, List.set_cons_zero, List.set_cons_succ]
    refine' wpAnyH_take (i := 20) (oi := _) (v := _) ?hi117 (by kernel_rfl) (by kernel_rfl) (by kernel_rfl) ?hq117 ?hy117 hHeld ?rest117
    case hi117 => (simp only [List.getElem?_toArray, List.getElem?_cons_succ, List.getElem?_cons_zero]; rfl)
    case hq117 => exact fun _ _ _ h => h
    case hy117 => (refine Or.inl ⟨by rfl, ?_⟩; intro ww hSw; (try dsimp only at hSw); go_simp; try with_reducible rfl)
    try simp only [Act.put, List.setIfInBounds_toArray, List.set_cons_zero, List.set_cons_succ]
    refine' wpAnyH_ready (rs := [21]) (by kernel_rfl) (by simp) ?_
    refine' AllReadyH.cons (o := _) ?hi118 (fun K hK => ?st118) AllReadyH.nil
    case hi118 => (simp only [List.getElem?_toArray, List.getElem?_cons_succ, List.getElem?_cons_zero]; rfl)
    go_simp
    (go_at_call 13; refine (Contains_is a0 a1 d _ _ trivial H2.out).mono ?_; rintro e wn ⟨rfl, hbn⟩)
    try go_wp2_with fail
    refine hK.out _ _ ?_ (fun hHeld => ?_)
    · exact ⟨cell_on hbn hHeld.1, cell_on hbn hHeld.2.1, cell_on hbn hHeld.2.2.1, cell_on hbn hHeld.2.2.2.1, cell_on hbn hHeld.2.2.2.2.1, cell_on hbn hHeld.2.2.2.2.2.1, cell_on hbn hHeld.2.2.2.2.2.2.1, cell_on hbn hHeld.2.2.2.2.2.2.2.1, tr hHeld.2.2.2.2.2.2.2.2 hbn⟩
    clear hK K
    try simp only [Act.put, List.setIfInBounds_toArray, List.set_cons_zero, List.set_cons_succ]
    refine' wpAnyH_take (i := 22) (oi := _) (v := _) ?hi119 (by kernel_rfl) (by kernel_rfl) (by kernel_rfl) ?hq119 ?hy119 hHeld ?rest119
    case hi119 => (simp only [List.getElem?_toArray, List.getElem?_cons_succ, List.getElem?_cons_zero]; rfl)
    case hq119 => exact fun _ _ _ h => h
    case hy119 => (refine Or.inl ⟨by rfl, ?_⟩; intro ww hSw; (try dsimp only at hSw); go_simp; try with_reducible rfl)
    try simp only [Act.put, List.setIfInBounds_toArray, List.set_cons_zero, List.set_cons_succ]
    refine' wpAnyH_take (i := 23) (oi := _) (v := _) ?hi120 (by kernel_rfl) (by kernel_rfl) (by kernel_rfl) ?hq120 ?hy120 hHeld ?rest120
    case hi120 => (simp only [List.getElem?_toArray, List.getElem?_cons_succ, List.getElem?_cons_zero]; rfl)
    case hq120 => exact fun _ _ _ h => h
    case hy120 => (refine Or.inl ⟨by rfl, ?_⟩; intro ww hSw; (try dsimp only at hSw); go_simp; try with_reducible rfl)
    try simp only [Act.put, List.setIfInBounds_toArray, List.set_cons_zero, List.set_cons_succ]
    refine' wpAnyH_take (i := 24) (oi := _) (v := _) ?hi121 (by kernel_rfl) (by kernel_rfl) (by kernel_rfl) ?hq121 ?hy121 hHeld ?rest121
    case hi121 => (simp only [List.getElem?_toArray, List.getElem?_cons_succ, List.getElem?_cons_zero]; rfl)
    case hq121 => exact fun _ _ _ h => h
    case hy121 => (refine Or.inl ⟨by rfl, ?_⟩; intro ww hSw; (try dsimp only at hSw); go_simp; try with_reducible rfl)
    try simp only [Act.put, List.setIfInBounds_toArray, List.set_cons_zero, List.set_cons_succ]
    refine' wpAnyH_ready (rs := [25]) (by kernel_rfl) (by simp) ?_
    refine' AllReadyH.cons (o := _) ?hi122 (fun K hK => ?st122) AllReadyH.nil
    case hi122 => (simp only [List.getElem?_toArray, List.getElem?_cons_succ, List.getElem?_cons_zero]; rfl)
    go_simp
    (go_at_call 13; refine (Contains_is b0 b1 d _ _ trivial H3.out).mono ?_; rintro e wn ⟨rfl, hbn⟩)
    try go_wp2_with fail
    refine hK.out _ _ ?_ (fun hHeld => ?_)
    · exact ⟨cell_on hbn hHeld.1, cell_on hbn hHeld.2.1, cell_on hbn hHeld.2.2.1, cell_on hbn hHeld.2.2.2.1, cell_on hbn hHeld.2.2.2.2.1, cell_on hbn hHeld.2.2.2.2.2.1, cell_on hbn hHeld.2.2.2.2.2.2.1, cell_on hbn hHeld.2.2.2.2.2.2.2.1, tr hHeld.2.2.2.2.2.2.2.2 hbn⟩
    clear hK K
    try simp only [Act.put, List.setIfInBounds_toArray, List.set_cons_zero, List.set_cons_succ]
    refine' wpAnyH_take (i := 26) (oi := _) (v := _) ?hi123 (by kernel_rfl) (by kernel_rfl) (by kernel_rfl) ?hq123 ?hy123 hHeld ?rest123
    case hi123 => (simp only [List.getElem?_toArray, List.getElem?_cons_succ, List.getElem?_cons_zero]; rfl)
    case hq123 => exact fun _ _ _ h => h
    case hy123 => (refine Or.inl ⟨by rfl, ?_⟩; intro ww hSw; (try dsimp only at hSw); go_simp; try with_reducible rfl)
    try simp only [Act.put, List.setIfInBounds_toArray, List.set_cons_zero, List.set_cons_succ]
    refine' wpAnyH_take (i := 27) (oi := _) (v := _) ?hi124 (by kernel_rfl) (by kernel_rfl) (by kernel_rfl) ?hq124 ?hy124 hHeld ?rest124
    case hi124 => (simp only [List.getElem?_toArray, List.getElem?_cons_succ, List.getElem?_cons_zero]; rfl)
    case hq124 => exact fun _ _ _ h => h
    case hy124 => (refine Or.inl ⟨by rfl, ?_⟩; intro ww hSw; (try dsimp only at hSw); go_simp; try with_reducible rfl)
    try simp only [Act.put, List.setIfInBounds_toArray, List.set_cons_zero, List.set_cons_succ]
    refine' wpAnyH_take (i := 28) (oi := _) (v := _) ?hi125 (by kernel_rfl) (by kernel_rfl) (by kernel_rfl) ?hq125 ?hy125 hHeld ?rest125
    case hi125 => (simp only [List.getElem?_toArray, List.getElem?_cons_succ, List.getElem?_cons_zero]; rfl)
    case hq125 => exact fun _ _ _ h => h
    case hy125 => (refine Or.inl ⟨by rfl, ?_⟩; intro ww hSw; (try dsimp only at hSw); go_simp; try with_reducible rfl)
    try simp only [Act.put, List.setIfInBounds_toArray, List.set_cons_zero, List.set_cons_succ]
    refine' wpAnyH_take (i := 29) (oi := _) (v := _) ?hi126 (by kernel_rfl) (by kernel_rfl) (by kernel_rfl) ?hq126 ?hy126 hHeld ?rest126
    case hi126 => (simp only [List.getElem?_toArray, List.getElem?_cons_succ, List.getElem?_cons_zero]; rfl)
    case hq126 => exact fun _ _ _ h => h
    case hy126 => (refine Or.inl ⟨by rfl, ?_⟩; intro ww hSw; (try dsimp only at hSw); go_simp; try with_reducible rfl)
    try simp only [Act.put, List.setIfInBounds_toArray, List.set_cons_zero, List.set_cons_succ]
    refine' wpAnyH_take (i := 30) (oi := _) (v := _) ?hi127 (by kernel_rfl) (by kernel_rfl) (by kernel_rfl) ?hq127 ?hy127 hHeld ?rest127
    case hi127 => (simp only [List.getElem?_toArray, List.getElem?_cons_succ, List.getElem?_cons_zero]; rfl)
    case hq127 => exact fun _ _ _ h => h
    case hy127 => (refine Or.inl ⟨by rfl, ?_⟩; intro ww hSw; (try dsimp only at hSw); go_simp; try with_reducible rfl)
    try simp only [Act.put, List.setIfInBounds_toArray, List.set_cons_zero, List.set_cons_succ]
    refine' wpAnyH_take (i := 31) (oi := _) (v := _) ?hi128 (by kernel_rfl) (by kernel_rfl) (by kernel_rfl) ?hq128 ?hy128 hHeld ?rest128
    case hi128 => (simp only [List.getElem?_toArray, List.getElem?_cons_succ, List.getElem?_cons_zero]; rfl)
    case hq128 => exact fun _ _ _ h => h
    case hy128 => (refine Or.inl ⟨by rfl, ?_⟩; intro ww hSw; (try dsimp only at hSw); go_simp; try with_reducible rfl)
    try simp only [Act.put, List.setIfInBounds_toArray, List.set_cons_zero, List.set_cons_succ]
    refine' wpAnyH_take (i := 33) (oi := _) (v := _) ?hi129 (by kernel_rfl) (by kernel_rfl) (by kernel_rfl) ?hq129 ?hy129 hHeld ?rest129
    case hi129 => (simp only [List.getElem?_toArray, List.getElem?_cons_succ, List.getElem?_cons_zero]; rfl)
    case hq129 => exact fun _ _ _ h => h
    case hy129 => (refine Or.inl ⟨by rfl, ?_⟩; intro ww hSw; (try dsimp only at hSw); go_simp; try with_reducible rfl)
    try simp only [Act.put, List.setIfInBounds_toArray, List.set_cons_zero, List.set_cons_succ]
    refine' wpAnyH_take (i := 34) (oi := _) (v := _) ?hi130 (by kernel_rfl) (by kernel_rfl) (by kernel_rfl) ?hq130 ?hy130 hHeld ?rest130
    case hi130 => (simp only [List.getElem?_toArray, List.getElem?_cons_succ, List.getElem?_cons_zero]; rfl)
    case hq130 => exact fun _ _ _ h => h
    case hy130 => (refine Or.inl ⟨by rfl, ?_⟩; intro ww hSw; (try dsimp only at hSw); go_simp; try with_reducible rfl)
    try simp only [Act.put, List.setIfInBounds_toArray, List.set_cons_zero, List.set_cons_succ]
    refine' wpAnyH_ready (rs := [32]) (by kernel_rfl) (by simp) ?_
    refine' AllReadyH.cons (o := _) ?hi131 (fun K hK => ?st131) AllReadyH.nil
    case hi131 => (simp only [List.getElem?_toArray, List.getElem?_cons_succ, List.getElem?_cons_zero]; rfl)
    go_simp
    (go_at_call 28; refine (contains_is _ l d _ _ trivial (HR.out.below hHeld.2.2.2.2.2.2.2.2) HC2.out).mono ?_; rintro e wn ⟨rfl, hbn⟩)
    try go_wp2_with fail
    refine hK.out _ _ ?_ (fun hHeld => ?_)
    · exact ⟨cell_on hbn hHeld.1, cell_on hbn hHeld.2.1, cell_on hbn hHeld.2.2.1, cell_on hbn hHeld.2.2.2.1, cell_on hbn hHeld.2.2.2.2.1, cell_on hbn hHeld.2.2.2.2.2.1, cell_on hbn hHeld.2.2.2.2.2.2.1, cell_on hbn hHeld.2.2.2.2.2.2.2.1, tr hHeld.2.2.2.2.2.2.2.2 hbn⟩
    clear hK K
    try simp only [Act.put, List.setIfInBounds_toArray, List.set_cons_zero, List.set_cons_succ]
    refine' wpAnyH_ready (rs := [35]) (by kernel_rfl) (by simp) ?_
    refine' AllReadyH.cons (o := _) ?hi132 (fun K hK => ?st132) AllReadyH.nil
    case hi132 => (simp only [List.getElem?_toArray, List.getElem?_cons_succ, List.getElem?_cons_zero]; rfl)
    go_simp
    (go_at_call 13; refine (Contains_is a0 a1 d _ _ trivial H2.out).mono ?_; rintro e wn ⟨rfl, hbn⟩)
    try go_wp2_with fail
    refine hK.out _ _ ?_ (fun hHeld => ?_)
    · exact ⟨cell_on hbn hHeld.1, cell_on hbn hHeld.2.1, cell_on hbn hHeld.2.2.1, cell_on hbn hHeld.2.2.2.1, cell_on hbn hHeld.2.2.2.2.1, cell_on hbn hHeld.2.2.2.2.2.1, cell_on hbn hHeld.2.2.2.2.2.2.1, cell_on hbn hHeld.2.2.2.2.2.2.2.1, tr hHeld.2.2.2.2.2.2.2.2 hbn⟩
    clear hK K
    try simp only [Act.put, List.setIfInBounds_toArray, List.set_cons_zero, List.set_cons_succ]
    refine' wpAnyH_take (i := 36) (oi := _) (v := _) ?hi133 (by kernel_rfl) (by kernel_rfl) (by kernel_rfl) ?hq133 ?hy133 hHeld ?rest133
    case hi133 => (simp only [List.getElem?_toArray, List.getElem?_cons_succ, List.getElem?_cons_zero]; rfl)
    case hq133 => exact fun _ _ _ h => h
    case hy133 => (refine Or.inl ⟨by rfl, ?_⟩; intro ww hSw; (try dsimp only at hSw); go_simp; try with_reducible rfl)
    try simp only [Act.put, List.setIfInBounds_toArray, List.set_cons_zero, List.set_cons_succ]
    refine' wpAnyH_take (i := 37) (oi := _) (v := _) ?hi134 (by kernel_rfl) (by kernel_rfl) (by kernel_rfl) ?hq134 ?hy134 hHeld ?rest134
    case hi134 => (simp only [List.getElem?_toArray, List.getElem?_cons_succ, List.getElem?_cons_zero]; rfl)
    case hq134 => exact fun _ _ _ h => h
    case hy134 => (refine Or.inl ⟨by rfl, ?_⟩; intro ww hSw; (try dsimp only at hSw); go_simp; try with_reducible rfl)
    try simp only [Act.put, List.setIfInBounds_toArray, List.set_cons_zero, List.set_cons_succ]
    refine' wpAnyH_take (i := 38) (oi := _) (v := _) ?hi135 (by kernel_rfl) (by kernel_rfl) (by kernel_rfl) ?hq135 ?hy135 hHeld ?rest135
    case hi135 => (simp only [List.getElem?_toArray, List.getElem?_cons_succ, List.getElem?_cons_zero]; rfl)
    case hq135 => exact fun _ _ _ h => h
    case hy135 => (refine Or.inl ⟨by rfl, ?_⟩; intro ww hSw; (try dsimp only at hSw); go_simp; try with_reducible rfl)
    try simp only [Act.put, List.setIfInBounds_toArray, List.set_cons_zero, List.set_cons_succ]
    refine' wpAnyH_ready (rs := [39]) (by kernel_rfl) (by simp) ?_
    refine' AllReadyH.cons (o := _) ?hi136 (fun K hK => ?st136) AllReadyH.nil
    case hi136 => (simp only [List.getElem?_toArray, List.getElem?_cons_succ, List.getElem?_cons_zero]; rfl)
    go_simp
    (go_at_call 13; refine (Contains_is b0 b1 d _ _ trivial H3.out).mono ?_; rintro e wn ⟨rfl, hbn⟩)
    try go_wp2_with fail
    refine hK.out _ _ ?_ (fun hHeld => ?_)
    · exact ⟨cell_on hbn hHeld.1, cell_on hbn hHeld.2.1, cell_on hbn hHeld.2.2.1, cell_on hbn hHeld.2.2.2.1, cell_on hbn hHeld.2.2.2.2.1, cell_on hbn hHeld.2.2.2.2.2.1, cell_on hbn hHeld.2.2.2.2.2.2.1, cell_on hbn hHeld.2.2.2.2.2.2.2.1, tr hHeld.2.2.2.2.2.2.2.2 hbn⟩
    clear hK K
    try simp only [Act.put, List.setIfInBounds_toArray, List.set_cons_zero, List.set_cons_succ]
    refine' wpAnyH_take (i := 40) (oi := _) (v := _) ?hi137 (by kernel_rfl) (by kernel_rfl) (by kernel_rfl) ?hq137 ?hy137 hHeld ?rest137
    case hi137 => (simp only [List.getElem?_toArray, List.getElem?_cons_succ, List.getElem?_cons_zero]; rfl)
    case hq137 => exact fun _ _ _ h => h
    case hy137 => (refine Or.inl ⟨by rfl, ?_⟩; intro ww hSw; (try dsimp only at hSw); go_simp; try with_reducible rfl)
    try simp only [Act.put, List.setIfInBounds_toArray, List.set_cons_zero, List.set_cons_succ]
    refine' wpAnyH_take (i := 41) (oi := _) (v := _) ?hi138 (by kernel_rfl) (by kernel_rfl) (by kernel_rfl) ?hq138 ?hy138 hHeld ?rest138
    case hi138 => (simp only [List.getElem?_toArray, List.getElem?_cons_succ, List.getElem?_cons_zero]; rfl)
    case hq138 => exact fun _ _ _ h => h
    case hy138 => (refine Or.inl ⟨by rfl, ?_⟩; intro ww hSw; (try dsimp only at hSw); go_simp; try with_reducible rfl)
    try simp only [Act.put, List.setIfInBounds_toArray, List.set_cons_zero, List.set_cons_succ]
    refine' wpAnyH_take (i := 42) (oi := _) (v := _) ?hi139 (by kernel_rfl) (by kernel_rfl) (by kernel_rfl) ?hq139 ?hy139 hHeld ?rest139
    case hi139 => (simp only [List.getElem?_toArray, List.getElem?_cons_succ, List.getElem?_cons_zero]; rfl)
    case hq139 => exact fun _ _ _ h => h
    case hy139 => (refine Or.inl ⟨by rfl, ?_⟩; intro ww hSw; (try dsimp only at hSw); go_simp; try with_reducible rfl)
    try simp only [Act.put, List.setIfInBounds_toArray, List.set_cons_zero, List.set_cons_succ]
    refine' wpAnyH_take (i := 43) (oi := _) (v := _) ?hi140 (by kernel_rfl) (by kernel_rfl) (by kernel_rfl) ?hq140 ?hy140 hHeld ?rest140
    case hi140 => (simp only [List.getElem?_toArray, List.getElem?_cons_succ, List.getElem?_cons_zero]; rfl)
    case hq140 => exact fun _ _ _ h => h
    case hy140 => (refine Or.inl ⟨by rfl, ?_⟩; intro ww hSw; (try dsimp only at hSw); go_simp; try with_reducible rfl)
    try simp only [Act.put, List.setIfInBounds_toArray, List.set_cons_zero, List.set_cons_succ]
    refine' wpAnyH_take (i := 44) (oi := _) (v := _) ?hi141 (by kernel_rfl) (by kernel_rfl) (by kernel_rfl) ?hq141 ?hy141 hHeld ?rest141
    case hi141 => (simp only [List.getElem?_toArray, List.getElem?_cons_succ, List.getElem?_cons_zero]; rfl)
    case hq141 => exact fun _ _ _ h => h
    case hy141 => (refine Or.inl ⟨by rfl, ?_⟩; intro ww hSw; (try dsimp only at hSw); go_simp; try with_reducible rfl)
    try simp only [Act.put, List.setIfInBounds_toArray, List.set_cons_zero, List.set_cons_succ]
    refine' wpAnyH_ready (rs := [45]) (by kernel_rfl) (by simp) ?_
    refine' AllReadyH.cons (o := _) ?hi142 (fun K hK => ?st142) AllReadyH.nil
    case hi142 => (simp only [List.getElem?_toArray, List.getElem?_cons_succ, List.getElem?_cons_zero]; rfl)
    go_simp
    (go_at_call 18; refine (awake_is _ trivial).mono ?_; rintro e wn ⟨rfl, hbn⟩)
    try go_wp2_with fail
    refine hK.out _ _ ?_ (fun hHeld => ?_)
    · exact ⟨cell_on hbn hHeld.1, cell_on hbn hHeld.2.1, cell_on hbn hHeld.2.2.1, cell_on hbn hHeld.2.2.2.1, cell_on hbn hHeld.2.2.2.2.1, cell_on hbn hHeld.2.2.2.2.2.1, cell_on hbn hHeld.2.2.2.2.2.2.1, cell_on hbn hHeld.2.2.2.2.2.2.2.1, tr hHeld.2.2.2.2.2.2.2.2 hbn⟩
    clear hK K
    try simp only [Act.put, List.setIfInBounds_toArray, List.set_cons_zero, List.set_cons_succ]
    refine' wpAnyH_take (i := 46) (oi := _) (v := _) ?hi143 (by kernel_rfl) (by kernel_rfl) (by kernel_rfl) ?hq143 ?hy143 hHeld ?rest143
    case hi143 => (simp only [List.getElem?_toArray, List.getElem?_cons_succ, List.getElem?_cons_zero]; rfl)
    case hq143 => exact fun _ _ _ h => h
    case hy143 => (refine Or.inl ⟨by rfl, ?_⟩; intro ww hSw; (try dsimp only at hSw); go_simp; try with_reducible rfl)
    try simp only [Act.put, List.setIfInBounds_toArray, List.set_cons_zero, List.set_cons_succ]
    refine' wpAnyH_take (i := 47) (oi := _) (v := _) ?hi144 (by kernel_rfl) (by kernel_rfl) (by kernel_rfl) ?hq144 ?hy144 hHeld ?rest144
    case hi144 => (simp only [List.getElem?_toArray, List.getElem?_cons_succ, List.getElem?_cons_zero]; rfl)
    case hq144 => exact fun _ _ _ h => h
    case hy144 => (refine Or.inl ⟨by rfl, ?_⟩; intro ww hSw; (try dsimp only at hSw); go_simp; try with_reducible rfl)
    try simp only [Act.put, List.setIfInBounds_toArray, List.set_cons_zero, List.set_cons_succ]
    refine wpAnyH_done (by kernel_rfl) ?_ _
    have hbl := hHeld.2.2.2.2.2.2.2.2
    have HBL := Lib.hid (tr BB.out hbl)
    clear hbl hHeld
    go_wp2_with fail
    go_ret
    exact ⟨rfl, HBL.out⟩

set_option maxRecDepth 4000 in
set_option maxHeartbeats 16000000 in
theorem split_no (a0 a1 b0 b1 d c0 c1 : Int) (t q s : Bool) (l : List R) (m : Nat) (w : World) (he : Env w) (h1 : interR (a0, a1) (b0, b1) = ((c0, c1), t)) (h1' : interR (b0, b1) (a0, a1) = ((c0, c1), t)) (h2 : hasR (a0, a1) d = false)
    (h3 : hasR (b0, b1) d = q) (h4 : subR (a0, a1) (b0, b1) = l) (h5 : hasR (c0, c1) d = s) (hin : (t && s) = (false && q)) (s1 : Norm l) (hm : l.length = m) (hm3 : m ≤ 2) (hcl : covers l d = (false && !q)) :
    Calls Try.prog 7 #[.agg #[.int .i64 a0, .int .i64 a1], .agg #[.int .i64 b0, .int .i64 b1], .int .i64 d] w (GivesB w true) := by
  have hm2 : (m : Int) ≤ 2 := by omega
  have hm4 : decide ((m : Int) ≤ 2) = true := by simp; omega
  have hm5 : decide (m ≤ 2) = true := by simp; omega
  have H1 := Lib.hid h1
  have H1' := Lib.hid h1'
  have H2 := Lib.hid h2
  have H3 := Lib.hid h3
  have H4 := Lib.hid h4
  have H5 := Lib.hid h5
  have HM := Lib.hid hm
  have HNm := Lib.hid s1
  have HC := Lib.hid hcl
  clear h1 h1' h2 h3 h4 h5 s1 hm hcl
  cases q <;> cases t
  case false.false =>
    have hc := HC.out
    simp only [Bool.not_true, Bool.not_false, Bool.and_true, Bool.and_false, Bool.false_and, Bool.true_and] at hc
    have HC2 := Lib.hid hc
    clear hin hc HC
    go_enter Try.func7, Try.ntmps7
    go_wp2_with (first
      | (go_at_call 9; (with_reducible refine (Intersect_is a0 a1 b0 b1 c0 c1 _ _ ?_ H1.out).mono ?_); (exact trivial); rintro e w1 ⟨rfl, hb1⟩; have k0 := cell_on hb1 (b := w.heap.size) (o := 0) (v := .int .i64 a0) (by simp [go_sem]); have k1 := cell_on hb1 (b := w.heap.size) (o := 1) (v := .int .i64 a1) (by simp [go_sem]); have k2 := cell_on hb1 (b := w.heap.size + 1) (o := 0) (v := .int .i64 b0) (by simp [go_sem]); have k3 := cell_on hb1 (b := w.heap.size + 1) (o := 1) (v := .int .i64 b1) (by simp [go_sem]); have lz0 := World.block_lt_of_cell? _ _ k0; have lz1 := World.block_lt_of_cell? _ _ k2; simp only at lz0 lz1; have B1 := Lib.hid (tr (al (al (Below.refl _ w) _) _) hb1))
      | (go_at_call 9; (with_reducible refine (Intersect_is b0 b1 a0 a1 c0 c1 _ _ ?_ H1'.out).mono ?_); (exact trivial); rintro e w2 ⟨rfl, hb2⟩; have m0 := cell_on hb2 (cell_al _ k0); have m1 := cell_on hb2 (cell_al _ k1); have m2 := cell_on hb2 (cell_al _ k2); have m3 := cell_on hb2 (cell_al _ k3); have m4 := cell_on hb2 (b := w1.heap.size) (o := 0) (v := .int .i64 c0) (by simp [go_sem]); have m5 := cell_on hb2 (b := w1.heap.size) (o := 1) (v := .int .i64 c1) (by simp [go_sem]); have B2 := Lib.hid (tr (al B1.out _) hb2); have n0 := cell_al (.cells #[.int .i64 c0, .int .i64 c1] 23) m0; have n1 := cell_al (.cells #[.int .i64 c0, .int .i64 c1] 23) m1; have n2 := cell_al (.cells #[.int .i64 c0, .int .i64 c1] 23) m2; have n3 := cell_al (.cells #[.int .i64 c0, .int .i64 c1] 23) m3; have n4 := cell_al (.cells #[.int .i64 c0, .int .i64 c1] 23) m4; have n5 := cell_al (.cells #[.int .i64 c0, .int .i64 c1] 23) m5)
      | (go_at_call 16; (with_reducible refine (Subtract_is a0 a1 b0 b1 l _ ?_ H4.out).mono ?_); (exact trivial); rintro e w3 ⟨v3, rfl, hr3, hb3⟩; obtain ⟨LA, LC, rfl⟩ := hr3.form0; have o0 := cell_on hb3 n0; have o1 := cell_on hb3 n1; have o2 := cell_on hb3 n2; have o3 := cell_on hb3 n3; have o4 := cell_on hb3 n4; have o5 := cell_on hb3 n5; have o6 := cell_on hb3 (b := w2.heap.size) (o := 0) (v := .int .i64 c0) (by simp [go_sem]); have o7 := cell_on hb3 (b := w2.heap.size) (o := 1) (v := .int .i64 c1) (by simp [go_sem]); have BB := Lib.hid (tr (al B2.out _) hb3); have CC := Lib.hid (Below.refl w3.heap.size w3); have HR := Lib.hid hr3; rw [HM.out] at hr3 HR ⊢; clear hr3)
      | (go_at_call 13; (with_reducible refine (Contains_is c0 c1 d _ _ ?_ H5.out).mono ?_); (exact trivial); rintro e w4 ⟨rfl, hb4⟩; replace o0 := cell_on hb4 o0; replace o1 := cell_on hb4 o1; replace o2 := cell_on hb4 o2; replace o3 := cell_on hb4 o3; replace o4 := cell_on hb4 o4; replace o5 := cell_on hb4 o5; replace o6 := cell_on hb4 o6; replace o7 := cell_on hb4 o7; have CC := Lib.hid (tr CC.out hb4))
      | fail)
    refine wp_region_held_drew (S := (fun w' => w'.cell? ⟨w.heap.size, 0, none⟩ = some (.int .i64 a0) ∧ w'.cell? ⟨w.heap.size, 1, none⟩ = some (.int .i64 a1) ∧ w'.cell? ⟨w.heap.size + 1, 0, none⟩ = some (.int .i64 b0) ∧ w'.cell? ⟨w.heap.size + 1, 1, none⟩ = some (.int .i64 b1) ∧ w'.cell? ⟨w1.heap.size, 0, none⟩ = some (.int .i64 c0) ∧ w'.cell? ⟨w1.heap.size, 1, none⟩ = some (.int .i64 c1) ∧ w'.cell? ⟨w2.heap.size, 0, none⟩ = some (.int .i64 c0) ∧ w'.cell? ⟨w2.heap.size, 1, none⟩ = some (.int .i64 c1) ∧ Below w3.heap.size w3 w')) (by kernel_rfl) ?_ (fun hHeld => ?_)
    · exact ⟨o0, o1, o2, o3, o4, o5, o6, o7, below_drewN CC.out 1⟩
    refine' wpAnyH_take (i := 0) (oi := _) (v := _) ?hi145 (by kernel_rfl) (by kernel_rfl) (by kernel_rfl) ?hq145 ?hy145 hHeld ?rest145
    case hi145 => (simp only [List.getElem?_toArray, List.getElem?_cons_succ, List.getElem?_cons_zero]; rfl)
    case hq145 => exact fun _ _ _ h => h
    case hy145 => (refine Or.inl ⟨by rfl, ?_⟩; intro ww hSw; (try dsimp only at hSw); go_simp; try with_reducible rfl)
    try simp only [Act.put, List.setIfInBounds_toArray, List.set_cons_zero, List.set_cons_succ]
    refine' wpAnyH_take (i := 1) (oi := _) (v := _) ?hi146 (by kernel_rfl) (by kernel_rfl) (by kernel_rfl) ?hq146 ?hy146 hHeld ?rest146
    case hi146 => (simp only [List.getElem?_toArray, List.getElem?_cons_succ, List.getElem?_cons_zero]; rfl)
    case hq146 => exact fun _ _ _ h => h
    case hy146 => (refine Or.inl ⟨by rfl, ?_⟩; intro ww hSw; (try dsimp only at hSw); go_simp; try with_reducible rfl)
    try simp only [Act.put, List.setIfInBounds_toArray, List.set_cons_zero, List.set_cons_succ]
    refine' wpAnyH_take (i := 2) (oi := _) (v := _) ?hi147 (by kernel_rfl) (by kernel_rfl) (by kernel_rfl) ?hq147 ?hy147 hHeld ?rest147
    case hi147 => (simp only [List.getElem?_toArray, List.getElem?_cons_succ, List.getElem?_cons_zero]; rfl)
    case hq147 => exact fun _ _ _ h => h
    case hy147 => (refine Or.inl ⟨by rfl, ?_⟩; intro ww hSw; (try dsimp only at hSw); go_simp; try with_reducible rfl)
    try simp only [Act.put, List.setIfInBounds_toArray, List.set_cons_zero, List.set_cons_succ]
    refine' wpAnyH_take (i := 3) (oi := _) (v := _) ?hi148 (by kernel_rfl) (by kernel_rfl) (by kernel_rfl) ?hq148 ?hy148 hHeld ?rest148
    case hi148 => (simp only [List.getElem?_toArray, List.getElem?_cons_succ, List.getElem?_cons_zero]; rfl)
    case hq148 => exact fun _ _ _ h => h
    case hy148 => (refine Or.inl ⟨by rfl, ?_⟩; intro ww hSw; (try dsimp only at hSw); go_simp; try with_reducible rfl)
    try simp only [Act.put, List.setIfInBounds_toArray, List.set_cons_zero, List.set_cons_succ]
    refine' wpAnyH_take (i := 4) (oi := _) (v := _) ?hi149 (by kernel_rfl) (by kernel_rfl) (by kernel_rfl) ?hq149 ?hy149 hHeld ?rest149
    case hi149 => (simp only [List.getElem?_toArray, List.getElem?_cons_succ, List.getElem?_cons_zero]; rfl)
    case hq149 => exact fun _ _ _ h => h
    case hy149 => (refine Or.inl ⟨by rfl, ?_⟩; intro ww hSw; (try dsimp only at hSw); go_simp; try with_reducible rfl)
    try simp only [Act.put, List.setIfInBounds_toArray, List.set_cons_zero, List.set_cons_succ]
    refine' wpAnyH_take (i := 5) (oi := _) (v := _) ?hi150 (by kernel_rfl) (by kernel_rfl) (by kernel_rfl) ?hq150 ?hy150 hHeld ?rest150
    case hi150 => (simp only [List.getElem?_toArray, List.getElem?_cons_succ, List.getElem?_cons_zero]; rfl)
    case hq150 => exact fun _ _ _ h => h
    case hy150 => (refine Or.inl ⟨by rfl, ?_⟩; intro ww hSw; (try dsimp only at hSw); go_simp; try with_reducible rfl)
    try simp only [Act.put, List.setIfInBounds_toArray, List.set_cons_zero, List.set_cons_succ]
    refine' wpAnyH_take (i := 6) (oi := _) (v := _) ?hi151 (by kernel_rfl) (by kernel_rfl) (by kernel_rfl) ?hq151 ?hy151 hHeld ?rest151
    case hi151 => (simp only [List.getElem?_toArray, List.getElem?_cons_succ, List.getElem?_cons_zero]; rfl)
    case hq151 => exact fun _ _ _ h => h
    case hy151 => (refine Or.inl ⟨by rfl, ?_⟩; intro ww hSw; (try dsimp only at hSw); go_simp; try with_reducible rfl)
    try simp only [Act.put, List.setIfInBounds_toArray, List.set_cons_zero, List.set_cons_succ]
    refine' wpAnyH_take (i := 7) (oi := _) (v := _) ?hi152 (by kernel_rfl) (by kernel_rfl) (by kernel_rfl) ?hq152 ?hy152 hHeld ?rest152
    case hi152 => (simp only [List.getElem?_toArray, List.getElem?_cons_succ, List.getElem?_cons_zero]; rfl)
    case hq152 => exact fun _ _ _ h => h
    case hy152 => (refine Or.inl ⟨by rfl, ?_⟩; intro ww hSw; (try dsimp only at hSw); go_simp; try with_reducible rfl)
    try simp only [Act.put, List.setIfInBounds_toArray, List.set_cons_zero, List.set_cons_succ]
    refine' wpAnyH_take (i := 8) (oi := _) (v := _) ?hi153 (by kernel_rfl) (by kernel_rfl) (by kernel_rfl) ?hq153 ?hy153 hHeld ?rest153
    case hi153 => (simp only [List.getElem?_toArray, List.getElem?_cons_succ, List.getElem?_cons_zero]; rfl)
    case hq153 => exact fun _ _ _ h => h
    case hy153 => (refine Or.inl ⟨by rfl, ?_⟩; intro ww hSw; (try dsimp only at hSw); go_simp; try with_reducible rfl)
    try simp only [Act.put, List.setIfInBounds_toArray, List.set_cons_zero, List.set_cons_succ]
    refine' wpAnyH_take (i := 9) (oi := _) (v := _) ?hi154 (by kernel_rfl) (by kernel_rfl) (by kernel_rfl) ?hq154 ?hy154 hHeld ?rest154
    case hi154 => (simp only [List.getElem?_toArray, List.getElem?_cons_succ, List.getElem?_cons_zero]; rfl)
    case hq154 => exact fun _ _ _ h => h
    case hy154 => (refine Or.inl ⟨by rfl, ?_⟩; intro ww hSw; (try dsimp only at hSw); go_simp; try with_reducible rfl)
    try simp only [Act.put, List.setIfInBounds_toArray, List.set_cons_zero, List.set_cons_succ]
    refine' wpAnyH_ready (rs := [10]) (by kernel_rfl) (by simp) ?_
    refine' AllReadyH.cons (o := _) ?hi155 (fun K hK => ?st155) AllReadyH.nil
    case hi155 => (simp only [List.getElem?_toArray, List.getElem?_cons_succ, List.getElem?_cons_zero]; rfl)
    go_simp
    (go_at_call 27; refine (normal_is _ l _ (HR.out.below hHeld.2.2.2.2.2.2.2.2) HNm.out).mono ?_; rintro e wn ⟨rfl, hbn⟩)
    try go_wp2_with fail
    refine hK.out _ _ ?_ (fun hHeld => ?_)
    · exact ⟨cell_on hbn hHeld.1, cell_on hbn hHeld.2.1, cell_on hbn hHeld.2.2.1, cell_on hbn hHeld.2.2.2.1, cell_on hbn hHeld.2.2.2.2.1, cell_on hbn hHeld.2.2.2.2.2.1, cell_on hbn hHeld.2.2.2.2.2.2.1, cell_on hbn hHeld.2.2.2.2.2.2.2.1, tr hHeld.2.2.2.2.2.2.2.2 hbn⟩
    clear hK K
    try simp only [Act.put, List.setIfInBounds_toArray, List.set_cons_zero, List.set_cons_succ]
    refine' wpAnyH_take (i := 11) (oi := _) (v := _) ?hi156 (by kernel_rfl) (by kernel_rfl) (by kernel_rfl) ?hq156 ?hy156 hHeld ?rest156
    case hi156 => (simp only [List.getElem?_toArray, List.getElem?_cons_succ, List.getElem?_cons_zero]; rfl)
    case hq156 => exact fun _ _ _ h => h
    case hy156 => (refine Or.inl ⟨by rfl, ?_⟩; intro ww hSw; (try dsimp only at hSw); go_simp; try with_reducible rfl)
    try simp only [Act.put, List.setIfInBounds_toArray, List.set_cons_zero, List.set_cons_succ]
    refine' wpAnyH_take (i := 12) (oi := _) (v := _) ?hi157 (by kernel_rfl) (by kernel_rfl) (by kernel_rfl) ?hq157 ?hy157 hHeld ?rest157
    case hi157 => (simp only [List.getElem?_toArray, List.getElem?_cons_succ, List.getElem?_cons_zero]; rfl)
    case hq157 => exact fun _ _ _ h => h
    case hy157 => (refine Or.inl ⟨by rfl, ?_⟩; intro ww hSw; (try dsimp only at hSw); go_simp; try with_reducible rfl)
    try simp only [Act.put, List.setIfInBounds_toArray, List.set_cons_zero, List.set_cons_succ]
    refine' wpAnyH_take (i := 13) (oi := _) (v := _) ?hi158 (by kernel_rfl) (by kernel_rfl) (by kernel_rfl) ?hq158 ?hy158 hHeld ?rest158
    case hi158 => (simp only [List.getElem?_toArray, List.getElem?_cons_succ, List.getElem?_cons_zero]; rfl)
    case hq158 => exact fun _ _ _ h => h
    case hy158 => (refine Or.inl ⟨by rfl, ?_⟩; intro ww hSw; (try dsimp only at hSw); go_simp; try with_reducible rfl)
    try simp only [Act.put, List.setIfInBounds_toArray, List.set_cons_zero, List.set_cons_succ]
    refine' wpAnyH_take (i := 14) (oi := _) (v := _) ?hi159 (by kernel_rfl) (by kernel_rfl) (by kernel_rfl) ?hq159 ?hy159 hHeld ?rest159
    case hi159 => (simp only [List.getElem?_toArray, List.getElem?_cons_succ, List.getElem?_cons_zero]; rfl)
    case hq159 => exact fun _ _ _ h => h
    case hy159 => (refine Or.inl ⟨by rfl, ?_⟩; intro ww hSw; (try dsimp only at hSw); go_simp; try with_reducible rfl)
    try simp only [Act.put, List.setIfInBounds_toArray, List.set_cons_zero, List.set_cons_succ]
    refine' wpAnyH_take (i := 15) (oi := _) (v := _) ?hi160 (by kernel_rfl) (by kernel_rfl) (by kernel_rfl) ?hq160 ?hy160 hHeld ?rest160
    case hi160 => (simp only [List.getElem?_toArray, List.getElem?_cons_succ, List.getElem?_cons_zero]; rfl)
    case hq160 => exact fun _ _ _ h => h
    case hy160 => (refine Or.inl ⟨by rfl, ?_⟩; intro ww hSw; (try dsimp only at hSw); go_simp; try with_reducible rfl)
    try simp only [Act.put, List.setIfInBounds_toArray, List.set_cons_zero, List.set_cons_succ]
    refine' wpAnyH_take (i := 16) (oi := _) (v := _) ?hi161 (by kernel_rfl) (by kernel_rfl) (by kernel_rfl) ?hq161 ?hy161 hHeld ?rest161
    case hi161 => (simp only [List.getElem?_toArray, List.getElem?_cons_succ, List.getElem?_cons_zero]; rfl)
    case hq161 => exact fun _ _ _ h => h
    case hy161 => (refine Or.inl ⟨by rfl, ?_⟩; intro ww hSw; (try dsimp only at hSw); go_simp; try with_reducible rfl)
    try simp only [Act.put, List.setIfInBounds_toArray, List.set_cons_zero, List.set_cons_succ]
    refine' wpAnyH_take (i := 17) (oi := _) (v := _) ?hi162 (by kernel_rfl) (by kernel_rfl) (by kernel_rfl) ?hq162 ?hy162 hHeld ?rest162
    case hi162 => (simp only [List.getElem?_toArray, List.getElem?_cons_succ, List.getElem?_cons_zero]; rfl)
    case hq162 => exact fun _ _ _ h => h
    case hy162 => (refine Or.inl ⟨by rfl, ?_⟩; intro ww hSw; (try dsimp only at hSw); go_simp; try with_reducible rfl)
    try simp only [Act.put, List.setIfInBounds_toArray, List.set_cons_zero, List.set_cons_succ]
    refine' wpAnyH_take (i := 18) (oi := _) (v := _) ?hi163 (by kernel_rfl) (by kernel_rfl) (by kernel_rfl) ?hq163 ?hy163 hHeld ?rest163
    case hi163 => (simp only [List.getElem?_toArray, List.getElem?_cons_succ, List.getElem?_cons_zero]; rfl)
    case hq163 => exact fun _ _ _ h => h
    case hy163 => (refine Or.inl ⟨by rfl, ?_⟩; intro ww hSw; (try dsimp only at hSw); go_simp; try with_reducible rfl)
    try simp only [Act.put, List.setIfInBounds_toArray, List.set_cons_zero, List.set_cons_succ]
    refine' wpAnyH_take (i := 19) (oi := _) (v := _) ?hi164 (by kernel_rfl) (by kernel_rfl) (by kernel_rfl) ?hq164 ?hy164 hHeld ?rest164
    case hi164 => (simp only [List.getElem?_toArray, List.getElem?_cons_succ, List.getElem?_cons_zero]; rfl)
    case hq164 => exact fun _ _ _ h => h
    case hy164 => (refine Or.inl ⟨by rfl, ?_⟩; intro ww hSw; (try dsimp only at hSw); go_simp; try with_reducible rfl)
    try simp only [Act.put, List.setIfInBounds_toArray, List.set_cons_zero, List.set_cons_succ]
    refine' wpAnyH_take (i := 20) (oi := _) (v := _) ?hi165 (by kernel_rfl) (by kernel_rfl) (by kernel_rfl) ?hq165 ?hy165 hHeld ?rest165
    case hi165 => (simp only [List.getElem?_toArray, List.getElem?_cons_succ, List.getElem?_cons_zero]; rfl)
    case hq165 => exact fun _ _ _ h => h
    case hy165 => (refine Or.inl ⟨by rfl, ?_⟩; intro ww hSw; (try dsimp only at hSw); go_simp; try with_reducible rfl)
    try simp only [Act.put, List.setIfInBounds_toArray, List.set_cons_zero, List.set_cons_succ]
    refine' wpAnyH_ready (rs := [21]) (by kernel_rfl) (by simp) ?_
    refine' AllReadyH.cons (o := _) ?hi166 (fun K hK => ?st166) AllReadyH.nil
    case hi166 => (simp only [List.getElem?_toArray, List.getElem?_cons_succ, List.getElem?_cons_zero]; rfl)
    go_simp
    (go_at_call 13; refine (Contains_is a0 a1 d _ _ trivial H2.out).mono ?_; rintro e wn ⟨rfl, hbn⟩)
    try go_wp2_with fail
    refine hK.out _ _ ?_ (fun hHeld => ?_)
    · exact ⟨cell_on hbn hHeld.1, cell_on hbn hHeld.2.1, cell_on hbn hHeld.2.2.1, cell_on hbn hHeld.2.2.2.1, cell_on hbn hHeld.2.2.2.2.1, cell_on hbn hHeld.2.2.2.2.2.1, cell_on hbn hHeld.2.2.2.2.2.2.1, cell_on hbn hHeld.2.2.2.2.2.2.2.1, tr hHeld.2.2.2.2.2.2.2.2 hbn⟩
    clear hK K
    try simp only [Act.put, List.setIfInBounds_toArray, List.set_cons_zero, List.set_cons_succ]
    refine' wpAnyH_take (i := 22) (oi := _) (v := _) ?hi167 (by kernel_rfl) (by kernel_rfl) (by kernel_rfl) ?hq167 ?hy167 hHeld ?rest167
    case hi167 => (simp only [List.getElem?_toArray, List.getElem?_cons_succ, List.getElem?_cons_zero]; rfl)
    case hq167 => exact fun _ _ _ h => h
    case hy167 => (refine Or.inl ⟨by rfl, ?_⟩; intro ww hSw; (try dsimp only at hSw); go_simp; try with_reducible rfl)
    try simp only [Act.put, List.setIfInBounds_toArray, List.set_cons_zero, List.set_cons_succ]
    refine' wpAnyH_take (i := 23) (oi := _) (v := undef) ?hi168 (by kernel_rfl) (by kernel_rfl) (by kernel_rfl) ?hq168 ?hy168 hHeld ?rest168
    case hi168 => (simp only [List.getElem?_toArray, List.getElem?_cons_succ, List.getElem?_cons_zero]; rfl)
    case hq168 => exact fun _ _ _ h => h
    case hy168 => exact Or.inr ⟨by rfl, rfl⟩
    try simp only [Act.put, List.setIfInBounds_toArray, List.set_cons_zero, List.set_cons_succ]
    refine' wpAnyH_take (i := 24) (oi := _) (v := undef) ?hi169 (by kernel_rfl) (by kernel_rfl) (by kernel_rfl) ?hq169 ?hy169 hHeld ?rest169
    case hi169 => (simp only [List.getElem?_toArray, List.getElem?_cons_succ, List.getElem?_cons_zero]; rfl)
    case hq169 => exact fun _ _ _ h => h
    case hy169 => exact Or.inr ⟨by rfl, rfl⟩
    try simp only [Act.put, List.setIfInBounds_toArray, List.set_cons_zero, List.set_cons_succ]
    refine' wpAnyH_take (i := 25) (oi := _) (v := undef) ?hi170 (by kernel_rfl) (by kernel_rfl) (by kernel_rfl) ?hq170 ?hy170 hHeld ?rest170
    case hi170 => (simp only [List.getElem?_toArray, List.getElem?_cons_succ, List.getElem?_cons_zero]; rfl)
    case hq170 => exact fun _ _ _ h => h
    case hy170 => exact Or.inr ⟨by rfl, rfl⟩
    try simp only [Act.put, List.setIfInBounds_toArray, List.set_cons_zero, List.set_cons_succ]
    refine' wpAnyH_take (i := 26) (oi := _) (v := _) ?hi171 (by kernel_rfl) (by kernel_rfl) (by kernel_rfl) ?hq171 ?hy171 hHeld ?rest171
    case hi171 => (simp only [List.getElem?_toArray, List.getElem?_cons_succ, List.getElem?_cons_zero]; rfl)
    case hq171 => exact fun _ _ _ h => h
    case hy171 => (refine Or.inl ⟨by rfl, ?_⟩; intro ww hSw; (try dsimp only at hSw); go_simp; try with_reducible rfl)
    try simp only [Act.put, List.setIfInBounds_toArray, List.set_cons_zero, List.set_cons_succ]
    refine' wpAnyH_take (i := 27) (oi := _) (v := _) ?hi172 (by kernel_rfl) (by kernel_rfl) (by kernel_rfl) ?hq172 ?hy172 hHeld ?rest172
    case hi172 => (simp only [List.getElem?_toArray, List.getElem?_cons_succ, List.getElem?_cons_zero]; rfl)
    case hq172 => exact fun _ _ _ h => h
    case hy172 => (refine Or.inl ⟨by rfl, ?_⟩; intro ww hSw; (try dsimp only at hSw); go_simp; try with_reducible rfl)
    try simp only [Act.put, List.setIfInBounds_toArray, List.set_cons_zero, List.set_cons_succ]
    refine' wpAnyH_take (i := 28) (oi := _) (v := _) ?hi173 (by kernel_rfl) (by kernel_rfl) (by kernel_rfl) ?hq173 ?hy173 hHeld ?rest173
    case hi173 => (simp only [List.getElem?_toArray, List.getElem?_cons_succ, List.getElem?_cons_zero]; rfl)
    case hq173 => exact fun _ _ _ h => h
    case hy173 => (refine Or.inl ⟨by rfl, ?_⟩; intro ww hSw; (try dsimp only at hSw); go_simp; try with_reducible rfl)
    try simp only [Act.put, List.setIfInBounds_toArray, List.set_cons_zero, List.set_cons_succ]
    refine' wpAnyH_take (i := 29) (oi := _) (v := _) ?hi174 (by kernel_rfl) (by kernel_rfl) (by kernel_rfl) ?hq174 ?hy174 hHeld ?rest174
    case hi174 => (simp only [List.getElem?_toArray, List.getElem?_cons_succ, List.getElem?_cons_zero]; rfl)
    case hq174 => exact fun _ _ _ h => h
    case hy174 => (refine Or.inl ⟨by rfl, ?_⟩; intro ww hSw; (try dsimp only at hSw); go_simp; try with_reducible rfl)
    try simp only [Act.put, List.setIfInBounds_toArray, List.set_cons_zero, List.set_cons_succ]
    refine' wpAnyH_take (i := 30) (oi := _) (v := _) ?hi175 (by kernel_rfl) (by kernel_rfl) (by kernel_rfl) ?hq175 ?hy175 hHeld ?rest175
    case hi175 => (simp only [List.getElem?_toArray, List.getElem?_cons_succ, List.getElem?_cons_zero]; rfl)
    case hq175 => exact fun _ _ _ h => h
    case hy175 => (refine Or.inl ⟨by rfl, ?_⟩; intro ww hSw; (try dsimp only at hSw); go_simp; try with_reducible rfl)
    try simp only [Act.put, List.setIfInBounds_toArray, List.set_cons_zero, List.set_cons_succ]
    refine' wpAnyH_take (i := 31) (oi := _) (v := _) ?hi176 (by kernel_rfl) (by kernel_rfl) (by kernel_rfl) ?hq176 ?hy176 hHeld ?rest176
    case hi176 => (simp only [List.getElem?_toArray, List.getElem?_cons_succ, List.getElem?_cons_zero]; rfl)
    case hq176 => exact fun _ _ _ h => h
    case hy176 => (refine Or.inl ⟨by rfl, ?_⟩; intro ww hSw; (try dsimp only at hSw); go_simp; try with_reducible rfl)
    try simp only [Act.put, List.setIfInBounds_toArray, List.set_cons_zero, List.set_cons_succ]
    refine' wpAnyH_take (i := 33) (oi := _) (v := _) ?hi177 (by kernel_rfl) (by kernel_rfl) (by kernel_rfl) ?hq177 ?hy177 hHeld ?rest177
    case hi177 => (simp only [List.getElem?_toArray, List.getElem?_cons_succ, List.getElem?_cons_zero]; rfl)
    case hq177 => exact fun _ _ _ h => h
    case hy177 => (refine Or.inl ⟨by rfl, ?_⟩; intro ww hSw; (try dsimp only at hSw); go_simp; try with_reducible rfl)
    try simp only [Act.put, List.setIfInBounds_toArray, List.set_cons_zero, List.set_cons_succ]
    refine' wpAnyH_take (i := 34) (oi := _) (v := _) ?hi178 (by kernel_rfl) (by kernel_rfl) (by kernel_rfl) ?hq178 ?hy178 hHeld ?rest178
    case hi178 => (simp only [List.getElem?_toArray, List.getElem?_cons_succ, List.getElem?_cons_zero]; rfl)
    case hq178 => exact fun _ _ _ h => h
    case hy178 => (refine Or.inl ⟨by rfl, ?_⟩; intro ww hSw; (try dsimp only at hSw); go_simp; try with_reducible rfl)
    try simp only [Act.put, List.setIfInBounds_toArray, List.set_cons_zero, List.set_cons_succ]
    refine' wpAnyH_ready (rs := [32]) (by kernel_rfl) (by simp) ?_
    refine' AllReadyH.cons (o := _) ?hi179 (fun K hK => ?st179) AllReadyH.nil
    case hi179 => (simp only [List.getElem?_toArray, List.getElem?_cons_succ, List.getElem?_cons_zero]; rfl)
    go_simp
    (go_at_call 28; refine (contains_is _ l d _ _ trivial (HR.out.below hHeld.2.2.2.2.2.2.2.2) HC2.out).mono ?_; rintro e wn ⟨rfl, hbn⟩)
    try go_wp2_with fail
    refine hK.out _ _ ?_ (fun hHeld => ?_)
    · exact ⟨cell_on hbn hHeld.1, cell_on hbn hHeld.2.1, cell_on hbn hHeld.2.2.1, cell_on hbn hHeld.2.2.2.1, cell_on hbn hHeld.2.2.2.2.1, cell_on hbn hHeld.2.2.2.2.2.1, cell_on hbn hHeld.2.2.2.2.2.2.1, cell_on hbn hHeld.2.2.2.2.2.2.2.1, tr hHeld.2.2.2.2.2.2.2.2 hbn⟩
    clear hK K
    try simp only [Act.put, List.setIfInBounds_toArray, List.set_cons_zero, List.set_cons_succ]
    refine' wpAnyH_ready (rs := [35]) (by kernel_rfl) (by simp) ?_
    refine' AllReadyH.cons (o := _) ?hi180 (fun K hK => ?st180) AllReadyH.nil
    case hi180 => (simp only [List.getElem?_toArray, List.getElem?_cons_succ, List.getElem?_cons_zero]; rfl)
    go_simp
    (go_at_call 13; refine (Contains_is a0 a1 d _ _ trivial H2.out).mono ?_; rintro e wn ⟨rfl, hbn⟩)
    try go_wp2_with fail
    refine hK.out _ _ ?_ (fun hHeld => ?_)
    · exact ⟨cell_on hbn hHeld.1, cell_on hbn hHeld.2.1, cell_on hbn hHeld.2.2.1, cell_on hbn hHeld.2.2.2.1, cell_on hbn hHeld.2.2.2.2.1, cell_on hbn hHeld.2.2.2.2.2.1, cell_on hbn hHeld.2.2.2.2.2.2.1, cell_on hbn hHeld.2.2.2.2.2.2.2.1, tr hHeld.2.2.2.2.2.2.2.2 hbn⟩
    clear hK K
    try simp only [Act.put, List.setIfInBounds_toArray, List.set_cons_zero, List.set_cons_succ]
    refine' wpAnyH_take (i := 36) (oi := _) (v := _) ?hi181 (by kernel_rfl) (by kernel_rfl) (by kernel_rfl) ?hq181 ?hy181 hHeld ?rest181
    case hi181 => (simp only [List.getElem?_toArray, List.getElem?_cons_succ, List.getElem?_cons_zero]; rfl)
    case hq181 => exact fun _ _ _ h => h
    case hy181 => (refine Or.inl ⟨by rfl, ?_⟩; intro ww hSw; (try dsimp only at hSw); go_simp; try with_reducible rfl)
    try simp only [Act.put, List.setIfInBounds_toArray, List.set_cons_zero, List.set_cons_succ]
    refine' wpAnyH_take (i := 37) (oi := _) (v := undef) ?hi182 (by kernel_rfl) (by kernel_rfl) (by kernel_rfl) ?hq182 ?hy182 hHeld ?rest182
    case hi182 => (simp only [List.getElem?_toArray, List.getElem?_cons_succ, List.getElem?_cons_zero]; rfl)
    case hq182 => exact fun _ _ _ h => h
    case hy182 => exact Or.inr ⟨by rfl, rfl⟩
    try simp only [Act.put, List.setIfInBounds_toArray, List.set_cons_zero, List.set_cons_succ]
    refine' wpAnyH_take (i := 38) (oi := _) (v := undef) ?hi183 (by kernel_rfl) (by kernel_rfl) (by kernel_rfl) ?hq183 ?hy183 hHeld ?rest183
    case hi183 => (simp only [List.getElem?_toArray, List.getElem?_cons_succ, List.getElem?_cons_zero]; rfl)
    case hq183 => exact fun _ _ _ h => h
    case hy183 => exact Or.inr ⟨by rfl, rfl⟩
    try simp only [Act.put, List.setIfInBounds_toArray, List.set_cons_zero, List.set_cons_succ]
    refine' wpAnyH_take (i := 39) (oi := _) (v := undef) ?hi184 (by kernel_rfl) (by kernel_rfl) (by kernel_rfl) ?hq184 ?hy184 hHeld ?rest184
    case hi184 => (simp only [List.getElem?_toArray, List.getElem?_cons_succ, List.getElem?_cons_zero]; rfl)
    case hq184 => exact fun _ _ _ h => h
    case hy184 => exact Or.inr ⟨by rfl, rfl⟩
    try simp only [Act.put, List.setIfInBounds_toArray, List.set_cons_zero, List.set_cons_succ]
    refine' wpAnyH_take (i := 40) (oi := _) (v := undef) ?hi185 (by kernel_rfl) (by kernel_rfl) (by kernel_rfl) ?hq185 ?hy185 hHeld ?rest185
    case hi185 => (simp only [List.getElem?_toArray, List.getElem?_cons_succ, List.getElem?_cons_zero]; rfl)
    case hq185 => exact fun _ _ _ h => h
    case hy185 => exact Or.inr ⟨by rfl, rfl⟩
    try simp only [Act.put, List.setIfInBounds_toArray, List.set_cons_zero, List.set_cons_succ]
    refine' wpAnyH_take (i := 41) (oi := _) (v := _) ?hi186 (by kernel_rfl) (by kernel_rfl) (by kernel_rfl) ?hq186 ?hy186 hHeld ?rest186
    case hi186 => (simp only [List.getElem?_toArray, List.getElem?_cons_succ, List.getElem?_cons_zero]; rfl)
    case hq186 => exact fun _ _ _ h => h
    case hy186 => (refine Or.inl ⟨by rfl, ?_⟩; intro ww hSw; (try dsimp only at hSw); go_simp; try with_reducible rfl)
    try simp only [Act.put, List.setIfInBounds_toArray, List.set_cons_zero, List.set_cons_succ]
    refine' wpAnyH_take (i := 42) (oi := _) (v := _) ?hi187 (by kernel_rfl) (by kernel_rfl) (by kernel_rfl) ?hq187 ?hy187 hHeld ?rest187
    case hi187 => (simp only [List.getElem?_toArray, List.getElem?_cons_succ, List.getElem?_cons_zero]; rfl)
    case hq187 => exact fun _ _ _ h => h
    case hy187 => (refine Or.inl ⟨by rfl, ?_⟩; intro ww hSw; (try dsimp only at hSw); go_simp; try with_reducible rfl)
    try simp only [Act.put, List.setIfInBounds_toArray, List.set_cons_zero, List.set_cons_succ]
    refine' wpAnyH_take (i := 43) (oi := _) (v := _) ?hi188 (by kernel_rfl) (by kernel_rfl) (by kernel_rfl) ?hq188 ?hy188 hHeld ?rest188
    case hi188 => (simp only [List.getElem?_toArray, List.getElem?_cons_succ, List.getElem?_cons_zero]; rfl)
    case hq188 => exact fun _ _ _ h => h
    case hy188 => (refine Or.inl ⟨by rfl, ?_⟩; intro ww hSw; (try dsimp only at hSw); go_simp; try with_reducible rfl)
    try simp only [Act.put, List.setIfInBounds_toArray, List.set_cons_zero, List.set_cons_succ]
    refine' wpAnyH_take (i := 44) (oi := _) (v := _) ?hi189 (by kernel_rfl) (by kernel_rfl) (by kernel_rfl) ?hq189 ?hy189 hHeld ?rest189
    case hi189 => (simp only [List.getElem?_toArray, List.getElem?_cons_succ, List.getElem?_cons_zero]; rfl)
    case hq189 => exact fun _ _ _ h => h
    case hy189 => (refine Or.inl ⟨by rfl, ?_⟩; intro ww hSw; (try dsimp only at hSw); go_simp; try with_reducible rfl)
    try simp only [Act.put, List.setIfInBounds_toArray, List.set_cons_zero, List.set_cons_succ]
    refine' wpAnyH_ready (rs := [45]) (by kernel_rfl) (by simp) ?_
    refine' AllReadyH.cons (o := _) ?hi190 (fun K hK => ?st190) AllReadyH.nil
    case hi190 => (simp only [List.getElem?_toArray, List.getElem?_cons_succ, List.getElem?_cons_zero]; rfl)
    go_simp
    (go_at_call 18; refine (awake_is _ trivial).mono ?_; rintro e wn ⟨rfl, hbn⟩)
    try go_wp2_with fail
    refine hK.out _ _ ?_ (fun hHeld => ?_)
    · exact ⟨cell_on hbn hHeld.1, cell_on hbn hHeld.2.1, cell_on hbn hHeld.2.2.1, cell_on hbn hHeld.2.2.2.1, cell_on hbn hHeld.2.2.2.2.1, cell_on hbn hHeld.2.2.2.2.2.1, cell_on hbn hHeld.2.2.2.2.2.2.1, cell_on hbn hHeld.2.2.2.2.2.2.2.1, tr hHeld.2.2.2.2.2.2.2.2 hbn⟩
    clear hK K
    try simp only [Act.put, List.setIfInBounds_toArray, List.set_cons_zero, List.set_cons_succ]
    refine' wpAnyH_take (i := 46) (oi := _) (v := _) ?hi191 (by kernel_rfl) (by kernel_rfl) (by kernel_rfl) ?hq191 ?hy191 hHeld ?rest191
    case hi191 => (simp only [List.getElem?_toArray, List.getElem?_cons_succ, List.getElem?_cons_zero]; rfl)
    case hq191 => exact fun _ _ _ h => h
    case hy191 => (refine Or.inl ⟨by rfl, ?_⟩; intro ww hSw; (try dsimp only at hSw); go_simp; try with_reducible rfl)
    try simp only [Act.put, List.setIfInBounds_toArray, List.set_cons_zero, List.set_cons_succ]
    refine' wpAnyH_take (i := 47) (oi := _) (v := _) ?hi192 (by kernel_rfl) (by kernel_rfl) (by kernel_rfl) ?hq192 ?hy192 hHeld ?rest192
    case hi192 => (simp only [List.getElem?_toArray, List.getElem?_cons_succ, List.getElem?_cons_zero]; rfl)
    case hq192 => exact fun _ _ _ h => h
    case hy192 => (refine Or.inl ⟨by rfl, ?_⟩; intro ww hSw; (try dsimp only at hSw); go_simp; try with_reducible rfl)
    try simp only [Act.put, List.setIfInBounds_toArray, List.set_cons_zero, List.set_cons_succ]
    refine wpAnyH_done (by kernel_rfl) ?_ _
    have hbl := hHeld.2.2.2.2.2.2.2.2
    have HBL := Lib.hid (tr BB.out hbl)
    clear hbl hHeld
    go_wp2_with fail
    go_ret
    exact ⟨rfl, HBL.out⟩
  case false.true =>
    obtain rfl : s = false := by simpa using hin
    have hc := HC.out
    simp only [Bool.not_true, Bool.not_false, Bool.and_true, Bool.and_false, Bool.false_and, Bool.true_and] at hc
    have HC2 := Lib.hid hc
    clear hin hc HC
    go_enter Try.func7, Try.ntmps7
    go_wp2_with (first
      | (go_at_call 9; (with_reducible refine (Intersect_is a0 a1 b0 b1 c0 c1 _ _ ?_ H1.out).mono ?_); (exact trivial); rintro e w1 ⟨rfl, hb1⟩; have k0 := cell_on hb1 (b := w.heap.size) (o := 0) (v := .int .i64 a0) (by simp [go_sem]); have k1 := cell_on hb1 (b := w.heap.size) (o := 1) (v := .int .i64 a1) (by simp [go_sem]); have k2 := cell_on hb1 (b := w.heap.size + 1) (o := 0) (v := .int .i64 b0) (by simp [go_sem]); have k3 := cell_on hb1 (b := w.heap.size + 1) (o := 1) (v := .int .i64 b1) (by simp [go_sem]); have lz0 := World.block_lt_of_cell? _ _ k0; have lz1 := World.block_lt_of_cell? _ _ k2; simp only at lz0 lz1; have B1 := Lib.hid (tr (al (al (Below.refl _ w) _) _) hb1))
      | (go_at_call 9; (with_reducible refine (Intersect_is b0 b1 a0 a1 c0 c1 _ _ ?_ H1'.out).mono ?_); (exact trivial); rintro e w2 ⟨rfl, hb2⟩; have m0 := cell_on hb2 (cell_al _ k0); have m1 := cell_on hb2 (cell_al _ k1); have m2 := cell_on hb2 (cell_al _ k2); have m3 := cell_on hb2 (cell_al _ k3); have m4 := cell_on hb2 (b := w1.heap.size) (o := 0) (v := .int .i64 c0) (by simp [go_sem]); have m5 := cell_on hb2 (b := w1.heap.size) (o := 1) (v := .int .i64 c1) (by simp [go_sem]); have B2 := Lib.hid (tr (al B1.out _) hb2); have n0 := cell_al (.cells #[.int .i64 c0, .int .i64 c1] 23) m0; have n1 := cell_al (.cells #[.int .i64 c0, .int .i64 c1] 23) m1; have n2 := cell_al (.cells #[.int .i64 c0, .int .i64 c1] 23) m2; have n3 := cell_al (.cells #[.int .i64 c0, .int .i64 c1] 23) m3; have n4 := cell_al (.cells #[.int .i64 c0, .int .i64 c1] 23) m4; have n5 := cell_al (.cells #[.int .i64 c0, .int .i64 c1] 23) m5)
      | (go_at_call 16; (with_reducible refine (Subtract_is a0 a1 b0 b1 l _ ?_ H4.out).mono ?_); (exact trivial); rintro e w3 ⟨v3, rfl, hr3, hb3⟩; obtain ⟨LA, LC, rfl⟩ := hr3.form0; have o0 := cell_on hb3 n0; have o1 := cell_on hb3 n1; have o2 := cell_on hb3 n2; have o3 := cell_on hb3 n3; have o4 := cell_on hb3 n4; have o5 := cell_on hb3 n5; have o6 := cell_on hb3 (b := w2.heap.size) (o := 0) (v := .int .i64 c0) (by simp [go_sem]); have o7 := cell_on hb3 (b := w2.heap.size) (o := 1) (v := .int .i64 c1) (by simp [go_sem]); have BB := Lib.hid (tr (al B2.out _) hb3); have CC := Lib.hid (Below.refl w3.heap.size w3); have HR := Lib.hid hr3; rw [HM.out] at hr3 HR ⊢; clear hr3)
      | (go_at_call 13; (with_reducible refine (Contains_is c0 c1 d _ _ ?_ H5.out).mono ?_); (exact trivial); rintro e w4 ⟨rfl, hb4⟩; replace o0 := cell_on hb4 o0; replace o1 := cell_on hb4 o1; replace o2 := cell_on hb4 o2; replace o3 := cell_on hb4 o3; replace o4 := cell_on hb4 o4; replace o5 := cell_on hb4 o5; replace o6 := cell_on hb4 o6; replace o7 := cell_on hb4 o7; have CC := Lib.hid (tr CC.out hb4))
      | fail)
    refine wp_region_held_drew (S := (fun w' => w'.cell? ⟨w.heap.size, 0, none⟩ = some (.int .i64 a0) ∧ w'.cell? ⟨w.heap.size, 1, none⟩ = some (.int .i64 a1) ∧ w'.cell? ⟨w.heap.size + 1, 0, none⟩ = some (.int .i64 b0) ∧ w'.cell? ⟨w.heap.size + 1, 1, none⟩ = some (.int .i64 b1) ∧ w'.cell? ⟨w1.heap.size, 0, none⟩ = some (.int .i64 c0) ∧ w'.cell? ⟨w1.heap.size, 1, none⟩ = some (.int .i64 c1) ∧ w'.cell? ⟨w2.heap.size, 0, none⟩ = some (.int .i64 c0) ∧ w'.cell? ⟨w2.heap.size, 1, none⟩ = some (.int .i64 c1) ∧ Below w3.heap.size w3 w')) (by kernel_rfl) ?_ (fun hHeld => ?_)
    · exact ⟨o0, o1, o2, o3, o4, o5, o6, o7, below_drewN CC.out 1⟩
    refine' wpAnyH_take (i := 0) (oi := _) (v := _) ?hi193 (by kernel_rfl) (by kernel_rfl) (by kernel_rfl) ?hq193 ?hy193 hHeld ?rest193
    case hi193 => (simp only [List.getElem?_toArray, List.getElem?_cons_succ, List.getElem?_cons_zero]; rfl)
    case hq193 => exact fun _ _ _ h => h
    case hy193 => (refine Or.inl ⟨by rfl, ?_⟩; intro ww hSw; (try dsimp only at hSw); go_simp; try with_reducible rfl)
    try simp only [Act.put, List.setIfInBounds_toArray, List.set_cons_zero, List.set_cons_succ]
    refine' wpAnyH_take (i := 1) (oi := _) (v := _) ?hi194 (by kernel_rfl) (by kernel_rfl) (by kernel_rfl) ?hq194 ?hy194 hHeld ?rest194
    case hi194 => (simp only [List.getElem?_toArray, List.getElem?_cons_succ, List.getElem?_cons_zero]; rfl)
    case hq194 => exact fun _ _ _ h => h
    case hy194 => (refine Or.inl ⟨by rfl, ?_⟩; intro ww hSw; (try dsimp only at hSw); go_simp; try with_reducible rfl)
    try simp only [Act.put, List.setIfInBounds_toArray, List.set_cons_zero, List.set_cons_succ]
    refine' wpAnyH_take (i := 2) (oi := _) (v := _) ?hi195 (by kernel_rfl) (by kernel_rfl) (by kernel_rfl) ?hq195 ?hy195 hHeld ?rest195
    case hi195 => (simp only [List.getElem?_toArray, List.getElem?_cons_succ, List.getElem?_cons_zero]; rfl)
    case hq195 => exact fun _ _ _ h => h
    case hy195 => (refine Or.inl ⟨by rfl, ?_⟩; intro ww hSw; (try dsimp only at hSw); go_simp; try with_reducible rfl)
    try simp only [Act.put, List.setIfInBounds_toArray, List.set_cons_zero, List.set_cons_succ]
    refine' wpAnyH_take (i := 3) (oi := _) (v := _) ?hi196 (by kernel_rfl) (by kernel_rfl) (by kernel_rfl) ?hq196 ?hy196 hHeld ?rest196
    case hi196 => (simp only [List.getElem?_toArray, List.getElem?_cons_succ, List.getElem?_cons_zero]; rfl)
    case hq196 => exact fun _ _ _ h => h
    case hy196 => (refine Or.inl ⟨by rfl, ?_⟩; intro ww hSw; (try dsimp only at hSw); go_simp; try with_reducible rfl)
    try simp only [Act.put, List.setIfInBounds_toArray, List.set_cons_zero, List.set_cons_succ]
    refine' wpAnyH_take (i := 4) (oi := _) (v := _) ?hi197 (by kernel_rfl) (by kernel_rfl) (by kernel_rfl) ?hq197 ?hy197 hHeld ?rest197
    case hi197 => (simp only [List.getElem?_toArray, List.getElem?_cons_succ, List.getElem?_cons_zero]; rfl)
    case hq197 => exact fun _ _ _ h => h
    case hy197 => (refine Or.inl ⟨by rfl, ?_⟩; intro ww hSw; (try dsimp only at hSw); go_simp; try with_reducible rfl)
    try simp only [Act.put, List.setIfInBounds_toArray, List.set_cons_zero, List.set_cons_succ]
    refine' wpAnyH_take (i := 5) (oi := _) (v := _) ?hi198 (by kernel_rfl) (by kernel_rfl) (by kernel_rfl) ?hq198 ?hy198 hHeld ?rest198
    case hi198 => (simp only [List.getElem?_toArray, List.getElem?_cons_succ, List.getElem?_cons_zero]; rfl)
    case hq198 => exact fun _ _ _ h => h
    case hy198 => (refine Or.inl ⟨by rfl, ?_⟩; intro ww hSw; (try dsimp only at hSw); go_simp; try with_reducible rfl)
    try simp only [Act.put, List.setIfInBounds_toArray, List.set_cons_zero, List.set_cons_succ]
    refine' wpAnyH_take (i := 6) (oi := _) (v := _) ?hi199 (by kernel_rfl) (by kernel_rfl) (by kernel_rfl) ?hq199 ?hy199 hHeld ?rest199
    case hi199 => (simp only [List.getElem?_toArray, List.getElem?_cons_succ, List.getElem?_cons_zero]; rfl)
    case hq199 => exact fun _ _ _ h => h
    case hy199 => (refine Or.inl ⟨by rfl, ?_⟩; intro ww hSw; (try dsimp only at hSw); go_simp; try with_reducible rfl)
    try simp only [Act.put, List.setIfInBounds_toArray, List.set_cons_zero, List.set_cons_succ]
    refine' wpAnyH_take (i := 7) (oi := _) (v := _) ?hi200 (by kernel_rfl) (by kernel_rfl) (by kernel_rfl) ?hq200 ?hy200 hHeld ?rest200
    case hi200 => (simp only [List.getElem?_toArray, List.getElem?_cons_succ, List.getElem?_cons_zero]; rfl)
    case hq200 => exact fun _ _ _ h => h
    case hy200 => (refine Or.inl ⟨by rfl, ?_⟩; intro ww hSw; (try dsimp only at hSw); go_simp; try with_reducible rfl)
    try simp only [Act.put, List.setIfInBounds_toArray, List.set_cons_zero, List.set_cons_succ]
    refine' wpAnyH_take (i := 8) (oi := _) (v := _) ?hi201 (by kernel_rfl) (by kernel_rfl) (by kernel_rfl) ?hq201 ?hy201 hHeld ?rest201
    case hi201 => (simp only [List.getElem?_toArray, List.getElem?_cons_succ, List.getElem?_cons_zero]; rfl)
    case hq201 => exact fun _ _ _ h => h
    case hy201 => (refine Or.inl ⟨by rfl, ?_⟩; intro ww hSw; (try dsimp only at hSw); go_simp; try with_reducible rfl)
    try simp only [Act.put, List.setIfInBounds_toArray, List.set_cons_zero, List.set_cons_succ]
    refine' wpAnyH_take (i := 9) (oi := _) (v := _) ?hi202 (by kernel_rfl) (by kernel_rfl) (by kernel_rfl) ?hq202 ?hy202 hHeld ?rest202
    case hi202 => (simp only [List.getElem?_toArray, List.getElem?_cons_succ, List.getElem?_cons_zero]; rfl)
    case hq202 => exact fun _ _ _ h => h
    case hy202 => (refine Or.inl ⟨by rfl, ?_⟩; intro ww hSw; (try dsimp only at hSw); go_simp; try with_reducible rfl)
    try simp only [Act.put, List.setIfInBounds_toArray, List.set_cons_zero, List.set_cons_succ]
    refine' wpAnyH_ready (rs := [10]) (by kernel_rfl) (by simp) ?_
    refine' AllReadyH.cons (o := _) ?hi203 (fun K hK => ?st203) AllReadyH.nil
    case hi203 => (simp only [List.getElem?_toArray, List.getElem?_cons_succ, List.getElem?_cons_zero]; rfl)
    go_simp
    (go_at_call 27; refine (normal_is _ l _ (HR.out.below hHeld.2.2.2.2.2.2.2.2) HNm.out).mono ?_; rintro e wn ⟨rfl, hbn⟩)
    try go_wp2_with fail
    refine hK.out _ _ ?_ (fun hHeld => ?_)
    · exact ⟨cell_on hbn hHeld.1, cell_on hbn hHeld.2.1, cell_on hbn hHeld.2.2.1, cell_on hbn hHeld.2.2.2.1, cell_on hbn hHeld.2.2.2.2.1, cell_on hbn hHeld.2.2.2.2.2.1, cell_on hbn hHeld.2.2.2.2.2.2.1, cell_on hbn hHeld.2.2.2.2.2.2.2.1, tr hHeld.2.2.2.2.2.2.2.2 hbn⟩
    clear hK K
    try simp only [Act.put, List.setIfInBounds_toArray, List.set_cons_zero, List.set_cons_succ]
    refine' wpAnyH_take (i := 11) (oi := _) (v := _) ?hi204 (by kernel_rfl) (by kernel_rfl) (by kernel_rfl) ?hq204 ?hy204 hHeld ?rest204
    case hi204 => (simp only [List.getElem?_toArray, List.getElem?_cons_succ, List.getElem?_cons_zero]; rfl)
    case hq204 => exact fun _ _ _ h => h
    case hy204 => (refine Or.inl ⟨by rfl, ?_⟩; intro ww hSw; (try dsimp only at hSw); go_simp; try with_reducible rfl)
    try simp only [Act.put, List.setIfInBounds_toArray, List.set_cons_zero, List.set_cons_succ]
    refine' wpAnyH_take (i := 12) (oi := _) (v := _) ?hi205 (by kernel_rfl) (by kernel_rfl) (by kernel_rfl) ?hq205 ?hy205 hHeld ?rest205
    case hi205 => (simp only [List.getElem?_toArray, List.getElem?_cons_succ, List.getElem?_cons_zero]; rfl)
    case hq205 => exact fun _ _ _ h => h
    case hy205 => (refine Or.inl ⟨by rfl, ?_⟩; intro ww hSw; (try dsimp only at hSw); go_simp; try with_reducible rfl)
    try simp only [Act.put, List.setIfInBounds_toArray, List.set_cons_zero, List.set_cons_succ]
    refine' wpAnyH_take (i := 13) (oi := _) (v := _) ?hi206 (by kernel_rfl) (by kernel_rfl) (by kernel_rfl) ?hq206 ?hy206 hHeld ?rest206
    case hi206 => (simp only [List.getElem?_toArray, List.getElem?_cons_succ, List.getElem?_cons_zero]; rfl)
    case hq206 => exact fun _ _ _ h => h
    case hy206 => (refine Or.inl ⟨by rfl, ?_⟩; intro ww hSw; (try dsimp only at hSw); go_simp; try with_reducible rfl)
    try simp only [Act.put, List.setIfInBounds_toArray, List.set_cons_zero, List.set_cons_succ]
    refine' wpAnyH_take (i := 14) (oi := _) (v := _) ?hi207 (by kernel_rfl) (by kernel_rfl) (by kernel_rfl) ?hq207 ?hy207 hHeld ?rest207
    case hi207 => (simp only [List.getElem?_toArray, List.getElem?_cons_succ, List.getElem?_cons_zero]; rfl)
    case hq207 => exact fun _ _ _ h => h
    case hy207 => (refine Or.inl ⟨by rfl, ?_⟩; intro ww hSw; (try dsimp only at hSw); go_simp; try with_reducible rfl)
    try simp only [Act.put, List.setIfInBounds_toArray, List.set_cons_zero, List.set_cons_succ]
    refine' wpAnyH_take (i := 15) (oi := _) (v := _) ?hi208 (by kernel_rfl) (by kernel_rfl) (by kernel_rfl) ?hq208 ?hy208 hHeld ?rest208
    case hi208 => (simp only [List.getElem?_toArray, List.getElem?_cons_succ, List.getElem?_cons_zero]; rfl)
    case hq208 => exact fun _ _ _ h => h
    case hy208 => (refine Or.inl ⟨by rfl, ?_⟩; intro ww hSw; (try dsimp only at hSw); go_simp; try with_reducible rfl)
    try simp only [Act.put, List.setIfInBounds_toArray, List.set_cons_zero, List.set_cons_succ]
    refine' wpAnyH_take (i := 16) (oi := _) (v := _) ?hi209 (by kernel_rfl) (by kernel_rfl) (by kernel_rfl) ?hq209 ?hy209 hHeld ?rest209
    case hi209 => (simp only [List.getElem?_toArray, List.getElem?_cons_succ, List.getElem?_cons_zero]; rfl)
    case hq209 => exact fun _ _ _ h => h
    case hy209 => (refine Or.inl ⟨by rfl, ?_⟩; intro ww hSw; (try dsimp only at hSw); go_simp; try with_reducible rfl)
    try simp only [Act.put, List.setIfInBounds_toArray, List.set_cons_zero, List.set_cons_succ]
    refine' wpAnyH_take (i := 17) (oi := _) (v := _) ?hi210 (by kernel_rfl) (by kernel_rfl) (by kernel_rfl) ?hq210 ?hy210 hHeld ?rest210
    case hi210 => (simp only [List.getElem?_toArray, List.getElem?_cons_succ, List.getElem?_cons_zero]; rfl)
    case hq210 => exact fun _ _ _ h => h
    case hy210 => (refine Or.inl ⟨by rfl, ?_⟩; intro ww hSw; (try dsimp only at hSw); go_simp; try with_reducible rfl)
    try simp only [Act.put, List.setIfInBounds_toArray, List.set_cons_zero, List.set_cons_succ]
    refine' wpAnyH_take (i := 18) (oi := _) (v := _) ?hi211 (by kernel_rfl) (by kernel_rfl) (by kernel_rfl) ?hq211 ?hy211 hHeld ?rest211
    case hi211 => (simp only [List.getElem?_toArray, List.getElem?_cons_succ, List.getElem?_cons_zero]; rfl)
    case hq211 => exact fun _ _ _ h => h
    case hy211 => (refine Or.inl ⟨by rfl, ?_⟩; intro ww hSw; (try dsimp only at hSw); go_simp; try with_reducible rfl)
    try simp only [Act.put, List.setIfInBounds_toArray, List.set_cons_zero, List.set_cons_succ]
    refine' wpAnyH_take (i := 19) (oi := _) (v := _) ?hi212 (by kernel_rfl) (by kernel_rfl) (by kernel_rfl) ?hq212 ?hy212 hHeld ?rest212
    case hi212 => (simp only [List.getElem?_toArray, List.getElem?_cons_succ, List.getElem?_cons_zero]; rfl)
    case hq212 => exact fun _ _ _ h => h
    case hy212 => (refine Or.inl ⟨by rfl, ?_⟩; intro ww hSw; (try dsimp only at hSw); go_simp; try with_reducible rfl)
    try simp only [Act.put, List.setIfInBounds_toArray, List.set_cons_zero, List.set_cons_succ]
    refine' wpAnyH_take (i := 20) (oi := _) (v := _) ?hi213 (by kernel_rfl) (by kernel_rfl) (by kernel_rfl) ?hq213 ?hy213 hHeld ?rest213
    case hi213 => (simp only [List.getElem?_toArray, List.getElem?_cons_succ, List.getElem?_cons_zero]; rfl)
    case hq213 => exact fun _ _ _ h => h
    case hy213 => (refine Or.inl ⟨by rfl, ?_⟩; intro ww hSw; (try dsimp only at hSw); go_simp; try with_reducible rfl)
    try simp only [Act.put, List.setIfInBounds_toArray, List.set_cons_zero, List.set_cons_succ]
    refine' wpAnyH_ready (rs := [21]) (by kernel_rfl) (by simp) ?_
    refine' AllReadyH.cons (o := _) ?hi214 (fun K hK => ?st214) AllReadyH.nil
    case hi214 => (simp only [List.getElem?_toArray, List.getElem?_cons_succ, List.getElem?_cons_zero]; rfl)
    go_simp
    (go_at_call 13; refine (Contains_is a0 a1 d _ _ trivial H2.out).mono ?_; rintro e wn ⟨rfl, hbn⟩)
    try go_wp2_with fail
    refine hK.out _ _ ?_ (fun hHeld => ?_)
    · exact ⟨cell_on hbn hHeld.1, cell_on hbn hHeld.2.1, cell_on hbn hHeld.2.2.1, cell_on hbn hHeld.2.2.2.1, cell_on hbn hHeld.2.2.2.2.1, cell_on hbn hHeld.2.2.2.2.2.1, cell_on hbn hHeld.2.2.2.2.2.2.1, cell_on hbn hHeld.2.2.2.2.2.2.2.1, tr hHeld.2.2.2.2.2.2.2.2 hbn⟩
    clear hK K
    try simp only [Act.put, List.setIfInBounds_toArray, List.set_cons_zero, List.set_cons_succ]
    refine' wpAnyH_take (i := 22) (oi := _) (v := _) ?hi215 (by kernel_rfl) (by kernel_rfl) (by kernel_rfl) ?hq215 ?hy215 hHeld ?rest215
    case hi215 => (simp only [List.getElem?_toArray, List.getElem?_cons_succ, List.getElem?_cons_zero]; rfl)
    case hq215 => exact fun _ _ _ h => h
    case hy215 => (refine Or.inl ⟨by rfl, ?_⟩; intro ww hSw; (try dsimp only at hSw); go_simp; try with_reducible rfl)
    try simp only [Act.put, List.setIfInBounds_toArray, List.set_cons_zero, List.set_cons_succ]
    refine' wpAnyH_take (i := 23) (oi := _) (v := undef) ?hi216 (by kernel_rfl) (by kernel_rfl) (by kernel_rfl) ?hq216 ?hy216 hHeld ?rest216
    case hi216 => (simp only [List.getElem?_toArray, List.getElem?_cons_succ, List.getElem?_cons_zero]; rfl)
    case hq216 => exact fun _ _ _ h => h
    case hy216 => exact Or.inr ⟨by rfl, rfl⟩
    try simp only [Act.put, List.setIfInBounds_toArray, List.set_cons_zero, List.set_cons_succ]
    refine' wpAnyH_take (i := 24) (oi := _) (v := undef) ?hi217 (by kernel_rfl) (by kernel_rfl) (by kernel_rfl) ?hq217 ?hy217 hHeld ?rest217
    case hi217 => (simp only [List.getElem?_toArray, List.getElem?_cons_succ, List.getElem?_cons_zero]; rfl)
    case hq217 => exact fun _ _ _ h => h
    case hy217 => exact Or.inr ⟨by rfl, rfl⟩
    try simp only [Act.put, List.setIfInBounds_toArray, List.set_cons_zero, List.set_cons_succ]
    refine' wpAnyH_take (i := 25) (oi := _) (v := undef) ?hi218 (by kernel_rfl) (by kernel_rfl) (by kernel_rfl) ?hq218 ?hy218 hHeld ?rest218
    case hi218 => (simp only [List.getElem?_toArray, List.getElem?_cons_succ, List.getElem?_cons_zero]; rfl)
    case hq218 => exact fun _ _ _ h => h
    case hy218 => exact Or.inr ⟨by rfl, rfl⟩
    try simp only [Act.put, List.setIfInBounds_toArray, List.set_cons_zero, List.set_cons_succ]
    refine' wpAnyH_take (i := 26) (oi := _) (v := _) ?hi219 (by kernel_rfl) (by kernel_rfl) (by kernel_rfl) ?hq219 ?hy219 hHeld ?rest219
    case hi219 => (simp only [List.getElem?_toArray, List.getElem?_cons_succ, List.getElem?_cons_zero]; rfl)
    case hq219 => exact fun _ _ _ h => h
    case hy219 => (refine Or.inl ⟨by rfl, ?_⟩; intro ww hSw; (try dsimp only at hSw); go_simp; try with_reducible rfl)
    try simp only [Act.put, List.setIfInBounds_toArray, List.set_cons_zero, List.set_cons_succ]
    refine' wpAnyH_take (i := 27) (oi := _) (v := _) ?hi220 (by kernel_rfl) (by kernel_rfl) (by kernel_rfl) ?hq220 ?hy220 hHeld ?rest220
    case hi220 => (simp only [List.getElem?_toArray, List.getElem?_cons_succ, List.getElem?_cons_zero]; rfl)
    case hq220 => exact fun _ _ _ h => h
    case hy220 => (refine Or.inl ⟨by rfl, ?_⟩; intro ww hSw; (try dsimp only at hSw); go_simp; try with_reducible rfl)
    try simp only [Act.put, List.setIfInBounds_toArray, List.set_cons_zero, List.set_cons_succ]
    refine' wpAnyH_take (i := 28) (oi := _) (v := _) ?hi221 (by kernel_rfl) (by kernel_rfl) (by kernel_rfl) ?hq221 ?hy221 hHeld ?rest221
    case hi221 => (simp only [List.getElem?_toArray, List.getElem?_cons_succ, List.getElem?_cons_zero]; rfl)
    case hq221 => exact fun _ _ _ h => h
    case hy221 => (refine Or.inl ⟨by rfl, ?_⟩; intro ww hSw; (try dsimp only at hSw); go_simp; try with_reducible rfl)
    try simp only [Act.put, List.setIfInBounds_toArray, List.set_cons_zero, List.set_cons_succ]
    refine' wpAnyH_take (i := 29) (oi := _) (v := _) ?hi222 (by kernel_rfl) (by kernel_rfl) (by kernel_rfl) ?hq222 ?hy222 hHeld ?rest222
    case hi222 => (simp only [List.getElem?_toArray, List.getElem?_cons_succ, List.getElem?_cons_zero]; rfl)
    case hq222 => exact fun _ _ _ h => h
    case hy222 => (refine Or.inl ⟨by rfl, ?_⟩; intro ww hSw; (try dsimp only at hSw); go_simp; try with_reducible rfl)
    try simp only [Act.put, List.setIfInBounds_toArray, List.set_cons_zero, List.set_cons_succ]
    refine' wpAnyH_take (i := 30) (oi := _) (v := _) ?hi223 (by kernel_rfl) (by kernel_rfl) (by kernel_rfl) ?hq223 ?hy223 hHeld ?rest223
    case hi223 => (simp only [List.getElem?_toArray, List.getElem?_cons_succ, List.getElem?_cons_zero]; rfl)
    case hq223 => exact fun _ _ _ h => h
    case hy223 => (refine Or.inl ⟨by rfl, ?_⟩; intro ww hSw; (try dsimp only at hSw); go_simp; try with_reducible rfl)
    try simp only [Act.put, List.setIfInBounds_toArray, List.set_cons_zero, List.set_cons_succ]
    refine' wpAnyH_take (i := 31) (oi := _) (v := _) ?hi224 (by kernel_rfl) (by kernel_rfl) (by kernel_rfl) ?hq224 ?hy224 hHeld ?rest224
    case hi224 => (simp only [List.getElem?_toArray, List.getElem?_cons_succ, List.getElem?_cons_zero]; rfl)
    case hq224 => exact fun _ _ _ h => h
    case hy224 => (refine Or.inl ⟨by rfl, ?_⟩; intro ww hSw; (try dsimp only at hSw); go_simp; try with_reducible rfl)
    try simp only [Act.put, List.setIfInBounds_toArray, List.set_cons_zero, List.set_cons_succ]
    refine' wpAnyH_take (i := 33) (oi := _) (v := _) ?hi225 (by kernel_rfl) (by kernel_rfl) (by kernel_rfl) ?hq225 ?hy225 hHeld ?rest225
    case hi225 => (simp only [List.getElem?_toArray, List.getElem?_cons_succ, List.getElem?_cons_zero]; rfl)
    case hq225 => exact fun _ _ _ h => h
    case hy225 => (refine Or.inl ⟨by rfl, ?_⟩; intro ww hSw; (try dsimp only at hSw); go_simp; try with_reducible rfl)
    try simp only [Act.put, List.setIfInBounds_toArray, List.set_cons_zero, List.set_cons_succ]
    refine' wpAnyH_take (i := 34) (oi := _) (v := _) ?hi226 (by kernel_rfl) (by kernel_rfl) (by kernel_rfl) ?hq226 ?hy226 hHeld ?rest226
    case hi226 => (simp only [List.getElem?_toArray, List.getElem?_cons_succ, List.getElem?_cons_zero]; rfl)
    case hq226 => exact fun _ _ _ h => h
    case hy226 => (refine Or.inl ⟨by rfl, ?_⟩; intro ww hSw; (try dsimp only at hSw); go_simp; try with_reducible rfl)
    try simp only [Act.put, List.setIfInBounds_toArray, List.set_cons_zero, List.set_cons_succ]
    refine' wpAnyH_ready (rs := [32]) (by kernel_rfl) (by simp) ?_
    refine' AllReadyH.cons (o := _) ?hi227 (fun K hK => ?st227) AllReadyH.nil
    case hi227 => (simp only [List.getElem?_toArray, List.getElem?_cons_succ, List.getElem?_cons_zero]; rfl)
    go_simp
    (go_at_call 28; refine (contains_is _ l d _ _ trivial (HR.out.below hHeld.2.2.2.2.2.2.2.2) HC2.out).mono ?_; rintro e wn ⟨rfl, hbn⟩)
    try go_wp2_with fail
    refine hK.out _ _ ?_ (fun hHeld => ?_)
    · exact ⟨cell_on hbn hHeld.1, cell_on hbn hHeld.2.1, cell_on hbn hHeld.2.2.1, cell_on hbn hHeld.2.2.2.1, cell_on hbn hHeld.2.2.2.2.1, cell_on hbn hHeld.2.2.2.2.2.1, cell_on hbn hHeld.2.2.2.2.2.2.1, cell_on hbn hHeld.2.2.2.2.2.2.2.1, tr hHeld.2.2.2.2.2.2.2.2 hbn⟩
    clear hK K
    try simp only [Act.put, List.setIfInBounds_toArray, List.set_cons_zero, List.set_cons_succ]
    refine' wpAnyH_ready (rs := [35]) (by kernel_rfl) (by simp) ?_
    refine' AllReadyH.cons (o := _) ?hi228 (fun K hK => ?st228) AllReadyH.nil
    case hi228 => (simp only [List.getElem?_toArray, List.getElem?_cons_succ, List.getElem?_cons_zero]; rfl)
    go_simp
    (go_at_call 13; refine (Contains_is a0 a1 d _ _ trivial H2.out).mono ?_; rintro e wn ⟨rfl, hbn⟩)
    try go_wp2_with fail
    refine hK.out _ _ ?_ (fun hHeld => ?_)
    · exact ⟨cell_on hbn hHeld.1, cell_on hbn hHeld.2.1, cell_on hbn hHeld.2.2.1, cell_on hbn hHeld.2.2.2.1, cell_on hbn hHeld.2.2.2.2.1, cell_on hbn hHeld.2.2.2.2.2.1, cell_on hbn hHeld.2.2.2.2.2.2.1, cell_on hbn hHeld.2.2.2.2.2.2.2.1, tr hHeld.2.2.2.2.2.2.2.2 hbn⟩
    clear hK K
    try simp only [Act.put, List.setIfInBounds_toArray, List.set_cons_zero, List.set_cons_succ]
    refine' wpAnyH_take (i := 36) (oi := _) (v := _) ?hi229 (by kernel_rfl) (by kernel_rfl) (by kernel_rfl) ?hq229 ?hy229 hHeld ?rest229
    case hi229 => (simp only [List.getElem?_toArray, List.getElem?_cons_succ, List.getElem?_cons_zero]; rfl)
    case hq229 => exact fun _ _ _ h => h
    case hy229 => (refine Or.inl ⟨by rfl, ?_⟩; intro ww hSw; (try dsimp only at hSw); go_simp; try with_reducible rfl)
    try simp only [Act.put, List.setIfInBounds_toArray, List.set_cons_zero, List.set_cons_succ]
    refine' wpAnyH_take (i := 37) (oi := _) (v := undef) ?hi230 (by kernel_rfl) (by kernel_rfl) (by kernel_rfl) ?hq230 ?hy230 hHeld ?rest230
    case hi230 => (simp only [List.getElem?_toArray, List.getElem?_cons_succ, List.getElem?_cons_zero]; rfl)
    case hq230 => exact fun _ _ _ h => h
    case hy230 => exact Or.inr ⟨by rfl, rfl⟩
    try simp only [Act.put, List.setIfInBounds_toArray, List.set_cons_zero, List.set_cons_succ]
    refine' wpAnyH_take (i := 38) (oi := _) (v := undef) ?hi231 (by kernel_rfl) (by kernel_rfl) (by kernel_rfl) ?hq231 ?hy231 hHeld ?rest231
    case hi231 => (simp only [List.getElem?_toArray, List.getElem?_cons_succ, List.getElem?_cons_zero]; rfl)
    case hq231 => exact fun _ _ _ h => h
    case hy231 => exact Or.inr ⟨by rfl, rfl⟩
    try simp only [Act.put, List.setIfInBounds_toArray, List.set_cons_zero, List.set_cons_succ]
    refine' wpAnyH_take (i := 39) (oi := _) (v := undef) ?hi232 (by kernel_rfl) (by kernel_rfl) (by kernel_rfl) ?hq232 ?hy232 hHeld ?rest232
    case hi232 => (simp only [List.getElem?_toArray, List.getElem?_cons_succ, List.getElem?_cons_zero]; rfl)
    case hq232 => exact fun _ _ _ h => h
    case hy232 => exact Or.inr ⟨by rfl, rfl⟩
    try simp only [Act.put, List.setIfInBounds_toArray, List.set_cons_zero, List.set_cons_succ]
    refine' wpAnyH_take (i := 40) (oi := _) (v := undef) ?hi233 (by kernel_rfl) (by kernel_rfl) (by kernel_rfl) ?hq233 ?hy233 hHeld ?rest233
    case hi233 => (simp only [List.getElem?_toArray, List.getElem?_cons_succ, List.getElem?_cons_zero]; rfl)
    case hq233 => exact fun _ _ _ h => h
    case hy233 => exact Or.inr ⟨by rfl, rfl⟩
    try simp only [Act.put, List.setIfInBounds_toArray, List.set_cons_zero, List.set_cons_succ]
    refine' wpAnyH_take (i := 41) (oi := _) (v := _) ?hi234 (by kernel_rfl) (by kernel_rfl) (by kernel_rfl) ?hq234 ?hy234 hHeld ?rest234
    case hi234 => (simp only [List.getElem?_toArray, List.getElem?_cons_succ, List.getElem?_cons_zero]; rfl)
    case hq234 => exact fun _ _ _ h => h
    case hy234 => (refine Or.inl ⟨by rfl, ?_⟩; intro ww hSw; (try dsimp only at hSw); go_simp; try with_reducible rfl)
    try simp only [Act.put, List.setIfInBounds_toArray, List.set_cons_zero, List.set_cons_succ]
    refine' wpAnyH_take (i := 42) (oi := _) (v := _) ?hi235 (by kernel_rfl) (by kernel_rfl) (by kernel_rfl) ?hq235 ?hy235 hHeld ?rest235
    case hi235 => (simp only [List.getElem?_toArray, List.getElem?_cons_succ, List.getElem?_cons_zero]; rfl)
    case hq235 => exact fun _ _ _ h => h
    case hy235 => (refine Or.inl ⟨by rfl, ?_⟩; intro ww hSw; (try dsimp only at hSw); go_simp; try with_reducible rfl)
    try simp only [Act.put, List.setIfInBounds_toArray, List.set_cons_zero, List.set_cons_succ]
    refine' wpAnyH_take (i := 43) (oi := _) (v := _) ?hi236 (by kernel_rfl) (by kernel_rfl) (by kernel_rfl) ?hq236 ?hy236 hHeld ?rest236
    case hi236 => (simp only [List.getElem?_toArray, List.getElem?_cons_succ, List.getElem?_cons_zero]; rfl)
    case hq236 => exact fun _ _ _ h => h
    case hy236 => (refine Or.inl ⟨by rfl, ?_⟩; intro ww hSw; (try dsimp only at hSw); go_simp; try with_reducible rfl)
    try simp only [Act.put, List.setIfInBounds_toArray, List.set_cons_zero, List.set_cons_succ]
    refine' wpAnyH_take (i := 44) (oi := _) (v := _) ?hi237 (by kernel_rfl) (by kernel_rfl) (by kernel_rfl) ?hq237 ?hy237 hHeld ?rest237
    case hi237 => (simp only [List.getElem?_toArray, List.getElem?_cons_succ, List.getElem?_cons_zero]; rfl)
    case hq237 => exact fun _ _ _ h => h
    case hy237 => (refine Or.inl ⟨by rfl, ?_⟩; intro ww hSw; (try dsimp only at hSw); go_simp; try with_reducible rfl)
    try simp only [Act.put, List.setIfInBounds_toArray, List.set_cons_zero, List.set_cons_succ]
    refine' wpAnyH_ready (rs := [45]) (by kernel_rfl) (by simp) ?_
    refine' AllReadyH.cons (o := _) ?hi238 (fun K hK => ?st238) AllReadyH.nil
    case hi238 => (simp only [List.getElem?_toArray, List.getElem?_cons_succ, List.getElem?_cons_zero]; rfl)
    go_simp
    (go_at_call 18; refine (awake_is _ trivial).mono ?_; rintro e wn ⟨rfl, hbn⟩)
    try go_wp2_with fail
    refine hK.out _ _ ?_ (fun hHeld => ?_)
    · exact ⟨cell_on hbn hHeld.1, cell_on hbn hHeld.2.1, cell_on hbn hHeld.2.2.1, cell_on hbn hHeld.2.2.2.1, cell_on hbn hHeld.2.2.2.2.1, cell_on hbn hHeld.2.2.2.2.2.1, cell_on hbn hHeld.2.2.2.2.2.2.1, cell_on hbn hHeld.2.2.2.2.2.2.2.1, tr hHeld.2.2.2.2.2.2.2.2 hbn⟩
    clear hK K
    try simp only [Act.put, List.setIfInBounds_toArray, List.set_cons_zero, List.set_cons_succ]
    refine' wpAnyH_take (i := 46) (oi := _) (v := _) ?hi239 (by kernel_rfl) (by kernel_rfl) (by kernel_rfl) ?hq239 ?hy239 hHeld ?rest239
    case hi239 => (simp only [List.getElem?_toArray, List.getElem?_cons_succ, List.getElem?_cons_zero]; rfl)
    case hq239 => exact fun _ _ _ h => h
    case hy239 => (refine Or.inl ⟨by rfl, ?_⟩; intro ww hSw; (try dsimp only at hSw); go_simp; try with_reducible rfl)
    try simp only [Act.put, List.setIfInBounds_toArray, List.set_cons_zero, List.set_cons_succ]
    refine' wpAnyH_take (i := 47) (oi := _) (v := _) ?hi240 (by kernel_rfl) (by kernel_rfl) (by kernel_rfl) ?hq240 ?hy240 hHeld ?rest240
    case hi240 => (simp only [List.getElem?_toArray, List.getElem?_cons_succ, List.getElem?_cons_zero]; rfl)
    case hq240 => exact fun _ _ _ h => h
    case hy240 => (refine Or.inl ⟨by rfl, ?_⟩; intro ww hSw; (try dsimp only at hSw); go_simp; try with_reducible rfl)
    try simp only [Act.put, List.setIfInBounds_toArray, List.set_cons_zero, List.set_cons_succ]
    refine wpAnyH_done (by kernel_rfl) ?_ _
    have hbl := hHeld.2.2.2.2.2.2.2.2
    have HBL := Lib.hid (tr BB.out hbl)
    clear hbl hHeld
    go_wp2_with fail
    go_ret
    exact ⟨rfl, HBL.out⟩
  case true.false =>
    have hc := HC.out
    simp only [Bool.not_true, Bool.not_false, Bool.and_true, Bool.and_false, Bool.false_and, Bool.true_and] at hc
    have HC2 := Lib.hid hc
    clear hin hc HC
    go_enter Try.func7, Try.ntmps7
    go_wp2_with (first
      | (go_at_call 9; (with_reducible refine (Intersect_is a0 a1 b0 b1 c0 c1 _ _ ?_ H1.out).mono ?_); (exact trivial); rintro e w1 ⟨rfl, hb1⟩; have k0 := cell_on hb1 (b := w.heap.size) (o := 0) (v := .int .i64 a0) (by simp [go_sem]); have k1 := cell_on hb1 (b := w.heap.size) (o := 1) (v := .int .i64 a1) (by simp [go_sem]); have k2 := cell_on hb1 (b := w.heap.size + 1) (o := 0) (v := .int .i64 b0) (by simp [go_sem]); have k3 := cell_on hb1 (b := w.heap.size + 1) (o := 1) (v := .int .i64 b1) (by simp [go_sem]); have lz0 := World.block_lt_of_cell? _ _ k0; have lz1 := World.block_lt_of_cell? _ _ k2; simp only at lz0 lz1; have B1 := Lib.hid (tr (al (al (Below.refl _ w) _) _) hb1))
      | (go_at_call 9; (with_reducible refine (Intersect_is b0 b1 a0 a1 c0 c1 _ _ ?_ H1'.out).mono ?_); (exact trivial); rintro e w2 ⟨rfl, hb2⟩; have m0 := cell_on hb2 (cell_al _ k0); have m1 := cell_on hb2 (cell_al _ k1); have m2 := cell_on hb2 (cell_al _ k2); have m3 := cell_on hb2 (cell_al _ k3); have m4 := cell_on hb2 (b := w1.heap.size) (o := 0) (v := .int .i64 c0) (by simp [go_sem]); have m5 := cell_on hb2 (b := w1.heap.size) (o := 1) (v := .int .i64 c1) (by simp [go_sem]); have B2 := Lib.hid (tr (al B1.out _) hb2); have n0 := cell_al (.cells #[.int .i64 c0, .int .i64 c1] 23) m0; have n1 := cell_al (.cells #[.int .i64 c0, .int .i64 c1] 23) m1; have n2 := cell_al (.cells #[.int .i64 c0, .int .i64 c1] 23) m2; have n3 := cell_al (.cells #[.int .i64 c0, .int .i64 c1] 23) m3; have n4 := cell_al (.cells #[.int .i64 c0, .int .i64 c1] 23) m4; have n5 := cell_al (.cells #[.int .i64 c0, .int .i64 c1] 23) m5)
      | (go_at_call 16; (with_reducible refine (Subtract_is a0 a1 b0 b1 l _ ?_ H4.out).mono ?_); (exact trivial); rintro e w3 ⟨v3, rfl, hr3, hb3⟩; obtain ⟨LA, LC, rfl⟩ := hr3.form0; have o0 := cell_on hb3 n0; have o1 := cell_on hb3 n1; have o2 := cell_on hb3 n2; have o3 := cell_on hb3 n3; have o4 := cell_on hb3 n4; have o5 := cell_on hb3 n5; have o6 := cell_on hb3 (b := w2.heap.size) (o := 0) (v := .int .i64 c0) (by simp [go_sem]); have o7 := cell_on hb3 (b := w2.heap.size) (o := 1) (v := .int .i64 c1) (by simp [go_sem]); have BB := Lib.hid (tr (al B2.out _) hb3); have CC := Lib.hid (Below.refl w3.heap.size w3); have HR := Lib.hid hr3; rw [HM.out] at hr3 HR ⊢; clear hr3)
      | (go_at_call 13; (with_reducible refine (Contains_is c0 c1 d _ _ ?_ H5.out).mono ?_); (exact trivial); rintro e w4 ⟨rfl, hb4⟩; replace o0 := cell_on hb4 o0; replace o1 := cell_on hb4 o1; replace o2 := cell_on hb4 o2; replace o3 := cell_on hb4 o3; replace o4 := cell_on hb4 o4; replace o5 := cell_on hb4 o5; replace o6 := cell_on hb4 o6; replace o7 := cell_on hb4 o7; have CC := Lib.hid (tr CC.out hb4))
      | fail)
    refine wp_region_held_drew (S := (fun w' => w'.cell? ⟨w.heap.size, 0, none⟩ = some (.int .i64 a0) ∧ w'.cell? ⟨w.heap.size, 1, none⟩ = some (.int .i64 a1) ∧ w'.cell? ⟨w.heap.size + 1, 0, none⟩ = some (.int .i64 b0) ∧ w'.cell? ⟨w.heap.size + 1, 1, none⟩ = some (.int .i64 b1) ∧ w'.cell? ⟨w1.heap.size, 0, none⟩ = some (.int .i64 c0) ∧ w'.cell? ⟨w1.heap.size, 1, none⟩ = some (.int .i64 c1) ∧ w'.cell? ⟨w2.heap.size, 0, none⟩ = some (.int .i64 c0) ∧ w'.cell? ⟨w2.heap.size, 1, none⟩ = some (.int .i64 c1) ∧ Below w3.heap.size w3 w')) (by kernel_rfl) ?_ (fun hHeld => ?_)
    · exact ⟨o0, o1, o2, o3, o4, o5, o6, o7, below_drewN CC.out 1⟩
    refine' wpAnyH_take (i := 0) (oi := _) (v := _) ?hi241 (by kernel_rfl) (by kernel_rfl) (by kernel_rfl) ?hq241 ?hy241 hHeld ?rest241
    case hi241 => (simp only [List.getElem?_toArray, List.getElem?_cons_succ, List.getElem?_cons_zero]; rfl)
    case hq241 => exact fun _ _ _ h => h
    case hy241 => (refine Or.inl ⟨by rfl, ?_⟩; intro ww hSw; (try dsimp only at hSw); go_simp; try with_reducible rfl)
    try simp only [Act.put, List.setIfInBounds_toArray, List.set_cons_zero, List.set_cons_succ]
    refine' wpAnyH_take (i := 1) (oi := _) (v := _) ?hi242 (by kernel_rfl) (by kernel_rfl) (by kernel_rfl) ?hq242 ?hy242 hHeld ?rest242
    case hi242 => (simp only [List.getElem?_toArray, List.getElem?_cons_succ, List.getElem?_cons_zero]; rfl)
    case hq242 => exact fun _ _ _ h => h
    case hy242 => (refine Or.inl ⟨by rfl, ?_⟩; intro ww hSw; (try dsimp only at hSw); go_simp; try with_reducible rfl)
    try simp only [Act.put, List.setIfInBounds_toArray, List.set_cons_zero, List.set_cons_succ]
    refine' wpAnyH_take (i := 2) (oi := _) (v := _) ?hi243 (by kernel_rfl) (by kernel_rfl) (by kernel_rfl) ?hq243 ?hy243 hHeld ?rest243
    case hi243 => (simp only [List.getElem?_toArray, List.getElem?_cons_succ, List.getElem?_cons_zero]; rfl)
    case hq243 => exact fun _ _ _ h => h
    case hy243 => (refine Or.inl ⟨by rfl, ?_⟩; intro ww hSw; (try dsimp only at hSw); go_simp; try with_reducible rfl)
    try simp only [Act.put, List.setIfInBounds_toArray, List.set_cons_zero, List.set_cons_succ]
    refine' wpAnyH_take (i := 3) (oi := _) (v := _) ?hi244 (by kernel_rfl) (by kernel_rfl) (by kernel_rfl) ?hq244 ?hy244 hHeld ?rest244
    case hi244 => (simp only [List.getElem?_toArray, List.getElem?_cons_succ, List.getElem?_cons_zero]; rfl)
    case hq244 => exact fun _ _ _ h => h
    case hy244 => (refine Or.inl ⟨by rfl, ?_⟩; intro ww hSw; (try dsimp only at hSw); go_simp; try with_reducible rfl)
    try simp only [Act.put, List.setIfInBounds_toArray, List.set_cons_zero, List.set_cons_succ]
    refine' wpAnyH_take (i := 4) (oi := _) (v := _) ?hi245 (by kernel_rfl) (by kernel_rfl) (by kernel_rfl) ?hq245 ?hy245 hHeld ?rest245
    case hi245 => (simp only [List.getElem?_toArray, List.getElem?_cons_succ, List.getElem?_cons_zero]; rfl)
    case hq245 => exact fun _ _ _ h => h
    case hy245 => (refine Or.inl ⟨by rfl, ?_⟩; intro ww hSw; (try dsimp only at hSw); go_simp; try with_reducible rfl)
    try simp only [Act.put, List.setIfInBounds_toArray, List.set_cons_zero, List.set_cons_succ]
    refine' wpAnyH_take (i := 5) (oi := _) (v := _) ?hi246 (by kernel_rfl) (by kernel_rfl) (by kernel_rfl) ?hq246 ?hy246 hHeld ?rest246
    case hi246 => (simp only [List.getElem?_toArray, List.getElem?_cons_succ, List.getElem?_cons_zero]; rfl)
    case hq246 => exact fun _ _ _ h => h
    case hy246 => (refine Or.inl ⟨by rfl, ?_⟩; intro ww hSw; (try dsimp only at hSw); go_simp; try with_reducible rfl)
    try simp only [Act.put, List.setIfInBounds_toArray, List.set_cons_zero, List.set_cons_succ]
    refine' wpAnyH_take (i := 6) (oi := _) (v := _) ?hi247 (by kernel_rfl) (by kernel_rfl) (by kernel_rfl) ?hq247 ?hy247 hHeld ?rest247
    case hi247 => (simp only [List.getElem?_toArray, List.getElem?_cons_succ, List.getElem?_cons_zero]; rfl)
    case hq247 => exact fun _ _ _ h => h
    case hy247 => (refine Or.inl ⟨by rfl, ?_⟩; intro ww hSw; (try dsimp only at hSw); go_simp; try with_reducible rfl)
    try simp only [Act.put, List.setIfInBounds_toArray, List.set_cons_zero, List.set_cons_succ]
    refine' wpAnyH_take (i := 7) (oi := _) (v := _) ?hi248 (by kernel_rfl) (by kernel_rfl) (by kernel_rfl) ?hq248 ?hy248 hHeld ?rest248
    case hi248 => (simp only [List.getElem?_toArray, List.getElem?_cons_succ, List.getElem?_cons_zero]; rfl)
    case hq248 => exact fun _ _ _ h => h
    case hy248 => (refine Or.inl ⟨by rfl, ?_⟩; intro ww hSw; (try dsimp only at hSw); go_simp; try with_reducible rfl)
    try simp only [Act.put, List.setIfInBounds_toArray, List.set_cons_zero, List.set_cons_succ]
    refine' wpAnyH_take (i := 8) (oi := _) (v := _) ?hi249 (by kernel_rfl) (by kernel_rfl) (by kernel_rfl) ?hq249 ?hy249 hHeld ?rest249
    case hi249 => (simp only [List.getElem?_toArray, List.getElem?_cons_succ, List.getElem?_cons_zero]; rfl)
    case hq249 => exact fun _ _ _ h => h
    case hy249 => (refine Or.inl ⟨by rfl, ?_⟩; intro ww hSw; (try dsimp only at hSw); go_simp; try with_reducible rfl)
    try simp only [Act.put, List.setIfInBounds_toArray, List.set_cons_zero, List.set_cons_succ]
    refine' wpAnyH_take (i := 9) (oi := _) (v := _) ?hi250 (by kernel_rfl) (by kernel_rfl) (by kernel_rfl) ?hq250 ?hy250 hHeld ?rest250
    case hi250 => (simp only [List.getElem?_toArray, List.getElem?_cons_succ, List.getElem?_cons_zero]; rfl)
    case hq250 => exact fun _ _ _ h => h
    case hy250 => (refine Or.inl ⟨by rfl, ?_⟩; intro ww hSw; (try dsimp only at hSw); go_simp; try with_reducible rfl)
    try simp only [Act.put, List.setIfInBounds_toArray, List.set_cons_zero, List.set_cons_succ]
    refine' wpAnyH_ready (rs := [10]) (by kernel_rfl) (by simp) ?_
    refine' AllReadyH.cons (o := _) ?hi251 (fun K hK => ?st251) AllReadyH.nil
    case hi251 => (simp only [List.getElem?_toArray, List.getElem?_cons_succ, List.getElem?_cons_zero]; rfl)
    go_simp
    (go_at_call 27; refine (normal_is _ l _ (HR.out.below hHeld.2.2.2.2.2.2.2.2) HNm.out).mono ?_; rintro e wn ⟨rfl, hbn⟩)
    try go_wp2_with fail
    refine hK.out _ _ ?_ (fun hHeld => ?_)
    · exact ⟨cell_on hbn hHeld.1, cell_on hbn hHeld.2.1, cell_on hbn hHeld.2.2.1, cell_on hbn hHeld.2.2.2.1, cell_on hbn hHeld.2.2.2.2.1, cell_on hbn hHeld.2.2.2.2.2.1, cell_on hbn hHeld.2.2.2.2.2.2.1, cell_on hbn hHeld.2.2.2.2.2.2.2.1, tr hHeld.2.2.2.2.2.2.2.2 hbn⟩
    clear hK K
    try simp only [Act.put, List.setIfInBounds_toArray, List.set_cons_zero, List.set_cons_succ]
    refine' wpAnyH_take (i := 11) (oi := _) (v := _) ?hi252 (by kernel_rfl) (by kernel_rfl) (by kernel_rfl) ?hq252 ?hy252 hHeld ?rest252
    case hi252 => (simp only [List.getElem?_toArray, List.getElem?_cons_succ, List.getElem?_cons_zero]; rfl)
    case hq252 => exact fun _ _ _ h => h
    case hy252 => (refine Or.inl ⟨by rfl, ?_⟩; intro ww hSw; (try dsimp only at hSw); go_simp; try with_reducible rfl)
    try simp only [Act.put, List.setIfInBounds_toArray, List.set_cons_zero, List.set_cons_succ]
    refine' wpAnyH_take (i := 12) (oi := _) (v := _) ?hi253 (by kernel_rfl) (by kernel_rfl) (by kernel_rfl) ?hq253 ?hy253 hHeld ?rest253
    case hi253 => (simp only [List.getElem?_toArray, List.getElem?_cons_succ, List.getElem?_cons_zero]; rfl)
    case hq253 => exact fun _ _ _ h => h
    case hy253 => (refine Or.inl ⟨by rfl, ?_⟩; intro ww hSw; (try dsimp only at hSw); go_simp; try with_reducible rfl)
    try simp only [Act.put, List.setIfInBounds_toArray, List.set_cons_zero, List.set_cons_succ]
    refine' wpAnyH_take (i := 13) (oi := _) (v := _) ?hi254 (by kernel_rfl) (by kernel_rfl) (by kernel_rfl) ?hq254 ?hy254 hHeld ?rest254
    case hi254 => (simp only [List.getElem?_toArray, List.getElem?_cons_succ, List.getElem?_cons_zero]; rfl)
    case hq254 => exact fun _ _ _ h => h
    case hy254 => (refine Or.inl ⟨by rfl, ?_⟩; intro ww hSw; (try dsimp only at hSw); go_simp; try with_reducible rfl)
    try simp only [Act.put, List.setIfInBounds_toArray, List.set_cons_zero, List.set_cons_succ]
    refine' wpAnyH_take (i := 14) (oi := _) (v := _) ?hi255 (by kernel_rfl) (by kernel_rfl) (by kernel_rfl) ?hq255 ?hy255 hHeld ?rest255
    case hi255 => (simp only [List.getElem?_toArray, List.getElem?_cons_succ, List.getElem?_cons_zero]; rfl)
    case hq255 => exact fun _ _ _ h => h
    case hy255 => (refine Or.inl ⟨by rfl, ?_⟩; intro ww hSw; (try dsimp only at hSw); go_simp; try with_reducible rfl)
    try simp only [Act.put, List.setIfInBounds_toArray, List.set_cons_zero, List.set_cons_succ]
    refine' wpAnyH_take (i := 15) (oi := _) (v := _) ?hi256 (by kernel_rfl) (by kernel_rfl) (by kernel_rfl) ?hq256 ?hy256 hHeld ?rest256
    case hi256 => (simp only [List.getElem?_toArray, List.getElem?_cons_succ, List.getElem?_cons_zero]; rfl)
    case hq256 => exact fun _ _ _ h => h
    case hy256 => (refine Or.inl ⟨by rfl, ?_⟩; intro ww hSw; (try dsimp only at hSw); go_simp; try with_reducible rfl)
    try simp only [Act.put, List.setIfInBounds_toArray, List.set_cons_zero, List.set_cons_succ]
    refine' wpAnyH_take (i := 16) (oi := _) (v := _) ?hi257 (by kernel_rfl) (by kernel_rfl) (by kernel_rfl) ?hq257 ?hy257 hHeld ?rest257
    case hi257 => (simp only [List.getElem?_toArray, List.getElem?_cons_succ, List.getElem?_cons_zero]; rfl)
    case hq257 => exact fun _ _ _ h => h
    case hy257 => (refine Or.inl ⟨by rfl, ?_⟩; intro ww hSw; (try dsimp only at hSw); go_simp; try with_reducible rfl)
    try simp only [Act.put, List.setIfInBounds_toArray, List.set_cons_zero, List.set_cons_succ]
    refine' wpAnyH_take (i := 17) (oi := _) (v := _) ?hi258 (by kernel_rfl) (by kernel_rfl) (by kernel_rfl) ?hq258 ?hy258 hHeld ?rest258
    case hi258 => (simp only [List.getElem?_toArray, List.getElem?_cons_succ, List.getElem?_cons_zero]; rfl)
    case hq258 => exact fun _ _ _ h => h
    case hy258 => (refine Or.inl ⟨by rfl, ?_⟩; intro ww hSw; (try dsimp only at hSw); go_simp; try with_reducible rfl)
    try simp only [Act.put, List.setIfInBounds_toArray, List.set_cons_zero, List.set_cons_succ]
    refine' wpAnyH_take (i := 18) (oi := _) (v := _) ?hi259 (by kernel_rfl) (by kernel_rfl) (by kernel_rfl) ?hq259 ?hy259 hHeld ?rest259
    case hi259 => (simp only [List.getElem?_toArray, List.getElem?_cons_succ, List.getElem?_cons_zero]; rfl)
    case hq259 => exact fun _ _ _ h => h
    case hy259 => (refine Or.inl ⟨by rfl, ?_⟩; intro ww hSw; (try dsimp only at hSw); go_simp; try with_reducible rfl)
    try simp only [Act.put, List.setIfInBounds_toArray, List.set_cons_zero, List.set_cons_succ]
    refine' wpAnyH_take (i := 19) (oi := _) (v := _) ?hi260 (by kernel_rfl) (by kernel_rfl) (by kernel_rfl) ?hq260 ?hy260 hHeld ?rest260
    case hi260 => (simp only [List.getElem?_toArray, List.getElem?_cons_succ, List.getElem?_cons_zero]; rfl)
    case hq260 => exact fun _ _ _ h => h
    case hy260 => (refine Or.inl ⟨by rfl, ?_⟩; intro ww hSw; (try dsimp only at hSw); go_simp; try with_reducible rfl)
    try simp only [Act.put, List.setIfInBounds_toArray, List.set_cons_zero, List.set_cons_succ]
    refine' wpAnyH_take (i := 20) (oi := _) (v := _) ?hi261 (by kernel_rfl) (by kernel_rfl) (by kernel_rfl) ?hq261 ?hy261 hHeld ?rest261
    case hi261 => (simp only [List.getElem?_toArray, List.getElem?_cons_succ, List.getElem?_cons_zero]; rfl)
    case hq261 => exact fun _ _ _ h => h
    case hy261 => (refine Or.inl ⟨by rfl, ?_⟩; intro ww hSw; (try dsimp only at hSw); go_simp; try with_reducible rfl)
    try simp only [Act.put, List.setIfInBounds_toArray, List.set_cons_zero, List.set_cons_succ]
    refine' wpAnyH_ready (rs := [21]) (by kernel_rfl) (by simp) ?_
    refine' AllReadyH.cons (o := _) ?hi262 (fun K hK => ?st262) AllReadyH.nil
    case hi262 => (simp only [List.getElem?_toArray, List.getElem?_cons_succ, List.getElem?_cons_zero]; rfl)
    go_simp
    (go_at_call 13; refine (Contains_is a0 a1 d _ _ trivial H2.out).mono ?_; rintro e wn ⟨rfl, hbn⟩)
    try go_wp2_with fail
    refine hK.out _ _ ?_ (fun hHeld => ?_)
    · exact ⟨cell_on hbn hHeld.1, cell_on hbn hHeld.2.1, cell_on hbn hHeld.2.2.1, cell_on hbn hHeld.2.2.2.1, cell_on hbn hHeld.2.2.2.2.1, cell_on hbn hHeld.2.2.2.2.2.1, cell_on hbn hHeld.2.2.2.2.2.2.1, cell_on hbn hHeld.2.2.2.2.2.2.2.1, tr hHeld.2.2.2.2.2.2.2.2 hbn⟩
    clear hK K
    try simp only [Act.put, List.setIfInBounds_toArray, List.set_cons_zero, List.set_cons_succ]
    refine' wpAnyH_take (i := 22) (oi := _) (v := _) ?hi263 (by kernel_rfl) (by kernel_rfl) (by kernel_rfl) ?hq263 ?hy263 hHeld ?rest263
    case hi263 => (simp only [List.getElem?_toArray, List.getElem?_cons_succ, List.getElem?_cons_zero]; rfl)
    case hq263 => exact fun _ _ _ h => h
    case hy263 => (refine Or.inl ⟨by rfl, ?_⟩; intro ww hSw; (try dsimp only at hSw); go_simp; try with_reducible rfl)
    try simp only [Act.put, List.setIfInBounds_toArray, List.set_cons_zero, List.set_cons_succ]
    refine' wpAnyH_take (i := 23) (oi := _) (v := undef) ?hi264 (by kernel_rfl) (by kernel_rfl) (by kernel_rfl) ?hq264 ?hy264 hHeld ?rest264
    case hi264 => (simp only [List.getElem?_toArray, List.getElem?_cons_succ, List.getElem?_cons_zero]; rfl)
    case hq264 => exact fun _ _ _ h => h
    case hy264 => exact Or.inr ⟨by rfl, rfl⟩
    try simp only [Act.put, List.setIfInBounds_toArray, List.set_cons_zero, List.set_cons_succ]
    refine' wpAnyH_take (i := 24) (oi := _) (v := undef) ?hi265 (by kernel_rfl) (by kernel_rfl) (by kernel_rfl) ?hq265 ?hy265 hHeld ?rest265
    case hi265 => (simp only [List.getElem?_toArray, List.getElem?_cons_succ, List.getElem?_cons_zero]; rfl)
    case hq265 => exact fun _ _ _ h => h
    case hy265 => exact Or.inr ⟨by rfl, rfl⟩
    try simp only [Act.put, List.setIfInBounds_toArray, List.set_cons_zero, List.set_cons_succ]
    refine' wpAnyH_take (i := 25) (oi := _) (v := undef) ?hi266 (by kernel_rfl) (by kernel_rfl) (by kernel_rfl) ?hq266 ?hy266 hHeld ?rest266
    case hi266 => (simp only [List.getElem?_toArray, List.getElem?_cons_succ, List.getElem?_cons_zero]; rfl)
    case hq266 => exact fun _ _ _ h => h
    case hy266 => exact Or.inr ⟨by rfl, rfl⟩
    try simp only [Act.put, List.setIfInBounds_toArray, List.set_cons_zero, List.set_cons_succ]
    refine' wpAnyH_take (i := 26) (oi := _) (v := _) ?hi267 (by kernel_rfl) (by kernel_rfl) (by kernel_rfl) ?hq267 ?hy267 hHeld ?rest267
    case hi267 => (simp only [List.getElem?_toArray, List.getElem?_cons_succ, List.getElem?_cons_zero]; rfl)
    case hq267 => exact fun _ _ _ h => h
    case hy267 => (refine Or.inl ⟨by rfl, ?_⟩; intro ww hSw; (try dsimp only at hSw); go_simp; try with_reducible rfl)
    try simp only [Act.put, List.setIfInBounds_toArray, List.set_cons_zero, List.set_cons_succ]
    refine' wpAnyH_take (i := 27) (oi := _) (v := _) ?hi268 (by kernel_rfl) (by kernel_rfl) (by kernel_rfl) ?hq268 ?hy268 hHeld ?rest268
    case hi268 => (simp only [List.getElem?_toArray, List.getElem?_cons_succ, List.getElem?_cons_zero]; rfl)
    case hq268 => exact fun _ _ _ h => h
    case hy268 => (refine Or.inl ⟨by rfl, ?_⟩; intro ww hSw; (try dsimp only at hSw); go_simp; try with_reducible rfl)
    try simp only [Act.put, List.setIfInBounds_toArray, List.set_cons_zero, List.set_cons_succ]
    refine' wpAnyH_take (i := 28) (oi := _) (v := _) ?hi269 (by kernel_rfl) (by kernel_rfl) (by kernel_rfl) ?hq269 ?hy269 hHeld ?rest269
    case hi269 => (simp only [List.getElem?_toArray, List.getElem?_cons_succ, List.getElem?_cons_zero]; rfl)
    case hq269 => exact fun _ _ _ h => h
    case hy269 => (refine Or.inl ⟨by rfl, ?_⟩; intro ww hSw; (try dsimp only at hSw); go_simp; try with_reducible rfl)
    try simp only [Act.put, List.setIfInBounds_toArray, List.set_cons_zero, List.set_cons_succ]
    refine' wpAnyH_take (i := 29) (oi := _) (v := _) ?hi270 (by kernel_rfl) (by kernel_rfl) (by kernel_rfl) ?hq270 ?hy270 hHeld ?rest270
    case hi270 => (simp only [List.getElem?_toArray, List.getElem?_cons_succ, List.getElem?_cons_zero]; rfl)
    case hq270 => exact fun _ _ _ h => h
    case hy270 => (refine Or.inl ⟨by rfl, ?_⟩; intro ww hSw; (try dsimp only at hSw); go_simp; try with_reducible rfl)
    try simp only [Act.put, List.setIfInBounds_toArray, List.set_cons_zero, List.set_cons_succ]
    refine' wpAnyH_take (i := 30) (oi := _) (v := _) ?hi271 (by kernel_rfl) (by kernel_rfl) (by kernel_rfl) ?hq271 ?hy271 hHeld ?rest271
    case hi271 => (simp only [List.getElem?_toArray, List.getElem?_cons_succ, List.getElem?_cons_zero]; rfl)
    case hq271 => exact fun _ _ _ h => h
    case hy271 => (refine Or.inl ⟨by rfl, ?_⟩; intro ww hSw; (try dsimp only at hSw); go_simp; try with_reducible rfl)
    try simp only [Act.put, List.setIfInBounds_toArray, List.set_cons_zero, List.set_cons_succ]
    refine' wpAnyH_take (i := 31) (oi := _) (v := _) ?hi272 (by kernel_rfl) (by kernel_rfl) (by kernel_rfl) ?hq272 ?hy272 hHeld ?rest272
    case hi272 => (simp only [List.getElem?_toArray, List.getElem?_cons_succ, List.getElem?_cons_zero]; rfl)
    case hq272 => exact fun _ _ _ h => h
    case hy272 => (refine Or.inl ⟨by rfl, ?_⟩; intro ww hSw; (try dsimp only at hSw); go_simp; try with_reducible rfl)
    try simp only [Act.put, List.setIfInBounds_toArray, List.set_cons_zero, List.set_cons_succ]
    refine' wpAnyH_take (i := 33) (oi := _) (v := _) ?hi273 (by kernel_rfl) (by kernel_rfl) (by kernel_rfl) ?hq273 ?hy273 hHeld ?rest273
    case hi273 => (simp only [List.getElem?_toArray, List.getElem?_cons_succ, List.getElem?_cons_zero]; rfl)
    case hq273 => exact fun _ _ _ h => h
    case hy273 => (refine Or.inl ⟨by rfl, ?_⟩; intro ww hSw; (try dsimp only at hSw); go_simp; try with_reducible rfl)
    try simp only [Act.put, List.setIfInBounds_toArray, List.set_cons_zero, List.set_cons_succ]
    refine' wpAnyH_take (i := 34) (oi := _) (v := _) ?hi274 (by kernel_rfl) (by kernel_rfl) (by kernel_rfl) ?hq274 ?hy274 hHeld ?rest274
    case hi274 => (simp only [List.getElem?_toArray, List.getElem?_cons_succ, List.getElem?_cons_zero]; rfl)
    case hq274 => exact fun _ _ _ h => h
    case hy274 => (refine Or.inl ⟨by rfl, ?_⟩; intro ww hSw; (try dsimp only at hSw); go_simp; try with_reducible rfl)
    try simp only [Act.put, List.setIfInBounds_toArray, List.set_cons_zero, List.set_cons_succ]
    refine' wpAnyH_ready (rs := [32]) (by kernel_rfl) (by simp) ?_
    refine' AllReadyH.cons (o := _) ?hi275 (fun K hK => ?st275) AllReadyH.nil
    case hi275 => (simp only [List.getElem?_toArray, List.getElem?_cons_succ, List.getElem?_cons_zero]; rfl)
    go_simp
    (go_at_call 28; refine (contains_is _ l d _ _ trivial (HR.out.below hHeld.2.2.2.2.2.2.2.2) HC2.out).mono ?_; rintro e wn ⟨rfl, hbn⟩)
    try go_wp2_with fail
    refine hK.out _ _ ?_ (fun hHeld => ?_)
    · exact ⟨cell_on hbn hHeld.1, cell_on hbn hHeld.2.1, cell_on hbn hHeld.2.2.1, cell_on hbn hHeld.2.2.2.1, cell_on hbn hHeld.2.2.2.2.1, cell_on hbn hHeld.2.2.2.2.2.1, cell_on hbn hHeld.2.2.2.2.2.2.1, cell_on hbn hHeld.2.2.2.2.2.2.2.1, tr hHeld.2.2.2.2.2.2.2.2 hbn⟩
    clear hK K
    try simp only [Act.put, List.setIfInBounds_toArray, List.set_cons_zero, List.set_cons_succ]
    refine' wpAnyH_ready (rs := [35]) (by kernel_rfl) (by simp) ?_
    refine' AllReadyH.cons (o := _) ?hi276 (fun K hK => ?st276) AllReadyH.nil
    case hi276 => (simp only [List.getElem?_toArray, List.getElem?_cons_succ, List.getElem?_cons_zero]; rfl)
    go_simp
    (go_at_call 13; refine (Contains_is a0 a1 d _ _ trivial H2.out).mono ?_; rintro e wn ⟨rfl, hbn⟩)
    try go_wp2_with fail
    refine hK.out _ _ ?_ (fun hHeld => ?_)
    · exact ⟨cell_on hbn hHeld.1, cell_on hbn hHeld.2.1, cell_on hbn hHeld.2.2.1, cell_on hbn hHeld.2.2.2.1, cell_on hbn hHeld.2.2.2.2.1, cell_on hbn hHeld.2.2.2.2.2.1, cell_on hbn hHeld.2.2.2.2.2.2.1, cell_on hbn hHeld.2.2.2.2.2.2.2.1, tr hHeld.2.2.2.2.2.2.2.2 hbn⟩
    clear hK K
    try simp only [Act.put, List.setIfInBounds_toArray, List.set_cons_zero, List.set_cons_succ]
    refine' wpAnyH_take (i := 36) (oi := _) (v := _) ?hi277 (by kernel_rfl) (by kernel_rfl) (by kernel_rfl) ?hq277 ?hy277 hHeld ?rest277
    case hi277 => (simp only [List.getElem?_toArray, List.getElem?_cons_succ, List.getElem?_cons_zero]; rfl)
    case hq277 => exact fun _ _ _ h => h
    case hy277 => (refine Or.inl ⟨by rfl, ?_⟩; intro ww hSw; (try dsimp only at hSw); go_simp; try with_reducible rfl)
    try simp only [Act.put, List.setIfInBounds_toArray, List.set_cons_zero, List.set_cons_succ]
    refine' wpAnyH_take (i := 37) (oi := _) (v := undef) ?hi278 (by kernel_rfl) (by kernel_rfl) (by kernel_rfl) ?hq278 ?hy278 hHeld ?rest278
    case hi278 => (simp only [List.getElem?_toArray, List.getElem?_cons_succ, List.getElem?_cons_zero]; rfl)
    case hq278 => exact fun _ _ _ h => h
    case hy278 => exact Or.inr ⟨by rfl, rfl⟩
    try simp only [Act.put, List.setIfInBounds_toArray, List.set_cons_zero, List.set_cons_succ]
    refine' wpAnyH_take (i := 38) (oi := _) (v := undef) ?hi279 (by kernel_rfl) (by kernel_rfl) (by kernel_rfl) ?hq279 ?hy279 hHeld ?rest279
    case hi279 => (simp only [List.getElem?_toArray, List.getElem?_cons_succ, List.getElem?_cons_zero]; rfl)
    case hq279 => exact fun _ _ _ h => h
    case hy279 => exact Or.inr ⟨by rfl, rfl⟩
    try simp only [Act.put, List.setIfInBounds_toArray, List.set_cons_zero, List.set_cons_succ]
    refine' wpAnyH_take (i := 39) (oi := _) (v := undef) ?hi280 (by kernel_rfl) (by kernel_rfl) (by kernel_rfl) ?hq280 ?hy280 hHeld ?rest280
    case hi280 => (simp only [List.getElem?_toArray, List.getElem?_cons_succ, List.getElem?_cons_zero]; rfl)
    case hq280 => exact fun _ _ _ h => h
    case hy280 => exact Or.inr ⟨by rfl, rfl⟩
    try simp only [Act.put, List.setIfInBounds_toArray, List.set_cons_zero, List.set_cons_succ]
    refine' wpAnyH_take (i := 40) (oi := _) (v := undef) ?hi281 (by kernel_rfl) (by kernel_rfl) (by kernel_rfl) ?hq281 ?hy281 hHeld ?rest281
    case hi281 => (simp only [List.getElem?_toArray, List.getElem?_cons_succ, List.getElem?_cons_zero]; rfl)
    case hq281 => exact fun _ _ _ h => h
    case hy281 => exact Or.inr ⟨by rfl, rfl⟩
    try simp only [Act.put, List.setIfInBounds_toArray, List.set_cons_zero, List.set_cons_succ]
    refine' wpAnyH_take (i := 41) (oi := _) (v := _) ?hi282 (by kernel_rfl) (by kernel_rfl) (by kernel_rfl) ?hq282 ?hy282 hHeld ?rest282
    case hi282 => (simp only [List.getElem?_toArray, List.getElem?_cons_succ, List.getElem?_cons_zero]; rfl)
    case hq282 => exact fun _ _ _ h => h
    case hy282 => (refine Or.inl ⟨by rfl, ?_⟩; intro ww hSw; (try dsimp only at hSw); go_simp; try with_reducible rfl)
    try simp only [Act.put, List.setIfInBounds_toArray, List.set_cons_zero, List.set_cons_succ]
    refine' wpAnyH_take (i := 42) (oi := _) (v := _) ?hi283 (by kernel_rfl) (by kernel_rfl) (by kernel_rfl) ?hq283 ?hy283 hHeld ?rest283
    case hi283 => (simp only [List.getElem?_toArray, List.getElem?_cons_succ, List.getElem?_cons_zero]; rfl)
    case hq283 => exact fun _ _ _ h => h
    case hy283 => (refine Or.inl ⟨by rfl, ?_⟩; intro ww hSw; (try dsimp only at hSw); go_simp; try with_reducible rfl)
    try simp only [Act.put, List.setIfInBounds_toArray, List.set_cons_zero, List.set_cons_succ]
    refine' wpAnyH_take (i := 43) (oi := _) (v := _) ?hi284 (by kernel_rfl) (by kernel_rfl) (by kernel_rfl) ?hq284 ?hy284 hHeld ?rest284
    case hi284 => (simp only [List.getElem?_toArray, List.getElem?_cons_succ, List.getElem?_cons_zero]; rfl)
    case hq284 => exact fun _ _ _ h => h
    case hy284 => (refine Or.inl ⟨by rfl, ?_⟩; intro ww hSw; (try dsimp only at hSw); go_simp; try with_reducible rfl)
    try simp only [Act.put, List.setIfInBounds_toArray, List.set_cons_zero, List.set_cons_succ]
    refine' wpAnyH_take (i := 44) (oi := _) (v := _) ?hi285 (by kernel_rfl) (by kernel_rfl) (by kernel_rfl) ?hq285 ?hy285 hHeld ?rest285
    case hi285 => (simp only [List.getElem?_toArray, List.getElem?_cons_succ, List.getElem?_cons_zero]; rfl)
    case hq285 => exact fun _ _ _ h => h
    case hy285 => (refine Or.inl ⟨by rfl, ?_⟩; intro ww hSw; (try dsimp only at hSw); go_simp; try with_reducible rfl)
    try simp only [Act.put, List.setIfInBounds_toArray, List.set_cons_zero, List.set_cons_succ]
    refine' wpAnyH_ready (rs := [45]) (by kernel_rfl) (by simp) ?_
    refine' AllReadyH.cons (o := _) ?hi286 (fun K hK => ?st286) AllReadyH.nil
    case hi286 => (simp only [List.getElem?_toArray, List.getElem?_cons_succ, List.getElem?_cons_zero]; rfl)
    go_simp
    (go_at_call 18; refine (awake_is _ trivial).mono ?_; rintro e wn ⟨rfl, hbn⟩)
    try go_wp2_with fail
    refine hK.out _ _ ?_ (fun hHeld => ?_)
    · exact ⟨cell_on hbn hHeld.1, cell_on hbn hHeld.2.1, cell_on hbn hHeld.2.2.1, cell_on hbn hHeld.2.2.2.1, cell_on hbn hHeld.2.2.2.2.1, cell_on hbn hHeld.2.2.2.2.2.1, cell_on hbn hHeld.2.2.2.2.2.2.1, cell_on hbn hHeld.2.2.2.2.2.2.2.1, tr hHeld.2.2.2.2.2.2.2.2 hbn⟩
    clear hK K
    try simp only [Act.put, List.setIfInBounds_toArray, List.set_cons_zero, List.set_cons_succ]
    refine' wpAnyH_take (i := 46) (oi := _) (v := _) ?hi287 (by kernel_rfl) (by kernel_rfl) (by kernel_rfl) ?hq287 ?hy287 hHeld ?rest287
    case hi287 => (simp only [List.getElem?_toArray, List.getElem?_cons_succ, List.getElem?_cons_zero]; rfl)
    case hq287 => exact fun _ _ _ h => h
    case hy287 => (refine Or.inl ⟨by rfl, ?_⟩; intro ww hSw; (try dsimp only at hSw); go_simp; try with_reducible rfl)
    try simp only [Act.put, List.setIfInBounds_toArray, List.set_cons_zero, List.set_cons_succ]
    refine' wpAnyH_take (i := 47) (oi := _) (v := _) ?hi288 (by kernel_rfl) (by kernel_rfl) (by kernel_rfl) ?hq288 ?hy288 hHeld ?rest288
    case hi288 => (simp only [List.getElem?_toArray, List.getElem?_cons_succ, List.getElem?_cons_zero]; rfl)
    case hq288 => exact fun _ _ _ h => h
    case hy288 => (refine Or.inl ⟨by rfl, ?_⟩; intro ww hSw; (try dsimp only at hSw); go_simp; try with_reducible rfl)
    try simp only [Act.put, List.setIfInBounds_toArray, List.set_cons_zero, List.set_cons_succ]
    refine wpAnyH_done (by kernel_rfl) ?_ _
    have hbl := hHeld.2.2.2.2.2.2.2.2
    have HBL := Lib.hid (tr BB.out hbl)
    clear hbl hHeld
    go_wp2_with fail
    go_ret
    exact ⟨rfl, HBL.out⟩
  case true.true =>
    obtain rfl : s = false := by simpa using hin
    have hc := HC.out
    simp only [Bool.not_true, Bool.not_false, Bool.and_true, Bool.and_false, Bool.false_and, Bool.true_and] at hc
    have HC2 := Lib.hid hc
    clear hin hc HC
    go_enter Try.func7, Try.ntmps7
    go_wp2_with (first
      | (go_at_call 9; (with_reducible refine (Intersect_is a0 a1 b0 b1 c0 c1 _ _ ?_ H1.out).mono ?_); (exact trivial); rintro e w1 ⟨rfl, hb1⟩; have k0 := cell_on hb1 (b := w.heap.size) (o := 0) (v := .int .i64 a0) (by simp [go_sem]); have k1 := cell_on hb1 (b := w.heap.size) (o := 1) (v := .int .i64 a1) (by simp [go_sem]); have k2 := cell_on hb1 (b := w.heap.size + 1) (o := 0) (v := .int .i64 b0) (by simp [go_sem]); have k3 := cell_on hb1 (b := w.heap.size + 1) (o := 1) (v := .int .i64 b1) (by simp [go_sem]); have lz0 := World.block_lt_of_cell? _ _ k0; have lz1 := World.block_lt_of_cell? _ _ k2; simp only at lz0 lz1; have B1 := Lib.hid (tr (al (al (Below.refl _ w) _) _) hb1))
      | (go_at_call 9; (with_reducible refine (Intersect_is b0 b1 a0 a1 c0 c1 _ _ ?_ H1'.out).mono ?_); (exact trivial); rintro e w2 ⟨rfl, hb2⟩; have m0 := cell_on hb2 (cell_al _ k0); have m1 := cell_on hb2 (cell_al _ k1); have m2 := cell_on hb2 (cell_al _ k2); have m3 := cell_on hb2 (cell_al _ k3); have m4 := cell_on hb2 (b := w1.heap.size) (o := 0) (v := .int .i64 c0) (by simp [go_sem]); have m5 := cell_on hb2 (b := w1.heap.size) (o := 1) (v := .int .i64 c1) (by simp [go_sem]); have B2 := Lib.hid (tr (al B1.out _) hb2); have n0 := cell_al (.cells #[.int .i64 c0, .int .i64 c1] 23) m0; have n1 := cell_al (.cells #[.int .i64 c0, .int .i64 c1] 23) m1; have n2 := cell_al (.cells #[.int .i64 c0, .int .i64 c1] 23) m2; have n3 := cell_al (.cells #[.int .i64 c0, .int .i64 c1] 23) m3; have n4 := cell_al (.cells #[.int .i64 c0, .int .i64 c1] 23) m4; have n5 := cell_al (.cells #[.int .i64 c0, .int .i64 c1] 23) m5)
      | (go_at_call 16; (with_reducible refine (Subtract_is a0 a1 b0 b1 l _ ?_ H4.out).mono ?_); (exact trivial); rintro e w3 ⟨v3, rfl, hr3, hb3⟩; obtain ⟨LA, LC, rfl⟩ := hr3.form0; have o0 := cell_on hb3 n0; have o1 := cell_on hb3 n1; have o2 := cell_on hb3 n2; have o3 := cell_on hb3 n3; have o4 := cell_on hb3 n4; have o5 := cell_on hb3 n5; have o6 := cell_on hb3 (b := w2.heap.size) (o := 0) (v := .int .i64 c0) (by simp [go_sem]); have o7 := cell_on hb3 (b := w2.heap.size) (o := 1) (v := .int .i64 c1) (by simp [go_sem]); have BB := Lib.hid (tr (al B2.out _) hb3); have CC := Lib.hid (Below.refl w3.heap.size w3); have HR := Lib.hid hr3; rw [HM.out] at hr3 HR ⊢; clear hr3)
      | (go_at_call 13; (with_reducible refine (Contains_is c0 c1 d _ _ ?_ H5.out).mono ?_); (exact trivial); rintro e w4 ⟨rfl, hb4⟩; replace o0 := cell_on hb4 o0; replace o1 := cell_on hb4 o1; replace o2 := cell_on hb4 o2; replace o3 := cell_on hb4 o3; replace o4 := cell_on hb4 o4; replace o5 := cell_on hb4 o5; replace o6 := cell_on hb4 o6; replace o7 := cell_on hb4 o7; have CC := Lib.hid (tr CC.out hb4))
      | fail)
    refine wp_region_held_drew (S := (fun w' => w'.cell? ⟨w.heap.size, 0, none⟩ = some (.int .i64 a0) ∧ w'.cell? ⟨w.heap.size, 1, none⟩ = some (.int .i64 a1) ∧ w'.cell? ⟨w.heap.size + 1, 0, none⟩ = some (.int .i64 b0) ∧ w'.cell? ⟨w.heap.size + 1, 1, none⟩ = some (.int .i64 b1) ∧ w'.cell? ⟨w1.heap.size, 0, none⟩ = some (.int .i64 c0) ∧ w'.cell? ⟨w1.heap.size, 1, none⟩ = some (.int .i64 c1) ∧ w'.cell? ⟨w2.heap.size, 0, none⟩ = some (.int .i64 c0) ∧ w'.cell? ⟨w2.heap.size, 1, none⟩ = some (.int .i64 c1) ∧ Below w3.heap.size w3 w')) (by kernel_rfl) ?_ (fun hHeld => ?_)
    · exact ⟨o0, o1, o2, o3, o4, o5, o6, o7, below_drewN CC.out 1⟩
    refine' wpAnyH_take (i := 0) (oi := _) (v := _) ?hi289 (by kernel_rfl) (by kernel_rfl) (by kernel_rfl) ?hq289 ?hy289 hHeld ?rest289
    case hi289 => (simp only [List.getElem?_toArray, List.getElem?_cons_succ, List.getElem?_cons_zero]; rfl)
    case hq289 => exact fun _ _ _ h => h
    case hy289 => (refine Or.inl ⟨by rfl, ?_⟩; intro ww hSw; (try dsimp only at hSw); go_simp; try with_reducible rfl)
    try simp only [Act.put, List.setIfInBounds_toArray, List.set_cons_zero, List.set_cons_succ]
    refine' wpAnyH_take (i := 1) (oi := _) (v := _) ?hi290 (by kernel_rfl) (by kernel_rfl) (by kernel_rfl) ?hq290 ?hy290 hHeld ?rest290
    case hi290 => (simp only [List.getElem?_toArray, List.getElem?_cons_succ, List.getElem?_cons_zero]; rfl)
    case hq290 => exact fun _ _ _ h => h
    case hy290 => (refine Or.inl ⟨by rfl, ?_⟩; intro ww hSw; (try dsimp only at hSw); go_simp; try with_reducible rfl)
    try simp only [Act.put, List.setIfInBounds_toArray, List.set_cons_zero, List.set_cons_succ]
    refine' wpAnyH_take (i := 2) (oi := _) (v := _) ?hi291 (by kernel_rfl) (by kernel_rfl) (by kernel_rfl) ?hq291 ?hy291 hHeld ?rest291
    case hi291 => (simp only [List.getElem?_toArray, List.getElem?_cons_succ, List.getElem?_cons_zero]; rfl)
    case hq291 => exact fun _ _ _ h => h
    case hy291 => (refine Or.inl ⟨by rfl, ?_⟩; intro ww hSw; (try dsimp only at hSw); go_simp; try with_reducible rfl)
    try simp only [Act.put, List.setIfInBounds_toArray, List.set_cons_zero, List.set_cons_succ]
    refine' wpAnyH_take (i := 3) (oi := _) (v := _) ?hi292 (by kernel_rfl) (by kernel_rfl) (by kernel_rfl) ?hq292 ?hy292 hHeld ?rest292
    case hi292 => (simp only [List.getElem?_toArray, List.getElem?_cons_succ, List.getElem?_cons_zero]; rfl)
    case hq292 => exact fun _ _ _ h => h
    case hy292 => (refine Or.inl ⟨by rfl, ?_⟩; intro ww hSw; (try dsimp only at hSw); go_simp; try with_reducible rfl)
    try simp only [Act.put, List.setIfInBounds_toArray, List.set_cons_zero, List.set_cons_succ]
    refine' wpAnyH_take (i := 4) (oi := _) (v := _) ?hi293 (by kernel_rfl) (by kernel_rfl) (by kernel_rfl) ?hq293 ?hy293 hHeld ?rest293
    case hi293 => (simp only [List.getElem?_toArray, List.getElem?_cons_succ, List.getElem?_cons_zero]; rfl)
    case hq293 => exact fun _ _ _ h => h
    case hy293 => (refine Or.inl ⟨by rfl, ?_⟩; intro ww hSw; (try dsimp only at hSw); go_simp; try with_reducible rfl)
    try simp only [Act.put, List.setIfInBounds_toArray, List.set_cons_zero, List.set_cons_succ]
    refine' wpAnyH_take (i := 5) (oi := _) (v := _) ?hi294 (by kernel_rfl) (by kernel_rfl) (by kernel_rfl) ?hq294 ?hy294 hHeld ?rest294
    case hi294 => (simp only [List.getElem?_toArray, List.getElem?_cons_succ, List.getElem?_cons_zero]; rfl)
    case hq294 => exact fun _ _ _ h => h
    case hy294 => (refine Or.inl ⟨by rfl, ?_⟩; intro ww hSw; (try dsimp only at hSw); go_simp; try with_reducible rfl)
    try simp only [Act.put, List.setIfInBounds_toArray, List.set_cons_zero, List.set_cons_succ]
    refine' wpAnyH_take (i := 6) (oi := _) (v := _) ?hi295 (by kernel_rfl) (by kernel_rfl) (by kernel_rfl) ?hq295 ?hy295 hHeld ?rest295
    case hi295 => (simp only [List.getElem?_toArray, List.getElem?_cons_succ, List.getElem?_cons_zero]; rfl)
    case hq295 => exact fun _ _ _ h => h
    case hy295 => (refine Or.inl ⟨by rfl, ?_⟩; intro ww hSw; (try dsimp only at hSw); go_simp; try with_reducible rfl)
    try simp only [Act.put, List.setIfInBounds_toArray, List.set_cons_zero, List.set_cons_succ]
    refine' wpAnyH_take (i := 7) (oi := _) (v := _) ?hi296 (by kernel_rfl) (by kernel_rfl) (by kernel_rfl) ?hq296 ?hy296 hHeld ?rest296
    case hi296 => (simp only [List.getElem?_toArray, List.getElem?_cons_succ, List.getElem?_cons_zero]; rfl)
    case hq296 => exact fun _ _ _ h => h
    case hy296 => (refine Or.inl ⟨by rfl, ?_⟩; intro ww hSw; (try dsimp only at hSw); go_simp; try with_reducible rfl)
    try simp only [Act.put, List.setIfInBounds_toArray, List.set_cons_zero, List.set_cons_succ]
    refine' wpAnyH_take (i := 8) (oi := _) (v := _) ?hi297 (by kernel_rfl) (by kernel_rfl) (by kernel_rfl) ?hq297 ?hy297 hHeld ?rest297
    case hi297 => (simp only [List.getElem?_toArray, List.getElem?_cons_succ, List.getElem?_cons_zero]; rfl)
    case hq297 => exact fun _ _ _ h => h
    case hy297 => (refine Or.inl ⟨by rfl, ?_⟩; intro ww hSw; (try dsimp only at hSw); go_simp; try with_reducible rfl)
    try simp only [Act.put, List.setIfInBounds_toArray, List.set_cons_zero, List.set_cons_succ]
    refine' wpAnyH_take (i := 9) (oi := _) (v := _) ?hi298 (by kernel_rfl) (by kernel_rfl) (by kernel_rfl) ?hq298 ?hy298 hHeld ?rest298
    case hi298 => (simp only [List.getElem?_toArray, List.getElem?_cons_succ, List.getElem?_cons_zero]; rfl)
    case hq298 => exact fun _ _ _ h => h
    case hy298 => (refine Or.inl ⟨by rfl, ?_⟩; intro ww hSw; (try dsimp only at hSw); go_simp; try with_reducible rfl)
    try simp only [Act.put, List.setIfInBounds_toArray, List.set_cons_zero, List.set_cons_succ]
    refine' wpAnyH_ready (rs := [10]) (by kernel_rfl) (by simp) ?_
    refine' AllReadyH.cons (o := _) ?hi299 (fun K hK => ?st299) AllReadyH.nil
    case hi299 => (simp only [List.getElem?_toArray, List.getElem?_cons_succ, List.getElem?_cons_zero]; rfl)
    go_simp
    (go_at_call 27; refine (normal_is _ l _ (HR.out.below hHeld.2.2.2.2.2.2.2.2) HNm.out).mono ?_; rintro e wn ⟨rfl, hbn⟩)
    try go_wp2_with fail
    refine hK.out _ _ ?_ (fun hHeld => ?_)
    · exact ⟨cell_on hbn hHeld.1, cell_on hbn hHeld.2.1, cell_on hbn hHeld.2.2.1, cell_on hbn hHeld.2.2.2.1, cell_on hbn hHeld.2.2.2.2.1, cell_on hbn hHeld.2.2.2.2.2.1, cell_on hbn hHeld.2.2.2.2.2.2.1, cell_on hbn hHeld.2.2.2.2.2.2.2.1, tr hHeld.2.2.2.2.2.2.2.2 hbn⟩
    clear hK K
    try simp only [Act.put, List.setIfInBounds_toArray, List.set_cons_zero, List.set_cons_succ]
    refine' wpAnyH_take (i := 11) (oi := _) (v := _) ?hi300 (by kernel_rfl) (by kernel_rfl) (by kernel_rfl) ?hq300 ?hy300 hHeld ?rest300
    case hi300 => (simp only [List.getElem?_toArray, List.getElem?_cons_succ, List.getElem?_cons_zero]; rfl)
    case hq300 => exact fun _ _ _ h => h
    case hy300 => (refine Or.inl ⟨by rfl, ?_⟩; intro ww hSw; (try dsimp only at hSw); go_simp; try with_reducible rfl)
    try simp only [Act.put, List.setIfInBounds_toArray, List.set_cons_zero, List.set_cons_succ]
    refine' wpAnyH_take (i := 12) (oi := _) (v := _) ?hi301 (by kernel_rfl) (by kernel_rfl) (by kernel_rfl) ?hq301 ?hy301 hHeld ?rest301
    case hi301 => (simp only [List.getElem?_toArray, List.getElem?_cons_succ, List.getElem?_cons_zero]; rfl)
    case hq301 => exact fun _ _ _ h => h
    case hy301 => (refine Or.inl ⟨by rfl, ?_⟩; intro ww hSw; (try dsimp only at hSw); go_simp; try with_reducible rfl)
    try simp only [Act.put, List.setIfInBounds_toArray, List.set_cons_zero, List.set_cons_succ]
    refine' wpAnyH_take (i := 13) (oi := _) (v := _) ?hi302 (by kernel_rfl) (by kernel_rfl) (by kernel_rfl) ?hq302 ?hy302 hHeld ?rest302
    case hi302 => (simp only [List.getElem?_toArray, List.getElem?_cons_succ, List.getElem?_cons_zero]; rfl)
    case hq302 => exact fun _ _ _ h => h
    case hy302 => (refine Or.inl ⟨by rfl, ?_⟩; intro ww hSw; (try dsimp only at hSw); go_simp; try with_reducible rfl)
    try simp only [Act.put, List.setIfInBounds_toArray, List.set_cons_zero, List.set_cons_succ]
    refine' wpAnyH_take (i := 14) (oi := _) (v := _) ?hi303 (by kernel_rfl) (by kernel_rfl) (by kernel_rfl) ?hq303 ?hy303 hHeld ?rest303
    case hi303 => (simp only [List.getElem?_toArray, List.getElem?_cons_succ, List.getElem?_cons_zero]; rfl)
    case hq303 => exact fun _ _ _ h => h
    case hy303 => (refine Or.inl ⟨by rfl, ?_⟩; intro ww hSw; (try dsimp only at hSw); go_simp; try with_reducible rfl)
    try simp only [Act.put, List.setIfInBounds_toArray, List.set_cons_zero, List.set_cons_succ]
    refine' wpAnyH_take (i := 15) (oi := _) (v := _) ?hi304 (by kernel_rfl) (by kernel_rfl) (by kernel_rfl) ?hq304 ?hy304 hHeld ?rest304
    case hi304 => (simp only [List.getElem?_toArray, List.getElem?_cons_succ, List.getElem?_cons_zero]; rfl)
    case hq304 => exact fun _ _ _ h => h
    case hy304 => (refine Or.inl ⟨by rfl, ?_⟩; intro ww hSw; (try dsimp only at hSw); go_simp; try with_reducible rfl)
    try simp only [Act.put, List.setIfInBounds_toArray, List.set_cons_zero, List.set_cons_succ]
    refine' wpAnyH_take (i := 16) (oi := _) (v := _) ?hi305 (by kernel_rfl) (by kernel_rfl) (by kernel_rfl) ?hq305 ?hy305 hHeld ?rest305
    case hi305 => (simp only [List.getElem?_toArray, List.getElem?_cons_succ, List.getElem?_cons_zero]; rfl)
    case hq305 => exact fun _ _ _ h => h
    case hy305 => (refine Or.inl ⟨by rfl, ?_⟩; intro ww hSw; (try dsimp only at hSw); go_simp; try with_reducible rfl)
    try simp only [Act.put, List.setIfInBounds_toArray, List.set_cons_zero, List.set_cons_succ]
    refine' wpAnyH_take (i := 17) (oi := _) (v := _) ?hi306 (by kernel_rfl) (by kernel_rfl) (by kernel_rfl) ?hq306 ?hy306 hHeld ?rest306
    case hi306 => (simp only [List.getElem?_toArray, List.getElem?_cons_succ, List.getElem?_cons_zero]; rfl)
    case hq306 => exact fun _ _ _ h => h
    case hy306 => (refine Or.inl ⟨by rfl, ?_⟩; intro ww hSw; (try dsimp only at hSw); go_simp; try with_reducible rfl)
    try simp only [Act.put, List.setIfInBounds_toArray, List.set_cons_zero, List.set_cons_succ]
    refine' wpAnyH_take (i := 18) (oi := _) (v := _) ?hi307 (by kernel_rfl) (by kernel_rfl) (by kernel_rfl) ?hq307 ?hy307 hHeld ?rest307
    case hi307 => (simp only [List.getElem?_toArray, List.getElem?_cons_succ, List.getElem?_cons_zero]; rfl)
    case hq307 => exact fun _ _ _ h => h
    case hy307 => (refine Or.inl ⟨by rfl, ?_⟩; intro ww hSw; (try dsimp only at hSw); go_simp; try with_reducible rfl)
    try simp only [Act.put, List.setIfInBounds_toArray, List.set_cons_zero, List.set_cons_succ]
    refine' wpAnyH_take (i := 19) (oi := _) (v := _) ?hi308 (by kernel_rfl) (by kernel_rfl) (by kernel_rfl) ?hq308 ?hy308 hHeld ?rest308
    case hi308 => (simp only [List.getElem?_toArray, List.getElem?_cons_succ, List.getElem?_cons_zero]; rfl)
    case hq308 => exact fun _ _ _ h => h
    case hy308 => (refine Or.inl ⟨by rfl, ?_⟩; intro ww hSw; (try dsimp only at hSw); go_simp; try with_reducible rfl)
    try simp only [Act.put, List.setIfInBounds_toArray, List.set_cons_zero, List.set_cons_succ]
    refine' wpAnyH_take (i := 20) (oi := _) (v := _) ?hi309 (by kernel_rfl) (by kernel_rfl) (by kernel_rfl) ?hq309 ?hy309 hHeld ?rest309
    case hi309 => (simp only [List.getElem?_toArray, List.getElem?_cons_succ, List.getElem?_cons_zero]; rfl)
    case hq309 => exact fun _ _ _ h => h
    case hy309 => (refine Or.inl ⟨by rfl, ?_⟩; intro ww hSw; (try dsimp only at hSw); go_simp; try with_reducible rfl)
    try simp only [Act.put, List.setIfInBounds_toArray, List.set_cons_zero, List.set_cons_succ]
    refine' wpAnyH_ready (rs := [21]) (by kernel_rfl) (by simp) ?_
    refine' AllReadyH.cons (o := _) ?hi310 (fun K hK => ?st310) AllReadyH.nil
    case hi310 => (simp only [List.getElem?_toArray, List.getElem?_cons_succ, List.getElem?_cons_zero]; rfl)
    go_simp
    (go_at_call 13; refine (Contains_is a0 a1 d _ _ trivial H2.out).mono ?_; rintro e wn ⟨rfl, hbn⟩)
    try go_wp2_with fail
    refine hK.out _ _ ?_ (fun hHeld => ?_)
    · exact ⟨cell_on hbn hHeld.1, cell_on hbn hHeld.2.1, cell_on hbn hHeld.2.2.1, cell_on hbn hHeld.2.2.2.1, cell_on hbn hHeld.2.2.2.2.1, cell_on hbn hHeld.2.2.2.2.2.1, cell_on hbn hHeld.2.2.2.2.2.2.1, cell_on hbn hHeld.2.2.2.2.2.2.2.1, tr hHeld.2.2.2.2.2.2.2.2 hbn⟩
    clear hK K
    try simp only [Act.put, List.setIfInBounds_toArray, List.set_cons_zero, List.set_cons_succ]
    refine' wpAnyH_take (i := 22) (oi := _) (v := _) ?hi311 (by kernel_rfl) (by kernel_rfl) (by kernel_rfl) ?hq311 ?hy311 hHeld ?rest311
    case hi311 => (simp only [List.getElem?_toArray, List.getElem?_cons_succ, List.getElem?_cons_zero]; rfl)
    case hq311 => exact fun _ _ _ h => h
    case hy311 => (refine Or.inl ⟨by rfl, ?_⟩; intro ww hSw; (try dsimp only at hSw); go_simp; try with_reducible rfl)
    try simp only [Act.put, List.setIfInBounds_toArray, List.set_cons_zero, List.set_cons_succ]
    refine' wpAnyH_take (i := 23) (oi := _) (v := undef) ?hi312 (by kernel_rfl) (by kernel_rfl) (by kernel_rfl) ?hq312 ?hy312 hHeld ?rest312
    case hi312 => (simp only [List.getElem?_toArray, List.getElem?_cons_succ, List.getElem?_cons_zero]; rfl)
    case hq312 => exact fun _ _ _ h => h
    case hy312 => exact Or.inr ⟨by rfl, rfl⟩
    try simp only [Act.put, List.setIfInBounds_toArray, List.set_cons_zero, List.set_cons_succ]
    refine' wpAnyH_take (i := 24) (oi := _) (v := undef) ?hi313 (by kernel_rfl) (by kernel_rfl) (by kernel_rfl) ?hq313 ?hy313 hHeld ?rest313
    case hi313 => (simp only [List.getElem?_toArray, List.getElem?_cons_succ, List.getElem?_cons_zero]; rfl)
    case hq313 => exact fun _ _ _ h => h
    case hy313 => exact Or.inr ⟨by rfl, rfl⟩
    try simp only [Act.put, List.setIfInBounds_toArray, List.set_cons_zero, List.set_cons_succ]
    refine' wpAnyH_take (i := 25) (oi := _) (v := undef) ?hi314 (by kernel_rfl) (by kernel_rfl) (by kernel_rfl) ?hq314 ?hy314 hHeld ?rest314
    case hi314 => (simp only [List.getElem?_toArray, List.getElem?_cons_succ, List.getElem?_cons_zero]; rfl)
    case hq314 => exact fun _ _ _ h => h
    case hy314 => exact Or.inr ⟨by rfl, rfl⟩
    try simp only [Act.put, List.setIfInBounds_toArray, List.set_cons_zero, List.set_cons_succ]
    refine' wpAnyH_take (i := 26) (oi := _) (v := _) ?hi315 (by kernel_rfl) (by kernel_rfl) (by kernel_rfl) ?hq315 ?hy315 hHeld ?rest315
    case hi315 => (simp only [List.getElem?_toArray, List.getElem?_cons_succ, List.getElem?_cons_zero]; rfl)
    case hq315 => exact fun _ _ _ h => h
    case hy315 => (refine Or.inl ⟨by rfl, ?_⟩; intro ww hSw; (try dsimp only at hSw); go_simp; try with_reducible rfl)
    try simp only [Act.put, List.setIfInBounds_toArray, List.set_cons_zero, List.set_cons_succ]
    refine' wpAnyH_take (i := 27) (oi := _) (v := _) ?hi316 (by kernel_rfl) (by kernel_rfl) (by kernel_rfl) ?hq316 ?hy316 hHeld ?rest316
    case hi316 => (simp only [List.getElem?_toArray, List.getElem?_cons_succ, List.getElem?_cons_zero]; rfl)
    case hq316 => exact fun _ _ _ h => h
    case hy316 => (refine Or.inl ⟨by rfl, ?_⟩; intro ww hSw; (try dsimp only at hSw); go_simp; try with_reducible rfl)
    try simp only [Act.put, List.setIfInBounds_toArray, List.set_cons_zero, List.set_cons_succ]
    refine' wpAnyH_take (i := 28) (oi := _) (v := _) ?hi317 (by kernel_rfl) (by kernel_rfl) (by kernel_rfl) ?hq317 ?hy317 hHeld ?rest317
    case hi317 => (simp only [List.getElem?_toArray, List.getElem?_cons_succ, List.getElem?_cons_zero]; rfl)
    case hq317 => exact fun _ _ _ h => h
    case hy317 => (refine Or.inl ⟨by rfl, ?_⟩; intro ww hSw; (try dsimp only at hSw); go_simp; try with_reducible rfl)
    try simp only [Act.put, List.setIfInBounds_toArray, List.set_cons_zero, List.set_cons_succ]
    refine' wpAnyH_take (i := 29) (oi := _) (v := _) ?hi318 (by kernel_rfl) (by kernel_rfl) (by kernel_rfl) ?hq318 ?hy318 hHeld ?rest318
    case hi318 => (simp only [List.getElem?_toArray, List.getElem?_cons_succ, List.getElem?_cons_zero]; rfl)
    case hq318 => exact fun _ _ _ h => h
    case hy318 => (refine Or.inl ⟨by rfl, ?_⟩; intro ww hSw; (try dsimp only at hSw); go_simp; try with_reducible rfl)
    try simp only [Act.put, List.setIfInBounds_toArray, List.set_cons_zero, List.set_cons_succ]
    refine' wpAnyH_take (i := 30) (oi := _) (v := _) ?hi319 (by kernel_rfl) (by kernel_rfl) (by kernel_rfl) ?hq319 ?hy319 hHeld ?rest319
    case hi319 => (simp only [List.getElem?_toArray, List.getElem?_cons_succ, List.getElem?_cons_zero]; rfl)
    case hq319 => exact fun _ _ _ h => h
    case hy319 => (refine Or.inl ⟨by rfl, ?_⟩; intro ww hSw; (try dsimp only at hSw); go_simp; try with_reducible rfl)
    try simp only [Act.put, List.setIfInBounds_toArray, List.set_cons_zero, List.set_cons_succ]
    refine' wpAnyH_take (i := 31) (oi := _) (v := _) ?hi320 (by kernel_rfl) (by kernel_rfl) (by kernel_rfl) ?hq320 ?hy320 hHeld ?rest320
    case hi320 => (simp only [List.getElem?_toArray, List.getElem?_cons_succ, List.getElem?_cons_zero]; rfl)
    case hq320 => exact fun _ _ _ h => h
    case hy320 => (refine Or.inl ⟨by rfl, ?_⟩; intro ww hSw; (try dsimp only at hSw); go_simp; try with_reducible rfl)
    try simp only [Act.put, List.setIfInBounds_toArray, List.set_cons_zero, List.set_cons_succ]
    refine' wpAnyH_take (i := 33) (oi := _) (v := _) ?hi321 (by kernel_rfl) (by kernel_rfl) (by kernel_rfl) ?hq321 ?hy321 hHeld ?rest321
    case hi321 => (simp only [List.getElem?_toArray, List.getElem?_cons_succ, List.getElem?_cons_zero]; rfl)
    case hq321 => exact fun _ _ _ h => h
    case hy321 => (refine Or.inl ⟨by rfl, ?_⟩; intro ww hSw; (try dsimp only at hSw); go_simp; try with_reducible rfl)
    try simp only [Act.put, List.setIfInBounds_toArray, List.set_cons_zero, List.set_cons_succ]
    refine' wpAnyH_take (i := 34) (oi := _) (v := _) ?hi322 (by kernel_rfl) (by kernel_rfl) (by kernel_rfl) ?hq322 ?hy322 hHeld ?rest322
    case hi322 => (simp only [List.getElem?_toArray, List.getElem?_cons_succ, List.getElem?_cons_zero]; rfl)
    case hq322 => exact fun _ _ _ h => h
    case hy322 => (refine Or.inl ⟨by rfl, ?_⟩; intro ww hSw; (try dsimp only at hSw); go_simp; try with_reducible rfl)
    try simp only [Act.put, List.setIfInBounds_toArray, List.set_cons_zero, List.set_cons_succ]
    refine' wpAnyH_ready (rs := [32]) (by kernel_rfl) (by simp) ?_
    refine' AllReadyH.cons (o := _) ?hi323 (fun K hK => ?st323) AllReadyH.nil
    case hi323 => (simp only [List.getElem?_toArray, List.getElem?_cons_succ, List.getElem?_cons_zero]; rfl)
    go_simp
    (go_at_call 28; refine (contains_is _ l d _ _ trivial (HR.out.below hHeld.2.2.2.2.2.2.2.2) HC2.out).mono ?_; rintro e wn ⟨rfl, hbn⟩)
    try go_wp2_with fail
    refine hK.out _ _ ?_ (fun hHeld => ?_)
    · exact ⟨cell_on hbn hHeld.1, cell_on hbn hHeld.2.1, cell_on hbn hHeld.2.2.1, cell_on hbn hHeld.2.2.2.1, cell_on hbn hHeld.2.2.2.2.1, cell_on hbn hHeld.2.2.2.2.2.1, cell_on hbn hHeld.2.2.2.2.2.2.1, cell_on hbn hHeld.2.2.2.2.2.2.2.1, tr hHeld.2.2.2.2.2.2.2.2 hbn⟩
    clear hK K
    try simp only [Act.put, List.setIfInBounds_toArray, List.set_cons_zero, List.set_cons_succ]
    refine' wpAnyH_ready (rs := [35]) (by kernel_rfl) (by simp) ?_
    refine' AllReadyH.cons (o := _) ?hi324 (fun K hK => ?st324) AllReadyH.nil
    case hi324 => (simp only [List.getElem?_toArray, List.getElem?_cons_succ, List.getElem?_cons_zero]; rfl)
    go_simp
    (go_at_call 13; refine (Contains_is a0 a1 d _ _ trivial H2.out).mono ?_; rintro e wn ⟨rfl, hbn⟩)
    try go_wp2_with fail
    refine hK.out _ _ ?_ (fun hHeld => ?_)
    · exact ⟨cell_on hbn hHeld.1, cell_on hbn hHeld.2.1, cell_on hbn hHeld.2.2.1, cell_on hbn hHeld.2.2.2.1, cell_on hbn hHeld.2.2.2.2.1, cell_on hbn hHeld.2.2.2.2.2.1, cell_on hbn hHeld.2.2.2.2.2.2.1, cell_on hbn hHeld.2.2.2.2.2.2.2.1, tr hHeld.2.2.2.2.2.2.2.2 hbn⟩
    clear hK K
    try simp only [Act.put, List.setIfInBounds_toArray, List.set_cons_zero, List.set_cons_succ]
    refine' wpAnyH_take (i := 36) (oi := _) (v := _) ?hi325 (by kernel_rfl) (by kernel_rfl) (by kernel_rfl) ?hq325 ?hy325 hHeld ?rest325
    case hi325 => (simp only [List.getElem?_toArray, List.getElem?_cons_succ, List.getElem?_cons_zero]; rfl)
    case hq325 => exact fun _ _ _ h => h
    case hy325 => (refine Or.inl ⟨by rfl, ?_⟩; intro ww hSw; (try dsimp only at hSw); go_simp; try with_reducible rfl)
    try simp only [Act.put, List.setIfInBounds_toArray, List.set_cons_zero, List.set_cons_succ]
    refine' wpAnyH_take (i := 37) (oi := _) (v := undef) ?hi326 (by kernel_rfl) (by kernel_rfl) (by kernel_rfl) ?hq326 ?hy326 hHeld ?rest326
    case hi326 => (simp only [List.getElem?_toArray, List.getElem?_cons_succ, List.getElem?_cons_zero]; rfl)
    case hq326 => exact fun _ _ _ h => h
    case hy326 => exact Or.inr ⟨by rfl, rfl⟩
    try simp only [Act.put, List.setIfInBounds_toArray, List.set_cons_zero, List.set_cons_succ]
    refine' wpAnyH_take (i := 38) (oi := _) (v := undef) ?hi327 (by kernel_rfl) (by kernel_rfl) (by kernel_rfl) ?hq327 ?hy327 hHeld ?rest327
    case hi327 => (simp only [List.getElem?_toArray, List.getElem?_cons_succ, List.getElem?_cons_zero]; rfl)
    case hq327 => exact fun _ _ _ h => h
    case hy327 => exact Or.inr ⟨by rfl, rfl⟩
    try simp only [Act.put, List.setIfInBounds_toArray, List.set_cons_zero, List.set_cons_succ]
    refine' wpAnyH_take (i := 39) (oi := _) (v := undef) ?hi328 (by kernel_rfl) (by kernel_rfl) (by kernel_rfl) ?hq328 ?hy328 hHeld ?rest328
    case hi328 => (simp only [List.getElem?_toArray, List.getElem?_cons_succ, List.getElem?_cons_zero]; rfl)
    case hq328 => exact fun _ _ _ h => h
    case hy328 => exact Or.inr ⟨by rfl, rfl⟩
    try simp only [Act.put, List.setIfInBounds_toArray, List.set_cons_zero, List.set_cons_succ]
    refine' wpAnyH_take (i := 40) (oi := _) (v := undef) ?hi329 (by kernel_rfl) (by kernel_rfl) (by kernel_rfl) ?hq329 ?hy329 hHeld ?rest329
    case hi329 => (simp only [List.getElem?_toArray, List.getElem?_cons_succ, List.getElem?_cons_zero]; rfl)
    case hq329 => exact fun _ _ _ h => h
    case hy329 => exact Or.inr ⟨by rfl, rfl⟩
    try simp only [Act.put, List.setIfInBounds_toArray, List.set_cons_zero, List.set_cons_succ]
    refine' wpAnyH_take (i := 41) (oi := _) (v := _) ?hi330 (by kernel_rfl) (by kernel_rfl) (by kernel_rfl) ?hq330 ?hy330 hHeld ?rest330
    case hi330 => (simp only [List.getElem?_toArray, List.getElem?_cons_succ, List.getElem?_cons_zero]; rfl)
    case hq330 => exact fun _ _ _ h => h
    case hy330 => (refine Or.inl ⟨by rfl, ?_⟩; intro ww hSw; (try dsimp only at hSw); go_simp; try with_reducible rfl)
    try simp only [Act.put, List.setIfInBounds_toArray, List.set_cons_zero, List.set_cons_succ]
    refine' wpAnyH_take (i := 42) (oi := _) (v := _) ?hi331 (by kernel_rfl) (by kernel_rfl) (by kernel_rfl) ?hq331 ?hy331 hHeld ?rest331
    case hi331 => (simp only [List.getElem?_toArray, List.getElem?_cons_succ, List.getElem?_cons_zero]; rfl)
    case hq331 => exact fun _ _ _ h => h
    case hy331 => (refine Or.inl ⟨by rfl, ?_⟩; intro ww hSw; (try dsimp only at hSw); go_simp; try with_reducible rfl)
    try simp only [Act.put, List.setIfInBounds_toArray, List.set_cons_zero, List.set_cons_succ]
    refine' wpAnyH_take (i := 43) (oi := _) (v := _) ?hi332 (by kernel_rfl) (by kernel_rfl) (by kernel_rfl) ?hq332 ?hy332 hHeld ?rest332
    case hi332 => (simp only [List.getElem?_toArray, List.getElem?_cons_succ, List.getElem?_cons_zero]; rfl)
    case hq332 => exact fun _ _ _ h => h
    case hy332 => (refine Or.inl ⟨by rfl, ?_⟩; intro ww hSw; (try dsimp only at hSw); go_simp; try with_reducible rfl)
    try simp only [Act.put, List.setIfInBounds_toArray, List.set_cons_zero, List.set_cons_succ]
    refine' wpAnyH_take (i := 44) (oi := _) (v := _) ?hi333 (by kernel_rfl) (by kernel_rfl) (by kernel_rfl) ?hq333 ?hy333 hHeld ?rest333
    case hi333 => (simp only [List.getElem?_toArray, List.getElem?_cons_succ, List.getElem?_cons_zero]; rfl)
    case hq333 => exact fun _ _ _ h => h
    case hy333 => (refine Or.inl ⟨by rfl, ?_⟩; intro ww hSw; (try dsimp only at hSw); go_simp; try with_reducible rfl)
    try simp only [Act.put, List.setIfInBounds_toArray, List.set_cons_zero, List.set_cons_succ]
    refine' wpAnyH_ready (rs := [45]) (by kernel_rfl) (by simp) ?_
    refine' AllReadyH.cons (o := _) ?hi334 (fun K hK => ?st334) AllReadyH.nil
    case hi334 => (simp only [List.getElem?_toArray, List.getElem?_cons_succ, List.getElem?_cons_zero]; rfl)
    go_simp
    (go_at_call 18; refine (awake_is _ trivial).mono ?_; rintro e wn ⟨rfl, hbn⟩)
    try go_wp2_with fail
    refine hK.out _ _ ?_ (fun hHeld => ?_)
    · exact ⟨cell_on hbn hHeld.1, cell_on hbn hHeld.2.1, cell_on hbn hHeld.2.2.1, cell_on hbn hHeld.2.2.2.1, cell_on hbn hHeld.2.2.2.2.1, cell_on hbn hHeld.2.2.2.2.2.1, cell_on hbn hHeld.2.2.2.2.2.2.1, cell_on hbn hHeld.2.2.2.2.2.2.2.1, tr hHeld.2.2.2.2.2.2.2.2 hbn⟩
    clear hK K
    try simp only [Act.put, List.setIfInBounds_toArray, List.set_cons_zero, List.set_cons_succ]
    refine' wpAnyH_take (i := 46) (oi := _) (v := _) ?hi335 (by kernel_rfl) (by kernel_rfl) (by kernel_rfl) ?hq335 ?hy335 hHeld ?rest335
    case hi335 => (simp only [List.getElem?_toArray, List.getElem?_cons_succ, List.getElem?_cons_zero]; rfl)
    case hq335 => exact fun _ _ _ h => h
    case hy335 => (refine Or.inl ⟨by rfl, ?_⟩; intro ww hSw; (try dsimp only at hSw); go_simp; try with_reducible rfl)
    try simp only [Act.put, List.setIfInBounds_toArray, List.set_cons_zero, List.set_cons_succ]
    refine' wpAnyH_take (i := 47) (oi := _) (v := _) ?hi336 (by kernel_rfl) (by kernel_rfl) (by kernel_rfl) ?hq336 ?hy336 hHeld ?rest336
    case hi336 => (simp only [List.getElem?_toArray, List.getElem?_cons_succ, List.getElem?_cons_zero]; rfl)
    case hq336 => exact fun _ _ _ h => h
    case hy336 => (refine Or.inl ⟨by rfl, ?_⟩; intro ww hSw; (try dsimp only at hSw); go_simp; try with_reducible rfl)
    try simp only [Act.put, List.setIfInBounds_toArray, List.set_cons_zero, List.set_cons_succ]
    refine wpAnyH_done (by kernel_rfl) ?_ _
    have hbl := hHeld.2.2.2.2.2.2.2.2
    have HBL := Lib.hid (tr BB.out hbl)
    clear hbl hHeld
    go_wp2_with fail
    go_ret
    exact ⟨rfl, HBL.out⟩

theorem walk_DaterangeSplit (a0 a1 b0 b1 d : Int) (w : World) (he : Env w) : Calls Try.prog 7 #[.agg #[.int .i64 a0, .int .i64 a1], .agg #[.int .i64 b0, .int .i64 b1], .int .i64 d] w (GivesB w true) := by
  obtain ⟨⟨⟨c0, c1⟩, t⟩, h1⟩ : ∃ r, interR (a0, a1) (b0, b1) = r := ⟨_, rfl⟩
  have h1' : interR (b0, b1) (a0, a1) = ((c0, c1), t) := by rw [inter_comm]; exact h1
  obtain ⟨p, h2⟩ : ∃ r, hasR (a0, a1) d = r := ⟨_, rfl⟩
  obtain ⟨q, h3⟩ : ∃ r, hasR (b0, b1) d = r := ⟨_, rfl⟩
  have hin := inter_has (a0, a1) (b0, b1) d
  rw [h1, h2, h3] at hin
  obtain ⟨s1, -, s3, s4⟩ := sub_spec (a0, a1) (b0, b1)
  have s4 := s4 d
  rw [h2, h3] at s4
  cases p
  · exact split_no a0 a1 b0 b1 d c0 c1 t q _ _ _ w he h1 h1' h2 h3 rfl rfl hin s1 rfl s3 s4
  · exact split_yes a0 a1 b0 b1 d c0 c1 t q _ _ _ w he h1 h1' h2 h3 rfl rfl hin s1 rfl s3 s4
end Go.Proofs.Ytpdgdcdoaglimaa.rng
