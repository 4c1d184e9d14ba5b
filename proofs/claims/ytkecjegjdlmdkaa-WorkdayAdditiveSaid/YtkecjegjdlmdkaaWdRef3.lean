/-
  What the reference of chapter 6 answers: Next, Add, Count. The walks.
-/
import Derived.Test.YtkecjegjdlmdkaaWdRef2
namespace Go.Proofs.Ytkecjegjdlmdkaa.wd
open Go Go.RowKit Go.Proofs.Ytkecjegjdlmdkaa.money Go.Proofs.Ytkecjegjdlmdkaa.ints Go.Proofs.Ytkecjegjdlmdkaa.rng
set_option linter.unusedVariables false
set_option linter.unusedSimpArgs false

theorem kept {W w' : World} (hb : Below W.heap.size W w') {b o : Nat} {v : Value} (h : W.cell? ⟨b, o, none⟩ = some v) : w'.cell? ⟨b, o, none⟩ = some v := by
  have hl := World.block_lt_of_cell? _ _ h
  rw [hb.cell (p := ⟨b, o, none⟩) hl]; exact h
theorem kept_al {W : World} {b o : Nat} {v : Value} (ob : Obj) (h : W.cell? ⟨b, o, none⟩ = some v) : (W.alloc ob).cell? ⟨b, o, none⟩ = some v :=
  kept ((Below.refl _ _).alloc (Nat.le_refl _) _) h

set_option maxHeartbeats 1000000 in
theorem rNext_is (wk : Int) (hv : Value) (hs : List Int) (d x e : Int) (w : World) (hi : Ints w hv hs) (h : nextR wk hs d = (x, e)) :
    Calls Try.prog 10 #[.agg #[.int .i64 wk, hv], .int .i64 d] w (Gives w x e) := by
  obtain ⟨A, cp, rfl⟩ := hi.form0
  obtain ⟨n, hn⟩ : ∃ n, hs.length = n := ⟨_, rfl⟩
  rw [hn] at hi ⊢
  have HI := Lib.hid hi
  unfold nextR at h
  obtain ⟨a, ha⟩ : ∃ a, calR wk hs = a := ⟨_, rfl⟩
  obtain ⟨b, hb⟩ : ∃ b, dayR d = b := ⟨_, rfl⟩
  have HA := Lib.hid ha
  have HD := Lib.hid hb
  rw [ha, hb] at h
  cases a
  · cases h
    clear hi hn ha hb
    go_enter Try.func10, Try.ntmps10
    go_wp2_with (go_at_call 12; refine (rCal_is wk _ hs false _ ?_ HA.out).mono ?_; (exact HI.out.below ((Below.refl _ _).alloc (Nat.le_refl _) _)); rintro e w1 ⟨rfl, hb1⟩)
    go_ret2
    exact ⟨rfl, tr ((Below.refl _ _).alloc (Nat.le_refl _) _) hb1⟩
  · cases b
    · cases h
      clear hi hn ha hb
      go_enter Try.func10, Try.ntmps10
      go_wp2_with (first
        | (go_at_call 12; refine (rCal_is wk _ hs true _ ?_ HA.out).mono ?_; (exact HI.out.below ((Below.refl _ _).alloc (Nat.le_refl _) _)); rintro e w1 ⟨rfl, hb1⟩)
        | (go_at_call 19; refine (rDay_is d false _ HD.out).mono ?_; rintro e w2 ⟨rfl, rfl⟩)
        | fail)
      go_ret2
      exact ⟨rfl, tr ((Below.refl _ _).alloc (Nat.le_refl _) _) hb1⟩
    · have hd := (day_iff d).1 hb
      rw [if_neg (by decide), if_neg (by decide)] at h
      have H := Lib.hid h
      obtain ⟨d0, d1⟩ := hd
      clear h hi hn ha hb
      go_enter Try.func10, Try.ntmps10
      go_wp2_with (first
        | (go_at_call 12; refine (rCal_is wk _ hs true _ ?_ HA.out).mono ?_; (exact HI.out.below ((Below.refl _ _).alloc (Nat.le_refl _) _)); rintro e w1 ⟨rfl, hb1⟩; have k0 := kept hb1 (b := w.heap.size) (o := 0) (v := .int .i64 wk) (by simp [go_sem]); have k1 := kept hb1 (b := w.heap.size) (o := 1) (v := .slice A n cp) (by simp [go_sem]); have B1 := Lib.hid (tr ((Below.refl _ _).alloc (Nat.le_refl _) _) hb1))
        | (go_at_call 19; refine (rDay_is d true _ HD.out).mono ?_; rintro e w2 ⟨rfl, rfl⟩)
        | fail)
      clear hb1
      go_loopw [1] (fun i wr => ∃ y : Int, i = .int .i64 y ∧ 0 ≤ y ∧ y ≤ 109573 ∧ nextFrom wk hs (109573 - y).toNat y = (x, e) ∧ Below w1.heap.size w1 wr) (fun i _ => (109573 - intOf i).toNat)
      case atStart => exact ⟨d, rfl, d0, by omega, H.out, Below.refl _ _⟩
      case round =>
        obtain ⟨y, rfl, y0, y1, hy, hbr⟩ := hrel
        have m0 := kept hbr k0
        have m1 := kept hbr k1
        have HBR := Lib.hid hbr
        clear hbr
        by_cases hlt : y ≤ 109572
        · rw [show (109573 - y).toNat = (109573 - (y + 1)).toNat + 1 by omega, nextFrom] at hy
          obtain ⟨q, hq⟩ : ∃ q, wdR wk hs y = q := ⟨_, rfl⟩
          have HQ := Lib.hid hq
          rw [hq] at hy
          have HY := Lib.hid hy
          clear hq hy
          cases q
          · go_wp2_with (go_at_call 14; refine (rWd_is wk _ hs y false _ ?_ HQ.out).mono ?_; (exact HI.out.below (tr B1.out HBR.out)); rintro e w3 ⟨rfl, hb3⟩)
            go_roundw
            case rel => exact ⟨y + 1, by go_num, by omega, by omega, HY.out, tr HBR.out hb3⟩
            case measure => simp [intOf]; omega
          · have he := HY.out
            rw [if_pos rfl] at he
            have hxy : x = y := (Prod.mk.inj he).1.symm
            have hee : e = 0 := (Prod.mk.inj he).2.symm
            subst hxy hee
            clear he HY
            go_wp2_with (go_at_call 14; refine (rWd_is wk _ hs _ true _ ?_ HQ.out).mono ?_; (exact HI.out.below (tr B1.out HBR.out)); rintro e w3 ⟨rfl, hb3⟩)
            go_ret2
            exact ⟨rfl, tr B1.out (tr HBR.out hb3)⟩
        · obtain rfl : y = 109573 := by omega
          rw [show ((109573 : Int) - 109573).toNat = 0 from rfl, nextFrom] at hy
          cases hy
          go_wp2
          go_ret2
          exact ⟨rfl, tr B1.out HBR.out⟩

set_option maxHeartbeats 2000000 in
theorem rAdd_is (wk : Int) (hv : Value) (hs : List Int) (d n x e : Int) (w : World) (hi : Ints w hv hs) (h : addR wk hs d n = (x, e)) :
    Calls Try.prog 16 #[.agg #[.int .i64 wk, hv], .int .i64 d, .int .i64 n] w (Gives w x e) := by
  obtain ⟨A, cp, rfl⟩ := hi.form0
  obtain ⟨ln, hn⟩ : ∃ n, hs.length = n := ⟨_, rfl⟩
  rw [hn] at hi ⊢
  have HI := Lib.hid hi
  unfold addR at h
  obtain ⟨a, ha⟩ : ∃ a, calR wk hs = a := ⟨_, rfl⟩
  obtain ⟨b, hb⟩ : ∃ b, dayR d = b := ⟨_, rfl⟩
  have HA := Lib.hid ha
  have HD := Lib.hid hb
  rw [ha, hb] at h
  cases a
  · cases h
    clear hi hn ha hb
    go_enter Try.func16, Try.ntmps16
    go_wp2_with (go_at_call 12; refine (rCal_is wk _ hs false _ ?_ HA.out).mono ?_; (exact HI.out.below ((Below.refl _ _).alloc (Nat.le_refl _) _)); rintro e w1 ⟨rfl, hb1⟩)
    go_ret2
    exact ⟨rfl, tr ((Below.refl _ _).alloc (Nat.le_refl _) _) hb1⟩
  · rw [if_neg (by decide)] at h
    by_cases hout : b = false ∨ n < 0 ∨ 365 < n
    · have : (!b || decide (n < 0) || decide (365 < n)) = true := by
        simp only [Bool.or_eq_true, Bool.not_eq_true', decide_eq_true_eq]
        rcases hout with h | h | h
        · exact .inl (.inl h)
        · exact .inl (.inr h)
        · exact .inr h
      rw [this, if_pos rfl] at h
      cases h
      clear this
      have h3 : b = false ∨ (b = true ∧ n < 0) ∨ (b = true ∧ ¬ n < 0 ∧ 365 < n) := by
        cases b
        · exact .inl rfl
        · right
          by_cases g : n < 0
          · exact .inl ⟨rfl, g⟩
          · refine .inr ⟨rfl, g, ?_⟩
            rcases hout with h | h | h
            · cases h
            · exact absurd h g
            · exact h
      clear hi hn ha hb hout
      rcases h3 with rfl | ⟨rfl, g⟩ | ⟨rfl, g, g2⟩
      · go_enter Try.func16, Try.ntmps16
        go_wp2_with (first
          | (go_at_call 12; refine (rCal_is wk _ hs true _ ?_ HA.out).mono ?_; (exact HI.out.below ((Below.refl _ _).alloc (Nat.le_refl _) _)); rintro e w1 ⟨rfl, hb1⟩)
          | (go_at_call 19; refine (rDay_is d false _ HD.out).mono ?_; rintro e w2 ⟨rfl, rfl⟩)
          | fail)
        go_ret2
        exact ⟨rfl, tr ((Below.refl _ _).alloc (Nat.le_refl _) _) hb1⟩
      all_goals
        go_enter Try.func16, Try.ntmps16
        go_wp2_with (first
          | (go_at_call 12; refine (rCal_is wk _ hs true _ ?_ HA.out).mono ?_; (exact HI.out.below ((Below.refl _ _).alloc (Nat.le_refl _) _)); rintro e w1 ⟨rfl, hb1⟩)
          | (go_at_call 19; refine (rDay_is d true _ HD.out).mono ?_; rintro e w2 ⟨rfl, rfl⟩)
          | fail)
        go_ret2
        exact ⟨rfl, tr ((Below.refl _ _).alloc (Nat.le_refl _) _) hb1⟩
    · obtain rfl : b = true := by cases b <;> simp at hout ⊢
      have n0 : ¬ n < 0 := fun g => hout (.inr (.inl g))
      have n1 : ¬ 365 < n := fun g => hout (.inr (.inr g))
      rw [decide_eq_false n0, decide_eq_false n1, if_neg (by decide)] at h
      obtain ⟨d0, d1⟩ := (day_iff d).1 hb
      by_cases hz : n = 0
      · rw [if_pos hz] at h
        subst hz
        have H := Lib.hid h
        clear h hi hn ha hb hout n0 n1
        go_enter Try.func16, Try.ntmps16
        go_wp2_with (first
          | (go_at_call 12; refine (rCal_is wk _ hs true _ ?_ HA.out).mono ?_; (exact HI.out.below ((Below.refl _ _).alloc (Nat.le_refl _) _)); rintro e w1 ⟨rfl, hb1⟩; have k0 := kept hb1 (b := w.heap.size) (o := 0) (v := .int .i64 wk) (by simp [go_sem]); have k1 := kept hb1 (b := w.heap.size) (o := 1) (v := .slice A ln cp) (by simp [go_sem]); have B1 := Lib.hid (tr ((Below.refl _ _).alloc (Nat.le_refl _) _) hb1))
          | (go_at_call 19; refine (rDay_is d true _ HD.out).mono ?_; rintro e w2 ⟨rfl, rfl⟩)
          | (go_at_call 10; refine (rNext_is wk _ hs d x e _ ?_ H.out).mono ?_; (exact HI.out.below B1.out); rintro e w3 ⟨rfl, hb3⟩)
          | fail)
        go_ret2
        exact ⟨rfl, tr B1.out hb3⟩
      · rw [if_neg hz] at h
        have nz : (n == 0) = false := by simpa using hz
        have n2 : 1 ≤ n := by omega
        have n3 : n ≤ 365 := by omega
        have H := Lib.hid h
        clear h hi hn ha hb hout
        go_enter Try.func16, Try.ntmps16
        go_wp2_with (first
          | (go_at_call 12; refine (rCal_is wk _ hs true _ ?_ HA.out).mono ?_; (exact HI.out.below ((Below.refl _ _).alloc (Nat.le_refl _) _)); rintro e w1 ⟨rfl, hb1⟩; have k0 := kept hb1 (b := w.heap.size) (o := 0) (v := .int .i64 wk) (by simp [go_sem]); have k1 := kept hb1 (b := w.heap.size) (o := 1) (v := .slice A ln cp) (by simp [go_sem]); have B1 := Lib.hid (tr ((Below.refl _ _).alloc (Nat.le_refl _) _) hb1))
          | (go_at_call 19; refine (rDay_is d true _ HD.out).mono ?_; rintro e w2 ⟨rfl, rfl⟩)
          | fail)
        clear hb1
        go_loopw [1, 2] (fun i m wr => ∃ y z : Int, i = .int .i64 y ∧ m = .int .i64 z ∧ 0 ≤ y ∧ y ≤ 109572 ∧ 1 ≤ z ∧ z ≤ 365 ∧ addFrom wk hs (109572 - y).toNat y z = (x, e) ∧ Below w1.heap.size w1 wr) (fun i _ _ => (109572 - intOf i).toNat)
        case atStart => exact ⟨d, n, rfl, rfl, d0, d1, n2, n3, H.out, Below.refl _ _⟩
        case round =>
          obtain ⟨y, z, rfl, rfl, y0, y1, z0, z1, hy, hbr⟩ := hrel
          have m0 := kept hbr k0
          have m1 := kept hbr k1
          have HBR := Lib.hid hbr
          clear hbr
          by_cases hlt : y < 109572
          · rw [show (109572 - y).toNat = (109572 - (y + 1)).toNat + 1 by omega, addFrom] at hy
            obtain ⟨q, hq⟩ : ∃ q, wdR wk hs (y + 1) = q := ⟨_, rfl⟩
            have HQ := Lib.hid hq
            rw [hq] at hy
            have HY := Lib.hid hy
            clear hq hy
            cases q
            · go_wp2_with (go_at_call 14; refine (rWd_is wk _ hs (y + 1) false _ ?_ HQ.out).mono ?_; (exact HI.out.below (tr B1.out HBR.out)); rintro e w3 ⟨rfl, hb3⟩)
              go_roundw
              case rel => exact ⟨y + 1, z, by go_num, rfl, by omega, by omega, z0, z1, HY.out, tr HBR.out hb3⟩
              case measure => simp [intOf]; omega
            · by_cases hz1 : z = 1
              · subst hz1
                have he := HY.out
                rw [if_pos rfl, if_pos rfl] at he
                cases he
                go_wp2_with (go_at_call 14; refine (rWd_is wk _ hs (y + 1) true _ ?_ HQ.out).mono ?_; (exact HI.out.below (tr B1.out HBR.out)); rintro e w3 ⟨rfl, hb3⟩)
                go_ret2
                exact ⟨rfl, tr B1.out (tr HBR.out hb3)⟩
              · have he := HY.out
                rw [if_pos rfl, if_neg hz1] at he
                have HE := Lib.hid he
                have zn : (z - 1 == 0) = false := by simp; omega
                have zn2 : ¬ z - 1 = 0 := by omega
                clear he
                go_wp2_with (go_at_call 14; refine (rWd_is wk _ hs (y + 1) true _ ?_ HQ.out).mono ?_; (exact HI.out.below (tr B1.out HBR.out)); rintro e w3 ⟨rfl, hb3⟩)
                go_roundw
                case rel => exact ⟨y + 1, z - 1, by go_num, by go_num, by omega, by omega, by omega, by omega, HE.out, tr HBR.out hb3⟩
                case measure => simp [intOf]; omega
          · obtain rfl : y = 109572 := by omega
            rw [show ((109572 : Int) - 109572).toNat = 0 from rfl, addFrom] at hy
            cases hy
            go_wp2
            go_ret2
            exact ⟨rfl, tr B1.out HBR.out⟩
end Go.Proofs.Ytkecjegjdlmdkaa.wd
