/-
  What the reference of chapter 6 answers: a day, a valid calendar. The walks.
-/
import Derived.Test.YtmmohbmgodiilaaDoorPa
import Derived.Test.YtmmohbmgodiilaaDoorQIntv
import Derived.Test.YtmmohbmgodiilaaDoorQWalkBase
import Derived.Test.YtmmohbmgodiilaaDoorQRngVal
namespace Go.Proofs.YtmmohbmgodiilaaDoor.wd
open Go Go.RowKit Go.Proofs.YtmmohbmgodiilaaDoor.money Go.Proofs.YtmmohbmgodiilaaDoor.ints Go.Proofs.YtmmohbmgodiilaaDoor.rng
set_option linter.unusedVariables false
set_option linter.unusedSimpArgs false

theorem rDay_is (d : Int) (b : Bool) (w : World) (h : dayR d = b) : Calls Tryd.prog 52 #[.int .i64 d] w fun e w' => e = .returned (.bool b) ∧ w = w' := by
  have H := Lib.hid h
  clear h
  go_enter Tryd.func52, Tryd.ntmps52
  go_wp2
  all_goals go_ret
  all_goals refine ⟨ref_bool ?_, rfl⟩
  all_goals rw [← H.out]; unfold dayR
  all_goals (first | (simp; done) | (simp_all; done) | (simp_all; omega))

/-- the place before index k holds p (-1 at the start) -/
def At (hs : List Int) (k : Nat) (p : Int) : Prop := (k = 0 ∧ p = -1) ∨ (0 < k ∧ hs[k - 1]? = some p ∧ 0 ≤ p)
theorem At.ge {hs : List Int} {k : Nat} {p : Int} (h : At hs k p) : -1 ≤ p := by rcases h with ⟨_, rfl⟩ | ⟨_, _, h⟩ <;> omega
theorem At.next {hs : List Int} {k : Nat} {x : Int} (h : hs[k]? = some x) (h0 : 0 ≤ x) : At hs (k + 1) x := .inr ⟨by omega, by simpa using h, h0⟩
theorem drop_at {l : List Int} {i : Nat} {z : Int} (h : l[i]? = some z) : l.drop i = z :: l.drop (i + 1) := by
  obtain ⟨hl, he⟩ := List.getElem?_eq_some_iff.1 h
  rw [List.drop_eq_getElem_cons hl, he]

def calV (wk : Int) (hv : Value) : Value := .agg #[.int .i64 wk, hv]
abbrev boxed (w : World) (wk : Int) (hv : Value) : World := w.alloc (.cells #[.int .i64 wk, hv] 33)
theorem box_below (w : World) (wk : Int) (hv : Value) (m : Nat) : Below w.heap.size w ((boxed w wk hv).drewN m) := below_drewN ((Below.refl _ _).alloc (Nat.le_refl _) _) m

set_option maxHeartbeats 2000000 in
theorem rCal_is (wk : Int) (hv : Value) (hs : List Int) (c : Bool) (w : World) (hi : Ints w hv hs) (h : calR wk hs = c) :
    Calls Tryd.prog 34 #[.agg #[.int .i64 wk, hv]] w (GivesB w c) := by
  obtain ⟨A, cp, rfl⟩ := hi.form0
  obtain ⟨n, hn⟩ : ∃ n, hs.length = n := ⟨_, rfl⟩
  have HI := Lib.hid hi
  have HN := Lib.hid hn
  unfold calR at h
  rw [hn] at h ⊢
  by_cases h0 : wk < 0
  · have H := Lib.hid (show false = c by rw [← h, decide_eq_false (by omega : ¬ 0 ≤ wk)]; rfl)
    clear h hi hn
    go_enter Tryd.func34, Tryd.ntmps34
    go_wp2
    go_ret
    exact ⟨ref_bool H.out, box_below _ _ _ 0⟩
  · by_cases h1 : 126 < wk
    · have H := Lib.hid (show false = c by rw [← h, decide_eq_false (by omega : ¬ wk ≤ 126)]; simp)
      clear h hi hn
      go_enter Tryd.func34, Tryd.ntmps34
      go_wp2
      go_ret
      exact ⟨ref_bool H.out, box_below _ _ _ 0⟩
    · by_cases h2 : (64 : Int) < n
      · have H := Lib.hid (show false = c by rw [← h, decide_eq_false (by omega : ¬ n ≤ 64)]; simp)
        have h3 : 64 < n := by omega
        clear h hi hn
        go_enter Tryd.func34, Tryd.ntmps34
        go_wp2
        go_ret
        exact ⟨ref_bool H.out, box_below _ _ _ 0⟩
      · have h3 : ¬ 64 < n := by omega
        rw [decide_eq_true (by omega : 0 ≤ wk), decide_eq_true (by omega : wk ≤ 126), decide_eq_true (by omega : n ≤ 64), Bool.and_self, Bool.and_self, Bool.true_and] at h
        have H := Lib.hid h
        clear h hi hn
        go_enter Tryd.func34, Tryd.ntmps34
        go_wp2
        have b0 := box_below w wk (.slice A n cp) 0
        have b1 : (boxed w wk (.slice A n cp)).cell? ⟨w.heap.size, 1, none⟩ = some (.slice A n cp) := by simp [go_sem]
        have hz : w.heap.size < (boxed w wk (.slice A n cp)).heap.size := by simp
        generalize hW : w.alloc (.cells #[.int .i64 wk, .slice A n cp] 33) = W0
        rw [show (boxed w wk (.slice A n cp)).drewN 0 = W0 from hW] at b0
        rw [show boxed w wk (.slice A n cp) = W0 from hW] at b1 hz
        have HB := Lib.hid b0
        clear b0 hW
        go_loopw [3] (fun i wr => ∃ (k m : Nat) (p : Int), k ≤ n ∧ i = .int .i64 k ∧ wr = W0.drewN m ∧ At hs k p ∧ upR p (hs.drop k) = c) (fun i _ => n - (intOf i).toNat)
        case atStart => exact ⟨0, 0, -1, Nat.zero_le _, rfl, rfl, .inl ⟨rfl, rfl⟩, by simpa using H.out⟩
        case round =>
          obtain ⟨k, m, p, hk, rfl, rfl, hp, hu⟩ := hrel
          by_cases hlt : k < n
          · obtain ⟨g, off, cp', hv', hg, hc⟩ := HI.out.form (by have := HN.out; omega)
            simp only [Value.slice.injEq] at hv'
            obtain ⟨rfl, -, -⟩ := hv'
            obtain ⟨x, hx⟩ : ∃ x, hs[k]? = some x := ⟨_, List.getElem?_eq_getElem (by have := HN.out; omega)⟩
            have bb := HB.out
            have c0 : W0.cell? ⟨g, off + k, none⟩ = some (.int .i64 x) := by
              rw [bb.cell (p := ⟨g, off + k, none⟩) hg]; exact hc k x hx
            rw [drop_at hx, upR] at hu
            have HX := Lib.hid hx
            have HP := Lib.hid hp
            have hge := hp.ge
            obtain ⟨dx, hdx⟩ : ∃ b, dayR x = b := ⟨_, rfl⟩
            have HD := Lib.hid hdx
            cases dx
            · have hno : false = c := by
                rw [← hu]
                rcases Int.lt_or_le 109572 x with g1 | g1
                · rw [decide_eq_false (by omega : ¬ x ≤ 109572)]; simp
                · rw [decide_eq_false (show ¬ p < x from fun g2 => by
                    have : dayR x = true := by rw [day_iff]; omega
                    rw [hdx] at this; cases this)]; simp
              have HO := Lib.hid hno
              clear hno hu hp hx hdx hge hc bb
              go_wp2_with fail
              go_quiet (first | (go_at_call 52; with_reducible exact quiet_more (rDay_is x false _ HD.out)) | (go_at_call 52; with_reducible exact quiet_eq (rDay_is x false _ HD.out)))
              go_wp2
              go_ret
              exact ⟨ref_bool HO.out, below_drewN (below_drewN HB.out _) _⟩
            · have hd2 := (day_iff x).1 hdx
              rw [decide_eq_true (by omega : x ≤ 109572), Bool.and_true] at hu
              by_cases hk0 : k = 0
              · subst hk0
                have hp1 : p = -1 := by rcases hp with ⟨_, h⟩ | ⟨h, _⟩ <;> omega
                rw [decide_eq_true (by omega : p < x), Bool.true_and] at hu
                have HU := Lib.hid hu
                have HA := Lib.hid (At.next hx hd2.1)
                replace c0 : W0.cell? ⟨g, off, none⟩ = some (.int .i64 x) := by simpa using c0
                have d1 : decide ((0 : Int) < 0) = false := by decide
                have d2 : decide (0 < 0) = false := by decide
                clear hu hp hx hdx hge hc bb hd2 hp1
                go_wp2_with fail
                go_quiet (first | (go_at_call 52; with_reducible exact quiet_more (rDay_is x true _ HD.out)) | (go_at_call 52; with_reducible exact quiet_eq (rDay_is x true _ HD.out)))
                go_wp2
                go_roundw
                case rel => exact ⟨0 + 1, _, x, by omega, by go_num, rfl, HA.out, HU.out⟩
                case measure => simp [intOf]; omega
              · have hpk : hs[k - 1]? = some p := by rcases hp with ⟨h, _⟩ | ⟨_, h, _⟩ <;> first | exact h | omega
                have c1 : W0.cell? ⟨g, off + (k - 1), none⟩ = some (.int .i64 p) := by
                  rw [bb.cell (p := ⟨g, off + (k - 1), none⟩) hg]; exact hc (k - 1) p hpk
                obtain ⟨j, hj⟩ : ∃ j : Nat, k - 1 = j := ⟨_, rfl⟩
                rw [hj] at c1
                have jk : (k : Int) - 1 = j := by omega
                have jn : (j : Int) < n := by omega
                have jp : (0 : Int) ≤ j := by omega
                have kd : decide ((0 : Int) < (k : Int)) = true := by simp; omega
                have kdn : decide (0 < k) = true := by simp; omega
                have kp : (0 : Int) < k := by omega
                have HA := Lib.hid (At.next hx hd2.1)
                by_cases hpx : p < x
                · rw [decide_eq_true hpx, Bool.true_and] at hu
                  have HU := Lib.hid hu
                  have d1 : decide (x ≤ p) = false := by simp; omega
                  clear hu hp hx hdx hge hc bb hd2 hpk hj
                  have jw3 : wrap64 (j : Int) = (j : Int) := IntWalk.wrap64_in _ ⟨by omega, by omega⟩
                  have jw4 : IntKind.i64.wrap (j : Int) = (j : Int) := i64_in (by omega) (by omega)
                  go_wp2_with fail
                  go_quiet (first | (go_at_call 52; with_reducible exact quiet_more (rDay_is x true _ HD.out)) | (go_at_call 52; with_reducible exact quiet_eq (rDay_is x true _ HD.out)))
                  go_wp2
                  go_roundw
                  case rel => exact ⟨k + 1, _, x, by omega, by go_num, rfl, HA.out, HU.out⟩
                  case measure => simp [intOf]; omega
                · rw [decide_eq_false hpx, Bool.false_and] at hu
                  have HU := Lib.hid hu
                  have d1 : decide (x ≤ p) = true := by simp; omega
                  clear hu hp hx hdx hge hc bb hd2 hpk hj
                  have jw3 : wrap64 (j : Int) = (j : Int) := IntWalk.wrap64_in _ ⟨by omega, by omega⟩
                  have jw4 : IntKind.i64.wrap (j : Int) = (j : Int) := i64_in (by omega) (by omega)
                  go_wp2_with fail
                  go_quiet (first | (go_at_call 52; with_reducible exact quiet_more (rDay_is x true _ HD.out)) | (go_at_call 52; with_reducible exact quiet_eq (rDay_is x true _ HD.out)))
                  go_wp2
                  go_ret
                  exact ⟨ref_bool HU.out, below_drewN (below_drewN HB.out _) _⟩
          · obtain rfl : k = n := by omega
            rw [List.drop_of_length_le (by have := HN.out; omega), upR] at hu
            have HU := Lib.hid hu
            clear hu
            go_wp2
            go_ret
            exact ⟨ref_bool HU.out, below_drewN HB.out _⟩
end Go.Proofs.YtmmohbmgodiilaaDoor.wd
