/-
  The laws DaterangePartition and DaterangeUnion walked.
-/
import Derived.Test.YtpdgdcdoaglimaaRngLaw2
import Derived.Test.YtpdgdcdoaglimaaRngNorm
namespace Go.Proofs.Ytpdgdcdoaglimaa.rng
open Go Go.RowKit Go.Proofs.Ytpdgdcdoaglimaa.money Go.Proofs.Ytpdgdcdoaglimaa.ints
set_option linter.unusedVariables false
set_option linter.unusedSimpArgs false

theorem putA_up : ∀ (l : List R) (r : R), r.2 ≤ (putA l r).2.2
  | [], r => Int.le_refl _
  | x :: l, r => by
    unfold putA
    split
    · exact putA_up l r
    · split
      · have := putA_up l (min r.1 x.1, max r.2 x.2)
        simp only at this; omega
      · exact putA_up l r
theorem putA_count : ∀ (l : List R) (r : R), (∀ y ∈ l, y.1 < y.2) → r.1 < r.2 → (putA l r).1.length + (l.filter fun x => decide ((putA l r).2.2 < x.1)).length ≤ l.length
  | [], r, _, _ => by simp [putA]
  | x :: l, r, h, hr => by
    have hx := h x (by simp)
    have hl : ∀ y ∈ l, y.1 < y.2 := fun y hy => h y (by simp [hy])
    unfold putA
    split
    · rename_i g
      have h1 := putA_count l r hl hr
      have h2 := putA_up l r
      rw [List.filter_cons_of_neg (by simp; omega)]
      simp only [List.length_cons]; omega
    · split
      · have h1 := putA_count l (min r.1 x.1, max r.2 x.2) hl (by simp only; omega)
        rw [List.filter_cons]
        split
        · simp only [List.length_cons]; omega
        · simp only [List.length_cons]; omega
      · have h1 := putA_count l r hl hr
        rw [List.filter_cons]
        split
        · simp only [List.length_cons]; omega
        · simp only [List.length_cons]; omega
theorem union_count : ∀ (l o : List R), Norm o → (l.foldl (fun o x => if neR x then putR o x else o) o).length ≤ o.length + l.length
  | [], o, h => by simp
  | x :: l, o, h => by
    rw [List.foldl_cons]
    cases hx : neR x
    · rw [if_neg (by decide)]
      have := union_count l o h
      simp only [List.length_cons]; omega
    · rw [if_pos rfl]
      have hn := (union_from [x] o h).1
      rw [List.foldl_cons, hx, if_pos rfl] at hn
      have h1 := union_count l (putR o x) hn
      have h2 := putA_count o x (fun y hy => ((ne_iff y).1 (h.1 y hy)).2.1) ((ne_iff x).1 hx).2.1
      have h3 : (putR o x).length ≤ o.length + 1 := by
        unfold putR; rw [List.length_append, List.length_cons]; omega
      simp only [List.length_cons]; omega
theorem union_length (l : List R) : (unionR l).length ≤ l.length := by
  have := union_count l [] .nil
  simpa [unionR] using this

theorem few_true {l : List R} (h : decide (l.length ≤ 100) = true) : l.length ≤ 100 := of_decide_eq_true h

set_option maxHeartbeats 4000000 in
theorem walk_DaterangePartition (vl : Value) (l : List R) (a0 a1 d : Int) (w : World) (hl : Rgs w vl l) (he : Env w) : Calls Try.prog 5 #[vl, .agg #[.int .i64 a0, .int .i64 a1], .int .i64 d] w (GivesB w true) := by
  obtain ⟨g, h2⟩ : ∃ r, gapsR l (a0, a1) = r := ⟨_, rfl⟩
  obtain ⟨p, h3⟩ : ∃ r, hasR (a0, a1) d = r := ⟨_, rfl⟩
  obtain ⟨q, h4⟩ : ∃ r, covers l d = r := ⟨_, rfl⟩
  obtain ⟨s, h5⟩ : ∃ r, covers g d = r := ⟨_, rfl⟩
  have hs : s = (p && !q) := by rw [← h5, ← h2, gaps_covers, h3, h4]
  have HN' := Lib.hid (show Norm g by rw [← h2]; exact gaps_norm l (a0, a1))
  have H2 := Lib.hid h2
  have H3 := Lib.hid h3
  have H4 := Lib.hid h4
  have H5 := Lib.hid h5
  have HL := Lib.hid hl
  clear h2 h3 h4 h5
  cases hf : decide (l.length ≤ 100)
  · have HF := Lib.hid hf
    clear hf hl hs
    go_enter Try.func5, Try.ntmps5
    go_wp2_with (first
      | (go_at_call 19; (with_reducible refine (few_is _ l false _ ?_ HF.out).mono ?_); (exact HL.out.below (al (Below.refl _ _) _)); rintro e w1 ⟨rfl, rfl⟩)
      | (go_at_call 18; (with_reducible refine (awake_is _ ?_).mono ?_); (exact trivial); rintro e w2 ⟨rfl, hb2⟩)
      | fail)
    go_ret
    exact ⟨rfl, tr (al (Below.refl _ _) _) hb2⟩
  · have HF := Lib.hid hf
    have HN := Lib.hid (few_true hf)
    clear hf hl
    subst hs
    have BB := Lib.hid (al (Below.refl w.heap.size w) (.cells #[.int .i64 a0, .int .i64 a1] 23))
    have n0 : (w.alloc (.cells #[.int .i64 a0, .int .i64 a1] 23)).cell? ⟨w.heap.size, 0, none⟩ = some (.int .i64 a0) := by simp [go_sem]
    have n1 : (w.alloc (.cells #[.int .i64 a0, .int .i64 a1] 23)).cell? ⟨w.heap.size, 1, none⟩ = some (.int .i64 a1) := by simp [go_sem]
    cases p <;> cases q
    all_goals
      go_enter Try.func5, Try.ntmps5
      go_wp2_with (first
        | (go_at_call 19; (with_reducible refine (few_is _ l true _ ?_ HF.out).mono ?_); (exact HL.out.below (al (Below.refl _ _) _)); rintro e w1 ⟨rfl, rfl⟩)
        | (go_at_call 22; (with_reducible refine (Gaps_is _ l a0 a1 g _ ?_ ?_ HN.out H2.out).mono ?_); (exact trivial); (exact HL.out.below BB.out); rintro e w2 ⟨v2, rfl, hr2, hb2⟩; have m0 := cell_on hb2 n0; have m1 := cell_on hb2 n1; have BB := Lib.hid (tr BB.out hb2); have HR := Lib.hid hr2; clear n0 n1)
        | (go_at_call 13; (with_reducible refine (Contains_is a0 a1 d _ _ ?_ H3.out).mono ?_); (exact trivial); rintro e w3 ⟨rfl, hb3⟩; have BB := Lib.hid (tr BB.out hb3); have HR := Lib.hid (HR.out.below hb3))
        | (go_at_call 27; (with_reducible refine (normal_is _ g _ HR.out HN'.out).mono ?_); rintro e w4 ⟨rfl, hb4⟩; have BB := Lib.hid (tr BB.out hb4); have HR := Lib.hid (HR.out.below hb4))
        | (go_at_call 28; (with_reducible refine (contains_is _ g d _ _ ?_ HR.out H5.out).mono ?_); (exact trivial); rintro e w5 ⟨rfl, hb5⟩; have BB := Lib.hid (tr BB.out hb5))
        | (go_at_call 28; (with_reducible refine (contains_is _ l d _ _ ?_ (HL.out.below BB.out) H4.out).mono ?_); (exact trivial); rintro e w6 ⟨rfl, hb6⟩; have BB := Lib.hid (tr BB.out hb6))
        | (go_at_call 18; (with_reducible refine (awake_is _ ?_).mono ?_); (exact trivial); rintro e w7 ⟨rfl, hb7⟩; have BB := Lib.hid (tr BB.out hb7))
        | fail)
      go_ret
      exact ⟨rfl, BB.out⟩

set_option maxHeartbeats 4000000 in
theorem walk_DaterangeUnion (vl : Value) (l : List R) (d : Int) (w : World) (hl : Rgs w vl l) (he : Env w) : Calls Try.prog 6 #[vl, .int .i64 d] w (GivesB w true) := by
  obtain ⟨g, h2⟩ : ∃ r, unionR l = r := ⟨_, rfl⟩
  obtain ⟨q, h4⟩ : ∃ r, covers l d = r := ⟨_, rfl⟩
  have h5 : covers g d = q := by rw [← h2, union_covers, h4]
  have hn : Norm g := by rw [← h2]; exact union_norm l
  have h6 : unionR g = g := union_is hn (fun _ => rfl)
  have HN' := Lib.hid hn
  have H2 := Lib.hid h2
  have H4 := Lib.hid h4
  have H5 := Lib.hid h5
  have H6 := Lib.hid h6
  have HL := Lib.hid hl
  clear h2 h4 h5 hn h6
  cases hf : decide (l.length ≤ 100)
  · have HF := Lib.hid hf
    clear hf hl
    go_enter Try.func6, Try.ntmps6
    go_wp2_with (first
      | (go_at_call 19; (with_reducible refine (few_is _ l false _ HL.out HF.out).mono ?_); rintro e w1 ⟨rfl, rfl⟩)
      | (go_at_call 18; (with_reducible refine (awake_is _ ?_).mono ?_); (exact trivial); rintro e w2 ⟨rfl, hb2⟩)
      | fail)
    go_ret
    exact ⟨rfl, hb2⟩
  · have HF := Lib.hid hf
    have HN := Lib.hid (few_true hf)
    have HM := Lib.hid (show g.length ≤ 100 by rw [← H2.out]; exact Nat.le_trans (union_length l) (few_true hf))
    clear hf hl
    have BB := Lib.hid (Below.refl w.heap.size w)
    cases q
    all_goals
      go_enter Try.func6, Try.ntmps6
      go_wp2_with (first
        | (go_at_call 19; (with_reducible refine (few_is _ l true _ HL.out HF.out).mono ?_); rintro e w1 ⟨rfl, rfl⟩)
        | (go_at_call 20; (with_reducible refine (Union_is _ l g _ ?_ (HL.out.below BB.out) HN.out H2.out).mono ?_); (exact trivial); rintro e w2 ⟨v2, rfl, hr2, hb2⟩; have BB := Lib.hid (tr BB.out hb2); have HR := Lib.hid hr2)
        | (go_at_call 27; (with_reducible refine (normal_is _ g _ HR.out HN'.out).mono ?_); rintro e w4 ⟨rfl, hb4⟩; have BB := Lib.hid (tr BB.out hb4); have HR := Lib.hid (HR.out.below hb4))
        | (go_at_call 28; (with_reducible refine (contains_is _ g d _ _ ?_ HR.out H5.out).mono ?_); (exact trivial); rintro e w5 ⟨rfl, hb5⟩; have BB := Lib.hid (tr BB.out hb5); have HR := Lib.hid (HR.out.below hb5))
        | (go_at_call 28; (with_reducible refine (contains_is _ l d _ _ ?_ (HL.out.below BB.out) H4.out).mono ?_); (exact trivial); rintro e w6 ⟨rfl, hb6⟩; have BB := Lib.hid (tr BB.out hb6); have HR := Lib.hid (HR.out.below hb6))
        | (go_at_call 20; (with_reducible refine (Union_is _ g g _ ?_ HR.out HM.out H6.out).mono ?_); (exact trivial); rintro e w8 ⟨v8, rfl, hr8, hb8⟩; have BB := Lib.hid (tr BB.out hb8); have HR := Lib.hid (HR.out.below hb8); have HR8 := Lib.hid hr8)
        | (go_at_call 15; (with_reducible refine (DateRanges_is _ _ g g true _ ?_ ?_ (by simp)).mono ?_); (exact HR8.out); (exact HR.out); rintro e w9 ⟨rfl, hb9⟩; have BB := Lib.hid (tr BB.out hb9))
        | (go_at_call 18; (with_reducible refine (awake_is _ ?_).mono ?_); (exact trivial); rintro e w7 ⟨rfl, hb7⟩; have BB := Lib.hid (tr BB.out hb7))
        | fail)
      go_ret
      exact ⟨rfl, BB.out⟩
end Go.Proofs.Ytpdgdcdoaglimaa.rng
