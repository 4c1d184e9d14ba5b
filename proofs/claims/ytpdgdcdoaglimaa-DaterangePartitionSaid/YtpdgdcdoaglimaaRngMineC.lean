/-
  The landed list of the ranges that hold a date, in order of their starts: the loop that gathers them, and the library's sort over it.
-/
import Derived.Test.YtpdgdcdoaglimaaRngMineD
import Derived.Test.YtpdgdcdoaglimaaShelf
import Derived.Shelf.SlSortCmp.NoneTotal
namespace Go.Proofs.Ytpdgdcdoaglimaa.rng
open Go Go.RowKit Go.Sort Go.Proofs.Ytpdgdcdoaglimaa.money
set_option linter.unusedVariables false
set_option linter.unusedSimpArgs false

theorem filter_take {l : List R} {k : Nat} {x : R} (h : l[k]? = some x) : (l.take (k + 1)).filter neR = (l.take k).filter neR ++ (if neR x then [x] else []) := by
  rw [List.take_add_one, h]
  cases hx : neR x <;> simp [List.filter_append, hx]

/-- the comparison handed to the sort -/
theorem closure_is (x y : R) (W : World) : Calls Try.prog 37 #[.agg #[.int .i64 x.1, .int .i64 x.2], .agg #[.int .i64 y.1, .int .i64 y.2]] W fun e w' => e = .returned (.int .i64 (Lib.compareInt x.1 y.1)) ∧ ∃ q os', w' = Sort.grow (W.drewN q) os' := by
  have hcon := fun W' => Try.cmp_Compare_int x.1 y.1 W'
  generalize Lib.compareInt x.1 y.1 = r at hcon ⊢
  go_enter Try.func37, Try.ntmps37
  go_wp2_with (go_at_call 38; refine (hcon _).mono ?_; rintro e w' ⟨rfl, rfl⟩)
  go_ret
  exact ⟨rfl, 0, _, by rw [alloc_eq_grow, alloc_eq_grow, grow_grow]; rfl⟩
theorem lt_from (x y : R) : ltOf (fun x y : R => Lib.compareInt x.1 y.1) x y = decide (x.1 < y.1) := by
  unfold ltOf Lib.compareInt
  by_cases h1 : x.1 < y.1
  · simp [h1]
  · by_cases h2 : y.1 < x.1 <;> simp [h1, h2]
theorem swo_from : SWO (ltOf fun x y : R => Lib.compareInt x.1 y.1) where
  irrefl x := by rw [lt_from]; simp
  trans x y z h1 h2 := by rw [lt_from] at *; simp at *; omega
  ntrans x y z h1 h2 := by rw [lt_from] at *; simp at *; omega

/-- the sort over a slice of the call's own -/
theorem sort_is (g cap n : Nat) (o : List R) (base : Nat) (w : World) (h : w.ownsRow base 23 2 (.slice (some ⟨g, 0, none⟩) n cap) o.length (cellsR o)) (hn : o.length = n) (hl : n ≤ 110000) :
    Calls Try.prog 36 #[.slice (some ⟨g, 0, none⟩) n cap, .func (.func 37) #[] #[]] w fun e w' =>
      e = .returned (.tuple #[]) ∧ ∃ s : List R, s.Perm o ∧ Asc s ∧ w'.ownsRow base 23 2 (.slice (some ⟨g, 0, none⟩) n cap) s.length (cellsR s) ∧ Below base w w' := by
  have eg : ∀ args w, (callFunc 37 args).run Try.prog w = .ok (.enter 37 args) w := enters_of Try.func37 (by kernel_rfl) rfl
  have hlt := h.lt g rfl
  subst hn
  have hH : HoldsK encR 2 w g 0 o.toArray := holds_own id _ h (by rw [flat_cells]; simp)
  have hcon := AnyQ.slices_SortFunc Try.sortFunc36 2 Try.isAgg23 Try.sizeOf23 encR (fun _ => rfl) (fun x v hv => by simp [encR] at hv; rcases hv with rfl | rfl <;> rfl) (fun x y => Lib.compareInt x.1 y.1) swo_from 37 #[] g 0 cap o.toArray w eg (fun _ _ _ _ x y => closure_is x y _) hH hlt.2 (by simp; omega)
  refine Calls.mono hcon ?_
  rintro e w' ⟨rfl, d', m, os, hp, hs, rfl⟩
  have hsz : d'.size = o.length := by have := hp.1; simpa using this
  have hs' : SortedIn (ltOf fun x y : R => Lib.compareInt x.1 y.1) 0 d'.size d' := by rw [hsz]; simpa using hs
  refine ⟨rfl, d'.toList, by have := perm_of hp; simpa using this, sorted_asc (fun x y hxy => by rw [lt_from] at hxy; simp at hxy; omega) hs', ?_, below_put id _ m os hlt.1 (by omega)⟩
  have e := own_put id (flatK encR 2 d') m os h (by rw [size_flatK, hsz])
  rw [show (flatK encR 2 d').toList.map id = cellsR d'.toList by rw [List.map_id, ← flat_cells]] at e
  rw [show d'.toList.length = o.length by simpa using hsz]
  exact e

set_option maxHeartbeats 2000000 in
theorem sorted_is (vl : Value) (l : List R) (w : World) (hl : Rgs w vl l) (hn : l.length ≤ 110000) :
    Calls Try.prog 31 #[vl] w (GivesSorted w l) := by
  obtain ⟨A, c, rfl⟩ := hl.form0
  obtain ⟨n, hn'⟩ : ∃ n, l.length = n := ⟨_, rfl⟩
  rw [hn'] at hn hl ⊢
  have HN := Lib.hid hn'
  have HL := Lib.hid hl
  clear hl hn'
  go_enter Try.func31, Try.ntmps31
  go_wp2
  go_loopw [3, 8] (fun v i wr => ∃ (k : Nat) (o : List R), k ≤ n ∧ i = .int .i64 k ∧ o = (l.take k).filter neR ∧ wr.ownsRow w.heap.size 23 2 v o.length (cellsR o) ∧ Below w.heap.size w wr) (fun _ i _ => n - (intOf i).toNat)
  case atStart => exact ⟨0, [], Nat.zero_le _, rfl, rfl, World.ownsRow_nil _ _ _ _, Below.refl _ _⟩
  case round =>
    obtain ⟨k, o, hk, rfl, ho, hown, hb⟩ := hrel
    have hol : o.length ≤ 110000 := by
      have h1 := List.length_filter_le neR (l.take k)
      rw [← ho, List.length_take] at h1
      have := HN.out
      omega
    have HO := Lib.hid ho
    have HW := Lib.hid hown
    have HB := Lib.hid hb
    have hzw : w.heap.size ≤ wr.heap.size := hb.size
    clear ho hown hb
    by_cases hlt : k < n
    · obtain ⟨g, off, x0, x1, rfl, hx, c0, c1⟩ := HL.out.at HB.out hlt HN.out
      have HX := Lib.hid hx
      clear hx
      obtain ⟨b, hne⟩ : ∃ b, neR (x0, x1) = b := ⟨_, rfl⟩
      have HE := Lib.hid hne
      clear hne
      have hgw : g < wr.heap.size := by
        obtain ⟨g', off', c', hv, hg, hc⟩ := (HL.out.below HB.out).form (by have := HN.out; omega)
        simp only [Value.slice.injEq, Option.some.injEq, Addr.mk.injEq] at hv
        omega
      cases b
      · go_wp2_with (go_at_call 29; refine (hasDates_is x0 x1 false _ HE.out).mono ?_; rintro e w1 ⟨rfl, hb1⟩)
        go_roundw
        case rel =>
          have hb2 : Below wr.heap.size wr w1 := tr ((Below.refl _ _).alloc (Nat.le_refl _) _) hb1
          refine ⟨k + 1, o, by omega, by go_num, ?_, own_below HW.out hb2, tr HB.out hb2⟩
          rw [filter_take HX.out, ← HO.out, HE.out]
          simp
        case measure => simp [intOf]; omega
      · go_wp2_with (first
          | (go_at_call 29; refine (hasDates_is x0 x1 true _ HE.out).mono ?_; rintro e w1 ⟨rfl, hb1⟩; obtain ⟨hc1, hf1⟩ := bcell hb1; have hz1 := hb1.size; simp at hz1; have e0 : w1.cell? ⟨wr.heap.size, 0, none⟩ = some (.int .i64 x0) := (by rw [hc1 _ _ (by simp)]; simp [go_sem]); have e1 : w1.cell? ⟨wr.heap.size, 1, none⟩ = some (.int .i64 x1) := (by rw [hc1 _ _ (by simp)]; simp [go_sem]); have B1 := Lib.hid (show Below wr.heap.size wr w1 from tr ((Below.refl _ _).alloc (Nat.le_refl _) _) hb1); have O1 := Lib.hid (own_below HW.out B1.out); clear hc1 hf1 hb1)
          | (at_builtin; refine wpList_append_rng rfl _ _ rfl w.heap.size _ o rfl O1.out x0 x1 rfl (by omega) (by omega) ?_; intro v' w2 hown2 hg2))
        go_roundw
        case rel =>
          refine ⟨k + 1, o ++ [(x0, x1)], by omega, by go_num, ?_, hown2, grow (al (tr HB.out B1.out) _) hg2 (fun k hk => (O1.out.lt k hk).1)⟩
          rw [filter_take HX.out, ← HO.out, HE.out]
          simp
        case measure => simp [intOf]; omega
    · obtain rfl : k = n := by omega
      have e : o = l.filter neR := by rw [HO.out, List.take_of_length_le (by have := HN.out; omega)]
      have HF := Lib.hid e
      clear e
      rcases HW.out.2 with ⟨rfl, h0⟩ | ⟨g, cap, cur, rfl, -⟩
      · go_wp2_with (go_at_call 36; refine (AnyF.slices_SortFunc_none Try.sortFunc36 _ _ _ _).mono ?_; rintro e w1 ⟨rfl, rfl⟩)
        go_ret
        have h1 := List.eq_nil_of_length_eq_zero h0
        subst h1
        exact ⟨_, [], rfl, by rw [← HF.out], List.Pairwise.nil, HW.out, HB.out⟩
      · obtain ⟨m, hm⟩ : ∃ m, o.length = m := ⟨_, rfl⟩
        rw [hm] at HW hol ⊢
        have HM := Lib.hid hm
        clear hm
        go_wp2_with (go_at_call 36; refine (sort_is g cap m o w.heap.size _ (by rw [HM.out]; exact HW.out) HM.out hol).mono ?_; rintro e w1 ⟨rfl, s, hp, ha, hown, hb1⟩)
        go_ret
        exact ⟨_, s, rfl, by rw [← HF.out]; exact hp, ha, hown, HB.out.trans hb1⟩
end Go.Proofs.Ytpdgdcdoaglimaa.rng
