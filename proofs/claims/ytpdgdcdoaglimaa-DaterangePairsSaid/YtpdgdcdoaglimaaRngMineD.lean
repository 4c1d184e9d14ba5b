/-
  The landed Union walked.
-/
import Derived.Test.YtpdgdcdoaglimaaRngMineA
import Derived.Test.YtpdgdcdoaglimaaRngGaps
import Derived.Test.YtpdgdcdoaglimaaRngSort
import Derived.BigRegion
namespace Go.Proofs.Ytpdgdcdoaglimaa.rng
open Go Go.RowKit Go.Proofs.Ytpdgdcdoaglimaa.money
set_option linter.unusedVariables false
set_option linter.unusedSimpArgs false

/-- what the landed list of sorted ranges is -/
def GivesSorted (w : World) (l : List R) (e : Ending) (w' : World) : Prop := ∃ v s, e = .returned v ∧ s.Perm (l.filter neR) ∧ Asc s ∧ w'.ownsRow w.heap.size 23 2 v s.length (cellsR s) ∧ Below w.heap.size w w'

theorem cells_set_last (v : List R) (x : R) (z : Int) : (cellsR (v ++ [x])).set (v.length * 2 + 1) (.int .i64 z) = cellsR (v ++ [(x.1, z)]) := by
  rw [cellsR_append, cellsR_append, List.set_append_right _ _ (by rw [cellsR_length]; omega), cellsR_length, show v.length * 2 + 1 - v.length * 2 = 1 by omega]
  rfl
theorem own_drewN {W : World} {base : Nat} {e : TypeId} {size n : Nat} {v : Value} {xs : List Value} (h : W.ownsRow base e size v n xs) (q : Nat) : (W.drewN q).ownsRow base e size v n xs := h
/-- the last range's end stored anew -/
theorem own_last {W : World} {base g cap m : Nat} {v : List R} {x : R} (hm : v.length = m) (h : W.ownsRow base 23 2 (.slice (some ⟨g, 0, none⟩) (m + 1) cap) (v ++ [x]).length (cellsR (v ++ [x]))) (z : Int) (y : R) (hy : y = (x.1, z)) :
    (W.setCell ⟨g, m * 2 + 1, none⟩ (.int .i64 z)).ownsRow base 23 2 (.slice (some ⟨g, 0, none⟩) (m + 1) cap) (v ++ [y]).length (cellsR (v ++ [y])) := by
  subst hm hy
  rw [show (v ++ [x]).length = v.length + 1 by simp] at h
  rw [show (v ++ [(x.1, z)]).length = v.length + 1 by simp, ← cells_set_last]
  exact (h.stored _ _).1

set_option maxHeartbeats 2000000 in
theorem Union_with (HS : ∀ (vl : Value) (l : List R) (w : World), Rgs w vl l → l.length ≤ 110000 → Calls Try.prog 31 #[vl] w (GivesSorted w l))
    (vl : Value) (l : List R) (res : List R) (w : World) (he : Env w) (hl : Rgs w vl l) (hn : l.length ≤ 100) (h : unionR l = res) : Calls Try.prog 20 #[vl] w (GivesL w res) := by
  obtain ⟨A, c, rfl⟩ := hl.form0
  have H := Lib.hid h
  have HN := Lib.hid hn
  have HL := Lib.hid hl
  have HS' := Lib.hid HS
  clear hl hn h HS
  go_enter Try.func20, Try.ntmps20
  go_wp2_with (go_at_call 31; refine (HS'.out _ l _ HL.out (by have := HN.out; omega)).mono ?_; rintro e w1 ⟨vs, s, rfl, hp, ha, hown, hb1⟩; have hsl : s.length ≤ 100 := (by have := hp.length_eq; have := List.length_filter_le neR l; have := HN.out; omega); have HP := Lib.hid hp; have HA := Lib.hid ha; have HR := Lib.hid (Rgs.of_own hown (by omega)); have HB := Lib.hid hb1; clear hp ha hown hb1; obtain ⟨A1, c1, rfl⟩ := HR.out.form0; obtain ⟨n, hn⟩ : ∃ n, s.length = n := ⟨_, rfl⟩; rw [hn] at HR hsl ⊢; have HSN := Lib.hid hn; clear hn)
  go_loopw [3, 10] (fun v i wr => ∃ (k : Nat) (u : List R), k ≤ n ∧ i = .int .i64 k ∧ u.length ≤ k ∧ Merged s k u ∧ wr.ownsRow w1.heap.size 23 2 v u.length (cellsR u) ∧ Below w1.heap.size w1 wr) (fun _ i _ => n - (intOf i).toNat)
  case atStart => exact ⟨0, [], Nat.zero_le _, rfl, Nat.le_refl _, Merged.start s, World.ownsRow_nil _ _ _ _, Below.refl _ _⟩
  case round =>
    obtain ⟨k, u, hk, rfl, hul, hm, hown, hb⟩ := hrel
    have HM := Lib.hid hm
    have HW := Lib.hid hown
    have HBI := Lib.hid hb
    have hzw : w1.heap.size ≤ wr.heap.size := hb.size
    clear hm hb
    by_cases hlt : k < n
    · obtain ⟨g, off, x0, x1, rfl, hx, c0, c1⟩ := HR.out.at HBI.out hlt HSN.out
      have HX := Lib.hid hx
      have hne : neR (x0, x1) = true := by
        have h1 : (x0, x1) ∈ s := List.mem_of_getElem? HX.out
        exact (List.mem_filter.1 (HP.out.mem_iff.1 h1)).2
      have HE := Lib.hid hne
      have hbx := (ne_iff _).1 hne
      simp only at hbx
      clear hx hne
      have hgw : g < wr.heap.size := by
        obtain ⟨g', off', c', hv, hg, hc⟩ := (HR.out.below HBI.out).form (by have := HSN.out; omega)
        simp only [Value.slice.injEq, Option.some.injEq, Addr.mk.injEq] at hv
        omega
      have hcase : u = [] ∨ ∃ v y, u = v ++ [y] := by
        rcases List.eq_nil_or_concat u with h | ⟨v, y, h⟩
        · exact .inl h
        · exact .inr ⟨v, y, by rw [h, List.concat_eq_append]⟩
      rcases hcase with rfl | ⟨v, y, rfl⟩
      · obtain ⟨A2, c2, rfl⟩ : ∃ A c, u3 = .slice A 0 c := (Rgs.of_own hown (by simp)).form0
        clear hown
        go_wp2_with fail
        go_quiet (fail)
        go_wp2_with (first | (at_builtin; refine wpList_append_rng_k rfl _ _ rfl w1.heap.size _ [] rfl (own_drewN (HW.out.alloc _) _) x0 x1 _ rfl (by simp) (by simp) (by simp; omega) ?_; intro v' w2 hown2 hg2))
        go_roundw
        case rel =>
          refine ⟨k + 1, [(x0, x1)], by omega, by go_num, by simp, ?_, hown2, grow (al (below_drewN (al HBI.out _) _) _) hg2 (fun k hk => (HW.out.lt k hk).1)⟩
          exact HM.out.add HA.out HX.out HE.out (fun x hx => by cases hx)
        case measure => simp [intOf]; omega
      · obtain ⟨g2, c2, rfl⟩ : ∃ g2 c2, u3 = .slice (some ⟨g2, 0, none⟩) (v.length + 1) c2 := by
          rcases hown.2 with ⟨_, h0⟩ | ⟨g2, c2, cur, hv, _⟩
          · simp at h0
          · exact ⟨g2, c2, by rw [hv]; simp⟩
        have hgg := hown.lt g2 rfl
        have hown' := hown
        rw [show (v ++ [y]).length = v.length + 1 by simp] at hown'
        obtain ⟨m, hm⟩ : ∃ m, v.length = m := ⟨_, rfl⟩
        have hce : wr.cell? ⟨g2, m * 2 + 1, none⟩ = some (.int .i64 y.2) := by
          have h1 := World.ownsRow.cellAt hown' (m * 2 + 1) (by omega)
          rw [h1]
          exact (cellsR_at (l := v ++ [y]) (i := m) (r := y) (by rw [← hm]; simp)).2
        have hfz : wr.frozen? ⟨g2, m * 2 + 1, none⟩ = false := World.ownsRow.frozenAt hown' _
        obtain ⟨y0, y1⟩ := y
        simp only at hce
        rw [hm]
        have HMM := Lib.hid hm
        have HW2 := Lib.hid (show wr.ownsRow w1.heap.size 23 2 (.slice (some ⟨g2, 0, none⟩) (m + 1) c2) (v ++ [(y0, y1)]).length (cellsR (v ++ [(y0, y1)])) by rw [← hm]; exact hown)
        have hml : m < k := by simp at hul; omega
        clear hown hown' hm
        by_cases h1 : x0 ≤ y1
        · go_wp2_with fail
          go_quiet (fail)
          go_wp2_with fail
          go_big_region
          go_wp2_with fail
          go_roundw
          case rel =>
            exact ⟨k + 1, v ++ [(y0, max y1 x1)], by omega, by go_num, by simp at hul ⊢; omega, HM.out.stretch HX.out HE.out h1, own_last HMM.out (own_drewN (HW2.out.alloc _) _) _ _ rfl, (below_drewN (al HBI.out _) _).setCell (p := ⟨g2, m * 2 + 1, none⟩) hgg.1 _⟩
          case measure => simp [intOf]; omega
        · go_wp2_with fail
          go_quiet (fail)
          go_wp2_with (first | (at_builtin; refine wpList_append_rng_k rfl _ _ rfl w1.heap.size _ (v ++ [(y0, y1)]) rfl (own_drewN (HW2.out.alloc _) _) x0 x1 _ rfl (by simp) (by have := HMM.out; simp; omega) (by simp; omega) ?_; intro v' w2 hown2 hg2))
          go_roundw
          case rel =>
            refine ⟨k + 1, v ++ [(y0, y1)] ++ [(x0, x1)], by omega, by go_num, by simp at hul ⊢; omega, ?_, hown2, grow (al (below_drewN (al HBI.out _) _) _) hg2 (fun k hk => (HW.out.lt k hk).1)⟩
            exact HM.out.add HA.out HX.out HE.out (HM.out.last_lt (by simp only; omega))
          case measure => simp [intOf]; omega
    · obtain rfl : k = n := by omega
      go_wp2_with fail
      go_ret
      refine ⟨_, rfl, ?_, tr HB.out HBI.out⟩
      have e := HM.out.done (by have := HSN.out; omega) HP.out
      rw [← H.out, e]
      exact Rgs.of_own HW.out (by omega)
end Go.Proofs.Ytpdgdcdoaglimaa.rng
