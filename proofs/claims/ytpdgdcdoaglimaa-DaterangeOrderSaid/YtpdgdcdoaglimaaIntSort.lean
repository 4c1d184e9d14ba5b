/-
  The library's slices.Sort and slices.Compact over a slice of integers of the call's own; append of two integers.
-/
import Derived.Test.YtpdgdcdoaglimaaIntv
import Derived.Test.YtpdgdcdoaglimaaSortRow
import Derived.Test.YtpdgdcdoaglimaaShelf
namespace Go.Proofs.Ytpdgdcdoaglimaa.ints
open Go Go.RowKit Go.Sort Go.Proofs.Ytpdgdcdoaglimaa.money
set_option linter.unusedVariables false

theorem sort_ints (g cap n : Nat) (o : List Int) (base : Nat) (w : World) (h : w.ownsRow base 3 1 (.slice (some ⟨g, 0, none⟩) n cap) o.length (o.map intV)) (hn : o.length = n) (hl : n ≤ 1000000) :
    Calls Try.prog 33 #[.slice (some ⟨g, 0, none⟩) n cap] w fun e w' =>
      e = .returned (.tuple #[]) ∧ ∃ s : List Int, s.Perm o ∧ s.Pairwise (· ≤ ·) ∧ w'.ownsRow base 3 1 (.slice (some ⟨g, 0, none⟩) n cap) s.length (s.map intV) ∧ Below base w w' := by
  have hlt := h.lt g rfl
  subst hn
  have hH : Holds (Value.int .i64) w g 0 o.toArray := holds_own _ _ h rfl
  refine Calls.mono (Try.slices_Sort_int g 0 cap o w hH hlt.2 (by omega)) ?_
  rintro e w' ⟨rfl, m, os, rfl⟩
  have hp := List.mergeSort_perm o fun x y => decide (x ≤ y)
  have hs := List.pairwise_mergeSort (le := fun x y : Int => decide (x ≤ y)) (fun a b c h1 h2 => by simp at *; omega) (fun a b => by simp; omega) o
  generalize o.mergeSort (fun x y => decide (x ≤ y)) = s at hp hs ⊢
  refine ⟨rfl, s, hp, hs.imp (by simp), ?_, below_put _ _ m os hlt.1 (by omega)⟩
  have e := own_put (Value.int .i64) s.toArray m os h (by simp [hp.length_eq])
  rw [hp.length_eq]
  exact e

theorem compact_ints (g cap n : Nat) (o : List Int) (base : Nat) (w : World) (h : w.ownsRow base 3 1 (.slice (some ⟨g, 0, none⟩) n cap) o.length (o.map intV)) (hn : o.length = n) (hl : n ≤ 1000000) (res : List Int) (hr : Lib.compact o = res) :
    Calls Try.prog 34 #[.slice (some ⟨g, 0, none⟩) n cap] w fun e w' =>
      ∃ v, e = .returned v ∧ Ints w' v res ∧ Below base w w' := by
  have hlt := h.lt g rfl
  have hcap : n ≤ cap := by
    rcases h.2 with ⟨h, _⟩ | ⟨g', cap', cur, hv, hb, hg, hn, hc, hs, ht⟩
    · cases h
    · simp only [Value.slice.injEq] at hv
      omega
  subst hn hr
  have hH : Holds (Value.int .i64) w g 0 o.toArray := holds_own _ _ h rfl
  refine Calls.mono (Try.slices_Compact_int g 0 cap o w hH (by omega) hcap) ?_
  rintro e w' ⟨rfl, q, rfl⟩
  have hle : (Lib.compact o).length ≤ o.length := by
    unfold Lib.compact Lib.compactUpTo
    rw [List.length_map]
    exact Nat.le_trans (List.length_filter_le _ _) (by simp)
  generalize Lib.compact o = s at hle ⊢
  have e := own_put (Value.int .i64) (s ++ List.replicate (o.length - s.length) 0).toArray q #[] h (by simp; omega)
  rw [grow_empty] at e
  have hb := below_put (Value.int .i64) (s ++ List.replicate (o.length - s.length) 0).toArray q #[] (W := w) hlt.1 (by omega)
  rw [grow_empty] at hb
  refine ⟨_, rfl, ⟨by omega, .inr ⟨g, 0, cap, rfl, Nat.lt_of_lt_of_le hlt.2 hb.size, fun i z hi => ?_⟩⟩, hb⟩
  have hc := e.cells (g := g) rfl i (.int .i64 z) (by
    rw [List.getElem?_map, List.getElem?_append_left (by have := (List.getElem?_eq_some_iff.1 hi).1; omega), hi]; rfl)
  have ea : (⟨g, 0, none⟩ : Addr).add i = ⟨g, 0 + i, none⟩ := by unfold Addr.add; split <;> simp_all
  rw [← ea]; exact hc

/-- append of two integers to a slice of the call's own -/
theorem wpList_append_two {ops : Array Oper} {rest : List Oper} {o : Oper} {a : Act} {Q : Exit → Act → World → Prop} {W : World} (hgd : o.guard = none) (s x : Operand)
    (ho : o.op = .call { callee := .builtin .append, args := #[s, x], argTypes := #[37, 37] })
    (base : Nat) (v : Value) (zs : List Int) (hs : a.eval s = v) (hown : W.ownsRow base 3 1 v zs.length (zs.map intV))
    (z1 z2 : Int) (k : Nat) (hx : a.eval x = .slice (some ⟨k, 0, none⟩) 2 2) (hk : k = W.heap.size) (hlen : zs.length ≤ 1000000) (hb : base ≤ W.heap.size)
    (h : ∀ v' w', w'.ownsRow base 3 1 v' (zs ++ [z1, z2]).length ((zs ++ [z1, z2]).map intV) → (W.alloc (.cells #[.int .i64 z1, .int .i64 z2] 3)).grownBy w' v.ownBlock → wpList Try.prog ops Q rest (a.put o.dst v') w') :
    wpList Try.prog ops Q (o :: rest) a (W.alloc (.cells #[.int .i64 z1, .int .i64 z2] 3)) := by
  subst hk
  obtain ⟨i0, hi, hz0, hz1, hz2⟩ := info_parts intInfo
  refine wpList_append_own _ hgd s x 37 ho base 3 i0 (.int .i64 0) 1 8 Try.underlying37 hi hz0 hz1 hz2 rfl (by decide) v zs.length (zs.map intV) hs (hown.alloc _)
    ⟨W.heap.size, 0, none⟩ 2 2 [.int .i64 z1, .int .i64 z2] hx rfl ?_ (by simp [Value.oneCell']) (by unfold maxLen; omega) (by omega) (by simp; omega) ?_
  · intro j u hj
    match j with
    | 0 => simp at hj; subst hj; simp [Addr.add, go_sem]
    | 1 => simp at hj; subst hj; simp [Addr.add, go_sem]
    | j + 2 => simp at hj
  intro v' w' h2 h3 _
  refine h v' w' ?_ h3
  rw [List.length_append, List.map_append, List.map_cons, List.map_cons, List.map_nil]
  exact h2
end Go.Proofs.Ytpdgdcdoaglimaa.ints
