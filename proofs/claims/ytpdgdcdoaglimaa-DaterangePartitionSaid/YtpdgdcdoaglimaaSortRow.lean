/-
  A sort laid over a slice of the call's own: what the slice holds behind it, and that nothing below has turned.
-/
import Derived.Test.YtpdgdcdoaglimaaWalkBase
import Derived.Shelf.GgSortFunc.RowK
namespace Go.Proofs.Ytpdgdcdoaglimaa.money
open Go Go.RowKit Go.Sort
set_option linter.unusedVariables false

theorem own_put {α : Type} [Inhabited α] {W : World} {base : Nat} {e : TypeId} {size n g cap : Nat} {xs : List Value} (enc : α → Value) (F : Array α) (m : Nat) (os : Array Obj)
    (h : W.ownsRow base e size (.slice (some ⟨g, 0, none⟩) n cap) n xs) (hF : F.size = n * size) :
    (Sort.grow (putRow enc (Sort.ahead W m) g 0 F) os).ownsRow base e size (.slice (some ⟨g, 0, none⟩) n cap) n (F.toList.map enc) := by
  obtain ⟨hx, h⟩ := h
  refine ⟨by simp [hF], ?_⟩
  rcases h with ⟨h, _⟩ | ⟨g', cap', cur, hv, hb, hg, hn, hc, hs, ht⟩
  · cases h
  · simp only [Value.slice.injEq, Option.some.injEq, Addr.mk.injEq] at hv
    obtain ⟨⟨rfl, -, -⟩, -, rfl⟩ := hv
    right
    have hle : n * size ≤ cap * size := Nat.mul_le_mul_right _ hn
    refine ⟨g, cap, putCells enc 0 F cur, rfl, hb, ?_, hn, hc, by simp [putCells, hs], ?_⟩
    · have hlt := (Array.getElem?_eq_some_iff.1 hg).1
      show ((W.heap.modify g (onCells (putCells enc 0 F))) ++ os)[g]? = _
      rw [Array.getElem?_append_left (by simpa using hlt), Array.getElem?_modify, if_pos rfl, hg]
      rfl
    · apply List.ext_getElem?
      intro i
      rw [List.getElem?_take]
      by_cases hi : i < n * size
      · rw [if_pos hi, Array.getElem?_toList, putCells, Array.getElem?_mapIdx, Array.getElem?_eq_getElem (by omega), Option.map_some, if_pos (by omega), List.getElem?_map, Array.getElem?_toList, Array.getElem?_eq_getElem (by omega), Option.map_some, getElem!_pos _ _ (by omega)]
        simp
      · rw [if_neg hi, List.getElem?_eq_none (by simp; omega)]
theorem below_put {α : Type} [Inhabited α] {W : World} {base g : Nat} (enc : α → Value) (F : Array α) (m : Nat) (os : Array Obj) (hb : base ≤ g) (hw : base ≤ W.heap.size) :
    Below base W (Sort.grow (putRow enc (Sort.ahead W m) g 0 F) os) where
  os := rfl
  tape := rfl
  output := rfl
  size := by
    show W.heap.size ≤ ((W.heap.modify g (onCells (putCells enc 0 F))) ++ os).size
    simp
  block := fun k hk => by
    show ((W.heap.modify g (onCells (putCells enc 0 F))) ++ os)[k]? = _
    rw [Array.getElem?_append_left (by simp; omega), Array.getElem?_modify, if_neg (by omega)]
/-- the cells of a slice of the call's own, for a sort -/
theorem holds_own {α : Type} [Inhabited α] {W : World} {base : Nat} {e : TypeId} {size n g cap : Nat} {xs : List Value} (enc : α → Value) (d : Array α)
    (h : W.ownsRow base e size (.slice (some ⟨g, 0, none⟩) n cap) n xs) (hd : d.toList.map enc = xs) : Holds enc W g 0 d := by
  intro j hj
  have hc := h.cells (g := g) rfl j (enc d[j]!) (by rw [← hd, List.getElem?_map, Array.getElem?_toList, Array.getElem?_eq_getElem hj, getElem!_pos d j hj]; rfl)
  have e : (⟨g, 0, none⟩ : Addr).add j = ⟨g, 0 + j, none⟩ := by unfold Addr.add; split <;> simp_all
  rw [e] at hc
  refine ⟨hc, ?_⟩
  rcases h.2 with ⟨h, _⟩ | ⟨g', cap', cur, hv, hb, hg, hn, hc, hs, ht⟩
  · cases h
  · simp only [Value.slice.injEq, Option.some.injEq, Addr.mk.injEq] at hv
    obtain ⟨⟨rfl, -, -⟩, -, rfl⟩ := hv
    simp [World.frozen?, hg]
end Go.Proofs.Ytpdgdcdoaglimaa.money
