/-
  A list of ranges as the sort's row of two cells each; the landed comparison of two ranges by their starts.
-/
import Derived.Test.YtpdgdcdoaglimaaSortRow
import Derived.Test.YtpdgdcdoaglimaaRgs
import Derived.Test.YtpdgdcdoaglimaaRngMerge
import Derived.Sort.Statements
namespace Go.Proofs.Ytpdgdcdoaglimaa.rng
open Go Go.RowKit Go.Sort Go.Proofs.Ytpdgdcdoaglimaa.money
set_option linter.unusedVariables false
set_option linter.unusedSimpArgs false

/-- a range's two cells -/
def encR (x : R) : List Value := [.int .i64 x.1, .int .i64 x.2]
theorem flat_cells (l : List R) : (flatK encR 2 l.toArray).toList = cellsR l := by
  apply List.ext_getElem?
  intro i
  rw [Array.getElem?_toList]
  by_cases hi : i < l.length * 2
  · have hd : i / 2 < l.length := by omega
    have hx : l[i / 2]? = some l[i / 2] := List.getElem?_eq_getElem hd
    obtain ⟨c0, c1⟩ := cellsR_at hx
    have hg := get_flatK encR 2 l.toArray i (by simpa using hi)
    have hs : i < (flatK encR 2 l.toArray).size := by simpa using hi
    rw [Array.getElem?_eq_getElem hs, ← getElem!_pos (flatK encR 2 l.toArray) i hs, hg]
    have e : l.toArray[i / 2]! = l[i / 2] := by rw [getElem!_pos l.toArray (i / 2) (by simpa using hd)]; simp
    rw [e]
    generalize l[i / 2] = y at c0 c1
    rcases Nat.mod_two_eq_zero_or_one i with h | h
    · rw [show i / 2 * 2 = i by omega] at c0
      rw [h, c0]; rfl
    · rw [show i / 2 * 2 + 1 = i by omega] at c1
      rw [h, c1]; rfl
  · rw [Array.getElem?_eq_none (by simp; omega), List.getElem?_eq_none (by rw [cellsR_length]; omega)]
theorem sorted_asc {lt : R → R → Bool} (hlt : ∀ x y, lt x y = false → y.1 ≤ x.1) {d : Array R} (h : SortedIn lt 0 d.size d) : Asc d.toList := by
  refine List.pairwise_iff_getElem.2 fun i j hi hj hij => ?_
  have := hlt _ _ (h i j (Nat.zero_le _) hij (by simpa using hj))
  rw [getElem!_pos d j (by simpa using hj), getElem!_pos d i (by simpa using hi)] at this
  simpa using this
theorem perm_of {d d' : Array R} (h : PermIn 0 d.size d d') : d'.toList.Perm d.toList := by
  have h1 := h.2.2
  have hs := h.1
  rw [show d.extract 0 d.size = d by simp, show d'.extract 0 d.size = d' by rw [← hs]; simp] at h1
  exact h1
end Go.Proofs.Ytpdgdcdoaglimaa.rng
