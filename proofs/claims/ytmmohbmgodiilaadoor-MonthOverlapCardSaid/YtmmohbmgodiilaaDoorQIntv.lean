/-
  Slices of integers: when a value reads as a list of integers; append of one integer.
-/
import Derived.Test.YtmmohbmgodiilaaDoorRows
import Derived.WalkKit
import Derived.WalkLawsBesides
import Derived.WalkSpells
import Derived.Lib.Hide
import Derived.WalkSmall
import Derived.Deep.QuietTactic
import Derived.BigQuiet
import Derived.OwnWalk
namespace Go.Proofs.YtmmohbmgodiilaaDoor.ints
open Go Go.RowKit
set_option linter.unusedVariables false

def intV (z : Int) : Value := .int .i64 z

/-- The value is a slice of integers that reads as this list. -/
def Ints (w : World) (v : Value) (zs : List Int) : Prop :=
  zs.length ≤ 4611686018427387904 ∧
  ((zs = [] ∧ ∃ A c, v = .slice A 0 c) ∨ ∃ g off c, v = .slice (some ⟨g, off, none⟩) zs.length c ∧ g < w.heap.size ∧ ∀ i z, zs[i]? = some z → w.cell? ⟨g, off + i, none⟩ = some (.int .i64 z))

theorem Ints.below {w w' : World} {v : Value} {zs : List Int} (h : Ints w v zs) (hb : Below w.heap.size w w') : Ints w' v zs := by
  obtain ⟨hl, h⟩ := h
  refine ⟨hl, ?_⟩
  rcases h with h | ⟨g, off, c, hv, hg, hc⟩
  · exact .inl h
  · refine .inr ⟨g, off, c, hv, Nat.lt_of_lt_of_le hg hb.size, fun i l hi => ?_⟩
    rw [hb.cell (p := ⟨g, off + i, none⟩) hg]
    exact hc i l hi
theorem Ints.nil (w : World) (A : Option Addr) (c : Nat) : Ints w (.slice A 0 c) [] := ⟨by simp, .inl ⟨rfl, A, c, rfl⟩⟩
theorem Ints.of_own {w : World} {base e : Nat} {v : Value} {zs : List Int} (h : w.ownsRow base e 1 v zs.length (zs.map intV)) (hl : zs.length ≤ 4611686018427387904) : Ints w v zs := by
  refine ⟨hl, ?_⟩
  have hlt := h.lt
  have hcs := fun g => h.cells (g := g)
  rcases h.2 with ⟨rfl, hn⟩ | ⟨g, cap, cur, rfl, _, _, _⟩
  · left
    exact ⟨List.eq_nil_of_length_eq_zero hn, none, 0, rfl⟩
  · right
    refine ⟨g, 0, cap, rfl, (hlt g rfl).2, fun i l hi => ?_⟩
    have := hcs g rfl i (intV l) (by rw [List.getElem?_map, hi]; rfl)
    have e : (⟨g, 0, none⟩ : Addr).add i = ⟨g, 0 + i, none⟩ := by unfold Addr.add; split <;> simp_all
    rw [← e]; exact this
theorem Ints.form {w : World} {v : Value} {zs : List Int} (h : Ints w v zs) (hn : 0 < zs.length) : ∃ g off c, v = .slice (some ⟨g, off, none⟩) zs.length c ∧ g < w.heap.size ∧ ∀ i z, zs[i]? = some z → w.cell? ⟨g, off + i, none⟩ = some (.int .i64 z) := by
  rcases h.2 with ⟨rfl, _⟩ | h
  · simp at hn
  · exact h
theorem Ints.form0 {w : World} {v : Value} {zs : List Int} (h : Ints w v zs) : ∃ A c, v = .slice A zs.length c := by
  rcases h.2 with ⟨rfl, A, c, rfl⟩ | ⟨g, off, c, hv, _⟩
  · exact ⟨A, c, rfl⟩
  · exact ⟨_, c, hv⟩

theorem intInfo : (Tryd.prog.info? 3).map (fun i => (i.zero, i.size, i.bytes)) = some (some (.int .i64 0), 1, 8) := by kernel_rfl

/-- append of one integer to a slice of the call's own -/
theorem wpList_append_int {ops : Array Oper} {rest : List Oper} {o : Oper} {a : Act} {Q : Exit → Act → World → Prop} {W : World} (hgd : o.guard = none) (s x : Operand)
    (ho : o.op = .call { callee := .builtin .append, args := #[s, x], argTypes := #[31, 31] })
    (base : Nat) (v : Value) (zs : List Int) (hs : a.eval s = v) (hown : W.ownsRow base 3 1 v zs.length (zs.map intV))
    (z : Int) (hx : a.eval x = .slice (some ⟨W.heap.size, 0, none⟩) 1 1) (hlen : zs.length ≤ 1000000) (hb : base ≤ W.heap.size)
    (h : ∀ v' w', w'.ownsRow base 3 1 v' (zs ++ [z]).length ((zs ++ [z]).map intV) → (W.alloc (.cells #[.int .i64 z] 3)).grownBy w' v.ownBlock → wpList Tryd.prog ops Q rest (a.put o.dst v') w') :
    wpList Tryd.prog ops Q (o :: rest) a (W.alloc (.cells #[.int .i64 z] 3)) := by
  obtain ⟨i0, hi, hz0, hz1, hz2⟩ := info_parts intInfo
  refine wpList_append_own _ hgd s x 31 ho base 3 i0 (.int .i64 0) 1 8 Tryd.underlying31 hi hz0 hz1 hz2 rfl (by decide) v zs.length (zs.map intV) hs (hown.alloc _)
    ⟨W.heap.size, 0, none⟩ 1 1 [.int .i64 z] hx rfl (cell_one_new _ _ _) (by simp [Value.oneCell']) (by unfold maxLen; omega) (by omega) (by simp; omega) ?_
  intro v' w' h2 h3 _
  refine h v' w' ?_ h3
  rw [List.length_append, List.map_append, List.map_cons, List.map_nil]
  exact h2

theorem ret_bool {a b : Bool} (h : a = b) : Ending.returned (.bool a) = Ending.returned (.bool b) := by rw [h]

end Go.Proofs.YtmmohbmgodiilaaDoor.ints
