/-
  Two rows of the call's own, one of integers and one of unsigned integers, in different blocks: made full of zeros, stored into.
-/
import Derived.Test.YtikcnekaefelcaaTwo
namespace Go.Proofs.Ytikcnekaefelcaa.ints
open Go Go.RowKit
set_option linter.unusedVariables false

def u64V (z : Int) : Value := .int .u64 z
theorem u64Info : (Try.prog.info? 39).map (fun i => (i.zero, i.size, i.bytes)) = some (some (.int .u64 0), 1, 8) := by kernel_rfl

structure Duo (w0 w : World) (u v : Value) (xs ys : List Int) : Prop where
  below : Below w0.heap.size w0 w
  fst : w.ownsRow w0.heap.size 3 1 u xs.length (xs.map intV)
  snd : w.ownsRow w0.heap.size 39 1 v ys.length (ys.map u64V)
  apart : ∀ g, u.ownBlock = some g → v.ownBlock = some g → False

theorem grown_of_below {w w' : World} (h : Below w.heap.size w w') (row : Option Nat) : w.grownBy w' row := ⟨h.os, h.tape, h.output, h.size, fun i hi _ => h.block i hi⟩
theorem Duo.later {w0 w w' : World} {u v : Value} {xs ys : List Int} (h : Duo w0 w u v xs ys) (hb : Below w.heap.size w w') : Duo w0 w' u v xs ys :=
  ⟨h.below.trans (hb.mono h.below.size), ownsRow_keep h.fst (grown_of_below hb none) (fun g _ e => by cases e), ownsRow_keep h.snd (grown_of_below hb none) (fun g _ e => by cases e), h.apart⟩
theorem Duo.drewN {w0 w : World} {u v : Value} {xs ys : List Int} (h : Duo w0 w u v xs ys) (n : Nat) : Duo w0 (w.drewN n) u v xs ys := ⟨below_drewN h.below n, h.fst, h.snd, h.apart⟩
theorem Duo.store1 {w0 w : World} {v : Value} {g c n : Nat} {xs xs' ys : List Int} (h : Duo w0 w (.slice (some ⟨g, 0, none⟩) n c) v xs ys) (hl : xs.length = n) (j : Nat) (z : Int) (he : xs.set j z = xs') :
    Duo w0 (w.setCell ⟨g, j, none⟩ (.int .i64 z)) (.slice (some ⟨g, 0, none⟩) n c) v xs' ys := by
  subst he hl
  obtain ⟨h1, h2⟩ := h.fst.stored j (.int .i64 z)
  have hb := h.fst.lt g rfl
  refine ⟨h.below.setCell (p := ⟨g, j, none⟩) hb.1 _, ?_, ownsRow_keep h.snd h2 (fun k a b => h.apart k b a), h.apart⟩
  rw [List.length_set, List.map_set]
  exact h1
theorem Duo.store2 {w0 w : World} {u : Value} {g c n : Nat} {xs ys ys' : List Int} (h : Duo w0 w u (.slice (some ⟨g, 0, none⟩) n c) xs ys) (hl : ys.length = n) (j : Nat) (z : Int) (he : ys.set j z = ys') :
    Duo w0 (w.setCell ⟨g, j, none⟩ (.int .u64 z)) u (.slice (some ⟨g, 0, none⟩) n c) xs ys' := by
  subst he hl
  obtain ⟨h1, h2⟩ := h.snd.stored j (.int .u64 z)
  have hb := h.snd.lt g rfl
  refine ⟨h.below.setCell (p := ⟨g, j, none⟩) hb.1 _, ownsRow_keep h.fst h2 (fun k a b => h.apart k a b), ?_, h.apart⟩
  rw [List.length_set, List.map_set]
  exact h1
theorem Duo.cell1 {w0 w : World} {v : Value} {g c n : Nat} {xs ys : List Int} (h : Duo w0 w (.slice (some ⟨g, 0, none⟩) n c) v xs ys) (hn : xs.length = n) {j : Nat} {z : Int} (hz : xs[j]? = some z) : w.cell? ⟨g, j, none⟩ = some (.int .i64 z) := by
  subst hn
  obtain ⟨hl, he⟩ := List.getElem?_eq_some_iff.1 hz
  rw [h.fst.cellAt j (by omega), List.getElem?_map, hz]; rfl
theorem Duo.cell2 {w0 w : World} {u : Value} {g c n : Nat} {xs ys : List Int} (h : Duo w0 w u (.slice (some ⟨g, 0, none⟩) n c) xs ys) (hn : ys.length = n) {j : Nat} {z : Int} (hz : ys[j]? = some z) : w.cell? ⟨g, j, none⟩ = some (.int .u64 z) := by
  subst hn
  obtain ⟨hl, he⟩ := List.getElem?_eq_some_iff.1 hz
  rw [h.snd.cellAt j (by omega), List.getElem?_map, hz]; rfl
theorem Duo.thaw1 {w0 w : World} {v : Value} {g c n : Nat} {xs ys : List Int} (h : Duo w0 w (.slice (some ⟨g, 0, none⟩) n c) v xs ys) (hn : xs.length = n) (j : Nat) : w.frozen? ⟨g, j, none⟩ = false := by subst hn; exact h.fst.frozenAt j
theorem Duo.thaw2 {w0 w : World} {u : Value} {g c n : Nat} {xs ys : List Int} (h : Duo w0 w u (.slice (some ⟨g, 0, none⟩) n c) xs ys) (hn : ys.length = n) (j : Nat) : w.frozen? ⟨g, j, none⟩ = false := by subst hn; exact h.snd.frozenAt j
theorem Duo.ints {w0 w : World} {u v : Value} {xs ys : List Int} (h : Duo w0 w u v xs ys) (hl : xs.length ≤ 4611686018427387904) : Ints w u xs := Ints.of_own h.fst hl
theorem Duo.old {w0 w : World} {u v x : Value} {xs ys zs : List Int} (h : Duo w0 w u v xs ys) (hx : Ints w0 x zs) : Ints w x zs := hx.below h.below

/-- a list filled from its beginning, zeros behind -/
def filled (f : Int → Int) (ws : List Int) (i : Nat) : List Int := (ws.take i).map f ++ List.replicate (ws.length - i) 0
theorem filled_length (f : Int → Int) (ws : List Int) {i : Nat} (hi : i ≤ ws.length) : (filled f ws i).length = ws.length := by
  unfold filled; simp; omega
theorem filled_zero (f : Int → Int) (ws : List Int) : filled f ws 0 = List.replicate ws.length 0 := by simp [filled]
theorem filled_all (f : Int → Int) (ws : List Int) : filled f ws ws.length = ws.map f := by simp [filled]
theorem filled_at (f : Int → Int) {ws : List Int} {i : Nat} (hi : i < ws.length) : (filled f ws i)[i]? = some 0 := by
  unfold filled
  rw [List.getElem?_append_right (by simp; omega), List.getElem?_replicate]
  simp; omega
theorem filled_step (f : Int → Int) {ws : List Int} {i : Nat} {z : Int} (h : ws[i]? = some z) : (filled f ws i).set i (f z) = filled f ws (i + 1) := by
  obtain ⟨hl, he⟩ := List.getElem?_eq_some_iff.1 h
  unfold filled
  rw [List.set_append_right _ _ (by simp; omega)]
  simp only [List.length_map, List.length_take]
  rw [show i - min i ws.length = 0 by omega, List.take_add_one, h, List.map_append]
  obtain ⟨m, hm⟩ : ∃ m, ws.length - i = m + 1 := ⟨ws.length - i - 1, by omega⟩
  rw [hm, show ws.length - (i + 1) = m by omega, List.replicate_succ, List.set_cons_zero]
  simp
end Go.Proofs.Ytikcnekaefelcaa.ints
