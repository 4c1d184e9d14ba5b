/-
  Two rows of integers of the call's own, in different blocks: appended to, stored into.
-/
import Derived.Test.YtikcnekaefelcaaInts
import Derived.Maps.AppendAt
import Derived.Laws.OwnMore
namespace Go.Proofs.Ytikcnekaefelcaa.ints
open Go Go.RowKit
set_option linter.unusedVariables false

/-- append of one integer to a slice of the call's own, and where the new slice lies -/
theorem wpList_append_int_at {ops : Array Oper} {rest : List Oper} {o : Oper} {a : Act} {Q : Exit → Act → World → Prop} {W : World} (hgd : o.guard = none) (s x : Operand)
    (ho : o.op = .call { callee := .builtin .append, args := #[s, x], argTypes := #[29, 29] })
    (base : Nat) (v : Value) (zs : List Int) (hs : a.eval s = v) (hown : W.ownsRow base 3 1 v zs.length (zs.map intV))
    (z : Int) (hx : a.eval x = .slice (some ⟨W.heap.size, 0, none⟩) 1 1) (hlen : zs.length ≤ 1000000) (hb : base ≤ W.heap.size)
    (h : ∀ v' w', w'.ownsRow base 3 1 v' (zs ++ [z]).length ((zs ++ [z]).map intV) → (W.alloc (.cells #[.int .i64 z] 3)).grownBy w' v.ownBlock → (v'.ownBlock = v.ownBlock ∨ v'.ownBlock = some (W.heap.size + 1)) → wpList Try.prog ops Q rest (a.put o.dst v') w') :
    wpList Try.prog ops Q (o :: rest) a (W.alloc (.cells #[.int .i64 z] 3)) := by
  obtain ⟨i0, hi, hz0, hz1, hz2⟩ := info_parts intInfo
  refine wpList_append_own_at _ hgd s x 29 ho base 3 i0 (.int .i64 0) 1 8 Try.underlying29 hi hz0 hz1 hz2 rfl (by decide) v zs.length (zs.map intV) hs (hown.alloc _)
    ⟨W.heap.size, 0, none⟩ 1 1 [.int .i64 z] hx rfl (cell_one_new _ _ _) (by simp [Value.oneCell']) (by unfold maxLen; omega) (by omega) (by simp; omega) ?_
  intro v' w' h2 h3 _ h4
  refine h v' w' ?_ h3 (h4.imp id (fun e => by rw [e]; simp))
  rw [List.length_append, List.map_append, List.map_cons, List.map_nil]
  exact h2

/-- the values own these two lists of integers, in blocks behind those of the world w0, and in different ones -/
structure Two (w0 w : World) (u v : Value) (xs ys : List Int) : Prop where
  below : Below w0.heap.size w0 w
  fst : w.ownsRow w0.heap.size 3 1 u xs.length (xs.map intV)
  snd : w.ownsRow w0.heap.size 3 1 v ys.length (ys.map intV)
  apart : ∀ g, u.ownBlock = some g → v.ownBlock = some g → False

theorem ownsRow_keep {w w' : World} {base : Nat} {e : TypeId} {size : Nat} {v : Value} {n : Nat} {xs : List Value} {row : Option Nat} (h : w.ownsRow base e size v n xs) (hg : w.grownBy w' row) (hne : ∀ g, v.ownBlock = some g → row = some g → False) :
    w'.ownsRow base e size v n xs := by
  refine h.kept hg ?_
  cases hv : v.ownBlock with
  | none => exact .inl rfl
  | some g => exact .inr (fun e => hne g hv e.symm)

theorem Two.swap {w0 w : World} {u v : Value} {xs ys : List Int} (h : Two w0 w u v xs ys) : Two w0 w v u ys xs := ⟨h.below, h.snd, h.fst, fun g a b => h.apart g b a⟩
theorem Two.nil (w0 : World) : Two w0 w0 (.slice none 0 0) (.slice none 0 0) [] [] := ⟨Below.refl _ _, World.ownsRow_nil _ _ _ _, World.ownsRow_nil _ _ _ _, fun g h => by cases h⟩
theorem Two.drewN {w0 w : World} {u v : Value} {xs ys : List Int} (h : Two w0 w u v xs ys) (n : Nat) : Two w0 (w.drewN n) u v xs ys := ⟨below_drewN h.below n, h.fst, h.snd, h.apart⟩
theorem Two.push {w0 w w' : World} {u u' v : Value} {xs ys : List Int} {z : Int} {o : Obj} (h : Two w0 w u v xs ys) (hown : w'.ownsRow w0.heap.size 3 1 u' (xs ++ [z]).length ((xs ++ [z]).map intV))
    (hg : (w.alloc o).grownBy w' u.ownBlock) (hat : u'.ownBlock = u.ownBlock ∨ u'.ownBlock = some (w.heap.size + 1)) : Two w0 w' u' v (xs ++ [z]) ys := by
  have hsz := h.below.size
  refine ⟨(h.below.alloc hsz o).grown hg (by simp; omega) (fun k hk => (h.fst.lt k hk).1), hown, ownsRow_keep (h.snd.alloc o) hg (fun g a b => h.apart g b a), fun g a b => ?_⟩
  rcases hat with e | e
  · exact h.apart g (by rw [← e]; exact a) b
  · rw [e] at a
    cases a
    have := (h.snd.lt _ b).2
    omega
/-- a slice that owns something lies at the beginning of a block -/
theorem Two.form {w0 w : World} {u v : Value} {xs ys : List Int} (h : Two w0 w u v xs ys) (hn : 0 < xs.length) : ∃ g c, u = .slice (some ⟨g, 0, none⟩) xs.length c ∧ w0.heap.size ≤ g := by
  rcases h.fst.2 with ⟨_, h0⟩ | ⟨g, cap, cur, rfl, hb, _⟩
  · omega
  · exact ⟨g, cap, rfl, hb⟩
theorem Two.form0 {w0 w : World} {u v : Value} {xs ys : List Int} (h : Two w0 w u v xs ys) : ∃ A c, u = .slice A xs.length c := by
  rcases h.fst.2 with ⟨rfl, h0⟩ | ⟨g, cap, cur, rfl, hb, _⟩
  · rw [h0]; exact ⟨_, _, rfl⟩
  · exact ⟨_, cap, rfl⟩
theorem Two.cell {w0 w : World} {v : Value} {g c : Nat} {xs ys : List Int} (h : Two w0 w (.slice (some ⟨g, 0, none⟩) xs.length c) v xs ys) {j : Nat} {z : Int} (hz : xs[j]? = some z) : w.cell? ⟨g, j, none⟩ = some (.int .i64 z) := by
  obtain ⟨hl, he⟩ := List.getElem?_eq_some_iff.1 hz
  rw [h.fst.cellAt j (by omega), List.getElem?_map, hz]; rfl
theorem Two.store {w0 w : World} {v : Value} {g c : Nat} {xs ys : List Int} (h : Two w0 w (.slice (some ⟨g, 0, none⟩) xs.length c) v xs ys) (j : Nat) (z : Int) :
    Two w0 (w.setCell ⟨g, j, none⟩ (.int .i64 z)) (.slice (some ⟨g, 0, none⟩) xs.length c) v (xs.set j z) ys := by
  obtain ⟨h1, h2⟩ := h.fst.stored j (.int .i64 z)
  have hb := h.fst.lt g rfl
  refine ⟨h.below.setCell (p := ⟨g, j, none⟩) hb.1 _, ?_, ownsRow_keep h.snd h2 (fun k a b => h.apart k b a), h.apart⟩
  rw [List.length_set, List.map_set]
  exact h1
theorem Two.form_n {w0 w : World} {u v : Value} {xs ys : List Int} {n : Nat} (h : Two w0 w u v xs ys) (hl : xs.length = n) (hn : 0 < n) : ∃ g c, u = .slice (some ⟨g, 0, none⟩) n c := by
  subst hl
  obtain ⟨g, c, h, _⟩ := h.form hn
  exact ⟨g, c, h⟩
theorem Two.cell_n {w0 w : World} {v : Value} {g c n : Nat} {xs ys : List Int} (h : Two w0 w (.slice (some ⟨g, 0, none⟩) n c) v xs ys) (hl : xs.length = n) {j : Nat} {z : Int} (hz : xs[j]? = some z) : w.cell? ⟨g, j, none⟩ = some (.int .i64 z) := by
  subst hl; exact h.cell hz
theorem Two.store_n {w0 w : World} {v : Value} {g c n : Nat} {xs ys : List Int} (h : Two w0 w (.slice (some ⟨g, 0, none⟩) n c) v xs ys) (hl : xs.length = n) (j : Nat) (z : Int) {xs' : List Int} (he : xs.set j z = xs') :
    Two w0 (w.setCell ⟨g, j, none⟩ (.int .i64 z)) (.slice (some ⟨g, 0, none⟩) n c) v xs' ys := by
  subst hl he; exact h.store j z
theorem Two.thaw {w0 w : World} {v : Value} {g c n : Nat} {xs ys : List Int} (h : Two w0 w (.slice (some ⟨g, 0, none⟩) n c) v xs ys) (hl : xs.length = n) (j : Nat) : w.frozen? ⟨g, j, none⟩ = false := by
  subst hl; exact h.fst.frozenAt j
theorem Two.ints {w0 w : World} {u v : Value} {xs ys : List Int} (h : Two w0 w u v xs ys) (hl : xs.length ≤ 4611686018427387904) : Ints w u xs := Ints.of_own h.fst hl
theorem Two.old {w0 w : World} {u v x : Value} {xs ys zs : List Int} (h : Two w0 w u v xs ys) (hx : Ints w0 x zs) : Ints w x zs := hx.below h.below
end Go.Proofs.Ytikcnekaefelcaa.ints
