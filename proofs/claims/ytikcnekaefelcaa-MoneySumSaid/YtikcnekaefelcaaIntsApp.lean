/-
  append of a whole list of integers to a slice of the call's own.
-/
import Derived.Test.YtikcnekaefelcaaTwo
namespace Go.Proofs.Ytikcnekaefelcaa.ints
open Go Go.RowKit
set_option linter.unusedVariables false

theorem run_append_none {P : Program} (w : World) (base : Nat) (t ty e : TypeId) (i : TypeInfo) (size : Nat) (ht : P.underlying t = some (.slice e)) (hi : P.info? e = some i)
    (v : Value) (n : Nat) (xs : List Value) (hown : w.ownsRow base e size v n xs) (c : Nat) :
    (Builtin.append_ #[t, t] ty #[v, .slice none 0 c]).run P w = .ok v w := by
  rcases hown.2 with ⟨rfl, rfl⟩ | ⟨g, cap, cur, rfl, _, _, hnc, _⟩
  · simp [Builtin.append_, run_underlying ht, sizeOf, typeInfo, hi, Builtin.lenOf, Builtin.firstCells]
  · simp [Builtin.append_, run_underlying ht, sizeOf, typeInfo, hi, Builtin.lenOf, Builtin.firstCells, hnc, storeCells]

/-- append of a list of integers to a slice of the call's own, and where the new slice lies -/
theorem wpList_append_ints {ops : Array Oper} {rest : List Oper} {o : Oper} {a : Act} {Q : Exit → Act → World → Prop} {W : World} (hgd : o.guard = none) (s x : Operand)
    (ho : o.op = .call { callee := .builtin .append, args := #[s, x], argTypes := #[29, 29] })
    (base : Nat) (v : Value) (zs ys : List Int) (hs : a.eval s = v) (hown : W.ownsRow base 3 1 v zs.length (zs.map intV))
    (u : Value) (hx : a.eval x = u) (hu : Ints W u ys) (hlen : zs.length + ys.length ≤ 1000000) (hb : base ≤ W.heap.size)
    (h : ∀ v' w', w'.ownsRow base 3 1 v' (zs ++ ys).length ((zs ++ ys).map intV) → W.grownBy w' v.ownBlock → (v'.ownBlock = v.ownBlock ∨ v'.ownBlock = some W.heap.size) → wpList Try.prog ops Q rest (a.put o.dst v') w') :
    wpList Try.prog ops Q (o :: rest) a W := by
  obtain ⟨i0, hi, hz0, hz1, hz2⟩ := info_parts intInfo
  rcases hu.2 with ⟨rfl, A, c, rfl⟩ | ⟨g, off, c, rfl, hg, hc⟩
  · cases A with
    | none =>
      refine wpList_plain hgd fun K hK => ?_
      have hr := run_append_none (P := Try.prog) W base 29 o.type 3 i0 1 Try.underlying29 hi v zs.length (zs.map intV) hown c
      unfold Oper.wp execOp
      simp only [ho, resolve, invoke, builtin, Sem.run_bind, Sem.run_pure, Result.andThen_ok, List.map_toArray, List.map_cons, List.map_nil, hs, hx, hr]
      refine hK _ _ (h v W ?_ (World.grownBy.refl _ _) (.inl rfl))
      rw [List.append_nil]; exact hown
    | some ad =>
      refine wpList_append_own_at _ hgd s x 29 ho base 3 i0 (.int .i64 0) 1 8 Try.underlying29 hi hz0 hz1 hz2 rfl (by decide) v zs.length (zs.map intV) hs hown
        ad 0 c [] hx rfl (fun j u hj => by cases hj) (by simp) (by unfold maxLen; simp at hlen; omega) (by simp at hlen; omega) hb ?_
      intro v' w' h2 h3 _ h4
      refine h v' w' ?_ h3 h4
      simpa using h2
  · refine wpList_append_own_at _ hgd s x 29 ho base 3 i0 (.int .i64 0) 1 8 Try.underlying29 hi hz0 hz1 hz2 rfl (by decide) v zs.length (zs.map intV) hs hown
      ⟨g, off, none⟩ ys.length c (ys.map intV) hx (by simp) (fun j u hj => by
        rw [List.getElem?_map] at hj
        obtain ⟨z, hz, rfl⟩ := Option.map_eq_some_iff.1 hj
        have e : (⟨g, off, none⟩ : Addr).add j = ⟨g, off + j, none⟩ := by unfold Addr.add; split <;> simp_all
        rw [e]; exact hc j z hz) (fun u hu => by
        obtain ⟨z, _, rfl⟩ := List.mem_map.1 hu
        rfl) (by unfold maxLen; omega) (by omega) hb ?_
    intro v' w' h2 h3 _ h4
    refine h v' w' ?_ h3 h4
    rw [List.length_append, List.map_append]
    exact h2
end Go.Proofs.Ytikcnekaefelcaa.ints
