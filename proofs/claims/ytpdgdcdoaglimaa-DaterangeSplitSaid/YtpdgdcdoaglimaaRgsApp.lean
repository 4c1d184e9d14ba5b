/-
  append of a whole list of ranges to a slice of the call's own.
-/
import Derived.Test.YtpdgdcdoaglimaaRgs
namespace Go.Proofs.Ytpdgdcdoaglimaa.rng
open Go Go.RowKit Go.Proofs.Ytpdgdcdoaglimaa.money
set_option linter.unusedVariables false

theorem run_append_nil {P : Program} (w : World) (base : Nat) (t ty e : TypeId) (i : TypeInfo) (size : Nat) (ht : P.underlying t = some (.slice e)) (hi : P.info? e = some i)
    (v : Value) (n : Nat) (xs : List Value) (hown : w.ownsRow base e size v n xs) (c : Nat) :
    (Builtin.append_ #[t, t] ty #[v, .slice none 0 c]).run P w = .ok v w := by
  rcases hown.2 with ⟨rfl, rfl⟩ | ⟨g, cap, cur, rfl, _, _, hnc, _⟩
  · simp [Builtin.append_, run_underlying ht, sizeOf, typeInfo, hi, Builtin.lenOf, Builtin.firstCells]
  · simp [Builtin.append_, run_underlying ht, sizeOf, typeInfo, hi, Builtin.lenOf, Builtin.firstCells, hnc, storeCells]

theorem wpList_append_rngs {ops : Array Oper} {rest : List Oper} {o : Oper} {a : Act} {Q : Exit → Act → World → Prop} {W : World} (hgd : o.guard = none) (s x : Operand)
    (ho : o.op = .call { callee := .builtin .append, args := #[s, x], argTypes := #[29, 29] })
    (base : Nat) (v : Value) (l ys : List R) (hs : a.eval s = v) (hown : W.ownsRow base 23 2 v l.length (cellsR l))
    (u : Value) (hx : a.eval x = u) (hu : Rgs W u ys) (hlen : l.length + ys.length ≤ 1000000) (hb : base ≤ W.heap.size)
    (h : ∀ v' w', w'.ownsRow base 23 2 v' (l ++ ys).length (cellsR (l ++ ys)) → W.grownBy w' v.ownBlock → wpList Try.prog ops Q rest (a.put o.dst v') w') :
    wpList Try.prog ops Q (o :: rest) a W := by
  obtain ⟨i0, hi, hz0, hz1, hz2⟩ := info_parts rInfo
  rcases hu.2 with ⟨rfl, A, c, rfl⟩ | ⟨g, off, c, rfl, hg, hc⟩
  · cases A with
    | none =>
      refine wpList_plain hgd fun K hK => ?_
      have hr := run_append_nil (P := Try.prog) W base 29 o.type 23 i0 2 Try.underlying29 hi v l.length (cellsR l) hown c
      unfold Oper.wp execOp
      simp only [ho, resolve, invoke, builtin, Sem.run_bind, Sem.run_pure, Result.andThen_ok, List.map_toArray, List.map_cons, List.map_nil, hs, hx, hr]
      refine hK _ _ (h v W ?_ (World.grownBy.refl _ _))
      rw [List.append_nil]; exact hown
    | some ad =>
      refine wpList_append_own _ hgd s x 29 ho base 23 i0 (.agg #[.int .i64 0, .int .i64 0]) 2 16 Try.underlying29 hi hz0 hz1 hz2 rfl (by decide) v l.length (cellsR l) hs hown
        ad 0 c [] hx rfl (fun j u hj => by cases hj) (by simp) (by unfold maxLen; simp at hlen; omega) (by simp at hlen; omega) hb ?_
      intro v' w' h2 h3 _
      refine h v' w' ?_ h3
      simpa using h2
  · refine wpList_append_own _ hgd s x 29 ho base 23 i0 (.agg #[.int .i64 0, .int .i64 0]) 2 16 Try.underlying29 hi hz0 hz1 hz2 rfl (by decide) v l.length (cellsR l) hs hown
      ⟨g, off, none⟩ ys.length c (cellsR ys) hx (by rw [cellsR_length]) (fun j u hj => ?_) (fun u hu => ?_) (by unfold maxLen; omega) (by omega) hb ?_
    · have hjl : j < ys.length * 2 := by rw [← cellsR_length]; exact (List.getElem?_eq_some_iff.1 hj).1
      have e : (⟨g, off, none⟩ : Addr).add j = ⟨g, off + j, none⟩ := by unfold Addr.add; split <;> simp_all
      rw [e]
      obtain ⟨r, hr⟩ : ∃ r, ys[j / 2]? = some r := ⟨_, List.getElem?_eq_getElem (by omega)⟩
      obtain ⟨h1, h2⟩ := hc _ _ hr
      obtain ⟨e1, e2⟩ := cellsR_at hr
      rcases (show j = j / 2 * 2 ∨ j = j / 2 * 2 + 1 by omega) with hj2 | hj2
      · rw [← hj2, hj] at e1
        cases e1
        rw [← hj2] at h1; exact h1
      · rw [← hj2, hj] at e2
        cases e2
        rw [show off + j / 2 * 2 + 1 = off + j by omega] at h2; exact h2
    · unfold cellsR at hu
      obtain ⟨r, _, hr⟩ := List.mem_flatMap.1 hu
      simp at hr
      rcases hr with rfl | rfl <;> rfl
    · intro v' w' h2 h3 _
      refine h v' w' ?_ h3
      rw [List.length_append, cellsR_append]
      exact h2
end Go.Proofs.Ytpdgdcdoaglimaa.rng
