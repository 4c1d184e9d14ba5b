/-
  append of a whole list of ranges, at a step of a region that draws its order.
-/
import Derived.Test.YtpdgdcdoaglimaaRgsApp
import Derived.Deep.RegionHeld3
import Derived.Deep.AppendLies
namespace Go.Proofs.Ytpdgdcdoaglimaa.rng
open Go Go.RowKit Go.Proofs.Ytpdgdcdoaglimaa.money
set_option linter.unusedVariables false

theorem run_append_rngs (W : World) (ty : TypeId) (base : Nat) (v : Value) (l ys : List R) (hown : W.ownsRow base 23 2 v l.length (cellsR l))
    (u : Value) (hu : Rgs W u ys) (hlen : l.length + ys.length ≤ 1000000) (hb : base ≤ W.heap.size) :
    ∃ v' w', (Builtin.append_ #[29, 29] ty #[v, u]).run Try.prog W = .ok v' w' ∧ w'.ownsRow base 23 2 v' (l ++ ys).length (cellsR (l ++ ys)) ∧ W.grownBy w' v.ownBlock := by
  obtain ⟨i0, hi, hz0, hz1, hz2⟩ := info_parts rInfo
  have conv : ∀ (v' : Value) (w' : World), w'.ownsRow base 23 2 v' (l.length + ys.length) (cellsR l ++ cellsR ys) → w'.ownsRow base 23 2 v' (l ++ ys).length (cellsR (l ++ ys)) := by
    intro v' w' h
    rw [List.length_append, cellsR_append]; exact h
  rcases hu.2 with ⟨rfl, A, c, rfl⟩ | ⟨g, off, c, rfl, hg, hc⟩
  · cases A with
    | none =>
      refine ⟨v, W, run_append_nil (P := Try.prog) W base 29 ty 23 i0 2 Try.underlying29 hi v l.length (cellsR l) hown c, ?_, World.grownBy.refl _ _⟩
      rw [List.append_nil]; exact hown
    | some ad =>
      obtain ⟨v', w', h1, h2, h3, _⟩ := run_append_own (P := Try.prog) W base 29 ty 23 i0 (.agg #[.int .i64 0, .int .i64 0]) 2 16 Try.underlying29 hi hz0 hz1 hz2 rfl (by decide) v l.length (cellsR l) hown
        ad 0 c [] rfl (fun j u hj => by cases hj) (by simp) (by unfold maxLen; simp at hlen; omega) (by simp at hlen; omega) hb
      exact ⟨v', w', h1, conv v' w' h2, h3⟩
  · obtain ⟨v', w', h1, h2, h3, _⟩ := run_append_own (P := Try.prog) W base 29 ty 23 i0 (.agg #[.int .i64 0, .int .i64 0]) 2 16 Try.underlying29 hi hz0 hz1 hz2 rfl (by decide) v l.length (cellsR l) hown
      ⟨g, off, none⟩ ys.length c (cellsR ys) (by rw [cellsR_length]) (fun j u hj => by
        have hjl : j < ys.length * 2 := by rw [← cellsR_length]; exact (List.getElem?_eq_some_iff.1 hj).1
        have e : (⟨g, off, none⟩ : Addr).add j = ⟨g, off + j, none⟩ := by unfold Addr.add; split <;> simp_all
        rw [e]
        obtain ⟨r, hr⟩ : ∃ r, ys[j / 2]? = some r := ⟨_, List.getElem?_eq_getElem (by omega)⟩
        obtain ⟨h1, h2⟩ := hc _ _ hr
        obtain ⟨e1, e2⟩ := cellsR_at hr
        rcases (show j = j / 2 * 2 ∨ j = j / 2 * 2 + 1 by omega) with hj2 | hj2
        · rw [← hj2, hj] at e1
          cases e1
          rw [← hj2] at h1; exact h1
        · rw [← hj2, hj] at e2
          cases e2
          rw [show off + j / 2 * 2 + 1 = off + j by omega] at h2; exact h2) (fun u hu => by
        unfold cellsR at hu
        obtain ⟨r, _, hr⟩ := List.mem_flatMap.1 hu
        simp at hr
        rcases hr with rfl | rfl <;> rfl) (by unfold maxLen; omega) (by omega) hb
    exact ⟨v', w', h1, conv v' w' h2, h3⟩

theorem step_append_rngs {ops : Array Oper} {o : Oper} {a : Act} {K : Act → World → Prop} {Q : Exit → Act → World → Prop} {E : Prop} {W : World} (hgd : o.guard = none) (s x : Operand)
    (ho : o.op = .call { callee := .builtin .append, args := #[s, x], argTypes := #[29, 29] })
    (base : Nat) (v : Value) (l ys : List R) (hs : a.eval s = v) (hown : W.ownsRow base 23 2 v l.length (cellsR l))
    (u : Value) (hx : a.eval x = u) (hu : Rgs W u ys) (hlen : l.length + ys.length ≤ 1000000) (hb : base ≤ W.heap.size)
    (h : ∀ v' w', w'.ownsRow base 23 2 v' (l ++ ys).length (cellsR (l ++ ys)) → W.grownBy w' v.ownBlock → K (a.put o.dst v') w') :
    if Region.wanted o (yielded ops a.tmps) = true then Oper.wp Try.prog o a W K Q else E := by
  rw [if_pos (by simp [Region.wanted, hgd])]
  obtain ⟨v', w', hr, h2, h3⟩ := run_append_rngs W o.type base v l ys hown u hu hlen hb
  unfold Oper.wp execOp
  simp only [ho, resolve, invoke, builtin, Sem.run_bind, Sem.run_pure, Result.andThen_ok, List.map_toArray, List.map_cons, List.map_nil, hs, hx, hr]
  exact h v' w' h2 h3
end Go.Proofs.Ytpdgdcdoaglimaa.rng
