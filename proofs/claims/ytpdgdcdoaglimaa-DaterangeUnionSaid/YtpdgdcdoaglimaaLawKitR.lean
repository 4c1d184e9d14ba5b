/-
  What a law's frame uses where slices of ranges of dates are among the arguments.
-/
import Derived.Test.YtpdgdcdoaglimaaLawKitR1
import Derived.Test.YtpdgdcdoaglimaaRgs
import Derived.Deep.SlicePairs
namespace Go.Proofs.Ytpdgdcdoaglimaa.kit0
open Go.ChangeShapes Go.WideShapes Go.ChangeAt Go.RowKit Go.Proofs.Ytpdgdcdoaglimaa.rng
set_option linter.unusedVariables false

/-- an argument of type []api.DateRange reads as a list of ranges -/
theorem open_ranges {H : Type} {enc : TypeId × Value → H} {W : World} {b0 : Nat} {v : Value} {d : DataW H} {ps : List MemPlace} (hval : Value.okWide Try.prog W .any b0 29 v) (hd : DataW.Trod enc Try.prog W 0 (fun _ => true) true 29 v d ps)
    (hlt : ∀ x ∈ ps, x.block < W.heap.size) (hw : ∀ elems spare, d = .slice elems spare → (elems.length + spare.length) * Try.prog.bytesOf 23 ≤ reachBytes) :
    ∃ l : List R, Rgs W v l := by
  obtain ⟨a0, len, cap, rfl⟩ := okWide_slice Try.underlying29 hval
  obtain ⟨fuel, hf⟩ := hd
  rcases Deep.open_slice_pairs Try.underlying29 Try.underlying23 cellsRange rfl rfl cellsDay cellsDay hf with ⟨hcs, hx⟩ | ⟨a, len', cap', m, n, V0, V1, D0, D1, P0, P1, hcs, _, hl, hm, hmm, hx, hcell⟩
  · simp [Value.cells] at hcs
    obtain ⟨rfl, rfl, rfl⟩ := hcs
    exact ⟨[], Rgs.nil _ _ _⟩
  · simp [Value.cells] at hcs
    obtain ⟨rfl, rfl, rfl⟩ := hcs
    simp only [Prod.mk.injEq] at hx
    obtain ⟨rfl, rfl⟩ := hx
    simp only [if_true] at hmm
    subst hmm
    have hlen := hw _ _ rfl
    rw [bytesRange] at hlen
    simp only [List.length_map, List.length_range, reachBytes] at hlen
    have each : ∀ i, i < len → ∃ q : R, W.cell? (a.add (i * 2)) = some (.int .i64 q.1) ∧ W.cell? (a.add (i * 2 + 1)) = some (.int .i64 q.2) := by
      intro i hi
      obtain ⟨h1, h2, h3, h4⟩ := hcell i (by omega)
      obtain ⟨x, e0, -, -⟩ := DataW.trod_int Try.underlying3 h3
      obtain ⟨y, e1, -, -⟩ := DataW.trod_int Try.underlying3 h4
      simp at e0 e1
      rw [e0] at h1
      rw [e1] at h2
      exact ⟨(x, y), h1, h2⟩
    obtain ⟨q, hq⟩ := Deep.choose_lt each
    have hk : ((List.range len).map q).length = len := by simp
    refine ⟨(List.range len).map q, ⟨by omega, ?_⟩⟩
    rcases Nat.eq_zero_or_pos len with rfl | hp
    · exact .inl ⟨by simp, _, _, rfl⟩
    · right
      obtain ⟨b, off, spot⟩ := a
      have hspot : spot = none := by simpa [Addr.add] using World.cell?_spot (hq 0 hp).1
      subst hspot
      have hb : b < W.heap.size := by
        have := World.block_lt_of_cell? _ _ (hq 0 hp).1
        simpa [Addr.add] using this
      refine ⟨b, off, m, by rw [hk], hb, fun i r hi => ?_⟩
      have hi' : i < len := by
        have := (List.getElem?_eq_some_iff.1 hi).1
        rw [hk] at this; exact this
      have h1 := hq i hi'
      rw [add_plain, add_plain] at h1
      have hr : q i = r := by
        rw [List.getElem?_map, List.getElem?_range hi'] at hi
        simpa using hi
      rw [hr] at h1
      exact ⟨h1.1, by rw [Nat.add_assoc]; exact h1.2⟩

theorem stays_ranges {H : Type} {enc : TypeId × Value → H} {W W' : World} {v : Value} {d : DataW H} {ps : List MemPlace} (h : DataW.Trod enc Try.prog W 0 (fun _ => true) true 29 v d ps) (hb : Below W.heap.size W W') (hlt : ∀ x ∈ ps, x.block < W.heap.size)
    (sp : Nat → Bool) (hs : ∀ x ∈ ps, sp x.block = true) : DataW.Trod enc Try.prog W' 0 sp true 29 v d ps :=
  WideElems.Trod_stays laidOut (by kernel_rfl) (of_decide_eq_true (by kernel_rfl)) h (fun x hx => hb.same (hlt x hx)) hs
end Go.Proofs.Ytpdgdcdoaglimaa.kit0
