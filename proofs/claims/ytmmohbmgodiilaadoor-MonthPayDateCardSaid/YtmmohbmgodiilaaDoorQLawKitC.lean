/-
  What a law's frame uses where calendars and ranges of dates are among the arguments.
-/
import Derived.Test.YtmmohbmgodiilaaDoorQLawKit0
import Derived.Test.YtmmohbmgodiilaaDoorQIntv
import Derived.Lib.SmallJoins
namespace Go.Proofs.YtmmohbmgodiilaaDoor.kit0
open Go.ChangeShapes Go.WideShapes Go.ChangeAt Go.RowKit Go.Proofs.YtmmohbmgodiilaaDoor.ints
set_option linter.unusedVariables false

theorem cellsCal : Tryd.prog.cellsOf 33 = 2 := by kernel_rfl
theorem cellsNum : Tryd.prog.cellsOf 3 = 1 := by kernel_rfl
theorem bytesNum : Tryd.prog.bytesOf 3 = 8 := by kernel_rfl

set_option maxRecDepth 100000 in
/-- an argument that is a calendar: an integer, and a slice that reads as a list of integers -/
theorem open_cal {H : Type} {enc : TypeId × Value → H} {W : World} {b0 : Nat} {v : Value} {d : DataW H} {ps : List MemPlace} (hval : Value.okWide Tryd.prog W .any b0 33 v) (hd : DataW.Trod enc Tryd.prog W 0 (fun _ => true) true 33 v d ps)
    (hlt : ∀ x ∈ ps, x.block < W.heap.size) (hw : ∀ n ∈ d.weights Tryd.prog 33, n ≤ reachBytes) :
    ∃ (k : Int) (s : Value) (l : List Int), v = .agg #[.int .i64 k, s] ∧ Ints W s l := by
  obtain ⟨c0, c1, y0, y1, m, rfl, rfl, rfl, hy0, hy1⟩ := Joins.open_agg2 Tryd.underlying33 (by kernel_rfl) cellsCal hval hd
  obtain ⟨a, e0, -, -⟩ := DataW.trod_int Tryd.underlying3 hy0
  simp at e0
  subst e0
  refine ⟨a, c1, ?_⟩
  rcases open_ints Tryd.underlying31 Tryd.underlying3 cellsNum hy1 with ⟨hcs, hx⟩ | ⟨p, len, cap, zs, hcs, _, hl, hm, hz, hx, hcell, hwz⟩
  · simp at hcs
    subst hcs
    exact ⟨[], rfl, Ints.nil _ _ _⟩
  · simp at hcs
    subst hcs
    have hy : y1.1 = _ := congrArg Prod.fst hx
    have hp2 : y1.2 = _ := congrArg Prod.snd hx
    simp only [if_true] at hz
    have hlen := hw (((lits (H := H) .i64 (zs.take len)).length + (lits (H := H) .i64 (zs.drop len)).length) * 8) (by
      rw [hy]
      have e1 : DataW.weights Tryd.prog 33 (DataW.agg [y0.1, DataW.slice (lits (H := H) .i64 (zs.take len)) (lits .i64 (zs.drop len))]) = DataW.weightsEach Tryd.prog [3, 31] [y0.1, DataW.slice (lits .i64 (zs.take len)) (lits .i64 (zs.drop len))] := by
        simp only [DataW.weights, Tryd.underlying33]; rfl
      show _ ∈ DataW.weights Tryd.prog 33 (DataW.agg [y0.1, DataW.slice (lits (H := H) .i64 (zs.take len)) (lits .i64 (zs.drop len))])
      rw [e1]
      refine DataW.weights_mem_each (j := 1) rfl rfl _ ?_
      simp only [DataW.weights, Tryd.underlying31, bytesNum]
      exact List.mem_cons_self)
    simp only [lits, List.length_map, List.length_take, List.length_drop, reachBytes] at hlen
    have hk : (zs.take len).length = len := by rw [List.length_take]; omega
    refine ⟨zs.take len, rfl, ⟨by omega, ?_⟩⟩
    rcases Nat.eq_zero_or_pos len with rfl | hp
    · exact .inl ⟨by simp, _, _, rfl⟩
    · right
      obtain ⟨b, off, spot⟩ := p
      have hspot : spot = none := by simpa [Addr.add] using World.cell?_spot (hcell 0 (by omega))
      subst hspot
      have hb : b < W.heap.size := by
        have := World.block_lt_of_cell? _ _ (hcell 0 (by omega))
        simpa [Addr.add] using this
      refine ⟨b, off, cap, by rw [hk], hb, fun i z hi => ?_⟩
      have hi' : i < len := by
        have := (List.getElem?_eq_some_iff.1 hi).1
        rw [hk] at this; exact this
      have h1 := hcell i (by omega)
      rw [add_plain] at h1
      rw [h1]
      rw [List.getElem?_take, if_pos hi'] at hi
      rw [List.getD, hi]; rfl

theorem stays_cal {H : Type} {enc : TypeId × Value → H} {W W' : World} {v : Value} {d : DataW H} {ps : List MemPlace} (h : DataW.Trod enc Tryd.prog W 0 (fun _ => true) true 33 v d ps) (hb : Below W.heap.size W W') (hlt : ∀ x ∈ ps, x.block < W.heap.size)
    (sp : Nat → Bool) (hs : ∀ x ∈ ps, sp x.block = true) : DataW.Trod enc Tryd.prog W' 0 sp true 33 v d ps :=
  WideElems.Trod_stays laidOut (by kernel_rfl) (of_decide_eq_true (by kernel_rfl)) h (fun x hx => hb.same (hlt x hx)) hs
end Go.Proofs.YtmmohbmgodiilaaDoor.kit0
