/-
  The reference's Insert walked.
-/
import Derived.Test.YtpdgdcdoaglimaaRngUnion
import Derived.Test.YtpdgdcdoaglimaaInts
namespace Go.Proofs.Ytpdgdcdoaglimaa.rng
open Go Go.RowKit Go.Proofs.Ytpdgdcdoaglimaa.money Go.Proofs.Ytpdgdcdoaglimaa.ints
set_option linter.unusedVariables false
set_option linter.unusedSimpArgs false

/-- a call's answer that reads as this list of integers -/
def GivesN (w : World) (l : List Int) (e : Ending) (w' : World) : Prop := ∃ v, e = .returned v ∧ Ints w' v l ∧ Below w.heap.size w w'

/-- a slice of integers of the call's own -/
structure Own (w w' : World) (v : Value) (o : List Int) : Prop where
  own : w'.ownsRow w.heap.size 3 1 v o.length (o.map intV)
  below : Below w.heap.size w w'
theorem Own.start (w : World) : Own w w (.slice none 0 0) [] := ⟨World.ownsRow_nil _ _ _ _, Below.refl _ _⟩
theorem Own.push {w w' w1 : World} {v v' : Value} {o : List Int} {x : Int} {ob : Obj} (h : Own w w' v o) (hown : w1.ownsRow w.heap.size 3 1 v' (o ++ [x]).length ((o ++ [x]).map intV)) (hg : (w'.alloc ob).grownBy w1 v.ownBlock) : Own w w1 v' (o ++ [x]) :=
  ⟨hown, grow (al h.below _) hg (fun k hk => (h.own.lt k hk).1)⟩
theorem ints_at {w w' : World} {l : List Int} {A : Option Addr} {n c : Nat} (h : Ints w (.slice A n c) l) (hb : Below w.heap.size w w') {i : Nat} (hi : i < n) (hn : l.length = n) :
    ∃ g off x, A = some ⟨g, off, none⟩ ∧ l[i]? = some x ∧ w'.cell? ⟨g, off + i, none⟩ = some (.int .i64 x) := by
  obtain ⟨g, off, c', hv, hg, hc⟩ := (h.below hb).form (by omega)
  simp only [Value.slice.injEq] at hv
  obtain ⟨rfl, -, -⟩ := hv
  obtain ⟨x, hx⟩ : ∃ x, l[i]? = some x := ⟨_, List.getElem?_eq_getElem (by omega)⟩
  exact ⟨g, off, x, rfl, hx, hc i _ hx⟩

set_option maxHeartbeats 2000000 in
theorem insert_is (vl : Value) (l : List Int) (x : Int) (res : List Int) (w : World) (hl : Ints w vl l) (hn : l.length ≤ 110000) (h : insR l x = res) :
    Calls Try.prog 35 #[vl, .int .i64 x] w (GivesN w res) := by
  obtain ⟨A, c, rfl⟩ := hl.form0
  obtain ⟨n, hn'⟩ : ∃ n, l.length = n := ⟨_, rfl⟩
  rw [hn'] at hn hl ⊢
  have HN := Lib.hid hn'
  have HL := Lib.hid hl
  have H := Lib.hid h
  clear h hl hn'
  go_enter Try.func35, Try.ntmps35
  go_wp2
  go_loopw [5, 6] (fun v i wr => ∃ (k : Nat) (o : List Int), k ≤ n ∧ i = .int .i64 k ∧ Own w wr v o ∧ o = (l.take k).filter (fun y => decide (y < x))) (fun _ i _ => n - (intOf i).toNat)
  case atStart => exact ⟨0, [], Nat.zero_le _, rfl, Own.start w, by simp⟩
  case round =>
    obtain ⟨k, o, hk, rfl, hB, ho⟩ := hrel
    have hol : o.length ≤ k := by
      rw [ho]
      refine Nat.le_trans (List.length_filter_le _ _) ?_
      rw [List.length_take]; omega
    have HO := Lib.hid ho
    have HB := Lib.hid hB
    clear ho hB
    by_cases hlt : k < n
    · obtain ⟨g, off, y, rfl, hy, c0⟩ := ints_at HL.out HB.out.below hlt HN.out
      have HY := Lib.hid hy
      clear hy
      by_cases g1 : y < x
      · go_wp2_with (first | (at_builtin; refine wpList_append_int rfl _ _ rfl w.heap.size _ o rfl HB.out.own y rfl (by omega) HB.out.below.size ?_; intro v' w1 hown1 hg1))
        have R2 := Lib.hid (HB.out.push hown1 hg1)
        go_roundw
        case rel =>
          refine ⟨k + 1, o ++ [y], by omega, by go_num, R2.out, ?_⟩
          rw [HO.out, List.take_add_one, HY.out, List.filter_append]
          simp [g1]
        case measure => simp [intOf]; omega
      · go_wp2_with fail
        go_roundw
        case rel =>
          refine ⟨k + 1, o, by omega, by go_num, HB.out, ?_⟩
          rw [HO.out, List.take_add_one, HY.out, List.filter_append]
          simp; omega
        case measure => simp [intOf]; omega
    · obtain rfl : k = n := by omega
      go_wp2_with (first | (at_builtin; refine wpList_append_int rfl _ _ rfl w.heap.size _ o rfl HB.out.own x rfl (by omega) HB.out.below.size ?_; intro v' w1 hown1 hg1))
      have R2 := Lib.hid (HB.out.push hown1 hg1)
      clear hown1 hg1
      have he : o = l.filter (fun y => decide (y < x)) := by
        rw [HO.out, List.take_of_length_le (by have := HN.out; omega)]
      have HE := Lib.hid he
      clear he hk hlt
      go_loopw [5, 7] (fun v i wr => ∃ (j : Nat) (p : List Int), j ≤ k ∧ i = .int .i64 j ∧ Own w wr v p ∧ p = o ++ x :: (l.take j).filter (fun y => decide (x < y))) (fun _ i _ => k - (intOf i).toNat)
      case atStart => exact ⟨0, o ++ [x], Nat.zero_le _, rfl, R2.out, by simp⟩
      case round =>
        obtain ⟨j, p, hj, rfl, hB, hp⟩ := hrel
        have hpl : p.length ≤ 220002 := by
          rw [hp, List.length_append, List.length_cons]
          refine Nat.le_trans (Nat.add_le_add_left (Nat.succ_le_succ (List.length_filter_le _ _)) _) ?_
          rw [List.length_take]
          have := HN.out
          omega
        have HP := Lib.hid hp
        have HB2 := Lib.hid hB
        clear hB hp
        by_cases hlt : j < k
        · obtain ⟨g, off, y, rfl, hy, c0⟩ := ints_at HL.out HB2.out.below hlt HN.out
          have HY := Lib.hid hy
          clear hy
          by_cases g1 : x < y
          · go_wp2_with (first | (at_builtin; refine wpList_append_int rfl _ _ rfl w.heap.size _ p rfl HB2.out.own y rfl (by omega) HB2.out.below.size ?_; intro v' w2 hown1 hg1))
            have R3 := Lib.hid (HB2.out.push hown1 hg1)
            go_roundw
            case rel =>
              refine ⟨j + 1, p ++ [y], by omega, by go_num, R3.out, ?_⟩
              rw [HP.out, List.take_add_one, HY.out, List.filter_append, List.append_assoc, List.cons_append]
              simp [g1]
            case measure => simp [intOf]; omega
          · go_wp2_with fail
            go_roundw
            case rel =>
              refine ⟨j + 1, p, by omega, by go_num, HB2.out, ?_⟩
              rw [HP.out, List.take_add_one, HY.out, List.filter_append]
              simp; omega
            case measure => simp [intOf]; omega
        · obtain rfl : j = k := by omega
          go_wp2_with fail
          go_ret
          refine ⟨_, rfl, ?_, HB2.out.below⟩
          have e := HP.out
          rw [List.take_of_length_le (by have := HN.out; omega), HE.out] at e
          rw [← H.out, show insR l x = p from e.symm]
          exact Ints.of_own HB2.out.own (by omega)
end Go.Proofs.Ytpdgdcdoaglimaa.rng
