/-
  The reference's 'put' walked: one range put into a list in normal form.
-/
import Derived.Test.YtpdgdcdoaglimaaRgs
namespace Go.Proofs.Ytpdgdcdoaglimaa.rng
open Go Go.RowKit Go.Proofs.Ytpdgdcdoaglimaa.money
set_option linter.unusedVariables false
set_option linter.unusedSimpArgs false

/-- a call's answer that reads as this list -/
def GivesL (w : World) (l : List R) (e : Ending) (w' : World) : Prop := ∃ v, e = .returned v ∧ Rgs w' v l ∧ Below w.heap.size w w'

/-- a boxed range, and a slice of the call's own behind it -/
structure Box (w w' : World) (u : R) (v : Value) (o : List R) : Prop where
  box : w'.heap[w.heap.size]? = some (.cells #[.int .i64 u.1, .int .i64 u.2] 23)
  own : w'.ownsRow (w.heap.size + 1) 23 2 v o.length (cellsR o)
  below : Below w.heap.size w w'
theorem Box.lt {w w' : World} {u : R} {v : Value} {o : List R} (h : Box w w' u v o) : w.heap.size < w'.heap.size := (Array.getElem?_eq_some_iff.1 h.box).1
theorem Box.c0 {w w' : World} {u : R} {v : Value} {o : List R} (h : Box w w' u v o) : w'.cell? ⟨w.heap.size, 0, none⟩ = some (.int .i64 u.1) := by simp [World.cell?, h.box]
theorem Box.c1 {w w' : World} {u : R} {v : Value} {o : List R} (h : Box w w' u v o) : w'.cell? ⟨w.heap.size, 1, none⟩ = some (.int .i64 u.2) := by simp [World.cell?, h.box]
theorem Box.fz {w w' : World} {u : R} {v : Value} {o : List R} (h : Box w w' u v o) (j : Nat) : w'.frozen? ⟨w.heap.size, j, none⟩ = false := by simp [World.frozen?, h.box]
theorem Box.start (w : World) (u : R) : Box w (w.alloc (.cells #[.int .i64 u.1, .int .i64 u.2] 23)) u (.slice none 0 0) [] where
  box := by
    show (w.heap.push _)[w.heap.size]? = _
    exact Array.getElem?_push_size
  own := World.ownsRow_nil _ _ _ _
  below := (Below.refl _ _).alloc (Nat.le_refl _) _
theorem Box.drewN {w w' : World} {u : R} {v : Value} {o : List R} (h : Box w w' u v o) (n : Nat) : Box w (w'.drewN n) u v o := ⟨h.box, h.own, below_drewN h.below n⟩
theorem Box.store {w w' : World} {u : R} {v : Value} {o : List R} (h : Box w w' u v o) (a b : Int) : Box w ((w'.setCell ⟨w.heap.size, 0, none⟩ (.int .i64 a)).setCell ⟨w.heap.size, 1, none⟩ (.int .i64 b)) (a, b) v o where
  box := by
    have h1 := heap_setCell_same w' w.heap.size 0 _ _ (.int .i64 a) h.box
    have h2 := heap_setCell_same _ w.heap.size 1 _ _ (.int .i64 b) h1
    rw [h2]; rfl
  own := ownsRow_setCell_below (ownsRow_setCell_below h.own (Nat.lt_succ_self _) _) (Nat.lt_succ_self _) _
  below := (h.below.setCell (Nat.le_refl _) _).setCell (Nat.le_refl _) _
theorem Box.store' {w w' : World} {u u' : R} {v : Value} {o : List R} (h : Box w w' u v o) (a b : Int) (h0 : u'.1 = a) (h1 : u'.2 = b) : Box w ((w'.setCell ⟨w.heap.size, 0, none⟩ (.int .i64 a)).setCell ⟨w.heap.size, 1, none⟩ (.int .i64 b)) u' v o := by
  subst h0 h1; exact h.store u'.1 u'.2
theorem Box.push {w w' w1 : World} {u x : R} {v v' : Value} {o : List R} {ob : Obj} (h : Box w w' u v o) (hown : w1.ownsRow (w.heap.size + 1) 23 2 v' (o ++ [x]).length (cellsR (o ++ [x])))
    (hg : (w'.alloc ob).grownBy w1 v.ownBlock) : Box w w1 u v' (o ++ [x]) where
  box := by
    have := h.lt
    rw [hg.block _ (by simp; omega) (fun e => by have := (h.own.lt _ e.symm).1; omega), Below.heap_alloc _ _ _ this]
    exact h.box
  own := hown
  below := (h.below.alloc h.below.size ob).grown hg (by have := h.below.size; simp; omega) (fun k hk => by have := (h.own.lt k hk).1; omega)
theorem Box.base {w w' : World} {u : R} {v : Value} {o : List R} (h : Box w w' u v o) : w.heap.size + 1 ≤ w'.heap.size := h.lt

/-- the elements of a slice that came in, read later -/
theorem Rgs.at {w w' : World} {l : List R} {A : Option Addr} {n c : Nat} (h : Rgs w (.slice A n c) l) (hb : Below w.heap.size w w') {i : Nat} (hi : i < n) (hn : l.length = n) :
    ∃ g off x0 x1, A = some ⟨g, off, none⟩ ∧ l[i]? = some (x0, x1) ∧ w'.cell? ⟨g, off + i * 2, none⟩ = some (.int .i64 x0) ∧ w'.cell? ⟨g, off + i * 2 + 1, none⟩ = some (.int .i64 x1) := by
  obtain ⟨g, off, c', hv, hg, hc⟩ := (h.below hb).form (by omega)
  simp only [Value.slice.injEq] at hv
  obtain ⟨rfl, -, -⟩ := hv
  obtain ⟨⟨x0, x1⟩, hx⟩ : ∃ x, l[i]? = some x := ⟨_, List.getElem?_eq_getElem (by omega)⟩
  obtain ⟨c1, c2⟩ := hc i _ hx
  exact ⟨g, off, x0, x1, rfl, hx, c1, c2⟩

/-- the first loop's step -/
theorem putA_at {l : List R} {i : Nat} {x : R} (h : l[i]? = some x) (r : R) : putA (l.drop i) r = if x.2 < r.1 then (x :: (putA (l.drop (i + 1)) r).1, (putA (l.drop (i + 1)) r).2) else if x.1 ≤ r.2 then putA (l.drop (i + 1)) (min r.1 x.1, max r.2 x.2) else putA (l.drop (i + 1)) r := by
  obtain ⟨hl, he⟩ := List.getElem?_eq_some_iff.1 h
  rw [List.drop_eq_getElem_cons hl, he, putA]

set_option maxHeartbeats 2000000 in
theorem put_is (vl : Value) (l : List R) (u0 u1 : Int) (res : List R) (w : World) (hl : Rgs w vl l) (hn : l.length ≤ 110000) (h : putR l (u0, u1) = res) :
    Calls Try.prog 32 #[vl, .agg #[.int .i64 u0, .int .i64 u1]] w (GivesL w res) := by
  obtain ⟨A, c, rfl⟩ := hl.form0
  obtain ⟨n, hn'⟩ : ∃ n, l.length = n := ⟨_, rfl⟩
  rw [hn'] at hn hl ⊢
  have HN := Lib.hid hn'
  have HL := Lib.hid hl
  have H := Lib.hid h
  clear h hl hn'
  go_enter Try.func32, Try.ntmps32
  go_wp2
  go_loopw [5, 6] (fun v i wr => ∃ (k : Nat) (r : R) (o : List R), k ≤ n ∧ i = .int .i64 k ∧ o.length ≤ k ∧ Box w wr r v o ∧ (o ++ (putA (l.drop k) r).1, (putA (l.drop k) r).2) = putA l (u0, u1)) (fun _ i _ => n - (intOf i).toNat)
  case atStart => exact ⟨0, (u0, u1), [], Nat.zero_le _, rfl, Nat.le_refl _, Box.start w (u0, u1), by simp⟩
  case round =>
    obtain ⟨k, ⟨r0, r1⟩, o, hk, rfl, ho, hB, he⟩ := hrel
    have HB := Lib.hid hB
    have HE := Lib.hid he
    have b0 := hB.c0
    have b1 := hB.c1
    have bf := hB.fz
    simp only at b0 b1
    clear hB he
    by_cases hlt : k < n
    · obtain ⟨g, off, x0, x1, rfl, hx, c0, c1⟩ := HL.out.at HB.out.below hlt HN.out
      have HX := Lib.hid hx
      clear hx
      have HS := Lib.hid (putA_at HX.out (r0, r1))
      by_cases g1 : x1 < r0
      · go_wp2_with fail
        go_quiet (fail)
        go_wp2_with (first | (at_builtin; refine wpList_append_rng rfl _ _ rfl (w.heap.size + 1) _ o rfl (HB.out.drewN _).own x0 x1 rfl (by omega) (HB.out.drewN _).base ?_; intro v' w1 hown1 hg1))
        have R2 := Lib.hid ((HB.out.drewN _).push hown1 hg1)
        go_roundw
        case rel =>
          refine ⟨k + 1, (r0, r1), o ++ [(x0, x1)], by omega, by go_num, by simp; omega, R2.out, ?_⟩
          rw [← HE.out, HS.out, if_pos (show (x0, x1).2 < (r0, r1).1 by simp only; omega), List.append_assoc]; rfl
        case measure => simp [intOf]; omega
      · by_cases g2 : x0 ≤ r1
        · by_cases m1 : x0 < r0 <;> by_cases m2 : r1 < x1
          all_goals
            go_wp2_with fail
            go_quiet (fail)
            go_wp2_with fail
            go_quiet (fail)
            go_wp2_with fail
            go_region
            go_wp2_with fail
            go_roundw
            case rel =>
              refine ⟨k + 1, (min r0 x0, max r1 x1), o, by omega, by go_num, by omega, (HB.out.drewN _).store' _ _ (by simp only; omega) (by simp only; omega), ?_⟩
              rw [← HE.out, HS.out, if_neg (show ¬ (x0, x1).2 < (r0, r1).1 by simp only; omega), if_pos (show (x0, x1).1 ≤ (r0, r1).2 by simp only; omega)]
            case measure => simp [intOf]; omega
        · go_wp2_with fail
          go_quiet (fail)
          go_wp2_with fail
          go_quiet (fail)
          go_wp2_with fail
          go_roundw
          case rel =>
            refine ⟨k + 1, (r0, r1), o, by omega, by go_num, by omega, HB.out.drewN _, ?_⟩
            rw [← HE.out, HS.out, if_neg (show ¬ (x0, x1).2 < (r0, r1).1 by simp only; omega), if_neg (show ¬ (x0, x1).1 ≤ (r0, r1).2 by simp only; omega)]
          case measure => simp [intOf]; omega
    · obtain rfl : k = n := by omega
      have hsz := HB.out.lt
      have hq : putA l (u0, u1) = (o, (r0, r1)) := by
        rw [← HE.out, List.drop_of_length_le (by have := HN.out; omega)]
        simp [putA]
      have HQ := Lib.hid hq
      clear hq
      go_wp2_with (first | (at_builtin; refine wpList_append_rng rfl _ _ rfl (w.heap.size + 1) _ o rfl HB.out.own r0 r1 rfl (by omega) HB.out.base ?_; intro v' w1 hown1 hg1))
      have R2 := Lib.hid (HB.out.push hown1 hg1)
      clear hown1 hg1 b0 b1 bf
      have HO := Lib.hid ho
      clear ho hk hlt hsz
      go_loopw [5, 7] (fun v i wr => ∃ (j : Nat) (p : List R), j ≤ k ∧ i = .int .i64 j ∧ Box w wr (r0, r1) v p ∧ p = o ++ (r0, r1) :: (l.take j).filter (fun x => decide (r1 < x.1))) (fun _ i _ => k - (intOf i).toNat)
      case atStart => exact ⟨0, o ++ [(r0, r1)], Nat.zero_le _, rfl, R2.out, by simp⟩
      case round =>
        obtain ⟨j, p, hj, rfl, hB, hp⟩ := hrel
        have hpl : p.length ≤ 220002 := by
          rw [hp, List.length_append, List.length_cons]
          refine Nat.le_trans (Nat.add_le_add_left (Nat.succ_le_succ (List.length_filter_le _ _)) _) ?_
          rw [List.length_take]
          have := HO.out
          have := HN.out
          omega
        have HP := Lib.hid hp
        have HB2 := Lib.hid hB
        have b0 := hB.c0
        have b1 := hB.c1
        simp only at b0 b1
        clear hB hp
        by_cases hlt : j < k
        · obtain ⟨g, off, x0, x1, rfl, hx, c0, c1⟩ := HL.out.at HB2.out.below hlt HN.out
          have HX := Lib.hid hx
          clear hx
          by_cases g1 : r1 < x0
          · go_wp2_with fail
            go_quiet (fail)
            go_wp2_with (first | (at_builtin; refine wpList_append_rng rfl _ _ rfl (w.heap.size + 1) _ p rfl (HB2.out.drewN _).own x0 x1 rfl (by omega) (HB2.out.drewN _).base ?_; intro v' w1 hown1 hg1))
            have R3 := Lib.hid ((HB2.out.drewN _).push hown1 hg1)
            go_roundw
            case rel =>
              refine ⟨j + 1, p ++ [(x0, x1)], by omega, by go_num, R3.out, ?_⟩
              rw [HP.out, List.take_add_one, HX.out, List.filter_append, List.append_assoc, List.cons_append]
              simp [g1]
            case measure => simp [intOf]; omega
          · go_wp2_with fail
            go_quiet (fail)
            go_wp2_with fail
            go_roundw
            case rel =>
              refine ⟨j + 1, p, by omega, by go_num, HB2.out.drewN _, ?_⟩
              rw [HP.out, List.take_add_one, HX.out, List.filter_append]
              simp; omega
            case measure => simp [intOf]; omega
        · obtain rfl : j = k := by omega
          go_wp2_with fail
          go_ret
          refine ⟨_, rfl, ?_, HB2.out.below⟩
          rw [← H.out]
          unfold putR
          rw [HQ.out]
          have e := HP.out
          rw [List.take_of_length_le (by have := HN.out; omega)] at e
          rw [← e]
          exact Rgs.of_own HB2.out.own (by omega)
end Go.Proofs.Ytpdgdcdoaglimaa.rng
