/-
  What package money's greatestFirst answers: the places of the remainders, those of greater remainders first. The walks.
-/
import Derived.Test.YtikcnekaefelcaaSortD
import Derived.Test.YtikcnekaefelcaaOrder
import Derived.Test.YtikcnekaefelcaaInts
namespace Go.Proofs.Ytikcnekaefelcaa.great
open Go Go.RowKit Go.Sort Go.Proofs.Ytikcnekaefelcaa.stable Go.Proofs.Ytikcnekaefelcaa.sorted Go.Proofs.Ytikcnekaefelcaa.order Go.Proofs.Ytikcnekaefelcaa.rank Go.Proofs.Ytikcnekaefelcaa.ints Go.Proofs.Ytikcnekaefelcaa.money
set_option linter.unusedVariables false

theorem isNaN_is (a : Int) (w : World) : Calls Try.prog 45 #[.int .u64 a] w fun e w' => e = .returned (.bool false) ∧ w = w' := by
  go_enter Try.func45, Try.ntmps45
  go_wp2
  go_ret
  exact ⟨money.ret_bool (by simp), rfl⟩
theorem compare_is (a b c : Int) (w : World) (h : cmpI a b = c) : Calls Try.prog 42 #[.int .u64 a, .int .u64 b] w fun e w' => e = .returned (.int .i64 c) ∧ w = w' := by
  have H := Lib.hid h
  clear h
  go_enter Try.func42, Try.ntmps42
  go_wp2_with (go_at_call 45; refine (isNaN_is _ _).mono ?_; rintro e w' ⟨rfl, rfl⟩)
  all_goals go_ret
  all_goals refine ⟨ret_int ?_, rfl⟩
  all_goals (rw [← H.out]; unfold cmpI; (first | rfl | (split <;> (try split) <;> omega)))

set_option maxHeartbeats 1000000 in
theorem closure_is (W : World) (bx rb ro cap n x y : Nat) (zx zy c : Int) (hbox : W.cell? ⟨bx, 0, none⟩ = some (.slice (some ⟨rb, ro, none⟩) n cap)) (hx : W.cell? ⟨rb, ro + x, none⟩ = some (.int .u64 zx)) (hy : W.cell? ⟨rb, ro + y, none⟩ = some (.int .u64 zy)) (xn : x < n) (yn : y < n) (hc : cmpI zy zx = c) :
    Calls Try.prog 41 #[.int .i64 x, .int .i64 y, .pointer (some ⟨bx, 0, none⟩)] W fun e w' => e = .returned (.int .i64 c) ∧ ∃ q, w' = W.drewN q := by
  have HC := Lib.hid hc
  have x1 : (x : Int) < (n : Int) := by omega
  have y1 : (y : Int) < (n : Int) := by omega
  clear hc
  go_enter Try.func41, Try.ntmps41
  go_wp2_with fail
  go_quiet ((go_at_call 42; exact quiet_eq (compare_is zy zx c _ HC.out)))
  go_wp2
  go_ret
  exact ⟨rfl, _, rfl⟩

/-- a place as the sort holds it -/
def encP (k : Nat) (x : Fin (k + 1)) : Value := .int .i64 (x.val : Int)
theorem below_putRow {α : Type} [Inhabited α] {B : Nat} {a w : World} (h : Below B a w) (enc : α → Value) {blk : Nat} (hb : B ≤ blk) (off : Nat) (d : Array α) : Below B a (putRow enc w blk off d) :=
  ⟨h.os, h.tape, h.output, by rw [size_putRow]; exact h.size, fun i hi => by
    rw [← h.block i hi]
    show (w.heap.modify blk _)[i]? = _
    rw [Array.getElem?_modify, if_neg (by omega)]⟩
theorem cell_sortWorld {α : Type} [Inhabited α] (enc : α → Value) (w : World) (blk off m : Nat) (dk : Array α) (os : Array Obj) (a : Addr) (h1 : a.block ≠ blk) (h2 : a.block < w.heap.size) : (sortWorld enc w blk off m dk os).cell? a = w.cell? a := by
  unfold sortWorld
  rw [cell?_grow _ _ _ (by rw [size_putRow]; exact h2), cell?_putRow_other _ _ _ _ _ _ (.inl h1)]
  rfl
/-- the bed of the sort of places by their rests -/
theorem bed_of {w : World} {blk bx rb ro cap k n : Nat} {r : List Int} (hn : k + 1 = n) (hk : r.length = k + 1) (hk2 : k < 1000000) (hrow : ∃ d0 : Array (Fin (k + 1)), d0.size = k + 1 ∧ Holds (encP k) w blk 0 d0) (h1 : bx ≠ blk) (h2 : rb ≠ blk) (h3 : bx < w.heap.size) (h4 : rb < w.heap.size)
    (hbox : w.cell? ⟨bx, 0, none⟩ = some (.slice (some ⟨rb, ro, none⟩) n cap)) (hr : ∀ i z, r[i]? = some z → w.cell? ⟨rb, ro + i, none⟩ = some (.int .u64 z)) :
    Bed (encP k) w blk 0 n 41 #[.pointer (some ⟨bx, 0, none⟩)] (byRest r k) := by
  subst hn
  refine ⟨fun _ => rfl, hrow, fun m os dk hdk x y => ?_, by omega, enters_of Try.func41 (by kernel_rfl) rfl⟩
  have gd : ∀ x : Fin (k + 1), r[x.val]? = some (r.getD x.val 0) := fun x => by
    have : x.val < r.length := by rw [hk]; exact x.isLt
    rw [List.getD, List.getElem?_eq_getElem this]; rfl
  have cs := fun a h1 h2 => cell_sortWorld (encP k) w blk 0 m dk os a h1 h2
  exact closure_is (sortWorld (encP k) w blk 0 m dk os) bx rb ro cap (k + 1) x.val y.val (r.getD x.val 0) (r.getD y.val 0) (byRest r k x y) (by rw [cs _ h1 h3]; exact hbox) (by rw [cs _ h2 h4]; exact hr _ _ (gd x)) (by rw [cs _ h2 h4]; exact hr _ _ (gd y)) x.isLt y.isLt rfl

/-- what the first loop has laid -/
def Laid (k i : Nat) (D : Array (Fin (k + 1))) : Prop := D.size = k + 1 ∧ ∀ t, t < i → (D[t]!).val = t
theorem laid_step {k i : Nat} {D : Array (Fin (k + 1))} (h : Laid k i D) (hi : i < k + 1) : Laid k (i + 1) (D.setIfInBounds i ⟨i, hi⟩) := by
  refine ⟨by simpa using h.1, fun t ht => ?_⟩
  by_cases e : t = i
  · subst e
    rw [getElem!_set_same _ _ _ (by rw [h.1]; exact hi)]
  · rw [getElem!_set_other _ _ _ _ e]; exact h.2 t (by omega)

def GivesOrder (w : World) (r : List Int) (e : Ending) (w' : World) : Prop :=
  (∃ (g : Nat) (L : List Int), e = .returned (.slice (some ⟨g, 0, none⟩) r.length r.length) ∧ w.heap.size ≤ g ∧ (∀ j z, L[j]? = some z → w'.cell? ⟨g, j, none⟩ = some (.int .i64 z)) ∧ Ordered r L) ∧ Below w.heap.size w w'

set_option maxHeartbeats 2000000 in
set_option maxRecDepth 100000 in
theorem greatestFirst_is (w : World) (rb ro cap k : Nat) (r : List Int) (hk : r.length = k + 1) (h64 : k + 1 ≤ 64) (hrb : rb < w.heap.size) (hr : ∀ i z, r[i]? = some z → w.cell? ⟨rb, ro + i, none⟩ = some (.int .u64 z)) :
    Calls Try.prog 35 #[.slice (some ⟨rb, ro, none⟩) (k + 1) cap] w (GivesOrder w r) := by
  obtain ⟨n, hn⟩ : ∃ n, k + 1 = n := ⟨_, rfl⟩
  have HR := Lib.hid (And.intro hk hr)
  have HN := Lib.hid hn
  have n64 : n ≤ 64 := by omega
  obtain ⟨i0, hi, hz0, hz1, hz2⟩ := info_parts intInfo
  have HI := Lib.hid (And.intro hi (And.intro hz0 (And.intro hz1 hz2)))
  rw [hn]
  clear hr hn hk hi hz0 hz1 hz2
  go_enter Try.func35, Try.ntmps35
  go_wp2_with (at_make; refine wpList_make_full _ rfl _ _ 29 rfl w.heap.size 3 i0 (.int .i64 0) 1 Try.underlying29 HI.out.1 HI.out.2.1 HI.out.2.2.1 .i64 .i64 _ _ n rfl rfl rfl rfl (by rw [HI.out.2.2.2]; omega) (by unfold maxLen; omega) (by simp) ?_; intro w2 hown hgr)
  have hbelow : Below w.heap.size w w2 := ((Below.refl _ _).alloc (Nat.le_refl _) _).grown hgr (by simp) (fun k hk => by cases hk)
  have hsize : w.heap.size + 1 < w2.heap.size := by
    have := (hown.lt _ rfl).2
    simpa using this
  have hbox : w2.cell? ⟨w.heap.size, 0, none⟩ = some (.slice (some ⟨rb, ro, none⟩) n cap) := hgr.cell (by simp) (by simp)
  have hrc : ∀ i z, r[i]? = some z → w2.cell? ⟨rb, ro + i, none⟩ = some (.int .u64 z) := fun i z h => by
    rw [hbelow.cell (p := ⟨rb, ro + i, none⟩) hrb]; exact HR.out.2 i z h
  have hrow : Holds (encP k) w2 (w.heap.size + 1) 0 (Array.replicate (k + 1) 0) := fun j hj => by
    have hj2 : j < n := by rw [← HN.out]; simpa using hj
    have e1 := hown.cellAt j (by simpa [size_madeCells] using hj2)
    have e2 := hown.frozenAt j
    have e3 : (w.alloc (.cells #[.slice (some ⟨rb, ro, none⟩) n cap] 51)).heap.size = w.heap.size + 1 := by simp
    rw [e3] at e1 e2
    rw [Nat.zero_add, e1]
    refine ⟨?_, e2⟩
    have e4 : (Value.int IntKind.i64 0).cells = #[.int .i64 0] := rfl
    rw [e4, toList_madeCells_one, List.getElem?_replicate, if_pos (by omega), getElem!_pos _ j hj]
    simp [encP]
  have HROW := Lib.hid hrow
  have HRC := Lib.hid hrc
  have HBX := Lib.hid hbox
  have HBL := Lib.hid hbelow
  clear hown hgr hrow hrc hbox hbelow
  go_loopw [11] (fun vi wr => ∃ (i : Nat) (D : Array (Fin (k + 1))), i ≤ n ∧ vi = .int .i64 i ∧ wr = putRow (encP k) w2 (w.heap.size + 1) 0 D ∧ Hid (Laid k i D)) (fun vi _ => n - (intOf vi).toNat)
  case atStart => exact ⟨0, Array.replicate (k + 1) 0, Nat.zero_le _, rfl, (putRow_self _ _ _ _ _ HROW.out).symm, (show _ from ⟨by simp, fun t ht => by omega⟩)⟩
  case round =>
    obtain ⟨i, D, hin, rfl, rfl, HL⟩ := hrel
    by_cases hlt : i < n
    · have hD : D.size = k + 1 := HL.out.1
      have hH := holds_putRow (encP k) w2 (w.heap.size + 1) 0 (Array.replicate (k + 1) 0) D HROW.out (by simp [hD])
      obtain ⟨c1, f1⟩ := hH i (by rw [hD, HN.out]; exact hlt)
      rw [Nat.zero_add] at c1 f1
      have hik : i < k + 1 := by rw [HN.out]; exact hlt
      have hset := putRow_set (encP k) w2 (w.heap.size + 1) 0 D i ⟨i, hik⟩ (by omega)
      rw [Nat.zero_add] at hset
      have HSET := Lib.hid hset
      have HIK := Lib.hid hik
      clear hH hset hD
      generalize hwq : putRow (encP k) w2 (w.heap.size + 1) 0 D = wq at c1 f1 ⊢
      have HW := Lib.hid hwq
      clear hwq
      go_wp2
      go_roundw
      case rel => exact ⟨i + 1, D.setIfInBounds i ⟨i, HIK.out⟩, by omega, by go_num, by rw [← HSET.out, HW.out]; rfl, (show _ from laid_step HL.out HIK.out)⟩
      case measure => simp [intOf]; omega
    · obtain rfl : i = n := by omega
      have hB := bed_of HN.out HR.out.1 (by omega) ⟨_, by simp, HROW.out⟩ (show w.heap.size ≠ w.heap.size + 1 by omega) (show rb ≠ w.heap.size + 1 by omega) (by omega) (by omega) HBX.out HRC.out
      have hC := sortStable_is hB (order_tot r k) D (by rw [HL.out.1]; exact HN.out) i 0 (by omega) (fun t ht => HL.out.2 t ht)
      have HC := Lib.hid hC
      clear hB hC
      go_wp2_with (go_at_call 43; refine HC.out.mono ?_; rintro e w' ⟨rfl, D', k2, hD', rfl⟩)
      go_ret
      obtain ⟨hs2, hrun⟩ := hD'
      have hs1 : D'.size = k + 1 := by rw [hs2]; exact HN.out.symm
      rw [← HN.out] at hrun
      refine ⟨⟨w.heap.size + 1, D'.toList.map fun x => (x.val : Int), by rw [HR.out.1, HN.out]; rfl, by omega, fun j z hz => ?_, ordered_of_run HR.out.1 hs1 hrun⟩, below_drewN (below_putRow HBL.out _ (by omega) _ _) _⟩
      rw [List.getElem?_map] at hz
      obtain ⟨x, hx, rfl⟩ := Option.map_eq_some_iff.1 hz
      have hj : j < D'.size := by
        have := (List.getElem?_eq_some_iff.1 hx).1
        simpa using this
      have hH := holds_putRow (encP k) w2 (w.heap.size + 1) 0 (Array.replicate (k + 1) 0) D' HROW.out (by simp [hs1])
      have c1 := (hH j hj).1
      have hxv : D'[j]! = x := by
        rw [getElem!_pos D' j hj]
        have : D'.toList[j]? = some D'[j] := by simp [hj]
        rw [this] at hx
        exact Option.some.inj hx
      rw [hxv, Nat.zero_add] at c1
      exact c1
end Go.Proofs.Ytikcnekaefelcaa.great
