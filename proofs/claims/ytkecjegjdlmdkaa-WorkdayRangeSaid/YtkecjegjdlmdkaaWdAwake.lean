/-
  The example of chapter 6 holds: 'awake' of its laws answers true, whatever the world.
-/
import Derived.Test.YtkecjegjdlmdkaaWdMine
namespace Go.Proofs.Ytkecjegjdlmdkaa.wd
open Go Go.RowKit Go.Proofs.Ytkecjegjdlmdkaa.money Go.Proofs.Ytkecjegjdlmdkaa.ints Go.Proofs.Ytkecjegjdlmdkaa.rng
set_option linter.unusedVariables false
set_option linter.unusedSimpArgs false

theorem ints_lit {w : World} (l : List Int) (k n c : Nat) (cs : Array Value) (hk : k = w.heap.size) (hn : l.length = n) (hc : cs = (l.map intV).toArray) (hl : l.length ≤ 4611686018427387904) :
    Ints (w.alloc (.cells cs 3)) (.slice (some ⟨k, 0, none⟩) n c) l := by
  subst hk hc hn
  refine ⟨hl, .inr ⟨w.heap.size, 0, c, rfl, by simp, fun i r hi => ?_⟩⟩
  rw [World.cell?_alloc_new]
  simp [hi, intV]
theorem exw : (wdR 96 [7] 4 = true ∧ wdR 96 [7] 5 = false ∧ wdR 96 [7] 6 = false ∧ wdR 96 [7] 7 = false ∧ wdR 96 [7] 8 = true) ∧ calR 96 [7] = true ∧ dayR 5 = true ∧ dayR 4 = true := by decide +kernel
theorem ex1 : nextR 96 [7] 5 = (8, 0) := by
  obtain ⟨⟨h4, h5, h6, h7, h8⟩, hc, d5, d4⟩ := exw
  unfold nextR
  rw [hc, d5, if_neg (by decide), if_neg (by decide), show (109573 - 5 : Int).toNat = 109564 + 1 + 1 + 1 + 1 from rfl]
  rw [nextFrom, h5, if_neg (by decide), show (5 : Int) + 1 = 6 from rfl, nextFrom, h6, if_neg (by decide), show (6 : Int) + 1 = 7 from rfl, nextFrom, h7, if_neg (by decide), show (7 : Int) + 1 = 8 from rfl, nextFrom, h8, if_pos rfl]
theorem ex2 : addR 96 [7] 4 1 = (8, 0) := by
  obtain ⟨⟨h4, h5, h6, h7, h8⟩, hc, d5, d4⟩ := exw
  unfold addR
  rw [hc, d4, if_neg (by decide), if_neg (by decide), if_neg (by decide), show (109572 - 4 : Int).toNat = 109564 + 1 + 1 + 1 + 1 from rfl]
  rw [addFrom, show (4 : Int) + 1 = 5 from rfl, h5, if_neg (by decide), addFrom, show (5 : Int) + 1 = 6 from rfl, h6, if_neg (by decide), addFrom, show (6 : Int) + 1 = 7 from rfl, h7, if_neg (by decide), addFrom, show (7 : Int) + 1 = 8 from rfl, h8, if_pos rfl, if_pos rfl]
theorem ex3 : cntR 96 [7] 0 14 = 9 := by decide +kernel

set_option maxHeartbeats 4000000 in
theorem awake_is (w : World) (he : Env w) : Calls Try.prog 8 #[] w (GivesB w true) := by
  have HI0 := Lib.hid ((ints_lit (w := w) [7] w.heap.size 1 1 #[.int .i64 7] rfl rfl rfl (by decide)).below (al (Below.refl _ _) (.cells #[.int .i64 96, .slice (some ⟨w.heap.size, 0, none⟩) 1 1] 24)))
  go_enter Try.func8, Try.ntmps8
  go_wp2_with (first
    | (go_at_call 9; (with_reducible refine (WNext_is 96 _ [7] 5 8 0 _ ?_ HI0.out ex1).mono ?_); (exact trivial); rintro e w1 ⟨rfl, hb1⟩; have BB := Lib.hid (tr (al (al (Below.refl w.heap.size w) _) _) hb1); have HI := Lib.hid (HI0.out.below hb1); have k0 := kept hb1 (b := w.heap.size + 1) (o := 0) (v := .int .i64 96) (by simp [go_sem]); have k1 := kept hb1 (b := w.heap.size + 1) (o := 1) (v := .slice (some ⟨w.heap.size, 0, none⟩) 1 1) (by simp [go_sem]); clear hb1)
    | (go_at_call 15; (with_reducible refine (WAdd_is 96 _ [7] 4 1 8 0 _ ?_ HI.out ex2).mono ?_); (exact trivial); rintro e w2 ⟨rfl, hb2⟩; have BB := Lib.hid (tr BB.out hb2); have HI := Lib.hid (HI.out.below hb2); replace k0 := kept hb2 k0; replace k1 := kept hb2 k1; clear hb2)
    | (go_at_call 11; (with_reducible refine (WValid_is 96 _ [7] true _ ?_ HI.out exw.2.1).mono ?_); (exact trivial); rintro e w3 ⟨rfl, hb3⟩; have BB := Lib.hid (tr BB.out hb3); have HI := Lib.hid (HI.out.below hb3); replace k0 := kept hb3 k0; replace k1 := kept hb3 k1; clear hb3)
    | (go_at_call 13; (with_reducible refine (WIs_is 96 _ [7] 4 true _ ?_ HI.out exw.1.1).mono ?_); (exact trivial); rintro e w4 ⟨rfl, hb4⟩; have BB := Lib.hid (tr BB.out hb4); have HI := Lib.hid (HI.out.below hb4); replace k0 := kept hb4 k0; replace k1 := kept hb4 k1; clear hb4)
    | (go_at_call 13; (with_reducible refine (WIs_is 96 _ [7] 5 false _ ?_ HI.out exw.1.2.1).mono ?_); (exact trivial); rintro e w5 ⟨rfl, hb5⟩; have BB := Lib.hid (tr BB.out hb5); have HI := Lib.hid (HI.out.below hb5); replace k0 := kept hb5 k0; replace k1 := kept hb5 k1; clear hb5)
    | (go_at_call 17; (with_reducible refine (WCount_is 96 _ [7] 0 14 9 _ ?_ HI.out ex3).mono ?_); (exact trivial); rintro e w6 ⟨rfl, hb6⟩; have BB := Lib.hid (tr BB.out hb6))
    | fail)
  go_ret
  exact ⟨rfl, BB.out⟩
end Go.Proofs.Ytkecjegjdlmdkaa.wd
