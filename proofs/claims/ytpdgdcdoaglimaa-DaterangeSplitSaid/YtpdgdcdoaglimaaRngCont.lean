/-
  The laws' own helpers of chapter 5: contains, normal.
-/
import Derived.Test.YtpdgdcdoaglimaaRngAwake
import Derived.Deep.RegionHeld3
namespace Go.Proofs.Ytpdgdcdoaglimaa.rng
open Go Go.RowKit Go.Proofs.Ytpdgdcdoaglimaa.money Go.Proofs.Ytpdgdcdoaglimaa.ints
set_option linter.unusedVariables false
set_option linter.unusedSimpArgs false

theorem covers_take {l : List R} {k : Nat} {x : R} (h : l[k]? = some x) (d : Int) : covers (l.take (k + 1)) d = (covers (l.take k) d || hasR x d) := by
  rw [List.take_add_one, h, covers_append]; simp [covers]

set_option maxHeartbeats 2000000 in
theorem contains_is (vl : Value) (l : List R) (d : Int) (b : Bool) (w : World) (he : Env w) (hl : Rgs w vl l) (h : covers l d = b) :
    Calls Try.prog 28 #[vl, .int .i64 d] w (GivesB w b) := by
  obtain ⟨A, c, rfl⟩ := hl.form0
  have hm := hl.1
  obtain ⟨n, hn'⟩ : ∃ n, l.length = n := ⟨_, rfl⟩
  rw [hn'] at hl hm ⊢
  have HN := Lib.hid hn'
  have HL := Lib.hid hl
  have H := Lib.hid h
  clear h hl hn'
  go_enter Try.func28, Try.ntmps28
  go_wp2
  go_loopw [5] (fun i wr => ∃ k : Nat, k ≤ n ∧ i = .int .i64 k ∧ covers (l.take k) d = false ∧ Below w.heap.size w wr) (fun i _ => n - (intOf i).toNat)
  case atStart => exact ⟨0, Nat.zero_le _, rfl, rfl, Below.refl _ _⟩
  case round =>
    obtain ⟨k, hk, rfl, hc, hb⟩ := hrel
    have HC := Lib.hid hc
    have HB := Lib.hid hb
    clear hc hb
    by_cases hlt : k < n
    · obtain ⟨g, off, x0, x1, rfl, hx, c0, c1⟩ := HL.out.at HB.out hlt HN.out
      have HX := Lib.hid hx
      clear hx
      obtain ⟨q, hq⟩ : ∃ q, hasR (x0, x1) d = q := ⟨_, rfl⟩
      have HQ := Lib.hid hq
      clear hq
      have hcn := covers_take HX.out d
      rw [HC.out, HQ.out, Bool.false_or] at hcn
      have HCN := Lib.hid hcn
      clear hcn
      cases q
      · go_wp2_with (go_at_call 13; (with_reducible refine (Contains_is x0 x1 d false _ ?_ HQ.out).mono ?_); (exact trivial); rintro e w1 ⟨rfl, hb1⟩)
        go_roundw
        case rel => exact ⟨k + 1, by omega, by go_num, HCN.out, tr HB.out hb1⟩
        case measure => simp [intOf]; omega
      · go_wp2_with (go_at_call 13; (with_reducible refine (Contains_is x0 x1 d true _ ?_ HQ.out).mono ?_); (exact trivial); rintro e w1 ⟨rfl, hb1⟩)
        go_ret
        refine ⟨ref_bool ?_, tr HB.out hb1⟩
        rw [← H.out]
        symm
        obtain ⟨r, hr, hh⟩ := (covers_iff _ _).1 HCN.out
        exact (covers_iff _ _).2 ⟨r, List.mem_of_mem_take hr, hh⟩
    · obtain rfl : k = n := by omega
      go_wp2_with fail
      go_ret
      refine ⟨ref_bool ?_, HB.out⟩
      have e := HC.out
      rw [List.take_of_length_le (by have := HN.out; omega)] at e
      rw [← H.out, e]

theorem norm_at {l : List R} (h : Norm l) {k : Nat} {x : R} (hx : l[k]? = some x) : 0 ≤ x.1 ∧ x.1 < x.2 ∧ x.2 ≤ 109573 := (ne_iff x).1 (h.1 x (List.mem_of_getElem? hx))
theorem norm_before {l : List R} (h : Norm l) {k : Nat} {x y : R} (hy : l[k]? = some y) (hx : l[k + 1]? = some x) : y.2 < x.1 := by
  obtain ⟨h1, e1⟩ := List.getElem?_eq_some_iff.1 hy
  obtain ⟨h2, e2⟩ := List.getElem?_eq_some_iff.1 hx
  have := List.pairwise_iff_getElem.1 h.2 k (k + 1) h1 h2 (by omega)
  rw [e1, e2] at this
  exact this
end Go.Proofs.Ytpdgdcdoaglimaa.rng
