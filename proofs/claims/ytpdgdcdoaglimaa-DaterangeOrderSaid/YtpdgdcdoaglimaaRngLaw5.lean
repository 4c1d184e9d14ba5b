/-
  The law DaterangeOrder walked.
-/
import Derived.Test.YtpdgdcdoaglimaaRngLaw3
namespace Go.Proofs.Ytpdgdcdoaglimaa.rng
open Go Go.RowKit Go.Proofs.Ytpdgdcdoaglimaa.money Go.Proofs.Ytpdgdcdoaglimaa.ints
set_option linter.unusedVariables false
set_option linter.unusedSimpArgs false

theorem small64 (z : Int) (h0 : -1000 ≤ z) (h : z ≤ 1000) : wrap64 z = z ∧ IntKind.i64.wrap z = z := ⟨IntWalk.wrap64_in _ ⟨by omega, by omega⟩, i64_in (by omega) (by omega)⟩
/-- the first k elements of the list turned round -/
def turned (l : List R) (f : Nat) (k : Nat) : List R := (List.range k).map fun i => l.getD ((l.length - 1 - i + f) % l.length) (0, 0)
theorem turned_next {l : List R} {f k : Nat} {x : R} (h : l[(l.length - 1 - k + f) % l.length]? = some x) : turned l f (k + 1) = turned l f k ++ [x] := by
  unfold turned
  rw [List.range_succ, List.map_append, List.map_cons, List.map_nil, List.getD_eq_getElem?_getD, h]; rfl
theorem turned_length (l : List R) (f k : Nat) : (turned l f k).length = k := by simp [turned]
theorem turned_mem (l : List R) (f : Nat) (x : R) : x ∈ l ↔ x ∈ turned l f l.length := by
  unfold turned
  rw [List.mem_map]
  constructor
  · intro h
    obtain ⟨j, hj, e⟩ := List.mem_iff_getElem.1 h
    have hp : 0 < l.length := by omega
    have hm := Nat.mod_lt (l.length - 1 - j + f) hp
    refine ⟨(l.length - 1 - j + f) % l.length, List.mem_range.2 hm, ?_⟩
    have hd := Nat.div_add_mod (l.length - 1 - j + f) l.length
    obtain ⟨q, hq⟩ : ∃ q, (l.length - 1 - j + f) / l.length = q := ⟨_, rfl⟩
    obtain ⟨i, hi⟩ : ∃ i, (l.length - 1 - j + f) % l.length = i := ⟨_, rfl⟩
    rw [hq, hi] at hd
    rw [hi] at hm ⊢
    have e2 : l.length - 1 - i + f = l.length * q + j := by omega
    rw [e2, Nat.mul_add_mod, Nat.mod_eq_of_lt hj, List.getD_eq_getElem?_getD, List.getElem?_eq_getElem hj]
    exact e
  · rintro ⟨i, hi, e⟩
    have hi := List.mem_range.1 hi
    have hp : 0 < l.length := by omega
    have hm := Nat.mod_lt (l.length - 1 - i + f) hp
    rw [← e, List.getD_eq_getElem?_getD, List.getElem?_eq_getElem hm]
    exact List.getElem_mem hm

set_option maxRecDepth 4000 in
set_option maxHeartbeats 8000000 in
theorem walk_DaterangeOrder (vl : Value) (l : List R) (a0 a1 : Int) (F : Int) (w : World) (hf0 : 0 ≤ F) (hf1 : F ≤ 255) (hl : Rgs w vl l) (he : Env w) : Calls Try.prog 8 #[vl, .agg #[.int .i64 a0, .int .i64 a1], .int .u8 F] w (GivesB w true) := by
  obtain ⟨f, hfn⟩ : ∃ f : Nat, F = f := ⟨F.toNat, by omega⟩
  have HL := Lib.hid hl
  cases hf : decide (l.length ≤ 100)
  · have HF := Lib.hid hf
    clear hf hl
    go_enter Try.func8, Try.ntmps8
    go_wp2_with (first
      | (go_at_call 19; (with_reducible refine (few_is _ l false _ ?_ HF.out).mono ?_); (exact HL.out.below (al (Below.refl _ _) _)); rintro e w1 ⟨rfl, rfl⟩)
      | (go_at_call 18; (with_reducible refine (awake_is _ ?_).mono ?_); (exact trivial); rintro e w2 ⟨rfl, hb2⟩)
      | fail)
    go_ret
    exact ⟨rfl, tr (al (Below.refl _ _) _) hb2⟩
  · have HF := Lib.hid hf
    have HN := Lib.hid (few_true hf)
    obtain ⟨n, hn'⟩ : ∃ n, l.length = n := ⟨_, rfl⟩
    have n100 : n ≤ 100 := by have := few_true hf; omega
    have HNN := Lib.hid hn'
    obtain ⟨A, c, rfl⟩ := hl.form0
    have hm := hl.1
    rw [hn'] at hm ⊢
    have HL2 : Hid (Rgs w (.slice A n c) l) := by rw [← hn']; exact HL
    clear hf hl HL hn'
    have HL := HL2
    have HFN := Lib.hid hfn
    clear HL2 hfn
    go_enter Try.func8, Try.ntmps8
    go_wp2_with (first
      | (go_at_call 19; (with_reducible refine (few_is _ l true _ ?_ HF.out).mono ?_); (exact HL.out.below (al (Below.refl _ _) _)); rintro e w1 ⟨rfl, rfl⟩)
      | fail)
    go_loopw [7, 8] (fun v i wr => ∃ (k : Nat) (o : List R), k ≤ n ∧ i = .int .i64 k ∧ o = turned l f k ∧ Box w wr (a0, a1) v o) (fun _ i _ => n - (intOf i).toNat)
    case atStart => exact ⟨0, [], Nat.zero_le _, rfl, rfl, Box.start w (a0, a1)⟩
    case round =>
      obtain ⟨k, o, hk, rfl, ho, hb⟩ := hrel
      have HO1 := Lib.hid ho
      have HB := Lib.hid hb
      clear ho hb
      by_cases hlt : k < n
      · have np : 0 < n := by omega
        have hfn := HFN.out
        obtain ⟨x3, hx3⟩ : ∃ x, n - 1 - k + f = x := ⟨_, rfl⟩
        obtain ⟨y, hy⟩ : ∃ y, x3 % n = y := ⟨_, rfl⟩
        have yn : y < n := by rw [← hy]; exact Nat.mod_lt _ np
        obtain ⟨g, off, x0, x1, rfl, hx, c0, c1⟩ := HL.out.at HB.out.below yn HNN.out
        have HX := Lib.hid hx
        obtain ⟨P1, i1⟩ : ∃ x : Int, (n : Int) - 1 = x := ⟨_, rfl⟩
        obtain ⟨P2, i2⟩ : ∃ x : Int, P1 - k = x := ⟨_, rfl⟩
        obtain ⟨P3, i3⟩ : ∃ x : Int, P2 + F = x := ⟨_, rfl⟩
        have j3 : P3 = x3 := by omega
        have q1 : -1000 ≤ P1 ∧ P1 ≤ 1000 := by omega
        have q2 : -1000 ≤ P2 ∧ P2 ≤ 1000 := by omega
        have q3 : -1000 ≤ P3 ∧ P3 ≤ 1000 := by omega
        have t1 : P3.tmod n = y := by rw [j3, ← hy]; rfl
        have t2 : ((n : Int) == 0) = false := by simp; omega
        have t3 : (n : Int) ≠ 0 := by omega
        have t4 : (y : Int) < n := by omega
        have t5 : (0 : Int) ≤ y := by omega
        have HK := Lib.hid (show k + 1 ≤ n by omega)
        have HT := Lib.hid (show turned l f (k + 1) = o ++ [(x0, x1)] by rw [HO1.out]; exact turned_next (by rw [HNN.out, hx3, hy]; exact HX.out))
        have OL := Lib.hid (show o.length ≤ 1000000 by rw [HO1.out, turned_length]; omega)
        clear hx hx3 hy hfn
        obtain ⟨w1, v1⟩ := small64 P1 q1.1 q1.2
        obtain ⟨w2, v2⟩ := small64 P2 q2.1 q2.2
        obtain ⟨w3, v3⟩ := small64 P3 q3.1 q3.2
        obtain ⟨w4, v4⟩ := small64 F (by omega) (by omega)
        clear j3 q1 q2 q3
        go_wp2_with (first
          | (at_builtin; refine wpList_append_rng rfl _ _ rfl (w.heap.size + 1) _ o rfl HB.out.own x0 x1 rfl OL.out HB.out.base ?_; intro v' w1 hown1 hg1)
          | fail)
        go_roundw
        case rel => exact ⟨k + 1, o ++ [(x0, x1)], HK.out, by go_num, HT.out.symm, HB.out.push hown1 hg1⟩
        case measure => simp [intOf]; omega
      · obtain rfl : k = n := by omega
        have hmem := turned_mem l f
        rw [HNN.out] at hmem
        rw [← HO1.out] at hmem
        obtain ⟨u, h1⟩ : ∃ r, unionR l = r := ⟨_, rfl⟩
        obtain ⟨g, h2⟩ : ∃ r, gapsR l (a0, a1) = r := ⟨_, rfl⟩
        obtain ⟨b, h3⟩ : ∃ r, bndR l = r := ⟨_, rfl⟩
        have H1 := Lib.hid h1
        have H2 := Lib.hid h2
        have H3 := Lib.hid h3
        have H1m := Lib.hid (show unionR o = u by rw [← h1]; exact (union_perm hmem).symm)
        have H2m := Lib.hid (show gapsR o (a0, a1) = g by rw [← h2]; exact (gaps_perm (a0, a1) hmem).symm)
        have H3m := Lib.hid (show bndR o = b by rw [← h3]; exact (bnd_perm hmem).symm)
        have HO := Lib.hid (show o.length ≤ 100 by rw [HO1.out, turned_length]; omega)
        clear h1 h2 h3 hmem
        obtain ⟨wq, rfl⟩ : ∃ x, x = wr := ⟨_, rfl⟩
        have HM := Lib.hid (Rgs.of_own HB.out.own (by have := HO.out; omega))
        have BB := Lib.hid HB.out.below
        have CC := Lib.hid (Below.refl wq.heap.size wq)
        have n0 := HB.out.c0
        have n1 := HB.out.c1
        go_wp2_with fail
        go_region_held3 (fun w' => w'.cell? ⟨w.heap.size, 0, none⟩ = some (.int .i64 a0) ∧ w'.cell? ⟨w.heap.size, 1, none⟩ = some (.int .i64 a1))
          (first | go_keep | (go_split_ands; refine ⟨cell_on hbn ?_, cell_on hbn ?_⟩ <;> assumption))
          (first
      | (go_at_call 20; (with_reducible refine (Union_is _ l u _ ?_ ?_ HN.out H1.out).mono ?_); (exact trivial); (exact (by first | exact HL.out.below BB.out | exact HL.out.below (below_drewN BB.out _))); rintro e wn ⟨v5, rfl, hrv5, hbn⟩; have BB := (by first | exact Lib.hid (tr BB.out hbn) | exact Lib.hid (tr (below_drewN BB.out _) hbn) | exact Lib.hid (tr (below_drewN BB.out 1) hbn) : Hid (Below w.heap.size w wn)); have CC := (by first | exact Lib.hid (tr CC.out hbn) | exact Lib.hid (tr (below_drewN CC.out _) hbn) | exact Lib.hid (tr (below_drewN CC.out 1) hbn) : Hid (Below wq.heap.size wq wn)); have Dv5 := Lib.hid (Below.refl wn.heap.size wn); have Rv5 := Lib.hid hrv5; clear hrv5)
      | (go_at_call 20; (with_reducible refine (Union_is _ o u _ ?_ ?_ HO.out H1m.out).mono ?_); (exact trivial); (exact (by first | exact HM.out.below CC.out | exact HM.out.below (below_drewN CC.out _))); rintro e wn ⟨v6, rfl, hrv6, hbn⟩; have BB := (by first | exact Lib.hid (tr BB.out hbn) | exact Lib.hid (tr (below_drewN BB.out _) hbn) | exact Lib.hid (tr (below_drewN BB.out 1) hbn) : Hid (Below w.heap.size w wn)); have CC := (by first | exact Lib.hid (tr CC.out hbn) | exact Lib.hid (tr (below_drewN CC.out _) hbn) | exact Lib.hid (tr (below_drewN CC.out 1) hbn) : Hid (Below wq.heap.size wq wn)); have Sv5 := Lib.hid (Rv5.out.below (by first | exact hbn | exact below_drewN hbn _)); have Rv6 := Lib.hid hrv6; clear hrv6)
      | (go_at_call 15; (with_reducible refine (DateRanges_is _ _ u u true _ ?_ ?_ (by simp)).mono ?_); (exact Sv5.out); (exact Rv6.out); rintro e wn ⟨rfl, hbn⟩; have BB := (by first | exact Lib.hid (tr BB.out hbn) | exact Lib.hid (tr (below_drewN BB.out _) hbn) | exact Lib.hid (tr (below_drewN BB.out 1) hbn) : Hid (Below w.heap.size w wn)); have CC := (by first | exact Lib.hid (tr CC.out hbn) | exact Lib.hid (tr (below_drewN CC.out _) hbn) | exact Lib.hid (tr (below_drewN CC.out 1) hbn) : Hid (Below wq.heap.size wq wn)))
      | (go_at_call 22; (with_reducible refine (Gaps_is _ l a0 a1 g _ ?_ ?_ HN.out H2.out).mono ?_); (exact trivial); (exact (by first | exact HL.out.below BB.out | exact HL.out.below (below_drewN BB.out _))); rintro e wn ⟨v7, rfl, hrv7, hbn⟩; have BB := (by first | exact Lib.hid (tr BB.out hbn) | exact Lib.hid (tr (below_drewN BB.out _) hbn) | exact Lib.hid (tr (below_drewN BB.out 1) hbn) : Hid (Below w.heap.size w wn)); have CC := (by first | exact Lib.hid (tr CC.out hbn) | exact Lib.hid (tr (below_drewN CC.out _) hbn) | exact Lib.hid (tr (below_drewN CC.out 1) hbn) : Hid (Below wq.heap.size wq wn)); have Dv7 := Lib.hid (Below.refl wn.heap.size wn); have Rv7 := Lib.hid hrv7; clear hrv7)
      | (go_at_call 22; (with_reducible refine (Gaps_is _ o a0 a1 g _ ?_ ?_ HO.out H2m.out).mono ?_); (exact trivial); (exact (by first | exact HM.out.below CC.out | exact HM.out.below (below_drewN CC.out _))); rintro e wn ⟨v8, rfl, hrv8, hbn⟩; have BB := (by first | exact Lib.hid (tr BB.out hbn) | exact Lib.hid (tr (below_drewN BB.out _) hbn) | exact Lib.hid (tr (below_drewN BB.out 1) hbn) : Hid (Below w.heap.size w wn)); have CC := (by first | exact Lib.hid (tr CC.out hbn) | exact Lib.hid (tr (below_drewN CC.out _) hbn) | exact Lib.hid (tr (below_drewN CC.out 1) hbn) : Hid (Below wq.heap.size wq wn)); have Sv7 := Lib.hid (Rv7.out.below (by first | exact hbn | exact below_drewN hbn _)); have Rv8 := Lib.hid hrv8; clear hrv8)
      | (go_at_call 15; (with_reducible refine (DateRanges_is _ _ g g true _ ?_ ?_ (by simp)).mono ?_); (exact Sv7.out); (exact Rv8.out); rintro e wn ⟨rfl, hbn⟩; have BB := (by first | exact Lib.hid (tr BB.out hbn) | exact Lib.hid (tr (below_drewN BB.out _) hbn) | exact Lib.hid (tr (below_drewN BB.out 1) hbn) : Hid (Below w.heap.size w wn)); have CC := (by first | exact Lib.hid (tr CC.out hbn) | exact Lib.hid (tr (below_drewN CC.out _) hbn) | exact Lib.hid (tr (below_drewN CC.out 1) hbn) : Hid (Below wq.heap.size wq wn)))
      | (go_at_call 25; (with_reducible refine (Boundaries_is _ l b _ ?_ ?_ HN.out H3.out).mono ?_); (exact trivial); (exact (by first | exact HL.out.below BB.out | exact HL.out.below (below_drewN BB.out _))); rintro e wn ⟨v9, rfl, hrv9, hbn⟩; have BB := (by first | exact Lib.hid (tr BB.out hbn) | exact Lib.hid (tr (below_drewN BB.out _) hbn) | exact Lib.hid (tr (below_drewN BB.out 1) hbn) : Hid (Below w.heap.size w wn)); have CC := (by first | exact Lib.hid (tr CC.out hbn) | exact Lib.hid (tr (below_drewN CC.out _) hbn) | exact Lib.hid (tr (below_drewN CC.out 1) hbn) : Hid (Below wq.heap.size wq wn)); have Dv9 := Lib.hid (Below.refl wn.heap.size wn); have Rv9 := Lib.hid hrv9; clear hrv9)
      | (go_at_call 25; (with_reducible refine (Boundaries_is _ o b _ ?_ ?_ HO.out H3m.out).mono ?_); (exact trivial); (exact (by first | exact HM.out.below CC.out | exact HM.out.below (below_drewN CC.out _))); rintro e wn ⟨v10, rfl, hrv10, hbn⟩; have BB := (by first | exact Lib.hid (tr BB.out hbn) | exact Lib.hid (tr (below_drewN BB.out _) hbn) | exact Lib.hid (tr (below_drewN BB.out 1) hbn) : Hid (Below w.heap.size w wn)); have CC := (by first | exact Lib.hid (tr CC.out hbn) | exact Lib.hid (tr (below_drewN CC.out _) hbn) | exact Lib.hid (tr (below_drewN CC.out 1) hbn) : Hid (Below wq.heap.size wq wn)); have Sv9 := Lib.hid (Rv9.out.below (by first | exact hbn | exact below_drewN hbn _)); have Rv10 := Lib.hid hrv10; clear hrv10)
      | (go_at_call 24; (with_reducible refine (Ints_is _ _ b b true _ ?_ ?_ (by simp)).mono ?_); (exact Sv9.out); (exact Rv10.out); rintro e wn ⟨rfl, hbn⟩; have BB := (by first | exact Lib.hid (tr BB.out hbn) | exact Lib.hid (tr (below_drewN BB.out _) hbn) | exact Lib.hid (tr (below_drewN BB.out 1) hbn) : Hid (Below w.heap.size w wn)); have CC := (by first | exact Lib.hid (tr CC.out hbn) | exact Lib.hid (tr (below_drewN CC.out _) hbn) | exact Lib.hid (tr (below_drewN CC.out 1) hbn) : Hid (Below wq.heap.size wq wn)))
      | (go_at_call 18; (with_reducible refine (awake_is _ ?_).mono ?_); (exact trivial); rintro e wn ⟨rfl, hbn⟩; have BB := (by first | exact Lib.hid (tr BB.out hbn) | exact Lib.hid (tr (below_drewN BB.out _) hbn) | exact Lib.hid (tr (below_drewN BB.out 1) hbn) : Hid (Below w.heap.size w wn)); have CC := (by first | exact Lib.hid (tr CC.out hbn) | exact Lib.hid (tr (below_drewN CC.out _) hbn) | exact Lib.hid (tr (below_drewN CC.out 1) hbn) : Hid (Below wq.heap.size wq wn)))
      | fail)
        go_wp2_with fail
        go_ret
        exact ⟨rfl, BB.out⟩
end Go.Proofs.Ytpdgdcdoaglimaa.rng
