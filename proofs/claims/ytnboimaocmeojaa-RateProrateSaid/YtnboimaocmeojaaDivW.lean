/-
  What math/bits.Div64 answers: the walk, every number of it under a name.
-/
import Derived.Test.YtnboimaocmeojaaMineA
import Derived.Test.YtnboimaocmeojaaShelf
import Derived.Test.YtnboimaocmeojaaDivMath
import Derived.Laws.Bits64b
import Derived.LoopTactic
namespace Go.Proofs.Ytnboimaocmeojaa.div64
open Go Go.RowKit Go.Proofs.Ytnboimaocmeojaa.money
set_option linter.unusedVariables false

theorem u64_in {x : Nat} (h : x < 18446744073709551616) : IntKind.u64.wrap (x : Int) = x := by rw [IntKind.wrap_u64]; omega
/-- what a round of the search computes with a guess that is one too great or more -/
theorem round_nums {U A C t p r d : Nat} (hA2 : A < 4294967296) (hC : C < 4294967296) (hd : d < 4294967296) (hr : r < 4294967296) (hp : p ≤ 4294967296) :
    IntKind.u64.wrap (p : Int) = p ∧ IntKind.u64.wrap (4294967296 * (r : Int)) = (4294967296 * r : Nat) ∧ IntKind.u64.wrap (((4294967296 * r : Nat) : Int) + (d : Int)) = (4294967296 * r + d : Nat) ∧ IntKind.u64.wrap ((r : Int) + (A : Int)) = (r + A : Nat) := by
  refine ⟨u64_in (by omega), ?_, ?_, ?_⟩
  · have := u64_in (x := 4294967296 * r) (by omega)
    rw [← this]; congr 1
  · have := u64_in (x := 4294967296 * r + d) (by omega)
    rw [← this]; congr 1
  · have := u64_in (x := r + A) (by omega)
    rw [← this]; congr 1
theorem mul_num {q C : Nat} (hq : q ≤ 4294967296) (hC : C < 4294967296) : IntKind.u64.wrap ((q : Int) * (C : Int)) = (q * C : Nat) := by
  have h : q * C ≤ 4294967296 * C := Nat.mul_le_mul_right _ hq
  have := u64_in (x := q * C) (by omega)
  rw [← this, Int.natCast_mul]

/-- the numbers of the first half -/
structure Front (hi lo y s Y A C P t Q U L d1 d0 q1 m1 r1 : Nat) : Prop where
  hs : (64 - (Lib.bitLen ((y : Int)).toNat : Int)) = (s : Int)
  e_s : IntKind.u64.wrap (s : Int) = s
  e_min : min s 64 = s
  eY : IntKind.u64.wrap (y * 2 ^ s) = (Y : Int)
  eA : (Y : Int) / 4294967296 = (A : Int)
  eC : bits .and .u64 Y 4294967295 = C
  eP : IntKind.u64.wrap (hi * 2 ^ s) = P
  e64 : IntKind.u64.wrap (64 - s) = t
  eminT : min t 64 = t
  eQ : (lo : Int) / 2 ^ t = Q
  eU : bits .or .u64 P Q = U
  eL : IntKind.u64.wrap (lo * 2 ^ s) = L
  eL1 : (L : Int) / 4294967296 = d1
  eL0 : bits .and .u64 L 4294967295 = d0
  nA : ¬ A = 0
  eq1 : (U : Int) / A = q1
  wq1 : IntKind.u64.wrap (q1 : Int) = q1
  em1 : IntKind.u64.wrap ((q1 : Int) * A) = m1
  er1 : IntKind.u64.wrap ((U : Int) - m1) = r1
/-- the numbers between the two searches -/
structure Mid (Y A U d1 t1 a1 a2 a3 V q2 m2 r2 : Nat) : Prop where
  b1 : IntKind.u64.wrap ((U : Int) * 4294967296) = a1
  b2 : IntKind.u64.wrap ((a1 : Int) + d1) = a2
  b3 : IntKind.u64.wrap ((t1 : Int) * Y) = a3
  b4 : IntKind.u64.wrap ((a2 : Int) - a3) = V
  b5 : (V : Int) / A = q2
  b6 : IntKind.u64.wrap (q2 : Int) = q2
  b7 : IntKind.u64.wrap ((q2 : Int) * A) = m2
  b8 : IntKind.u64.wrap ((V : Int) - m2) = r2
/-- the numbers of the end -/
structure Back (Y V s d0 t1 t2 c1 qq c2 c3 c4 c5 rr : Nat) : Prop where
  f1 : IntKind.u64.wrap ((t1 : Int) * 4294967296) = c1
  f2 : IntKind.u64.wrap ((c1 : Int) + t2) = qq
  f3 : IntKind.u64.wrap ((V : Int) * 4294967296) = c2
  f4 : IntKind.u64.wrap ((c2 : Int) + d0) = c3
  f5 : IntKind.u64.wrap ((t2 : Int) * Y) = c4
  f6 : IntKind.u64.wrap ((c3 : Int) - c4) = c5
  f7 : (c5 : Int) / 2 ^ s = rr

set_option maxHeartbeats 4000000 in
set_option maxRecDepth 100000 in
theorem walk (hi lo y s Y A C P t Q U L d1 d0 q1 m1 r1 t1 t2 a1 a2 a3 V q2 m2 r2 c1 qq c2 c3 c4 c5 rr : Nat) (w : World) (hy : y < 18446744073709551616) (hh : hi < y) (h0 : 0 < hi)
    (hF : Front hi lo y s Y A C P t Q U L d1 d0 q1 m1 r1) (hM : Mid Y A U d1 t1 a1 a2 a3 V q2 m2 r2) (hB : Back Y V s d0 t1 t2 c1 qq c2 c3 c4 c5 rr)
    (hY : A * 4294967296 + C = Y) (hA : 2147483648 ≤ A) (hA2 : A < 4294967296) (hC : C < 4294967296) (hd1 : d1 < 4294967296) (hd0 : d0 < 4294967296)
    (ht1 : (U * 4294967296 + d1) / Y = t1) (ht2 : (V * 4294967296 + d0) / Y = t2) (hb1 : t1 < 4294967296) (hb2 : t2 < 4294967296)
    (hg1 : Guess U A t1 q1 r1) (hg2 : Guess V A t2 q2 r2) :
    Calls Try.prog 35 #[.int .u64 hi, .int .u64 lo, .int .u64 y] w fun e w' => e = .returned (.tuple #[.int .u64 qq, .int .u64 rr]) ∧ w = w' := by
  have g1 : ((y : Int) == 0) = false := by simp; omega
  have g2 : ¬ ((y : Int) ≤ (hi : Int)) := by omega
  have g3 : ((hi : Int) == 0) = false := by simp; omega
  have HS := Lib.hid hF.hs
  obtain ⟨-, e_s, e_min, eY, eA, eC, eP, e64, eminT, eQ, eU, eL, eL1, eL0, nA, eq1, wq1, em1, er1⟩ := hF
  have HM := Lib.hid hM
  have HB := Lib.hid hB
  have HY := Lib.hid hY
  have H1 := Lib.hid ht1
  have H2 := Lib.hid ht2
  clear hM hB hY ht1 ht2
  go_enter Try.func35, Try.ntmps35
  go_wp2_with (go_at_call 42; refine (Try.bits_LeadingZeros64 (y : Int) _ (by omega) (by omega)).mono ?_; rintro e w' ⟨rfl, rfl⟩; rw [HS.out])
  clear e_s e64 eminT eY eA eC eP eQ eU eL eL1 eL0 nA eq1 wq1 em1 er1 g1 g2 g3
  go_loop [15, 16] (fun v15 v16 => ∃ q r : Nat, Guess U A t1 q r ∧ v15 = .int .u64 q ∧ v16 = .int .u64 r) (fun v15 _ => (intOf v15).toNat)
  case atStart => exact ⟨q1, r1, hg1, rfl, rfl⟩
  case round =>
    obtain ⟨q, r, hG, rfl, rfl⟩ := hrel
    by_cases hq : 4294967296 ≤ q
    · obtain ⟨p, rfl, e1, e2, e3, e4, e5⟩ := guess_more HY.out hA hC hd1 H1.out hb1 hG (.inl hq)
      obtain ⟨n1, n2, n3, n4⟩ := round_nums (U := U) (t := t1) (p := p) hA2 hC hd1 hG.2.2.2 e3
      have E4 := Lib.hid e4
      have E5 := Lib.hid e5
      clear e1 e4 e5
      obtain ⟨g, hg⟩ : ∃ g, r + A = g := ⟨_, rfl⟩
      rw [hg] at n4
      have HG := Lib.hid hg
      have hqi : (4294967296 : Int) ≤ (p : Int) + 1 := by omega
      clear hg n2 n3 hq e2 e3 hG
      by_cases hbr : (4294967296 : Int) ≤ (g : Int)
      · obtain rfl := E5.out (by have := HG.out; omega)
        obtain ⟨b1, b2, b3, b4, b5, b6, b7, b8⟩ := HM.out
        have nA : ¬ A = 0 := by omega
        go_wp2
        clear b1 b2 b3 b4 b5 b6 b7 b8
        go_loop [16, 18] (fun v16 v15 => ∃ q r : Nat, Guess V A t2 q r ∧ v15 = .int .u64 q ∧ v16 = .int .u64 r) (fun _ v15 => (intOf v15).toNat)
        case atStart => exact ⟨q2, r2, hg2, rfl, rfl⟩
        case round =>
          obtain ⟨q, r, hG, rfl, rfl⟩ := hrel
          by_cases hq : 4294967296 ≤ q
          · obtain ⟨p, rfl, e1, e2, e3, e4, e5⟩ := guess_more HY.out hA hC hd0 H2.out hb2 hG (.inl hq)
            obtain ⟨n1, n2, n3, n4⟩ := round_nums (U := V) (t := t2) (p := p) hA2 hC hd0 hG.2.2.2 e3
            have E4 := Lib.hid e4
            have E5 := Lib.hid e5
            clear e1 e4 e5
            obtain ⟨g, hg⟩ : ∃ g, r + A = g := ⟨_, rfl⟩
            rw [hg] at n4
            have HG := Lib.hid hg
            have hqi : (4294967296 : Int) ≤ (p : Int) + 1 := by omega
            clear hg n2 n3 hq e2 e3 hG
            by_cases hbr : (4294967296 : Int) ≤ (g : Int)
            · obtain rfl := E5.out (by have := HG.out; omega)
              obtain ⟨f1, f2, f3, f4, f5, f6, f7⟩ := HB.out
              go_wp2
              go_ret2
              exact ⟨rfl, rfl⟩
            · go_wp2
              go_round
              case rel => exact ⟨p, g, by rw [← HG.out]; exact E4.out (by have := HG.out; omega), rfl, rfl⟩
              case measure => simp [intOf]
          · by_cases hx : 4294967296 * r + d0 < q * C
            · have n5 := mul_num (q := q) (C := C) (by omega) hC
              obtain ⟨p, rfl, e1, e2, e3, e4, e5⟩ := guess_more HY.out hA hC hd0 H2.out hb2 hG (.inr hx)
              obtain ⟨n1, n2, n3, n4⟩ := round_nums (U := V) (t := t2) (p := p) hA2 hC hd0 hG.2.2.2 e3
              have E4 := Lib.hid e4
              have E5 := Lib.hid e5
              clear e1 e4 e5
              obtain ⟨g, hg⟩ : ∃ g, r + A = g := ⟨_, rfl⟩
              rw [hg] at n4
              have HG := Lib.hid hg
              have hqi : ¬ (4294967296 : Int) ≤ (p : Int) + 1 := by omega
              obtain ⟨x, hxx⟩ : ∃ x, (p + 1) * C = x := ⟨_, rfl⟩
              obtain ⟨z1, hz1⟩ : ∃ x, 4294967296 * r = x := ⟨_, rfl⟩
              rw [hz1] at n2 n3 hx
              obtain ⟨z, hz⟩ : ∃ x, z1 + d0 = x := ⟨_, rfl⟩
              rw [hz] at n3 hx
              rw [hxx] at n5 hx
              rw [show ((p + 1 : Nat) : Int) = (p : Int) + 1 from rfl] at n5
              clear hg hq e2 e3 hG hxx hz1 hz
              by_cases hbr : (4294967296 : Int) ≤ (g : Int)
              · obtain rfl := E5.out (by have := HG.out; omega)
                obtain ⟨f1, f2, f3, f4, f5, f6, f7⟩ := HB.out
                go_wp2
                go_ret2
                exact ⟨rfl, rfl⟩
              · go_wp2
                go_round
                case rel => exact ⟨p, g, by rw [← HG.out]; exact E4.out (by have := HG.out; omega), rfl, rfl⟩
                case measure => simp [intOf]
            · obtain rfl := guess_done HY.out hA H2.out hG hx
              have n5 := mul_num (q := q) (C := C) (by omega) hC
              obtain ⟨n1, n2, n3, n4⟩ := round_nums (U := V) (t := q) (p := q) hA2 hC hd0 hG.2.2.2 (by omega)
              have hqi : ¬ (4294967296 : Int) ≤ (q : Int) := by omega
              obtain ⟨x, hxx⟩ : ∃ x, q * C = x := ⟨_, rfl⟩
              obtain ⟨z1, hz1⟩ : ∃ x, 4294967296 * r = x := ⟨_, rfl⟩
              rw [hz1] at n2 n3 hx
              obtain ⟨z, hz⟩ : ∃ x, z1 + d0 = x := ⟨_, rfl⟩
              rw [hz] at n3 hx
              rw [hxx] at n5 hx
              clear hG hq hxx hz1 hz n4
              obtain ⟨f1, f2, f3, f4, f5, f6, f7⟩ := HB.out
              go_wp2
              go_ret2
              exact ⟨rfl, rfl⟩
      · go_wp2
        go_round
        case rel => exact ⟨p, g, by rw [← HG.out]; exact E4.out (by have := HG.out; omega), rfl, rfl⟩
        case measure => simp [intOf]
    · by_cases hx : 4294967296 * r + d1 < q * C
      · have n5 := mul_num (q := q) (C := C) (by omega) hC
        obtain ⟨p, rfl, e1, e2, e3, e4, e5⟩ := guess_more HY.out hA hC hd1 H1.out hb1 hG (.inr hx)
        obtain ⟨n1, n2, n3, n4⟩ := round_nums (U := U) (t := t1) (p := p) hA2 hC hd1 hG.2.2.2 e3
        have E4 := Lib.hid e4
        have E5 := Lib.hid e5
        clear e1 e4 e5
        obtain ⟨g, hg⟩ : ∃ g, r + A = g := ⟨_, rfl⟩
        rw [hg] at n4
        have HG := Lib.hid hg
        have hqi : ¬ (4294967296 : Int) ≤ (p : Int) + 1 := by omega
        obtain ⟨x, hxx⟩ : ∃ x, (p + 1) * C = x := ⟨_, rfl⟩
        obtain ⟨z1, hz1⟩ : ∃ x, 4294967296 * r = x := ⟨_, rfl⟩
        rw [hz1] at n2 n3 hx
        obtain ⟨z, hz⟩ : ∃ x, z1 + d1 = x := ⟨_, rfl⟩
        rw [hz] at n3 hx
        rw [hxx] at n5 hx
        rw [show ((p + 1 : Nat) : Int) = (p : Int) + 1 from rfl] at n5
        clear hg hq e2 e3 hG hxx hz1 hz
        by_cases hbr : (4294967296 : Int) ≤ (g : Int)
        · obtain rfl := E5.out (by have := HG.out; omega)
          obtain ⟨b1, b2, b3, b4, b5, b6, b7, b8⟩ := HM.out
          have nA : ¬ A = 0 := by omega
          go_wp2
          clear b1 b2 b3 b4 b5 b6 b7 b8
          go_loop [16, 18] (fun v16 v15 => ∃ q r : Nat, Guess V A t2 q r ∧ v15 = .int .u64 q ∧ v16 = .int .u64 r) (fun _ v15 => (intOf v15).toNat)
          case atStart => exact ⟨q2, r2, hg2, rfl, rfl⟩
          case round =>
            obtain ⟨q, r, hG, rfl, rfl⟩ := hrel
            by_cases hq : 4294967296 ≤ q
            · obtain ⟨p, rfl, e1, e2, e3, e4, e5⟩ := guess_more HY.out hA hC hd0 H2.out hb2 hG (.inl hq)
              obtain ⟨n1, n2, n3, n4⟩ := round_nums (U := V) (t := t2) (p := p) hA2 hC hd0 hG.2.2.2 e3
              have E4 := Lib.hid e4
              have E5 := Lib.hid e5
              clear e1 e4 e5
              obtain ⟨g, hg⟩ : ∃ g, r + A = g := ⟨_, rfl⟩
              rw [hg] at n4
              have HG := Lib.hid hg
              have hqi : (4294967296 : Int) ≤ (p : Int) + 1 := by omega
              clear hg n2 n3 hq e2 e3 hG
              by_cases hbr : (4294967296 : Int) ≤ (g : Int)
              · obtain rfl := E5.out (by have := HG.out; omega)
                obtain ⟨f1, f2, f3, f4, f5, f6, f7⟩ := HB.out
                go_wp2
                go_ret2
                exact ⟨rfl, rfl⟩
              · go_wp2
                go_round
                case rel => exact ⟨p, g, by rw [← HG.out]; exact E4.out (by have := HG.out; omega), rfl, rfl⟩
                case measure => simp [intOf]
            · by_cases hx : 4294967296 * r + d0 < q * C
              · have n5 := mul_num (q := q) (C := C) (by omega) hC
                obtain ⟨p, rfl, e1, e2, e3, e4, e5⟩ := guess_more HY.out hA hC hd0 H2.out hb2 hG (.inr hx)
                obtain ⟨n1, n2, n3, n4⟩ := round_nums (U := V) (t := t2) (p := p) hA2 hC hd0 hG.2.2.2 e3
                have E4 := Lib.hid e4
                have E5 := Lib.hid e5
                clear e1 e4 e5
                obtain ⟨g, hg⟩ : ∃ g, r + A = g := ⟨_, rfl⟩
                rw [hg] at n4
                have HG := Lib.hid hg
                have hqi : ¬ (4294967296 : Int) ≤ (p : Int) + 1 := by omega
                obtain ⟨x, hxx⟩ : ∃ x, (p + 1) * C = x := ⟨_, rfl⟩
                obtain ⟨z1, hz1⟩ : ∃ x, 4294967296 * r = x := ⟨_, rfl⟩
                rw [hz1] at n2 n3 hx
                obtain ⟨z, hz⟩ : ∃ x, z1 + d0 = x := ⟨_, rfl⟩
                rw [hz] at n3 hx
                rw [hxx] at n5 hx
                rw [show ((p + 1 : Nat) : Int) = (p : Int) + 1 from rfl] at n5
                clear hg hq e2 e3 hG hxx hz1 hz
                by_cases hbr : (4294967296 : Int) ≤ (g : Int)
                · obtain rfl := E5.out (by have := HG.out; omega)
                  obtain ⟨f1, f2, f3, f4, f5, f6, f7⟩ := HB.out
                  go_wp2
                  go_ret2
                  exact ⟨rfl, rfl⟩
                · go_wp2
                  go_round
                  case rel => exact ⟨p, g, by rw [← HG.out]; exact E4.out (by have := HG.out; omega), rfl, rfl⟩
                  case measure => simp [intOf]
              · obtain rfl := guess_done HY.out hA H2.out hG hx
                have n5 := mul_num (q := q) (C := C) (by omega) hC
                obtain ⟨n1, n2, n3, n4⟩ := round_nums (U := V) (t := q) (p := q) hA2 hC hd0 hG.2.2.2 (by omega)
                have hqi : ¬ (4294967296 : Int) ≤ (q : Int) := by omega
                obtain ⟨x, hxx⟩ : ∃ x, q * C = x := ⟨_, rfl⟩
                obtain ⟨z1, hz1⟩ : ∃ x, 4294967296 * r = x := ⟨_, rfl⟩
                rw [hz1] at n2 n3 hx
                obtain ⟨z, hz⟩ : ∃ x, z1 + d0 = x := ⟨_, rfl⟩
                rw [hz] at n3 hx
                rw [hxx] at n5 hx
                clear hG hq hxx hz1 hz n4
                obtain ⟨f1, f2, f3, f4, f5, f6, f7⟩ := HB.out
                go_wp2
                go_ret2
                exact ⟨rfl, rfl⟩
        · go_wp2
          go_round
          case rel => exact ⟨p, g, by rw [← HG.out]; exact E4.out (by have := HG.out; omega), rfl, rfl⟩
          case measure => simp [intOf]
      · obtain rfl := guess_done HY.out hA H1.out hG hx
        have n5 := mul_num (q := q) (C := C) (by omega) hC
        obtain ⟨n1, n2, n3, n4⟩ := round_nums (U := U) (t := q) (p := q) hA2 hC hd1 hG.2.2.2 (by omega)
        have hqi : ¬ (4294967296 : Int) ≤ (q : Int) := by omega
        obtain ⟨x, hxx⟩ : ∃ x, q * C = x := ⟨_, rfl⟩
        obtain ⟨z1, hz1⟩ : ∃ x, 4294967296 * r = x := ⟨_, rfl⟩
        rw [hz1] at n2 n3 hx
        obtain ⟨z, hz⟩ : ∃ x, z1 + d1 = x := ⟨_, rfl⟩
        rw [hz] at n3 hx
        rw [hxx] at n5 hx
        clear hG hq hxx hz1 hz n4
        obtain ⟨b1, b2, b3, b4, b5, b6, b7, b8⟩ := HM.out
        have nA : ¬ A = 0 := by omega
        go_wp2
        clear b1 b2 b3 b4 b5 b6 b7 b8
        go_loop [16, 18] (fun v16 v15 => ∃ q r : Nat, Guess V A t2 q r ∧ v15 = .int .u64 q ∧ v16 = .int .u64 r) (fun _ v15 => (intOf v15).toNat)
        case atStart => exact ⟨q2, r2, hg2, rfl, rfl⟩
        case round =>
          obtain ⟨q, r, hG, rfl, rfl⟩ := hrel
          by_cases hq : 4294967296 ≤ q
          · obtain ⟨p, rfl, e1, e2, e3, e4, e5⟩ := guess_more HY.out hA hC hd0 H2.out hb2 hG (.inl hq)
            obtain ⟨n1, n2, n3, n4⟩ := round_nums (U := V) (t := t2) (p := p) hA2 hC hd0 hG.2.2.2 e3
            have E4 := Lib.hid e4
            have E5 := Lib.hid e5
            clear e1 e4 e5
            obtain ⟨g, hg⟩ : ∃ g, r + A = g := ⟨_, rfl⟩
            rw [hg] at n4
            have HG := Lib.hid hg
            have hqi : (4294967296 : Int) ≤ (p : Int) + 1 := by omega
            clear hg n2 n3 hq e2 e3 hG
            by_cases hbr : (4294967296 : Int) ≤ (g : Int)
            · obtain rfl := E5.out (by have := HG.out; omega)
              obtain ⟨f1, f2, f3, f4, f5, f6, f7⟩ := HB.out
              go_wp2
              go_ret2
              exact ⟨rfl, rfl⟩
            · go_wp2
              go_round
              case rel => exact ⟨p, g, by rw [← HG.out]; exact E4.out (by have := HG.out; omega), rfl, rfl⟩
              case measure => simp [intOf]
          · by_cases hx : 4294967296 * r + d0 < q * C
            · have n5 := mul_num (q := q) (C := C) (by omega) hC
              obtain ⟨p, rfl, e1, e2, e3, e4, e5⟩ := guess_more HY.out hA hC hd0 H2.out hb2 hG (.inr hx)
              obtain ⟨n1, n2, n3, n4⟩ := round_nums (U := V) (t := t2) (p := p) hA2 hC hd0 hG.2.2.2 e3
              have E4 := Lib.hid e4
              have E5 := Lib.hid e5
              clear e1 e4 e5
              obtain ⟨g, hg⟩ : ∃ g, r + A = g := ⟨_, rfl⟩
              rw [hg] at n4
              have HG := Lib.hid hg
              have hqi : ¬ (4294967296 : Int) ≤ (p : Int) + 1 := by omega
              obtain ⟨x, hxx⟩ : ∃ x, (p + 1) * C = x := ⟨_, rfl⟩
              obtain ⟨z1, hz1⟩ : ∃ x, 4294967296 * r = x := ⟨_, rfl⟩
              rw [hz1] at n2 n3 hx
              obtain ⟨z, hz⟩ : ∃ x, z1 + d0 = x := ⟨_, rfl⟩
              rw [hz] at n3 hx
              rw [hxx] at n5 hx
              rw [show ((p + 1 : Nat) : Int) = (p : Int) + 1 from rfl] at n5
              clear hg hq e2 e3 hG hxx hz1 hz
              by_cases hbr : (4294967296 : Int) ≤ (g : Int)
              · obtain rfl := E5.out (by have := HG.out; omega)
                obtain ⟨f1, f2, f3, f4, f5, f6, f7⟩ := HB.out
                go_wp2
                go_ret2
                exact ⟨rfl, rfl⟩
              · go_wp2
                go_round
                case rel => exact ⟨p, g, by rw [← HG.out]; exact E4.out (by have := HG.out; omega), rfl, rfl⟩
                case measure => simp [intOf]
            · obtain rfl := guess_done HY.out hA H2.out hG hx
              have n5 := mul_num (q := q) (C := C) (by omega) hC
              obtain ⟨n1, n2, n3, n4⟩ := round_nums (U := V) (t := q) (p := q) hA2 hC hd0 hG.2.2.2 (by omega)
              have hqi : ¬ (4294967296 : Int) ≤ (q : Int) := by omega
              obtain ⟨x, hxx⟩ : ∃ x, q * C = x := ⟨_, rfl⟩
              obtain ⟨z1, hz1⟩ : ∃ x, 4294967296 * r = x := ⟨_, rfl⟩
              rw [hz1] at n2 n3 hx
              obtain ⟨z, hz⟩ : ∃ x, z1 + d0 = x := ⟨_, rfl⟩
              rw [hz] at n3 hx
              rw [hxx] at n5 hx
              clear hG hq hxx hz1 hz n4
              obtain ⟨f1, f2, f3, f4, f5, f6, f7⟩ := HB.out
              go_wp2
              go_ret2
              exact ⟨rfl, rfl⟩
end Go.Proofs.Ytnboimaocmeojaa.div64
