/-
  What the library's swapRangeCmpFunc and rotateCmpFunc make of a row: the walks.
-/
import Derived.Test.YtikcnekaefelcaaSortShelf
import Derived.Test.YtikcnekaefelcaaStable
import Derived.Test.YtikcnekaefelcaaWalkBase
import Derived.Shelf.SlSortCmp.Insertion
import Derived.LoopTactic
namespace Go.Proofs.Ytikcnekaefelcaa.sorted
open Go Go.RowKit Go.Sort Go.Proofs.Ytikcnekaefelcaa.stable
set_option linter.unusedVariables false
variable {α : Type} [Inhabited α]

/-- what the walks of a sort lean on: the row lies in w, its elements are of one cell, and the comparison answers cf whatever the row holds -/
structure Bed (enc : α → Value) (w : World) (blk off size g : Nat) (cb : Array Value) (cf : α → α → Int) : Prop where
  one : OneCell enc
  row : ∃ d0 : Array α, d0.size = size ∧ Holds enc w blk off d0
  reads : CmpReads Try.prog g cb enc cf blk off size w
  big : size < 4611686018427387904
  enters : ∀ args w, (callFunc g args).run Try.prog w = .ok (.enter g args) w

theorem Bed.ask {enc : α → Value} {w : World} {blk off size g : Nat} {cb : Array Value} {cf : α → α → Int} (B : Bed enc w blk off size g cb cf) (X : Array α) (x y : α) (m : Nat) (hX : X.size = size) :
    Calls Try.prog g (#[enc x, enc y] ++ cb) ((putRow enc w blk off X).drewN m) fun e w' => e = .returned (.int .i64 (cf x y)) ∧ ∃ q, w' = ((putRow enc w blk off X).drewN m).drewN q := by
  have := B.reads m #[] X hX x y
  rw [sortWorld_none] at this
  exact this
theorem sortWorld_again (enc : α → Value) (w : World) (blk off m n : Nat) (D X : Array α) (os : Array Obj) (h : X.size = D.size) : sortWorld enc ((putRow enc w blk off D).drewN m) blk off n X os = sortWorld enc w blk off (m + n) X os := by
  unfold sortWorld
  have e : Go.Sort.ahead ((putRow enc w blk off D).drewN m) n = putRow enc (Go.Sort.ahead w (m + n)) blk off D := by
    show Go.Sort.ahead (Go.Sort.ahead (putRow enc w blk off D) m) n = _
    rw [ahead_ahead]
    rfl
  rw [e, putRow_putRow _ _ _ _ _ _ h]
/-- the same bed behind some draws and a rewriting of the row -/
theorem Bed.later {enc : α → Value} {w : World} {blk off size g : Nat} {cb : Array Value} {cf : α → α → Int} (B : Bed enc w blk off size g cb cf) {D : Array α} (hs : D.size = size) (m : Nat) : CmpReads Try.prog g cb enc cf blk off size ((putRow enc w blk off D).drewN m) := fun n os X hX x y => by
  have := B.reads (m + n) os X hX x y
  rw [← sortWorld_again enc w blk off m n D X os (by omega)] at this
  exact this
theorem putRow_again (enc : α → Value) (w : World) (blk off m n : Nat) (D X : Array α) (h : X.size = D.size) : (putRow enc ((putRow enc w blk off D).drewN m) blk off X).drewN n = (putRow enc w blk off X).drewN (m + n) := by
  have e : putRow enc ((putRow enc w blk off D).drewN m) blk off X = (putRow enc (putRow enc w blk off D) blk off X).drewN m := rfl
  rw [e, putRow_putRow _ _ _ _ _ _ h, World.drewN_drewN]

theorem Bed.holds {enc : α → Value} {w : World} {blk off size g : Nat} {cb : Array Value} {cf : α → α → Int} (B : Bed enc w blk off size g cb cf) {d : Array α} (hs : d.size = size) : Holds enc (putRow enc w blk off d) blk off d := by
  obtain ⟨d0, h0, hH⟩ := B.row
  exact holds_putRow enc w blk off d0 d hH (by omega)

/-- the end of a call that leaves the row as R says, some draws on -/
def Leaves (enc : α → Value) (w : World) (blk off : Nat) (R : Array α → Prop) (e : Ending) (w' : World) : Prop := e = .returned (.tuple #[]) ∧ ∃ d' n, R d' ∧ w' = (putRow enc w blk off d').drewN n

theorem i64n {x : Nat} (h : x < 9223372036854775808) : IntKind.i64.wrap (x : Int) = x := by rw [IntKind.wrap_i64]; omega
theorem addn {x y z : Nat} (h : x + y = z) (hz : z < 9223372036854775808) : IntKind.i64.wrap ((x : Int) + (y : Int)) = z := by rw [IntKind.wrap_i64]; omega
theorem subn {x y z : Nat} (h : y + z = x) (hz : x < 9223372036854775808) : IntKind.i64.wrap ((x : Int) - (y : Int)) = z := by rw [IntKind.wrap_i64]; omega

set_option maxHeartbeats 2000000 in
set_option maxRecDepth 100000 in
theorem swapRange_is {enc : α → Value} {w : World} {blk off size g : Nat} {cb : Array Value} {cf : α → α → Int} (B : Bed enc w blk off size g cb cf) (d : Array α) (hs : d.size = size) (cap a b n k : Nat) (hab : a + n ≤ b) (hb : b + n ≤ size) :
    Calls Try.prog 50 #[.slice (some ⟨blk, off, none⟩) size cap, .int .i64 a, .int .i64 b, .int .i64 n, .func (.func g) #[] cb] ((putRow enc w blk off d).drewN k) (Leaves enc w blk off (fun d' => d' = swapN a b d n)) := by
  have hcl0 := B.one.cells
  simp only [Value.cells] at hcl0
  have hst := B.one.store Try.prog
  have HB := Lib.hid B
  have hbig := B.big
  have HS := Lib.hid hs
  clear hs B
  go_enter Try.func50, Try.ntmps50
  go_wp2
  go_loopg [10] n (fun g1 vi wr => ∃ (i m : Nat), vi = .int .i64 i ∧ i ≤ n ∧ n - i ≤ g1 ∧ wr = (putRow enc w blk off (swapN a b d i)).drewN m)
  case atStart => exact ⟨0, k, rfl, Nat.zero_le _, by omega, rfl⟩
  case round =>
    obtain ⟨i, m, rfl, hin, hg1, rfl⟩ := hrel
    by_cases hlt : i < n
    · have hltz : (i : Int) < (n : Int) := by omega
      obtain ⟨D, hD⟩ : ∃ D, swapN a b d i = D := ⟨_, rfl⟩
      have hDs : D.size = size := by rw [← hD, swapN_size]; exact HS.out
      obtain ⟨x, hx⟩ : ∃ x, a + i = x := ⟨_, rfl⟩
      obtain ⟨y, hy⟩ : ∃ y, b + i = y := ⟨_, rfl⟩
      have wx := addn hx (by omega)
      have wy := addn hy (by omega)
      have hH := HB.out.holds hDs
      obtain ⟨cx, fx⟩ := hH x (by omega)
      obtain ⟨cy, fy⟩ := hH y (by omega)
      obtain ⟨vx, hvx⟩ : ∃ v, D[x]! = v := ⟨_, rfl⟩
      obtain ⟨vy, hvy⟩ : ∃ v, D[y]! = v := ⟨_, rfl⟩
      rw [hvx] at cx
      rw [hvy] at cy
      have x1 : (x : Int) < (size : Int) := by omega
      have y1 : (y : Int) < (size : Int) := by omega
      have nxy : ¬ x = y := by omega
      have nyx : ¬ y = x := by omega
      have HX := Lib.hid (And.intro hvx (And.intro hvy (And.intro hD (And.intro hx hy))))
      have HDS := Lib.hid hDs
      rw [hD]
      have cx' : ((putRow enc w blk off D).drewN m).cell? ⟨blk, off + x, none⟩ = some (enc vx) := cx
      have cy' : ((putRow enc w blk off D).drewN m).cell? ⟨blk, off + y, none⟩ = some (enc vy) := cy
      have fx' : ((putRow enc w blk off D).drewN m).frozen? ⟨blk, off + x, none⟩ = false := fx
      have fy' : ((putRow enc w blk off D).drewN m).frozen? ⟨blk, off + y, none⟩ = false := fy
      clear cx cy fx fy hH hvx hvy hD hx hy hDs
      generalize hwq : (putRow enc w blk off D).drewN m = wq at cx' cy' fx' fy' ⊢
      have HW := Lib.hid hwq
      clear hwq
      go_wp2_with fail
      go_big_region
      all_goals go_wp2
      go_roundg (n - (i + 1))
      case measure => omega
      case rel =>
        obtain ⟨hvx, hvy, hD, hx, hy⟩ := HX.out
        refine ⟨i + 1, m + 1, by go_num, by omega, Nat.le_refl _, ?_⟩
        rw [← HW.out, swapN, hD, hx, hy, ← hvx, ← hvy]
        exact swap_worldC enc w blk off D m x y (by rw [HDS.out]; omega) (by rw [HDS.out]; omega)
    · obtain rfl : i = n := by omega
      have hltz : ¬ (i : Int) < (i : Int) := by omega
      go_wp2
      go_end0
      exact ⟨rfl, _, _, rfl, rfl⟩

set_option maxHeartbeats 2000000 in
set_option maxRecDepth 100000 in
theorem rotate_is {enc : α → Value} {w : World} {blk off size g : Nat} {cb : Array Value} {cf : α → α → Int} (B : Bed enc w blk off size g cb cf) (d : Array α) (hs : d.size = size) (cap a m b k : Nat) (ham : a < m) (hmb : m < b) (hb : b ≤ size) :
    Calls Try.prog 49 #[.slice (some ⟨blk, off, none⟩) size cap, .int .i64 a, .int .i64 m, .int .i64 b, .func (.func g) #[] cb] ((putRow enc w blk off d).drewN k) (Leaves enc w blk off (Rot a m b d)) := by
  have HB := Lib.hid B
  have hbig := B.big
  have HS := Lib.hid hs
  obtain ⟨i0, hi0⟩ : ∃ i, m - a = i := ⟨_, rfl⟩
  obtain ⟨j0, hj0⟩ : ∃ i, b - m = i := ⟨_, rfl⟩
  have w1 := subn (x := m) (y := a) (z := i0) (by omega) (by omega)
  have w2 := subn (x := b) (y := m) (z := j0) (by omega) (by omega)
  have HI := Lib.hid (And.intro hi0 hj0)
  clear hs B hi0 hj0
  go_enter Try.func49, Try.ntmps49
  go_wp2
  clear w1 w2
  go_loopg [10, 11] (i0 + j0) (fun g1 vi vj wr => ∃ (i j kk : Nat) (D : Array α), vi = .int .i64 i ∧ vj = .int .i64 j ∧ 0 < i ∧ 0 < j ∧ i ≤ m ∧ m + j ≤ b ∧ i + j ≤ g1 ∧ D.size = size ∧ wr = (putRow enc w blk off D).drewN kk ∧ Hid (∀ d', Rot (m - i) m (m + j) D d' → Rot a m b d d'))
  case atStart =>
    obtain ⟨h1, h2⟩ := HI.out
    refine ⟨i0, j0, k, d, rfl, rfl, by omega, by omega, by omega, by omega, Nat.le_refl _, HS.out, rfl, (show _ from fun d' h => ?_)⟩
    rw [show m - i0 = a by omega, show m + j0 = b by omega] at h
    exact h
  case round =>
    obtain ⟨i, j, kk, D, rfl, rfl, hi, hj, him, hjb, hg1, hDs, rfl, HR⟩ := hrel
    obtain ⟨p, hp⟩ : ∃ p, m - i = p := ⟨_, rfl⟩
    have wp := subn (x := m) (y := i) (z := p) (by omega) (by omega)
    rcases Nat.lt_trichotomy i j with hij | hij | hij
    · -- the second part is the longer one
      obtain ⟨q, hq⟩ : ∃ q, m + j = q := ⟨_, rfl⟩
      obtain ⟨r, hr⟩ : ∃ r, q - i = r := ⟨_, rfl⟩
      obtain ⟨j2, hj2⟩ : ∃ r, j - i = r := ⟨_, rfl⟩
      have wq := addn hq (by omega)
      have wr := subn (x := q) (y := i) (z := r) (by omega) (by omega)
      have wj := subn (x := j) (y := i) (z := j2) (by omega) (by omega)
      have n1 : ((i : Int) != (j : Int)) = true := by simp; omega
      have n2 : ¬ i = j := by omega
      have n3 : ¬ (j : Int) < (i : Int) := by omega
      have HC := Lib.hid (swapRange_is HB.out D hDs cap p r i kk (by omega) (by omega))
      have HQ := Lib.hid (And.intro hp (And.intro hq (And.intro hr (And.intro hj2 hDs))))
      clear hp hq hr hj2 hDs
      go_wp2_with (go_at_call 50; refine HC.out.mono ?_; rintro e w' ⟨rfl, D', k2, rfl, rfl⟩)
      obtain ⟨hp, hq, hr, hj2, hDs⟩ := HQ.out
      go_roundg (i + j2)
      case measure => omega
      case rel =>
        refine ⟨i, j2, k2, swapN p r D i, rfl, rfl, hi, by omega, him, by omega, Nat.le_refl _, by rw [swapN_size]; exact hDs, rfl, (show _ from fun d' h => HR.out d' (rot_less him hij (by omega) ?_))⟩
        rw [hj2, show swapN (m - i) (m + j - i) D i = swapN p r D i by rw [hp, hq, hr]]; exact h
    · subst hij
      have n1 : ((i : Int) != (i : Int)) = false := by simp
      have HC := Lib.hid (swapRange_is HB.out D hDs cap p m i kk (by omega) (by omega))
      have HQ := Lib.hid (And.intro hp hDs)
      clear hp hDs
      go_wp2_with (go_at_call 50; refine HC.out.mono ?_; rintro e w' ⟨rfl, D', k2, rfl, rfl⟩)
      go_end0
      obtain ⟨hp, hDs⟩ := HQ.out
      refine ⟨rfl, _, k2, HR.out _ ?_, rfl⟩
      rw [← hp]
      exact rot_end him (by omega)
    · -- the first part is the longer one
      obtain ⟨i2, hi2⟩ : ∃ r, i - j = r := ⟨_, rfl⟩
      have wj := subn (x := i) (y := j) (z := i2) (by omega) (by omega)
      have n1 : ((i : Int) != (j : Int)) = true := by simp; omega
      have n2 : ¬ i = j := by omega
      have n3 : (j : Int) < (i : Int) := by omega
      have HC := Lib.hid (swapRange_is HB.out D hDs cap p m j kk (by omega) (by omega))
      have HQ := Lib.hid (And.intro hp (And.intro hi2 hDs))
      clear hp hi2 hDs
      go_wp2_with (go_at_call 50; refine HC.out.mono ?_; rintro e w' ⟨rfl, D', k2, rfl, rfl⟩)
      obtain ⟨hp, hi2, hDs⟩ := HQ.out
      go_roundg (i2 + j)
      case measure => omega
      case rel =>
        refine ⟨i2, j, k2, swapN p m D j, rfl, rfl, by omega, hj, by omega, hjb, Nat.le_refl _, by rw [swapN_size]; exact hDs, rfl, (show _ from fun d' h => HR.out d' (rot_more him hij (by omega) ?_))⟩
        rw [hp, hi2]; exact h
end Go.Proofs.Ytikcnekaefelcaa.sorted
