/-
  What the library's symMergeCmpFunc makes of a row where one of its two parts is a single element: the walks.
-/
import Derived.Test.YtikcnekaefelcaaSortA
namespace Go.Proofs.Ytikcnekaefelcaa.sorted
open Go Go.RowKit Go.Sort Go.Proofs.Ytikcnekaefelcaa.stable
set_option linter.unusedVariables false
variable {α : Type} [Inhabited α]

/-- two ascending parts of a row merged -/
def Merged (lt : α → α → Bool) (a b : Nat) (d d' : Array α) : Prop := PermIn a b d d' ∧ Asc lt a b d'

theorem Bed.hear {enc : α → Value} {w : World} {blk off size g : Nat} {cb : Array Value} {cf : α → α → Int} (B : Bed enc w blk off size g cb cf) {D : Array α} (hs : D.size = size) (x y : α) (m : Nat) :
    ∀ n, Calls Try.prog g (#[enc x, enc y] ++ cb) (((putRow enc w blk off D).drewN m).drewN n) fun e w' => e = .returned (.int .i64 (cf x y)) ∧ ∃ q, w' = (((putRow enc w blk off D).drewN m).drewN n).drewN q := fun n => by
  have := B.ask D x y (m + n) hs
  rw [← World.drewN_drewN] at this
  exact this

theorem half_nums {i j z h : Nat} (hz : i + j = z) (hh : z / 2 = h) (hb : z < 9223372036854775808) : IntKind.i64.wrap ((i : Int) + (j : Int)) = z ∧ IntKind.u64.wrap (z : Int) = z ∧ (z : Int) / 2 = h ∧ IntKind.i64.wrap (h : Int) = h :=
  ⟨addn hz hb, by rw [IntKind.wrap_u64]; omega, by omega, i64n (by omega)⟩

set_option maxHeartbeats 4000000 in
set_option maxRecDepth 100000 in
theorem symOne_is {enc : α → Value} {w : World} {blk off size g : Nat} {cb : Array Value} {cf : α → α → Int} {lt : α → α → Bool} {key : α → Nat} (B : Bed enc w blk off size g cb cf) (T : Tot lt key (ltOf cf)) (d : Array α) (hs : d.size = size) (cap a m b k : Nat) (ham : a + 1 = m) (hmb : m < b) (hb : b ≤ size)
    (hA : Asc lt m b d) (hK : Keys key a m b d) :
    Calls Try.prog 48 #[.slice (some ⟨blk, off, none⟩) size cap, .int .i64 a, .int .i64 m, .int .i64 b, .func (.func g) #[] cb] ((putRow enc w blk off d).drewN k) (Leaves enc w blk off (Merged lt a b d)) := by
  have hcl0 := B.one.cells
  simp only [Value.cells] at hcl0
  have hst := B.one.store Try.prog
  have eg := B.enters
  have HB := Lib.hid B
  have hbig := B.big
  have HS := Lib.hid hs
  have HF : Hid (Falls (fun h => lt d[h]! d[a]!) m b) := fun c c' x y z q => T.swo.trans _ _ _ (hA c c' x y z) q
  have HT := Lib.hid (And.intro T (And.intro hA hK))
  have w1 := subn (x := m) (y := a) (z := 1) (by omega) (by omega)
  have HM := Lib.hid ham
  clear hs B hA hK T ham
  go_enter Try.func48, Try.ntmps48
  go_wp2
  go_loopg [10, 11] (b - m) (fun g1 vi vj wr => ∃ (i j kk : Nat), vi = .int .i64 i ∧ vj = .int .i64 j ∧ Srch (fun h => lt d[h]! d[a]!) m b i j ∧ j - i ≤ g1 ∧ wr = (putRow enc w blk off d).drewN kk)
  case atStart => exact ⟨m, b, k, rfl, rfl, srch_start (by omega), Nat.le_refl _, rfl⟩
  case round =>
    obtain ⟨i, j, kk, rfl, rfl, hSr, hg1, rfl⟩ := hrel
    have HSr := Lib.hid hSr
    obtain ⟨q1, q2, q3, -, -⟩ := hSr
    by_cases hij : i < j
    · have hijz : (i : Int) < (j : Int) := by omega
      obtain ⟨z, hz⟩ : ∃ z, i + j = z := ⟨_, rfl⟩
      obtain ⟨h, hh⟩ : ∃ h, z / 2 = h := ⟨_, rfl⟩
      obtain ⟨n1, n2, n3, n4⟩ := half_nums hz hh (by omega)
      have hih : i ≤ h := by omega
      have hhj : h < j := by omega
      have hH := HB.out.holds HS.out
      obtain ⟨ch, fh⟩ := hH h (by have := HS.out; omega)
      obtain ⟨ca, fa⟩ := hH a (by have := HS.out; have := HM.out; omega)
      obtain ⟨xh, hxh⟩ : ∃ x, d[h]! = x := ⟨_, rfl⟩
      obtain ⟨xa, hxa⟩ : ∃ x, d[a]! = x := ⟨_, rfl⟩
      rw [hxh] at ch
      rw [hxa] at ca
      have hc := HB.out.hear HS.out xh xa kk
      have ch' : ((putRow enc w blk off d).drewN kk).cell? ⟨blk, off + h, none⟩ = some (enc xh) := ch
      have ca' : ((putRow enc w blk off d).drewN kk).cell? ⟨blk, off + a, none⟩ = some (enc xa) := ca
      have z1 : (h : Int) < (size : Int) := by omega
      have z2 : (a : Int) < (size : Int) := by have := HM.out; omega
      have hcr : lt d[h]! d[a]! = decide (cf xh xa < 0) := by
        rw [← HT.out.1.cross d[a]! d[h]! (HT.out.2.2 a h (Nat.le_refl _) (by have := HM.out; omega) (by omega) (by omega)), hxh, hxa]; rfl
      have HX := Lib.hid (And.intro hz (And.intro hh hcr))
      clear ch ca fh fa hH hxh hxa hz hh hcr
      generalize hwq : (putRow enc w blk off d).drewN kk = wq at ch' ca' hc ⊢
      have HW := Lib.hid hwq
      clear hwq
      by_cases hlv : cf xh xa < 0
      · go_wp2_with fail
        go_quiet (first | (go_at_fn g; refine Calls.quiet_of (hc _)))
        go_wp2
        obtain ⟨hz, hh, hcr⟩ := HX.out
        go_roundg (j - (h + 1))
        case measure => omega
        case rel => exact ⟨h + 1, j, kk + nq, by go_num, rfl, srch_up HF HSr.out hih hhj (by show lt d[h]! d[a]! = true; rw [hcr]; exact decide_eq_true hlv), Nat.le_refl _, by rw [← HW.out, World.drewN_drewN]⟩
      · go_wp2_with fail
        go_quiet (first | (go_at_fn g; refine Calls.quiet_of (hc _)))
        go_wp2
        obtain ⟨hz, hh, hcr⟩ := HX.out
        go_roundg (h - i)
        case measure => omega
        case rel => exact ⟨i, h, kk + nq, rfl, rfl, srch_down HF HSr.out hih hhj (by show lt d[h]! d[a]! = false; rw [hcr]; exact decide_eq_false (by omega)), Nat.le_refl _, by rw [← HW.out, World.drewN_drewN]⟩
    · obtain rfl : i = j := by omega
      obtain ⟨ip, rfl⟩ : ∃ p, i = p + 1 := ⟨i - 1, by have := HM.out; omega⟩
      have wip := i64n (x := ip) (by omega)
      go_wp2
      obtain ⟨wo, hwo⟩ : ∃ wo : World, wo = (putRow enc w blk off d).drewN kk := ⟨_, rfl⟩
      go_loopg [13] (ip - a) (fun g2 vk wr => ∃ (t k2 : Nat) (D : Array α), vk = .int .i64 t ∧ a ≤ t ∧ t ≤ ip ∧ ip - t ≤ g2 ∧ D.size = size ∧ wr = (putRow enc w blk off D).drewN k2 ∧ Hid (Up a t d D ∧ PermIn a b d D))
      case atStart => exact ⟨a, kk, d, rfl, Nat.le_refl _, by have := HM.out; omega, Nat.le_refl _, HS.out, rfl, (show _ from ⟨up_start a d, permIn_refl _ _ _⟩)⟩
      case round =>
        obtain ⟨t, k2, D, rfl, hat, htp, hg2, hDs, rfl, HU⟩ := hrel
        by_cases hlt : t < ip
        · have hltz : (t : Int) < (ip : Int) := by omega
          obtain ⟨t1, ht1⟩ : ∃ x, t + 1 = x := ⟨_, rfl⟩
          have wt := addn (x := t) (y := 1) ht1 (by omega)
          have hH := HB.out.holds hDs
          obtain ⟨cx, fx⟩ := hH t (by omega)
          obtain ⟨cy, fy⟩ := hH t1 (by omega)
          obtain ⟨vx, hvx⟩ : ∃ v, D[t]! = v := ⟨_, rfl⟩
          obtain ⟨vy, hvy⟩ : ∃ v, D[t1]! = v := ⟨_, rfl⟩
          rw [hvx] at cx
          rw [hvy] at cy
          have x1 : (t : Int) < (size : Int) := by omega
          have y1 : (t1 : Int) < (size : Int) := by omega
          have e1 : (t : Int) + 1 = (t1 : Int) := by omega
          have nxy : ¬ t = t1 := by omega
          have nyx : ¬ t1 = t := by omega
          have HX := Lib.hid (And.intro hvx (And.intro hvy (And.intro ht1 hDs)))
          have cx' : ((putRow enc w blk off D).drewN k2).cell? ⟨blk, off + t, none⟩ = some (enc vx) := cx
          have cy' : ((putRow enc w blk off D).drewN k2).cell? ⟨blk, off + t1, none⟩ = some (enc vy) := cy
          have fx' : ((putRow enc w blk off D).drewN k2).frozen? ⟨blk, off + t, none⟩ = false := fx
          have fy' : ((putRow enc w blk off D).drewN k2).frozen? ⟨blk, off + t1, none⟩ = false := fy
          clear cx cy fx fy hH hvx hvy hDs ht1
          generalize hwq : (putRow enc w blk off D).drewN k2 = wq at cx' cy' fx' fy' ⊢
          have HW := Lib.hid hwq
          clear hwq
          go_wp2_with fail
          go_big_region
          all_goals go_wp2
          obtain ⟨hvx, hvy, ht1, hDs⟩ := HX.out
          go_roundg (ip - t1)
          case measure => omega
          case rel =>
            refine ⟨t1, k2 + 1, swp D t t1, by first | rfl | go_num, by omega, by omega, Nat.le_refl _, by rw [size_swp]; exact hDs, ?_, (show _ from ⟨?_, ?_⟩)⟩
            · rw [← HW.out, ← hvx, ← hvy]
              exact swap_worldC enc w blk off D k2 t t1 (by omega) (by omega)
            · subst ht1
              exact up_step HU.out.1 hat (by have := HS.out; omega)
            · exact permIn_trans _ _ _ _ _ HU.out.2 (swp_permIn D a b t t1 (by omega) (by omega) (by omega) (by omega) (by omega))
        · obtain rfl : t = ip := by omega
          have hltz : ¬ (t : Int) < (t : Int) := by omega
          go_wp2
          refine bodyPost_ret (results_none rfl _ _ _) rfl ?_
          obtain ⟨T, hA, hK⟩ := HT.out
          obtain ⟨-, -, -, s4, s5⟩ := HSr.out
          have hm := HM.out
          subst hm
          exact ⟨rfl, D, k2, ⟨HU.out.2, up_merged T hA hK (by omega) (by omega) (fun c x y => s4 c x y) (fun c x y => s5 c x y) HU.out.1⟩, rfl⟩

set_option maxHeartbeats 4000000 in
set_option maxRecDepth 100000 in
theorem symLast_is {enc : α → Value} {w : World} {blk off size g : Nat} {cb : Array Value} {cf : α → α → Int} {lt : α → α → Bool} {key : α → Nat} (B : Bed enc w blk off size g cb cf) (T : Tot lt key (ltOf cf)) (d : Array α) (hs : d.size = size) (cap a m b k : Nat) (ham : a + 1 < m) (hmb : m + 1 = b) (hb : b ≤ size)
    (hA : Asc lt a m d) (hK : Keys key a m b d) :
    Calls Try.prog 48 #[.slice (some ⟨blk, off, none⟩) size cap, .int .i64 a, .int .i64 m, .int .i64 b, .func (.func g) #[] cb] ((putRow enc w blk off d).drewN k) (Leaves enc w blk off (Merged lt a b d)) := by
  have hcl0 := B.one.cells
  simp only [Value.cells] at hcl0
  have hst := B.one.store Try.prog
  have eg := B.enters
  have HB := Lib.hid B
  have hbig := B.big
  have HS := Lib.hid hs
  have HF : Hid (Falls (fun h => !lt d[m]! d[h]!) a m) := fun c c' x y z q => by
    simp only [Bool.not_eq_true'] at q ⊢
    exact T.anti (T.swo.trans _ _ _ (hA c c' x y z) (T.turn (hK c' m (by omega) z (Nat.le_refl _) (by omega)) q))
  have HT := Lib.hid (And.intro T (And.intro hA hK))
  obtain ⟨u, hu⟩ : ∃ u, m - a = u := ⟨_, rfl⟩
  have w1 := subn (x := m) (y := a) (z := u) (by omega) (by omega)
  have w2 := subn (x := b) (y := m) (z := 1) (by omega) (by omega)
  have u1 : ¬ u = 1 := by omega
  have u2 : ((u : Int) == 1) = false := by simp; omega
  have hms : m < size := by omega
  have HM := Lib.hid hmb
  clear hs B hA hK T hmb hu
  go_enter Try.func48, Try.ntmps48
  go_wp2
  go_loopg [14, 15] (m - a) (fun g1 vi vj wr => ∃ (i j kk : Nat), vi = .int .i64 i ∧ vj = .int .i64 j ∧ Srch (fun h => !lt d[m]! d[h]!) a m i j ∧ j - i ≤ g1 ∧ wr = (putRow enc w blk off d).drewN kk)
  case atStart => exact ⟨a, m, k, rfl, rfl, srch_start (by omega), Nat.le_refl _, rfl⟩
  case round =>
    obtain ⟨i, j, kk, rfl, rfl, hSr, hg1, rfl⟩ := hrel
    have HSr := Lib.hid hSr
    obtain ⟨q1, q2, q3, -, -⟩ := hSr
    by_cases hij : i < j
    · have hijz : (i : Int) < (j : Int) := by omega
      obtain ⟨z, hz⟩ : ∃ z, i + j = z := ⟨_, rfl⟩
      obtain ⟨h, hh⟩ : ∃ h, z / 2 = h := ⟨_, rfl⟩
      obtain ⟨n1, n2, n3, n4⟩ := half_nums hz hh (by omega)
      have hih : i ≤ h := by omega
      have hhj : h < j := by omega
      have hH := HB.out.holds HS.out
      obtain ⟨ch, fh⟩ := hH h (by have := HS.out; omega)
      obtain ⟨ca, fa⟩ := hH m (by have := HS.out; have := HM.out; omega)
      obtain ⟨xh, hxh⟩ : ∃ x, d[h]! = x := ⟨_, rfl⟩
      obtain ⟨xa, hxa⟩ : ∃ x, d[m]! = x := ⟨_, rfl⟩
      rw [hxh] at ch
      rw [hxa] at ca
      have hc := HB.out.hear HS.out xa xh kk
      have ch' : ((putRow enc w blk off d).drewN kk).cell? ⟨blk, off + h, none⟩ = some (enc xh) := ch
      have ca' : ((putRow enc w blk off d).drewN kk).cell? ⟨blk, off + m, none⟩ = some (enc xa) := ca
      have z1 : (h : Int) < (size : Int) := by omega
      have z2 : (m : Int) < (size : Int) := by have := HM.out; omega
      have hcr : lt d[m]! d[h]! = decide (cf xa xh < 0) := by
        rw [← HT.out.1.cross d[h]! d[m]! (HT.out.2.2 h m (by omega) (by omega) (Nat.le_refl _) (by have := HM.out; omega)), hxh, hxa]; rfl
      have HX := Lib.hid (And.intro hz (And.intro hh hcr))
      clear ch ca fh fa hH hxh hxa hz hh hcr
      generalize hwq : (putRow enc w blk off d).drewN kk = wq at ch' ca' hc ⊢
      have HW := Lib.hid hwq
      clear hwq
      by_cases hlv : cf xa xh < 0
      · have hld : decide (cf xa xh < 0) = true := decide_eq_true hlv
        go_wp2_with fail
        go_quiet (first | (go_at_fn g; refine Calls.quiet_of (hc _)))
        go_wp2
        obtain ⟨hz, hh, hcr⟩ := HX.out
        go_roundg (h - i)
        case measure => omega
        case rel => exact ⟨i, h, kk + nq, rfl, rfl, srch_down HF HSr.out hih hhj (by show (!lt d[m]! d[h]!) = false; rw [hcr, decide_eq_true hlv]; rfl), Nat.le_refl _, by rw [← HW.out, World.drewN_drewN]⟩
      · have hld : decide (cf xa xh < 0) = false := decide_eq_false hlv
        go_wp2_with fail
        go_quiet (first | (go_at_fn g; refine Calls.quiet_of (hc _)))
        go_wp2
        obtain ⟨hz, hh, hcr⟩ := HX.out
        go_roundg (j - (h + 1))
        case measure => omega
        case rel => exact ⟨h + 1, j, kk + nq, by go_num, rfl, srch_up HF HSr.out hih hhj (by show (!lt d[m]! d[h]!) = true; rw [hcr, decide_eq_false (by omega)]; rfl), Nat.le_refl _, by rw [← HW.out, World.drewN_drewN]⟩
    · obtain rfl : i = j := by omega
      go_wp2
      go_loopg [17] (m - i) (fun g2 vk wr => ∃ (t k2 : Nat) (D : Array α), vk = .int .i64 t ∧ i ≤ t ∧ t ≤ m ∧ t - i ≤ g2 ∧ D.size = size ∧ wr = (putRow enc w blk off D).drewN k2 ∧ Hid (Down m t d D ∧ PermIn a b d D))
      case atStart => exact ⟨m, kk, d, rfl, q3, Nat.le_refl _, Nat.le_refl _, HS.out, rfl, (show _ from ⟨down_start m d, permIn_refl _ _ _⟩)⟩
      case round =>
        obtain ⟨t, k2, D, rfl, hit, htm, hg2, hDs, rfl, HU⟩ := hrel
        by_cases hlt : i < t
        · have hltz : (i : Int) < (t : Int) := by omega
          obtain ⟨tp, htp⟩ : ∃ x, t - 1 = x := ⟨_, rfl⟩
          have wt := subn (x := t) (y := 1) (z := tp) (by omega) (by omega)
          have hH := HB.out.holds hDs
          have hbm := HM.out
          obtain ⟨cx, fx⟩ := hH t (by omega)
          obtain ⟨cy, fy⟩ := hH tp (by omega)
          obtain ⟨vx, hvx⟩ : ∃ v, D[t]! = v := ⟨_, rfl⟩
          obtain ⟨vy, hvy⟩ : ∃ v, D[tp]! = v := ⟨_, rfl⟩
          rw [hvx] at cx
          rw [hvy] at cy
          have x1 : (t : Int) < (size : Int) := by omega
          have y1 : (tp : Int) < (size : Int) := by omega
          have e1 : (t : Int) - 1 = (tp : Int) := by omega
          have nxy : ¬ t = tp := by omega
          have nyx : ¬ tp = t := by omega
          have HX := Lib.hid (And.intro hvx (And.intro hvy (And.intro htp hDs)))
          have cx' : ((putRow enc w blk off D).drewN k2).cell? ⟨blk, off + t, none⟩ = some (enc vx) := cx
          have cy' : ((putRow enc w blk off D).drewN k2).cell? ⟨blk, off + tp, none⟩ = some (enc vy) := cy
          have fx' : ((putRow enc w blk off D).drewN k2).frozen? ⟨blk, off + t, none⟩ = false := fx
          have fy' : ((putRow enc w blk off D).drewN k2).frozen? ⟨blk, off + tp, none⟩ = false := fy
          clear cx cy fx fy hH hvx hvy hDs htp hbm
          generalize hwq : (putRow enc w blk off D).drewN k2 = wq at cx' cy' fx' fy' ⊢
          have HW := Lib.hid hwq
          clear hwq
          go_wp2_with fail
          go_big_region
          all_goals go_wp2
          obtain ⟨hvx, hvy, htp, hDs⟩ := HX.out
          have hbm := HM.out
          go_roundg (tp - i)
          case measure => omega
          case rel =>
            refine ⟨tp, k2 + 1, swp D t tp, by first | rfl | go_num, by omega, by omega, Nat.le_refl _, by rw [size_swp]; exact hDs, ?_, (show _ from ⟨?_, ?_⟩)⟩
            · rw [← HW.out, ← hvx, ← hvy]
              exact swap_worldC enc w blk off D k2 t tp (by omega) (by omega)
            · obtain rfl : t = tp + 1 := by omega
              exact down_step HU.out.1 htm (by have := HS.out; omega)
            · exact permIn_trans _ _ _ _ _ HU.out.2 (swp_permIn D a b t tp (by omega) (by omega) (by omega) (by omega) (by omega))
        · obtain rfl : t = i := by omega
          have hltz : ¬ (t : Int) < (t : Int) := by omega
          go_wp2
          refine bodyPost_ret (results_none rfl _ _ _) rfl ?_
          obtain ⟨T, hA, hK⟩ := HT.out
          obtain ⟨-, -, -, s4, s5⟩ := HSr.out
          have hm := HM.out
          subst hm
          exact ⟨rfl, D, k2, ⟨HU.out.2, down_merged T hA hK q1 htm (fun c x y => by have := s4 c x y; simpa using this) (fun c x y => by have := s5 c x y; simpa using this) HU.out.1⟩, rfl⟩
end Go.Proofs.Ytikcnekaefelcaa.sorted
