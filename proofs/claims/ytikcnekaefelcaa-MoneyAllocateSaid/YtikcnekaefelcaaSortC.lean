/-
  What the library's symMergeCmpFunc makes of a row, whatever its parts: the walk, by induction on the length.
-/
import Derived.Test.YtikcnekaefelcaaSortB
namespace Go.Proofs.Ytikcnekaefelcaa.sorted
open Go Go.RowKit Go.Sort Go.Proofs.Ytikcnekaefelcaa.stable
set_option linter.unusedVariables false
variable {α : Type} [Inhabited α]

theorem fst_done {lt : α → α → Bool} {key : α → Nat} {a s mid e b : Nat} {d d1 : Array α} (S : Split lt key a s mid e b d d1) (h : ¬ a < s ∨ ¬ s < mid) (h1 : a ≤ s) (h2 : s ≤ mid) : Merged lt a mid d1 d1 := by
  refine ⟨permIn_refl _ _ _, ?_⟩
  rcases h with h | h
  · obtain rfl : a = s := by omega
    exact S.a2
  · obtain rfl : s = mid := by omega
    exact S.a1
theorem snd_done {lt : α → α → Bool} {key : α → Nat} {a s mid e b : Nat} {d d1 d2 : Array α} (S : Split lt key a s mid e b d d1) (hM : Merged lt a mid d1 d2) (h : ¬ mid < e ∨ ¬ e < b) (h1 : mid ≤ e) (h2 : e ≤ b) : Merged lt mid b d2 d2 := by
  refine ⟨permIn_refl _ _ _, ?_⟩
  rcases h with h | h
  · obtain rfl : mid = e := by omega
    exact S.a4.congr fun k x y => hM.1.2.1 k (.inr x)
  · obtain rfl : e = b := by omega
    exact S.a3.congr fun k x y => hM.1.2.1 k (.inr x)
theorem both_done {lt : α → α → Bool} {key : α → Nat} {a s mid e b : Nat} {d d1 d2 d3 : Array α} (S : Split lt key a s mid e b d d1) (h1 : a ≤ mid) (h2 : mid ≤ b) (hb : b ≤ d.size) (m1 : Merged lt a mid d1 d2) (m2 : Merged lt mid b d2 d3) : Merged lt a b d d3 :=
  split_merged S h1 h2 hb m1.1 m1.2 m2.1 m2.2

/-- what is asked of a part that is shorter -/
def Shorter (enc : α → Value) (w : World) (blk off size g : Nat) (cb : Array Value) (cap : Nat) (lt : α → α → Bool) (key : α → Nat) (N : Nat) : Prop :=
  ∀ (a m b : Nat) (d : Array α) (k : Nat), b - a ≤ N → a < m → m < b → b ≤ size → d.size = size → Asc lt a m d → Asc lt m b d → Keys key a m b d →
    Calls Try.prog 48 #[.slice (some ⟨blk, off, none⟩) size cap, .int .i64 a, .int .i64 m, .int .i64 b, .func (.func g) #[] cb] ((putRow enc w blk off d).drewN k) (Leaves enc w blk off (Merged lt a b d))

theorem Shorter.first {enc : α → Value} {w : World} {blk off size g : Nat} {cb : Array Value} {cap : Nat} {lt : α → α → Bool} {key : α → Nat} {N : Nat} (I : Shorter enc w blk off size g cb cap lt key N) {a s mid e b : Nat} {d d1 : Array α} (S : Split lt key a s mid e b d d1) (k : Nat) (hN : mid - a ≤ N) (h1 : a < s) (h2 : s < mid) (hm : mid ≤ size) (hs : d.size = size) :
    Calls Try.prog 48 #[.slice (some ⟨blk, off, none⟩) size cap, .int .i64 a, .int .i64 s, .int .i64 mid, .func (.func g) #[] cb] ((putRow enc w blk off d1).drewN k) (Leaves enc w blk off (Merged lt a mid d1)) :=
  I a s mid d1 k hN h1 h2 hm (by rw [S.perm.1]; exact hs) S.a1 S.a2 S.k1
theorem Shorter.second {enc : α → Value} {w : World} {blk off size g : Nat} {cb : Array Value} {cap : Nat} {lt : α → α → Bool} {key : α → Nat} {N : Nat} (I : Shorter enc w blk off size g cb cap lt key N) {a s mid e b : Nat} {d d1 d2 : Array α} (S : Split lt key a s mid e b d d1) (hM : Merged lt a mid d1 d2) (k : Nat) (hN : b - mid ≤ N) (h1 : mid < e) (h2 : e < b) (hm : b ≤ size) (hs : d.size = size) :
    Calls Try.prog 48 #[.slice (some ⟨blk, off, none⟩) size cap, .int .i64 mid, .int .i64 e, .int .i64 b, .func (.func g) #[] cb] ((putRow enc w blk off d2).drewN k) (Leaves enc w blk off (Merged lt mid b d2)) :=
  I mid e b d2 k hN h1 h2 hm (by rw [hM.1.1, S.perm.1]; exact hs) (S.a3.congr fun k x y => hM.1.2.1 k (.inr x)) (S.a4.congr fun k x y => hM.1.2.1 k (.inr (by omega))) (S.k2.congr fun k x y => hM.1.2.1 k (.inr x))

set_option maxHeartbeats 8000000 in
set_option maxRecDepth 100000 in
theorem symAny_is {enc : α → Value} {w : World} {blk off size g : Nat} {cb : Array Value} {cf : α → α → Int} {lt : α → α → Bool} {key : α → Nat} (B : Bed enc w blk off size g cb cf) (T : Tot lt key (ltOf cf)) (d : Array α) (hs : d.size = size) (cap N a m b k : Nat) (ham : a + 1 < m) (hmb : m + 1 < b) (hb : b ≤ size)
    (hA : Asc lt a m d) (hA2 : Asc lt m b d) (hK : Keys key a m b d) (I : Shorter enc w blk off size g cb cap lt key N) (hN : b - a ≤ N + 1)
    (mid lo hi : Nat) (hmid : (a + b) / 2 = mid) (hlh : (mid < m ∧ lo = mid + m - b ∧ hi = mid) ∨ (m ≤ mid ∧ lo = a ∧ hi = m)) :
    Calls Try.prog 48 #[.slice (some ⟨blk, off, none⟩) size cap, .int .i64 a, .int .i64 m, .int .i64 b, .func (.func g) #[] cb] ((putRow enc w blk off d).drewN k) (Leaves enc w blk off (Merged lt a b d)) := by
  have hcl0 := B.one.cells
  simp only [Value.cells] at hcl0
  have hst := B.one.store Try.prog
  have eg := B.enters
  have HB := Lib.hid B
  have hbig := B.big
  have HS := Lib.hid hs
  obtain ⟨u, hu⟩ : ∃ u, m - a = u := ⟨_, rfl⟩
  obtain ⟨v, hv⟩ : ∃ u, b - m = u := ⟨_, rfl⟩
  have w1 := subn (x := m) (y := a) (z := u) (by omega) (by omega)
  have w2 := subn (x := b) (y := m) (z := v) (by omega) (by omega)
  have u1 : ¬ u = 1 := by omega
  have u2 : ((u : Int) == 1) = false := by simp; omega
  have v1 : ¬ v = 1 := by omega
  have v2 : ((v : Int) == 1) = false := by simp; omega
  obtain ⟨zz, hzz⟩ : ∃ z, a + b = z := ⟨_, rfl⟩
  obtain ⟨n1, n2, n3, n4⟩ := half_nums (h := mid) hzz (by rw [← hzz]; exact hmid) (by omega)
  obtain ⟨n, hn⟩ : ∃ z, mid + m = z := ⟨_, rfl⟩
  have wn := addn hn (by omega)
  obtain ⟨p, hp⟩ : ∃ z, n - 1 = z := ⟨_, rfl⟩
  have wp : wrap64 ((n : Int) - 1) = (p : Int) := by rw [show (n : Int) - 1 = (p : Int) by omega]; exact IntWalk.wrap64_in _ ⟨by omega, by omega⟩
  have wp2 : IntKind.i64.wrap ((n : Int) - 1) = (p : Int) := by rw [show (n : Int) - 1 = (p : Int) by omega]; exact i64n (by omega)
  have hr : ∀ c, lo ≤ c → c < hi → a ≤ c ∧ c < m ∧ m + c ≤ p ∧ p < b + c := fun c x y => by omega
  have HF := Lib.hid (sym_falls T (p := p) hA hA2 hr)
  have HSP := Lib.hid (fun s => sym_sep T (s := s) hA hA2 hK (by omega) (by omega) hmid.symm hlh)
  have hlo : lo ≤ hi := by omega
  have HT := Lib.hid (And.intro T (And.intro hA (And.intro hA2 hK)))
  have HE := Lib.hid (And.intro hlh (And.intro hmid (And.intro hn hp)))
  have HI := Lib.hid I
  have HR := Lib.hid hr
  have amid : a < mid := by omega
  have midb : mid < b := by omega
  clear hs B hA hA2 hK T hu hv hzz hn hp hr I hmid
  have hgo : (mid < m ∧ IntKind.i64.wrap ((n : Int) - (b : Int)) = lo ∧ Hid (lo = lo ∧ hi = mid)) ∨ (¬ mid < m ∧ True ∧ Hid (lo = a ∧ hi = m)) := by
    rcases hlh with ⟨x, y, z⟩ | ⟨x, y, z⟩
    · exact .inl ⟨x, subn (x := n) (y := b) (z := lo) (by have := HE.out; omega) (by have := HE.out; omega), (show _ from ⟨rfl, z⟩)⟩
    · exact .inr ⟨by omega, trivial, (show _ from ⟨y, z⟩)⟩
  clear hlh
  rcases hgo with ⟨g1, g2, HH⟩ | ⟨g1, g2, HH⟩
  all_goals
    go_enter Try.func48, Try.ntmps48
    go_wp2
    clear w1 w2 u1 u2 v1 v2 n1 n2 n3 n4 wn wp wp2 g1 g2
    go_loopg [20, 21] (hi - lo) (fun g1 vi vj wr => ∃ (i j kk : Nat), vi = .int .i64 i ∧ vj = .int .i64 j ∧ Srch (fun c => !lt d[p - c]! d[c]!) lo hi i j ∧ j - i ≤ g1 ∧ wr = (putRow enc w blk off d).drewN kk)
    case atStart => exact ⟨lo, hi, k, by first | rfl | rw [HH.out.1], by first | rfl | rw [HH.out.2], srch_start hlo, Nat.le_refl _, rfl⟩
    case round =>
      obtain ⟨i, j, kk, rfl, rfl, hSr, hg1, rfl⟩ := hrel
      have HSr := Lib.hid hSr
      obtain ⟨q1, q2, q3, -, -⟩ := hSr
      by_cases hij : i < j
      · have hijz : (i : Int) < (j : Int) := by omega
        obtain ⟨z, hz⟩ : ∃ z, i + j = z := ⟨_, rfl⟩
        obtain ⟨h, hh⟩ : ∃ h, z / 2 = h := ⟨_, rfl⟩
        have hih : i ≤ h := by omega
        have hhj : h < j := by omega
        obtain ⟨r1, r2, r3, r4⟩ := HR.out h (by omega) (by omega)
        obtain ⟨n1, n2, n3, n4⟩ := half_nums hz hh (by omega)
        obtain ⟨pc, hpc⟩ : ∃ x, p - h = x := ⟨_, rfl⟩
        have n5 := subn (x := p) (y := h) (z := pc) (by omega) (by have := HE.out; omega)
        have e5 : (p : Int) - (h : Int) = (pc : Int) := by omega
        have hH := HB.out.holds HS.out
        obtain ⟨ch, fh⟩ := hH h (by have := HS.out; omega)
        obtain ⟨ca, fa⟩ := hH pc (by have := HS.out; omega)
        obtain ⟨xh, hxh⟩ : ∃ x, d[h]! = x := ⟨_, rfl⟩
        obtain ⟨xa, hxa⟩ : ∃ x, d[pc]! = x := ⟨_, rfl⟩
        rw [hxh] at ch
        rw [hxa] at ca
        have hc := HB.out.hear HS.out xa xh kk
        have ch' : ((putRow enc w blk off d).drewN kk).cell? ⟨blk, off + h, none⟩ = some (enc xh) := ch
        have ca' : ((putRow enc w blk off d).drewN kk).cell? ⟨blk, off + pc, none⟩ = some (enc xa) := ca
        have z1 : (h : Int) < (size : Int) := by omega
        have z2 : (pc : Int) < (size : Int) := by omega
        have hcr : lt d[p - h]! d[h]! = decide (cf xa xh < 0) := by
          rw [hpc]
          rw [← HT.out.1.cross d[h]! d[pc]! (HT.out.2.2.2 h pc (by omega) (by omega) (by omega) (by omega)), hxh, hxa]; rfl
        have HX := Lib.hid (And.intro hz (And.intro hh hcr))
        clear ch ca fh fa hH hxh hxa hz hh hcr hpc
        generalize hwq : (putRow enc w blk off d).drewN kk = wq at ch' ca' hc ⊢
        have HW := Lib.hid hwq
        clear hwq
        by_cases hlv : cf xa xh < 0
        · have hld : decide (cf xa xh < 0) = true := decide_eq_true hlv
          go_wp2_with fail
          go_quiet (first | (go_at_fn g; refine Calls.quiet_of (hc _)))
          go_wp2
          obtain ⟨hz, hh, hcr⟩ := HX.out
          go_roundg (h - i)
          case measure => omega
          case rel => exact ⟨i, h, kk + nq, rfl, rfl, srch_down HF.out HSr.out hih hhj (by show (!lt d[p - h]! d[h]!) = false; rw [hcr, decide_eq_true hlv]; rfl), Nat.le_refl _, by rw [← HW.out, World.drewN_drewN]⟩
        · have hld : decide (cf xa xh < 0) = false := decide_eq_false hlv
          go_wp2_with fail
          go_quiet (first | (go_at_fn g; refine Calls.quiet_of (hc _)))
          go_wp2
          obtain ⟨hz, hh, hcr⟩ := HX.out
          go_roundg (j - (h + 1))
          case measure => omega
          case rel => exact ⟨h + 1, j, kk + nq, by go_num, rfl, srch_up HF.out HSr.out hih hhj (by show (!lt d[p - h]! d[h]!) = true; rw [hcr, decide_eq_false (by omega)]; rfl), Nat.le_refl _, by rw [← HW.out, World.drewN_drewN]⟩
      · obtain rfl : i = j := by omega
        have hll := HE.out
        obtain ⟨e, he⟩ : ∃ e, n - i = e := ⟨_, rfl⟩
        have ai : a ≤ i := by omega
        have im : i ≤ m := by omega
        have imid : i ≤ mid := by omega
        have me : m ≤ e := by omega
        have eb : e ≤ b := by omega
        have mide : mid ≤ e := by omega
        have we := subn (x := n) (y := i) (z := e) (by omega) (by omega)
        have hREST : ∀ d1, Rot i m e d d1 → Split lt key a i mid e b d d1 := fun d1 hR => by
          obtain ⟨T, hA, hA2, hK⟩ := HT.out
          have hsep := HSP.out i (by
            have := HSr.out
            rw [show mid + m - 1 = p by omega]
            exact this)
          rw [show mid + m - i = e by omega] at hsep
          exact split_of hA hA2 hK ai im me eb (by rw [HS.out]; exact hb) (by omega) hsep.1 hsep.2 hR
        have HREST := Lib.hid hREST
        have N1 : mid - a ≤ N := by omega
        have N2 : b - mid ≤ N := by omega
        have ameq : m < e ↔ i < mid := by omega
        have mdeq : mid < e ↔ i < m := by omega
        have msz : mid ≤ size := by omega
        have esz : e ≤ size := by omega
        have hmids := HE.out
        clear hREST he hll hmids
        by_cases hA' : i < m <;> by_cases hB' : i < mid <;> by_cases hC' : a < i <;> by_cases hD' : e < b
        all_goals
          first | (have t1 : m < e := by omega) | (have t1 : ¬ m < e := by omega)
          first | (have t2 : mid < e := by omega) | (have t2 : ¬ mid < e := by omega)
          clear ameq mdeq
          have hbd : b ≤ d.size := by rw [HS.out]; exact hb
          have HBD := Lib.hid hbd
          clear hbd
          first | (have S : Split lt key a i mid e b d d := HREST.out d (rot_none (by omega) im me)) | skip
          go_wp2_with (first
            | (go_at_call 49; refine (rotate_is HB.out d HS.out cap i m e kk hA' t1 esz).mono ?_; rintro ee w' ⟨rfl, d1, k1, hR, rfl⟩; have S := HREST.out d1 hR)
            | (go_at_call 48; (with_reducible refine (Shorter.first HI.out S _ N1 hC' hB' msz HS.out).mono ?_); rintro ee w' ⟨rfl, d2, k2, hM, rfl⟩)
            | (go_at_call 48; (with_reducible refine (Shorter.second HI.out S hM _ N2 t2 hD' hb HS.out).mono ?_); rintro ee w' ⟨rfl, d3, k3, hM2, rfl⟩)
            | (go_at_call 48; (with_reducible refine (Shorter.second HI.out S (fst_done S (by omega) ai imid) _ N2 t2 hD' hb HS.out).mono ?_); rintro ee w' ⟨rfl, d3, k3, hM2, rfl⟩)
            | fail)
          go_end0
          refine ⟨rfl, _, _, ?_, rfl⟩
          first
            | exact both_done S (Nat.le_of_lt amid) (Nat.le_of_lt midb) HBD.out hM hM2
            | exact both_done S (Nat.le_of_lt amid) (Nat.le_of_lt midb) HBD.out hM (snd_done S hM (by omega) mide eb)
            | exact both_done S (Nat.le_of_lt amid) (Nat.le_of_lt midb) HBD.out (fst_done S (by omega) ai imid) hM2
            | exact both_done S (Nat.le_of_lt amid) (Nat.le_of_lt midb) HBD.out (fst_done S (by omega) ai imid) (snd_done S (fst_done S (by omega) ai imid) (by omega) mide eb)

theorem symMerge_all {enc : α → Value} {w : World} {blk off size g : Nat} {cb : Array Value} {cf : α → α → Int} {lt : α → α → Bool} {key : α → Nat} (B : Bed enc w blk off size g cb cf) (T : Tot lt key (ltOf cf)) (cap : Nat) : ∀ N, Shorter enc w blk off size g cb cap lt key N
  | 0 => fun a m b d k h1 h2 h3 => by omega
  | N + 1 => fun a m b d k h1 h2 h3 h4 h5 h6 h7 h8 => by
    by_cases e1 : a + 1 = m
    · exact symOne_is B T d h5 cap a m b k e1 h3 h4 h7 h8
    · by_cases e2 : m + 1 = b
      · exact symLast_is B T d h5 cap a m b k (by omega) e2 h4 h6 h8
      · rcases Nat.lt_or_ge ((a + b) / 2) m with g | g
        · exact symAny_is B T d h5 cap N a m b k (by omega) (by omega) h4 h6 h7 h8 (symMerge_all B T cap N) h1 ((a + b) / 2) ((a + b) / 2 + m - b) ((a + b) / 2) rfl (.inl ⟨g, rfl, rfl⟩)
        · exact symAny_is B T d h5 cap N a m b k (by omega) (by omega) h4 h6 h7 h8 (symMerge_all B T cap N) h1 ((a + b) / 2) a m rfl (.inr ⟨g, rfl, rfl⟩)
end Go.Proofs.Ytikcnekaefelcaa.sorted
