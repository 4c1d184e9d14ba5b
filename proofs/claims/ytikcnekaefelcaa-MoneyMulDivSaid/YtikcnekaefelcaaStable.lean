/-
  Plain mathematics of a stable sort by insertion and by merging in place: blocks exchanged, rotated, merged. No program text.
-/
import Derived.Sort.LotA
import Derived.Lib.Hide
namespace Go.Proofs.Ytikcnekaefelcaa.stable
open Go.Sort
set_option linter.unusedVariables false
/-- a strict order in which any two of different keys compare, and the test of the sort, which agrees with it where the later key is asked against the earlier one -/
structure Tot {α : Type} (lt : α → α → Bool) (key : α → Nat) (test : α → α → Bool) : Prop where
  swo : SWO lt
  total : ∀ x y, key x ≠ key y → lt x y = !lt y x
  cross : ∀ x y, key x < key y → test y x = lt y x

theorem Tot.turn {α : Type} {lt : α → α → Bool} {key : α → Nat} {test : α → α → Bool} (T : Tot lt key test) {x y : α} (h : key x < key y) (hl : lt y x = false) : lt x y = true := by
  rw [T.total x y (by omega), hl]; rfl
theorem Tot.anti {α : Type} {lt : α → α → Bool} {key : α → Nat} {test : α → α → Bool} (T : Tot lt key test) {x y : α} (h : lt x y = true) : lt y x = false := by
  cases hyx : lt y x with
  | false => rfl
  | true =>
    have := T.swo.trans x y x h hyx
    rw [T.swo.irrefl] at this
    cases this

variable {α : Type} [Inhabited α]

def Asc (lt : α → α → Bool) (a b : Nat) (d : Array α) : Prop := ∀ i j, a ≤ i → i < j → j < b → lt d[i]! d[j]! = true
/-- every key of [a, m) is below every key of [m, b) -/
def Keys (key : α → Nat) (a m b : Nat) (d : Array α) : Prop := ∀ i j, a ≤ i → i < m → m ≤ j → j < b → key d[i]! < key d[j]!
/-- every element of [a, m) comes before every one of [m, b) -/
def Sep (lt : α → α → Bool) (a m b : Nat) (d : Array α) : Prop := ∀ i j, a ≤ i → i < m → m ≤ j → j < b → lt d[i]! d[j]! = true

theorem Asc.congr {lt : α → α → Bool} {a b : Nat} {d d' : Array α} (h : Asc lt a b d) (he : ∀ k, a ≤ k → k < b → d'[k]! = d[k]!) : Asc lt a b d' := by
  intro i j h1 h2 h3
  rw [he i h1 (by omega), he j (by omega) h3]; exact h i j h1 h2 h3
theorem Asc.mono {lt : α → α → Bool} {a b a' b' : Nat} {d : Array α} (h : Asc lt a b d) (h1 : a ≤ a') (h2 : b' ≤ b) : Asc lt a' b' d := fun i j x y z => h i j (by omega) y (by omega)
theorem Keys.congr {key : α → Nat} {a m b : Nat} {d d' : Array α} (h : Keys key a m b d) (he : ∀ k, a ≤ k → k < b → d'[k]! = d[k]!) : Keys key a m b d' := by
  intro i j h1 h2 h3 h4
  rw [he i h1 (by omega), he j (by omega) h4]; exact h i j h1 h2 h3 h4
theorem Asc.join {lt : α → α → Bool} {a m b : Nat} {d : Array α} (h1 : Asc lt a m d) (h2 : Asc lt m b d) (hs : Sep lt a m b d) : Asc lt a b d := by
  intro i j x y z
  rcases Nat.lt_or_ge j m with g | g
  · exact h1 i j x y g
  · rcases Nat.lt_or_ge i m with g2 | g2
    · exact hs i j x g2 g z
    · exact h2 i j g2 y z
theorem PermIn.one {p : α → Prop} {a b : Nat} {d d' : Array α} (h : PermIn a b d d') (hb : b ≤ d.size) (hp : ∀ i, a ≤ i → i < b → p d[i]!) : ∀ i, a ≤ i → i < b → p d'[i]! := permIn_all d d' a b p hb h hp
/-- what separates two parts goes through permutations of each -/
theorem Sep.perm {lt : α → α → Bool} {a m b : Nat} {d d1 d2 : Array α} (h : Sep lt a m b d) (hm : m ≤ b) (ham : a ≤ m) (hb : b ≤ d.size) (h1 : PermIn a m d d1) (h2 : PermIn m b d1 d2) : Sep lt a m b d2 := by
  have hs : d1.size = d.size := h1.1
  intro i j x y z u
  have k1 : ∀ j, m ≤ j → j < b → lt d2[i]! d1[j]! = true := by
    intro j z u
    rw [h2.2.1 i (.inl y), h1.2.1 j (.inr z)]
    exact PermIn.one (p := fun v => lt v d[j]! = true) h1 (by omega) (fun i x y => h i j x y z u) i x y
  exact PermIn.one (p := fun v => lt d2[i]! v = true) h2 (by omega) k1 j z u
theorem Keys.perm {key : α → Nat} {a m b : Nat} {d d1 d2 : Array α} (h : Keys key a m b d) (hm : m ≤ b) (ham : a ≤ m) (hb : b ≤ d.size) (h1 : PermIn a m d d1) (h2 : PermIn m b d1 d2) : Keys key a m b d2 := by
  have hs : d1.size = d.size := h1.1
  intro i j x y z u
  have k1 : ∀ j, m ≤ j → j < b → key d2[i]! < key d1[j]! := by
    intro j z u
    rw [h2.2.1 i (.inl y), h1.2.1 j (.inr z)]
    exact PermIn.one (p := fun v => key v < key d[j]!) h1 (by omega) (fun i x y => h i j x y z u) i x y
  exact PermIn.one (p := fun v => key d2[i]! < key v) h2 (by omega) k1 j z u

/-! ### two blocks of one length exchanged -/
def swapN (a b : Nat) (d : Array α) : Nat → Array α
  | 0 => d
  | n + 1 => swp (swapN a b d n) (a + n) (b + n)
theorem swapN_size (a b : Nat) (d : Array α) (n : Nat) : (swapN a b d n).size = d.size := by
  induction n with
  | zero => rfl
  | succ n ih => rw [swapN, size_swp, ih]
theorem swapN_other {a b : Nat} {d : Array α} {k : Nat} : ∀ n, (k < a ∨ a + n ≤ k) → (k < b ∨ b + n ≤ k) → (swapN a b d n)[k]! = d[k]!
  | 0, _, _ => rfl
  | n + 1, h1, h2 => by rw [swapN, swp_other _ _ _ _ (by omega) (by omega)]; exact swapN_other n (by omega) (by omega)
theorem swapN_at {a b : Nat} {d : Array α} : ∀ n, a + n ≤ b → b + n ≤ d.size → ∀ t, t < n → (swapN a b d n)[a + t]! = d[b + t]! ∧ (swapN a b d n)[b + t]! = d[a + t]!
  | 0, _, _, t, ht => by omega
  | n + 1, h1, h2, t, ht => by
    have hs := swapN_size a b d n
    rw [swapN]
    by_cases e : t = n
    · subst e
      rw [swp_left _ _ _ (by omega) (by omega), swp_right _ _ _ (by omega), swapN_other t (by omega) (by omega), swapN_other t (by omega) (by omega)]
      exact ⟨rfl, rfl⟩
    · rw [swp_other _ _ _ _ (by omega) (by omega), swp_other _ _ _ _ (by omega) (by omega)]
      exact swapN_at n (by omega) (by omega) t (by omega)
theorem swapN_perm {a b lo hi : Nat} {d : Array α} (h1 : lo ≤ a) (h2 : hi ≤ d.size) (h3 : a ≤ b) : ∀ n, b + n ≤ hi → PermIn lo hi d (swapN a b d n)
  | 0, _ => permIn_refl _ _ _
  | n + 1, h => by
    rw [swapN]
    exact permIn_trans _ _ _ _ _ (swapN_perm h1 h2 h3 n (by omega)) (swp_permIn _ _ _ _ _ (by omega) (by omega) (by omega) (by omega) (by rw [swapN_size]; exact h2))

/-! ### [a, m) and [m, b) change places -/
def Rot (a m b : Nat) (d d' : Array α) : Prop := PermIn a b d d' ∧ (∀ t, t < b - m → d'[a + t]! = d[m + t]!) ∧ (∀ t, t < m - a → d'[a + (b - m) + t]! = d[a + t]!)

theorem rot_end {m i : Nat} {d : Array α} (hi : i ≤ m) (hb : m + i ≤ d.size) : Rot (m - i) m (m + i) d (swapN (m - i) m d i) := by
  refine ⟨swapN_perm (Nat.le_refl _) hb (by omega) i (Nat.le_refl _), fun t ht => (swapN_at i (by omega) hb t (by omega)).1, fun t ht => ?_⟩
  have := (swapN_at (a := m - i) (b := m) (d := d) i (by omega) hb t (by omega)).2
  rw [← this]; congr 1; omega
theorem rot_more {m i j : Nat} {d d' : Array α} (hi : i ≤ m) (hij : j < i) (hb : m + j ≤ d.size) (h : Rot (m - (i - j)) m (m + j) (swapN (m - i) m d j) d') : Rot (m - i) m (m + j) d d' := by
  obtain ⟨h1, h2, h3⟩ := h
  have hp := swapN_perm (a := m - i) (b := m) (lo := m - i) (hi := m + j) (d := d) (Nat.le_refl _) hb (by omega) j (Nat.le_refl _)
  have hat := swapN_at (a := m - i) (b := m) (d := d) j (by omega) hb
  refine ⟨permIn_trans _ _ _ _ _ hp (permIn_mono _ _ _ _ _ _ (by omega) (Nat.le_refl _) (by rw [hp.1]; exact hb) h1), fun t ht => ?_, fun t ht => ?_⟩
  · rw [h1.2.1 _ (by omega)]; exact (hat t (by omega)).1
  · by_cases e : t < j
    · have := h2 t (by omega)
      rw [show m - (i - j) + t = m - i + (m + j - m) + t by omega] at this
      rw [this]; exact (hat t e).2
    · have := h3 (t - j) (by omega)
      rw [show m - (i - j) + (m + j - m) + (t - j) = m - i + (m + j - m) + t by omega, show m - (i - j) + (t - j) = m - i + t by omega] at this
      rw [this]; exact swapN_other j (by omega) (by omega)
theorem rot_less {m i j : Nat} {d d' : Array α} (hi : i ≤ m) (hij : i < j) (hb : m + j ≤ d.size) (h : Rot (m - i) m (m + (j - i)) (swapN (m - i) (m + j - i) d i) d') : Rot (m - i) m (m + j) d d' := by
  obtain ⟨h1, h2, h3⟩ := h
  have hp := swapN_perm (a := m - i) (b := m + j - i) (lo := m - i) (hi := m + j) (d := d) (Nat.le_refl _) hb (by omega) i (by omega)
  have hat := swapN_at (a := m - i) (b := m + j - i) (d := d) i (by omega) (by omega)
  refine ⟨permIn_trans _ _ _ _ _ hp (permIn_mono _ _ _ _ _ _ (by omega) (by omega) (by rw [hp.1]; exact hb) h1), fun t ht => ?_, fun t ht => ?_⟩
  · by_cases e : t < j - i
    · rw [h2 t (by omega)]; exact swapN_other i (by omega) (by omega)
    · have := h3 (t - (j - i)) (by omega)
      rw [show m - i + (m + (j - i) - m) + (t - (j - i)) = m - i + t by omega] at this
      rw [this, (hat (t - (j - i)) (by omega)).1]; congr 1; omega
  · rw [h1.2.1 _ (by omega)]
    have := (hat t (by omega)).2
    rw [← this]; congr 1; omega

/-! ### the search for the place where a test turns -/
def Falls (f : Nat → Bool) (lo hi : Nat) : Prop := ∀ c c', lo ≤ c → c < c' → c' < hi → f c' = true → f c = true
def Srch (f : Nat → Bool) (lo hi i j : Nat) : Prop := lo ≤ i ∧ i ≤ j ∧ j ≤ hi ∧ (∀ c, lo ≤ c → c < i → f c = true) ∧ (∀ c, j ≤ c → c < hi → f c = false)
theorem srch_start {f : Nat → Bool} {lo hi : Nat} (h : lo ≤ hi) : Srch f lo hi lo hi := ⟨Nat.le_refl _, h, Nat.le_refl _, fun c a b => by omega, fun c a b => by omega⟩
theorem srch_up {f : Nat → Bool} {lo hi i j h : Nat} (hf : Falls f lo hi) (hs : Srch f lo hi i j) (h1 : i ≤ h) (h2 : h < j) (ht : f h = true) : Srch f lo hi (h + 1) j := by
  obtain ⟨a, b, c, d, e⟩ := hs
  refine ⟨by omega, by omega, c, fun x y z => ?_, e⟩
  by_cases g : x = h
  · subst g; exact ht
  · exact hf x h y (by omega) (by omega) ht
theorem srch_down {f : Nat → Bool} {lo hi i j h : Nat} (hf : Falls f lo hi) (hs : Srch f lo hi i j) (h1 : i ≤ h) (h2 : h < j) (ht : f h = false) : Srch f lo hi i h := by
  obtain ⟨a, b, c, d, e⟩ := hs
  refine ⟨a, h1, by omega, d, fun x y z => ?_⟩
  by_cases g : x = h
  · subst g; exact ht
  · rcases Bool.eq_false_or_eq_true (f x) with q | q
    · have := hf h x (by omega) (by omega) z q; rw [ht] at this; cases this
    · exact q

/-! ### one element brought to its place -/
/-- d' is d with the element of place a moved up to place k -/
def Up (a k : Nat) (d d' : Array α) : Prop := d'.size = d.size ∧ d'[k]! = d[a]! ∧ (∀ t, a ≤ t → t < k → d'[t]! = d[t + 1]!) ∧ (∀ t, t < a ∨ k < t → d'[t]! = d[t]!)
theorem up_start (a : Nat) (d : Array α) : Up a a d d := ⟨rfl, rfl, fun t h1 h2 => by omega, fun _ _ => rfl⟩
theorem up_step {a k : Nat} {d d' : Array α} (h : Up a k d d') (hak : a ≤ k) (hs : k + 1 < d.size) : Up a (k + 1) d (swp d' k (k + 1)) := by
  obtain ⟨h1, h2, h3, h4⟩ := h
  refine ⟨by rw [size_swp]; exact h1, ?_, fun t x y => ?_, fun t x => ?_⟩
  · rw [swp_right _ _ _ (by omega)]; exact h2
  · by_cases e : t = k
    · subst e
      rw [swp_left _ _ _ (by omega) (by omega)]; exact h4 _ (by omega)
    · rw [swp_other _ _ _ _ (by omega) (by omega)]; exact h3 t x (by omega)
  · rw [swp_other _ _ _ _ (by omega) (by omega)]; exact h4 t (by omega)
/-- d' is d with the element of place m moved down to place k -/
def Down (m k : Nat) (d d' : Array α) : Prop := d'.size = d.size ∧ d'[k]! = d[m]! ∧ (∀ t, k < t → t ≤ m → d'[t]! = d[t - 1]!) ∧ (∀ t, t < k ∨ m < t → d'[t]! = d[t]!)
theorem down_start (m : Nat) (d : Array α) : Down m m d d := ⟨rfl, rfl, fun t h1 h2 => by omega, fun _ _ => rfl⟩
theorem down_step {m k : Nat} {d d' : Array α} (h : Down m (k + 1) d d') (hkm : k + 1 ≤ m) (hs : m < d.size) : Down m k d (swp d' (k + 1) k) := by
  obtain ⟨h1, h2, h3, h4⟩ := h
  refine ⟨by rw [size_swp]; exact h1, ?_, fun t x y => ?_, fun t x => ?_⟩
  · rw [swp_right _ _ _ (by omega)]; exact h2
  · by_cases e : t = k + 1
    · subst e
      rw [swp_left _ _ _ (by omega) (by omega)]; exact h4 _ (by omega)
    · rw [swp_other _ _ _ _ (by omega) (by omega)]; exact h3 t (by omega) y
  · rw [swp_other _ _ _ _ (by omega) (by omega)]; exact h4 t (by omega)

section
variable {lt : α → α → Bool} {key : α → Nat} {test : α → α → Bool}
/-- the first element has found its place among the others -/
theorem up_merged (T : Tot lt key test) {a b i : Nat} {d d' : Array α} (hA : Asc lt (a + 1) b d) (hK : Keys key a (a + 1) b d) (hai : a < i) (hib : i ≤ b)
    (h1 : ∀ c, a + 1 ≤ c → c < i → lt d[c]! d[a]! = true) (h2 : ∀ c, i ≤ c → c < b → lt d[c]! d[a]! = false) (hu : Up a (i - 1) d d') : Asc lt a b d' := by
  obtain ⟨_, u1, u2, u3⟩ := hu
  have big : ∀ c, i ≤ c → c < b → lt d[a]! d[c]! = true := fun c x y => T.turn (hK a c (Nat.le_refl _) (by omega) (by omega) y) (h2 c x y)
  intro p q x y z
  by_cases e1 : p = i - 1
  · subst e1
    rw [u1, u3 q (by omega)]; exact big q (by omega) z
  · by_cases e2 : q = i - 1
    · subst e2
      rw [u1, u2 p x y]; exact h1 (p + 1) (by omega) (by omega)
    · rcases Nat.lt_or_ge q (i - 1) with g | g
      · rw [u2 p x (by omega), u2 q (by omega) g]; exact hA _ _ (by omega) (by omega) (by omega)
      · rw [u3 q (by omega)]
        rcases Nat.lt_or_ge p (i - 1) with g2 | g2
        · rw [u2 p x g2]; exact hA _ _ (by omega) (by omega) z
        · rw [u3 p (by omega)]; exact hA _ _ (by omega) y z
/-- the last element has found its place among the others -/
theorem down_merged (T : Tot lt key test) {a m i : Nat} {d d' : Array α} (hA : Asc lt a m d) (hK : Keys key a m (m + 1) d) (hai : a ≤ i) (him : i ≤ m)
    (h1 : ∀ c, a ≤ c → c < i → lt d[m]! d[c]! = false) (h2 : ∀ c, i ≤ c → c < m → lt d[m]! d[c]! = true) (hu : Down m i d d') : Asc lt a (m + 1) d' := by
  obtain ⟨_, u1, u2, u3⟩ := hu
  have low : ∀ c, a ≤ c → c < i → lt d[c]! d[m]! = true := fun c x y => T.turn (hK c m x (by omega) (Nat.le_refl _) (by omega)) (h1 c x y)
  intro p q x y z
  by_cases e1 : p = i
  · subst e1
    rw [u1, u2 q y (by omega)]; exact h2 (q - 1) (by omega) (by omega)
  · by_cases e2 : q = i
    · subst e2
      rw [u1, u3 p (.inl y)]; exact low p x y
    · rcases Nat.lt_or_ge p i with g | g
      · rw [u3 p (.inl g)]
        rcases Nat.lt_or_ge q i with g2 | g2
        · rw [u3 q (.inl g2)]; exact hA _ _ x y (by omega)
        · rw [u2 q (by omega) (by omega)]; exact hA _ _ x (by omega) (by omega)
      · rw [u2 p (by omega) (by omega), u2 q (by omega) (by omega)]; exact hA _ _ (by omega) (by omega) (by omega)

/-! ### two parts divided at one level -/
theorem rot_none {a m b : Nat} {d : Array α} (h : a = m ∨ m = b) (ham : a ≤ m) (hmb : m ≤ b) : Rot a m b d d := by
  refine ⟨permIn_refl _ _ _, fun t ht => ?_, fun t ht => ?_⟩
  · rcases h with h | h
    · rw [h]
    · omega
  · rcases h with h | h
    · omega
    · congr 1; omega
theorem sym_falls (T : Tot lt key test) {a m b lo hi p : Nat} {d : Array α} (hA : Asc lt a m d) (hB : Asc lt m b d) (hr : ∀ c, lo ≤ c → c < hi → a ≤ c ∧ c < m ∧ m + c ≤ p ∧ p < b + c) : Falls (fun c => !lt d[p - c]! d[c]!) lo hi := by
  intro c c' h1 h2 h3 h4
  have r1 := hr c h1 (by omega)
  have r2 := hr c' (by omega) h3
  simp only [Bool.not_eq_true'] at h4 ⊢
  rcases Bool.eq_false_or_eq_true (lt d[p - c]! d[c]!) with q | q
  · have e1 : lt d[c]! d[c']! = true := hA _ _ r1.1 h2 r2.2.1
    have e2 : lt d[p - c']! d[p - c]! = true := hB _ _ (by omega) (by omega) (by omega)
    have := T.swo.trans _ _ _ e2 (T.swo.trans _ _ _ q e1)
    rw [h4] at this; cases this
  · exact q
/-- what the search for the level has found: the first halves come before the second ones -/
theorem sym_sep (T : Tot lt key test) {a m b mid lo hi s : Nat} {d : Array α} (hA : Asc lt a m d) (hB : Asc lt m b d) (hK : Keys key a m b d) (ham : a < m) (hmb : m < b) (hmid : mid = (a + b) / 2)
    (hlh : (mid < m ∧ lo = mid + m - b ∧ hi = mid) ∨ (m ≤ mid ∧ lo = a ∧ hi = m)) (hs : Srch (fun c => !lt d[mid + m - 1 - c]! d[c]!) lo hi s s) :
    (∀ i j, a ≤ i → i < s → mid + m - s ≤ j → j < b → lt d[i]! d[j]! = true) ∧ (∀ j i, m ≤ j → j < mid + m - s → s ≤ i → i < m → lt d[j]! d[i]! = true) := by
  obtain ⟨s1, s2, s3, s4, s5⟩ := hs
  refine ⟨fun i j h1 h2 h3 h4 => ?_, fun j i h1 h2 h3 h4 => ?_⟩
  · have hlo : lo < s := by omega
    have q := s4 (s - 1) (by omega) (by omega)
    simp only [Bool.not_eq_true'] at q
    rw [show mid + m - 1 - (s - 1) = mid + m - s by omega] at q
    have q := T.turn (hK (s - 1) (mid + m - s) (by omega) (by omega) (by omega) (by omega)) q
    have q1 : lt d[i]! d[mid + m - s]! = true := by
      by_cases e : i = s - 1
      · rw [e]; exact q
      · exact T.swo.trans _ _ _ (hA i (s - 1) h1 (by omega) (by omega)) q
    by_cases e : j = mid + m - s
    · rw [e]; exact q1
    · exact T.swo.trans _ _ _ q1 (hB _ _ (by omega) (by omega) h4)
  · have hlo : s < hi := by omega
    have q := s5 s (by omega) (by omega)
    simp only [Bool.not_eq_false'] at q
    have q1 : lt d[j]! d[s]! = true := by
      by_cases e : j = mid + m - 1 - s
      · rw [e]; exact q
      · exact T.swo.trans _ _ _ (hB j (mid + m - 1 - s) h1 (by omega) (by omega)) q
    by_cases e : i = s
    · rw [e]; exact q1
    · exact T.swo.trans _ _ _ q1 (hA _ _ (by omega) (by omega) h4)

/-- what lies where behind the rotation -/
structure Split (lt : α → α → Bool) (key : α → Nat) (a s mid e b : Nat) (d d1 : Array α) : Prop where
  perm : PermIn a b d d1
  a1 : Asc lt a s d1
  a2 : Asc lt s mid d1
  a3 : Asc lt mid e d1
  a4 : Asc lt e b d1
  k1 : Keys key a s mid d1
  k2 : Keys key mid e b d1
  sep : Sep lt a mid b d1
theorem split_of {a m b mid s e : Nat} {d d1 : Array α} (hA : Asc lt a m d) (hB : Asc lt m b d) (hK : Keys key a m b d) (has : a ≤ s) (hsm : s ≤ m) (hme : m ≤ e) (heb : e ≤ b) (hb : b ≤ d.size) (hmid : s + e = mid + m)
    (h1 : ∀ i j, a ≤ i → i < s → e ≤ j → j < b → lt d[i]! d[j]! = true) (h2 : ∀ j i, m ≤ j → j < e → s ≤ i → i < m → lt d[j]! d[i]! = true) (hR : Rot s m e d d1) : Split lt key a s mid e b d d1 := by
  obtain ⟨r1, r2, r3⟩ := hR
  have c1 : ∀ k, k < s → d1[k]! = d[k]! := fun k h => r1.2.1 k (.inl h)
  have c4 : ∀ k, e ≤ k → d1[k]! = d[k]! := fun k h => r1.2.1 k (.inr h)
  have c2 : ∀ k, s ≤ k → k < mid → d1[k]! = d[k + m - s]! := fun k x y => by
    have := r2 (k - s) (by omega)
    rw [show s + (k - s) = k by omega] at this
    rw [this]; congr 1; omega
  have c3 : ∀ k, mid ≤ k → k < e → d1[k]! = d[k + m - e]! := fun k x y => by
    have := r3 (k - mid) (by omega)
    rw [show s + (e - m) + (k - mid) = k by omega] at this
    rw [this]; congr 1; omega
  refine ⟨permIn_mono _ _ _ _ _ _ has heb hb r1, ?_, ?_, ?_, ?_, ?_, ?_, ?_⟩
  · intro i j x y z
    rw [c1 i (by omega), c1 j z]; exact hA i j x y (by omega)
  · intro i j x y z
    rw [c2 i x (by omega), c2 j (by omega) z]; exact hB _ _ (by omega) (by omega) (by omega)
  · intro i j x y z
    rw [c3 i x (by omega), c3 j (by omega) z]; exact hA _ _ (by omega) (by omega) (by omega)
  · intro i j x y z
    rw [c4 i x, c4 j (by omega)]; exact hB _ _ (by omega) y z
  · intro i j x y z u
    rw [c1 i y, c2 j z u]; exact hK _ _ x (by omega) (by omega) (by omega)
  · intro i j x y z u
    rw [c3 i x y, c4 j z]; exact hK _ _ (by omega) (by omega) (by omega) u
  · intro i j x y z u
    rcases Nat.lt_or_ge i s with p | p <;> rcases Nat.lt_or_ge j e with q | q
    · rw [c1 i p, c3 j z q]; exact hA _ _ x (by omega) (by omega)
    · rw [c1 i p, c4 j q]; exact h1 i j x p q u
    · rw [c2 i p y, c3 j z q]; exact h2 _ _ (by omega) (by omega) (by omega) (by omega)
    · rw [c2 i p y, c4 j q]; exact hB _ _ (by omega) (by omega) u
/-- both halves merged -/
theorem split_merged {a s mid e b : Nat} {d d1 d2 d3 : Array α} (S : Split lt key a s mid e b d d1) (h1 : a ≤ mid) (h2 : mid ≤ b) (hb : b ≤ d.size) (p1 : PermIn a mid d1 d2) (q1 : Asc lt a mid d2) (p2 : PermIn mid b d2 d3) (q2 : Asc lt mid b d3) :
    PermIn a b d d3 ∧ Asc lt a b d3 := by
  have z1 : d1.size = d.size := S.perm.1
  have z2 : d2.size = d1.size := p1.1
  refine ⟨permIn_trans _ _ _ _ _ S.perm (permIn_trans _ _ _ _ _ (permIn_mono _ _ _ _ _ _ (Nat.le_refl _) h2 (by omega) p1) (permIn_mono _ _ _ _ _ _ h1 (Nat.le_refl _) (by omega) p2)), ?_⟩
  exact Asc.join (q1.congr fun k x y => p2.2.1 k (.inl y)) q2 (S.sep.perm h2 h1 (by omega) p1 p2)

/-! ### the insertion sort of a part whose keys ascend -/
theorem insInner_perm {lt : α → α → Bool} {a b : Nat} : ∀ (j : Nat) (d : Array α), a ≤ j → j < b → b ≤ d.size → PermIn a b d (insInner lt a j d)
  | 0, d, _, _, _ => by unfold insInner; exact permIn_refl _ _ _
  | j + 1, d, h1, h2, h3 => by
    unfold insInner
    split
    · rename_i hc
      simp only [Bool.and_eq_true, decide_eq_true_eq] at hc
      exact permIn_trans _ _ _ _ _ (swp_permIn d a b (j + 1) j (by omega) h2 (by omega) (by omega) h3) (insInner_perm j _ (by omega) (by omega) (by rw [size_swp]; exact h3))
    · exact permIn_refl _ _ _
theorem insInner_test (T : Tot lt key test) {a : Nat} : ∀ (j : Nat) (d : Array α), j < d.size → (∀ t, a ≤ t → t < j → key d[t]! < key d[j]!) → insInner test a j d = insInner lt a j d
  | 0, d, _, _ => rfl
  | j + 1, d, hs, hk => by
    unfold insInner
    by_cases g : j + 1 > a
    · rw [T.cross _ _ (hk j (by omega) (by omega))]
      have e := insInner_test T (a := a) j (swp d (j + 1) j) (by rw [size_swp]; omega) (fun t x y => by
        rw [swp_other _ _ _ _ (by omega) (by omega), swp_right _ _ _ (by omega)]; exact hk t x (by omega))
      rw [e]
    · have gd : decide (j + 1 > a) = false := by simpa using g
      rw [gd]; simp
theorem insOuter_test (T : Tot lt key test) {a b : Nat} : ∀ (n i : Nat) (d : Array α), b - i = n → a < i → b ≤ d.size → (∀ t u, a ≤ t → t < u → i ≤ u → u < b → key d[t]! < key d[u]!) → insOuter test a b i d = insOuter lt a b i d
  | 0, i, d, hn, _, _, _ => by
    rw [insOuter, if_neg (by omega)]
    conv => rhs; rw [insOuter, if_neg (by omega)]
  | n + 1, i, d, hn, ha, hb, hk => by
    have hlt : i < b := by omega
    rw [insOuter, if_pos hlt]
    conv => rhs; rw [insOuter, if_pos hlt]
    rw [insInner_test T i d (by omega) (fun t x y => hk t i x y (Nat.le_refl _) hlt)]
    have hp := insInner_perm (lt := lt) (a := a) (b := i + 1) i d (by omega) (by omega) (by omega)
    refine insOuter_test T n (i + 1) _ (by omega) (by omega) (by rw [hp.1]; exact hb) (fun t u x y z w => ?_)
    rw [hp.2.1 u (by omega)]
    rcases Nat.lt_or_ge t (i + 1) with g | g
    · exact PermIn.one (p := fun v => key v < key d[u]!) hp (by omega) (fun k x y => hk k u x (by omega) (by omega) w) t x g
    · rw [hp.2.1 t (by omega)]; exact hk t u x y (by omega) w
theorem ins_sorted (T : Tot lt key test) {a b : Nat} {d : Array α} (hab : a ≤ b) (hb : b ≤ d.size) (hk : ∀ t u, a ≤ t → t < u → u < b → key d[t]! < key d[u]!) :
    PermIn a b d (insertionSort test d a b) ∧ ∀ i j, a ≤ i → i < j → j < b → lt (insertionSort test d a b)[j]! (insertionSort test d a b)[i]! = false := by
  have e : insertionSort test d a b = insertionSort lt d a b := insOuter_test T (b - (a + 1)) (a + 1) d rfl (by omega) hb (fun t u x y _ w => hk t u x y w)
  rw [e]
  exact insertionSort_holds T.swo d a b hab hb
theorem keys_apart {a b : Nat} {d d' : Array α} (hp : PermIn a b d d') (hb : b ≤ d.size) (hk : ∀ t u, a ≤ t → t < u → u < b → key d[t]! < key d[u]!) : ∀ i j, a ≤ i → i < j → j < b → key d'[i]! ≠ key d'[j]! := by
  intro i j x y z
  have h := hp.2.2
  rw [extract_toList d' a b (by rw [hp.1]; exact hb), extract_toList d a b hb] at h
  have h2 := h.map key
  rw [List.map_map, List.map_map] at h2
  have hn : ((List.range' a (b - a)).map (key ∘ fun i => d[i]!)).Nodup := by
    rw [List.Nodup, List.pairwise_map]
    refine List.Pairwise.imp_of_mem ?_ List.pairwise_lt_range'
    intro p q hp hq hpq e
    have h1 := List.mem_range'_1.1 hp
    have h2 := List.mem_range'_1.1 hq
    have := hk p q (by omega) hpq (by omega)
    simp only [Function.comp] at e
    omega
  have hn2 : ((List.range' a (b - a)).map (key ∘ fun i => d'[i]!)).Nodup := h2.nodup_iff.2 hn
  have := List.pairwise_iff_getElem.1 hn2 (i - a) (j - a) (by simp; omega) (by simp; omega) (by omega)
  simp only [List.getElem_map, List.getElem_range', Function.comp, Nat.one_mul, show a + (i - a) = i by omega, show a + (j - a) = j by omega] at this
  exact this

/-- [lo, hi) is in order and holds the keys lo to hi - 1 -/
def Run (lt : α → α → Bool) (key : α → Nat) (lo hi : Nat) (d : Array α) : Prop := Asc lt lo hi d ∧ ∀ i, lo ≤ i → i < hi → lo ≤ key d[i]! ∧ key d[i]! < hi
theorem Run.congr {lo hi : Nat} {d d' : Array α} (h : Run lt key lo hi d) (he : ∀ k, lo ≤ k → k < hi → d'[k]! = d[k]!) : Run lt key lo hi d' :=
  ⟨h.1.congr he, fun i x y => by rw [he i x y]; exact h.2 i x y⟩
theorem Run.keys {a m b : Nat} {d : Array α} (h1 : Run lt key a m d) (h2 : Run lt key m b d) : Keys key a m b d := fun i j x y z w => by
  have := h1.2 i x y
  have := h2.2 j z w
  omega
theorem run_ins (T : Tot lt key test) {a b : Nat} {d : Array α} (hab : a ≤ b) (hb : b ≤ d.size) (hk : ∀ t, a ≤ t → t < b → key d[t]! = t) : Run lt key a b (insertionSort test d a b) := by
  have hk2 : ∀ t u, a ≤ t → t < u → u < b → key d[t]! < key d[u]! := fun t u x y z => by rw [hk t x (by omega), hk u (by omega) z]; exact y
  obtain ⟨h1, h2⟩ := ins_sorted T hab hb hk2
  refine ⟨fun i j x y z => ?_, fun i x y => ?_⟩
  · rw [T.total _ _ (keys_apart h1 hb hk2 i j x y z), h2 i j x y z]; rfl
  · exact PermIn.one (p := fun v => a ≤ key v ∧ key v < b) h1 hb (fun t x y => by rw [hk t x y]; exact ⟨x, y⟩) i x y
theorem run_merge {a m b : Nat} {d d' : Array α} (ham : a ≤ m) (hmb : m ≤ b) (hb : b ≤ d.size) (h1 : Run lt key a m d) (h2 : Run lt key m b d) (hp : PermIn a b d d') (hA : Asc lt a b d') : Run lt key a b d' := by
  refine ⟨hA, fun i x y => ?_⟩
  refine PermIn.one (p := fun v => a ≤ key v ∧ key v < b) hp hb (fun t x y => ?_) i x y
  rcases Nat.lt_or_ge t m with g | g
  · have := h1.2 t x g; omega
  · have := h2.2 t g y; omega
end
end Go.Proofs.Ytikcnekaefelcaa.stable
