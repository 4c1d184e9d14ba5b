/-
  What Fields and SplitLines of package numtext answer: plain functions on lists of bytes, and the walks.
-/
import Derived.Test.YtgdibahgmpomeaaDoorNumWalks
import Derived.Test.YtgdibahgmpomeaaDoorStrs
import Derived.Lib.OthersKept
namespace Go.Proofs.YtgdibahgmpomeaaDoor.num
open Go Go.RowKit Go.Proofs.YtgdibahgmpomeaaDoor.strs
set_option linter.unusedVariables false

/-! ### plain -/
def blank (c : UInt8) : Bool := c == 32 || c == 9
/-- the words of the text, 'cur' being the word under way -/
def fieldsA : List UInt8 → List UInt8 → List (List UInt8)
  | cur, [] => if cur.isEmpty then [] else [cur]
  | cur, c :: l => if blank c then (if cur.isEmpty then fieldsA [] l else cur :: fieldsA [] l) else fieldsA (cur ++ [c]) l
def okT (c : UInt8) : Bool := c == 9 || c == 10 || (decide (32 ≤ c.toNat) && decide (c.toNat ≤ 126))
/-- the lines of the text, 'cur' being the line under way, and what is left behind the last line feed -/
def linesA : List UInt8 → List UInt8 → List (List UInt8) × List UInt8
  | cur, [] => ([], cur)
  | cur, c :: l => if c = 10 then (cur :: (linesA [] l).1, (linesA [] l).2) else linesA (cur ++ [c]) l
def splitL (l : List UInt8) : List (List UInt8) × Int :=
  if 65536 < l.length then ([], 4) else if !l.all okT then ([], 2) else if !(linesA [] l).2.isEmpty then ([], 2) else ((linesA [] l).1, 0)

theorem fieldsA_skip : ∀ (a cur l : List UInt8), (∀ c ∈ a, blank c = false) → fieldsA cur (a ++ l) = fieldsA (cur ++ a) l
  | [], cur, l, _ => by simp
  | c :: a, cur, l, h => by
    rw [List.cons_append, fieldsA, h c (by simp)]
    simp only [Bool.false_eq_true, if_false]
    rw [fieldsA_skip a (cur ++ [c]) l (fun x hx => h x (by simp [hx])), List.append_assoc]; rfl

/-- the bytes from st to pos -/
def seg (l : List UInt8) (st pos : Nat) : List UInt8 := (l.drop st).take (pos - st)
theorem seg_self (l : List UInt8) (p : Nat) : seg l p p = [] := by simp [seg]
theorem seg_app (l : List UInt8) {st pos : Nat} (d : Nat) (h : st ≤ pos) : seg l st pos ++ (l.drop pos).take d = seg l st (pos + d) := by
  unfold seg
  rw [show pos + d - st = (pos - st) + d by omega, List.take_add, List.drop_drop, show st + (pos - st) = pos by omega]
theorem seg_empty (l : List UInt8) {st pos : Nat} (h : pos ≤ l.length) : (seg l st pos).isEmpty = !decide (st < pos) := by
  by_cases hlt : st < pos
  · have : seg l st pos ≠ [] := by
      intro e
      have := congrArg List.length e
      unfold seg at this
      simp at this
      omega
    simp [hlt, this]
  · have : seg l st pos = [] := by unfold seg; rw [show pos - st = 0 by omega]; simp
    simp [hlt, this]
theorem seg_extract (s : ByteArray) (st pos : Nat) : s.extract st pos = ⟨(seg s.data.toList st pos).toArray⟩ := Lib.extract_eq s st pos
theorem mem_seg {s : ByteArray} {pos d : Nat} {c : UInt8} (hle : pos + d ≤ s.size) (h : c ∈ (s.data.toList.drop pos).take d) : ∃ j, ∃ hj : j < s.size, pos ≤ j ∧ j < pos + d ∧ c = s[j]'hj := by
  obtain ⟨i, hi, e⟩ := List.mem_iff_getElem.1 h
  simp only [List.length_take, List.length_drop] at hi
  refine ⟨pos + i, by omega, by omega, by omega, ?_⟩
  rw [← e, List.getElem_take, List.getElem_drop]; rfl
theorem drop_split (l : List UInt8) (pos d : Nat) : l.drop pos = (l.drop pos).take d ++ l.drop (pos + d) := by
  rw [← List.drop_drop, List.take_append_drop]

theorem fields_over (s : ByteArray) (st pos d : Nat) (hst : st ≤ pos) (hle : pos + d ≤ s.size)
    (h : ∀ j (hj : j < s.size), pos ≤ j → j < pos + d → blank (s[j]'hj) = false) :
    fieldsA (seg s.data.toList st pos) (s.data.toList.drop pos) = fieldsA (seg s.data.toList st (pos + d)) (s.data.toList.drop (pos + d)) := by
  rw [drop_split _ pos d, fieldsA_skip, seg_app _ _ hst]
  intro c hc
  obtain ⟨j, hj, h1, h2, e⟩ := mem_seg hle hc
  rw [e]; exact h j hj h1 h2
theorem fields_blank (s : ByteArray) (st pos : Nat) (hp : pos < s.size) (h : blank (s[pos]'hp) = true) :
    fieldsA (seg s.data.toList st pos) (s.data.toList.drop pos) = (if st < pos then [seg s.data.toList st pos] else []) ++ fieldsA (seg s.data.toList (pos + 1) (pos + 1)) (s.data.toList.drop (pos + 1)) := by
  rw [drop_cons s pos hp, fieldsA, h, seg_empty _ (by rw [← Lib.size_eq]; omega), seg_self]
  by_cases hlt : st < pos <;> simp [hlt]
theorem fields_end (s : ByteArray) (st : Nat) : fieldsA (seg s.data.toList st s.size) (s.data.toList.drop s.size) = if st < s.size then [seg s.data.toList st s.size] else [] := by
  rw [List.drop_of_length_le (by rw [← Lib.size_eq]; exact Nat.le_refl _), fieldsA, seg_empty _ (by rw [← Lib.size_eq]; omega)]
  by_cases hlt : st < s.size <;> simp [hlt]

/-! ### the walks -/
theorem isBlank_is (r : Int) (b : Bool) (w : World) (h : (r == 32 || r == 9) = b) :
    Calls Tryd.prog 36 #[.int .i32 r] w fun e w' => e = .returned (.bool b) ∧ w = w' := by
  have H := Lib.hid h
  clear h
  go_enter Tryd.func36, Tryd.ntmps36
  go_wp2
  all_goals go_ret
  all_goals refine ⟨ret_bool ?_, rfl⟩
  all_goals rw [← H.out]
  all_goals simp_all

/-- A step of the string's iterator in block k of whatever world. -/
theorem next_in {P : Program} (wr : World) (k : Nat) (s : ByteArray) (pos : Nat) (hk : wr.heap[k]? = some (.stringIter s pos)) (h : pos < s.size) :
    ∃ r d : Nat, (∀ ty, (Instr.next (.pointer (some ⟨k, 0, none⟩)) true ty).run P wr = .ok (.tuple #[.bool true, .int .i64 pos, .int .i32 r]) (wr.iterAt k s (pos + d))) ∧
      1 ≤ d ∧ pos + d ≤ s.size ∧ r ≤ 2147483647 ∧
      (((s[pos]'h).toNat < 128 ∧ r = (s[pos]'h).toNat ∧ d = 1) ∨ (128 ≤ (s[pos]'h).toNat ∧ 128 ≤ r ∧ ∀ j (hj : j < s.size), pos ≤ j → j < pos + d → 128 ≤ (s[j]'hj).toNat)) := by
  obtain ⟨h1, h2, h3⟩ := decode_step s pos h
  refine ⟨(Utf8.decode s pos).1, (Utf8.decode s pos).2, fun ty => Lib.run_next_any_at wr k s pos ty hk h, h1, h2, decode_le s pos, ?_⟩
  rcases h3 with ⟨a, b, c⟩ | ⟨a, b, c⟩
  · exact .inl ⟨a, b, c⟩
  · exact .inr ⟨a, b, c⟩
theorem blank_iff (c : UInt8) : blank c = true ↔ c.toNat = 32 ∨ c.toNat = 9 := by
  unfold blank
  rw [Bool.or_eq_true, beq_iff_eq, beq_iff_eq]
  constructor
  · rintro (rfl | rfl)
    · exact .inl rfl
    · exact .inr rfl
  · rintro (h | h)
    · exact .inl (UInt8.toNat_inj.1 h)
    · exact .inr (UInt8.toNat_inj.1 h)
theorem blank_false {c : UInt8} (h : ¬ (c.toNat = 32 ∨ c.toNat = 9)) : blank c = false := by
  rw [Bool.eq_false_iff]; exact fun e => h ((blank_iff c).1 e)

/-- What holds at every round's head of the range over the text. -/
structure FRel (w : World) (s : ByteArray) (v st : Value) (wr : World) (pos p : Nat) (out : List (List UInt8)) : Prop where
  it : wr.heap[w.heap.size]? = some (.stringIter s pos)
  own : wr.ownsRow (w.heap.size + 1) 9 1 v out.length (out.map strV)
  below : Below w.heap.size w wr
  pos_le : pos ≤ s.size
  p_le : p ≤ pos
  len : out.length ≤ pos
  st : st = .int .i64 p
  sum : out ++ fieldsA (seg s.data.toList p pos) (s.data.toList.drop pos) = fieldsA [] s.data.toList

theorem FRel.step {w wr : World} {s : ByteArray} {v st : Value} {pos p : Nat} {out : List (List UInt8)} (R : FRel w s v st wr pos p out) {d p' : Nat} (hd : 1 ≤ d) (hle : pos + d ≤ s.size) (hp : p' ≤ pos + d)
    (hsum : out ++ fieldsA (seg s.data.toList p' (pos + d)) (s.data.toList.drop (pos + d)) = fieldsA [] s.data.toList) : FRel w s v (.int .i64 p') (wr.iterAt w.heap.size s (pos + d)) (pos + d) p' out where
  it := Lib.iterAt_heap wr _ s pos _ R.it
  own := ownsRow_iterAt R.own (by omega) s _
  below := Lib.below_iterAt R.below (Nat.le_refl _) s _
  pos_le := hle
  p_le := hp
  len := by have := R.len; omega
  st := rfl
  sum := hsum
theorem FRel.push {w wr w1 : World} {s : ByteArray} {v v' st : Value} {pos p : Nat} {out : List (List UInt8)} (R : FRel w s v st wr pos p out) {d p' : Nat} {o : Obj} {x : List UInt8} (hd : 1 ≤ d) (hle : pos + d ≤ s.size) (hp : p' ≤ pos + d)
    (hown : w1.ownsRow (w.heap.size + 1) 9 1 v' (out ++ [x]).length ((out ++ [x]).map strV)) (hg : ((wr.iterAt w.heap.size s (pos + d)).alloc o).grownBy w1 v.ownBlock)
    (hsum : (out ++ [x]) ++ fieldsA (seg s.data.toList p' (pos + d)) (s.data.toList.drop (pos + d)) = fieldsA [] s.data.toList) : FRel w s v' (.int .i64 p') w1 (pos + d) p' (out ++ [x]) := by
  have hk : w.heap.size < wr.heap.size := (Array.getElem?_eq_some_iff.1 R.it).1
  have hk2 : w.heap.size < (wr.iterAt w.heap.size s (pos + d)).heap.size := by rw [Lib.iterAt_size]; exact hk
  have hown0 := R.own
  have hB : Below w.heap.size w ((wr.iterAt w.heap.size s (pos + d)).alloc o) := (Lib.below_iterAt R.below (Nat.le_refl _) s _).alloc (by omega) o
  refine { it := ?_, own := hown, below := hB.grown hg (by simp; omega) (fun k hk => by have := (hown0.lt k hk).1; omega), pos_le := hle, p_le := hp, len := by have := R.len; simp; omega, st := rfl, sum := hsum }
  rw [hg.block _ (by simp; omega) (fun e => by have := (hown0.lt _ e.symm).1; omega), Below.heap_alloc _ _ _ hk2]
  exact Lib.iterAt_heap wr _ s pos _ R.it

theorem seg_data (s : ByteArray) (a b : Nat) : (s.extract a b).data.toList = seg s.data.toList a b := Lib.extract_data s a b
theorem len_of {w wr : World} {s : ByteArray} {v st : Value} {pos p : Nat} {out : List (List UInt8)} (R : FRel w s v st wr pos p out) (hs : s.size ≤ 1000000) : out.length ≤ 1000000 := by
  have := R.len; have := R.pos_le; omega
theorem base_of {w wr : World} {s : ByteArray} {v st : Value} {pos p : Nat} {out : List (List UInt8)} (R : FRel w s v st wr pos p out) : w.heap.size + 1 ≤ wr.heap.size := (Array.getElem?_eq_some_iff.1 R.it).1
theorem base_iter {w wr : World} {s : ByteArray} {v st : Value} {pos p : Nat} {out : List (List UInt8)} (R : FRel w s v st wr pos p out) (q : Nat) : w.heap.size + 1 ≤ (wr.iterAt w.heap.size s q).heap.size := by
  rw [Lib.iterAt_size]; exact base_of R

set_option maxHeartbeats 2000000 in
theorem Fields_is (s : ByteArray) (w : World) (hs : s.size ≤ 1000000) :
    Calls Tryd.prog 19 #[.string s] w fun e w' => ∃ v, e = .returned v ∧ Strs w' v (fieldsA [] s.data.toList) ∧ Below w.heap.size w w' := by
  go_enter Tryd.func19, Tryd.ntmps19
  go_wp2
  go_loopw [3, 4] (fun v st wr => ∃ (pos p : Nat) (out : List (List UInt8)), FRel w s v st wr pos p out) (fun _ _ wr => s.size - wr.iterPos w.heap.size)
  case atStart =>
    refine ⟨0, 0, [], ?_⟩
    exact { it := World.iter_heap w s 0, own := World.ownsRow_nil _ _ _ _, below := below_iter w s 0, pos_le := Nat.zero_le _, p_le := Nat.le_refl _, len := Nat.le_refl _, st := rfl, sum := by simp [seg_self] }
  case round =>
    obtain ⟨pos, p, out, R⟩ := hrel
    obtain rfl := R.st
    have hit := R.it
    have HIP := Lib.hid (iterPos_of R.it)
    have hksz : w.heap.size < wr.heap.size := (Array.getElem?_eq_some_iff.1 hit).1
    have hpp := R.p_le
    have hlen := R.len
    have hple := R.pos_le
    have HR := Lib.hid R
    clear R
    by_cases hp : pos < s.size
    · obtain ⟨r, d, hnx, h1, h2, h3, h4⟩ := next_in (P := Tryd.prog) wr w.heap.size s pos hit hp
      clear hit
      by_cases hr : (r : Int) = 32 ∨ (r : Int) = 9
      · have hrd : (s[pos]'hp).toNat = r ∧ d = 1 := by
          rcases h4 with ⟨a, b, c⟩ | ⟨a, b, c⟩
          · exact ⟨b.symm, c⟩
          · omega
        obtain ⟨hrb, rfl⟩ := hrd
        have hb : ((r : Int) == 32 || (r : Int) == 9) = true := by simpa using hr
        have HB := Lib.hid hb
        have HF := Lib.hid (fields_blank s p pos hp ((blank_iff _).2 (by omega)))
        clear hb hr h4 hrb
        by_cases hlt : p < pos
        · go_wp2_with (first | (go_at_call 36; refine (isBlank_is r true _ HB.out).mono ?_; rintro e w' ⟨rfl, rfl⟩) | (at_builtin; refine wpList_append_str rfl _ _ rfl (w.heap.size + 1) _ out rfl (ownsRow_iterAt HR.out.own (by omega) s (pos + 1)) (s.extract p pos) (seg s.data.toList p pos) (seg_data s p pos) rfl (len_of HR.out hs) (base_iter HR.out _) ?_; intro v' w1 hown1 hg1))
          have hh := HR.out.sum
          rw [HF.out, if_pos hlt, ← List.append_assoc] at hh
          have R2 := Lib.hid (HR.out.push (Nat.le_refl _) h2 (Nat.le_refl _) hown1 hg1 hh)
          clear hh
          go_roundw
          case rel => exact ⟨pos + 1, pos + 1, out ++ [seg s.data.toList p pos], R2.out⟩
          case measure => simp only [HIP.out, iterPos_of R2.out.it]; omega
        · go_wp2_with (first | (go_at_call 36; refine (isBlank_is r true _ HB.out).mono ?_; rintro e w' ⟨rfl, rfl⟩) | fail)
          have hh := HR.out.sum
          rw [HF.out, if_neg hlt, List.nil_append] at hh
          have R2 := Lib.hid (HR.out.step (Nat.le_refl _) h2 (Nat.le_refl _) hh)
          clear hh
          go_roundw
          case rel => exact ⟨pos + 1, pos + 1, out, R2.out⟩
          case measure => simp only [HIP.out, iterPos_of R2.out.it]; omega
      · have hb : ((r : Int) == 32 || (r : Int) == 9) = false := by simpa using hr
        have HB := Lib.hid hb
        have HF := Lib.hid (fields_over s p pos d hpp h2 (fun j hj a b => blank_false (by
          rcases h4 with ⟨x, y, z⟩ | ⟨x, y, z⟩
          · obtain rfl : j = pos := by omega
            omega
          · have := z j hj a b; omega)))
        clear hb hr h4
        go_wp2_with (first | (go_at_call 36; refine (isBlank_is r false _ HB.out).mono ?_; rintro e w' ⟨rfl, rfl⟩) | fail)
        have hh := HR.out.sum
        rw [HF.out] at hh
        have R2 := Lib.hid (HR.out.step h1 h2 (show p ≤ pos + d by omega) hh)
        clear hh
        go_roundw
        case rel => exact ⟨pos + d, p, out, R2.out⟩
        case measure => simp only [HIP.out, iterPos_of R2.out.it]; omega
    · have hnx : ∀ ty, (Instr.next (.pointer (some ⟨w.heap.size, 0, none⟩)) true ty).run Tryd.prog wr = _ := fun ty => Lib.run_next_end_at wr w.heap.size s pos ty hit hp
      clear hit
      obtain rfl : pos = s.size := by omega
      have HF := Lib.hid (fields_end s p)
      by_cases hlt : p < s.size
      · go_wp2_with (first | (at_builtin; refine wpList_append_str rfl _ _ rfl (w.heap.size + 1) _ out rfl HR.out.own (s.extract p s.size) (seg s.data.toList p s.size) (seg_data s p s.size) rfl (len_of HR.out hs) (base_of HR.out) ?_; intro v' w1 hown1 hg1))
        go_ret
        have hh := HR.out.sum
        rw [HF.out, if_pos hlt] at hh
        refine ⟨v', rfl, ?_, ?_⟩
        · rw [← hh]; exact Strs.of_own hown1 (by simp; omega)
        · exact (HR.out.below.alloc (by omega) _).grown hg1 (by simp; omega) (fun k hk => by have := (HR.out.own.lt k hk).1; omega)
      · go_wp2_with fail
        go_ret
        have hh := HR.out.sum
        rw [HF.out, if_neg hlt, List.append_nil] at hh
        refine ⟨_, rfl, ?_, HR.out.below⟩
        rw [← hh]; exact Strs.of_own HR.out.own (by omega)

/-! ### lines -/
theorem okT_iff (c : UInt8) : okT c = true ↔ c.toNat = 9 ∨ c.toNat = 10 ∨ (32 ≤ c.toNat ∧ c.toNat ≤ 126) := by
  unfold okT
  rw [Bool.or_eq_true, Bool.or_eq_true, beq_iff_eq, beq_iff_eq, Bool.and_eq_true, decide_eq_true_eq, decide_eq_true_eq]
  constructor
  · rintro ((rfl | rfl) | h)
    · exact .inl rfl
    · exact .inr (.inl rfl)
    · exact .inr (.inr h)
  · rintro (h | h | h)
    · exact .inl (.inl (UInt8.toNat_inj.1 h))
    · exact .inl (.inr (UInt8.toNat_inj.1 h))
    · exact .inr h
theorem isTextRune_is (r : Int) (b : Bool) (w : World) (h : (r == 9 || r == 10 || (decide (32 ≤ r) && decide (r ≤ 126))) = b) :
    Calls Tryd.prog 37 #[.int .i32 r] w fun e w' => e = .returned (.bool b) ∧ w = w' := by
  have H := Lib.hid h
  clear h
  go_enter Tryd.func37, Tryd.ntmps37
  go_wp2
  all_goals go_ret
  all_goals refine ⟨ret_bool ?_, rfl⟩
  all_goals rw [← H.out]
  all_goals (first | (simp_all; done) | (simp_all; omega))

theorem lines_other (s : ByteArray) (st pos : Nat) (hst : st ≤ pos) (hp : pos < s.size) (h : ¬ (s[pos]'hp).toNat = 10) :
    linesA (seg s.data.toList st pos) (s.data.toList.drop pos) = linesA (seg s.data.toList st (pos + 1)) (s.data.toList.drop (pos + 1)) := by
  have hc : ¬ (s[pos]'hp) = 10 := fun e => h (by rw [e]; rfl)
  rw [drop_cons s pos hp, linesA, if_neg hc, ← seg_app _ 1 hst, drop_cons s pos hp]; rfl
theorem lines_feed (s : ByteArray) (st pos : Nat) (hp : pos < s.size) (h : (s[pos]'hp).toNat = 10) :
    linesA (seg s.data.toList st pos) (s.data.toList.drop pos) = (seg s.data.toList st pos :: (linesA (seg s.data.toList (pos + 1) (pos + 1)) (s.data.toList.drop (pos + 1))).1, (linesA (seg s.data.toList (pos + 1) (pos + 1)) (s.data.toList.drop (pos + 1))).2) := by
  have hc : (s[pos]'hp) = 10 := UInt8.toNat_inj.1 h
  rw [drop_cons s pos hp, linesA, if_pos hc, seg_self]
theorem lines_end (s : ByteArray) (st : Nat) : linesA (seg s.data.toList st s.size) (s.data.toList.drop s.size) = ([], seg s.data.toList st s.size) := by
  rw [List.drop_of_length_le (by rw [← Lib.size_eq]; exact Nat.le_refl _), linesA]
theorem ok_snoc (s : ByteArray) (pos : Nat) (hp : pos < s.size) : (s.data.toList.take (pos + 1)).all okT = ((s.data.toList.take pos).all okT && okT (s[pos]'hp)) := by
  rw [take_snoc s pos hp]; simp
theorem ok_stop (s : ByteArray) (pos : Nat) (hp : pos < s.size) (h : okT (s[pos]'hp) = false) : s.data.toList.all okT = false := by
  rw [← List.take_append_drop (pos + 1) s.data.toList, List.all_append, ok_snoc s pos hp, h]; simp

/-- What holds at every round's head of the range over the lines. -/
structure LRel (w : World) (s : ByteArray) (v st : Value) (wr : World) (pos p : Nat) (out : List (List UInt8)) : Prop where
  it : wr.heap[w.heap.size]? = some (.stringIter s pos)
  own : wr.ownsRow (w.heap.size + 1) 9 1 v out.length (out.map strV)
  below : Below w.heap.size w wr
  pos_le : pos ≤ s.size
  p_le : p ≤ pos
  len : out.length ≤ pos
  st : st = .int .i64 p
  ok : (s.data.toList.take pos).all okT = true
  sum : (out ++ (linesA (seg s.data.toList p pos) (s.data.toList.drop pos)).1, (linesA (seg s.data.toList p pos) (s.data.toList.drop pos)).2) = linesA [] s.data.toList
theorem LRel.step {w wr : World} {s : ByteArray} {v st : Value} {pos p : Nat} {out : List (List UInt8)} (R : LRel w s v st wr pos p out) (hp : pos < s.size) (hc : okT (s[pos]'hp) = true) (hn : ¬ (s[pos]'hp).toNat = 10) :
    LRel w s v (.int .i64 p) (wr.iterAt w.heap.size s (pos + 1)) (pos + 1) p out where
  it := Lib.iterAt_heap wr _ s pos _ R.it
  own := ownsRow_iterAt R.own (by omega) s _
  below := Lib.below_iterAt R.below (Nat.le_refl _) s _
  pos_le := hp
  p_le := by have := R.p_le; omega
  len := by have := R.len; omega
  st := rfl
  ok := by rw [ok_snoc s pos hp, R.ok, hc]; rfl
  sum := by have h := R.sum; rw [lines_other s p pos R.p_le hp hn] at h; exact h
theorem LRel.push {w wr w1 : World} {s : ByteArray} {v v' st : Value} {pos p : Nat} {out : List (List UInt8)} (R : LRel w s v st wr pos p out) {o : Obj} (hp : pos < s.size) (hn : (s[pos]'hp).toNat = 10)
    (hown : w1.ownsRow (w.heap.size + 1) 9 1 v' (out ++ [seg s.data.toList p pos]).length ((out ++ [seg s.data.toList p pos]).map strV)) (hg : ((wr.iterAt w.heap.size s (pos + 1)).alloc o).grownBy w1 v.ownBlock) :
    LRel w s v' (.int .i64 ((pos + 1 : Nat) : Int)) w1 (pos + 1) (pos + 1) (out ++ [seg s.data.toList p pos]) := by
  have hk : w.heap.size < wr.heap.size := (Array.getElem?_eq_some_iff.1 R.it).1
  have hk2 : w.heap.size < (wr.iterAt w.heap.size s (pos + 1)).heap.size := by rw [Lib.iterAt_size]; exact hk
  have hown0 := R.own
  have hB : Below w.heap.size w ((wr.iterAt w.heap.size s (pos + 1)).alloc o) := (Lib.below_iterAt R.below (Nat.le_refl _) s _).alloc (by omega) o
  refine { it := ?_, own := hown, below := hB.grown hg (by simp; omega) (fun k hk => by have := (hown0.lt k hk).1; omega), pos_le := hp, p_le := Nat.le_refl _, len := by have := R.len; simp; omega, st := rfl, ok := ?_, sum := ?_ }
  · rw [hg.block _ (by simp; omega) (fun e => by have := (hown0.lt _ e.symm).1; omega), Below.heap_alloc _ _ _ hk2]
    exact Lib.iterAt_heap wr _ s pos _ R.it
  · rw [ok_snoc s pos hp, R.ok, (okT_iff _).2 (.inr (.inl hn))]; rfl
  · have h := R.sum
    rw [lines_feed s p pos hp hn] at h
    rw [← h, List.append_assoc]; rfl
theorem lenL_of {w wr : World} {s : ByteArray} {v st : Value} {pos p : Nat} {out : List (List UInt8)} (R : LRel w s v st wr pos p out) (hs : s.size ≤ 1000000) : out.length ≤ 1000000 := by
  have := R.len; have := R.pos_le; omega
theorem baseL_of {w wr : World} {s : ByteArray} {v st : Value} {pos p : Nat} {out : List (List UInt8)} (R : LRel w s v st wr pos p out) : w.heap.size + 1 ≤ wr.heap.size := (Array.getElem?_eq_some_iff.1 R.it).1
theorem baseL_iter {w wr : World} {s : ByteArray} {v st : Value} {pos p : Nat} {out : List (List UInt8)} (R : LRel w s v st wr pos p out) (q : Nat) : w.heap.size + 1 ≤ (wr.iterAt w.heap.size s q).heap.size := by
  rw [Lib.iterAt_size]; exact baseL_of R
theorem split_bad {s : ByteArray} (hs : s.size ≤ 65536) (h : s.data.toList.all okT = false) : splitL s.data.toList = ([], 2) := by
  unfold splitL; rw [if_neg (by rw [← Lib.size_eq]; omega), h]; rfl

set_option maxHeartbeats 2000000 in
theorem SplitLines_is (s : ByteArray) (w : World) :
    Calls Tryd.prog 21 #[.string s] w fun e w' => ∃ v, e = .returned (.tuple #[v, .int .i64 (splitL s.data.toList).2]) ∧ Strs w' v (splitL s.data.toList).1 ∧ Below w.heap.size w w' := by
  by_cases hs : s.size ≤ 65536
  · have hs6 : s.size ≤ 1000000 := by omega
    have hs0 : ¬ (65536 : Int) < s.size := by omega
    go_enter Tryd.func21, Tryd.ntmps21
    go_wp2
    go_loopw [4, 5] (fun v st wr => ∃ (pos p : Nat) (out : List (List UInt8)), LRel w s v st wr pos p out) (fun _ _ wr => s.size - wr.iterPos w.heap.size)
    case atStart =>
      refine ⟨0, 0, [], ?_⟩
      exact { it := World.iter_heap w s 0, own := World.ownsRow_nil _ _ _ _, below := below_iter w s 0, pos_le := Nat.zero_le _, p_le := Nat.le_refl _, len := Nat.le_refl _, st := rfl, ok := rfl, sum := by simp [seg_self] }
    case round =>
      obtain ⟨pos, p, out, R⟩ := hrel
      obtain rfl := R.st
      have hit := R.it
      have HIP := Lib.hid (iterPos_of R.it)
      have hpp := R.p_le
      have hple := R.pos_le
      have HR := Lib.hid R
      clear R
      by_cases hp : pos < s.size
      · obtain ⟨r, d, hnx, h1, h2, h3, h4⟩ := next_in (P := Tryd.prog) wr w.heap.size s pos hit hp
        clear hit
        by_cases hr : (r : Int) = 9 ∨ (r : Int) = 10 ∨ (32 ≤ (r : Int) ∧ (r : Int) ≤ 126)
        · have hrd : (s[pos]'hp).toNat = r ∧ d = 1 := by
            rcases h4 with ⟨a, b, c⟩ | ⟨a, b, c⟩
            · exact ⟨b.symm, c⟩
            · omega
          obtain ⟨hrb, rfl⟩ := hrd
          have hb : ((r : Int) == 9 || (r : Int) == 10 || (decide (32 ≤ (r : Int)) && decide ((r : Int) ≤ 126))) = true := by simpa [or_assoc] using hr
          have HB := Lib.hid hb
          have HO := Lib.hid ((okT_iff _).2 (show (s[pos]'hp).toNat = 9 ∨ (s[pos]'hp).toNat = 10 ∨ (32 ≤ (s[pos]'hp).toNat ∧ (s[pos]'hp).toNat ≤ 126) by omega))
          have HQ := Lib.hid hrb
          clear hb hr h4 hrb
          by_cases hlt : r = 10
          · have hl1 : ((r : Int) == 10) = true := by rw [hlt]; rfl
            have HL := Lib.hid hlt
            clear hlt
            go_wp2_with (first | (go_at_call 37; refine (isTextRune_is r true _ HB.out).mono ?_; rintro e w' ⟨rfl, rfl⟩) | (at_builtin; refine wpList_append_str rfl _ _ rfl (w.heap.size + 1) _ out rfl (ownsRow_iterAt HR.out.own (by omega) s (pos + 1)) (s.extract p pos) (seg s.data.toList p pos) (seg_data s p pos) rfl (lenL_of HR.out hs6) (baseL_iter HR.out _) ?_; intro v' w1 hown1 hg1))
            have R2 := Lib.hid (HR.out.push hp (by rw [HQ.out]; exact HL.out) hown1 hg1)
            go_roundw
            case rel => exact ⟨pos + 1, pos + 1, out ++ [seg s.data.toList p pos], R2.out⟩
            case measure => simp only [HIP.out, iterPos_of R2.out.it]; omega
          · have hl1 : ((r : Int) == 10) = false := by simp; omega
            have R2 := Lib.hid (HR.out.step hp HO.out (by rw [HQ.out]; exact hlt))
            clear hlt
            go_wp2_with (first | (go_at_call 37; refine (isTextRune_is r true _ HB.out).mono ?_; rintro e w' ⟨rfl, rfl⟩) | fail)
            go_roundw
            case rel => exact ⟨pos + 1, p, out, R2.out⟩
            case measure => simp only [HIP.out, iterPos_of R2.out.it]; omega
        · have hb : ((r : Int) == 9 || (r : Int) == 10 || (decide (32 ≤ (r : Int)) && decide ((r : Int) ≤ 126))) = false := by
            rw [Bool.eq_false_iff]; intro e; exact hr (by simpa [or_assoc] using e)
          have HB := Lib.hid hb
          have HF := Lib.hid (split_bad hs (ok_stop s pos hp (by
            rw [Bool.eq_false_iff]; intro e
            have := (okT_iff _).1 e
            rcases h4 with ⟨a, b, c⟩ | ⟨a, b, c⟩ <;> omega)))
          have HW := Lib.hid (Lib.below_iterAt HR.out.below (Nat.le_refl _) s (pos + d))
          clear hb hr h4
          go_wp2_with (first | (go_at_call 37; refine (isTextRune_is r false _ HB.out).mono ?_; rintro e w' ⟨rfl, rfl⟩) | fail)
          go_ret2
          rw [HF.out]
          exact ⟨.slice none 0 0, rfl, Strs.nil _ _ _, HW.out⟩
      · have hnx : ∀ ty, (Instr.next (.pointer (some ⟨w.heap.size, 0, none⟩)) true ty).run Tryd.prog wr = _ := fun ty => Lib.run_next_end_at wr w.heap.size s pos ty hit hp
        clear hit
        obtain rfl : pos = s.size := by omega
        have hsum := HR.out.sum
        rw [lines_end, List.append_nil] at hsum
        have hok := HR.out.ok
        rw [take_all s s.size (Nat.le_refl _)] at hok
        have hsp : splitL s.data.toList = if p < s.size then ([], 2) else (out, 0) := by
          unfold splitL
          rw [if_neg (by rw [← Lib.size_eq]; omega), hok, ← hsum]
          simp only [Bool.not_true, Bool.false_eq_true, if_false]
          rw [seg_empty _ (by rw [← Lib.size_eq]; omega)]
          by_cases hlt : p < s.size <;> simp [hlt]
        have HF := Lib.hid hsp
        clear hsum hok hsp
        by_cases hlt : p < s.size
        · go_wp2_with fail
          go_ret2
          have h := HF.out
          rw [if_pos hlt] at h
          rw [h]
          exact ⟨.slice none 0 0, rfl, Strs.nil _ _ _, HR.out.below⟩
        · go_wp2_with fail
          go_ret2
          have h := HF.out
          rw [if_neg hlt] at h
          rw [h]
          exact ⟨_, rfl, Strs.of_own (ls := out) HR.out.own (Nat.le_trans (lenL_of HR.out hs6) (by decide)), HR.out.below⟩
  · have h1 : splitL s.data.toList = ([], 4) := by unfold splitL; rw [if_pos (by rw [← Lib.size_eq]; omega)]
    have H := Lib.hid h1
    have hs0 : (65536 : Int) < s.size := by omega
    clear h1
    go_enter Tryd.func21, Tryd.ntmps21
    go_wp2
    go_ret2
    rw [H.out]
    exact ⟨.slice none 0 0, rfl, Strs.nil _ _ _, Below.refl _ _⟩
end Go.Proofs.YtgdibahgmpomeaaDoor.num
