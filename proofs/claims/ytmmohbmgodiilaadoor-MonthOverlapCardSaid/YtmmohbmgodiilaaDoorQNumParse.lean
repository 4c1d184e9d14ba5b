/-
  What cutMinus, ParseInt, FormatInt, ParseFixed and FormatFixed of package numtext answer, for every argument.
-/
import Derived.Test.YtmmohbmgodiilaaDoorQNumWalks
import Derived.Test.YtmmohbmgodiilaaDoorPa
import Derived.Test.YtmmohbmgodiilaaDoorQShelf
import Derived.WalkSmall
import Derived.Deep.QuietTactic
import Derived.BigQuiet
namespace Go.Proofs.YtmmohbmgodiilaaDoor.num
open Go Go.RowKit Go.Sort
set_option linter.unusedVariables false

/-- What the walks ask of the library's own variables. -/
structure Env (w : World) : Prop where
  pow : Lib.TabIs Tryd.prog w "internal/strconv.uint64pow10" .u64 Lib.pow10Tab
  max : ∃ m, w.cell? ⟨1, 0, none⟩ = some (.int .i64 m)
theorem gPow : Tryd.prog.globalNamed "internal/strconv.uint64pow10" = some 2 := by kernel_rfl

theorem cell_lt {w : World} {p : Addr} {v : Value} (h : w.cell? p = some v) : p.block < w.heap.size := by
  rcases Nat.lt_or_ge p.block w.heap.size with g | g
  · exact g
  · simp only [World.cell?] at h
    rw [Array.getElem?_eq_none g] at h
    cases h
theorem var_lt {P : Program} {w : World} {n : String} {g : Nat} {cs : Array Value} (hg : P.globalNamed n = some g) (h : w.var? P n = some cs) : g < w.heap.size := by
  rcases Nat.lt_or_ge g w.heap.size with k | k
  · exact k
  · unfold World.var? at h
    simp only [hg, Option.bind_some] at h
    rw [Array.getElem?_eq_none k] at h
    cases h
theorem Env.below {w w' : World} (h : Env w) (hb : Below w.heap.size w w') : Env w' := by
  obtain ⟨m, hm⟩ := h.max
  exact ⟨var?_below hb gPow (var_lt gPow h.pow) h.pow, m, by rw [hb.cell (cell_lt hm)]; exact hm⟩
theorem below_grow (w : World) (k : Nat) (os : Array Obj) : Below w.heap.size w (grow (w.drewN k) os) :=
  ⟨rfl, rfl, rfl, by simp [grow], fun i hi => by
    show (w.heap ++ os)[i]? = w.heap[i]?
    rw [Array.getElem?_append_left hi]⟩

theorem minus_eq (l : List UInt8) : Lib.hasPrefix l [45] = minus l := by
  cases l with
  | nil => rfl
  | cons c l => simp [Lib.hasPrefix, minus, List.isPrefixOf, Bool.beq_comm]
theorem unsigned_eq (l : List UInt8) : Lib.trimPrefix l [45] = unsigned l := by
  unfold Lib.trimPrefix unsigned; rw [minus_eq]; rfl
theorem str_eq {u : ByteArray} {l : List UInt8} (h : u.data.toList = l) : (⟨l.toArray⟩ : ByteArray) = u := by
  subst h; exact Lib.mk_data u
theorem str_mk (l : List UInt8) : ∃ u : ByteArray, u.data.toList = l := ⟨⟨l.toArray⟩, by simp⟩
theorem str_size {u : ByteArray} {l : List UInt8} (h : u.data.toList = l) : u.size = l.length := by rw [Lib.size_eq, h]

theorem cutMinus_any (s u : ByteArray) (m : Bool) (w : World) (hu : u.data.toList = unsigned s.data.toList) (hm : minus s.data.toList = m) :
    Calls Tryd.prog 67 #[.string s] w fun e w' => e = .returned (.tuple #[.string u, .bool m]) ∧ w = w' := by
  have H := Lib.hid hu
  have HM := Lib.hid hm
  clear hu hm
  go_enter Tryd.func67, Tryd.ntmps67
  go_wp2_with (go_at_call 75; refine (Tryd.strings_CutPrefix s ⟨#[45]⟩ _).mono ?_; rintro e w' ⟨rfl, rfl⟩)
  go_ret2
  refine ⟨?_, rfl⟩
  show Ending.returned (.tuple #[.string ⟨(Lib.trimPrefix s.data.toList [45]).toArray⟩, .bool (Lib.hasPrefix s.data.toList [45])]) = _
  rw [unsigned_eq, minus_eq, str_eq H.out, HM.out]

theorem isWholePart_is (s : ByteArray) (b : Bool) (w : World) (h : whole s.data.toList = b) :
    Calls Tryd.prog 69 #[.string s] w fun e w' => e = .returned (.bool b) ∧ Below w.heap.size w w' := by
  rw [← h]; exact isWholePart_any s w
theorem allDigits_is (s : ByteArray) (b : Bool) (w : World) (h : digs s.data.toList = b) :
    Calls Tryd.prog 70 #[.string s] w fun e w' => e = .returned (.bool b) ∧ Below w.heap.size w w' := by
  rw [← h]; exact allDigits_any s w
theorem signedNumber_is (s : ByteArray) (neg : Bool) (a c : Int) (w : World) (hd : digs s.data.toList = true) (h : sgn (val s.data.toList) neg = (a, c)) :
    Calls Tryd.prog 71 #[.string s, .bool neg] w fun e w' => e = .returned (.tuple #[.int .i64 a, .int .i64 c]) ∧ Below w.heap.size w w' := by
  have := signedNumber_any s neg w hd
  rw [h] at this; exact this
theorem whole_digs {l : List UInt8} (h : whole l = true) : digs l = true := by
  unfold whole at h; rw [Bool.and_eq_true] at h; exact h.2

theorem ParseInt_is (s : ByteArray) (a c : Int) (w : World) (h : parseI s.data.toList = (a, c)) :
    Calls Tryd.prog 66 #[.string s] w fun e w' => e = .returned (.tuple #[.int .i64 a, .int .i64 c]) ∧ Below w.heap.size w w' := by
  obtain ⟨u, hu⟩ := str_mk (unsigned s.data.toList)
  obtain ⟨m, hm⟩ : ∃ m, minus s.data.toList = m := ⟨_, rfl⟩
  unfold parseI at h
  cases hw : whole u.data.toList
  · rw [← hu, hw] at h
    simp only [Bool.false_eq_true, if_false, Prod.mk.injEq] at h
    obtain ⟨rfl, rfl⟩ := h
    have H1 := Lib.hid hu
    have H2 := Lib.hid hm
    have H3 := Lib.hid hw
    clear hu hm hw
    go_enter Tryd.func66, Tryd.ntmps66
    go_wp2_with (first | (go_at_call 67; refine (cutMinus_any s u m _ H1.out H2.out).mono ?_; rintro e w' ⟨rfl, rfl⟩) | (go_at_call 69; refine (isWholePart_is u false _ H3.out).mono ?_; rintro e w' ⟨rfl, hb⟩))
    go_ret2
    exact ⟨rfl, hb⟩
  · rw [← hu, hw, if_pos rfl, hm] at h
    have H1 := Lib.hid hu
    have H2 := Lib.hid hm
    have H3 := Lib.hid hw
    have H4 := Lib.hid h
    clear hu hm hw h
    go_enter Tryd.func66, Tryd.ntmps66
    go_wp2_with (first | (go_at_call 67; refine (cutMinus_any s u m _ H1.out H2.out).mono ?_; rintro e w' ⟨rfl, rfl⟩) | (go_at_call 69; refine (isWholePart_is u true _ H3.out).mono ?_; rintro e w1 ⟨rfl, hb⟩) | (go_at_call 71; refine (signedNumber_is u m a c _ (whole_digs H3.out) H4.out).mono ?_; rintro e w2 ⟨rfl, hb2⟩))
    go_ret2
    exact ⟨rfl, hb.trans (hb2.mono hb.size)⟩

theorem FormatInt_is (n : Int) (t : ByteArray) (w : World) (he : Env w) (h0 : -9223372036854775808 ≤ n) (h1 : n ≤ 9223372036854775807) (ht : t.data.toList = Lib.itoa n) :
    Calls Tryd.prog 72 #[.int .i64 n] w fun e w' => e = .returned (.string t) ∧ Below w.heap.size w w' := by
  have H := Lib.hid (str_eq ht)
  have H0 := Lib.hid h0
  have H1 := Lib.hid h1
  clear ht h0 h1
  go_enter Tryd.func72, Tryd.ntmps72
  go_wp2_with (go_at_call 77; refine (Tryd.strconv_Itoa n H0.out H1.out _ he.pow).mono ?_; rintro e w' ⟨rfl, k, os, rfl⟩)
  go_ret
  refine ⟨?_, below_grow _ _ _⟩
  show Ending.returned (.string ⟨(Lib.itoa n).toArray⟩) = _
  rw [H.out]

theorem clampPlaces_is (p c : Int) (w : World) (h : (clamp p : Int) = c) :
    Calls Tryd.prog 65 #[.int .i64 p] w fun e w' => e = .returned (.int .i64 c) ∧ w = w' := by
  rw [← h]; exact clampPlaces_any p w
theorem Cut_is (s x y : ByteArray) (b : Bool) (w : World) (he : Env w) (hs : s.size < 4294967281) (hx : x.data.toList = (cutDot s.data.toList).1) (hy : y.data.toList = (cutDot s.data.toList).2.1) (hb : (cutDot s.data.toList).2.2 = b) :
    Calls Tryd.prog 68 #[.string s, .string ⟨#[46]⟩] w fun e w' => e = .returned (.tuple #[.string x, .string y, .bool b]) ∧ Below w.heap.size w w' := by
  obtain ⟨m, hm⟩ := he.max
  refine (Tryd.strings_Cut s ⟨#[46]⟩ m w hs hm).mono ?_
  rintro e w' ⟨rfl, n, rfl⟩
  refine ⟨?_, below_drewN (Below.refl _ _) _⟩
  show Ending.returned (.tuple #[.string ⟨(cutDot s.data.toList).1.toArray⟩, .string ⟨(cutDot s.data.toList).2.1.toArray⟩, .bool (cutDot s.data.toList).2.2]) = _
  rw [str_eq hx, str_eq hy, hb]

set_option maxHeartbeats 1000000 in
theorem ParseFixed_is (s : ByteArray) (p a c : Int) (w : World) (he : Env w) (hs : s.size < 4294967281) (h : parseF (clamp p) s.data.toList = (a, c)) :
    Calls Tryd.prog 60 #[.string s, .int .i64 p] w fun e w' => e = .returned (.tuple #[.int .i64 a, .int .i64 c]) ∧ Below w.heap.size w w' := by
  by_cases hk : clamp p = 0
  · rw [hk] at h
    have H1 := Lib.hid (show (clamp p : Int) = 0 by rw [hk]; rfl)
    have H2 := Lib.hid (show parseI s.data.toList = (a, c) by unfold parseF at h; simpa using h)
    clear hk h
    go_enter Tryd.func60, Tryd.ntmps60
    go_wp2_with (first | (go_at_call 65; refine (clampPlaces_is p 0 _ H1.out).mono ?_; rintro e w' ⟨rfl, rfl⟩) | (go_at_call 66; refine (ParseInt_is s a c _ H2.out).mono ?_; rintro e w' ⟨rfl, hb⟩))
    go_ret2
    exact ⟨rfl, hb⟩
  · obtain ⟨k, hkk⟩ : ∃ k, clamp p = k := ⟨_, rfl⟩
    rw [hkk] at h hk
    have H1 := Lib.hid (show (clamp p : Int) = (k : Int) by rw [hkk])
    clear hkk
    obtain ⟨u, hu⟩ := str_mk (unsigned s.data.toList)
    obtain ⟨m, hm⟩ : ∃ m, minus s.data.toList = m := ⟨_, rfl⟩
    have hus : u.size < 4294967281 := by
      have : u.size ≤ s.size := by
        rw [str_size hu, Lib.size_eq]; unfold unsigned; split <;> simp
      omega
    obtain ⟨x, hx⟩ := str_mk (cutDot u.data.toList).1
    obtain ⟨y, hy⟩ := str_mk (cutDot u.data.toList).2.1
    have hxy : x.size + y.size ≤ u.size := by
      rw [str_size hx, str_size hy, Lib.size_eq]
      unfold cutDot Lib.cut
      split <;> simp
      omega
    unfold parseF at h
    rw [if_neg hk, hm, ← hu, ← hx, ← hy, ← str_size rfl] at h
    have hk0 : ((k : Int) == 0) = false := by simpa using hk
    have HU := Lib.hid hu
    have HM := Lib.hid hm
    have HX := Lib.hid hx
    have HY := Lib.hid hy
    clear hu hm hx hy hk
    cases hb : (cutDot u.data.toList).2.2
    · rw [hb] at h
      simp only [Bool.false_and, Bool.false_eq_true, if_false, Prod.mk.injEq] at h
      obtain ⟨rfl, rfl⟩ := h
      have HB := Lib.hid hb
      clear hb
      go_enter Tryd.func60, Tryd.ntmps60
      go_wp2_with (first | (go_at_call 65; refine (clampPlaces_is p k _ H1.out).mono ?_; rintro e w' ⟨rfl, rfl⟩) | (go_at_call 67; refine (cutMinus_any s u m _ HU.out HM.out).mono ?_; rintro e w' ⟨rfl, rfl⟩) | (go_at_call 68; refine (Cut_is u x y false _ he hus HX.out HY.out HB.out).mono ?_; rintro e w1 ⟨rfl, hb1⟩))
      go_ret2
      exact ⟨rfl, hb1⟩
    · rw [hb, Bool.true_and] at h
      have HB := Lib.hid hb
      clear hb
      cases hw : whole x.data.toList
      · rw [hw] at h
        simp only [Bool.false_and, Bool.false_eq_true, if_false, Prod.mk.injEq] at h
        obtain ⟨rfl, rfl⟩ := h
        have HW := Lib.hid hw
        clear hw
        go_enter Tryd.func60, Tryd.ntmps60
        go_wp2_with (first | (go_at_call 65; refine (clampPlaces_is p k _ H1.out).mono ?_; rintro e w' ⟨rfl, rfl⟩) | (go_at_call 67; refine (cutMinus_any s u m _ HU.out HM.out).mono ?_; rintro e w' ⟨rfl, rfl⟩) | (go_at_call 68; refine (Cut_is u x y true _ he hus HX.out HY.out HB.out).mono ?_; rintro e w1 ⟨rfl, hb1⟩) | (go_at_call 69; refine (isWholePart_is x false _ HW.out).mono ?_; rintro e w2 ⟨rfl, hb2⟩))
        go_ret2
        exact ⟨rfl, hb1.trans (hb2.mono hb1.size)⟩
      · rw [hw, Bool.true_and] at h
        have HW := Lib.hid hw
        clear hw
        by_cases hl : y.size = k
        · rw [decide_eq_true hl, Bool.true_and] at h
          have hl1 : ((y.size : Int) != (k : Int)) = false := by rw [hl]; simp
          have hl2 : ((y.size : Int) == (k : Int)) = true := by rw [hl]; simp
          clear hl
          cases hd : digs y.data.toList
          · rw [hd] at h
            simp only [Bool.false_eq_true, if_false, Prod.mk.injEq] at h
            obtain ⟨rfl, rfl⟩ := h
            have HD := Lib.hid hd
            clear hd
            go_enter Tryd.func60, Tryd.ntmps60
            go_wp2_with (first | (go_at_call 65; refine (clampPlaces_is p k _ H1.out).mono ?_; rintro e w' ⟨rfl, rfl⟩) | (go_at_call 67; refine (cutMinus_any s u m _ HU.out HM.out).mono ?_; rintro e w' ⟨rfl, rfl⟩) | (go_at_call 68; refine (Cut_is u x y true _ he hus HX.out HY.out HB.out).mono ?_; rintro e w1 ⟨rfl, hb1⟩) | (go_at_call 69; refine (isWholePart_is x true _ HW.out).mono ?_; rintro e w2 ⟨rfl, hb2⟩) | (go_at_call 70; refine (allDigits_is y false _ HD.out).mono ?_; rintro e w3 ⟨rfl, hb3⟩))
            go_ret2
            exact ⟨rfl, (hb1.trans (hb2.mono hb1.size)).trans (hb3.mono (hb1.trans (hb2.mono hb1.size)).size)⟩
          · rw [hd, if_pos rfl] at h
            have hz : (x ++ y).data.toList = x.data.toList ++ y.data.toList := by simp
            rw [← hz] at h
            have HD := Lib.hid hd
            have HZ := Lib.hid hz
            have H := Lib.hid h
            have hdz : digs (x ++ y).data.toList = true := by
              rw [hz]; unfold digs at hd ⊢; rw [List.all_append, hd, Bool.and_true]; exact whole_digs HW.out
            have HDZ := Lib.hid hdz
            clear hd hz h hdz
            go_enter Tryd.func60, Tryd.ntmps60
            go_wp2_with (first | (go_at_call 65; refine (clampPlaces_is p k _ H1.out).mono ?_; rintro e w' ⟨rfl, rfl⟩) | (go_at_call 67; refine (cutMinus_any s u m _ HU.out HM.out).mono ?_; rintro e w' ⟨rfl, rfl⟩) | (go_at_call 68; refine (Cut_is u x y true _ he hus HX.out HY.out HB.out).mono ?_; rintro e w1 ⟨rfl, hb1⟩) | (go_at_call 69; refine (isWholePart_is x true _ HW.out).mono ?_; rintro e w2 ⟨rfl, hb2⟩) | (go_at_call 70; refine (allDigits_is y true _ HD.out).mono ?_; rintro e w3 ⟨rfl, hb3⟩) | (go_at_call 71; refine (signedNumber_is (x ++ y) m a c _ HDZ.out H.out).mono ?_; rintro e w4 ⟨rfl, hb4⟩))
            go_ret2
            exact ⟨rfl, ((hb1.trans (hb2.mono hb1.size)).trans (hb3.mono (hb1.trans (hb2.mono hb1.size)).size)).trans (hb4.mono (((hb1.trans (hb2.mono hb1.size)).trans (hb3.mono (hb1.trans (hb2.mono hb1.size)).size)).size))⟩
        · have hl1 : ((y.size : Int) != (k : Int)) = true := by simp; omega
          have hl2 : ((y.size : Int) == (k : Int)) = false := by simp; omega
          rw [decide_eq_false hl] at h
          simp only [Bool.false_and, Bool.false_eq_true, if_false, Prod.mk.injEq] at h
          obtain ⟨rfl, rfl⟩ := h
          clear hl
          go_enter Tryd.func60, Tryd.ntmps60
          go_wp2_with (first | (go_at_call 65; refine (clampPlaces_is p k _ H1.out).mono ?_; rintro e w' ⟨rfl, rfl⟩) | (go_at_call 67; refine (cutMinus_any s u m _ HU.out HM.out).mono ?_; rintro e w' ⟨rfl, rfl⟩) | (go_at_call 68; refine (Cut_is u x y true _ he hus HX.out HY.out HB.out).mono ?_; rintro e w1 ⟨rfl, hb1⟩) | (go_at_call 69; refine (isWholePart_is x true _ HW.out).mono ?_; rintro e w2 ⟨rfl, hb2⟩))
          go_ret2
          exact ⟨rfl, hb1.trans (hb2.mono hb1.size)⟩

theorem Repeat_is (z : Int) (c : Nat) (x : ByteArray) (w : World) (hz : z = (c : Int)) (hc : c ≤ 1000) (hx : x.data.toList = List.replicate c 48) :
    Calls Tryd.prog 73 #[.string ⟨#[48]⟩, .int .i64 z] w fun e w' => e = .returned (.string x) ∧ Below w.heap.size w w' := by
  subst hz
  refine (Tryd.strings_Repeat ⟨#[48]⟩ c w (by omega) (by show 1 * c ≤ _; omega)).mono ?_
  rintro e w' ⟨rfl, hb⟩
  refine ⟨?_, hb⟩
  have h1 : Lib.repeatL [48] c = List.replicate c 48 := by
    have := Lib.repeatL_replicate 48 1 c
    simpa using this
  show Ending.returned (.string ⟨(Lib.repeatL [48] c).toArray⟩) = _
  rw [h1, str_eq hx]

theorem ext_list {a b : ByteArray} (h : a.data.toList = b.data.toList) : a = b := by
  rw [← Lib.mk_data a, h, Lib.mk_data]
theorem fix_text {d t : ByteArray} {k : Nat} {n : Int} {i j : Nat} (hk : ¬ k = 0) (hd : d.data.toList = padTo (k + 1) (Lib.decDigits n.natAbs)) (hi : i = d.size - k) (hj : j = d.size) (ht : t.data.toList = fixL k n) :
    (n < 0 → ({ data := #[45] } : ByteArray) ++ (d.extract 0 i ++ { data := #[46] } ++ d.extract i j) = t) ∧ (¬ n < 0 → d.extract 0 i ++ { data := #[46] } ++ d.extract i j = t) := by
  have e : (d.extract 0 i ++ { data := #[46] } ++ d.extract i j : ByteArray).data.toList = fixBody k n := by
    rw [ByteArray.data_append, ByteArray.data_append, Array.toList_append, Array.toList_append, Lib.extract_data, Lib.extract_data, hi, hj, Lib.size_eq, hd]
    unfold fixBody
    simp [List.take_of_length_le]
  rw [fixL_eq hk] at ht
  refine ⟨fun h => ext_list ?_, fun h => ext_list ?_⟩
  · rw [ht, if_pos h, ByteArray.data_append, Array.toList_append, e]; rfl
  · rw [ht, if_neg h, e]

set_option maxHeartbeats 1000000 in
theorem FormatFixed_is (n p : Int) (t : ByteArray) (w : World) (he : Env w) (h0 : -9223372036854775808 ≤ n) (h1 : n ≤ 9223372036854775807) (ht : t.data.toList = fixL (clamp p) n) :
    Calls Tryd.prog 61 #[.int .i64 n, .int .i64 p] w fun e w' => e = .returned (.string t) ∧ Below w.heap.size w w' := by
  have G0 := Lib.hid h0
  have G1 := Lib.hid h1
  clear h0 h1
  by_cases hk : clamp p = 0
  · rw [hk] at ht
    have H1 := Lib.hid (show (clamp p : Int) = 0 by rw [hk]; rfl)
    have H2 := Lib.hid (show t.data.toList = Lib.itoa n by unfold fixL at ht; simpa using ht)
    clear hk ht
    go_enter Tryd.func61, Tryd.ntmps61
    go_wp2_with (first | (go_at_call 65; refine (clampPlaces_is p 0 _ H1.out).mono ?_; rintro e w' ⟨rfl, rfl⟩) | (go_at_call 72; refine (FormatInt_is n t _ he G0.out G1.out H2.out).mono ?_; rintro e w' ⟨rfl, hb⟩))
    go_ret
    exact ⟨rfl, hb⟩
  · obtain ⟨k, hkk⟩ : ∃ k, clamp p = k := ⟨_, rfl⟩
    rw [hkk] at ht hk
    have H1 := Lib.hid (show (clamp p : Int) = (k : Int) by rw [hkk])
    have hk9 : k ≤ 9 := by rw [← hkk]; unfold clamp; omega
    have hk1 : 1 ≤ k := by omega
    clear hkk
    have hk0 : ((k : Int) == 0) = false := by simpa using hk
    obtain ⟨f, hf⟩ := str_mk (Lib.itoa n)
    obtain ⟨u, hu⟩ := str_mk (unsigned f.data.toList)
    obtain ⟨m, hm⟩ : ∃ m, minus f.data.toList = m := ⟨_, rfl⟩
    have HF := Lib.hid hf
    have HU := Lib.hid hu
    have HM := Lib.hid hm
    have HT := Lib.hid ht
    clear hf hu hm ht hk
    have hus : u.size ≤ 21 := by
      have h5 : u.size ≤ f.size := by
        rw [str_size HU.out, Lib.size_eq]; unfold unsigned; split <;> simp
      have h6 := Lib.itoa_length_le n G0.out G1.out
      rw [← HF.out, ← Lib.size_eq] at h6
      omega
    have hud : u.data.toList = Lib.decDigits n.natAbs := by rw [HU.out, HF.out, unsigned_itoa]
    have hmd : m = decide (n < 0) := by rw [← HM.out, HF.out, minus_itoa]
    have HK := Lib.hid (show ¬ k = 0 by omega)
    have HUD := Lib.hid hud
    have HMD := Lib.hid hmd
    clear hud hmd
    by_cases hl : u.size ≤ k
    · obtain ⟨x, hx⟩ := str_mk (List.replicate (k + 1 - u.size) 48)
      have hxs : x.size = k + 1 - u.size := by rw [str_size hx]; simp
      have HX := Lib.hid hx
      have hd : (x ++ u).size = k + 1 := by rw [ByteArray.size_append]; omega
      clear hx
      go_enter Tryd.func61, Tryd.ntmps61
      go_wp2_with (first | (go_at_call 65; refine (clampPlaces_is p k _ H1.out).mono ?_; rintro e w' ⟨rfl, rfl⟩) | (go_at_call 72; refine (FormatInt_is n f _ he G0.out G1.out HF.out).mono ?_; rintro e w1 ⟨rfl, hb1⟩) | (go_at_call 67; refine (cutMinus_any f u m _ HU.out HM.out).mono ?_; rintro e w' ⟨rfl, rfl⟩) | (go_at_call 73; refine (Repeat_is _ (k + 1 - u.size) x _ (by omega) (by omega) HX.out).mono ?_; rintro e w2 ⟨rfl, hb2⟩))
      go_quiet (fail)
      go_wp2
      all_goals go_ret
      all_goals have hpad : (x ++ u).data.toList = padTo (k + 1) (Lib.decDigits n.natAbs) := by rw [ByteArray.data_append, Array.toList_append, HX.out, ← HUD.out, Lib.size_eq]; rfl
      all_goals have hft := fix_text (i := 1) (j := k + 1) HK.out hpad (by omega) (by omega) HT.out
      · refine ⟨?_, (hb1.trans (hb2.mono hb1.size)).trans (below_drewN (Below.refl _ _) _)⟩
        have hn : n < 0 := by have := HMD.out; simp_all
        exact congrArg (fun q => Ending.returned (.string q)) (hft.1 hn)
      · refine ⟨?_, (hb1.trans (hb2.mono hb1.size)).trans (below_drewN (Below.refl _ _) _)⟩
        have hn : ¬ n < 0 := by have := HMD.out; simp_all
        exact congrArg (fun q => Ending.returned (.string q)) (hft.2 hn)
    · have hpad : u.data.toList = padTo (k + 1) (Lib.decDigits n.natAbs) := by
        rw [HUD.out]
        have hl2 : (Lib.decDigits n.natAbs).length = u.size := by rw [← HUD.out, Lib.size_eq]
        unfold padTo; rw [show k + 1 - (Lib.decDigits n.natAbs).length = 0 by omega]; rfl
      have HP := Lib.hid hpad
      clear hpad
      go_enter Tryd.func61, Tryd.ntmps61
      go_wp2_with (first | (go_at_call 65; refine (clampPlaces_is p k _ H1.out).mono ?_; rintro e w' ⟨rfl, rfl⟩) | (go_at_call 72; refine (FormatInt_is n f _ he G0.out G1.out HF.out).mono ?_; rintro e w1 ⟨rfl, hb1⟩) | (go_at_call 67; refine (cutMinus_any f u m _ HU.out HM.out).mono ?_; rintro e w' ⟨rfl, rfl⟩) | fail)
      go_quiet (fail)
      go_wp2
      all_goals go_ret
      all_goals have hft := fix_text (i := u.size - k) (j := u.size) HK.out HP.out rfl rfl HT.out
      · refine ⟨?_, hb1.trans (below_drewN (Below.refl _ _) _)⟩
        have hn : n < 0 := by have := HMD.out; simp_all
        exact congrArg (fun q => Ending.returned (.string q)) (hft.1 hn)
      · refine ⟨?_, hb1.trans (below_drewN (Below.refl _ _) _)⟩
        have hn : ¬ n < 0 := by have := HMD.out; simp_all
        exact congrArg (fun q => Ending.returned (.string q)) (hft.2 hn)
end Go.Proofs.YtmmohbmgodiilaaDoor.num
