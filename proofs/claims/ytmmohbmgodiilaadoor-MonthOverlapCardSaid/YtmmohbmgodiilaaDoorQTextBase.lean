/-
  What walks over texts use: strings and their bytes.
-/
import Derived.Test.YtmmohbmgodiilaaDoorQWalkBase
import Derived.Test.YtmmohbmgodiilaaDoorPa
namespace Go.Proofs.YtmmohbmgodiilaaDoor.txt
open Go Go.RowKit Go.Proofs.YtmmohbmgodiilaaDoor.num
set_option linter.unusedVariables false

theorem str_eq {u : ByteArray} {l : List UInt8} (h : u.data.toList = l) : (⟨l.toArray⟩ : ByteArray) = u := by
  subst h; exact Lib.mk_data u
theorem str_mk (l : List UInt8) : ∃ u : ByteArray, u.data.toList = l := ⟨⟨l.toArray⟩, by simp⟩
theorem str_size {u : ByteArray} {l : List UInt8} (h : u.data.toList = l) : u.size = l.length := by rw [Lib.size_eq, h]
theorem ext_list {a b : ByteArray} (h : a.data.toList = b.data.toList) : a = b := by
  rw [← Lib.mk_data a, h, Lib.mk_data]
theorem bcell {W w1 : World} (hb : Below W.heap.size W w1) : ∀ b o, b < W.heap.size → w1.cell? ⟨b, o, none⟩ = W.cell? ⟨b, o, none⟩ :=
  fun b o h => hb.cell (p := ⟨b, o, none⟩) h
theorem u64_in {x : Int} (h0 : 0 ≤ x) (h1 : x ≤ 18446744073709551615) : IntKind.u64.wrap x = x := by rw [IntKind.wrap_u64]; omega
theorem u8_in {x : Int} (h0 : 0 ≤ x) (h1 : x ≤ 255) : IntKind.u8.wrap x = x := by
  unfold IntKind.wrap
  simp only [IntKind.bits, IntKind.signed, Bool.false_and, Bool.false_eq_true, if_false]
  exact Int.emod_eq_of_lt h0 (by omega)
theorem ret_str {a b : ByteArray} (h : a = b) : Ending.returned (.string a) = Ending.returned (.string b) := by rw [h]
theorem pad_step {k : Nat} {l : List UInt8} (h : l.length < k) : padTo k (48 :: l) = padTo k l := by
  unfold padTo
  obtain ⟨m, hm⟩ : ∃ m, k - l.length = m + 1 := ⟨k - l.length - 1, by omega⟩
  rw [hm, List.length_cons, show k - (l.length + 1) = m by omega, List.replicate_succ', List.append_assoc]
  rfl
theorem pad_done {k : Nat} {l : List UInt8} (h : k ≤ l.length) : padTo k l = l := by
  unfold padTo; rw [show k - l.length = 0 by omega]; rfl
end Go.Proofs.YtmmohbmgodiilaaDoor.txt
