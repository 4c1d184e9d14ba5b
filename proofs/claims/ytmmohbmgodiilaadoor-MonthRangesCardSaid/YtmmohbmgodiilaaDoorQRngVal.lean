/-
  What the reference of chapter 5 answers of one range: Valid.
-/
import Derived.Test.YtmmohbmgodiilaaDoorQWalkBase
import Derived.Test.YtmmohbmgodiilaaDoorPa
namespace Go.Proofs.YtmmohbmgodiilaaDoor.rng
open Go Go.RowKit Go.Proofs.YtmmohbmgodiilaaDoor.money
set_option linter.unusedVariables false
set_option linter.unusedSimpArgs false

def rV (r : R) : Value := .agg #[.int .i64 r.1, .int .i64 r.2]
def GivesB (w : World) (b : Bool) (e : Ending) (w' : World) : Prop := e = .returned (.bool b) ∧ Below w.heap.size w w'
def GivesR (w : World) (x y : Int) (b : Bool) (e : Ending) (w' : World) : Prop := e = .returned (.tuple #[.agg #[.int .i64 x, .int .i64 y], .bool b]) ∧ Below w.heap.size w w'

theorem bcell {W w1 : World} (hb : Below W.heap.size W w1) : (∀ b o, b < W.heap.size → w1.cell? ⟨b, o, none⟩ = W.cell? ⟨b, o, none⟩) ∧ (∀ b o, b < W.heap.size → w1.frozen? ⟨b, o, none⟩ = W.frozen? ⟨b, o, none⟩) :=
  ⟨fun b o h => hb.cell (p := ⟨b, o, none⟩) h, fun b o h => hb.frozen (p := ⟨b, o, none⟩) h⟩
theorem ref_bool {a b : Bool} (h : a = b) : Ending.returned (.bool a) = Ending.returned (.bool b) := by rw [h]

theorem rValid_is (x y : Int) (b : Bool) (w : World) (h : okR (x, y) = b) : Calls Tryd.prog 31 #[.agg #[.int .i64 x, .int .i64 y]] w (GivesB w b) := by
  have H := Lib.hid h
  clear h
  by_cases h1 : 0 ≤ x
  · by_cases h2 : x ≤ y
    · by_cases h3 : y ≤ 109573
      all_goals
        go_enter Tryd.func31, Tryd.ntmps31
        go_wp2
        go_ret
        refine ⟨ref_bool (by rw [← H.out]; simp [okR]; omega), (Below.refl _ _).alloc (Nat.le_refl _) _⟩
    · go_enter Tryd.func31, Tryd.ntmps31
      go_wp2
      go_ret
      refine ⟨ref_bool (by rw [← H.out]; simp [okR]; omega), (Below.refl _ _).alloc (Nat.le_refl _) _⟩
  · go_enter Tryd.func31, Tryd.ntmps31
    go_wp2
    go_ret
    refine ⟨ref_bool (by rw [← H.out]; simp [okR]; omega), (Below.refl _ _).alloc (Nat.le_refl _) _⟩
end Go.Proofs.YtmmohbmgodiilaaDoor.rng
