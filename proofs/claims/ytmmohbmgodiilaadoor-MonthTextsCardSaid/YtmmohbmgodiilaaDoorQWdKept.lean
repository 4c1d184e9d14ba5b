/-
  Cells of older blocks stay. (Split off the walks of the reference of chapter 6.)
-/
import Derived.Test.YtmmohbmgodiilaaDoorQWdRef2
namespace Go.Proofs.YtmmohbmgodiilaaDoor.wd
open Go Go.RowKit Go.Proofs.YtmmohbmgodiilaaDoor.money Go.Proofs.YtmmohbmgodiilaaDoor.ints Go.Proofs.YtmmohbmgodiilaaDoor.rng
set_option linter.unusedVariables false
set_option linter.unusedSimpArgs false

theorem kept {W w' : World} (hb : Below W.heap.size W w') {b o : Nat} {v : Value} (h : W.cell? ⟨b, o, none⟩ = some v) : w'.cell? ⟨b, o, none⟩ = some v := by
  have hl := World.block_lt_of_cell? _ _ h
  rw [hb.cell (p := ⟨b, o, none⟩) hl]; exact h
theorem kept_al {W : World} {b o : Nat} {v : Value} (ob : Obj) (h : W.cell? ⟨b, o, none⟩ = some v) : (W.alloc ob).cell? ⟨b, o, none⟩ = some v :=
  kept ((Below.refl _ _).alloc (Nat.le_refl _) _) h
end Go.Proofs.YtmmohbmgodiilaaDoor.wd
