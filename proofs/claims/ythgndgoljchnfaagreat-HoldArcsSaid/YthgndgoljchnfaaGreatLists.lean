/-
  A slice of integers, of texts, as memory holds it.
-/
import Derived.Test.YthgndgoljchnfaaGreatHg02
namespace Go.Proofs.YthgndgoljchnfaaGreat
open Go.RowKit

/-- the integers of a slice at address A -/
def IntsAt (W : World) (A : Option Addr) (kd : IntKind) (zs : List Int) : Prop :=
  ∃ b off, ∀ i, i < zs.length → A = some ⟨b, off, none⟩ ∧ b < W.heap.size ∧ W.cell? ⟨b, off + i, none⟩ = some (.int kd (zs.getD i 0))
/-- the texts of a slice at address A -/
def TextsAt (W : World) (A : Option Addr) (ss : List ByteArray) : Prop :=
  ∃ b off, ∀ i, i < ss.length → A = some ⟨b, off, none⟩ ∧ b < W.heap.size ∧ W.cell? ⟨b, off + i, none⟩ = some (.string (ss.getD i ByteArray.empty))
theorem IntsAt.below {W W1 : World} {A : Option Addr} {kd : IntKind} {zs : List Int} (h : IntsAt W A kd zs) (hb : Below W.heap.size W W1) : IntsAt W1 A kd zs := by
  obtain ⟨b, off, h⟩ := h
  refine ⟨b, off, fun i hi => ?_⟩
  obtain ⟨h1, h2, h3⟩ := h i hi
  exact ⟨h1, Nat.lt_of_lt_of_le h2 hb.size, (hb.cell (p := ⟨b, off + i, none⟩) h2).trans h3⟩
theorem TextsAt.below {W W1 : World} {A : Option Addr} {ss : List ByteArray} (h : TextsAt W A ss) (hb : Below W.heap.size W W1) : TextsAt W1 A ss := by
  obtain ⟨b, off, h⟩ := h
  refine ⟨b, off, fun i hi => ?_⟩
  obtain ⟨h1, h2, h3⟩ := h i hi
  exact ⟨h1, Nat.lt_of_lt_of_le h2 hb.size, (hb.cell (p := ⟨b, off + i, none⟩) h2).trans h3⟩
end Go.Proofs.YthgndgoljchnfaaGreat
