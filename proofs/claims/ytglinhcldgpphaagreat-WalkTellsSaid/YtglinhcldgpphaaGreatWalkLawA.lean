/-
  The walk of WalkMiddle over ShelfLaws and WalkLaws. (Written by tools/genWMid.py.)
-/
import Derived.Test.YtglinhcldgpphaaGreatWalkAlive
namespace Go.Proofs.YtglinhcldgpphaaGreat
open Go.RowKit

theorem ItemsAt.below {W w : World} {A : Option Addr} {zs : List Item} (h : ItemsAt W A zs) (hb : Below W.heap.size W w) : ItemsAt w A zs := by
  obtain ⟨b, off, h⟩ := h
  refine ⟨b, off, fun i hi => ?_⟩
  obtain ⟨a, c, d, e⟩ := h i hi
  exact ⟨a, Nat.lt_of_lt_of_le c hb.size, (hb.cell (p := ⟨b, off + i * 2, none⟩) c).trans d, (hb.cell (p := ⟨b, off + i * 2 + 1, none⟩) c).trans e⟩
/-- Filled, as the statements call it: ahead of every way -/
theorem filledW {SH : ShP} {SQ : SqP} (L : ShelfLaws SH) (A : Option Addr) (c : Nat) (zs : List Item) (W w : World) (hb : Below W.heap.size W w) (hA : ItemsAt W A zs) (hz : zs.length ≤ 9223372036854775807) {n : Nat} (hn : zs.length = n) :
    Calls Tryz.prog 5 #[.slice A n c] w fun e w' => ∃ gs gr, e = .returned (.tuple #[.pointer (some ⟨gs, 0, none⟩), .pointer (some ⟨gr, 0, none⟩)]) ∧ OSW SH SQ w w' gs gr (fillL zs) [] := by
  subst hn
  refine (filled_any L A c zs w w (Below.refl _ _) (hA.below hb) hz).mono ?_
  rintro e w' ⟨gs, gr, rfl, z⟩
  exact ⟨gs, gr, rfl, z.ways⟩
theorem fillL_small (zs : List Item) : ∀ x ∈ fillL zs, x.1.size ≤ 16 := fun x hx => ((fillL_fine zs).2 x hx).2
theorem fillL_goes (zs : List Item) : Goes (fillL zs) := (fillL_fine zs).1.goes

end Go.Proofs.YtglinhcldgpphaaGreat
