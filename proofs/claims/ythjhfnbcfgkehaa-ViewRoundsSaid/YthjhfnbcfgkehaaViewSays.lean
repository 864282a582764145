/-
  A list of what is said, in memory; said one by one.
-/
import Derived.Test.YthjhfnbcfgkehaaViewAlive
import Derived.Test.YthjhfnbcfgkehaaArcSplit
import Derived.Deep.MidRow
namespace Go.Proofs.Ythjhfnbcfgkehaa
open Go.RowKit

/-- they lie one behind another -/
def SaysAt (W : World) (A : Option Addr) (os : List AO) : Prop := ∃ q o, ∀ i x, os[i]? = some x → A = some ⟨q, o, none⟩ ∧ q < W.heap.size ∧ W.rangeAt q (o + i * 4) x.cells.toList ∧ x.Fit
theorem SaysAt.below {W w : World} {A : Option Addr} {os : List AO} (h : SaysAt W A os) (hb : Below W.heap.size W w) : SaysAt w A os := by
  obtain ⟨q, o, h⟩ := h
  refine ⟨q, o, fun i x hx => ?_⟩
  obtain ⟨h1, h2, h3, h4⟩ := h i x hx
  exact ⟨h1, Nat.lt_of_lt_of_le h2 hb.size, fun j v hj => (hb.cell (p := ⟨q, o + i * 4 + j, none⟩) h2).trans (h3 j v hj), h4⟩
theorem Turns.nil : Turns [] [] := fun x _ h => absurd ((kn_nil x).trans (kn_nil (sub64 x 1)).symm) h
/-- where it changes, behind what was said -/
theorem LearnPost.turns {a a1 : List AO} {C : List Nat} {s : AO} {b : Bool} (h : LearnPost a s b a1) (hs : s.Fit) (hC : Turns a C) : Turns a1 (s.f :: s.t :: C) := by
  rcases h with ⟨_, h1, _⟩ | ⟨_, _, rfl⟩
  · exact hC.said ⟨hs.f, hs.t⟩ h1
  · intro x hx hne
    have := hC x hx hne
    simp [this]
/-- what was known stays known -/
theorem LearnPost.knows {a a1 : List AO} {s : AO} {b : Bool} (h : LearnPost a s b a1) {x : Nat} (hx : x < 18446744073709551616) (hk : kn a x ≠ none) : kn a1 x ≠ none := by
  rcases h with ⟨_, h1, _⟩ | ⟨_, _, rfl⟩
  · rw [h1 x hx]
    unfold learnt
    split
    · simp
    · exact hk
  · exact hk
end Go.Proofs.Ythjhfnbcfgkehaa
