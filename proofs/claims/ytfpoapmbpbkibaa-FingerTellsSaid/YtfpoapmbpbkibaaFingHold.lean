/-
  The seats that a statement of stage 12 is handed: points, one behind another; the nil slice has no room.
-/
import Derived.Test.YtfpoapmbpbkibaaHoldLists
import Derived.Test.YtfpoapmbpbkibaaFingBase
namespace Go.Proofs.Ytfpoapmbpbkibaa
open Go.ChangeShapes Go.WideShapes Go.ChangeAt Go.RowKit Go.WideMaps Go.WideElems
open Pb

set_option maxRecDepth 20000 in
theorem open_points_arg {H : Type} {enc : TypeId × Value → H} {W : World} {base : Nat} {v : Value} {d : DataW H} {p : List MemPlace}
    (hok : Value.okWide Try.prog W .any base 23 v) (h : DataW.Trod enc Try.prog W 0 (fun _ => true) true 23 v d p) (hlt : ∀ x ∈ p, x.block < W.heap.size) :
    ∃ (A : Option Addr) (cap : Nat) (zs : List Int), v = .slice A zs.length cap ∧ PtAt W A zs ∧ (∀ s ∈ zs, Pt s) ∧ (A = none → cap = 0) := by
  obtain ⟨A, cap, zs, rfl, h1, h2, h3⟩ := open_ints_arg Try.underlying23 Try.underlying22 (by kernel_rfl) hok h hlt
  refine ⟨A, cap, zs, rfl, PtAt.of_ints h2, fun s hs => ?_, fun hA => ?_⟩
  · have := wf_u64 (h3 s hs)
    exact ⟨this.1, by omega⟩
  · subst hA
    obtain ⟨fuel, hf⟩ := h
    rcases open_ints Try.underlying23 Try.underlying22 (by kernel_rfl) hf with ⟨hcs, hx⟩ | ⟨a, len', cap', zs, hcs, _, hl, hm, hz, hx, hcell, hws⟩
    · simp [Value.cells] at hcs
      exact hcs.2
    · simp [Value.cells] at hcs
end Go.Proofs.Ytfpoapmbpbkibaa
