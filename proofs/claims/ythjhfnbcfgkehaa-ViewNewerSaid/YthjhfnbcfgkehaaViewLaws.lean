/-
  The code's calls on a view keep what is asked of them (viewLaws).
-/
import Derived.Test.YthjhfnbcfgkehaaViewNodes
namespace Go.Proofs.Ythjhfnbcfgkehaa
open Go.RowKit

theorem VH.zero_ (w : World) : VH (w.alloc (.cells VZ 32)) w.heap.size [] [w.heap.size] :=
  ⟨[PT0], none, 0, 0, PFull.none, rfl, ⟨by go_simp, by go_simp⟩, .inl ⟨rfl, rfl, rfl, rfl, rfl⟩⟩
theorem viewLaws : ViewLaws VH where
  has := fun h => h.mem
  arcs := fun h => h.arcs
  touch := fun h t hn => h.touch_ t hn
  zero := VH.zero_
  learn := fun s hs hn h => by
    refine (learn_any s hs h hn).mono ?_
    rintro e w' ⟨b, a1, F1, rfl, h1, h2, h3, h4⟩
    exact ⟨b, a1, F1, rfl, h1, h2, h3, h4⟩
  owner := fun x hx h => by
    refine (owner_any h x hx).mono ?_
    rintro e w' ⟨h1, h2⟩
    exact ⟨h1, h2⟩
  next := fun x hx h => by
    refine (next_any h x hx).mono ?_
    rintro e w' ⟨h1, h2⟩
    exact ⟨h1, h2⟩
  len := fun h => len_any h
  ring := fun h => by
    refine (isRing_any h).mono ?_
    rintro e w' ⟨h1, h2⟩
    exact ⟨h1, h2⟩
  nodes := fun hn h => by
    refine (nodes_any h hn).mono ?_
    rintro e w' ⟨A, c, ns, h1, h2, h3, h4, h5⟩
    exact ⟨A, c, ns, h1, h2, h3, h4, h5⟩
  all := fun {w g a F} h => by
    refine (all_any (some ⟨g, 0, none⟩) w).mono ?_
    rintro e w' ⟨rfl, rfl⟩
    refine ⟨_, _, rfl, enters_of Try.func35 (by kernel_rfl) rfl, (Below.refl _ _).alloc (Nat.le_refl _) _, fun W hW => ?_⟩
    have v : Var (w.alloc (.cells #[.pointer (some ⟨g, 0, none⟩)] 29)) w.heap.size (.pointer (some ⟨g, 0, none⟩)) := Var.new _ _ _
    exact h.tour (((Below.refl _ _).alloc (Nat.le_refl _) _).trans (hW.mono (by simp))) (v.below hW).val
end Go.Proofs.Ythjhfnbcfgkehaa
