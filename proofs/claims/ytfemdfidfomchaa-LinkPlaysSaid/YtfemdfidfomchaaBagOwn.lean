/-
  New, Len, has; own: a packet alike.
-/
import Derived.Test.YtfemdfidfomchaaBagBase
import Derived.Deep.QuietTactic
import Derived.BigQuiet
import Derived.Deep.DeepCutAuto
import Derived.Deep.RegionHeld3
namespace Go.Proofs.Ytfemdfidfomchaa
open Go.RowKit

theorem setCell_back {w : World} {b o : Nat} {cs : Array Value} {T : TypeId} {v : Value} (hb : w.heap[b]? = some (.cells cs T)) (hv : cs[o]? = some v) : w.setCell ⟨b, o, none⟩ v = w := by
  have e : cs.setIfInBounds o v = cs := by
    apply Array.ext_getElem?
    intro i
    rw [Array.getElem?_setIfInBounds]
    split
    · rename_i h
      subst h
      split
      · exact hv.symm
      · rename_i h; rw [Array.getElem?_eq_none (by omega)]
    · rfl
  have e2 : (w.setCell ⟨b, o, none⟩ v).heap = w.heap := by
    apply Array.ext_getElem?
    intro i
    simp only [World.setCell]
    rw [Array.getElem?_modify]
    split
    · rename_i h
      subst h
      rw [hb]
      simp [e]
    · rfl
  cases w
  simp only [World.setCell] at e2 ⊢
  rw [e2]

theorem cloneNil_any (W : World) : Calls Try.prog 66 #[.slice none 0 0] W fun e w' => e = .returned (.slice none 0 0) ∧ w' = W := by
  have hq := Lib.run_eql_slice_nil (P := Try.prog) W 44 108 none 0 0 0 0 Try.underlying44
  go_enter Try.func66, Try.ntmps66
  go_wp2
  go_ret
  exact ⟨rfl, rfl⟩

end Go.Proofs.Ytfemdfidfomchaa
