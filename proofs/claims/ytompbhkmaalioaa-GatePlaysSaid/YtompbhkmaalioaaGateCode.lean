/-
  What is asked of the code's calls on a gate is so (gateLaws, gateNil).
-/
import Derived.Test.YtompbhkmaalioaaGateCodeE
namespace Go.Proofs.Ytompbhkmaalioaa
open Go.RowKit

theorem gateLaws : GateLaws VG where
  has := vg_has
  touch := vg_touch
  zero := vg_zero
  freeze := fun f t hf ht h => gateFreeze_any f t hf ht h
  thaw := fun h => gateThaw_any h
  frozen := fun x hx h => gateFrozen_any x hx h
  arc := fun {w g s F} h => by
    obtain ⟨y, R, k, e⟩ := h
    rw [k.arcV]
    exact gateArc_any ⟨y, R, k, e⟩
  point := fun f t n hf ht _ _ hl h => gatePoint_any f t n hf ht hl h
  where_ := fun x hx _ h => gateWhere_any x hx h
  tick := fun _ _ h => gateTick_any h
  points := fun h => gatePoints_any h
theorem gateNil : GateNil where
  freeze := fun f t w => gateFreeze_nil w f t
  thaw := gateThaw_nil
  frozen := fun x w => gateFrozen_nil w x
  arc := gateArc_nil
  point := fun f t n w => gatePoint_nil w f t n
  where_ := gateWhere_nil
  tick := gateTick_nil
  points := gatePoints_nil
end Go.Proofs.Ytompbhkmaalioaa
