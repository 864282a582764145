import Derived.Test.YtnjodhglbapnlaaGreatHold
import Derived.Test.YtnjodhglbapnlaaGreatGg22
import Derived.Carry
import Derived.Deep.Slices
import Derived.Lib.SmallJoins
set_option maxRecDepth 100000
set_option maxHeartbeats 16000000
namespace Go.Proofs.YtnjodhglbapnlaaGreat
open Go.ChangeShapes Go.WideShapes Go.ChangeAt Go.RowKit Go.Deep
theorem Tryz.laidOut : laidOutB Tryz.prog = true := by kernel_rfl
theorem yaa7 {H : Type} {enc : TypeId × Value → H} {W : World} {base : Nat} {t e : TypeId} {f0 f1 : Field} {v : Value} {d : DataW H} {p : List MemPlace}
  (ht : Tryz.prog.underlying t = some (.slice e)) (he : Tryz.prog.underlying e = some (.struct #[f0, f1])) (ce : Tryz.prog.cellsOf e = 2) (o0 : f0.offset = 0) (o1 : f1.offset = 1)
  (c0 : Tryz.prog.cellsOf f0.type = 1) (c1 : Tryz.prog.cellsOf f1.type = 1) (u0 : Tryz.prog.underlying f0.type = some .string) (u1 : Tryz.prog.underlying f1.type = some .string)
  (hok : Value.okWide Tryz.prog W .any base t v) (h : DataW.Trod enc Tryz.prog W 0 (fun _ => true) true t v d p) :
  ∃ (A : Option Addr) (cap : Nat) (zs : List Item), v = .slice A zs.length cap ∧ zs.length ≤ 9223372036854775807 ∧ zs.length ≤ cap ∧ (cap ≤ maxLen ∧ (A = none → cap = 0)) ∧ yiq W A zs := by
 obtain ⟨a0, len, cap, rfl⟩ := okWide_slice ht hok
 obtain ⟨fuel, hf⟩ := h
 rcases open_slice ht hf with ⟨hcs, _⟩ | ⟨a, len', cap', m, n, D, Pl, hcs, hb, hl, hm, hmm, hx, hall⟩
 ·have hcs : [Value.slice a0 len cap] = [.slice none 0 0] := hcs
  injection hcs with hcs _
  injection hcs with e1 e2 e3
  subst e1 e2 e3
  exact ⟨_, _, [], rfl, by simp, by simp, ⟨by unfold maxLen; omega, fun _ => rfl⟩, 0, 0, fun i hi => by simp at hi⟩
 ·have hcs : [Value.slice a0 len cap] = [.slice (some a) len' cap'] := hcs
  injection hcs with hcs _
  injection hcs with e1 e2 e3
  subst e1 e2 e3
  simp only [if_true] at hmm
  have each : ∀ i, i < len → ∃ q : Item, W.cell? (a.add (i * 2)) = some (.string q.1) ∧ W.cell? (a.add (i * 2 + 1)) = some (.string q.2) := by
   intro i hi
   obtain ⟨cs', h1, h2⟩ := hall i (by omega)
   rw [ce] at h1
   obtain ⟨_, hlen, hcell⟩ := World.cells?_some h1
   obtain ⟨xs, k, hk, hxy, _, hxl, hfs⟩ := DataW.trod_struct he h2
   match xs, hxl, cs', hlen with
   | [y0, y1], _, [v0, v1], _ =>
    have g0 := hfs 0 f0 rfl
    have g1 := hfs 1 f1 rfl
    simp [o0, o1, c0, c1] at g0 g1
    have z0 := hcell 0 (by omega)
    have z1 := hcell 1 (by omega)
    rw [add_add] at z0 z1
    obtain ⟨x0, q0, _⟩ := DataW.trod_string u0 g0
    obtain ⟨x1, q1, _⟩ := DataW.trod_string u1 g1
    injection q0 with q0 _
    injection q1 with q1 _
    subst q0 q1
    exact ⟨(x0, x1), by simpa using z0, by simpa using z1⟩
  obtain ⟨q, hq⟩ := choose_lt each
  refine ⟨some a, cap, (List.range len).map q, by simp, by simp; unfold maxLen at hm; omega, by simpa using hl, ⟨hm, fun z => by cases z⟩, a.block, a.off, fun i hi => ?_⟩
  have hi' : i < len := by simpa using hi
  obtain ⟨e0, e1⟩ := hq i hi'
  obtain ⟨b, off, spot⟩ := a
  have hspot : spot = none := by simpa [Addr.add] using World.cell?_spot (hq 0 (by omega)).1
  subst hspot
  rw [add_plain] at e0 e1
  have hbl : b < W.heap.size := block_lt_of_cell e0
  refine ⟨rfl, hbl, ?_, ?_⟩
  ·simpa using e0
  ·simpa [Nat.add_assoc] using e1
theorem yaa8 {H : Type} {enc : TypeId × Value → H} {W : World} {base : Nat} {t e : TypeId} {f0 f1 : Field} {v : Value} {d : DataW H} {p : List MemPlace}
  (ht : Tryz.prog.underlying t = some (.slice e)) (he : Tryz.prog.underlying e = some (.struct #[f0, f1])) (ce : Tryz.prog.cellsOf e = 2) (o0 : f0.offset = 0) (o1 : f1.offset = 1)
  (c0 : Tryz.prog.cellsOf f0.type = 1) (c1 : Tryz.prog.cellsOf f1.type = 1) (u0 : Tryz.prog.underlying f0.type = some .string) (u1 : Tryz.prog.underlying f1.type = some .string)
  (hok : Value.okWide Tryz.prog W .any base t v) (h : DataW.Trod enc Tryz.prog W 0 (fun _ => true) true t v d p) :
  ∃ (A : Option Addr) (cap : Nat) (zs : List Item), v = .slice A zs.length cap ∧ zs.length ≤ 9223372036854775807 ∧ yiq W A zs := by
 obtain ⟨A, cap, zs, h1, h2, _, _, h3⟩ := yaa7 ht he ce o0 o1 c0 c1 u0 u1 hok h
 exact ⟨A, cap, zs, h1, h2, h3⟩
end Go.Proofs.YtnjodhglbapnlaaGreat
