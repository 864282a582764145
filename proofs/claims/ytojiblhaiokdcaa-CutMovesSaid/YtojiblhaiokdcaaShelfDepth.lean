/-
  How high a tree is: the walk of Depth.
-/
import Derived.Test.YtojiblhaiokdcaaShelfBase
namespace Go.Proofs.Ytojiblhaiokdcaa
open Go.RowKit

theorem down_sto (W : World) {m : NMap} {F : List Nat} (hS : Sto W m F) {g i : Nat} {its : List Item} {ps : List Nat} (hm : m g = some ⟨its, ps⟩) (hp : ps.length ≤ 100000) :
    (ps = [] → Calls Try.prog 52 #[.pointer (some ⟨g, 0, none⟩), .int .i64 (i : Nat)] W fun e w => e = .returned (.pointer none) ∧ W = w) ∧
    (∀ q, ps[i]? = some q → Calls Try.prog 52 #[.pointer (some ⟨g, 0, none⟩), .int .i64 (i : Nat)] W fun e w => e = .returned (.pointer (some ⟨q, 0, none⟩)) ∧ W = w) := by
  obtain ⟨v, u, hN, -, -⟩ := hS.at hm
  have hN : NdX W g its ps v u := hN
  refine ⟨fun h => ?_, fun q hq => ?_⟩
  · subst h
    exact down_none g i W hN
  · obtain ⟨hi, rfl⟩ := List.getElem?_eq_some_iff.1 hq
    exact down_some g i W hN hi hp
theorem down_sto0 (W : World) {m : NMap} {F : List Nat} (hS : Sto W m F) {g : Nat} {its : List Item} {ps : List Nat} (hm : m g = some ⟨its, ps⟩) (hp : ps.length ≤ 100000) :
    (ps = [] → Calls Try.prog 52 #[.pointer (some ⟨g, 0, none⟩), .int .i64 0] W fun e w => e = .returned (.pointer none) ∧ W = w) ∧
    (∀ q, ps[0]? = some q → Calls Try.prog 52 #[.pointer (some ⟨g, 0, none⟩), .int .i64 0] W fun e w => e = .returned (.pointer (some ⟨q, 0, none⟩)) ∧ W = w) := down_sto W hS (i := 0) hm hp
/-- node g stands at height h -/
def High (m : NMap) (g h : Nat) : Prop := ∃ lo c, c.g = g ∧ Sub m h lo 6 c
theorem High.down {m : NMap} {g h : Nat} (H : High m g h) : ∃ its ps, m g = some ⟨its, ps⟩ ∧ ps.length ≤ 7 ∧ ((h = 0 ∧ ps = []) ∨ ∃ q, ps[0]? = some q ∧ 0 < h ∧ High m q (h - 1)) := by
  obtain ⟨lo, c, rfl, its, cs, a1, a2, a3, a4, a5, a6⟩ := H
  refine ⟨its, _, a1, ?_, ?_⟩
  · rcases a4.ps with ⟨_, z⟩ | ⟨_, z⟩
    · rw [z]; simp
    · omega
  · cases h with
    | zero => exact .inl ⟨rfl, by rw [kids_zero.1 a4]; rfl⟩
    | succ h =>
      obtain ⟨k1, k2⟩ := kids_succ.1 a4
      cases cs with
      | nil => simp at k1
      | cons d cs => exact .inr ⟨d.g, rfl, by omega, 3, d, rfl, k2 d (by simp)⟩
theorem weave_length : ∀ {cs : List Ch} {its : List Item}, cs.length = its.length + 1 → (weave cs its).length = (cs.map fun c => c.l.length).sum + its.length
  | [c], [], _ => by simp [weave]
  | c :: cs, x :: its, h => by
    rw [weave, List.length_append, List.length_cons, weave_length (by simpa using h), List.map_cons, List.sum_cons, List.length_cons]; omega
  | [], _, h => by simp at h
  | _ :: _ :: _, [], h => by simp at h
theorem Sub.many {m : NMap} : ∀ {h lo hi : Nat} {c : Ch}, Sub m h lo hi c → (lo + 1) * 4 ^ h ≤ c.l.length + 1
  | 0, lo, hi, c, ⟨its, cs, a1, a2, a3, a4, a5, a6⟩ => by rw [a5, kids_zero.1 a4, weave_nil]; simp; omega
  | h + 1, lo, hi, c, ⟨its, cs, a1, a2, a3, a4, a5, a6⟩ => by
    obtain ⟨k1, k2⟩ := kids_succ.1 a4
    have hb : ∀ d ∈ cs, 4 ^ (h + 1) ≤ d.l.length + 1 := fun d hd => by
      have := Sub.many (h := h) (k2 d hd)
      rw [Nat.pow_succ]; omega
    have hs : ∀ cs : List Ch, (∀ d ∈ cs, 4 ^ (h + 1) ≤ d.l.length + 1) → cs.length * 4 ^ (h + 1) ≤ (cs.map fun c => c.l.length).sum + cs.length := by
      intro cs
      induction cs with
      | nil => intro _; simp
      | cons d cs ih =>
        intro hb
        have h1 := hb d (by simp)
        have h2 := ih (fun e he => hb e (by simp [he]))
        rw [List.length_cons, List.map_cons, List.sum_cons, Nat.add_mul]; omega
    have h1 := hs cs hb
    rw [a5, weave_length k1]
    have h2 : (lo + 1) * 4 ^ (h + 1) ≤ cs.length * 4 ^ (h + 1) := Nat.mul_le_mul_right _ (by omega)
    omega
theorem high_deep {m : NMap} {h t : Nat} {l : List Item} {I : List Nat} (s : Sub m h 1 6 ⟨t, l, I⟩) : h + 1 ≤ deepN l.length ∧ l.length ≠ 0 := by
  have h1 := s.many
  have h2 : 1 ≤ 4 ^ h := Nat.pow_pos (by omega)
  have h3 : (1 + 1) * 4 ^ h ≤ l.length + 1 := h1
  exact ⟨deepN_le (by omega), by omega⟩

def DepthPost (W : World) (l : List Item) (e : Ending) (w' : World) : Prop := ∃ d : Nat, e = .returned (.int .i64 (d : Nat)) ∧ d ≤ deepN l.length ∧ (d = 0 ↔ l.length = 0) ∧ Below W.heap.size W w'
end Go.Proofs.Ytojiblhaiokdcaa
