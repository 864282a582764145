/-
  How high a tree is: the walk of Depth.
-/
import Derived.Test.YtinkkdhlakfooaaShelfBase
namespace Go.Proofs.Ytinkkdhlakfooaa
open Go.RowKit

theorem down_sto (W : World) {m : NMap} {F : List Nat} (hS : Sto W m F) {g i : Nat} {its : List Item} {ps : List Nat} (hm : m g = some ⟨its, ps⟩) (hp : ps.length ≤ 100000) :
    (ps = [] → Calls Try.prog 37 #[.pointer (some ⟨g, 0, none⟩), .int .i64 (i : Nat)] W fun e w => e = .returned (.pointer none) ∧ W = w) ∧
    (∀ q, ps[i]? = some q → Calls Try.prog 37 #[.pointer (some ⟨g, 0, none⟩), .int .i64 (i : Nat)] W fun e w => e = .returned (.pointer (some ⟨q, 0, none⟩)) ∧ W = w) := by
  obtain ⟨v, u, hN, -, -⟩ := hS.at hm
  have hN : NdX W g its ps v u := hN
  refine ⟨fun h => ?_, fun q hq => ?_⟩
  · subst h
    exact down_none g i W hN
  · obtain ⟨hi, rfl⟩ := List.getElem?_eq_some_iff.1 hq
    exact down_some g i W hN hi hp
theorem down_sto0 (W : World) {m : NMap} {F : List Nat} (hS : Sto W m F) {g : Nat} {its : List Item} {ps : List Nat} (hm : m g = some ⟨its, ps⟩) (hp : ps.length ≤ 100000) :
    (ps = [] → Calls Try.prog 37 #[.pointer (some ⟨g, 0, none⟩), .int .i64 0] W fun e w => e = .returned (.pointer none) ∧ W = w) ∧
    (∀ q, ps[0]? = some q → Calls Try.prog 37 #[.pointer (some ⟨g, 0, none⟩), .int .i64 0] W fun e w => e = .returned (.pointer (some ⟨q, 0, none⟩)) ∧ W = w) := down_sto W hS (i := 0) hm hp
/-- node g stands at height h -/
def High (m : NMap) (g h : Nat) : Prop := ∃ lo c, c.g = g ∧ Sub m h lo 6 c
theorem High.down {m : NMap} {g h : Nat} (H : High m g h) : ∃ its ps, m g = some ⟨its, ps⟩ ∧ ps.length ≤ 7 ∧ ((h = 0 ∧ ps = []) ∨ ∃ q, ps[0]? = some q ∧ 0 < h ∧ High m q (h - 1)) := by
  obtain ⟨lo, c, rfl, its, cs, a1, a2, a3, a4, a5, a6⟩ := H
  refine ⟨its, _, a1, ?_, ?_⟩
  · rcases a4.ps with ⟨_, z⟩ | ⟨_, z⟩
    · rw [z]; simp
    · omega
  · cases h with
    | zero => exact .inl ⟨rfl, by rw [kids_zero.1 a4]; rfl⟩
    | succ h =>
      obtain ⟨k1, k2⟩ := kids_succ.1 a4
      cases cs with
      | nil => simp at k1
      | cons d cs => exact .inr ⟨d.g, rfl, by omega, 3, d, rfl, k2 d (by simp)⟩
theorem weave_length : ∀ {cs : List Ch} {its : List Item}, cs.length = its.length + 1 → (weave cs its).length = (cs.map fun c => c.l.length).sum + its.length
  | [c], [], _ => by simp [weave]
  | c :: cs, x :: its, h => by
    rw [weave, List.length_append, List.length_cons, weave_length (by simpa using h), List.map_cons, List.sum_cons, List.length_cons]; omega
  | [], _, h => by simp at h
  | _ :: _ :: _, [], h => by simp at h
theorem Sub.many {m : NMap} : ∀ {h lo hi : Nat} {c : Ch}, Sub m h lo hi c → (lo + 1) * 4 ^ h ≤ c.l.length + 1
  | 0, lo, hi, c, ⟨its, cs, a1, a2, a3, a4, a5, a6⟩ => by rw [a5, kids_zero.1 a4, weave_nil]; simp; omega
  | h + 1, lo, hi, c, ⟨its, cs, a1, a2, a3, a4, a5, a6⟩ => by
    obtain ⟨k1, k2⟩ := kids_succ.1 a4
    have hb : ∀ d ∈ cs, 4 ^ (h + 1) ≤ d.l.length + 1 := fun d hd => by
      have := Sub.many (h := h) (k2 d hd)
      rw [Nat.pow_succ]; omega
    have hs : ∀ cs : List Ch, (∀ d ∈ cs, 4 ^ (h + 1) ≤ d.l.length + 1) → cs.length * 4 ^ (h + 1) ≤ (cs.map fun c => c.l.length).sum + cs.length := by
      intro cs
      induction cs with
      | nil => intro _; simp
      | cons d cs ih =>
        intro hb
        have h1 := hb d (by simp)
        have h2 := ih (fun e he => hb e (by simp [he]))
        rw [List.length_cons, List.map_cons, List.sum_cons, Nat.add_mul]; omega
    have h1 := hs cs hb
    rw [a5, weave_length k1]
    have h2 : (lo + 1) * 4 ^ (h + 1) ≤ cs.length * 4 ^ (h + 1) := Nat.mul_le_mul_right _ (by omega)
    omega
theorem high_deep {m : NMap} {h t : Nat} {l : List Item} {I : List Nat} (s : Sub m h 1 6 ⟨t, l, I⟩) : h + 1 ≤ deepN l.length ∧ l.length ≠ 0 := by
  have h1 := s.many
  have h2 : 1 ≤ 4 ^ h := Nat.pow_pos (by omega)
  have h3 : (1 + 1) * 4 ^ h ≤ l.length + 1 := h1
  exact ⟨deepN_le (by omega), by omega⟩

def DepthPost (W : World) (l : List Item) (e : Ending) (w' : World) : Prop := ∃ d : Nat, e = .returned (.int .i64 (d : Nat)) ∧ d ≤ deepN l.length ∧ (d = 0 ↔ l.length = 0) ∧ Below W.heap.size W w'
set_option maxHeartbeats 1000000 in
theorem shDepth_any {W : World} {gs : Nat} {most : Int} {l : List Item} {F : List Nat} (h : SH W gs most l F) :
    Calls Try.prog 20 #[.pointer (some ⟨gs, 0, none⟩)] W (DepthPost W l) := by
  obtain ⟨top, m, F1, hX, hS, -, -, hT, -, hlm, hm2⟩ := h
  have CR := Lib.hid (ready_any gs W hX)
  have c0 := hX.c0
  cases top with
  | none =>
    have hl : l = [] := hT
    subst hl
    have c0 : W.cell? ⟨gs, 0, none⟩ = some (.pointer none) := c0
    clear hX hS hT hlm hm2
    go_enter Try.func20, Try.ntmps20
    go_wp2_with (go_at_call 27; ((with_reducible refine (CR.out).mono ?_); rintro e w1 ⟨rfl, rfl⟩))
    go_loopg [3, 4] 1 (fun gh s3 s4 wx => s3 = .int .i64 (0 : Nat) ∧ s4 = .pointer none ∧ W = wx)
    case atStart => exact ⟨rfl, rfl, rfl⟩
    case round =>
      obtain ⟨rfl, rfl, rfl⟩ := hrel
      go_wp2_with fail
      go_ret
      exact ⟨0, rfl, by simp, by simp, Below.refl _ _⟩
  | some t =>
    obtain ⟨H, I, s, hnd⟩ := hT
    have c0 : W.cell? ⟨gs, 0, none⟩ = some (.pointer (some ⟨t, 0, none⟩)) := c0
    have hHi : High m t H := ⟨1, _, rfl, s⟩
    obtain ⟨d1, d2⟩ := high_deep s
    have hH : H ≤ 1000000 := by
      have := log4_lt l.length
      have e : deepN l.length = log4 l.length + 1 := by rw [deepN, if_neg d2]
      omega
    have HD : Hid (H + 1 ≤ deepN l.length ∧ l.length ≠ 0) := ⟨d1, d2⟩
    have HS := Lib.hid hS
    have HH := Lib.hid hHi
    clear hX hS hlm hm2 s hnd d1 d2 hHi
    go_enter Try.func20, Try.ntmps20
    go_wp2_with (go_at_call 27; ((with_reducible refine (CR.out).mono ?_); rintro e w1 ⟨rfl, rfl⟩))
    go_loopg [3, 4] (H + 2) (fun gh s3 s4 wx => ∃ j : Nat, s3 = .int .i64 (j : Nat) ∧ W = wx ∧ j ≤ H + 1 ∧ ((∃ g h, s4 = .pointer (some ⟨g, 0, none⟩) ∧ Hid (High m g h) ∧ j + h = H ∧ gh = h + 2) ∨ (s4 = .pointer none ∧ j = H + 1 ∧ gh = 1)))
    case atStart => exact ⟨0, rfl, rfl, by omega, .inl ⟨t, H, rfl, HH.out, by omega, rfl⟩⟩
    case round =>
      obtain ⟨j, rfl, rfl, hj, hcase⟩ := hrel
      rcases hcase with ⟨g, h, rfl, hg, hjh, hgh⟩ | ⟨rfl, rfl, hgh⟩
      · obtain ⟨its, ps, e1, e2, e3⟩ := hg.out.down
        obtain ⟨D1, D2⟩ := down_sto0 W HS.out e1 (by omega)
        rcases e3 with ⟨rfl, rfl⟩ | ⟨q, e4, e5, e6⟩
        · have CD := Lib.hid (D1 rfl)
          clear D1 D2 e1 e2 hg
          go_wp2_with (go_at_call 37; ((with_reducible refine (CD.out).mono ?_); rintro e w1 ⟨rfl, rfl⟩))
          go_roundg 1
          case measure => omega
          case rel => exact ⟨j + 1, by go_num, rfl, by omega, .inr ⟨rfl, by omega, rfl⟩⟩
        · have CD := Lib.hid (D2 q e4)
          have H6 := Lib.hid e6
          clear D1 D2 e1 e2 hg e4 e6
          go_wp2_with (go_at_call 37; ((with_reducible refine (CD.out).mono ?_); rintro e w1 ⟨rfl, rfl⟩))
          go_roundg (h + 1)
          case measure => omega
          case rel => exact ⟨j + 1, by go_num, rfl, by omega, .inl ⟨q, h - 1, rfl, H6.out, by omega, by omega⟩⟩
      · go_wp2_with fail
        go_ret
        exact ⟨H + 1, rfl, HD.out.1, by have := HD.out.2; omega, Below.refl _ _⟩
end Go.Proofs.Ytinkkdhlakfooaa
