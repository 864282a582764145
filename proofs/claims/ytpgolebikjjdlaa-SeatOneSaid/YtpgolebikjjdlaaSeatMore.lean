/-
  The room of a seat, counted otherwise: what is found so far is what has more than nothing.
-/
import Derived.Test.YtpgolebikjjdlaaSeatFacts
namespace Go.Proofs.Ytpgolebikjjdlaa
open Go.RowKit Pb

theorem pickS_flag {ts : List Int} (h : ts ≠ []) (l : List Int) : (pickS ts l).2.2 = decide (0 < (pickS ts l).1) ∧ 0 ≤ (pickS ts l).1 := by
  obtain ⟨h1, h2⟩ := pickInv ts l
  generalize pickS ts l = s at *
  obtain ⟨s1, s2, s3⟩ := s
  cases s3 with
  | false =>
    have := (h1 rfl).1
    injection this with a b
    subst a
    exact ⟨rfl, Int.le_refl _⟩
  | true =>
    obtain ⟨-, a, b, -⟩ := h2 rfl
    rw [free_iff _ h] at b
    have c := of_decide_eq_true b
    have a' : s1 = roomI s2 ts := a
    have c' : 0 < roomI s2 ts := c
    exact ⟨(decide_eq_true (show 0 < s1 by omega)).symm, (by omega : 0 ≤ s1)⟩
theorem pickStep_of {ts : List Int} (h : ts ≠ []) (l : List Int) (p : Int) :
    pickStep ts (pickS ts l) p = if (pickS ts l).1 < roomI p ts then (roomI p ts, p, true) else pickS ts l := by
  obtain ⟨h1, h2⟩ := pickS_flag h l
  generalize pickS ts l = s at *
  obtain ⟨s1, s2, s3⟩ := s
  have h1' : s3 = decide (0 < s1) := h1
  have h2' : 0 ≤ s1 := h2
  unfold pickStep
  rw [free_iff p h]
  show (if (decide (0 < roomI p ts) && (!s3 || decide (s1 < roomI p ts))) = true then _ else _) = if s1 < roomI p ts then _ else _
  by_cases hc : s1 < roomI p ts
  · rw [if_pos hc, if_pos (by rw [decide_eq_true (show 0 < roomI p ts by omega), decide_eq_true hc]; simp)]
  · rw [if_neg hc, if_neg]
    rw [decide_eq_false hc, h1']
    by_cases h0 : 0 < s1
    · rw [decide_eq_true h0]; simp
    · rw [decide_eq_false h0, decide_eq_false (show ¬ 0 < roomI p ts by omega)]; simp
theorem room_mono (p : Int) (ts : List Int) (k : Nat) (hk : k < ts.length) : roomI p ts ≤ roomI p (ts.take (k + 1)) := by
  obtain ⟨t, ht, e⟩ := room_at p (ts := ts.take (k + 1)) (by intro h; have := congrArg List.length h; rw [List.length_take] at this; simp only [List.length_nil] at this; omega)
  rw [e]
  exact room_le p (List.mem_of_mem_take ht)
end Go.Proofs.Ytpgolebikjjdlaa
