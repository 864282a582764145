/-
  What is picked: facts of the numbers alone, and what the walks ask of the code's calls.
-/
import Derived.Test.YtpgolebikjjdlaaSeatPick
import Derived.Test.YtpgolebikjjdlaaPbLent
namespace Go.Proofs.Ytpgolebikjjdlaa
open Go.RowKit Pb

theorem minF (f : Int → Int) : ∀ (l : List Int) (m : Int), l.foldl (fun m x => if f x < m then f x else m) m ≤ m ∧ (∀ x ∈ l, l.foldl (fun m x => if f x < m then f x else m) m ≤ f x) ∧
    (l.foldl (fun m x => if f x < m then f x else m) m = m ∨ ∃ x ∈ l, l.foldl (fun m x => if f x < m then f x else m) m = f x)
  | [], m => ⟨Int.le_refl _, fun _ h => by simp at h, .inl rfl⟩
  | y :: l, m => by
    obtain ⟨h1, h2, h3⟩ := minF f l (if f y < m then f y else m)
    rw [List.foldl_cons]
    generalize List.foldl (fun m x => if f x < m then f x else m) (if f y < m then f y else m) l = r at *
    have h4 : (if f y < m then f y else m) ≤ m ∧ (if f y < m then f y else m) ≤ f y ∧ ((if f y < m then f y else m) = m ∨ (if f y < m then f y else m) = f y) := by
      split <;> omega
    refine ⟨by omega, fun x hx => ?_, ?_⟩
    · rcases List.mem_cons.1 hx with rfl | hx
      · omega
      · exact h2 x hx
    · rcases h3 with h3 | ⟨x, hx, h3⟩
      · rcases h4.2.2 with h | h
        · exact .inl (by omega)
        · exact .inr ⟨y, List.mem_cons_self, by omega⟩
      · exact .inr ⟨x, List.mem_cons_of_mem _ hx, h3⟩
theorem room_le (p : Int) {ts : List Int} {t : Int} (h : t ∈ ts) : roomI p ts ≤ farI p t := by
  cases ts with
  | nil => simp at h
  | cons x r =>
    obtain ⟨h1, h2, -⟩ := minF (farI p) r (farI p x)
    rcases List.mem_cons.1 h with rfl | h
    · exact h1
    · exact h2 t h
theorem room_at (p : Int) {ts : List Int} (h : ts ≠ []) : ∃ t ∈ ts, roomI p ts = farI p t := by
  cases ts with
  | nil => exact absurd rfl h
  | cons x r =>
    obtain ⟨-, -, h3⟩ := minF (farI p) r (farI p x)
    rcases h3 with h3 | ⟨t, ht, h3⟩
    · exact ⟨x, List.mem_cons_self, h3⟩
    · exact ⟨t, List.mem_cons_of_mem _ ht, h3⟩
theorem room_nonneg (p : Int) (ts : List Int) : 0 ≤ roomI p ts := by
  by_cases h : ts = []
  · subst h; exact Int.le_refl _
  · obtain ⟨t, -, e⟩ := room_at p h
    rw [e]
    exact (farI_range p t).1
/-- free is what has room -/
theorem free_iff (p : Int) {ts : List Int} (h : ts ≠ []) : freeI p ts = decide (0 < roomI p ts) := by
  have h0 := room_nonneg p ts
  by_cases hr : 0 < roomI p ts
  · rw [decide_eq_true hr]
    refine List.all_eq_true.2 fun t ht => ?_
    have := room_le p ht
    simp
    omega
  · rw [decide_eq_false hr]
    obtain ⟨t, ht, e⟩ := room_at p h
    refine List.all_eq_false.2 ⟨t, ht, ?_⟩
    have : farI p t = 0 := by omega
    simp [this]
/-- what is known of the seats so far -/
def PickInv (ts pre : List Int) (s : Int × Int × Bool) : Prop :=
  (s.2.2 = false → s = (0, 0, false) ∧ ∀ p ∈ pre, freeI p ts = false) ∧
  (s.2.2 = true → s.2.1 ∈ pre ∧ s.1 = roomI s.2.1 ts ∧ freeI s.2.1 ts = true ∧ ∀ p ∈ pre, freeI p ts = true → roomI p ts ≤ s.1)
theorem PickInv.step {ts pre : List Int} {s : Int × Int × Bool} (h : PickInv ts pre s) (p : Int) : PickInv ts (pre ++ [p]) (pickStep ts s p) := by
  obtain ⟨s1, s2, s3⟩ := s
  obtain ⟨h1, h2⟩ := h
  unfold pickStep
  cases hf : freeI p ts with
  | false =>
    rw [if_neg (by simp)]
    refine ⟨fun h => ⟨(h1 h).1, fun q hq => ?_⟩, fun h => ?_⟩
    · rcases List.mem_append.1 hq with hq | hq
      · exact (h1 h).2 q hq
      · rw [List.mem_singleton.1 hq]; exact hf
    · obtain ⟨a, b, c, d⟩ := h2 h
      refine ⟨List.mem_append_left _ a, b, c, fun q hq hfq => ?_⟩
      rcases List.mem_append.1 hq with hq | hq
      · exact d q hq hfq
      · rw [List.mem_singleton.1 hq, hf] at hfq; cases hfq
  | true =>
    cases s3 with
    | false =>
      rw [if_pos (by simp)]
      refine ⟨fun h => (by cases h), fun _ => ⟨by simp, rfl, hf, fun q hq hfq => ?_⟩⟩
      rcases List.mem_append.1 hq with hq | hq
      · have := (h1 rfl).2 q hq
        rw [hfq] at this
        cases this
      · rw [List.mem_singleton.1 hq]
        exact Int.le_refl _
    | true =>
      obtain ⟨a, b, c, d⟩ := h2 rfl
      by_cases hr : s1 < roomI p ts
      · rw [if_pos (by simp [hr])]
        refine ⟨fun h => (by cases h), fun _ => ⟨by simp, rfl, hf, fun q hq hfq => ?_⟩⟩
        rcases List.mem_append.1 hq with hq | hq
        · have h5 := d q hq hfq
          have h6 : (s1, s2, true).1 = s1 := rfl
          show roomI q ts ≤ roomI p ts
          omega
        · rw [List.mem_singleton.1 hq]
          exact Int.le_refl _
      · rw [if_neg (by simp; omega)]
        refine ⟨fun h => (by cases h), fun _ => ⟨List.mem_append_left _ a, b, c, fun q hq hfq => ?_⟩⟩
        rcases List.mem_append.1 hq with hq | hq
        · exact d q hq hfq
        · rw [List.mem_singleton.1 hq]
          show roomI p ts ≤ s1
          omega
theorem pickInv_go (ts : List Int) : ∀ (l pre : List Int) (s : Int × Int × Bool), PickInv ts pre s → PickInv ts (pre ++ l) (l.foldl (pickStep ts) s)
  | [], pre, s, h => by rw [List.append_nil]; exact h
  | p :: l, pre, s, h => by
    have := pickInv_go ts l (pre ++ [p]) _ (h.step p)
    rw [List.append_assoc] at this
    exact this
theorem pickInv (ts l : List Int) : PickInv ts l (pickS ts l) := by
  have := pickInv_go ts l [] (0, 0, false) ⟨fun _ => ⟨rfl, fun _ h => by simp at h⟩, fun h => by cases h⟩
  exact this
/-- what is asked of the code's calls -/
structure SeatLaws : Prop where
  mix : ∀ (v : Int) (W : World), 0 ≤ v → v < 18446744073709551616 → Calls Try.prog 15 #[.int .u64 v] W fun e w' => e = .returned (.int .u64 (mixI v)) ∧ Below W.heap.size W w'
  far : ∀ (a b : Int) (W : World), 0 ≤ a → a < 18446744073709551616 → 0 ≤ b → b < 18446744073709551616 → Calls Try.prog 17 #[.int .u64 a, .int .u64 b] W fun e w' => e = .returned (.int .u64 (farI a b)) ∧ Below W.heap.size W w'
  seats : ∀ (id salt : Int) (W : World), Calls Try.prog 11 #[.int .i64 id, .int .i64 salt] W (NewPts W (seatsI id salt 4))
  pick : ∀ (id salt : Int) (A : Option Addr) (c n : Nat) (ts : List Int) (W : World), PtAt W A ts → ts.length = n → n ≤ 100000 →
    Calls Try.prog 13 #[.int .i64 id, .int .i64 salt, .slice A n c] W fun e w' => e = .returned (pickV id salt ts) ∧ Below W.heap.size W w'
end Go.Proofs.Ytpgolebikjjdlaa
