/-
  A shelf of the statements' own keys, as a function that says which key has which value (mapL): put, del, asked, gone through in order. No walk is here.
-/
import Derived.Test.YtinkkdhlakfooaaShelfFacts
namespace Go.Proofs.Ytinkkdhlakfooaa
open Go.RowKit

/-- the items of the keys that f gives a value, from key k on, n keys -/
def tailL (f : Nat → Option ByteArray) (k n : Nat) : List Item := (List.range' k n).filterMap fun j => (f j).map fun v => (keyT j, v)
def mapL (f : Nat → Option ByteArray) : List Item := tailL f 0 997
def upd1 (f : Nat → Option ByteArray) (k : Nat) (v : Option ByteArray) : Nat → Option ByteArray := fun j => if j = k then v else f j
theorem upd1_same (f : Nat → Option ByteArray) (k : Nat) (v : Option ByteArray) : upd1 f k v k = v := if_pos rfl
theorem upd1_other (f : Nat → Option ByteArray) {j k : Nat} (v : Option ByteArray) (h : j ≠ k) : upd1 f k v j = f j := if_neg h
theorem mem_tailL {f : Nat → Option ByteArray} {k n : Nat} {x : Item} : x ∈ tailL f k n ↔ ∃ j v, k ≤ j ∧ j < k + n ∧ f j = some v ∧ x = (keyT j, v) := by
  simp only [tailL, List.mem_filterMap, List.mem_range'_1, Option.map_eq_some_iff]
  constructor
  · rintro ⟨j, ⟨h1, h2⟩, v, h3, rfl⟩
    exact ⟨j, v, h1, h2, h3, rfl⟩
  · rintro ⟨j, v, h1, h2, h3, rfl⟩
    exact ⟨j, ⟨h1, h2⟩, v, h3, rfl⟩
theorem mem_mapL {f : Nat → Option ByteArray} {x : Item} : x ∈ mapL f ↔ ∃ j v, j < 997 ∧ f j = some v ∧ x = (keyT j, v) := by
  rw [mapL, mem_tailL]
  constructor
  · rintro ⟨j, v, _, h2, h3, h4⟩
    exact ⟨j, v, by omega, h3, h4⟩
  · rintro ⟨j, v, h2, h3, h4⟩
    exact ⟨j, v, by omega, by omega, h3, h4⟩
theorem tailL_cons (f : Nat → Option ByteArray) (k n : Nat) : tailL f k (n + 1) = (match f k with | some v => [(keyT k, v)] | none => []) ++ tailL f (k + 1) n := by
  rw [tailL, List.range'_succ, List.filterMap_cons]
  cases h : f k <;> simp [tailL]
theorem tailL_rising (f : Nat → Option ByteArray) : ∀ n k, k + n ≤ 65536 → Rising (tailL f k n)
  | 0, _, _ => Rising.nil
  | n + 1, k, h => by
    rw [tailL_cons]
    have ih := tailL_rising f n (k + 1) (by omega)
    cases hf : f k with
    | none => exact ih
    | some v =>
      refine rising_cons.2 ⟨fun y hy => ?_, ih⟩
      obtain ⟨j, u, h1, h2, h3, rfl⟩ := mem_tailL.1 hy
      rw [keyT_less (by omega) (by omega)]
      exact decide_eq_true (by omega)
theorem mapL_rising (f : Nat → Option ByteArray) : Rising (mapL f) := tailL_rising f 997 0 (by omega)
theorem mapL_none : mapL (fun _ => none) = [] := List.eq_nil_iff_forall_not_mem.2 fun x hx => by
  obtain ⟨j, v, _, h, _⟩ := mem_mapL.1 hx
  cases h
theorem mapL_congr {f g : Nat → Option ByteArray} (h : ∀ j, j < 997 → f j = g j) : mapL f = mapL g := by
  refine rising_ext (mapL_rising f) (mapL_rising g) fun x => ?_
  rw [mem_mapL, mem_mapL]
  constructor
  · rintro ⟨j, v, a, b, c⟩
    exact ⟨j, v, a, by rw [← h j a]; exact b, c⟩
  · rintro ⟨j, v, a, b, c⟩
    exact ⟨j, v, a, by rw [h j a]; exact b, c⟩
theorem mapL_has (f : Nat → Option ByteArray) {k : Nat} (hk : k < 997) : hasN (mapL f) (keyT k) = (f k).isSome := by
  apply bool_ext
  rw [hasN_iff (mapL_rising f), Option.isSome_iff_exists]
  constructor
  · rintro ⟨x, hx, e⟩
    obtain ⟨j, v, a, b, rfl⟩ := mem_mapL.1 hx
    have := (keyT_inj (by omega) (by omega)).1 e
    subst this
    exact ⟨v, b⟩
  · rintro ⟨v, h⟩
    exact ⟨(keyT k, v), mem_mapL.2 ⟨k, v, hk, h, rfl⟩, rfl⟩
theorem mapL_get (f : Nat → Option ByteArray) {k : Nat} (hk : k < 997) : getN (mapL f) (keyT k) = (f k).getD ByteArray.empty := by
  cases h : f k with
  | some v => exact getN_mem (mapL_rising f) (mem_mapL.2 ⟨k, v, hk, h, rfl⟩)
  | none => exact getN_not (by rw [mapL_has f hk, h]; rfl)
theorem mapL_put (f : Nat → Option ByteArray) {k : Nat} (hk : k < 997) (v : ByteArray) : putN (mapL f) (keyT k) v = mapL (upd1 f k (some v)) := by
  refine rising_ext ((mapL_rising f).put _ _) (mapL_rising _) fun x => ?_
  rw [mem_putN (mapL_rising f), mem_mapL, mem_mapL]
  constructor
  · rintro (rfl | ⟨⟨j, u, a, b, rfl⟩, hn⟩)
    · exact ⟨k, v, hk, upd1_same _ _ _, rfl⟩
    · exact ⟨j, u, a, by rw [upd1_other _ _ (fun e => hn (by rw [e]))]; exact b, rfl⟩
  · rintro ⟨j, u, a, b, rfl⟩
    by_cases e : j = k
    · subst e
      rw [upd1_same] at b
      injection b with b
      exact .inl (by rw [b])
    · rw [upd1_other _ _ e] at b
      exact .inr ⟨⟨j, u, a, b, rfl⟩, fun e2 => e ((keyT_inj (by omega) (by omega)).1 e2)⟩
theorem mapL_del (f : Nat → Option ByteArray) {k : Nat} (hk : k < 997) : delN (mapL f) (keyT k) = mapL (upd1 f k none) := by
  refine rising_ext ((mapL_rising f).del _) (mapL_rising _) fun x => ?_
  rw [mem_delN (mapL_rising f), mem_mapL, mem_mapL]
  constructor
  · rintro ⟨⟨j, u, a, b, rfl⟩, hn⟩
    exact ⟨j, u, a, by rw [upd1_other _ _ (fun e => hn (by rw [e]))]; exact b, rfl⟩
  · rintro ⟨j, u, a, b, rfl⟩
    by_cases e : j = k
    · subst e
      rw [upd1_same] at b
      cases b
    · rw [upd1_other _ _ e] at b
      exact ⟨⟨j, u, a, b, rfl⟩, fun e2 => e ((keyT_inj (by omega) (by omega)).1 e2)⟩
theorem mapL_length_put (f : Nat → Option ByteArray) {k : Nat} (hk : k < 997) (v : ByteArray) : (mapL (upd1 f k (some v))).length = if (f k).isSome then (mapL f).length else (mapL f).length + 1 := by
  rw [← mapL_put f hk, putN_length, mapL_has f hk]
theorem mapL_length_del (f : Nat → Option ByteArray) {k : Nat} (hk : k < 997) : (mapL (upd1 f k none)).length = if (f k).isSome then (mapL f).length - 1 else (mapL f).length := by
  rw [← mapL_del f hk, delN_length, mapL_has f hk]
/-- what lies ahead of key k, and what is there from it on -/
theorem mapL_step {f : Nat → Option ByteArray} {pre : List Item} {k n : Nat} (h : mapL f = pre ++ tailL f k (n + 1)) :
    (f k = none → mapL f = pre ++ tailL f (k + 1) n) ∧ (∀ v, f k = some v → (mapL f)[pre.length]? = some (keyT k, v) ∧ mapL f = (pre ++ [(keyT k, v)]) ++ tailL f (k + 1) n) := by
  rw [tailL_cons] at h
  refine ⟨fun e => by rw [h, e]; rfl, fun v e => ?_⟩
  rw [e] at h
  have h' : mapL f = pre ++ ((keyT k, v) :: tailL f (k + 1) n) := h
  exact ⟨by rw [h']; simp, by rw [h']; simp⟩
/-- putS, of one of these keys -/
theorem putE_key (most : Int) (f : Nat → Option ByteArray) {k : Nat} (hk : k < 997) {v : ByteArray} (hv : v.size ≤ 16) (hm : ((mapL f).length : Int) < most ∨ (f k).isSome) : putE most (mapL f) (keyT k) v = 0 ∧ putS most (mapL f) (keyT k) v = mapL (upd1 f k (some v)) := by
  have e : putE most (mapL f) (keyT k) v = 0 := by
    rw [putE, if_neg (by rw [keyT_right]; simp), if_neg (by rw [valueN, if_neg (by omega)]; simp), if_neg]
    rintro ⟨h1, h2⟩
    rw [mapL_has f hk] at h1
    rcases hm with h | h
    · omega
    · rw [h] at h1; cases h1
  exact ⟨e, by rw [putS, if_pos e, mapL_put f hk]⟩
end Go.Proofs.Ytinkkdhlakfooaa
