/-
  Two shelves of the call's own that share no block: each turned, the other one stays. A rising list's keys in a row that somebody owns.
-/
import Derived.Test.YtinkkdhlakfooaaShelfLawB
import Derived.Test.YtinkkdhlakfooaaShelfMap
namespace Go.Proofs.Ytinkkdhlakfooaa
open Go.RowKit

abbrev tX : ByteArray := ⟨#[120]⟩
/-- two shelves of the call's own that share no block -/
def OS2 (SH : World → Nat → Int → List Item → List Nat → Prop) (W w : World) (g1 : Nat) (m1 : Int) (l1 : List Item) (g2 : Nat) (m2 : Int) (l2 : List Item) : Prop :=
  Below W.heap.size W w ∧ ∃ F1 F2, SH w g1 m1 l1 F1 ∧ SH w g2 m2 l2 F2 ∧ (∀ q ∈ F1, W.heap.size ≤ q) ∧ (∀ q ∈ F2, W.heap.size ≤ q) ∧ ∀ q ∈ F1, q ∉ F2
section
variable {SH : World → Nat → Int → List Item → List Nat → Prop} {W w w1 : World} {g1 g2 : Nat} {m1 m2 : Int} {l1 l2 : List Item}
theorem OS2.swap (h : OS2 SH W w g1 m1 l1 g2 m2 l2) : OS2 SH W w g2 m2 l2 g1 m1 l1 := by
  obtain ⟨a, F1, F2, b, c, d, e, f⟩ := h
  exact ⟨a, F2, F1, c, b, e, d, fun q h1 h2 => f q h2 h1⟩
theorem OS2.fst (h : OS2 SH W w g1 m1 l1 g2 m2 l2) : OS SH W w g1 m1 l1 := by
  obtain ⟨a, F1, F2, b, c, d, e, f⟩ := h
  exact ⟨a, F1, b, d⟩
theorem OS2.below (L : ShelfLaws SH) (h : OS2 SH W w g1 m1 l1 g2 m2 l2) (hb : Below w.heap.size w w1) : OS2 SH W w1 g1 m1 l1 g2 m2 l2 := by
  obtain ⟨a, F1, F2, b, c, d, e, f⟩ := h
  exact ⟨acc a hb, F1, F2, L.touch b (Touch.ofBelow (F := []) hb) (by simp), L.touch c (Touch.ofBelow (F := []) hb) (by simp), d, e, f⟩
theorem OS2.put1 (L : ShelfLaws SH) (h : OS2 SH W w g1 m1 l1 g2 m2 l2) (k v : ByteArray) (hk : k.size ≤ maxLen) (hv : v.size ≤ maxLen) {r : Int} {l' : List Item} (hr : putE m1 l1 k v = r) (hl : putS m1 l1 k v = l') :
    Calls Try.prog 12 #[.pointer (some ⟨g1, 0, none⟩), .string k, .string v] w fun e w' => e = .returned (.int .i64 r) ∧ OS2 SH W w' g1 m1 l' g2 m2 l2 := by
  obtain ⟨a, F1, F2, b, c, d, e, f⟩ := h
  refine (L.put k v b hk hv).mono ?_
  rintro e' w' ⟨rfl, F', h4, h5, h6⟩
  rw [hl] at h4
  refine ⟨by rw [hr], Touch.acc a h5 d, F', F2, h4, L.touch c h5 (fun q h1 h2 => f q h2 h1), fun q hq => ?_, e, fun q hq h2 => ?_⟩
  · rcases h6 q hq with z | z
    · exact d q z
    · exact Nat.le_trans a.size z
  · rcases h6 q hq with z | z
    · exact f q z h2
    · have := L.ltF c q h2; omega
theorem OS2.put2 (L : ShelfLaws SH) (h : OS2 SH W w g1 m1 l1 g2 m2 l2) (k v : ByteArray) (hk : k.size ≤ maxLen) (hv : v.size ≤ maxLen) {r : Int} {l' : List Item} (hr : putE m2 l2 k v = r) (hl : putS m2 l2 k v = l') :
    Calls Try.prog 12 #[.pointer (some ⟨g2, 0, none⟩), .string k, .string v] w fun e w' => e = .returned (.int .i64 r) ∧ OS2 SH W w' g1 m1 l1 g2 m2 l' :=
  (h.swap.put1 L k v hk hv hr hl).mono fun _ _ z => ⟨z.1, z.2.swap⟩
theorem OS2.del1 (L : ShelfLaws SH) (h : OS2 SH W w g1 m1 l1 g2 m2 l2) (k : ByteArray) {r : Bool} {l' : List Item} (hr : hasN l1 k = r) (hl : delN l1 k = l') :
    Calls Try.prog 14 #[.pointer (some ⟨g1, 0, none⟩), .string k] w fun e w' => e = .returned (.bool r) ∧ OS2 SH W w' g1 m1 l' g2 m2 l2 := by
  obtain ⟨a, F1, F2, b, c, d, e, f⟩ := h
  refine (L.del k b).mono ?_
  rintro e' w' ⟨rfl, F', h4, h5, h6⟩
  rw [hl] at h4
  refine ⟨by rw [hr], Touch.acc a h5 d, F', F2, h4, L.touch c h5 (fun q h1 h2 => f q h2 h1), fun q hq => ?_, e, fun q hq h2 => ?_⟩
  · rcases h6 q hq with z | z
    · exact d q z
    · exact Nat.le_trans a.size z
  · rcases h6 q hq with z | z
    · exact f q z h2
    · have := L.ltF c q h2; omega
theorem OS2.del2 (L : ShelfLaws SH) (h : OS2 SH W w g1 m1 l1 g2 m2 l2) (k : ByteArray) {r : Bool} {l' : List Item} (hr : hasN l2 k = r) (hl : delN l2 k = l') :
    Calls Try.prog 14 #[.pointer (some ⟨g2, 0, none⟩), .string k] w fun e w' => e = .returned (.bool r) ∧ OS2 SH W w' g1 m1 l1 g2 m2 l' :=
  (h.swap.del1 L k hr hl).mono fun _ _ z => ⟨z.1, z.2.swap⟩
theorem OS2.get1 (L : ShelfLaws SH) (h : OS2 SH W w g1 m1 l1 g2 m2 l2) (k : ByteArray) {v : ByteArray} {r : Bool} (hv : getN l1 k = v) (hr : hasN l1 k = r) :
    Calls Try.prog 17 #[.pointer (some ⟨g1, 0, none⟩), .string k] w fun e w' => e = .returned (.tuple #[.string v, .bool r]) ∧ OS2 SH W w' g1 m1 l1 g2 m2 l2 := by
  subst hv hr
  have h0 := h
  obtain ⟨a, F1, F2, b, c, d, e, f⟩ := h
  refine (L.get k b).mono ?_
  rintro e' w' ⟨rfl, hb⟩
  exact ⟨rfl, h0.below L hb⟩
theorem OS2.get2 (L : ShelfLaws SH) (h : OS2 SH W w g1 m1 l1 g2 m2 l2) (k : ByteArray) {v : ByteArray} {r : Bool} (hv : getN l2 k = v) (hr : hasN l2 k = r) :
    Calls Try.prog 17 #[.pointer (some ⟨g2, 0, none⟩), .string k] w fun e w' => e = .returned (.tuple #[.string v, .bool r]) ∧ OS2 SH W w' g1 m1 l1 g2 m2 l2 :=
  (h.swap.get1 L k hv hr).mono fun _ _ z => ⟨z.1, z.2.swap⟩
theorem OS2.len1 (L : ShelfLaws SH) (h : OS2 SH W w g1 m1 l1 g2 m2 l2) {n : Nat} (hn : l1.length = n) :
    Calls Try.prog 19 #[.pointer (some ⟨g1, 0, none⟩)] w fun e w' => e = .returned (.int .i64 (n : Nat)) ∧ Below w.heap.size w w' := by
  subst hn
  obtain ⟨a, F1, F2, b, c, d, e, f⟩ := h
  exact L.len b
theorem OS2.depth1 (L : ShelfLaws SH) (h : OS2 SH W w g1 m1 l1 g2 m2 l2) {n : Nat} (hn : l1.length = n) :
    Calls Try.prog 20 #[.pointer (some ⟨g1, 0, none⟩)] w fun e w' => ∃ d : Nat, e = .returned (.int .i64 (d : Nat)) ∧ d ≤ deepN n ∧ Below w.heap.size w w' := by
  subst hn
  obtain ⟨a, F1, F2, b, c, d, e, f⟩ := h
  refine (L.depth b).mono ?_
  rintro e' w' ⟨x, rfl, h1, h2, h3⟩
  exact ⟨x, rfl, h1, h3⟩
theorem OS2.items1 (L : ShelfLaws SH) (h : OS2 SH W w g1 m1 l1 g2 m2 l2) :
    Calls Try.prog 22 #[.pointer (some ⟨g1, 0, none⟩)] w (NewItems w l1) := by
  obtain ⟨a, F1, F2, b, c, d, e, f⟩ := h
  exact L.items b
theorem OS.new2 (L : ShelfLaws SH) (h : OS SH W w g1 m1 l1) (most : Int) (h0 : 0 ≤ most) (h1 : most ≤ 200) :
    Calls Try.prog 10 #[.int .i64 most] w fun e w' => ∃ g, e = .returned (.pointer (some ⟨g, 0, none⟩)) ∧ OS2 SH W w' g1 m1 l1 g most [] := by
  obtain ⟨a, F1, b, d⟩ := h
  refine (L.new w most (by omega) (by omega)).mono ?_
  rintro e w' ⟨g, F, rfl, h4, h5, h6⟩
  rw [show min (max most 0) 200 = most by omega] at h4
  exact ⟨g, rfl, acc a h6, F1, F, L.touch b (Touch.ofBelow (F := []) h6) (by simp), h4, d, fun q hq => Nat.le_trans a.size (h5 q hq), fun q hq h2 => by have := L.ltF b q hq; have := h5 q h2; omega⟩
theorem OS.copy (L : ShelfLaws SH) (h : OS SH W w g1 m1 l1) :
    Calls Try.prog 16 #[.pointer (some ⟨g1, 0, none⟩)] w fun e w' => ∃ g, e = .returned (.pointer (some ⟨g, 0, none⟩)) ∧ OS2 SH W w' g1 m1 l1 g m1 l1 := by
  obtain ⟨a, F1, b, d⟩ := h
  refine (L.copy b).mono ?_
  rintro e w' ⟨g, F, rfl, h4, h5, h6⟩
  exact ⟨g, rfl, acc a h6, F1, F, L.touch b (Touch.ofBelow (F := []) h6) (by simp), h4, d, fun q hq => Nat.le_trans a.size (h5 q hq), fun q hq h2 => by have := L.ltF b q hq; have := h5 q h2; omega⟩
end
/-- a key of a rising list and the next one -/
theorem Rising.next {l : List Item} (h : Rising l) (i : Nat) (hi : i + 1 < l.length) : lessB (l[i]).1 (l[i + 1]).1 = true := (List.pairwise_iff_getElem.1 h) i (i + 1) (by omega) hi (by omega)
theorem row_key {W : World} {b : Nat} {A : Option Addr} {c : Nat} {l : List Item} (h : W.ownsRow b 53 2 (.slice A l.length c) l.length (itemCells l)) (hl : 0 < l.length) : ∃ q, A = some ⟨q, 0, none⟩ ∧ ∀ i (hi : i < l.length), W.cell? ⟨q, i * 2, none⟩ = some (.string (l[i]).1) := by
  obtain ⟨q, rfl⟩ := own_at h hl
  exact ⟨q, rfl, fun i hi => (h.cellAt (i * 2) (by omega)).trans (itemCells_get0 l i hi)⟩
/-- 997 is a prime: steps of less meet no key twice -/
theorem gcd997 : ∀ s, s < 997 → 0 < s → Nat.gcd 997 s = 1 := by decide +kernel
theorem steps_apart {i j s : Nat} (h1 : 0 < s) (h2 : s < 997) (hij : j < i) (hi : i < 997) : j * s % 997 ≠ i * s % 997 := by
  intro e
  have h := Nat.sub_mod_eq_zero_of_mod_eq e.symm
  rw [← Nat.mul_sub_right_distrib] at h
  have hd : 997 ∣ (i - j) * s := Nat.dvd_of_mod_eq_zero h
  have := Nat.Coprime.dvd_of_dvd_mul_right (show Nat.Coprime 997 s from gcd997 s h2 h1) hd
  have := Nat.le_of_dvd (by omega) this
  omega
end Go.Proofs.Ytinkkdhlakfooaa
