/-
  The code's shelf and the document's, side by side, both of the call's own (OSR); a list of items that came in (ItemsAt); what a shelf is filled with (fillL).
-/
import Derived.Test.YtojiblhaiokdcaaShelfLaws
import Derived.Test.YtojiblhaiokdcaaShelfFacts
import Derived.Test.YtojiblhaiokdcaaRefPut
namespace Go.Proofs.Ytojiblhaiokdcaa
open Go.RowKit

theorem rs_ltg {w : World} {gr : Nat} {Fr : List Nat} {most : Int} {lr : List Item} (h : RS w gr Fr most lr) : gr < w.heap.size := by
  obtain ⟨A, c, ⟨h1, _⟩, _⟩ := h
  exact h1
theorem rs_ltF {w : World} {gr : Nat} {Fr : List Nat} {most : Int} {lr : List Item} (h : RS w gr Fr most lr) : ∀ q ∈ Fr, q < w.heap.size := by
  obtain ⟨A, c, _, _, _, h8⟩ := h
  exact fun q hq => (h8 q hq).1
/-- the shelf at gs, the document's at gr, both of the call's own, no block of both; P: blocks that none of them has -/
def OSR (SH : World → Nat → Int → List Item → List Nat → Prop) (W w : World) (P : List Nat) (gs : Nat) (l : List Item) (gr : Nat) (lr : List Item) : Prop :=
  Below W.heap.size W w ∧ ∃ F Fr, SH w gs 200 l F ∧ RS w gr Fr 200 lr ∧ (∀ q ∈ F, W.heap.size ≤ q ∧ q ≠ gr ∧ q ∉ Fr ∧ q ∉ P) ∧ (W.heap.size ≤ gr ∧ ∀ q ∈ Fr, W.heap.size ≤ q) ∧ gr ∉ P ∧ ∀ q ∈ P, q < w.heap.size
section
variable {SH : World → Nat → Int → List Item → List Nat → Prop} {W w w1 : World} {P : List Nat} {gs gr : Nat} {l lr : List Item}
theorem OSR.below (L : ShelfLaws SH) (h : OSR SH W w P gs l gr lr) (hb : Below w.heap.size w w1) : OSR SH W w1 P gs l gr lr := by
  obtain ⟨a, F, Fr, b, c, d, e, f, g⟩ := h
  have t : Touch [] w w1 := Touch.ofBelow hb
  exact ⟨acc a hb, F, Fr, L.touch b t (by simp), c.touch t (by simp) (by simp), d, e, f, fun q hq => Nat.lt_of_lt_of_le (g q hq) hb.size⟩
theorem OSR.drew (L : ShelfLaws SH) (h : OSR SH W w P gs l gr lr) : OSR SH W w.drew P gs l gr lr := h.below L (Below.refl _ _).drew
theorem OSR.start (L : ShelfLaws SH) (h : OS SH W w gs 200 []) (hb : Below w.heap.size w w1) (hr : RS w1 w.heap.size [] 200 []) : OSR SH W w1 [] gs [] w.heap.size [] := by
  obtain ⟨a, F, b, c⟩ := h
  exact ⟨acc a hb, F, [], L.touch b (Touch.ofBelow (F := []) hb) (by simp), hr, fun q hq => ⟨c q hq, fun e => by have := L.ltF b q hq; omega, by simp, by simp⟩, ⟨a.size, by simp⟩, by simp, by simp⟩
theorem OSR.put (L : ShelfLaws SH) (h : OSR SH W w P gs l gr lr) (k v : ByteArray) (hk : k.size ≤ maxLen) (hv : v.size ≤ maxLen) {r : Int} {l' : List Item} (hr : putE 200 l k v = r) (hl : putS 200 l k v = l') :
    Calls Try.prog 27 #[.pointer (some ⟨gs, 0, none⟩), .string k, .string v] w fun e w' => e = .returned (.int .i64 r) ∧ OSR SH W w' P gs l' gr lr ∧ ∃ G, Touch G w w' ∧ (∀ q ∈ G, W.heap.size ≤ q) ∧ ∀ q ∈ P, q ∉ G := by
  subst hr hl
  obtain ⟨a, F, Fr, b, c, d, e, f, g⟩ := h
  refine (L.put k v b hk hv).mono ?_
  rintro e' w' ⟨rfl, F', h4, h5, h6⟩
  refine ⟨rfl, ⟨Touch.acc a h5 (fun x hx => (d x hx).1), F', Fr, h4, c.touch h5 (fun x => (d gr x).2.1 rfl) (fun q h1 h2 => (d q h2).2.2.1 h1), fun q hq => ?_, e, f, fun q hq => Nat.lt_of_lt_of_le (g q hq) h5.size⟩, F, h5, fun q hq => (d q hq).1, fun q h1 h2 => (d q h2).2.2.2 h1⟩
  rcases h6 q hq with z | z
  · exact d q z
  · refine ⟨Nat.le_trans a.size z, fun x => ?_, fun x => ?_, fun x => ?_⟩
    · have := rs_ltg c; omega
    · have := rs_ltF c q x; omega
    · have := g q x; omega
theorem OSR.rput (L : ShelfLaws SH) (h : OSR SH W w P gs l gr lr) (k v : ByteArray) (hk : k.size ≤ maxLen) (hv : v.size ≤ maxLen) (hlr : lr.length ≤ 100000) {r : Int} {l' : List Item} (hr : putE 200 lr k v = r) (hl : putS 200 lr k v = l') :
    Calls Try.prog 28 #[.pointer (some ⟨gr, 0, none⟩), .string k, .string v] w fun e w' => e = .returned (.int .i64 r) ∧ OSR SH W w' P gs l gr l' ∧ ∃ G, Touch G w w' ∧ (∀ q ∈ G, W.heap.size ≤ q) ∧ ∀ q ∈ P, q ∉ G := by
  subst hr hl
  obtain ⟨a, F, Fr, b, c, d, e, f, g⟩ := h
  have hc : Calls Try.prog 28 #[.pointer (some ⟨gr, 0, none⟩), .string k, .string v] w (RefPutPost w gr Fr 200 lr k v) := by
    by_cases h1 : rightN k = 0
    · by_cases h2 : valueN v = 0
      · exact refPut_ok gr Fr 200 lr k v w c hlr (by omega) (by omega) hk hv h1 h2
      · exact refPut_err gr Fr 200 lr k v w c hk hv (.inr h2)
    · exact refPut_err gr Fr 200 lr k v w c hk hv (.inl h1)
  refine hc.mono ?_
  rintro e' w' ⟨rfl, h5, Fr', h4, h6⟩
  refine ⟨rfl, ⟨Touch.acc a h5 (fun x hx => by simp at hx; rw [hx]; exact e.1), F, Fr', L.touch b h5 (fun q hq x => by simp at x; exact (d q hq).2.1 x), h4, fun q hq => ?_, ⟨e.1, fun q hq => (h6 q hq).elim (e.2 q) (fun z => Nat.le_trans a.size z)⟩, f, fun q hq => Nat.lt_of_lt_of_le (g q hq) h5.size⟩, [gr], h5, fun q hq => by simp at hq; rw [hq]; exact e.1, fun q h1 h2 => by simp at h2; exact f (h2 ▸ h1)⟩
  obtain ⟨x1, x2, x3, x4⟩ := d q hq
  refine ⟨x1, x2, fun x => ?_, x4⟩
  rcases h6 q x with z | z
  · exact x3 z
  · have := L.ltF b q hq; omega
/-- the document's list as it lies -/
theorem OSR.list (h : OSR SH W w P gs l gr lr) : ∃ A c, gr < w.heap.size ∧ w.cell? ⟨gr, 1, none⟩ = some (.slice A lr.length c) ∧ Row w (.slice A lr.length c) lr := by
  obtain ⟨a, F, Fr, b, c, _⟩ := h
  obtain ⟨A, c', ⟨h1, _, h3, _⟩, h6, _⟩ := c
  exact ⟨A, c', h1, h3, h6⟩
end
/-- a list of items as it lies -/
def ItemsAt (W : World) (A : Option Addr) (zs : List Item) : Prop :=
  ∃ b off, ∀ i (h : i < zs.length), A = some ⟨b, off, none⟩ ∧ b < W.heap.size ∧ W.cell? ⟨b, off + i * 2, none⟩ = some (.string (zs[i]).1) ∧ W.cell? ⟨b, off + i * 2 + 1, none⟩ = some (.string (zs[i]).2)
def fill1 (l : List Item) (x : Item) : List Item := if x.1.size ≤ 40 ∧ x.2.size ≤ 40 then putS 200 l x.1 x.2 else l
/-- what a shelf holds that was filled with a list -/
def fillL (zs : List Item) : List Item := (zs.take 60).foldl fill1 []
theorem putS_length' (most : Int) (l : List Item) (k v : ByteArray) : (putS most l k v).length ≤ l.length + 1 := by
  unfold putS
  split
  · rw [putN_length]; split <;> omega
  · omega
theorem fill1_length (l : List Item) (x : Item) : (fill1 l x).length ≤ l.length + 1 := by
  unfold fill1
  split
  · exact putS_length' _ _ _ _
  · omega
/-- rising, and of keys that may be -/
def Fine (l : List Item) : Prop := Rising l ∧ ∀ x ∈ l, 1 ≤ x.1.size ∧ x.1.size ≤ 16
theorem fill1_fine {l : List Item} (h : Fine l) (x : Item) : Fine (fill1 l x) := by
  unfold fill1 putS
  split
  · split
    · rename_i h0
      have hr : rightN x.1 = 0 := by
        cases Classical.em (rightN x.1 = 0) with
        | inl z => exact z
        | inr z => rw [putE, if_pos z] at h0; exact absurd h0 z
      have hs : 1 ≤ x.1.size ∧ x.1.size ≤ 16 := by
        unfold rightN at hr
        split at hr
        · cases hr
        · omega
      refine ⟨h.1.put _ _, fun y hy => ?_⟩
      rcases (mem_putN h.1 _ _ y).1 hy with rfl | ⟨z, _⟩
      · exact hs
      · exact h.2 y z
    · exact h
  · exact h
theorem fine_nil : Fine [] := ⟨Rising.nil, fun x hx => by cases hx⟩
theorem foldl_fine : ∀ (zs : List Item) {l : List Item}, Fine l → Fine (zs.foldl fill1 l)
  | [], _, h => h
  | x :: zs, _, h => foldl_fine zs (fill1_fine h x)
theorem fillL_fine (zs : List Item) : Fine (fillL zs) := foldl_fine _ fine_nil
theorem foldl_length : ∀ (zs l : List Item), (zs.foldl fill1 l).length ≤ l.length + zs.length
  | [], l => by simp
  | x :: zs, l => by
    have h1 := foldl_length zs (fill1 l x)
    have h2 := fill1_length l x
    rw [List.foldl_cons, List.length_cons]
    omega
theorem fillL_length (zs : List Item) : (fillL zs).length ≤ 60 := by
  have h := foldl_length (zs.take 60) []
  rw [List.length_take] at h
  unfold fillL
  simp at h
  omega
theorem fill_step {zs : List Item} {i : Nat} (h : i < zs.length) : (zs.take (i + 1)).foldl fill1 [] = fill1 ((zs.take i).foldl fill1 []) (zs[i]) := by
  rw [List.take_add_one, List.getElem?_eq_getElem h, List.foldl_append]
  rfl
end Go.Proofs.Ytojiblhaiokdcaa
