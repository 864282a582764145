/-
  The code's shelf, the document's own, and the book, side by side: what each call leaves of the others. A copy that takes the shelf's place.
-/
import Derived.Test.YtinkkdhlakfooaaShelfLawB
import Derived.Test.YtinkkdhlakfooaaBookWhole
import Derived.Test.YtinkkdhlakfooaaShelfFacts
namespace Go.Proofs.Ytinkkdhlakfooaa
open Go.RowKit

/-- w' is w but for blocks that are none of P -/
def Spare (P : List Nat) (w w' : World) : Prop := ∃ G, Touch G w w' ∧ ∀ q ∈ P, q ∉ G
theorem Spare.cell {P : List Nat} {w w' : World} (h : Spare P w w') {p : Addr} (hp : p.block ∈ P) (hl : p.block < w.heap.size) : w'.cell? p = w.cell? p := by
  obtain ⟨G, a, b⟩ := h
  exact a.cell hl (b _ hp)
theorem Spare.size {P : List Nat} {w w' : World} (h : Spare P w w') : w.heap.size ≤ w'.heap.size := by
  obtain ⟨G, a, b⟩ := h
  exact a.size
theorem Spare.below {P : List Nat} {w w' : World} (h : Below w.heap.size w w') : Spare P w w' := ⟨[], Touch.ofBelow h, fun _ _ => by simp⟩
/-- block go holds an op: its key, its value -/
def OC (w : World) (go : Nat) (K V : ByteArray) : Prop := go < w.heap.size ∧ w.cell? ⟨go, 1, none⟩ = some (.string K) ∧ w.cell? ⟨go, 2, none⟩ = some (.string V)
theorem OC.spare {w w' : World} {go : Nat} {K V : ByteArray} (h : OC w go K V) (hs : Spare [go] w w') : OC w' go K V :=
  ⟨Nat.lt_of_lt_of_le h.1 hs.size, (hs.cell (p := ⟨go, 1, none⟩) (by simp) h.1).trans h.2.1, (hs.cell (p := ⟨go, 2, none⟩) (by simp) h.1).trans h.2.2⟩
structure PLF (SH : World → Nat → Int → List Item → List Nat → Prop) (W w : World) (P : List Nat) (gs : Nat) (most : Int) (l : List Item) (gr : Nat) (lr : List Item) (gk : Nat) (es us : List (Value × List Item)) (F Fr : List Nat) (va vb : Value) : Prop where
  below : Below W.heap.size W w
  sh : SH w gs most l F
  rs : RS w gr Fr most lr
  bk : BK w gk va vb es us
  f0 : ∀ q ∈ F, W.heap.size ≤ q ∧ q ≠ gr ∧ q ∉ Fr ∧ q ∉ BF gk va vb es us ∧ q ∉ P
  r0 : W.heap.size ≤ gr ∧ gr ∉ BF gk va vb es us ∧ gr ∉ P
  r1 : ∀ q ∈ Fr, q ∉ BF gk va vb es us
  b0 : ∀ q ∈ BF gk va vb es us, W.heap.size ≤ q ∧ q ∉ P
  p0 : ∀ q ∈ P, q < w.heap.size
/-- the shelf at gs, the document's at gr, the book at gk, all of the call's own, and no block of two of them; none of them has a block of P -/
def PL (SH : World → Nat → Int → List Item → List Nat → Prop) (W w : World) (P : List Nat) (gs : Nat) (most : Int) (l : List Item) (gr : Nat) (lr : List Item) (gk : Nat) (es : List (Value × List Item)) : Prop :=
  ∃ us F Fr va vb, PLF SH W w P gs most l gr lr gk es us F Fr va vb
section
variable {SH : World → Nat → Int → List Item → List Nat → Prop} {W w w1 : World} {P : List Nat} {gs gr gk : Nat} {most : Int} {l lr : List Item} {es us : List (Value × List Item)} {F Fr : List Nat} {va vb : Value}
theorem RS.ltg (h : RS w gr Fr most lr) : gr < w.heap.size := by
  obtain ⟨A, c, ⟨h1, _⟩, _⟩ := h
  exact h1
theorem RS.ltF (h : RS w gr Fr most lr) : ∀ q ∈ Fr, q < w.heap.size := by
  obtain ⟨A, c, _, _, _, h8⟩ := h
  exact fun q hq => (h8 q hq).1
/-- the shelf turned (or another one in its place) -/
theorem PLF.turnF (h : PLF SH W w P gs most l gr lr gk es us F Fr va vb) {G F' : List Nat} {gs' : Nat} {l' : List Item} (hs : SH w1 gs' most l' F') (ht : Touch G w w1) (hG : ∀ q ∈ G, q ∈ F) (hF : ∀ q ∈ F', q ∈ F ∨ w.heap.size ≤ q) : PLF SH W w1 P gs' most l' gr lr gk es us F' Fr va vb where
  below := Touch.acc h.below ht (fun x hx => (h.f0 x (hG x hx)).1)
  sh := hs
  rs := h.rs.touch ht (fun e => (h.f0 gr (hG gr e)).2.1 rfl) (fun q hq e => (h.f0 q (hG q e)).2.2.1 hq)
  bk := h.bk.touch ht (fun q hq e => (h.f0 q (hG q e)).2.2.2.1 hq)
  f0 q hq := by
    rcases hF q hq with z | z
    · exact h.f0 q z
    · refine ⟨Nat.le_trans h.below.size z, fun e => ?_, fun e => ?_, fun e => ?_, fun e => ?_⟩
      · have := h.rs.ltg; omega
      · have := h.rs.ltF q e; omega
      · have := h.bk.ltF q e; omega
      · have := h.p0 q e; omega
  r0 := h.r0
  r1 := h.r1
  b0 := h.b0
  p0 q hq := Nat.lt_of_lt_of_le (h.p0 q hq) ht.size
theorem PLF.turnR (L : ShelfLaws SH) (h : PLF SH W w P gs most l gr lr gk es us F Fr va vb) {Fr' : List Nat} {lr' : List Item} (hr : RS w1 gr Fr' most lr') (ht : Touch [gr] w w1) (hF : ∀ q ∈ Fr', q ∈ Fr ∨ w.heap.size ≤ q) : PLF SH W w1 P gs most l gr lr' gk es us F Fr' va vb where
  below := Touch.acc h.below ht (fun x hx => by simp at hx; rw [hx]; exact h.r0.1)
  sh := L.touch h.sh ht (fun q hq e => by simp at e; exact (h.f0 q hq).2.1 e)
  rs := hr
  bk := h.bk.touch ht (fun q hq e => by simp at e; exact h.r0.2.1 (e ▸ hq))
  f0 q hq := by
    obtain ⟨a, b, c, d, e⟩ := h.f0 q hq
    refine ⟨a, b, fun z => ?_, d, e⟩
    rcases hF q z with z | z
    · exact c z
    · have := L.ltF h.sh q hq; omega
  r0 := h.r0
  r1 q hq := by
    rcases hF q hq with z | z
    · exact h.r1 q z
    · intro e; have := h.bk.ltF q e; omega
  b0 := h.b0
  p0 q hq := Nat.lt_of_lt_of_le (h.p0 q hq) ht.size
theorem PLF.step (L : ShelfLaws SH) (h : PLF SH W w P gs most l gr lr gk es us F Fr va vb) (hb : Below w.heap.size w w1) : PLF SH W w1 P gs most l gr lr gk es us F Fr va vb :=
  h.turnF (L.touch h.sh (Touch.ofBelow (F := []) hb) (by simp)) (Touch.ofBelow (F := []) hb) (by simp) (fun q hq => .inl hq)
theorem PL.below (L : ShelfLaws SH) (h : PL SH W w P gs most l gr lr gk es) (hb : Below w.heap.size w w1) : PL SH W w1 P gs most l gr lr gk es := by
  obtain ⟨us, F, Fr, va, vb, h⟩ := h
  exact ⟨us, F, Fr, va, vb, h.step L hb⟩
theorem PL.drew (L : ShelfLaws SH) (h : PL SH W w P gs most l gr lr gk es) : PL SH W w.drew P gs most l gr lr gk es := h.below L (Below.refl _ _).drew
theorem PL.free (h : PL SH W w P gs most l gr lr gk es) : PL SH W w [] gs most l gr lr gk es := by
  obtain ⟨us, F, Fr, va, vb, h⟩ := h
  exact ⟨us, F, Fr, va, vb, h.below, h.sh, h.rs, h.bk, fun q hq => ⟨(h.f0 q hq).1, (h.f0 q hq).2.1, (h.f0 q hq).2.2.1, (h.f0 q hq).2.2.2.1, by simp⟩, ⟨h.r0.1, h.r0.2.1, by simp⟩, h.r1, fun q hq => ⟨(h.b0 q hq).1, by simp⟩, by simp⟩
/-- a new block that is kept out of all -/
theorem PL.fresh (L : ShelfLaws SH) (h : PL SH W w [] gs most l gr lr gk es) (o : Obj) : PL SH W (w.alloc o) [w.heap.size] gs most l gr lr gk es := by
  obtain ⟨us, F, Fr, va, vb, h⟩ := h
  have z := h.step L ((Below.refl w.heap.size w).alloc (Nat.le_refl _) o)
  refine ⟨us, F, Fr, va, vb, z.below, z.sh, z.rs, z.bk, fun q hq => ⟨(z.f0 q hq).1, (z.f0 q hq).2.1, (z.f0 q hq).2.2.1, (z.f0 q hq).2.2.2.1, fun e => ?_⟩, ⟨z.r0.1, z.r0.2.1, fun e => ?_⟩, z.r1, fun q hq => ⟨(z.b0 q hq).1, fun e => ?_⟩, fun q hq => ?_⟩
  · have := L.ltF h.sh q hq; simp at e; omega
  · have := h.rs.ltg; simp at e; omega
  · have := h.bk.ltF q hq; simp at e; omega
  · simp at hq; simp [hq]
theorem PL.put (L : ShelfLaws SH) (h : PL SH W w P gs most l gr lr gk es) (k v : ByteArray) (hk : k.size ≤ maxLen) (hv : v.size ≤ maxLen) {r : Int} {l' : List Item} (hr : putE most l k v = r) (hl : putS most l k v = l') :
    Calls Try.prog 12 #[.pointer (some ⟨gs, 0, none⟩), .string k, .string v] w fun e w' => e = .returned (.int .i64 r) ∧ PL SH W w' P gs most l' gr lr gk es ∧ Spare P w w' := by
  subst hr hl
  obtain ⟨us, F, Fr, va, vb, h⟩ := h
  refine (L.put k v h.sh hk hv).mono ?_
  rintro e' w' ⟨rfl, F', h4, h5, h6⟩
  exact ⟨rfl, ⟨us, F', Fr, va, vb, h.turnF h4 h5 (fun _ z => z) h6⟩, F, h5, fun q hq e => (h.f0 q e).2.2.2.2 hq⟩
theorem PL.del (L : ShelfLaws SH) (h : PL SH W w P gs most l gr lr gk es) (k : ByteArray) {r : Bool} {l' : List Item} (hr : hasN l k = r) (hl : delN l k = l') :
    Calls Try.prog 14 #[.pointer (some ⟨gs, 0, none⟩), .string k] w fun e w' => e = .returned (.bool r) ∧ PL SH W w' P gs most l' gr lr gk es ∧ Spare P w w' := by
  subst hr hl
  obtain ⟨us, F, Fr, va, vb, h⟩ := h
  refine (L.del k h.sh).mono ?_
  rintro e' w' ⟨rfl, F', h4, h5, h6⟩
  exact ⟨rfl, ⟨us, F', Fr, va, vb, h.turnF h4 h5 (fun _ z => z) h6⟩, F, h5, fun q hq e => (h.f0 q e).2.2.2.2 hq⟩
theorem refPut_any (g : Nat) (F : List Nat) (most : Int) (l : List Item) (k v : ByteArray) (W : World) (hR : RS W g F most l) (hl : l.length ≤ 100000) (hm0 : -9223372036854775808 ≤ most) (hm1 : most ≤ 9223372036854775807)
    (hk : k.size ≤ maxLen) (hv : v.size ≤ maxLen) : Calls Try.prog 13 #[.pointer (some ⟨g, 0, none⟩), .string k, .string v] W (RefPutPost W g F most l k v) := by
  by_cases h1 : rightN k = 0
  · by_cases h2 : valueN v = 0
    · exact refPut_ok g F most l k v W hR hl hm0 hm1 hk hv h1 h2
    · exact refPut_err g F most l k v W hR hk hv (.inr h2)
  · exact refPut_err g F most l k v W hR hk hv (.inl h1)
theorem PL.rput (L : ShelfLaws SH) (h : PL SH W w P gs most l gr lr gk es) (k v : ByteArray) (hk : k.size ≤ maxLen) (hv : v.size ≤ maxLen) (hm0 : -9223372036854775808 ≤ most) (hm1 : most ≤ 9223372036854775807) (hlr : lr.length ≤ 100000) {r : Int} {l' : List Item} (hr : putE most lr k v = r) (hl : putS most lr k v = l') :
    Calls Try.prog 13 #[.pointer (some ⟨gr, 0, none⟩), .string k, .string v] w fun e w' => e = .returned (.int .i64 r) ∧ PL SH W w' P gs most l gr l' gk es ∧ Spare P w w' := by
  subst hr hl
  obtain ⟨us, F, Fr, va, vb, h⟩ := h
  refine (refPut_any gr Fr most lr k v w h.rs hlr hm0 hm1 hk hv).mono ?_
  rintro e' w' ⟨rfl, h5, Fr', h4, h6⟩
  exact ⟨rfl, ⟨us, F, Fr', va, vb, h.turnR L h4 h5 h6⟩, [gr], h5, fun q hq e => by simp at e; exact h.r0.2.2 (e ▸ hq)⟩
theorem PL.rdel (L : ShelfLaws SH) (h : PL SH W w P gs most l gr lr gk es) (k : ByteArray) (hlr : lr.length ≤ 100000) {r : Bool} {l' : List Item} (hr : hasN lr k = r) (hl : delN lr k = l') :
    Calls Try.prog 15 #[.pointer (some ⟨gr, 0, none⟩), .string k] w fun e w' => e = .returned (.bool r) ∧ PL SH W w' P gs most l gr l' gk es ∧ Spare P w w' := by
  subst hr hl
  obtain ⟨us, F, Fr, va, vb, h⟩ := h
  refine (refDel_any gr Fr most lr k w h.rs hlr).mono ?_
  rintro e' w' ⟨rfl, h5, Fr', h4, h6⟩
  exact ⟨rfl, ⟨us, F, Fr', va, vb, h.turnR L h4 h5 h6⟩, [gr], h5, fun q hq e => by simp at e; exact h.r0.2.2 (e ▸ hq)⟩
theorem PL.get (L : ShelfLaws SH) (h : PL SH W w P gs most l gr lr gk es) (k : ByteArray) {v : ByteArray} {r : Bool} (hv : getN l k = v) (hr : hasN l k = r) :
    Calls Try.prog 17 #[.pointer (some ⟨gs, 0, none⟩), .string k] w fun e w' => e = .returned (.tuple #[.string v, .bool r]) ∧ PL SH W w' P gs most l gr lr gk es ∧ Below w.heap.size w w' := by
  subst hv hr
  have h0 := h
  obtain ⟨us, F, Fr, va, vb, h⟩ := h
  refine (L.get k h.sh).mono ?_
  rintro e' w' ⟨rfl, hb⟩
  exact ⟨rfl, h0.below L hb, hb⟩
theorem PL.at_ (L : ShelfLaws SH) (h : PL SH W w P gs most l gr lr gk es) (k : ByteArray) {j : Nat} {r : Bool} (hj : placeN lr k = j) (hr : hasN lr k = r) :
    Calls Try.prog 18 #[.pointer (some ⟨gr, 0, none⟩), .string k] w fun e w' => e = .returned (.tuple #[.int .i64 (j : Nat), .bool r]) ∧ PL SH W w' P gs most l gr lr gk es ∧ Below w.heap.size w w' := by
  subst hj hr
  have h0 := h
  obtain ⟨us, F, Fr, va, vb, h⟩ := h
  refine (refAt_any gr Fr most lr k w h.rs).mono ?_
  rintro e' w' ⟨rfl, n, rfl⟩
  have hb := ((Touch.refl [] w).drewN n).below (Nat.le_refl _) (by simp)
  exact ⟨rfl, h0.below L hb, hb⟩
theorem PL.len (L : ShelfLaws SH) (h : PL SH W w P gs most l gr lr gk es) {n : Nat} (hn : l.length = n) :
    Calls Try.prog 19 #[.pointer (some ⟨gs, 0, none⟩)] w fun e w' => e = .returned (.int .i64 (n : Nat)) ∧ Below w.heap.size w w' := by
  subst hn
  obtain ⟨us, F, Fr, va, vb, h⟩ := h
  exact L.len h.sh
theorem PL.depth (L : ShelfLaws SH) (h : PL SH W w P gs most l gr lr gk es) {n D : Nat} (hn : l.length = n) (hD : deepN n = D) :
    Calls Try.prog 20 #[.pointer (some ⟨gs, 0, none⟩)] w fun e w' => ∃ d : Nat, e = .returned (.int .i64 (d : Nat)) ∧ d ≤ D ∧ (d = 0 ↔ n = 0) ∧ Below w.heap.size w w' := by
  subst hn hD
  obtain ⟨us, F, Fr, va, vb, h⟩ := h
  exact L.depth h.sh
/-- the document's list as it lies -/
theorem PL.list (h : PL SH W w P gs most l gr lr gk es) : ∃ A c, gr < w.heap.size ∧ w.cell? ⟨gr, 1, none⟩ = some (.slice A lr.length c) ∧ Row w (.slice A lr.length c) lr := by
  obtain ⟨us, F, Fr, va, vb, h⟩ := h
  obtain ⟨A, c, ⟨h1, _, h3, _⟩, h6, _⟩ := h.rs
  exact ⟨A, c, h1, h3, h6⟩
/-- the shelf, and a copy beside it, that is to take its place -/
def PLC (SH : World → Nat → Int → List Item → List Nat → Prop) (W w : World) (P : List Nat) (go : Nat) (lo : List Item) (gs : Nat) (most : Int) (l : List Item) (gr : Nat) (lr : List Item) (gk : Nat) (es : List (Value × List Item)) : Prop :=
  ∃ us F Fr va vb Fo, PLF SH W w P gs most l gr lr gk es us F Fr va vb ∧ SH w go most lo Fo ∧ ∀ q ∈ Fo, W.heap.size ≤ q ∧ q ≠ gr ∧ q ∉ Fr ∧ q ∉ BF gk va vb es us ∧ q ∉ P ∧ q ∉ F
theorem PLC.fst {go : Nat} {lo : List Item} (h : PLC SH W w P go lo gs most l gr lr gk es) : PL SH W w P gs most l gr lr gk es := by
  obtain ⟨us, F, Fr, va, vb, Fo, h, _⟩ := h
  exact ⟨us, F, Fr, va, vb, h⟩
theorem PL.copy (L : ShelfLaws SH) (h : PL SH W w P gs most l gr lr gk es) :
    Calls Try.prog 16 #[.pointer (some ⟨gs, 0, none⟩)] w fun e w' => ∃ gc, e = .returned (.pointer (some ⟨gc, 0, none⟩)) ∧ PLC SH W w' P gs l gc most l gr lr gk es ∧ Spare P w w' := by
  obtain ⟨us, F, Fr, va, vb, h⟩ := h
  refine (L.copy h.sh).mono ?_
  rintro e' w' ⟨gc, F', rfl, h4, h5, h6⟩
  refine ⟨gc, rfl, ⟨us, F', Fr, va, vb, F, h.turnF h4 (Touch.ofBelow (F := []) h6) (by simp) (fun q hq => .inr (h5 q hq)), L.touch h.sh (Touch.ofBelow (F := []) h6) (by simp), fun q hq => ?_⟩, Spare.below h6⟩
  obtain ⟨a, b, c, d, e⟩ := h.f0 q hq
  exact ⟨a, b, c, d, e, fun z => by have := h5 q z; have := L.ltF h.sh q hq; omega⟩
/-- the old shelf turned: nothing else is -/
theorem PLC.old (L : ShelfLaws SH) {go : Nat} {lo' : List Item} {us : List (Value × List Item)} {F Fr Fo Fo' : List Nat} {va vb : Value} (h : PLF SH W w P gs most l gr lr gk es us F Fr va vb) (ho : ∀ q ∈ Fo, W.heap.size ≤ q ∧ q ≠ gr ∧ q ∉ Fr ∧ q ∉ BF gk va vb es us ∧ q ∉ P ∧ q ∉ F)
    (hs : SH w1 go most lo' Fo') (ht : Touch Fo w w1) (hF : ∀ q ∈ Fo', q ∈ Fo ∨ w.heap.size ≤ q) : PLC SH W w1 P go lo' gs most l gr lr gk es ∧ Spare P w w1 := by
  refine ⟨⟨us, F, Fr, va, vb, Fo', ⟨Touch.acc h.below ht (fun x hx => (ho x hx).1), L.touch h.sh ht (fun q hq e => (ho q e).2.2.2.2.2 hq), h.rs.touch ht (fun e => (ho gr e).2.1 rfl) (fun q hq e => (ho q e).2.2.1 hq), h.bk.touch ht (fun q hq e => (ho q e).2.2.2.1 hq), h.f0, h.r0, h.r1, h.b0, fun q hq => Nat.lt_of_lt_of_le (h.p0 q hq) ht.size⟩, hs, fun q hq => ?_⟩, Fo, ht, fun q hq e => (ho q e).2.2.2.2.1 hq⟩
  rcases hF q hq with z | z
  · exact ho q z
  · refine ⟨Nat.le_trans h.below.size z, fun e => ?_, fun e => ?_, fun e => ?_, fun e => ?_, fun e => ?_⟩
    · have := h.rs.ltg; omega
    · have := h.rs.ltF q e; omega
    · have := h.bk.ltF q e; omega
    · have := h.p0 q e; omega
    · have := L.ltF h.sh q e; omega
theorem PLC.put (L : ShelfLaws SH) {go : Nat} {lo : List Item} (h : PLC SH W w P go lo gs most l gr lr gk es) (k v : ByteArray) (hk : k.size ≤ maxLen) (hv : v.size ≤ maxLen) :
    Calls Try.prog 12 #[.pointer (some ⟨go, 0, none⟩), .string k, .string v] w fun e w' => ∃ r : Int, e = .returned (.int .i64 r) ∧ ∃ lo', PLC SH W w' P go lo' gs most l gr lr gk es ∧ Spare P w w' := by
  obtain ⟨us, F, Fr, va, vb, Fo, h, hs, ho⟩ := h
  refine (L.put k v hs hk hv).mono ?_
  rintro e' w' ⟨rfl, F', h4, h5, h6⟩
  exact ⟨_, rfl, _, PLC.old L h ho h4 h5 h6⟩
theorem PLC.del (L : ShelfLaws SH) {go : Nat} {lo : List Item} (h : PLC SH W w P go lo gs most l gr lr gk es) (k : ByteArray) :
    Calls Try.prog 14 #[.pointer (some ⟨go, 0, none⟩), .string k] w fun e w' => ∃ r : Bool, e = .returned (.bool r) ∧ ∃ lo', PLC SH W w' P go lo' gs most l gr lr gk es ∧ Spare P w w' := by
  obtain ⟨us, F, Fr, va, vb, Fo, h, hs, ho⟩ := h
  refine (L.del k hs).mono ?_
  rintro e' w' ⟨rfl, F', h4, h5, h6⟩
  exact ⟨_, rfl, _, PLC.old L h ho h4 h5 h6⟩
/-- and a list that was answered, in memory of its own -/
def PLA (SH : World → Nat → Int → List Item → List Nat → Prop) (W w : World) (gs : Nat) (most : Int) (l : List Item) (gr : Nat) (lr : List Item) (gk : Nat) (es : List (Value × List Item)) (v : Value) (a : List Item) : Prop :=
  ∃ us F Fr va vb, PLF SH W w [] gs most l gr lr gk es us F Fr va vb ∧ Row w v a ∧ ∀ q ∈ blk v, W.heap.size ≤ q ∧ q ∉ F ∧ q ≠ gr ∧ q ∉ Fr ∧ q ∉ BF gk va vb es us
theorem PL.items (L : ShelfLaws SH) (h : PL SH W w [] gs most l gr lr gk es) {n : Nat} (hn : l.length = n) :
    Calls Try.prog 22 #[.pointer (some ⟨gs, 0, none⟩)] w fun e w' => ∃ A c, e = .returned (.slice A (n : Nat) c) ∧ PLA SH W w' gs most l gr lr gk es (.slice A n c) l := by
  subst hn
  obtain ⟨us, F, Fr, va, vb, h⟩ := h
  refine (L.items h.sh).mono ?_
  rintro e' w' ⟨A, c, rfl, h4, h5⟩
  refine ⟨A, c, rfl, us, F, Fr, va, vb, h.step L h5, own_mono h4 (Nat.zero_le _), fun q hq => ?_⟩
  have z := (h4.lt q (mem_blk.1 hq)).1
  refine ⟨Nat.le_trans h.below.size z, fun e => ?_, fun e => ?_, fun e => ?_, fun e => ?_⟩
  · have := L.ltF h.sh q e; omega
  · have := h.rs.ltg; omega
  · have := h.rs.ltF q e; omega
  · have := h.bk.ltF q e; omega
theorem PLA.book (L : ShelfLaws SH) {A : Option Addr} {n c : Nat} (h : PLA SH W w gs most l gr lr gk es (.slice A n c) l) (hn : l.length = n) (he : es.length < 250) (hl : n ≤ 100000) :
    Calls Try.prog 23 #[.pointer (some ⟨gk, 0, none⟩), .slice A n c] w fun e w' => e = .returned (.tuple #[]) ∧ PL SH W w' [] gs most l gr lr gk (es ++ [(.slice A n c, l)]) := by
  subst hn
  obtain ⟨us, F, Fr, va, vb, h, hr, hv⟩ := h
  have inB : ∀ q, q = gk ∨ q ∈ blk va ∨ q ∈ blk vb → q ∈ BF gk va vb es us := fun q hq => by
    unfold BF
    rcases hq with z | z | z
    · simp [z]
    · simp [z]
    · simp [z]
  refine (bookItems_any gk va vb es us A c l w h.bk hr (fun q hq => ?_) he hl).mono ?_
  · have z := (hv q hq).2.2.2.2
    unfold BF at z
    simp only [List.mem_cons, List.mem_append, not_or] at z
    exact ⟨z.1, z.2.1, z.2.2.1, z.2.2.2.1⟩
  · rintro e' w' ⟨rfl, va', vb', u, h4, h5, h6⟩
    have hG : ∀ q ∈ gk :: (blk va ++ blk vb), q ∈ BF gk va vb es us := fun q hq => by
      refine inB q ?_
      simpa using hq
    refine ⟨rfl, us ++ [(u, l)], F, Fr, va', vb', Touch.acc h.below h5 (fun x hx => (h.b0 x (hG x hx)).1), L.touch h.sh h5 (fun q hq e => (h.f0 q hq).2.2.2.1 (hG q e)), h.rs.touch h5 (fun e => h.r0.2.1 (hG gr e)) (fun q hq e => h.r1 q hq (hG q e)), h4, fun q hq => ?_, ⟨h.r0.1, fun e => ?_, by simp⟩, fun q hq e => ?_, fun q hq => ⟨?_, by simp⟩, by simp⟩
    · obtain ⟨a, b, c', d, _⟩ := h.f0 q hq
      refine ⟨a, b, c', fun e => ?_, by simp⟩
      rcases h6 q e with z | z | z
      · exact d z
      · exact (hv q z).2.1 hq
      · have := L.ltF h.sh q hq; omega
    · rcases h6 gr e with z | z | z
      · exact h.r0.2.1 z
      · exact (hv gr z).2.2.1 rfl
      · have := h.rs.ltg; omega
    · rcases h6 q e with z | z | z
      · exact h.r1 q hq z
      · exact (hv q z).2.2.2.1 hq
      · have := h.rs.ltF q hq; omega
    · rcases h6 q hq with z | z | z
      · exact (h.b0 q z).1
      · exact (hv q z).1
      · exact Nat.le_trans h.below.size z
/-- the list that was kept last is the document's -/
theorem PL.same {v : Value} {A B : Option Addr} {n c d : Nat} (h : PL SH W w [] gs most l gr l gk (es ++ [(v, l)])) (hv : v = .slice A n c) (hn : l.length = n) (hB : Row w (.slice B n d) l) :
    Calls Try.prog 24 #[.slice A n c, .slice B n d] w fun e w' => e = .returned (.bool true) ∧ Below w.heap.size w w' := by
  subst hn hv
  obtain ⟨us, F, Fr, va, vb, h⟩ := h
  obtain ⟨A', c', e1, e2⟩ := h.bk.rows (.slice A l.length c, l) (by simp)
  have e1 : Value.slice A l.length c = .slice A' l.length c' := e1
  injection e1 with e3 _ e4
  subst e3 e4
  refine (sameItems_any A B c d l l w e2 hB).mono ?_
  rintro e' w' ⟨rfl, k, rfl⟩
  exact ⟨by rw [(sameL_iff l l).2 rfl], ((Touch.refl [] w).drewN k).below (Nat.le_refl _) (by simp)⟩
theorem PL.apart (h : PL SH W w [] gs most l gr lr gk es) (he : es.length ≤ 250) (hl : ∀ x ∈ es, x.2.length ≤ 90000) :
    Calls Try.prog 25 #[.pointer (some ⟨gk, 0, none⟩)] w fun e w' => e = .returned (.bool true) ∧ Below W.heap.size W w' := by
  obtain ⟨us, F, Fr, va, vb, h⟩ := h
  refine (apart_any gk va vb es us w h.bk he hl).mono ?_
  rintro e' w' ⟨rfl, h5⟩
  exact ⟨rfl, Touch.acc h.below h5 (fun x hx => (h.b0 x (by unfold BF; simp [hx])).1)⟩
end
theorem putS_length (most : Int) (l : List Item) (k v : ByteArray) : (putS most l k v).length ≤ l.length + 1 := by
  unfold putS
  split
  · rw [putN_length]; split <;> omega
  · omega
theorem delN_le (l : List Item) (k : ByteArray) : (delN l k).length ≤ l.length := by
  rw [delN_length]; split <;> omega
/-- what Get tells lies where At says -/
theorem getN_at {l : List Item} {k : ByteArray} (h : hasN l k = true) : ∃ hp : placeN l k < l.length, (l[placeN l k]).2 = getN l k := by
  have hp := hasN_lt h
  refine ⟨hp, ?_⟩
  unfold hasN at h
  unfold getN
  rw [List.getElem?_eq_getElem hp] at h ⊢
  have h' : ((l[placeN l k]).1.toList == k.toList) = true := h
  show _ = if _ then _ else _
  rw [if_pos h']
end Go.Proofs.Ytinkkdhlakfooaa
