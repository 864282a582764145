/-
  What is asked of the code's calls on a gate (GateLaws); a gate of the call's own, apart from blocks P that stay (GX).
-/
import Derived.Test.YtompbhkmaalioaaGateZero
import Derived.Test.YtompbhkmaalioaaKept
namespace Go.Proofs.Ytompbhkmaalioaa
open Go.RowKit

/-- what is asked of the code's calls; VG: the gate at a block, with what it keeps, and the blocks that it has -/
structure GateLaws (VG : World → Nat → GS → List Nat → Prop) : Prop where
  has : ∀ {w g s F}, VG w g s F → g ∈ F ∧ ∀ q ∈ F, q < w.heap.size
  touch : ∀ {w w' g s F G}, VG w g s F → Touch G w w' → (∀ q ∈ F, q ∉ G) → VG w' g s F
  zero : ∀ w : World, VG (w.alloc (.cells GZ 31)) w.heap.size G0 [w.heap.size]
  freeze : ∀ {w g s F} (f t : Nat), f < 18446744073709551616 → t < 18446744073709551616 → VG w g s F → Calls Try.prog 8 #[.pointer (some ⟨g, 0, none⟩), .agg #[.int .u64 (f : Nat), .int .u64 (t : Nat)]] w fun e w' =>
    ∃ F1, e = .returned (.bool !s.shut) ∧ VG w' g (s.freeze f t) F1 ∧ Touch F w w' ∧ ∀ q ∈ F1, q ∈ F ∨ w.heap.size ≤ q
  thaw : ∀ {w g s F}, VG w g s F → Calls Try.prog 9 #[.pointer (some ⟨g, 0, none⟩)] w fun e w' =>
    ∃ F1, e = .returned (.bool s.shut) ∧ VG w' g s.thaw F1 ∧ Touch F w w' ∧ ∀ q ∈ F1, q ∈ F ∨ w.heap.size ≤ q
  frozen : ∀ {w g s F} (x : Nat), x < 18446744073709551616 → VG w g s F → Calls Try.prog 18 #[.pointer (some ⟨g, 0, none⟩), .int .u64 (x : Nat)] w fun e w' => e = .returned (.bool (s.frozen x)) ∧ Below w.heap.size w w'
  arc : ∀ {w g s F}, VG w g s F → Calls Try.prog 14 #[.pointer (some ⟨g, 0, none⟩)] w fun e w' => e = .returned s.arcV ∧ Below w.heap.size w w'
  point : ∀ {w g s F} (f t : Nat) (n : Int), f < 18446744073709551616 → t < 18446744073709551616 → -9223372036854775808 ≤ n → n ≤ 9223372036854775807 → s.l.length ≤ 1000 → VG w g s F →
    Calls Try.prog 10 #[.pointer (some ⟨g, 0, none⟩), .agg #[.int .u64 (f : Nat), .int .u64 (t : Nat)], .int .i64 n] w fun e w' =>
    ∃ F1, e = .returned (.tuple #[]) ∧ VG w' g (s.point f t n) F1 ∧ Touch F w w' ∧ ∀ q ∈ F1, q ∈ F ∨ w.heap.size ≤ q
  where_ : ∀ {w g s F} (x : Nat), x < 18446744073709551616 → s.l.length ≤ 1001 → VG w g s F → Calls Try.prog 16 #[.pointer (some ⟨g, 0, none⟩), .int .u64 (x : Nat)] w fun e w' => e = .returned (whereV (overL s.l x)) ∧ Below w.heap.size w w'
  tick : ∀ {w g s F}, s.l.length ≤ 1001 → s.k ≤ 1000000 → VG w g s F → Calls Try.prog 12 #[.pointer (some ⟨g, 0, none⟩)] w fun e w' =>
    ∃ F1, e = .returned (.tuple #[]) ∧ VG w' g s.tick F1 ∧ Touch F w w' ∧ ∀ q ∈ F1, q ∈ F ∨ w.heap.size ≤ q
  points : ∀ {w g s F}, VG w g s F → Calls Try.prog 15 #[.pointer (some ⟨g, 0, none⟩)] w fun e w' => e = .returned (.int .i64 (s.l.length : Nat)) ∧ w' = w
/-- what is asked of a nil one -/
structure GateNil : Prop where
  freeze : ∀ (f t : Nat) (w : World), Calls Try.prog 8 #[.pointer none, .agg #[.int .u64 (f : Nat), .int .u64 (t : Nat)]] w fun e w' => e = .returned (.bool false) ∧ Below w.heap.size w w'
  thaw : ∀ w : World, Calls Try.prog 9 #[.pointer none] w fun e w' => e = .returned (.bool false) ∧ Below w.heap.size w w'
  frozen : ∀ (x : Nat) (w : World), Calls Try.prog 18 #[.pointer none, .int .u64 (x : Nat)] w fun e w' => e = .returned (.bool false) ∧ Below w.heap.size w w'
  arc : ∀ w : World, Calls Try.prog 14 #[.pointer none] w fun e w' => e = .returned (.tuple #[.agg #[.int .u64 0, .int .u64 0], .bool false]) ∧ Below w.heap.size w w'
  point : ∀ (f t : Nat) (n : Int) (w : World), Calls Try.prog 10 #[.pointer none, .agg #[.int .u64 (f : Nat), .int .u64 (t : Nat)], .int .i64 n] w fun e w' => e = .returned (.tuple #[]) ∧ Below w.heap.size w w'
  where_ : ∀ (x : Nat) (w : World), Calls Try.prog 16 #[.pointer none, .int .u64 (x : Nat)] w fun e w' => e = .returned (.tuple #[.int .i64 0, .bool false]) ∧ Below w.heap.size w w'
  tick : ∀ w : World, Calls Try.prog 12 #[.pointer none] w fun e w' => e = .returned (.tuple #[]) ∧ Below w.heap.size w w'
  points : ∀ w : World, Calls Try.prog 15 #[.pointer none] w fun e w' => e = .returned (.int .i64 0) ∧ Below w.heap.size w w'
/-- the gate at g, of the call's own, apart from P -/
def GX (VG : World → Nat → GS → List Nat → Prop) (W w : World) (P : List Nat) (g : Nat) (s : GS) : Prop :=
  Below W.heap.size W w ∧ (∃ F, VG w g s F ∧ ∀ q ∈ F, W.heap.size ≤ q ∧ q ∉ P) ∧ ∀ q ∈ P, q < w.heap.size
/-- what a call that writes leaves -/
def GXPost (VG : World → Nat → GS → List Nat → Prop) (W w : World) (P : List Nat) (g : Nat) (v : Value) (s : GS) (e : Ending) (w' : World) : Prop :=
  e = .returned v ∧ GX VG W w' P g s ∧ Kept P w w'
section
variable {VG : World → Nat → GS → List Nat → Prop} {W w w1 : World} {P : List Nat} {g : Nat} {s : GS}
theorem GX.base (h : GX VG W w P g s) : Below W.heap.size W w := h.1
theorem GX.below (L : GateLaws VG) (h : GX VG W w P g s) (hb : Below w.heap.size w w1) : GX VG W w1 P g s := by
  obtain ⟨x, ⟨F, b, c⟩, d⟩ := h
  exact ⟨acc x hb, ⟨F, L.touch b (Touch.ofBelow (F := []) hb) (by simp), c⟩, fun q hq => Nat.lt_of_lt_of_le (d q hq) hb.size⟩
/-- more blocks that stay: new ones -/
theorem GX.more (L : GateLaws VG) (h : GX VG W w P g s) (hb : Below w.heap.size w w1) {Q : List Nat} (hQ : ∀ q ∈ Q, w.heap.size ≤ q ∧ q < w1.heap.size) : GX VG W w1 (Q ++ P) g s := by
  obtain ⟨x, ⟨F, b, c⟩, d⟩ := h
  refine ⟨acc x hb, ⟨F, L.touch b (Touch.ofBelow (F := []) hb) (by simp), fun q hq => ⟨(c q hq).1, fun z => ?_⟩⟩, fun q hq => ?_⟩
  · rcases List.mem_append.1 z with z | z
    · have := (L.has b).2 q hq
      have := (hQ q z).1
      omega
    · exact (c q hq).2 z
  · rcases List.mem_append.1 hq with z | z
    · exact (hQ q z).2
    · exact Nat.lt_of_lt_of_le (d q z) hb.size
theorem GX.less {Q : List Nat} (h : GX VG W w P g s) (hQ : ∀ q ∈ Q, q ∈ P) : GX VG W w Q g s := by
  obtain ⟨x, ⟨F, b, c⟩, d⟩ := h
  exact ⟨x, ⟨F, b, fun q hq => ⟨(c q hq).1, fun z => (c q hq).2 (hQ q z)⟩⟩, fun q hq => d q (hQ q hq)⟩
theorem GX.zero (L : GateLaws VG) (x : Below W.heap.size W w) (hP : ∀ q ∈ P, q < w.heap.size) : GX VG W (w.alloc (.cells GZ 31)) P w.heap.size G0 :=
  ⟨x.alloc x.size _, ⟨_, L.zero w, fun q hq => by simp at hq; subst hq; exact ⟨x.size, fun z => Nat.lt_irrefl _ (hP _ z)⟩⟩, fun q hq => by have := hP q hq; simp; omega⟩
theorem GX.post (h : Below W.heap.size W w) {F F1 : List Nat} (c : ∀ q ∈ F, W.heap.size ≤ q ∧ q ∉ P) (d : ∀ q ∈ P, q < w.heap.size) (h1 : VG w1 g s F1) (t : Touch F w w1) (h2 : ∀ q ∈ F1, q ∈ F ∨ w.heap.size ≤ q) : GX VG W w1 P g s ∧ Kept P w w1 := by
  refine ⟨⟨Touch.acc h t (fun q hq => (c q hq).1), ⟨F1, h1, fun q hq => ?_⟩, fun q hq => Nat.lt_of_lt_of_le (d q hq) t.size⟩, ⟨F, t, fun q hq z => (c q z).2 hq⟩⟩
  rcases h2 q hq with z | z
  · exact c q z
  · exact ⟨Nat.le_trans h.size z, fun y => by have := d q y; omega⟩
theorem GX.freeze (L : GateLaws VG) (h : GX VG W w P g s) (f t : Nat) (hf : f < 18446744073709551616) (ht : t < 18446744073709551616) : Calls Try.prog 8 #[.pointer (some ⟨g, 0, none⟩), .agg #[.int .u64 (f : Nat), .int .u64 (t : Nat)]] w (GXPost VG W w P g (.bool !s.shut) (s.freeze f t)) := by
  obtain ⟨x, ⟨F, b, c⟩, d⟩ := h
  refine (L.freeze f t hf ht b).mono ?_
  rintro e w' ⟨F1, rfl, h1, t, h2⟩
  exact ⟨rfl, GX.post x c d h1 t h2⟩
theorem GX.thaw (L : GateLaws VG) (h : GX VG W w P g s) : Calls Try.prog 9 #[.pointer (some ⟨g, 0, none⟩)] w (GXPost VG W w P g (.bool s.shut) s.thaw) := by
  obtain ⟨x, ⟨F, b, c⟩, d⟩ := h
  refine (L.thaw b).mono ?_
  rintro e w' ⟨F1, rfl, h1, t, h2⟩
  exact ⟨rfl, GX.post x c d h1 t h2⟩
theorem GX.point (L : GateLaws VG) (h : GX VG W w P g s) (f t : Nat) (n : Int) (hf : f < 18446744073709551616) (ht : t < 18446744073709551616) (n0 : -9223372036854775808 ≤ n) (n1 : n ≤ 9223372036854775807) (hl : s.l.length ≤ 1000) :
    Calls Try.prog 10 #[.pointer (some ⟨g, 0, none⟩), .agg #[.int .u64 (f : Nat), .int .u64 (t : Nat)], .int .i64 n] w (GXPost VG W w P g (.tuple #[]) (s.point f t n)) := by
  obtain ⟨x, ⟨F, b, c⟩, d⟩ := h
  refine (L.point f t n hf ht n0 n1 hl b).mono ?_
  rintro e w' ⟨F1, rfl, h1, t, h2⟩
  exact ⟨rfl, GX.post x c d h1 t h2⟩
theorem GX.tick (L : GateLaws VG) (h : GX VG W w P g s) (hl : s.l.length ≤ 1001) (hk : s.k ≤ 1000000) : Calls Try.prog 12 #[.pointer (some ⟨g, 0, none⟩)] w (GXPost VG W w P g (.tuple #[]) s.tick) := by
  obtain ⟨x, ⟨F, b, c⟩, d⟩ := h
  refine (L.tick hl hk b).mono ?_
  rintro e w' ⟨F1, rfl, h1, t, h2⟩
  exact ⟨rfl, GX.post x c d h1 t h2⟩
theorem GX.frozen (L : GateLaws VG) (h : GX VG W w P g s) (x : Nat) (hx : x < 18446744073709551616) : Calls Try.prog 18 #[.pointer (some ⟨g, 0, none⟩), .int .u64 (x : Nat)] w fun e w' => e = .returned (.bool (s.frozen x)) ∧ Below w.heap.size w w' := by
  obtain ⟨_, ⟨F, b, _⟩, _⟩ := h
  exact L.frozen x hx b
theorem GX.arc (L : GateLaws VG) (h : GX VG W w P g s) : Calls Try.prog 14 #[.pointer (some ⟨g, 0, none⟩)] w fun e w' => e = .returned s.arcV ∧ Below w.heap.size w w' := by
  obtain ⟨_, ⟨F, b, _⟩, _⟩ := h
  exact L.arc b
theorem GX.where_ (L : GateLaws VG) (h : GX VG W w P g s) (x : Nat) (hx : x < 18446744073709551616) (hl : s.l.length ≤ 1001) : Calls Try.prog 16 #[.pointer (some ⟨g, 0, none⟩), .int .u64 (x : Nat)] w fun e w' => e = .returned (whereV (overL s.l x)) ∧ Below w.heap.size w w' := by
  obtain ⟨_, ⟨F, b, _⟩, _⟩ := h
  exact L.where_ x hx hl b
theorem GX.points (L : GateLaws VG) (h : GX VG W w P g s) : Calls Try.prog 15 #[.pointer (some ⟨g, 0, none⟩)] w fun e w' => e = .returned (.int .i64 (s.l.length : Nat)) ∧ w' = w := by
  obtain ⟨_, ⟨F, b, _⟩, _⟩ := h
  exact L.points b
end
end Go.Proofs.Ytompbhkmaalioaa
