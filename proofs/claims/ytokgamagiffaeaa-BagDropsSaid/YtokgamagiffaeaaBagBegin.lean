/-
  A bag of the call's own, apart from blocks P that stay (BX); what each call makes of it. The first call of stage 8's statements.
-/
import Derived.Test.YtokgamagiffaeaaBagOn
namespace Go.Proofs.Ytokgamagiffaeaa
open Go.RowKit

/-- blocks of P stay -/
def Keeps (P : List Nat) (w w' : World) : Prop := ∃ G, Touch G w w' ∧ ∀ q ∈ P, q ∉ G
theorem Keeps.below {P : List Nat} {w w' : World} (h : Below w.heap.size w w') : Keeps P w w' := ⟨[], Touch.ofBelow h, by simp⟩
theorem Keeps.row {P : List Nat} {a b : World} (h : Keeps P a b) {base e size n : Nat} {v : Value} {xs : List Value} (hr : a.ownsRow base e size v n xs) (hP : ∀ q, v.ownBlock = some q → q ∈ P) : b.ownsRow base e size v n xs := by
  obtain ⟨G, t, n⟩ := h
  exact t.row hr (fun q hq => n q (hP q hq))
theorem Keeps.var {P : List Nat} {a b : World} (h : Keeps P a b) {q : Nat} {v : Value} (hv : Var a q v) (hP : q ∈ P) : Var b q v := by
  obtain ⟨G, t, n⟩ := h
  exact hv.touch t (n q hP)
theorem Keeps.size {P : List Nat} {a b : World} (h : Keeps P a b) : a.heap.size ≤ b.heap.size := by
  obtain ⟨G, t, n⟩ := h
  exact t.size
theorem Keeps.heap {P : List Nat} {a b : World} (h : Keeps P a b) {q : Nat} (hP : q ∈ P) {o : Obj} (hq : a.heap[q]? = some o) : b.heap[q]? = some o := by
  obtain ⟨G, t, n⟩ := h
  exact (t.block q (bg_lt hq) (n q hP)).trans hq
/-- the bag at g, of the call's own, apart from P -/
def BX (W w : World) (P : List Nat) (g m : Nat) (ps : List Pk) : Prop :=
  Below W.heap.size W w ∧ (∃ F, BG w g m ps F ∧ ∀ q ∈ F, W.heap.size ≤ q ∧ q ∉ P) ∧ ∀ q ∈ P, q < w.heap.size
section
variable {W w w1 : World} {P : List Nat} {g m : Nat} {ps ps' : List Pk}
theorem BX.room (h : BX W w P g m ps) : ps.length ≤ m ∧ m ≤ 2000 := by
  obtain ⟨_, ⟨F, b, _⟩, _⟩ := h
  exact b.room
theorem BX.below (h : BX W w P g m ps) (hb : Below w.heap.size w w1) : BX W w1 P g m ps := by
  obtain ⟨a, ⟨F, b, c⟩, d⟩ := h
  exact ⟨acc a hb, ⟨F, b.below hb, c⟩, fun q hq => Nat.lt_of_lt_of_le (d q hq) hb.size⟩
/-- one more block that stays: a new one -/
theorem BX.more (h : BX W w P g m ps) (hb : Below w.heap.size w w1) {q : Nat} (h1 : w.heap.size ≤ q) (h2 : q < w1.heap.size) : BX W w1 (q :: P) g m ps := by
  obtain ⟨a, ⟨F, b, c⟩, d⟩ := h
  refine ⟨acc a hb, ⟨F, b.below hb, fun x hx => ⟨(c x hx).1, fun z => ?_⟩⟩, fun x hx => ?_⟩
  · rcases List.mem_cons.1 z with rfl | z
    · have := b.ltF x hx; omega
    · exact (c x hx).2 z
  · rcases List.mem_cons.1 hx with rfl | z
    · exact h2
    · exact Nat.lt_of_lt_of_le (d x z) hb.size
theorem BX.less {Q : List Nat} (h : BX W w P g m ps) (hQ : ∀ q ∈ Q, q ∈ P) : BX W w Q g m ps := by
  obtain ⟨a, ⟨F, b, c⟩, d⟩ := h
  exact ⟨a, ⟨F, b, fun x hx => ⟨(c x hx).1, fun z => (c x hx).2 (hQ x z)⟩⟩, fun x hx => d x (hQ x hx)⟩
theorem BX.step {F : List Nat} (a : Below W.heap.size W w) (c : ∀ q ∈ F, W.heap.size ≤ q ∧ q ∉ P) (d : ∀ q ∈ P, q < w.heap.size) (h : BStep w w1 F g m ps') : BX W w1 P g m ps' ∧ Keeps P w w1 := by
  obtain ⟨t, F3, k, hk⟩ := h
  refine ⟨⟨Touch.acc a t (fun q hq => (c q hq).1), ⟨F3, k, fun q hq => ?_⟩, fun q hq => Nat.lt_of_lt_of_le (d q hq) t.size⟩, F, t, fun q hq z => (c q z).2 hq⟩
  rcases hk q hq with z | z
  · exact c q z
  · exact ⟨Nat.le_trans a.size z, fun y => by have := d q y; omega⟩
theorem BX.new (a : Below W.heap.size W w) (d : ∀ q ∈ P, q < w.heap.size) (n : Nat) (hn : n ≤ 2000) : Calls Try.prog 9 #[.int .i64 (n : Nat)] w fun e w' =>
    e = .returned (.pointer (some ⟨w.heap.size, 0, none⟩)) ∧ BX W w' P w.heap.size n [] ∧ Below w.heap.size w w' := by
  refine (new_any n hn w).mono ?_
  rintro e w' ⟨rfl, h1, h2⟩
  refine ⟨rfl, ⟨acc a h2, ⟨_, h1, fun q hq => ?_⟩, fun q hq => Nat.lt_of_lt_of_le (d q hq) h2.size⟩, h2⟩
  simp at hq
  subst hq
  exact ⟨a.size, fun z => Nat.lt_irrefl _ (d _ z)⟩
theorem BX.put (h : BX W w P g m ps) (p : Pk) (hr : ps.length < m) : Calls Try.prog 10 #[.pointer (some ⟨g, 0, none⟩), .agg p.cells] w fun e w' =>
    e = .returned (.bool true) ∧ BX W w' P g m (ps ++ [p]) ∧ Keeps P w w' := by
  obtain ⟨a, ⟨F, b, c⟩, d⟩ := h
  refine (put_any b p).mono ?_
  rintro e w' ⟨rfl, h1⟩
  rw [if_pos hr] at h1
  exact ⟨by rw [decide_eq_true hr], BX.step a c d h1⟩
theorem BX.putFull (h : BX W w P g m ps) (p : Pk) (hr : ps.length = m) : Calls Try.prog 10 #[.pointer (some ⟨g, 0, none⟩), .agg p.cells] w fun e w' =>
    e = .returned (.bool false) ∧ BX W w' P g m ps ∧ Keeps P w w' := by
  obtain ⟨a, ⟨F, b, c⟩, d⟩ := h
  refine (put_any b p).mono ?_
  rintro e w' ⟨rfl, h1⟩
  rw [if_neg (by omega)] at h1
  exact ⟨by rw [decide_eq_false (by omega)], BX.step a c d h1⟩
theorem BX.twice (h : BX W w P g m ps) (k : Nat) {p : Pk} (hk : ps[k]? = some p) (hr : ps.length < m) : Calls Try.prog 12 #[.pointer (some ⟨g, 0, none⟩), .int .i64 (k : Nat)] w fun e w' =>
    e = .returned (.bool true) ∧ BX W w' P g m (ps ++ [p]) ∧ Keeps P w w' := by
  obtain ⟨a, ⟨F, b, c⟩, d⟩ := h
  refine (twice_any b k hk).mono ?_
  rintro e w' ⟨rfl, h1⟩
  unfold pushed at h1
  rw [if_pos hr] at h1
  exact ⟨by unfold roomB; rw [decide_eq_true hr], BX.step a c d h1⟩
theorem BX.twiceFull (h : BX W w P g m ps) (k : Nat) {p : Pk} (hk : ps[k]? = some p) (hr : ps.length = m) : Calls Try.prog 12 #[.pointer (some ⟨g, 0, none⟩), .int .i64 (k : Nat)] w fun e w' =>
    e = .returned (.bool false) ∧ BX W w' P g m ps ∧ Keeps P w w' := by
  obtain ⟨a, ⟨F, b, c⟩, d⟩ := h
  refine (twice_any b k hk).mono ?_
  rintro e w' ⟨rfl, h1⟩
  unfold pushed at h1
  rw [if_neg (by omega)] at h1
  exact ⟨by unfold roomB; rw [decide_eq_false (by omega)], BX.step a c d h1⟩
theorem BX.twiceNot (h : BX W w P g m ps) (k : Int) (hk : ¬ (0 ≤ k ∧ k < (ps.length : Int))) : Calls Try.prog 12 #[.pointer (some ⟨g, 0, none⟩), .int .i64 k] w fun e w' =>
    e = .returned (.bool false) ∧ BX W w' P g m ps ∧ Keeps P w w' := by
  have h0 := h
  obtain ⟨a, ⟨F, b, c⟩, d⟩ := h
  refine (twiceNot_any b k hk).mono ?_
  rintro e w' ⟨rfl, rfl⟩
  exact ⟨rfl, h0, Keeps.below (Below.refl _ _)⟩
theorem BX.take (h : BX W w P g m ps) (k : Nat) {p : Pk} (hk : ps[k]? = some p) : Calls Try.prog 13 #[.pointer (some ⟨g, 0, none⟩), .int .i64 (k : Nat)] w fun e w' =>
    e = .returned (.tuple #[.agg p.cells, .bool true]) ∧ BX W w' P g m (without ps k) ∧ Keeps P w w' := by
  obtain ⟨a, ⟨F, b, c⟩, d⟩ := h
  refine (take_any b k hk).mono ?_
  rintro e w' ⟨rfl, h1⟩
  exact ⟨rfl, BX.step a c d h1⟩
theorem BX.drop (h : BX W w P g m ps) (k : Nat) {p : Pk} (hk : ps[k]? = some p) : Calls Try.prog 14 #[.pointer (some ⟨g, 0, none⟩), .int .i64 (k : Nat)] w fun e w' =>
    e = .returned (.bool true) ∧ BX W w' P g m (without ps k) ∧ Keeps P w w' := by
  obtain ⟨a, ⟨F, b, c⟩, d⟩ := h
  refine (drop_any b k hk).mono ?_
  rintro e w' ⟨rfl, h1⟩
  exact ⟨rfl, BX.step a c d h1⟩
theorem BX.dropNot (h : BX W w P g m ps) (k : Int) (hk : ¬ (0 ≤ k ∧ k < (ps.length : Int))) : Calls Try.prog 14 #[.pointer (some ⟨g, 0, none⟩), .int .i64 k] w fun e w' =>
    e = .returned (.bool false) ∧ BX W w' P g m ps ∧ Keeps P w w' := by
  have h0 := h
  obtain ⟨a, ⟨F, b, c⟩, d⟩ := h
  refine (dropNot_any b k hk).mono ?_
  rintro e w' ⟨rfl, h1⟩
  exact ⟨rfl, h0.below h1, Keeps.below h1⟩
theorem BX.len (h : BX W w P g m ps) {n : Nat} (hn : ps.length = n) : Calls Try.prog 11 #[.pointer (some ⟨g, 0, none⟩)] w fun e w' =>
    e = .returned (.int .i64 (n : Nat)) ∧ w' = w := by
  subst hn
  obtain ⟨a, ⟨F, b, c⟩, d⟩ := h
  exact len_any b
theorem BX.on (h : BX W w P g m ps) (f t : Int) : Calls Try.prog 17 #[.pointer (some ⟨g, 0, none⟩), .int .i64 f, .int .i64 t] w fun e w' =>
    e = .returned (.int .i64 (onN ps f t : Nat)) ∧ BX W w' P g m ps ∧ Below w.heap.size w w' := by
  have h0 := h
  obtain ⟨a, ⟨F, b, c⟩, d⟩ := h
  refine (on_any b f t).mono ?_
  rintro e w' ⟨rfl, h1⟩
  exact ⟨rfl, h0.below h1, h1⟩
end
/-- the packet of that call -/
abbrev PK1 : Pk := ⟨1, 2, 3, 0⟩
set_option maxRecDepth 20000 in
set_option maxHeartbeats 4000000 in
theorem bagAlive_any (W : World) : Calls Try.prog 8 #[] W fun e w' => e = .returned (.bool true) ∧ Below W.heap.size W w' := by
  have C0 : Hid (Calls Try.prog 9 #[.int .i64 2] W fun e w' => e = .returned (.pointer (some ⟨W.heap.size, 0, none⟩)) ∧ BX W w' [] W.heap.size 2 [] ∧ Below W.heap.size W w') := BX.new (W := W) (w := W) (P := []) (Below.refl _ _) (by simp) 2 (by omega)
  have C1 : Hid (∀ w g, BX W w [] g 2 [] → Calls Try.prog 10 #[.pointer (some ⟨g, 0, none⟩), .agg PK1.cells] w fun e w' => e = .returned (.bool true) ∧ BX W w' [] g 2 [PK1]) := fun w g h =>
    (h.put PK1 (by decide)).mono fun e w' ⟨h1, h2, _⟩ => ⟨h1, h2⟩
  have C2 : Hid (∀ w g, BX W w [] g 2 [PK1] → Calls Try.prog 12 #[.pointer (some ⟨g, 0, none⟩), .int .i64 0] w fun e w' => e = .returned (.bool true) ∧ BX W w' [] g 2 [PK1, PK1]) := fun w g h =>
    (h.twice 0 (p := PK1) rfl (by decide)).mono fun e w' ⟨h1, h2, _⟩ => ⟨h1, h2⟩
  have C3 : Hid (∀ w g, BX W w [] g 2 [PK1, PK1] → Calls Try.prog 10 #[.pointer (some ⟨g, 0, none⟩), .agg Pk.zero.cells] w fun e w' => e = .returned (.bool false) ∧ BX W w' [] g 2 [PK1, PK1]) := fun w g h =>
    (h.putFull Pk.zero rfl).mono fun e w' ⟨h1, h2, _⟩ => ⟨h1, h2⟩
  have C4 : Hid (∀ w g, BX W w [] g 2 [PK1, PK1] → Calls Try.prog 13 #[.pointer (some ⟨g, 0, none⟩), .int .i64 1] w fun e w' => e = .returned (.tuple #[.agg PK1.cells, .bool true]) ∧ BX W w' [] g 2 [PK1]) := fun w g h =>
    (h.take 1 (p := PK1) rfl).mono fun e w' ⟨h1, h2, _⟩ => ⟨h1, h2⟩
  have C5 : Hid (∀ w g, BX W w [] g 2 [PK1] → Calls Try.prog 11 #[.pointer (some ⟨g, 0, none⟩)] w fun e w' => e = .returned (.int .i64 1) ∧ w' = w) := fun w g h => h.len rfl
  have C6 : Hid (∀ w g, BX W w [] g 2 [PK1] → Calls Try.prog 17 #[.pointer (some ⟨g, 0, none⟩), .int .i64 1, .int .i64 2] w fun e w' => e = .returned (.int .i64 1) ∧ BX W w' [] g 2 [PK1]) := fun w g h =>
    (h.on 1 2).mono fun e w' ⟨h1, h2, _⟩ => ⟨h1, h2⟩
  have hsz : (Try.prog.info? 38).map (·.size) = some PK1.cells.size := bg_infoP
  have hone := PK1.one
  have hold : Pk.zero.cells.size = PK1.cells.size := rfl
  go_enter Try.func8, Try.ntmps8
  go_wp2_with (first
    | (go_at_call 9; (with_reducible refine (C0.out).mono ?_); rintro e w1 ⟨rfl, h1, _⟩; have H1 := Lib.hid h1; clear h1)
    | (go_at_call 10; (with_reducible refine (C1.out _ _ H1.out).mono ?_); rintro e w2 ⟨rfl, h2⟩; have H2 := Lib.hid h2; clear h2)
    | (go_at_call 12; (with_reducible refine (C2.out _ _ H2.out).mono ?_); rintro e w3 ⟨rfl, h3⟩; have H3 := Lib.hid h3; clear h3)
    | (go_at_call 10; (with_reducible refine (C3.out _ _ H3.out).mono ?_); rintro e w4 ⟨rfl, h4⟩; have H4 := Lib.hid h4; clear h4)
    | (go_at_call 13; (with_reducible refine (C4.out _ _ H4.out).mono ?_); rintro e w5 ⟨rfl, h5⟩; have H5 := Lib.hid (h5.below (bg_new w5 Pk.zero.cells PK1.cells 38)); have s5 : ((w5.alloc (.cells Pk.zero.cells 38)).setRow w5.heap.size PK1.cells).cell? ⟨w5.heap.size, 2, none⟩ = some (.int .i64 3) := bg_cell (bg_row _ (heap_alloc_new w5 _)) rfl; clear h5)
    | (with_reducible (show wpList _ _ _ (⟨none, Op.store _ (Operand.tmp 2) _, _, _, _, _⟩ :: _) _ _); go_must (refine wpList_store_row rfl 38 (.tmp 2) (.tmp 26) rfl w5.heap.size PK1.cells rfl rfl 38 Pk.zero.cells (heap_alloc_new w5 _) hsz hold hone ?_))
    | (go_at_call 11; (with_reducible refine (C5.out _ _ H5.out).mono ?_); rintro e w6 ⟨rfl, rfl⟩)
    | (go_at_call 17; (with_reducible refine (C6.out _ _ H5.out).mono ?_); rintro e w7 ⟨rfl, h7⟩; have H7 := Lib.hid h7; clear h7))
  go_ret
  exact ⟨rfl, H7.out.1⟩
end Go.Proofs.Ytokgamagiffaeaa
