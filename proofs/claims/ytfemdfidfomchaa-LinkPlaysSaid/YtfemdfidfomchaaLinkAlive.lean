/-
  What each call makes of the first of two links; the first call of stage 9's statements.
-/
import Derived.Test.YtfemdfidfomchaaLinkBegin
namespace Go.Proofs.Ytfemdfidfomchaa
open Go.RowKit

section
variable {W w w1 : World} {P : List Nat} {g1 g2 : Nat} {s1 s2 : LS}
theorem TX.send (h : TX W w P g1 s1 g2 s2) (hok : s1.Ok) (k i : Int) : Calls Try.prog 13 #[.pointer (some ⟨g1, 0, none⟩), .agg (ltCells k i)] w fun e w' =>
    e = .returned (.agg (lpCells s1.me s1.peer ((s1.sent : Int) + 1) (s1.came : Nat) k i)) ∧ TX W w' P g1 (s1.push (LR.light k i)) g2 s2 ∧ KeepsB P w w' := by
  obtain ⟨F, x, back⟩ := h.call
  refine (x.send hok k i).mono ?_
  rintro e w' ⟨rfl, a, b⟩
  exact ⟨rfl, back w' [] _ a b (by simp), b.mono (by intro q hq; simp [hq])⟩
theorem TX.gotAck (h : TX W w P g1 s1 g2 s2) (hok : s1.Ok) (f t ak k i : Int) (hp : s1.takes ⟨f, t, 0, ak, LR.light k i⟩) : Calls Try.prog 17 #[.pointer (some ⟨g1, 0, none⟩), .agg (lpCells f t 0 ak k i)] w fun e w' =>
    e = .returned (.tuple #[.slice none 0 0, .agg (lpCells 0 0 0 0 0 0), .bool true]) ∧ TX W w' P g1 (s1.known ak) g2 s2 ∧ KeepsB P w w' := by
  obtain ⟨F, x, back⟩ := h.call
  refine (x.gotAck hok f t ak k i hp).mono ?_
  rintro e w' ⟨rfl, a, b⟩
  exact ⟨rfl, back w' [] _ a b (by simp), b.mono (by intro q hq; simp [hq])⟩
/-- what Got leaves of a packet with a letter, beside another link -/
def GotT (W w : World) (P : List Nat) (g1 : Nat) (s1 : LS) (g2 : Nat) (s2 : LS) (ak : Int) (q : Nat) (k i : Int) (e : Ending) (w' : World) : Prop :=
  ∃ ts c' ks' B c, Follows (s1.took ak q (LR.light k i)).came (s1.took ak q (LR.light k i)).kept ts c' ks' ∧ e = .returned (.tuple #[.slice B ts.length c, .agg (lpCells s1.me s1.peer 0 (c' : Nat) 0 0), .bool true]) ∧
    TX W w' ((Value.slice B ts.length c).ownBlock.toList ++ P) g1 {(s1.took ak q (LR.light k i)) with came := c', kept := ks'} g2 s2 ∧ KeepsB P w w' ∧ w'.ownsRow w.heap.size 51 21 (.slice B ts.length c) ts.length (rowC LR.cells ts)
theorem TX.gotNew (h : TX W w P g1 s1 g2 s2) (hok : s1.Ok) (hk : s1.kept.length < 90000) (f t ak k i : Int) (q : Nat) (hp : s1.takes ⟨f, t, (q : Nat), ak, LR.light k i⟩) (hq0 : 0 < q) (hqm : q ≤ 9223372036854775807) : Calls Try.prog 17 #[.pointer (some ⟨g1, 0, none⟩), .agg (lpCells f t (q : Nat) ak k i)] w (GotT W w P g1 s1 g2 s2 ak q k i) := by
  obtain ⟨F, x, back⟩ := h.call
  refine (x.gotNew hok hk f t ak k i q hp hq0 hqm).mono ?_
  rintro e w' ⟨ts, c', ks', B, c, a1, a2, a3, a4, a5⟩
  exact ⟨ts, c', ks', B, c, a1, a2, back w' _ _ a3 a4 (fun q hq => (a5.lt q (by simpa using hq)).1), a4.mono (by intro q hq; simp [hq]), a5⟩
theorem TX.tickNot (h : TX W w P g1 s1 g2 s2) (hok : s1.Ok) (hd : s1.due = false) : Calls Try.prog 15 #[.pointer (some ⟨g1, 0, none⟩)] w fun e w' => e = .returned (.slice none 0 0) ∧ TX W w' P g1 s1.tick g2 s2 ∧ KeepsB P w w' := by
  obtain ⟨F, x, back⟩ := h.call
  refine (x.tickNot hok hd).mono ?_
  rintro e w' ⟨rfl, a, b⟩
  exact ⟨rfl, back w' [] _ a b (by simp), b.mono (by intro q hq; simp [hq])⟩
def TickT (W w : World) (P : List Nat) (g1 : Nat) (s1 : LS) (g2 : Nat) (s2 : LS) (e : Ending) (w' : World) : Prop :=
  ∃ B c, e = .returned (.slice B s1.waits.length c) ∧ TX W w' ((Value.slice B s1.waits.length c).ownBlock.toList ++ P) g1 s1.again g2 s2 ∧ KeepsB P w w' ∧ w'.ownsRow w.heap.size 53 25 (.slice B s1.waits.length c) s1.waits.length (rowC PR.cells s1.sends)
theorem TX.tickDue (h : TX W w P g1 s1 g2 s2) (hok : s1.Ok) (hd : s1.due = true) : Calls Try.prog 15 #[.pointer (some ⟨g1, 0, none⟩)] w (TickT W w P g1 s1 g2 s2) := by
  obtain ⟨F, x, back⟩ := h.call
  refine (x.tickDue hok hd).mono ?_
  rintro e w' ⟨B, c, rfl, a, b, d⟩
  exact ⟨B, c, rfl, back w' _ _ a b (fun q hq => (d.lt q (by simpa using hq)).1), b.mono (by intro q hq; simp [hq]), d⟩
end
theorem wpList_store_lp {ops : Array Oper} {rest : List Oper} {o : Oper} {a : Act} {w : World} {Q : Exit → Act → World → Prop} (hgd : o.guard = none) (x y : Operand) (ho : o.op = .store 53 x y) (g : Nat) (f t s ak k i : Int)
    (hx : a.eval x = .pointer (some ⟨g, 0, none⟩)) (hy : a.eval y = .agg (lpCells f t s ak k i)) (hg : w.heap[g]? = some (.cells (lpCells 0 0 0 0 0 0) 53)) (h : wpList Try.prog ops Q rest (a.put o.dst undef) (w.setRow g (lpCells f t s ak k i))) : wpList Try.prog ops Q (o :: rest) a w :=
  wpList_store_row hgd 53 x y ho g (lpCells f t s ak k i) hx hy 53 (lpCells 0 0 0 0 0 0) hg bg_infoP rfl (PR.one (p := ⟨f, t, s, ak, LR.light k i⟩) (light_sl k i)) h
theorem wpList_load_lp {ops : Array Oper} {rest : List Oper} {o : Oper} {a : Act} {w : World} {Q : Exit → Act → World → Prop} (hgd : o.guard = none) (x : Operand) (ho : o.op = .load 53 x) (g : Nat) (f t s ak k i : Int)
    (hx : a.eval x = .pointer (some ⟨g, 0, none⟩)) (hg : w.heap[g]? = some (.cells (lpCells f t s ak k i) 53)) (h : wpList Try.prog ops Q rest (a.put o.dst (.agg (lpCells f t s ak k i))) w) : wpList Try.prog ops Q (o :: rest) a w :=
  wpList_load_row hgd 53 x ho g hx 53 (lpCells f t s ak k i) (0, 0) _ hg Try.underlying53 rfl bg_infoP h
/-- a box of a packet was made, and filled at once -/
theorem lp_box (w : World) (f t s ak k i : Int) : Below w.heap.size w ((w.alloc (.cells (lpCells 0 0 0 0 0 0) 53)).setRow w.heap.size (lpCells f t s ak k i)) ∧ ((w.alloc (.cells (lpCells 0 0 0 0 0 0) 53)).setRow w.heap.size (lpCells f t s ak k i)).heap[w.heap.size]? = some (.cells (lpCells f t s ak k i) 53) :=
  ⟨bg_new w _ _ _, bg_row _ (heap_alloc_new w _)⟩
/-- two boxes were made, and filled -/
theorem lp_box2 (w : World) (f t s ak k i f' t' s' ak' k' i' : Int) :
    (((w.alloc (.cells (lpCells 0 0 0 0 0 0) 53)).alloc (.cells (lpCells 0 0 0 0 0 0) 53)).setRow w.heap.size (lpCells f t s ak k i)).heap[w.heap.size + 1]? = some (.cells (lpCells 0 0 0 0 0 0) 53) ∧
    Below w.heap.size w ((((w.alloc (.cells (lpCells 0 0 0 0 0 0) 53)).alloc (.cells (lpCells 0 0 0 0 0 0) 53)).setRow w.heap.size (lpCells f t s ak k i)).setRow (w.heap.size + 1) (lpCells f' t' s' ak' k' i')) ∧
    ((((w.alloc (.cells (lpCells 0 0 0 0 0 0) 53)).alloc (.cells (lpCells 0 0 0 0 0 0) 53)).setRow w.heap.size (lpCells f t s ak k i)).setRow (w.heap.size + 1) (lpCells f' t' s' ak' k' i')).heap[w.heap.size]? = some (.cells (lpCells f t s ak k i) 53) ∧
    ((((w.alloc (.cells (lpCells 0 0 0 0 0 0) 53)).alloc (.cells (lpCells 0 0 0 0 0 0) 53)).setRow w.heap.size (lpCells f t s ak k i)).setRow (w.heap.size + 1) (lpCells f' t' s' ak' k' i')).heap[w.heap.size + 1]? = some (.cells (lpCells f' t' s' ak' k' i') 53) := by
  have e1 := (Lib.alloc_old (w.alloc (.cells (lpCells 0 0 0 0 0 0) 53)) (.cells (lpCells 0 0 0 0 0 0) 53) w.heap.size (by simp)).trans (heap_alloc_new w _)
  have e2 : ((w.alloc (.cells (lpCells 0 0 0 0 0 0) 53)).alloc (.cells (lpCells 0 0 0 0 0 0) 53)).heap[w.heap.size + 1]? = some (.cells (lpCells 0 0 0 0 0 0) 53) := by
    have := heap_alloc_new (w.alloc (.cells (lpCells 0 0 0 0 0 0) 53)) (.cells (lpCells 0 0 0 0 0 0) 53)
    simpa using this
  have t1 := bg_touch ((w.alloc (.cells (lpCells 0 0 0 0 0 0) 53)).alloc (.cells (lpCells 0 0 0 0 0 0) 53)) w.heap.size (lpCells f t s ak k i)
  have e3 := (t1.block (w.heap.size + 1) (bg_lt e2) (by simp)).trans e2
  have e4 := bg_row (lpCells f t s ak k i) e1
  have t2 := bg_touch (((w.alloc (.cells (lpCells 0 0 0 0 0 0) 53)).alloc (.cells (lpCells 0 0 0 0 0 0) 53)).setRow w.heap.size (lpCells f t s ak k i)) (w.heap.size + 1) (lpCells f' t' s' ak' k' i')
  exact ⟨e3, ((((Below.refl _ _).alloc (Nat.le_refl _) _).alloc (by simp) _).trans (bg_below _ (Nat.le_refl _))).trans (bg_below _ (by omega)), (t2.block w.heap.size (bg_lt e4) (by simp)).trans e4, bg_row _ e3⟩
theorem new_ok (me peer : Int) : (LS.new me peer).Ok := ⟨by simp, by simp, by simp, by simp, by simp, by simp⟩
abbrev AL1 : LS := ⟨1, 2, 1, [(LR.light 1 0, 0)], 0, [], 0⟩
abbrev AL2 : LS := ⟨1, 2, 2, [(LR.light 1 0, 0), (LR.light 2 0, 0)], 0, [], 0⟩
abbrev AL3 : LS := ⟨1, 2, 2, [], 0, [], 0⟩
abbrev BL1 : LS := ⟨2, 1, 0, [], 0, [(2, LR.light 2 0)], 0⟩
abbrev BL2 : LS := ⟨2, 1, 0, [], 2, [], 0⟩
theorem fol_b1 {ts : List LR} {c' : Nat} {ks' : List (Nat × LR)} (h : Follows 0 [(2, LR.light 2 0)] ts c' ks') : ts = [] ∧ c' = 0 ∧ ks' = [(2, LR.light 2 0)] := by
  cases h with
  | stop h => exact ⟨rfl, rfl, rfl⟩
  | step hx he hf h =>
    rename_i i x ts
    have := List.mem_of_getElem? hx
    simp at this
    subst this
    simp at he
theorem fol_b2 {ts : List LR} {c' : Nat} {ks' : List (Nat × LR)} (h : Follows 0 [(2, LR.light 2 0), (1, LR.light 1 0)] ts c' ks') : ts = [LR.light 1 0, LR.light 2 0] ∧ c' = 2 ∧ ks' = [] := by
  cases h with
  | stop h => exact absurd rfl (h (1, LR.light 1 0) (by simp))
  | step hx he hf h =>
    rename_i i x ts
    rcases i with _ | _ | i
    · simp at hx; subst hx; simp at he
    · simp at hx
      subst hx
      simp at h
      cases h with
      | stop h => exact absurd rfl (h (2, LR.light 2 0) (by simp))
      | step hx he hf h =>
        rename_i i x ts
        rcases i with _ | i
        · simp at hx
          subst hx
          simp at h
          cases h with
          | stop h => exact ⟨rfl, rfl, rfl⟩
          | step hx he hf h => simp at hx
        · simp at hx
    · simp at hx
set_option maxRecDepth 20000 in
set_option maxHeartbeats 8000000 in
theorem linkAlive_any (W : World) : Calls Try.prog 10 #[] W fun e w' => e = .returned (.bool true) ∧ Below W.heap.size W w' := by
  have C1 : Hid (Calls Try.prog 11 #[.int .i64 1, .int .i64 2] W fun e w' => e = .returned (.pointer (some ⟨W.heap.size, 0, none⟩)) ∧ LX W w' [] W.heap.size (LS.new 1 2) ∧ Below W.heap.size W w') := LX.new (Below.refl _ _) (by simp) 1 2
  have C2 : Hid (∀ w, LX W w [] W.heap.size (LS.new 1 2) → Calls Try.prog 11 #[.int .i64 2, .int .i64 1] w fun e w' => e = .returned (.pointer (some ⟨w.heap.size, 0, none⟩)) ∧ TX W w' [] W.heap.size (LS.new 1 2) w.heap.size (LS.new 2 1) ∧ Below w.heap.size w w') := fun w h => h.new2 2 1
  have C3 : Hid (∀ w g2, TX W w [] W.heap.size (LS.new 1 2) g2 (LS.new 2 1) → Calls Try.prog 13 #[.pointer (some ⟨W.heap.size, 0, none⟩), .agg (ltCells 1 0)] w fun e w' => e = .returned (.agg (lpCells 1 2 1 0 1 0)) ∧ TX W w' [] W.heap.size AL1 g2 (LS.new 2 1)) := fun w g2 h => (h.send (new_ok 1 2) 1 0).mono fun e w' ⟨a, b, c⟩ => ⟨a, b⟩
  have C4 : Hid (∀ w g2, TX W w [] W.heap.size AL1 g2 (LS.new 2 1) → Calls Try.prog 13 #[.pointer (some ⟨W.heap.size, 0, none⟩), .agg (ltCells 2 0)] w fun e w' => e = .returned (.agg (lpCells 1 2 2 0 2 0)) ∧ TX W w' [] W.heap.size AL2 g2 (LS.new 2 1)) := fun w g2 h => (h.send ⟨by simp, by simp, by simp, by simp, by simp, by simp⟩ 2 0).mono fun e w' ⟨a, b, c⟩ => ⟨a, b⟩
  have C5 : Hid (∀ w g2 P, TX W w P W.heap.size AL2 g2 (LS.new 2 1) → Calls Try.prog 17 #[.pointer (some ⟨g2, 0, none⟩), .agg (lpCells 1 2 2 0 2 0)] w fun e w' => ∃ B c, e = .returned (.tuple #[.slice B 0 c, .agg (lpCells 2 1 0 0 0 0), .bool true]) ∧ TX W w' P W.heap.size AL2 g2 BL1 ∧ KeepsB P w w') := fun w g2 P h =>
    (h.swap.gotNew (new_ok 2 1) (by simp) 1 2 0 2 0 2 ⟨rfl, rfl, by simp, by simp, by simp⟩ (by decide) (by decide)).mono fun e w' ⟨ts, c', ks', B, c, a1, a2, a3, a4, a5⟩ => by
      obtain ⟨rfl, rfl, rfl⟩ := fol_b1 a1
      exact ⟨B, c, a2, (a3.less (fun q hq => by simp [hq])).swap, a4⟩
  have C6 : Hid (∀ w g2 P, TX W w P W.heap.size AL2 g2 BL1 → Calls Try.prog 17 #[.pointer (some ⟨g2, 0, none⟩), .agg (lpCells 1 2 1 0 1 0)] w fun e w' => ∃ b c, e = .returned (.tuple #[.slice (some ⟨b, 0, none⟩) 2 c, .agg (lpCells 2 1 0 2 0 0), .bool true]) ∧ TX W w' (b :: P) W.heap.size AL2 g2 BL2 ∧ KeepsB P w w' ∧ w'.cell? ⟨b, 0, none⟩ = some (.int .i64 1)) := fun w g2 P h =>
    (h.swap.gotNew ⟨by simp, by simp, by simp, by simp, by simp, by simp⟩ (by simp) 1 2 0 1 0 1 ⟨rfl, rfl, by simp, by simp, by simp⟩ (by decide) (by decide)).mono fun e w' ⟨ts, c', ks', B, c, a1, a2, a3, a4, a5⟩ => by
      obtain ⟨rfl, rfl, rfl⟩ := fol_b2 a1
      obtain ⟨b, rfl⟩ := lk_at a5 (by decide)
      refine ⟨b, c, a2, a3.swap, a4, ?_⟩
      exact a5.cellAt 0 (by decide)
  have C7 : Hid (∀ w g2 P, TX W w P W.heap.size AL2 g2 BL2 → Calls Try.prog 17 #[.pointer (some ⟨W.heap.size, 0, none⟩), .agg (lpCells 2 1 0 2 0 0)] w fun e w' => e = .returned (.tuple #[.slice none 0 0, .agg (lpCells 0 0 0 0 0 0), .bool true]) ∧ TX W w' P W.heap.size AL3 g2 BL2 ∧ KeepsB P w w') := fun w g2 P h =>
    (h.gotAck ⟨by simp, by simp, by simp, by simp, by simp, by simp⟩ 2 1 2 0 0 ⟨rfl, rfl, by simp, by simp, by simp⟩)
  have C8 : Hid (∀ w g2 P, TX W w P W.heap.size AL3 g2 BL2 → Calls Try.prog 21 #[.pointer (some ⟨W.heap.size, 0, none⟩)] w fun e w' => e = .returned (.int .i64 0) ∧ w' = w) := fun w g2 P h => h.left.waits
  have C9 : Hid (∀ w g2 P, TX W w P W.heap.size AL3 g2 BL2 → Calls Try.prog 23 #[.pointer (some ⟨W.heap.size, 0, none⟩)] w fun e w' => e = .returned (.bool true) ∧ w' = w) := fun w g2 P h => h.left.rest
  have C10 : Hid (∀ w g2 P, TX W w P W.heap.size AL3 g2 BL2 → Calls Try.prog 22 #[.pointer (some ⟨g2, 0, none⟩)] w fun e w' => e = .returned (.int .i64 2) ∧ w' = w) := fun w g2 P h => h.right.came
  go_enter Try.func10, Try.ntmps10
  go_upto_region 4 with (first
    | (go_at_call 11; (with_reducible refine C1.out.mono ?_); rintro e w1 ⟨rfl, h1, _⟩; have H1 := Lib.hid h1; clear h1)
    | (go_at_call 11; (with_reducible refine (C2.out _ H1.out).mono ?_); rintro e w2 ⟨rfl, h2, _⟩; have H2 := Lib.hid h2; clear h2))
  obtain ⟨gb, hgb⟩ : ∃ gb, w1.heap.size = gb := ⟨_, rfl⟩
  rw [hgb] at H2 ⊢
  clear hgb C1 C2 H1
  go_upto_region 5 with (first
    | (go_at_call 13; (with_reducible refine (C3.out _ _ H2.out).mono ?_); rintro e w3 ⟨rfl, h3⟩; have H3 := Lib.hid h3; clear h3)
    | (go_at_call 13; (with_reducible refine (C4.out _ _ H3.out).mono ?_); rintro e w4 ⟨rfl, h4⟩; have H4 := Lib.hid h4; have e3 := (Lib.alloc_old (w4.alloc (.cells (lpCells 0 0 0 0 0 0) 53)) (.cells (lpCells 0 0 0 0 0 0) 53) w4.heap.size (by simp)).trans (heap_alloc_new w4 _); clear h4)
    | (with_reducible (show wpList _ _ _ (⟨none, Op.store _ (Operand.tmp 3) _, _, _, _, _⟩ :: _) _ _); go_must (refine wpList_store_lp rfl (.tmp 3) (.tmp 21) rfl w4.heap.size 1 2 1 0 1 0 rfl rfl e3 ?_))
    | (with_reducible (show wpList _ _ _ (⟨none, Op.store _ (Operand.tmp 4) _, _, _, _, _⟩ :: _) _ _); go_must (refine wpList_store_lp rfl (.tmp 4) (.tmp 24) rfl (w4.heap.size + 1) 1 2 2 0 2 0 rfl rfl (lp_box2 w4 1 2 1 0 1 0 0 0 0 0 0 0).1 ?_)))
  obtain ⟨_, B5, p3, p4⟩ := lp_box2 w4 1 2 1 0 1 0 1 2 2 0 2 0
  have h5 := H4.out.more B5 (Q := [w4.heap.size, w4.heap.size + 1]) (fun q hq => by have := bg_lt p4; simp at hq this; rcases hq with rfl | rfl <;> simp <;> omega)
  obtain ⟨bp, hbp⟩ : ∃ bp, w4.heap.size = bp := ⟨_, rfl⟩
  obtain ⟨w5, hw5⟩ : ∃ w5, (((w4.alloc (.cells (lpCells 0 0 0 0 0 0) 53)).alloc (.cells (lpCells 0 0 0 0 0 0) 53)).setRow w4.heap.size (lpCells 1 2 1 0 1 0)).setRow (w4.heap.size + 1) (lpCells 1 2 2 0 2 0) = w5 := ⟨_, rfl⟩
  rw [hw5] at h5 p3 p4 ⊢
  rw [hbp] at h5 p3 p4 ⊢
  have H5 := Lib.hid h5
  clear hw5 hbp B5 h5 e3 H4 C3 C4 H3 H2
  go_upto_region 6 with (first
    | (with_reducible (show wpList _ _ _ (⟨some 27, Op.load _ _, _, _, _, _⟩ :: _) _ _); go_must (refine wpList_load_lp rfl (.tmp 4) rfl (bp + 1) 1 2 2 0 2 0 rfl p4 ?_))
    | (go_at_call 17; (with_reducible refine (C5.out _ _ _ H5.out).mono ?_); rintro e w6 ⟨B6, c6, rfl, h6, k6⟩; have H6 := Lib.hid (h6.below (lp_box w6 2 1 0 0 0 0).1); have p36 := ((lp_box w6 2 1 0 0 0 0).1.block bp (bg_lt (k6.heap (by simp) p3))).trans (k6.heap (by simp) p3); clear h6 k6)
    | (with_reducible (show wpList _ _ _ (⟨none, Op.store _ (Operand.tmp 6) _, _, _, _, _⟩ :: _) _ _); go_must (refine wpList_store_lp rfl (.tmp 6) (.tmp 30) rfl w6.heap.size 2 1 0 0 0 0 rfl rfl (heap_alloc_new w6 _) ?_)))
  obtain ⟨w7, hw7⟩ : ∃ w7, (w6.alloc (.cells (lpCells 0 0 0 0 0 0) 53)).setRow w6.heap.size (lpCells 2 1 0 0 0 0) = w7 := ⟨_, rfl⟩
  rw [hw7] at H6 p36 ⊢
  clear hw7 p3 p4 H5 C5
  go_upto_region 7 with (first
    | (with_reducible (show wpList _ _ _ (⟨some 34, Op.load _ _, _, _, _, _⟩ :: _) _ _); go_must (refine wpList_load_lp rfl (.tmp 3) rfl bp 1 2 1 0 1 0 rfl p36 ?_))
    | (go_at_call 17; (with_reducible refine (C6.out _ _ _ H6.out).mono ?_); rintro e w8 ⟨b8, c8, rfl, h8, k8, x8⟩; have H8 := Lib.hid (h8.more (lp_box w8 2 1 0 2 0 0).1 (Q := [w8.heap.size]) (fun q hq => by have := bg_lt (lp_box w8 2 1 0 2 0 0).2; simp at hq this; simp [hq])); have x89 := ((lp_box w8 2 1 0 2 0 0).1.cell (p := ⟨b8, 0, none⟩) (World.block_lt_of_cell? w8 _ x8)).trans x8; have p9 := (lp_box w8 2 1 0 2 0 0).2; clear h8 k8 x8)
    | (with_reducible (show wpList _ _ _ (⟨none, Op.store _ (Operand.tmp 9) _, _, _, _, _⟩ :: _) _ _); go_must (refine wpList_store_lp rfl (.tmp 9) (.tmp 37) rfl w8.heap.size 2 1 0 2 0 0 rfl rfl (heap_alloc_new w8 _) ?_)))
  obtain ⟨b9, hb9⟩ : ∃ b9, w8.heap.size = b9 := ⟨_, rfl⟩
  obtain ⟨w9, hw9⟩ : ∃ w9, (w8.alloc (.cells (lpCells 0 0 0 0 0 0) 53)).setRow w8.heap.size (lpCells 2 1 0 2 0 0) = w9 := ⟨_, rfl⟩
  rw [hw9] at H8 p9 x89 ⊢
  rw [hb9] at H8 p9 ⊢
  clear hw9 hb9 p36 H6 C6
  go_upto_region 8 with (first
    | (with_reducible (show wpList _ _ _ (⟨some 40, Op.load _ _, _, _, _, _⟩ :: _) _ _); go_must (refine wpList_load_lp rfl (.tmp 9) rfl b9 2 1 0 2 0 0 rfl p9 ?_))
    | (go_at_call 17; (with_reducible refine (C7.out _ _ _ H8.out).mono ?_); rintro e w10 ⟨rfl, h10, k10⟩; have y1 := bg_cell (k10.heap (by simp) p9) (o := 3) rfl; have y2 : w10.cell? ⟨b8, 0, none⟩ = some (.int .i64 1) := (by obtain ⟨G, t, n⟩ := k10; exact (t.cell (World.block_lt_of_cell? w9 _ x89) (n b8 (by simp))).trans x89); have H10 := Lib.hid h10; clear h10 k10))
  go_wp2_with (first
    | (go_at_call 21; (with_reducible refine (C8.out _ _ _ H10.out).mono ?_); rintro e w11 ⟨rfl, rfl⟩)
    | (go_at_call 23; (with_reducible refine (C9.out _ _ _ H10.out).mono ?_); rintro e w11 ⟨rfl, rfl⟩)
    | (go_at_call 22; (with_reducible refine (C10.out _ _ _ H10.out).mono ?_); rintro e w11 ⟨rfl, rfl⟩))
  go_ret
  exact ⟨rfl, H10.out.left.base⟩
end Go.Proofs.Ytfemdfidfomchaa
