/-
  Package letter's fields, walked: what each reads.
-/
import Derived.Test.YtbnmddopgbhapaaGreatLetRead
namespace Go.Proofs.YtbnmddopgbhapaaGreat
open Go.RowKit

theorem heap_set {w : World} {b o : Nat} {cs : Array Value} {T : TypeId} (v : Value) (hb : w.heap[b]? = some (.cells cs T)) : (w.setCell ⟨b, o, none⟩ v).heap[b]? = some (.cells (cs.setIfInBounds o v) T) := by
  simp [World.setCell, Array.getElem?_modify, hb]
theorem cell_at {w : World} {b o : Nat} {cs : Array Value} {T : TypeId} {v : Value} (hb : w.heap[b]? = some (.cells cs T)) (hv : cs[o]? = some v) : w.cell? ⟨b, o, none⟩ = some v := by rw [Lib.cell_of_heap hb, hv]
theorem frozen_at {w : World} {b o : Nat} {cs : Array Value} {T : TypeId} (hb : w.heap[b]? = some (.cells cs T)) : w.frozen? ⟨b, o, none⟩ = false := Lib.frozen_of_heap hb o
theorem set_at {cs : Array Value} {o : Nat} {old : Value} (v : Value) (h : cs[o]? = some old) : (cs.setIfInBounds o v)[o]? = some v := by
  have : o < cs.size := by
    rcases Nat.lt_or_ge o cs.size with h' | h'
    · exact h'
    · rw [Array.getElem?_eq_none h'] at h; cases h
  simp [this]
theorem Touch.ofGr {g : Nat} {F : List Nat} {a b : World} (h : Gr g a b) (hg : g ∈ F) : Touch F a b := ⟨h.os, h.tape, h.output, h.size, fun k hk hn => h.block k hk (fun e => hn (by rw [Option.some.inj e]; exact hg))⟩
theorem RdO.touch {W W1 : World} {g : Nat} {o : Option ByteArray} {F : List Nat} (h : RdO W g o) (ht : Touch F W W1) (hg : g ∉ F) : RdO W1 g o := Rq.of_block h ht.size (ht.block g h.1 hg)
theorem RdO.below_ {W W1 : World} {g : Nat} {o : Option ByteArray} (h : RdO W g o) (hb : Below W.heap.size W W1) : RdO W1 g o := Rq.below h hb
/-- block b, as it lies: what is read into its cell n is v; the reader in g goes on -/
def GotPost (W : World) (b o g : Nat) (cs : Array Value) (T : TypeId) (v : Value) (s : Option ByteArray) (ok : Bool) (e : Ending) (w' : World) : Prop :=
  e = .returned (.bool ok) ∧ RdO w' g s ∧ w'.heap[b]? = some (.cells (cs.setIfInBounds o v) T) ∧ Touch [b, g] W w'

set_option maxRecDepth 20000 in
set_option maxHeartbeats 1000000 in
theorem numget_any (b o g : Nat) (lo hi : Int) (cs : Array Value) (T : TypeId) (s : Option ByteArray) (W : World) (hb : W.heap[b]? = some (.cells cs T)) (hold : cs[o]? = some (.int .i64 0)) (hR : RdO W g s) (hne : b ≠ g) (hs : sizeO s ≤ 9223372036854775807) :
    Calls Tryz.prog 129 #[.agg #[.pointer (some ⟨b, o, none⟩), .int .i64 lo, .int .i64 hi], .pointer (some ⟨g, 0, none⟩)] W (GotPost W b o g cs T (.int .i64 (numO s 2 : Nat)) (restO s 2) (decide (lo ≤ (numO s 2 : Nat) ∧ ((numO s 2 : Nat) : Int) ≤ hi))) := by
  have hg1 : g < W.heap.size := hR.1
  have hbl := lt_of_heap hb
  obtain ⟨k0, k1, k2⟩ := box3 W (.pointer (some ⟨b, o, none⟩)) (.int .i64 lo) (.int .i64 hi) 150
  have T0 : Touch [b, g] W (W.alloc (.cells #[.pointer (some ⟨b, o, none⟩), .int .i64 lo, .int .i64 hi] 150)) := (Touch.refl _ _).alloc _
  have hb1 : (W.alloc (.cells #[.pointer (some ⟨b, o, none⟩), .int .i64 lo, .int .i64 hi] 150)).heap[b]? = some (.cells cs T) := (Lib.alloc_old W _ b hbl).trans hb
  have hR1 : RdO (W.alloc (.cells #[.pointer (some ⟨b, o, none⟩), .int .i64 lo, .int .i64 hi] 150)) g s := Rq.alloc hR _
  have HN0 : Hid (∀ w, Gr g (W.alloc (.cells #[.pointer (some ⟨b, o, none⟩), .int .i64 lo, .int .i64 hi] 150)) w → At w ⟨W.heap.size, 0, none⟩ (.pointer (some ⟨b, o, none⟩)) ∧ At w ⟨W.heap.size, 1, none⟩ (.int .i64 lo) ∧ At w ⟨W.heap.size, 2, none⟩ (.int .i64 hi) ∧ w.heap[b]? = some (.cells cs T)) := fun w h =>
    have f : ∀ (j : Nat) v, At (W.alloc (.cells #[.pointer (some ⟨b, o, none⟩), .int .i64 lo, .int .i64 hi] 150)) ⟨W.heap.size, j, none⟩ v → At w ⟨W.heap.size, j, none⟩ v := fun j v ha => ⟨Nat.lt_of_lt_of_le ha.1 h.size, (World.cell?_of_block (a := ⟨W.heap.size, j, none⟩) (h.block W.heap.size ha.1 (fun e => by have := Option.some.inj e; omega))).trans ha.2⟩
    ⟨f 0 _ k0, f 1 _ k1, f 2 _ k2, (h.block b (lt_of_heap hb1) (fun e => hne (Option.some.inj e))).trans hb1⟩
  have CN := Lib.hid (rnum_any g s _ (RdO.below_ hR1 (Below.refl _ _).drew) hs)
  have HT0 := Lib.hid T0
  have HNE := Lib.hid hne
  have z0 := k0.2
  generalize numO s 2 = v at *
  generalize restO s 2 = r at *
  generalize hok : decide (lo ≤ (v : Int) ∧ (v : Int) ≤ hi) = ok
  clear hR hb hb1 hR1 k0 k1 k2 T0 hs
  have key : ∀ w1, RdO w1 g r → Gr g (W.alloc (.cells #[.pointer (some ⟨b, o, none⟩), .int .i64 lo, .int .i64 hi] 150)) w1 → Hid (At (w1.setCell ⟨b, o, none⟩ (.int .i64 (v : Nat))) ⟨b, o, none⟩ (.int .i64 (v : Nat)) ∧ RdO (w1.setCell ⟨b, o, none⟩ (.int .i64 (v : Nat))) g r ∧ (w1.setCell ⟨b, o, none⟩ (.int .i64 (v : Nat))).heap[b]? = some (.cells (cs.setIfInBounds o (.int .i64 (v : Nat))) T) ∧ Touch [b, g] W (w1.setCell ⟨b, o, none⟩ (.int .i64 (v : Nat)))) := fun w1 h1 h2 => by
    obtain ⟨_, _, _, q⟩ := HN0.out w1 h2
    have q2 := heap_set (o := o) (.int .i64 (v : Nat)) q
    exact ⟨⟨lt_of_heap q2, cell_at q2 (set_at _ hold)⟩, RdO.touch (F := [b]) h1 ((Touch.refl _ _).set (.inl (by simp)) _) (by simp; exact fun e => HNE.out e.symm), q2, ((HT0.out.trans (Touch.ofGr h2 (by simp)) (fun x hx => .inl hx))).set (.inl (by simp)) _⟩
  go_enter Tryz.func129, Tryz.ntmps129
  go_wp2
  go_region_with (go_at_call 133; ((with_reducible refine (CN.out).mono ?_); rintro e w1 ⟨rfl, hr, hgr0⟩; have hgr := (Gr.refl g (W.alloc (.cells #[.pointer (some ⟨b, o, none⟩), .int .i64 lo, .int .i64 hi] 150))).drew.trans hgr0; clear hgr0; obtain ⟨y0, y1, y2, y3⟩ := HN0.out w1 hgr; have c0 := y0.2; have c1 := y1.2; have c2 := y2.2; have c3 := cell_at y3 hold; have c4 := frozen_at (o := o) y3; have K := key w1 hr hgr; clear y0 y1 y2 y3 hr hgr))
  all_goals (
    have CR0 := numright_any ⟨b, o, none⟩ lo hi v _ K.out.1
    rw [hok] at CR0
    have CR := Lib.hid CR0
    clear CR0 hok
    go_wp2_with (go_at_call 131; ((with_reducible refine (CR.out).mono ?_); rintro e w2 ⟨rfl, hb2⟩))
    go_ret
    obtain ⟨q1, q2, q3, q4⟩ := K.out
    exact ⟨rfl, RdO.below_ q2 hb2, (hb2.block b q1.1).trans q3, q4.trans (Touch.ofBelow (F := []) hb2) (by simp)⟩)
set_option maxRecDepth 20000 in
set_option maxHeartbeats 1000000 in
theorem errget_any (b o g : Nat) (lo hi : Int) (cs : Array Value) (T : TypeId) (s : Option ByteArray) (W : World) (hb : W.heap[b]? = some (.cells cs T)) (hold : cs[o]? = some (.int .i64 0)) (hR : RdO W g s) (hne : b ≠ g) (hs : sizeO s ≤ 9223372036854775807) :
    Calls Tryz.prog 134 #[.agg #[.pointer (some ⟨b, o, none⟩), .int .i64 lo, .int .i64 hi], .pointer (some ⟨g, 0, none⟩)] W (GotPost W b o g cs T (.int .i64 (numO s 2 : Nat)) (restO s 2) (decide (lo ≤ (numO s 2 : Nat) ∧ ((numO s 2 : Nat) : Int) ≤ hi))) := by
  have hg1 : g < W.heap.size := hR.1
  have hbl := lt_of_heap hb
  obtain ⟨k0, k1, k2⟩ := box3 W (.pointer (some ⟨b, o, none⟩)) (.int .i64 lo) (.int .i64 hi) 152
  have T0 : Touch [b, g] W (W.alloc (.cells #[.pointer (some ⟨b, o, none⟩), .int .i64 lo, .int .i64 hi] 152)) := (Touch.refl _ _).alloc _
  have hb1 : (W.alloc (.cells #[.pointer (some ⟨b, o, none⟩), .int .i64 lo, .int .i64 hi] 152)).heap[b]? = some (.cells cs T) := (Lib.alloc_old W _ b hbl).trans hb
  have hR1 : RdO (W.alloc (.cells #[.pointer (some ⟨b, o, none⟩), .int .i64 lo, .int .i64 hi] 152)) g s := Rq.alloc hR _
  have HN0 : Hid (∀ w, Gr g (W.alloc (.cells #[.pointer (some ⟨b, o, none⟩), .int .i64 lo, .int .i64 hi] 152)) w → At w ⟨W.heap.size, 0, none⟩ (.pointer (some ⟨b, o, none⟩)) ∧ At w ⟨W.heap.size, 1, none⟩ (.int .i64 lo) ∧ At w ⟨W.heap.size, 2, none⟩ (.int .i64 hi) ∧ w.heap[b]? = some (.cells cs T)) := fun w h =>
    have f : ∀ (j : Nat) v, At (W.alloc (.cells #[.pointer (some ⟨b, o, none⟩), .int .i64 lo, .int .i64 hi] 152)) ⟨W.heap.size, j, none⟩ v → At w ⟨W.heap.size, j, none⟩ v := fun j v ha => ⟨Nat.lt_of_lt_of_le ha.1 h.size, (World.cell?_of_block (a := ⟨W.heap.size, j, none⟩) (h.block W.heap.size ha.1 (fun e => by have := Option.some.inj e; omega))).trans ha.2⟩
    ⟨f 0 _ k0, f 1 _ k1, f 2 _ k2, (h.block b (lt_of_heap hb1) (fun e => hne (Option.some.inj e))).trans hb1⟩
  have CN := Lib.hid (rnum_any g s _ (RdO.below_ hR1 (Below.refl _ _).drew) hs)
  have HT0 := Lib.hid T0
  have HNE := Lib.hid hne
  have z0 := k0.2
  generalize numO s 2 = v at *
  generalize restO s 2 = r at *
  generalize hok : decide (lo ≤ (v : Int) ∧ (v : Int) ≤ hi) = ok
  clear hR hb hb1 hR1 k0 k1 k2 T0 hs
  have key : ∀ w1, RdO w1 g r → Gr g (W.alloc (.cells #[.pointer (some ⟨b, o, none⟩), .int .i64 lo, .int .i64 hi] 152)) w1 → Hid (At (w1.setCell ⟨b, o, none⟩ (.int .i64 (v : Nat))) ⟨b, o, none⟩ (.int .i64 (v : Nat)) ∧ RdO (w1.setCell ⟨b, o, none⟩ (.int .i64 (v : Nat))) g r ∧ (w1.setCell ⟨b, o, none⟩ (.int .i64 (v : Nat))).heap[b]? = some (.cells (cs.setIfInBounds o (.int .i64 (v : Nat))) T) ∧ Touch [b, g] W (w1.setCell ⟨b, o, none⟩ (.int .i64 (v : Nat)))) := fun w1 h1 h2 => by
    obtain ⟨_, _, _, q⟩ := HN0.out w1 h2
    have q2 := heap_set (o := o) (.int .i64 (v : Nat)) q
    exact ⟨⟨lt_of_heap q2, cell_at q2 (set_at _ hold)⟩, RdO.touch (F := [b]) h1 ((Touch.refl _ _).set (.inl (by simp)) _) (by simp; exact fun e => HNE.out e.symm), q2, ((HT0.out.trans (Touch.ofGr h2 (by simp)) (fun x hx => .inl hx))).set (.inl (by simp)) _⟩
  go_enter Tryz.func134, Tryz.ntmps134
  go_wp2
  go_region_with (go_at_call 133; ((with_reducible refine (CN.out).mono ?_); rintro e w1 ⟨rfl, hr, hgr0⟩; have hgr := (Gr.refl g (W.alloc (.cells #[.pointer (some ⟨b, o, none⟩), .int .i64 lo, .int .i64 hi] 152))).drew.trans hgr0; clear hgr0; obtain ⟨y0, y1, y2, y3⟩ := HN0.out w1 hgr; have c0 := y0.2; have c1 := y1.2; have c2 := y2.2; have c3 := cell_at y3 hold; have c4 := frozen_at (o := o) y3; have K := key w1 hr hgr; clear y0 y1 y2 y3 hr hgr))
  all_goals (
    have CR0 := errright_any ⟨b, o, none⟩ lo hi v _ K.out.1
    rw [hok] at CR0
    have CR := Lib.hid CR0
    clear CR0 hok
    go_wp2_with (go_at_call 136; ((with_reducible refine (CR.out).mono ?_); rintro e w2 ⟨rfl, hb2⟩))
    go_ret
    obtain ⟨q1, q2, q3, q4⟩ := K.out
    exact ⟨rfl, RdO.below_ q2 hb2, (hb2.block b q1.1).trans q3, q4.trans (Touch.ofBelow (F := []) hb2) (by simp)⟩)
set_option maxRecDepth 20000 in
set_option maxHeartbeats 1000000 in
theorem wideget_any (b o g : Nat) (cs : Array Value) (T : TypeId) (s : Option ByteArray) (W : World) (hb : W.heap[b]? = some (.cells cs T)) (hold : cs[o]? = some (.int .u64 0)) (hR : RdO W g s) (hne : b ≠ g) (hs : sizeO s ≤ 9223372036854775807) :
    Calls Tryz.prog 108 #[.agg #[.pointer (some ⟨b, o, none⟩)], .pointer (some ⟨g, 0, none⟩)] W (GotPost W b o g cs T (.int .u64 (numO s 8 : Nat)) (restO s 8) true) := by
  have hg1 : g < W.heap.size := hR.1
  have hbl := lt_of_heap hb
  have k0 : At (W.alloc (.cells #[.pointer (some ⟨b, o, none⟩)] 108)) ⟨W.heap.size, 0, none⟩ (.pointer (some ⟨b, o, none⟩)) := At.new _ _ _ 0 _ rfl
  have T0 : Touch [b, g] W (W.alloc (.cells #[.pointer (some ⟨b, o, none⟩)] 108)) := (Touch.refl _ _).alloc _
  have hb1 : (W.alloc (.cells #[.pointer (some ⟨b, o, none⟩)] 108)).heap[b]? = some (.cells cs T) := (Lib.alloc_old W _ b hbl).trans hb
  have hR1 : RdO (W.alloc (.cells #[.pointer (some ⟨b, o, none⟩)] 108)) g s := Rq.alloc hR _
  have HN0 : Hid (∀ w, Gr g (W.alloc (.cells #[.pointer (some ⟨b, o, none⟩)] 108)) w → At w ⟨W.heap.size, 0, none⟩ (.pointer (some ⟨b, o, none⟩)) ∧ w.heap[b]? = some (.cells cs T)) := fun w h =>
    ⟨⟨Nat.lt_of_lt_of_le k0.1 h.size, (World.cell?_of_block (a := ⟨W.heap.size, 0, none⟩) (h.block W.heap.size k0.1 (fun e => by have := Option.some.inj e; omega))).trans k0.2⟩, (h.block b (lt_of_heap hb1) (fun e => hne (Option.some.inj e))).trans hb1⟩
  have CN := Lib.hid (rwide_any g s _ (RdO.below_ hR1 (Below.refl _ _).drew) hs)
  have HT0 := Lib.hid T0
  have HNE := Lib.hid hne
  have z0 := k0.2
  generalize numO s 8 = v at *
  generalize restO s 8 = r at *
  clear hR hb hb1 hR1 k0 T0 hs
  have key : ∀ w1, RdO w1 g r → Gr g (W.alloc (.cells #[.pointer (some ⟨b, o, none⟩)] 108)) w1 → Hid (RdO (w1.setCell ⟨b, o, none⟩ (.int .u64 (v : Nat))) g r ∧ (w1.setCell ⟨b, o, none⟩ (.int .u64 (v : Nat))).heap[b]? = some (.cells (cs.setIfInBounds o (.int .u64 (v : Nat))) T) ∧ Touch [b, g] W (w1.setCell ⟨b, o, none⟩ (.int .u64 (v : Nat)))) := fun w1 h1 h2 => by
    obtain ⟨_, q⟩ := HN0.out w1 h2
    exact ⟨RdO.touch (F := [b]) h1 ((Touch.refl _ _).set (.inl (by simp)) _) (by simp; exact fun e => HNE.out e.symm), heap_set (o := o) _ q, ((HT0.out.trans (Touch.ofGr h2 (by simp)) (fun x hx => .inl hx))).set (.inl (by simp)) _⟩
  go_enter Tryz.func108, Tryz.ntmps108
  go_wp2
  go_region_with (go_at_call 111; ((with_reducible refine (CN.out).mono ?_); rintro e w1 ⟨rfl, hr, hgr0⟩; have hgr := (Gr.refl g (W.alloc (.cells #[.pointer (some ⟨b, o, none⟩)] 108))).drew.trans hgr0; clear hgr0; obtain ⟨y0, y3⟩ := HN0.out w1 hgr; have c0 := y0.2; have c3 := cell_at y3 hold; have c4 := frozen_at (o := o) y3; have K := key w1 hr hgr; clear y0 y3 hr hgr))
  all_goals (
    go_wp2
    go_ret
    exact ⟨rfl, K.out⟩)
set_option maxRecDepth 20000 in
set_option maxHeartbeats 1000000 in
theorem textget_any (b o g : Nat) (q : ByteArray) (cs : Array Value) (T : TypeId) (s : Option ByteArray) (W : World) (hb : W.heap[b]? = some (.cells cs T)) (hold : cs[o]? = some (.string q)) (hR : RdO W g s) (hne : b ≠ g) (hs : sizeO s ≤ 9223372036854775807) :
    Calls Tryz.prog 120 #[.agg #[.pointer (some ⟨b, o, none⟩)], .pointer (some ⟨g, 0, none⟩)] W (GotPost W b o g cs T (.string (textO s)) (restT s) true) := by
  have hg1 : g < W.heap.size := hR.1
  have hbl := lt_of_heap hb
  have k0 : At (W.alloc (.cells #[.pointer (some ⟨b, o, none⟩)] 114)) ⟨W.heap.size, 0, none⟩ (.pointer (some ⟨b, o, none⟩)) := At.new _ _ _ 0 _ rfl
  have T0 : Touch [b, g] W (W.alloc (.cells #[.pointer (some ⟨b, o, none⟩)] 114)) := (Touch.refl _ _).alloc _
  have hb1 : (W.alloc (.cells #[.pointer (some ⟨b, o, none⟩)] 114)).heap[b]? = some (.cells cs T) := (Lib.alloc_old W _ b hbl).trans hb
  have hR1 : RdO (W.alloc (.cells #[.pointer (some ⟨b, o, none⟩)] 114)) g s := Rq.alloc hR _
  have HN0 : Hid (∀ w, Gr g (W.alloc (.cells #[.pointer (some ⟨b, o, none⟩)] 114)) w → At w ⟨W.heap.size, 0, none⟩ (.pointer (some ⟨b, o, none⟩)) ∧ w.heap[b]? = some (.cells cs T)) := fun w h =>
    ⟨⟨Nat.lt_of_lt_of_le k0.1 h.size, (World.cell?_of_block (a := ⟨W.heap.size, 0, none⟩) (h.block W.heap.size k0.1 (fun e => by have := Option.some.inj e; omega))).trans k0.2⟩, (h.block b (lt_of_heap hb1) (fun e => hne (Option.some.inj e))).trans hb1⟩
  have CN := Lib.hid (rtext_any g s _ (RdO.below_ hR1 (Below.refl _ _).drew) hs)
  have HT0 := Lib.hid T0
  have HNE := Lib.hid hne
  have z0 := k0.2
  generalize textO s = v at *
  generalize restT s = r at *
  clear hR hb hb1 hR1 k0 T0 hs
  have key : ∀ w1, RdO w1 g r → Gr g (W.alloc (.cells #[.pointer (some ⟨b, o, none⟩)] 114)) w1 → Hid (RdO (w1.setCell ⟨b, o, none⟩ (.string v)) g r ∧ (w1.setCell ⟨b, o, none⟩ (.string v)).heap[b]? = some (.cells (cs.setIfInBounds o (.string v)) T) ∧ Touch [b, g] W (w1.setCell ⟨b, o, none⟩ (.string v))) := fun w1 h1 h2 => by
    obtain ⟨_, q⟩ := HN0.out w1 h2
    exact ⟨RdO.touch (F := [b]) h1 ((Touch.refl _ _).set (.inl (by simp)) _) (by simp; exact fun e => HNE.out e.symm), heap_set (o := o) _ q, ((HT0.out.trans (Touch.ofGr h2 (by simp)) (fun x hx => .inl hx))).set (.inl (by simp)) _⟩
  go_enter Tryz.func120, Tryz.ntmps120
  go_wp2
  go_region_with (go_at_call 123; ((with_reducible refine (CN.out).mono ?_); rintro e w1 ⟨rfl, hr, hgr0⟩; have hgr := (Gr.refl g (W.alloc (.cells #[.pointer (some ⟨b, o, none⟩)] 114))).drew.trans hgr0; clear hgr0; obtain ⟨y0, y3⟩ := HN0.out w1 hgr; have c0 := y0.2; have c3 := cell_at y3 hold; have c4 := frozen_at (o := o) y3; have K := key w1 hr hgr; clear y0 y3 hr hgr))
  all_goals (
    go_wp2
    go_ret
    exact ⟨rfl, K.out⟩)
theorem num_look (p : Addr) (lo hi : Int) : (∀ w, (nilAhead 282 150 (.agg #[.pointer (some p), .int .i64 lo, .int .i64 hi]) "rosary/letter.get").run Tryz.prog w = .ok (some false) w) ∧ (∀ w, (method 282 150 (.agg #[.pointer (some p), .int .i64 lo, .int .i64 hi]) "rosary/letter.get").run Tryz.prog w = .ok (129, .agg #[.pointer (some p), .int .i64 lo, .int .i64 hi]) w) :=
  ⟨fun _ => by kernel_rfl, fun _ => by kernel_rfl⟩
set_option maxRecDepth 20000 in
set_option maxHeartbeats 1000000 in
theorem flagget_any (b o g : Nat) (q : Bool) (cs : Array Value) (T : TypeId) (s : Option ByteArray) (W : World) (hb : W.heap[b]? = some (.cells cs T)) (hold : cs[o]? = some (.bool q)) (hR : RdO W g s) (hne : b ≠ g) (hs : sizeO s ≤ 9223372036854775807) :
    Calls Tryz.prog 125 #[.agg #[.pointer (some ⟨b, o, none⟩)], .pointer (some ⟨g, 0, none⟩)] W (GotPost W b o g cs T (.bool (((numO s 2 : Nat) : Int) == 1)) (restO s 2) (decide ((0 : Int) ≤ (numO s 2 : Nat) ∧ ((numO s 2 : Nat) : Int) ≤ 1))) := by
  have hg1 : g < W.heap.size := hR.1
  have hbl := lt_of_heap hb
  have B2 : Below W.heap.size W ((W.alloc (.cells #[.pointer (some ⟨b, o, none⟩)] 119)).alloc (.cells #[.int .i64 0] 3)) := ((Below.refl _ _).alloc (Nat.le_refl _) _).alloc (by simp) _
  have hv : ((W.alloc (.cells #[.pointer (some ⟨b, o, none⟩)] 119)).alloc (.cells #[.int .i64 0] 3)).heap[W.heap.size + 1]? = some (.cells #[.int .i64 0] 3) := by
    have := heap_alloc_new (W.alloc (.cells #[.pointer (some ⟨b, o, none⟩)] 119)) (.cells #[.int .i64 0] 3)
    simpa using this
  have k0 : At ((W.alloc (.cells #[.pointer (some ⟨b, o, none⟩)] 119)).alloc (.cells #[.int .i64 0] 3)) ⟨W.heap.size, 0, none⟩ (.pointer (some ⟨b, o, none⟩)) := (At.new W #[.pointer (some ⟨b, o, none⟩)] 119 0 _ rfl).alloc _
  have hb2 := (B2.block b hbl).trans hb
  have CM := Lib.hid mknum_any
  obtain ⟨m1, m2⟩ := num_look ⟨W.heap.size + 1, 0, none⟩ 0 1
  have CG := Lib.hid (numget_any (W.heap.size + 1) 0 g 0 1 #[.int .i64 0] 3 s _ hv rfl (RdO.below_ hR B2) (by omega) hs)
  have HX : Hid (Below W.heap.size W ((W.alloc (.cells #[.pointer (some ⟨b, o, none⟩)] 119)).alloc (.cells #[.int .i64 0] 3)) ∧ ((W.alloc (.cells #[.pointer (some ⟨b, o, none⟩)] 119)).alloc (.cells #[.int .i64 0] 3)).heap[b]? = some (.cells cs T) ∧ At ((W.alloc (.cells #[.pointer (some ⟨b, o, none⟩)] 119)).alloc (.cells #[.int .i64 0] 3)) ⟨W.heap.size, 0, none⟩ (.pointer (some ⟨b, o, none⟩))) := ⟨B2, hb2, k0⟩
  have HNE := Lib.hid hne
  generalize numO s 2 = v at *
  generalize restO s 2 = r at *
  generalize hok : decide ((0 : Int) ≤ (v : Nat) ∧ ((v : Nat) : Int) ≤ 1) = ok at *
  generalize hone : (((v : Nat) : Int) == 1) = one at *
  have HONE := Lib.hid hone
  clear hR hb B2 hv k0 hb2 hs hok
  go_enter Tryz.func125, Tryz.ntmps125
  go_wp2_with (first
    | (go_at_call 63; ((with_reducible refine (CM.out _ _ _ _).mono ?_); rintro e w1 ⟨rfl, rfl⟩))
    | (go_at_call 129; ((with_reducible refine (CG.out).mono ?_); rintro e w1 ⟨rfl, hr, hv1, ht⟩; obtain ⟨x1, x2, x3⟩ := HX.out; have y0 := (ht.cell (p := ⟨W.heap.size, 0, none⟩) x3.1 (by simp; omega)).trans x3.2; have y1 : w1.cell? ⟨W.heap.size + 1, 0, none⟩ = some (.int .i64 (v : Nat)) := cell_at hv1 rfl; have yb := (ht.block b (lt_of_heap x2) (by simp; exact ⟨by omega, HNE.out⟩)).trans x2; have c3 := cell_at yb hold; have c4 := frozen_at (o := o) yb; have HK : Hid (RdO w1 g r ∧ w1.heap[b]? = some (.cells cs T) ∧ Touch [W.heap.size + 1, g] ((W.alloc (.cells #[.pointer (some ⟨b, o, none⟩)] 119)).alloc (.cells #[.int .i64 0] 3)) w1) := ⟨hr, yb, ht⟩; clear x1 x2 x3 yb hr hv1 ht)))
  go_ret
  obtain ⟨q1, q2, q3⟩ := HK.out
  refine ⟨rfl, RdO.touch (F := [b]) q1 ((Touch.refl _ _).set (.inl (by simp)) _) (by simp; exact fun e => HNE.out e.symm), ?_, ?_⟩
  · have := heap_set (o := o) (.bool one) q2
    simpa using this
  · have t1 : Touch [b, g] W w1 := (Touch.ofBelow (F := [b, g]) HX.out.1).trans q3 (fun x hx => by simp only [List.mem_cons, List.not_mem_nil, or_false] at hx ⊢; rcases hx with rfl | rfl; exact .inr (by omega); exact .inl (.inr rfl))
    have := t1.set (p := ⟨b, o, none⟩) (.inl (by simp)) (.bool one)
    simpa using this
end Go.Proofs.YtbnmddopgbhapaaGreat
