/-
  The gate inside a hold in memory (VG): its pointers by how old they are, each age a row of its own.
  The code's gate: Freeze, Thaw, Arc, Frozen.
  The code's gate: Point. (genGQ.py)
  The code's gate: Tick, Points.
-/
import Derived.Test.YthgndgoljchnfaaGreatHg02
import Derived.Test.YthgndgoljchnfaaGreatHg09
import Derived.Test.YthgndgoljchnfaaGreatHg04
import Derived.Test.YthgndgoljchnfaaGreatHg05
import Derived.Test.YthgndgoljchnfaaGreatHg06
import Derived.Deep.MidRow
import Derived.Deep.DeepCutAuto
import Derived.Laws.CopyOwn
namespace Go.Proofs.YthgndgoljchnfaaGreat.Gi
open Go.RowKit

abbrev gE (p : GP) : Array Value := #[.int .u64 (p.f : Nat), .int .u64 (p.t : Nat), .int .i64 p.n]
theorem gE_size (p : GP) : (gE p).size = 3 := rfl
theorem gE_one (l : List GP) : ∀ u ∈ rowC gE l, u.oneCell' = true := rowC_all fun p _ => by simp [gE, Value.oneCell']
/-- a row of pointers of one age, with the slice that has it -/
abbrev GRow := Value × List GP
/-- the pointers of the rows, those of the first row d ticks old; the eldest first -/
def agesL : Nat → List GRow → List GP
  | _, [] => []
  | d, x :: R => agesL (d + 1) R ++ x.2.map fun p => ⟨p.f, p.t, p.n, d⟩
theorem agesL_cons (d : Nat) (x : GRow) (R : List GRow) : agesL d (x :: R) = agesL (d + 1) R ++ x.2.map fun p => ⟨p.f, p.t, p.n, d⟩ := rfl
theorem aged_young (l : List GP) (d : Nat) (h : d + 1 < 40) : agedL (l.map fun p => (⟨p.f, p.t, p.n, d⟩ : GP)) = l.map fun p => ⟨p.f, p.t, p.n, d + 1⟩ := by
  unfold agedL
  rw [List.map_map, List.filter_eq_self.2]
  · rfl
  · intro p hp
    obtain ⟨q, _, rfl⟩ := List.mem_map.1 hp
    simpa using h
theorem aged_old (l : List GP) (d : Nat) (h : 40 ≤ d + 1) : agedL (l.map fun p => (⟨p.f, p.t, p.n, d⟩ : GP)) = [] := by
  unfold agedL
  rw [List.map_map, List.filter_eq_nil_iff]
  intro p hp
  obtain ⟨q, _, rfl⟩ := List.mem_map.1 hp
  simp
  omega
theorem agesL_tick : ∀ (R : List GRow) (d : Nat), d + R.length = 40 → agedL (agesL d R) = agesL (d + 1) R.dropLast
  | [], _, _ => rfl
  | [x], d, h => by
    simp only [List.length_singleton] at h
    rw [agesL_cons, agedL_append, aged_old _ _ (by omega)]
    rfl
  | x :: y :: R, d, h => by
    simp only [List.length_cons] at h
    rw [agesL_cons, agedL_append, agesL_tick (y :: R) (d + 1) (by simp only [List.length_cons]; omega), aged_young _ _ (by omega), List.dropLast_cons_cons, agesL_cons]
theorem agesL_len : ∀ (R : List GRow) (d : Nat), (agesL d R).length = (R.map fun x => x.2.length).sum
  | [], _ => rfl
  | x :: R, d => by rw [agesL_cons, List.length_append, agesL_len R, List.length_map, List.map_cons, List.sum_cons, Nat.add_comm]
theorem overL_append (a b : List GP) (x : Nat) : overL (a ++ b) x = (overL b x).or (overL a x) := by
  unfold overL
  rw [List.reverse_append, List.find?_append]
  cases b.reverse.find? fun p => inB p.f p.t x <;> rfl
theorem overL_aged (l : List GP) (d x : Nat) : overL (l.map fun p => (⟨p.f, p.t, p.n, d⟩ : GP)) x = overL l x := by
  unfold overL
  rw [← List.map_reverse, List.find?_map]
  show ((l.reverse.find? fun p => inB p.f p.t x).map _).map _ = _
  cases l.reverse.find? fun p => inB p.f p.t x <;> rfl
theorem overL_ages (d : Nat) (y : GRow) (R : List GRow) (x : Nat) : overL (agesL d (y :: R)) x = (overL y.2 x).or (overL (agesL (d + 1) R) x) := by
  rw [agesL_cons, overL_append, overL_aged]

/-- what a hold has ahead of its gate -/
structure HC where
  a : Value
  b : Value
  c : Value
  d : Value
  e : Value
/-- the cells of a hold -/
abbrev hC (H : HC) (s : GS) (S : List GRow) : List Value := H.a :: H.b :: H.c :: H.d :: H.e :: .bool s.shut :: .int .u64 (s.f : Nat) :: .int .u64 (s.t : Nat) :: S.map (·.1)
structure GM (w : World) (g : Nat) (H : HC) (s : GS) (x : GRow) (R : List GRow) : Prop where
  hl : R.length = 39
  l : s.l = agesL 0 (x :: R)
  few : s.l.length ≤ 1001
  hg : w.heap[g]? = some (.cells (hC H s (x :: R)).toArray 76)
  rows : ∀ y ∈ x :: R, w.ownsRow 0 130 3 y.1 y.2.length (rowC gE y.2)
  own : ∀ q, x.1.ownBlock = some q → ∀ y ∈ R, y.1.ownBlock ≠ some q
  gn : ∀ y ∈ x :: R, y.1.ownBlock ≠ some g
  b : s.f < 18446744073709551616 ∧ s.t < 18446744073709551616 ∧ (s.shut = false → s.f = 0 ∧ s.t = 0)
  pts : ∀ y ∈ x :: R, ∀ p ∈ y.2, p.f < 18446744073709551616 ∧ p.t < 18446744073709551616
def gF (g : Nat) (S : List GRow) : List Nat := g :: S.flatMap fun y => y.1.ownBlock.toList
/-- the gate at block g -/
def VG (w : World) (g : Nat) (H : HC) (s : GS) (F : List Nat) : Prop := ∃ x R, GM w g H s x R ∧ F = gF g (x :: R)
theorem gm_lt {w : World} {q : Nat} {o : Obj} (h : w.heap[q]? = some o) : q < w.heap.size := (Array.getElem?_eq_some_iff.1 h).1
theorem gm_cell {w : World} {b o : Nat} {cs : Array Value} {T : TypeId} {v : Value} (hb : w.heap[b]? = some (.cells cs T)) (hv : cs[o]? = some v) : w.cell? ⟨b, o, none⟩ = some v := by rw [Lib.cell_of_heap hb, hv]
theorem gm_set {w : World} {g : Nat} {cs : Array Value} {T : TypeId} (h : w.heap[g]? = some (.cells cs T)) (i : Nat) (u : Value) : (w.setCell ⟨g, i, none⟩ u).heap[g]? = some (.cells (cs.setIfInBounds i u) T) := by
  simp [World.setCell, Array.getElem?_modify, h]
section
variable {w w1 : World} {g : Nat} {H : HC} {s s1 : GS} {x : GRow} {R : List GRow}
theorem GM.lt (h : GM w g H s x R) : g < w.heap.size := gm_lt h.hg
theorem GM.ltF (h : GM w g H s x R) : ∀ q ∈ gF g (x :: R), q < w.heap.size := by
  intro q hq
  rcases List.mem_cons.1 hq with rfl | z
  · exact h.lt
  · obtain ⟨y, hy, hyq⟩ := List.mem_flatMap.1 z
    exact ((h.rows y hy).lt q (Option.mem_toList.1 hyq)).2
theorem mem_gF {S : List GRow} {q : Nat} : q ∈ gF g S ↔ q = g ∨ ∃ y ∈ S, y.1.ownBlock = some q := by
  unfold gF
  rw [List.mem_cons, List.mem_flatMap]
  constructor
  · rintro (h | ⟨y, h1, h2⟩)
    · exact .inl h
    · exact .inr ⟨y, h1, Option.mem_toList.1 h2⟩
  · rintro (h | ⟨y, h1, h2⟩)
    · exact .inl h
    · exact .inr ⟨y, h1, Option.mem_toList.2 h2⟩
theorem GM.touch {G : List Nat} (h : GM w g H s x R) (t : Touch G w w1) (hn : ∀ q ∈ gF g (x :: R), q ∉ G) : GM w1 g H s x R :=
  { h with
    hg := (t.block g h.lt (hn g (mem_gF.2 (.inl rfl)))).trans h.hg
    rows := fun y hy => t.row (h.rows y hy) fun q hq => hn q (mem_gF.2 (.inr ⟨y, hy, hq⟩)) }
theorem GM.below (h : GM w g H s x R) (t : Below w.heap.size w w1) : GM w1 g H s x R := h.touch (Touch.ofBelow (F := []) t) (by simp)
/-- only the gate's own cells were written -/
theorem GM.head (h : GM w g H s x R) (t : Touch [g] w w1) (hg : w1.heap[g]? = some (.cells (hC H s1 (x :: R)).toArray 76)) (hl : s1.l = s.l) (hb : s1.f < 18446744073709551616 ∧ s1.t < 18446744073709551616 ∧ (s1.shut = false → s1.f = 0 ∧ s1.t = 0)) : GM w1 g H s1 x R :=
  { h with
    l := hl.trans h.l
    few := by rw [hl]; exact h.few
    hg := hg
    rows := fun y hy => t.row (h.rows y hy) fun q hq z => h.gn y hy (by rw [hq, List.mem_singleton.1 z])
    b := hb }
theorem GM.c0 (h : GM w g H s x R) : w.cell? ⟨g, 5, none⟩ = some (.bool s.shut) := gm_cell h.hg rfl
theorem GM.c1 (h : GM w g H s x R) : w.cell? ⟨g, 6, none⟩ = some (.int .u64 (s.f : Nat)) := gm_cell h.hg rfl
theorem GM.c2 (h : GM w g H s x R) : w.cell? ⟨g, 7, none⟩ = some (.int .u64 (s.t : Nat)) := gm_cell h.hg rfl
theorem GM.c3 (h : GM w g H s x R) : w.cell? ⟨g, 8, none⟩ = some x.1 := gm_cell h.hg rfl
theorem GM.free (h : GM w g H s x R) (i : Nat) : w.frozen? ⟨g, i, none⟩ = false := by simp [World.frozen?, h.hg]
end
theorem vg_has {w : World} {g : Nat} {H : HC} {s : GS} {F : List Nat} (h : VG w g H s F) : g ∈ F ∧ ∀ q ∈ F, q < w.heap.size := by
  obtain ⟨x, R, h, rfl⟩ := h
  exact ⟨mem_gF.2 (.inl rfl), h.ltF⟩
theorem vg_touch {w w' : World} {g : Nat} {H : HC} {s : GS} {F G : List Nat} (h : VG w g H s F) (t : Touch G w w') (hn : ∀ q ∈ F, q ∉ G) : VG w' g H s F := by
  obtain ⟨x, R, h, rfl⟩ := h
  exact ⟨x, R, h.touch t hn, rfl⟩
abbrev gNil : GRow := (.slice none 0 0, [])
theorem vg_zero {w1 : World} {g : Nat} {H : HC} (hg : w1.heap[g]? = some (.cells (hC H G0 (gNil :: List.replicate 39 gNil)).toArray 76)) : VG w1 g H G0 [g] := by
  have hm : ∀ y ∈ gNil :: List.replicate 39 gNil, y = gNil := fun y hy => by
    rcases List.mem_cons.1 hy with h | h
    · exact h
    · exact List.eq_of_mem_replicate h
  refine ⟨gNil, List.replicate 39 gNil, ⟨by simp, by rfl, by simp, hg, ?_, ?_, ?_, ⟨by decide, by decide, fun _ => ⟨rfl, rfl⟩⟩, ?_⟩, by rfl⟩
  · intro y hy
    rw [hm y hy]
    exact World.ownsRow_nil _ _ _ _
  · intro q hq
    cases hq
  · intro y hy
    rw [hm y hy]
    exact fun h => by cases h
  · intro y hy p hp
    rw [hm y hy] at hp
    cases hp
end Go.Proofs.YthgndgoljchnfaaGreat.Gi
namespace Go.Proofs.YthgndgoljchnfaaGreat.Gi
open Go.RowKit

/-- what a call that writes the gate's own cells alone leaves -/
theorem vg_head {w w' : World} {g : Nat} {H : HC} {s s1 : GS} {x : GRow} {R : List GRow} (h : GM w g H s x R) (t : Touch [g] w w') (hg : w'.heap[g]? = some (.cells (hC H s1 (x :: R)).toArray 76)) (hl : s1.l = s.l) (hb : s1.f < 18446744073709551616 ∧ s1.t < 18446744073709551616 ∧ (s1.shut = false → s1.f = 0 ∧ s1.t = 0)) :
    ∃ F1, VG w' g H s1 F1 ∧ Touch (gF g (x :: R)) w w' ∧ ∀ q ∈ F1, q ∈ gF g (x :: R) ∨ w.heap.size ≤ q :=
  ⟨_, ⟨x, R, h.head t hg hl hb, rfl⟩, t.mono (fun q hq => mem_gF.2 (.inl (by simpa using hq))), fun q hq => .inl hq⟩
/-- what a call that writes nothing leaves -/
theorem vg_same {w w' : World} {g : Nat} {H : HC} {s : GS} {x : GRow} {R : List GRow} (h : GM w g H s x R) (b : Below w.heap.size w w') :
    ∃ F1, VG w' g H s F1 ∧ Touch (gF g (x :: R)) w w' ∧ ∀ q ∈ F1, q ∈ gF g (x :: R) ∨ w.heap.size ≤ q :=
  ⟨_, ⟨x, R, h.below b, rfl⟩, Touch.ofBelow b, fun _ hq => .inl hq⟩
theorem gm_three {w : World} {g : Nat} {cs : Array Value} {T : TypeId} (h : w.heap[g]? = some (.cells cs T)) (a b c : Value) :
    Touch [g] w (((w.setCell ⟨g, 5, none⟩ a).setCell ⟨g, 6, none⟩ b).setCell ⟨g, 7, none⟩ c) ∧ (((w.setCell ⟨g, 5, none⟩ a).setCell ⟨g, 6, none⟩ b).setCell ⟨g, 7, none⟩ c).heap[g]? = some (.cells (((cs.setIfInBounds 5 a).setIfInBounds 6 b).setIfInBounds 7 c) T) :=
  ⟨(((Touch.refl _ _).set (.inl (by simp)) _).set (.inl (by simp)) _).set (.inl (by simp)) _, gm_set (gm_set (gm_set h 5 a) 6 b) 7 c⟩
/-- the three cells of what is shut were written -/
theorem vg_three {w w' : World} {g : Nat} {H : HC} {s s1 : GS} {x : GRow} {R : List GRow} (h : GM w g H s x R) (hl : s1.l = s.l) (hb : s1.f < 18446744073709551616 ∧ s1.t < 18446744073709551616 ∧ (s1.shut = false → s1.f = 0 ∧ s1.t = 0))
    (b : Below w.heap.size (((w.setCell ⟨g, 5, none⟩ (.bool s1.shut)).setCell ⟨g, 6, none⟩ (.int .u64 (s1.f : Nat))).setCell ⟨g, 7, none⟩ (.int .u64 (s1.t : Nat))) w') :
    ∃ F1, VG w' g H s1 F1 ∧ Touch (gF g (x :: R)) w w' ∧ ∀ q ∈ F1, q ∈ gF g (x :: R) ∨ w.heap.size ≤ q := by
  obtain ⟨t, k⟩ := gm_three h.hg (.bool s1.shut) (.int .u64 (s1.f : Nat)) (.int .u64 (s1.t : Nat))
  have hz : (((w.setCell ⟨g, 5, none⟩ (.bool s1.shut)).setCell ⟨g, 6, none⟩ (.int .u64 (s1.f : Nat))).setCell ⟨g, 7, none⟩ (.int .u64 (s1.t : Nat))).heap.size = w.heap.size := by simp [World.setCell]
  refine vg_head h (t.trans (Touch.ofBelow (F := [g]) (hz ▸ b)) fun q hq => .inl hq) ?_ hl hb
  rw [b.block g h.lt, k]
  simp [hC]
set_option maxHeartbeats 1000000 in
theorem gateFreeze_any {w : World} {g : Nat} {H : HC} {s : GS} {F : List Nat} (f t : Nat) (hf : f < 18446744073709551616) (ht : t < 18446744073709551616) (h : VG w g H s F) :
    Calls Tryz.prog 53 #[.pointer (some ⟨g, 5, none⟩), .agg #[.int .u64 (f : Nat), .int .u64 (t : Nat)]] w fun e w' =>
    ∃ F1, e = .returned (.bool !s.shut) ∧ VG w' g H (s.freeze f t) F1 ∧ Touch F w w' ∧ ∀ q ∈ F1, q ∈ F ∨ w.heap.size ≤ q := by
  obtain ⟨x, R, h, rfl⟩ := h
  have c0 := h.c0
  have c1 := h.c1
  have c2 := h.c2
  have z0 := h.free 5
  have z1 := h.free 6
  have z2 := h.free 7
  have hlt := h.lt
  have HG := Lib.hid h
  cases hs : s.shut with
  | true =>
    rw [hs] at c0
    have HF : Hid (s.freeze f t = s) := by show s.freeze f t = s; unfold GS.freeze; rw [hs]; rfl
    have HS := Lib.hid hs
    clear h hs
    go_enter Tryz.func53, Tryz.ntmps53
    go_wp2
    go_ret
    rw [HF.out]
    obtain ⟨F1, z⟩ := vg_same HG.out ((Below.refl _ _).alloc (Nat.le_refl _) _)
    exact ⟨F1, rfl, z⟩
  | false =>
    rw [hs] at c0
    have HS := Lib.hid hs
    clear h hs
    go_enter Tryz.func53, Tryz.ntmps53
    go_wp2
    go_region
    go_wp2
    go_ret
    have HF : s.freeze f t = ⟨true, f, t, s.l, s.k⟩ := by unfold GS.freeze; rw [HS.out]; rfl
    rw [HF]
    obtain ⟨F1, z⟩ := vg_three (s1 := ⟨true, f, t, s.l, s.k⟩) HG.out rfl ⟨hf, ht, fun z => by cases z⟩ (((Below.refl w.heap.size _).alloc (by simp [World.setCell]) _).drew)
    exact ⟨F1, rfl, z⟩
set_option maxHeartbeats 1000000 in
theorem gateThaw_any {w : World} {g : Nat} {H : HC} {s : GS} {F : List Nat} (h : VG w g H s F) : Calls Tryz.prog 56 #[.pointer (some ⟨g, 5, none⟩)] w fun e w' =>
    ∃ F1, e = .returned (.bool s.shut) ∧ VG w' g H s.thaw F1 ∧ Touch F w w' ∧ ∀ q ∈ F1, q ∈ F ∨ w.heap.size ≤ q := by
  obtain ⟨x, R, h, rfl⟩ := h
  have c0 := h.c0
  have c1 := h.c1
  have c2 := h.c2
  have z0 := h.free 5
  have z1 := h.free 6
  have z2 := h.free 7
  have hlt := h.lt
  have HG := Lib.hid h
  cases hs : s.shut with
  | false =>
    rw [hs] at c0
    have HF : Hid (s.thaw = s) := by
      show s.thaw = s
      obtain ⟨h1, h2⟩ := h.b.2.2 hs
      obtain ⟨a, b, c, d, k⟩ := s
      simp only at hs h1 h2
      subst hs h1 h2
      rfl
    clear h hs
    go_enter Tryz.func56, Tryz.ntmps56
    go_wp2
    go_ret
    rw [HF.out]
    obtain ⟨F1, z⟩ := vg_same HG.out (Below.refl _ _)
    exact ⟨F1, rfl, z⟩
  | true =>
    rw [hs] at c0
    clear h hs
    go_enter Tryz.func56, Tryz.ntmps56
    go_wp2
    go_ret
    obtain ⟨F1, z⟩ := vg_three (s1 := s.thaw) HG.out rfl ⟨Nat.zero_lt_succ _, Nat.zero_lt_succ _, fun _ => ⟨rfl, rfl⟩⟩ (Below.refl w.heap.size _)
    exact ⟨F1, rfl, z⟩
set_option maxHeartbeats 1000000 in
theorem gateArc_any {w : World} {g : Nat} {H : HC} {s : GS} {F : List Nat} (h : VG w g H s F) : Calls Tryz.prog 51 #[.pointer (some ⟨g, 5, none⟩)] w fun e w' => e = .returned (.tuple #[.agg #[.int .u64 (s.f : Nat), .int .u64 (s.t : Nat)], .bool s.shut]) ∧ Below w.heap.size w w' := by
  obtain ⟨x, R, h, rfl⟩ := h
  have c0 := h.c0
  have c1 := h.c1
  have c2 := h.c2
  have hlt := h.lt
  clear h
  go_enter Tryz.func51, Tryz.ntmps51
  go_wp2
  go_region
  go_wp2
  exact bodyPost_ret (v := .tuple #[.agg #[.int .u64 (s.f : Nat), .int .u64 (s.t : Nat)], .bool s.shut]) (by simp [results, Tryz.results51, go_sem]) rfl ⟨rfl, ((Below.refl _ _).alloc (Nat.le_refl _) _).drew⟩
set_option maxHeartbeats 1000000 in
theorem gateFrozen_any {w : World} {g : Nat} {H : HC} {s : GS} {F : List Nat} (x : Nat) (hx : x < 18446744073709551616) (h : VG w g H s F) : Calls Tryz.prog 40 #[.pointer (some ⟨g, 5, none⟩), .int .u64 (x : Nat)] w fun e w' => e = .returned (.bool (s.frozen x)) ∧ Below w.heap.size w w' := by
  have CA := Lib.hid (gateArc_any h)
  have CI : Hid (∀ W, Calls Tryz.prog 21 #[.agg #[.int .u64 (s.f : Nat), .int .u64 (s.t : Nat)], .int .u64 (x : Nat)] W fun e w' => e = .returned (.bool (inB s.f s.t x)) ∧ Below W.heap.size W w') := by
    obtain ⟨_, _, h, _⟩ := h
    exact fun W => in_any s.f s.t x W h.b.1 h.b.2.1 hx
  unfold GS.frozen
  generalize inB s.f s.t x = ans at *
  generalize s.shut = sh at *
  clear h hx
  go_enter Tryz.func40, Tryz.ntmps40
  cases sh
  all_goals
    go_wp2_with (first
      | (go_at_call 51; (with_reducible refine (CA.out).mono ?_); rintro e w1 ⟨rfl, h1⟩; have HB1 := Lib.hid h1; clear h1)
      | (go_at_call 21; (with_reducible refine (CI.out _).mono ?_); rintro e w2 ⟨rfl, h2⟩; have HB2 := Lib.hid h2; clear h2))
    go_ret
    first
      | exact ⟨rfl, HB1.out.alloc HB1.out.size _⟩
      | exact ⟨rfl, acc (HB1.out.alloc HB1.out.size _) HB2.out⟩
section
variable (w : World)
end
end Go.Proofs.YthgndgoljchnfaaGreat.Gi
namespace Go.Proofs.YthgndgoljchnfaaGreat.Gi
open Go.RowKit

theorem ge_new (w : World) (p : GP) : ∀ j u, (rowC gE [p])[j]? = some u → (w.alloc (.cells (gE p) 130)).cell? ((⟨w.heap.size, 0, none⟩ : Addr).add j) = some u := by
  intro j u hj
  have hj : ((gE p).toList)[j]? = some u := by rw [← hj]; simp [rowC]
  have : j = 0 ∨ j = 1 ∨ j = 2 := by have := (List.getElem?_eq_some_iff.1 hj).1; simp at this; omega
  rw [Go.WideShapes.add_plain]
  rcases this with rfl | rfl | rfl <;> (simp at hj; subst hj; go_simp)
theorem infoGE_ : ∃ i z, Tryz.prog.info? 130 = some i ∧ i.zero = some z ∧ i.size = 3 ∧ i.bytes = 24 ∧ z.cells.size = 3 := by
  have h : (Tryz.prog.info? 130).map (fun i => (i.zero.isSome, i.size, i.bytes, (i.zero.getD undef).cells.size)) = some (true, 3, 24, 3) := by kernel_rfl
  obtain ⟨i, hi, hx⟩ := Option.map_eq_some_iff.1 h
  simp only [Prod.mk.injEq] at hx
  obtain ⟨h1, h2, h3, h4⟩ := hx
  obtain ⟨z, hz⟩ := Option.isSome_iff_exists.1 h1
  exact ⟨i, z, hi, hz, h2, h3, by rw [hz] at h4; exact h4⟩
/-- the youngest row has one more -/
theorem GM.grow {w w5 : World} {g : Nat} {H : HC} {s : GS} {x : GRow} {R : List GRow} (h : GM w g H s x R) {V : Value} {n : Nat} (hn : x.2.length = n) (f t : Nat) (nd : Int) (hf : f < 18446744073709551616) (ht : t < 18446744073709551616) (hl : s.l.length ≤ 1000)
    (k : Touch x.1.ownBlock.toList w w5) (ho : w5.ownsRow 0 130 3 V (n + 1) (rowC gE x.2 ++ rowC gE [⟨f, t, nd, 0⟩])) (hs : ∀ q, V.ownBlock = some q → x.1.ownBlock = some q ∨ w.heap.size ≤ q) :
    ∃ F1, VG (w5.setCell ⟨g, 8, none⟩ V) g H (s.point f t nd) F1 ∧ Touch (gF g (x :: R)) w (w5.setCell ⟨g, 8, none⟩ V) ∧ ∀ q ∈ F1, q ∈ gF g (x :: R) ∨ w.heap.size ≤ q := by
  have hgx : g ∉ x.1.ownBlock.toList := fun z => h.gn x (by simp) (Option.mem_toList.1 z)
  have t2 : Touch [g] w5 (w5.setCell ⟨g, 8, none⟩ V) := (Touch.refl _ _).set (.inl (by simp)) _
  have hg5 := (k.block g h.lt hgx).trans h.hg
  have hVg : V.ownBlock ≠ some g := fun z => by
    rcases hs g z with y | y
    · exact h.gn x (by simp) y
    · have := h.lt; omega
  have t3 : Touch (gF g (x :: R)) w (w5.setCell ⟨g, 8, none⟩ V) := (k.mono (fun q hq => mem_gF.2 (.inr ⟨x, by simp, Option.mem_toList.1 hq⟩))).trans t2 (fun q hq => .inl (mem_gF.2 (.inl (by simpa using hq))))
  refine ⟨_, ⟨(V, x.2 ++ [⟨f, t, nd, 0⟩]), R, ⟨h.hl, ?_, ?_, ?_, ?_, ?_, ?_, h.b, ?_⟩, rfl⟩, t3, ?_⟩
  · show s.l ++ [_] = _
    rw [h.l, agesL_cons, agesL_cons, List.map_append, List.append_assoc]
    rfl
  · show (s.l ++ [_]).length ≤ 1001
    rw [List.length_append]
    simp only [List.length_singleton]
    omega
  · rw [gm_set hg5]
    simp [hC, GS.point]
  · intro y hy
    rcases List.mem_cons.1 hy with rfl | z
    · refine t2.row ?_ (fun q hq z => hVg (by rw [hq, List.mem_singleton.1 z]))
      rw [rowC_append, List.length_append, hn]
      exact ho
    · refine t2.row (k.row (h.rows y (List.mem_cons_of_mem _ z)) fun q hq z' => h.own q (Option.mem_toList.1 z') y z hq) (fun q hq z' => h.gn y (List.mem_cons_of_mem _ z) (by rw [hq, List.mem_singleton.1 z']))
  · intro q hq y hy
    rcases hs q hq with z | z
    · exact h.own q z y hy
    · exact fun z' => by have := ((h.rows y (List.mem_cons_of_mem _ hy)).lt q z').2; omega
  · intro y hy
    rcases List.mem_cons.1 hy with rfl | z
    · exact hVg
    · exact h.gn y (List.mem_cons_of_mem _ z)
  · intro y hy p hp
    rcases List.mem_cons.1 hy with rfl | z
    · rcases List.mem_append.1 hp with z | z
      · exact h.pts x (by simp) p z
      · rw [List.mem_singleton.1 z]
        exact ⟨hf, ht⟩
    · exact h.pts y (List.mem_cons_of_mem _ z) p hp
  · intro q hq
    rcases mem_gF.1 hq with rfl | ⟨y, hy, hyq⟩
    · exact .inl (mem_gF.2 (.inl rfl))
    · rcases List.mem_cons.1 hy with rfl | z
      · rcases hs q hyq with z | z
        · exact .inl (mem_gF.2 (.inr ⟨x, by simp, z⟩))
        · exact .inr z
      · exact .inl (mem_gF.2 (.inr ⟨y, List.mem_cons_of_mem _ z, hyq⟩))
set_option maxRecDepth 20000 in
set_option maxHeartbeats 4000000 in
theorem gatePoint_any {w : World} {g : Nat} {H : HC} {s : GS} {F : List Nat} (f t : Nat) (nd : Int) (hf : f < 18446744073709551616) (ht : t < 18446744073709551616) (hl : s.l.length ≤ 1000) (h : VG w g H s F) :
    Calls Tryz.prog 59 #[.pointer (some ⟨g, 5, none⟩), .agg #[.int .u64 (f : Nat), .int .u64 (t : Nat)], .int .i64 nd] w fun e w' =>
    ∃ F1, e = .returned (.tuple #[]) ∧ VG w' g H (s.point f t nd) F1 ∧ Touch F w w' ∧ ∀ q ∈ F1, q ∈ F ∨ w.heap.size ≤ q := by
  obtain ⟨x, R, h, rfl⟩ := h
  obtain ⟨i0, z0, hi0, hz, hsL, hbL, hzc⟩ := infoGE_
  obtain ⟨V, l⟩ := x
  obtain ⟨n, hn⟩ : ∃ n, l.length = n := ⟨_, rfl⟩
  have hv := h.rows (V, l) (by simp)
  simp only at hv
  rw [hn] at hv
  have hn1 : n ≤ 1000 := by
    have e := h.l
    rw [agesL_cons] at e
    rw [e, List.length_append, List.length_map] at hl
    simp only at hl
    omega
  obtain ⟨A, c, rfl⟩ := own_slice hv
  obtain ⟨w1, hw1⟩ : ∃ w1, w.alloc (.cells #[.int .u64 (f : Nat), .int .u64 (t : Nat)] 25) = w1 := ⟨_, rfl⟩
  obtain ⟨qa, hqa⟩ : ∃ q, w.heap.size = q := ⟨_, rfl⟩
  have H1 : Hid (Below w.heap.size w w1) := by rw [← hw1]; exact (Below.refl _ _).alloc (Nat.le_refl _) _
  have ba0 : w1.cell? ⟨qa, 0, none⟩ = some (.int .u64 (f : Nat)) := by rw [← hw1, ← hqa]; simp
  have ba1 : w1.cell? ⟨qa, 1, none⟩ = some (.int .u64 (t : Nat)) := by rw [← hw1, ← hqa]; simp
  have hlq : qa < w1.heap.size := World.block_lt_of_cell? _ _ ba0
  have h1 := h.below H1.out
  have hgx : g ∉ (Value.slice A n c).ownBlock.toList := fun z => h1.gn (.slice A n c, l) (by simp) (Option.mem_toList.1 z)
  have hqx : qa ∉ (Value.slice A n c).ownBlock.toList := fun z => by have := (hv.lt qa (Option.mem_toList.1 z)).2; omega
  have HSS : Hid (∀ w', Touch (Value.slice A n c).ownBlock.toList w1 w' → w'.cell? ⟨g, 8, none⟩ = some (.slice A n c) ∧ w'.cell? ⟨qa, 0, none⟩ = some (.int .u64 (f : Nat)) ∧ w'.cell? ⟨qa, 1, none⟩ = some (.int .u64 (t : Nat))) := fun w' hb =>
    ⟨(hb.cell (p := ⟨g, 8, none⟩) h1.lt hgx).trans h1.c3, (hb.cell (p := ⟨qa, 0, none⟩) hlq hqx).trans ba0, (hb.cell (p := ⟨qa, 1, none⟩) hlq hqx).trans ba1⟩
  have HFR : Hid (∀ w', Touch (Value.slice A n c).ownBlock.toList w1 w' → w'.frozen? ⟨g, 8, none⟩ = false) := fun w' hb => (hb.frozen (p := ⟨g, 8, none⟩) h1.lt hgx).trans (h1.free 8)
  have HROW := Lib.hid (h1.rows (.slice A n c, l) (by simp))
  simp only at HROW
  rw [hn] at HROW
  have HB1 : Hid (Below w1.heap.size w1 (w1.drew.alloc (.cells (gE ⟨f, t, nd, 0⟩) 130))) := (Below.refl _ _).drew.alloc (Nat.le_refl _) _
  have HT0 : Hid (Touch (Value.slice A n c).ownBlock.toList w1 w1.drew) := (Touch.refl _ _).drew
  have HEND : Hid (∀ A5 c5 w5, Touch (Value.slice A n c).ownBlock.toList w1 w5 → w5.ownsRow 0 130 3 (.slice A5 (n + 1) c5) (n + 1) (rowC gE l ++ rowC gE [⟨f, t, nd, 0⟩]) → SameOrNew (w1.drew.alloc (.cells (gE ⟨f, t, nd, 0⟩) 130)) (.slice A n c) (.slice A5 (n + 1) c5) →
      ∃ F1, VG (w5.setCell ⟨g, 8, none⟩ (.slice A5 (n + 1) c5)) g H (s.point f t nd) F1 ∧ Touch (gF g ((.slice A n c, l) :: R)) w (w5.setCell ⟨g, 8, none⟩ (.slice A5 (n + 1) c5)) ∧ ∀ q ∈ F1, q ∈ gF g ((.slice A n c, l) :: R) ∨ w.heap.size ≤ q) := fun A5 c5 w5 k1 k2 k3 => by
    obtain ⟨F1, k4, k5, k6⟩ := h1.grow hn f t nd hf ht hl k1 k2 (fun q hq => (k3 q hq).imp id (fun z => by simp at z; omega))
    have := H1.out.size
    exact ⟨F1, k4, (Touch.ofBelow (F := gF g ((.slice A n c, l) :: R)) H1.out).trans k5 (fun x hx => .inl hx), fun q hq => (k6 q hq).imp id (fun z => by omega)⟩
  clear h h1 hv hgx hqx hlq ba0 ba1 hn hl
  go_enter Tryz.func59, Tryz.ntmps59
  go_upto_region 2 with fail
  (try rw [hw1])
  (try rw [hqa])
  clear hw1 hqa
  refine wp_region_till (fun w' => w'.cell? ⟨g, 8, none⟩ = some (.slice A n c) ∧ w'.cell? ⟨qa, 0, none⟩ = some (.int .u64 (f : Nat)) ∧ w'.cell? ⟨qa, 1, none⟩ = some (.int .u64 (t : Nat))) 14 (by kernel_rfl) ?_ (fun hHeld => ?_)
  · (try dsimp only); exact HSS.out _ HT0.out
  refine wpAnyT_pure (i := 0) (oi := ⟨_, _, _, _, _, _⟩) (v := ?_) rfl (by kernel_rfl) (by kernel_rfl) (by kernel_rfl) (fun _ _ _ h => h) (by kernel_rfl) (Or.inl ⟨by rfl, ?_⟩) (by assumption) ?_
  rotate_left
  · (intro wS hSw; (try dsimp only at hSw); go_simp <;> with_reducible rfl)
  try simp only [Act.put, List.setIfInBounds_toArray, List.set_cons_zero, List.set_cons_succ]
  refine wpAnyT_pure (i := 1) (oi := ⟨_, _, _, _, _, _⟩) (v := ?_) rfl (by kernel_rfl) (by kernel_rfl) (by kernel_rfl) (fun _ _ _ h => h) (by kernel_rfl) (Or.inl ⟨by rfl, ?_⟩) (by assumption) ?_
  rotate_left
  · (intro wS hSw; (try dsimp only at hSw); go_simp <;> with_reducible rfl)
  try simp only [Act.put, List.setIfInBounds_toArray, List.set_cons_zero, List.set_cons_succ]
  refine wpAnyT_pure (i := 2) (oi := ⟨_, _, _, _, _, _⟩) (v := ?_) rfl (by kernel_rfl) (by kernel_rfl) (by kernel_rfl) (fun _ _ _ h => h) (by kernel_rfl) (Or.inl ⟨by rfl, ?_⟩) (by assumption) ?_
  rotate_left
  · (intro wS hSw; (try dsimp only at hSw); go_simp <;> with_reducible rfl)
  try simp only [Act.put, List.setIfInBounds_toArray, List.set_cons_zero, List.set_cons_succ]
  refine wpAnyT_pure (i := 3) (oi := ⟨_, _, _, _, _, _⟩) (v := ?_) rfl (by kernel_rfl) (by kernel_rfl) (by kernel_rfl) (fun _ _ _ h => h) (by kernel_rfl) (Or.inl ⟨by rfl, ?_⟩) (by assumption) ?_
  rotate_left
  · (intro wS hSw; (try dsimp only at hSw); go_simp <;> with_reducible rfl)
  try simp only [Act.put, List.setIfInBounds_toArray, List.set_cons_zero, List.set_cons_succ]
  refine wpAnyT_pure (i := 4) (oi := ⟨_, _, _, _, _, _⟩) (v := ?_) rfl (by kernel_rfl) (by kernel_rfl) (by kernel_rfl) (fun _ _ _ h => h) (by kernel_rfl) (Or.inl ⟨by rfl, ?_⟩) (by assumption) ?_
  rotate_left
  · (intro wS hSw; (try dsimp only at hSw); go_simp <;> with_reducible rfl)
  try simp only [Act.put, List.setIfInBounds_toArray, List.set_cons_zero, List.set_cons_succ]
  refine wpAnyT_pure (i := 7) (oi := ⟨_, _, _, _, _, _⟩) (v := ?_) rfl (by kernel_rfl) (by kernel_rfl) (by kernel_rfl) (fun _ _ _ h => h) (by kernel_rfl) (Or.inl ⟨by rfl, ?_⟩) (by assumption) ?_
  rotate_left
  · (intro wS hSw; (try dsimp only at hSw); go_simp <;> with_reducible rfl)
  try simp only [Act.put, List.setIfInBounds_toArray, List.set_cons_zero, List.set_cons_succ]
  refine wpAnyT_pure (i := 11) (oi := ⟨_, _, _, _, _, _⟩) (v := ?_) rfl (by kernel_rfl) (by kernel_rfl) (by kernel_rfl) (fun _ _ _ h => h) (by kernel_rfl) (Or.inl ⟨by rfl, ?_⟩) (by assumption) ?_
  rotate_left
  · (intro wS hSw; (try dsimp only at hSw); go_simp <;> with_reducible rfl)
  try simp only [Act.put, List.setIfInBounds_toArray, List.set_cons_zero, List.set_cons_succ]
  refine wpAnyT_pure (i := 12) (oi := ⟨_, _, _, _, _, _⟩) (v := ?_) rfl (by kernel_rfl) (by kernel_rfl) (by kernel_rfl) (fun _ _ _ h => h) (by kernel_rfl) (Or.inl ⟨by rfl, ?_⟩) (by assumption) ?_
  rotate_left
  · (intro wS hSw; (try dsimp only at hSw); go_simp <;> with_reducible rfl)
  try simp only [Act.put, List.setIfInBounds_toArray, List.set_cons_zero, List.set_cons_succ]
  refine wpAnyT_take (i := 5) (oi := ⟨_, _, _, _, _, _⟩) (v := ?_) rfl (by kernel_rfl) (by kernel_rfl) (by kernel_rfl) (fun _ _ _ h => h) (by kernel_rfl) (Or.inl ⟨by rfl, ?_⟩) (by assumption) ?_
  rotate_left
  · (intro wS hSw; (try dsimp only at hSw); go_simp <;> with_reducible rfl)
  try simp only [Act.put, List.setIfInBounds_toArray, List.set_cons_zero, List.set_cons_succ]
  refine wpAnyT_take (i := 6) (oi := ⟨_, _, _, _, _, _⟩) (v := ?_) rfl (by kernel_rfl) (by kernel_rfl) (by kernel_rfl) (fun _ _ _ h => h) (by kernel_rfl) (Or.inl ⟨by rfl, ?_⟩) (by assumption) ?_
  rotate_left
  · (intro wS hSw; (try dsimp only at hSw); go_simp <;> with_reducible rfl)
  try simp only [Act.put, List.setIfInBounds_toArray, List.set_cons_zero, List.set_cons_succ]
  refine wpAnyT_ready (rs := [8]) (by kernel_rfl) (by simp) ?_
  refine (AllReadyT.cons (o := ⟨_, _, _, _, _, _⟩) rfl (fun K hK => ?_) AllReadyT.nil)
  go_simp
  refine hK.out _ _ (by (try dsimp only); (first | exact HSS.out _ HT5.out | exact HSS.out _ (Touch.ofBelow HB1.out) | exact HSS.out _ HT0.out)) (fun hHeld => ?_)
  clear hK K
  try simp only [Act.put, List.setIfInBounds_toArray, List.set_cons_zero, List.set_cons_succ]
  refine wpAnyT_ready (rs := [9]) (by kernel_rfl) (by simp) ?_
  refine (AllReadyT.cons (o := ⟨_, _, _, _, _, _⟩) rfl (fun K hK => ?_) AllReadyT.nil)
  go_simp
  refine hK.out _ _ (by (try dsimp only); (first | exact HSS.out _ HT5.out | exact HSS.out _ (Touch.ofBelow HB1.out) | exact HSS.out _ HT0.out)) (fun hHeld => ?_)
  clear hK K
  try simp only [Act.put, List.setIfInBounds_toArray, List.set_cons_zero, List.set_cons_succ]
  refine wpAnyT_ready (rs := [10]) (by kernel_rfl) (by simp) ?_
  refine (AllReadyT.cons (o := ⟨_, _, _, _, _, _⟩) rfl (fun K hK => ?_) AllReadyT.nil)
  refine step_append_any rfl (.tmp 13) (.tmp 17) 71 rfl 0 130 i0 z0 3 24 Tryz.underlying71 hi0 hz hsL hbL hzc (by decide) (.slice A n c) n (rowC gE l) rfl (own_step HROW.out HB1.out) (.slice (some ⟨w1.drew.heap.size, 0, none⟩) 1 1) 1 (rowC gE [⟨f, t, nd, 0⟩]) rfl (.inr ⟨_, _, rfl, rfl, (fun j u hu => ge_new w1.drew ⟨f, t, nd, 0⟩ j u hu)⟩) (gE_one _) (by unfold maxLen; omega) (by omega) (Nat.zero_le _) ?_
  intro A5 c5 w5 ho5 hg5 hs5
  have HO5 := Lib.hid ho5
  have HT5 : Hid (Touch (Value.slice A n c).ownBlock.toList w1 w5) := ((Touch.ofBelow HB1.out).grown hg5 (fun k hk => .inl (Option.mem_toList.2 hk)))
  have HS5 := Lib.hid hs5
  have ff := HFR.out _ HT5.out
  clear ho5 hg5 hs5
  refine hK.out _ _ (by (try dsimp only); (first | exact HSS.out _ HT5.out | exact HSS.out _ (Touch.ofBelow HB1.out) | exact HSS.out _ HT0.out)) (fun hHeld => ?_)
  clear hK K
  try simp only [Act.put, List.setIfInBounds_toArray, List.set_cons_zero, List.set_cons_succ]
  refine wpAnyT_pure (i := 13) (oi := ⟨_, _, _, _, _, _⟩) (v := ?_) rfl (by kernel_rfl) (by kernel_rfl) (by kernel_rfl) (fun _ _ _ h => h) (by kernel_rfl) (Or.inl ⟨by rfl, ?_⟩) (by assumption) ?_
  rotate_left
  · (intro wS hSw; (try dsimp only at hSw); go_simp <;> with_reducible rfl)
  try simp only [Act.put, List.setIfInBounds_toArray, List.set_cons_zero, List.set_cons_succ]
  refine wpAnyT_ready (rs := [14]) (by kernel_rfl) (by simp) ?_
  refine (AllReadyT.past (o := ⟨_, _, _, _, _, _⟩) rfl (by kernel_rfl) (fun K hK => ?_) AllReadyT.nil)
  go_simp
  refine hK.out _ _ ?_
  clear hK K
  try simp only [Act.put, List.setIfInBounds_toArray, List.set_cons_zero, List.set_cons_succ]
  refine wpAnyT_done (by kernel_rfl) ?_ _
  go_wp2_with fail
  go_end0
  obtain ⟨F1, z⟩ := HEND.out A5 c5 w5 HT5.out HO5.out HS5.out
  first
    | exact ⟨F1, rfl, z⟩
    | exact ⟨rfl, F1, z⟩
end Go.Proofs.YthgndgoljchnfaaGreat.Gi
namespace Go.Proofs.YthgndgoljchnfaaGreat.Gi
open Go.RowKit

theorem cells_touch (w : World) (g : Nat) (cs : Array Value) : Touch [g] w (w.setRow g cs) :=
  ⟨rfl, rfl, rfl, by simp [World.setRow], fun k _ hn => setRow_other w g k cs (fun e => hn (by simp [e]))⟩
/-- copy within one block, as a step of a region that draws its order -/
theorem step_copy_cells {P : Program} {ops : Array Oper} {o : Oper} {a : Act} {w : World} {K : Act → World → Prop} {Q : Exit → Act → World → Prop} {E : Prop} (hgd : o.guard = none) (d s : Operand) (dT sT : TypeId)
    (ho : o.op = .call { callee := .builtin .copy, args := #[d, s], argTypes := #[dT, sT] }) (elem : TypeId) (hu : P.underlying dT = some (.slice elem)) (hsz : (P.info? elem).map (·.size) = some 1)
    (g off dLen dCap : Nat) (ad : Addr) (sLen sCap : Nat) (hd : a.eval d = .slice (some ⟨g, off, none⟩) dLen dCap) (hs : a.eval s = .slice (some ad) sLen sCap)
    (cur : List Value) (t : TypeId) (hg : w.heap[g]? = some (.cells cur.toArray t (0, 0))) (cs : List Value) (hn : cs.length = Nat.min sLen dLen)
    (hsrc : ∀ j v, cs[j]? = some v → w.cell? (ad.add j) = some v) (hfit : off + cs.length ≤ cur.length) (h1 : ∀ v ∈ cs, v.oneCell' = true) (new : List Value) (hnew : cur.take off ++ (cs ++ cur.drop (off + cs.length)) = new)
    (h : ∀ w', Hid (w'.heap[g]? = some (.cells new.toArray t (0, 0))) → Hid (Touch [g] w w') → K (a.put o.dst (goInt cs.length)) w') :
    if Region.wanted o (yielded ops a.tmps) = true then Oper.wp P o a w K Q else E := by
  have hw : Region.wanted o (yielded ops a.tmps) = true := by simp [Region.wanted, hgd]
  rw [if_pos hw]
  have hrun := run_copy_row (P := P) w dT sT o.type elem g off dLen dCap ad sLen sCap cur.toArray t cs hu hsz hg hn hsrc (by simpa using hfit) h1
  unfold Oper.wp
  simp [execOp, ho, resolve, invoke, builtin, hd, hs, hrun, Result.andThen]
  refine h _ ?_ (cells_touch w g _)
  show _ = _
  rw [setRow_heap w g _ _ t _ hg, ← hnew]
theorem gm_one {w : World} {g : Nat} {H : HC} {s : GS} {x : GRow} {R : List GRow} (h : GM w g H s x R) : ∀ v ∈ (x :: R).dropLast.map (·.1), v.oneCell' = true := by
  intro v hv
  obtain ⟨y, hy, rfl⟩ := List.mem_map.1 hv
  obtain ⟨A, c, e⟩ := own_slice (h.rows y ((List.dropLast_sublist _).subset hy))
  rw [e]
  rfl
theorem gm_src {w : World} {g : Nat} {H : HC} {s : GS} {x : GRow} {R : List GRow} (h : GM w g H s x R) : ∀ j v, ((x :: R).dropLast.map (·.1))[j]? = some v → w.cell? ((⟨g, 8, none⟩ : Addr).add j) = some v := by
  intro j v hj
  rw [Go.WideShapes.add_plain]
  refine gm_cell h.hg ?_
  rw [List.getElem?_toArray]
  have e : (hC H s (x :: R))[8 + j]? = ((x :: R).map (·.1))[j]? := by
    rw [Nat.add_comm]
    rfl
  rw [e]
  rw [List.getElem?_map] at hj ⊢
  rw [List.getElem?_dropLast] at hj
  split at hj
  · exact hj
  · cases hj
theorem gm_moved {H : HC} {s : GS} {x : GRow} {R : List GRow} (hl : R.length = 39) : (hC H s (x :: R)).take 9 ++ ((x :: R).dropLast.map (·.1) ++ (hC H s (x :: R)).drop (9 + ((x :: R).dropLast.map (·.1)).length)) =
    H.a :: H.b :: H.c :: H.d :: H.e :: .bool s.shut :: .int .u64 (s.f : Nat) :: .int .u64 (s.t : Nat) :: x.1 :: (x :: R).dropLast.map (·.1) := by
  rw [List.drop_eq_nil_of_le (by simp [hl]), List.append_nil]
  rfl
theorem gm_new (H : HC) (s : GS) (S : List GRow) : hC H s (gNil :: S) = H.a :: H.b :: H.c :: H.d :: H.e :: .bool s.shut :: .int .u64 (s.f : Nat) :: .int .u64 (s.t : Nat) :: .slice none 0 0 :: S.map (·.1) := rfl
/-- all are one tick older -/
theorem GM.aged {w w1 : World} {g : Nat} {H : HC} {s : GS} {x : GRow} {R : List GRow} (h : GM w g H s x R) (k : Touch [g] w w1) (hg : w1.heap[g]? = some (.cells (hC H s (gNil :: (x :: R).dropLast)).toArray 76)) :
    ∃ F1, VG w1 g H s.tick F1 ∧ Touch (gF g (x :: R)) w w1 ∧ ∀ q ∈ F1, q ∈ gF g (x :: R) ∨ w.heap.size ≤ q := by
  have hm : ∀ y ∈ gNil :: (x :: R).dropLast, y = gNil ∨ y ∈ x :: R := fun y hy => by
    rcases List.mem_cons.1 hy with z | z
    · exact .inl z
    · exact .inr ((List.dropLast_sublist _).subset z)
  refine ⟨_, ⟨gNil, (x :: R).dropLast, ⟨by simp [h.hl], ?_, ?_, hg, ?_, ?_, ?_, h.b, ?_⟩, rfl⟩, k.mono (fun q hq => mem_gF.2 (.inl (by simpa using hq))), ?_⟩
  · show agedL s.l = _
    rw [h.l, agesL_tick _ _ (by simp [h.hl]), agesL_cons]
    simp
  · exact Nat.le_trans (agedL_len s.l) h.few
  · intro y hy
    rcases hm y hy with rfl | z
    · exact World.ownsRow_nil _ _ _ _
    · exact k.row (h.rows y z) fun q hq z' => h.gn y z (by rw [hq, List.mem_singleton.1 z'])
  · intro q hq
    cases hq
  · intro y hy
    rcases hm y hy with rfl | z
    · exact fun z => by cases z
    · exact h.gn y z
  · intro y hy p hp
    rcases hm y hy with rfl | z
    · cases hp
    · exact h.pts y z p hp
  · intro q hq
    rcases mem_gF.1 hq with rfl | ⟨y, hy, hyq⟩
    · exact .inl (mem_gF.2 (.inl rfl))
    · rcases hm y hy with rfl | z
      · cases hyq
      · exact .inl (mem_gF.2 (.inr ⟨y, z, hyq⟩))
set_option maxRecDepth 20000 in
set_option maxHeartbeats 2000000 in
theorem gateTick_any {w : World} {g : Nat} {H : HC} {s : GS} {F : List Nat} (h : VG w g H s F) : Calls Tryz.prog 64 #[.pointer (some ⟨g, 5, none⟩)] w fun e w' =>
    ∃ F1, e = .returned (.tuple #[]) ∧ VG w' g H s.tick F1 ∧ Touch F w w' ∧ ∀ q ∈ F1, q ∈ F ∨ w.heap.size ≤ q := by
  obtain ⟨x, R, h, rfl⟩ := h
  have HG := Lib.hid h
  have hd := h.below ((Below.refl _ _).drew)
  have HS1 := Lib.hid (gm_src hd)
  have HO1 := Lib.hid (gm_one hd)
  have HG1 := Lib.hid hd.hg
  have HL : Hid (((x :: R).dropLast.map (·.1)).length = 39) := by show _ = _; simp [h.hl]
  have HMV := Lib.hid (gm_moved (H := H) (s := s) (x := x) h.hl)
  have hsz : (Tryz.prog.info? 71).map (·.size) = some 1 := by kernel_rfl
  obtain ⟨cs, hcs⟩ : ∃ cs, (x :: R).dropLast.map (·.1) = cs := ⟨_, rfl⟩
  have HCS := Lib.hid hcs
  have HFIT : Hid (9 + ((x :: R).dropLast.map (·.1)).length ≤ (hC H s (x :: R)).length) := by show _ ≤ _; simp [h.hl]
  rw [hcs] at HS1 HO1 HL HMV HFIT
  have HN : Hid (cs.length = Nat.min 40 39) := by show _ = _; rw [HL.out]; rfl
  clear h hd hcs
  go_enter Tryz.func64, Tryz.ntmps64
  go_wp2
  go_region_law (refine step_copy_cells rfl (.tmp 7) (.tmp 11) 132 132 rfl 71 Tryz.underlying132 hsz g 9 39 39 ⟨g, 8, none⟩ 40 40 (by simp [Act.eval, Act.put]) (by simp [Act.eval, Act.put]) _ _ HG1.out cs HN.out HS1.out HFIT.out HO1.out _ HMV.out ?_; intro w1 K1 K2)
  have c3 : w1.cell? ⟨g, 8, none⟩ = some x.1 := gm_cell K1.out rfl
  have z3 : w1.frozen? ⟨g, 8, none⟩ = false := Lib.frozen_of_heap K1.out 8
  go_wp2
  go_end0
  have t2 : Touch [g] w (w1.setCell ⟨g, 8, none⟩ (.slice none 0 0)) := ((Touch.refl [g] w).drew.trans K2.out (fun _ hx => .inl hx)).set (.inl (by simp)) _
  obtain ⟨F1, z⟩ := HG.out.aged t2 (by rw [gm_set K1.out, gm_new H s, HCS.out]; simp)
  exact ⟨F1, rfl, z⟩
theorem run_index_slot {P : Program} (w : World) (t e e2 : TypeId) (n : Nat) (cs : Array Value) (i : Nat) (v : Value) (ht : P.underlying t = some (.array n e)) (he : P.underlying e = some (.slice e2)) (hs : (P.info? e).map (·.size) = some 1) (hi : i < n) (hv : cs[i]? = some v) :
    (Instr.index t (.agg cs) (.int .i64 (i : Nat))).run P w = .ok v w := by
  cases hq : P.info? e with
  | none => simp [hq] at hs
  | some j =>
    have h1 : j.size = 1 := by simpa [hq] using hs
    simp [Instr.index, run_underlying ht, asIntOf, sizeOf, typeInfo, hq, h1, part, isAgg, run_underlying he, hv]
    exact fun z => absurd hi (by omega)
/-- the forty slices, as one array -/
theorem gm_array {w : World} {g : Nat} {H : HC} {s : GS} {x : GRow} {R : List GRow} (h : GM w g H s x R) : w.rangeAt g 8 ((x :: R).map (·.1)) := by
  intro j v hj
  refine gm_cell h.hg ?_
  rw [List.getElem?_toArray, Nat.add_comm]
  exact hj
/-- how many are in the first rows -/
def upTo (S : List GRow) (i : Nat) : Nat := ((S.take i).map fun y => y.2.length).sum
theorem upTo_succ {S : List GRow} {i : Nat} {y : GRow} (h : S[i]? = some y) : upTo S (i + 1) = upTo S i + y.2.length := by
  unfold upTo
  rw [List.take_add_one, h]
  simp
theorem upTo_le (S : List GRow) (i : Nat) : upTo S i ≤ (S.map fun y => y.2.length).sum := by
  have h : (S.map fun y => y.2.length).sum = upTo S i + ((S.drop i).map fun y => y.2.length).sum := by
    unfold upTo
    rw [← List.sum_append, ← List.map_append, List.take_append_drop]
  omega
theorem infoArr_ : (Tryz.prog.info? 72).map (·.size) = some 40 := by kernel_rfl
theorem infoSl_ : (Tryz.prog.info? 71).map (·.size) = some 1 := by kernel_rfl
end Go.Proofs.YthgndgoljchnfaaGreat.Gi
