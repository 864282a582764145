/-
  The walks of a node's small methods: down, item.
-/
import Derived.Test.YtojiblhaiokdcaaNodes
namespace Go.Proofs.Ytojiblhaiokdcaa
open Go.RowKit

theorem below_drewN {B : Nat} {a b : World} (h : Below B a b) (n : Nat) : Below B a (b.drewN n) := ⟨h.os, h.tape, h.output, h.size, h.block⟩
theorem row_at {W : World} {e s n : Nat} {v : Value} {xs : List Value} (h : W.ownsRow 0 e s v n xs) (hn : 0 < n) : ∃ q c, v = .slice (some ⟨q, 0, none⟩) n c ∧ n ≤ c ∧ c ≤ maxLen := by
  rcases h.2 with ⟨_, h1⟩ | ⟨g, cap, cur, h0, _, _, h2, h3, _⟩
  · omega
  · exact ⟨g, cap, h0, h2, h3⟩
set_option maxHeartbeats 1000000 in
theorem down_none (g i : Nat) {its : List Item} {v u : Value} (W : World) (h : NdX W g its [] v u) :
    Calls Try.prog 52 #[ptr g, .int .i64 (i : Nat)] W fun e w' => e = .returned (.pointer none) ∧ W = w' := by
  obtain ⟨A, c, rfl⟩ := own_slice h.r1
  have c1 : W.cell? ⟨g, 1, none⟩ = some (.slice A 0 c) := h.c1
  clear h
  unfold ptr
  go_enter Try.func52, Try.ntmps52
  go_wp2
  go_ret
  exact ⟨rfl, rfl⟩
set_option maxHeartbeats 1000000 in
theorem down_some (g i : Nat) {its : List Item} {ps : List Nat} {v u : Value} (W : World) (h : NdX W g its ps v u) (hi : i < ps.length) (hp : ps.length ≤ 100000) :
    Calls Try.prog 52 #[ptr g, .int .i64 (i : Nat)] W fun e w' => e = .returned (ptr ps[i]) ∧ W = w' := by
  obtain ⟨q, c, rfl, h2, h3⟩ := row_at h.r1 (by omega)
  have c1 := h.c1
  have hx : W.cell? ⟨q, i, none⟩ = some (ptr ps[i]) := by rw [h.r1.cellAt i (by omega)]; exact ptrCells_get ps i hi
  obtain ⟨n, hn⟩ : ∃ n, ps.length = n := ⟨_, rfl⟩
  have b1 : ((n : Int) == 0) = false := by simp; omega
  have b2 : (i : Int) < (n : Int) := by omega
  generalize ps[i] = x at *
  rw [hn] at c1
  clear h h2 h3 hn hi hp
  unfold ptr at *
  go_enter Try.func52, Try.ntmps52
  go_wp2
  go_ret
  exact ⟨rfl, rfl⟩
set_option maxHeartbeats 1000000 in
theorem item_any (g i q c : Nat) {its : List Item} {ps : List Nat} {u : Value} (W : World) (h : NdX W g its ps (.slice (some ⟨q, 0, none⟩) its.length c) u) (hi : i < its.length) :
    Calls Try.prog 35 #[.agg #[ptr g, .int .i64 (i : Nat)]] W fun e w' => e = .returned (.pointer (some ⟨q, i * 2, none⟩)) ∧ Below W.heap.size W w' := by
  have hg := h.lt
  have c0 := h.c0
  obtain ⟨n, hn⟩ : ∃ n, its.length = n := ⟨_, rfl⟩
  have b2 : (i : Int) < (n : Int) := by omega
  rw [hn] at c0
  clear h hn hi
  unfold ptr at *
  go_enter Try.func35, Try.ntmps35
  go_wp2
  go_quiet (fail)
  go_wp2
  go_ret
  exact ⟨rfl, below_drewN ((Below.refl _ _).alloc (Nat.le_refl _) _) _⟩

/-- a node whose items are about to be laid anew: v0 the old slice, v' the new one -/
structure Set0 (W w1 : World) (g : Nat) (its' : List Item) (ps : List Nat) (v0 u0 v' : Value) : Prop where
  c : w1.cell? ⟨g, 0, none⟩ = some v0
  f : w1.frozen? ⟨g, 0, none⟩ = false
  nd : NdX (w1.setCell ⟨g, 0, none⟩ v') g its' ps v' u0
  t : Touch (g :: blocks v0 u0) W (w1.setCell ⟨g, 0, none⟩ v')
  b : ∀ q, q ∈ blocks v' u0 → q ∈ blocks v0 u0 ∨ W.heap.size ≤ q
theorem Set0.other {W w1 : World} {g : Nat} {its' : List Item} {ps : List Nat} {v0 u0 v' : Value} (h : Set0 W w1 g its' ps v0 u0 v') : w1.cell? ⟨g, 1, none⟩ = some u0 ∧ w1.frozen? ⟨g, 1, none⟩ = false := by
  have a := h.nd.c1
  have b := h.nd.f1
  rw [World.cell?_setCell_other _ _ _ _ (by simp)] at a
  rw [World.frozen?_setCell] at b
  exact ⟨a, b⟩
structure Set1 (W w1 : World) (g : Nat) (its : List Item) (ps' : List Nat) (v0 u0 u' : Value) : Prop where
  c : w1.cell? ⟨g, 1, none⟩ = some u0
  f : w1.frozen? ⟨g, 1, none⟩ = false
  nd : NdX (w1.setCell ⟨g, 1, none⟩ u') g its ps' v0 u'
  t : Touch (g :: blocks v0 u0) W (w1.setCell ⟨g, 1, none⟩ u')
  b : ∀ q, q ∈ blocks v0 u' → q ∈ blocks v0 u0 ∨ W.heap.size ≤ q
theorem Set0.of {W w1 : World} {g : Nat} {its its' : List Item} {ps : List Nat} {v u v' : Value} (h : NdX W g its ps v u) (hg : W.grownBy w1 v.ownBlock) (ho : w1.ownsRow 0 39 2 v' its'.length (itemCells its')) (hs : SameOrNew W v v') : Set0 W w1 g its' ps v u v' := by
  obtain ⟨a, b, c⟩ := h.set0 hg ho hs
  have hne : some g ≠ v.ownBlock := fun e => h.n0 g e.symm rfl
  exact ⟨hg.cell h.c0 hne, (World.frozen?_of_block (a := ⟨g, 0, none⟩) (hg.block g h.lt hne)).trans h.f0, a, b, c⟩
theorem Set1.of {W w1 : World} {g : Nat} {its : List Item} {ps ps' : List Nat} {v u u' : Value} (h : NdX W g its ps v u) (hg : W.grownBy w1 u.ownBlock) (ho : w1.ownsRow 0 63 1 u' ps'.length (ptrCells ps')) (hs : SameOrNew W u u') : Set1 W w1 g its ps' v u u' := by
  obtain ⟨a, b, c⟩ := h.set1 hg ho hs
  have hne : some g ≠ u.ownBlock := fun e => h.n1 g e.symm rfl
  exact ⟨hg.cell h.c1 hne, (World.frozen?_of_block (a := ⟨g, 1, none⟩) (hg.block g h.lt hne)).trans h.f1, a, b, c⟩
theorem Set0.from {W Wc w1 : World} {g : Nat} {its' : List Item} {ps : List Nat} {v0 u0 v' : Value} (h : Set0 Wc w1 g its' ps v0 u0 v') (ht : Touch [] W Wc) : Set0 W w1 g its' ps v0 u0 v' :=
  ⟨h.c, h.f, h.nd, (ht.mono (by simp)).trans h.t (fun _ hx => .inl hx), fun q hq => by
    rcases h.b q hq with e | e
    · exact .inl e
    · exact .inr (Nat.le_trans ht.size e)⟩
theorem Set1.from {W Wc w1 : World} {g : Nat} {its : List Item} {ps' : List Nat} {v0 u0 u' : Value} (h : Set1 Wc w1 g its ps' v0 u0 u') (ht : Touch [] W Wc) : Set1 W w1 g its ps' v0 u0 u' :=
  ⟨h.c, h.f, h.nd, (ht.mono (by simp)).trans h.t (fun _ hx => .inl hx), fun q hq => by
    rcases h.b q hq with e | e
    · exact .inl e
    · exact .inr (Nat.le_trans ht.size e)⟩
theorem Set0.then {W w1 V w2 : World} {g : Nat} {its its' : List Item} {ps ps' : List Nat} {v0 u0 v' u' : Value} (h : Set0 W w1 g its ps v0 u0 v') (hV : Touch [] (w1.setCell ⟨g, 0, none⟩ v') V) (k : Set1 V w2 g its' ps' v' u0 u') :
    Touch (g :: blocks v0 u0) W (w2.setCell ⟨g, 1, none⟩ u') ∧ ∀ q, q ∈ blocks v' u' → q ∈ blocks v0 u0 ∨ W.heap.size ≤ q := by
  have hs : W.heap.size ≤ V.heap.size := Nat.le_trans h.t.size hV.size
  have k' := k.from hV
  refine ⟨h.t.trans k'.t (fun x hx => ?_), fun q hq => ?_⟩
  · rcases List.mem_cons.1 hx with e | e
    · exact .inl (by rw [e]; simp)
    · rcases h.b x e with e2 | e2
      · exact .inl (List.mem_cons_of_mem _ e2)
      · exact .inr e2
  · rcases k.b q hq with e | e
    · exact h.b q e
    · exact .inr (Nat.le_trans hs e)
theorem itemCells_insAt (l : List Item) (i : Nat) (k v : ByteArray) : (itemCells l).take (i * 2) ++ ([Value.string k, Value.string v] ++ (itemCells l).drop (i * 2)) = itemCells (insAt l i (k, v)) := by
  rw [itemCells_take, itemCells_drop, insAt, itemCells_append, itemCells_cons]; rfl
theorem itemCells_remAt (l : List Item) (i : Nat) : (itemCells l).take (i * 2) ++ (itemCells l).drop ((i + 1) * 2) = itemCells (remAt l i) := by
  rw [itemCells_take, itemCells_drop, remAt, itemCells_append]
theorem ptrCells_insAt (l : List Nat) (i b : Nat) : (ptrCells l).take (i * 1) ++ ([ptr b] ++ (ptrCells l).drop (i * 1)) = ptrCells (insAt l i b) := by
  simp [ptrCells, insAt]
theorem ptrCells_remAt (l : List Nat) (i : Nat) : (ptrCells l).take (i * 1) ++ (ptrCells l).drop ((i + 1) * 1) = ptrCells (remAt l i) := by
  simp [ptrCells, remAt]
theorem insItems_call (g i vb : Nat) (k v : ByteArray) {its : List Item} {ps : List Nat} {v0 u0 : Value} (W : World) (h : NdX W g its ps v0 u0) (hi : i ≤ its.length) (hn : its.length ≤ 1000) (hvb : W.heap[vb]? = some (.cells #[.string k, .string v] 39 (0, 0))) (hne : vb ∉ blocks v0 u0) :
    Calls Try.prog 63 #[v0, .int .i64 (i : Nat), .slice (some ⟨vb, 0, none⟩) 1 1] W fun e w1 => ∃ A c n, e = .returned (.slice A n c) ∧ Set0 W w1 g (insAt its i (k, v)) ps v0 u0 (.slice A n c) := by
  refine (insItems_any 0 vb its.length i v0 (itemCells its) [.string k, .string v] W h.r0 hi (by omega) (Nat.zero_le _) (fun e => hne (mem_blocks.2 (.inl e))) rfl hvb (by intro u hu; simp at hu; rcases hu with rfl | rfl <;> rfl) (items_one _)).mono ?_
  rintro e w1 ⟨v', rfl, ho, hg, hs⟩
  rw [itemCells_insAt] at ho
  obtain ⟨A, c, rfl⟩ := own_slice ho
  exact ⟨A, c, _, rfl, Set0.of h hg (by rw [insAt_length _ _ _ hi]; exact ho) hs⟩
theorem insNodes_call (g i vb b : Nat) {its : List Item} {ps : List Nat} {v0 u0 : Value} (W : World) (h : NdX W g its ps v0 u0) (hi : i ≤ ps.length) (hn : ps.length ≤ 1000) (hvb : W.heap[vb]? = some (.cells #[ptr b] 63 (0, 0))) (hne : vb ∉ blocks v0 u0) :
    Calls Try.prog 64 #[u0, .int .i64 (i : Nat), .slice (some ⟨vb, 0, none⟩) 1 1] W fun e w1 => ∃ A c n, e = .returned (.slice A n c) ∧ Set1 W w1 g its (insAt ps i b) v0 u0 (.slice A n c) := by
  refine (insNodes_any 0 vb ps.length i u0 (ptrCells ps) [ptr b] W h.r1 hi (by omega) (Nat.zero_le _) (fun e => hne (mem_blocks.2 (.inr e))) rfl hvb (by intro u hu; simp at hu; subst hu; rfl) (ptr_one _)).mono ?_
  rintro e w1 ⟨u', rfl, ho, hg, hs⟩
  rw [ptrCells_insAt] at ho
  obtain ⟨A, c, rfl⟩ := own_slice ho
  exact ⟨A, c, _, rfl, Set1.of h hg (by rw [insAt_length _ _ _ hi]; exact ho) hs⟩
theorem delItems_call (g i j q c : Nat) {its : List Item} {ps : List Nat} {u0 : Value} (W : World) (h : NdX W g its ps (.slice (some ⟨q, 0, none⟩) its.length c) u0) (hij : i < j) (hj : j ≤ its.length) (hn : its.length ≤ 1000) :
    Calls Try.prog 65 #[.slice (some ⟨q, 0, none⟩) its.length c, .int .i64 (i : Nat), .int .i64 (j : Nat)] W fun e w1 => ∃ n, e = .returned (.slice (some ⟨q, 0, none⟩) n c) ∧ Set0 W w1 g (its.take i ++ its.drop j) ps (.slice (some ⟨q, 0, none⟩) its.length c) u0 (.slice (some ⟨q, 0, none⟩) n c) := by
  refine (delItems_any q its.length c i j 0 (itemCells its) W h.r0 hij hj (by omega) (items_one _)).mono ?_
  rintro e w1 ⟨rfl, ho, hg⟩
  rw [itemCells_take, itemCells_drop, ← itemCells_append] at ho
  exact ⟨_, rfl, Set0.of h hg (by rw [List.length_append, List.length_take, List.length_drop, Nat.min_eq_left (by omega)]; exact ho) (fun q' e => .inl e)⟩
theorem delNodes_call (g i j q c : Nat) {its : List Item} {ps : List Nat} {v0 : Value} (W : World) (h : NdX W g its ps v0 (.slice (some ⟨q, 0, none⟩) ps.length c)) (hij : i < j) (hj : j ≤ ps.length) (hn : ps.length ≤ 1000) :
    Calls Try.prog 67 #[.slice (some ⟨q, 0, none⟩) ps.length c, .int .i64 (i : Nat), .int .i64 (j : Nat)] W fun e w1 => ∃ n, e = .returned (.slice (some ⟨q, 0, none⟩) n c) ∧ Set1 W w1 g its (ps.take i ++ ps.drop j) v0 (.slice (some ⟨q, 0, none⟩) ps.length c) (.slice (some ⟨q, 0, none⟩) n c) := by
  refine (delNodes_any q ps.length c i j 0 (ptrCells ps) W h.r1 hij hj (by omega) (ptr_one _)).mono ?_
  rintro e w1 ⟨rfl, ho, hg⟩
  have e1 : (ptrCells ps).take (i * 1) ++ (ptrCells ps).drop (j * 1) = ptrCells (ps.take i ++ ps.drop j) := by simp [ptrCells]
  rw [e1] at ho
  exact ⟨_, rfl, Set1.of h hg (by rw [List.length_append, List.length_take, List.length_drop, Nat.min_eq_left (by omega)]; exact ho) (fun q' e => .inl e)⟩
end Go.Proofs.Ytojiblhaiokdcaa
