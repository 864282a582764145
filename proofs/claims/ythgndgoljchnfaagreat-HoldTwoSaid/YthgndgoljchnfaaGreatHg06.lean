/-
  A region that draws its order, walked by hand: what is read ahead holds (S) as long as operation k has not come up: k waits for the loads, and what it writes, or what is written behind it, may break S. No program is named here.
  A row that may begin in the middle of a block, and append onto it. (Taken out of LinkBase.)
  The walk of arc.Within.
  The walk of 'alive', the first call of every statement of chapter 2.
  What a region of a statement's walk holds: the cells of the arcs that it reads, while calls make memory of their own.
  The arcs that a hold owns, as a row in memory; the library's IndexFunc and ContainsFunc over it, with the closures of Has and free. (Written by tools/genHF.py.)
-/
import Derived.Test.YthgndgoljchnfaaGreatRows
import Derived.Test.YthgndgoljchnfaaGreatHg04
import Derived.Test.YthgndgoljchnfaaGreatHg05
import Derived.Test.YthgndgoljchnfaaGreatHg01
import Derived.WalkKit
import Derived.Deep.RegionHeld3
import Derived.Deep.LoopGhost
import Derived.Deep.DeepCutAuto
namespace Go.Proofs.YthgndgoljchnfaaGreat
open Go.RowKit

section
variable {P : Program} {md : Region.Mode} {ops : Array Oper} {Q : Exit → Act → World → Prop} {S : World → Prop} {k : Nat}
/-- as wpAnyH, but S is asked till k has come up alone -/
def wpAnyT (P : Program) (md : Region.Mode) (ops : Array Oper) (Q : Exit → Act → World → Prop) (S : World → Prop) (k : Nat) : Nat → Array Bool → Act → World → Prop
  | 0, listed, a, w => Region.ready md ops listed = [] ∧ Q .normal a w
  | fuel + 1, listed, a, w =>
    (Region.ready md ops listed = [] → Q .normal a w) ∧
    ∀ i ∈ Region.ready md ops listed, wpOp P ops Q i (fun a' w' => ((listed.setIfInBounds i true).getD k true = false → S w') ∧ wpAnyT P md ops Q S k fuel (listed.setIfInBounds i true) a' w') a w
theorem wpAny_of_till : ∀ (fuel : Nat) (listed : Array Bool) (a : Act) (w : World), wpAnyT P md ops Q S k fuel listed a w → wpAny P md ops Q fuel listed a w
  | 0, _, _, _, h => h
  | fuel + 1, _, _, _, h => ⟨h.1, fun i hi => wpOp_mono (fun a' w' h' => wpAny_of_till fuel _ a' w' h'.2) (h.2 i hi)⟩
theorem getD_set_other (l : Array Bool) {i k : Nat} (h : i ≠ k) : (l.setIfInBounds i true).getD k true = l.getD k true := by
  simp only [Array.getD_eq_getD_getElem?]
  rw [Array.getElem?_setIfInBounds_ne h]
/-- a load is taken first: it yields its value in every world that meets S, and k waits for it; or it yields its value in whatever world -/
theorem wpAnyT_first {T : World → Prop} {i : Nat} {oi : Oper} {v : Value} (hi : ops[i]? = some oi) (hsel : ∀ (j : Nat) (o : Oper) cs b, ops[j]? = some o → o.op ≠ .select cs b)
    (hQ : ∀ c a w, Q (.panic c) (a.put oi.dst v) w → Q (.panic c) a w) (hki : i ≠ k)
    (hT : (∀ w, T w) ∨ (T = S ∧ ∀ ok, ops[k]? = some ok → ∃ e ∈ ok.after, Region.binds md e = true ∧ e.on = i)) :
    ∀ (fuel : Nat) (listed : Array Bool) (a : Act) (w : World),
      (∀ j oj, ops[j]? = some oj → j ≠ i → listed.getD j true = false → (∀ e ∈ oj.after, Region.binds md e = true → e.on ≠ i) → oi.apart ops oj = true) →
      i ∈ Region.ready md ops listed → YieldsIf P ops T oi v a → (listed.getD k true = false → S w) → ((∀ w, T w) ∨ listed.getD k true = false) →
      wpAnyT P md ops Q S k fuel (listed.setIfInBounds i true) (a.put oi.dst v) w → wpAnyT P md ops Q S k (fuel + 1) listed a w := by
  have hTw : ∀ {listed : Array Bool} {w : World}, (listed.getD k true = false → S w) → ((∀ w, T w) ∨ listed.getD k true = false) → T w := by
    intro listed w hS hl
    rcases hT with h | ⟨rfl, _⟩
    · exact h w
    · rcases hl with h | h
      · exact h w
      · exact hS h
  intro fuel
  induction fuel with
  | zero =>
    intro listed a w _ hr hy hS hl H
    refine ⟨fun h => (by rw [h] at hr; cases hr), fun j hj => ?_⟩
    by_cases hji : j = i
    · subst hji
      exact hy.wpOp hi (hTw hS hl) ⟨fun h => hS (by rw [getD_set_other _ hki] at h; exact h), H⟩
    · have := ready_mono hj hji
      rw [H.1] at this
      cases this
  | succ fuel ih =>
    intro listed a w hfree hr hy hS hl H
    refine ⟨fun h => (by rw [h] at hr; cases hr), fun j hj => ?_⟩
    by_cases hji : j = i
    · subst hji
      exact hy.wpOp hi (hTw hS hl) ⟨fun h => hS (by rw [getD_set_other _ hki] at h; exact h), H⟩
    · have h1 := H.2 j (ready_mono hj hji)
      obtain ⟨hjun, oj, hoj, hall⟩ := mem_ready.1 hj
      have hnot : ∀ e ∈ oj.after, Region.binds md e = true → e.on ≠ i := fun e he hb heq => by
        have h1 := hall e he hb
        have h0 := (mem_ready.1 hr).1
        rw [heq] at h1
        rcases Nat.lt_or_ge i listed.size with h' | h'
        · simp [h'] at h0 h1; rw [h0] at h1; cases h1
        · simp [Array.getElem?_eq_none h'] at h1
      have h2 := wpOp_putIf hoj (hfree j oj hoj hji hjun hnot) (fun cs b => hsel i oi cs b hi) (fun cs b => hsel j oj cs b hoj) hQ hy h1
      have hfree' : ∀ m ok, ops[m]? = some ok → m ≠ i → (listed.setIfInBounds j true).getD m true = false →
          (∀ e ∈ ok.after, Region.binds md e = true → e.on ≠ i) → oi.apart ops ok = true := fun m ok hk hki hun hno => by
        refine hfree m ok hk hki ?_ hno
        by_cases hjk : j = m
        · subst hjk; exact hjun
        · rw [getD_set_ne true hjk] at hun; exact hun
      have hl' : (∀ w, T w) ∨ (listed.setIfInBounds j true).getD k true = false := by
        rcases hT with h | ⟨_, h⟩
        · exact .inl h
        · rcases hl with h' | h'
          · exact .inl h'
          · have hjk : j ≠ k := fun e => by
              subst e
              obtain ⟨e, he, hb, ho⟩ := h oj hoj
              exact hnot e he hb ho
            exact .inr (by rw [getD_set_other _ hjk]; exact h')
      refine wpOp_mono (fun a' w' h3 => ?_) h2
      have hS' : (listed.setIfInBounds j true).getD k true = false → S w' := fun h => h3.2.1 (by
        rw [Array.setIfInBounds_comm _ _ (Ne.symm hji), getD_set_other _ hki]; exact h)
      refine ⟨hS', ih (listed.setIfInBounds j true) a' w' hfree' (ready_mono hr (Ne.symm hji)) h3.1 hS' hl' ?_⟩
      rw [Array.setIfInBounds_comm _ _ hji]
      exact h3.2.2
/-- does k wait for i? -/
def waits (md : Region.Mode) (ops : Array Oper) (k i : Nat) : Bool := match ops[k]? with
  | some ok => ok.after.any fun e => Region.binds md e && e.on == i
  | none => true
/-- a load that k waits for is taken first -/
theorem wpAnyT_take {i : Nat} {oi : Oper} {v : Value} {fuel : Nat} {listed : Array Bool} {a : Act} {w : World} (hi : ops[i]? = some oi)
    (hs : Region.noSelect ops = true) (hf : Region.free md ops listed i = true) (hr : (Region.ready md ops listed).contains i = true)
    (hQ : ∀ c a w, Q (.panic c) (a.put oi.dst v) w → Q (.panic c) a w) (hw : (i != k && waits md ops k i && !listed.getD k true) = true) (hy : YieldsIf P ops S oi v a) (hS : S w)
    (h : wpAnyT P md ops Q S k fuel (listed.setIfInBounds i true) (a.put oi.dst v) w) : wpAnyT P md ops Q S k (fuel + 1) listed a w := by
  simp only [Bool.and_eq_true, bne_iff_ne, Bool.not_eq_true'] at hw
  refine wpAnyT_first hi (Region.noSelect_spec hs) hQ hw.1.1 (.inr ⟨rfl, fun ok hok => ?_⟩) fuel listed a w (Region.free_spec hi hf) (by simpa using hr) hy (fun _ => hS) (.inr hw.2) h
  have h1 := hw.1.2
  simp only [waits, hok] at h1
  obtain ⟨e, he, hb⟩ := Array.any_eq_true'.1 h1
  simp only [Bool.and_eq_true, beq_iff_eq] at hb
  exact ⟨e, he, hb⟩
/-- what yields in whatever world is taken first -/
theorem wpAnyT_pure {i : Nat} {oi : Oper} {v : Value} {fuel : Nat} {listed : Array Bool} {a : Act} {w : World} (hi : ops[i]? = some oi)
    (hs : Region.noSelect ops = true) (hf : Region.free md ops listed i = true) (hr : (Region.ready md ops listed).contains i = true)
    (hQ : ∀ c a w, Q (.panic c) (a.put oi.dst v) w → Q (.panic c) a w) (hw : (i != k) = true) (hy : YieldsIf P ops (fun _ => True) oi v a) (hS : S w)
    (h : wpAnyT P md ops Q S k fuel (listed.setIfInBounds i true) (a.put oi.dst v) w) : wpAnyT P md ops Q S k (fuel + 1) listed a w :=
  wpAnyT_first (T := fun _ => True) hi (Region.noSelect_spec hs) hQ (by simpa using hw) (.inl fun _ => trivial) fuel listed a w (Region.free_spec hi hf) (by simpa using hr) hy (fun _ => hS) (.inl fun _ => trivial) h
def AllReadyT (P : Program) (md : Region.Mode) (ops : Array Oper) (Q : Exit → Act → World → Prop) (S : World → Prop) (k : Nat) (fuel : Nat) (listed : Array Bool) (a : Act) (w : World) (rs : List Nat) : Prop :=
  ∀ i ∈ rs, wpOp P ops Q i (fun a' w' => ((listed.setIfInBounds i true).getD k true = false → S w') ∧ wpAnyT P md ops Q S k fuel (listed.setIfInBounds i true) a' w') a w
theorem AllReadyT.nil {fuel : Nat} {listed : Array Bool} {a : Act} {w : World} : AllReadyT P md ops Q S k fuel listed a w [] := fun _ h => by cases h
/-- ahead of k: S is to be shown anew -/
theorem AllReadyT.cons {fuel : Nat} {listed : Array Bool} {a : Act} {w : World} {i : Nat} {o : Oper} {rs : List Nat} (ho : ops[i]? = some o)
    (h : ∀ K' : Act → World → Prop, Shut (∀ a w, S w → (S w → wpAnyT P md ops Q S k fuel (listed.setIfInBounds i true) a w) → K' a w) → if Region.wanted o (yielded ops a.tmps) = true then Oper.wp P o a w K' Q else K' (a.put o.dst undef) w)
    (hs : AllReadyT P md ops Q S k fuel listed a w rs) : AllReadyT P md ops Q S k fuel listed a w (i :: rs) := fun j hj => by
  rcases List.mem_cons.1 hj with rfl | hj
  · exact wpOp_step ho (fun K' hK => h K' (fun a w hS hW => hK a w ⟨fun _ => hS, hW hS⟩))
  · exact hs j hj
/-- k itself, and what comes behind it: S is asked no more -/
theorem AllReadyT.past {fuel : Nat} {listed : Array Bool} {a : Act} {w : World} {i : Nat} {o : Oper} {rs : List Nat} (ho : ops[i]? = some o) (hl : (listed.setIfInBounds i true).getD k true = true)
    (h : ∀ K' : Act → World → Prop, Shut (∀ a w, wpAnyT P md ops Q S k fuel (listed.setIfInBounds i true) a w → K' a w) → if Region.wanted o (yielded ops a.tmps) = true then Oper.wp P o a w K' Q else K' (a.put o.dst undef) w)
    (hs : AllReadyT P md ops Q S k fuel listed a w rs) : AllReadyT P md ops Q S k fuel listed a w (i :: rs) := fun j hj => by
  rcases List.mem_cons.1 hj with rfl | hj
  · exact wpOp_step ho (fun K' hK => h K' (fun a w hW => hK a w ⟨fun h9 => (by rw [hl] at h9; cases h9), hW⟩))
  · exact hs j hj
theorem wpAnyT_ready {rs : List Nat} {fuel : Nat} {listed : Array Bool} {a : Act} {w : World} (hr : Region.ready md ops listed = rs) (hne : rs ≠ [])
    (h : AllReadyT P md ops Q S k fuel listed a w rs) : wpAnyT P md ops Q S k (fuel + 1) listed a w := ⟨fun h0 => absurd (hr ▸ h0) hne, hr ▸ h⟩
theorem wpAnyT_done {listed : Array Bool} {a : Act} {w : World} (hr : Region.ready md ops listed = []) (h : Q .normal a w) :
    ∀ fuel, wpAnyT P md ops Q S k fuel listed a w
  | 0 => ⟨hr, h⟩
  | _ + 1 => ⟨fun _ => h, by rw [hr]; simp⟩
theorem wp_region_till {id : Nat} {a : Act} {w : World} (S : World → Prop) (k : Nat) (hm : P.follows .mixedOrders = true) (hS : S w.drew)
    (h : S w.drew → wpAnyT P .any ops Q S k ops.size (Array.replicate ops.size false) a w.drew) : (Code.region id ops true).wp P Q a w :=
  wp_region_any hm (wpAny_of_till _ _ _ _ (h hS))
end
end Go.Proofs.YthgndgoljchnfaaGreat
namespace Go.Proofs.YthgndgoljchnfaaGreat
open Go.RowKit

theorem oa_cell {w : World} {b o : Nat} {cs : Array Value} {T : TypeId} {v : Value} (hb : w.heap[b]? = some (.cells cs T)) (hv : cs[o]? = some v) : w.cell? ⟨b, o, none⟩ = some v := by rw [Lib.cell_of_heap hb, hv]
/-! ### A row that begins anywhere in a block -/
def OwnAt (w : World) (e : TypeId) (size : Nat) (v : Value) (n : Nat) (xs : List Value) : Prop :=
  xs.length = n * size ∧ ((v = .slice none 0 0 ∧ n = 0) ∨ ∃ q o c cur, v = .slice (some ⟨q, o, none⟩) n c ∧ w.heap[q]? = some (.cells cur e (0, 0)) ∧ n ≤ c ∧ c ≤ maxLen ∧ o + c * size ≤ cur.size ∧ (cur.toList.drop o).take (n * size) = xs)
theorem OwnAt.nil (w : World) (e : TypeId) (size : Nat) : OwnAt w e size (.slice none 0 0) 0 [] := ⟨by simp, .inl ⟨rfl, rfl⟩⟩
theorem OwnAt.lt {w : World} {e : TypeId} {size n : Nat} {v : Value} {xs : List Value} (h : OwnAt w e size v n xs) : ∀ q, v.ownBlock = some q → q < w.heap.size := by
  intro q hq
  rcases h.2 with ⟨rfl, _⟩ | ⟨q', o, c, cur, rfl, hh, _⟩
  · cases hq
  · injection hq with hq
    subst hq
    exact (Array.getElem?_eq_some_iff.1 hh).1
theorem OwnAt.shape {w : World} {e : TypeId} {size n : Nat} {v : Value} {xs : List Value} (h : OwnAt w e size v n xs) : ∃ A c, v = .slice A n c ∧ n ≤ c ∧ c ≤ maxLen := by
  rcases h.2 with ⟨rfl, rfl⟩ | ⟨q', o, c, cur, rfl, hh, h1, h2, _⟩
  · exact ⟨none, 0, rfl, Nat.le_refl _, by unfold maxLen; omega⟩
  · exact ⟨_, c, rfl, h1, h2⟩
theorem OwnAt.at_ {w : World} {e : TypeId} {size n c : Nat} {A : Option Addr} {xs : List Value} (h : OwnAt w e size (.slice A n c) n xs) (hn : 0 < n) : ∃ q o, A = some ⟨q, o, none⟩ := by
  rcases h.2 with ⟨h0, h1⟩ | ⟨q', o, c, cur, h0, _⟩
  · omega
  · injection h0 with h0
    exact ⟨_, _, h0⟩
theorem OwnAt.block {w w1 : World} {e : TypeId} {size n : Nat} {v : Value} {xs : List Value} (h : OwnAt w e size v n xs) (hb : ∀ q, v.ownBlock = some q → w1.heap[q]? = w.heap[q]?) : OwnAt w1 e size v n xs := by
  refine ⟨h.1, ?_⟩
  rcases h.2 with ⟨rfl, rfl⟩ | ⟨q', o, c, cur, rfl, hh, h1, h2, h3, h4⟩
  · exact .inl ⟨rfl, rfl⟩
  · exact .inr ⟨q', o, c, cur, rfl, (hb q' rfl).trans hh, h1, h2, h3, h4⟩
theorem OwnAt.touch {w w1 : World} {e : TypeId} {size n : Nat} {v : Value} {xs : List Value} {F : List Nat} (h : OwnAt w e size v n xs) (t : Touch F w w1) (hn : ∀ q, v.ownBlock = some q → q ∉ F) : OwnAt w1 e size v n xs :=
  h.block fun q hq => t.block q (h.lt q hq) (hn q hq)
theorem OwnAt.below {w w1 : World} {e : TypeId} {size n : Nat} {v : Value} {xs : List Value} (h : OwnAt w e size v n xs) (t : Below w.heap.size w w1) : OwnAt w1 e size v n xs := h.touch (Touch.ofBelow (F := []) t) (by simp)
theorem OwnAt.cells {w : World} {e : TypeId} {size n q o c : Nat} {xs : List Value} (h : OwnAt w e size (.slice (some ⟨q, o, none⟩) n c) n xs) : ∀ j u, xs[j]? = some u → w.cell? ⟨q, o + j, none⟩ = some u := by
  intro j u hu
  rcases h.2 with ⟨h0, _⟩ | ⟨q', o', c', cur, h0, hh, h1, h2, h3, h4⟩
  · cases h0
  · injection h0 with h0 _ _
    injection h0 with h0
    injection h0 with ha hb _
    subst ha hb
    refine oa_cell hh ?_
    have hj : j < n * size := by rw [← h.1]; exact (List.getElem?_eq_some_iff.1 hu).1
    rw [← h4, List.getElem?_take, if_pos hj, List.getElem?_drop, Array.getElem?_toList] at hu
    exact hu
theorem OwnAt.cellAt {w : World} {e : TypeId} {size n q o c : Nat} {xs : List Value} (h : OwnAt w e size (.slice (some ⟨q, o, none⟩) n c) n xs) (j : Nat) (hj : j < xs.length) : w.cell? ⟨q, o + j, none⟩ = xs[j]? := by
  rw [h.cells j _ (List.getElem?_eq_getElem hj), List.getElem?_eq_getElem hj]
theorem OwnAt.drop {w : World} {e : TypeId} {size n q o c k : Nat} {xs : List Value} (h : OwnAt w e size (.slice (some ⟨q, o, none⟩) n c) n xs) (hk : k ≤ n) : OwnAt w e size (.slice (some ⟨q, o + k * size, none⟩) (n - k) (c - k)) (n - k) (xs.drop (k * size)) := by
  have hm : k * size ≤ n * size := Nat.mul_le_mul_right _ hk
  refine ⟨by rw [List.length_drop, h.1, ← Nat.sub_mul], ?_⟩
  rcases h.2 with ⟨h0, _⟩ | ⟨q', o', c', cur, h0, hh, h1, h2, h3, h4⟩
  · cases h0
  · injection h0 with h0 _ hc
    injection h0 with h0
    injection h0 with ha hb _
    subst ha hb hc
    have hc2 : k * size ≤ c * size := Nat.mul_le_mul_right _ (by omega)
    refine .inr ⟨q, _, _, cur, rfl, hh, by omega, by omega, by rw [Nat.sub_mul]; omega, ?_⟩
    rw [← h4, List.drop_take, List.drop_drop, Nat.sub_mul]
theorem OwnAt.empty {w : World} {e : TypeId} {size n q o c : Nat} {xs : List Value} (h : OwnAt w e size (.slice (some ⟨q, o, none⟩) n c) n xs) : OwnAt w e size (.slice (some ⟨q, o, none⟩) 0 0) 0 [] := by
  refine ⟨by simp, ?_⟩
  rcases h.2 with ⟨h0, _⟩ | ⟨q', o', c', cur, h0, hh, h1, h2, h3, h4⟩
  · cases h0
  · injection h0 with h0 _ hc
    injection h0 with h0
    injection h0 with ha hb _
    subst ha hb hc
    exact .inr ⟨q, o, 0, cur, rfl, hh, Nat.le_refl _, by unfold maxLen; omega, by have := Nat.zero_le (c * size); omega, by simp⟩
/-- one cell of it is written -/
theorem OwnAt.set {w : World} {e : TypeId} {size n q o c : Nat} {xs : List Value} (h : OwnAt w e size (.slice (some ⟨q, o, none⟩) n c) n xs) (j : Nat) (u : Value) : OwnAt (w.setCell ⟨q, o + j, none⟩ u) e size (.slice (some ⟨q, o, none⟩) n c) n (xs.set j u) := by
  refine ⟨by rw [List.length_set]; exact h.1, ?_⟩
  rcases h.2 with ⟨h0, _⟩ | ⟨q', o', c', cur, h0, hh, h1, h2, h3, h4⟩
  · cases h0
  · injection h0 with h0 _ hc
    injection h0 with h0
    injection h0 with ha hb _
    subst ha hb hc
    have hc2 : n * size ≤ c * size := Nat.mul_le_mul_right _ h1
    refine .inr ⟨q, o, c, cur.setIfInBounds (o + j) u, rfl, ?_, h1, h2, by simpa using h3, ?_⟩
    · simp [World.setCell, Array.getElem?_modify, hh]
    · rw [Array.toList_setIfInBounds, List.drop_set, if_neg (by omega), Nat.add_sub_cancel_left, List.take_set, h4]
theorem ownAt_of_row {w : World} {base e size n : Nat} {v : Value} {xs : List Value} (h : w.ownsRow base e size v n xs) : OwnAt w e size v n xs := by
  refine ⟨h.1, ?_⟩
  rcases h.2 with ⟨rfl, rfl⟩ | ⟨g, cap, cur, rfl, hb, hg, hn, hc, hs, ht⟩
  · exact .inl ⟨rfl, rfl⟩
  · exact .inr ⟨g, 0, cap, cur, rfl, hg, hn, hc, by omega, by simpa using ht⟩
theorem run_append_at {P : Program} (w : World) (t ty e : TypeId) (i : TypeInfo) (z : Value) (size bytes : Nat) (ht : P.underlying t = some (.slice e)) (hi : P.info? e = some i) (hz : i.zero = some z)
    (hsize : i.size = size) (hby : i.bytes = bytes) (hzs : z.cells.size = size)
    (v : Value) (n : Nat) (xs : List Value) (hown : OwnAt w e size v n xs) (a : Addr) (m c : Nat) (news : List Value) (hm : 0 < m) (hl : news.length = m * size) (hnews : ∀ j u, news[j]? = some u → w.cell? (a.add j) = some u) (h1 : ∀ u ∈ news, u.oneCell' = true)
    (h63 : n + m ≤ maxLen) (hbytes : (n + m) * bytes ≤ 140737488355328) :
    ∃ v' w', (Builtin.append_ #[t, t] ty #[v, .slice (some a) m c]).run P w = .ok v' w' ∧ OwnAt w' e size v' (n + m) (xs ++ news) ∧ w.grownBy w' v.ownBlock ∧ SameOrNew w v v' := by
  subst hsize hby
  have hsmall : n + m ≤ 9223372036854775807 := by simp only [maxLen] at h63; omega
  have hlen : (xs ++ news).length = (n + m) * i.size := by rw [List.length_append, hown.1, hl, Nat.add_mul]
  have grown : ∀ (old : Nat), old < n + m → ∀ (row : Option Nat),
      OwnAt (w.drew.alloc (.cells (xs.toArray ++ news.toArray ++ Builtin.zeroCells z.cells (grownCap w (n + m) old e - (n + m))) e)) e i.size
        (.slice (some ⟨w.heap.size, 0, none⟩) (n + m) (grownCap w (n + m) old e)) (n + m) (xs ++ news) ∧
      w.grownBy (w.drew.alloc (.cells (xs.toArray ++ news.toArray ++ Builtin.zeroCells z.cells (grownCap w (n + m) old e - (n + m))) e)) row := by
    intro old ho row
    have hge := grownCap_ge w (n + m) old e
    have hcm : grownCap w (n + m) old e ≤ maxLen := grownCap_le_maxLen w (n + m) old e h63
    refine ⟨⟨hlen, .inr ⟨w.heap.size, 0, _, _, rfl, heap_alloc_new w.drew _, hge, hcm, ?_, ?_⟩⟩, ⟨rfl, rfl, rfl, by simp, fun k hk _ => Below.heap_alloc w.drew _ k hk⟩⟩
    · simp only [Array.size_append, List.size_toArray, size_zeroCells, hzs, hown.1, hl, ← Nat.add_mul]
      rw [Nat.zero_add]
      refine Nat.le_of_eq ?_
      congr 1
      omega
    · rw [List.drop_zero]
      simp only [Array.toList_append, List.append_assoc]
      rw [← List.append_assoc, ← hlen]
      exact List.take_left
  rcases hown.2 with ⟨rfl, rfl⟩ | ⟨g, o, cap, cur, rfl, hg, hnc, hcm, hcs, htake⟩
  · have hx : xs = [] := List.eq_nil_of_length_eq_zero (by simpa using hown.1)
    subst hx
    have hr := run_append_nil (P := P) w t ty e i z ht hi hz a m c news hl hnews (by omega) (by omega) (by have hb := hbytes; simp only [Nat.zero_add] at hb; omega)
    have hgr := grown 0 (by omega) (Value.ownBlock (.slice none 0 0))
    simp only [Nat.zero_add, List.nil_append, Array.empty_append] at hgr ⊢
    exact ⟨_, _, hr, hgr.1, hgr.2, fun q hq => .inr (by injection hq with hq; have h9 : w.heap.size = q := hq; omega)⟩
  · by_cases hroom : n + m ≤ cap
    · have hfit : o + n * i.size + news.length ≤ cur.size := by
        have h9 : (n + m) * i.size ≤ cap * i.size := Nat.mul_le_mul_right _ hroom
        rw [Nat.add_mul] at h9
        rw [hl]; omega
      have hf := run_firstCells_some (P := P) w i.size m a m c news hl hnews
      have hst := run_storeCells_at P g (o + n * i.size) e news 0 cur w hg (by simpa using hfit) h1
      simp only [Nat.add_zero] at hst
      refine ⟨.slice (some ⟨g, o, none⟩) (n + m) cap, _, by simp [Builtin.append_, run_underlying ht, sizeOf, typeInfo, hi, Builtin.lenOf, hroom, hf, Addr.add_lit, hst]; rfl, ⟨hlen, .inr ⟨g, o, cap, _, rfl, setRow_heap w g cur _ e _ hg, hroom, hcm, ?_, ?_⟩⟩, grown_setRow _ _ _, fun q hq => .inl hq⟩
      · simp only [List.size_toArray, List.length_append, List.length_take, List.length_drop, Array.length_toList]
        omega
      · have e1 : (cur.toList.take (o + n * i.size)).length = o + n * i.size := by rw [List.length_take, Array.length_toList]; omega
        rw [List.toList_toArray, List.drop_append_of_le_length (by rw [e1]; omega), List.drop_take, Nat.add_sub_cancel_left, htake, ← List.append_assoc, ← hlen]
        exact List.take_left
    · have holds : ∀ j u, xs[j]? = some u → w.cell? ((⟨g, o, none⟩ : Addr).add j) = some u := fun j u hj => by rw [Go.WideShapes.add_plain]; exact hown.cells j u hj
      have hr := run_append_grow (P := P) w t ty e i z ht hi hz ⟨g, o, none⟩ n cap xs hown.1 holds a m c news hl hnews (by omega) (by omega) (growslice_fits (by omega) hbytes)
      have hgr := grown cap (by omega) (Value.ownBlock (.slice (some ⟨g, o, none⟩) n cap))
      exact ⟨_, _, hr, hgr.1, hgr.2, fun q hq => .inr (by injection hq with hq; have h9 : w.heap.size = q := hq; omega)⟩
/-- append onto it, as one step of a region that draws -/
theorem step_append_at {P : Program} {ops : Array Oper} {o : Oper} {a : Act} {w : World} {K : Act → World → Prop} {Q : Exit → Act → World → Prop} {E : Prop} (hg : o.guard = none) (s x : Operand) (t : TypeId)
    (ho : o.op = .call { callee := .builtin .append, args := #[s, x], argTypes := #[t, t] })
    (e : TypeId) (i : TypeInfo) (z : Value) (size bytes : Nat) (ht : P.underlying t = some (.slice e)) (hi : P.info? e = some i) (hz : i.zero = some z)
    (hsize : i.size = size) (hby : i.bytes = bytes) (hzs : z.cells.size = size)
    (v : Value) (n : Nat) (xs : List Value) (hs : a.eval s = v) (hown : OwnAt w e size v n xs)
    (ad : Addr) (c : Nat) (news : List Value) (hx : a.eval x = .slice (some ad) 1 c) (hl : news.length = 1 * size) (hnews : ∀ j u, news[j]? = some u → w.cell? (ad.add j) = some u) (h1 : ∀ u ∈ news, u.oneCell' = true)
    (h63 : n + 1 ≤ maxLen) (hbytes : (n + 1) * bytes ≤ 140737488355328)
    (h : ∀ A c w', OwnAt w' e size (.slice A (n + 1) c) (n + 1) (xs ++ news) → w.grownBy w' v.ownBlock → SameOrNew w v (.slice A (n + 1) c) → K (a.put o.dst (.slice A (n + 1) c)) w') :
    if Region.wanted o (yielded ops a.tmps) = true then Oper.wp P o a w K Q else E := by
  obtain ⟨v', w', hr, h2, h3, h4⟩ := run_append_at (P := P) w t o.type e i z size bytes ht hi hz hsize hby hzs v n xs hown ad 1 c news (by decide) hl hnews h1 h63 hbytes
  obtain ⟨A, c, rfl, _, _⟩ := h2.shape
  exact step_append_run hg s x t t ho v (.slice (some ad) 1 _) hs hx hr (h A c w' h2 h3 h4)

end Go.Proofs.YthgndgoljchnfaaGreat
namespace Go.Proofs.YthgndgoljchnfaaGreat
open Go.RowKit

theorem cell_new0 (w : World) (a b : Value) (T : TypeId) : (w.alloc (.cells #[a, b] T)).cell? ⟨w.heap.size, 0, none⟩ = some a := by go_simp
theorem cell_new1 (w : World) (a b : Value) (T : TypeId) : (w.alloc (.cells #[a, b] T)).cell? ⟨w.heap.size, 1, none⟩ = some b := by go_simp
end Go.Proofs.YthgndgoljchnfaaGreat
namespace Go.Proofs.YthgndgoljchnfaaGreat
open Go.RowKit

end Go.Proofs.YthgndgoljchnfaaGreat
namespace Go.Proofs.YthgndgoljchnfaaGreat
open Go.RowKit

theorem fin {w wb W : World} {A : Prop} (hB : Below w.heap.size w wb) (h : Below wb.heap.size wb W ∧ A) : Below w.heap.size w W := acc hB h.1
/-- two boxed arcs, as a later world holds them -/
def Two (w W : World) (f t g u : Nat) : Prop := w.heap.size + 1 < W.heap.size ∧ Below w.heap.size w W ∧ W.cell? ⟨w.heap.size, 0, none⟩ = some (.int .u64 (f : Nat)) ∧ W.cell? ⟨w.heap.size, 1, none⟩ = some (.int .u64 (t : Nat)) ∧ W.cell? ⟨w.heap.size + 1, 0, none⟩ = some (.int .u64 (g : Nat)) ∧ W.cell? ⟨w.heap.size + 1, 1, none⟩ = some (.int .u64 (u : Nat))
theorem Two.start (w : World) (f t g u : Nat) : Two w ((w.alloc (.cells #[.int .u64 (f : Nat), .int .u64 (t : Nat)] 25)).alloc (.cells #[.int .u64 (g : Nat), .int .u64 (u : Nat)] 25)) f t g u :=
  ⟨by simp, below2 w _ _, by go_simp, by go_simp, by go_simp, by go_simp⟩
theorem Two.step {w W W1 : World} {f t g u : Nat} (h : Two w W f t g u) (hb : Below W.heap.size W W1) : Two w W1 f t g u := by
  obtain ⟨hz, h1, h2, h3, h4, h5⟩ := h
  have hs := hb.size
  exact ⟨by omega, acc h1 hb, (hb.cell (p := ⟨w.heap.size, 0, none⟩) (by show w.heap.size < _; omega)).trans h2, (hb.cell (p := ⟨w.heap.size, 1, none⟩) (by show w.heap.size < _; omega)).trans h3, (hb.cell (p := ⟨w.heap.size + 1, 0, none⟩) hz).trans h4, (hb.cell (p := ⟨w.heap.size + 1, 1, none⟩) hz).trans h5⟩
theorem Two.alloc {w W : World} {f t g u : Nat} (h : Two w W f t g u) (o : Obj) : Two w (W.alloc o) f t g u := h.step ((Below.refl _ _).alloc (Nat.le_refl _) o)
/-- an arc in a block's first two cells -/
def Cel (W : World) (b f t : Nat) : Prop := b < W.heap.size ∧ W.cell? ⟨b, 0, none⟩ = some (.int .u64 (f : Nat)) ∧ W.cell? ⟨b, 1, none⟩ = some (.int .u64 (t : Nat))
theorem Cel.step {W W1 : World} {b f t : Nat} (h : Cel W b f t) (hb : Below W.heap.size W W1) : Cel W1 b f t :=
  ⟨Nat.lt_of_lt_of_le h.1 hb.size, (hb.cell (p := ⟨b, 0, none⟩) h.1).trans h.2.1, (hb.cell (p := ⟨b, 1, none⟩) h.1).trans h.2.2⟩
theorem Cel.alloc {W : World} {b f t : Nat} (h : Cel W b f t) (o : Obj) : Cel (W.alloc o) b f t := h.step ((Below.refl _ _).alloc (Nat.le_refl _) o)
theorem Cel.new (W : World) (f t : Nat) (T : TypeId) : Cel (W.alloc (.cells #[.int .u64 (f : Nat), .int .u64 (t : Nat)] T)) W.heap.size f t :=
  ⟨by simp, cell_new0 _ _ _ _, cell_new1 _ _ _ _⟩
theorem Cel.drew {W : World} {b f t : Nat} (h : Cel W b f t) : Cel W.drew b f t := h.step ((Below.refl _ _).drew)
end Go.Proofs.YthgndgoljchnfaaGreat
namespace Go.Proofs.YthgndgoljchnfaaGreat
open Go.RowKit

abbrev oC (nd : Int) (p : AO) : Array Value := #[.int .u64 (p.f : Nat), .int .u64 (p.t : Nat), .int .i64 nd, .int .i64 p.e]
theorem oC_size (nd : Int) (p : AO) : (oC nd p).size = 4 := rfl
theorem oC_one (nd : Int) (l : List AO) : ∀ u ∈ rowC (oC nd) l, u.oneCell' = true := rowC_all fun p _ => by simp [oC, Value.oneCell']
theorem oC_info : (Tryz.prog.info? 60).map (·.size) = some 4 := by kernel_rfl
/-- a row of arcs, wherever it begins in its block -/
abbrev OwRow (W : World) (S : Value) (n : Nat) (nd : Int) (l : List AO) : Prop := OwnAt W 60 4 S n (rowC (oC nd) l)
theorem ow_len {W : World} {n : Nat} {S : Value} {nd : Int} {l : List AO} (h : OwRow W S n nd l) : l.length = n := by
  have := h.1
  rw [rowC_length (oC_size nd)] at this
  omega
theorem ow_range {W : World} {q o c n k : Nat} {nd : Int} {l : List AO} (h : OwRow W (.slice (some ⟨q, o, none⟩) n c) n nd l) {x : AO} (hk : l[k]? = some x) : W.rangeAt q (o + k * 4) (oC nd x).toList := by
  intro j v hj
  have hl : k < l.length := (List.getElem?_eq_some_iff.1 hk).1
  have hj4 : j < 4 := (List.getElem?_eq_some_iff.1 hj).1
  have hlen := rowC_length (oC_size nd) l
  have := h.cellAt (k * 4 + j) (by rw [hlen]; omega)
  rw [Nat.add_assoc, this, rowC_get (oC_size nd) l k j x hk hj4, ← Array.getElem?_toList]
  exact hj
theorem ow_free {W : World} {q o c n : Nat} {e : TypeId} {size : Nat} {xs : List Value} (h : OwnAt W e size (.slice (some ⟨q, o, none⟩) n c) n xs) (i : Nat) : W.frozen? ⟨q, i, none⟩ = false := by
  rcases h.2 with ⟨h0, _⟩ | ⟨q', o', c', cur, hv, hg, _⟩
  · cases h0
  · injection hv with h1 _ _
    injection h1 with h1
    injection h1 with h1 _ _
    subst h1
    simp [World.frozen?, hg]
theorem ow_boxed (W : World) (nd : Int) (p : AO) (T : TypeId) : (W.alloc (.cells (oC nd p) T)).cell? ⟨W.heap.size, 0, none⟩ = some (.int .u64 (p.f : Nat)) ∧ (W.alloc (.cells (oC nd p) T)).cell? ⟨W.heap.size, 1, none⟩ = some (.int .u64 (p.t : Nat)) ∧ (W.alloc (.cells (oC nd p) T)).cell? ⟨W.heap.size, 2, none⟩ = some (.int .i64 nd) ∧ (W.alloc (.cells (oC nd p) T)).cell? ⟨W.heap.size, 3, none⟩ = some (.int .i64 p.e) :=
  ⟨bx_cell (heap_alloc_new W _) rfl, bx_cell (heap_alloc_new W _) rfl, bx_cell (heap_alloc_new W _) rfl, bx_cell (heap_alloc_new W _) rfl⟩
/-- what a closure sees of what it has captured -/
def hasPt (x : Nat) (p : AO) : Bool := inB p.f p.t x
def meetsA (f t : Nat) (p : AO) : Bool := !apartB p.f p.t f t
set_option maxHeartbeats 1000000 in
theorem hasC_any (p : AO) (nd : Int) (x b : Nat) (W : World) (hp : p.lt) (hx : x < 18446744073709551616) (hb : W.cell? ⟨b, 0, none⟩ = some (.int .u64 (x : Nat))) :
    Calls Tryz.prog 61 #[.agg (oC nd p), .pointer (some ⟨b, 0, none⟩)] W fun e w' => e = .returned (.bool (hasPt x p)) ∧ Below W.heap.size W w' := by
  have CI := Lib.hid fun W => in_any p.f p.t x W hp.1 hp.2 hx
  have B1 : Below W.heap.size W (W.alloc (.cells (oC nd p) 60)) := (Below.refl _ _).alloc (Nat.le_refl _) _
  obtain ⟨c0, c1, _⟩ := ow_boxed W nd p 60
  have cb := (B1.cell (p := ⟨b, 0, none⟩) (World.block_lt_of_cell? W _ hb)).trans hb
  unfold hasPt
  generalize inB p.f p.t x = r at *
  clear hb
  go_enter Tryz.func61, Tryz.ntmps61
  go_upto_region 1 with fail
  obtain ⟨w1, hw1⟩ : ∃ w1, W.alloc (.cells (oC nd p) 60) = w1 := ⟨_, rfl⟩
  rw [hw1] at B1 c0 c1 cb ⊢
  clear hw1
  have HB := Lib.hid B1
  clear B1
  go_wp2_with (go_at_call 21; (with_reducible refine (CI.out _).mono ?_); rintro e w2 ⟨rfl, hb2⟩; have HB2 := Lib.hid (acc HB.out hb2); clear hb2)
  go_ret
  exact ⟨rfl, HB2.out⟩
set_option maxHeartbeats 1000000 in
theorem freeC_any (p : AO) (nd : Int) (f t b : Nat) (W : World) (hp : p.lt) (hf : f < 18446744073709551616) (ht : t < 18446744073709551616) (hb : W.cell? ⟨b, 0, none⟩ = some (.int .u64 (f : Nat))) (hb1 : W.cell? ⟨b, 1, none⟩ = some (.int .u64 (t : Nat))) :
    Calls Tryz.prog 65 #[.agg (oC nd p), .pointer (some ⟨b, 0, none⟩)] W fun e w' => e = .returned (.bool (meetsA f t p)) ∧ Below W.heap.size W w' := by
  have CI := Lib.hid fun W => apart_any p.f p.t f t W hp.1 hp.2 hf ht
  have B1 : Below W.heap.size W (W.alloc (.cells (oC nd p) 60)) := (Below.refl _ _).alloc (Nat.le_refl _) _
  obtain ⟨c0, c1, _⟩ := ow_boxed W nd p 60
  have cb := (B1.cell (p := ⟨b, 0, none⟩) (World.block_lt_of_cell? W _ hb)).trans hb
  have cb1 := (B1.cell (p := ⟨b, 1, none⟩) (World.block_lt_of_cell? W _ hb1)).trans hb1
  unfold meetsA
  generalize apartB p.f p.t f t = r at *
  clear hb hb1
  go_enter Tryz.func65, Tryz.ntmps65
  go_upto_region 1 with fail
  obtain ⟨w1, hw1⟩ : ∃ w1, W.alloc (.cells (oC nd p) 60) = w1 := ⟨_, rfl⟩
  rw [hw1] at B1 c0 c1 cb cb1 ⊢
  clear hw1
  have HB := Lib.hid B1
  clear B1
  go_wp2_with (go_at_call 30; (with_reducible refine (CI.out _).mono ?_); rintro e w2 ⟨rfl, hb2⟩; have HB2 := Lib.hid (acc HB.out hb2); clear hb2)
  go_ret
  exact ⟨rfl, HB2.out⟩
set_option maxRecDepth 20000 in
set_option maxHeartbeats 2000000 in
theorem indexHas_any (l : List AO) (nd : Int) (pr : AO → Bool) (b : Nat) (A : Option Addr) (c n : Nat) (W : World) (hl : n ≤ 100000) (hr : OwRow W (.slice A n c) n nd l)
    (hc : ∀ (w : World) (x : AO), Below W.heap.size W w → x ∈ l → Calls Tryz.prog 61 #[.agg (oC nd x), .pointer (some ⟨b, 0, none⟩)] w fun e w' => e = .returned (.bool (pr x)) ∧ Below w.heap.size w w') :
    Calls Tryz.prog 90 #[.slice A n c, .func (.func 61) #[] #[.pointer (some ⟨b, 0, none⟩)]] W fun e w' => ∃ j : Int, e = .returned (.int .i64 j) ∧ (decide ((0 : Int) ≤ j) = l.any pr) ∧ Below W.heap.size W w' := by
  have CE := Lib.hid hc
  have hi : ∀ a w, (callFunc 61 a).run Tryz.prog w = .ok (.enter 61 a) w := fun _ _ => by kernel_rfl
  have hn := ow_len hr
  have HR : Hid (∀ (w : World) (k : Nat) (x : AO), Below W.heap.size W w → l[k]? = some x → ∃ g o, A = some ⟨g, o, none⟩ ∧ w.rangeAt g (o + k * 4) (oC nd x).toList) := fun w k x hw hk => by
    have hk' : k < l.length := (List.getElem?_eq_some_iff.1 hk).1
    obtain ⟨g, o, rfl⟩ := hr.at_ (by omega)
    exact ⟨g, o, rfl, ow_range (hr.below hw) hk⟩
  have HN := Lib.hid hn
  have hsz : (Tryz.prog.info? 60).map (·.size) = some 4 := oC_info
  clear hr hn hc
  go_enter Tryz.func90, Tryz.ntmps90
  go_wp2_with fail
  go_loopg [8] (n + 1) (fun gh s8 wx => ∃ i : Nat, i + gh = n + 1 ∧ i ≤ n ∧ s8 = .int .i64 (i : Nat) ∧ Hid (Below W.heap.size W wx) ∧ Hid (∀ j x, j < i → l[j]? = some x → pr x = false))
  case atStart => exact ⟨0, by omega, by omega, rfl, Below.refl _ _, fun j x hj => by omega⟩
  case round =>
    obtain ⟨i, hig, hin, rfl, HB, HF⟩ := hrel
    by_cases hlt : i < n
    · obtain ⟨x, hx⟩ : ∃ x, l[i]? = some x := ⟨_, List.getElem?_eq_getElem (by rw [HN.out]; exact hlt)⟩
      obtain ⟨g, o, rfl, hra⟩ := HR.out wr i x HB.out hx
      have HRA := Lib.hid hra
      have HX := Lib.hid hx
      have i1 : (i : Int) < (n : Int) := by omega
      have CX := Lib.hid (CE.out wr x HB.out (List.mem_of_getElem? hx))
      obtain ⟨bb, hbb⟩ : ∃ bb, pr x = bb := ⟨_, rfl⟩
      rw [hbb] at CX
      have HBB := Lib.hid hbb
      clear hra hx hbb CE HR
      cases bb
      · go_wp2_with (first
          | (refine wpList_load_mid rfl 60 (.tmp 14) rfl g (o + i * 4) rfl (oC nd x).toList _ HRA.out Tryz.underlying60 rfl hsz ?_)
          | (go_at_call 61; (with_reducible refine (CX.out).mono ?_); rintro e w2 ⟨rfl, hb2⟩; have HB2 := Lib.hid hb2; clear hb2))
        go_roundg (gk - 1)
        case measure => omega
        case rel => exact ⟨i + 1, by omega, by omega, by go_num, acc HB.out HB2.out, fun j y hj hy => by
          rcases Nat.lt_succ_iff_lt_or_eq.1 hj with z | rfl
          · exact HF.out j y z hy
          · rw [HX.out] at hy; injection hy with hy; subst hy; exact HBB.out⟩
      · go_wp2_with (first
          | (refine wpList_load_mid rfl 60 (.tmp 14) rfl g (o + i * 4) rfl (oC nd x).toList _ HRA.out Tryz.underlying60 rfl hsz ?_)
          | (go_at_call 61; (with_reducible refine (CX.out).mono ?_); rintro e w2 ⟨rfl, hb2⟩; have HB2 := Lib.hid hb2; clear hb2))
        go_ret
        refine ⟨_, rfl, ?_, acc HB.out HB2.out⟩
        have h1 : l.any pr = true := List.any_eq_true.2 ⟨x, List.mem_of_getElem? HX.out, HBB.out⟩
        rw [h1]
        exact decide_eq_true (by omega)
    · obtain rfl : i = n := by omega
      clear CE HR
      go_wp2_with fail
      go_ret
      refine ⟨_, rfl, ?_, HB.out⟩
      have h1 : l.any pr = false := List.any_eq_false.2 fun x hx => by
        obtain ⟨j, hj, rfl⟩ := List.getElem_of_mem hx
        have := HF.out j _ (by rw [← HN.out]; exact hj) (List.getElem?_eq_getElem hj)
        simpa using this
      rw [h1]
      exact decide_eq_false (by omega)
theorem someHas_any (l : List AO) (nd : Int) (pr : AO → Bool) (b : Nat) (A : Option Addr) (c n : Nat) (W : World) (hl : n ≤ 100000) (hr : OwRow W (.slice A n c) n nd l)
    (hc : ∀ (w : World) (x : AO), Below W.heap.size W w → x ∈ l → Calls Tryz.prog 61 #[.agg (oC nd x), .pointer (some ⟨b, 0, none⟩)] w fun e w' => e = .returned (.bool (pr x)) ∧ Below w.heap.size w w') :
    Calls Tryz.prog 60 #[.slice A n c, .func (.func 61) #[] #[.pointer (some ⟨b, 0, none⟩)]] W fun e w' => e = .returned (.bool (l.any pr)) ∧ Below W.heap.size W w' := by
  have CI := Lib.hid (indexHas_any l nd pr b A c n W hl hr hc)
  clear hr hc
  go_enter Tryz.func60, Tryz.ntmps60
  go_wp2_with (go_at_call 90; (with_reducible refine (CI.out).mono ?_); rintro e w2 ⟨j, rfl, hj, hb2⟩; have HJ := Lib.hid hj; clear hj)
  go_ret
  exact ⟨by rw [← HJ.out]; rfl, hb2⟩
set_option maxRecDepth 20000 in
set_option maxHeartbeats 2000000 in
theorem indexFree_any (l : List AO) (nd : Int) (pr : AO → Bool) (b : Nat) (A : Option Addr) (c n : Nat) (W : World) (hl : n ≤ 100000) (hr : OwRow W (.slice A n c) n nd l)
    (hc : ∀ (w : World) (x : AO), Below W.heap.size W w → x ∈ l → Calls Tryz.prog 65 #[.agg (oC nd x), .pointer (some ⟨b, 0, none⟩)] w fun e w' => e = .returned (.bool (pr x)) ∧ Below w.heap.size w w') :
    Calls Tryz.prog 90 #[.slice A n c, .func (.func 65) #[] #[.pointer (some ⟨b, 0, none⟩)]] W fun e w' => ∃ j : Int, e = .returned (.int .i64 j) ∧ (decide ((0 : Int) ≤ j) = l.any pr) ∧ Below W.heap.size W w' := by
  have CE := Lib.hid hc
  have hi : ∀ a w, (callFunc 65 a).run Tryz.prog w = .ok (.enter 65 a) w := fun _ _ => by kernel_rfl
  have hn := ow_len hr
  have HR : Hid (∀ (w : World) (k : Nat) (x : AO), Below W.heap.size W w → l[k]? = some x → ∃ g o, A = some ⟨g, o, none⟩ ∧ w.rangeAt g (o + k * 4) (oC nd x).toList) := fun w k x hw hk => by
    have hk' : k < l.length := (List.getElem?_eq_some_iff.1 hk).1
    obtain ⟨g, o, rfl⟩ := hr.at_ (by omega)
    exact ⟨g, o, rfl, ow_range (hr.below hw) hk⟩
  have HN := Lib.hid hn
  have hsz : (Tryz.prog.info? 60).map (·.size) = some 4 := oC_info
  clear hr hn hc
  go_enter Tryz.func90, Tryz.ntmps90
  go_wp2_with fail
  go_loopg [8] (n + 1) (fun gh s8 wx => ∃ i : Nat, i + gh = n + 1 ∧ i ≤ n ∧ s8 = .int .i64 (i : Nat) ∧ Hid (Below W.heap.size W wx) ∧ Hid (∀ j x, j < i → l[j]? = some x → pr x = false))
  case atStart => exact ⟨0, by omega, by omega, rfl, Below.refl _ _, fun j x hj => by omega⟩
  case round =>
    obtain ⟨i, hig, hin, rfl, HB, HF⟩ := hrel
    by_cases hlt : i < n
    · obtain ⟨x, hx⟩ : ∃ x, l[i]? = some x := ⟨_, List.getElem?_eq_getElem (by rw [HN.out]; exact hlt)⟩
      obtain ⟨g, o, rfl, hra⟩ := HR.out wr i x HB.out hx
      have HRA := Lib.hid hra
      have HX := Lib.hid hx
      have i1 : (i : Int) < (n : Int) := by omega
      have CX := Lib.hid (CE.out wr x HB.out (List.mem_of_getElem? hx))
      obtain ⟨bb, hbb⟩ : ∃ bb, pr x = bb := ⟨_, rfl⟩
      rw [hbb] at CX
      have HBB := Lib.hid hbb
      clear hra hx hbb CE HR
      cases bb
      · go_wp2_with (first
          | (refine wpList_load_mid rfl 60 (.tmp 14) rfl g (o + i * 4) rfl (oC nd x).toList _ HRA.out Tryz.underlying60 rfl hsz ?_)
          | (go_at_call 65; (with_reducible refine (CX.out).mono ?_); rintro e w2 ⟨rfl, hb2⟩; have HB2 := Lib.hid hb2; clear hb2))
        go_roundg (gk - 1)
        case measure => omega
        case rel => exact ⟨i + 1, by omega, by omega, by go_num, acc HB.out HB2.out, fun j y hj hy => by
          rcases Nat.lt_succ_iff_lt_or_eq.1 hj with z | rfl
          · exact HF.out j y z hy
          · rw [HX.out] at hy; injection hy with hy; subst hy; exact HBB.out⟩
      · go_wp2_with (first
          | (refine wpList_load_mid rfl 60 (.tmp 14) rfl g (o + i * 4) rfl (oC nd x).toList _ HRA.out Tryz.underlying60 rfl hsz ?_)
          | (go_at_call 65; (with_reducible refine (CX.out).mono ?_); rintro e w2 ⟨rfl, hb2⟩; have HB2 := Lib.hid hb2; clear hb2))
        go_ret
        refine ⟨_, rfl, ?_, acc HB.out HB2.out⟩
        have h1 : l.any pr = true := List.any_eq_true.2 ⟨x, List.mem_of_getElem? HX.out, HBB.out⟩
        rw [h1]
        exact decide_eq_true (by omega)
    · obtain rfl : i = n := by omega
      clear CE HR
      go_wp2_with fail
      go_ret
      refine ⟨_, rfl, ?_, HB.out⟩
      have h1 : l.any pr = false := List.any_eq_false.2 fun x hx => by
        obtain ⟨j, hj, rfl⟩ := List.getElem_of_mem hx
        have := HF.out j _ (by rw [← HN.out]; exact hj) (List.getElem?_eq_getElem hj)
        simpa using this
      rw [h1]
      exact decide_eq_false (by omega)
theorem someFree_any (l : List AO) (nd : Int) (pr : AO → Bool) (b : Nat) (A : Option Addr) (c n : Nat) (W : World) (hl : n ≤ 100000) (hr : OwRow W (.slice A n c) n nd l)
    (hc : ∀ (w : World) (x : AO), Below W.heap.size W w → x ∈ l → Calls Tryz.prog 65 #[.agg (oC nd x), .pointer (some ⟨b, 0, none⟩)] w fun e w' => e = .returned (.bool (pr x)) ∧ Below w.heap.size w w') :
    Calls Tryz.prog 60 #[.slice A n c, .func (.func 65) #[] #[.pointer (some ⟨b, 0, none⟩)]] W fun e w' => e = .returned (.bool (l.any pr)) ∧ Below W.heap.size W w' := by
  have CI := Lib.hid (indexFree_any l nd pr b A c n W hl hr hc)
  clear hr hc
  go_enter Tryz.func60, Tryz.ntmps60
  go_wp2_with (go_at_call 90; (with_reducible refine (CI.out).mono ?_); rintro e w2 ⟨j, rfl, hj, hb2⟩; have HJ := Lib.hid hj; clear hj)
  go_ret
  exact ⟨by rw [← HJ.out]; rfl, hb2⟩
end Go.Proofs.YthgndgoljchnfaaGreat
