import Derived.Test.YtnjodhglbapnlaaGreatRows
import Derived.Test.YtnjodhglbapnlaaGreatGg02
import Derived.Test.YtnjodhglbapnlaaGreatGg01
import Derived.WalkKit
import Derived.Deep.RegionHeld3
import Derived.Deep.DeepCutAuto
import Derived.Deep.MidRow
import Derived.Deep.QuietTactic
import Derived.BigQuiet
import Derived.Deep.RegionLaw
import Derived.WideShapes
set_option maxRecDepth 100000
set_option maxHeartbeats 16000000
namespace Go.Proofs.YtnjodhglbapnlaaGreat
open Go.RowKit
section
variable {P : Program} {md : Region.Mode} {ops : Array Oper} {Q : Exit → Act → World → Prop} {S : World → Prop} {k : Nat}
def ybh (P : Program) (md : Region.Mode) (ops : Array Oper) (Q : Exit → Act → World → Prop) (S : World → Prop) (k : Nat) : Nat → Array Bool → Act → World → Prop
 | 0, listed, a, w => Region.ready md ops listed = [] ∧ Q .normal a w
 | fuel + 1, listed, a, w =>
  (Region.ready md ops listed = [] → Q .normal a w) ∧
  ∀ i ∈ Region.ready md ops listed, wpOp P ops Q i (fun a' w' => ((listed.setIfInBounds i true).getD k true = false → S w') ∧ ybh P md ops Q S k fuel (listed.setIfInBounds i true) a' w') a w
theorem yl3 : ∀ (fuel : Nat) (listed : Array Bool) (a : Act) (w : World), ybh P md ops Q S k fuel listed a w → wpAny P md ops Q fuel listed a w
 | 0, _, _, _, h => h
 | fuel + 1, _, _, _, h => ⟨h.1, fun i hi => wpOp_mono (fun a' w' h' => yl3 fuel _ a' w' h'.2) (h.2 i hi)⟩
theorem yhy (l : Array Bool) {i k : Nat} (h : i ≠ k) : (l.setIfInBounds i true).getD k true = l.getD k true := by
 simp only [Array.getD_eq_getD_getElem?]
 rw [Array.getElem?_setIfInBounds_ne h]
theorem yl4 {T : World → Prop} {i : Nat} {oi : Oper} {v : Value} (hi : ops[i]? = some oi) (hsel : ∀ (j : Nat) (o : Oper) cs b, ops[j]? = some o → o.op ≠ .select cs b)
  (hQ : ∀ c a w, Q (.panic c) (a.put oi.dst v) w → Q (.panic c) a w) (hki : i ≠ k)
  (hT : (∀ w, T w) ∨ (T = S ∧ ∀ ok, ops[k]? = some ok → ∃ e ∈ ok.after, Region.binds md e = true ∧ e.on = i)) :
  ∀ (fuel : Nat) (listed : Array Bool) (a : Act) (w : World),
   (∀ j oj, ops[j]? = some oj → j ≠ i → listed.getD j true = false → (∀ e ∈ oj.after, Region.binds md e = true → e.on ≠ i) → oi.apart ops oj = true) →
   i ∈ Region.ready md ops listed → YieldsIf P ops T oi v a → (listed.getD k true = false → S w) → ((∀ w, T w) ∨ listed.getD k true = false) →
   ybh P md ops Q S k fuel (listed.setIfInBounds i true) (a.put oi.dst v) w → ybh P md ops Q S k (fuel + 1) listed a w := by
 have hTw : ∀ {listed : Array Bool} {w : World}, (listed.getD k true = false → S w) → ((∀ w, T w) ∨ listed.getD k true = false) → T w := by
  intro listed w hS hl
  rcases hT with h | ⟨rfl, _⟩
  ·exact h w
  ·rcases hl with h | h
   ·exact h w
   ·exact hS h
 intro fuel
 induction fuel with
 | zero =>
  intro listed a w _ hr hy hS hl H
  refine ⟨fun h => (by rw [h] at hr; cases hr), fun j hj => ?_⟩
  by_cases hji : j = i
  ·subst hji
   exact hy.wpOp hi (hTw hS hl) ⟨fun h => hS (by rw [yhy _ hki] at h; exact h), H⟩
  ·have := ready_mono hj hji
   rw [H.1] at this
   cases this
 | succ fuel ih =>
  intro listed a w hfree hr hy hS hl H
  refine ⟨fun h => (by rw [h] at hr; cases hr), fun j hj => ?_⟩
  by_cases hji : j = i
  ·subst hji
   exact hy.wpOp hi (hTw hS hl) ⟨fun h => hS (by rw [yhy _ hki] at h; exact h), H⟩
  ·have h1 := H.2 j (ready_mono hj hji)
   obtain ⟨hjun, oj, hoj, hall⟩ := mem_ready.1 hj
   have hnot : ∀ e ∈ oj.after, Region.binds md e = true → e.on ≠ i := fun e he hb heq => by
    have h1 := hall e he hb
    have h0 := (mem_ready.1 hr).1
    rw [heq] at h1
    rcases Nat.lt_or_ge i listed.size with h' | h'
    ·simp [h'] at h0 h1; rw [h0] at h1; cases h1
    ·simp [Array.getElem?_eq_none h'] at h1
   have h2 := wpOp_putIf hoj (hfree j oj hoj hji hjun hnot) (fun cs b => hsel i oi cs b hi) (fun cs b => hsel j oj cs b hoj) hQ hy h1
   have hfree' : ∀ m ok, ops[m]? = some ok → m ≠ i → (listed.setIfInBounds j true).getD m true = false →
     (∀ e ∈ ok.after, Region.binds md e = true → e.on ≠ i) → oi.apart ops ok = true := fun m ok hk hki hun hno => by
    refine hfree m ok hk hki ?_ hno
    by_cases hjk : j = m
    ·subst hjk; exact hjun
    ·rw [getD_set_ne true hjk] at hun; exact hun
   have hl' : (∀ w, T w) ∨ (listed.setIfInBounds j true).getD k true = false := by
    rcases hT with h | ⟨_, h⟩
    ·exact .inl h
    ·rcases hl with h' | h'
     ·exact .inl h'
     ·have hjk : j ≠ k := fun e => by
       subst e
       obtain ⟨e, he, hb, ho⟩ := h oj hoj
       exact hnot e he hb ho
      exact .inr (by rw [yhy _ hjk]; exact h')
   refine wpOp_mono (fun a' w' h3 => ?_) h2
   have hS' : (listed.setIfInBounds j true).getD k true = false → S w' := fun h => h3.2.1 (by
    rw [Array.setIfInBounds_comm _ _ (Ne.symm hji), yhy _ hki]; exact h)
   refine ⟨hS', ih (listed.setIfInBounds j true) a' w' hfree' (ready_mono hr (Ne.symm hji)) h3.1 hS' hl' ?_⟩
   rw [Array.setIfInBounds_comm _ _ hji]
   exact h3.2.2
def waits (md : Region.Mode) (ops : Array Oper) (k i : Nat) : Bool := match ops[k]? with
 | some ok => ok.after.any fun e => Region.binds md e && e.on == i
 | none => true
theorem yqy {i : Nat} {oi : Oper} {v : Value} {fuel : Nat} {listed : Array Bool} {a : Act} {w : World} (hi : ops[i]? = some oi)
  (hs : Region.noSelect ops = true) (hf : Region.free md ops listed i = true) (hr : (Region.ready md ops listed).contains i = true)
  (hQ : ∀ c a w, Q (.panic c) (a.put oi.dst v) w → Q (.panic c) a w) (hw : (i != k && waits md ops k i && !listed.getD k true) = true) (hy : YieldsIf P ops S oi v a) (hS : S w)
  (h : ybh P md ops Q S k fuel (listed.setIfInBounds i true) (a.put oi.dst v) w) : ybh P md ops Q S k (fuel + 1) listed a w := by
 simp only [Bool.and_eq_true, bne_iff_ne, Bool.not_eq_true'] at hw
 refine yl4 hi (Region.noSelect_spec hs) hQ hw.1.1 (.inr ⟨rfl, fun ok hok => ?_⟩) fuel listed a w (Region.free_spec hi hf) (by simpa using hr) hy (fun _ => hS) (.inr hw.2) h
 have h1 := hw.1.2
 simp only [waits, hok] at h1
 obtain ⟨e, he, hb⟩ := Array.any_eq_true'.1 h1
 simp only [Bool.and_eq_true, beq_iff_eq] at hb
 exact ⟨e, he, hb⟩
theorem yqz {i : Nat} {oi : Oper} {v : Value} {fuel : Nat} {listed : Array Bool} {a : Act} {w : World} (hi : ops[i]? = some oi)
  (hs : Region.noSelect ops = true) (hf : Region.free md ops listed i = true) (hr : (Region.ready md ops listed).contains i = true)
  (hQ : ∀ c a w, Q (.panic c) (a.put oi.dst v) w → Q (.panic c) a w) (hw : (i != k) = true) (hy : YieldsIf P ops (fun _ => True) oi v a) (hS : S w)
  (h : ybh P md ops Q S k fuel (listed.setIfInBounds i true) (a.put oi.dst v) w) : ybh P md ops Q S k (fuel + 1) listed a w :=
 yl4 (T := fun _ => True) hi (Region.noSelect_spec hs) hQ (by simpa using hw) (.inl fun _ => trivial) fuel listed a w (Region.free_spec hi hf) (by simpa using hr) hy (fun _ => hS) (.inl fun _ => trivial) h
theorem wtP (i : Nat) {d : Option Tmp} {o : Op} {t : TypeId} {ps : String} {af : Array Edge} {g : Option (Nat × Bool)} {v : Value} {fuel : Nat} {listed : Array Bool} {a : Act} {w : World}
  (h : ybh P md ops Q S k fuel (listed.setIfInBounds i true) (a.put d v) w) (hi : ops[i]? = some ⟨d, o, t, ps, af, g⟩ := by exact rfl)
  (hs : Region.noSelect ops = true := by kernel_rfl) (hf : Region.free md ops listed i = true := by kernel_rfl) (hr : (Region.ready md ops listed).contains i = true := by kernel_rfl)
  (hQ : ∀ c a w, Q (.panic c) (a.put d v) w → Q (.panic c) a w := by exact fun _ _ _ h => h) (hw : (i != k) = true := by kernel_rfl) (hg : Region.wanted ⟨d, o, t, ps, af, g⟩ (yielded ops a.tmps) = true := by rfl)
  (hy : ∀ w, (fun _ : World => True) w → (execOp a.eval ⟨d, o, t, ps, af, g⟩).run P w = .ok (.value v) w := by (intro a b; (try dsimp only at b); go_simp <;> with_reducible rfl)) (hS : S w := by assumption) : ybh P md ops Q S k (fuel + 1) listed a w :=
 yqz hi hs hf hr hQ hw (.inl ⟨hg, hy⟩) hS h
theorem wtT (i : Nat) {d : Option Tmp} {o : Op} {t : TypeId} {ps : String} {af : Array Edge} {g : Option (Nat × Bool)} {v : Value} {fuel : Nat} {listed : Array Bool} {a : Act} {w : World}
  (h : ybh P md ops Q S k fuel (listed.setIfInBounds i true) (a.put d v) w) (hi : ops[i]? = some ⟨d, o, t, ps, af, g⟩ := by exact rfl)
  (hs : Region.noSelect ops = true := by kernel_rfl) (hf : Region.free md ops listed i = true := by kernel_rfl) (hr : (Region.ready md ops listed).contains i = true := by kernel_rfl)
  (hQ : ∀ c a w, Q (.panic c) (a.put d v) w → Q (.panic c) a w := by exact fun _ _ _ h => h) (hw : (i != k && waits md ops k i && !listed.getD k true) = true := by kernel_rfl) (hg : Region.wanted ⟨d, o, t, ps, af, g⟩ (yielded ops a.tmps) = true := by rfl)
  (hy : ∀ w, S w → (execOp a.eval ⟨d, o, t, ps, af, g⟩).run P w = .ok (.value v) w := by (intro a b; (try dsimp only at b); go_simp <;> with_reducible rfl)) (hS : S w := by assumption) : ybh P md ops Q S k (fuel + 1) listed a w :=
 yqy hi hs hf hr hQ hw (.inl ⟨hg, hy⟩) hS h
theorem wsA {α : Type} (l : List α) (i : Nat) (x : α) : l.toArray.setIfInBounds i x = (l.set i x).toArray := List.setIfInBounds_toArray ..
theorem wsB {α : Type} (a x : α) (l : List α) : (a :: l).set 0 x = x :: l := List.set_cons_zero ..
theorem wsC {α : Type} (a x : α) (l : List α) (n : Nat) : (a :: l).set (n + 1) x = a :: l.set n x := List.set_cons_succ ..
def ya6 (P : Program) (md : Region.Mode) (ops : Array Oper) (Q : Exit → Act → World → Prop) (S : World → Prop) (k : Nat) (fuel : Nat) (listed : Array Bool) (a : Act) (w : World) (rs : List Nat) : Prop :=
 ∀ i ∈ rs, wpOp P ops Q i (fun a' w' => ((listed.setIfInBounds i true).getD k true = false → S w') ∧ ybh P md ops Q S k fuel (listed.setIfInBounds i true) a' w') a w
theorem ya6.nil {fuel : Nat} {listed : Array Bool} {a : Act} {w : World} : ya6 P md ops Q S k fuel listed a w [] := fun _ h => by cases h
theorem ya6.cons {fuel : Nat} {listed : Array Bool} {a : Act} {w : World} {i : Nat} {o : Oper} {rs : List Nat} (ho : ops[i]? = some o)
  (h : ∀ K' : Act → World → Prop, Shut (∀ a w, S w → (S w → ybh P md ops Q S k fuel (listed.setIfInBounds i true) a w) → K' a w) → if Region.wanted o (yielded ops a.tmps) = true then Oper.wp P o a w K' Q else K' (a.put o.dst undef) w)
  (hs : ya6 P md ops Q S k fuel listed a w rs) : ya6 P md ops Q S k fuel listed a w (i :: rs) := fun j hj => by
 rcases List.mem_cons.1 hj with rfl | hj
 ·exact wpOp_step ho (fun K' hK => h K' (fun a w hS hW => hK a w ⟨fun _ => hS, hW hS⟩))
 ·exact hs j hj
theorem ya6.past {fuel : Nat} {listed : Array Bool} {a : Act} {w : World} {i : Nat} {o : Oper} {rs : List Nat} (ho : ops[i]? = some o) (hl : (listed.setIfInBounds i true).getD k true = true)
  (h : ∀ K' : Act → World → Prop, Shut (∀ a w, ybh P md ops Q S k fuel (listed.setIfInBounds i true) a w → K' a w) → if Region.wanted o (yielded ops a.tmps) = true then Oper.wp P o a w K' Q else K' (a.put o.dst undef) w)
  (hs : ya6 P md ops Q S k fuel listed a w rs) : ya6 P md ops Q S k fuel listed a w (i :: rs) := fun j hj => by
 rcases List.mem_cons.1 hj with rfl | hj
 ·exact wpOp_step ho (fun K' hK => h K' (fun a w hW => hK a w ⟨fun h9 => (by rw [hl] at h9; cases h9), hW⟩))
 ·exact hs j hj
theorem yd7 {rs : List Nat} {fuel : Nat} {listed : Array Bool} {a : Act} {w : World} (hr : Region.ready md ops listed = rs) (hne : rs ≠ [])
  (h : ya6 P md ops Q S k fuel listed a w rs) : ybh P md ops Q S k (fuel + 1) listed a w := ⟨fun h0 => absurd (hr ▸ h0) hne, hr ▸ h⟩
theorem wtC (i : Nat) {d : Option Tmp} {o : Op} {t : TypeId} {ps : String} {af : Array Edge} {g : Option (Nat × Bool)} {fuel : Nat} {listed : Array Bool} {a : Act} {w : World}
  (h : ∀ K' : Act → World → Prop, Shut (∀ a w, S w → (S w → ybh P md ops Q S k fuel (listed.setIfInBounds i true) a w) → K' a w) → if Region.wanted ⟨d, o, t, ps, af, g⟩ (yielded ops a.tmps) = true then Oper.wp P ⟨d, o, t, ps, af, g⟩ a w K' Q else K' (a.put d undef) w)
  (ho : ops[i]? = some ⟨d, o, t, ps, af, g⟩ := by exact rfl) (hr : Region.ready md ops listed = [i] := by kernel_rfl) : ybh P md ops Q S k (fuel + 1) listed a w := yd7 hr (by simp) (ya6.cons ho h ya6.nil)
theorem wtD (i : Nat) {d : Option Tmp} {o : Op} {t : TypeId} {ps : String} {af : Array Edge} {g : Option (Nat × Bool)} {fuel : Nat} {listed : Array Bool} {a : Act} {w : World}
  (h : ∀ K' : Act → World → Prop, Shut (∀ a w, ybh P md ops Q S k fuel (listed.setIfInBounds i true) a w → K' a w) → if Region.wanted ⟨d, o, t, ps, af, g⟩ (yielded ops a.tmps) = true then Oper.wp P ⟨d, o, t, ps, af, g⟩ a w K' Q else K' (a.put d undef) w)
  (ho : ops[i]? = some ⟨d, o, t, ps, af, g⟩ := by exact rfl) (hr : Region.ready md ops listed = [i] := by kernel_rfl) (hl : (listed.setIfInBounds i true).getD k true = true := by kernel_rfl) : ybh P md ops Q S k (fuel + 1) listed a w := yd7 hr (by simp) (ya6.past ho hl h ya6.nil)
theorem ya8 {listed : Array Bool} {a : Act} {w : World} (hr : Region.ready md ops listed = []) (h : Q .normal a w) :
  ∀ fuel, ybh P md ops Q S k fuel listed a w
 | 0 => ⟨hr, h⟩
 | _ + 1 => ⟨fun _ => h, by rw [hr]; simp⟩
theorem ybe {id : Nat} {a : Act} {w : World} (S : World → Prop) (k : Nat) (hm : P.follows .mixedOrders = true) (hS : S w.drew)
  (h : S w.drew → ybh P .any ops Q S k ops.size (Array.replicate ops.size false) a w.drew) : (Code.region id ops true).wp P Q a w :=
 wp_region_any hm (yl3 _ _ _ _ (h hS))
end
theorem yq0 {w : World} {b o : Nat} {cs : Array Value} {T : TypeId} {v : Value} (hb : w.heap[b]? = some (.cells cs T)) (hv : cs[o]? = some v) : w.cell? ⟨b, o, none⟩ = some v := by rw [Lib.cell_of_heap hb, hv]
def OwnAt (w : World) (e : TypeId) (size : Nat) (v : Value) (n : Nat) (xs : List Value) : Prop :=
 xs.length = n * size ∧ ((v = .slice none 0 0 ∧ n = 0) ∨ ∃ q o c cur, v = .slice (some ⟨q, o, none⟩) n c ∧ w.heap[q]? = some (.cells cur e (0, 0)) ∧ n ≤ c ∧ c ≤ maxLen ∧ o + c * size ≤ cur.size ∧ (cur.toList.drop o).take (n * size) = xs)
theorem OwnAt.nil (w : World) (e : TypeId) (size : Nat) : OwnAt w e size (.slice none 0 0) 0 [] := ⟨by simp, .inl ⟨rfl, rfl⟩⟩
theorem OwnAt.lt {w : World} {e : TypeId} {size n : Nat} {v : Value} {xs : List Value} (h : OwnAt w e size v n xs) : ∀ q, v.ownBlock = some q → q < w.heap.size := by
 intro q hq
 rcases h.2 with ⟨rfl, _⟩ | ⟨q', o, c, cur, rfl, hh, _⟩
 ·cases hq
 ·injection hq with hq
  subst hq
  exact (Array.getElem?_eq_some_iff.1 hh).1
theorem OwnAt.shape {w : World} {e : TypeId} {size n : Nat} {v : Value} {xs : List Value} (h : OwnAt w e size v n xs) : ∃ A c, v = .slice A n c ∧ n ≤ c ∧ c ≤ maxLen := by
 rcases h.2 with ⟨rfl, rfl⟩ | ⟨q', o, c, cur, rfl, hh, h1, h2, _⟩
 ·exact ⟨none, 0, rfl, Nat.le_refl _, by unfold maxLen; omega⟩
 ·exact ⟨_, c, rfl, h1, h2⟩
theorem OwnAt.at_ {w : World} {e : TypeId} {size n c : Nat} {A : Option Addr} {xs : List Value} (h : OwnAt w e size (.slice A n c) n xs) (hn : 0 < n) : ∃ q o, A = some ⟨q, o, none⟩ := by
 rcases h.2 with ⟨h0, h1⟩ | ⟨q', o, c, cur, h0, _⟩
 ·omega
 ·injection h0 with h0
  exact ⟨_, _, h0⟩
theorem OwnAt.block {w w1 : World} {e : TypeId} {size n : Nat} {v : Value} {xs : List Value} (h : OwnAt w e size v n xs) (hb : ∀ q, v.ownBlock = some q → w1.heap[q]? = w.heap[q]?) : OwnAt w1 e size v n xs := by
 refine ⟨h.1, ?_⟩
 rcases h.2 with ⟨rfl, rfl⟩ | ⟨q', o, c, cur, rfl, hh, h1, h2, h3, h4⟩
 ·exact .inl ⟨rfl, rfl⟩
 ·exact .inr ⟨q', o, c, cur, rfl, (hb q' rfl).trans hh, h1, h2, h3, h4⟩
theorem OwnAt.touch {w w1 : World} {e : TypeId} {size n : Nat} {v : Value} {xs : List Value} {F : List Nat} (h : OwnAt w e size v n xs) (t : Touch F w w1) (hn : ∀ q, v.ownBlock = some q → q ∉ F) : OwnAt w1 e size v n xs :=
 h.block fun q hq => t.block q (h.lt q hq) (hn q hq)
theorem OwnAt.below {w w1 : World} {e : TypeId} {size n : Nat} {v : Value} {xs : List Value} (h : OwnAt w e size v n xs) (t : Below w.heap.size w w1) : OwnAt w1 e size v n xs := h.touch (Touch.ofBelow (F := []) t) (by simp)
theorem OwnAt.cells {w : World} {e : TypeId} {size n q o c : Nat} {xs : List Value} (h : OwnAt w e size (.slice (some ⟨q, o, none⟩) n c) n xs) : ∀ j u, xs[j]? = some u → w.cell? ⟨q, o + j, none⟩ = some u := by
 intro j u hu
 rcases h.2 with ⟨h0, _⟩ | ⟨q', o', c', cur, h0, hh, h1, h2, h3, h4⟩
 ·cases h0
 ·injection h0 with h0 _ _
  injection h0 with h0
  injection h0 with ha hb _
  subst ha hb
  refine yq0 hh ?_
  have hj : j < n * size := by rw [← h.1]; exact (List.getElem?_eq_some_iff.1 hu).1
  rw [← h4, List.getElem?_take, if_pos hj, List.getElem?_drop, Array.getElem?_toList] at hu
  exact hu
theorem OwnAt.cellAt {w : World} {e : TypeId} {size n q o c : Nat} {xs : List Value} (h : OwnAt w e size (.slice (some ⟨q, o, none⟩) n c) n xs) (j : Nat) (hj : j < xs.length) : w.cell? ⟨q, o + j, none⟩ = xs[j]? := by
 rw [h.cells j _ (List.getElem?_eq_getElem hj), List.getElem?_eq_getElem hj]
theorem OwnAt.drop {w : World} {e : TypeId} {size n q o c k : Nat} {xs : List Value} (h : OwnAt w e size (.slice (some ⟨q, o, none⟩) n c) n xs) (hk : k ≤ n) : OwnAt w e size (.slice (some ⟨q, o + k * size, none⟩) (n - k) (c - k)) (n - k) (xs.drop (k * size)) := by
 have hm : k * size ≤ n * size := Nat.mul_le_mul_right _ hk
 refine ⟨by rw [List.length_drop, h.1, ← Nat.sub_mul], ?_⟩
 rcases h.2 with ⟨h0, _⟩ | ⟨q', o', c', cur, h0, hh, h1, h2, h3, h4⟩
 ·cases h0
 ·injection h0 with h0 _ hc
  injection h0 with h0
  injection h0 with ha hb _
  subst ha hb hc
  have hc2 : k * size ≤ c * size := Nat.mul_le_mul_right _ (by omega)
  refine .inr ⟨q, _, _, cur, rfl, hh, by omega, by omega, by rw [Nat.sub_mul]; omega, ?_⟩
  rw [← h4, List.drop_take, List.drop_drop, Nat.sub_mul]
theorem OwnAt.set {w : World} {e : TypeId} {size n q o c : Nat} {xs : List Value} (h : OwnAt w e size (.slice (some ⟨q, o, none⟩) n c) n xs) (j : Nat) (u : Value) : OwnAt (w.setCell ⟨q, o + j, none⟩ u) e size (.slice (some ⟨q, o, none⟩) n c) n (xs.set j u) := by
 refine ⟨by rw [List.length_set]; exact h.1, ?_⟩
 rcases h.2 with ⟨h0, _⟩ | ⟨q', o', c', cur, h0, hh, h1, h2, h3, h4⟩
 ·cases h0
 ·injection h0 with h0 _ hc
  injection h0 with h0
  injection h0 with ha hb _
  subst ha hb hc
  have hc2 : n * size ≤ c * size := Nat.mul_le_mul_right _ h1
  refine .inr ⟨q, o, c, cur.setIfInBounds (o + j) u, rfl, ?_, h1, h2, by simpa using h3, ?_⟩
  ·simp [World.setCell, Array.getElem?_modify, hh]
  ·rw [Array.toList_setIfInBounds, List.drop_set, if_neg (by omega), Nat.add_sub_cancel_left, List.take_set, h4]
theorem yd8 {w : World} {base e size n : Nat} {v : Value} {xs : List Value} (h : w.ownsRow base e size v n xs) : OwnAt w e size v n xs := by
 refine ⟨h.1, ?_⟩
 rcases h.2 with ⟨rfl, rfl⟩ | ⟨g, cap, cur, rfl, hb, hg, hn, hc, hs, ht⟩
 ·exact .inl ⟨rfl, rfl⟩
 ·exact .inr ⟨g, 0, cap, cur, rfl, hg, hn, hc, by omega, by simpa using ht⟩
theorem yq1 {P : Program} (w : World) (t ty e : TypeId) (i : TypeInfo) (z : Value) (size bytes : Nat) (ht : P.underlying t = some (.slice e)) (hi : P.info? e = some i) (hz : i.zero = some z)
  (hsize : i.size = size) (hby : i.bytes = bytes) (hzs : z.cells.size = size)
  (v : Value) (n : Nat) (xs : List Value) (hown : OwnAt w e size v n xs) (a : Addr) (m c : Nat) (news : List Value) (hm : 0 < m) (hl : news.length = m * size) (hnews : ∀ j u, news[j]? = some u → w.cell? (a.add j) = some u) (h1 : ∀ u ∈ news, u.oneCell' = true)
  (h63 : n + m ≤ maxLen) (hbytes : (n + m) * bytes ≤ 140737488355328) :
  ∃ v' w', (Builtin.append_ #[t, t] ty #[v, .slice (some a) m c]).run P w = .ok v' w' ∧ OwnAt w' e size v' (n + m) (xs ++ news) ∧ w.grownBy w' v.ownBlock ∧ yax w v v' := by
 subst hsize hby
 have hsmall : n + m ≤ 9223372036854775807 := by simp only [maxLen] at h63; omega
 have hlen : (xs ++ news).length = (n + m) * i.size := by rw [List.length_append, hown.1, hl, Nat.add_mul]
 have grown : ∀ (old : Nat), old < n + m → ∀ (row : Option Nat),
   OwnAt (w.drew.alloc (.cells (xs.toArray ++ news.toArray ++ Builtin.zeroCells z.cells (grownCap w (n + m) old e - (n + m))) e)) e i.size
    (.slice (some ⟨w.heap.size, 0, none⟩) (n + m) (grownCap w (n + m) old e)) (n + m) (xs ++ news) ∧
   w.grownBy (w.drew.alloc (.cells (xs.toArray ++ news.toArray ++ Builtin.zeroCells z.cells (grownCap w (n + m) old e - (n + m))) e)) row := by
  intro old ho row
  have hge := grownCap_ge w (n + m) old e
  have hcm : grownCap w (n + m) old e ≤ maxLen := grownCap_le_maxLen w (n + m) old e h63
  refine ⟨⟨hlen, .inr ⟨w.heap.size, 0, _, _, rfl, heap_alloc_new w.drew _, hge, hcm, ?_, ?_⟩⟩, ⟨rfl, rfl, rfl, by simp, fun k hk _ => Below.heap_alloc w.drew _ k hk⟩⟩
  ·simp only [Array.size_append, List.size_toArray, size_zeroCells, hzs, hown.1, hl, ← Nat.add_mul]
   rw [Nat.zero_add]
   refine Nat.le_of_eq ?_
   congr 1
   omega
  ·rw [List.drop_zero]
   simp only [Array.toList_append, List.append_assoc]
   rw [← List.append_assoc, ← hlen]
   exact List.take_left
 rcases hown.2 with ⟨rfl, rfl⟩ | ⟨g, o, cap, cur, rfl, hg, hnc, hcm, hcs, htake⟩
 ·have hx : xs = [] := List.eq_nil_of_length_eq_zero (by simpa using hown.1)
  subst hx
  have hr := run_append_nil (P := P) w t ty e i z ht hi hz a m c news hl hnews (by omega) (by omega) (by have hb := hbytes; simp only [Nat.zero_add] at hb; omega)
  have hgr := grown 0 (by omega) (Value.ownBlock (.slice none 0 0))
  simp only [Nat.zero_add, List.nil_append, Array.empty_append] at hgr ⊢
  exact ⟨_, _, hr, hgr.1, hgr.2, fun q hq => .inr (by injection hq with hq; have h9 : w.heap.size = q := hq; omega)⟩
 ·by_cases hroom : n + m ≤ cap
  ·have hfit : o + n * i.size + news.length ≤ cur.size := by
    have h9 : (n + m) * i.size ≤ cap * i.size := Nat.mul_le_mul_right _ hroom
    rw [Nat.add_mul] at h9
    rw [hl]; omega
   have hf := run_firstCells_some (P := P) w i.size m a m c news hl hnews
   have hst := run_storeCells_at P g (o + n * i.size) e news 0 cur w hg (by simpa using hfit) h1
   simp only [Nat.add_zero] at hst
   refine ⟨.slice (some ⟨g, o, none⟩) (n + m) cap, _, by simp [Builtin.append_, run_underlying ht, sizeOf, typeInfo, hi, Builtin.lenOf, hroom, hf, Addr.add_lit, hst]; rfl, ⟨hlen, .inr ⟨g, o, cap, _, rfl, setRow_heap w g cur _ e _ hg, hroom, hcm, ?_, ?_⟩⟩, ydg _ _ _, fun q hq => .inl hq⟩
   ·simp only [List.size_toArray, List.length_append, List.length_take, List.length_drop, Array.length_toList]
    omega
   ·have e1 : (cur.toList.take (o + n * i.size)).length = o + n * i.size := by rw [List.length_take, Array.length_toList]; omega
    rw [List.toList_toArray, List.drop_append_of_le_length (by rw [e1]; omega), List.drop_take, Nat.add_sub_cancel_left, htake, ← List.append_assoc, ← hlen]
    exact List.take_left
  ·have holds : ∀ j u, xs[j]? = some u → w.cell? ((⟨g, o, none⟩ : Addr).add j) = some u := fun j u hj => by rw [Go.WideShapes.add_plain]; exact hown.cells j u hj
   have hr := run_append_grow (P := P) w t ty e i z ht hi hz ⟨g, o, none⟩ n cap xs hown.1 holds a m c news hl hnews (by omega) (by omega) (growslice_fits (by omega) hbytes)
   have hgr := grown cap (by omega) (Value.ownBlock (.slice (some ⟨g, o, none⟩) n cap))
   exact ⟨_, _, hr, hgr.1, hgr.2, fun q hq => .inr (by injection hq with hq; have h9 : w.heap.size = q := hq; omega)⟩
theorem yq2 {P : Program} {ops : Array Oper} {o : Oper} {a : Act} {w : World} {K : Act → World → Prop} {Q : Exit → Act → World → Prop} {E : Prop} (hg : o.guard = none) (s x : Operand) (t : TypeId)
  (ho : o.op = .call { callee := .builtin .append, args := #[s, x], argTypes := #[t, t] })
  (e : TypeId) (i : TypeInfo) (z : Value) (size bytes : Nat) (ht : P.underlying t = some (.slice e)) (hi : P.info? e = some i) (hz : i.zero = some z)
  (hsize : i.size = size) (hby : i.bytes = bytes) (hzs : z.cells.size = size)
  (v : Value) (n : Nat) (xs : List Value) (hs : a.eval s = v) (hown : OwnAt w e size v n xs)
  (ad : Addr) (c : Nat) (news : List Value) (hx : a.eval x = .slice (some ad) 1 c) (hl : news.length = 1 * size) (hnews : ∀ j u, news[j]? = some u → w.cell? (ad.add j) = some u) (h1 : ∀ u ∈ news, u.oneCell' = true)
  (h63 : n + 1 ≤ maxLen) (hbytes : (n + 1) * bytes ≤ 140737488355328)
  (h : ∀ A c w', OwnAt w' e size (.slice A (n + 1) c) (n + 1) (xs ++ news) → w.grownBy w' v.ownBlock → yax w v (.slice A (n + 1) c) → K (a.put o.dst (.slice A (n + 1) c)) w') :
  if Region.wanted o (yielded ops a.tmps) = true then Oper.wp P o a w K Q else E := by
 obtain ⟨v', w', hr, h2, h3, h4⟩ := yq1 (P := P) w t o.type e i z size bytes ht hi hz hsize hby hzs v n xs hown ad 1 c news (by decide) hl hnews h1 h63 hbytes
 obtain ⟨A, c, rfl, _, _⟩ := h2.shape
 exact yd5 hg s x t t ho v (.slice (some ad) 1 _) hs hx hr (h A c w' h2 h3 h4)
abbrev AK.cells (a : AK) : Array Value := #[.int .i64 a.op, .string a.key, .string a.val, .string a.tt, .int .i64 a.most]
abbrev TL.cells (t : TL) (S : Value) : Array Value := #[.int .i64 t.er, .string t.val, S, .bool t.more, .string t.nx, .int .i64 t.nd]
structure AK.Fit (a : AK) : Prop where
 op : -9223372036854775808 ≤ a.op ∧ a.op ≤ 9223372036854775807
 key : a.key.size ≤ maxLen
 val : a.val.size ≤ maxLen
 tt : a.tt.size ≤ maxLen
 most : -9223372036854775808 ≤ a.most ∧ a.most ≤ 9223372036854775807
abbrev Wide (n : Int) : Prop := -9223372036854775808 ≤ n ∧ n ≤ 9223372036854775807
def ycd (VD : World → Nat → HO → List Nat → Prop) (w : World) (g : Nat) (s : HO) (F : List Nat) (a : AK) (e : Ending) (w' : World) : Prop :=
 ∃ t s1 S F1, Did s a t s1 ∧ e = .returned (.agg (t.cells S)) ∧ w'.ownsRow w.heap.size 96 2 S t.its.length (yaa t.its) ∧ (∀ q, S.ownBlock = some q → q ∉ F1) ∧ VD w' g s1 F1 ∧ Touch F w w' ∧ ∀ q ∈ F1, q ∈ F ∨ w.heap.size ≤ q
def yhz (VD : World → Nat → HO → List Nat → Prop) (w : World) (g : Nat) (s : HO) (F : List Nat) (f t : Nat) (e : Ending) (w' : World) : Prop :=
 ∃ (l : List Item) (ep er : Int) (s1 : HO) (S : Value) (F1 : List Nat), e = .returned (.tuple #[S, .int .i64 ep, .int .i64 er]) ∧ w'.ownsRow w.heap.size 96 2 S l.length (yaa l) ∧ (∀ q, S.ownBlock = some q → q ∉ F1) ∧ VD w' g s1 F1 ∧ Touch F w w' ∧ (∀ q ∈ F1, q ∈ F ∨ w.heap.size ≤ q) ∧
  ((s.g.shut = true ∧ er = 7 ∧ l = [] ∧ ep = 0 ∧ s1 = s) ∨ (s.g.shut = false ∧ (∃ x, x < 18446744073709551616 ∧ inB f t x = true ∧ s.own x = none) ∧ er = 1 ∧ l = [] ∧ ep = 0 ∧ s1 = s) ∨
   (s.g.shut = false ∧ (∀ x, x < 18446744073709551616 → inB f t x = true → s.own x ≠ none) ∧ er = 0 ∧ l = arcL s.its f t ∧ ydf s.own (fun x => inB f t x = true) ep ∧ s1 = ⟨s.nd, s.most, s.kept, s.own, s.its, ⟨true, f, t, s.g.l, s.g.k⟩, s.k⟩))
def ybz (VD : World → Nat → HO → List Nat → Prop) (w : World) (g : Nat) (F : List Nat) (v : Value) (s1 : HO) (e : Ending) (w' : World) : Prop :=
 ∃ F1, e = .returned v ∧ VD w' g s1 F1 ∧ Touch F w w' ∧ ∀ q ∈ F1, q ∈ F ∨ w.heap.size ≤ q
abbrev yh0 (l : List AO) (nd : Int) : List Value := l.flatMap fun p => [.int .u64 (p.f : Nat), .int .u64 (p.t : Nat), .int .i64 nd, .int .i64 p.e]
def yl5 (w : World) (base : Nat) (S : Value) (n : Nat) (xs : List Value) : Prop := OwnAt w 152 4 S n xs ∧ ∀ q, S.ownBlock = some q → base ≤ q
structure ybg (VD : World → Nat → HO → List Nat → Prop) : Prop where
 has_ : ∀ {w g s F}, VD w g s F → g ∈ F ∧ ∀ q ∈ F, q < w.heap.size
 rising : ∀ {w g s F}, VD w g s F → yah s.its ∧ ∀ x ∈ s.its, yal x.1 = 0 ∧ yas x.2 = 0
 touch : ∀ {w w' g s F G}, VD w g s F → Touch G w w' → (∀ q ∈ F, q ∉ G) → VD w' g s F
 new : ∀ (nd most : Int) (w : World), Wide nd → Wide most → Calls Tryz.prog 31 #[.int .i64 nd, .int .i64 most] w fun e w' =>
  ∃ g F, e = .returned (.pointer (some ⟨g, 0, none⟩)) ∧ VD w' g (HO.new nd most) F ∧ (∀ q ∈ F, w.heap.size ≤ q) ∧ Below w.heap.size w w'
 own : ∀ {w g s F} (f t : Nat) (ep : Int), f < 18446744073709551616 → t < 18446744073709551616 → Wide ep → s.k ≤ 1000 → VD w g s F → Calls Tryz.prog 33 #[.pointer (some ⟨g, 0, none⟩), .agg #[.int .u64 (f : Nat), .int .u64 (t : Nat)], .int .i64 ep] w fun e w' =>
  (s.may f t ep ∧ ybz VD w g F (.bool true) (s.take f t ep) e w') ∨ (¬ s.may f t ep ∧ ybz VD w g F (.bool false) s e w')
 do_ : ∀ {w g s F} (a : AK), a.Fit → s.k ≤ 1000 → s.g.l.length ≤ 1000 → VD w g s F → Calls Tryz.prog 21 #[.pointer (some ⟨g, 0, none⟩), .agg a.cells] w (ycd VD w g s F a)
 len : ∀ {w g s F}, VD w g s F → Calls Tryz.prog 44 #[.pointer (some ⟨g, 0, none⟩)] w fun e w' => e = .returned (.int .i64 (s.its.length : Nat)) ∧ Below w.heap.size w w'
 has : ∀ {w g s F} (x : Nat), x < 18446744073709551616 → s.k ≤ 1000 → VD w g s F → Calls Tryz.prog 30 #[.pointer (some ⟨g, 0, none⟩), .int .u64 (x : Nat)] w fun e w' => e = .returned (.bool (s.own x).isSome) ∧ Below w.heap.size w w'
 epoch : ∀ {w g s F}, s.k ≤ 1000 → VD w g s F → Calls Tryz.prog 45 #[.pointer (some ⟨g, 0, none⟩)] w fun e w' => (∃ ep : Int, e = .returned (.int .i64 ep) ∧ (ydf s.own (fun _ => True) ep ∨ ((∀ x, x < 18446744073709551616 → s.own x = none) ∧ ep = 0))) ∧ Below w.heap.size w w'
 items : ∀ {w g s F}, VD w g s F → Calls Tryz.prog 28 #[.pointer (some ⟨g, 0, none⟩)] w fun e w' => ∃ S, e = .returned S ∧ w'.ownsRow w.heap.size 96 2 S s.its.length (yaa s.its) ∧ Below w.heap.size w w'
 freeze : ∀ {w g s F} (f t : Nat), f < 18446744073709551616 → t < 18446744073709551616 → s.k ≤ 1000 → VD w g s F → Calls Tryz.prog 27 #[.pointer (some ⟨g, 0, none⟩), .agg #[.int .u64 (f : Nat), .int .u64 (t : Nat)]] w (yhz VD w g s F f t)
 thaw : ∀ {w g s F}, VD w g s F → Calls Tryz.prog 127 #[.pointer (some ⟨g, 0, none⟩)] w (ybz VD w g F (.tuple #[]) ⟨s.nd, s.most, s.kept, s.own, s.its, s.g.thaw, s.k⟩)
 lose : ∀ {w g s F} (n : Int), Wide n → s.k ≤ 1000 → s.g.l.length ≤ 1000 → VD w g s F → Calls Tryz.prog 49 #[.pointer (some ⟨g, 0, none⟩), .int .i64 n] w fun e w' =>
  (s.g.shut = true ∧ ybz VD w g F (.int .i64 0) (s.lose n) e w') ∨ (s.g.shut = false ∧ ybz VD w g F (.int .i64 10) s e w')
 arcs : ∀ {w g s F}, s.k ≤ 1000 → VD w g s F → Calls Tryz.prog 40 #[.pointer (some ⟨g, 0, none⟩)] w fun e w' => ∃ (l : List AO) (A : Option Addr) (c : Nat), e = .returned (.slice A l.length c) ∧ w'.ownsRow w.heap.size 152 4 (.slice A l.length c) l.length (yh0 l s.nd) ∧
  Arcs l ∧ (∀ x, x < 18446744073709551616 → kn l x = (s.own x).map fun e => (0, e)) ∧ Below w.heap.size w w'
 pieces : ∀ {w g s F}, s.k ≤ 1000 → VD w g s F → Calls Tryz.prog 42 #[.pointer (some ⟨g, 0, none⟩)] w fun e w' => ∃ (l m : List AO) (A : Option Addr) (c : Nat), e = .returned (.slice A l.length c) ∧ yl5 w' w.heap.size (.slice A l.length c) l.length (yh0 l s.nd) ∧
  Arcs m ∧ (∀ x, x < 18446744073709551616 → kn m x = (s.own x).map fun _ => (0, 0)) ∧ m.length = l.length ∧ (∀ (i : Nat) (p q : AO), l[i]? = some p → m[i]? = some q → p.f = q.f ∧ p.t = q.t ∧ ydf s.own (fun x => inB p.f p.t x = true) p.e) ∧ Below w.heap.size w w'
def DX (VD : World → Nat → HO → List Nat → Prop) (W w : World) (P : List Nat) (g : Nat) (s : HO) : Prop :=
 Below W.heap.size W w ∧ (∃ F, VD w g s F ∧ ∀ q ∈ F, W.heap.size ≤ q ∧ q ∉ P) ∧ ∀ q ∈ P, q < w.heap.size
section
variable {VD : World → Nat → HO → List Nat → Prop} {W w w1 : World} {P : List Nat} {g : Nat} {s : HO}
theorem DX.base (h : DX VD W w P g s) : Below W.heap.size W w := h.1
theorem DX.below (L : ybg VD) (h : DX VD W w P g s) (hb : Below w.heap.size w w1) : DX VD W w1 P g s := by
 obtain ⟨x, ⟨F, b, c⟩, d⟩ := h
 exact ⟨acc x hb, ⟨F, L.touch b (Touch.ofBelow (F := []) hb) (by simp), c⟩, fun q hq => Nat.lt_of_lt_of_le (d q hq) hb.size⟩
theorem DX.more (L : ybg VD) (h : DX VD W w P g s) (hb : Below w.heap.size w w1) {Q : List Nat} (hQ : ∀ q ∈ Q, w.heap.size ≤ q ∧ q < w1.heap.size) : DX VD W w1 (Q ++ P) g s := by
 obtain ⟨x, ⟨F, b, c⟩, d⟩ := h
 refine ⟨acc x hb, ⟨F, L.touch b (Touch.ofBelow (F := []) hb) (by simp), fun q hq => ⟨(c q hq).1, fun z => ?_⟩⟩, fun q hq => ?_⟩
 ·rcases List.mem_append.1 z with z | z
  ·have := (L.has_ b).2 q hq
   have := (hQ q z).1
   omega
  ·exact (c q hq).2 z
 ·rcases List.mem_append.1 hq with z | z
  ·exact (hQ q z).2
  ·exact Nat.lt_of_lt_of_le (d q z) hb.size
theorem DX.less {Q : List Nat} (h : DX VD W w P g s) (hQ : ∀ q ∈ Q, q ∈ P) : DX VD W w Q g s := by
 obtain ⟨x, ⟨F, b, c⟩, d⟩ := h
 exact ⟨x, ⟨F, b, fun q hq => ⟨(c q hq).1, fun z => (c q hq).2 (hQ q z)⟩⟩, fun q hq => d q (hQ q hq)⟩
theorem DX.new (L : ybg VD) (nd most : Int) (hb : Below W.heap.size W w) (hP : ∀ q ∈ P, q < w.heap.size) (h1 : Wide nd) (h2 : Wide most) : Calls Tryz.prog 31 #[.int .i64 nd, .int .i64 most] w fun e w' =>
  ∃ g, e = .returned (.pointer (some ⟨g, 0, none⟩)) ∧ DX VD W w' P g (HO.new nd most) ∧ Below w.heap.size w w' := by
 refine (L.new nd most w h1 h2).mono ?_
 rintro e w' ⟨g, F, rfl, h3, h4, h5⟩
 exact ⟨g, rfl, ⟨acc hb h5, ⟨F, h3, fun q hq => ⟨Nat.le_trans hb.size (h4 q hq), fun z => by have := hP q z; have := h4 q hq; omega⟩⟩, fun q hq => Nat.lt_of_lt_of_le (hP q hq) h5.size⟩, h5⟩
theorem DX.post (h : Below W.heap.size W w) {F F1 : List Nat} (c : ∀ q ∈ F, W.heap.size ≤ q ∧ q ∉ P) (d : ∀ q ∈ P, q < w.heap.size) (h1 : VD w1 g s F1) (t : Touch F w w1) (h2 : ∀ q ∈ F1, q ∈ F ∨ w.heap.size ≤ q) : DX VD W w1 P g s ∧ Kept P w w1 := by
 refine ⟨⟨Touch.acc h t (fun q hq => (c q hq).1), ⟨F1, h1, fun q hq => ?_⟩, fun q hq => Nat.lt_of_lt_of_le (d q hq) t.size⟩, ⟨F, t, fun q hq z => (c q z).2 hq⟩⟩
 rcases h2 q hq with z | z
 ·exact c q z
 ·exact ⟨Nat.le_trans h.size z, fun y => by have := d q y; omega⟩
def yh1 (VD : World → Nat → HO → List Nat → Prop) (W w : World) (P : List Nat) (g : Nat) (v : Value) (s : HO) (e : Ending) (w' : World) : Prop :=
 e = .returned v ∧ DX VD W w' P g s ∧ Kept P w w'
theorem DX.of {F : List Nat} {s1 : HO} {v : Value} {e : Ending} (h : Below W.heap.size W w) (c : ∀ q ∈ F, W.heap.size ≤ q ∧ q ∉ P) (d : ∀ q ∈ P, q < w.heap.size) (hp : ybz VD w g F v s1 e w1) : yh1 VD W w P g v s1 e w1 := by
 obtain ⟨F1, rfl, h1, t, h2⟩ := hp
 exact ⟨rfl, DX.post h c d h1 t h2⟩
theorem DX.own (L : ybg VD) (h : DX VD W w P g s) (f t : Nat) (ep : Int) (hf : f < 18446744073709551616) (ht : t < 18446744073709551616) (hw : Wide ep) (hk : s.k ≤ 1000) :
  Calls Tryz.prog 33 #[.pointer (some ⟨g, 0, none⟩), .agg #[.int .u64 (f : Nat), .int .u64 (t : Nat)], .int .i64 ep] w fun e w' => (s.may f t ep ∧ yh1 VD W w P g (.bool true) (s.take f t ep) e w') ∨ (¬ s.may f t ep ∧ yh1 VD W w P g (.bool false) s e w') := by
 obtain ⟨x, ⟨F, b, c⟩, d⟩ := h
 refine (L.own f t ep hf ht hw hk b).mono ?_
 rintro e w' (⟨h1, h2⟩ | ⟨h1, h2⟩)
 ·exact .inl ⟨h1, DX.of x c d h2⟩
 ·exact .inr ⟨h1, DX.of x c d h2⟩
theorem DX.has (L : ybg VD) (h : DX VD W w P g s) (x : Nat) (hx : x < 18446744073709551616) (hk : s.k ≤ 1000) :
  Calls Tryz.prog 30 #[.pointer (some ⟨g, 0, none⟩), .int .u64 (x : Nat)] w fun e w' => e = .returned (.bool (s.own x).isSome) ∧ Below w.heap.size w w' := by
 obtain ⟨_, ⟨F, b, _⟩, _⟩ := h
 exact L.has x hx hk b
theorem DX.do_ (L : ybg VD) (h : DX VD W w P g s) (a : AK) (ha : a.Fit) (hk : s.k ≤ 1000) (h1 : s.g.l.length ≤ 1000) : Calls Tryz.prog 21 #[.pointer (some ⟨g, 0, none⟩), .agg a.cells] w fun e w' =>
  ∃ t s1 S, Did s a t s1 ∧ e = .returned (.agg (t.cells S)) ∧ w'.ownsRow w.heap.size 96 2 S t.its.length (yaa t.its) ∧ DX VD W w' (S.ownBlock.toList ++ P) g s1 ∧ Kept P w w' := by
 obtain ⟨x, ⟨F, b, c⟩, d⟩ := h
 refine (L.do_ a ha hk h1 b).mono ?_
 rintro e w' ⟨t, s1, S, F1, h3, rfl, h4, h5, h6, h7, h8⟩
 obtain ⟨⟨y1, ⟨F2, y2, y3⟩, y4⟩, y5⟩ := DX.post (s := s1) (g := g) (VD := VD) x c d h6 h7 h8
 refine ⟨t, s1, S, h3, rfl, h4, ⟨y1, ⟨F1, h6, fun q hq => ?_⟩, fun q hq => ?_⟩, y5⟩
 ·refine ⟨?_, fun z => ?_⟩
  ·rcases h8 q hq with z | z
   ·exact (c q z).1
   ·exact Nat.le_trans x.size z
  ·rcases List.mem_append.1 z with z | z
   ·exact h5 q (by simpa using z) hq
   ·rcases h8 q hq with y | y
    ·exact (c q y).2 z
    ·have := d q z; omega
 ·rcases List.mem_append.1 hq with z | z
  ·exact (h4.lt q (by simpa using z)).2
  ·exact y4 q z
end
structure LR where
 l : LV
 a : Value
 b : Value
abbrev LR.cells (r : LR) : Array Value := #[.int .i64 r.l.k, .int .i64 r.l.f, .int .i64 r.l.t, .int .i64 r.l.i, .int .i64 r.l.op, .string r.l.key, .string r.l.val, .string r.l.kto, .int .i64 r.l.most, .int .i64 r.l.er, .string r.l.tv, r.a, .bool r.l.more, .string r.l.nx, .int .i64 r.l.tn, .int .u64 (r.l.af : Nat), .int .u64 (r.l.au : Nat), .int .i64 r.l.ep, r.b, .int .i64 r.l.n, .int .i64 r.l.nd]
def LR.sl (r : LR) : Prop := (∃ A n c, r.a = .slice A n c) ∧ ∃ A n c, r.b = .slice A n c
theorem LR.one {r : LR} (h : r.sl) : r.cells.all (·.oneCell') = true := by
 obtain ⟨⟨A, n, c, h1⟩, B, m, d, h2⟩ := h
 simp [LR.cells, Value.oneCell', h1, h2]
def LR.blocks (r : LR) : List Nat := r.a.ownBlock.toList ++ r.b.ownBlock.toList
structure LR.At (W : World) (L : List Nat) (r : LR) : Prop where
 a : SlAt W r.a r.l.ti
 b : SlAt W r.b r.l.li
 m : ∀ q ∈ r.blocks, q ∈ L
theorem LR.At.below {W W1 : World} {L : List Nat} {r : LR} (h : r.At W L) (t : Below W.heap.size W W1) : r.At W1 L := ⟨h.a.below t, h.b.below t, h.m⟩
def Mail (W : World) (B : Nat) (S : Value) (ls : List LV) (M : List Nat) : Prop :=
 ∃ rs : List LR, rs.map (·.l) = ls ∧ W.ownsRow B 49 21 S ls.length (rowC LR.cells rs) ∧ (∀ r ∈ rs, r.At W M) ∧ (∀ q, S.ownBlock = some q → q ∈ M) ∧ ∀ q ∈ M, B ≤ q ∧ q < W.heap.size
def yjl (VD : World → Nat → HO → List Nat → Prop) (VV : World → Nat → GV → List Nat → Prop) (w : World) (g : Nat) (s : HO) (F : List Nat) (f t : Nat) (me to_ id : Int) (e : Ending) (w' : World) : Prop :=
 ∃ F1, Touch F w w' ∧ (∀ q ∈ F1, q ∈ F ∨ w.heap.size ≤ q) ∧
  (((me = to_ ∧ ∃ S, e = .returned (.tuple #[.pointer none, S, .int .i64 1]) ∧ Mail w' w.heap.size S [] []) ∧ VD w' g s F1) ∨
   ((me ≠ to_ ∧ s.g.shut = true ∧ ∃ S, e = .returned (.tuple #[.pointer none, S, .int .i64 7]) ∧ Mail w' w.heap.size S [] []) ∧ VD w' g s F1) ∨
   ((me ≠ to_ ∧ s.g.shut = false ∧ (∃ x, x < 18446744073709551616 ∧ inB f t x = true ∧ s.own x = none) ∧ ∃ S, e = .returned (.tuple #[.pointer none, S, .int .i64 1]) ∧ Mail w' w.heap.size S [] []) ∧ VD w' g s F1) ∨
   (me ≠ to_ ∧ s.g.shut = false ∧ (∀ x, x < 18446744073709551616 → inB f t x = true → s.own x ≠ none) ∧ ∃ p S M ep Fv v, e = .returned (.tuple #[.pointer (some ⟨p, 0, none⟩), S, .int .i64 0]) ∧
    v = ⟨me, to_, id, f, t, IntKind.i64.wrap (ep + 1), 1, arcL s.its f t, 0, g⟩ ∧ Mail w' w.heap.size S [v.offer] M ∧ ydf s.own (fun x => inB f t x = true) ep ∧ VD w' g (s.froze f t) F1 ∧ VV w' p v Fv ∧
    (∀ q ∈ Fv, w.heap.size ≤ q ∧ q ∉ F1) ∧ ∀ q ∈ M, q ∉ F1 ∧ q ∉ Fv))
def yc5 (VD : World → Nat → HO → List Nat → Prop) (VV : World → Nat → GV → List Nat → Prop) (w : World) (g : Nat) (s1 : HO) (F : List Nat) (p : Nat) (v1 : GV) (Fv : List Nat) (ls : List LV) (b : Bool) (e : Ending) (w' : World) : Prop :=
 ∃ F1 Fv1 S M, e = .returned (.tuple #[S, .bool b]) ∧ Mail w' w.heap.size S ls M ∧ VD w' g s1 F1 ∧ VV w' p v1 Fv1 ∧ Touch (F ++ Fv) w w' ∧ (∀ q ∈ F1, q ∈ F ∨ w.heap.size ≤ q) ∧ (∀ q ∈ Fv1, (q ∈ Fv ∨ w.heap.size ≤ q) ∧ q ∉ F1) ∧ ∀ q ∈ M, q ∉ F1 ∧ q ∉ Fv1
structure yc6 (VD : World → Nat → HO → List Nat → Prop) (VV : World → Nat → GV → List Nat → Prop) : Prop where
 has : ∀ {w p v F}, VV w p v F → p ∈ F ∧ ∀ q ∈ F, q < w.heap.size
 touch : ∀ {w w' p v F G}, VV w p v F → Touch G w w' → (∀ q ∈ F, q ∉ G) → VV w' p v F
 start : ∀ {w g s F} (f t : Nat) (me to_ id : Int), f < 18446744073709551616 → t < 18446744073709551616 → Wide me → Wide to_ → Wide id → s.k ≤ 1000 → VD w g s F →
  Calls Tryz.prog 10 #[.pointer (some ⟨g, 0, none⟩), .agg #[.int .u64 (f : Nat), .int .u64 (t : Nat)], .int .i64 me, .int .i64 to_, .int .i64 id] w (yjl VD VV w g s F f t me to_ id)
 got : ∀ {w g s F p v Fv} (x : LV) (S1 S2 : Value), VD w g s F → VV w p v Fv → (∀ q ∈ Fv, q ∉ F) → v.h = g → (v.st = 3 → s.g.shut = true) → s.k ≤ 1000 → s.g.l.length ≤ 1000 → v.ch ≤ 1000 →
  Calls Tryz.prog 14 #[.pointer (some ⟨p, 0, none⟩), .agg (x.cells S1 S2)] w (yc5 VD VV w g (v.did x s) F p (v.got x).1 Fv (v.got x).2 (v.over x))
 stop : ∀ {w g s F p v Fv}, VD w g s F → VV w p v Fv → (∀ q ∈ Fv, q ∉ F) → v.h = g →
  Calls Tryz.prog 15 #[.pointer (some ⟨p, 0, none⟩)] w (yc5 VD VV w g (if v.st = 1 ∨ v.st = 2 then s.thawed else s) F p v.stop.1 Fv v.stop.2 (decide (v.st = 1 ∨ v.st = 2)))
 step : ∀ {w p v F}, VV w p v F → Calls Tryz.prog 16 #[.pointer (some ⟨p, 0, none⟩)] w fun e w' => e = .returned (.int .i64 (v.st : Nat)) ∧ Below w.heap.size w w'
 id : ∀ {w p v F}, VV w p v F → Calls Tryz.prog 17 #[.pointer (some ⟨p, 0, none⟩)] w fun e w' => e = .returned (.int .i64 v.id) ∧ Below w.heap.size w w'
theorem Did.bar {s s1 : HO} {a : AK} {t b : TL} (h : Did s a t s1) (hb : s.bar a = some b) : t = b ∧ s1 = s := by
 unfold Did at h
 rw [hb] at h
 exact h
theorem Did.at_ {s s1 : HO} {a : AK} {t : TL} (h : Did s a t s1) (hb : s.bar a = none) :
  (a.op = 1 ∧ t = (if hasN s.its a.key = true then ⟨0, getI s.its a.key, [], false, ⟨#[]⟩, 0⟩ else TL.err 6) ∧ s1 = s) ∨
  (a.op = 2 ∧ t = TL.err (s.putE a.key a.val) ∧ s1 = if s.putE a.key a.val = 0 then s.with (putN s.its a.key a.val) else s) ∨
  (a.op = 3 ∧ t = TL.err (if hasN s.its a.key = true then 0 else 6) ∧ s1 = s.with (delN s.its a.key)) ∨
  (a.op = 4 ∧ (∃ stop, Upto s (yac a.key) stop ∧ t = yby s a stop) ∧ s1 = s) := by
 unfold Did at h
 rw [hb] at h
 exact h
section
variable {VG : World → Nat → GS → List Nat → Prop} {W w w1 : World} {P : List Nat} {g : Nat} {s : GS}
end
def yb0 (w : World) (q f t : Nat) : Prop := w.cell? ⟨q, 0, none⟩ = some (.int .u64 (f : Nat)) ∧ w.cell? ⟨q, 1, none⟩ = some (.int .u64 (t : Nat))
theorem yb0.lt {w : World} {q f t : Nat} (h : yb0 w q f t) : q < w.heap.size := World.block_lt_of_cell? _ _ h.1
theorem yb0.kept {w w' : World} {q f t : Nat} {P : List Nat} (h : yb0 w q f t) (k : Kept P w w') (hq : q ∈ P) : yb0 w' q f t :=
 ⟨(k.cell (p := ⟨q, 0, none⟩) hq h.lt).trans h.1, (k.cell (p := ⟨q, 1, none⟩) hq h.lt).trans h.2⟩
theorem yb0.below {w w' : World} {q f t : Nat} (h : yb0 w q f t) (k : Below w.heap.size w w') : yb0 w' q f t := h.kept (P := [q]) (Kept.below k) (by simp)
theorem yfm (w : World) (f t : Nat) : yb0 (w.alloc (.cells #[.int .u64 (f : Nat), .int .u64 (t : Nat)] 25)) w.heap.size f t := ⟨by simp, by simp⟩
theorem yq3 {W : World} {base e size c n : Nat} {A : Option Addr} {xs : List Value} (h : W.ownsRow base e size (.slice A n c) n xs) (hn : 1 ≤ n) : ∃ q, A = some ⟨q, 0, none⟩ := by
 rcases h.2 with ⟨_, h1⟩ | ⟨g, cap, cur, h0, _⟩
 ·omega
 ·injection h0 with h1 _ _
  exact ⟨g, h1⟩
abbrev GP.cells (p : GP) : Array Value := #[.int .u64 (p.f : Nat), .int .u64 (p.t : Nat), .int .i64 p.n, .int .i64 (p.g : Nat)]
abbrev gpC (l : List GP) : List Value := rowC GP.cells l
theorem yq4 (p : GP) : p.cells.size = 4 := rfl
def GP.Fit (p : GP) : Prop := p.f < 18446744073709551616 ∧ p.t < 18446744073709551616 ∧ p.g < 40
theorem ya4 {w : World} {b o : Nat} {cs : Array Value} {T : TypeId} {v : Value} (hb : w.heap[b]? = some (.cells cs T)) (hv : cs[o]? = some v) : w.cell? ⟨b, o, none⟩ = some v := by rw [Lib.cell_of_heap hb, hv]
theorem yjm {w : World} {q : Nat} {o : Obj} (h : w.heap[q]? = some o) : q < w.heap.size := (Array.getElem?_eq_some_iff.1 h).1
section
variable {w w' : World} {r : Nat} {b : Bool} {f t : Nat} {l : List GP} {V : Value}
end
def RS (W : World) (g : Nat) (F : List Nat) (most : Int) (l : List Item) : Prop :=
 ∃ A c, (g < W.heap.size ∧ W.cell? ⟨g, 0, none⟩ = some (.int .i64 most) ∧ W.cell? ⟨g, 1, none⟩ = some (.slice A l.length c) ∧ W.frozen? ⟨g, 0, none⟩ = false ∧ W.frozen? ⟨g, 1, none⟩ = false) ∧
  Row W (.slice A l.length c) l ∧ (∀ q, Value.ownBlock (.slice A l.length c) = some q → q ∈ F) ∧ (∀ q, q ∈ F → q < W.heap.size ∧ q ≠ g)
theorem RS.touch {W W1 : World} {g : Nat} {F G : List Nat} {most : Int} {l : List Item} (h : RS W g F most l) (ht : Touch G W W1) (hg : g ∉ G) (hF : ∀ q, q ∈ F → q ∉ G) : RS W1 g F most l := by
 obtain ⟨A, c, ⟨h1, h2, h3, h4, h5⟩, h6, h7, h8⟩ := h
 exact ⟨A, c, ⟨Nat.lt_of_lt_of_le h1 ht.size, (ht.cell (p := ⟨g, 0, none⟩) h1 hg).trans h2, (ht.cell (p := ⟨g, 1, none⟩) h1 hg).trans h3, (ht.frozen (p := ⟨g, 0, none⟩) h1 hg).trans h4, (ht.frozen (p := ⟨g, 1, none⟩) h1 hg).trans h5⟩,
  ht.row h6 (fun q hq => hF q (h7 q hq)), h7, fun q hq => ⟨Nat.lt_of_lt_of_le (h8 q hq).1 ht.size, (h8 q hq).2⟩⟩
theorem Row.atBlock {W : World} {A : Option Addr} {c : Nat} {l : List Item} (h : Row W (.slice A l.length c) l) (hn : 1 ≤ l.length) : ∃ q, A = some ⟨q, 0, none⟩ := by
 rcases h.2 with ⟨_, h1⟩ | ⟨g, cap, cur, h0, _⟩
 ·omega
 ·injection h0 with h1 _ _
  exact ⟨g, h1⟩
theorem Row.len {W : World} {v : Value} {l : List Item} (h : Row W v l) : l.length ≤ 9223372036854775807 := by
 rcases h.2 with ⟨_, h1⟩ | ⟨g, cap, cur, h0, _, _, hc, hm, _⟩
 ·omega
 ·unfold maxLen at hm; omega
theorem yq5 (l : List Item) (k : ByteArray) (i : Nat) (h : i < l.length) (e : i = yai l k) : hasN l k = ((l[i]).1.toList == k.toList) := by
 subst e
 unfold hasN
 rw [List.getElem?_eq_getElem h]
theorem yq6 (l : List Item) (k : ByteArray) (h : l.length ≤ yai l k) : hasN l k = false := by
 unfold hasN
 rw [List.getElem?_eq_none h]
theorem Row.cap {W : World} {A : Option Addr} {c : Nat} {l : List Item} (h : Row W (.slice A l.length c) l) : l.length ≤ c := by
 rcases h.2 with ⟨h0, h1⟩ | ⟨g, cap, cur, h0, _, _, hc, _⟩
 ·omega
 ·injection h0 with _ _ h3
  omega
theorem Row.nilOr {W : World} {A : Option Addr} {c : Nat} {l : List Item} (h : Row W (.slice A l.length c) l) : (Value.slice A l.length c = .slice none 0 0 ∧ l.length = 0) ∨ ∃ q, A = some ⟨q, 0, none⟩ := by
 rcases h.2 with h0 | ⟨g, cap, cur, h0, _⟩
 ·exact .inl h0
 ·injection h0 with h1 _ _
  exact .inr ⟨g, h1⟩
theorem yl6 (g : Nat) (F : List Nat) (most : Int) (l : List Item) (k : ByteArray) (W : World) (hR : RS W g F most l) :
  Calls Tryz.prog 67 #[.pointer (some ⟨g, 0, none⟩), .string k] W fun e w' => e = .returned (.tuple #[.int .i64 (yai l k : Nat), .bool (hasN l k)]) ∧ ∃ n, w' = W.drewN n := by
 obtain ⟨A, c, ⟨h1, h2, h3, h4, h5⟩, h6, h7, h8⟩ := hR
 have hlen := h6.len
 have HRow := Lib.hid h6
 have hpl := yd2 l k
 obtain ⟨n, hn⟩ : ∃ n, l.length = n := ⟨_, rfl⟩
 have HN := Lib.hid hn
 rw [hn] at h3 hlen hpl
 clear h6 h7 h8 hn
 go_enter Tryz.func67, Tryz.ntmps67
 go_wp2
 go_loopg [6] (n + 1) (fun gh s6 wx => ∃ (i : Nat), i + gh = n + 1 ∧ i ≤ yai l k ∧ s6 = .int .i64 i ∧ W = wx)
 case atStart => exact ⟨0, by omega, by omega, rfl, rfl⟩
 case round =>
  obtain ⟨i, hig, hi, rfl, rfl⟩ := hrel
  by_cases hlt : i < n
  ·have hlt' : i < l.length := by rw [HN.out]; exact hlt
   obtain ⟨q, rfl⟩ := HRow.out.atBlock (by omega)
   have hc := (HRow.out.cellAt (i * 2) (by omega)).trans (ycc l i hlt')
   have HS := Lib.hid (ylq l k i hlt' hi)
   have HH := Lib.hid (yq5 l k i hlt')
   generalize (l[i]).1 = x at *
   cases hx : Op.bytesLess x.toList k.toList
   ·have hpi : i = yai l k := by
     rcases Nat.lt_or_ge (yai l k) (i + 1) with h | h
     ·omega
     ·have h9 : yad x k = true := HS.out.2 h
      rw [yad, hx] at h9; cases h9
    have HP := Lib.hid (HH.out hpi)
    have HI := Lib.hid hpi
    clear hpi hi HS HH
    go_upto_region 4 with fail
    cases hb : (x.toList == k.toList)
    ·go_quiet (fail)
     go_wp2
     go_ret2
     exact ⟨by rw [HP.out, hb, ← HI.out]; rfl, _, rfl⟩
    ·go_quiet (fail)
     go_wp2
     go_ret2
     exact ⟨by rw [HP.out, hb, ← HI.out]; rfl, _, rfl⟩
   ·have hs : i + 1 ≤ yai l k := HS.out.1 hx
    clear HS HH
    go_wp2
    go_roundg (gk - 1)
    case measure => omega
    case rel => exact ⟨i + 1, by omega, hs, by go_num, rfl⟩
  ·obtain rfl : i = n := by omega
   have HP := Lib.hid (yq6 l k (by rw [HN.out]; exact hi))
   have HI := Lib.hid (show yai l k = i by omega)
   have hd : decide (i < i) = false := by simp
   clear hi hpl
   go_upto_region 4 with fail
   go_quiet (fail)
   go_wp2
   go_ret2
   exact ⟨by rw [HP.out, HI.out]; rfl, _, rfl⟩
theorem yq7 : ∃ i z, Tryz.prog.info? 96 = some i ∧ i.zero = some z ∧ i.size = 2 ∧ i.bytes = 32 ∧ z.cells.size = 2 := by
 have h : (Tryz.prog.info? 96).map (fun i => (i.zero.isSome, i.size, i.bytes, (i.zero.getD undef).cells.size)) = some (true, 2, 32, 2) := by kernel_rfl
 obtain ⟨i, hi, hx⟩ := Option.map_eq_some_iff.1 h
 simp only [Prod.mk.injEq] at hx
 obtain ⟨h1, h2, h3, h4⟩ := hx
 obtain ⟨z, hz⟩ := Option.isSome_iff_exists.1 h1
 exact ⟨i, z, hi, hz, h2, h3, by rw [hz] at h4; exact h4⟩
theorem ybp {W : World} {base b0 e size n : Nat} {v : Value} {xs : List Value} (h : W.ownsRow base e size v n xs) (hb : b0 ≤ base) : W.ownsRow b0 e size v n xs := by
 refine ⟨h.1, ?_⟩
 rcases h.2 with h0 | ⟨g, cap, cur, hv, hg, r⟩
 ·exact .inl h0
 ·exact .inr ⟨g, cap, cur, hv, Nat.le_trans hb hg, r⟩
theorem ybc : ∀ (l : List Item), ∀ u ∈ yaa l, u.oneCell' = true
 | [], u, h => by cases h
 | x :: l, u, h => by
  rw [yb4] at h
  rcases List.mem_cons.1 h with rfl | h
  ·rfl
  ·rcases List.mem_cons.1 h with rfl | h
   ·rfl
   ·exact ybc l u h
theorem Row.cellsTake {W : World} {q c : Nat} {l : List Item} (h : Row W (.slice (some ⟨q, 0, none⟩) l.length c) l) (i : Nat) (hi : i ≤ l.length) :
  ∀ j u, (yaa (l.take i))[j]? = some u → W.cell? ((⟨q, 0, none⟩ : Addr).add j) = some u := by
 intro j u hj
 have hlt : j < (yaa (l.take i)).length := (List.getElem?_eq_some_iff.1 hj).1
 rw [yb8, List.length_take] at hlt
 rw [Go.WideShapes.add_plain, Nat.zero_add, h.cellAt j (by omega), ← hj, ← yhj, List.getElem?_take_of_lt (by omega)]
theorem Row.cellsDrop {W : World} {q c : Nat} {l : List Item} (h : Row W (.slice (some ⟨q, 0, none⟩) l.length c) l) (i : Nat) :
  ∀ j u, (yaa (l.drop i))[j]? = some u → W.cell? ((⟨q, i * 2, none⟩ : Addr).add j) = some u := by
 intro j u hj
 have hlt : j < (yaa (l.drop i)).length := (List.getElem?_eq_some_iff.1 hj).1
 rw [yb8, List.length_drop] at hlt
 rw [Go.WideShapes.add_plain, h.cellAt (i * 2 + j) (by omega), ← hj, ← yhk, List.getElem?_drop]
theorem yge (w : World) (k v : ByteArray) : ∀ j u, (yaa [(k, v)])[j]? = some u → (w.alloc (.cells #[.string k, .string v] 96)).cell? ((⟨w.heap.size, 0, none⟩ : Addr).add j) = some u := by
 intro j u hj
 have hlt : j < (yaa [(k, v)]).length := (List.getElem?_eq_some_iff.1 hj).1
 rw [yb8] at hlt
 rw [Go.WideShapes.add_plain, Nat.zero_add, World.cell?_alloc_new, ← hj]
 match j, hlt with
 | 0, _ => rfl
 | 1, _ => rfl
theorem RS.stored {V w2 : World} {g m c2 : Nat} {F : List Nat} {most : Int} {l l2 : List Item} {A2 : Option Addr} (hR : RS V g F most l) (h2 : Touch [] V w2)
  (ho : w2.ownsRow V.heap.size 96 2 (.slice A2 m c2) m (yaa l2)) (hm : l2.length = m) :
  ∃ F', RS (w2.setCell ⟨g, 1, none⟩ (.slice A2 m c2)) g F' most l2 ∧ ∀ q, q ∈ F' → V.heap.size ≤ q := by
 subst hm
 obtain ⟨A, c, ⟨h1, h2', h3, h4, h5⟩, h6, h7, h8⟩ := hR
 have e0 := (h2.cell (p := ⟨g, 0, none⟩) h1 (by simp)).trans h2'
 have e1 := (h2.cell (p := ⟨g, 1, none⟩) h1 (by simp)).trans h3
 have f0 := (h2.frozen (p := ⟨g, 0, none⟩) h1 (by simp)).trans h4
 have f1 := (h2.frozen (p := ⟨g, 1, none⟩) h1 (by simp)).trans h5
 have hlt := fun q hq => ho.lt q hq
 have hset : Touch [g] w2 (w2.setCell ⟨g, 1, none⟩ (.slice A2 l2.length c2)) := (Touch.refl _ _).set (.inl (by simp)) _
 refine ⟨(Value.ownBlock (.slice A2 l2.length c2)).toList, ⟨A2, c2, ⟨?_, ?_, World.cell?_setCell_same _ _ _ e1, ?_, ?_⟩, ?_, ?_, ?_⟩, ?_⟩
 ·simpa [World.setCell] using Nat.lt_of_lt_of_le h1 h2.size
 ·rw [World.cell?_setCell_other _ _ _ _ (by simp)]; exact e0
 ·rw [World.frozen?_setCell]; exact f0
 ·rw [World.frozen?_setCell]; exact f1
 ·exact hset.row (ybp ho (Nat.zero_le _)) (fun q hq => by have := (hlt q hq).1; simp; omega)
 ·intro q hq; rw [hq]; simp
 ·intro q hq
  have hq' : Value.ownBlock (.slice A2 l2.length c2) = some q := by simpa using hq
  have := hlt q hq'
  exact ⟨by simpa [World.setCell] using this.2, by omega⟩
 ·intro q hq
  exact (hlt q (by simpa using hq)).1
end Go.Proofs.YtnjodhglbapnlaaGreat
