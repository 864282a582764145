/-
  The walks of the document's own shelf: Shelves, At, Put, Del.
-/
import Derived.Test.YtfpoapmbpbkibaaItems
import Derived.Test.YtfpoapmbpbkibaaKeyWalks
import Derived.Deep.QuietTactic
import Derived.BigQuiet
import Derived.Deep.DeepCutAuto
import Derived.Deep.RegionLaw
import Derived.WideShapes
namespace Go.Proofs.Ytfpoapmbpbkibaa
open Go.RowKit

/-- the document's shelf at block g, its items in blocks of F -/
def RS (W : World) (g : Nat) (F : List Nat) (most : Int) (l : List Item) : Prop :=
  ∃ A c, (g < W.heap.size ∧ W.cell? ⟨g, 0, none⟩ = some (.int .i64 most) ∧ W.cell? ⟨g, 1, none⟩ = some (.slice A l.length c) ∧ W.frozen? ⟨g, 0, none⟩ = false ∧ W.frozen? ⟨g, 1, none⟩ = false) ∧
    Row W (.slice A l.length c) l ∧ (∀ q, Value.ownBlock (.slice A l.length c) = some q → q ∈ F) ∧ (∀ q, q ∈ F → q < W.heap.size ∧ q ≠ g)
theorem RS.touch {W W1 : World} {g : Nat} {F G : List Nat} {most : Int} {l : List Item} (h : RS W g F most l) (ht : Touch G W W1) (hg : g ∉ G) (hF : ∀ q, q ∈ F → q ∉ G) : RS W1 g F most l := by
  obtain ⟨A, c, ⟨h1, h2, h3, h4, h5⟩, h6, h7, h8⟩ := h
  exact ⟨A, c, ⟨Nat.lt_of_lt_of_le h1 ht.size, (ht.cell (p := ⟨g, 0, none⟩) h1 hg).trans h2, (ht.cell (p := ⟨g, 1, none⟩) h1 hg).trans h3, (ht.frozen (p := ⟨g, 0, none⟩) h1 hg).trans h4, (ht.frozen (p := ⟨g, 1, none⟩) h1 hg).trans h5⟩,
    ht.row h6 (fun q hq => hF q (h7 q hq)), h7, fun q hq => ⟨Nat.lt_of_lt_of_le (h8 q hq).1 ht.size, (h8 q hq).2⟩⟩
theorem Row.atBlock {W : World} {A : Option Addr} {c : Nat} {l : List Item} (h : Row W (.slice A l.length c) l) (hn : 1 ≤ l.length) : ∃ q, A = some ⟨q, 0, none⟩ := by
  rcases h.2 with ⟨_, h1⟩ | ⟨g, cap, cur, h0, _⟩
  · omega
  · injection h0 with h1 _ _
    exact ⟨g, h1⟩
theorem Row.len {W : World} {v : Value} {l : List Item} (h : Row W v l) : l.length ≤ 9223372036854775807 := by
  rcases h.2 with ⟨_, h1⟩ | ⟨g, cap, cur, h0, _, _, hc, hm, _⟩
  · omega
  · unfold maxLen at hm; omega

theorem hasN_at (l : List Item) (k : ByteArray) (i : Nat) (h : i < l.length) (e : i = placeN l k) : hasN l k = ((l[i]).1.toList == k.toList) := by
  subst e
  unfold hasN
  rw [List.getElem?_eq_getElem h]
theorem hasN_end (l : List Item) (k : ByteArray) (h : l.length ≤ placeN l k) : hasN l k = false := by
  unfold hasN
  rw [List.getElem?_eq_none h]
theorem Row.cap {W : World} {A : Option Addr} {c : Nat} {l : List Item} (h : Row W (.slice A l.length c) l) : l.length ≤ c := by
  rcases h.2 with ⟨h0, h1⟩ | ⟨g, cap, cur, h0, _, _, hc, _⟩
  · omega
  · injection h0 with _ _ h3
    omega
theorem Row.nilOr {W : World} {A : Option Addr} {c : Nat} {l : List Item} (h : Row W (.slice A l.length c) l) : (Value.slice A l.length c = .slice none 0 0 ∧ l.length = 0) ∨ ∃ q, A = some ⟨q, 0, none⟩ := by
  rcases h.2 with h0 | ⟨g, cap, cur, h0, _⟩
  · exact .inl h0
  · injection h0 with h1 _ _
    exact .inr ⟨g, h1⟩
theorem addr_off (b o : Nat) : (⟨b, 0 + o, none⟩ : Addr) = ⟨b, o, none⟩ := by rw [Nat.zero_add]

theorem infoItem : ∃ i z, Try.prog.info? 105 = some i ∧ i.zero = some z ∧ i.size = 2 ∧ i.bytes = 32 ∧ z.cells.size = 2 := by
  have h : (Try.prog.info? 105).map (fun i => (i.zero.isSome, i.size, i.bytes, (i.zero.getD undef).cells.size)) = some (true, 2, 32, 2) := by kernel_rfl
  obtain ⟨i, hi, hx⟩ := Option.map_eq_some_iff.1 h
  simp only [Prod.mk.injEq] at hx
  obtain ⟨h1, h2, h3, h4⟩ := hx
  obtain ⟨z, hz⟩ := Option.isSome_iff_exists.1 h1
  exact ⟨i, z, hi, hz, h2, h3, by rw [hz] at h4; exact h4⟩
theorem own_mono {W : World} {base b0 e size n : Nat} {v : Value} {xs : List Value} (h : W.ownsRow base e size v n xs) (hb : b0 ≤ base) : W.ownsRow b0 e size v n xs := by
  refine ⟨h.1, ?_⟩
  rcases h.2 with h0 | ⟨g, cap, cur, hv, hg, r⟩
  · exact .inl h0
  · exact .inr ⟨g, cap, cur, hv, Nat.le_trans hb hg, r⟩
theorem items_one : ∀ (l : List Item), ∀ u ∈ itemCells l, u.oneCell' = true
  | [], u, h => by cases h
  | x :: l, u, h => by
    rw [itemCells_cons] at h
    rcases List.mem_cons.1 h with rfl | h
    · rfl
    · rcases List.mem_cons.1 h with rfl | h
      · rfl
      · exact items_one l u h
theorem Row.cellsTake {W : World} {q c : Nat} {l : List Item} (h : Row W (.slice (some ⟨q, 0, none⟩) l.length c) l) (i : Nat) (hi : i ≤ l.length) :
    ∀ j u, (itemCells (l.take i))[j]? = some u → W.cell? ((⟨q, 0, none⟩ : Addr).add j) = some u := by
  intro j u hj
  have hlt : j < (itemCells (l.take i)).length := (List.getElem?_eq_some_iff.1 hj).1
  rw [itemCells_length, List.length_take] at hlt
  rw [Go.WideShapes.add_plain, Nat.zero_add, h.cellAt j (by omega), ← hj, ← itemCells_take, List.getElem?_take_of_lt (by omega)]
theorem Row.cellsDrop {W : World} {q c : Nat} {l : List Item} (h : Row W (.slice (some ⟨q, 0, none⟩) l.length c) l) (i : Nat) :
    ∀ j u, (itemCells (l.drop i))[j]? = some u → W.cell? ((⟨q, i * 2, none⟩ : Addr).add j) = some u := by
  intro j u hj
  have hlt : j < (itemCells (l.drop i)).length := (List.getElem?_eq_some_iff.1 hj).1
  rw [itemCells_length, List.length_drop] at hlt
  rw [Go.WideShapes.add_plain, h.cellAt (i * 2 + j) (by omega), ← hj, ← itemCells_drop, List.getElem?_drop]
theorem item_new (w : World) (k v : ByteArray) : ∀ j u, (itemCells [(k, v)])[j]? = some u → (w.alloc (.cells #[.string k, .string v] 105)).cell? ((⟨w.heap.size, 0, none⟩ : Addr).add j) = some u := by
  intro j u hj
  have hlt : j < (itemCells [(k, v)]).length := (List.getElem?_eq_some_iff.1 hj).1
  rw [itemCells_length] at hlt
  rw [Go.WideShapes.add_plain, Nat.zero_add, World.cell?_alloc_new, ← hj]
  match j, hlt with
  | 0, _ => rfl
  | 1, _ => rfl

/-- append onto what the call owns, as one step of a region that draws its order -/
theorem step_append_own {P : Program} {ops : Array Oper} {o : Oper} {a : Act} {w : World} {K : Act → World → Prop} {Q : Exit → Act → World → Prop} {E : Prop} (hg : o.guard = none) (s x : Operand) (t : TypeId)
    (ho : o.op = .call { callee := .builtin .append, args := #[s, x], argTypes := #[t, t] })
    (base : Nat) (e : TypeId) (i : TypeInfo) (z : Value) (size bytes : Nat) (ht : P.underlying t = some (.slice e)) (hi : P.info? e = some i) (hz : i.zero = some z)
    (hsize : i.size = size) (hby : i.bytes = bytes) (hzs : z.cells.size = size) (hsz : 0 < size)
    (v : Value) (n : Nat) (xs : List Value) (hs : a.eval s = v) (hown : w.ownsRow base e size v n xs)
    (ad : Addr) (m c : Nat) (news : List Value) (hx : a.eval x = .slice (some ad) m c) (hl : news.length = m * size) (hnews : ∀ j u, news[j]? = some u → w.cell? (ad.add j) = some u) (h1 : ∀ u ∈ news, u.oneCell' = true)
    (h63 : n + m ≤ maxLen) (hbytes : (n + m) * bytes ≤ 140737488355328) (hbase : base ≤ w.heap.size)
    (h : ∀ v' w', w'.ownsRow base e size v' (n + m) (xs ++ news) → w.grownBy w' v.ownBlock → (v' = .slice none 0 0 ↔ v = .slice none 0 0 ∧ m = 0) → K (a.put o.dst v') w') :
    if Region.wanted o (yielded ops a.tmps) = true then Oper.wp P o a w K Q else E := by
  rw [if_pos (by simp [Region.wanted, hg])]
  exact wp_append_own w s x t ho base e i z size bytes ht hi hz hsize hby hzs hsz v n xs hs hown ad m c news hx hl hnews h1 h63 hbytes hbase h

def RefDelPost (W : World) (g : Nat) (F : List Nat) (most : Int) (l : List Item) (k : ByteArray) (e : Ending) (w' : World) : Prop :=
  e = .returned (.bool (hasN l k)) ∧ Touch [g] W w' ∧ ∃ F', RS w' g F' most (delN l k) ∧ ∀ q, q ∈ F' → q ∈ F ∨ W.heap.size ≤ q

theorem RS.stored {V w2 : World} {g m c2 : Nat} {F : List Nat} {most : Int} {l l2 : List Item} {A2 : Option Addr} (hR : RS V g F most l) (h2 : Touch [] V w2)
    (ho : w2.ownsRow V.heap.size 105 2 (.slice A2 m c2) m (itemCells l2)) (hm : l2.length = m) :
    ∃ F', RS (w2.setCell ⟨g, 1, none⟩ (.slice A2 m c2)) g F' most l2 ∧ ∀ q, q ∈ F' → V.heap.size ≤ q := by
  subst hm
  obtain ⟨A, c, ⟨h1, h2', h3, h4, h5⟩, h6, h7, h8⟩ := hR
  have e0 := (h2.cell (p := ⟨g, 0, none⟩) h1 (by simp)).trans h2'
  have e1 := (h2.cell (p := ⟨g, 1, none⟩) h1 (by simp)).trans h3
  have f0 := (h2.frozen (p := ⟨g, 0, none⟩) h1 (by simp)).trans h4
  have f1 := (h2.frozen (p := ⟨g, 1, none⟩) h1 (by simp)).trans h5
  have hlt := fun q hq => ho.lt q hq
  have hset : Touch [g] w2 (w2.setCell ⟨g, 1, none⟩ (.slice A2 l2.length c2)) := (Touch.refl _ _).set (.inl (by simp)) _
  refine ⟨(Value.ownBlock (.slice A2 l2.length c2)).toList, ⟨A2, c2, ⟨?_, ?_, World.cell?_setCell_same _ _ _ e1, ?_, ?_⟩, ?_, ?_, ?_⟩, ?_⟩
  · simpa [World.setCell] using Nat.lt_of_lt_of_le h1 h2.size
  · rw [World.cell?_setCell_other _ _ _ _ (by simp)]; exact e0
  · rw [World.frozen?_setCell]; exact f0
  · rw [World.frozen?_setCell]; exact f1
  · exact hset.row (own_mono ho (Nat.zero_le _)) (fun q hq => by have := (hlt q hq).1; simp; omega)
  · intro q hq; rw [hq]; simp
  · intro q hq
    have hq' : Value.ownBlock (.slice A2 l2.length c2) = some q := by simpa using hq
    have := hlt q hq'
    exact ⟨by simpa [World.setCell] using this.2, by omega⟩
  · intro q hq
    exact (hlt q (by simpa using hq)).1
theorem refDel_end {W V w2 : World} {g p c2 m : Nat} {F : List Nat} {most : Int} {l : List Item} {k : ByteArray} {A2 : Option Addr} {xs : List Value} {T : Bool} (hh : hasN l k = true)
    (hd : delN l k = l.take p ++ l.drop (p + 1)) (hR : RS V g F most l) (hV : Touch [] W V) (h2 : Touch [] V w2)
    (ho : w2.ownsRow V.heap.size 105 2 (.slice A2 m c2) m xs) (hm : (l.take p ++ l.drop (p + 1)).length = m) (hT : T = true := by rfl) (hxs : xs = itemCells (l.take p) ++ itemCells (l.drop (p + 1)) := by rfl) :
    RefDelPost W g F most l k (.returned (.bool T)) (w2.setCell ⟨g, 1, none⟩ (.slice A2 m c2)) := by
  subst hT hxs
  rw [← itemCells_append] at ho
  obtain ⟨F', a, b⟩ := hR.stored h2 ho hm
  refine ⟨by rw [hh], ((hV.trans h2 (by simp)).mono (by simp)).set (.inl (by simp)) _, F', by rw [hd]; exact a, fun q hq => .inr (Nat.le_trans hV.size (b q hq))⟩

end Go.Proofs.Ytfpoapmbpbkibaa
