/-
  Packets without a letter, as cells; a bag of them in memory (BG), and what a call that writes to it leaves.
-/
import Derived.Test.YtfemdfidfomchaaPacks
import Derived.Test.YtfemdfidfomchaaWayKit
import Derived.Deep.MidRow
import Derived.Laws.ResultCell
namespace Go.Proofs.Ytfemdfidfomchaa
open Go.RowKit

/-- a packet: from, to, its number, how many came; no letter is in it -/
structure Pk where
  f : Int
  t : Int
  s : Int
  a : Int
abbrev Pk.cells (p : Pk) : Array Value := #[.int .i64 p.f, .int .i64 p.t, .int .i64 p.s, .int .i64 p.a, .int .i64 0, .int .i64 0, .int .i64 0, .int .i64 0, .int .i64 0, .string ⟨#[]⟩, .string ⟨#[]⟩, .string ⟨#[]⟩, .int .i64 0, .int .i64 0, .string ⟨#[]⟩, .slice none 0 0, .bool false, .string ⟨#[]⟩, .int .i64 0, .int .u64 0, .int .u64 0, .int .i64 0, .slice none 0 0, .int .i64 0, .int .i64 0]
abbrev Pk.zero : Pk := ⟨0, 0, 0, 0⟩
theorem Pk.size (p : Pk) : p.cells.size = 25 := rfl
theorem Pk.one (p : Pk) : p.cells.all (·.oneCell') = true := by simp [Pk.cells, Value.oneCell']
def pkCells (l : List Pk) : List Value := l.flatMap fun p => p.cells.toList
theorem pkCells_nil : pkCells [] = [] := rfl
theorem pkCells_cons (p : Pk) (l : List Pk) : pkCells (p :: l) = p.cells.toList ++ pkCells l := rfl
theorem pkCells_append (a b : List Pk) : pkCells (a ++ b) = pkCells a ++ pkCells b := by simp [pkCells]
theorem pkCells_one1 (p : Pk) : pkCells [p] = p.cells.toList := by simp [pkCells]
theorem pk_len (p : Pk) : p.cells.toList.length = 25 := rfl
theorem pkCells_length : ∀ l : List Pk, (pkCells l).length = l.length * 25
  | [] => rfl
  | p :: l => by rw [pkCells_cons, List.length_append, pkCells_length l, pk_len, List.length_cons]; omega
theorem pkCells_get : ∀ (l : List Pk) (i j : Nat) (h : i < l.length), j < 25 → (pkCells l)[i * 25 + j]? = (l[i]).cells[j]?
  | p :: l, 0, j, _, hj => by
    rw [Nat.zero_mul, Nat.zero_add, pkCells_cons, List.getElem?_append_left (by rw [pk_len]; exact hj), Array.getElem?_toList]; rfl
  | p :: l, i + 1, j, h, hj => by
    rw [pkCells_cons, List.getElem?_append_right (by rw [pk_len]; omega), show (i + 1) * 25 + j - p.cells.toList.length = i * 25 + j by rw [pk_len]; omega, pkCells_get l i j (by simpa using h) hj]
    rfl
theorem pkCells_take (l : List Pk) (n : Nat) : (pkCells l).take (n * 25) = pkCells (l.take n) := by
  induction l generalizing n with
  | nil => simp [pkCells]
  | cons p l ih =>
    cases n with
    | zero => rfl
    | succ n => rw [show (n + 1) * 25 = p.cells.toList.length + n * 25 by rw [pk_len]; omega, pkCells_cons, List.take_length_add_append, ih, List.take_succ_cons, pkCells_cons]
theorem pkCells_drop (l : List Pk) (n : Nat) : (pkCells l).drop (n * 25) = pkCells (l.drop n) := by
  induction l generalizing n with
  | nil => simp [pkCells]
  | cons p l ih =>
    cases n with
    | zero => rfl
    | succ n => rw [show (n + 1) * 25 = p.cells.toList.length + n * 25 by rw [pk_len]; omega, pkCells_cons, List.drop_length_add_append, ih, List.drop_succ_cons]
theorem pkCells_all (l : List Pk) : ∀ u ∈ pkCells l, u.oneCell' = true := by
  intro u hu
  obtain ⟨p, _, hp⟩ := List.mem_flatMap.1 hu
  exact Array.all_eq_true_iff_forall_mem.1 p.one u (by simpa using hp)
/-- the list without its n-th one -/
def without (l : List Pk) (n : Nat) : List Pk := l.take n ++ l.drop (n + 1)
theorem without_length {l : List Pk} {n : Nat} (h : n < l.length) : (without l n).length = l.length - 1 := by
  rw [without, List.length_append, List.length_take, List.length_drop]; omega

/-! ### Blocks -/
theorem bg_lt {W : World} {q : Nat} {o : Obj} (h : W.heap[q]? = some o) : q < W.heap.size := (Array.getElem?_eq_some_iff.1 h).1
theorem bg_cell {w : World} {b o : Nat} {cs : Array Value} {T : TypeId} {v : Value} (hb : w.heap[b]? = some (.cells cs T)) (hv : cs[o]? = some v) : w.cell? ⟨b, o, none⟩ = some v := by rw [Lib.cell_of_heap hb, hv]
theorem bg_row {w : World} {g : Nat} {old : Array Value} {T : TypeId} (cs : Array Value) (h : w.heap[g]? = some (.cells old T)) : (w.setRow g cs).heap[g]? = some (.cells cs T) := by
  simp [World.setRow, Array.getElem?_modify, h]
theorem bg_touch (w : World) (g : Nat) (cs : Array Value) : Touch [g] w (w.setRow g cs) :=
  (Touch.refl [g] w).grown (grown_setRow w g cs) (fun k hk => .inl (by simp [Option.some.inj hk]))
theorem bg_below {w : World} {g B : Nat} (cs : Array Value) (h : B ≤ g) : Below B w (w.setRow g cs) := by
  have t := bg_touch w g cs
  exact ⟨t.os, t.tape, t.output, t.size, fun k hk => by
    simp only [World.setRow]
    rw [Array.getElem?_modify]
    split
    · omega
    · rfl⟩
/-- a new block that was filled at once -/
theorem bg_new (w : World) (old cs : Array Value) (T : TypeId) : Below w.heap.size w ((w.alloc (.cells old T)).setRow w.heap.size cs) := ((Below.refl _ _).alloc (Nat.le_refl _) _).trans (bg_below _ (Nat.le_refl _))
theorem bg_infoP : (Try.prog.info? 53).map (·.size) = some 25 := by kernel_rfl
theorem bg_loadVar (w : World) (b : Nat) (cs : Array Value) (hs : cs.size = 25) (hb : w.heap[b]? = some (.cells cs 53)) : (loadVar 53 ⟨b, 0, none⟩).run Try.prog w = .ok (.agg cs) w :=
  run_loadVar_row w b 53 53 cs (0, 0) _ hb Try.underlying53 rfl (bg_infoP.trans (congrArg some hs.symm))
theorem bg_results {fn : Func} {p u : Tmp} {ty : TypeId} (h : fn.results = #[.cell p ty, .tmp u]) (tmps : Array Value) (w : World) (g : Nat) (cs : Array Value) (x : Value) (hp : tmps.getD p undef = .pointer (some ⟨g, 0, none⟩)) (hx : tmps.getD u undef = x)
    (hl : (loadVar ty ⟨g, 0, none⟩).run Try.prog w = .ok (.agg cs) w) : (results fn tmps).run Try.prog w = .ok (.tuple #[.agg cs, x]) w := by
  rw [results_cell_tmp h, hp, hx]
  simp only [asAddr, Sem.run_pure, Result.andThen_ok, hl]
theorem bg_result1 {fn : Func} {p : Tmp} (h : fn.results = #[.cell p 53]) (tmps : Array Value) (w : World) (g : Nat) (cs : Array Value) (hs : cs.size = 25) (hp : tmps.getD p undef = .pointer (some ⟨g, 0, none⟩)) (hb : w.heap[g]? = some (.cells cs 53)) :
    (results fn tmps).run Try.prog w = .ok (.agg cs) w :=
  results_cell_row h tmps w g 53 cs (0, 0) _ hp hb Try.underlying53 rfl (bg_infoP.trans (congrArg some hs.symm))
theorem bg_loadG {P : Program} {ops : Array Oper} {rest : List Oper} {o : Oper} {a : Act} {w : World} {Q : Exit → Act → World → Prop} (hw : Region.wanted o (yielded ops a.tmps) = true) (ty : TypeId) (x : Operand) (ho : o.op = .load ty x)
    (g : Nat) (hx : a.eval x = .pointer (some ⟨g, 0, none⟩)) (t : TypeId) (cs : Array Value) (fr : Nat × Nat) (d : TypeDesc) (hg : w.heap[g]? = some (.cells cs t fr))
    (hu : P.underlying ty = some d) (hd : (match d with | .struct _ | .array _ _ => true | _ => false) = true) (hi : (P.info? ty).map (·.size) = some cs.size)
    (h : wpList P ops Q rest (a.put o.dst (.agg cs)) w) : wpList P ops Q (o :: rest) a w := by
  unfold wpList
  rw [if_pos hw]
  exact .inl (wp_load_row ty x ho g hx t cs fr d hg hu hd hi h)

/-! ### A bag -/
/-- the bag at block g: room for m, the packets ps; F: its blocks -/
def BG (W : World) (g m : Nat) (ps : List Pk) (F : List Nat) : Prop :=
  ∃ A c, F = g :: (Value.slice A ps.length c).ownBlock.toList ∧ g ∉ (Value.slice A ps.length c).ownBlock.toList ∧ Var W g (.slice A ps.length c) ∧ W.cell? ⟨g, 1, none⟩ = some (.int .i64 (m : Nat)) ∧
    W.ownsRow 0 53 25 (.slice A ps.length c) ps.length (pkCells ps) ∧ ps.length ≤ m ∧ m ≤ 2000
theorem BG.ltF {W : World} {g m : Nat} {ps : List Pk} {F : List Nat} (h : BG W g m ps F) : ∀ q ∈ F, q < W.heap.size := by
  obtain ⟨A, c, rfl, _, v, _, r, _⟩ := h
  intro q hq
  rcases List.mem_cons.1 hq with rfl | z
  · exact v.lt
  · exact (r.lt q (by simpa using z)).2
theorem BG.mem {W : World} {g m : Nat} {ps : List Pk} {F : List Nat} (h : BG W g m ps F) : g ∈ F := by
  obtain ⟨A, c, rfl, _⟩ := h
  simp
theorem BG.room {W : World} {g m : Nat} {ps : List Pk} {F : List Nat} (h : BG W g m ps F) : ps.length ≤ m ∧ m ≤ 2000 := by
  obtain ⟨A, c, rfl, _, v, _, r, h⟩ := h
  exact h
theorem BG.touch {W W1 : World} {g m : Nat} {ps : List Pk} {F G : List Nat} (h : BG W g m ps F) (t : Touch G W W1) (hn : ∀ q ∈ F, q ∉ G) : BG W1 g m ps F := by
  obtain ⟨A, c, rfl, h1, v, k, r, h2⟩ := h
  exact ⟨A, c, rfl, h1, v.touch t (hn g (by simp)), (t.cell v.lt (hn g (by simp))).trans k, t.row r (fun q hq => hn q (by simp [hq])), h2⟩
theorem BG.below {W W1 : World} {g m : Nat} {ps : List Pk} {F : List Nat} (h : BG W g m ps F) (t : Below W.heap.size W W1) : BG W1 g m ps F := h.touch (Touch.ofBelow (F := []) t) (by simp)
/-- what a call that writes to a bag leaves -/
def BStep (w w1 : World) (F : List Nat) (g m : Nat) (ps : List Pk) : Prop := Touch F w w1 ∧ ∃ F', BG w1 g m ps F' ∧ ∀ q ∈ F', q ∈ F ∨ w.heap.size ≤ q
end Go.Proofs.Ytfemdfidfomchaa
