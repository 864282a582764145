/-
  A map[int]bool that the call itself has made, all whose values are true: its answers, its length, a key put in, a key struck.
-/
import Derived.Test.YtinkkdhlakfooaaItems
import Derived.Maps.OwnOps
import Derived.Maps.OwnSet
import Derived.Maps.Views
namespace Go.Proofs.Ytinkkdhlakfooaa
open Go.RowKit
open Go.Maps (Keyed)

theorem intKeys : Keyed Try.prog 3 := Go.Maps.int_keyed Try.underlying3
theorem zeroBool (w : World) : (zeroValue 4).run Try.prog w = .ok (.bool false) w := by
  go_simp
theorem plainElem_bool_inv {H : Type} {P : Program} {e : TypeId} (he : P.underlying e = some .bool) {v : Value} {z : DataW H × List MemPlace} (h : plainElem P e v = some z) : ∃ x, v = .bool x ∧ z = (.lit (.bool x), []) := by
  unfold plainElem at h
  rw [he] at h
  cases v <;> simp at h
  exact ⟨_, rfl, h.symm⟩
def keyLit (k : Nat) : Lit := .int .i64 (k : Int)
theorem keyLit_ne {j k : Nat} (h : j ≠ k) : keyLit j ≠ keyLit k := by
  intro e
  simp only [keyLit, Lit.int.injEq, true_and] at e
  exact h (Int.ofNat.inj e)
theorem keyOfNat (k : Nat) (h : k < 1000000) : keyOf Try.prog 3 (.int .i64 (k : Int)) = some (keyLit k) :=
  Go.Maps.keyOf_int_mk Try.underlying3 (by simp [Lit.wf, IntKind.min, IntKind.max, IntKind.signed, IntKind.bits]; omega)
/-- block b of W is a map[int]bool of at most n entries, all true: f says which keys are in it, m how many -/
def MB (W : World) (b n : Nat) (f : Nat → Bool) (m : Nat) : Prop :=
  ∃ D : DataW Unit, W.ownsMap Try.prog 3 (plainElem Try.prog 4) b n D ∧ (∀ k, D.atKey (keyLit k) (.lit (.bool false)) = .lit (.bool (f k))) ∧ (∀ k, Go.Maps.has D (keyLit k) = f k) ∧ Go.Maps.size D = m
theorem MB.made (W : World) : MB (W.alloc (.map #[] 0)) W.heap.size 0 (fun _ => false) 0 :=
  ⟨_, World.ownsMap_made W _ _ _, fun _ => rfl, fun _ => rfl, rfl⟩
theorem MB.lt {W : World} {b n m : Nat} {f : Nat → Bool} (h : MB W b n f m) : b < W.heap.size := by
  obtain ⟨D, h1, _⟩ := h
  exact h1.lt
theorem MB.touch {W W1 : World} {b n m : Nat} {f : Nat → Bool} {G : List Nat} (h : MB W b n f m) (ht : Touch G W W1) (hb : b ∉ G) : MB W1 b n f m := by
  have hl := h.lt
  obtain ⟨D, ⟨es, clock, h1, h2, h3, h4⟩, r⟩ := h
  exact ⟨D, ⟨es, clock, (ht.block b hl hb).trans h1, h2, h3, h4⟩, r⟩
theorem MB.len {W : World} {b n m : Nat} {f : Nat → Bool} (h : MB W b n f m) (ty : TypeId) : (Builtin.len_ #[59] ty #[.map (some b)]).run Try.prog W = .ok (.int .i64 (m : Nat)) W := by
  obtain ⟨D, h1, _, _, h4⟩ := h
  rw [h1.len Try.underlying59 ty, h4]
theorem MB.look {W : World} {b n m : Nat} {f : Nat → Bool} (h : MB W b n f m) (k : Nat) (hk : k < 1000000) : (Instr.lookup 59 (.map (some b)) (.int .i64 (k : Int)) false).run Try.prog W = .ok (.bool (f k)) W := by
  obtain ⟨D, h1, h2, _, _⟩ := h
  obtain ⟨v, ps, hrun, hv⟩ := h1.lookup intKeys Try.underlying59 (zeroBool W) (plainElem_bool Try.underlying4 false) (keyOfNat k hk)
  rw [h2] at hv
  rw [hrun]
  obtain ⟨x, rfl, hx⟩ := plainElem_bool_inv Try.underlying4 hv
  simp only [Prod.mk.injEq, DataW.lit.injEq, Lit.bool.injEq] at hx
  rw [hx.1]
theorem MB.put {W W1 : World} {b n m : Nat} {f : Nat → Bool} {D : DataW Unit} (h1 : W.ownsMap Try.prog 3 (plainElem Try.prog 4) b n D) (h2 : ∀ k, D.atKey (keyLit k) (.lit (.bool false)) = .lit (.bool (f k))) (h3 : ∀ k, Go.Maps.has D (keyLit k) = f k) (h4 : Go.Maps.size D = m)
    (k : Nat) (ho : W1.ownsMap Try.prog 3 (plainElem Try.prog 4) b (n + 1) (D.put (keyLit k) (.lit (.bool true)))) : MB W1 b (n + 1) (fun j => j == k || f j) (if f k then m else m + 1) := by
  have ht := h1.tidy intKeys
  refine ⟨_, ho, fun j => ?_, fun j => ?_, ?_⟩
  · by_cases e : j = k
    · subst e
      rw [Go.Maps.atKey_put_same ht.isMap (show Go.WideAt.IsKeyLit (keyLit _) from trivial)]
      simp
    · rw [Go.Maps.atKey_put_other (keyLit_ne e), h2]
      simp [e]
  · by_cases e : j = k
    · subst e
      rw [Go.Maps.has_put_same ht.isMap (show Go.WideAt.IsKeyLit (keyLit _) from trivial)]
      simp
    · rw [Go.Maps.has_put_other (keyLit_ne e), h3]
      simp [e]
  · rw [Go.Maps.size_put ht, h3, h4]
theorem MB.del {W W1 : World} {b n m : Nat} {f : Nat → Bool} {D : DataW Unit} (h1 : W.ownsMap Try.prog 3 (plainElem Try.prog 4) b n D) (h2 : ∀ k, D.atKey (keyLit k) (.lit (.bool false)) = .lit (.bool (f k))) (h3 : ∀ k, Go.Maps.has D (keyLit k) = f k) (h4 : Go.Maps.size D = m)
    (k : Nat) (ho : W1.ownsMap Try.prog 3 (plainElem Try.prog 4) b n (D.del (keyLit k))) : MB W1 b n (fun j => !(j == k) && f j) (if f k then m - 1 else m) := by
  have ht := h1.tidy intKeys
  refine ⟨_, ho, fun j => ?_, fun j => ?_, ?_⟩
  · by_cases e : j = k
    · subst e
      rw [Go.Maps.atKey_del_same]
      simp
    · rw [Go.Maps.atKey_del_other (keyLit_ne e), h2]
      simp [e]
  · by_cases e : j = k
    · subst e
      rw [Go.Maps.has_del_same]
      simp
    · rw [Go.Maps.has_del_other (keyLit_ne e), h3]
      simp [e]
  · have z := Go.Maps.size_del ht (k := keyLit k)
    rw [h3, h4] at z
    cases hf : f k <;> rw [hf] at z <;> simp at z ⊢ <;> omega
/-- at the operation: had[k] -/
theorem wpList_lookup_mb (w : World) {ops : Array Oper} {rest : List Oper} {o : Oper} {a : Act} {Q : Exit → Act → World → Prop}
    (hg : o.guard = none) (m x : Operand) (hop : o.op = Op.lookup 59 m x false) (b n c : Nat) (f : Nat → Bool) (hm : a.eval m = .map (some b)) (hown : MB w b n f c) (k : Nat) (hx : a.eval x = .int .i64 (k : Int)) (hk : k < 1000000)
    (hK : wpList Try.prog ops Q rest (a.put o.dst (.bool (f k))) w) : wpList Try.prog ops Q (o :: rest) a w := by
  refine wpList_plain hg fun K' hK' => ?_
  unfold Oper.wp
  simp [execOp, hop, hm, hx, hown.look k hk, Result.andThen]
  exact hK' _ _ hK
/-- at the operation: had[k] = true -/
theorem wpList_mapUpdate_mb (w : World) {ops : Array Oper} {rest : List Oper} {o : Oper} {a : Act} {Q : Exit → Act → World → Prop}
    (hg : o.guard = none) (m x v : Operand) (hop : o.op = Op.mapUpdate 59 m x v) (b n c : Nat) (f : Nat → Bool) (hm : a.eval m = .map (some b)) (hown : MB w b n f c) (hn : n < 1000000) (k : Nat) (hx : a.eval x = .int .i64 (k : Int)) (hk : k < 1000000) (hv : a.eval v = .bool true)
    (hK : ∀ w', MB w' b (n + 1) (fun j => j == k || f j) (if f k then c else c + 1) → Touch [b] w w' → wpList Try.prog ops Q rest (a.put o.dst undef) w') : wpList Try.prog ops Q (o :: rest) a w := by
  obtain ⟨D, h1, h2, h3, h4⟩ := hown
  refine wpList_mapUpdate_own w hg m x v _ hop _ _ intKeys Try.underlying59 _ b n D hm h1 (by unfold maxLen; omega) _ _ (keyLit k) hx hv (keyOfNat k hk) (.lit (.bool true)) [] (plainElem_bool Try.underlying4 true) (fun w' ho hg' => ?_)
  exact hK w' (MB.put h1 h2 h3 h4 k ho) ⟨hg'.os, hg'.tape, hg'.output, hg'.size, fun i hi hn => hg'.block i hi (fun e => hn (by injection e with e; simp [e]))⟩
/-- at the operation: delete(had, k) -/
theorem wpList_delete_mb (w : World) {ops : Array Oper} {rest : List Oper} {o : Oper} {a : Act} {Q : Exit → Act → World → Prop}
    (hg : o.guard = none) (m x : Operand) (hop : o.op = Op.call { callee := Callee.builtin Builtin.delete, args := #[m, x], argTypes := #[59, 3] }) (b n c : Nat) (f : Nat → Bool) (hm : a.eval m = .map (some b)) (hown : MB w b n f c) (k : Nat) (hx : a.eval x = .int .i64 (k : Int)) (hk : k < 1000000)
    (hK : ∀ w', MB w' b n (fun j => !(j == k) && f j) (if f k then c - 1 else c) → Touch [b] w w' → wpList Try.prog ops Q rest (a.put o.dst (.tuple #[])) w') : wpList Try.prog ops Q (o :: rest) a w := by
  obtain ⟨D, h1, h2, h3, h4⟩ := hown
  refine wpList_delete_own w hg m x _ _ hop _ intKeys Try.underlying59 _ b n D hm h1 _ (keyLit k) hx (keyOfNat k hk) (fun w' ho ht => ?_)
  have hg' := ht.grown
  exact hK w' (MB.del h1 h2 h3 h4 k ho) ⟨hg'.os, hg'.tape, hg'.output, hg'.size, fun i hi hn => hg'.block i hi (fun e => hn (by injection e with e; simp [e]))⟩
/-- at the operation: len(had) -/
theorem wpList_len_mb (w : World) {ops : Array Oper} {rest : List Oper} {o : Oper} {a : Act} {Q : Exit → Act → World → Prop}
    (hg : o.guard = none) (m : Operand) (hop : o.op = Op.call { callee := Callee.builtin Builtin.len, args := #[m], argTypes := #[59] }) (b n c : Nat) (f : Nat → Bool) (hm : a.eval m = .map (some b)) (hown : MB w b n f c)
    (hK : wpList Try.prog ops Q rest (a.put o.dst (.int .i64 (c : Nat))) w) : wpList Try.prog ops Q (o :: rest) a w := by
  refine wpList_plain hg fun K' hK' => ?_
  unfold Oper.wp
  simp [execOp, hop, resolve, invoke, builtin, hm, hown.len o.type, Result.andThen]
  exact hK' _ _ hK
end Go.Proofs.Ytinkkdhlakfooaa
