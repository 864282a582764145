/-
  A map[string]string that the call itself has made: its answers, its length, a key put in, a key struck.
-/
import Derived.Test.YthgndgoljchnfaaGreatHg03
import Derived.Maps.OwnOps
import Derived.Maps.OwnSet
import Derived.Maps.Views
import Derived.Maps.StringElems
import Derived.StringKeys
namespace Go.Proofs.YthgndgoljchnfaaGreat
open Go.RowKit
open Go.Maps (Keyed)

theorem strKeys : Keyed Tryz.prog 9 := Go.Maps.string_keyed Tryz.underlying9
theorem zeroStr (w : World) : (zeroValue 9).run Tryz.prog w = .ok (.string ⟨#[]⟩) w := by
  go_simp
def keyS (k : ByteArray) : Lit := .string k.data.toList
theorem keyS_inj {j k : ByteArray} (h : j.data.toList = k.data.toList) : j = k := by
  obtain ⟨⟨j⟩⟩ := j
  obtain ⟨⟨k⟩⟩ := k
  simp at h
  rw [h]
theorem keyS_ne {j k : ByteArray} (h : j ≠ k) : keyS j ≠ keyS k := by
  intro e
  simp only [keyS, Lit.string.injEq] at e
  exact h (keyS_inj e)
theorem keyOfStr (k : ByteArray) (h : k.size ≤ maxLen) : keyOf Tryz.prog 9 (.string k) = some (keyS k) := Go.WideMaps.keyOf_string_mk Tryz.underlying9 h
abbrev litS (v : ByteArray) : DataW Unit := .lit (.string v.data.toList)
/-- block b of W is a map[string]string of at most n entries: f says what is under a key, m how many there are -/
def MS (W : World) (b n : Nat) (f : ByteArray → Option ByteArray) (m : Nat) : Prop :=
  ∃ D : DataW Unit, W.ownsMap Tryz.prog 9 (plainElem Tryz.prog 9) b n D ∧ (∀ k, D.atKey (keyS k) (litS ⟨#[]⟩) = litS ((f k).getD ⟨#[]⟩)) ∧ (∀ k, Go.Maps.has D (keyS k) = (f k).isSome) ∧ Go.Maps.size D = m
theorem MS.made (W : World) : MS (W.alloc (.map #[] 0)) W.heap.size 0 (fun _ => none) 0 :=
  ⟨_, World.ownsMap_made W _ _ _, fun _ => rfl, fun _ => rfl, rfl⟩
section
variable {W W1 : World} {b n m : Nat} {f : ByteArray → Option ByteArray}
theorem MS.lt (h : MS W b n f m) : b < W.heap.size := by
  obtain ⟨D, h1, _⟩ := h
  exact h1.lt
theorem MS.touch {G : List Nat} (h : MS W b n f m) (ht : Touch G W W1) (hb : b ∉ G) : MS W1 b n f m := by
  have hl := h.lt
  obtain ⟨D, ⟨es, clock, h1, h2, h3, h4⟩, r⟩ := h
  exact ⟨D, ⟨es, clock, (ht.block b hl hb).trans h1, h2, h3, h4⟩, r⟩
theorem MS.len (h : MS W b n f m) (ty : TypeId) : (Builtin.len_ #[63] ty #[.map (some b)]).run Tryz.prog W = .ok (.int .i64 (m : Nat)) W := by
  obtain ⟨D, h1, _, _, h4⟩ := h
  rw [h1.len Tryz.underlying63 ty, h4]
theorem MS.look (h : MS W b n f m) (k : ByteArray) (hk : k.size ≤ maxLen) : (Instr.lookup 63 (.map (some b)) (.string k) true).run Tryz.prog W = .ok (.tuple #[.string ((f k).getD ⟨#[]⟩), .bool (f k).isSome]) W := by
  obtain ⟨D, h1, h2, h3, _⟩ := h
  obtain ⟨v, ps, hrun, hv⟩ := h1.look_ok strKeys Tryz.underlying63 (zeroStr W) (plainElem_string Tryz.underlying9 (s := ⟨#[]⟩) (Nat.zero_le _)) (keyOfStr k hk)
  have h2 := h2 k
  unfold litS at h2
  rw [h2] at hv
  rw [hrun, h3]
  obtain ⟨x, rfl, hx, -⟩ := Go.plainElem_string_inv Tryz.underlying9 hv
  simp only [Prod.mk.injEq, DataW.lit.injEq, Lit.string.injEq] at hx
  rw [keyS_inj hx.1]
theorem MS.put {D : DataW Unit} (h1 : W.ownsMap Tryz.prog 9 (plainElem Tryz.prog 9) b n D) (h2 : ∀ k, D.atKey (keyS k) (litS ⟨#[]⟩) = litS ((f k).getD ⟨#[]⟩)) (h3 : ∀ k, Go.Maps.has D (keyS k) = (f k).isSome) (h4 : Go.Maps.size D = m)
    (k v : ByteArray) (ho : W1.ownsMap Tryz.prog 9 (plainElem Tryz.prog 9) b (n + 1) (D.put (keyS k) (litS v))) : MS W1 b (n + 1) (fun j => if j = k then some v else f j) (if (f k).isSome then m else m + 1) := by
  have ht := h1.tidy strKeys
  refine ⟨_, ho, fun j => ?_, fun j => ?_, ?_⟩
  · by_cases e : j = k
    · subst e
      rw [Go.Maps.atKey_put_same ht.isMap (show Go.WideAt.IsKeyLit (keyS _) from trivial)]
      simp
    · rw [Go.Maps.atKey_put_other (keyS_ne e), h2]
      simp [e]
  · by_cases e : j = k
    · subst e
      rw [Go.Maps.has_put_same ht.isMap (show Go.WideAt.IsKeyLit (keyS _) from trivial)]
      simp
    · rw [Go.Maps.has_put_other (keyS_ne e), h3]
      simp [e]
  · rw [Go.Maps.size_put ht, h3, h4]
theorem MS.del {D : DataW Unit} (h1 : W.ownsMap Tryz.prog 9 (plainElem Tryz.prog 9) b n D) (h2 : ∀ k, D.atKey (keyS k) (litS ⟨#[]⟩) = litS ((f k).getD ⟨#[]⟩)) (h3 : ∀ k, Go.Maps.has D (keyS k) = (f k).isSome) (h4 : Go.Maps.size D = m)
    (k : ByteArray) (ho : W1.ownsMap Tryz.prog 9 (plainElem Tryz.prog 9) b n (D.del (keyS k))) : MS W1 b n (fun j => if j = k then none else f j) (if (f k).isSome then m - 1 else m) := by
  have ht := h1.tidy strKeys
  refine ⟨_, ho, fun j => ?_, fun j => ?_, ?_⟩
  · by_cases e : j = k
    · subst e
      rw [Go.Maps.atKey_del_same]
      simp
    · rw [Go.Maps.atKey_del_other (keyS_ne e), h2]
      simp [e]
  · by_cases e : j = k
    · subst e
      rw [Go.Maps.has_del_same]
      simp
    · rw [Go.Maps.has_del_other (keyS_ne e), h3]
      simp [e]
  · have z := Go.Maps.size_del ht (k := keyS k)
    rw [h3, h4] at z
    cases hf : (f k).isSome <;> rw [hf] at z <;> simp at z ⊢ <;> omega
end
/-- at the operation: had[k] = v -/
theorem wpList_mapUpdate_ms (w : World) {ops : Array Oper} {rest : List Oper} {o : Oper} {a : Act} {Q : Exit → Act → World → Prop}
    (hg : o.guard = none) (m x v : Operand) (hop : o.op = Op.mapUpdate 63 m x v) (b n c : Nat) (f : ByteArray → Option ByteArray) (hm : a.eval m = .map (some b)) (hown : MS w b n f c) (hn : n < 1000000) (k u : ByteArray) (hx : a.eval x = .string k) (hk : k.size ≤ maxLen) (hv : a.eval v = .string u) (hu : u.size ≤ maxLen)
    (hK : ∀ w', MS w' b (n + 1) (fun j => if j = k then some u else f j) (if (f k).isSome then c else c + 1) → Touch [b] w w' → wpList Tryz.prog ops Q rest (a.put o.dst undef) w') : wpList Tryz.prog ops Q (o :: rest) a w := by
  obtain ⟨D, h1, h2, h3, h4⟩ := hown
  refine wpList_mapUpdate_own w hg m x v _ hop _ _ strKeys Tryz.underlying63 _ b n D hm h1 (by unfold maxLen; omega) _ _ (keyS k) hx hv (keyOfStr k hk) (litS u) [] (plainElem_string Tryz.underlying9 hu) (fun w' ho hg' => ?_)
  exact hK w' (MS.put h1 h2 h3 h4 k u ho) ⟨hg'.os, hg'.tape, hg'.output, hg'.size, fun i hi hn => hg'.block i hi (fun e => hn (by injection e with e; simp [e]))⟩
/-- at the operation: delete(had, k) -/
theorem wpList_delete_ms (w : World) {ops : Array Oper} {rest : List Oper} {o : Oper} {a : Act} {Q : Exit → Act → World → Prop}
    (hg : o.guard = none) (m x : Operand) (hop : o.op = Op.call { callee := Callee.builtin Builtin.delete, args := #[m, x], argTypes := #[63, 9] }) (b n c : Nat) (f : ByteArray → Option ByteArray) (hm : a.eval m = .map (some b)) (hown : MS w b n f c) (k : ByteArray) (hx : a.eval x = .string k) (hk : k.size ≤ maxLen)
    (hK : ∀ w', MS w' b n (fun j => if j = k then none else f j) (if (f k).isSome then c - 1 else c) → Touch [b] w w' → wpList Tryz.prog ops Q rest (a.put o.dst (.tuple #[])) w') : wpList Tryz.prog ops Q (o :: rest) a w := by
  obtain ⟨D, h1, h2, h3, h4⟩ := hown
  refine wpList_delete_own w hg m x _ _ hop _ strKeys Tryz.underlying63 _ b n D hm h1 _ (keyS k) hx (keyOfStr k hk) (fun w' ho ht => ?_)
  have hg' := ht.grown
  exact hK w' (MS.del h1 h2 h3 h4 k ho) ⟨hg'.os, hg'.tape, hg'.output, hg'.size, fun i hi hn => hg'.block i hi (fun e => hn (by injection e with e; simp [e]))⟩
end Go.Proofs.YthgndgoljchnfaaGreat
