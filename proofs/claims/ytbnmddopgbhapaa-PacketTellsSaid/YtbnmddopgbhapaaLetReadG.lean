/-
  A packet's fields, read one behind the other: the step, for every field but the letter; and reading on from a field.
-/
import Derived.Test.YtbnmddopgbhapaaLetLawD
namespace Go.Proofs.Ytbnmddopgbhapaa
open Go.RowKit

theorem rdSt_step {W w : World} {b g : Nat} {T : TypeId} {n0 : Nat} {LF : List (FK × Nat)} {j : Nat} {s : ByteArray} {cs : Array Value} {xs : List FV} {vs : List Value} {r : ByteArray} (h : RdSt W w b g T n0 LF j s cs xs vs r) (hj' : j < LF.length)
    (hne : b ≠ g) (hs : s.size ≤ 9223372036854775807) (hbl : b < W.heap.size) (hgl : g < W.heap.size) (hoff : ∀ i i' (h : i < LF.length) (h' : i' < LF.length), i ≠ i' → (LF[i]).2 ≠ (LF[i']).2) :
    GetsTo w g (fieldV b (LF[j])) (fun w' => (∃ cs xs vs r, RdSt W w' b g T n0 LF (j + 1) s cs xs vs r) ∧ Touch [b, g] w w') (fun w' => getF ((LF.take (j + 1)).map (·.1)) s = none ∧ Touch [b, g] W w' ∧ ∃ o, RdO w' g o) := by
  obtain ⟨U, x, i, hf, hm1, hm2, hm3, hcall⟩ := getOk_all (LF[j]).1 b (LF[j]).2 g cs T r w h.blk (h.todo j hj' (Nat.le_refl _)) h.rd hne (Nat.le_trans h.left hs)
  refine ⟨U, x, i, hf, hm1, hm2, hm3, hcall.mono fun e w' hp => ?_⟩
  obtain ⟨ok, o', he, hr, ht, hc⟩ := hp
  have htk : (LF.take (j + 1)).map (·.1) = (LF.take j).map (·.1) ++ [(LF[j]).1] := by
    rw [List.take_add_one, List.getElem?_eq_getElem hj', List.map_append]; rfl
  have htW : Touch [b, g] W w' := h.touch.trans ht (fun x hx => .inl hx)
  refine ⟨ok, o', he, hr, fun hok1 hsome => ?_, fun hbad => ?_⟩
  · rcases hc with ⟨x1, r1, v1, g1, g2, g3, g4, g5⟩ | ⟨g1, g2, v1, g4, g5⟩
    · subst g3
      have hxl : xs.length = j := by have := getF_len _ _ _ _ h.got; rw [this, List.length_map, List.length_take]; omega
      refine ⟨⟨cs.setIfInBounds (LF[j]).2 v1, xs ++ [x1], vs ++ [v1], r1, ?_⟩, ht⟩
      refine ⟨g4, by rw [Array.size_setIfInBounds]; exact h.size, hr, Nat.le_trans (getK_size g1) h.left, htW, ?_, by rw [List.length_append, h.lens]; rfl, ?_, ?_, ?_⟩
      · rw [htk, getF_snoc, h.got]
        simp only
        rw [g1]; rfl
      · intro i hi h2 h3
        rcases Nat.lt_or_ge i j with hij | hij
        · have a1 : i < vs.length := by rw [h.lens]; exact hij
          have a2 : i < xs.length := by rw [hxl]; exact hij
          rw [List.getElem_append_left a1, List.getElem_append_left a2]
          obtain ⟨d1, d2⟩ := h.done i hi a1 a2
          exact ⟨(set_ne v1 (hoff j i hj' hi (by omega))).trans d1, d2.touch ht hbl hgl⟩
        · obtain rfl : i = j := by rw [List.length_append, h.lens] at h2; simp at h2; omega
          have a1 : (vs ++ [v1])[i] = v1 := by simp [List.getElem_append_right, h.lens]
          have a2 : (xs ++ [x1])[i] = x1 := by simp [List.getElem_append_right, hxl]
          rw [a1, a2]
          exact ⟨set_at v1 (h.todo i hj' (Nat.le_refl _)), g5.mono h.touch.size⟩
      · intro i hi hji
        exact (set_ne v1 (hoff j i hj' hi (by omega))).trans (h.todo i hi (by omega))
      · have hold : ∀ i (hi : i < vs.length) q, (vs[i]).ownBlock = some q → q < w.heap.size := fun i hi q hq => (h.done i (by rw [h.lens] at hi; omega) hi (by rw [hxl, ← h.lens]; exact hi)).2.lt q hq
        intro i i' h1 h2 hii q hq hq'
        rw [List.length_append, h.lens] at h1 h2
        simp at h1 h2
        rcases Nat.lt_or_ge i j with hij | hij <;> rcases Nat.lt_or_ge i' j with hij' | hij'
        · rw [List.getElem_append_left (by rw [h.lens]; exact hij)] at hq
          rw [List.getElem_append_left (by rw [h.lens]; exact hij')] at hq'
          exact h.apart i i' _ _ hii q hq hq'
        · obtain rfl : i' = j := by omega
          rw [List.getElem_append_left (by rw [h.lens]; exact hij)] at hq
          have a1 : (vs ++ [v1])[i']'(by simp [h.lens]) = v1 := by simp [List.getElem_append_right, h.lens]
          rw [a1] at hq'
          have := g5.new q hq'
          have := hold i _ q hq
          omega
        · obtain rfl : i = j := by omega
          rw [List.getElem_append_left (by rw [h.lens]; exact hij')] at hq'
          have a1 : (vs ++ [v1])[i]'(by simp [h.lens]) = v1 := by simp [List.getElem_append_right, h.lens]
          rw [a1] at hq
          have := g5.new q hq
          have := hold i' _ q hq'
          omega
        · omega
    · subst hok1
      rw [Bool.true_and] at g2
      rw [hsome] at g2
      cases g2
  · rcases hc with ⟨x1, r1, v1, g1, g2, g3, g4, g5⟩ | ⟨g1, g2, v1, g4, g5⟩
    · subst g2 g3
      cases hbad
    · refine ⟨?_, htW, o', hr⟩
      rw [htk, getF_snoc, h.got]
      simp only
      rw [g1]; rfl
/-- reading on, from field j on -/
theorem readOn_any {W w : World} {b g : Nat} {T : TypeId} {n0 : Nat} {LF : List (FK × Nat)} {j n : Nat} {s : ByteArray} {cs : Array Value} {xs : List FV} {vs : List Value} {r : ByteArray} (h : RdSt W w b g T n0 LF j s cs xs vs r) (hjn : LF.length = j + n) (hn : n ≤ 1000)
    (hne : b ≠ g) (hs : s.size ≤ 9223372036854775807) (hbl : b < W.heap.size) (hgl : g < W.heap.size) (hoff : ∀ i i' (h : i < LF.length) (h' : i' < LF.length), i ≠ i' → (LF[i]).2 ≠ (LF[i']).2)
    (A : Option Addr) (c : Nat) (hA : FieldsAt w A ((LF.drop j).map (fieldV b))) (hAb : ∀ q o, A = some ⟨q, o, none⟩ → q ≠ b ∧ q ≠ g) :
    Calls Try.prog 48 #[.pointer (some ⟨g, 0, none⟩), .slice A n c] w
      (ReadPost (fun w' => ∃ cs xs vs r, RdSt W w' b g T n0 LF LF.length s cs xs vs r) (fun w' => getF (LF.map (·.1)) s = none ∧ Touch [b, g] W w' ∧ ∃ o, RdO w' g o)) := by
  have hlen : ((LF.drop j).map (fieldV b)).length = n := by rw [List.length_map, List.length_drop]; omega
  have key := read_any g A c ((LF.drop j).map (fieldV b)) (fun k w' => (∃ cs xs vs r, RdSt W w' b g T n0 LF (j + k) s cs xs vs r) ∧ Touch [b, g] w w') (fun w' => getF (LF.map (·.1)) s = none ∧ Touch [b, g] W w' ∧ ∃ o, RdO w' g o) w (by rw [hlen]; exact hn) ?_ ?_ ?_
  · rw [hlen] at key
    refine key.mono fun e w' hp => ?_
    rcases hp with ⟨he, h1, _⟩ | hp
    · rw [← hjn] at h1
      exact .inl ⟨he, h1⟩
    · exact .inr hp
  · rintro k w' ⟨-, ht⟩
    obtain ⟨q, off, hf⟩ := hA
    refine ⟨q, off, fun i hi => ?_⟩
    obtain ⟨h1, h2, h3⟩ := hf i hi
    obtain ⟨n1, n2⟩ := hAb q off h1
    exact ⟨h1, Nat.lt_of_lt_of_le h2 ht.size, (ht.cell (p := ⟨q, off + i, none⟩) h2 (by simp only [List.mem_cons, List.not_mem_nil, or_false]; omega)).trans h3⟩
  · rintro k hk w' ⟨⟨cs, xs, vs, r, h⟩, ht⟩
    rw [hlen] at hk
    have hj' : j + k < LF.length := by omega
    have e : ((LF.drop j).map (fieldV b))[k]'(by rw [hlen]; exact hk) = fieldV b (LF[j + k]) := by simp
    rw [e]
    obtain ⟨U, x, i, hf, hm1, hm2, hm3, hcall⟩ := rdSt_step h hj' hne hs hbl hgl hoff
    refine ⟨U, x, i, hf, hm1, hm2, hm3, hcall.mono fun e w2 hp => ?_⟩
    obtain ⟨ok, o', he, hr, hy, hno⟩ := hp
    refine ⟨ok, o', he, hr, fun h1 h2 => ?_, fun h1 => ?_⟩
    · obtain ⟨h3, h4⟩ := hy h1 h2
      exact ⟨h3, ht.trans h4 (fun x hx => .inl hx)⟩
    · obtain ⟨h3, h4⟩ := hno h1
      refine ⟨?_, h4⟩
      have := getF_none_append _ ((LF.drop (j + k + 1)).map (·.1)) s h3
      rw [← List.map_append, List.take_append_drop] at this
      exact this
  · exact ⟨⟨cs, xs, vs, r, h⟩, Touch.refl _ _⟩
theorem RdSt.below {W w w1 : World} {b g : Nat} {T : TypeId} {n0 : Nat} {LF : List (FK × Nat)} {j : Nat} {s : ByteArray} {cs : Array Value} {xs : List FV} {vs : List Value} {r : ByteArray} (h : RdSt W w b g T n0 LF j s cs xs vs r) (hb : Below w.heap.size w w1) (hbl : b < W.heap.size) (hgl : g < W.heap.size) :
    RdSt W w1 b g T n0 LF j s cs xs vs r := by
  have ht : Touch [b, g] w w1 := Touch.ofBelow hb
  exact ⟨(hb.block _ (lt_of_heap h.blk)).trans h.blk, h.size, h.rd.below hb, h.left, h.touch.trans ht (fun x hx => .inl hx), h.got, h.lens, fun i h1 h2 h3 => ⟨(h.done i h1 h2 h3).1, (h.done i h1 h2 h3).2.touch ht hbl hgl⟩, h.todo, h.apart⟩
end Go.Proofs.Ytbnmddopgbhapaa
