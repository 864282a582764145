/-
  The letter in a packet, read, walked.
-/
import Derived.Test.YtbnmddopgbhapaaLetPackPure
namespace Go.Proofs.Ytbnmddopgbhapaa
open Go.RowKit

/-- a packet's fields, and where each lies -/
def LF25 : List (FK × Nat) := List.zip K25 ([0, 1, 2, 3] ++ LOff.map (· + 4))
theorem lf25_len : LF25.length = 25 := rfl
theorem lf25_fst : LF25.map (·.1) = K25 := rfl
theorem lf25_four : (LF25.take 4).map (·.1) = K4 := rfl
theorem lf25_drop (b : Nat) : (LF25.drop 4).map (fieldV b) = innerFs b := rfl
theorem lf25_take (b j : Nat) (h : j < 4) (h2 : j < (packetFs b).length) (h3 : j < LF25.length) : (packetFs b)[j] = fieldV b (LF25[j]) := by
  have hc : j = 0 ∨ j = 1 ∨ j = 2 ∨ j = 3 := by omega
  rcases hc with rfl | rfl | rfl | rfl <;> rfl
theorem lf25_off : ∀ i i' (h : i < LF25.length) (h' : i' < LF25.length), i ≠ i' → (LF25[i]).2 ≠ (LF25[i']).2 := by
  have key : ∀ i i' : Fin 25, i ≠ i' → (LF25[i.1]'i.2).2 ≠ (LF25[i'.1]'i'.2).2 := by decide
  intro i i' h h' hne
  exact key ⟨i, h⟩ ⟨i', h'⟩ (fun e => hne (Fin.mk.inj e))
/-- what the letter in a packet leaves -/
def InYes (W : World) (b g : Nat) (s : ByteArray) (w' : World) : Prop :=
  ∃ cs xs vs r, ((xs.getD 2 (nv 0)).n = 0 ∧ RdSt W w' b g 34 25 LF25 4 s cs xs vs r) ∨ ((xs.getD 2 (nv 0)).n ≠ 0 ∧ RdSt W w' b g 34 25 LF25 25 s cs xs vs r)
def InNo (s : ByteArray) : Prop := getF K4 s = none ∨ ∃ xs r, getF K4 s = some (xs, r) ∧ (xs.getD 2 (nv 0)).n ≠ 0 ∧ getF K25 s = none
theorem getD_of {xs : List FV} {j : Nat} (h : j < xs.length) : xs.getD j (nv 0) = xs[j] := by rw [List.getD_eq_getElem?_getD, List.getElem?_eq_getElem h]; rfl
theorem first_of {s r r4 : ByteArray} {xs ys : List FV} (h4 : getF K4 s = some (xs, r4)) (h : getF K25 s = some (ys, r)) : ys.getD 2 (nv 0) = xs.getD 2 (nv 0) := by
  rw [K25, getF_append, h4] at h
  simp only at h
  cases g : getF LK r4 with
  | none => rw [g] at h; cases h
  | some p =>
    rw [g] at h
    have e := Option.some.inj h
    have e1 : xs ++ p.1 = ys := congrArg Prod.fst e
    have hl : xs.length = 4 := getF_len _ _ _ _ h4
    rw [← e1, List.getD_eq_getElem?_getD, List.getD_eq_getElem?_getD, List.getElem?_append_left (by omega)]
set_option maxRecDepth 20000 in
set_option maxHeartbeats 2000000 in
theorem inget_any {W w : World} {b g : Nat} {s : ByteArray} {cs : Array Value} {xs : List FV} {vs : List Value} {r : ByteArray} (h : RdSt W w b g 34 25 LF25 4 s cs xs vs r)
    (hne : b ≠ g) (hs : s.size ≤ 9223372036854775807) (hbl : b < W.heap.size) (hgl : g < W.heap.size) :
    Calls Try.prog 76 #[.agg #[.pointer (some ⟨b, 0, none⟩)], .pointer (some ⟨g, 0, none⟩)] w fun e w' => ∃ (ok : Bool) (o : Option ByteArray), e = .returned (.bool ok) ∧ RdO w' g o ∧ (ok = true → o.isSome = true → InYes W b g s w' ∧ Touch [b, g] W w') ∧ ((ok && o.isSome) = false → InNo s ∧ Touch [b, g] W w') := by
  have BW : Below w.heap.size w (w.alloc (.cells #[.pointer (some ⟨b, 0, none⟩)] 89)) := (Below.refl _ _).alloc (Nat.le_refl _) _
  have hK4 : getF K4 s = some (xs, r) := h.got
  have hl : xs.length = 4 := getF_len _ _ _ _ hK4
  have hv2 : 2 < vs.length := by rw [h.lens]; decide
  obtain ⟨d1, d2⟩ := h.done 2 (by decide) hv2 (by omega)
  have d3 : vs[2] = .int .i64 (xs[2]).n := d2
  have e2 := getD_of (xs := xs) (j := 2) (by omega)
  have hb1 := (BW.block _ (lt_of_heap h.blk)).trans h.blk
  have hsq : (w.alloc (.cells #[.pointer (some ⟨b, 0, none⟩)] 89)).cell? ⟨b, 2, none⟩ = some (.int .i64 (xs.getD 2 (nv 0)).n) := by
    rw [Lib.cell_of_heap hb1, e2, ← d3]
    exact d1
  have HH := Lib.hid h
  have HBW := Lib.hid BW
  have HK := Lib.hid hK4
  have hbw : b < w.heap.size := lt_of_heap h.blk
  clear d3 d2 d1 e2 hb1 hv2 hl h BW hK4
  generalize hz : (xs.getD 2 (nv 0)).n = z at *
  have HZ := Lib.hid hz
  clear hz
  by_cases h0 : z = 0
  · have b0 : (z == 0) = true := by rw [beq_iff_eq]; exact h0
    have HZ0 := Lib.hid h0
    clear h0
    go_enter Try.func76, Try.ntmps76
    go_wp2
    go_ret
    have h1 := HH.out.below HBW.out hbl hgl
    exact ⟨true, some r, rfl, h1.rd, fun _ _ => ⟨⟨cs, xs, vs, r, .inl ⟨HZ.out.trans HZ0.out, h1⟩⟩, h1.touch⟩, fun hh => by cases hh⟩
  · have b0 : (z == 0) = false := by rw [beq_eq_false_iff_ne]; exact h0
    have CO := Lib.hid of_inner21
    have CR : Hid (∀ w1 A c, Below (w.alloc (.cells #[.pointer (some ⟨b, 0, none⟩)] 89)).heap.size (w.alloc (.cells #[.pointer (some ⟨b, 0, none⟩)] 89)) w1 → FieldsAt w1 A (innerFs b) → (∀ q o, A = some ⟨q, o, none⟩ → q ≠ b ∧ q ≠ g) → Calls Try.prog 48 #[.pointer (some ⟨g, 0, none⟩), .slice A 21 c] w1 (ReadPost (fun w' => ∃ cs xs vs r, RdSt W w' b g 34 25 LF25 25 s cs xs vs r) (fun w' => getF K25 s = none ∧ Touch [b, g] W w' ∧ ∃ o, RdO w' g o))) := fun w1 A c hb1 hA hAb =>
      readOn_any (LF := LF25) ((HH.out.below HBW.out hbl hgl).below hb1 hbl hgl) (n := 21) (by rfl) (by decide) hne hs hbl hgl lf25_off A c (by rw [lf25_drop]; exact hA) hAb
    have HZ0 := Lib.hid h0
    have hwz : (w.alloc (.cells #[.pointer (some ⟨b, 0, none⟩)] 89)).heap.size = w.heap.size + 1 := by simp
    have HWZ := Lib.hid hwz
    have HG : Hid (b < w.heap.size ∧ g < w.heap.size) := ⟨hbw, Nat.lt_of_lt_of_le hgl HH.out.touch.size⟩
    clear h0 hwz
    go_enter Try.func76, Try.ntmps76
    go_wp2_with (first
      | (go_at_call 36; ((with_reducible refine (CO.out _ _).mono ?_); rintro e w1 ⟨c1, rfl, hf1, hb1, hs1⟩; have CR1 := Lib.hid (CR.out w1 (some ⟨w.heap.size + 1, 0, none⟩) c1 hb1 (HWZ.out ▸ hf1) (fun q o hq => by injection hq with hq; injection hq with hq _ _; have := HG.out; omega)); clear hf1 hb1 hs1))
      | (go_at_call 48; ((with_reducible refine (CR1.out).mono ?_); rintro e w2 (⟨rfl, hyes⟩ | ⟨rfl, hno⟩))))
    · go_ret
      obtain ⟨cs2, xs2, vs2, r2, h2⟩ := hyes
      have h25 : getF K25 s = some (xs2, r2) := h2.got
      have ez : (xs2.getD 2 (nv 0)).n ≠ 0 := by rw [first_of HK.out h25, HZ.out]; exact HZ0.out
      exact ⟨true, some r2, rfl, h2.rd, fun _ _ => ⟨⟨cs2, xs2, vs2, r2, .inr ⟨ez, h2⟩⟩, h2.touch⟩, fun hh => by cases hh⟩
    · go_ret
      obtain ⟨n1, n2, o, n3⟩ := hno
      exact ⟨false, o, rfl, n3, (fun hh => by cases hh), fun _ => ⟨.inr ⟨xs, r, HK.out, by rw [HZ.out]; exact HZ0.out, n1⟩, n2⟩⟩
end Go.Proofs.Ytbnmddopgbhapaa
