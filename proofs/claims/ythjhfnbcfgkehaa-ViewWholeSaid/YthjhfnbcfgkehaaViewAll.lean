/-
  All arcs of a view, one behind the other, in a list (All, a call of the statements' own).
-/
import Derived.Test.YthjhfnbcfgkehaaViewSays
import Derived.Test.YthjhfnbcfgkehaaRecs
import Derived.Test.YthjhfnbcfgkehaaAppendAny
import Derived.Deep.DeepCutAuto
import Derived.Laws.AppendOwnNone
namespace Go.Proofs.Ythjhfnbcfgkehaa
open Go.RowKit

theorem infoO_ : ∃ i z, Try.prog.info? 27 = some i ∧ i.zero = some z ∧ i.size = 4 ∧ i.bytes = 32 ∧ z.cells.size = 4 := by
  have h : (Try.prog.info? 27).map (fun i => (i.zero.isSome, i.size, i.bytes, (i.zero.getD undef).cells.size)) = some (true, 4, 32, 4) := by kernel_rfl
  obtain ⟨i, hi, hx⟩ := Option.map_eq_some_iff.1 h
  simp only [Prod.mk.injEq] at hx
  obtain ⟨h1, h2, h3, h4⟩ := hx
  obtain ⟨z, hz⟩ := Option.isSome_iff_exists.1 h1
  exact ⟨i, z, hi, hz, h2, h3, by rw [hz] at h4; exact h4⟩
abbrev arcsC (l : List AO) : List Value := rowC AO.cells l
theorem ao_size (p : AO) : p.cells.size = 4 := rfl
theorem ao_one (l : List AO) : ∀ u ∈ arcsC l, u.oneCell' = true := rowC_all fun p _ => by simp [AO.cells, Value.oneCell']
theorem ao_new (w : World) (p : AO) : ∀ j u, (arcsC [p])[j]? = some u → (w.alloc (.cells p.cells 27)).cell? ((⟨w.heap.size, 0, none⟩ : Addr).add j) = some u := by
  intro j u hj
  have hj : (p.cells.toList)[j]? = some u := by rw [← hj]; simp [arcsC, rowC]
  have : j = 0 ∨ j = 1 ∨ j = 2 ∨ j = 3 := by have := (List.getElem?_eq_some_iff.1 hj).1; simp at this; omega
  rw [Go.WideShapes.add_plain]
  rcases this with rfl | rfl | rfl | rfl <;> (simp at hj; subst hj; go_simp)
/-- a new row of the call's own -/
def NewArcs (W : World) (l : List AO) (e : Ending) (w' : World) : Prop :=
  ∃ A c, e = .returned (.slice A l.length c) ∧ w'.ownsRow W.heap.size 27 4 (.slice A l.length c) l.length (arcsC l) ∧ Below W.heap.size W w'
set_option maxRecDepth 20000 in
set_option maxHeartbeats 4000000 in
/-- the closure: one more -/
theorem oneMore {w : World} {b n c base : Nat} {A : Option Addr} {l : List AO} (p : AO) (hv : Var w b (.slice A n c)) (ho : w.ownsRow base 27 4 (.slice A n c) n (arcsC l)) (hb : b < base) (hbase : base ≤ w.heap.size) (hn : n < 900) :
    Calls Try.prog 23 #[.agg p.cells, .pointer (some ⟨b, 0, none⟩)] w fun e w' => e = .returned (.bool true) ∧ ∃ A2 c2, Var w' b (.slice A2 (n + 1) c2) ∧ w'.ownsRow base 27 4 (.slice A2 (n + 1) c2) (n + 1) (arcsC (l ++ [p])) ∧
      Touch (b :: (Value.slice A n c).ownBlock.toList) w w' ∧ ∀ q, (Value.slice A2 (n + 1) c2).ownBlock = some q → (Value.slice A n c).ownBlock = some q ∨ w.heap.size ≤ q := by
  obtain ⟨i0, z0, hi0, hz, hsL, hbL, hzc⟩ := infoO_
  have hbq : ∀ q, (Value.slice A n c).ownBlock = some q → q ≠ b := fun q h => by have := (ho.lt q h).1; omega
  have d1 : decide ((n : Int) + 1 < 1000) = true := by simp; omega
  have T1 : Touch [] w (w.alloc (.cells p.cells 27)) := (Touch.refl _ _).alloc _
  have hrow : (w.alloc (.cells p.cells 27)).heap[w.heap.size]? = some (.cells p.cells 27) := World.alloc_heap_new w _
  have hsz : (Try.prog.info? 27).map (·.size) = some p.cells.size := by kernel_rfl
  have hs1 : (w.alloc (.cells p.cells 27)).heap.size = w.heap.size + 1 := by simp
  have V1 := hv.touch T1 (by simp)
  have O1 := T1.row ho (by simp)
  obtain ⟨bo, hbo⟩ : ∃ bo, w.heap.size = bo := ⟨_, rfl⟩
  obtain ⟨w1, hw1⟩ : ∃ w1, w.alloc (.cells p.cells 27) = w1 := ⟨_, rfl⟩
  have HB := Lib.hid hbo
  have HB1 := Lib.hid hw1
  rw [hw1] at T1 hrow V1 O1 hs1
  rw [hbo] at hrow
  have c1 := V1.val
  have HO1 := Lib.hid O1
  have HV1 := Lib.hid V1
  have HT1 := Lib.hid T1
  have HQ := Lib.hid hbq
  have HS1 := Lib.hid hs1
  clear hv ho V1 O1 T1 hbq hs1
  go_enter Try.func23, Try.ntmps23
  go_upto_region 1 with fail
  clear hw1 hbo
  go_wp2_with (first
    | (with_reducible (show wpList _ _ _ (⟨some 5, Op.load _ _, _, _, _, _⟩ :: _) _ _); go_must (refine wpList_load_row rfl 27 (.tmp 2) rfl bo rfl 27 p.cells (0, 0) _ hrow Try.underlying27 rfl hsz ?_))
    | (at_builtin; go_must (refine wpList_append_any rfl (.tmp 4) (.tmp 6) 22 rfl base 27 i0 z0 4 32 Try.underlying22 hi0 hz hsL hbL hzc (by decide) (.slice A n c) n (arcsC l) rfl (HO1.out.alloc _) (.slice (some ⟨w1.heap.size, 0, none⟩) 1 1) 1 (arcsC [p]) rfl (.inr ⟨_, _, rfl, rfl, ao_new w1 p⟩) (ao_one _) (by unfold maxLen; omega) (by omega) (by have := HS1.out; simp <;> omega) ?_); intro A2 c2 w2 hown2 hg2 hsn2; have T2 : Touch (Value.slice A n c).ownBlock.toList w1 w2 := ((Touch.refl _ _).alloc (.cells p.cells 27)).grown hg2 (fun k hk => .inl (by simpa using hk)); have V2 := HV1.out.touch T2 (fun z => HQ.out b (by simpa using z) rfl); have k2 := V2.val; have m2 := V2.free; have HV2 := Lib.hid V2; have HT2 := Lib.hid T2; have HO2 := Lib.hid hown2; have HN2 := Lib.hid hsn2; clear hown2 hg2 hsn2 V2 T2))
  go_ret
  have T0 : Touch (b :: (Value.slice A n c).ownBlock.toList) w w2 := (HT1.out.mono (by simp)).trans HT2.out (fun x hx => .inl (List.mem_cons_of_mem _ hx))
  refine ⟨rfl, A2, c2, HV2.out.set _, ?_, T0.set (.inl (by simp)) _, fun q hq => ?_⟩
  · have h5 := HO2.out
    rw [← rowC_append] at h5
    exact ((Touch.refl [b] w2).set (p := ⟨b, 0, none⟩) (.inl (by simp)) _).row h5 (fun q hq z => by have := (h5.lt q hq).1; simp at z; omega)
  · rcases HN2.out q hq with z | z
    · exact .inl z
    · refine .inr ?_
      have := HS1.out
      simp at z
      omega
theorem own_from {W : World} {base b0 e size n : Nat} {v : Value} {xs : List Value} (h : W.ownsRow base e size v n xs) (hb : b0 ≤ base) : W.ownsRow b0 e size v n xs := by
  obtain ⟨hl, h⟩ := h
  refine ⟨hl, ?_⟩
  rcases h with h | ⟨g, cap, cur, h1, h2, h3⟩
  · exact .inl h
  · exact .inr ⟨g, cap, cur, h1, by omega, h3⟩
/-- how far the list has come -/
def AllJ (b base : Nat) (a : List AO) (k : Nat) (w : World) (Y : List Nat) : Prop :=
  ∃ A c, Var w b (.slice A k c) ∧ w.ownsRow base 27 4 (.slice A k c) k (arcsC (a.take k)) ∧ b ∈ Y ∧ ∀ q, (Value.slice A k c).ownBlock = some q → q ∈ Y
theorem AllJ.abid (b base : Nat) (a : List AO) (k : Nat) : Abid (AllJ b base a k) := by
  rintro w w' Y G ⟨A, c, h1, h2, h3, h4⟩ t hn
  exact ⟨A, c, h1.touch t (hn b h3), t.row h2 (fun q hq => hn q (h4 q hq)), h3, h4⟩
set_option maxRecDepth 20000 in
set_option maxHeartbeats 4000000 in
theorem allArcs_any {VH : World → Nat → List AO → List Nat → Prop} (L : ViewLaws VH) {w : World} {g : Nat} {a : List AO} {F : List Nat} (h : VH w g a F) (ha : a.length < 900) :
    Calls Try.prog 11 #[.pointer (some ⟨g, 0, none⟩)] w (NewArcs w a) := by
  have hF := (L.has h).2
  have bw : Below w.heap.size w (w.alloc (.cells #[.slice none 0 0] 22)) := (Below.refl _ _).alloc (Nat.le_refl _) _
  have h1 := L.touch h (Touch.ofBelow (F := []) bw) (by simp)
  have CV := Lib.hid (L.all h1)
  have V0 : Var (w.alloc (.cells #[.slice none 0 0] 22)) w.heap.size (.slice none 0 0) := Var.new _ _ _
  have hs : (w.alloc (.cells #[.slice none 0 0] 22)).heap.size = w.heap.size + 1 := by simp
  have HT : Hid (∀ (i : Nat) (lb : Array Value) (w2 : World), Below (w.alloc (.cells #[.slice none 0 0] 22)).heap.size (w.alloc (.cells #[.slice none 0 0] 22)) w2 → (∀ W, Below w2.heap.size w2 W → Tour i lb (fun p : AO => #[.agg p.cells]) a F W) →
      Calls Try.prog i (#[.func (.func 23) #[] #[.pointer (some ⟨w.heap.size, 0, none⟩)]] ++ lb) w2 fun e w' => e = .returned (.tuple #[]) ∧ ∃ A c, Var w' w.heap.size (.slice A a.length c) ∧ w'.ownsRow w.heap.size 27 4 (.slice A a.length c) a.length (arcsC a) ∧ Below w.heap.size w w') := by
    intro i lb w2 hb2 ht
    have hsz := hb2.size
    rw [hs] at hsz
    refine (ht w2 (Below.refl _ _) 23 #[] #[.pointer (some ⟨w.heap.size, 0, none⟩)] (enters_of Try.func23 (by kernel_rfl) rfl)
      (AllJ w.heap.size (w.heap.size + 1) a) (fun _ _ => False) [w.heap.size] ?_ ?_ (AllJ.abid _ _ _) ?_ ?_).mono ?_
    · intro q hq
      simp at hq
      subst hq
      exact ⟨by omega, fun z => Nat.lt_irrefl _ (hF _ z)⟩
    · exact ⟨none, 0, V0.below hb2, World.ownsRow_nil _ _ _ _, by simp, fun q hq => by cases hq⟩
    · intro w w' Y G z _ _
      exact z
    · rintro n x w3 Y hx ⟨A, c, j1, j2, j3, j4⟩ hY
      have hn : n < a.length := (List.getElem?_eq_some_iff.1 hx).1
      have hb3 : w.heap.size + 1 ≤ w3.heap.size := by have := j1.lt; omega
      have hc := oneMore x j1 j2 (by omega) hb3 (by omega)
      refine hc.mono ?_
      rintro e w4 ⟨rfl, A2, c2, k1, k2, k3, k4⟩
      refine ⟨w.heap.size :: (Value.slice A2 (n + 1) c2).ownBlock.toList, ⟨⟨_, k3, fun q hq => ⟨?_, by simp⟩⟩, fun q hq => ⟨?_, ?_⟩⟩, .inl ⟨rfl, A2, c2, k1, ?_, by simp, fun q hq => by simp [hq]⟩⟩
      · rcases List.mem_cons.1 hq with rfl | hq
        · exact j3
        · exact j4 q (by simpa using hq)
      · rcases List.mem_cons.1 hq with rfl | hq
        · exact k1.lt
        · exact (k2.lt q (by simpa using hq)).2
      · rcases List.mem_cons.1 hq with rfl | hq
        · exact .inl j3
        · exact (k4 q (by simpa using hq)).imp (fun z => j4 q z) id
      · rw [show a.take (n + 1) = a.take n ++ [x] by rw [List.take_add_one, hx]; rfl]
        exact k2
    · rintro e w' ⟨rfl, Y, hl, ⟨A, c, j1, j2, -, -⟩ | hf⟩
      · rw [List.take_length] at j2
        obtain ⟨⟨G, t, hG⟩, -⟩ := hl
        refine ⟨rfl, A, c, j1, own_from j2 (by omega), Touch.acc (bw.trans (hb2.mono (by omega))) t (fun q hq => ?_)⟩
        have := (hG q hq).1
        simp at this
        omega
      · exact hf.elim
  clear h h1 hF bw V0 hs
  go_enter Try.func11, Try.ntmps11
  go_wp2_with (first
    | (go_at_call 21; (with_reducible refine (CV.out).mono ?_); rintro e w2 ⟨i, lb, rfl, hi, hb2, ht⟩; have HH := Lib.hid (HT.out i lb w2 hb2 ht); clear hb2 ht)
    | ((with_reducible refine (HH.out).mono ?_); rintro e w3 ⟨rfl, A, c, hv, ho, hb⟩; have ev := hv.val; have HO := Lib.hid ho; have HB := Lib.hid hb; clear hv ho hb))
  go_ret
  exact ⟨A, c, rfl, HO.out, HB.out⟩
end Go.Proofs.Ythjhfnbcfgkehaa
