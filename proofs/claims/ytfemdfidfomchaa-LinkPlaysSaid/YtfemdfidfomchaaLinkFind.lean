/-
  The closure of keep; the library's IndexFunc and ContainsFunc over what was kept.
-/
import Derived.Test.YtfemdfidfomchaaLinkKnown
import Derived.Deep.LoopGhost
namespace Go.Proofs.Ytfemdfidfomchaa
open Go.RowKit

/-- is there one of that number? -/
def hasSeq (ks : List (Nat × LR)) (q : Nat) : Bool := ks.any fun x => x.1 == q
set_option maxRecDepth 20000 in
theorem again_any (x : Nat × LR) (q b : Nat) (W : World) (hb : W.cell? ⟨b, 0, none⟩ = some (.int .i64 (q : Nat))) : Calls Try.prog 67 #[.agg (kE x), .pointer (some ⟨b, 0, none⟩)] W fun e w' => e = .returned (.bool (x.1 == q)) ∧ Below W.heap.size W w' := by
  have B1 : Below W.heap.size W (W.alloc (.cells (kE x) 110)) := (Below.refl _ _).alloc (Nat.le_refl _) _
  have c1 : (W.alloc (.cells (kE x) 110)).cell? ⟨W.heap.size, 0, none⟩ = some (.int .i64 (x.1 : Nat)) := bg_cell (heap_alloc_new W _) rfl
  have c2 : (W.alloc (.cells (kE x) 110)).cell? ⟨b, 0, none⟩ = some (.int .i64 (q : Nat)) := (B1.cell (p := ⟨b, 0, none⟩) (World.block_lt_of_cell? W _ hb)).trans hb
  have e1 : ((x.1 : Int) == (q : Int)) = (x.1 == q) := by
    rw [Bool.eq_iff_iff]; simp; omega
  clear hb
  go_enter Try.func67, Try.ntmps67
  go_upto_region 1 with fail
  obtain ⟨w1, hw1⟩ : ∃ w1, W.alloc (.cells (kE x) 110) = w1 := ⟨_, rfl⟩
  rw [hw1] at B1 c1 c2 ⊢
  clear hw1
  have HB := Lib.hid B1
  clear B1
  go_wp2
  go_ret
  exact ⟨rfl, HB.out⟩
theorem lk_at {W : World} {A : Option Addr} {n c : Nat} {xs : List Value} {base e size : Nat} (h : W.ownsRow base e size (.slice A n c) n xs) (hn : 0 < n) : ∃ q, A = some ⟨q, 0, none⟩ := by
  rcases h.2 with ⟨h0, _⟩ | ⟨g, cap, cur, h0, _⟩
  · injection h0 with _ h1 _; omega
  · injection h0 with h1 _ _; exact ⟨g, h1⟩
theorem lk_below {V w1 : World} {base e size n : Nat} {v : Value} {xs : List Value} (h : V.ownsRow base e size v n xs) (b : Below V.heap.size V w1) : w1.ownsRow base e size v n xs := Touch.row (Touch.ofBelow (F := []) b) h (by simp)
theorem early_range {W : World} {q c n k base : Nat} {ks : List (Nat × LR)} (h : W.ownsRow base 110 22 (.slice (some ⟨q, 0, none⟩) n c) n (rowC kE ks)) {x : Nat × LR} (hk : ks[k]? = some x) : W.rangeAt q (k * 22) (kE x).toList := by
  intro j v hj
  have hl : k < ks.length := (List.getElem?_eq_some_iff.1 hk).1
  have hj25 : j < 22 := (List.getElem?_eq_some_iff.1 hj).1
  have hlen := rowC_length kE_size ks
  have := h.cellAt (k * 22 + j) (by have := h.1; rw [hlen] at this; omega)
  rw [this, rowC_get kE_size ks k j x hk hj25, ← Array.getElem?_toList]
  exact hj
theorem lk_infoK : (Try.prog.info? 110).map (·.size) = some 22 := by kernel_rfl
set_option maxRecDepth 20000 in
set_option maxHeartbeats 2000000 in
theorem indexEarly_any (ks : List (Nat × LR)) (q b : Nat) (A : Option Addr) (c n : Nat) (W : World) (hn : ks.length = n) (hl : n ≤ 100000) (hr : W.ownsRow 0 110 22 (.slice A n c) n (rowC kE ks)) (hb : W.cell? ⟨b, 0, none⟩ = some (.int .i64 (q : Nat))) :
    Calls Try.prog 83 #[.slice A n c, .func (.func 67) #[] #[.pointer (some ⟨b, 0, none⟩)]] W fun e w' => ∃ j : Int, e = .returned (.int .i64 j) ∧ (decide ((0 : Int) ≤ j) = hasSeq ks q) ∧ Below W.heap.size W w' := by
  have CE : Hid (∀ (w : World) (x : Nat × LR), Below W.heap.size W w → Calls Try.prog 67 #[.agg (kE x), .pointer (some ⟨b, 0, none⟩)] w fun e w' => e = .returned (.bool (x.1 == q)) ∧ Below w.heap.size w w') := fun w x hw => again_any x q b w ((hw.cell (p := ⟨b, 0, none⟩) (World.block_lt_of_cell? W _ hb)).trans hb)
  have hi : ∀ a w, (callFunc 67 a).run Try.prog w = .ok (.enter 67 a) w := fun _ _ => by kernel_rfl
  have HR : Hid (∀ (w : World) (k : Nat) (x : Nat × LR), Below W.heap.size W w → ks[k]? = some x → ∃ g, A = some ⟨g, 0, none⟩ ∧ w.rangeAt g (k * 22) (kE x).toList) := fun w k x hw hk => by
    have hk' : k < ks.length := (List.getElem?_eq_some_iff.1 hk).1
    obtain ⟨g, rfl⟩ := lk_at hr (by omega)
    exact ⟨g, rfl, early_range (lk_below hr hw) hk⟩
  have HN := Lib.hid hn
  have hsz : (Try.prog.info? 110).map (·.size) = some 22 := lk_infoK
  clear hr hb hn
  go_enter Try.func83, Try.ntmps83
  go_wp2_with fail
  go_loopg [8] (n + 1) (fun gh s8 wx => ∃ i : Nat, i + gh = n + 1 ∧ i ≤ n ∧ s8 = .int .i64 (i : Nat) ∧ Hid (Below W.heap.size W wx) ∧ Hid (∀ j x, j < i → ks[j]? = some x → (x.1 == q) = false))
  case atStart => exact ⟨0, by omega, by omega, rfl, Below.refl _ _, fun j x hj => by omega⟩
  case round =>
    obtain ⟨i, hig, hin, rfl, HB, HF⟩ := hrel
    by_cases hlt : i < n
    · obtain ⟨x, hx⟩ : ∃ x, ks[i]? = some x := ⟨_, List.getElem?_eq_getElem (by rw [HN.out]; exact hlt)⟩
      obtain ⟨g, rfl, hra⟩ := HR.out wr i x HB.out hx
      have HRA := Lib.hid hra
      have HX := Lib.hid hx
      have i1 : (i : Int) < (n : Int) := by omega
      obtain ⟨bb, hbb⟩ : ∃ bb, (x.1 == q) = bb := ⟨_, rfl⟩
      have CX := Lib.hid (CE.out wr x HB.out)
      rw [hbb] at CX
      have HBB := Lib.hid hbb
      clear hra hx hbb CE HR
      cases bb
      · go_wp2_with (first
          | (refine wpList_load_mid rfl 110 (.tmp 14) rfl g (i * 22) rfl (kE x).toList _ HRA.out Try.underlying110 rfl hsz ?_)
          | (go_at_call 67; (with_reducible refine (CX.out).mono ?_); rintro e w2 ⟨rfl, hb2⟩; have HB2 := Lib.hid hb2; clear hb2))
        go_roundg (gk - 1)
        case measure => omega
        case rel => exact ⟨i + 1, by omega, by omega, by go_num, acc HB.out HB2.out, fun j y hj hy => by
          rcases Nat.lt_succ_iff_lt_or_eq.1 hj with z | rfl
          · exact HF.out j y z hy
          · rw [HX.out] at hy; injection hy with hy; subst hy; exact HBB.out⟩
      · go_wp2_with (first
          | (refine wpList_load_mid rfl 110 (.tmp 14) rfl g (i * 22) rfl (kE x).toList _ HRA.out Try.underlying110 rfl hsz ?_)
          | (go_at_call 67; (with_reducible refine (CX.out).mono ?_); rintro e w2 ⟨rfl, hb2⟩; have HB2 := Lib.hid hb2; clear hb2))
        go_ret
        refine ⟨_, rfl, ?_, acc HB.out HB2.out⟩
        have h1 : hasSeq ks q = true := List.any_eq_true.2 ⟨x, List.mem_of_getElem? HX.out, HBB.out⟩
        rw [h1]
        exact decide_eq_true (by omega)
    · obtain rfl : i = n := by omega
      clear CE HR
      go_wp2_with fail
      go_ret
      refine ⟨_, rfl, ?_, HB.out⟩
      have h1 : hasSeq ks q = false := List.any_eq_false.2 fun x hx => by
        obtain ⟨j, hj, rfl⟩ := List.getElem_of_mem hx
        have := HF.out j _ (by rw [← HN.out]; exact hj) (List.getElem?_eq_getElem hj)
        simpa using this
      rw [h1]
      exact decide_eq_false (by omega)
theorem hasEarly_any (ks : List (Nat × LR)) (q b : Nat) (A : Option Addr) (c n : Nat) (W : World) (hn : ks.length = n) (hl : n ≤ 100000) (hr : W.ownsRow 0 110 22 (.slice A n c) n (rowC kE ks)) (hb : W.cell? ⟨b, 0, none⟩ = some (.int .i64 (q : Nat))) :
    Calls Try.prog 68 #[.slice A n c, .func (.func 67) #[] #[.pointer (some ⟨b, 0, none⟩)]] W fun e w' => e = .returned (.bool (hasSeq ks q)) ∧ Below W.heap.size W w' := by
  have CI := Lib.hid (indexEarly_any ks q b A c n W hn hl hr hb)
  clear hr hb
  go_enter Try.func68, Try.ntmps68
  go_wp2_with (go_at_call 83; (with_reducible refine (CI.out).mono ?_); rintro e w2 ⟨j, rfl, hj, hb2⟩; have HJ := Lib.hid hj; clear hj)
  go_ret
  exact ⟨by rw [← HJ.out]; rfl, hb2⟩
end Go.Proofs.Ytfemdfidfomchaa
