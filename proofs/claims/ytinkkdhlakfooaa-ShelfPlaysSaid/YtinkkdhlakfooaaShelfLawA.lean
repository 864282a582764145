/-
  The walk of ShelfAgain over ShelfLaws.
-/
import Derived.Test.YtinkkdhlakfooaaShelfLaws
namespace Go.Proofs.Ytinkkdhlakfooaa
open Go.RowKit

theorem OS.get {SH : World → Nat → Int → List Item → List Nat → Prop} (L : ShelfLaws SH) {W w : World} {g : Nat} {most : Int} {l : List Item} (h : OS SH W w g most l) (k : ByteArray) :
    Calls Try.prog 17 #[.pointer (some ⟨g, 0, none⟩), .string k] w fun e w' => e = .returned (.tuple #[.string (getN l k), .bool (hasN l k)]) ∧ OS SH W w' g most l := by
  have h0 := h
  obtain ⟨h1, F, h2, h3⟩ := h
  refine (L.get k h2).mono ?_
  rintro e w' ⟨rfl, hb⟩
  exact ⟨rfl, h0.below L hb⟩
theorem has_one (k v : ByteArray) : hasN [(k, v)] k = true := hasN_at_key (a := []) (x := (k, v)) (fun y hy => by cases hy) []
theorem get_one (k v : ByteArray) : getN [(k, v)] k = v := by simp [getN, placeN, lessB_irrefl]
theorem del_one (k v : ByteArray) : delN [(k, v)] k = [] := delN_key (a := []) (x := (k, v)) (fun y hy => by cases hy) []
theorem put_one (k v u : ByteArray) : putN [(k, v)] k u = [(k, u)] := putN_key (a := []) (x := (k, v)) (fun y hy => by cases hy) []
theorem deep_one : deepN 1 = 1 := by rw [deepN, if_neg (by omega), log4_small (by omega)]

set_option maxRecDepth 100000 in
set_option maxHeartbeats 8000000 in
theorem shelfAgain_any {SH : World → Nat → Int → List Item → List Nat → Prop} (L : ShelfLaws SH) (k a b : ByteArray) (W : World) (hk : k.size ≤ maxLen) (ha : a.size ≤ maxLen) (hb : b.size ≤ maxLen) :
    Calls Try.prog 8 #[.string k, .string a, .string b] W fun e w' => e = .returned (.bool true) ∧ Below W.heap.size W w' := by
  have CA : Hid (∀ w0, Below W.heap.size W w0 → Calls Try.prog 9 #[] w0 fun e w' => e = .returned (.bool true) ∧ Below W.heap.size W w') := fun w0 h => shelfAlive_any L W w0 h
  have HW : Hid (Below W.heap.size W W) := Below.refl _ _
  unfold maxLen at hk ha hb
  by_cases k0 : k.size < 1
  · have d1 : decide ((k.size : Int) < 1) = true := by simp; omega
    go_enter Try.func8, Try.ntmps8
    go_wp2_with (go_at_call 9; (with_reducible refine (CA.out _ HW.out).mono ?_); rintro e w1 ⟨rfl, h1⟩)
    go_ret
    exact ⟨rfl, h1⟩
  have d1 : decide ((k.size : Int) < 1) = false := by simp; omega
  by_cases k1 : 16 < k.size
  · have d2 : decide ((16 : Int) < (k.size : Int)) = true := by simp; omega
    go_enter Try.func8, Try.ntmps8
    go_wp2_with (go_at_call 9; (with_reducible refine (CA.out _ HW.out).mono ?_); rintro e w1 ⟨rfl, h1⟩)
    go_ret
    exact ⟨rfl, h1⟩
  have d2 : decide ((16 : Int) < (k.size : Int)) = false := by simp; omega
  by_cases a1 : 16 < a.size
  · have d3 : decide ((16 : Int) < (a.size : Int)) = true := by simp; omega
    go_enter Try.func8, Try.ntmps8
    go_wp2_with (go_at_call 9; (with_reducible refine (CA.out _ HW.out).mono ?_); rintro e w1 ⟨rfl, h1⟩)
    go_ret
    exact ⟨rfl, h1⟩
  have d3 : decide ((16 : Int) < (a.size : Int)) = false := by simp; omega
  by_cases b1 : 16 < b.size
  · have d4 : decide ((16 : Int) < (b.size : Int)) = true := by simp; omega
    go_enter Try.func8, Try.ntmps8
    go_wp2_with (go_at_call 9; (with_reducible refine (CA.out _ HW.out).mono ?_); rintro e w1 ⟨rfl, h1⟩)
    go_ret
    exact ⟨rfl, h1⟩
  have d4 : decide ((16 : Int) < (b.size : Int)) = false := by simp; omega
  have r0 : rightN k = 0 := by rw [rightN, if_neg (by omega)]
  have va : valueN a = 0 := by rw [valueN, if_neg (by omega)]
  have vb : valueN b = 0 := by rw [valueN, if_neg (by omega)]
  have e1 : putE 1 [] k a = 0 := by simp [putE, r0, va]
  have e2 : putE 1 [(k, a)] k b = 0 := by simp [putE, r0, vb, has_one]
  have CN : Hid (∀ w, Below W.heap.size W w → Calls Try.prog 10 #[.int .i64 1] w fun e w' => ∃ g, e = .returned (.pointer (some ⟨g, 0, none⟩)) ∧ OS SH W w' g 1 []) := fun w h => OS.new L h 1 (by omega) (by omega)
  have P1 : Hid (∀ w g, OS SH W w g 1 [] → Calls Try.prog 12 #[.pointer (some ⟨g, 0, none⟩), .string k, .string a] w fun e w' => e = .returned (.int .i64 0) ∧ OS SH W w' g 1 [(k, a)]) :=
    fun w g h => h.put L _ _ (by unfold maxLen; omega) (by unfold maxLen; omega) e1 (by rw [putS, if_pos e1]; rfl)
  have P2 : Hid (∀ w g, OS SH W w g 1 [(k, a)] → Calls Try.prog 12 #[.pointer (some ⟨g, 0, none⟩), .string k, .string b] w fun e w' => e = .returned (.int .i64 0) ∧ OS SH W w' g 1 [(k, b)]) :=
    fun w g h => h.put L _ _ (by unfold maxLen; omega) (by unfold maxLen; omega) e2 (by rw [putS, if_pos e2, put_one])
  have G1 : Hid (∀ w g, OS SH W w g 1 [(k, b)] → Calls Try.prog 17 #[.pointer (some ⟨g, 0, none⟩), .string k] w fun e w' => e = .returned (.tuple #[.string b, .bool true]) ∧ OS SH W w' g 1 [(k, b)]) := fun w g h => by
    have z := h.get L k
    rw [get_one, has_one] at z
    exact z
  have G2 : Hid (∀ w g, OS SH W w g 1 [] → Calls Try.prog 17 #[.pointer (some ⟨g, 0, none⟩), .string k] w fun e w' => e = .returned (.tuple #[.string ByteArray.empty, .bool false]) ∧ OS SH W w' g 1 []) := fun w g h => h.get L k
  have N1 : Hid (∀ w g v, OS SH W w g 1 [(k, v)] → Calls Try.prog 19 #[.pointer (some ⟨g, 0, none⟩)] w fun e w' => e = .returned (.int .i64 1) ∧ OS SH W w' g 1 [(k, v)]) := fun w g v h => h.len L
  have N0 : Hid (∀ w g, OS SH W w g 1 [] → Calls Try.prog 19 #[.pointer (some ⟨g, 0, none⟩)] w fun e w' => e = .returned (.int .i64 0) ∧ OS SH W w' g 1 []) := fun w g h => h.len L
  have T1 : Hid (∀ w g v, OS SH W w g 1 [(k, v)] → Calls Try.prog 20 #[.pointer (some ⟨g, 0, none⟩)] w fun e w' => e = .returned (.int .i64 1) ∧ OS SH W w' g 1 [(k, v)]) := fun w g v h => (h.depth L).mono (by
    rintro e w' ⟨d, rfl, x, y, z⟩
    have x' : d ≤ deepN 1 := x
    rw [deep_one] at x'
    have hd : d = 1 := by
      have : ¬ d = 0 := fun e => by have := y.1 e; simp at this
      omega
    subst hd
    exact ⟨rfl, z⟩)
  have T0 : Hid (∀ w g, OS SH W w g 1 [] → Calls Try.prog 20 #[.pointer (some ⟨g, 0, none⟩)] w fun e w' => e = .returned (.int .i64 0) ∧ OS SH W w' g 1 []) := fun w g h => (h.depth L).mono (by
    rintro e w' ⟨d, rfl, x, y, z⟩
    have hd : d = 0 := y.2 rfl
    subst hd
    exact ⟨rfl, z⟩)
  have R1 : Hid (∀ w g, OS SH W w g 1 [(k, b)] → Calls Try.prog 14 #[.pointer (some ⟨g, 0, none⟩), .string k] w fun e w' => e = .returned (.bool true) ∧ OS SH W w' g 1 []) := fun w g h => by
    have z := h.del L k
    rw [has_one, del_one] at z
    exact z
  have R0 : Hid (∀ w g, OS SH W w g 1 [] → Calls Try.prog 14 #[.pointer (some ⟨g, 0, none⟩), .string k] w fun e w' => e = .returned (.bool false) ∧ OS SH W w' g 1 []) := fun w g h => h.del L k
  clear r0 va vb e1 e2
  go_enter Try.func8, Try.ntmps8
  go_wp2_with (first
    | (go_at_call 9; (with_reducible refine (CA.out _ HW.out).mono ?_); rintro e w1 ⟨rfl, h1⟩; have H0 := Lib.hid h1; clear h1)
    | (go_at_call 10; (with_reducible refine (CN.out _ H0.out).mono ?_); rintro e w1 ⟨g, rfl, h1⟩; have H1 := Lib.hid h1; clear h1)
    | (go_at_call 12; (with_reducible refine (P1.out _ _ H1.out).mono ?_); rintro e w2 ⟨rfl, h2⟩; have H2 := Lib.hid h2; clear h2)
    | (go_at_call 12; (with_reducible refine (P2.out _ _ H2.out).mono ?_); rintro e w3 ⟨rfl, h3⟩; have H3 := Lib.hid h3; clear h3)
    | (go_at_call 17; (with_reducible refine (G1.out _ _ H3.out).mono ?_); rintro e w4 ⟨rfl, h4⟩; have H4 := Lib.hid h4; clear h4)
    | (go_at_call 19; (with_reducible refine (N1.out _ _ _ H4.out).mono ?_); rintro e w5 ⟨rfl, h5⟩; have H5 := Lib.hid h5; clear h5)
    | (go_at_call 20; (with_reducible refine (T1.out _ _ _ H5.out).mono ?_); rintro e w6 ⟨rfl, h6⟩; have H6 := Lib.hid h6; clear h6)
    | (go_at_call 14; (with_reducible refine (R1.out _ _ H6.out).mono ?_); rintro e w7 ⟨rfl, h7⟩; have H7 := Lib.hid h7; clear h7)
    | (go_at_call 14; (with_reducible refine (R0.out _ _ H7.out).mono ?_); rintro e w8 ⟨rfl, h8⟩; have H8 := Lib.hid h8; clear h8)
    | (go_at_call 17; (with_reducible refine (G2.out _ _ H8.out).mono ?_); rintro e w9 ⟨rfl, h9⟩; have H9 := Lib.hid h9; clear h9)
    | (go_at_call 19; (with_reducible refine (N0.out _ _ H9.out).mono ?_); rintro e w10 ⟨rfl, h10⟩; have H10 := Lib.hid h10; clear h10)
    | (go_at_call 20; (with_reducible refine (T0.out _ _ H10.out).mono ?_); rintro e w11 ⟨rfl, h11⟩; have H11 := Lib.hid h11; clear h11)
    | (go_at_call 12; (with_reducible refine (P1.out _ _ H11.out).mono ?_); rintro e w12 ⟨rfl, h12⟩; have H12 := Lib.hid h12; clear h12)
    | (go_at_call 19; (with_reducible refine (N1.out _ _ _ H12.out).mono ?_); rintro e w13 ⟨rfl, h13⟩; have H13 := Lib.hid h13; clear h13))
  go_ret
  exact ⟨rfl, H13.out.1⟩
end Go.Proofs.Ytinkkdhlakfooaa
