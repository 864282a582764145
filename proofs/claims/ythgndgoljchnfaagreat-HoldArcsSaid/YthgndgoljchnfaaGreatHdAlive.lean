/-
  The first call of stage 14's statements.
-/
import Derived.Test.YthgndgoljchnfaaGreatHg32
import Derived.Test.YthgndgoljchnfaaGreatHg05
import Derived.Deep.DeepCutAuto
namespace Go.Proofs.YthgndgoljchnfaaGreat
open Go.RowKit

section
variable {VD : World → Nat → HO → List Nat → Prop}
abbrev ka : ByteArray := ⟨#[97]⟩
abbrev v1_ : ByteArray := ⟨#[49]⟩
def A1 : HO := (HO.new 3 9).take 0 0 2
def A2 : HO := A1.with [(ka, v1_)]
def A3 : HO := ⟨A2.nd, A2.most, A2.kept, A2.own, A2.its, ⟨true, 0, 9223372036854775808, A2.g.l, A2.g.k⟩, A2.k⟩
theorem A1_own (x : Nat) : A1.own x = some 2 := HO.take_own (in_whole 0 x)
theorem A1_not : ¬ A1.may 1 2 3 := fun h => by
  have := h.2 1 (by decide) (in_first _ _ (by decide) (by decide))
  rw [A1_own] at this
  cases this
theorem A1_put : A1.putE ka v1_ = 0 := by decide +kernel
theorem A1_putN : putN A1.its ka v1_ = [(ka, v1_)] := by decide +kernel
theorem A2_arc : (arcL A2.its 0 9223372036854775808).length = 1 := by decide +kernel
theorem A3_in : inB 0 9223372036854775808 (addrN ka) = true := by decide +kernel
theorem A3_frozen : A3.g.frozen (addrN ka) = true := by
  unfold GS.frozen
  show (true && inB 0 9223372036854775808 (addrN ka)) = true
  rw [A3_in]
  rfl
theorem A2_own (x : Nat) : A2.own x = some 2 := A1_own x
theorem A3_own (x : Nat) : A3.own x = some 2 := A1_own x
theorem lose_in {s : HO} {n : Int} {x : Nat} (h : inB s.g.f s.g.t x = true) : (s.lose n).own x = none := if_pos h
theorem lose_out {s : HO} {n : Int} {x : Nat} (h : inB s.g.f s.g.t x = false) : (s.lose n).own x = s.own x := if_neg (by rw [h]; simp)
theorem A3_in2 : inB A3.g.f A3.g.t (addrN ka) = true := A3_in
theorem A4_own : (A3.lose 7).own (addrN ka) = none := lose_in A3_in2
theorem A4_over : (overL (A3.lose 7).g.l (addrN ka)).getD (-1) = 7 := by
  have e : overL (A3.lose 7).g.l (addrN ka) = some 7 := (overL_snoc [] ⟨0, 9223372036854775808, 7, 0⟩ (addrN ka)).trans (if_pos A3_in)
  rw [e]
  rfl
theorem A3_left : (A3.lose 7).its = [] := by decide +kernel
theorem A2_great {e : Int} (h : Greatest A2.own (fun x => inB 0 9223372036854775808 x = true) e) : e = 2 := by
  obtain ⟨_, x, hx, _, h2⟩ := h
  have h2 : A1.own x = some e := h2
  rw [A1_own] at h2
  exact (Option.some.inj h2).symm
theorem told_er (a b c d e f : Value) (w : World) : (Instr.field 34 (.agg #[a, b, c, d, e, f]) 0).run Tryz.prog w = .ok a w := by kernel_rfl
theorem told_nd (a b c d e f : Value) (w : World) : (Instr.field 34 (.agg #[a, b, c, d, e, f]) 5).run Tryz.prog w = .ok f w := by kernel_rfl
theorem told_val (a b c d e f : Value) (w : World) : (Instr.field 34 (.agg #[a, b, c, d, e, f]) 1).run Tryz.prog w = .ok b w := by kernel_rfl
set_option maxRecDepth 20000 in
set_option maxHeartbeats 4000000 in
theorem holdAlive_any (L : HoldLaws VD) (W : World) : Calls Tryz.prog 11 #[] W fun e w' => e = .returned (.bool true) ∧ Below W.heap.size W w' := by
  have w0 : Wide 0 := ⟨by decide, by decide⟩
  have C0 : Hid (Calls Tryz.prog 12 #[.int .i64 3, .int .i64 9] W fun e w' => ∃ g, e = .returned (.pointer (some ⟨g, 0, none⟩)) ∧ DX VD W w' [] g (HO.new 3 9)) := by
    refine (DX.new (P := []) L 3 9 (Below.refl _ _) (by simp) ⟨by decide, by decide⟩ ⟨by decide, by decide⟩).mono ?_
    rintro e w' ⟨g, rfl, h, -⟩
    exact ⟨g, rfl, h⟩
  have C1 : Hid (∀ w g, DX VD W w [] g (HO.new 3 9) → Calls Tryz.prog 13 #[.pointer (some ⟨g, 0, none⟩), .agg #[.int .u64 0, .int .u64 0], .int .i64 2] w fun e w' => e = .returned (.bool true) ∧ DX VD W w' [] g A1) := fun w g h => by
    refine (h.own L 0 0 2 (by decide) (by decide) ⟨by decide, by decide⟩ (by decide)).mono ?_
    rintro e w' (⟨-, rfl, h1, -⟩ | ⟨h1, -⟩)
    · exact ⟨rfl, h1⟩
    · exact absurd (HO.may_new (by decide)) h1
  have C2 : Hid (∀ w g, DX VD W w [] g A1 → Calls Tryz.prog 13 #[.pointer (some ⟨g, 0, none⟩), .agg #[.int .u64 1, .int .u64 2], .int .i64 3] w fun e w' => e = .returned (.bool false) ∧ DX VD W w' [] g A1) := fun w g h => by
    refine (h.own L 1 2 3 (by decide) (by decide) ⟨by decide, by decide⟩ (by decide)).mono ?_
    rintro e w' (⟨h1, -⟩ | ⟨-, rfl, h1, -⟩)
    · exact absurd h1 A1_not
    · exact ⟨rfl, h1⟩
  have C3 : Hid (∀ w g, DX VD W w [] g A1 → Calls Tryz.prog 14 #[.pointer (some ⟨g, 0, none⟩), .agg #[.int .i64 2, .string ka, .string v1_, .string ⟨#[]⟩, .int .i64 0]] w fun e w' => ∃ A n c, e = .returned (.agg #[.int .i64 0, .string ⟨#[]⟩, .slice A n c, .bool false, .string ⟨#[]⟩, .int .i64 0]) ∧ DX VD W w' [] g A2) := fun w g h => by
    refine (h.do_ L ⟨2, ka, v1_, ⟨#[]⟩, 0⟩ ⟨⟨by simp, by simp⟩, by decide, by decide, by decide, ⟨by simp, by simp⟩⟩ (by decide) (by decide)).mono ?_
    rintro e w' ⟨t, s1, S, hd, rfl, ho, hx, -⟩
    obtain ⟨rfl, rfl⟩ := hd.put (by decide) (by decide) (A1_own _) rfl
    rw [A1_put] at hx ⊢
    rw [if_pos rfl, A1_putN] at hx
    obtain ⟨A, c, rfl⟩ := own_slice ho
    exact ⟨A, _, c, rfl, hx.less (by simp)⟩
  have C4 : Hid (∀ w g, DX VD W w [] g A2 → Calls Tryz.prog 20 #[.pointer (some ⟨g, 0, none⟩), .agg #[.int .u64 0, .int .u64 9223372036854775808]] w fun e w' => ∃ A c, e = .returned (.tuple #[.slice A 1 c, .int .i64 2, .int .i64 0]) ∧ DX VD W w' [] g A3) := fun w g h => by
    refine (h.freeze L 0 9223372036854775808 (by decide) (by decide) (by decide)).mono ?_
    rintro e w' ⟨l, ep, er, s1, S, rfl, ho, hx, -, (⟨z, _⟩ | ⟨_, ⟨x, _, _, z⟩, _⟩ | ⟨_, _, rfl, rfl, z, rfl⟩)⟩
    · exact absurd z (by decide)
    · rw [A2_own] at z
      cases z
    · obtain rfl := A2_great z
      rw [A2_arc] at ho
      obtain ⟨A, c, rfl⟩ := own_slice ho
      exact ⟨A, c, rfl, hx.less (by simp)⟩
  have C5 : Hid (∀ w g, DX VD W w [] g A3 → Calls Tryz.prog 14 #[.pointer (some ⟨g, 0, none⟩), .agg #[.int .i64 1, .string ka, .string ⟨#[]⟩, .string ⟨#[]⟩, .int .i64 0]] w fun e w' => ∃ A n c, e = .returned (.agg #[.int .i64 7, .string ⟨#[]⟩, .slice A n c, .bool false, .string ⟨#[]⟩, .int .i64 0]) ∧ DX VD W w' [] g A3) := fun w g h => by
    refine (h.do_ L ⟨1, ka, ⟨#[]⟩, ⟨#[]⟩, 0⟩ ⟨⟨by simp, by simp⟩, by decide, by decide, by decide, ⟨by simp, by simp⟩⟩ (by decide) (by decide)).mono ?_
    rintro e w' ⟨t, s1, S, hd, rfl, ho, hx, -⟩
    obtain ⟨rfl, rfl⟩ := hd.busy (by decide) (by decide) (by decide) (by decide) (A3_own _) A3_frozen
    obtain ⟨A, c, rfl⟩ := own_slice ho
    exact ⟨A, _, c, rfl, hx.less (by simp)⟩
  have C6 : Hid (∀ w g, DX VD W w [] g A3 → Calls Tryz.prog 25 #[.pointer (some ⟨g, 0, none⟩), .int .i64 7] w fun e w' => e = .returned (.int .i64 0) ∧ DX VD W w' [] g (A3.lose 7)) := fun w g h => by
    refine (h.lose L 7 ⟨by decide, by decide⟩ (by decide) (by decide)).mono ?_
    rintro e w' (⟨-, rfl, h1, -⟩ | ⟨z, -⟩)
    · exact ⟨rfl, h1⟩
    · exact absurd z (by decide)
  have C7 : Hid (∀ w g, DX VD W w [] g (A3.lose 7) → Calls Tryz.prog 14 #[.pointer (some ⟨g, 0, none⟩), .agg #[.int .i64 1, .string ka, .string ⟨#[]⟩, .string ⟨#[]⟩, .int .i64 0]] w fun e w' => ∃ A n c, e = .returned (.agg #[.int .i64 8, .string ⟨#[]⟩, .slice A n c, .bool false, .string ⟨#[]⟩, .int .i64 7]) ∧ DX VD W w' [] g (A3.lose 7)) := fun w g h => by
    refine (h.do_ L ⟨1, ka, ⟨#[]⟩, ⟨#[]⟩, 0⟩ ⟨⟨by simp, by simp⟩, by decide, by decide, by decide, ⟨by simp, by simp⟩⟩ (by decide) (by decide)).mono ?_
    rintro e w' ⟨t, s1, S, hd, rfl, ho, hx, -⟩
    have hz := hd.else_ (by decide) (by decide) (by decide) (by decide) A4_own
    rw [A4_over] at hz
    obtain ⟨rfl, rfl⟩ := hz
    obtain ⟨A, c, rfl⟩ := own_slice ho
    exact ⟨A, _, c, rfl, hx.less (by simp)⟩
  have C8 : Hid (∀ w g, DX VD W w [] g (A3.lose 7) → Calls Tryz.prog 18 #[.pointer (some ⟨g, 0, none⟩)] w fun e w' => e = .returned (.int .i64 0) ∧ Below W.heap.size W w') := fun w g h => by
    refine (h.len L).mono ?_
    rintro e w' ⟨rfl, h1⟩
    exact ⟨by rw [A3_left]; rfl, acc h.base h1⟩
  clear w0
  have f0 := told_er
  have f5 := told_nd
  go_enter Tryz.func11, Tryz.ntmps11
  go_wp2_with (first
    | (go_at_call 12; (with_reducible refine (C0.out).mono ?_); rintro e w1 ⟨g, rfl, x1⟩; have X1 := Lib.hid x1; clear x1)
    | (go_at_call 13; (with_reducible refine (C2.out _ _ X2.out).mono ?_); rintro e w3 ⟨rfl, x3⟩; have X3 := Lib.hid x3; clear x3)
    | (go_at_call 13; (with_reducible refine (C1.out _ _ X1.out).mono ?_); rintro e w2 ⟨rfl, x2⟩; have X2 := Lib.hid x2; clear x2)
    | (go_at_call 14; (with_reducible refine (C7.out _ _ X7.out).mono ?_); rintro e w8 ⟨A8, n8, c8, rfl, x8⟩; have X8 := Lib.hid x8; clear x8)
    | (go_at_call 14; (with_reducible refine (C5.out _ _ X5.out).mono ?_); rintro e w6 ⟨A6, n6, c6, rfl, x6⟩; have X6 := Lib.hid (x6.below L ((Below.refl _ _).alloc (Nat.le_refl _) (.cells #[.int .i64 7, .string ⟨#[]⟩, .slice A6 n6 c6, .bool false, .string ⟨#[]⟩, .int .i64 0] 34))); clear x6)
    | (go_at_call 14; (with_reducible refine (C3.out _ _ X3.out).mono ?_); rintro e w4 ⟨A4, n4, c4, rfl, x4⟩; have X4 := Lib.hid x4; clear x4)
    | (go_at_call 20; (with_reducible refine (C4.out _ _ X4.out).mono ?_); rintro e w5 ⟨A5, c5, rfl, x5⟩; have X5 := Lib.hid x5; clear x5)
    | (go_at_call 25; (with_reducible refine (C6.out _ _ X6.out).mono ?_); rintro e w7 ⟨rfl, x7⟩; have X7 := Lib.hid x7; clear x7)
    | (go_at_call 18; (with_reducible refine (C8.out _ _ X8.out).mono ?_); rintro e w9 ⟨rfl, x9⟩))
  go_ret
  exact ⟨rfl, x9⟩
end
end Go.Proofs.YthgndgoljchnfaaGreat
