/-
  The statements' first call, whose answer the document fixes.
-/
import Derived.Test.YtbnmddopgbhapaaGreatLetSame
import Derived.Test.YtbnmddopgbhapaaGreatLetName
namespace Go.Proofs.YtbnmddopgbhapaaGreat
open Go.RowKit

theorem wpList_load_rowG {P : Program} {ops : Array Oper} {rest : List Oper} {o : Oper} {a : Act} {w : World} {Q : Exit → Act → World → Prop} (hw : Region.wanted o (yielded ops a.tmps) = true) (ty : TypeId) (x : Operand) (ho : o.op = .load ty x)
    (g : Nat) (hx : a.eval x = .pointer (some ⟨g, 0, none⟩)) (t : TypeId) (cs : Array Value) (fr : Nat × Nat) (d : TypeDesc) (hg : w.heap[g]? = some (.cells cs t fr))
    (hu : P.underlying ty = some d) (hd : (match d with | .struct _ | .array _ _ => true | _ => false) = true) (hi : (P.info? ty).map (·.size) = some cs.size)
    (h : wpList P ops Q rest (a.put o.dst (.agg cs)) w) : wpList P ops Q (o :: rest) a w := by
  unfold wpList
  rw [if_pos hw]
  exact .inl (wp_load_row ty x ho g hx t cs fr d hg hu hd hi h)
/-- the letter of that call -/
def X0 : LV := { k := 10, f := 1, t := 2, i := 3, op := 0, key := ⟨#[]⟩, val := ⟨#[]⟩, kto := ⟨#[]⟩, most := 0, er := 0, tv := ⟨#[]⟩, ti := [], more := false, nx := ⟨#[]⟩, tn := 0, af := 5, au := 6, ep := 0, li := [], n := 4, nd := 0 }
abbrev XC : Array Value := #[.int .i64 10, .int .i64 1, .int .i64 2, .int .i64 3, .int .i64 0, .string ⟨#[]⟩, .string ⟨#[]⟩, .string ⟨#[]⟩, .int .i64 0, .int .i64 0, .string ⟨#[]⟩, .slice none 0 0, .bool false, .string ⟨#[]⟩, .int .i64 0, .int .u64 5, .int .u64 6, .int .i64 0, .slice none 0 0, .int .i64 4, .int .i64 0]
abbrev YCc (A1 : Option Addr) (k1 : Nat) (A2 : Option Addr) (k2 : Nat) : Array Value := #[.int .i64 10, .int .i64 1, .int .i64 2, .int .i64 3, .int .i64 0, .string ⟨#[]⟩, .string ⟨#[]⟩, .string ⟨#[]⟩, .int .i64 0, .int .i64 0, .string ⟨#[]⟩, (.slice A1 0 k1), .bool false, .string ⟨#[]⟩, .int .i64 0, .int .u64 5, .int .u64 6, .int .i64 0, (.slice A2 0 k2), .int .i64 4, .int .i64 0]
theorem x0_fine : X0.Fine := by
  constructor <;> first | exact ⟨by decide, by decide⟩ | decide | exact ⟨by decide, fun x hx => by cases hx⟩
theorem x0_some : (putL X0).isSome = true := by kernel_rfl
theorem x0_same : sameLB X0 X0 = true := by decide +kernel
def LGet0 (W : World) (e : Ending) (w' : World) : Prop := Below W.heap.size W w' ∧ ∃ A1 k1 A2 k2, e = .returned (.tuple #[.agg #[.int .i64 10, .int .i64 1, .int .i64 2, .int .i64 3, .int .i64 0, .string ⟨#[]⟩, .string ⟨#[]⟩, .string ⟨#[]⟩, .int .i64 0, .int .i64 0, .string ⟨#[]⟩, (.slice A1 0 k1), .bool false, .string ⟨#[]⟩, .int .i64 0, .int .u64 5, .int .u64 6, .int .i64 0, (.slice A2 0 k2), .int .i64 4, .int .i64 0], .bool true]) ∧ SlAt w' (.slice A1 0 k1) [] ∧ SlAt w' (.slice A2 0 k2) []
set_option maxRecDepth 20000 in
set_option maxHeartbeats 4000000 in
theorem alive_any (W : World) : Calls Tryz.prog 5 #[] W fun e w' => e = .returned (.bool true) ∧ Below W.heap.size W w' := by
  obtain ⟨B0, hB0⟩ := Option.isSome_iff_exists.1 x0_some
  have hsz0 : B0.size ≤ 9223372036854775807 := by
    have := catO_le 1000000 (letterOs X0) (letterOs_le X0)
    have e1 : catO (letterOs X0) = some B0 := hB0
    have e2 : (letterOs X0).length = 21 := rfl
    rw [e1, e2] at this
    have h3 : B0.size ≤ 21 * 1000000 := this
    omega
  have hg0 : getL B0 = some X0 := getL_of (by decide) (by decide) hB0
  have CP : Hid (∀ w, Calls Tryz.prog 7 #[.agg XC] w fun e w' => e = .returned (.tuple #[.string B0, .bool true]) ∧ Below w.heap.size w w') := fun w => by
    have h := lput_any X0 (.slice none 0 0) (.slice none 0 0) w x0_fine (SlAt.nil w) (SlAt.nil w)
    unfold PutPost at h
    rw [hB0] at h
    exact h
  have CG : Hid (∀ w, Calls Tryz.prog 12 #[.string B0] w (LGet0 w)) := fun w => (lget_any B0 w hsz0).mono fun e w' h => by
    obtain ⟨hb, ⟨h1, _⟩ | ⟨l, S1, S2, h1, rfl, h3, h4, h5⟩⟩ := h
    · rw [hg0] at h1; cases h1
    · rw [hg0] at h1
      obtain rfl := Option.some.inj h1
      obtain ⟨A1, k1, rfl⟩ := own_slice h3
      obtain ⟨A2, k2, rfl⟩ := own_slice h4
      exact ⟨hb, A1, k1, A2, k2, rfl, slAt_own h3, slAt_own h4⟩
  have CS : Hid (∀ w A1 k1 A2 k2, SlAt w (.slice A1 0 k1) [] → SlAt w (.slice A2 0 k2) [] → Calls Tryz.prog 15 #[.agg XC, .agg #[.int .i64 10, .int .i64 1, .int .i64 2, .int .i64 3, .int .i64 0, .string ⟨#[]⟩, .string ⟨#[]⟩, .string ⟨#[]⟩, .int .i64 0, .int .i64 0, .string ⟨#[]⟩, (.slice A1 0 k1), .bool false, .string ⟨#[]⟩, .int .i64 0, .int .u64 5, .int .u64 6, .int .i64 0, (.slice A2 0 k2), .int .i64 4, .int .i64 0]] w fun e w' => e = .returned (.bool true) ∧ Below w.heap.size w w') := fun w A1 k1 A2 k2 h1 h2 => by
    have h := sameLetter_any X0 X0 (.slice none 0 0) (.slice none 0 0) (.slice A1 0 k1) (.slice A2 0 k2) w (SlAt.nil w) (SlAt.nil w) h1 h2
    rw [x0_same] at h
    exact h
  have CN10 : Hid (∀ w, Calls Tryz.prog 16 #[.int .i64 10] w fun e w' => e = .returned (.string ⟨#[111, 102, 102, 101, 114]⟩) ∧ Below w.heap.size w w') := fun w => name_any_ 10 w (by decide) (by decide)
  have CN0 : Hid (∀ w, Calls Tryz.prog 16 #[.int .i64 0] w fun e w' => e = .returned (.string ⟨#[]⟩) ∧ Below w.heap.size w w') := fun w => name_any_ 0 w (by decide) (by decide)
  have hszX : (Tryz.prog.info? 32).map (·.size) = some XC.size := by kernel_rfl
  have hszZ : (Tryz.prog.info? 32).map (·.size) = some 21 := by kernel_rfl
  have honeX : XC.all (·.oneCell') = true := by first | decide | simp [XC, Value.oneCell']
  have hzx : ZC.size = XC.size := rfl
  have hg : (W.alloc (.cells ZC 32)).heap[W.heap.size]? = some (.cells ZC 32) := heap_alloc_new W _
  have hrow := setRow_at XC hg
  have HB1 : Hid (Below W.heap.size W ((W.alloc (.cells ZC 32)).setRow W.heap.size XC)) := ((Below.refl _ _).alloc (Nat.le_refl _) _).trans (below_setRow _ (Nat.le_refl _))
  clear hsz0 hB0 hg0
  go_enter Tryz.func5, Tryz.ntmps5
  go_wp2_with (first
    | (with_reducible (show wpList _ _ _ (⟨none, Op.store _ _ _, _, _, _, _⟩ :: _) _ _); go_must (refine wpList_store_row rfl 32 (.tmp 1) (.tmp 7) rfl W.heap.size XC rfl rfl 32 ZC hg hszX hzx honeX ?_))
    | (refine wpList_load_row rfl 32 (.tmp 1) rfl W.heap.size rfl 32 XC (0, 0) _ hrow Tryz.underlying32 rfl hszX ?_)
    | (go_at_call 7; ((with_reducible refine (CP.out _).mono ?_); rintro e w1 ⟨rfl, hb1⟩; have hrow1 := (hb1.block _ (lt_of_heap hrow)).trans hrow; have HB2 : Hid (Below W.heap.size W w1) := acc HB1.out hb1; clear hb1))
    | (go_at_call 12; fail))
  go_at_call 12
  with_reducible refine (CG.out _).mono ?_
  rintro e w2 ⟨hb2, A1, k1, A2, k2, rfl, s1, s2⟩
  have hszY : (Tryz.prog.info? 32).map (·.size) = some (YCc A1 k1 A2 k2).size := hszZ
  have honeY : (YCc A1 k1 A2 k2).all (·.oneCell') = true := by first | kernel_rfl | simp [Value.oneCell']
  have hzy : ZC.size = (YCc A1 k1 A2 k2).size := rfl
  have hg2 : (w2.alloc (.cells ZC 32)).heap[w2.heap.size]? = some (.cells ZC 32) := heap_alloc_new w2 _
  have hrowY := setRow_at (YCc A1 k1 A2 k2) hg2
  have B23 : Below w2.heap.size w2 ((w2.alloc (.cells ZC 32)).setRow w2.heap.size (YCc A1 k1 A2 k2)) := ((Below.refl _ _).alloc (Nat.le_refl _) _).trans (below_setRow _ (Nat.le_refl _))
  have hrowX : ((w2.alloc (.cells ZC 32)).setRow w2.heap.size (YCc A1 k1 A2 k2)).heap[W.heap.size]? = some (.cells XC 32) := (B23.block _ (Nat.lt_of_lt_of_le (lt_of_heap hrow1) hb2.size)).trans ((hb2.block _ (lt_of_heap hrow1)).trans hrow1)
  have CSS := Lib.hid (CS.out ((w2.alloc (.cells ZC 32)).setRow w2.heap.size (YCc A1 k1 A2 k2)) A1 k1 A2 k2 (s1.below B23) (s2.below B23))
  have HB3 : Hid (Below W.heap.size W ((w2.alloc (.cells ZC 32)).setRow w2.heap.size (YCc A1 k1 A2 k2))) := acc (acc HB2.out hb2) B23
  clear s1 s2 hb2 B23 hrow1 hrow hg
  go_wp2_with (first
    | (with_reducible (show wpList _ _ _ (⟨none, Op.store _ _ _, _, _, _, _⟩ :: _) _ _); go_must (refine wpList_store_row rfl 32 (.tmp 4) (.tmp 16) rfl w2.heap.size (YCc A1 k1 A2 k2) rfl rfl 32 ZC hg2 hszY hzy honeY ?_))
    | (refine wpList_load_rowG (by rfl) 32 (.tmp 1) rfl W.heap.size rfl 32 XC (0, 0) _ hrowX Tryz.underlying32 rfl hszX ?_)
    | (refine wpList_load_rowG (by rfl) 32 (.tmp 4) rfl w2.heap.size rfl 32 (YCc A1 k1 A2 k2) (0, 0) _ hrowY Tryz.underlying32 rfl hszY ?_)
    | (go_at_call 15; ((with_reducible refine (CSS.out).mono ?_); rintro e w4 ⟨rfl, hb4⟩; have HB4 : Hid (Below W.heap.size W w4) := acc HB3.out hb4; clear hb4))
    | (go_at_call 16; ((with_reducible refine (CN10.out _).mono ?_); rintro e w5 ⟨rfl, hb5⟩; have HB5 : Hid (Below W.heap.size W w5) := acc HB4.out hb5; clear hb5))
    | (go_at_call 16; ((with_reducible refine (CN0.out _).mono ?_); rintro e w6 ⟨rfl, hb6⟩; have HB6 : Hid (Below W.heap.size W w6) := acc HB5.out hb6; clear hb6)))
  go_ret
  exact ⟨rfl, HB6.out⟩
end Go.Proofs.YtbnmddopgbhapaaGreat
