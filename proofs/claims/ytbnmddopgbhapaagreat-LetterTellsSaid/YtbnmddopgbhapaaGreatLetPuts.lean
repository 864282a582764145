/-
  Package letter's fields, walked: what each tells of its bytes.
-/
import Derived.Test.YtbnmddopgbhapaaGreatLetWrite
import Derived.Deep.QuietTactic
import Derived.BigQuiet
import Derived.RegionTactic
import Derived.Deep.RegionWith
namespace Go.Proofs.YtbnmddopgbhapaaGreat
open Go.RowKit

/-- a cell of a block that there is -/
def At (W : World) (p : Addr) (v : Value) : Prop := p.block < W.heap.size ∧ W.cell? p = some v
theorem At.below {W W1 : World} {p : Addr} {v : Value} (h : At W p v) (hb : Below W.heap.size W W1) : At W1 p v := ⟨Nat.lt_of_lt_of_le h.1 hb.size, (hb.cell h.1).trans h.2⟩
theorem At.alloc {W : World} {p : Addr} {v : Value} (h : At W p v) (o : Obj) : At (W.alloc o) p v := h.below ((Below.refl _ _).alloc (Nat.le_refl _) o)
theorem At.new0 (W : World) (v0 : Value) (cs : List Value) (T : TypeId) : At (W.alloc (.cells (v0 :: cs).toArray T)) ⟨W.heap.size, 0, none⟩ v0 := ⟨by simp, by rw [Lib.cell_of_heap (heap_alloc_new W _)]; rfl⟩
theorem At.new (W : World) (cs : Array Value) (T : TypeId) (j : Nat) (v : Value) (h : cs[j]? = some v) : At (W.alloc (.cells cs T)) ⟨W.heap.size, j, none⟩ v := ⟨by simp, by rw [Lib.cell_of_heap (heap_alloc_new W _)]; exact h⟩

theorem belowN {B : Nat} {a b : World} (h : Below B a b) (n : Nat) : Below B a (b.drewN n) := ⟨h.os, h.tape, h.output, h.size, h.block⟩
/-- a number's cells, new -/
theorem box3 (W : World) (a b c : Value) (T : TypeId) : At (W.alloc (.cells #[a, b, c] T)) ⟨W.heap.size, 0, none⟩ a ∧ At (W.alloc (.cells #[a, b, c] T)) ⟨W.heap.size, 1, none⟩ b ∧ At (W.alloc (.cells #[a, b, c] T)) ⟨W.heap.size, 2, none⟩ c :=
  ⟨At.new _ _ _ 0 _ rfl, At.new _ _ _ 1 _ rfl, At.new _ _ _ 2 _ rfl⟩
set_option maxRecDepth 20000 in
set_option maxHeartbeats 1000000 in
theorem numright_any (p : Addr) (lo hi v : Int) (W : World) (hc : At W p (.int .i64 v)) :
    Calls Tryz.prog 131 #[.agg #[.pointer (some p), .int .i64 lo, .int .i64 hi]] W fun e w' => e = .returned (.bool (decide (lo ≤ v ∧ v ≤ hi))) ∧ Below W.heap.size W w' := by
  have h1 := hc.alloc (.cells #[.pointer (some p), .int .i64 lo, .int .i64 hi] 150)
  have h2 := h1.2
  clear h1
  by_cases g1 : lo ≤ v
  · have g1' : decide (v ≥ lo) = true := decide_eq_true g1
    by_cases g2 : v ≤ hi
    · have g2' : decide (v ≤ hi) = true := decide_eq_true g2
      rw [show decide (lo ≤ v ∧ v ≤ hi) = true from decide_eq_true ⟨g1, g2⟩]
      go_enter Tryz.func131, Tryz.ntmps131
      go_wp2
      go_quiet (fail)
      go_wp2
      go_ret
      exact ⟨rfl, belowN ((Below.refl _ _).alloc (Nat.le_refl _) _) nq⟩
    · have g2' : decide (v ≤ hi) = false := decide_eq_false g2
      rw [show decide (lo ≤ v ∧ v ≤ hi) = false from decide_eq_false (fun h => g2 h.2)]
      go_enter Tryz.func131, Tryz.ntmps131
      go_wp2
      go_quiet (fail)
      go_wp2
      go_ret
      exact ⟨rfl, belowN ((Below.refl _ _).alloc (Nat.le_refl _) _) nq⟩
  · have g1' : decide (v ≥ lo) = false := decide_eq_false g1
    rw [show decide (lo ≤ v ∧ v ≤ hi) = false from decide_eq_false (fun h => g1 h.1)]
    go_enter Tryz.func131, Tryz.ntmps131
    go_wp2
    go_quiet (fail)
    go_wp2
    go_ret
    exact ⟨rfl, belowN ((Below.refl _ _).alloc (Nat.le_refl _) _) nq⟩

/-- a number's field -/
abbrev numF (p : Addr) (lo hi : Int) : Value := .iface 150 (.agg #[.pointer (some p), .int .i64 lo, .int .i64 hi])
set_option maxRecDepth 20000 in
set_option maxHeartbeats 1000000 in
theorem numput_any (p : Addr) (lo hi v : Int) (W : World) (hc : At W p (.int .i64 v)) (h0 : 0 ≤ lo) (h1 : hi ≤ 65535) (b0 : -9223372036854775808 ≤ v) (b1 : v ≤ 9223372036854775807) :
    Calls Tryz.prog 130 #[.agg #[.pointer (some p), .int .i64 lo, .int .i64 hi]] W fun e w' => e = .returned (.tuple #[.string ((numP lo hi v).getD ByteArray.empty), .bool (numP lo hi v).isSome]) ∧ Below W.heap.size W w' := by
  have CN := Lib.hid fun w => num_any v w b0 b1
  obtain ⟨k0, k1, k2⟩ := box3 W (.pointer (some p)) (.int .i64 lo) (.int .i64 hi) 150
  have hc1 := hc.alloc (.cells #[.pointer (some p), .int .i64 lo, .int .i64 hi] 150)
  have C := Lib.hid (numright_any p lo hi v _ hc1)
  by_cases g : lo ≤ v ∧ v ≤ hi
  · rw [show numP lo hi v = some (numT v) from if_pos g]
    rw [show okNum v = true by simp [okNum]; omega] at CN
    rw [decide_eq_true g] at C
    clear b0 b1 h0 h1 g
    go_enter Tryz.func130, Tryz.ntmps130
    go_wp2_with (first
      | (go_at_call 131; ((with_reducible refine (C.out).mono ?_); rintro e w1 ⟨rfl, hb⟩; have z0 := (k0.below hb).2; have z1 := (hc1.below hb).2; have HB := Lib.hid hb; clear hb))
      | (go_at_call 128; ((with_reducible refine (CN.out _).mono ?_); rintro e w2 ⟨rfl, hb2⟩)))
    go_ret2
    exact ⟨rfl, acc (acc ((Below.refl _ _).alloc (Nat.le_refl _) _) HB.out) hb2⟩
  · rw [show numP lo hi v = none from if_neg g]
    rw [decide_eq_false g] at C
    clear b0 b1 h0 h1 g CN
    go_enter Tryz.func130, Tryz.ntmps130
    go_wp2_with (first
      | (go_at_call 131; ((with_reducible refine (C.out).mono ?_); rintro e w1 ⟨rfl, hb⟩)))
    go_ret2
    exact ⟨rfl, acc ((Below.refl _ _).alloc (Nat.le_refl _) _) hb⟩
theorem puts_num (p : Addr) (lo hi v : Int) (W : World) (hc : At W p (.int .i64 v)) (h0 : 0 ≤ lo) (h1 : hi ≤ 65535) (b0 : -9223372036854775808 ≤ v) (b1 : v ≤ 9223372036854775807) : PutsTo W (numF p lo hi) (numP lo hi v) :=
  ⟨150, _, 130, rfl, fun _ => by kernel_rfl, fun _ => by kernel_rfl, fun _ _ => by kernel_rfl, fun w hw => numput_any p lo hi v w (hc.below hw) h0 h1 b0 b1⟩

set_option maxRecDepth 20000 in
set_option maxHeartbeats 1000000 in
theorem errright_any (p : Addr) (lo hi v : Int) (W : World) (hc : At W p (.int .i64 v)) :
    Calls Tryz.prog 136 #[.agg #[.pointer (some p), .int .i64 lo, .int .i64 hi]] W fun e w' => e = .returned (.bool (decide (lo ≤ v ∧ v ≤ hi))) ∧ Below W.heap.size W w' := by
  have h1 := hc.alloc (.cells #[.pointer (some p), .int .i64 lo, .int .i64 hi] 152)
  have h2 := h1.2
  clear h1
  by_cases g1 : lo ≤ v
  · have g1' : decide (v ≥ lo) = true := decide_eq_true g1
    by_cases g2 : v ≤ hi
    · have g2' : decide (v ≤ hi) = true := decide_eq_true g2
      rw [show decide (lo ≤ v ∧ v ≤ hi) = true from decide_eq_true ⟨g1, g2⟩]
      go_enter Tryz.func136, Tryz.ntmps136
      go_wp2
      go_quiet (fail)
      go_wp2
      go_ret
      exact ⟨rfl, belowN ((Below.refl _ _).alloc (Nat.le_refl _) _) nq⟩
    · have g2' : decide (v ≤ hi) = false := decide_eq_false g2
      rw [show decide (lo ≤ v ∧ v ≤ hi) = false from decide_eq_false (fun h => g2 h.2)]
      go_enter Tryz.func136, Tryz.ntmps136
      go_wp2
      go_quiet (fail)
      go_wp2
      go_ret
      exact ⟨rfl, belowN ((Below.refl _ _).alloc (Nat.le_refl _) _) nq⟩
  · have g1' : decide (v ≥ lo) = false := decide_eq_false g1
    rw [show decide (lo ≤ v ∧ v ≤ hi) = false from decide_eq_false (fun h => g1 h.1)]
    go_enter Tryz.func136, Tryz.ntmps136
    go_wp2
    go_quiet (fail)
    go_wp2
    go_ret
    exact ⟨rfl, belowN ((Below.refl _ _).alloc (Nat.le_refl _) _) nq⟩

/-- a number's field -/
abbrev errF (p : Addr) (lo hi : Int) : Value := .iface 152 (.agg #[.pointer (some p), .int .i64 lo, .int .i64 hi])
set_option maxRecDepth 20000 in
set_option maxHeartbeats 1000000 in
theorem errput_any (p : Addr) (lo hi v : Int) (W : World) (hc : At W p (.int .i64 v)) (h0 : 0 ≤ lo) (h1 : hi ≤ 65535) (b0 : -9223372036854775808 ≤ v) (b1 : v ≤ 9223372036854775807) :
    Calls Tryz.prog 135 #[.agg #[.pointer (some p), .int .i64 lo, .int .i64 hi]] W fun e w' => e = .returned (.tuple #[.string ((numP lo hi v).getD ByteArray.empty), .bool (numP lo hi v).isSome]) ∧ Below W.heap.size W w' := by
  have CN := Lib.hid fun w => num_any v w b0 b1
  obtain ⟨k0, k1, k2⟩ := box3 W (.pointer (some p)) (.int .i64 lo) (.int .i64 hi) 152
  have hc1 := hc.alloc (.cells #[.pointer (some p), .int .i64 lo, .int .i64 hi] 152)
  have C := Lib.hid (errright_any p lo hi v _ hc1)
  by_cases g : lo ≤ v ∧ v ≤ hi
  · rw [show numP lo hi v = some (numT v) from if_pos g]
    rw [show okNum v = true by simp [okNum]; omega] at CN
    rw [decide_eq_true g] at C
    clear b0 b1 h0 h1 g
    go_enter Tryz.func135, Tryz.ntmps135
    go_wp2_with (first
      | (go_at_call 136; ((with_reducible refine (C.out).mono ?_); rintro e w1 ⟨rfl, hb⟩; have z0 := (k0.below hb).2; have z1 := (hc1.below hb).2; have HB := Lib.hid hb; clear hb))
      | (go_at_call 128; ((with_reducible refine (CN.out _).mono ?_); rintro e w2 ⟨rfl, hb2⟩)))
    go_ret2
    exact ⟨rfl, acc (acc ((Below.refl _ _).alloc (Nat.le_refl _) _) HB.out) hb2⟩
  · rw [show numP lo hi v = none from if_neg g]
    rw [decide_eq_false g] at C
    clear b0 b1 h0 h1 g CN
    go_enter Tryz.func135, Tryz.ntmps135
    go_wp2_with (first
      | (go_at_call 136; ((with_reducible refine (C.out).mono ?_); rintro e w1 ⟨rfl, hb⟩)))
    go_ret2
    exact ⟨rfl, acc ((Below.refl _ _).alloc (Nat.le_refl _) _) hb⟩
theorem puts_err (p : Addr) (lo hi v : Int) (W : World) (hc : At W p (.int .i64 v)) (h0 : 0 ≤ lo) (h1 : hi ≤ 65535) (b0 : -9223372036854775808 ≤ v) (b1 : v ≤ 9223372036854775807) : PutsTo W (errF p lo hi) (numP lo hi v) :=
  ⟨152, _, 135, rfl, fun _ => by kernel_rfl, fun _ => by kernel_rfl, fun _ _ => by kernel_rfl, fun w hw => errput_any p lo hi v w (hc.below hw) h0 h1 b0 b1⟩

/-- a field of this kind -/
abbrev wideF (p : Addr) : Value := .iface 108 (.agg #[.pointer (some p)])
set_option maxRecDepth 20000 in
set_option maxHeartbeats 1000000 in
theorem wideput_any (p : Addr) (x : Nat) (hx : x < 18446744073709551616) (W : World) (hc : At W p (.int .u64 (x : Nat))) :
    Calls Tryz.prog 109 #[.agg #[.pointer (some p)]] W fun e w' => e = .returned (.tuple #[.string ((some (txt (wideN 8 x))).getD ByteArray.empty), .bool (some (txt (wideN 8 x))).isSome]) ∧ Below W.heap.size W w' := by
  have hc1 := (hc.alloc (.cells #[.pointer (some p)] 108)).2
  have CN := Lib.hid fun w => wide_any x w hx
  clear hx
  go_enter Tryz.func109, Tryz.ntmps109
  go_wp2_with (first
    | (go_at_call 112; ((with_reducible refine (CN.out _).mono ?_); rintro e w2 ⟨rfl, hb2⟩)))
  go_ret2
  exact ⟨rfl, acc ((Below.refl _ _).alloc (Nat.le_refl _) _) hb2⟩
theorem puts_wide (p : Addr) (x : Nat) (hx : x < 18446744073709551616) (W : World) (hc : At W p (.int .u64 (x : Nat))) : PutsTo W (wideF p) (some (txt (wideN 8 x))) :=
  ⟨108, _, 109, rfl, fun _ => by kernel_rfl, fun _ => by kernel_rfl, fun _ _ => by kernel_rfl, fun w hw => wideput_any p x hx w (hc.below hw)⟩

/-- a field of this kind -/
abbrev textF (p : Addr) : Value := .iface 114 (.agg #[.pointer (some p)])
set_option maxRecDepth 20000 in
set_option maxHeartbeats 1000000 in
theorem textput_any (p : Addr) (s : ByteArray) (hs : s.size ≤ 9223372036854775807) (W : World) (hc : At W p (.string s)) :
    Calls Tryz.prog 121 #[.agg #[.pointer (some p)]] W fun e w' => e = .returned (.tuple #[.string ((textP s).getD ByteArray.empty), .bool (textP s).isSome]) ∧ Below W.heap.size W w' := by
  have hc1 := (hc.alloc (.cells #[.pointer (some p)] 114)).2
  have CN := Lib.hid fun w => text_any s w hs
  have e1 : (textP s).getD ByteArray.empty = textT s := by
    unfold textP textT
    cases okText s <;> rfl
  have e2 : (textP s).isSome = okText s := by
    unfold textP
    cases okText s <;> rfl
  rw [e1, e2]
  clear hs e1 e2
  go_enter Tryz.func121, Tryz.ntmps121
  go_wp2_with (first
    | (go_at_call 124; ((with_reducible refine (CN.out _).mono ?_); rintro e w2 ⟨rfl, hb2⟩)))
  go_ret2
  exact ⟨rfl, acc ((Below.refl _ _).alloc (Nat.le_refl _) _) hb2⟩
theorem puts_text (p : Addr) (s : ByteArray) (hs : s.size ≤ 9223372036854775807) (W : World) (hc : At W p (.string s)) : PutsTo W (textF p) (textP s) :=
  ⟨114, _, 121, rfl, fun _ => by kernel_rfl, fun _ => by kernel_rfl, fun _ _ => by kernel_rfl, fun w hw => textput_any p s hs w (hc.below hw)⟩

/-- a field of this kind -/
abbrev flagF (p : Addr) : Value := .iface 119 (.agg #[.pointer (some p)])
set_option maxRecDepth 20000 in
set_option maxHeartbeats 1000000 in
theorem flagput_any (p : Addr) (b : Bool) (W : World) (hc : At W p (.bool b)) :
    Calls Tryz.prog 126 #[.agg #[.pointer (some p)]] W fun e w' => e = .returned (.tuple #[.string ((some (numT (if b then 1 else 0))).getD ByteArray.empty), .bool (some (numT (if b then 1 else 0))).isSome]) ∧ Below W.heap.size W w' := by
  have hc1 := (hc.alloc (.cells #[.pointer (some p)] 119)).2
  cases b with
  | true =>
    have CN := Lib.hid fun w => num_any 1 w (by omega) (by omega)
    go_enter Tryz.func126, Tryz.ntmps126
    go_wp2_with (first
      | (go_at_call 128; ((with_reducible refine (CN.out _).mono ?_); rintro e w2 ⟨rfl, hb2⟩)))
    go_ret2
    exact ⟨rfl, acc ((Below.refl _ _).alloc (Nat.le_refl _) _) hb2⟩
  | false =>
    have CN := Lib.hid fun w => num_any 0 w (by omega) (by omega)
    go_enter Tryz.func126, Tryz.ntmps126
    go_wp2_with (first
      | (go_at_call 128; ((with_reducible refine (CN.out _).mono ?_); rintro e w2 ⟨rfl, hb2⟩)))
    go_ret2
    exact ⟨rfl, acc ((Below.refl _ _).alloc (Nat.le_refl _) _) hb2⟩
theorem puts_flag (p : Addr) (b : Bool) (W : World) (hc : At W p (.bool b)) : PutsTo W (flagF p) (some (numT (if b then 1 else 0))) :=
  ⟨119, _, 126, rfl, fun _ => by kernel_rfl, fun _ => by kernel_rfl, fun _ _ => by kernel_rfl, fun w hw => flagput_any p b w (hc.below hw)⟩

end Go.Proofs.YtbnmddopgbhapaaGreat
