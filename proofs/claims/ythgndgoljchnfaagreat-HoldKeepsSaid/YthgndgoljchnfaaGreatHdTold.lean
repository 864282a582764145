/-
  Two Tolds without items that are alike (the book's SameTold).
-/
import Derived.Test.YthgndgoljchnfaaGreatHdAlive
namespace Go.Proofs.YthgndgoljchnfaaGreat
open Go.RowKit

theorem same0_any (A B : Option Addr) (c d : Nat) (W : World) :
    Calls Tryz.prog 23 #[.slice A 0 c, .slice B 0 d] W fun e w' => e = .returned (.bool true) ∧ w' = W := by
  go_enter Tryz.func23, Tryz.ntmps23
  go_wp2
  go_loopg [5] 1 (fun gh s5 wx => gh = 1 ∧ s5 = .int .i64 0 ∧ wx = W)
  case atStart => exact ⟨rfl, rfl, rfl⟩
  case round =>
    obtain ⟨-, rfl, rfl⟩ := hrel
    go_wp2
    go_ret
    exact ⟨rfl, rfl⟩
theorem six_new (w : World) (a b c d e f : Value) (T : TypeId) : (w.alloc (.cells #[a, b, c, d, e, f] T)).cell? ⟨w.heap.size, 0, none⟩ = some a ∧ (w.alloc (.cells #[a, b, c, d, e, f] T)).cell? ⟨w.heap.size, 1, none⟩ = some b ∧ (w.alloc (.cells #[a, b, c, d, e, f] T)).cell? ⟨w.heap.size, 2, none⟩ = some c ∧ (w.alloc (.cells #[a, b, c, d, e, f] T)).cell? ⟨w.heap.size, 3, none⟩ = some d ∧ (w.alloc (.cells #[a, b, c, d, e, f] T)).cell? ⟨w.heap.size, 4, none⟩ = some e ∧ (w.alloc (.cells #[a, b, c, d, e, f] T)).cell? ⟨w.heap.size, 5, none⟩ = some f := by
  refine ⟨?_, ?_, ?_, ?_, ?_, ?_⟩ <;> go_simp
set_option maxRecDepth 20000 in
set_option maxHeartbeats 2000000 in
theorem told0_any (er nd : Int) (val nx : ByteArray) (mo : Bool) (A B : Option Addr) (c d : Nat) (W : World) :
    Calls Tryz.prog 26 #[.agg #[.int .i64 er, .string val, .slice A 0 c, .bool mo, .string nx, .int .i64 nd], .agg #[.int .i64 er, .string val, .slice B 0 d, .bool mo, .string nx, .int .i64 nd]] W fun e w' => e = .returned (.bool true) ∧ Below W.heap.size W w' := by
  have CS := Lib.hid (fun w => same0_any A B c d w)
  go_enter Tryz.func26, Tryz.ntmps26
  go_wp2_with (go_at_call 23; (with_reducible refine (CS.out _).mono ?_); rintro e w1 ⟨rfl, rfl⟩)
  go_ret
  exact ⟨by first | rfl | simp, ((Below.refl W.heap.size W).alloc (Nat.le_refl _) _).alloc (by simp) _⟩
end Go.Proofs.YthgndgoljchnfaaGreat
