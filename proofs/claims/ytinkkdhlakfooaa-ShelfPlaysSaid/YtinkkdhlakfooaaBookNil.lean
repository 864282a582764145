/-
  The walks of the book of lists over a kind of which it keeps none.
-/
import Derived.Test.YtinkkdhlakfooaaBase
namespace Go.Proofs.Ytinkkdhlakfooaa
open Go.RowKit

set_option maxHeartbeats 400000 in
theorem stillTexts_nil (g : Nat) (W : World) (h : W.cell? ⟨g, 0, none⟩ = some (.slice none 0 0)) :
    Calls Try.prog 40 #[.pointer (some ⟨g, 0, none⟩)] W fun e w' => e = .returned (.bool true) ∧ W = w' := by
  go_enter Try.func40, Try.ntmps40
  go_wp2
  go_loopg [3] 1 (fun gh s3 wx => s3 = .int .i64 0 ∧ W = wx)
  case atStart => exact ⟨rfl, rfl⟩
  case round =>
    obtain ⟨rfl, rfl⟩ := hrel
    go_wp2
    go_ret
    exact ⟨rfl, rfl⟩

set_option maxHeartbeats 400000 in
theorem putTexts_nil (g : Nat) (W : World) (h : W.cell? ⟨g, 0, none⟩ = some (.slice none 0 0)) :
    Calls Try.prog 49 #[.pointer (some ⟨g, 0, none⟩)] W fun e w' => e = .returned (.tuple #[]) ∧ W = w' := by
  go_enter Try.func49, Try.ntmps49
  go_wp2
  go_loopg [2] 1 (fun gh s2 wx => s2 = .int .i64 0 ∧ W = wx)
  case atStart => exact ⟨rfl, rfl⟩
  case round =>
    obtain ⟨rfl, rfl⟩ := hrel
    go_wp2
    go_end0
    exact ⟨rfl, rfl⟩

set_option maxHeartbeats 400000 in
theorem growTexts_nil (g : Nat) (W : World) (h : W.cell? ⟨g, 0, none⟩ = some (.slice none 0 0)) :
    Calls Try.prog 54 #[.pointer (some ⟨g, 0, none⟩)] W fun e w' => e = .returned (.slice none 0 0) ∧ W = w' := by
  go_enter Try.func54, Try.ntmps54
  go_wp2
  go_loopg [3, 4] 1 (fun gh s3 s4 wx => s3 = .slice none 0 0 ∧ s4 = .int .i64 0 ∧ W = wx)
  case atStart => exact ⟨rfl, rfl, rfl⟩
  case round =>
    obtain ⟨rfl, rfl, rfl⟩ := hrel
    go_wp2
    go_ret
    exact ⟨rfl, rfl⟩

set_option maxHeartbeats 400000 in
theorem markedTexts_nil (W : World) :
    Calls Try.prog 61 #[.slice none 0 0] W fun e w' => e = .returned (.bool true) ∧ W = w' := by
  go_enter Try.func61, Try.ntmps61
  go_wp2
  go_loopg [3] 1 (fun gh s3 wx => s3 = .int .i64 0 ∧ W = wx)
  case atStart => exact ⟨rfl, rfl⟩
  case round =>
    obtain ⟨rfl, rfl⟩ := hrel
    go_wp2
    go_ret
    exact ⟨rfl, rfl⟩

set_option maxHeartbeats 400000 in
theorem stillInts_nil (g : Nat) (W : World) (h : W.cell? ⟨g, 2, none⟩ = some (.slice none 0 0)) :
    Calls Try.prog 41 #[.pointer (some ⟨g, 0, none⟩)] W fun e w' => e = .returned (.bool true) ∧ W = w' := by
  go_enter Try.func41, Try.ntmps41
  go_wp2
  go_loopg [3] 1 (fun gh s3 wx => s3 = .int .i64 0 ∧ W = wx)
  case atStart => exact ⟨rfl, rfl⟩
  case round =>
    obtain ⟨rfl, rfl⟩ := hrel
    go_wp2
    go_ret
    exact ⟨rfl, rfl⟩

set_option maxHeartbeats 400000 in
theorem putInts_nil (g : Nat) (W : World) (h : W.cell? ⟨g, 2, none⟩ = some (.slice none 0 0)) :
    Calls Try.prog 50 #[.pointer (some ⟨g, 0, none⟩)] W fun e w' => e = .returned (.tuple #[]) ∧ W = w' := by
  go_enter Try.func50, Try.ntmps50
  go_wp2
  go_loopg [2] 1 (fun gh s2 wx => s2 = .int .i64 0 ∧ W = wx)
  case atStart => exact ⟨rfl, rfl⟩
  case round =>
    obtain ⟨rfl, rfl⟩ := hrel
    go_wp2
    go_end0
    exact ⟨rfl, rfl⟩

set_option maxHeartbeats 400000 in
theorem growInts_nil (g : Nat) (W : World) (h : W.cell? ⟨g, 2, none⟩ = some (.slice none 0 0)) :
    Calls Try.prog 55 #[.pointer (some ⟨g, 0, none⟩)] W fun e w' => e = .returned (.slice none 0 0) ∧ W = w' := by
  go_enter Try.func55, Try.ntmps55
  go_wp2
  go_loopg [3, 4] 1 (fun gh s3 s4 wx => s3 = .slice none 0 0 ∧ s4 = .int .i64 0 ∧ W = wx)
  case atStart => exact ⟨rfl, rfl, rfl⟩
  case round =>
    obtain ⟨rfl, rfl, rfl⟩ := hrel
    go_wp2
    go_ret
    exact ⟨rfl, rfl⟩

set_option maxHeartbeats 400000 in
theorem markedInts_nil (W : World) :
    Calls Try.prog 62 #[.slice none 0 0] W fun e w' => e = .returned (.bool true) ∧ W = w' := by
  go_enter Try.func62, Try.ntmps62
  go_wp2
  go_loopg [3] 1 (fun gh s3 wx => s3 = .int .i64 0 ∧ W = wx)
  case atStart => exact ⟨rfl, rfl⟩
  case round =>
    obtain ⟨rfl, rfl⟩ := hrel
    go_wp2
    go_ret
    exact ⟨rfl, rfl⟩

set_option maxHeartbeats 400000 in
theorem stillPoints_nil (g : Nat) (W : World) (h : W.cell? ⟨g, 4, none⟩ = some (.slice none 0 0)) :
    Calls Try.prog 42 #[.pointer (some ⟨g, 0, none⟩)] W fun e w' => e = .returned (.bool true) ∧ W = w' := by
  go_enter Try.func42, Try.ntmps42
  go_wp2
  go_loopg [3] 1 (fun gh s3 wx => s3 = .int .i64 0 ∧ W = wx)
  case atStart => exact ⟨rfl, rfl⟩
  case round =>
    obtain ⟨rfl, rfl⟩ := hrel
    go_wp2
    go_ret
    exact ⟨rfl, rfl⟩

set_option maxHeartbeats 400000 in
theorem putPoints_nil (g : Nat) (W : World) (h : W.cell? ⟨g, 4, none⟩ = some (.slice none 0 0)) :
    Calls Try.prog 51 #[.pointer (some ⟨g, 0, none⟩)] W fun e w' => e = .returned (.tuple #[]) ∧ W = w' := by
  go_enter Try.func51, Try.ntmps51
  go_wp2
  go_loopg [2] 1 (fun gh s2 wx => s2 = .int .i64 0 ∧ W = wx)
  case atStart => exact ⟨rfl, rfl⟩
  case round =>
    obtain ⟨rfl, rfl⟩ := hrel
    go_wp2
    go_end0
    exact ⟨rfl, rfl⟩

set_option maxHeartbeats 400000 in
theorem growPoints_nil (g : Nat) (W : World) (h : W.cell? ⟨g, 4, none⟩ = some (.slice none 0 0)) :
    Calls Try.prog 56 #[.pointer (some ⟨g, 0, none⟩)] W fun e w' => e = .returned (.slice none 0 0) ∧ W = w' := by
  go_enter Try.func56, Try.ntmps56
  go_wp2
  go_loopg [3, 4] 1 (fun gh s3 s4 wx => s3 = .slice none 0 0 ∧ s4 = .int .i64 0 ∧ W = wx)
  case atStart => exact ⟨rfl, rfl, rfl⟩
  case round =>
    obtain ⟨rfl, rfl, rfl⟩ := hrel
    go_wp2
    go_ret
    exact ⟨rfl, rfl⟩

set_option maxHeartbeats 400000 in
theorem markedPoints_nil (W : World) :
    Calls Try.prog 63 #[.slice none 0 0] W fun e w' => e = .returned (.bool true) ∧ W = w' := by
  go_enter Try.func63, Try.ntmps63
  go_wp2
  go_loopg [3] 1 (fun gh s3 wx => s3 = .int .i64 0 ∧ W = wx)
  case atStart => exact ⟨rfl, rfl⟩
  case round =>
    obtain ⟨rfl, rfl⟩ := hrel
    go_wp2
    go_ret
    exact ⟨rfl, rfl⟩

set_option maxHeartbeats 400000 in
theorem stillItems_nil (g : Nat) (W : World) (h : W.cell? ⟨g, 6, none⟩ = some (.slice none 0 0)) :
    Calls Try.prog 43 #[.pointer (some ⟨g, 0, none⟩)] W fun e w' => e = .returned (.bool true) ∧ W = w' := by
  go_enter Try.func43, Try.ntmps43
  go_wp2
  go_loopg [3] 1 (fun gh s3 wx => s3 = .int .i64 0 ∧ W = wx)
  case atStart => exact ⟨rfl, rfl⟩
  case round =>
    obtain ⟨rfl, rfl⟩ := hrel
    go_wp2
    go_ret
    exact ⟨rfl, rfl⟩

set_option maxHeartbeats 400000 in
theorem putItems_nil (g : Nat) (W : World) (h : W.cell? ⟨g, 6, none⟩ = some (.slice none 0 0)) :
    Calls Try.prog 52 #[.pointer (some ⟨g, 0, none⟩)] W fun e w' => e = .returned (.tuple #[]) ∧ W = w' := by
  go_enter Try.func52, Try.ntmps52
  go_wp2
  go_loopg [2] 1 (fun gh s2 wx => s2 = .int .i64 0 ∧ W = wx)
  case atStart => exact ⟨rfl, rfl⟩
  case round =>
    obtain ⟨rfl, rfl⟩ := hrel
    go_wp2
    go_end0
    exact ⟨rfl, rfl⟩

set_option maxHeartbeats 400000 in
theorem growItems_nil (g : Nat) (W : World) (h : W.cell? ⟨g, 6, none⟩ = some (.slice none 0 0)) :
    Calls Try.prog 57 #[.pointer (some ⟨g, 0, none⟩)] W fun e w' => e = .returned (.slice none 0 0) ∧ W = w' := by
  go_enter Try.func57, Try.ntmps57
  go_wp2
  go_loopg [3, 4] 1 (fun gh s3 s4 wx => s3 = .slice none 0 0 ∧ s4 = .int .i64 0 ∧ W = wx)
  case atStart => exact ⟨rfl, rfl, rfl⟩
  case round =>
    obtain ⟨rfl, rfl, rfl⟩ := hrel
    go_wp2
    go_ret
    exact ⟨rfl, rfl⟩

set_option maxHeartbeats 400000 in
theorem markedItems_nil (W : World) :
    Calls Try.prog 64 #[.slice none 0 0] W fun e w' => e = .returned (.bool true) ∧ W = w' := by
  go_enter Try.func64, Try.ntmps64
  go_wp2
  go_loopg [3] 1 (fun gh s3 wx => s3 = .int .i64 0 ∧ W = wx)
  case atStart => exact ⟨rfl, rfl⟩
  case round =>
    obtain ⟨rfl, rfl⟩ := hrel
    go_wp2
    go_ret
    exact ⟨rfl, rfl⟩

set_option maxHeartbeats 400000 in
theorem stillOwneds_nil (g : Nat) (W : World) (h : W.cell? ⟨g, 8, none⟩ = some (.slice none 0 0)) :
    Calls Try.prog 44 #[.pointer (some ⟨g, 0, none⟩)] W fun e w' => e = .returned (.bool true) ∧ W = w' := by
  go_enter Try.func44, Try.ntmps44
  go_wp2
  go_loopg [3] 1 (fun gh s3 wx => s3 = .int .i64 0 ∧ W = wx)
  case atStart => exact ⟨rfl, rfl⟩
  case round =>
    obtain ⟨rfl, rfl⟩ := hrel
    go_wp2
    go_ret
    exact ⟨rfl, rfl⟩

set_option maxHeartbeats 400000 in
theorem putOwneds_nil (g : Nat) (W : World) (h : W.cell? ⟨g, 8, none⟩ = some (.slice none 0 0)) :
    Calls Try.prog 53 #[.pointer (some ⟨g, 0, none⟩)] W fun e w' => e = .returned (.tuple #[]) ∧ W = w' := by
  go_enter Try.func53, Try.ntmps53
  go_wp2
  go_loopg [2] 1 (fun gh s2 wx => s2 = .int .i64 0 ∧ W = wx)
  case atStart => exact ⟨rfl, rfl⟩
  case round =>
    obtain ⟨rfl, rfl⟩ := hrel
    go_wp2
    go_end0
    exact ⟨rfl, rfl⟩

set_option maxHeartbeats 400000 in
theorem growOwneds_nil (g : Nat) (W : World) (h : W.cell? ⟨g, 8, none⟩ = some (.slice none 0 0)) :
    Calls Try.prog 58 #[.pointer (some ⟨g, 0, none⟩)] W fun e w' => e = .returned (.slice none 0 0) ∧ W = w' := by
  go_enter Try.func58, Try.ntmps58
  go_wp2
  go_loopg [3, 4] 1 (fun gh s3 s4 wx => s3 = .slice none 0 0 ∧ s4 = .int .i64 0 ∧ W = wx)
  case atStart => exact ⟨rfl, rfl, rfl⟩
  case round =>
    obtain ⟨rfl, rfl, rfl⟩ := hrel
    go_wp2
    go_ret
    exact ⟨rfl, rfl⟩

set_option maxHeartbeats 400000 in
theorem markedOwneds_nil (W : World) :
    Calls Try.prog 65 #[.slice none 0 0] W fun e w' => e = .returned (.bool true) ∧ W = w' := by
  go_enter Try.func65, Try.ntmps65
  go_wp2
  go_loopg [3] 1 (fun gh s3 wx => s3 = .int .i64 0 ∧ W = wx)
  case atStart => exact ⟨rfl, rfl⟩
  case round =>
    obtain ⟨rfl, rfl⟩ := hrel
    go_wp2
    go_ret
    exact ⟨rfl, rfl⟩

set_option maxHeartbeats 400000 in
theorem stillEvents_nil (g : Nat) (W : World) (h : W.cell? ⟨g, 10, none⟩ = some (.slice none 0 0)) :
    Calls Try.prog 45 #[.pointer (some ⟨g, 0, none⟩)] W fun e w' => e = .returned (.bool true) ∧ W = w' := by
  go_enter Try.func45, Try.ntmps45
  go_wp2
  go_loopg [3] 1 (fun gh s3 wx => s3 = .int .i64 0 ∧ W = wx)
  case atStart => exact ⟨rfl, rfl⟩
  case round =>
    obtain ⟨rfl, rfl⟩ := hrel
    go_wp2
    go_ret
    exact ⟨rfl, rfl⟩

set_option maxHeartbeats 400000 in
theorem putEvents_nil (g : Nat) (W : World) (h : W.cell? ⟨g, 10, none⟩ = some (.slice none 0 0)) :
    Calls Try.prog 47 #[.pointer (some ⟨g, 0, none⟩)] W fun e w' => e = .returned (.tuple #[]) ∧ W = w' := by
  go_enter Try.func47, Try.ntmps47
  go_wp2
  go_loopg [2] 1 (fun gh s2 wx => s2 = .int .i64 0 ∧ W = wx)
  case atStart => exact ⟨rfl, rfl⟩
  case round =>
    obtain ⟨rfl, rfl⟩ := hrel
    go_wp2
    go_end0
    exact ⟨rfl, rfl⟩

set_option maxHeartbeats 400000 in
theorem growEvents_nil (g : Nat) (W : World) (h : W.cell? ⟨g, 10, none⟩ = some (.slice none 0 0)) :
    Calls Try.prog 59 #[.pointer (some ⟨g, 0, none⟩)] W fun e w' => e = .returned (.slice none 0 0) ∧ W = w' := by
  go_enter Try.func59, Try.ntmps59
  go_wp2
  go_loopg [3, 4] 1 (fun gh s3 s4 wx => s3 = .slice none 0 0 ∧ s4 = .int .i64 0 ∧ W = wx)
  case atStart => exact ⟨rfl, rfl, rfl⟩
  case round =>
    obtain ⟨rfl, rfl, rfl⟩ := hrel
    go_wp2
    go_ret
    exact ⟨rfl, rfl⟩

set_option maxHeartbeats 400000 in
theorem markedEvents_nil (W : World) :
    Calls Try.prog 66 #[.slice none 0 0] W fun e w' => e = .returned (.bool true) ∧ W = w' := by
  go_enter Try.func66, Try.ntmps66
  go_wp2
  go_loopg [3] 1 (fun gh s3 wx => s3 = .int .i64 0 ∧ W = wx)
  case atStart => exact ⟨rfl, rfl⟩
  case round =>
    obtain ⟨rfl, rfl⟩ := hrel
    go_wp2
    go_ret
    exact ⟨rfl, rfl⟩

set_option maxHeartbeats 400000 in
theorem stillLetters_nil (g : Nat) (W : World) (h : W.cell? ⟨g, 12, none⟩ = some (.slice none 0 0)) :
    Calls Try.prog 46 #[.pointer (some ⟨g, 0, none⟩)] W fun e w' => e = .returned (.bool true) ∧ W = w' := by
  go_enter Try.func46, Try.ntmps46
  go_wp2
  go_loopg [3] 1 (fun gh s3 wx => s3 = .int .i64 0 ∧ W = wx)
  case atStart => exact ⟨rfl, rfl⟩
  case round =>
    obtain ⟨rfl, rfl⟩ := hrel
    go_wp2
    go_ret
    exact ⟨rfl, rfl⟩

set_option maxHeartbeats 400000 in
theorem putLetters_nil (g : Nat) (W : World) (h : W.cell? ⟨g, 12, none⟩ = some (.slice none 0 0)) :
    Calls Try.prog 48 #[.pointer (some ⟨g, 0, none⟩)] W fun e w' => e = .returned (.tuple #[]) ∧ W = w' := by
  go_enter Try.func48, Try.ntmps48
  go_wp2
  go_loopg [2] 1 (fun gh s2 wx => s2 = .int .i64 0 ∧ W = wx)
  case atStart => exact ⟨rfl, rfl⟩
  case round =>
    obtain ⟨rfl, rfl⟩ := hrel
    go_wp2
    go_end0
    exact ⟨rfl, rfl⟩

set_option maxHeartbeats 400000 in
theorem growLetters_nil (g : Nat) (W : World) (h : W.cell? ⟨g, 12, none⟩ = some (.slice none 0 0)) :
    Calls Try.prog 60 #[.pointer (some ⟨g, 0, none⟩)] W fun e w' => e = .returned (.slice none 0 0) ∧ W = w' := by
  go_enter Try.func60, Try.ntmps60
  go_wp2
  go_loopg [3, 4] 1 (fun gh s3 s4 wx => s3 = .slice none 0 0 ∧ s4 = .int .i64 0 ∧ W = wx)
  case atStart => exact ⟨rfl, rfl, rfl⟩
  case round =>
    obtain ⟨rfl, rfl, rfl⟩ := hrel
    go_wp2
    go_ret
    exact ⟨rfl, rfl⟩

set_option maxHeartbeats 400000 in
theorem markedLetters_nil (W : World) :
    Calls Try.prog 67 #[.slice none 0 0] W fun e w' => e = .returned (.bool true) ∧ W = w' := by
  go_enter Try.func67, Try.ntmps67
  go_wp2
  go_loopg [3] 1 (fun gh s3 wx => s3 = .int .i64 0 ∧ W = wx)
  case atStart => exact ⟨rfl, rfl⟩
  case round =>
    obtain ⟨rfl, rfl⟩ := hrel
    go_wp2
    go_ret
    exact ⟨rfl, rfl⟩

end Go.Proofs.Ytinkkdhlakfooaa
