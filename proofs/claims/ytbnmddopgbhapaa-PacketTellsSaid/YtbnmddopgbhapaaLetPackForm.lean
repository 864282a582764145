/-
  Package letter's fields of a packet, walked: which lies where.
-/
import Derived.Test.YtbnmddopgbhapaaLetLawC
namespace Go.Proofs.Ytbnmddopgbhapaa
open Go.RowKit

/-- the letter in a packet -/
abbrev insideF (b : Nat) : Value := .iface 89 (.agg #[.pointer (some ⟨b, 0, none⟩)])
def packetFs (b : Nat) : List Value := [numF ⟨b, 0, none⟩ 0 255, numF ⟨b, 1, none⟩ 0 255, numF ⟨b, 2, none⟩ 0 65535, numF ⟨b, 3, none⟩ 0 65535, insideF b]
noncomputable def opsP : Array Oper := match Try.f26.body with
  | some (.seq _ (.seq (.region _ ops _) _)) => ops
  | _ => #[]
def ap0x0 (b : Nat) : Act := ⟨#[.pointer (some ⟨b, 0, none⟩), undef, .slice none 0 0, undef, undef, undef, undef, undef, undef, undef, undef, undef, undef, undef, undef, undef, undef, undef, undef, undef, undef, undef, undef], []⟩
def lp0 : Array Bool := #[false, false, false, false, false, false, false, false, false, false, false, false, false, false, false, false, false, false, false, false, false]
def ap0x1 (b : Nat) : Act := ⟨#[.pointer (some ⟨b, 0, none⟩), undef, .slice none 0 0, .pointer (some ⟨b, 0, none⟩), .pointer (some ⟨b, 0, none⟩), .pointer (some ⟨b, 0, none⟩), undef, .pointer (some ⟨b, 0, none⟩), .pointer (some ⟨b, 0, none⟩), .pointer (some ⟨b, 1, none⟩), undef, .pointer (some ⟨b, 0, none⟩), undef, undef, undef, undef, undef, undef, undef, undef, undef, undef, undef], []⟩
def lp1 : Array Bool := #[true, true, true, false, true, true, true, false, true, false, false, false, false, false, false, false, false, false, false, false, false]
theorem tp0x0 (b : Nat) : TakesOk Try.prog opsP [(0, .pointer (some ⟨b, 0, none⟩)), (1, .pointer (some ⟨b, 0, none⟩)), (2, .pointer (some ⟨b, 0, none⟩)), (4, .pointer (some ⟨b, 0, none⟩)), (5, .pointer (some ⟨b, 0, none⟩)), (6, .pointer (some ⟨b, 1, none⟩)), (8, .pointer (some ⟨b, 0, none⟩))] lp0 (ap0x0 b) :=
  (takes_cons (by kernel_rfl) (by kernel_rfl) (by kernel_rfl) (by kernel_rfl) (fun _ => by kernel_rfl) (takes_cons (by kernel_rfl) (by kernel_rfl) (by kernel_rfl) (by kernel_rfl) (fun _ => by kernel_rfl) (takes_cons (by kernel_rfl) (by kernel_rfl) (by kernel_rfl) (by kernel_rfl) (fun _ => by kernel_rfl) (takes_cons (by kernel_rfl) (by kernel_rfl) (by kernel_rfl) (by kernel_rfl) (fun _ => by kernel_rfl) (takes_cons (by kernel_rfl) (by kernel_rfl) (by kernel_rfl) (by kernel_rfl) (fun _ => by kernel_rfl) (takes_cons (by kernel_rfl) (by kernel_rfl) (by kernel_rfl) (by kernel_rfl) (fun _ => by kernel_rfl) (takes_cons (by kernel_rfl) (by kernel_rfl) (by kernel_rfl) (by kernel_rfl) (fun _ => by kernel_rfl) takes_nil)))))))
theorem cp0x0 (b : Nat) : listedOf [(0, .pointer (some ⟨b, 0, none⟩)), (1, .pointer (some ⟨b, 0, none⟩)), (2, .pointer (some ⟨b, 0, none⟩)), (4, .pointer (some ⟨b, 0, none⟩)), (5, .pointer (some ⟨b, 0, none⟩)), (6, .pointer (some ⟨b, 1, none⟩)), (8, .pointer (some ⟨b, 0, none⟩))] lp0 = lp1 ∧ actsOf opsP [(0, .pointer (some ⟨b, 0, none⟩)), (1, .pointer (some ⟨b, 0, none⟩)), (2, .pointer (some ⟨b, 0, none⟩)), (4, .pointer (some ⟨b, 0, none⟩)), (5, .pointer (some ⟨b, 0, none⟩)), (6, .pointer (some ⟨b, 1, none⟩)), (8, .pointer (some ⟨b, 0, none⟩))] (ap0x0 b) = ap0x1 b := ⟨by kernel_rfl, by kernel_rfl⟩
def ap0x2 (b : Nat) : Act := ⟨#[.pointer (some ⟨b, 0, none⟩), undef, .slice none 0 0, .pointer (some ⟨b, 0, none⟩), .pointer (some ⟨b, 0, none⟩), .pointer (some ⟨b, 0, none⟩), undef, .pointer (some ⟨b, 0, none⟩), .pointer (some ⟨b, 0, none⟩), .pointer (some ⟨b, 1, none⟩), undef, .pointer (some ⟨b, 0, none⟩), .pointer (some ⟨b, 0, none⟩), .pointer (some ⟨b, 2, none⟩), undef, .pointer (some ⟨b, 0, none⟩), .pointer (some ⟨b, 0, none⟩), .pointer (some ⟨b, 3, none⟩), undef, .pointer (some ⟨b, 0, none⟩), .agg #[.pointer (some ⟨b, 0, none⟩)], undef, undef], []⟩
def lp2 : Array Bool := #[true, true, true, false, true, true, true, false, true, true, true, false, true, true, true, false, true, true, false, false, false]
theorem tp0x1 (b : Nat) : TakesOk Try.prog opsP [(9, .pointer (some ⟨b, 0, none⟩)), (10, .pointer (some ⟨b, 2, none⟩)), (12, .pointer (some ⟨b, 0, none⟩)), (13, .pointer (some ⟨b, 0, none⟩)), (14, .pointer (some ⟨b, 3, none⟩)), (16, .pointer (some ⟨b, 0, none⟩)), (17, .agg #[.pointer (some ⟨b, 0, none⟩)])] lp1 (ap0x1 b) :=
  (takes_cons (by kernel_rfl) (by kernel_rfl) (by kernel_rfl) (by kernel_rfl) (fun _ => by kernel_rfl) (takes_cons (by kernel_rfl) (by kernel_rfl) (by kernel_rfl) (by kernel_rfl) (fun _ => by kernel_rfl) (takes_cons (by kernel_rfl) (by kernel_rfl) (by kernel_rfl) (by kernel_rfl) (fun _ => by kernel_rfl) (takes_cons (by kernel_rfl) (by kernel_rfl) (by kernel_rfl) (by kernel_rfl) (fun _ => by kernel_rfl) (takes_cons (by kernel_rfl) (by kernel_rfl) (by kernel_rfl) (by kernel_rfl) (fun _ => by kernel_rfl) (takes_cons (by kernel_rfl) (by kernel_rfl) (by kernel_rfl) (by kernel_rfl) (fun _ => by kernel_rfl) (takes_cons (by kernel_rfl) (by kernel_rfl) (by kernel_rfl) (by kernel_rfl) (fun _ => by kernel_rfl) takes_nil)))))))
theorem cp0x1 (b : Nat) : listedOf [(9, .pointer (some ⟨b, 0, none⟩)), (10, .pointer (some ⟨b, 2, none⟩)), (12, .pointer (some ⟨b, 0, none⟩)), (13, .pointer (some ⟨b, 0, none⟩)), (14, .pointer (some ⟨b, 3, none⟩)), (16, .pointer (some ⟨b, 0, none⟩)), (17, .agg #[.pointer (some ⟨b, 0, none⟩)])] lp1 = lp2 ∧ actsOf opsP [(9, .pointer (some ⟨b, 0, none⟩)), (10, .pointer (some ⟨b, 2, none⟩)), (12, .pointer (some ⟨b, 0, none⟩)), (13, .pointer (some ⟨b, 0, none⟩)), (14, .pointer (some ⟨b, 3, none⟩)), (16, .pointer (some ⟨b, 0, none⟩)), (17, .agg #[.pointer (some ⟨b, 0, none⟩)])] (ap0x1 b) = ap0x2 b := ⟨by kernel_rfl, by kernel_rfl⟩
def ap0x3 (b : Nat) : Act := ⟨#[.pointer (some ⟨b, 0, none⟩), undef, .slice none 0 0, .pointer (some ⟨b, 0, none⟩), .pointer (some ⟨b, 0, none⟩), .pointer (some ⟨b, 0, none⟩), undef, .pointer (some ⟨b, 0, none⟩), .pointer (some ⟨b, 0, none⟩), .pointer (some ⟨b, 1, none⟩), undef, .pointer (some ⟨b, 0, none⟩), .pointer (some ⟨b, 0, none⟩), .pointer (some ⟨b, 2, none⟩), undef, .pointer (some ⟨b, 0, none⟩), .pointer (some ⟨b, 0, none⟩), .pointer (some ⟨b, 3, none⟩), undef, .pointer (some ⟨b, 0, none⟩), .agg #[.pointer (some ⟨b, 0, none⟩)], .iface 89 (.agg #[.pointer (some ⟨b, 0, none⟩)]), undef], []⟩
def lp3 : Array Bool := #[true, true, true, false, true, true, true, false, true, true, true, false, true, true, true, false, true, true, true, false, false]
theorem tp0x2 (b : Nat) : TakesOk Try.prog opsP [(18, .iface 89 (.agg #[.pointer (some ⟨b, 0, none⟩)]))] lp2 (ap0x2 b) :=
  (takes_cons (by kernel_rfl) (by kernel_rfl) (by kernel_rfl) (by kernel_rfl) (fun _ => by kernel_rfl) takes_nil)
theorem cp0x2 (b : Nat) : listedOf [(18, .iface 89 (.agg #[.pointer (some ⟨b, 0, none⟩)]))] lp2 = lp3 ∧ actsOf opsP [(18, .iface 89 (.agg #[.pointer (some ⟨b, 0, none⟩)]))] (ap0x2 b) = ap0x3 b := ⟨by kernel_rfl, by kernel_rfl⟩
set_option maxRecDepth 100000 in
set_option maxHeartbeats 4000000 in
theorem of_packet (b : Nat) (W : World) :
    Calls Try.prog 26 #[.pointer (some ⟨b, 0, none⟩)] W (NewFields W (packetFs b)) := by
  have CN := Lib.hid mknum_any
  go_enter Try.func26, Try.ntmps26
  go_wp2
  refine region_cast (ops' := opsP) (by kernel_rfl) ?_
  refine wp_region_held_drew (S := (fun w' => 0 ≤ w'.heap.size)) (by kernel_rfl) (Nat.zero_le _) (fun hHeld => ?_)
  refine held_cast (fuel' := 21) (listed' := lp0) (a' := ap0x0 b) (by kernel_rfl) (by kernel_rfl) (by kernel_rfl) ?_
  refine wpAnyH_takes (by kernel_rfl) (fun d _ _ _ _ h => by cases d <;> exact h) (by assumption) [(0, .pointer (some ⟨b, 0, none⟩)), (1, .pointer (some ⟨b, 0, none⟩)), (2, .pointer (some ⟨b, 0, none⟩)), (4, .pointer (some ⟨b, 0, none⟩)), (5, .pointer (some ⟨b, 0, none⟩)), (6, .pointer (some ⟨b, 1, none⟩)), (8, .pointer (some ⟨b, 0, none⟩))] (fuel := 14) (by kernel_rfl) (tp0x0 b) ?_
  refine held_cast (fuel' := 14) rfl (cp0x0 b).1 (cp0x0 b).2 ?_
  refine wpAnyH_takes (by kernel_rfl) (fun d _ _ _ _ h => by cases d <;> exact h) (by assumption) [(9, .pointer (some ⟨b, 0, none⟩)), (10, .pointer (some ⟨b, 2, none⟩)), (12, .pointer (some ⟨b, 0, none⟩)), (13, .pointer (some ⟨b, 0, none⟩)), (14, .pointer (some ⟨b, 3, none⟩)), (16, .pointer (some ⟨b, 0, none⟩)), (17, .agg #[.pointer (some ⟨b, 0, none⟩)])] (fuel := 7) (by kernel_rfl) (tp0x1 b) ?_
  refine held_cast (fuel' := 7) rfl (cp0x1 b).1 (cp0x1 b).2 ?_
  refine wpAnyH_takes (by kernel_rfl) (fun d _ _ _ _ h => by cases d <;> exact h) (by assumption) [(18, .iface 89 (.agg #[.pointer (some ⟨b, 0, none⟩)]))] (fuel := 6) (by kernel_rfl) (tp0x2 b) ?_
  refine held_cast (fuel' := 6) rfl (cp0x2 b).1 (cp0x2 b).2 ?_
  refine held_cast (fuel' := 6) (listed' := #[true, true, true, false, true, true, true, false, true, true, true, false, true, true, true, false, true, true, true, false, false]) (a' := ⟨#[.pointer (some ⟨b, 0, none⟩), undef, .slice none 0 0, .pointer (some ⟨b, 0, none⟩), .pointer (some ⟨b, 0, none⟩), .pointer (some ⟨b, 0, none⟩), undef, .pointer (some ⟨b, 0, none⟩), .pointer (some ⟨b, 0, none⟩), .pointer (some ⟨b, 1, none⟩), undef, .pointer (some ⟨b, 0, none⟩), .pointer (some ⟨b, 0, none⟩), .pointer (some ⟨b, 2, none⟩), undef, .pointer (some ⟨b, 0, none⟩), .pointer (some ⟨b, 0, none⟩), .pointer (some ⟨b, 3, none⟩), undef, .pointer (some ⟨b, 0, none⟩), .agg #[.pointer (some ⟨b, 0, none⟩)], .iface 89 (.agg #[.pointer (some ⟨b, 0, none⟩)]), undef], []⟩) rfl (by kernel_rfl) (by kernel_rfl) ?_
  refine wpAnyH_ready (rs := [3]) (by kernel_rfl) (by simp) ?_
  refine AllReadyH.cons (o := ⟨_, _, _, _, _, _⟩) rfl (fun K hK => ?_) AllReadyH.nil
  go_simp
  (go_at_call 41; ((with_reducible refine (CN.out _ _ _ _).mono ?_); rintro e w1 ⟨rfl, rfl⟩))
  go_wp2_with fail
  refine hK.out _ _ (by exact Nat.zero_le _) (fun hHeld => ?_)
  clear hK K
  refine held_cast (fuel' := 5) (listed' := #[true, true, true, true, true, true, true, false, true, true, true, false, true, true, true, false, true, true, true, false, false]) (a' := ⟨#[.pointer (some ⟨b, 0, none⟩), undef, .slice none 0 0, .pointer (some ⟨b, 0, none⟩), .pointer (some ⟨b, 0, none⟩), .pointer (some ⟨b, 0, none⟩), .iface 117 (.agg #[.pointer (some ⟨b, 0, none⟩), .int .i64 0, .int .i64 255]), .pointer (some ⟨b, 0, none⟩), .pointer (some ⟨b, 0, none⟩), .pointer (some ⟨b, 1, none⟩), undef, .pointer (some ⟨b, 0, none⟩), .pointer (some ⟨b, 0, none⟩), .pointer (some ⟨b, 2, none⟩), undef, .pointer (some ⟨b, 0, none⟩), .pointer (some ⟨b, 0, none⟩), .pointer (some ⟨b, 3, none⟩), undef, .pointer (some ⟨b, 0, none⟩), .agg #[.pointer (some ⟨b, 0, none⟩)], .iface 89 (.agg #[.pointer (some ⟨b, 0, none⟩)]), undef], []⟩) rfl (by kernel_rfl) (by kernel_rfl) ?_
  refine wpAnyH_ready (rs := [7]) (by kernel_rfl) (by simp) ?_
  refine AllReadyH.cons (o := ⟨_, _, _, _, _, _⟩) rfl (fun K hK => ?_) AllReadyH.nil
  go_simp
  (go_at_call 41; ((with_reducible refine (CN.out _ _ _ _).mono ?_); rintro e w1 ⟨rfl, rfl⟩))
  go_wp2_with fail
  refine hK.out _ _ (by exact Nat.zero_le _) (fun hHeld => ?_)
  clear hK K
  refine held_cast (fuel' := 4) (listed' := #[true, true, true, true, true, true, true, true, true, true, true, false, true, true, true, false, true, true, true, false, false]) (a' := ⟨#[.pointer (some ⟨b, 0, none⟩), undef, .slice none 0 0, .pointer (some ⟨b, 0, none⟩), .pointer (some ⟨b, 0, none⟩), .pointer (some ⟨b, 0, none⟩), .iface 117 (.agg #[.pointer (some ⟨b, 0, none⟩), .int .i64 0, .int .i64 255]), .pointer (some ⟨b, 0, none⟩), .pointer (some ⟨b, 0, none⟩), .pointer (some ⟨b, 1, none⟩), .iface 117 (.agg #[.pointer (some ⟨b, 1, none⟩), .int .i64 0, .int .i64 255]), .pointer (some ⟨b, 0, none⟩), .pointer (some ⟨b, 0, none⟩), .pointer (some ⟨b, 2, none⟩), undef, .pointer (some ⟨b, 0, none⟩), .pointer (some ⟨b, 0, none⟩), .pointer (some ⟨b, 3, none⟩), undef, .pointer (some ⟨b, 0, none⟩), .agg #[.pointer (some ⟨b, 0, none⟩)], .iface 89 (.agg #[.pointer (some ⟨b, 0, none⟩)]), undef], []⟩) rfl (by kernel_rfl) (by kernel_rfl) ?_
  refine wpAnyH_ready (rs := [11]) (by kernel_rfl) (by simp) ?_
  refine AllReadyH.cons (o := ⟨_, _, _, _, _, _⟩) rfl (fun K hK => ?_) AllReadyH.nil
  go_simp
  (go_at_call 41; ((with_reducible refine (CN.out _ _ _ _).mono ?_); rintro e w1 ⟨rfl, rfl⟩))
  go_wp2_with fail
  refine hK.out _ _ (by exact Nat.zero_le _) (fun hHeld => ?_)
  clear hK K
  refine held_cast (fuel' := 3) (listed' := #[true, true, true, true, true, true, true, true, true, true, true, true, true, true, true, false, true, true, true, false, false]) (a' := ⟨#[.pointer (some ⟨b, 0, none⟩), undef, .slice none 0 0, .pointer (some ⟨b, 0, none⟩), .pointer (some ⟨b, 0, none⟩), .pointer (some ⟨b, 0, none⟩), .iface 117 (.agg #[.pointer (some ⟨b, 0, none⟩), .int .i64 0, .int .i64 255]), .pointer (some ⟨b, 0, none⟩), .pointer (some ⟨b, 0, none⟩), .pointer (some ⟨b, 1, none⟩), .iface 117 (.agg #[.pointer (some ⟨b, 1, none⟩), .int .i64 0, .int .i64 255]), .pointer (some ⟨b, 0, none⟩), .pointer (some ⟨b, 0, none⟩), .pointer (some ⟨b, 2, none⟩), .iface 117 (.agg #[.pointer (some ⟨b, 2, none⟩), .int .i64 0, .int .i64 65535]), .pointer (some ⟨b, 0, none⟩), .pointer (some ⟨b, 0, none⟩), .pointer (some ⟨b, 3, none⟩), undef, .pointer (some ⟨b, 0, none⟩), .agg #[.pointer (some ⟨b, 0, none⟩)], .iface 89 (.agg #[.pointer (some ⟨b, 0, none⟩)]), undef], []⟩) rfl (by kernel_rfl) (by kernel_rfl) ?_
  refine wpAnyH_ready (rs := [15]) (by kernel_rfl) (by simp) ?_
  refine AllReadyH.cons (o := ⟨_, _, _, _, _, _⟩) rfl (fun K hK => ?_) AllReadyH.nil
  go_simp
  (go_at_call 41; ((with_reducible refine (CN.out _ _ _ _).mono ?_); rintro e w1 ⟨rfl, rfl⟩))
  go_wp2_with fail
  refine hK.out _ _ (by exact Nat.zero_le _) (fun hHeld => ?_)
  clear hK K
  refine held_cast (fuel' := 2) (listed' := #[true, true, true, true, true, true, true, true, true, true, true, true, true, true, true, true, true, true, true, false, false]) (a' := ⟨#[.pointer (some ⟨b, 0, none⟩), undef, .slice none 0 0, .pointer (some ⟨b, 0, none⟩), .pointer (some ⟨b, 0, none⟩), .pointer (some ⟨b, 0, none⟩), .iface 117 (.agg #[.pointer (some ⟨b, 0, none⟩), .int .i64 0, .int .i64 255]), .pointer (some ⟨b, 0, none⟩), .pointer (some ⟨b, 0, none⟩), .pointer (some ⟨b, 1, none⟩), .iface 117 (.agg #[.pointer (some ⟨b, 1, none⟩), .int .i64 0, .int .i64 255]), .pointer (some ⟨b, 0, none⟩), .pointer (some ⟨b, 0, none⟩), .pointer (some ⟨b, 2, none⟩), .iface 117 (.agg #[.pointer (some ⟨b, 2, none⟩), .int .i64 0, .int .i64 65535]), .pointer (some ⟨b, 0, none⟩), .pointer (some ⟨b, 0, none⟩), .pointer (some ⟨b, 3, none⟩), .iface 117 (.agg #[.pointer (some ⟨b, 3, none⟩), .int .i64 0, .int .i64 65535]), .pointer (some ⟨b, 0, none⟩), .agg #[.pointer (some ⟨b, 0, none⟩)], .iface 89 (.agg #[.pointer (some ⟨b, 0, none⟩)]), undef], []⟩) rfl (by kernel_rfl) (by kernel_rfl) ?_
  refine wpAnyH_ready (rs := [19]) (by kernel_rfl) (by simp) ?_
  refine AllReadyH.cons (o := ⟨_, _, _, _, _, _⟩) rfl (fun K hK => ?_) AllReadyH.nil
  go_simp
  refine hK.out _ _ (by exact Nat.zero_le _) (fun hHeld => ?_)
  clear hK K
  refine wpAnyH_ready (rs := [20]) (by kernel_rfl) (by simp) ?_
  refine AllReadyH.cons (o := ⟨_, _, _, _, _, _⟩) rfl (fun K hK => ?_) AllReadyH.nil
  go_simp
  refine hK.out _ _ (by exact Nat.zero_le _) (fun hHeld => ?_)
  clear hK K
  refine wpAnyH_done (by kernel_rfl) ?_ _
  go_wp2
  go_ret
  exact newFields_mk W _ _ 5 rfl _ rfl ⟨1, 0, rfl⟩
end Go.Proofs.Ytbnmddopgbhapaa
