/-
  Drop, Twice.
-/
import Derived.Test.YtokgamagiffaeaaBagTake
namespace Go.Proofs.Ytokgamagiffaeaa
open Go.RowKit

theorem bg_loadMidG {P : Program} {ops : Array Oper} {rest : List Oper} {op : Oper} {a : Act} {w : World} {Q : Exit → Act → World → Prop} (hw : Region.wanted op (yielded ops a.tmps) = true) (ty : TypeId) (x : Operand) (ho : op.op = .load ty x)
    (b o : Nat) (hx : a.eval x = .pointer (some ⟨b, o, none⟩)) (cs : List Value) (d : TypeDesc) (hc : w.rangeAt b o cs)
    (hu : P.underlying ty = some d) (hd : d.isRow = true) (hi : (P.info? ty).map (·.size) = some cs.length)
    (h : wpList P ops Q rest (a.put op.dst (.agg cs.toArray)) w) : wpList P ops Q (op :: rest) a w := by
  unfold wpList
  rw [if_pos hw]
  exact .inl (wp_load_mid ty x ho b o hx cs d hc hu hd hi h)
/-- is there room for one more? -/
def roomB (m : Nat) (ps : List Pk) : Bool := decide (ps.length < m)
/-- the packets behind a Put -/
def pushed (m : Nat) (ps : List Pk) (p : Pk) : List Pk := if ps.length < m then ps ++ [p] else ps
theorem put_plain {W : World} {g m : Nat} {ps : List Pk} {F : List Nat} (h : BG W g m ps F) (p : Pk) :
    Calls Try.prog 10 #[.pointer (some ⟨g, 0, none⟩), .agg p.cells] W fun e w' => e = .returned (.bool (roomB m ps)) ∧ BStep W w' F g m (pushed m ps p) := put_any h p
/-- a new block that was filled at once lies apart -/
theorem BStep.new {W w : World} {g m : Nat} {ps : List Pk} {F : List Nat} (h : BStep W w F g m ps) (old cs : Array Value) (T : TypeId) : BStep W ((w.alloc (.cells old T)).setRow w.heap.size cs) F g m ps := by
  obtain ⟨t, F', hF, hq⟩ := h
  exact ⟨t.trans (Touch.ofBelow (F := []) (bg_new w old cs T)) (by simp), F', hF.below (bg_new w old cs T), hq⟩

set_option maxRecDepth 20000 in
set_option maxHeartbeats 2000000 in
theorem dropNot_any {W : World} {g m : Nat} {ps : List Pk} {F : List Nat} (h : BG W g m ps F) (k : Int) (hk : ¬ (0 ≤ k ∧ k < (ps.length : Int))) :
    Calls Try.prog 14 #[.pointer (some ⟨g, 0, none⟩), .int .i64 k] W fun e w' => e = .returned (.bool false) ∧ Below W.heap.size W w' := by
  have hc := takeNot_any h k hk
  have HC := Lib.hid hc
  have hsz : (Try.prog.info? 38).map (·.size) = some Pk.zero.cells.size := bg_infoP
  have HONE := Pk.zero.one
  clear h hk hc
  go_enter Try.func14, Try.ntmps14
  go_wp2_with (first
    | (go_at_call 13; ((with_reducible refine (HC.out).mono ?_); rintro e w2 ⟨rfl, hb2⟩; have HB2 := Lib.hid hb2; clear hb2))
    | (with_reducible (show wpList _ _ _ (⟨none, Op.store _ (Operand.tmp 5) _, _, _, _, _⟩ :: _) _ _); go_must (refine wpList_store_row rfl 38 (.tmp 5) (.tmp 11) rfl w2.heap.size Pk.zero.cells rfl rfl 38 Pk.zero.cells (heap_alloc_new w2 _) hsz rfl HONE ?_)))
  go_ret
  exact ⟨rfl, acc HB2.out (bg_new _ _ _ _)⟩
set_option maxRecDepth 20000 in
set_option maxHeartbeats 2000000 in
theorem drop_any {W : World} {g m : Nat} {ps : List Pk} {F : List Nat} (h : BG W g m ps F) (k : Nat) {p : Pk} (hk : ps[k]? = some p) :
    Calls Try.prog 14 #[.pointer (some ⟨g, 0, none⟩), .int .i64 (k : Nat)] W fun e w' => e = .returned (.bool true) ∧ BStep W w' F g m (without ps k) := by
  have hc := take_any h k hk
  have HC := Lib.hid hc
  have hsz : (Try.prog.info? 38).map (·.size) = some p.cells.size := bg_infoP
  have HONE := p.one
  have hold : Pk.zero.cells.size = p.cells.size := rfl
  clear h hk hc
  go_enter Try.func14, Try.ntmps14
  go_wp2_with (first
    | (go_at_call 13; ((with_reducible refine (HC.out).mono ?_); rintro e w2 ⟨rfl, hb2⟩; have HB2 := Lib.hid hb2; clear hb2))
    | (with_reducible (show wpList _ _ _ (⟨none, Op.store _ (Operand.tmp 5) _, _, _, _, _⟩ :: _) _ _); go_must (refine wpList_store_row rfl 38 (.tmp 5) (.tmp 11) rfl w2.heap.size p.cells rfl rfl 38 Pk.zero.cells (heap_alloc_new w2 _) hsz hold HONE ?_)))
  go_ret
  exact ⟨rfl, HB2.out.new _ _ _⟩
set_option maxRecDepth 20000 in
set_option maxHeartbeats 2000000 in
theorem twiceNot_any {W : World} {g m : Nat} {ps : List Pk} {F : List Nat} (h : BG W g m ps F) (k : Int) (hk : ¬ (0 ≤ k ∧ k < (ps.length : Int))) :
    Calls Try.prog 12 #[.pointer (some ⟨g, 0, none⟩), .int .i64 k] W fun e w' => e = .returned (.bool false) ∧ w' = W := by
  have hc := has_any h k
  rw [decide_eq_false hk] at hc
  have HC := Lib.hid hc
  clear h hk hc
  go_enter Try.func12, Try.ntmps12
  go_wp2_with (go_at_call 19; ((with_reducible refine (HC.out).mono ?_); rintro e w2 ⟨rfl, rfl⟩))
  go_ret
  exact ⟨rfl, rfl⟩
set_option maxRecDepth 20000 in
set_option maxHeartbeats 2000000 in
theorem twice_any {W : World} {g m : Nat} {ps : List Pk} {F : List Nat} (h : BG W g m ps F) (k : Nat) {p : Pk} (hk : ps[k]? = some p) :
    Calls Try.prog 12 #[.pointer (some ⟨g, 0, none⟩), .int .i64 (k : Nat)] W fun e w' => e = .returned (.bool (roomB m ps)) ∧ BStep W w' F g m (pushed m ps p) := by
  have hkl : k < ps.length := (List.getElem?_eq_some_iff.1 hk).1
  have hc := has_any h (k : Int)
  rw [decide_eq_true (show (0 : Int) ≤ (k : Int) ∧ (k : Int) < (ps.length : Int) by omega)] at hc
  have hp := put_plain h p
  obtain ⟨A, c, hF, h0, v, kk, r, h1, h2⟩ := h
  obtain ⟨n, hn⟩ : ∃ n, ps.length = n := ⟨_, rfl⟩
  rw [hn] at v r hkl h1
  obtain ⟨q, rfl⟩ := bg_at r (by omega)
  have ra := bg_range r hn hk
  have HC := Lib.hid hc
  have HP := Lib.hid hp
  have HRA := Lib.hid ra
  have c1 := v.val
  have b9 : n ≤ 9223372036854775807 := by omega
  have i1 : (k : Int) < (n : Int) := by omega
  have hsz : (Try.prog.info? 38).map (·.size) = some p.cells.toList.length := bg_infoP
  clear hc hp hF h0 v kk r h2 ra hk hn h1
  go_enter Try.func12, Try.ntmps12
  go_wp2_with (first
    | (go_at_call 19; ((with_reducible refine (HC.out).mono ?_); rintro e w2 ⟨rfl, rfl⟩))
    | (with_reducible (show wpList _ _ _ (⟨some 16, Op.load _ _, _, _, _, _⟩ :: _) _ _); go_must (refine bg_loadMidG (by first | rfl | simp [Region.wanted, yielded] | kernel_rfl) 38 (.tmp 15) rfl q (k * 25) rfl p.cells.toList _ HRA.out Try.underlying38 rfl hsz ?_))
    | (go_at_call 10; ((with_reducible refine (HP.out).mono ?_); rintro e w3 ⟨rfl, hs3⟩; have HS := Lib.hid hs3; clear hs3)))
  go_ret
  exact ⟨rfl, HS.out⟩
end Go.Proofs.Ytokgamagiffaeaa
