/-
  The way through a bag's packets (kept), as a range over it sees it.
-/
import Derived.Test.YtokgamagiffaeaaBagTwice
import Derived.Test.YtokgamagiffaeaaRowsIn
namespace Go.Proofs.Ytokgamagiffaeaa
open Go.RowKit

attribute [local go_sem] Oper.semAt_some

/-- what a round is handed -/
abbrev encP (x : Pk × Nat) : Array Value := #[.int .i64 (x.2 : Nat), .agg x.1.cells]
theorem clone_row {W : World} {A : Option Addr} {n c base : Nat} {xs : List Value} (h : W.ownsRow base 38 25 (.slice A n c) n xs) (hn : n ≤ 100000) (h1 : ∀ u ∈ xs, u.oneCell' = true) :
    Calls Try.prog 25 #[.slice A n c] W fun e w' => ∃ A' c', e = .returned (.slice A' n c') ∧ w'.ownsRow W.heap.size 38 25 (.slice A' n c') n xs ∧ Below W.heap.size W w' := by
  rcases h.2 with ⟨h0, h2⟩ | ⟨q, cap, cur, h0, _⟩
  · injection h0 with e1 e2 e3
    subst e1 e2 e3
    obtain rfl : xs = [] := List.eq_nil_of_length_eq_zero (by simpa using h.1)
    have hq := Lib.run_eql_slice_nil (P := Try.prog) W 52 38 none 0 0 0 0 Try.underlying52
    clear h h1 h2
    go_enter Try.func25, Try.ntmps25
    go_wp2
    go_ret
    exact ⟨_, _, rfl, World.ownsRow_nil _ _ _ _, Below.refl _ _⟩
  · injection h0 with e1 _ e3
    subst e1 e3
    refine (clonePacks_any q 0 n c xs W h.1 hn (h.cells (g := q) rfl) h1).mono ?_
    rintro e w' ⟨v', rfl, r, b⟩
    obtain ⟨A', c', rfl⟩ := own_slice r
    exact ⟨A', c', rfl, r, b⟩

set_option maxRecDepth 100000 in
set_option maxHeartbeats 4000000 in
theorem keptWay {W : World} {g m : Nat} {ps : List Pk} {F : List Nat} (h : BG W g m ps F) {b : Nat} (hc : W.cell? ⟨b, 0, none⟩ = some (.pointer (some ⟨g, 0, none⟩))) (B : List Nat) :
    WayY 24 #[.pointer (some ⟨b, 0, none⟩)] encP ps.zipIdx B W := by
  intro l J Q Y0 hY0 h0 hJ hQ hR
  have H0 := Lib.hid h0
  have HJ := Lib.hid hJ
  have HR := Lib.hid hR
  have HY0 := Lib.hid hY0
  clear h0 hJ hR hQ hY0
  obtain ⟨A, c, _, _, v, _, r, h1, h2⟩ := h
  obtain ⟨n, hn⟩ : ∃ n, ps.length = n := ⟨_, rfl⟩
  rw [hn] at v r h1
  have hcl := clone_row r (by omega) (pkCells_all ps)
  have c1 := v.val
  have b9 : n ≤ 9223372036854775807 := by omega
  have HN := Lib.hid hn
  have HCL := Lib.hid hcl
  clear v r hn hcl
  have hsz : (Try.prog.info? 38).map (·.size) = some 25 := bg_infoP
  go_enter Try.func24, Try.ntmps24
  go_wp2_with (go_at_call 25; (with_reducible refine (HCL.out).mono ?_); rintro e w1 ⟨A1, k1, rfl, ho, hb⟩; have HO := Lib.hid ho; have HB := Lib.hid hb; clear ho hb)
  clear HCL c1 hc
  go_loopg [13] (n + 1) (fun gh s8 wx => ∃ i Y, i + gh = n + 1 ∧ i ≤ n ∧ s8 = .int .i64 (i : Nat) ∧ Hid (J i wx Y) ∧ Hid (Left B Y0 W wx Y) ∧ Hid (wx.ownsRow W.heap.size 38 25 (.slice A1 n k1) n (pkCells ps)) ∧ Hid (∀ q, (Value.slice A1 n k1).ownBlock = some q → q ∉ Y))
  case atStart =>
    refine ⟨0, Y0, by omega, by omega, rfl, HJ.out 0 W w1 Y0 [] H0.out (Touch.ofBelow HB.out) (by simp), ⟨⟨[], Touch.ofBelow HB.out, by simp⟩, fun q hq => ⟨Nat.lt_of_lt_of_le (HY0.out q hq) HB.out.size, .inl hq⟩⟩, HO.out, fun q hq z => ?_⟩
    have := (HO.out.lt q hq).1
    have := HY0.out q z
    omega
  case round =>
    obtain ⟨i, Y, hig, hi, rfl, HJi, HL, HO', HA⟩ := hrel
    by_cases hlt : i < n
    · obtain ⟨q, rfl⟩ := bg_at HO'.out (by omega)
      obtain ⟨p, hp⟩ : ∃ p, ps[i]? = some p := ⟨_, List.getElem?_eq_getElem (by rw [HN.out]; exact hlt)⟩
      have ra := bg_range (own_mono_ HO'.out (Nat.zero_le _)) HN.out hp
      have hx : ps.zipIdx[i]? = some (p, i) := by rw [List.getElem?_zipIdx, hp]; simp
      have bn := bg_new wr Pk.zero.cells p.cells 38
      have rn : ((wr.alloc (.cells Pk.zero.cells 38)).setRow wr.heap.size p.cells).heap[wr.heap.size]? = some (.cells p.cells 38) := bg_row _ (heap_alloc_new wr _)
      have hY1 := HR.out i (p, i) ((wr.alloc (.cells Pk.zero.cells 38)).setRow wr.heap.size p.cells) Y hx (HJ.out i wr _ Y [] HJi.out (Touch.ofBelow bn) (by simp)) (fun q hq => Nat.lt_of_lt_of_le (HL.out.2 q hq).1 bn.size)
      have hszp : (Try.prog.info? 38).map (·.size) = some p.cells.size := hsz
      have hold : Pk.zero.cells.size = p.cells.size := rfl
      have hone := p.one
      have HRA := Lib.hid ra
      have HBN := Lib.hid bn
      have HRN := Lib.hid rn
      have i1 : (i : Int) < (n : Int) := by omega
      clear ra hx bn rn hp
      go_upto_region 4 with (first
        | (refine wpList_load_mid rfl 38 (.tmp 16) rfl q (i * 25) rfl p.cells.toList _ HRA.out Try.underlying38 rfl hszp ?_)
        | (with_reducible (show wpList _ _ _ (⟨none, Op.store _ (Operand.tmp 4) _, _, _, _, _⟩ :: _) _ _); go_must (refine wpList_store_row rfl 38 (.tmp 4) (.tmp 17) rfl wr.heap.size p.cells rfl rfl 38 Pk.zero.cells (heap_alloc_new wr _) hszp hold hone ?_)))
      obtain ⟨fn, tmps, assign, body, hy, hr⟩ := hY1
      have HRR := Lib.hid hr
      clear hr
      refine (wpIn_wide (n := 0)).1 ?_
      gi_wp2_with (with_reducible (show wpListIn _ _ _ _ _ (⟨some 20, Op.load _ _, _, _, _, _⟩ :: _) _ _); go_must (refine wpListIn_load_row rfl 38 (.tmp 4) rfl wr.heap.size rfl 38 p.cells (0, 0) _ HRN.out Try.underlying38 rfl hszp ?_))
      refine ⟨rfl, ?_⟩
      refine (RoundIn.deep HRR.out).mono ?_
      rintro e w2 ⟨Y2, hL2, (⟨rfl, hj⟩ | ⟨rfl, hq⟩)⟩
      · have hL3 : Left B Y wr w2 Y2 := Left.after HBN.out hL2
        obtain ⟨hr3, hn3⟩ := hL3.row HO'.out HA.out
        have HL3 := Lib.hid (HL.out.trans hL3)
        have HR3 := Lib.hid hr3
        have HN3 := Lib.hid hn3
        have HJ3 := Lib.hid hj
        clear hL2 hL3 hr3 hn3 hj hy
        gi_wp2
        go_wp2_with fail
        go_roundg (gk - 1)
        case measure => omega
        case rel => exact ⟨i + 1, Y2, by omega, by omega, by go_num, HJ3, HL3, HR3, HN3⟩
      · have hL3 : Left B Y wr w2 Y2 := Left.after HBN.out hL2
        clear hy
        gi_wp2
        go_wp2_with fail
        refine bodyPost_ret (results_none rfl _ _ _) rfl ?_
        exact ⟨rfl, Y2, HL.out.trans hL3, .inr hq⟩
    · obtain rfl : i = n := by omega
      have HLZ : Hid (ps.zipIdx.length = i) := by show ps.zipIdx.length = i; rw [List.length_zipIdx, HN.out]
      go_wp2_with fail
      go_end0
      exact ⟨rfl, Y, HL.out, .inl (by rw [HLZ.out]; exact HJi.out)⟩
/-- the call that makes it -/
theorem kept_any (p : Option Addr) (W : World) : Calls Try.prog 22 #[.pointer p] W fun e w' =>
    e = .returned (.func (.func 24) #[] #[.pointer (some ⟨W.heap.size, 0, none⟩)]) ∧ w' = W.alloc (.cells #[.pointer p] 23) := by
  go_enter Try.func22, Try.ntmps22
  go_wp2_with fail
  go_ret
  exact ⟨rfl, rfl⟩
end Go.Proofs.Ytokgamagiffaeaa
