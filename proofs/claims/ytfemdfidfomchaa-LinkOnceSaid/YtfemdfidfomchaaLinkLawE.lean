/-
  LinkBoth, walked: letters that go both ways at once come once, in order, at both ends. (Written by tools/genLKBoth.py.)
-/
import Derived.Test.YtfemdfidfomchaaLinkFrame
import Derived.Test.YtfemdfidfomchaaLinkLawA
import Derived.Test.YtfemdfidfomchaaLists
namespace Go.Proofs.Ytfemdfidfomchaa
open Go.RowKit

/-- one element was appended onto the first row -/
theorem fx_app {W w w4 : World} {R : List RS} {B : List Nat} {ga gb n' : Nat} {sa sb : LS} {r : RS} {v' : Value} {xs' : List Value} {o : Obj} (h : FX W w (r :: R) B ga sa gb sb) (hg : (w.alloc o).grownBy w4 r.v.ownBlock) (ho : w4.ownsRow W.heap.size r.e r.z v' n' xs') (hs : SameOrNew (w.alloc o) r.v v') : FX W w4 (⟨r.e, r.z, v', n', xs'⟩ :: R) B ga sa gb sb :=
  (h.below ((Below.refl _ _).alloc (Nat.le_refl _) o)).grow (r' := ⟨r.e, r.z, v', n', xs'⟩) hg ho hs
theorem pk_row_succ (pa pb k : Int) (a i : Nat) : rowC PR.cells ((List.range i).map fun j => pk pa pb k (1 + j) a) ++ rowC PR.cells [pk pa pb k (i + 1) a] = rowC PR.cells ((List.range (i + 1)).map fun j => pk pa pb k (1 + j) a) := by
  rw [← rowC_append, List.range_succ, List.map_append, Nat.add_comm i 1]
  rfl
theorem fk_row_app (k : Int) (c d : Nat) : rowC LR.cells ((List.range' 1 c).map (fk k)) ++ rowC LR.cells ((List.range' (c + 1) d).map (fk k)) = rowC LR.cells ((List.range' 1 (c + d)).map (fk k)) := by
  rw [← rowC_append, ← List.map_append, ← List.range'_append]
  simp [Nat.add_comm]
theorem idx_ok (x : Int) (n : Nat) (h0 : 0 < n) (hn : n ≤ 1000000) : ∃ q : Nat, q < n ∧ (wrap64 (x.tmod (n : Int) + (n : Int))).tmod (n : Int) = (q : Int) := by
  have h0' : (0 : Int) < n := by omega
  have h1 : -(n : Int) < x.tmod (n : Int) ∧ x.tmod (n : Int) < (n : Int) := by
    rcases Int.le_total 0 x with hx | hx
    · rw [Int.tmod_eq_emod_of_nonneg hx]
      have := Int.emod_nonneg x (show (n : Int) ≠ 0 by omega)
      have := Int.emod_lt_of_pos x h0'
      omega
    · have e : x.tmod (n : Int) = -((-x).tmod (n : Int)) := by rw [Int.neg_tmod, Int.neg_neg]
      rw [e, Int.tmod_eq_emod_of_nonneg (show 0 ≤ -x by omega)]
      have := Int.emod_nonneg (-x) (show (n : Int) ≠ 0 by omega)
      have := Int.emod_lt_of_pos (-x) h0'
      omega
  have h3 : wrap64 (x.tmod (n : Int) + (n : Int)) = x.tmod (n : Int) + (n : Int) := by
    have h9 := h1
    generalize x.tmod (n : Int) = z at *
    unfold wrap64
    omega
  rw [h3]
  have h5 : (x.tmod (n : Int) + (n : Int)).tmod (n : Int) = (x.tmod (n : Int) + (n : Int)) % (n : Int) := Int.tmod_eq_emod_of_nonneg (by omega)
  rw [h5]
  have h6 := Int.emod_nonneg (x.tmod (n : Int) + (n : Int)) (show (n : Int) ≠ 0 by omega)
  have h7 := Int.emod_lt_of_pos (x.tmod (n : Int) + (n : Int)) (show (0 : Int) < n by omega)
  exact ⟨((x.tmod (n : Int) + (n : Int)) % (n : Int)).toNat, by omega, by omega⟩
/-- what a packet of A's leaves at B, by numbers -/
def JG (W : World) (R : List RS) (B : List Nat) (ga : Nat) (sa : LS) (gb cb : Nat) (pa pb k l : Int) (n m ka kb ta tb ua ub q : Nat) (e : Ending) (w' : World) : Prop :=
  ∃ T c d cb' sb' kb', e = .returned (.tuple #[.slice T d c, .agg (lpCells pb pa 0 (cb' : Nat) 0 0), .bool true]) ∧ cb + d = cb' ∧ sb'.came = cb' ∧ cb' ≤ n ∧ (cb + 1 = q → q ≤ cb') ∧ kb ≤ kb' ∧
    FX W w' (⟨51, 21, .slice T d c, d, rowC LR.cells ((List.range' (cb + 1) d).map (fk k))⟩ :: R) B ga sa gb sb' ∧ Bi sa sb' pa pb (fk k) (fk l) n m ka kb' ta tb ua ub
theorem jx_got2 {W w : World} {R : List RS} {B : List Nat} {ga gb : Nat} {sa sb : LS} {pa pb k l : Int} {n m ka kb ta tb ua ub : Nat} (hF : FX W w R B ga sa gb sb) (hB : Bi sa sb pa pb (fk k) (fk l) n m ka kb ta tb ua ub) (hn : n ≤ 900) (hm : m ≤ 900) (ht : tb ≤ 900) (hu : ub ≤ 900) {q a cb : Nat} (hq0 : 0 < q) (hq : q ≤ n) (ha : a ≤ sa.came) (hc : sb.came = cb) :
    Calls Try.prog 17 #[.pointer (some ⟨gb, 0, none⟩), .agg (lpCells pa pb (q : Nat) (a : Nat) k (q : Nat))] w (JG W R B ga sa gb cb pa pb k l n m ka kb ta tb ua ub q) := by
  refine (jx_got hF hB hn hm ht hu hq0 hq ha).mono ?_
  rintro e w' ⟨T, c, sb', kb', h1, h2, h3, h4, h5, h6⟩
  rw [hc] at h1 h2 h3 h5
  have := h6.ab.s
  have := h6.a3
  exact ⟨T, c, sb'.came - cb, sb'.came, sb', kb', h1, by omega, rfl, by omega, h3, h4, h5, h6⟩
theorem pk_range {W w : World} {R : List RS} {B : List Nat} {ga gb N c q0 q : Nat} {sa sb : LS} {pa pb k : Int} {a f : Nat} {qu : Nat} (h : FX W w R B ga sa gb sb) (hr : (⟨53, 25, .slice (some ⟨qu, q0, none⟩) N c, N, rowC PR.cells ((List.range N).map fun j => pk pa pb k (f + j) a)⟩ : RS) ∈ R) (hq : q < N) : q0 = 0 ∧ w.rangeAt qu (q * 25) (lpCells pa pb ((f + q : Nat) : Int) (a : Nat) k ((f + q : Nat) : Int)).toList := by
  have ho : w.ownsRow W.heap.size 53 25 (.slice (some ⟨qu, q0, none⟩) N c) N (rowC PR.cells ((List.range N).map fun j => pk pa pb k (f + j) a)) := h.r _ hr
  obtain ⟨z, hz⟩ := lk_at ho (by omega)
  injection hz with hz
  injection hz with z1 z2 z3
  subst z1 z2
  refine ⟨rfl, fun j v hj => ?_⟩
  have hj25 : j < 25 := (List.getElem?_eq_some_iff.1 hj).1
  have hlen := ho.1
  have h9 := ho.cellAt (q * 25 + j) (by omega)
  rw [h9, rowC_get pE_size _ q j (pk pa pb k (f + q) a) (by rw [List.getElem?_map, List.getElem?_range hq]; rfl) hj25, ← Array.getElem?_toList]
  exact hj
theorem fx_snd {W w : World} {R : List RS} {B : List Nat} {ga gb : Nat} {sa sb : LS} {r : RS} {e : TypeId} {z n c : Nat} {A : Option Addr} {xs : List Value} (h : FX W w (r :: ⟨e, z, .slice A n c, n, xs⟩ :: R) B ga sa gb sb) : w.ownsRow W.heap.size e z (.slice A n c) n xs := h.r ⟨e, z, .slice A n c, n, xs⟩ (by simp)
/-- a box lies apart from the row that grows -/
theorem fx_box {W w w1 : World} {R : List RS} {B : List Nat} {ga gb q : Nat} {sa sb : LS} {r : RS} {o : Obj} (h : FX W w (r :: R) (q :: B) ga sa gb sb) (hg : w.grownBy w1 r.v.ownBlock) (ho : w.heap[q]? = some o) : w1.heap[q]? = some o := by
  rw [hg.block q (bg_lt ho) (fun e => (h.b q (by simp)).2 (mem_blks.2 ⟨r, by simp, e.symm⟩))]
  exact ho
theorem fk_cell {W w : World} {k : Int} {n c : Nat} {A : Option Addr} (h : (⟨51, 21, .slice A n c, n, rowC LR.cells ((List.range' 1 n).map (fk k))⟩ : RS).ok W w) {i : Nat} (hi : i < n) : ∃ b, A = some ⟨b, 0, none⟩ ∧ w.cell? ⟨b, i * 21 + 3, none⟩ = some (.int .i64 ((i : Int) + 1)) := by
  have ho : w.ownsRow W.heap.size 51 21 (.slice A n c) n (rowC LR.cells ((List.range' 1 n).map (fk k))) := h
  obtain ⟨b, rfl⟩ := lk_at ho (by omega)
  refine ⟨b, rfl, ?_⟩
  have hl := ho.1
  rw [ho.cellAt (i * 21 + 3) (by omega), rowC_get lE_size _ i 3 (fk k (1 + i)) (by rw [List.getElem?_map, List.getElem?_range' hi]; simp) (by decide)]
  show some (Value.int .i64 ((1 + i : Nat) : Int)) = _
  congr 2
  omega
set_option maxRecDepth 20000 in
set_option maxHeartbeats 40000000 in
theorem linkBothGo (n m : Nat) (LA : Option Addr) (lc : Nat) (zs : List Int) (W : World) (hn : n ≤ 20) (hm : m ≤ 20) (hz : zs.length ≤ 100) (hL : IntsAt W LA .i64 zs) (hzb : ∀ x ∈ zs, -9223372036854775808 ≤ x ∧ x ≤ 9223372036854775807) :
    Calls Try.prog 8 #[.int .i64 (n : Nat), .int .i64 (m : Nat), .slice LA zs.length lc] W fun e w' => e = .returned (.bool true) ∧ Below W.heap.size W w' := by
  have CA := Lib.hid aliveL
  have CN : Hid (∀ w, Below W.heap.size W w → Calls Try.prog 11 #[.int .i64 1, .int .i64 2] w fun e w' => e = .returned (.pointer (some ⟨w.heap.size, 0, none⟩)) ∧ LX W w' [] w.heap.size (LS.new 1 2) ∧ Below w.heap.size w w') := fun w h => LX.new h (by simp) 1 2
  have CN2 : Hid (∀ w g, LX W w [] g (LS.new 1 2) → Calls Try.prog 11 #[.int .i64 2, .int .i64 1] w fun e w' => e = .returned (.pointer (some ⟨w.heap.size, 0, none⟩)) ∧ TX W w' [] g (LS.new 1 2) w.heap.size (LS.new 2 1) ∧ Below w.heap.size w w') := fun w g h => h.new2 2 1
  obtain ⟨N, hN⟩ : ∃ N, zs.length = N := ⟨_, rfl⟩
  have d0 : decide ((n : Int) < 0) = false := by simp
  have d1 : decide (20 < (n : Int)) = false := by simp; omega
  have d2 : decide ((m : Int) < 0) = false := by simp
  have d3 : decide (20 < (m : Int)) = false := by simp; omega
  have d4 : decide (100 < (N : Int)) = false := by simp; omega
  rw [hN] at hz ⊢
  have HL := Lib.hid hL
  have HZB := Lib.hid hzb
  have HN := Lib.hid hN
  clear hL hzb hN
  go_enter Try.func8, Try.ntmps8
  go_wp2_with (first
    | (go_at_call 10; (with_reducible refine (CA.out _).mono ?_); rintro e w1 ⟨rfl, h1⟩; have H1 := Lib.hid h1; clear h1)
    | (go_at_call 11; (with_reducible refine (CN.out _ H1.out).mono ?_); rintro e w2 ⟨rfl, h2, _⟩; have H2 := Lib.hid h2; clear h2)
    | (go_at_call 11; (with_reducible refine (CN2.out _ _ H2.out).mono ?_); rintro e w3 ⟨rfl, h3, _⟩; have H3 := Lib.hid h3; clear h3))
  obtain ⟨ga, hga⟩ : ∃ g, w1.heap.size = g := ⟨_, rfl⟩
  obtain ⟨gb, hgb⟩ : ∃ g, w2.heap.size = g := ⟨_, rfl⟩
  rw [hga, hgb] at H3
  rw [hga, hgb]
  have HF3 : Hid (FX W w3 [⟨53, 25, .slice none 0 0, 0, rowC PR.cells ((List.range (0)).map fun j => pk 1 2 1 (1 + j) 0)⟩] [] ga (LS.new 1 2) gb (LS.new 2 1)) := (FX.start H3.out).nil _ _
  clear hga hgb H1 H2 H3 CA CN CN2
  obtain ⟨iP, hiP, hzP, hsP, hbP⟩ := lk_infoP
  obtain ⟨iL, hiL, hzL, hsL, hbL⟩ := lk_infoLt
  --LOOP 1
  go_loopg [9, 11] (n + 1) (fun gh s9 s11 wx => ∃ (k cU : Nat) (U : Option Addr) (sa sb : LS), k + gh = n + 2 ∧ 1 ≤ k ∧ k ≤ n + 1 ∧ sb.came = 0 ∧ s9 = .slice U (k - 1) cU ∧ s11 = .int .i64 (k : Nat) ∧ Hid (FX W wx [⟨53, 25, .slice U (k - 1) cU, k - 1, rowC PR.cells ((List.range (k - 1)).map fun j => pk 1 2 1 (1 + j) 0)⟩] [] ga sa gb sb) ∧ Hid (Bi sa sb 1 2 (fk 1) (fk 2) (k - 1) 0 0 0 0 0 0 0))
  case atStart => exact ⟨1, 0, none, _, _, by omega, by omega, by omega, rfl, rfl, rfl, HF3, Bi.new 1 2 (fk 1) (fk 2)⟩
  case round =>
    obtain ⟨k, cU, U, sa, sb, hig, hk1, hk, hcb, rfl, rfl, HX, HB⟩ := hrel
    by_cases hlt : k ≤ n
    · have dle : decide ((k : Int) ≤ (n : Int)) = true := by simp; omega
      obtain ⟨i, hki⟩ : ∃ i, k - 1 = i := ⟨_, rfl⟩
      have hik : i + 1 = k := by omega
      rw [hki] at HX HB ⊢
      have hca : sa.came = 0 := by have := HB.out.ba.s; have := HB.out.b3; omega
      have cs : Calls Try.prog 13 #[.pointer (some ⟨ga, 0, none⟩), .agg (ltCells 1 ((i + 1 : Nat) : Int))] wr fun e w' => e = .returned (.agg (lpCells 1 2 ((i + 1 : Nat) : Int) 0 1 ((i + 1 : Nat) : Int))) ∧ FX W w' [⟨53, 25, .slice U i cU, i, rowC PR.cells ((List.range (i)).map fun j => pk 1 2 1 (1 + j) 0)⟩] [] ga (sa.push (fk 1 (i + 1))) gb sb ∧ Bi (sa.push (fk 1 (i + 1))) sb 1 2 (fk 1) (fk 2) (i + 1) 0 0 0 0 0 0 0 := (jx_send HX.out HB.out (by omega) (by omega) (by omega) rfl).mono fun e w' ⟨h1, h2⟩ => ⟨by rw [h1, hca]; rfl, h2⟩
      rw [hik] at cs
      have CS := Lib.hid cs
      have HIK := Lib.hid hik
      have hi20 : i ≤ 20 := by omega
      clear HX HB hki HF3 cs hik
      go_wp2_with (first
        | (go_at_call 13; (with_reducible refine (CS.out).mono ?_); rintro e w4 ⟨rfl, h4, b4⟩; have H4 := Lib.hid h4; have B4 := Lib.hid b4; clear h4 b4)
        | (at_builtin; go_must (refine wpList_append_any rfl (.tmp 73) (.tmp 78) 28 rfl W.heap.size 53 iP (.agg (lpCells 0 0 0 0 0 0)) 25 272 Try.underlying28 hiP hzP hsP hbP rfl (by decide) (.slice U i cU) i (rowC PR.cells ((List.range i).map fun j => pk 1 2 1 (1 + j) 0)) rfl ((fx_nil_sl H4.out).alloc _) (.slice (some ⟨w4.heap.size, 0, none⟩) 1 1) 1 (rowC PR.cells [pk 1 2 1 k 0]) rfl (.inr ⟨⟨w4.heap.size, 0, none⟩, 1, rfl, rfl, lk_new_row w4 (pk 1 2 1 k 0).cells _⟩) (rowC_all (enc := PR.cells) (l := [pk 1 2 1 k 0]) (fun y hy => by simp at hy; subst hy; exact PR.one (light_sl _ _))) (by unfold maxLen; omega) (by omega) (by have := (H4.out).base.size; simp; omega) ?_); intro U5 c5 w5 ho5 hg5 hs5; have H5 := Lib.hid (fx_app H4.out hg5 ho5 hs5); clear ho5 hg5 hs5))
      go_roundg (gk - 1)
      case measure => omega
      case rel =>
        have hik := HIK.out
        subst hik
        have h5 := H5.out
        rw [pk_row_succ] at h5
        exact ⟨i + 1 + 1, c5, U5, sa.push (fk 1 (i + 1)), sb, by omega, by omega, by omega, hcb, rfl, by go_num, h5, B4⟩
    · obtain rfl : k = n + 1 := by omega
      have dle : decide (((n + 1 : Nat) : Int) ≤ (n : Int)) = false := by simp; omega
      have hn1 : n + 1 - 1 = n := by omega
      rw [hn1] at HX HB ⊢
      have hca : sa.came = 0 := by have := HB.out.ba.s; have := HB.out.b3; omega
      have HF4 := Lib.hid (HX.out.nil 53 25)
      clear HX hn1 HF3
      go_wp2_with fail
      clear dle
      --LOOP 2
      go_loopg [10, 12] (m + 1) (fun gh s10 s12 wx => ∃ (k cD : Nat) (D : Option Addr) (sa sb : LS), k + gh = m + 2 ∧ 1 ≤ k ∧ k ≤ m + 1 ∧ sa.came = 0 ∧ sb.came = 0 ∧ s10 = .slice D (k - 1) cD ∧ s12 = .int .i64 (k : Nat) ∧ Hid (FX W wx [⟨53, 25, .slice D (k - 1) cD, k - 1, rowC PR.cells ((List.range (k - 1)).map fun j => pk 2 1 2 (1 + j) 0)⟩, ⟨53, 25, .slice U n cU, n, rowC PR.cells ((List.range (n)).map fun j => pk 1 2 1 (1 + j) 0)⟩] [] ga sa gb sb) ∧ Hid (Bi sa sb 1 2 (fk 1) (fk 2) n (k - 1) 0 0 0 0 0 0))
      case atStart => exact ⟨1, 0, none, sa, sb, by omega, by omega, by omega, hca, hcb, rfl, rfl, HF4, HB⟩
      case round =>
        clear HF4 HB hca hcb
        obtain ⟨k, cD, D, sa, sb, hig2, hk1, hk, hca, hcb, rfl, rfl, HX, HB⟩ := hrel
        by_cases hlt2 : k ≤ m
        · have dle : decide ((k : Int) ≤ (m : Int)) = true := by simp; omega
          obtain ⟨i, hki⟩ : ∃ i, k - 1 = i := ⟨_, rfl⟩
          have hik : i + 1 = k := by omega
          rw [hki] at HX HB ⊢
          have cs : Calls Try.prog 13 #[.pointer (some ⟨gb, 0, none⟩), .agg (ltCells 2 ((i + 1 : Nat) : Int))] wr fun e w' => e = .returned (.agg (lpCells 2 1 ((i + 1 : Nat) : Int) 0 2 ((i + 1 : Nat) : Int))) ∧ FX W w' [⟨53, 25, .slice D i cD, i, rowC PR.cells ((List.range (i)).map fun j => pk 2 1 2 (1 + j) 0)⟩, ⟨53, 25, .slice U n cU, n, rowC PR.cells ((List.range (n)).map fun j => pk 1 2 1 (1 + j) 0)⟩] [] ga sa gb (sb.push (fk 2 (i + 1))) ∧ Bi sa (sb.push (fk 2 (i + 1))) 1 2 (fk 1) (fk 2) n (i + 1) 0 0 0 0 0 0 := (jx_send HX.out.swap HB.out.swap (by omega) (by omega) (by omega) rfl).mono fun e w' ⟨h1, h2, h3⟩ => ⟨by rw [h1, hcb]; rfl, h2.swap, h3.swap⟩
          rw [hik] at cs
          have CS := Lib.hid cs
          have HIK := Lib.hid hik
          have hi20 : i ≤ 20 := by omega
          clear HX HB hki cs hik
          go_wp2_with (first
            | (go_at_call 13; (with_reducible refine (CS.out).mono ?_); rintro e w4 ⟨rfl, h4, b4⟩; have H4 := Lib.hid h4; have B4 := Lib.hid b4; clear h4 b4)
            | (at_builtin; go_must (refine wpList_append_any rfl (.tmp 85) (.tmp 90) 28 rfl W.heap.size 53 iP (.agg (lpCells 0 0 0 0 0 0)) 25 272 Try.underlying28 hiP hzP hsP hbP rfl (by decide) (.slice D i cD) i (rowC PR.cells ((List.range i).map fun j => pk 2 1 2 (1 + j) 0)) rfl ((fx_nil_sl H4.out).alloc _) (.slice (some ⟨w4.heap.size, 0, none⟩) 1 1) 1 (rowC PR.cells [pk 2 1 2 k 0]) rfl (.inr ⟨⟨w4.heap.size, 0, none⟩, 1, rfl, rfl, lk_new_row w4 (pk 2 1 2 k 0).cells _⟩) (rowC_all (enc := PR.cells) (l := [pk 2 1 2 k 0]) (fun y hy => by simp at hy; subst hy; exact PR.one (light_sl _ _))) (by unfold maxLen; omega) (by omega) (by have := (H4.out).base.size; simp; omega) ?_); intro D5 c5 w5 ho5 hg5 hs5; have H5 := Lib.hid (fx_app H4.out hg5 ho5 hs5); clear ho5 hg5 hs5))
          go_roundg (gk - 1)
          case measure => omega
          case rel =>
            have hik := HIK.out
            subst hik
            have h5 := H5.out
            rw [pk_row_succ] at h5
            exact ⟨i + 1 + 1, c5, D5, sa, sb.push (fk 2 (i + 1)), by omega, by omega, by omega, hca, hcb, rfl, by go_num, h5, B4⟩
        · obtain rfl : k = m + 1 := by omega
          have dle : decide (((m + 1 : Nat) : Int) ≤ (m : Int)) = false := by simp; omega
          have hm1 : m + 1 - 1 = m := by omega
          rw [hm1] at HX HB ⊢
          have HF5 : Hid (FX W wr [⟨51, 21, .slice none 0 0, 0, rowC LR.cells ((List.range' 1 (0)).map (fk 1))⟩, ⟨51, 21, .slice none 0 0, 0, rowC LR.cells ((List.range' 1 (0)).map (fk 2))⟩, ⟨53, 25, .slice D m cD, m, rowC PR.cells ((List.range (m)).map fun j => pk 2 1 2 (1 + j) 0)⟩, ⟨53, 25, .slice U n cU, n, rowC PR.cells ((List.range (n)).map fun j => pk 1 2 1 (1 + j) 0)⟩] [] ga sa gb sb) := (HX.out.nil _ _).nil _ _
          clear HX hm1
          go_wp2_with fail
          clear dle
          --LOOP 3
          have hz0 : ∀ j, j < N → zs.getD j 0 ∈ zs := fun j hj => by
            rw [← HN.out] at hj
            rw [List.getD_eq_getElem?_getD, List.getElem?_eq_getElem hj]
            exact List.getElem_mem hj
          have HZ0 := Lib.hid hz0
          clear hz0
          go_loopg [13, 14, 94] (N + 1) (fun gh s13 s14 s94 wx => ∃ (i ca cb ka kb cR cL : Nat) (Rt Lf : Option Addr) (sa sb : LS), i + gh = N + 1 ∧ i ≤ N ∧ ca ≤ 20 ∧ cb ≤ 20 ∧ s13 = .slice Lf ca cL ∧ s14 = .slice Rt cb cR ∧ s94 = .int .i64 (i : Nat) ∧ Hid (sa.came = ca ∧ sb.came = cb) ∧ Hid (FX W wx [⟨51, 21, .slice Rt cb cR, cb, rowC LR.cells ((List.range' 1 (cb)).map (fk 1))⟩, ⟨51, 21, .slice Lf ca cL, ca, rowC LR.cells ((List.range' 1 (ca)).map (fk 2))⟩, ⟨53, 25, .slice D m cD, m, rowC PR.cells ((List.range (m)).map fun j => pk 2 1 2 (1 + j) 0)⟩, ⟨53, 25, .slice U n cU, n, rowC PR.cells ((List.range (n)).map fun j => pk 1 2 1 (1 + j) 0)⟩] [] ga sa gb sb) ∧ Hid (Bi sa sb 1 2 (fk 1) (fk 2) n m ka kb 0 0 0 0))
          case atStart => exact ⟨0, 0, 0, 0, 0, 0, 0, none, none, sa, sb, by omega, by omega, by omega, by omega, rfl, rfl, rfl, ⟨hca, hcb⟩, HF5, HB⟩
          case round =>
            clear HF5 HB hca hcb
            obtain ⟨i, ca, cb, ka, kb, cR, cL, Rt, Lf, sa, sb, hig3, hiN, hca, hcb, rfl, rfl, rfl, HC, HX, HB⟩ := hrel
            by_cases hlt3 : i < N
            · obtain ⟨x, hx⟩ : ∃ x, zs.getD i 0 = x := ⟨_, rfl⟩
              obtain ⟨lb, lo, hl⟩ := HL.out
              obtain ⟨rfl, hlb, hlc⟩ := hl i (by rw [HN.out]; exact hlt3)
              have xb := HZB.out _ (HZ0.out i hlt3)
              rw [hx] at hlc xb
              have xc := (HX.out.base.cell (p := ⟨lb, lo + i, none⟩) hlb).trans hlc
              have i1 : (i : Int) < (N : Int) := by omega
              clear hl hlc hlb hx
              obtain ⟨y, hy⟩ : ∃ y : Int, bits BinOp.and IntKind.i64 x 1 = y := ⟨_, rfl⟩
              by_cases hA : y = 0 ∧ 0 < n
              · have y0 : (y == 0) = true := by simpa using hA.1
                have y1 : (y == 1) = false := by have := hA.1; simp; omega
                have n0 : decide ((0 : Int) < (n : Int)) = true := by have := hA.2; simp; omega
                have n9 : 0 < n := hA.2
                clear hA
                obtain ⟨qu, hqu⟩ := lk_at (HX.out.r ⟨53, 25, .slice U n cU, n, rowC PR.cells ((List.range (n)).map fun j => pk 1 2 1 (1 + j) 0)⟩ (.tail _ (.tail _ (.tail _ (.head _))))) n9
                subst hqu
                obtain ⟨q, hq, hidx⟩ := idx_ok (x / 2) n n9 (by omega)
                have iq : (q : Int) < (n : Int) := by omega
                obtain ⟨qq, hqq⟩ : ∃ qq, 1 + q = qq := ⟨_, rfl⟩
                have hra : wr.rangeAt qu (q * 25) (lpCells 1 2 ((1 + q : Nat) : Int) 0 1 ((1 + q : Nat) : Int)).toList := (pk_range (q := q) (f := 1) (a := 0) (pa := 1) (pb := 2) (k := 1) HX.out (.tail _ (.tail _ (.tail _ (.head _)))) hq).2
                have cg : Calls Try.prog 17 #[.pointer (some ⟨gb, 0, none⟩), .agg (lpCells 1 2 ((1 + q : Nat) : Int) 0 1 ((1 + q : Nat) : Int))] wr (JG W [⟨51, 21, .slice Rt cb cR, cb, rowC LR.cells ((List.range' 1 (cb)).map (fk 1))⟩, ⟨51, 21, .slice Lf ca cL, ca, rowC LR.cells ((List.range' 1 (ca)).map (fk 2))⟩, ⟨53, 25, .slice D m cD, m, rowC PR.cells ((List.range (m)).map fun j => pk 2 1 2 (1 + j) 0)⟩, ⟨53, 25, .slice (some ⟨qu, 0, none⟩) n cU, n, rowC PR.cells ((List.range (n)).map fun j => pk 1 2 1 (1 + j) 0)⟩] [] ga sa gb cb 1 2 1 2 n m ka kb 0 0 0 0 (1 + q)) := jx_got2 (q := 1 + q) (a := 0) (cb := cb) HX.out HB.out (by omega) (by omega) (by omega) (by omega) (by omega) (by omega) (by omega) HC.out.2
                rw [hqq] at hra cg
                have HRA := Lib.hid hra
                have CG := Lib.hid cg
                have hszP : (Try.prog.info? 53).map (·.size) = some (lpCells 1 2 (qq : Nat) 0 1 (qq : Nat)).toList.length := bg_infoP
                have HCC := Lib.hid HC.out.1
                clear hra cg hqq HX HB HC
                go_wp2_with (first
                  | (refine wpList_load_mid rfl 53 (.tmp 120) rfl qu (q * 25) rfl (lpCells 1 2 (qq : Nat) 0 1 (qq : Nat)).toList _ HRA.out Try.underlying53 rfl hszP ?_)
                  | (go_at_call 17; (with_reducible refine (CG.out).mono ?_); rintro e w4 ⟨T4, c4, d4, cb4, sb4, kb4, rfl, hd4, hs4, hn4, hq4, hk4, h4, b4⟩; have p4 := (lp_box w4 2 1 0 (cb4 : Nat) 0 0).2; have H4 := Lib.hid ((h4.perm (R' := [⟨51, 21, .slice Rt cb cR, cb, rowC LR.cells ((List.range' 1 (cb)).map (fk 1))⟩, ⟨51, 21, .slice T4 d4 c4, d4, rowC LR.cells ((List.range' (cb + 1) d4).map (fk 1))⟩, ⟨51, 21, .slice Lf ca cL, ca, rowC LR.cells ((List.range' 1 (ca)).map (fk 2))⟩, ⟨53, 25, .slice D m cD, m, rowC PR.cells ((List.range (m)).map fun j => pk 2 1 2 (1 + j) 0)⟩, ⟨53, 25, .slice (some ⟨qu, 0, none⟩) n cU, n, rowC PR.cells ((List.range (n)).map fun j => pk 1 2 1 (1 + j) 0)⟩]) (List.Perm.swap _ _ _)).box (lp_box w4 2 1 0 (cb4 : Nat) 0 0).1 (Nat.le_refl _) (bg_lt p4)); have B4 := Lib.hid b4; have HD4 := Lib.hid (And.intro hd4 (And.intro hs4 hq4)); have hcb4 : cb + d4 ≤ 20 := (by omega); have HK4 := Lib.hid hk4; clear h4 b4 hd4 hs4 hn4 hq4 hk4)
                  | (with_reducible (show wpList _ _ _ (⟨none, Op.store _ (Operand.tmp 18) _, _, _, _, _⟩ :: _) _ _); go_must (refine wpList_store_lp rfl (.tmp 18) (.tmp 124) rfl w4.heap.size 2 1 0 (cb4 : Nat) 0 0 rfl rfl (heap_alloc_new w4 _) ?_))
                  | (at_builtin; go_must (refine wpList_append_any rfl (.tmp 126) (.tmp 127) 59 rfl W.heap.size 51 iL (.agg (ltCells 0 0)) 21 240 Try.underlying59 hiL hzL hsL hbL rfl (by decide) (.slice Rt cb cR) cb (rowC LR.cells ((List.range' 1 cb).map (fk 1))) rfl (fx_nil_sl H4.out) (.slice T4 d4 c4) d4 (rowC LR.cells ((List.range' (cb + 1) d4).map (fk 1))) rfl (From.own (fx_snd H4.out)) (rowC_all (fun y hy => by obtain ⟨j, _, rfl⟩ := List.mem_map.1 hy; exact LR.one (light_sl _ _))) (by unfold maxLen; omega) (by omega) H4.out.base.size ?_); intro A5 c5 w5 ho5 hg5 hs5; have p5 := fx_box H4.out hg5 p4; have H5 := Lib.hid (H4.out.grow (r' := ⟨51, 21, .slice A5 (cb + d4) c5, cb + d4, rowC LR.cells ((List.range' 1 cb).map (fk 1)) ++ rowC LR.cells ((List.range' (cb + 1) d4).map (fk 1))⟩) hg5 ho5 hs5); clear ho5 hg5 hs5)
                  | (with_reducible (show wpList _ _ _ (⟨some 130, Op.load _ _, _, _, _, _⟩ :: _) _ _); go_must (refine wpList_load_lp rfl (.tmp 18) rfl w4.heap.size 2 1 0 (cb4 : Nat) 0 0 rfl p5 ?_))
                  | (go_at_call 17; (with_reducible refine (jx_ack (k := 1) (l := 2) (c := cb4) H5.out B4.out (by omega) (by omega) (by omega) (by omega) (Nat.le_of_eq HD4.out.2.1.symm)).mono ?_); rintro e w6 ⟨rfl, sa6, hc6, h6, b6⟩; have H6 := Lib.hid h6; have B6 := Lib.hid b6; have HC6 := Lib.hid hc6; clear h6 b6 hc6))
                go_roundg (gk - 1)
                case measure => omega
                case rel =>
                  have h6 := H6.out
                  rw [fk_row_app] at h6
                  exact ⟨i + 1, ca, cb + d4, max ka cb4, kb4, c5, cL, A5, Lf, sa6, sb4, by omega, by omega, hca, hcb4, rfl, rfl, by go_num, ⟨by rw [HC6.out, HCC.out], by rw [HD4.out.2.1]; exact HD4.out.1.symm⟩, h6.sub (((List.Sublist.refl _).cons _).cons_cons _) (by simp), B6.out⟩
              · by_cases hB1 : y = 1 ∧ 0 < m
                · have y0 : (y == 0) = false := by have := hB1.1; simp; omega
                  have y1 : (y == 1) = true := by simpa using hB1.1
                  have n0 : decide ((0 : Int) < (m : Int)) = true := by have := hB1.2; simp; omega
                  have n9 : 0 < m := hB1.2
                  clear hA hB1
                  obtain ⟨qu, hqu⟩ := lk_at (HX.out.r ⟨53, 25, .slice D m cD, m, rowC PR.cells ((List.range (m)).map fun j => pk 2 1 2 (1 + j) 0)⟩ (.tail _ (.tail _ (.head _)))) n9
                  subst hqu
                  obtain ⟨q, hq, hidx⟩ := idx_ok (x / 2) m n9 (by omega)
                  have iq : (q : Int) < (m : Int) := by omega
                  obtain ⟨qq, hqq⟩ : ∃ qq, 1 + q = qq := ⟨_, rfl⟩
                  have hra : wr.rangeAt qu (q * 25) (lpCells 2 1 ((1 + q : Nat) : Int) 0 2 ((1 + q : Nat) : Int)).toList := (pk_range (q := q) (f := 1) (a := 0) (pa := 2) (pb := 1) (k := 2) HX.out (.tail _ (.tail _ (.head _))) hq).2
                  have cg : Calls Try.prog 17 #[.pointer (some ⟨ga, 0, none⟩), .agg (lpCells 2 1 ((1 + q : Nat) : Int) 0 2 ((1 + q : Nat) : Int))] wr (JG W [⟨51, 21, .slice Rt cb cR, cb, rowC LR.cells ((List.range' 1 (cb)).map (fk 1))⟩, ⟨51, 21, .slice Lf ca cL, ca, rowC LR.cells ((List.range' 1 (ca)).map (fk 2))⟩, ⟨53, 25, .slice (some ⟨qu, 0, none⟩) m cD, m, rowC PR.cells ((List.range (m)).map fun j => pk 2 1 2 (1 + j) 0)⟩, ⟨53, 25, .slice U n cU, n, rowC PR.cells ((List.range (n)).map fun j => pk 1 2 1 (1 + j) 0)⟩] [] gb sb ga ca 2 1 2 1 m n kb ka 0 0 0 0 (1 + q)) := jx_got2 (q := 1 + q) (a := 0) (cb := ca) HX.out.swap HB.out.swap (by omega) (by omega) (by omega) (by omega) (by omega) (by omega) (by omega) HC.out.1
                  rw [hqq] at hra cg
                  have HRA := Lib.hid hra
                  have CG := Lib.hid cg
                  have hszP : (Try.prog.info? 53).map (·.size) = some (lpCells 2 1 (qq : Nat) 0 2 (qq : Nat)).toList.length := bg_infoP
                  have HCC := Lib.hid HC.out.2
                  clear hra cg hqq HX HB HC
                  go_wp2_with (first
                    | (refine wpList_load_mid rfl 53 (.tmp 154) rfl qu (q * 25) rfl (lpCells 2 1 (qq : Nat) 0 2 (qq : Nat)).toList _ HRA.out Try.underlying53 rfl hszP ?_)
                    | (go_at_call 17; (with_reducible refine (CG.out).mono ?_); rintro e w4 ⟨T4, c4, d4, cb4, sb4, kb4, rfl, hd4, hs4, hn4, hq4, hk4, h4, b4⟩; have p4 := (lp_box w4 1 2 0 (cb4 : Nat) 0 0).2; have H4 := Lib.hid ((h4.perm (R' := [⟨51, 21, .slice Lf ca cL, ca, rowC LR.cells ((List.range' 1 (ca)).map (fk 2))⟩, ⟨51, 21, .slice T4 d4 c4, d4, rowC LR.cells ((List.range' (ca + 1) d4).map (fk 2))⟩, ⟨51, 21, .slice Rt cb cR, cb, rowC LR.cells ((List.range' 1 (cb)).map (fk 1))⟩, ⟨53, 25, .slice (some ⟨qu, 0, none⟩) m cD, m, rowC PR.cells ((List.range (m)).map fun j => pk 2 1 2 (1 + j) 0)⟩, ⟨53, 25, .slice U n cU, n, rowC PR.cells ((List.range (n)).map fun j => pk 1 2 1 (1 + j) 0)⟩]) ((List.Perm.cons _ (List.Perm.swap _ _ _)).trans (List.Perm.swap _ _ _))).box (lp_box w4 1 2 0 (cb4 : Nat) 0 0).1 (Nat.le_refl _) (bg_lt p4)); have B4 := Lib.hid b4; have HD4 := Lib.hid (And.intro hd4 (And.intro hs4 hq4)); have hcb4 : ca + d4 ≤ 20 := (by omega); have HK4 := Lib.hid hk4; clear h4 b4 hd4 hs4 hn4 hq4 hk4)
                    | (with_reducible (show wpList _ _ _ (⟨none, Op.store _ (Operand.tmp 21) _, _, _, _, _⟩ :: _) _ _); go_must (refine wpList_store_lp rfl (.tmp 21) (.tmp 158) rfl w4.heap.size 1 2 0 (cb4 : Nat) 0 0 rfl rfl (heap_alloc_new w4 _) ?_))
                    | (at_builtin; go_must (refine wpList_append_any rfl (.tmp 160) (.tmp 161) 59 rfl W.heap.size 51 iL (.agg (ltCells 0 0)) 21 240 Try.underlying59 hiL hzL hsL hbL rfl (by decide) (.slice Lf ca cL) ca (rowC LR.cells ((List.range' 1 ca).map (fk 2))) rfl (fx_nil_sl H4.out) (.slice T4 d4 c4) d4 (rowC LR.cells ((List.range' (ca + 1) d4).map (fk 2))) rfl (From.own (fx_snd H4.out)) (rowC_all (fun y hy => by obtain ⟨j, _, rfl⟩ := List.mem_map.1 hy; exact LR.one (light_sl _ _))) (by unfold maxLen; omega) (by omega) H4.out.base.size ?_); intro A5 c5 w5 ho5 hg5 hs5; have p5 := fx_box H4.out hg5 p4; have H5 := Lib.hid (H4.out.grow (r' := ⟨51, 21, .slice A5 (ca + d4) c5, ca + d4, rowC LR.cells ((List.range' 1 ca).map (fk 2)) ++ rowC LR.cells ((List.range' (ca + 1) d4).map (fk 2))⟩) hg5 ho5 hs5); clear ho5 hg5 hs5)
                    | (with_reducible (show wpList _ _ _ (⟨some 164, Op.load _ _, _, _, _, _⟩ :: _) _ _); go_must (refine wpList_load_lp rfl (.tmp 21) rfl w4.heap.size 1 2 0 (cb4 : Nat) 0 0 rfl p5 ?_))
                    | (go_at_call 17; (with_reducible refine (jx_ack (k := 2) (l := 1) (c := cb4) H5.out B4.out (by omega) (by omega) (by omega) (by omega) (Nat.le_of_eq HD4.out.2.1.symm)).mono ?_); rintro e w6 ⟨rfl, sa6, hc6, h6, b6⟩; have H6 := Lib.hid h6; have B6 := Lib.hid b6; have HC6 := Lib.hid hc6; clear h6 b6 hc6))
                  go_roundg (gk - 1)
                  case measure => omega
                  case rel =>
                    have h6 := H6.out
                    rw [fk_row_app] at h6
                    exact ⟨i + 1, ca + d4, cb, kb4, max kb cb4, cR, c5, Rt, A5, sb4, sa6, by omega, by omega, hcb4, hcb, rfl, rfl, by go_num, ⟨by rw [HD4.out.2.1]; exact HD4.out.1.symm, by rw [HC6.out, HCC.out]⟩, ((h6.sub (((List.Sublist.refl _).cons _).cons_cons _) (by simp)).perm (List.Perm.swap _ _ _)).swap, B6.out.swap⟩
                · have hC1 : (y = 0 ∧ n = 0) ∨ (y = 1 ∧ m = 0) ∨ (y ≠ 0 ∧ y ≠ 1) := by omega
                  clear hA hB1
                  rcases hC1 with ⟨hy0, hn0⟩ | ⟨hy0, hm0⟩ | ⟨hy0, hy1⟩
                  · have y0 : (y == 0) = true := by simpa using hy0
                    have y1 : (y == 1) = false := by simp; omega
                    subst hn0
                    clear hy0
                    go_wp2_with fail
                    go_roundg (gk - 1)
                    case measure => omega
                    case rel => exact ⟨i + 1, ca, cb, ka, kb, cR, cL, Rt, Lf, sa, sb, by omega, by omega, hca, hcb, rfl, rfl, by go_num, HC, HX, HB⟩
                  · have y0 : (y == 0) = false := by simp; omega
                    have y1 : (y == 1) = true := by simpa using hy0
                    subst hm0
                    clear hy0
                    go_wp2_with fail
                    go_roundg (gk - 1)
                    case measure => omega
                    case rel => exact ⟨i + 1, ca, cb, ka, kb, cR, cL, Rt, Lf, sa, sb, by omega, by omega, hca, hcb, rfl, rfl, by go_num, HC, HX, HB⟩
                  · have y0 : (y == 0) = false := by simpa using hy0
                    have y1 : (y == 1) = false := by simpa using hy1
                    clear hy0 hy1
                    go_wp2_with fail
                    go_roundg (gk - 1)
                    case measure => omega
                    case rel => exact ⟨i + 1, ca, cb, ka, kb, cR, cL, Rt, Lf, sa, sb, by omega, by omega, hca, hcb, rfl, rfl, by go_num, HC, HX, HB⟩
            · obtain rfl : i = N := by omega
              have HB4 : Hid (Bi sa sb 1 2 (fk 1) (fk 2) n m ka kb 0 0 0 0) := HB
              have HX4 := HX
              have HC4 := HC
              clear HX HB HC
              go_wp2_with fail
              go_loopg [13, 14, 23] 13 (fun gh s13 s14 s23 wx => ∃ (k ca cb ka kb cR cL ua ub : Nat) (Rt Lf : Option Addr) (sa sb : LS), k + gh = 13 ∧ k ≤ 12 ∧ ca ≤ 20 ∧ cb ≤ 20 ∧ ua ≤ k ∧ ub ≤ k ∧ s13 = .slice Lf ca cL ∧ s14 = .slice Rt cb cR ∧ s23 = .int .i64 (k : Nat) ∧ Hid ((k ≤ 3 ∧ ua = 0 ∧ ub = 0) ∨ (ka = n ∧ kb = m)) ∧ Hid (sa.came = ca ∧ sb.came = cb) ∧ Hid (FX W wx [⟨51, 21, .slice Rt cb cR, cb, rowC LR.cells ((List.range' 1 (cb)).map (fk 1))⟩, ⟨51, 21, .slice Lf ca cL, ca, rowC LR.cells ((List.range' 1 (ca)).map (fk 2))⟩, ⟨53, 25, .slice D m cD, m, rowC PR.cells ((List.range (m)).map fun j => pk 2 1 2 (1 + j) 0)⟩, ⟨53, 25, .slice U n cU, n, rowC PR.cells ((List.range (n)).map fun j => pk 1 2 1 (1 + j) 0)⟩] [] ga sa gb sb) ∧ Hid (Bi sa sb 1 2 (fk 1) (fk 2) n m ka kb k k ua ub))
              case atStart => exact ⟨0, ca, cb, ka, kb, cR, cL, 0, 0, Rt, Lf, sa, sb, by omega, by omega, hca, hcb, by omega, by omega, rfl, rfl, rfl, .inl ⟨by omega, rfl, rfl⟩, HC4, HX4, HB4⟩
              case round =>
                clear HX4 HB4 HC4 hca hcb
                obtain ⟨k, ca, cb, ka, kb, cR, cL, ua, ub, Rt, Lf, sa, sb, hig4, hk12, hca, hcb, hua, hub, rfl, rfl, rfl, HK, HC, HX, HB⟩ := hrel
                by_cases hlt4 : k < 12
                · have dk : decide ((k : Int) < 12) = true := by simp; omega
                  have ct := Lib.hid (jx_tick HX.out HB.out (by omega) (by omega) (by omega) (by omega))
                  clear HX HB
                  go_wp2_with (go_at_call 15; (with_reducible refine (ct.out).mono ?_); rintro e w3 ⟨T1, c1, N1, sa1, ua1, rfl, hN1, hca1, h3, b3⟩; have HN1 := Lib.hid hN1; have HCA1 := Lib.hid hca1; have H3 := Lib.hid h3; have B3 := Lib.hid b3; clear hN1 hca1 h3 b3)
                  have HC3 : Hid (sa1.came = ca ∧ sb.came = cb) := ⟨by rw [HCA1.out]; exact HC.out.1, HC.out.2⟩
                  have H3' : Hid (FX W w3 [⟨53, 25, .slice T1 N1 c1, N1, rowC PR.cells ((List.range N1).map fun j => pk 1 2 1 (ka + 1 + j) ca)⟩, ⟨51, 21, .slice Rt cb cR, cb, rowC LR.cells ((List.range' 1 (cb)).map (fk 1))⟩, ⟨51, 21, .slice Lf ca cL, ca, rowC LR.cells ((List.range' 1 (ca)).map (fk 2))⟩, ⟨53, 25, .slice D m cD, m, rowC PR.cells ((List.range (m)).map fun j => pk 2 1 2 (1 + j) 0)⟩, ⟨53, 25, .slice U n cU, n, rowC PR.cells ((List.range (n)).map fun j => pk 1 2 1 (1 + j) 0)⟩] [] ga sa1 gb sb) := by have h := H3.out; rw [HC.out.1] at h; exact h
                  have hka0 : ka ≤ cb := by have := B3.out.ab.a; have := HC3.out.2; omega
                  have hkn : ka ≤ n := by have := B3.out.ab.a; have := B3.out.ab.s; have := B3.out.a3; omega
                  have hN1 : N1 ≤ 20 := by rcases HN1.out with z | z <;> omega
                  have hua1 : ua1 ≤ k + 1 := by rcases HN1.out with z | z <;> omega
                  have hN1n : N1 = 0 ∨ ka + N1 = n := by rcases HN1.out with z | z <;> omega
                  clear ct H3 HC HCA1 dk
                  --LOOP 5
                  go_loopg [14, 174] (N1 + 1) (fun gh s14 s174 wx => ∃ (j cb2 ka2 kb2 cR2 : Nat) (Rt2 : Option Addr) (sa2 sb2 : LS), j + gh = N1 + 1 ∧ j ≤ N1 ∧ cb2 ≤ 20 ∧ s14 = .slice Rt2 cb2 cR2 ∧ s174 = .int .i64 (j : Nat) ∧ ka + j ≤ cb2 ∧ Hid ((j = 0 ∧ ka2 = ka) ∨ ka + j ≤ ka2) ∧ Hid (kb ≤ kb2 ∧ sa2.came = ca ∧ sb2.came = cb2) ∧ Hid (FX W wx [⟨53, 25, .slice T1 N1 c1, N1, rowC PR.cells ((List.range N1).map fun j => pk 1 2 1 (ka + 1 + j) ca)⟩, ⟨51, 21, .slice Rt2 cb2 cR2, cb2, rowC LR.cells ((List.range' 1 cb2).map (fk 1))⟩, ⟨51, 21, .slice Lf ca cL, ca, rowC LR.cells ((List.range' 1 (ca)).map (fk 2))⟩, ⟨53, 25, .slice D m cD, m, rowC PR.cells ((List.range (m)).map fun j => pk 2 1 2 (1 + j) 0)⟩, ⟨53, 25, .slice U n cU, n, rowC PR.cells ((List.range (n)).map fun j => pk 1 2 1 (1 + j) 0)⟩] [] ga sa2 gb sb2) ∧ Hid (Bi sa2 sb2 1 2 (fk 1) (fk 2) n m ka2 kb2 (k + 1) k ua1 ub))
                  case atStart => exact ⟨0, cb, ka, kb, cR, Rt, sa1, sb, by omega, by omega, hcb, rfl, rfl, by omega, .inl ⟨rfl, rfl⟩, ⟨Nat.le_refl _, HC3.out⟩, H3', B3⟩
                  case round =>
                    clear H3' B3 HC3
                    obtain ⟨j, cb2, ka2, kb2, cR2, Rt2, sa2, sb2, hjg, hjN, hcb2, rfl, rfl, hkj, HJ, HC, HX, HB⟩ := hrel
                    by_cases hlt5 : j < N1
                    · have ij : (j : Int) < (N1 : Int) := by omega
                      obtain ⟨qu, hqu⟩ := lk_at (HX.out.r ⟨53, 25, .slice T1 N1 c1, N1, rowC PR.cells ((List.range N1).map fun j => pk 1 2 1 (ka + 1 + j) ca)⟩ (.head _)) (show 0 < N1 by omega)
                      subst hqu
                      obtain ⟨qq, hqq⟩ : ∃ qq, ka + 1 + j = qq := ⟨_, rfl⟩
                      have hra := (pk_range (q := j) (f := ka + 1) (a := ca) (pa := 1) (pb := 2) (k := 1) HX.out (.head _) hlt5).2
                      have cg : ∀ w, FX W w [⟨53, 25, .slice (some ⟨qu, 0, none⟩) N1 c1, N1, rowC PR.cells ((List.range N1).map fun j => pk 1 2 1 (ka + 1 + j) ca)⟩, ⟨51, 21, .slice Rt2 cb2 cR2, cb2, rowC LR.cells ((List.range' 1 cb2).map (fk 1))⟩, ⟨51, 21, .slice Lf ca cL, ca, rowC LR.cells ((List.range' 1 (ca)).map (fk 2))⟩, ⟨53, 25, .slice D m cD, m, rowC PR.cells ((List.range (m)).map fun j => pk 2 1 2 (1 + j) 0)⟩, ⟨53, 25, .slice U n cU, n, rowC PR.cells ((List.range (n)).map fun j => pk 1 2 1 (1 + j) 0)⟩] [] ga sa2 gb sb2 → Calls Try.prog 17 #[.pointer (some ⟨gb, 0, none⟩), .agg (lpCells 1 2 ((ka + 1 + j : Nat) : Int) (ca : Nat) 1 ((ka + 1 + j : Nat) : Int))] w (JG W [⟨53, 25, .slice (some ⟨qu, 0, none⟩) N1 c1, N1, rowC PR.cells ((List.range N1).map fun j => pk 1 2 1 (ka + 1 + j) ca)⟩, ⟨51, 21, .slice Rt2 cb2 cR2, cb2, rowC LR.cells ((List.range' 1 cb2).map (fk 1))⟩, ⟨51, 21, .slice Lf ca cL, ca, rowC LR.cells ((List.range' 1 (ca)).map (fk 2))⟩, ⟨53, 25, .slice D m cD, m, rowC PR.cells ((List.range (m)).map fun j => pk 2 1 2 (1 + j) 0)⟩, ⟨53, 25, .slice U n cU, n, rowC PR.cells ((List.range (n)).map fun j => pk 1 2 1 (1 + j) 0)⟩] [] ga sa2 gb cb2 1 2 1 2 n m ka2 kb2 (k + 1) k ua1 ub (ka + 1 + j)) := fun w hx => jx_got2 (q := ka + 1 + j) (a := ca) (cb := cb2) hx HB.out (by omega) (by omega) (by omega) (by omega) (by omega) (by omega) (Nat.le_of_eq HC.out.2.1.symm) HC.out.2.2
                      rw [hqq] at hra cg
                      have HRA := Lib.hid hra
                      have CG := Lib.hid cg
                      have HQQ := Lib.hid hqq
                      have hszP : (Try.prog.info? 53).map (·.size) = some (lpCells 1 2 (qq : Nat) (ca : Nat) 1 (qq : Nat)).toList.length := bg_infoP
                      have H0 := Lib.hid (HX.out.below (lp_box wr 1 2 (qq : Nat) (ca : Nat) 1 (qq : Nat)).1)
                      have hx0 := HX
                      clear hra cg hqq HB
                      go_wp2_with (first
                        | (refine wpList_load_mid rfl 53 (.tmp 176) rfl qu (j * 25) rfl (lpCells 1 2 (qq : Nat) (ca : Nat) 1 (qq : Nat)).toList _ HRA.out Try.underlying53 rfl hszP ?_)
                        | (with_reducible (show wpList _ _ _ (⟨none, Op.store _ (Operand.tmp 25) _, _, _, _, _⟩ :: _) _ _); go_must (refine wpList_store_lp rfl (.tmp 25) (.tmp 177) rfl wr.heap.size 1 2 (qq : Nat) (ca : Nat) 1 (qq : Nat) rfl rfl (heap_alloc_new wr _) ?_))
                        | (with_reducible (show wpList _ _ _ (⟨some 180, Op.load _ _, _, _, _, _⟩ :: _) _ _); go_must (refine wpList_load_lp rfl (.tmp 25) rfl wr.heap.size 1 2 (qq : Nat) (ca : Nat) 1 (qq : Nat) rfl (lp_box wr 1 2 (qq : Nat) (ca : Nat) 1 (qq : Nat)).2 ?_))
                        | (go_at_call 17; (with_reducible refine (CG.out _ (hx0.out.below (lp_box wr 1 2 (qq : Nat) (ca : Nat) 1 (qq : Nat)).1)).mono ?_); rintro e w4 ⟨T4, c4, d4, cb4, sb4, kb4, rfl, hd4, hs4, hn4, hq4, hk4, h4, b4⟩; have p4 := (lp_box w4 2 1 0 (cb4 : Nat) 0 0).2; have H4 := Lib.hid ((h4.perm (R' := [⟨51, 21, .slice Rt2 cb2 cR2, cb2, rowC LR.cells ((List.range' 1 cb2).map (fk 1))⟩, ⟨51, 21, .slice T4 d4 c4, d4, rowC LR.cells ((List.range' (cb2 + 1) d4).map (fk 1))⟩, ⟨53, 25, .slice (some ⟨qu, 0, none⟩) N1 c1, N1, rowC PR.cells ((List.range N1).map fun j => pk 1 2 1 (ka + 1 + j) ca)⟩, ⟨51, 21, .slice Lf ca cL, ca, rowC LR.cells ((List.range' 1 (ca)).map (fk 2))⟩, ⟨53, 25, .slice D m cD, m, rowC PR.cells ((List.range (m)).map fun j => pk 2 1 2 (1 + j) 0)⟩, ⟨53, 25, .slice U n cU, n, rowC PR.cells ((List.range (n)).map fun j => pk 1 2 1 (1 + j) 0)⟩]) ((List.Perm.cons _ (List.Perm.swap _ _ _)).trans (List.Perm.swap _ _ _))).box (lp_box w4 2 1 0 (cb4 : Nat) 0 0).1 (Nat.le_refl _) (bg_lt p4)); have B4 := Lib.hid b4; have HD4 := Lib.hid (And.intro hd4 (And.intro hs4 hq4)); have hcb4 : cb2 + d4 ≤ 20 := (by omega); have HK4 := Lib.hid hk4; clear h4 b4 hd4 hs4 hn4 hq4 hk4)
                        | (with_reducible (show wpList _ _ _ (⟨none, Op.store _ (Operand.tmp 27) _, _, _, _, _⟩ :: _) _ _); go_must (refine wpList_store_lp rfl (.tmp 27) (.tmp 183) rfl w4.heap.size 2 1 0 (cb4 : Nat) 0 0 rfl rfl (heap_alloc_new w4 _) ?_))
                        | (at_builtin; go_must (refine wpList_append_any rfl (.tmp 185) (.tmp 186) 59 rfl W.heap.size 51 iL (.agg (ltCells 0 0)) 21 240 Try.underlying59 hiL hzL hsL hbL rfl (by decide) (.slice Rt2 cb2 cR2) cb2 (rowC LR.cells ((List.range' 1 cb2).map (fk 1))) rfl (fx_nil_sl H4.out) (.slice T4 d4 c4) d4 (rowC LR.cells ((List.range' (cb2 + 1) d4).map (fk 1))) rfl (From.own (fx_snd H4.out)) (rowC_all (fun y hy => by obtain ⟨j, _, rfl⟩ := List.mem_map.1 hy; exact LR.one (light_sl _ _))) (by unfold maxLen; omega) (by omega) H4.out.base.size ?_); intro A5 c5 w5 ho5 hg5 hs5; have p5 := fx_box H4.out hg5 p4; have H5 := Lib.hid (H4.out.grow (r' := ⟨51, 21, .slice A5 (cb2 + d4) c5, cb2 + d4, rowC LR.cells ((List.range' 1 cb2).map (fk 1)) ++ rowC LR.cells ((List.range' (cb2 + 1) d4).map (fk 1))⟩) hg5 ho5 hs5); clear ho5 hg5 hs5)
                        | (with_reducible (show wpList _ _ _ (⟨some 189, Op.load _ _, _, _, _, _⟩ :: _) _ _); go_must (refine wpList_load_lp rfl (.tmp 27) rfl w4.heap.size 2 1 0 (cb4 : Nat) 0 0 rfl p5 ?_))
                        | (go_at_call 17; (with_reducible refine (jx_ack (k := 1) (l := 2) (c := cb4) H5.out B4.out (by omega) (by omega) (by omega) (by omega) (Nat.le_of_eq HD4.out.2.1.symm)).mono ?_); rintro e w6 ⟨rfl, sa6, hc6, h6, b6⟩; have H6 := Lib.hid h6; have B6 := Lib.hid b6; have HC6 := Lib.hid hc6; clear h6 b6 hc6))
                      go_roundg (gk - 1)
                      case measure => omega
                      case rel =>
                        have h6 := H6.out
                        rw [fk_row_app] at h6
                        have hd := HD4.out
                        have hq := HQQ.out
                        have hkj2 : ka + (j + 1) ≤ cb2 + d4 := by
                          by_cases hz : cb2 + 1 = qq
                          · have := hd.2.2 hz; omega
                          · omega
                        refine ⟨j + 1, cb2 + d4, max ka2 cb4, kb4, c5, A5, sa6, sb4, by omega, by omega, hcb4, rfl, by go_num, hkj2, .inr (by omega), ⟨?_, by rw [HC6.out]; exact HC.out.2.1, by rw [hd.2.1]; exact hd.1.symm⟩, (h6.sub (((List.Sublist.refl _).cons _).cons_cons _) (by simp)).perm (List.Perm.swap _ _ _), B6.out⟩
                        exact Nat.le_trans HC.out.1 HK4.out
                    · obtain rfl : N1 = j := by omega
                      have HNA : Hid ((k ≤ 2 → ua = 0 → ua1 = 0) ∧ (3 ≤ k → ua = 0 → n ≤ ka2) ∧ (ka = n → n ≤ ka2)) := by
                        have h1 := HN1.out
                        have h2 := HJ.out
                        refine ⟨fun _ _ => ?_, fun _ _ => ?_, fun _ => ?_⟩ <;> omega
                      have HKB : Hid (kb ≤ kb2) := HC.out.1
                      have HC5 : Hid (sb2.came = cb2 ∧ sa2.came = ca) := ⟨HC.out.2.2, HC.out.2.1⟩
                      have HX5 := Lib.hid ((HX.out.sub (R' := [⟨51, 21, .slice Rt2 cb2 cR2, cb2, rowC LR.cells ((List.range' 1 cb2).map (fk 1))⟩, ⟨51, 21, .slice Lf ca cL, ca, rowC LR.cells ((List.range' 1 (ca)).map (fk 2))⟩, ⟨53, 25, .slice D m cD, m, rowC PR.cells ((List.range (m)).map fun j => pk 2 1 2 (1 + j) 0)⟩, ⟨53, 25, .slice U n cU, n, rowC PR.cells ((List.range (n)).map fun j => pk 1 2 1 (1 + j) 0)⟩]) ((List.Sublist.refl _).cons _) (fun _ hq => hq)).swap)
                      have ct := Lib.hid (jx_tick HX5.out HB.out.swap (by omega) (by omega) (by omega) (by omega))
                      have hkb0 : kb2 ≤ m := by have := HB.out.ba.a; have := HB.out.ba.s; have := HB.out.b3; omega
                      clear HX HB HC HN1 HJ hN1n
                      go_wp2_with (go_at_call 15; (with_reducible refine (ct.out).mono ?_); rintro e w3 ⟨T2, c2, N2, sb1, ub1, rfl, hN2, hcb1, h3, b3⟩; have HN2 := Lib.hid hN2; have HCB1 := Lib.hid hcb1; have H3 := Lib.hid h3; have B3 := Lib.hid b3; clear hN2 hcb1 h3 b3)
                      have HC3 : Hid (sb1.came = cb2 ∧ sa2.came = ca) := ⟨by rw [HCB1.out]; exact HC5.out.1, HC5.out.2⟩
                      have H3' : Hid (FX W w3 [⟨53, 25, .slice T2 N2 c2, N2, rowC PR.cells ((List.range N2).map fun j => pk 2 1 2 (kb2 + 1 + j) cb2)⟩, ⟨51, 21, .slice Rt2 cb2 cR2, cb2, rowC LR.cells ((List.range' 1 cb2).map (fk 1))⟩, ⟨51, 21, .slice Lf ca cL, ca, rowC LR.cells ((List.range' 1 (ca)).map (fk 2))⟩, ⟨53, 25, .slice D m cD, m, rowC PR.cells ((List.range (m)).map fun j => pk 2 1 2 (1 + j) 0)⟩, ⟨53, 25, .slice U n cU, n, rowC PR.cells ((List.range (n)).map fun j => pk 1 2 1 (1 + j) 0)⟩] [] gb sb1 ga sa2) := by have h := H3.out; rw [HC5.out.1] at h; exact h
                      have hkb1 : kb2 ≤ ca := by have := B3.out.ab.a; have := HC3.out.2; omega
                      have hN2b : N2 ≤ 20 := by rcases HN2.out with z | z <;> omega
                      have hub1 : ub1 ≤ k + 1 := by rcases HN2.out with z | z <;> omega
                      have hN2n : N2 = 0 ∨ kb2 + N2 = m := by rcases HN2.out with z | z <;> omega
                      clear ct H3 HC5 HCB1 HX5
                      --LOOP 6
                      go_loopg [13, 195] (N2 + 1) (fun gh s13 s195 wx => ∃ (j ca2 ka3 kb3 cL2 : Nat) (Lf2 : Option Addr) (sa3 sb3 : LS), j + gh = N2 + 1 ∧ j ≤ N2 ∧ ca2 ≤ 20 ∧ s13 = .slice Lf2 ca2 cL2 ∧ s195 = .int .i64 (j : Nat) ∧ kb2 + j ≤ ca2 ∧ Hid ((j = 0 ∧ kb3 = kb2) ∨ kb2 + j ≤ kb3) ∧ Hid (ka2 ≤ ka3 ∧ sb3.came = cb2 ∧ sa3.came = ca2) ∧ Hid (FX W wx [⟨53, 25, .slice T2 N2 c2, N2, rowC PR.cells ((List.range N2).map fun j => pk 2 1 2 (kb2 + 1 + j) cb2)⟩, ⟨51, 21, .slice Rt2 cb2 cR2, cb2, rowC LR.cells ((List.range' 1 cb2).map (fk 1))⟩, ⟨51, 21, .slice Lf2 ca2 cL2, ca2, rowC LR.cells ((List.range' 1 ca2).map (fk 2))⟩, ⟨53, 25, .slice D m cD, m, rowC PR.cells ((List.range (m)).map fun j => pk 2 1 2 (1 + j) 0)⟩, ⟨53, 25, .slice U n cU, n, rowC PR.cells ((List.range (n)).map fun j => pk 1 2 1 (1 + j) 0)⟩] [] gb sb3 ga sa3) ∧ Hid (Bi sb3 sa3 2 1 (fk 2) (fk 1) m n kb3 ka3 (k + 1) (k + 1) ub1 ua1))
                      case atStart => exact ⟨0, ca, ka2, kb2, cL, Lf, sa2, sb1, by omega, by omega, hca, rfl, rfl, by omega, .inl ⟨rfl, rfl⟩, ⟨Nat.le_refl _, HC3.out⟩, H3', B3⟩
                      case round =>
                        clear H3' B3 HC3
                        obtain ⟨j, ca2, ka3, kb3, cL2, Lf2, sa3, sb3, hjg, hjN, hca2, rfl, rfl, hkj6, HJ, HC, HX, HB⟩ := hrel
                        by_cases hlt6 : j < N2
                        · have ij : (j : Int) < (N2 : Int) := by omega
                          obtain ⟨qu, hqu⟩ := lk_at (HX.out.r ⟨53, 25, .slice T2 N2 c2, N2, rowC PR.cells ((List.range N2).map fun j => pk 2 1 2 (kb2 + 1 + j) cb2)⟩ (.head _)) (show 0 < N2 by omega)
                          subst hqu
                          obtain ⟨qq, hqq⟩ : ∃ qq, kb2 + 1 + j = qq := ⟨_, rfl⟩
                          have hra := (pk_range (q := j) (f := kb2 + 1) (a := cb2) (pa := 2) (pb := 1) (k := 2) HX.out (.head _) hlt6).2
                          have cg : ∀ w, FX W w [⟨53, 25, .slice (some ⟨qu, 0, none⟩) N2 c2, N2, rowC PR.cells ((List.range N2).map fun j => pk 2 1 2 (kb2 + 1 + j) cb2)⟩, ⟨51, 21, .slice Rt2 cb2 cR2, cb2, rowC LR.cells ((List.range' 1 cb2).map (fk 1))⟩, ⟨51, 21, .slice Lf2 ca2 cL2, ca2, rowC LR.cells ((List.range' 1 ca2).map (fk 2))⟩, ⟨53, 25, .slice D m cD, m, rowC PR.cells ((List.range (m)).map fun j => pk 2 1 2 (1 + j) 0)⟩, ⟨53, 25, .slice U n cU, n, rowC PR.cells ((List.range (n)).map fun j => pk 1 2 1 (1 + j) 0)⟩] [] gb sb3 ga sa3 → Calls Try.prog 17 #[.pointer (some ⟨ga, 0, none⟩), .agg (lpCells 2 1 ((kb2 + 1 + j : Nat) : Int) (cb2 : Nat) 2 ((kb2 + 1 + j : Nat) : Int))] w (JG W [⟨53, 25, .slice (some ⟨qu, 0, none⟩) N2 c2, N2, rowC PR.cells ((List.range N2).map fun j => pk 2 1 2 (kb2 + 1 + j) cb2)⟩, ⟨51, 21, .slice Rt2 cb2 cR2, cb2, rowC LR.cells ((List.range' 1 cb2).map (fk 1))⟩, ⟨51, 21, .slice Lf2 ca2 cL2, ca2, rowC LR.cells ((List.range' 1 ca2).map (fk 2))⟩, ⟨53, 25, .slice D m cD, m, rowC PR.cells ((List.range (m)).map fun j => pk 2 1 2 (1 + j) 0)⟩, ⟨53, 25, .slice U n cU, n, rowC PR.cells ((List.range (n)).map fun j => pk 1 2 1 (1 + j) 0)⟩] [] gb sb3 ga ca2 2 1 2 1 m n kb3 ka3 (k + 1) (k + 1) ub1 ua1 (kb2 + 1 + j)) := fun w hx => jx_got2 (q := kb2 + 1 + j) (a := cb2) (cb := ca2) hx HB.out (by omega) (by omega) (by omega) (by omega) (by omega) (by omega) (Nat.le_of_eq HC.out.2.1.symm) HC.out.2.2
                          rw [hqq] at hra cg
                          have HRA := Lib.hid hra
                          have CG := Lib.hid cg
                          have HQQ := Lib.hid hqq
                          have hszP : (Try.prog.info? 53).map (·.size) = some (lpCells 2 1 (qq : Nat) (cb2 : Nat) 2 (qq : Nat)).toList.length := bg_infoP
                          have hx0 := HX
                          clear hra cg hqq HB
                          go_wp2_with (first
                            | (refine wpList_load_mid rfl 53 (.tmp 197) rfl qu (j * 25) rfl (lpCells 2 1 (qq : Nat) (cb2 : Nat) 2 (qq : Nat)).toList _ HRA.out Try.underlying53 rfl hszP ?_)
                            | (with_reducible (show wpList _ _ _ (⟨none, Op.store _ (Operand.tmp 30) _, _, _, _, _⟩ :: _) _ _); go_must (refine wpList_store_lp rfl (.tmp 30) (.tmp 198) rfl wr.heap.size 2 1 (qq : Nat) (cb2 : Nat) 2 (qq : Nat) rfl rfl (heap_alloc_new wr _) ?_))
                            | (with_reducible (show wpList _ _ _ (⟨some 201, Op.load _ _, _, _, _, _⟩ :: _) _ _); go_must (refine wpList_load_lp rfl (.tmp 30) rfl wr.heap.size 2 1 (qq : Nat) (cb2 : Nat) 2 (qq : Nat) rfl (lp_box wr 2 1 (qq : Nat) (cb2 : Nat) 2 (qq : Nat)).2 ?_))
                            | (go_at_call 17; (with_reducible refine (CG.out _ (hx0.out.below (lp_box wr 2 1 (qq : Nat) (cb2 : Nat) 2 (qq : Nat)).1)).mono ?_); rintro e w4 ⟨T4, c4, d4, cb4, sb4, kb4, rfl, hd4, hs4, hn4, hq4, hk4, h4, b4⟩; have p4 := (lp_box w4 1 2 0 (cb4 : Nat) 0 0).2; have H4 := Lib.hid ((h4.perm (R' := [⟨51, 21, .slice Lf2 ca2 cL2, ca2, rowC LR.cells ((List.range' 1 ca2).map (fk 2))⟩, ⟨51, 21, .slice T4 d4 c4, d4, rowC LR.cells ((List.range' (ca2 + 1) d4).map (fk 2))⟩, ⟨53, 25, .slice (some ⟨qu, 0, none⟩) N2 c2, N2, rowC PR.cells ((List.range N2).map fun j => pk 2 1 2 (kb2 + 1 + j) cb2)⟩, ⟨51, 21, .slice Rt2 cb2 cR2, cb2, rowC LR.cells ((List.range' 1 cb2).map (fk 1))⟩, ⟨53, 25, .slice D m cD, m, rowC PR.cells ((List.range (m)).map fun j => pk 2 1 2 (1 + j) 0)⟩, ⟨53, 25, .slice U n cU, n, rowC PR.cells ((List.range (n)).map fun j => pk 1 2 1 (1 + j) 0)⟩]) ((List.Perm.cons _ ((List.Perm.cons _ (List.Perm.swap _ _ _)).trans (List.Perm.swap _ _ _))).trans (List.Perm.swap _ _ _))).box (lp_box w4 1 2 0 (cb4 : Nat) 0 0).1 (Nat.le_refl _) (bg_lt p4)); have B4 := Lib.hid b4; have HD4 := Lib.hid (And.intro hd4 (And.intro hs4 hq4)); have hcb4 : ca2 + d4 ≤ 20 := (by omega); have HK4 := Lib.hid hk4; clear h4 b4 hd4 hs4 hn4 hq4 hk4)
                            | (with_reducible (show wpList _ _ _ (⟨none, Op.store _ (Operand.tmp 32) _, _, _, _, _⟩ :: _) _ _); go_must (refine wpList_store_lp rfl (.tmp 32) (.tmp 204) rfl w4.heap.size 1 2 0 (cb4 : Nat) 0 0 rfl rfl (heap_alloc_new w4 _) ?_))
                            | (at_builtin; go_must (refine wpList_append_any rfl (.tmp 206) (.tmp 207) 59 rfl W.heap.size 51 iL (.agg (ltCells 0 0)) 21 240 Try.underlying59 hiL hzL hsL hbL rfl (by decide) (.slice Lf2 ca2 cL2) ca2 (rowC LR.cells ((List.range' 1 ca2).map (fk 2))) rfl (fx_nil_sl H4.out) (.slice T4 d4 c4) d4 (rowC LR.cells ((List.range' (ca2 + 1) d4).map (fk 2))) rfl (From.own (fx_snd H4.out)) (rowC_all (fun y hy => by obtain ⟨j, _, rfl⟩ := List.mem_map.1 hy; exact LR.one (light_sl _ _))) (by unfold maxLen; omega) (by omega) H4.out.base.size ?_); intro A5 c5 w5 ho5 hg5 hs5; have p5 := fx_box H4.out hg5 p4; have H5 := Lib.hid (H4.out.grow (r' := ⟨51, 21, .slice A5 (ca2 + d4) c5, ca2 + d4, rowC LR.cells ((List.range' 1 ca2).map (fk 2)) ++ rowC LR.cells ((List.range' (ca2 + 1) d4).map (fk 2))⟩) hg5 ho5 hs5); clear ho5 hg5 hs5)
                            | (with_reducible (show wpList _ _ _ (⟨some 210, Op.load _ _, _, _, _, _⟩ :: _) _ _); go_must (refine wpList_load_lp rfl (.tmp 32) rfl w4.heap.size 1 2 0 (cb4 : Nat) 0 0 rfl p5 ?_))
                            | (go_at_call 17; (with_reducible refine (jx_ack (k := 2) (l := 1) (c := cb4) H5.out B4.out (by omega) (by omega) (by omega) (by omega) (Nat.le_of_eq HD4.out.2.1.symm)).mono ?_); rintro e w6 ⟨rfl, sa6, hc6, h6, b6⟩; have H6 := Lib.hid h6; have B6 := Lib.hid b6; have HC6 := Lib.hid hc6; clear h6 b6 hc6))
                          go_roundg (gk - 1)
                          case measure => omega
                          case rel =>
                            have h6 := H6.out
                            rw [fk_row_app] at h6
                            have hd := HD4.out
                            have hq := HQQ.out
                            have hkj2 : kb2 + (j + 1) ≤ ca2 + d4 := by
                              by_cases hz : ca2 + 1 = qq
                              · have := hd.2.2 hz; omega
                              · omega
                            refine ⟨j + 1, ca2 + d4, kb4, max kb3 cb4, c5, A5, sb4, sa6, by omega, by omega, hcb4, rfl, by go_num, hkj2, .inr (by omega), ⟨?_, by rw [HC6.out]; exact HC.out.2.1, by rw [hd.2.1]; exact hd.1.symm⟩, ((h6.sub (((List.Sublist.refl _).cons _).cons_cons _) (by simp)).perm ((List.Perm.swap _ _ _).trans (List.Perm.cons _ (List.Perm.swap _ _ _)))), B6.out⟩
                            exact Nat.le_trans HC.out.1 HK4.out
                        · obtain rfl : N2 = j := by omega
                          go_wp2_with fail
                          go_roundg (12 - k)
                          case measure => omega
                          case rel =>
                            have h1 := HN2.out
                            have h2 := HJ.out
                            have h3 := HNA.out
                            have h4 := HKB.out
                            have h5 := HC.out
                            have h6 := HK.out
                            have b1 : kb3 ≤ m := by have := HB.out.ab.a; have := HB.out.ab.s; have := HB.out.a3; omega
                            have b2 : ka3 ≤ n := by have := HB.out.ba.a; have := HB.out.ba.s; have := HB.out.b3; omega
                            refine ⟨k + 1, ca2, cb2, ka3, kb3, cR2, cL2, ua1, ub1, Rt2, Lf2, sa3, sb3, by omega, by omega, hca2, hcb2, hua1, hub1, rfl, rfl, by go_num, ?_, ⟨h5.2.2, h5.2.1⟩, (HX.out.sub (R' := [⟨51, 21, .slice Rt2 cb2 cR2, cb2, rowC LR.cells ((List.range' 1 cb2).map (fk 1))⟩, ⟨51, 21, .slice Lf2 ca2 cL2, ca2, rowC LR.cells ((List.range' 1 ca2).map (fk 2))⟩, ⟨53, 25, .slice D m cD, m, rowC PR.cells ((List.range (m)).map fun j => pk 2 1 2 (1 + j) 0)⟩, ⟨53, 25, .slice U n cU, n, rowC PR.cells ((List.range (n)).map fun j => pk 1 2 1 (1 + j) 0)⟩]) ((List.Sublist.refl _).cons _) (fun _ hq => hq)).swap, HB.out.swap⟩
                            show _ ∨ _
                            rcases h6 with ⟨z1, z2, z3⟩ | ⟨z1, z2⟩
                            · by_cases hk2 : k ≤ 2
                              · exact .inl ⟨by omega, h3.1 hk2 z2, by omega⟩
                              · have := h3.2.1 (by omega) z2
                                exact .inr ⟨by omega, by omega⟩
                            · have := h3.2.2 z1
                              exact .inr ⟨by omega, by omega⟩
                · obtain rfl : k = 12 := by omega
                  have dk : decide (((12 : Nat) : Int) < 12) = false := by decide
                  have hk : ka = n ∧ kb = m := by rcases HK.out with z | z <;> omega
                  have hr1 := HB.out.rest (by omega) (by omega)
                  have hr2 := HB.out.swap.rest (by omega) (by omega)
                  have hcn : n = cb := by have := HB.out.ab.a; have := HB.out.ab.s; have := HB.out.a3; have := HC.out.2; omega
                  have hcm : m = ca := by have := HB.out.ba.a; have := HB.out.ba.s; have := HB.out.b3; have := HC.out.1; omega
                  subst hcn
                  subst hcm
                  have R1 := HX.out.x.left.rest
                  have R2 := HX.out.x.right.rest
                  rw [hr1] at R1
                  rw [hr2] at R2
                  have CR1 := Lib.hid R1
                  have CR2 := Lib.hid R2
                  have HW := Lib.hid HX.out.base
                  have hcR : ∀ i, i < n → ∃ b, Rt = some ⟨b, 0, none⟩ ∧ wr.cell? ⟨b, i * 21 + 3, none⟩ = some (.int .i64 ((i : Int) + 1)) := fun i hi => fk_cell (k := 1) (HX.out.r ⟨51, 21, .slice Rt n cR, n, rowC LR.cells ((List.range' 1 n).map (fk 1))⟩ (.head _)) hi
                  have hcL : ∀ i, i < m → ∃ b, Lf = some ⟨b, 0, none⟩ ∧ wr.cell? ⟨b, i * 21 + 3, none⟩ = some (.int .i64 ((i : Int) + 1)) := fun i hi => fk_cell (k := 2) (HX.out.r ⟨51, 21, .slice Lf m cL, m, rowC LR.cells ((List.range' 1 m).map (fk 2))⟩ (.tail _ (.head _))) hi
                  have HCR := Lib.hid hcR
                  have HCL := Lib.hid hcL
                  clear HX HB HC HK hk hr1 hr2 R1 R2 hcR hcL
                  obtain ⟨wz, hwz⟩ : ∃ wz : World, wz = wr := ⟨_, rfl⟩
                  rw [← hwz] at HCR HCL HW CR1 CR2 ⊢
                  clear hwz
                  go_wp2_with (first
                    | (go_at_call 23; (with_reducible refine (CR1.out).mono ?_); rintro e w8 ⟨rfl, rfl⟩)
                    | (go_at_call 23; (with_reducible refine (CR2.out).mono ?_); rintro e w9 ⟨rfl, rfl⟩))
                  --LOOP 7
                  go_loopg [235] (n + 1) (fun gh s235 wx => ∃ i : Nat, i + gh = n + 1 ∧ i ≤ n ∧ s235 = .int .i64 (i : Nat) ∧ wx = w9)
                  case atStart => exact ⟨0, by omega, by omega, rfl, rfl⟩
                  case round =>
                    obtain ⟨i, hi7, hin7, rfl, rfl⟩ := hrel
                    by_cases hlt7 : i < n
                    · obtain ⟨b, hb, hc⟩ := HCR.out i hlt7
                      subst hb
                      have i7 : (i : Int) < (n : Int) := by omega
                      have z7 : IntKind.i64.wrap ((i : Int) + 1) = (i : Int) + 1 := by rw [IntKind.wrap_i64]; omega
                      go_wp2_with fail
                      go_roundg (gk - 1)
                      case measure => omega
                      case rel => exact ⟨i + 1, by omega, by omega, by go_num, rfl⟩
                    · obtain rfl : n = i := by omega
                      go_wp2_with fail
                      --LOOP 8
                      go_loopg [249] (m + 1) (fun gh s249 wx => ∃ i : Nat, i + gh = m + 1 ∧ i ≤ m ∧ s249 = .int .i64 (i : Nat) ∧ wx = wr)
                      case atStart => exact ⟨0, by omega, by omega, rfl, rfl⟩
                      case round =>
                        obtain ⟨i, hi8, hin8, rfl, rfl⟩ := hrel
                        by_cases hlt8 : i < m
                        · obtain ⟨b, hb, hc⟩ := HCL.out i hlt8
                          subst hb
                          have i8 : (i : Int) < (m : Int) := by omega
                          have z8 : IntKind.i64.wrap ((i : Int) + 1) = (i : Int) + 1 := by rw [IntKind.wrap_i64]; omega
                          go_wp2_with fail
                          go_roundg (gk - 1)
                          case measure => omega
                          case rel => exact ⟨i + 1, by omega, by omega, by go_num, rfl⟩
                        · obtain rfl : m = i := by omega
                          go_wp2_with fail
                          go_ret
                          exact ⟨rfl, HW.out⟩
set_option maxRecDepth 20000 in
theorem linkBoth_any (n m : Int) (LA : Option Addr) (lc : Nat) (zs : List Int) (W : World) (_n0 : -9223372036854775808 ≤ n) (_n1 : n ≤ 9223372036854775807) (_m0 : -9223372036854775808 ≤ m) (_m1 : m ≤ 9223372036854775807) (hl : zs.length ≤ 9223372036854775807) (hL : IntsAt W LA .i64 zs) (hzb : ∀ x ∈ zs, -9223372036854775808 ≤ x ∧ x ≤ 9223372036854775807) :
    Calls Try.prog 8 #[.int .i64 n, .int .i64 m, .slice LA zs.length lc] W fun e w' => e = .returned (.bool true) ∧ Below W.heap.size W w' := by
  have CA := Lib.hid aliveL
  by_cases c0 : n < 0
  · have d0 : decide (n < 0) = true := by simp; omega
    go_enter Try.func8, Try.ntmps8
    go_wp2_with (go_at_call 10; (with_reducible refine (CA.out _).mono ?_); rintro e w1 ⟨rfl, h1⟩)
    go_ret
    exact ⟨rfl, h1⟩
  have d0 : decide (n < 0) = false := by simp; omega
  by_cases c1 : 20 < n
  · have d1 : decide (20 < n) = true := by simp; omega
    go_enter Try.func8, Try.ntmps8
    go_wp2_with (go_at_call 10; (with_reducible refine (CA.out _).mono ?_); rintro e w1 ⟨rfl, h1⟩)
    go_ret
    exact ⟨rfl, h1⟩
  have d1 : decide (20 < n) = false := by simp; omega
  by_cases c2 : m < 0
  · have d2 : decide (m < 0) = true := by simp; omega
    go_enter Try.func8, Try.ntmps8
    go_wp2_with (go_at_call 10; (with_reducible refine (CA.out _).mono ?_); rintro e w1 ⟨rfl, h1⟩)
    go_ret
    exact ⟨rfl, h1⟩
  have d2 : decide (m < 0) = false := by simp; omega
  by_cases c3 : 20 < m
  · have d3 : decide (20 < m) = true := by simp; omega
    go_enter Try.func8, Try.ntmps8
    go_wp2_with (go_at_call 10; (with_reducible refine (CA.out _).mono ?_); rintro e w1 ⟨rfl, h1⟩)
    go_ret
    exact ⟨rfl, h1⟩
  have d3 : decide (20 < m) = false := by simp; omega
  by_cases c4 : 100 < zs.length
  · have d4 : decide (100 < (zs.length : Int)) = true := by simp; omega
    go_enter Try.func8, Try.ntmps8
    go_wp2_with (go_at_call 10; (with_reducible refine (CA.out _).mono ?_); rintro e w1 ⟨rfl, h1⟩)
    go_ret
    exact ⟨rfl, h1⟩
  have d4 : decide (100 < (zs.length : Int)) = false := by simp; omega
  clear d0 d1 d2 d3 d4
  obtain ⟨n, rfl⟩ := Int.eq_ofNat_of_zero_le (show 0 ≤ n by omega)
  obtain ⟨m, rfl⟩ := Int.eq_ofNat_of_zero_le (show 0 ≤ m by omega)
  exact linkBothGo n m LA lc zs W (by omega) (by omega) (by omega) hL hzb
end Go.Proofs.Ytfemdfidfomchaa
