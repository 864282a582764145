/-
  The library's siftDown at numbers. (Written by tools/genUS.py.)
  The library's heapSort at numbers. (Written by tools/genUS.py.)
-/
import Derived.Test.YtfpoapmbpbkibaaUSortA
import Derived.Sort.LotB
namespace Go.Proofs.Ytfpoapmbpbkibaa
open Go.RowKit Go.Sort
theorem sift_end {hi F r : Nat} {d : Array Int} (h : ¬ 2 * r + 1 < hi) : siftDown ltInt hi F r d = d := by
  have e : 2 * r + 1 ≥ hi := by omega
  rw [siftDown, dif_pos e]
theorem sift_two {hi F r q : Nat} {d : Array Int} (hq : 2 * r + 1 = q) (h : q + 1 < hi) (l1 : ltInt d[F + q]! d[F + (q + 1)]! = true) (l2 : ltInt d[F + r]! d[F + (q + 1)]! = true) :
    siftDown ltInt hi F r d = siftDown ltInt hi F (q + 1) (swp d (F + r) (F + (q + 1))) := by
  subst hq
  have e : ¬ 2 * r + 1 ≥ hi := by omega
  have e2 : 2 * r + 2 = 2 * r + 1 + 1 := rfl
  rw [siftDown, dif_neg e, e2]
  have l3 : ltInt d[F + (2 * r + 1)]! d[F + (2 * r + 1) + 1]! = true := l1
  rw [l3, l2]
  simp [h]
theorem sift_twoNot {hi F r q : Nat} {d : Array Int} (hq : 2 * r + 1 = q) (h : q + 1 < hi) (l1 : ltInt d[F + q]! d[F + (q + 1)]! = true) (l2 : ltInt d[F + r]! d[F + (q + 1)]! = false) :
    siftDown ltInt hi F r d = d := by
  subst hq
  have e : ¬ 2 * r + 1 ≥ hi := by omega
  have e2 : 2 * r + 2 = 2 * r + 1 + 1 := rfl
  rw [siftDown, dif_neg e, e2]
  have l3 : ltInt d[F + (2 * r + 1)]! d[F + (2 * r + 1) + 1]! = true := l1
  rw [l3, l2]
  simp [h]
theorem sift_one {hi F r q : Nat} {d : Array Int} (hq : 2 * r + 1 = q) (h : q < hi) (h2 : ¬ q + 1 < hi ∨ ltInt d[F + q]! d[F + (q + 1)]! = false) (l2 : ltInt d[F + r]! d[F + (q)]! = true) :
    siftDown ltInt hi F r d = siftDown ltInt hi F (q) (swp d (F + r) (F + (q))) := by
  subst hq
  have e : ¬ 2 * r + 1 ≥ hi := by omega
  have e2 : 2 * r + 2 = 2 * r + 1 + 1 := rfl
  rw [siftDown, dif_neg e, e2]
  rw [l2]
  rcases h2 with h2 | h2
  · simp [h2]
  · have l3 : ltInt d[F + (2 * r + 1)]! d[F + (2 * r + 1) + 1]! = false := h2
    rw [l3]
    simp
theorem sift_oneNot {hi F r q : Nat} {d : Array Int} (hq : 2 * r + 1 = q) (h : q < hi) (h2 : ¬ q + 1 < hi ∨ ltInt d[F + q]! d[F + (q + 1)]! = false) (l2 : ltInt d[F + r]! d[F + (q)]! = false) :
    siftDown ltInt hi F r d = d := by
  subst hq
  have e : ¬ 2 * r + 1 ≥ hi := by omega
  have e2 : 2 * r + 2 = 2 * r + 1 + 1 := rfl
  rw [siftDown, dif_neg e, e2]
  rw [l2]
  rcases h2 with h2 | h2
  · simp [h2]
  · have l3 : ltInt d[F + (2 * r + 1)]! d[F + (2 * r + 1) + 1]! = false := h2
    rw [l3]
    simp
set_option maxHeartbeats 8000000 in
set_option maxRecDepth 100000 in
theorem uSift_any {B g c lo hi F n : Nat} {d : Array Int} {W : World} (h : UR B W g c d W) (hn : d.size = n) (hlen : n ≤ 1000000) (hlo : lo ≤ 1000000) (hb : F + hi ≤ n) :
    Calls Try.prog 93 #[.slice (some ⟨g, 0, none⟩) n c, .int .i64 lo, .int .i64 hi, .int .i64 F] W fun e w' => e = .returned (.tuple #[]) ∧ UR B W g c (siftDown ltInt hi F lo d) w' := by
  have H := Lib.hid h
  have HN := Lib.hid hn
  clear h hn
  go_enter Try.func93, Try.ntmps93
  go_wp2
  go_loopg [8] (hi - lo) (fun k s8 wr => ∃ (r : Nat) (dk : Array Int), s8 = .int .i64 (r : Nat) ∧ hi - r ≤ k ∧ r ≤ 1000000 ∧ Hid (dk.size = n) ∧ Hid (UR B W g c dk wr) ∧ Hid (siftDown ltInt hi F r dk = siftDown ltInt hi F lo d))
  case atStart => exact ⟨lo, d, rfl, by omega, by omega, HN.out, H.out, rfl⟩
  case round =>
    obtain ⟨r, dk, rfl, hk, hr, HS, HU, HQ⟩ := hrel
    go_upto_region 2 with fail
    obtain ⟨q, hq0⟩ : ∃ q : Nat, 2 * (r : Int) + 1 = (q : Int) := ⟨2 * r + 1, by omega⟩
    rw [hq0]
    have hq : 2 * r + 1 = q := by omega
    clear hq0
    by_cases hlt : q < hi
    · have i1 : ¬ ((q : Int) ≥ (hi : Int)) := by omega
      have zq : IntKind.i64.wrap ((q : Int) + 1) = (q : Int) + 1 := by rw [IntKind.wrap_i64]; omega
      have yiFr : (0 : Int) ≤ (F : Int) + (r : Int) := by omega
      have yjFr : (F : Int) + (r : Int) < (n : Int) := by omega
      have ykFr : ((F : Int) + (r : Int)).toNat = F + r := by omega
      have ylFr : IntKind.i64.wrap ((F : Int) + (r : Int)) = (F : Int) + (r : Int) := by rw [IntKind.wrap_i64]; omega
      have yiFq : (0 : Int) ≤ (F : Int) + (q : Int) := by omega
      have yjFq : (F : Int) + (q : Int) < (n : Int) := by omega
      have ykFq : ((F : Int) + (q : Int)).toNat = F + q := by omega
      have ylFq : IntKind.i64.wrap ((F : Int) + (q : Int)) = (F : Int) + (q : Int) := by rw [IntKind.wrap_i64]; omega
      have cx0 := HU.out.cell (i := F + r) (by rw [HS.out]; omega)
      have fx0 := HU.out.free (F + r)
      obtain ⟨x0, hx0⟩ := bang_eq dk (F + r)
      rw [hx0] at cx0
      have Hx0 := Lib.hid hx0
      clear hx0
      have cx1 := HU.out.cell (i := F + q) (by rw [HS.out]; omega)
      have fx1 := HU.out.free (F + q)
      obtain ⟨x1, hx1⟩ := bang_eq dk (F + q)
      rw [hx1] at cx1
      have Hx1 := Lib.hid hx1
      clear hx1
      by_cases h2 : q + 1 < hi
      · have cx2 := HU.out.cell (i := F + (q + 1)) (by rw [HS.out]; omega)
        have fx2 := HU.out.free (F + (q + 1))
        obtain ⟨x2, hx2⟩ := bang_eq dk (F + (q + 1))
        rw [hx2] at cx2
        have Hx2 := Lib.hid hx2
        clear hx2
        have yiFq1 : (0 : Int) ≤ (F : Int) + ((q : Int) + 1) := by omega
        have yjFq1 : (F : Int) + ((q : Int) + 1) < (n : Int) := by omega
        have ykFq1 : ((F : Int) + ((q : Int) + 1)).toNat = F + (q + 1) := by omega
        have ylFq1 : IntKind.i64.wrap ((F : Int) + ((q : Int) + 1)) = (F : Int) + ((q : Int) + 1) := by rw [IntKind.wrap_i64]; omega
        have cx3 : wr.cell? ⟨g, F + q + 1, none⟩ = some (.int .u64 x2) := cx2
        have fx3 : wr.frozen? ⟨g, F + q + 1, none⟩ = false := fx2
        obtain ⟨r1, hr1⟩ : ∃ r, ltInt x1 x2 = r := ⟨_, rfl⟩
        have Hr1 := Lib.hid hr1
        clear hr1
        have i2 : ((q : Int) + 1 < (hi : Int)) := by omega
        cases r1 with
        | true =>
          obtain ⟨r2, hr2⟩ : ∃ r, ltInt x0 x2 = r := ⟨_, rfl⟩
          have Hr2 := Lib.hid hr2
          clear hr2
          go_wp2
          go_quiet (first | (go_at_call 76; refine Calls.quiet_of_same (uLess_eq Hr1.out _)))
          go_wp2
          have HUq := Lib.hid (HU.out.drewN nq)
          obtain ⟨wq, hwq⟩ : ∃ wq, wr.drewN nq = wq := ⟨_, rfl⟩
          rw [hwq] at HUq ⊢
          clear hwq cx0 fx0 cx1 fx1 cx2 fx2 cx3 fx3
          have cx0 : wq.cell? ⟨g, F + r, none⟩ = some (.int .u64 x0) := by
            have h := HUq.out.cell (i := F + r) (by rw [HS.out]; omega)
            rw [Hx0.out] at h
            exact h
          have fx0 := HUq.out.free (F + r)
          have cx2 : wq.cell? ⟨g, F + (q + 1), none⟩ = some (.int .u64 x2) := by
            have h := HUq.out.cell (i := F + (q + 1)) (by rw [HS.out]; omega)
            rw [Hx2.out] at h
            exact h
          have fx2 := HUq.out.free (F + (q + 1))
          go_quiet (first | (go_at_call 76; refine Calls.quiet_of_same (uLess_eq Hr2.out _)))
          cases r2 with
          | true =>
            go_wp2
            go_region
            all_goals go_wp2
            go_roundg (hi - (q + 1))
            case measure => omega
            case rel => exact ⟨q + 1, _, by go_num, by omega, by omega, by rw [size_swp]; exact HS.out, (HUq.out.drewN _).swapped Hx0.out Hx2.out, by rw [← HQ.out]; exact (sift_two hq (by omega) (by rw [Hx1.out, Hx2.out]; exact Hr1.out) (by rw [Hx0.out, Hx2.out]; exact Hr2.out)).symm⟩
          | false =>
            go_wp2
            exact bodyPost_ret (results_none rfl _ _ _) rfl ⟨rfl, by rw [← HQ.out, sift_twoNot hq (by omega) (by rw [Hx1.out, Hx2.out]; exact Hr1.out) (by rw [Hx0.out, Hx2.out]; exact Hr2.out)]; exact HUq.out.drewN _⟩
        | false =>
          obtain ⟨r2, hr2⟩ : ∃ r, ltInt x0 x1 = r := ⟨_, rfl⟩
          have Hr2 := Lib.hid hr2
          clear hr2
          go_wp2
          go_quiet (first | (go_at_call 76; refine Calls.quiet_of_same (uLess_eq Hr1.out _)))
          go_wp2
          have HUq := Lib.hid (HU.out.drewN nq)
          obtain ⟨wq, hwq⟩ : ∃ wq, wr.drewN nq = wq := ⟨_, rfl⟩
          rw [hwq] at HUq ⊢
          clear hwq cx0 fx0 cx1 fx1 cx2 fx2 cx3 fx3
          have cx0 : wq.cell? ⟨g, F + r, none⟩ = some (.int .u64 x0) := by
            have h := HUq.out.cell (i := F + r) (by rw [HS.out]; omega)
            rw [Hx0.out] at h
            exact h
          have fx0 := HUq.out.free (F + r)
          have cx1 : wq.cell? ⟨g, F + q, none⟩ = some (.int .u64 x1) := by
            have h := HUq.out.cell (i := F + q) (by rw [HS.out]; omega)
            rw [Hx1.out] at h
            exact h
          have fx1 := HUq.out.free (F + q)
          go_quiet (first | (go_at_call 76; refine Calls.quiet_of_same (uLess_eq Hr2.out _)))
          cases r2 with
          | true =>
            go_wp2
            go_region
            all_goals go_wp2
            go_roundg (hi - (q))
            case measure => omega
            case rel => exact ⟨q, _, by go_num, by omega, by omega, by rw [size_swp]; exact HS.out, (HUq.out.drewN _).swapped Hx0.out Hx1.out, by rw [← HQ.out]; exact (sift_one hq (by omega) (.inr (by rw [Hx1.out, Hx2.out]; exact Hr1.out)) (by rw [Hx0.out, Hx1.out]; exact Hr2.out)).symm⟩
          | false =>
            go_wp2
            exact bodyPost_ret (results_none rfl _ _ _) rfl ⟨rfl, by rw [← HQ.out, sift_oneNot hq (by omega) (.inr (by rw [Hx1.out, Hx2.out]; exact Hr1.out)) (by rw [Hx0.out, Hx1.out]; exact Hr2.out)]; exact HUq.out.drewN _⟩
      · obtain ⟨r2, hr2⟩ : ∃ r, ltInt x0 x1 = r := ⟨_, rfl⟩
        have Hr2 := Lib.hid hr2
        clear hr2
        have i2 : decide ((q : Int) + 1 < (hi : Int)) = false := decide_eq_false (by omega)
        go_wp2
        go_quiet (fail)
        go_wp2
        have HUq := Lib.hid (HU.out.drewN nq)
        obtain ⟨wq, hwq⟩ : ∃ wq, wr.drewN nq = wq := ⟨_, rfl⟩
        rw [hwq] at HUq ⊢
        clear hwq cx0 fx0 cx1 fx1
        have cx0 : wq.cell? ⟨g, F + r, none⟩ = some (.int .u64 x0) := by
          have h := HUq.out.cell (i := F + r) (by rw [HS.out]; omega)
          rw [Hx0.out] at h
          exact h
        have fx0 := HUq.out.free (F + r)
        have cx1 : wq.cell? ⟨g, F + q, none⟩ = some (.int .u64 x1) := by
          have h := HUq.out.cell (i := F + q) (by rw [HS.out]; omega)
          rw [Hx1.out] at h
          exact h
        have fx1 := HUq.out.free (F + q)
        go_quiet (first | (go_at_call 76; refine Calls.quiet_of_same (uLess_eq Hr2.out _)))
        cases r2 with
        | true =>
          go_wp2
          go_region
          all_goals go_wp2
          go_roundg (hi - (q))
          case measure => omega
          case rel => exact ⟨q, _, by go_num, by omega, by omega, by rw [size_swp]; exact HS.out, (HUq.out.drewN _).swapped Hx0.out Hx1.out, by rw [← HQ.out]; exact (sift_one hq (by omega) (.inl (by omega)) (by rw [Hx0.out, Hx1.out]; exact Hr2.out)).symm⟩
        | false =>
          go_wp2
          exact bodyPost_ret (results_none rfl _ _ _) rfl ⟨rfl, by rw [← HQ.out, sift_oneNot hq (by omega) (.inl (by omega)) (by rw [Hx0.out, Hx1.out]; exact Hr2.out)]; exact HUq.out.drewN _⟩
    · have i1 : ((q : Int) ≥ (hi : Int)) := by omega
      go_wp2
      go_end0
      exact ⟨rfl, by rw [← HQ.out, sift_end (by omega)]; exact HU.out⟩
end Go.Proofs.Ytfpoapmbpbkibaa
namespace Go.Proofs.Ytfpoapmbpbkibaa
open Go.RowKit Go.Sort
theorem build_go (hi F m : Nat) (d : Array Int) : heapBuild ltInt hi F (m + 1) d = heapBuild ltInt hi F m (siftDown ltInt hi F m d) := rfl
theorem pop_go (F m : Nat) (d : Array Int) : heapPop ltInt F (m + 1) d = heapPop ltInt F m (siftDown ltInt m F 0 (swp d F (F + m))) := rfl
theorem size_sift (hi F lo : Nat) (d : Array Int) : (siftDown ltInt hi F lo d).size = d.size := by
  fun_induction siftDown ltInt hi F lo d <;> simp_all [size_swp]
set_option maxHeartbeats 8000000 in
set_option maxRecDepth 100000 in
theorem uHeap_any {B g c a b n : Nat} {d : Array Int} {W : World} (h : UR B W g c d W) (hn : d.size = n) (hlen : n ≤ 1000000) (hab : a < b) (hb : b ≤ n) :
    Calls Try.prog 82 #[.slice (some ⟨g, 0, none⟩) n c, .int .i64 a, .int .i64 b] W fun e w' => e = .returned (.tuple #[]) ∧ UR B W g c (heapSort ltInt d a b) w' := by
  have H := Lib.hid h
  have HN := Lib.hid hn
  clear h hn
  have CS : Hid (∀ (w : World) (dk : Array Int) (lo hi : Nat), UR B W g c dk w → dk.size = n → lo ≤ 1000000 → a + hi ≤ n → Calls Try.prog 93 #[.slice (some ⟨g, 0, none⟩) n c, .int .i64 lo, .int .i64 hi, .int .i64 a] w fun e w' => e = .returned (.tuple #[]) ∧ UR B W g c (siftDown ltInt hi a lo dk) w') :=
    fun w dk lo hi hu hs h1 h2 => (uSift_any hu.self hs hlen h1 h2).mono fun e w' ⟨x, y⟩ => ⟨x, hu.trans y⟩
  have CS0 : Hid (∀ (w : World) (dk : Array Int) (hi : Nat), UR B W g c dk w → dk.size = n → a + hi ≤ n → Calls Try.prog 93 #[.slice (some ⟨g, 0, none⟩) n c, .int .i64 0, .int .i64 hi, .int .i64 a] w fun e w' => e = .returned (.tuple #[]) ∧ UR B W g c (siftDown ltInt hi a 0 dk) w') :=
    fun w dk hi hu hs h2 => CS.out w dk 0 hi hu hs (by omega) h2
  obtain ⟨m, hm⟩ : ∃ m, b - a = m := ⟨_, rfl⟩
  have zm : IntKind.i64.wrap ((b : Int) - (a : Int)) = (m : Int) := by rw [IntKind.wrap_i64]; omega
  obtain ⟨t, ht⟩ : ∃ t, (m - 1) / 2 = t := ⟨_, rfl⟩
  have zt : IntKind.i64.wrap (((m : Int) - 1).tdiv 2) = (t : Int) := by rw [IntKind.wrap_i64, Int.tdiv_eq_ediv_of_nonneg (by omega)]; omega
  have hm1 : 1 ≤ m := by omega
  have ham : a + m ≤ n := by omega
  have HE : Hid (heapSort ltInt d a b = heapPop ltInt a m (heapBuild ltInt m a (t + 1) d)) := by rw [← ht, ← hm]; rfl
  have ht1 : t + 1 ≤ m := by omega
  clear hm ht
  go_enter Try.func82, Try.ntmps82
  go_wp2
  go_loopg [9] (t + 1) (fun k s9 wr => ∃ (z : Int) (dk : Array Int), s9 = .int .i64 z ∧ z = (k : Int) - 1 ∧ k ≤ t + 1 ∧ Hid (dk.size = n) ∧ Hid (UR B W g c dk wr) ∧ Hid (heapSort ltInt d a b = heapPop ltInt a m (heapBuild ltInt m a k dk)))
  case atStart => exact ⟨t, d, rfl, by omega, by omega, HN.out, H.out, HE.out⟩
  case round =>
    obtain ⟨z, dk, rfl, hz, hk, HS, HU, HQ⟩ := hrel
    cases gk with
    | zero =>
      have zz : ¬ (z ≥ 0) := by omega
      clear hz
      go_wp2
      go_loopg [10] m (fun k s10 wx => ∃ (z : Int) (dj : Array Int), s10 = .int .i64 z ∧ z = (k : Int) - 1 ∧ k ≤ m ∧ Hid (dj.size = n) ∧ Hid (UR B W g c dj wx) ∧ Hid (heapSort ltInt d a b = heapPop ltInt a k dj))
      case atStart => exact ⟨(m : Int) - 1, dk, rfl, rfl, Nat.le_refl _, HS, HU, HQ⟩
      case round =>
        obtain ⟨z, dj, rfl, hz, hk, HS2, HU2, HQ2⟩ := hrel
        cases gk with
        | zero =>
          have zz : ¬ (z ≥ 0) := by omega
          clear hz
          go_wp2_with fail
          go_end0
          exact ⟨rfl, by rw [HQ2.out]; exact HU2.out⟩
        | succ k =>
          obtain rfl : z = (k : Int) := by omega
          clear hz
          have cx := HU2.out.cell (i := a) (by rw [HS2.out]; omega)
          have fx := HU2.out.free a
          obtain ⟨x, hx⟩ := bang_eq dj a
          rw [hx] at cx
          have HX := Lib.hid hx
          have cy := HU2.out.cell (i := a + k) (by rw [HS2.out]; omega)
          have fy := HU2.out.free (a + k)
          obtain ⟨y, hy⟩ := bang_eq dj (a + k)
          rw [hy] at cy
          have HY := Lib.hid hy
          clear hx hy
          have yi : (0 : Int) ≤ (a : Int) + (k : Int) := by omega
          have yj : (a : Int) + (k : Int) < (n : Int) := by omega
          have am2 : a + k ≤ n := by omega
          by_cases hk0 : k = 0
          · obtain rfl : x = y := by rw [← HX.out, ← HY.out, hk0]; rfl
            have yk : ((a : Int) + (k : Int)).toNat = a := by omega
            have HK0 := Lib.hid hk0
            have HSW : Hid (UR B W g c (swp dj a (a + k)) (((wr.setCell ⟨g, a, none⟩ (.int .u64 x)).setCell ⟨g, a, none⟩ (.int .u64 x)).drew)) := by
              have h := (HU2.out.swapped (i := a) (j := a + k) HX.out HY.out).drew
              rw [show (⟨g, a + k, none⟩ : Addr) = ⟨g, a, none⟩ by rw [HK0.out]; rfl] at h
              exact h
            clear cy fy hk0 HU2
            go_wp2_with fail
            go_region
            all_goals go_wp2_with (go_at_call 93; (with_reducible refine (CS0.out _ (swp dj a (a + k)) k HSW.out (by rw [size_swp]; exact HS2.out) am2).mono ?_); rintro e w2 ⟨rfl, hu2⟩; have HU3 := Lib.hid hu2; clear hu2)
            go_roundg k
            case measure => omega
            case rel => exact ⟨(k : Int) - 1, _, by go_num, rfl, by omega, by rw [size_sift, size_swp]; exact HS2.out, HU3.out, by have hq := HQ2.out; rw [pop_go] at hq; exact hq⟩
          · have hne : ¬ (a = a + k) := by omega
            have hne2 : ¬ (a + k = a) := by omega
            have yk : ((a : Int) + (k : Int)).toNat = a + k := by omega
            go_wp2_with fail
            go_region
            all_goals go_wp2_with (go_at_call 93; (with_reducible refine (CS0.out _ (swp dj a (a + k)) k (HU2.out.swapped HX.out HY.out).drew (by rw [size_swp]; exact HS2.out) am2).mono ?_); rintro e w2 ⟨rfl, hu2⟩; have HU3 := Lib.hid hu2; clear hu2)
            go_roundg k
            case measure => omega
            case rel => exact ⟨(k : Int) - 1, _, by go_num, rfl, by omega, by rw [size_sift, size_swp]; exact HS2.out, HU3.out, by have hq := HQ2.out; rw [pop_go] at hq; exact hq⟩
    | succ k =>
      obtain rfl : z = (k : Int) := by omega
      clear hz
      go_wp2_with (go_at_call 93; (with_reducible refine (CS.out _ dk k m HU.out HS.out (by omega) ham).mono ?_); rintro e w2 ⟨rfl, hu2⟩; have HU2 := Lib.hid hu2; clear hu2)
      go_roundg k
      case measure => omega
      case rel => exact ⟨(k : Int) - 1, _, by go_num, rfl, by omega, by rw [size_sift]; exact HS.out, HU2.out, by have hq := HQ.out; rw [build_go] at hq; exact hq⟩
end Go.Proofs.Ytfpoapmbpbkibaa
