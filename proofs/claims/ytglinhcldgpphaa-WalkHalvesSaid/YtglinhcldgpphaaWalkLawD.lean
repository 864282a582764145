/-
  The walk of WalkHalves over ShelfLaws and WalkLaws. (Written by tools/genWHal.py.)
-/
import Derived.Test.YtglinhcldgpphaaWalkLawA
import Derived.Test.YtglinhcldgpphaaWalkHalf
import Derived.Test.YtglinhcldgpphaaRefWalk
import Derived.Test.YtglinhcldgpphaaBookAll
namespace Go.Proofs.Ytglinhcldgpphaa
open Go.RowKit

theorem heap_two (W : World) (a b : Obj) : ((W.alloc a).alloc b).heap[W.heap.size + 1]? = some b := by
  have q := heap_alloc_new (W.alloc a) b
  rwa [show (W.alloc a).heap.size = W.heap.size + 1 by simp] at q
theorem ItemsAt.ofRow {W : World} {base : Nat} {A : Option Addr} {c : Nat} {zs : List Item} (h : W.ownsRow base 32 2 (.slice A zs.length c) zs.length (itemCells zs)) : ItemsAt W A zs := by
  by_cases h0 : zs.length = 0
  · exact ⟨0, 0, fun i hi => by omega⟩
  · have hq : ∃ q, A = some ⟨q, 0, none⟩ := by
      rcases h.2 with ⟨_, e⟩ | ⟨g, cap, cur, e, _⟩
      · exact absurd e h0
      · injection e with e1 e2 e3
        exact ⟨g, e1⟩
    obtain ⟨q, rfl⟩ := hq
    refine ⟨q, 0, fun i hi => ⟨rfl, (h.lt q rfl).2, ?_, ?_⟩⟩
    · rw [Nat.zero_add]
      exact (h.cellAt (i * 2) (by omega)).trans (itemCells_get0 zs i hi)
    · rw [Nat.zero_add]
      exact (h.cellAt (i * 2 + 1) (by omega)).trans (itemCells_get1 zs i hi)

set_option maxRecDepth 100000 in
set_option maxHeartbeats 8000000 in
theorem walkHalves_any {SH : ShP} {SQ : SqP} (L : ShelfLaws SH) (K : WalkLaws SH SQ) (z : Int) (W : World) (hz0 : -9223372036854775808 ≤ z) (hz1 : z ≤ 9223372036854775807) :
    Calls Try.prog 11 #[.int .i64 z] W fun e w' => e = .returned (.bool true) ∧ Below W.heap.size W w' := by
  have CA : Hid (∀ w, Calls Try.prog 12 #[] w fun e w' => e = .returned (.bool true) ∧ Below w.heap.size w w') := fun w => walkAlive_any L K w w (Below.refl _ _)
  by_cases c0 : z < 0
  · have d0 : decide (z < 0) = true := decide_eq_true c0
    go_enter Try.func11, Try.ntmps11
    go_wp2_with (go_at_call 12; (with_reducible refine (CA.out _).mono ?_); rintro e w1 ⟨rfl, h1⟩)
    go_ret
    exact ⟨rfl, h1⟩
  by_cases c1 : 60 < z
  · have d0 : decide (z < 0) = false := decide_eq_false c0
    have d1 : decide (60 < z) = true := decide_eq_true c1
    go_enter Try.func11, Try.ntmps11
    go_wp2_with (go_at_call 12; (with_reducible refine (CA.out _).mono ?_); rintro e w1 ⟨rfl, h1⟩)
    go_ret
    exact ⟨rfl, h1⟩
  obtain ⟨n, rfl⟩ : ∃ n : Nat, z = (n : Nat) := ⟨z.toNat, by omega⟩
  have hn : n ≤ 60 := by omega
  have d0 : decide ((n : Int) < 0) = false := decide_eq_false c0
  have d1 : decide ((60 : Int) < (n : Int)) = false := decide_eq_false c1
  obtain ⟨i0, hi0, hq0, hs0, hb0⟩ := infoItems
  obtain ⟨l, hl⟩ : ∃ l, hList n = l := ⟨_, rfl⟩
  have HLL := Lib.hid hl
  have hlf : fillL l = l := by rw [← hl]; exact fillL_hList hn
  have hlen : l.length = n := by rw [← hl]; exact hList_length n
  have hls : ∀ x ∈ l, x.1.size ≤ 16 := by rw [← hl, ← fillL_hList hn]; exact fillL_small _
  have CF : Hid (∀ w A c, ItemsAt w A l → Calls Try.prog 13 #[.slice A n c] w fun e w' => ∃ gs gr, e = .returned (.tuple #[.pointer (some ⟨gs, 0, none⟩), .pointer (some ⟨gr, 0, none⟩)]) ∧ OSW SH SQ w w' gs gr l []) := fun w A c h => by
    have q := filledW (SQ := SQ) L A c l w w (Below.refl _ _) h (by omega) hlen
    rwa [hlf] at q
  have HK : Hid (WalkLaws SH SQ) := K
  have HL : Hid (ShelfLaws SH) := L
  have HLS := Lib.hid hls
  have CM : Hid (∀ o, midL (arcL l 0 0) = o → ∀ V w gs gr, OSW SH SQ V w gs gr l [] → Calls Try.prog 16 #[.pointer (some ⟨gs, 0, none⟩), .agg #[.int .u64 0, .int .u64 0]] w fun e w' => e = .returned (midV o) ∧ OSW SH SQ V w' gs gr l [] ∧ Below w.heap.size w w') := fun o ho V w gs gr h => h.middle L K hls 0 0 (by omega) (by omega) ho
  clear hlf hlen hls hl c0 c1 hz0 hz1 K L
  go_enter Try.func11, Try.ntmps11
  go_wp2_with (go_at_call 12; (with_reducible refine (CA.out _).mono ?_); rintro e w1 ⟨rfl, h1⟩; have H1 := Lib.hid h1; clear h1)
  clear CA
  go_loopg [3, 4] (n + 1) (fun gh s3 s4 wx => ∃ (i : Nat) (A : Option Addr) (c : Nat), i + gh = n + 1 ∧ i ≤ n ∧ s3 = .slice A i c ∧ s4 = .int .i64 (i : Nat) ∧ Hid (Out w1 wx A c (hList i)))
  case atStart => exact ⟨0, none, 0, by omega, by omega, rfl, rfl, Out.nil w1⟩
  case round =>
    obtain ⟨i, A, c, hig, hi, rfl, rfl, HO⟩ := hrel
    by_cases hlt : i < n
    · have hcv := conv_lit [UInt8.ofNat (i + 1)] wr 1 rfl (by simp) #[.int .u8 ((i : Int) + 1)] (by simp [cell8]; omega)
      have hk : hItem i = (txt [UInt8.ofNat (i + 1)], ⟨#[]⟩) := rfl
      obtain ⟨by1, hby1⟩ : ∃ b, UInt8.ofNat (i + 1) = b := ⟨_, rfl⟩
      rw [hby1] at hcv hk
      obtain ⟨cur, hcur⟩ : ∃ cur, hList i = cur := ⟨_, rfl⟩
      have hci : cur.length = i := by rw [← hcur]; exact hList_length i
      have hnx : hList (i + 1) = cur ++ [(txt [by1], ⟨#[]⟩)] := by rw [hList_succ, hcur, hk]
      have HNX := Lib.hid hnx
      rw [hcur] at HO
      clear hk hby1 hcur hnx
      subst hci
      have hsz := HO.out.2.size
      go_wp2_with (at_builtin; go_must (refine wpList_append_any rfl (.tmp 26) (.tmp 33) 22 rfl w1.heap.size 32 i0 (.agg #[.string ⟨#[]⟩, .string ⟨#[]⟩]) 2 32 Try.underlying22 hi0 hq0 hs0 hb0 rfl (by decide) (.slice A cur.length c) cur.length (itemCells cur) rfl ((HO.out.1.alloc _).alloc _) (.slice (some ⟨wr.heap.size + 1, 0, none⟩) 1 1) 1 (itemCells [(txt [by1], ⟨#[]⟩)]) rfl (item_src _ _ (txt [by1]) ⟨#[]⟩ (heap_two _ _ _)) (items_one _) (by unfold maxLen; omega) (by omega) (by simp; omega) ?_); intro A3 c3 w3 ho3 hg3 hs3; have HO3 := Lib.hid (Out.push (HO.out.below ((Below.refl _ _).alloc (Nat.le_refl _) (.cells #[.int .u8 ((cur.length : Int) + 1)] 5))) ho3 hg3); clear ho3 hg3 hs3)
      go_roundg (gk - 1)
      case measure => omega
      case rel => exact ⟨cur.length + 1, A3, c3, by omega, by omega, rfl, by go_num, by rw [HNX.out]; exact HO3.out⟩
    · obtain rfl : i = n := by omega
      rw [HLL.out] at HO
      have hln : l.length = i := by rw [← HLL.out]; exact hList_length i
      have HI : Hid (ItemsAt wr A l) := ItemsAt.ofRow HO.out.1
      have HB := Lib.hid HO.out.2
      have hlA : (Value.slice A l.length c) = .slice A i c := by rw [hln]
      by_cases h2 : i < 2
      · have d2 : decide ((i : Int) < 2) = true := by simp; omega
        have CM0 := Lib.hid (CM.out none (by rw [← HLL.out]; exact hList_small h2))
        clear CM hln hlA HLL
        go_wp2_with (first
          | (go_at_call 13; (with_reducible refine (CF.out _ _ _ HI.out).mono ?_); rintro e w2 ⟨gs, gr, rfl, h3⟩; have H2 := Lib.hid h3; clear h3)
          | (go_at_call 16; (with_reducible refine (CM0.out _ _ _ _ H2.out).mono ?_); rintro e w3 ⟨rfl, h3, -⟩; have H3 := Lib.hid h3; unfold midV; clear h3))
        go_ret
        exact ⟨rfl, acc (acc H1.out HB.out) H3.out.1⟩
      · have d2 : decide ((i : Int) < 2) = false := by simp; omega
        obtain ⟨m, hm⟩ : ∃ m, ((i + 1) / 2 + 1) * 72057594037927936 = m := ⟨_, rfl⟩
        obtain ⟨k, hkk⟩ : ∃ k, (i + 1) / 2 = k := ⟨_, rfl⟩
        obtain ⟨r, hr⟩ : ∃ r, i / 2 = r := ⟨_, rfl⟩
        have hmid : midL (arcL l 0 0) = some m := by rw [← HLL.out, ← hm]; exact hList_mid (by omega) hn
        have hlow := hList_low (n := i) (k := k) (m := m) (by omega) (by omega) hn (by rw [← hm, hkk])
        rw [HLL.out] at hlow
        have hm64 : m < 18446744073709551616 := by omega
        have hir : i - k = r := by omega
        rw [hir] at hlow
        have CM1 := Lib.hid (CM.out (some m) hmid)
        have C1 : Hid (∀ V w gs gr, OSW SH SQ V w gs gr l [] → Calls Try.prog 19 #[.pointer (some ⟨gs, 0, none⟩), .agg #[.int .u64 0, .int .u64 (m : Nat)]] w fun e w' => e = .returned (.int .i64 (k : Nat)) ∧ OSW SH SQ V w' gs gr l [] ∧ Below w.heap.size w w') := fun V w gs gr h => h.count HL.out HK.out HLS.out 0 m (by omega) hm64 hlow.1
        have C2 : Hid (∀ V w gs gr, OSW SH SQ V w gs gr l [] → Calls Try.prog 19 #[.pointer (some ⟨gs, 0, none⟩), .agg #[.int .u64 (m : Nat), .int .u64 0]] w fun e w' => e = .returned (.int .i64 (r : Nat)) ∧ OSW SH SQ V w' gs gr l [] ∧ Below w.heap.size w w') := fun V w gs gr h => h.count HL.out HK.out HLS.out m 0 hm64 (by omega) hlow.2
        have e1 : ((k : Int) == ((i : Int) + 1) / 2) = true := by
          rw [beq_iff_eq]
          omega
        have e2 : ((r : Int) == (i : Int) / 2) = true := by
          rw [beq_iff_eq]
          omega
        clear CM hmid hlow hm hir hln hlA HLL hkk hr hm64
        go_wp2_with (first
          | (go_at_call 13; (with_reducible refine (CF.out _ _ _ HI.out).mono ?_); rintro e w2 ⟨gs, gr, rfl, h3⟩; have H2 := Lib.hid h3; clear h3)
          | (go_at_call 16; (with_reducible refine (CM1.out _ _ _ _ H2.out).mono ?_); rintro e w3 ⟨rfl, h3, -⟩; have H3 := Lib.hid h3; unfold midV; clear h3)
          | (go_at_call 19; (with_reducible refine (C1.out _ _ _ _ H3.out).mono ?_); rintro e w4 ⟨rfl, h4, -⟩; have H4 := Lib.hid h4; clear h4)
          | (go_at_call 19; (with_reducible refine (C2.out _ _ _ _ H4.out).mono ?_); rintro e w5 ⟨rfl, h5, -⟩; have H5 := Lib.hid h5; clear h5))
        go_ret
        exact ⟨rfl, acc (acc H1.out HB.out) H5.out.1⟩
end Go.Proofs.Ytglinhcldgpphaa
