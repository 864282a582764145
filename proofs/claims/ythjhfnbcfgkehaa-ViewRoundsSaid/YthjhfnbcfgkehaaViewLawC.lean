/-
  From arc to arc, each from where the one ahead of it ends, one comes round the ring, and meets each arc once (ViewRounds).
-/
import Derived.Test.YthjhfnbcfgkehaaViewLawA
namespace Go.Proofs.Ythjhfnbcfgkehaa
open Go.RowKit

section
variable {VH : World → Nat → List AO → List Nat → Prop}
/-- where the arc around a point ends -/
theorem VX.ends_ (L : ViewLaws VH) {W w : World} {P : List Nat} {g : Nat} {a : List AO} (h : VX VH W w P g a) {x : Nat} (hx : x < 18446744073709551616) {p : AO} (hp : p ∈ a) (hk : p.has x = true) :
    Calls Try.prog 15 #[.pointer (some ⟨g, 0, none⟩), .int .u64 (x : Nat)] w fun e w' => e = .returned (.tuple #[.int .u64 (p.t : Nat), .bool true]) ∧ Below w.heap.size w w' := by
  refine (h.next L x hx).mono ?_
  rintro e w' ⟨h1, h2⟩
  exact ⟨h1.1 p hp hk, h2⟩
theorem VX.owns (L : ViewLaws VH) {W w : World} {P : List Nat} {g : Nat} {a : List AO} (h : VX VH W w P g a) {x : Nat} (hx : x < 18446744073709551616) {p : AO} (hp : p ∈ a) (hk : p.has x = true) :
    Calls Try.prog 9 #[.pointer (some ⟨g, 0, none⟩), .int .u64 (x : Nat)] w fun e w' => e = .returned (.tuple #[.agg #[.int .u64 (p.f : Nat), .int .u64 (p.t : Nat), .int .i64 p.n, .int .i64 p.e], .bool true]) ∧ Below w.heap.size w w' := by
  refine (h.owner L x hx).mono ?_
  rintro e w' ⟨h1, h2⟩
  exact ⟨h1.1 p hp hk, h2⟩
set_option maxRecDepth 20000 in
set_option maxHeartbeats 4000000 in
theorem viewRounds_any (L : ViewLaws VH) (A : Option Addr) (c n : Nat) (os : List AO) (x : Nat) (W : World) (hA : SaysAt W A os) (hn : os.length = n) (hx : x < 18446744073709551616) :
    Calls Try.prog 5 #[.slice A n c, .int .u64 (x : Nat)] W fun e w' => e = .returned (.bool true) ∧ Below W.heap.size W w' := by
  have CA := Lib.hid (viewAlive_any L)
  by_cases q0 : 40 < n
  · have d0 : decide (40 < (n : Int)) = true := decide_eq_true (by omega)
    go_enter Try.func5, Try.ntmps5
    go_wp2_with (go_at_call 7; (with_reducible refine (CA.out _).mono ?_); rintro e w1 ⟨rfl, h1⟩)
    go_ret
    exact ⟨rfl, h1⟩
  have d0 : decide (40 < (n : Int)) = false := decide_eq_false (by omega)
  have HA := Lib.hid hA
  have HN := Lib.hid hn
  have F0 : AO.Fit ⟨0, 0, 0, 0⟩ := ⟨by decide, by decide, by decide, by decide⟩
  have C0 : Hid (∀ w g, VX VH W w [] g [] → Calls Try.prog 8 #[.pointer (some ⟨g, 0, none⟩), .agg #[.int .u64 0, .int .u64 0, .int .i64 0, .int .i64 0]] w fun e w' => (∃ b, e = .returned (.bool b)) ∧ ∃ a, VX VH W w' [] g a ∧ (∀ y, y < 18446744073709551616 → kn a y ≠ none) ∧ Turns a [0, 0]) := fun w g h => by
    refine (h.learn L ⟨0, 0, 0, 0⟩ F0 (by simp)).mono ?_
    rintro e w' ⟨b, a, rfl, h1, -, h2⟩
    obtain ⟨-, h3⟩ := h2.first F0 ⟨by decide, by decide, by decide⟩
    exact ⟨⟨_, rfl⟩, a, h1, fun y hy => by rw [h3 y hy, if_pos (in_whole 0 y)]; simp, h2.turns F0 Turns.nil⟩
  have CL : Hid (∀ w g a s C, AO.Fit s → C.length ≤ 1000 → VX VH W w [] g a → (∀ y, y < 18446744073709551616 → kn a y ≠ none) → Turns a C → Calls Try.prog 8 #[.pointer (some ⟨g, 0, none⟩), .agg s.cells] w fun e w' => (∃ b, e = .returned (.bool b)) ∧ ∃ a1, VX VH W w' [] g a1 ∧ (∀ y, y < 18446744073709551616 → kn a1 y ≠ none) ∧ Turns a1 (s.f :: s.t :: C)) := fun w g a s C hs _hl h hk hC => by
    refine (h.learn L s hs (by have := (h.arcs L).few hC; omega)).mono ?_
    rintro e w' ⟨b, a1, rfl, h1, h2, h3⟩
    exact ⟨⟨b, rfl⟩, a1, h1, fun y hy => h3.knows hy (hk y hy), h3.turns hs hC⟩
  clear hA hn F0
  go_enter Try.func5, Try.ntmps5
  go_wp2_with (go_at_call 7; (with_reducible refine (CA.out _).mono ?_); rintro e w1 ⟨rfl, h1⟩; have H1 := Lib.hid h1; clear h1)
  have X0 : Hid (VX VH W (w1.alloc (.cells VZ 32)) [] w1.heap.size []) := VX.zero L H1.out (by simp)
  obtain ⟨g, hg⟩ : ∃ g, w1.heap.size = g := ⟨_, rfl⟩
  rw [hg] at X0 ⊢
  clear hg H1
  go_wp2_with (go_at_call 8; (with_reducible refine (C0.out _ _ X0.out).mono ?_); rintro e w2 ⟨⟨b2, rfl⟩, a0, x2, k2, t2⟩; have X2 := Lib.hid x2; have K2_ := Lib.hid k2; have T2 := Lib.hid t2; clear x2 k2 t2)
  go_loopg [7, 29] (n + 1) (fun gh s7 s29 wx => ∃ (i : Nat) (a : List AO) (C : List Nat), i + gh = n + 1 ∧ i ≤ n ∧ s29 = .int .i64 (i : Nat) ∧ C.length = 2 * i + 2 ∧ Hid (VX VH W wx [] g a) ∧ Hid (∀ y, y < 18446744073709551616 → kn a y ≠ none) ∧ Hid (Turns a C))
  case atStart => exact ⟨0, a0, [0, 0], by omega, by omega, rfl, rfl, X2, K2_, T2⟩
  case round =>
    obtain ⟨i, a, C, hig, hi, rfl, hC, HX, HK, HC⟩ := hrel
    by_cases hlt : i < n
    · have i1 : (i : Int) < (n : Int) := by omega
      have zi : IntKind.i64.wrap ((i : Int) + 1) = (i : Int) + 1 := by rw [IntKind.wrap_i64]; omega
      obtain ⟨s, hs⟩ : ∃ s, os[i]? = some s := ⟨_, List.getElem?_eq_getElem (by rw [HN.out]; exact hlt)⟩
      obtain ⟨q, qo, hq⟩ := HA.out.below HX.out.base
      obtain ⟨rfl, -, hr, hf⟩ := hq i s hs
      have HR := Lib.hid hr
      have hsz : (Try.prog.info? 27).map (·.size) = some [Value.int .u64 (s.f : Nat), .int .u64 (s.t : Nat), .int .i64 s.n, .int .i64 s.e].length := by kernel_rfl
      have cl := Lib.hid (CL.out _ g a s C hf (by omega) (HX.out.below L ((Below.refl _ _).alloc (Nat.le_refl _) (.cells s.cells 27))) HK.out HC.out)
      clear hq hr hs
      go_wp2_with (first
        | (with_reducible (show wpList _ _ _ (⟨some 32, Op.load _ _, _, _, _, _⟩ :: _) _ _); go_must (refine wpList_load_mid rfl 27 (.tmp 31) rfl q (qo + i * 4) rfl [.int .u64 (s.f : Nat), .int .u64 (s.t : Nat), .int .i64 s.n, .int .i64 s.e] _ HR.out Try.underlying27 rfl hsz ?_))
        | (go_at_call 8; (with_reducible refine (cl.out).mono ?_); rintro e w3 ⟨⟨b3, rfl⟩, a3, x3, k3, t3⟩; have X3 := Lib.hid x3; have K3 := Lib.hid k3; have T3 := Lib.hid t3; clear x3 k3 t3))
      go_roundg (gk - 1)
      case measure => omega
      case rel => exact ⟨i + 1, a3, _, by omega, by omega, by go_num, by simp [hC]; omega, X3, K3, T3⟩
    · obtain rfl : i = n := by omega
      clear HN X0 HA X2 K2_ T2 C0 CL
      have ha := HX.out.arcs L
      have hfew := ha.few HC.out
      have hne : ∃ i0, ∃ h : i0 < a.length, (a[i0]).has x = true := by
        obtain ⟨v, hv⟩ := Option.ne_none_iff_exists'.1 (HK.out x hx)
        obtain ⟨p, hp, h1, -⟩ := kn_some hv
        obtain ⟨j, hj, rfl⟩ := List.mem_iff_getElem.1 hp
        exact ⟨j, hj, h1⟩
      obtain ⟨i0, hi0, hx0⟩ := hne
      obtain ⟨m, hm⟩ : ∃ m, a.length = m := ⟨_, rfl⟩
      have hpos : 0 < a.length := by omega
      have hm100 : m ≤ 100 := by omega
      clear HC hfew hC
      have CRing : Hid (∀ w, VX VH W w [] g a → Calls Try.prog 14 #[.pointer (some ⟨g, 0, none⟩)] w fun e w' => e = .returned (.bool true) ∧ VX VH W w' [] g a) := fun w h => by
        refine (h.ring L).mono ?_
        rintro e w' ⟨⟨b, rfl, h1⟩, h2⟩
        exact ⟨by rw [h1.2 HK.out], h.below L h2⟩
      have CLen : Hid (∀ w, VX VH W w [] g a → Calls Try.prog 13 #[.pointer (some ⟨g, 0, none⟩)] w fun e w' => e = .returned (.int .i64 (m : Nat)) ∧ VX VH W w' [] g a) := fun w h => by
        refine (h.len L).mono ?_
        rintro e w' ⟨rfl, h2⟩
        exact ⟨by rw [hm], h.below L h2⟩
      -- the arc at which one is behind k steps
      have HST : Hid (∀ k, k < m → ∀ y, y < 18446744073709551616 → (a[(i0 + k) % a.length]'(Nat.mod_lt _ hpos)).has y = true → ∃ t, t < 18446744073709551616 ∧
          (∀ w, VX VH W w [] g a → Calls Try.prog 15 #[.pointer (some ⟨g, 0, none⟩), .int .u64 (y : Nat)] w fun e w' => e = .returned (.tuple #[.int .u64 (t : Nat), .bool true]) ∧ VX VH W w' [] g a) ∧
          (∀ w, Calls Try.prog 10 #[.agg #[.int .u64 ((a[i0]).f : Nat), .int .u64 ((a[i0]).t : Nat)], .int .u64 (t : Nat)] w fun e w' => e = .returned (.bool (decide (k + 1 = m))) ∧ Below w.heap.size w w') ∧
          (a[(i0 + (k + 1)) % a.length]'(Nat.mod_lt _ hpos)).has t = true) := fun k hk y hy hyk => by
        have hj : (i0 + k) % a.length < a.length := Nat.mod_lt _ hpos
        have hp : a[(i0 + k) % a.length] ∈ a := List.getElem_mem hj
        have hi0m : a[i0] ∈ a := List.getElem_mem hi0
        have e1 := ha.next HK.out _ hj
        simp only [mod_step] at e1
        have hq : (a[(i0 + k + 1) % a.length]'(Nat.mod_lt _ hpos)) ∈ a := List.getElem_mem _
        refine ⟨(a[(i0 + k) % a.length]).t, (ha.lt _ hp).2, fun w h => ?_, fun w => ?_, ?_⟩
        · refine (h.ends_ L hy hp hyk).mono ?_
          rintro e w' ⟨rfl, h2⟩
          exact ⟨rfl, h.below L h2⟩
        · have hin := in_any (a[i0]).f (a[i0]).t (a[(i0 + k) % a.length]).t w (ha.lt _ hi0m).1 (ha.lt _ hi0m).2 (ha.lt _ hp).2
          have hb : inB (a[i0]).f (a[i0]).t (a[(i0 + k) % a.length]).t = decide (k + 1 = m) := by
            by_cases hkm : k + 1 = m
            · rw [decide_eq_true hkm]
              have z := (round_mod hi0 (by omega : k < a.length)).2 (by omega)
              rw [e1]
              simp only [z]
              exact ha.first hi0m
            · rw [decide_eq_false hkm]
              refine bool_not fun y1 => hkm ?_
              rw [e1] at y1
              have same := ha.one hi0m hq (ha.lt _ hq).1 y1 (ha.first hq)
              have z : (i0 + k + 1) % a.length = i0 := by
                have hu := List.pairwise_iff_getElem.1 ha.up
                have hj2 : (i0 + k + 1) % a.length < a.length := Nat.mod_lt _ hpos
                rcases Nat.lt_trichotomy i0 ((i0 + k + 1) % a.length) with z | z | z
                · have := hu _ _ hi0 hj2 z
                  rw [← same] at this
                  omega
                · exact z.symm
                · have := hu _ _ hj2 hi0 z
                  rw [← same] at this
                  omega
              have := (round_mod hi0 (by omega : k < a.length)).1 z
              omega
          rw [hb] at hin
          exact hin
        · rw [e1]
          exact ha.first hq
      have COwn : Hid (∀ w, VX VH W w [] g a → Calls Try.prog 9 #[.pointer (some ⟨g, 0, none⟩), .int .u64 (x : Nat)] w fun e w' => e = .returned (.tuple #[.agg #[.int .u64 ((a[i0]).f : Nat), .int .u64 ((a[i0]).t : Nat), .int .i64 (a[i0]).n, .int .i64 (a[i0]).e], .bool true]) ∧ Below w.heap.size w w') := fun w h =>
        h.owns L hx (List.getElem_mem hi0) hx0
      have h0 : (a[(i0 + 0) % a.length]'(Nat.mod_lt _ hpos)).has x = true := by
        simp only [Nat.add_zero, Nat.mod_eq_of_lt hi0]
        exact hx0
      have H0 := Lib.hid h0
      have hm0 : 0 < m := by omega
      obtain ⟨p0, hp0⟩ : ∃ p0, a[i0] = p0 := ⟨_, rfl⟩
      rw [hp0] at HST COwn
      clear h0 hp0 hx0 ha
      go_wp2_with (go_at_call 14; (with_reducible refine (CRing.out _ HX.out).mono ?_); rintro e w4 ⟨rfl, x4⟩; have X4 := Lib.hid x4; clear x4)
      go_loopg [8, 9, 10, 11, 12, 13] (m + 1) (fun gh s8 s9 s10 s11 s12 s13 wx => ∃ (k y : Nat), k + gh = m + 1 ∧ k < m ∧ s9 = .int .i64 (k : Nat) ∧ s8 = .int .u64 (y : Nat) ∧ y < 18446744073709551616 ∧ Hid ((a[(i0 + k) % a.length]'(Nat.mod_lt _ hpos)).has y = true) ∧ Hid (VX VH W wx [] g a))
      case atStart => exact ⟨0, x, by omega, hm0, rfl, rfl, hx, H0, X4⟩
      case round =>
        obtain ⟨k, y, hkg, hkm, rfl, rfl, hy, HY, HV⟩ := hrel
        obtain ⟨t, ht, cn, ci, hn⟩ := HST.out k hkm y hy HY.out
        have CN := Lib.hid cn
        have CI := Lib.hid ci
        have HNX := Lib.hid hn
        have l1 : (k : Int) ≤ (m : Int) := by omega
        clear cn ci hn
        have zk : IntKind.i64.wrap ((k : Int) + 1) = (k : Int) + 1 := by rw [IntKind.wrap_i64]; omega
        by_cases hkm1 : k + 1 = m
        · subst hkm1
          rw [decide_eq_true rfl] at CI
          go_wp2_with (first
            | (go_at_call 13; (with_reducible refine (CLen.out _ X8.out).mono ?_); rintro e w9 ⟨rfl, x9⟩; have X9 := Lib.hid x9; clear x9)
            | (go_at_call 13; (with_reducible refine (CLen.out _ HV.out).mono ?_); rintro e w5 ⟨rfl, x5⟩; have X5 := Lib.hid x5; clear x5)
            | (go_at_call 15; (with_reducible refine (CN.out _ X5.out).mono ?_); rintro e w6 ⟨rfl, x6⟩; have X6 := Lib.hid x6; clear x6)
            | (go_at_call 9; (with_reducible refine (COwn.out _ X6.out).mono ?_); rintro e w7 ⟨rfl, hb7⟩; have X7 := Lib.hid (X6.out.below L (hb7.alloc hb7.size (.cells p0.cells 27))); clear hb7)
            | (go_at_call 10; (with_reducible refine (CI.out _).mono ?_); rintro e w8 ⟨rfl, hb8⟩; have X8 := Lib.hid (X7.out.below L hb8); clear hb8))
          go_ret
          exact ⟨rfl, X9.out.base⟩
        · rw [decide_eq_false hkm1] at CI
          go_wp2_with (first
            | (go_at_call 13; (with_reducible refine (CLen.out _ HV.out).mono ?_); rintro e w5 ⟨rfl, x5⟩; have X5 := Lib.hid x5; clear x5)
            | (go_at_call 15; (with_reducible refine (CN.out _ X5.out).mono ?_); rintro e w6 ⟨rfl, x6⟩; have X6 := Lib.hid x6; clear x6)
            | (go_at_call 9; (with_reducible refine (COwn.out _ X6.out).mono ?_); rintro e w7 ⟨rfl, hb7⟩; have X7 := Lib.hid (X6.out.below L (hb7.alloc hb7.size (.cells p0.cells 27))); clear hb7)
            | (go_at_call 10; (with_reducible refine (CI.out _).mono ?_); rintro e w8 ⟨rfl, hb8⟩; have X8 := Lib.hid (X7.out.below L hb8); clear hb8))
          go_roundg (gk - 1)
          case measure => omega
          case rel => exact ⟨k + 1, t, by omega, by omega, by go_num, rfl, ht, HNX, X8⟩
end
end Go.Proofs.Ythjhfnbcfgkehaa
