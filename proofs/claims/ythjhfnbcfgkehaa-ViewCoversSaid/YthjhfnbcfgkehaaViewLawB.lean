/-
  The arcs of a view are apart; each point is in one just if it is known (ViewCovers).
-/
import Derived.Test.YthjhfnbcfgkehaaViewLawC
import Derived.Test.YthjhfnbcfgkehaaViewLawD
import Derived.Deep.RegionHeld3
namespace Go.Proofs.Ythjhfnbcfgkehaa
open Go.RowKit

def cntV (a : List AO) (x i : Nat) : Nat := ((a.take i).filter fun p => p.has x).length
theorem cntV_step {a : List AO} {x i : Nat} (h : i < a.length) : cntV a x (i + 1) = cntV a x i + (if (a[i]).has x = true then 1 else 0) := by
  unfold cntV
  rw [List.take_succ_eq_append_getElem h, List.filter_append, List.length_append]
  congr 1
  by_cases z : (a[i]).has x = true
  · simp [z]
  · simp [z]
theorem cntV_le (a : List AO) (x i : Nat) : cntV a x i ≤ i := by
  unfold cntV
  have h1 := List.length_filter_le (fun p : AO => p.has x) (a.take i)
  have h2 := List.length_take_le i a
  omega
theorem Arcs.count {a : List AO} (h : Arcs a) {x : Nat} (hx : x < 18446744073709551616) : (kn a x = none ∧ cntV a x a.length = 0) ∨ (∃ p ∈ a, p.has x = true ∧ cntV a x a.length = 1) := by
  unfold cntV
  rw [List.take_length]
  cases hk : kn a x with
  | none =>
    refine .inl ⟨rfl, ?_⟩
    rw [List.length_eq_zero_iff, List.filter_eq_nil_iff]
    intro p hp
    rw [kn_none hk p hp]
    simp
  | some v =>
    obtain ⟨p, hp, h1, -⟩ := kn_some hk
    refine .inr ⟨p, hp, h1, ?_⟩
    have hm : p ∈ a.filter fun p => p.has x := List.mem_filter.2 ⟨hp, h1⟩
    have hu := h.up.filter (fun p : AO => p.has x)
    have hall : ∀ q ∈ a.filter (fun p : AO => p.has x), q = p := fun q hq => h.one (List.mem_filter.1 hq).1 hp hx (List.mem_filter.1 hq).2 h1
    generalize a.filter (fun p : AO => p.has x) = l at *
    match l, hm, hu, hall with
    | [_], _, _, _ => rfl
    | y :: z :: r, _, hu, hall =>
      have h2 := (List.pairwise_cons.1 hu).1 z (by simp)
      rw [hall y (by simp), hall z (by simp)] at h2
      omega
theorem Arcs.apart_at {a : List AO} (h : Arcs a) {i k : Nat} (hi : i < a.length) (hk : k < a.length) (hne : k < i) : apartB (a[i]).f (a[i]).t (a[k]).f (a[k]).t = true := by
  rw [apart_comm]
  exact List.pairwise_iff_getElem.1 h.apart k i hk hi hne
/-- an arc of a list -/
theorem arcs_at {w : World} {base c n : Nat} {A : Option Addr} {l : List AO} (h : w.ownsRow base 27 4 (.slice A n c) n (arcsC l)) (hn : l.length = n) {i : Nat} {p : AO} (hp : l[i]? = some p) : ∃ q, A = some ⟨q, 0, none⟩ ∧ q < w.heap.size ∧
    w.cell? ⟨q, i * 4, none⟩ = some (.int .u64 (p.f : Nat)) ∧ w.cell? ⟨q, i * 4 + 1, none⟩ = some (.int .u64 (p.t : Nat)) ∧ w.cell? ⟨q, i * 4 + 2, none⟩ = some (.int .i64 p.n) ∧ w.cell? ⟨q, i * 4 + 3, none⟩ = some (.int .i64 p.e) := by
  have hi : i < n := by rw [← hn]; exact (List.getElem?_eq_some_iff.1 hp).1
  rcases h.2 with ⟨h0, h1⟩ | ⟨q, cap, cur, h0, h1⟩
  · injection h0 with _ h0 _
    omega
  · injection h0 with h0 _ h2
    subst h0 h2
    have hc : ∀ j u, (arcsC l)[j]? = some u → w.cell? ((⟨q, 0, none⟩ : Addr).add j) = some u := h.cells (g := q) rfl
    have hg : ∀ j, j < 4 → (arcsC l)[i * 4 + j]? = p.cells[j]? := fun j hj => rowC_get (fun x => ao_size x) l i j p hp hj
    refine ⟨q, rfl, (h.lt q rfl).2, ?_, ?_, ?_, ?_⟩
    · have := hc (i * 4) (.int .u64 (p.f : Nat)) (hg 0 (by decide))
      rwa [Go.WideShapes.add_plain, Nat.zero_add] at this
    · have := hc (i * 4 + 1) (.int .u64 (p.t : Nat)) (hg 1 (by decide))
      rwa [Go.WideShapes.add_plain, Nat.zero_add] at this
    · have := hc (i * 4 + 2) (.int .i64 p.n) (hg 2 (by decide))
      rwa [Go.WideShapes.add_plain, Nat.zero_add] at this
    · have := hc (i * 4 + 3) (.int .i64 p.e) (hg 3 (by decide))
      rwa [Go.WideShapes.add_plain, Nat.zero_add] at this
section
variable {VH : World → Nat → List AO → List Nat → Prop}
set_option maxRecDepth 20000 in
set_option maxHeartbeats 8000000 in
theorem viewCovers_any (L : ViewLaws VH) (A : Option Addr) (c n : Nat) (os : List AO) (x : Nat) (W : World) (hA : SaysAt W A os) (hn : os.length = n) (hx : x < 18446744073709551616) :
    Calls Try.prog 4 #[.slice A n c, .int .u64 (x : Nat)] W fun e w' => e = .returned (.bool true) ∧ Below W.heap.size W w' := by
  have CA := Lib.hid (viewAlive_any L)
  by_cases q0 : 40 < n
  · have d0 : decide (40 < (n : Int)) = true := decide_eq_true (by omega)
    go_enter Try.func4, Try.ntmps4
    go_wp2_with (go_at_call 7; (with_reducible refine (CA.out _).mono ?_); rintro e w1 ⟨rfl, h1⟩)
    go_ret
    exact ⟨rfl, h1⟩
  have d0 : decide (40 < (n : Int)) = false := decide_eq_false (by omega)
  have HA := Lib.hid hA
  have HN := Lib.hid hn
  have CL : Hid (∀ w g a s C, AO.Fit s → C.length ≤ 1000 → VX VH W w [] g a → Turns a C → Calls Try.prog 8 #[.pointer (some ⟨g, 0, none⟩), .agg s.cells] w fun e w' => (∃ b, e = .returned (.bool b)) ∧ ∃ a1, VX VH W w' [] g a1 ∧ Turns a1 (s.f :: s.t :: C)) := fun w g a s C hs _hl h hC => by
    refine (h.learn L s hs (by have := (h.arcs L).few hC; omega)).mono ?_
    rintro e w' ⟨b, a1, rfl, h1, h2, h3⟩
    exact ⟨⟨b, rfl⟩, a1, h1, h3.turns hs hC⟩
  clear hA hn
  go_enter Try.func4, Try.ntmps4
  go_wp2_with (go_at_call 7; (with_reducible refine (CA.out _).mono ?_); rintro e w1 ⟨rfl, h1⟩; have H1 := Lib.hid h1; clear h1)
  have X0 : Hid (VX VH W (w1.alloc (.cells VZ 32)) [] w1.heap.size []) := VX.zero L H1.out (by simp)
  obtain ⟨g, hg⟩ : ∃ g, w1.heap.size = g := ⟨_, rfl⟩
  rw [hg] at X0 ⊢
  clear hg H1
  go_loopg [7, 28] (n + 1) (fun gh s7 s28 wx => ∃ (i : Nat) (a : List AO) (C : List Nat), i + gh = n + 1 ∧ i ≤ n ∧ s28 = .int .i64 (i : Nat) ∧ C.length = 2 * i ∧ Hid (VX VH W wx [] g a) ∧ Hid (Turns a C))
  case atStart => exact ⟨0, [], [], by omega, by omega, rfl, rfl, X0.out, Turns.nil⟩
  case round =>
    obtain ⟨i, a, C, hig, hi, rfl, hC, HX, HC⟩ := hrel
    by_cases hlt : i < n
    · have i1 : (i : Int) < (n : Int) := by omega
      have zi : IntKind.i64.wrap ((i : Int) + 1) = (i : Int) + 1 := by rw [IntKind.wrap_i64]; omega
      obtain ⟨s, hs⟩ : ∃ s, os[i]? = some s := ⟨_, List.getElem?_eq_getElem (by rw [HN.out]; exact hlt)⟩
      obtain ⟨q, qo, hq⟩ := HA.out.below HX.out.base
      obtain ⟨rfl, -, hr, hf⟩ := hq i s hs
      have HR := Lib.hid hr
      have hsz : (Try.prog.info? 27).map (·.size) = some [Value.int .u64 (s.f : Nat), .int .u64 (s.t : Nat), .int .i64 s.n, .int .i64 s.e].length := by kernel_rfl
      have cl := Lib.hid (CL.out _ g a s C hf (by omega) (HX.out.below L ((Below.refl _ _).alloc (Nat.le_refl _) (.cells s.cells 27))) HC.out)
      clear hq hr hs
      go_wp2_with (first
        | (with_reducible (show wpList _ _ _ (⟨some 31, Op.load _ _, _, _, _, _⟩ :: _) _ _); go_must (refine wpList_load_mid rfl 27 (.tmp 30) rfl q (qo + i * 4) rfl [.int .u64 (s.f : Nat), .int .u64 (s.t : Nat), .int .i64 s.n, .int .i64 s.e] _ HR.out Try.underlying27 rfl hsz ?_))
        | (go_at_call 8; (with_reducible refine (cl.out).mono ?_); rintro e w3 ⟨⟨b3, rfl⟩, a3, x3, t3⟩; have X3 := Lib.hid x3; have T3 := Lib.hid t3; clear x3 t3))
      go_roundg (gk - 1)
      case measure => omega
      case rel => exact ⟨i + 1, a3, _, by omega, by omega, by go_num, by simp [hC]; omega, X3, T3⟩
    · obtain rfl : i = n := by omega
      clear HN X0 HA CL
      have ha := HX.out.arcs L
      have hfew := ha.few HC.out
      obtain ⟨m, hm⟩ : ∃ m, a.length = m := ⟨_, rfl⟩
      have hm100 : m ≤ 100 := by omega
      clear HC hfew hC
      have HM := Lib.hid hm
      have HAR := Lib.hid ha
      have hcnt := ha.count hx
      rw [hm] at hcnt
      have HCN := Lib.hid hcnt
      clear hcnt ha hm
      go_wp2_with (go_at_call 11; (with_reducible refine (HX.out.all L (by rw [HM.out]; omega)).mono ?_); rintro e w5 ⟨A5, c5, rfl, ho5, hb5⟩; rw [HM.out] at ho5 ⊢; have X5 := Lib.hid (HX.out.below L hb5); have HO5 := Lib.hid ho5; clear hb5 ho5)
      go_loopg [9, 10, 11, 40] (m + 1) (fun gh s9 s10 s11 s40 wx => ∃ (j : Nat), j + gh = m + 1 ∧ j ≤ m ∧ s40 = .int .i64 (j : Nat) ∧ s9 = .int .i64 (cntV a x j : Nat) ∧ Hid (Below w5.heap.size w5 wx))
      case atStart => exact ⟨0, by omega, by omega, rfl, rfl, Below.refl _ _⟩
      case round =>
        obtain ⟨j, hjg, hj, rfl, rfl, HB⟩ := hrel
        by_cases hjm : j < m
        · have j1 : (j : Int) < (m : Int) := by omega
          have zj : IntKind.i64.wrap ((j : Int) + 1) = (j : Int) + 1 := by rw [IntKind.wrap_i64]; omega
          have hal : j < a.length := by rw [HM.out]; exact hjm
          obtain ⟨p, hp⟩ : ∃ p, a[j] = p := ⟨_, rfl⟩
          have hpa : p ∈ a := by rw [← hp]; exact List.getElem_mem hal
          have hpl := HAR.out.lt p hpa
          have hst := cntV_step (x := x) hal
          rw [hp] at hst
          obtain ⟨q, rfl, hq, e0, e1, e2, e3⟩ := arcs_at ((Touch.ofBelow (F := []) HB.out).row HO5.out (by simp)) HM.out (i := j) (p := p) (by rw [List.getElem?_eq_getElem hal, hp])
          have CI : Hid (∀ w, Calls Try.prog 10 #[.agg #[.int .u64 (p.f : Nat), .int .u64 (p.t : Nat)], .int .u64 (x : Nat)] w fun e w' => e = .returned (.bool (p.has x)) ∧ Below w.heap.size w w') := fun w => in_any p.f p.t x w hpl.1 hpl.2 hx
          have hle := cntV_le a x j
          have CP : Hid (∀ k (hk : k < a.length), k < j → ∀ w, Calls Try.prog 12 #[.agg #[.int .u64 (p.f : Nat), .int .u64 (p.t : Nat)], .agg #[.int .u64 ((a[k]).f : Nat), .int .u64 ((a[k]).t : Nat)]] w fun e w' => e = .returned (.bool true) ∧ Below w.heap.size w w') := fun k hk hkj w => by
            have z := HAR.out.apart_at hal hk hkj
            rw [hp] at z
            rw [← z]
            have hkl := HAR.out.lt _ (List.getElem_mem hk)
            exact apart_any p.f p.t (a[k]).f (a[k]).t w hpl.1 hpl.2 hkl.1 hkl.2
          have zc : IntKind.i64.wrap ((cntV a x j : Int) + 1) = (cntV a x j : Int) + 1 := by rw [IntKind.wrap_i64]; omega
          generalize cntV a x j = cj at *
          cases hv : p.has x
          all_goals
            rw [hv] at hst CI
            have HST := Lib.hid hst
            clear hst
            go_wp2_with (go_at_call 10; (with_reducible refine (CI.out _).mono ?_); rintro e w6 ⟨rfl, hb6⟩; have H6 : Hid (Below w5.heap.size w5 w6) := acc HB.out hb6; clear hb6)
            clear CI HB e0 e1 e2 e3
            obtain ⟨gz, rfl⟩ : ∃ gz : Nat, gz = gk := ⟨_, rfl⟩
            go_loopg [11] (j + 1) (fun gh s11 wx => ∃ (k : Nat), k + gh = j + 1 ∧ k ≤ j ∧ s11 = .int .i64 (k : Nat) ∧ Hid (Below w5.heap.size w5 wx))
            case atStart => exact ⟨0, by omega, by omega, rfl, H6⟩
            case round =>
              obtain ⟨k, hkg, hk, rfl, HK⟩ := hrel
              by_cases hkj : k < j
              · have k1 : (k : Int) < (j : Int) := by omega
                have k2 : (k : Int) < (m : Int) := by omega
                have zk : IntKind.i64.wrap ((k : Int) + 1) = (k : Int) + 1 := by rw [IntKind.wrap_i64]; omega
                have hka : k < a.length := by rw [HM.out]; omega
                have cp := CP.out k hka hkj
                obtain ⟨r, hr⟩ : ∃ r, a[k] = r := ⟨_, rfl⟩
                rw [hr] at cp
                have CPK := Lib.hid cp
                have hrow := (Touch.ofBelow (F := []) HK.out).row HO5.out (by simp)
                obtain ⟨q1, hq1, -, e0, e1, -, -⟩ := arcs_at hrow HM.out (i := j) (p := p) (by rw [List.getElem?_eq_getElem hal, hp])
                obtain ⟨q2, hq2, -, f0, f1, -, -⟩ := arcs_at hrow HM.out (i := k) (p := r) (by rw [List.getElem?_eq_getElem hka, hr])
                injection hq1 with hq1
                injection hq1 with hq1
                injection hq2 with hq2
                injection hq2 with hq2
                subst hq1 hq2
                have hql := hq
                have HSS : Hid (∀ w', Below wr.heap.size wr w' → w'.cell? ⟨q, j * 4, none⟩ = some (.int .u64 (p.f : Nat)) ∧ w'.cell? ⟨q, j * 4 + 1, none⟩ = some (.int .u64 (p.t : Nat)) ∧ w'.cell? ⟨q, k * 4, none⟩ = some (.int .u64 (r.f : Nat)) ∧ w'.cell? ⟨q, k * 4 + 1, none⟩ = some (.int .u64 (r.t : Nat))) := fun w' h =>
                  have lq : q < wr.heap.size := World.block_lt_of_cell? _ _ e0
                  ⟨(h.cell (p := ⟨q, j * 4, none⟩) lq).trans e0, (h.cell (p := ⟨q, j * 4 + 1, none⟩) lq).trans e1, (h.cell (p := ⟨q, k * 4, none⟩) lq).trans f0, (h.cell (p := ⟨q, k * 4 + 1, none⟩) lq).trans f1⟩
                clear hr cp hrow e0 e1 f0 f1
                go_upto_region 19 with fail
                go_region_held3 (fun w' => w'.cell? ⟨q, j * 4, none⟩ = some (.int .u64 (p.f : Nat)) ∧ w'.cell? ⟨q, j * 4 + 1, none⟩ = some (.int .u64 (p.t : Nat)) ∧ w'.cell? ⟨q, k * 4, none⟩ = some (.int .u64 (r.f : Nat)) ∧ w'.cell? ⟨q, k * 4 + 1, none⟩ = some (.int .u64 (r.t : Nat))) ((first | exact HSS.out _ ((Below.refl _ _).drew) | exact HSS.out _ (acc ((Below.refl _ _).drew) (by assumption))))
                  (first | (go_at_call 12; (with_reducible refine (CPK.out _).mono ?_); rintro e w9 ⟨rfl, hb9⟩))
                go_wp2_with fail
                go_roundg (gk - 1)
                case measure => omega
                case rel => exact ⟨k + 1, by omega, by omega, by go_num, acc HK.out (acc ((Below.refl _ _).drew) hb9)⟩
              · obtain rfl : k = j := by omega
                go_wp2_with fail
                go_roundg (gz - 1)
                case measure => omega
                case rel => exact ⟨k + 1, by omega, by omega, by go_num, by rw [HST.out]; rfl, HK⟩
        · obtain rfl : j = m := by omega
          have X6 := Lib.hid (X5.out.below L HB.out)
          have CLen : Hid (∀ w, VX VH W w [] g a → Calls Try.prog 13 #[.pointer (some ⟨g, 0, none⟩)] w fun e w' => e = .returned (.int .i64 (j : Nat)) ∧ Below w.heap.size w w') := fun w h => by
            have z := h.len L
            rw [HM.out] at z
            exact z
          rcases HCN.out with ⟨hk, hc⟩ | ⟨p, hp, hpx, hc⟩
          · rw [hc]
            have CR : Hid (∀ w, VX VH W w [] g a → Calls Try.prog 14 #[.pointer (some ⟨g, 0, none⟩)] w fun e w' => e = .returned (.bool false) ∧ Below w.heap.size w w') := fun w h => by
              refine (h.ring L).mono ?_
              rintro e w' ⟨⟨b, rfl, h1⟩, h2⟩
              have : b = false := bool_not fun z => h1.1 z x hx hk
              exact ⟨by rw [this], h2⟩
            have HK := Lib.hid hk
            clear hc hk
            go_wp2_with (first
              | (go_at_call 9; (with_reducible refine (VX.at_none L X6.out hx HK.out).mono ?_); rintro e w6 ⟨rfl, hb6⟩; have X7 : Hid (VX VH W (boxZ w6) [] g a) := X6.out.below L (hb6.alloc hb6.size _); clear hb6)
              | (go_at_call 13; (with_reducible refine (CLen.out _ X7.out).mono ?_); rintro e w7 ⟨rfl, hb7⟩; have X8 := Lib.hid (X7.out.below L hb7); clear hb7)
              | (go_at_call 14; (with_reducible refine (CR.out _ X8.out).mono ?_); rintro e w8 ⟨rfl, hb8⟩; have X9 := Lib.hid (X8.out.below L hb8); clear hb8))
            go_ret
            exact ⟨rfl, X9.out.base⟩
          · rw [hc]
            have hpl := HAR.out.lt p hp
            have CI : Hid (∀ w, Calls Try.prog 10 #[.agg #[.int .u64 (p.f : Nat), .int .u64 (p.t : Nat)], .int .u64 (x : Nat)] w fun e w' => e = .returned (.bool true) ∧ Below w.heap.size w w') := fun w => by
              have z := in_any p.f p.t x w hpl.1 hpl.2 hx
              rw [show inB p.f p.t x = true from hpx] at z
              exact z
            have CO : Hid (∀ w, VX VH W w [] g a → Calls Try.prog 9 #[.pointer (some ⟨g, 0, none⟩), .int .u64 (x : Nat)] w fun e w' => e = .returned (.tuple #[.agg #[.int .u64 (p.f : Nat), .int .u64 (p.t : Nat), .int .i64 p.n, .int .i64 p.e], .bool true]) ∧ Below w.heap.size w w') := fun w h => h.owns L hx hp hpx
            have HP := Lib.hid hp
            clear hc hpx hpl
            go_wp2_with (first
              | (go_at_call 9; (with_reducible refine (CO.out _ X6.out).mono ?_); rintro e w6 ⟨rfl, hb6⟩; have hb6a : Below wr.heap.size wr (boxO w6 p) := hb6.alloc hb6.size _; have X7 : Hid (VX VH W (boxO w6 p) [] g a) := X6.out.below L hb6a; have B7 : Hid (Below w5.heap.size w5 (boxO w6 p)) := acc HB.out hb6a; have O7 : Hid (OC (boxO w6 p) w6.heap.size p) := OC.new w6 p; clear hb6 hb6a)
              | (go_at_call 13; (with_reducible refine (CLen.out _ X7.out).mono ?_); rintro e w7 ⟨rfl, hb7⟩; have X8 := Lib.hid (X7.out.below L hb7); have B8 := Lib.hid (acc B7.out hb7); have O8 := Lib.hid (O7.out.below hb7); clear hb7))
            obtain ⟨bo, hbo⟩ : ∃ bo, w6.heap.size = bo := ⟨_, rfl⟩
            rw [hbo] at O8 ⊢
            clear hbo X7 B7 O7 X6 HB
            go_loopg [14, 15, 98] (j + 1) (fun gh s14 s15 s98 wx => ∃ (k : Nat) (b : Bool), k + gh = j + 1 ∧ k ≤ j ∧ s98 = .int .i64 (k : Nat) ∧ s14 = .bool b ∧ Hid (b = true ↔ p ∈ a.take k) ∧ Hid (Below w7.heap.size w7 wx))
            case atStart => exact ⟨0, false, by omega, by omega, rfl, rfl, ⟨fun z => (by cases z), fun z => (by simp at z)⟩, Below.refl _ _⟩
            case round =>
              obtain ⟨k, b, hkg, hkj, rfl, rfl, HI, HK⟩ := hrel
              by_cases hlt2 : k < j
              · have k1 : (k : Int) < (j : Int) := by omega
                have zk : IntKind.i64.wrap ((k : Int) + 1) = (k : Int) + 1 := by rw [IntKind.wrap_i64]; omega
                have hka : k < a.length := by rw [HM.out]; exact hlt2
                have htk : a.take (k + 1) = a.take k ++ [a[k]] := List.take_succ_eq_append_getElem hka
                obtain ⟨r, hr⟩ : ∃ r, a[k] = r := ⟨_, rfl⟩
                have hra : r ∈ a := by rw [← hr]; exact List.getElem_mem hka
                rw [hr] at htk
                have HT := Lib.hid htk
                obtain ⟨q, rfl, -, e0, e1, e2, e3⟩ := arcs_at ((Touch.ofBelow (F := []) (acc B8.out HK.out)).row HO5.out (by simp)) HM.out (i := k) (p := r) (by rw [List.getElem?_eq_getElem hka, hr])
                obtain ⟨-, f0, f1, f2, f3⟩ := O8.out.below HK.out
                have hrp : r = p ∨ ((r.f : Int) == (p.f : Int)) = false := by
                  by_cases z : r.f = p.f
                  · exact .inl (HAR.out.same_rec hra HP.out z)
                  · exact .inr (beq_eq_false_iff_ne.2 (by omega))
                clear htk hr hra
                cases b with
                | true =>
                  go_upto_region 31 with fail
                  go_quiet (fail)
                  go_wp2_with fail
                  go_roundg (gk - 1)
                  case measure => omega
                  case rel => exact ⟨k + 1, true, by omega, by omega, by go_num, rfl, ⟨fun _ => by rw [HT.out]; exact List.mem_append_left _ (HI.out.1 (by first | trivial | rfl)), fun _ => (by first | trivial | rfl)⟩, below_drewN HK.out _⟩
                | false =>
                  rcases hrp with rfl | hrp
                  · go_upto_region 31 with fail
                    go_quiet (fail)
                    go_wp2_with fail
                    go_roundg (gk - 1)
                    case measure => omega
                    case rel => exact ⟨k + 1, true, by omega, by omega, by go_num, rfl, ⟨fun _ => by rw [HT.out]; simp, fun _ => (by first | trivial | rfl)⟩, below_drewN HK.out _⟩
                  · go_upto_region 31 with fail
                    go_quiet (fail)
                    go_wp2_with fail
                    go_roundg (gk - 1)
                    case measure => omega
                    case rel => exact ⟨k + 1, false, by omega, by omega, by go_num, rfl, ⟨fun z => (by cases z), fun z => by
                      rw [HT.out] at z
                      rcases List.mem_append.1 z with z | z
                      · exact HI.out.2 z
                      · rw [List.mem_singleton] at z
                        subst z
                        simp at hrp⟩, below_drewN HK.out _⟩
              · obtain rfl : k = j := by omega
                have hle : a.take k = a := List.take_of_length_le (by rw [HM.out]; exact Nat.le_refl _)
                obtain rfl : b = true := HI.out.2 (by rw [hle]; exact HP.out)
                obtain ⟨-, f0, f1, f2, f3⟩ := O8.out.below HK.out
                go_wp2_with (go_at_call 10; (with_reducible refine (CI.out _).mono ?_); rintro e w9 ⟨rfl, hb9⟩)
                go_ret
                exact ⟨rfl, acc X8.out.base (acc HK.out hb9)⟩
end
end Go.Proofs.Ythjhfnbcfgkehaa
