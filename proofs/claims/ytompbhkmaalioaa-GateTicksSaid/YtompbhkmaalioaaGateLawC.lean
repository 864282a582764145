/-
  Pointers go one by one, each when it is old enough, in the order in which they were set (GateTicks).
-/
import Derived.Test.YtompbhkmaalioaaGateLawB
import Derived.Test.YtompbhkmaalioaaAppendAny
import Derived.Test.YtompbhkmaalioaaLists
namespace Go.Proofs.Ytompbhkmaalioaa
open Go.RowKit

def agesT (a : List Nat) : List Nat := (a.map (· + 1)).filter fun g => decide (g < 40)
def glL (a : List Nat) : List GP := a.map fun g => ⟨0, 0, 1, g⟩
/-- a gate with pointers of these ages -/
def agS (a : List Nat) (k : Nat) : GS := ⟨false, 0, 0, glL a, k⟩
theorem glL_tick (a : List Nat) : agedL (glL a) = glL (agesT a) := by
  unfold agedL glL agesT
  simp [List.filter_map, Function.comp_def]
theorem agS_tick (a : List Nat) (k : Nat) : (agS a k).tick = agS (agesT a) (k + 1) := by
  unfold agS GS.tick
  rw [glL_tick]
theorem agS_point (a : List Nat) (k : Nat) : (agS a k).point 0 0 1 = agS (a ++ [0]) k := by simp [agS, GS.point, glL]
theorem agS_len (a : List Nat) (k : Nat) : (agS a k).l.length = a.length := by simp [agS, glL]
theorem agesT_snoc (l : List Nat) (a : Nat) : agesT (l ++ [a]) = if a + 1 < 40 then agesT l ++ [a + 1] else agesT l := by
  unfold agesT
  by_cases h : a + 1 < 40 <;> simp [h]
theorem agesT_len (a : List Nat) : (agesT a).length ≤ a.length := by
  unfold agesT
  have := List.length_filter_le (fun g => decide (g < 40)) (a.map (· + 1))
  rwa [List.length_map] at this
theorem agesT_mem {a : List Nat} {g : Nat} (h : g ∈ agesT a) : g < 40 ∧ ∃ b ∈ a, b + 1 = g := by
  obtain ⟨h1, h2⟩ := List.mem_filter.1 h
  exact ⟨of_decide_eq_true h2, List.mem_map.1 h1⟩
/-- all are as old as that, and none is too old -/
def Aged (j : Nat) (a : List Nat) : Prop := ∀ g ∈ a, j ≤ g ∧ g < 40
theorem Aged.tick {j : Nat} {a : List Nat} (h : Aged j a) : Aged (j + 1) (agesT a) := fun g hg => by
  obtain ⟨h1, b, hb, rfl⟩ := agesT_mem hg
  exact ⟨by have := (h b hb).1; omega, h1⟩
theorem Aged.none {a : List Nat} (h : Aged 40 a) : a = [] := List.eq_nil_iff_forall_not_mem.2 fun g hg => by have := h g hg; omega
theorem Aged.weak {j : Nat} {a : List Nat} (h : Aged j a) : Aged 0 a := fun g hg => ⟨Nat.zero_le _, (h g hg).2⟩
theorem Aged.snoc {a : List Nat} (h : Aged 0 a) : Aged 0 (a ++ [0]) := fun g hg => by
  rcases List.mem_append.1 hg with z | z
  · exact h g z
  · rw [List.mem_singleton.1 z]; decide
abbrev agC (l : List Nat) : List Value := l.map fun x => .int .i64 (x : Nat)
theorem agC_append (a b : List Nat) : agC (a ++ b) = agC a ++ agC b := by simp
theorem ag_one (l : List Nat) : ∀ u ∈ agC l, u.oneCell' = true := by
  intro u hu
  obtain ⟨x, _, rfl⟩ := List.mem_map.1 hu
  rfl
theorem ag_new (w : World) (x : Nat) : ∀ j u, (agC [x])[j]? = some u → (w.alloc (.cells #[.int .i64 (x : Nat)] 3)).cell? ((⟨w.heap.size, 0, none⟩ : Addr).add j) = some u := by
  intro j u hj
  have : j = 0 := by have := (List.getElem?_eq_some_iff.1 hj).1; simp at this; omega
  subst this
  simp at hj
  subst hj
  rw [Go.WideShapes.add_plain]
  go_simp
theorem infoG_ : ∃ i z, Try.prog.info? 3 = some i ∧ i.zero = some z ∧ i.size = 1 ∧ i.bytes = 8 ∧ z.cells.size = 1 := by
  have h : (Try.prog.info? 3).map (fun i => (i.zero.isSome, i.size, i.bytes, (i.zero.getD undef).cells.size)) = some (true, 1, 8, 1) := by kernel_rfl
  obtain ⟨i, hi, hx⟩ := Option.map_eq_some_iff.1 h
  simp only [Prod.mk.injEq] at hx
  obtain ⟨h1, h2, h3, h4⟩ := hx
  obtain ⟨z, hz⟩ := Option.isSome_iff_exists.1 h1
  exact ⟨i, z, hi, hz, h2, h3, by rw [hz] at h4; exact h4⟩
theorem and15 (x : Int) : ∃ v : Nat, v ≤ 15 ∧ bits .and .i64 x 15 = (v : Nat) := by
  have h3 : (BitVec.ofInt 64 15).toNat = 15 := by decide
  have hle : (BitVec.ofInt 64 x &&& BitVec.ofInt 64 15).toNat ≤ 15 := by
    rw [BitVec.toNat_and, h3]
    exact Nat.and_le_right
  refine ⟨(BitVec.ofInt 64 x &&& BitVec.ofInt 64 15).toNat, hle, ?_⟩
  show IntKind.i64.wrap _ = _
  rw [IntKind.wrap_i64]
  have : ((BitVec.ofInt IntKind.i64.bits x &&& BitVec.ofInt IntKind.i64.bits 15).toNat : Int) = ((BitVec.ofInt 64 x &&& BitVec.ofInt 64 15).toNat : Int) := rfl
  rw [this]
  omega
theorem gate_at {W : World} {base e size c n : Nat} {A : Option Addr} {xs : List Value} (h : W.ownsRow base e size (.slice A n c) n xs) (hn : 1 ≤ n) : ∃ q, A = some ⟨q, 0, none⟩ := by
  rcases h.2 with ⟨_, h1⟩ | ⟨g, cap, cur, h0, _⟩
  · omega
  · injection h0 with h1 _ _
    exact ⟨g, h1⟩
theorem gate_mono {W : World} {base b0 e size n : Nat} {v : Value} {xs : List Value} (h : W.ownsRow base e size v n xs) (hb : b0 ≤ base) : W.ownsRow b0 e size v n xs := by
  refine ⟨h.1, ?_⟩
  rcases h.2 with h0 | ⟨g, cap, cur, hv, hg, r⟩
  · exact .inl h0
  · exact .inr ⟨g, cap, cur, hv, Nat.le_trans hb hg, r⟩
/-- the block of a row, if it has one -/
def blkL (v : Value) : List Nat := v.ownBlock.toList
theorem mem_blkL {v : Value} {q : Nat} : q ∈ blkL v ↔ v.ownBlock = some q := by unfold blkL; cases v.ownBlock <;> simp [eq_comm]
/-- a row beside the gate grows -/
theorem GX.grown {VG : World → Nat → GS → List Nat → Prop} (L : GateLaws VG) {W w w1 : World} {g : Nat} {s : GS} {v v' : Value} (h : GX VG W w (blkL v) g s) (hW : ∀ q, v.ownBlock = some q → W.heap.size ≤ q) (hg : w.grownBy w1 v.ownBlock) (hs : SameOrNew w v v') (hlt : ∀ q, v'.ownBlock = some q → q < w1.heap.size) : GX VG W w1 (blkL v') g s := by
  obtain ⟨x, ⟨F, b, c⟩, d⟩ := h
  have t : Touch (blkL v) w w1 := ((Touch.refl [] w).mono (by simp)).grown hg (fun k hk => .inl (mem_blkL.2 hk))
  refine ⟨x.grown hg x.size hW, ⟨F, L.touch b t (fun q hq => (c q hq).2), fun q hq => ⟨(c q hq).1, fun z => ?_⟩⟩, fun q hq => hlt q (mem_blkL.1 hq)⟩
  rcases hs q (mem_blkL.1 z) with y | y
  · exact (c q hq).2 (mem_blkL.2 y)
  · exact Nat.not_le_of_lt ((L.has b).2 q hq) y
theorem Kept.blk {w w' : World} {v : Value} (h : Kept (blkL v) w w') {base e size n : Nat} {xs : List Value} (hr : w.ownsRow base e size v n xs) : w'.ownsRow base e size v n xs := h.row hr (fun _ hq => mem_blkL.2 hq)
theorem GX.rowNew {VG : World → Nat → GS → List Nat → Prop} (L : GateLaws VG) {W w w1 : World} {g : Nat} {s : GS} {v : Value} {P : List Nat} (h : GX VG W w P g s) (hb : Below w.heap.size w w1) {e size n : Nat} {xs : List Value} (hr : w1.ownsRow w.heap.size e size v n xs) : GX VG W w1 (blkL v) g s :=
  ((h.less (Q := []) (by simp)).more L hb (Q := blkL v) (fun q hq => hr.lt q (mem_blkL.1 hq))).less (by simp)
set_option maxRecDepth 20000 in
set_option maxHeartbeats 8000000 in
theorem gateTicks_any {VG : World → Nat → GS → List Nat → Prop} (L : GateLaws VG) (A0 : Option Addr) (c0 n : Nat) (zs : List Int) (W : World) (hA : IntsAt W A0 .i64 zs) (hn : zs.length = n) :
    Calls Try.prog 6 #[.slice A0 n c0] W fun e w' => e = .returned (.bool true) ∧ Below W.heap.size W w' := by
  obtain ⟨i0, z0, hi0, hz, hsL, hbL, hzc⟩ := infoG_
  have CA := Lib.hid (gateAlive_any L)
  by_cases q0 : 20 < n
  · have d0 : decide (20 < (n : Int)) = true := decide_eq_true (by omega)
    go_enter Try.func6, Try.ntmps6
    go_wp2_with (go_at_call 7; (with_reducible refine (CA.out _).mono ?_); rintro e w1 ⟨rfl, h1⟩)
    go_ret
    exact ⟨rfl, h1⟩
  have d0 : decide (20 < (n : Int)) = false := decide_eq_false (by omega)
  have CP : Hid (∀ w P g a k, a.length ≤ 20 → GX VG W w P g (agS a k) → Calls Try.prog 10 #[.pointer (some ⟨g, 0, none⟩), .agg #[.int .u64 0, .int .u64 0], .int .i64 1] w (GXPost VG W w P g (.tuple #[]) (agS (a ++ [0]) k))) := fun w P g a k ha h => by
    have z := h.point L 0 0 1 (by decide) (by decide) (by decide) (by decide) (by rw [agS_len]; omega)
    rwa [agS_point] at z
  have CT : Hid (∀ w P g a k, a.length ≤ 20 → k ≤ 1000 → GX VG W w P g (agS a k) → Calls Try.prog 12 #[.pointer (some ⟨g, 0, none⟩)] w (GXPost VG W w P g (.tuple #[]) (agS (agesT a) (k + 1)))) := fun w P g a k ha hk h => by
    have z := h.tick L (by rw [agS_len]; omega) (by show k ≤ 1000000; omega)
    rwa [agS_tick] at z
  have CN : Hid (∀ w P g a k m, a.length = m → GX VG W w P g (agS a k) → Calls Try.prog 15 #[.pointer (some ⟨g, 0, none⟩)] w fun e w' => e = .returned (.int .i64 (m : Nat)) ∧ Below w.heap.size w w') := fun w P g a k m hm h => by
    have z := h.points L
    rw [agS_len, hm] at z
    refine z.mono ?_
    rintro e w' ⟨rfl, rfl⟩
    exact ⟨rfl, Below.refl _ _⟩
  unfold GXPost at CP CT
  have CB : Hid (∀ w w1 P g s, GX VG W w P g s → Below w.heap.size w w1 → GX VG W w1 P g s) := fun w w1 P g s h hb => h.below L hb
  have CG : Hid (∀ w, Below W.heap.size W w → GX VG W (w.alloc (.cells GZ 31)) [] w.heap.size (agS [] 0)) := fun w h => GX.zero L h (by simp)
  have CGR : Hid (∀ w w1 g s A m c A1 m1 c1 base e size nn xs, GX VG W w (blkL (.slice A m c)) g s → (∀ q, (Value.slice A m c).ownBlock = some q → W.heap.size ≤ q) → w.grownBy w1 (Value.slice A m c).ownBlock → SameOrNew w (.slice A m c) (.slice A1 m1 c1) → w1.ownsRow base e size (.slice A1 m1 c1) nn xs → GX VG W w1 (blkL (.slice A1 m1 c1)) g s) := fun w w1 g s A m c A1 m1 c1 base e size nn xs h hW hg hs hr => h.grown L hW hg hs (fun q hq => (hr.lt q hq).2)
  have CRN : Hid (∀ w w1 g s A m c P e size nn xs, GX VG W w P g s → Below w.heap.size w w1 → w1.ownsRow w.heap.size e size (.slice A m c) nn xs → GX VG W w1 (blkL (.slice A m c)) g s) := fun w w1 g s A m c P e size nn xs h hb hr => h.rowNew L hb hr
  have HA := Lib.hid hA
  have HN := Lib.hid hn
  clear hA hn
  go_enter Try.func6, Try.ntmps6
  go_upto_region 3 with (go_at_call 7; (with_reducible refine (CA.out _).mono ?_); rintro e w3 ⟨rfl, h3⟩; have B3 := Lib.hid h3; clear h3)
  have K0 := Lib.hid (CG.out _ B3.out)
  go_wp2_with fail
  obtain ⟨w4, hw4⟩ : ∃ w, w3.alloc (.cells GZ 31) = w := ⟨_, rfl⟩
  obtain ⟨gb, hgb⟩ : ∃ gb, w3.heap.size = gb := ⟨_, rfl⟩
  rw [hw4, hgb] at K0
  rw [hw4, hgb]
  clear hw4 hgb
  go_loopg [4, 6, 7, 8, 10, 24] (n + 1) (fun gh s4 s6 s7 s8 s10 s24 wx => ∃ (i : Nat) (A : Option Addr) (m c : Nat) (a : List Nat) (k : Nat), i + gh = n + 1 ∧ i ≤ n ∧ s24 = .int .i64 (i : Nat) ∧ s4 = .slice A m c ∧ a.length = m ∧ m ≤ i ∧ k ≤ 15 * i ∧ Hid (Aged 0 a) ∧ Hid (wx.ownsRow W.heap.size 3 1 (.slice A m c) m (agC a)) ∧ Hid (GX VG W wx (blkL (.slice A m c)) gb (agS a k)))
  case atStart => exact ⟨0, none, 0, 0, [], 0, by omega, by omega, rfl, rfl, rfl, by omega, by omega, fun g hg => (by cases hg), World.ownsRow_nil _ _ _ _, K0⟩
  case round =>
    obtain ⟨i, A, m, c, a, k, hig, hi, rfl, rfl, hm, hmi, hk, HG, HO, HK⟩ := hrel
    have HM := Lib.hid hm
    clear hm
    by_cases hlt : i < n
    · have i1 : (i : Int) < (n : Int) := by omega
      have zi : IntKind.i64.wrap ((i : Int) + 1) = (i : Int) + 1 := by rw [IntKind.wrap_i64]; omega
      obtain ⟨bl, ol, hl⟩ := HA.out.below HK.out.base
      obtain ⟨rfl, -, e1⟩ := hl i (by rw [HN.out]; exact hlt)
      generalize zs.getD i 0 = x at e1
      obtain ⟨v, hv, ev⟩ := and15 x
      obtain ⟨gz, rfl⟩ : ∃ gz : Nat, gz = gk := ⟨_, rfl⟩
      clear hl
      go_wp2_with (first
        | (go_at_call 10; (with_reducible refine (CP.out _ _ _ a k (by rw [HM.out]; omega) HK.out).mono ?_); rintro e w5 ⟨rfl, h5, k5⟩; have K5 := Lib.hid h5; have HO5 := Lib.hid (k5.blk HO.out); clear h5 k5)
        | (at_builtin; go_must (refine wpList_append_any rfl (.tmp 31) (.tmp 32) 51 rfl W.heap.size 3 i0 z0 1 8 Try.underlying51 hi0 hz hsL hbL hzc (by decide) (.slice A m c) m (agC a) rfl (HO5.out.alloc _) (.slice (some ⟨w5.heap.size, 0, none⟩) 1 1) 1 (agC [0]) rfl (.inr ⟨_, _, rfl, rfl, (fun j u hu => ag_new w5 0 j u hu)⟩) (ag_one _) (by unfold maxLen; omega) (by omega) (by have := K5.out.base.size; simp <;> omega) ?_); intro A6 c6 w6 hown6 hg6 hsn6; have K6 := Lib.hid (CGR.out _ _ _ _ _ _ _ _ _ _ _ _ _ _ _ (CB.out _ _ _ _ _ K5.out ((Below.refl _ _).alloc (Nat.le_refl _) _)) (fun q hq => (HO5.out.lt q hq).1) hg6 hsn6 hown6); have HO6 : Hid (w6.ownsRow W.heap.size 3 1 (.slice A6 (m + 1) c6) (m + 1) (agC (a ++ [0]))) := (by rw [agC_append]; exact hown6); clear hown6 hg6 hsn6))
      clear K5 HO5
      go_loopg [4, 7, 8, 10] (v + 1) (fun gh s4 s7 s8 s10 wx => ∃ (j : Nat) (A : Option Addr) (m c : Nat) (a : List Nat) (k : Nat), j + gh = v + 1 ∧ j ≤ v ∧ s7 = .int .i64 (j : Nat) ∧ s4 = .slice A m c ∧ a.length = m ∧ m ≤ i + 1 ∧ k ≤ 15 * i + j ∧ Hid (Aged 0 a) ∧ Hid (wx.ownsRow W.heap.size 3 1 (.slice A m c) m (agC a)) ∧ Hid (GX VG W wx (blkL (.slice A m c)) gb (agS a k)))
      case atStart => exact ⟨0, A6, m + 1, c6, a ++ [0], k, by omega, by omega, rfl, rfl, by rw [List.length_append, HM.out]; rfl, by omega, by omega, HG.out.snoc, HO6, K6⟩
      case round =>
        clear HK HO HG HM HO6 K6 hk hmi
        obtain ⟨j, A, m, c, a, k, hjg, hj, rfl, rfl, hm, hmi, hk, HG, HO, HK⟩ := hrel
        have HM := Lib.hid hm
        clear hm
        by_cases hjv : j < v
        · have j1 : (j : Int) < (v : Int) := by omega
          have zj : IntKind.i64.wrap ((j : Int) + 1) = (j : Int) + 1 := by rw [IntKind.wrap_i64]; omega
          obtain ⟨gy, rfl⟩ : ∃ gy : Nat, gy = gk := ⟨_, rfl⟩
          go_wp2_with (go_at_call 12; (with_reducible refine (CT.out _ _ _ a k (by rw [HM.out]; omega) (by omega) HK.out).mono ?_); rintro e w5 ⟨rfl, h5, k5⟩; have K5 := Lib.hid h5; have HO5 := Lib.hid (k5.blk HO.out); clear h5 k5)
          clear HK HO
          go_loopg [8, 10, 44] (m + 1) (fun gh s8 s10 s44 wx => ∃ (r : Nat) (B : Option Addr) (p d : Nat), r + gh = m + 1 ∧ r ≤ m ∧ s44 = .int .i64 (r : Nat) ∧ s8 = .slice B p d ∧ p ≤ r ∧ (agesT (a.take r)).length = p ∧ Hid (wx.ownsRow w5.heap.size 3 1 (.slice B p d) p (agC (agesT (a.take r)))) ∧ Hid (Below w5.heap.size w5 wx))
          case atStart => exact ⟨0, none, 0, 0, by omega, by omega, rfl, rfl, by omega, rfl, World.ownsRow_nil _ _ _ _, Below.refl _ _⟩
          case round =>
            obtain ⟨r, B, p, d, hrg, hr, rfl, rfl, hp, hpl, HR, HB⟩ := hrel
            have HPL := Lib.hid hpl
            clear hpl
            by_cases hrm : r < m
            · have r1 : (r : Int) < (m : Int) := by omega
              have zr : IntKind.i64.wrap ((r : Int) + 1) = (r : Int) + 1 := by rw [IntKind.wrap_i64]; omega
              have hra : r < a.length := by rw [HM.out]; exact hrm
              obtain ⟨q, hq⟩ := gate_at HO5.out (by omega)
              obtain rfl := hq
              have hgx : (agC a)[r]? = some (.int .i64 ((a[r] : Nat) : Int)) := by simp [hra]
              have e2' := HO5.out.cells (g := q) rfl r _ hgx
              rw [Go.WideShapes.add_plain, Nat.zero_add] at e2'
              have e2 := (HB.out.cell (p := ⟨q, r, none⟩) (HO5.out.lt q rfl).2).trans e2'
              clear hgx e2'
              have hts : a.take (r + 1) = a.take r ++ [a[r]] := List.take_succ_eq_append_getElem hra
              have hg40 := (HG.out _ (List.getElem_mem hra)).2
              generalize a[r] = y at e2 hts hg40
              have hst := agesT_snoc (a.take r) y
              rw [← hts] at hst
              have zy : IntKind.i64.wrap ((y : Int) + 1) = (y : Int) + 1 := by rw [IntKind.wrap_i64]; omega
              clear hts
              by_cases hy : y + 1 < 40
              · have dy : decide ((y : Int) + 1 < 40) = true := decide_eq_true (by omega)
                rw [if_pos hy] at hst
                have HST := Lib.hid hst
                clear hst
                go_wp2_with (at_builtin; go_must (refine wpList_append_any rfl (.tmp 51) (.tmp 54) 51 rfl w5.heap.size 3 i0 z0 1 8 Try.underlying51 hi0 hz hsL hbL hzc (by decide) (.slice B p d) p (agC (agesT (a.take r))) rfl (HR.out.alloc _) (.slice (some ⟨wr.heap.size, 0, none⟩) 1 1) 1 (agC [y + 1]) rfl (.inr ⟨_, _, rfl, rfl, (fun j u hu => ag_new wr (y + 1) j u hu)⟩) (ag_one _) (by unfold maxLen; omega) (by omega) (by have := HB.out.size; simp <;> omega) ?_); intro B7 d7 w7 hown7 hg7 hsn7; have HB7 := Lib.hid ((HB.out.alloc HB.out.size _).grown hg7 (by have := HB.out.size; simp <;> omega) (own_lt HR.out)); have HR7 : Hid (w7.ownsRow w5.heap.size 3 1 (.slice B7 (p + 1) d7) (p + 1) (agC (agesT (a.take (r + 1))))) := (by rw [HST.out, agC_append]; exact hown7); clear hown7 hg7 hsn7)
                go_roundg (gk - 1)
                case measure => omega
                case rel => exact ⟨r + 1, B7, p + 1, d7, by omega, by omega, by go_num, rfl, by omega, by rw [HST.out, List.length_append, HPL.out]; rfl, HR7, HB7⟩
              · have dy : decide ((y : Int) + 1 < 40) = false := decide_eq_false (by omega)
                rw [if_neg hy] at hst
                have HST := Lib.hid hst
                clear hst
                go_wp2_with fail
                go_roundg (gk - 1)
                case measure => omega
                case rel => exact ⟨r + 1, B, p, d, by omega, by omega, by go_num, rfl, by omega, by rw [HST.out]; exact HPL.out, by rw [HST.out]; exact HR, HB⟩
            · obtain rfl : m = r := by omega
              have hta : a.take m = a := List.take_of_length_le (by rw [HM.out]; exact Nat.le_refl _)
              have HR8 := HR
              have HPL8 := HPL
              rw [hta] at HR8 HPL8
              have K8 := Lib.hid (CRN.out _ _ _ _ _ _ _ _ _ _ _ _ K5.out HB.out HR8.out)
              clear hta HR HPL HO5
              go_wp2_with fail
              go_roundg (gy - 1)
              case measure => omega
              case rel => exact ⟨j + 1, B, p, d, agesT a, k + 1, by omega, by omega, by go_num, rfl, HPL8.out, by omega, by omega, HG.out.tick.weak, gate_mono HR8.out K5.out.base.size, K8⟩
        · obtain rfl : v = j := by omega
          go_wp2_with (go_at_call 15; (with_reducible refine (CN.out _ _ _ a k m HM.out HK.out).mono ?_); rintro e w9 ⟨rfl, h9⟩; have K9 := Lib.hid (CB.out _ _ _ _ _ HK.out h9); have HO9 := Lib.hid (own_step HO.out h9); clear h9)
          go_roundg (gz - 1)
          case measure => omega
          case rel => exact ⟨i + 1, A, m, c, a, k, by omega, by omega, by go_num, rfl, HM.out, by omega, by omega, HG, HO9, K9⟩
    · obtain rfl : n = i := by omega
      go_wp2_with fail
      go_loopg [11] 41 (fun gh s11 wx => ∃ (j : Nat) (a' : List Nat), j + gh = 41 ∧ j ≤ 40 ∧ s11 = .int .i64 (j : Nat) ∧ a'.length ≤ m ∧ Hid (Aged j a') ∧ Hid (GX VG W wx (blkL (.slice A m c)) gb (agS a' (k + j))))
      case atStart => exact ⟨0, a, by omega, by omega, rfl, by rw [HM.out]; exact Nat.le_refl _, HG, HK⟩
      case round =>
        obtain ⟨j, a', hjg, hj, rfl, hal, HG', HK'⟩ := hrel
        by_cases hj4 : j < 40
        · have j1 : (j : Int) < 40 := by omega
          have zj : IntKind.i64.wrap ((j : Int) + 1) = (j : Int) + 1 := by rw [IntKind.wrap_i64]; omega
          go_wp2_with (go_at_call 12; (with_reducible refine (CT.out _ _ _ a' (k + j) (by omega) (by omega) HK'.out).mono ?_); rintro e w5 ⟨rfl, h5, -⟩; have K5 := Lib.hid h5; clear h5)
          go_roundg (gk - 1)
          case measure => omega
          case rel => exact ⟨j + 1, agesT a', by omega, by omega, by go_num, by have := agesT_len a'; omega, HG'.out.tick, K5⟩
        · obtain rfl : j = 40 := by omega
          obtain rfl := HG'.out.none
          go_wp2_with (go_at_call 15; (with_reducible refine (CN.out _ _ _ _ _ 0 rfl HK'.out).mono ?_); rintro e w9 ⟨rfl, h9⟩; have K9 := Lib.hid (CB.out _ _ _ _ _ HK'.out h9); clear h9)
          go_ret
          exact ⟨rfl, K9.out.base⟩
end Go.Proofs.Ytompbhkmaalioaa
