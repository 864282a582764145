/-
  BagDrops, walked: what is dropped is gone, and the rest is there in its order.
-/
import Derived.Test.YtokgamagiffaeaaBagLawB
import Derived.Test.YtokgamagiffaeaaLists
namespace Go.Proofs.Ytokgamagiffaeaa
open Go.RowKit

def wCells (ws : List Nat) : List Value := ws.map fun i => .int .i64 (i : Nat)
def dPk (ws : List Nat) : List Pk := ws.map fun i => ⟨0, 0, 0, (i : Nat)⟩
theorem wCells_append (a b : List Nat) : wCells (a ++ b) = wCells a ++ wCells b := by simp [wCells]
theorem wCells_len (ws : List Nat) : (wCells ws).length = ws.length := by simp [wCells]
theorem dPk_len (ws : List Nat) : (dPk ws).length = ws.length := by simp [dPk]
theorem wCells_one (ws : List Nat) : ∀ u ∈ wCells ws, u.oneCell' = true := by
  intro u hu
  obtain ⟨i, _, rfl⟩ := List.mem_map.1 hu
  rfl
def eraseN (ws : List Nat) (k : Nat) : List Nat := ws.take k ++ ws.drop (k + 1)
theorem dPk_without (ws : List Nat) (k : Nat) : without (dPk ws) k = dPk (eraseN ws k) := by simp [without, dPk, eraseN, List.map_take, List.map_drop]
theorem dPk_at {ws : List Nat} {k x : Nat} (h : ws[k]? = some x) : (dPk ws)[k]? = some ⟨0, 0, 0, (x : Nat)⟩ := by rw [dPk, List.getElem?_map, h]; rfl
theorem dPk_range (i : Nat) : dPk (List.range i) ++ [⟨0, 0, 0, (i : Nat)⟩] = dPk (List.range (i + 1)) := by simp [dPk, List.range_succ]
theorem wCells_range (i : Nat) : wCells (List.range i) ++ [.int .i64 (i : Nat)] = wCells (List.range (i + 1)) := by simp [wCells, List.range_succ]
theorem infoInts : ∃ i, Try.prog.info? 3 = some i ∧ i.zero = some (.int .i64 0) ∧ i.size = 1 ∧ i.bytes = 8 := by
  have h : (Try.prog.info? 3).map (fun i => (i.zero, i.size, i.bytes)) = some (some (.int .i64 0), 1, 8) := by kernel_rfl
  obtain ⟨i, hi, hx⟩ := Option.map_eq_some_iff.1 h
  simp only [Prod.mk.injEq] at hx
  exact ⟨i, hi, hx⟩
abbrev blk1 (A : Option Addr) (n c : Nat) : List Nat := (Value.slice A n c).ownBlock.toList
/-- a list of the call's own grew -/
theorem BX.grew {W w w1 : World} {g m n n' c c' base : Nat} {e : TypeId} {ps : List Pk} {A A' : Option Addr} {xs : List Value} (h : BX W w (blk1 A n c) g m ps) (hr : w.ownsRow base e 1 (.slice A n c) n xs) (hb : W.heap.size ≤ base)
    (hg : w.grownBy w1 (Value.slice A n c).ownBlock) (hs : SameOrNew w (.slice A n c) (.slice A' n' c')) {ys : List Value} (hr' : w1.ownsRow base e 1 (.slice A' n' c') n' ys) : BX W w1 (blk1 A' n' c') g m ps := by
  obtain ⟨a, ⟨F, b, cc⟩, d⟩ := h
  have t : Touch (blk1 A n c) w w1 := (Touch.refl _ _).grown hg (fun q hq => .inl (by simp [blk1, hq]))
  refine ⟨Touch.acc a t (fun q hq => by have := (hr.lt q (by simpa using hq)).1; omega), ⟨F, b.touch t (fun q hq => (cc q hq).2), fun q hq => ⟨(cc q hq).1, fun z => ?_⟩⟩, fun q hq => (hr'.lt q (by simpa using hq)).2⟩
  rcases hs q (by simpa using z) with y | y
  · exact (cc q hq).2 (by simp [blk1, y])
  · have := b.ltF q hq; omega
/-- a list of the call's own, made anew -/
theorem BX.fresh {W V w1 : World} {P Q : List Nat} {g m : Nat} {ps : List Pk} (h : BX W V P g m ps) (hb : Below V.heap.size V w1) (hQ : ∀ q ∈ Q, V.heap.size ≤ q ∧ q < w1.heap.size) : BX W w1 Q g m ps := by
  obtain ⟨a, ⟨F, b, c⟩, d⟩ := h
  exact ⟨acc a hb, ⟨F, b.below hb, fun x hx => ⟨(c x hx).1, fun z => by have := b.ltF x hx; have := (hQ x z).1; omega⟩⟩, fun q hq => (hQ q hq).2⟩
theorem ints_take {W : World} {base q n c p : Nat} {ws : List Nat} (h : W.ownsRow base 3 1 (.slice (some ⟨q, 0, none⟩) n c) n (wCells ws)) (hn : ws.length = n) (hp : p ≤ n) (d : Nat) : From W 1 (.slice (some ⟨q, 0, none⟩) p d) p (wCells (ws.take p)) :=
  .inr ⟨_, _, rfl, by rw [wCells_len, List.length_take, hn]; omega, fun j u hj => by
    have hlt : j < p := by
      have := (List.getElem?_eq_some_iff.1 hj).1
      rw [wCells_len, List.length_take] at this
      omega
    rw [Go.WideShapes.add_plain, Nat.zero_add]
    have h2 : W.cell? ⟨q, j, none⟩ = (wCells ws)[j]? := h.cellAt j (by omega)
    rw [h2, ← hj, wCells, wCells, List.map_take, List.getElem?_take_of_lt hlt]⟩
theorem ints_drop {W : World} {base q n c p : Nat} {ws : List Nat} (h : W.ownsRow base 3 1 (.slice (some ⟨q, 0, none⟩) n c) n (wCells ws)) (hn : ws.length = n) (d : Nat) : From W 1 (.slice (some ⟨q, p, none⟩) (n - p) d) (n - p) (wCells (ws.drop p)) :=
  .inr ⟨_, _, rfl, by rw [wCells_len, List.length_drop, hn, Nat.mul_one], fun j u hj => by
    have hlt : j < n - p := by
      have := (List.getElem?_eq_some_iff.1 hj).1
      rw [wCells_len, List.length_drop] at this
      omega
    rw [Go.WideShapes.add_plain]
    have h2 : W.cell? ⟨q, p + j, none⟩ = (wCells ws)[p + j]? := h.cellAt (p + j) (by omega)
    rw [h2, ← hj, wCells, wCells, List.map_drop, List.getElem?_drop]⟩

set_option maxRecDepth 20000 in
set_option maxHeartbeats 8000000 in
theorem bagDropsGo (n : Nat) (LA : Option Addr) (lc : Nat) (zs : List Int) (W : World) (hn : n ≤ 40) (hz : zs.length ≤ 60) (hL : IntsAt W LA .i64 zs) (hzb : ∀ x ∈ zs, -9223372036854775808 ≤ x ∧ x ≤ 9223372036854775807) :
    Calls Try.prog 7 #[.int .i64 (n : Nat), .slice LA zs.length lc] W fun e w' => e = .returned (.bool true) ∧ Below W.heap.size W w' := by
  have CA := Lib.hid aliveC
  have CN := Lib.hid (fun w h => new100 W w [] h (by simp))
  have CP : Hid (∀ w P g (i : Nat), i < n → BX W w P g 100 (dPk (List.range i)) → Calls Try.prog 10 #[.pointer (some ⟨g, 0, none⟩), .agg (Pk.mk 0 0 0 (i : Nat)).cells] w fun e w' => e = .returned (.bool true) ∧ BX W w' P g 100 (dPk (List.range (i + 1))) ∧ Keeps P w w') := fun w P g i hi h =>
    (h.put ⟨0, 0, 0, (i : Nat)⟩ (by rw [dPk_len, List.length_range]; omega)).mono fun e w' ⟨h1, h2, h3⟩ => ⟨h1, by rw [← dPk_range]; exact h2, h3⟩
  obtain ⟨m, hm⟩ : ∃ m, zs.length = m := ⟨_, rfl⟩
  have HM := Lib.hid hm
  rw [hm] at hz ⊢
  clear hm
  have HLI := Lib.hid hL
  have HZB := Lib.hid hzb
  clear hL hzb
  have d1 : decide ((n : Int) < 0) = false := by simp
  have d2 : decide (40 < (n : Int)) = false := by simp; omega
  have d3 : decide (60 < (m : Int)) = false := by simp; omega
  obtain ⟨i0, hi0, hz0, hs0, hb0⟩ := infoInts
  go_enter Try.func7, Try.ntmps7
  go_wp2_with (first
    | (go_at_call 8; (with_reducible refine (CA.out _).mono ?_); rintro e w1 ⟨rfl, h1⟩; have H1 := Lib.hid h1; clear h1)
    | (go_at_call 9; (with_reducible refine (CN.out _ H1.out).mono ?_); rintro e w2 ⟨rfl, h2, _⟩; have H2 := Lib.hid h2; clear h2))
  obtain ⟨g, hg⟩ : ∃ g, w1.heap.size = g := ⟨_, rfl⟩
  rw [hg] at H2 ⊢
  clear hg H1
  go_loopg [6, 7] (n + 1) (fun gh s6 s7 wx => ∃ (i : Nat) (A : Option Addr) (c : Nat), i + gh = n + 1 ∧ i ≤ n ∧ s6 = .slice A i c ∧ s7 = .int .i64 (i : Nat) ∧ Hid (wx.ownsRow W.heap.size 3 1 (.slice A i c) i (wCells (List.range i))) ∧ Hid (BX W wx (blk1 A i c) g 100 (dPk (List.range i))))
  case atStart => exact ⟨0, none, 0, by omega, by omega, rfl, rfl, World.ownsRow_nil _ _ _ _, H2.out⟩
  case round =>
    obtain ⟨i, A, c, hig, hi, rfl, rfl, HR, HX⟩ := hrel
    by_cases hlt : i < n
    · have cp := Lib.hid (CP.out wr _ g i hlt HX.out)
      go_wp2_with (first
        | (go_at_call 10; (with_reducible refine (cp.out).mono ?_); rintro e w3 ⟨rfl, h3, k3⟩; have H3 := Lib.hid h3; have HR3 := Lib.hid (k3.row HR.out (by simp [blk1])); clear h3 k3)
        | (at_builtin; refine wpList_append_any rfl (.tmp 43) (.tmp 45) 47 rfl W.heap.size 3 i0 (.int .i64 0) 1 8 Try.underlying47 hi0 hz0 hs0 hb0 rfl (by decide) (.slice A i c) i (wCells (List.range i)) rfl (HR3.out.alloc _) (.slice (some ⟨w3.heap.size, 0, none⟩) 1 1) 1 [.int .i64 (i : Nat)] rfl (.inr ⟨_, _, rfl, rfl, cell_one_new _ _ _⟩) (fun u hu => by simp at hu; subst hu; rfl) (by unfold maxLen; omega) (by omega) (by have := H3.out.1.size; simp; omega) ?_; intro A4 c4 w4 ho4 hg4 hs4; have HR4 : Hid (w4.ownsRow W.heap.size 3 1 (.slice A4 (i + 1) c4) (i + 1) (wCells (List.range (i + 1)))) := (by rw [← wCells_range]; exact ho4); have HX4 := Lib.hid ((H3.out.below ((Below.refl _ _).alloc (Nat.le_refl _) _)).grew (HR3.out.alloc _) (Nat.le_refl _) hg4 hs4 HR4.out); clear ho4 hg4 hs4))
      go_roundg (gk - 1)
      case measure => omega
      case rel => exact ⟨i + 1, A4, c4, by omega, by omega, rfl, by go_num, HR4, HX4⟩
    · obtain rfl : i = n := by omega
      clear CA CN CP H2
      --LOOP2
      go_wp2_with fail
      go_loopg [6, 49] (m + 1) (fun gh s6 s49 wx => ∃ (j : Nat) (ws : List Nat) (n : Nat) (A : Option Addr) (c : Nat), j + gh = m + 1 ∧ j ≤ m ∧ s6 = .slice A n c ∧ s49 = .int .i64 (j : Nat) ∧ n ≤ 40 ∧ Hid (ws.length = n) ∧ Hid (wx.ownsRow W.heap.size 3 1 (.slice A n c) n (wCells ws)) ∧ Hid (BX W wx (blk1 A n c) g 100 (dPk ws)))
      case atStart => exact ⟨0, List.range i, i, A, c, by omega, by omega, rfl, rfl, by omega, List.length_range, HR.out, HX.out⟩
      case round =>
        clear hi hig hlt d1 d2 hn HR HX
        obtain ⟨j, ws, n, A, c, hjg, hj, rfl, rfl, hn, HWN, HR, HX⟩ := hrel
        by_cases hlt : j < m
        · obtain ⟨lb, lo, hla⟩ := HLI.out.below HX.out.1
          obtain ⟨e1, e2, e3⟩ := hla j (by rw [HM.out]; exact hlt)
          obtain ⟨x, hx⟩ : ∃ x, zs.getD j 0 = x := ⟨_, rfl⟩
          have hxb := HZB.out x (by rw [← hx, List.getD_eq_getElem?_getD, List.getElem?_eq_getElem (by rw [HM.out]; exact hlt)]; exact List.getElem_mem _)
          rw [hx] at e3
          subst e1
          have HXB := Lib.hid hxb
          clear hla hx hxb
          by_cases hx0 : x < 0
          · have t1 : decide ((0 : Int) ≤ x) = false := by simp; omega
            have cd := Lib.hid (HX.out.dropNot x (by omega))
            go_wp2_with (go_at_call 14; (with_reducible refine (cd.out).mono ?_); rintro e w5 ⟨rfl, h5, k5⟩; have HX5 := Lib.hid h5; have HR5 := Lib.hid (k5.row HR.out (by simp [blk1])); clear h5 k5)
            go_roundg (gk - 1)
            case measure => omega
            case rel => exact ⟨j + 1, ws, n, A, c, by omega, by omega, rfl, by go_num, hn, HWN, HR5, HX5⟩
          obtain ⟨p, rfl⟩ := Int.eq_ofNat_of_zero_le (show 0 ≤ x by omega)
          have t1 : decide ((0 : Int) ≤ (p : Int)) = true := by simp
          clear hx0
          by_cases hnp : n ≤ p
          · have t2 : decide (p < n) = false := by simp; omega
            have cd := Lib.hid (HX.out.dropNot (p : Int) (by rw [dPk_len, HWN.out]; omega))
            go_wp2_with (go_at_call 14; (with_reducible refine (cd.out).mono ?_); rintro e w5 ⟨rfl, h5, k5⟩; have HX5 := Lib.hid h5; have HR5 := Lib.hid (k5.row HR.out (by simp [blk1])); clear h5 k5)
            go_roundg (gk - 1)
            case measure => omega
            case rel => exact ⟨j + 1, ws, n, A, c, by omega, by omega, rfl, by go_num, hn, HWN, HR5, HX5⟩
          have hxn : p < n := by omega
          have t2 : decide (p < n) = true := by simp; omega
          obtain ⟨q, rfl⟩ := bg_at HR.out (by omega)
          have hnc : n ≤ c := by
            obtain ⟨_, _, z, _⟩ := own_raw HR.out
            exact z
          obtain ⟨y, hy⟩ : ∃ y, ws[p]? = some y := ⟨_, List.getElem?_eq_getElem (by rw [HWN.out]; exact hxn)⟩
          have hd := HX.out.drop p (dPk_at hy)
          rw [dPk_without] at hd
          have cd := Lib.hid hd
          clear hd hy
          go_upto_region 19 with (go_at_call 14; (with_reducible refine (cd.out).mono ?_); rintro e V ⟨rfl, h5, k5⟩; have HX5 := Lib.hid h5; have HRV := Lib.hid (k5.row HR.out (by simp [blk1])); clear h5 k5)
          have HVS : Hid (W.heap.size ≤ V.heap.size) := HX5.out.1.size
          clear HR HX cd e3
          have hpn : p + 1 ≤ n := by omega
          have hw1 : IntKind.i64.wrap ((p : Int) + 1) = (p : Int) + 1 := by rw [IntKind.wrap_i64]; omega
          have hpn' : (p : Int) + 1 ≤ (n : Int) := by omega
          have hw0 : (0 : Int) ≤ (p : Int) + 1 := by omega
          have hwn : ((p : Int) + 1).toNat = p + 1 := by omega
          by_cases hce : c = p + 1
          · subst hce
            have hpi : (p : Int) ≤ (p : Int) + 1 := by omega
            have HDR : Hid (ws.drop (p + 1) = []) := List.drop_of_length_le (by rw [HWN.out]; omega)
            go_region_law (first
              | (refine step_append_any rfl (.const (.slice none 0 0)) (.tmp 69) 47 rfl V.heap.size 3 i0 (.int .i64 0) 1 8 Try.underlying47 hi0 hz0 hs0 hb0 rfl (by decide) (.slice none 0 0) 0 [] rfl (World.ownsRow_nil _ _ _ _) (.slice (some ⟨q, 0, none⟩) p (p + 1)) p (wCells (ws.take p)) (by simp [Act.eval, Act.put]) (ints_take (W := V.drew) HRV.out HWN.out (by omega) _) (wCells_one _) (by unfold maxLen; omega) (by omega) (Nat.le_refl _) ?_; intro A3 c3 w3 ho3 hg3 hs3; simp only [Nat.zero_add, List.nil_append] at ho3; have hb3 : Below V.heap.size V w3 := ((Touch.refl [] V).drew.grown hg3 (fun k hk => by cases hk)).below (Nat.le_refl _) (by simp); have HB3 := Lib.hid hb3; have HO3 := Lib.hid ho3; have HS3 : Hid (∀ x, (Value.slice A3 p c3).ownBlock = some x → V.heap.size ≤ x) := own_lt ho3; clear ho3 hg3 hs3 hb3)
              | (refine step_append_any rfl (.tmp 70) (.tmp 74) 47 rfl V.heap.size 3 i0 (.int .i64 0) 1 8 Try.underlying47 hi0 hz0 hs0 hb0 rfl (by decide) (.slice A3 p c3) p (wCells (ws.take p)) (by simp [Act.eval]) HO3.out (.slice (some ⟨q, 0, none⟩) 0 0) 0 (wCells (ws.drop (p + 1))) (by simp [Act.eval]) (.inr ⟨_, _, rfl, by rw [HDR.out]; rfl, fun j u hj => by rw [HDR.out] at hj; simp [wCells] at hj⟩) (wCells_one _) (by unfold maxLen; omega) (by omega) HB3.out.size ?_; intro A4 c4 w4 ho4 hg4 hs4; simp only [Nat.add_zero] at ho4; have hb4 : Below V.heap.size V w4 := HB3.out.grown hg4 HB3.out.size (fun k hk => HS3.out k hk); have HB4 := Lib.hid hb4; have HO4 := Lib.hid ho4; clear ho4 hg4 hs4 hb4))
            all_goals
              go_wp2_with fail
              go_roundg (gk - 1)
              case measure => omega
              case rel => exact ⟨j + 1, eraseN ws p, p, A4, c4, by omega, by omega, rfl, by go_num, by omega, by show (eraseN ws p).length = _; rw [eraseN, List.length_append, List.length_take, List.length_drop, HWN.out]; omega, (by rw [eraseN, wCells_append]; exact own_mono_ HO4.out HVS.out), HX5.out.fresh HB4.out (fun x hx => HO4.out.lt x (by simpa [blk1] using hx))⟩
          · have hcp : ¬ c = p + 1 := hce
            have hpc : p ≤ c := by omega
            go_region_law (first
              | (refine step_append_any rfl (.const (.slice none 0 0)) (.tmp 69) 47 rfl V.heap.size 3 i0 (.int .i64 0) 1 8 Try.underlying47 hi0 hz0 hs0 hb0 rfl (by decide) (.slice none 0 0) 0 [] rfl (World.ownsRow_nil _ _ _ _) (.slice (some ⟨q, 0, none⟩) p c) p (wCells (ws.take p)) (by simp [Act.eval, Act.put]) (ints_take (W := V.drew) HRV.out HWN.out (by omega) _) (wCells_one _) (by unfold maxLen; omega) (by omega) (Nat.le_refl _) ?_; intro A3 c3 w3 ho3 hg3 hs3; simp only [Nat.zero_add, List.nil_append] at ho3; have hb3 : Below V.heap.size V w3 := ((Touch.refl [] V).drew.grown hg3 (fun k hk => by cases hk)).below (Nat.le_refl _) (by simp); have HB3 := Lib.hid hb3; have HO3 := Lib.hid ho3; have HS3 : Hid (∀ x, (Value.slice A3 p c3).ownBlock = some x → V.heap.size ≤ x) := own_lt ho3; clear ho3 hg3 hs3 hb3)
              | (refine step_append_any rfl (.tmp 70) (.tmp 74) 47 rfl V.heap.size 3 i0 (.int .i64 0) 1 8 Try.underlying47 hi0 hz0 hs0 hb0 rfl (by decide) (.slice A3 p c3) p (wCells (ws.take p)) (by simp [Act.eval]) HO3.out (.slice (some ⟨q, p + 1, none⟩) (n - (p + 1)) (c - (p + 1))) (n - (p + 1)) (wCells (ws.drop (p + 1))) (by simp [Act.eval]) (ints_drop (own_below_ HRV.out HB3.out) HWN.out _) (wCells_one _) (by unfold maxLen; omega) (by omega) HB3.out.size ?_; intro A4 c4 w4 ho4 hg4 hs4;  have hb4 : Below V.heap.size V w4 := HB3.out.grown hg4 HB3.out.size (fun k hk => HS3.out k hk); have HB4 := Lib.hid hb4; have HO4 := Lib.hid ho4; clear ho4 hg4 hs4 hb4))
            all_goals
              go_wp2_with fail
              go_roundg (gk - 1)
              case measure => omega
              case rel => exact ⟨j + 1, eraseN ws p, (p + (n - (p + 1))), A4, c4, by omega, by omega, rfl, by go_num, by omega, by show (eraseN ws p).length = _; rw [eraseN, List.length_append, List.length_take, List.length_drop, HWN.out]; omega, (by rw [eraseN, wCells_append]; exact own_mono_ HO4.out HVS.out), HX5.out.fresh HB4.out (fun x hx => HO4.out.lt x (by simpa [blk1] using hx))⟩
        · obtain rfl : j = m := by omega
          clear HLI HZB hi0 hz0 hs0 hb0
          go_wp2_with fail
          go_loopg [79] (n + 1) (fun gh s79 wx => ∃ k : Nat, k + gh = n + 1 ∧ k ≤ n ∧ s79 = .int .i64 (k : Nat) ∧ Hid (wx.ownsRow W.heap.size 3 1 (.slice A n c) n (wCells ws)) ∧ Hid (BX W wx (blk1 A n c) g 100 (dPk (ws.drop k))))
          case atStart => exact ⟨0, by omega, by omega, rfl, HR.out, by rw [List.drop_zero]; exact HX.out⟩
          case round =>
            clear HR HX hj hjg hlt
            obtain ⟨k, hkg, hk, rfl, HR, HX⟩ := hrel
            by_cases hlt : k < n
            · obtain ⟨q, rfl⟩ := bg_at HR.out (by omega)
              obtain ⟨y, hy⟩ : ∃ y, ws[k]? = some y := ⟨_, List.getElem?_eq_getElem (by rw [HWN.out]; exact hlt)⟩
              have hc := HR.out.cellAt k (by omega)
              rw [wCells, List.getElem?_map, hy] at hc
              have hc : wr.cell? ⟨q, k, none⟩ = some (.int .i64 (y : Nat)) := hc
              have hd := HX.out.take 0 (dPk_at (ws := ws.drop k) (k := 0) (x := y) (by rw [List.getElem?_drop, Nat.add_zero]; exact hy))
              rw [dPk_without, show eraseN (ws.drop k) 0 = ws.drop (k + 1) by rw [eraseN, List.take_zero, List.nil_append, List.drop_drop]] at hd
              have cd : Hid (Calls Try.prog 13 #[.pointer (some ⟨g, 0, none⟩), .int .i64 0] wr _) := hd
              have hsz : (Try.prog.info? 38).map (·.size) = some (Pk.mk 0 0 0 (y : Nat)).cells.size := bg_infoP
              have hone := (Pk.mk 0 0 0 (y : Nat)).one
              have hold : Pk.zero.cells.size = (Pk.mk 0 0 0 (y : Nat)).cells.size := rfl
              clear hd hy
              go_wp2_with (first
                | (go_at_call 13; (with_reducible refine (cd.out).mono ?_); rintro e w6 ⟨rfl, h6, k6⟩; have HX6 := Lib.hid (h6.below (bg_new w6 Pk.zero.cells (Pk.mk 0 0 0 (y : Nat)).cells 38)); have HR6 := Lib.hid (own_below_ (k6.row HR.out (by simp [blk1])) (bg_new w6 Pk.zero.cells (Pk.mk 0 0 0 (y : Nat)).cells 38)); have x6 : ((w6.alloc (.cells Pk.zero.cells 38)).setRow w6.heap.size (Pk.mk 0 0 0 (y : Nat)).cells).cell? ⟨w6.heap.size, 3, none⟩ = some (.int .i64 (y : Nat)) := bg_cell (bg_row _ (heap_alloc_new w6 _)) rfl; clear h6 k6)
                | (with_reducible (show wpList _ _ _ (⟨none, Op.store _ (Operand.tmp 13) _, _, _, _, _⟩ :: _) _ _); go_must (refine wpList_store_row rfl 38 (.tmp 13) (.tmp 86) rfl w6.heap.size (Pk.mk 0 0 0 (y : Nat)).cells rfl rfl 38 Pk.zero.cells (heap_alloc_new w6 _) hsz hold hone ?_)))
              go_roundg (gk - 1)
              case measure => omega
              case rel => exact ⟨k + 1, by omega, by omega, by go_num, HR6, HX6⟩
            · obtain rfl : k = n := by omega
              have cl : Hid (Calls Try.prog 11 #[.pointer (some ⟨g, 0, none⟩)] wr fun e w' => e = .returned (.int .i64 0) ∧ w' = wr) := HX.out.len (n := 0) (by rw [dPk_len, List.length_drop, HWN.out, Nat.sub_self])
              have HE := Lib.hid HX.out.1
              clear HX
              go_wp2_with (go_at_call 11; (with_reducible refine (cl.out).mono ?_); rintro e w7 ⟨rfl, hw7⟩)
              go_ret
              subst hw7
              exact ⟨rfl, HE.out⟩
theorem bagDrops_any (n : Int) (LA : Option Addr) (lc : Nat) (zs : List Int) (W : World) (n0 : -9223372036854775808 ≤ n) (n1 : n ≤ 9223372036854775807) (hm : zs.length ≤ 9223372036854775807) (hL : IntsAt W LA .i64 zs) (hzb : ∀ x ∈ zs, -9223372036854775808 ≤ x ∧ x ≤ 9223372036854775807) :
    Calls Try.prog 7 #[.int .i64 n, .slice LA zs.length lc] W fun e w' => e = .returned (.bool true) ∧ Below W.heap.size W w' := by
  by_cases bad : n < 0 ∨ 40 < n ∨ 60 < zs.length
  · have CA := Lib.hid aliveC
    obtain ⟨m, hm'⟩ : ∃ m, zs.length = m := ⟨_, rfl⟩
    rw [hm'] at bad hm ⊢
    clear hL hzb hm'
    by_cases c0 : n < 0
    · have d0 : decide (n < 0) = true := by simp; omega
      go_enter Try.func7, Try.ntmps7
      go_wp2_with (go_at_call 8; (with_reducible refine (CA.out _).mono ?_); rintro e w1 ⟨rfl, h1⟩)
      go_ret
      exact ⟨rfl, h1⟩
    have d0 : decide (n < 0) = false := by simp; omega
    by_cases c1 : 40 < n
    · have d1 : decide (40 < n) = true := by simp; omega
      go_enter Try.func7, Try.ntmps7
      go_wp2_with (go_at_call 8; (with_reducible refine (CA.out _).mono ?_); rintro e w1 ⟨rfl, h1⟩)
      go_ret
      exact ⟨rfl, h1⟩
    have d1 : decide (40 < n) = false := by simp; omega
    have d2 : decide (60 < (m : Int)) = true := by simp; omega
    go_enter Try.func7, Try.ntmps7
    go_wp2_with (go_at_call 8; (with_reducible refine (CA.out _).mono ?_); rintro e w1 ⟨rfl, h1⟩)
    go_ret
    exact ⟨rfl, h1⟩
  · obtain ⟨a, rfl⟩ := Int.eq_ofNat_of_zero_le (show 0 ≤ n by omega)
    exact bagDropsGo a LA lc zs W (by omega) (by omega) hL hzb
end Go.Proofs.Ytokgamagiffaeaa
