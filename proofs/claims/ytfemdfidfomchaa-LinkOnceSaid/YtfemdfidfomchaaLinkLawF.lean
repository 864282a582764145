/-
  LinkOnce, walked: over a network that loses, delays and doubles packets letters come once, in order; when it is fair again all come, and the link rests. (Written by tools/genLKOnce.py.)
-/
import Derived.Test.YtfemdfidfomchaaLinkLawE
namespace Go.Proofs.Ytfemdfidfomchaa
open Go.RowKit

/-- a packet with the q-th letter; an answer -/
abbrev uP (q : Nat) : PR := ⟨1, 2, (q : Nat), 0, LR.light 1 (q : Nat)⟩
abbrev dP (c : Nat) : PR := ⟨2, 1, 0, (c : Nat), LR.light 0 0⟩
theorem up_cells (q : Nat) : (uP q).cells = lpCells 1 2 (q : Nat) 0 1 (q : Nat) := rfl
theorem dp_cells (c : Nat) : (dP c).cells = lpCells 2 1 0 (c : Nat) 0 0 := rfl
/-- a packet of a row -/
theorem row_range {W w : World} {N c q0 qu i : Nat} {ps : List PR} {p : PR} (h : (⟨53, 25, .slice (some ⟨qu, q0, none⟩) N c, N, rowC PR.cells ps⟩ : RS).ok W w) (hp : ps[i]? = some p) (hi : i < N) : q0 = 0 ∧ w.rangeAt qu (i * 25) p.cells.toList := by
  have ho : w.ownsRow W.heap.size 53 25 (.slice (some ⟨qu, q0, none⟩) N c) N (rowC PR.cells ps) := h
  obtain ⟨z, hz⟩ := lk_at ho (by omega)
  injection hz with hz
  injection hz with z1 z2 z3
  subst z1 z2
  refine ⟨rfl, fun j v hj => ?_⟩
  have hj25 : j < 25 := (List.getElem?_eq_some_iff.1 hj).1
  have hlen := ho.1
  have h9 := ho.cellAt (i * 25 + j) (by omega)
  rw [h9, rowC_get pE_size _ i j p hp hj25, ← Array.getElem?_toList]
  exact hj
/-- a part of a row, as what is appended -/
theorem row_part {W w : World} {N c qu j k d : Nat} {ps : List PR} (h : (⟨53, 25, .slice (some ⟨qu, 0, none⟩) N c, N, rowC PR.cells ps⟩ : RS).ok W w) (hN : ps.length = N) (hj : j + k ≤ N) : From w 25 (.slice (some ⟨qu, j * 25, none⟩) k d) k (rowC PR.cells ((ps.drop j).take k)) := by
  have ho : w.ownsRow W.heap.size 53 25 (.slice (some ⟨qu, 0, none⟩) N c) N (rowC PR.cells ps) := h
  refine .inr ⟨_, _, rfl, ?_, fun i u hu => ?_⟩
  · rw [rowC_length pE_size, List.length_take, List.length_drop, hN]
    congr 1
    omega
  · rw [Go.WideShapes.add_plain, ← rowC_take pE_size, ← rowC_drop pE_size] at *
    have hik : i < k * 25 := by
      have := (List.getElem?_eq_some_iff.1 hu).1
      rw [List.length_take] at this
      omega
    rw [List.getElem?_take, if_pos hik, List.getElem?_drop] at hu
    have hlen := ho.1
    rw [ho.cellAt (j * 25 + i) (by omega)]
    exact hu
theorem fx_box2 {W w w1 : World} {R : List RS} {B : List Nat} {ga gb q : Nat} {sa sb : LS} {r : RS} {o : Obj} (h : FX W w (r :: R) B ga sa gb sb) (hq : q ∈ B) (hg : w.grownBy w1 r.v.ownBlock) (ho : w.heap[q]? = some o) : w1.heap[q]? = some o := by
  rw [hg.block q (bg_lt ho) (fun e => (h.b q hq).2 (mem_blks.2 ⟨r, by simp, e.symm⟩))]
  exact ho
theorem Bi.later {sa sb : LS} {pa pb : Int} {fa fb : Nat → LR} {n m ka kb ta tb ua ub ua' : Nat} (h : Bi sa sb pa pb fa fb n m ka kb ta tb ua ub) (hu : ua ≤ ua') : Bi sa sb pa pb fa fb n m ka kb ta tb ua' ub :=
  ⟨h.a1, h.a2, h.a3, h.a4, fun x hx => Nat.le_trans (h.a5 x hx) hu, h.b1, h.b2, h.b3, h.b4, h.b5, h.ab, h.ba⟩
theorem without_length2 {α : Type} {l : List α} {k n : Nat} (h : l.length = n) (hk : k < n) : (l.take k ++ l.drop (k + 1)).length = n - 1 := by
  rw [List.length_append, List.length_take, List.length_drop]; omega
theorem up_row_succ (us : List Nat) (p : Nat) : rowC PR.cells (us.map uP) ++ rowC PR.cells [uP p] = rowC PR.cells ((us ++ [p]).map uP) := by
  rw [← rowC_append, List.map_append]; rfl
theorem dp_row_succ (ds : List Nat) (p : Nat) : rowC PR.cells (ds.map dP) ++ rowC PR.cells [dP p] = rowC PR.cells ((ds ++ [p]).map dP) := by
  rw [← rowC_append, List.map_append]; rfl
theorem up_row_ticks (us : List Nat) (k N : Nat) : rowC PR.cells (us.map uP) ++ rowC PR.cells ((List.range N).map fun j => pk 1 2 1 (k + 1 + j) 0) = rowC PR.cells ((us ++ (List.range N).map fun j => k + 1 + j).map uP) := by
  rw [← rowC_append, List.map_append, List.map_map]; rfl
theorem cut_row (f : Nat → PR) (us : List Nat) (k : Nat) : rowC PR.cells ((us.take k).map f) ++ rowC PR.cells ((us.drop (k + 1)).map f) = rowC PR.cells ((us.take k ++ us.drop (k + 1)).map f) := by
  rw [← rowC_append, ← List.map_append]
theorem mem_cut {us : List Nat} {k x : Nat} (h : x ∈ us.take k ++ us.drop (k + 1)) : x ∈ us := by
  rcases List.mem_append.1 h with z | z
  · exact List.mem_of_mem_take z
  · exact List.mem_of_mem_drop z
theorem part_take {W w : World} {N c c' qu k : Nat} {f : Nat → PR} {us : List Nat} (h : (⟨53, 25, .slice (some ⟨qu, 0, none⟩) N c, N, rowC PR.cells (us.map f)⟩ : RS).ok W w) (hN : us.length = N) (hk : k ≤ N) : From w 25 (.slice (some ⟨qu, 0, none⟩) k c') k (rowC PR.cells ((us.take k).map f)) := by
  have := row_part (j := 0) (k := k) (d := c') h (by rw [List.length_map, hN]) (by omega)
  rw [Nat.zero_mul, List.drop_zero, ← List.map_take] at this
  exact this
theorem part_drop {W w : World} {N c d qu k : Nat} {f : Nat → PR} {us : List Nat} (h : (⟨53, 25, .slice (some ⟨qu, 0, none⟩) N c, N, rowC PR.cells (us.map f)⟩ : RS).ok W w) (hN : us.length = N) (hk : k < N) : From w 25 (.slice (some ⟨qu, (k + 1) * 25, none⟩) (N - (k + 1)) d) (N - (k + 1)) (rowC PR.cells ((us.drop (k + 1)).map f)) := by
  have := row_part (j := k + 1) (k := N - (k + 1)) (d := d) h (by rw [List.length_map, hN]) (by omega)
  rw [← List.map_drop, List.take_of_length_le (by rw [List.length_map, List.length_drop, hN]; omega)] at this
  exact this
theorem part_none {w : World} {N qu k : Nat} {f : Nat → PR} {us : List Nat} (hN : us.length = N) (hk : N = k + 1) : From w 25 (.slice (some ⟨qu, 0, none⟩) 0 0) 0 (rowC PR.cells ((us.drop (k + 1)).map f)) := by
  rw [List.drop_eq_nil_of_le (by omega)]
  exact .inr ⟨_, _, rfl, rfl, fun j u hj => by cases hj⟩
theorem lk_row_at {w : World} {q : Nat} {p : PR} {cs : Array Value} {ty : TypeId} (h : w.heap[q]? = some (.cells cs ty)) (hp : p.cells = cs := by rfl) : From w 25 (.slice (some ⟨q, 0, none⟩) 1 1) 1 (rowC PR.cells [p]) := by
  subst hp
  refine .inr ⟨_, _, rfl, by rw [rowC_one1]; rfl, fun j u hj => ?_⟩
  rw [rowC_one1, Array.getElem?_toList] at hj
  rw [Go.WideShapes.add_plain, Nat.zero_add]
  exact bg_cell h hj
/-- a row's capacity -/
theorem row_cap {W w : World} {e : TypeId} {z N c : Nat} {A : Option Addr} {xs : List Value} (h : (⟨e, z, .slice A N c, N, xs⟩ : RS).ok W w) : N ≤ c := by
  have ho : w.ownsRow W.heap.size e z (.slice A N c) N xs := h
  rcases ho.2 with ⟨h0, _⟩ | ⟨g, cap, cur, h0, hh⟩
  · injection h0 with _ h1 h2; omega
  · injection h0 with _ h1 h2
    have := hh.1
    omega
theorem part_any {W w : World} {N c qu k : Nat} {f : Nat → PR} {us : List Nat} (h : (⟨53, 25, .slice (some ⟨qu, 0, none⟩) N c, N, rowC PR.cells (us.map f)⟩ : RS).ok W w) (hN : us.length = N) (hk : k < N) : From w 25 (.slice (if c = k + 1 then some ⟨qu, 0, none⟩ else some ⟨qu, (k + 1) * 25, none⟩) (N - (k + 1)) (c - (k + 1))) (N - (k + 1)) (rowC PR.cells ((us.drop (k + 1)).map f)) := by
  have hc := row_cap h
  by_cases e : c = k + 1
  · rw [if_pos e, show N - (k + 1) = 0 by omega, show c - (k + 1) = 0 by omega]
    exact part_none hN (by omega)
  · rw [if_neg e]
    exact part_drop h hN hk
set_option maxRecDepth 20000 in
set_option maxHeartbeats 40000000 in
theorem linkOnceGo (n : Nat) (LA : Option Addr) (lc : Nat) (zs : List Int) (W : World) (hn : n ≤ 40) (hz : zs.length ≤ 200) (hL : IntsAt W LA .i64 zs) (hzb : ∀ x ∈ zs, -9223372036854775808 ≤ x ∧ x ≤ 9223372036854775807) :
    Calls Try.prog 4 #[.int .i64 (n : Nat), .slice LA zs.length lc] W fun e w' => e = .returned (.bool true) ∧ Below W.heap.size W w' := by
  have CA := Lib.hid aliveL
  have CN : Hid (∀ w, Below W.heap.size W w → Calls Try.prog 11 #[.int .i64 1, .int .i64 2] w fun e w' => e = .returned (.pointer (some ⟨w.heap.size, 0, none⟩)) ∧ LX W w' [] w.heap.size (LS.new 1 2) ∧ Below w.heap.size w w') := fun w h => LX.new h (by simp) 1 2
  have CN2 : Hid (∀ w g, LX W w [] g (LS.new 1 2) → Calls Try.prog 11 #[.int .i64 2, .int .i64 1] w fun e w' => e = .returned (.pointer (some ⟨w.heap.size, 0, none⟩)) ∧ TX W w' [] g (LS.new 1 2) w.heap.size (LS.new 2 1) ∧ Below w.heap.size w w') := fun w g h => h.new2 2 1
  obtain ⟨N, hN⟩ : ∃ N, zs.length = N := ⟨_, rfl⟩
  have d0 : decide ((n : Int) < 0) = false := by simp
  have d1 : decide (40 < (n : Int)) = false := by simp; omega
  have d4 : decide (200 < (N : Int)) = false := by simp; rw [hN] at hz; omega
  rw [hN] at hz ⊢
  have HL := Lib.hid hL
  have HZB := Lib.hid hzb
  have HN := Lib.hid hN
  have hz0 : ∀ j, j < N → zs.getD j 0 ∈ zs := fun j hj => by
    rw [← HN.out] at hj
    rw [List.getD_eq_getElem?_getD, List.getElem?_eq_getElem hj]
    exact List.getElem_mem hj
  have HZ0 := Lib.hid hz0
  clear hL hzb hN hz0
  go_enter Try.func4, Try.ntmps4
  go_wp2_with (first
    | (go_at_call 10; (with_reducible refine (CA.out _).mono ?_); rintro e w1 ⟨rfl, h1⟩; have H1 := Lib.hid h1; clear h1)
    | (go_at_call 11; (with_reducible refine (CN.out _ H1.out).mono ?_); rintro e w2 ⟨rfl, h2, _⟩; have H2 := Lib.hid h2; clear h2)
    | (go_at_call 11; (with_reducible refine (CN2.out _ _ H2.out).mono ?_); rintro e w3 ⟨rfl, h3, _⟩; have H3 := Lib.hid h3; clear h3))
  obtain ⟨ga, hga⟩ : ∃ g, w1.heap.size = g := ⟨_, rfl⟩
  obtain ⟨gb, hgb⟩ : ∃ g, w2.heap.size = g := ⟨_, rfl⟩
  rw [hga, hgb] at H3
  rw [hga, hgb]
  have HF3 : Hid (FX W w3 [⟨51, 21, .slice none 0 0, 0, rowC LR.cells ((List.range' 1 (0)).map (fk 1))⟩, ⟨53, 25, .slice none 0 0, 0, rowC PR.cells (([]).map uP)⟩, ⟨53, 25, .slice none 0 0, 0, rowC PR.cells (([]).map dP)⟩] [] ga (LS.new 1 2) gb (LS.new 2 1)) := (((FX.start H3.out).nil _ _).nil _ _).nil _ _
  clear hga hgb H1 H2 H3 CA CN CN2
  obtain ⟨iP, hiP, hzP, hsP, hbP⟩ := lk_infoP
  obtain ⟨iL, hiL, hzL, hsL, hbL⟩ := lk_infoLt
  --LOOP 1
  go_loopg [7, 8, 9, 10, 55] (N + 1) (fun gh s7 s8 s9 s10 s55 wx => ∃ (i σ cb ka kb t nU nD cU cD cG : Nat) (U D G : Option Addr) (us ds : List Nat) (sa sb : LS), i + gh = N + 1 ∧ i ≤ N ∧ cb ≤ 40 ∧ σ ≤ n ∧ t ≤ i ∧ nU ≤ 41 * i ∧ nD ≤ i ∧ s7 = .slice U nU cU ∧ s8 = .slice D nD cD ∧ s9 = .slice G cb cG ∧ s10 = .int .i64 (σ : Nat) ∧ s55 = .int .i64 (i : Nat) ∧ Hid (us.length = nU ∧ ds.length = nD) ∧ Hid ((∀ x ∈ us, 1 ≤ x ∧ x ≤ σ) ∧ ∀ x ∈ ds, x ≤ cb) ∧ Hid (sa.came = 0 ∧ sb.came = cb) ∧ Hid (FX W wx [⟨51, 21, .slice G cb cG, cb, rowC LR.cells ((List.range' 1 (cb)).map (fk 1))⟩, ⟨53, 25, .slice U nU cU, nU, rowC PR.cells ((us).map uP)⟩, ⟨53, 25, .slice D nD cD, nD, rowC PR.cells ((ds).map dP)⟩] [] ga sa gb sb) ∧ Hid (Bi sa sb 1 2 (fk 1) (fk 2) σ 0 ka kb t 0 t 0))
  case atStart => exact ⟨0, 0, 0, 0, 0, 0, 0, 0, 0, 0, 0, none, none, none, [], [], _, _, by omega, by omega, by omega, by omega, by omega, by omega, by omega, rfl, rfl, rfl, rfl, rfl, ⟨rfl, rfl⟩, ⟨by simp, by simp⟩, ⟨rfl, rfl⟩, HF3, Bi.new 1 2 (fk 1) (fk 2)⟩
  case round =>
    clear HF3
    obtain ⟨i, σ, cb, ka, kb, t, nU, nD, cU, cD, cG, U, D, G, us, ds, sa, sb, hig, hiN, hcb, hσn, ht, hnU, hnD, rfl, rfl, rfl, rfl, rfl, HLN, HUD, HC, HX, HB⟩ := hrel
    by_cases hlt1 : i < N
    · obtain ⟨x, hx⟩ : ∃ x, zs.getD i 0 = x := ⟨_, rfl⟩
      obtain ⟨lb, lo, hl⟩ := HL.out
      obtain ⟨rfl, hlb, hlc⟩ := hl i (by rw [HN.out]; exact hlt1)
      have xb := HZB.out _ (HZ0.out i hlt1)
      rw [hx] at hlc xb
      have xc := (HX.out.base.cell (p := ⟨lb, lo + i, none⟩) hlb).trans hlc
      have i1 : (i : Int) < (N : Int) := by omega
      clear hl hlc hlb hx
      obtain ⟨y, hy⟩ : ∃ y : Int, bits BinOp.and IntKind.i64 x 7 = y := ⟨_, rfl⟩
      by_cases c0 : y = 0
      · subst c0
        by_cases hs : σ < n
        · have s0 : decide ((σ : Int) < (n : Int)) = true := by simp; omega
          have hca := HC.out.1
          have cs : Calls Try.prog 13 #[.pointer (some ⟨ga, 0, none⟩), .agg (ltCells 1 ((σ + 1 : Nat) : Int))] wr fun e w' => e = .returned (.agg (lpCells 1 2 ((σ + 1 : Nat) : Int) 0 1 ((σ + 1 : Nat) : Int))) ∧ FX W w' [⟨53, 25, .slice U nU cU, nU, rowC PR.cells ((us).map uP)⟩, ⟨51, 21, .slice G cb cG, cb, rowC LR.cells ((List.range' 1 (cb)).map (fk 1))⟩, ⟨53, 25, .slice D nD cD, nD, rowC PR.cells ((ds).map dP)⟩] [] ga (sa.push (fk 1 (σ + 1))) gb sb ∧ Bi (sa.push (fk 1 (σ + 1))) sb 1 2 (fk 1) (fk 2) (σ + 1) 0 ka kb t 0 t 0 := (jx_send (HX.out.perm (List.Perm.swap _ _ _)) HB.out (by omega) (by omega) (by omega) rfl).mono fun e w' ⟨h1, h2⟩ => ⟨by rw [h1, hca]; rfl, h2⟩
          obtain ⟨p, hp⟩ : ∃ p, σ + 1 = p := ⟨_, rfl⟩
          have hp1 : p ≤ n := by omega
          have z0 : IntKind.i64.wrap ((σ : Int) + 1) = (p : Int) := by rw [IntKind.wrap_i64]; omega
          rw [hp] at cs
          have CS := Lib.hid cs
          have HP := Lib.hid hp
          clear cs hp HX HB hca
          go_wp2_with (first
            | (go_at_call 13; (with_reducible refine (CS.out).mono ?_); rintro e w4 ⟨rfl, h4, b4⟩; have H4 := Lib.hid h4; have B4 := Lib.hid b4; clear h4 b4)
            | (at_builtin; go_must (refine wpList_append_any rfl (.tmp 69) (.tmp 74) 28 rfl W.heap.size 53 iP (.agg (lpCells 0 0 0 0 0 0)) 25 272 Try.underlying28 hiP hzP hsP hbP rfl (by decide) (.slice U nU cU) nU (rowC PR.cells (us.map uP)) rfl ((fx_nil_sl H4.out).alloc _) (.slice (some ⟨w4.heap.size, 0, none⟩) 1 1) 1 (rowC PR.cells [uP p]) rfl (.inr ⟨⟨w4.heap.size, 0, none⟩, 1, rfl, rfl, lk_new_row w4 (uP p).cells _⟩) (rowC_all (enc := PR.cells) (l := [uP p]) (fun y hy => by simp at hy; subst hy; exact PR.one (light_sl _ _))) (by unfold maxLen; omega) (by omega) (by have := (H4.out).base.size; simp; omega) ?_); intro U5 c5 w5 ho5 hg5 hs5; have H5 := Lib.hid (fx_app H4.out hg5 ho5 hs5); clear ho5 hg5 hs5))
          go_roundg (gk - 1)
          case measure => omega
          case rel =>
            have hp := HP.out
            subst hp
            have h5 := H5.out
            rw [up_row_succ] at h5
            refine ⟨i + 1, σ + 1, cb, ka, kb, t, nU + 1, nD, c5, cD, cG, U5, D, G, us ++ [σ + 1], ds, sa.push (fk 1 (σ + 1)), sb, by omega, by omega, hcb, hp1, by omega, by omega, by omega, rfl, rfl, rfl, rfl, by go_num, ⟨by rw [List.length_append, HLN.out.1]; rfl, HLN.out.2⟩, ⟨fun x hx => ?_, HUD.out.2⟩, HC, h5.perm (List.Perm.swap _ _ _), B4⟩
            rcases List.mem_append.1 hx with z | z
            · have := HUD.out.1 x z; omega
            · simp at z; omega
        · have s0 : decide ((σ : Int) < (n : Int)) = false := by simp; omega
          go_wp2_with fail
          go_roundg (gk - 1)
          case measure => omega
          case rel =>
            exact ⟨i + 1, σ, cb, ka, kb, t, nU, nD, cU, cD, cG, U, D, G, us, ds, sa, sb, by omega, by omega, hcb, hσn, by omega, by omega, by omega, rfl, rfl, rfl, rfl, by go_num, HLN, HUD, HC, HX, HB⟩
      by_cases c1 : y = 1
      · subst c1
        by_cases hs : σ < n
        · have s0 : decide ((σ : Int) < (n : Int)) = true := by simp; omega
          have hca := HC.out.1
          have cs : Calls Try.prog 13 #[.pointer (some ⟨ga, 0, none⟩), .agg (ltCells 1 ((σ + 1 : Nat) : Int))] wr fun e w' => e = .returned (.agg (lpCells 1 2 ((σ + 1 : Nat) : Int) 0 1 ((σ + 1 : Nat) : Int))) ∧ FX W w' [⟨53, 25, .slice U nU cU, nU, rowC PR.cells ((us).map uP)⟩, ⟨51, 21, .slice G cb cG, cb, rowC LR.cells ((List.range' 1 (cb)).map (fk 1))⟩, ⟨53, 25, .slice D nD cD, nD, rowC PR.cells ((ds).map dP)⟩] [] ga (sa.push (fk 1 (σ + 1))) gb sb ∧ Bi (sa.push (fk 1 (σ + 1))) sb 1 2 (fk 1) (fk 2) (σ + 1) 0 ka kb t 0 t 0 := (jx_send (HX.out.perm (List.Perm.swap _ _ _)) HB.out (by omega) (by omega) (by omega) rfl).mono fun e w' ⟨h1, h2⟩ => ⟨by rw [h1, hca]; rfl, h2⟩
          obtain ⟨p, hp⟩ : ∃ p, σ + 1 = p := ⟨_, rfl⟩
          have hp1 : p ≤ n := by omega
          have z0 : IntKind.i64.wrap ((σ : Int) + 1) = (p : Int) := by rw [IntKind.wrap_i64]; omega
          rw [hp] at cs
          have CS := Lib.hid cs
          have HP := Lib.hid hp
          clear cs hp HX HB hca
          go_wp2_with (first
            | (go_at_call 13; (with_reducible refine (CS.out).mono ?_); rintro e w4 ⟨rfl, h4, b4⟩; have H4 := Lib.hid h4; have B4 := Lib.hid b4; clear h4 b4)
            | (at_builtin; go_must (refine wpList_append_any rfl (.tmp 69) (.tmp 74) 28 rfl W.heap.size 53 iP (.agg (lpCells 0 0 0 0 0 0)) 25 272 Try.underlying28 hiP hzP hsP hbP rfl (by decide) (.slice U nU cU) nU (rowC PR.cells (us.map uP)) rfl ((fx_nil_sl H4.out).alloc _) (.slice (some ⟨w4.heap.size, 0, none⟩) 1 1) 1 (rowC PR.cells [uP p]) rfl (.inr ⟨⟨w4.heap.size, 0, none⟩, 1, rfl, rfl, lk_new_row w4 (uP p).cells _⟩) (rowC_all (enc := PR.cells) (l := [uP p]) (fun y hy => by simp at hy; subst hy; exact PR.one (light_sl _ _))) (by unfold maxLen; omega) (by omega) (by have := (H4.out).base.size; simp; omega) ?_); intro U5 c5 w5 ho5 hg5 hs5; have H5 := Lib.hid (fx_app H4.out hg5 ho5 hs5); clear ho5 hg5 hs5))
          go_roundg (gk - 1)
          case measure => omega
          case rel =>
            have hp := HP.out
            subst hp
            have h5 := H5.out
            rw [up_row_succ] at h5
            refine ⟨i + 1, σ + 1, cb, ka, kb, t, nU + 1, nD, c5, cD, cG, U5, D, G, us ++ [σ + 1], ds, sa.push (fk 1 (σ + 1)), sb, by omega, by omega, hcb, hp1, by omega, by omega, by omega, rfl, rfl, rfl, rfl, by go_num, ⟨by rw [List.length_append, HLN.out.1]; rfl, HLN.out.2⟩, ⟨fun x hx => ?_, HUD.out.2⟩, HC, h5.perm (List.Perm.swap _ _ _), B4⟩
            rcases List.mem_append.1 hx with z | z
            · have := HUD.out.1 x z; omega
            · simp at z; omega
        · have s0 : decide ((σ : Int) < (n : Int)) = false := by simp; omega
          go_wp2_with fail
          go_roundg (gk - 1)
          case measure => omega
          case rel =>
            exact ⟨i + 1, σ, cb, ka, kb, t, nU, nD, cU, cD, cG, U, D, G, us, ds, sa, sb, by omega, by omega, hcb, hσn, by omega, by omega, by omega, rfl, rfl, rfl, rfl, by go_num, HLN, HUD, HC, HX, HB⟩
      by_cases c2 : y = 2
      · subst c2
        by_cases hu : 0 < nU
        · have n0 : decide ((0 : Int) < (nU : Int)) = true := by simp; omega
          obtain ⟨qu, hqu⟩ := lk_at (HX.out.r ⟨53, 25, .slice U nU cU, nU, rowC PR.cells ((us).map uP)⟩ (.tail _ (.head _))) hu
          subst hqu
          obtain ⟨k, hk, hidx⟩ := idx_ok (x / 8) nU hu (by omega)
          have iq : (k : Int) < (nU : Int) := by omega
          have hlu := HLN.out.1
          obtain ⟨q, hq⟩ : ∃ q, us[k]? = some q := ⟨us[k]'(by omega), List.getElem?_eq_getElem _⟩
          have hqq := HUD.out.1 q (List.mem_of_getElem? hq)
          have HRA := Lib.hid (show wr.rangeAt qu (k * 25) (lpCells 1 2 (q : Nat) 0 1 (q : Nat)).toList from (row_range (p := uP q) (HX.out.r ⟨53, 25, .slice (some ⟨qu, 0, none⟩) nU cU, nU, rowC PR.cells ((us).map uP)⟩ (.tail _ (.head _))) (by rw [List.getElem?_map, hq]; rfl) hk).2)
          have CG : Hid (∀ w R, FX W w R [wr.heap.size] ga sa gb sb → Calls Try.prog 17 #[.pointer (some ⟨gb, 0, none⟩), .agg (lpCells 1 2 (q : Nat) 0 1 (q : Nat))] w (JG W R [wr.heap.size] ga sa gb cb 1 2 1 2 σ 0 ka kb t 0 t 0 q)) := fun w R hx => jx_got2 (q := q) (a := 0) (cb := cb) hx HB.out (by omega) (by omega) (by omega) (by omega) (by omega) (by omega) (by omega) HC.out.2
          have hszP : (Try.prog.info? 53).map (·.size) = some (lpCells 1 2 (q : Nat) 0 1 (q : Nat)).toList.length := bg_infoP
          have b1 := lp_box wr 1 2 (q : Nat) 0 1 (q : Nat)
          have H1 : Hid (FX W _ [⟨51, 21, .slice G cb cG, cb, rowC LR.cells ((List.range' 1 (cb)).map (fk 1))⟩, ⟨53, 25, .slice (some ⟨qu, 0, none⟩) nU cU, nU, rowC PR.cells ((us).map uP)⟩, ⟨53, 25, .slice D nD cD, nD, rowC PR.cells ((ds).map dP)⟩] [wr.heap.size] ga sa gb sb) := HX.out.box b1.1 (Nat.le_refl _) (bg_lt b1.2)
          have P1 := Lib.hid b1.2
          clear hq hlu b1
          clear HX HB
          go_wp2_with (first
            | (refine wpList_load_mid rfl 53 (.tmp 96) rfl qu (k * 25) rfl (lpCells 1 2 (q : Nat) 0 1 (q : Nat)).toList _ HRA.out Try.underlying53 rfl hszP ?_)
            | (with_reducible (show wpList _ _ _ (⟨none, Op.store _ (Operand.tmp 14) _, _, _, _, _⟩ :: _) _ _); go_must (refine wpList_store_lp rfl (.tmp 14) (.tmp 97) rfl wr.heap.size 1 2 (q : Nat) 0 1 (q : Nat) rfl rfl (heap_alloc_new wr _) ?_))
            | (with_reducible (show wpList _ _ _ (⟨some 115, Op.load _ _, _, _, _, _⟩ :: _) _ _); go_must (refine wpList_load_lp rfl (.tmp 14) rfl wr.heap.size 1 2 (q : Nat) 0 1 (q : Nat) rfl P1.out ?_))
            | (go_at_call 17; (with_reducible refine (CG.out _ _ H1.out).mono ?_); rintro e w4 ⟨T4, c4, d4, cb4, sb4, kb4, rfl, hd4, hs4, hn4, hq4, hk4, h4, b4⟩; have p4 := (lp_box w4 2 1 0 (cb4 : Nat) 0 0).2; have H4 := Lib.hid ((h4.perm (List.Perm.swap _ _ _)).box (lp_box w4 2 1 0 (cb4 : Nat) 0 0).1 (Nat.le_refl _) (bg_lt p4)); have B4 := Lib.hid b4; have HD4 := Lib.hid (And.intro hd4 hs4); have hcb4 : cb + d4 ≤ 40 := (by omega); have hcb5 : cb4 ≤ 40 := (by omega); have HE4 := Lib.hid hd4; clear h4 b4 hd4 hs4 hn4 hq4 hk4)
            | (with_reducible (show wpList _ _ _ (⟨none, Op.store _ (Operand.tmp 16) _, _, _, _, _⟩ :: _) _ _); go_must (refine wpList_store_lp rfl (.tmp 16) (.tmp 118) rfl w4.heap.size 2 1 0 (cb4 : Nat) 0 0 rfl rfl (heap_alloc_new w4 _) ?_)))
          obtain ⟨w7, hw7⟩ : ∃ w7, ((w4.alloc (.cells (lpCells 0 0 0 0 0 0) 53)).setRow w4.heap.size (lpCells 2 1 0 (cb4 : Nat) 0 0)) = w7 := ⟨_, rfl⟩
          rw [hw7] at H4 p4 ⊢
          have H7 := H4
          have p7 := p4
          clear hw7 H4 p4 H1 P1 CG HRA
          refine wp_region_held_drew (S := fun _ => True) (by kernel_rfl) trivial (fun hHeld => ?_)
          refine wpAnyH_take (i := 0) (oi := ⟨_, _, _, _, _, _⟩) (v := ?_) rfl (by kernel_rfl) (by kernel_rfl) (by kernel_rfl) (fun _ _ _ h => h) (Or.inl ⟨by rfl, ?_⟩) (by assumption) ?_
          rotate_left
          · (intro wS hSw; (try dsimp only at hSw); go_simp <;> with_reducible rfl)
          try simp only [Act.put, List.setIfInBounds_toArray, List.set_cons_zero, List.set_cons_succ]
          refine wpAnyH_take (i := 1) (oi := ⟨_, _, _, _, _, _⟩) (v := ?_) rfl (by kernel_rfl) (by kernel_rfl) (by kernel_rfl) (fun _ _ _ h => h) (Or.inl ⟨by rfl, ?_⟩) (by assumption) ?_
          rotate_left
          · (intro wS hSw; (try dsimp only at hSw); go_simp <;> with_reducible rfl)
          try simp only [Act.put, List.setIfInBounds_toArray, List.set_cons_zero, List.set_cons_succ]
          refine wpAnyH_take (i := 3) (oi := ⟨_, _, _, _, _, _⟩) (v := ?_) rfl (by kernel_rfl) (by kernel_rfl) (by kernel_rfl) (fun _ _ _ h => h) (Or.inl ⟨by rfl, ?_⟩) (by assumption) ?_
          rotate_left
          · (intro wS hSw; (try dsimp only at hSw); go_simp <;> with_reducible rfl)
          try simp only [Act.put, List.setIfInBounds_toArray, List.set_cons_zero, List.set_cons_succ]
          refine wpAnyH_ready (rs := [2, 4]) (by kernel_rfl) (by simp) ?_
          refine AllReadyH.cons (o := ⟨_, _, _, _, _, _⟩) rfl (fun K hK => ?_) (AllReadyH.cons (o := ⟨_, _, _, _, _, _⟩) rfl (fun K hK => ?_) AllReadyH.nil)
          · refine step_append_any rfl (.tmp 122) (.tmp 123) 59 rfl W.heap.size 51 iL (.agg (ltCells 0 0)) 21 240 Try.underlying59 hiL hzL hsL hbL rfl (by decide) (.slice G cb cG) cb (rowC LR.cells ((List.range' 1 cb).map (fk 1))) rfl (fx_nil_sl (H7.out.below (Below.refl _ w7).drew)) (.slice T4 d4 c4) d4 (rowC LR.cells ((List.range' (cb + 1) d4).map (fk 1))) rfl (From.own (fx_snd (H7.out.below (Below.refl _ w7).drew))) (rowC_all (fun y hy => by obtain ⟨j, _, rfl⟩ := List.mem_map.1 hy; exact LR.one (light_sl _ _))) (by unfold maxLen; omega) (by omega) ((H7.out.below (Below.refl _ w7).drew)).base.size ?_
            intro A5 c5 w8 ho8 hg8 hs8
            have p8 := fx_box2 (H7.out.below (Below.refl _ w7).drew) (by simp) hg8 (show w7.drew.heap[w4.heap.size]? = some _ from p7)
            have H8 := Lib.hid ((H7.out.below (Below.refl _ w7).drew).grow (r' := ⟨51, 21, .slice A5 (cb + d4) c5, cb + d4, rowC LR.cells ((List.range' 1 cb).map (fk 1)) ++ rowC LR.cells ((List.range' (cb + 1) d4).map (fk 1))⟩) hg8 ho8 hs8)
            clear ho8 hg8 hs8
            refine hK.out _ _ trivial (fun hHeld => ?_)
            clear hK K
            try simp only [Act.put, List.setIfInBounds_toArray, List.set_cons_zero, List.set_cons_succ]
            refine wpAnyH_ready (rs := [4]) (by kernel_rfl) (by simp) ?_
            refine AllReadyH.cons (o := ⟨_, _, _, _, _, _⟩) rfl (fun K hK => ?_) AllReadyH.nil
            refine lk_step_load_row rfl 53 (.tmp 16) rfl w4.heap.size rfl 53 (lpCells 2 1 0 (cb4 : Nat) 0 0) (0, 0) _ p8 Try.underlying53 rfl bg_infoP ?_
            refine hK.out _ _ trivial (fun hHeld => ?_)
            clear hK K
            try simp only [Act.put, List.setIfInBounds_toArray, List.set_cons_zero, List.set_cons_succ]
            refine wpAnyH_ready (rs := [5]) (by kernel_rfl) (by simp) ?_
            refine AllReadyH.cons (o := ⟨_, _, _, _, _, _⟩) rfl (fun K hK => ?_) AllReadyH.nil
            go_simp
            refine hK.out _ _ trivial (fun hHeld => ?_)
            clear hK K
            try simp only [Act.put, List.setIfInBounds_toArray, List.set_cons_zero, List.set_cons_succ]
            have H9 : Hid (FX W w8 [⟨53, 25, .slice D nD cD, nD, rowC PR.cells ((ds).map dP)⟩, ⟨51, 21, .slice A5 (cb + d4) c5, cb + d4, rowC LR.cells ((List.range' 1 (cb + d4)).map (fk 1))⟩, ⟨53, 25, .slice (some ⟨qu, 0, none⟩) nU cU, nU, rowC PR.cells ((us).map uP)⟩] [w4.heap.size, wr.heap.size] ga sa gb sb4) := by
              have h8 := H8.out
              rw [fk_row_app] at h8
              exact (h8.sub (R' := [⟨51, 21, .slice A5 (cb + d4) c5, cb + d4, rowC LR.cells ((List.range' 1 (cb + d4)).map (fk 1))⟩, ⟨53, 25, .slice (some ⟨qu, 0, none⟩) nU cU, nU, rowC PR.cells ((us).map uP)⟩, ⟨53, 25, .slice D nD cD, nD, rowC PR.cells ((ds).map dP)⟩]) (((List.Sublist.refl _).cons _).cons_cons _) (fun _ hq => hq)).perm ((List.Perm.cons _ (List.Perm.swap _ _ _)).trans (List.Perm.swap _ _ _))
            refine wpAnyH_ready (rs := [6]) (by kernel_rfl) (by simp) ?_
            refine AllReadyH.cons (o := ⟨_, _, _, _, _, _⟩) rfl (fun K hK => ?_) AllReadyH.nil
            refine step_append_any rfl (.tmp 125) (.tmp 127) 28 rfl W.heap.size 53 iP (.agg (lpCells 0 0 0 0 0 0)) 25 272 Try.underlying28 hiP hzP hsP hbP rfl (by decide) (.slice D nD cD) nD (rowC PR.cells (ds.map dP)) rfl (fx_nil_sl (H9.out.below ((Below.refl _ w8).alloc (Nat.le_refl _) (.cells (lpCells 2 1 0 (cb4 : Nat) 0 0) 53)))) (.slice (some ⟨w8.heap.size, 0, none⟩) 1 1) 1 (rowC PR.cells [dP cb4]) rfl (lk_row_at (p := dP cb4) (heap_alloc_new w8 _)) (rowC_all (enc := PR.cells) (l := [dP cb4]) (fun y hy => by simp at hy; subst hy; exact PR.one (light_sl _ _))) (by unfold maxLen; omega) (by omega) ((H9.out.below ((Below.refl _ w8).alloc (Nat.le_refl _) (.cells (lpCells 2 1 0 (cb4 : Nat) 0 0) 53)))).base.size ?_
            intro D6 c6 w10 ho10 hg10 hs10
            have H10 := Lib.hid (((H9.out.below ((Below.refl _ w8).alloc (Nat.le_refl _) (.cells (lpCells 2 1 0 (cb4 : Nat) 0 0) 53)))).grow (r' := ⟨53, 25, .slice D6 (nD + 1) c6, nD + 1, rowC PR.cells (ds.map dP) ++ rowC PR.cells [dP cb4]⟩) hg10 ho10 hs10)
            clear ho10 hg10 hs10
            refine hK.out _ _ trivial (fun hHeld => ?_)
            clear hK K
            try simp only [Act.put, List.setIfInBounds_toArray, List.set_cons_zero, List.set_cons_succ]
            refine wpAnyH_take (i := 7) (oi := ⟨_, _, _, _, _, _⟩) (v := ?_) rfl (by kernel_rfl) (by kernel_rfl) (by kernel_rfl) (fun _ _ _ h => h) (Or.inl ⟨by rfl, ?_⟩) (by assumption) ?_
            rotate_left
            · (intro wS hSw; (try dsimp only at hSw); go_simp <;> with_reducible rfl)
            try simp only [Act.put, List.setIfInBounds_toArray, List.set_cons_zero, List.set_cons_succ]
            refine wpAnyH_take (i := 8) (oi := ⟨_, _, _, _, _, _⟩) (v := ?_) rfl (by kernel_rfl) (by kernel_rfl) (by kernel_rfl) (fun _ _ _ h => h) (Or.inl ⟨by rfl, ?_⟩) (by assumption) ?_
            rotate_left
            · (intro wS hSw; (try dsimp only at hSw); go_simp <;> with_reducible rfl)
            try simp only [Act.put, List.setIfInBounds_toArray, List.set_cons_zero, List.set_cons_succ]
            refine wpAnyH_done (by kernel_rfl) ?_ _
            go_wp2_with fail
            go_roundg (gk - 1)
            case measure => omega
            case rel =>
              have h10 := H10.out
              rw [dp_row_succ] at h10
              refine ⟨i + 1, σ, cb + d4, ka, kb4, t, nU, nD + 1, cU, c6, c5, (some ⟨qu, 0, none⟩), D6, A5, us, ds ++ [cb4], sa, sb4, by omega, by omega, hcb4, hσn, by omega, by omega, by omega, rfl, rfl, rfl, rfl, by go_num, ⟨HLN.out.1, by rw [List.length_append, HLN.out.2]; rfl⟩, ⟨HUD.out.1, fun x hx => ?_⟩, ⟨HC.out.1, by rw [HD4.out.2]; exact HE4.out.symm⟩, (h10.sub (B' := []) (List.Sublist.refl _) (by simp)).perm ((List.Perm.swap _ _ _).trans (List.Perm.cons _ (List.Perm.swap _ _ _))), B4⟩
              have he := HE4.out
              rcases List.mem_append.1 hx with z | z
              · have := HUD.out.2 x z; omega
              · simp at z; omega
          · refine lk_step_load_row rfl 53 (.tmp 16) rfl w4.heap.size rfl 53 (lpCells 2 1 0 (cb4 : Nat) 0 0) (0, 0) _ (show w7.drew.heap[w4.heap.size]? = some _ from p7) Try.underlying53 rfl bg_infoP ?_
            refine hK.out _ _ trivial (fun hHeld => ?_)
            clear hK K
            try simp only [Act.put, List.setIfInBounds_toArray, List.set_cons_zero, List.set_cons_succ]
            refine wpAnyH_ready (rs := [2, 5]) (by kernel_rfl) (by simp) ?_
            refine AllReadyH.cons (o := ⟨_, _, _, _, _, _⟩) rfl (fun K hK => ?_) (AllReadyH.cons (o := ⟨_, _, _, _, _, _⟩) rfl (fun K hK => ?_) AllReadyH.nil)
            · refine step_append_any rfl (.tmp 122) (.tmp 123) 59 rfl W.heap.size 51 iL (.agg (ltCells 0 0)) 21 240 Try.underlying59 hiL hzL hsL hbL rfl (by decide) (.slice G cb cG) cb (rowC LR.cells ((List.range' 1 cb).map (fk 1))) rfl (fx_nil_sl (H7.out.below (Below.refl _ w7).drew)) (.slice T4 d4 c4) d4 (rowC LR.cells ((List.range' (cb + 1) d4).map (fk 1))) rfl (From.own (fx_snd (H7.out.below (Below.refl _ w7).drew))) (rowC_all (fun y hy => by obtain ⟨j, _, rfl⟩ := List.mem_map.1 hy; exact LR.one (light_sl _ _))) (by unfold maxLen; omega) (by omega) ((H7.out.below (Below.refl _ w7).drew)).base.size ?_
              intro A5 c5 w8 ho8 hg8 hs8
              have p8 := fx_box2 (H7.out.below (Below.refl _ w7).drew) (by simp) hg8 (show w7.drew.heap[w4.heap.size]? = some _ from p7)
              have H8 := Lib.hid ((H7.out.below (Below.refl _ w7).drew).grow (r' := ⟨51, 21, .slice A5 (cb + d4) c5, cb + d4, rowC LR.cells ((List.range' 1 cb).map (fk 1)) ++ rowC LR.cells ((List.range' (cb + 1) d4).map (fk 1))⟩) hg8 ho8 hs8)
              clear ho8 hg8 hs8
              refine hK.out _ _ trivial (fun hHeld => ?_)
              clear hK K
              try simp only [Act.put, List.setIfInBounds_toArray, List.set_cons_zero, List.set_cons_succ]
              refine wpAnyH_ready (rs := [5]) (by kernel_rfl) (by simp) ?_
              refine AllReadyH.cons (o := ⟨_, _, _, _, _, _⟩) rfl (fun K hK => ?_) AllReadyH.nil
              go_simp
              refine hK.out _ _ trivial (fun hHeld => ?_)
              clear hK K
              try simp only [Act.put, List.setIfInBounds_toArray, List.set_cons_zero, List.set_cons_succ]
              have H9 : Hid (FX W w8 [⟨53, 25, .slice D nD cD, nD, rowC PR.cells ((ds).map dP)⟩, ⟨51, 21, .slice A5 (cb + d4) c5, cb + d4, rowC LR.cells ((List.range' 1 (cb + d4)).map (fk 1))⟩, ⟨53, 25, .slice (some ⟨qu, 0, none⟩) nU cU, nU, rowC PR.cells ((us).map uP)⟩] [w4.heap.size, wr.heap.size] ga sa gb sb4) := by
                have h8 := H8.out
                rw [fk_row_app] at h8
                exact (h8.sub (R' := [⟨51, 21, .slice A5 (cb + d4) c5, cb + d4, rowC LR.cells ((List.range' 1 (cb + d4)).map (fk 1))⟩, ⟨53, 25, .slice (some ⟨qu, 0, none⟩) nU cU, nU, rowC PR.cells ((us).map uP)⟩, ⟨53, 25, .slice D nD cD, nD, rowC PR.cells ((ds).map dP)⟩]) (((List.Sublist.refl _).cons _).cons_cons _) (fun _ hq => hq)).perm ((List.Perm.cons _ (List.Perm.swap _ _ _)).trans (List.Perm.swap _ _ _))
              refine wpAnyH_ready (rs := [6]) (by kernel_rfl) (by simp) ?_
              refine AllReadyH.cons (o := ⟨_, _, _, _, _, _⟩) rfl (fun K hK => ?_) AllReadyH.nil
              refine step_append_any rfl (.tmp 125) (.tmp 127) 28 rfl W.heap.size 53 iP (.agg (lpCells 0 0 0 0 0 0)) 25 272 Try.underlying28 hiP hzP hsP hbP rfl (by decide) (.slice D nD cD) nD (rowC PR.cells (ds.map dP)) rfl (fx_nil_sl (H9.out.below ((Below.refl _ w8).alloc (Nat.le_refl _) (.cells (lpCells 2 1 0 (cb4 : Nat) 0 0) 53)))) (.slice (some ⟨w8.heap.size, 0, none⟩) 1 1) 1 (rowC PR.cells [dP cb4]) rfl (lk_row_at (p := dP cb4) (heap_alloc_new w8 _)) (rowC_all (enc := PR.cells) (l := [dP cb4]) (fun y hy => by simp at hy; subst hy; exact PR.one (light_sl _ _))) (by unfold maxLen; omega) (by omega) ((H9.out.below ((Below.refl _ w8).alloc (Nat.le_refl _) (.cells (lpCells 2 1 0 (cb4 : Nat) 0 0) 53)))).base.size ?_
              intro D6 c6 w10 ho10 hg10 hs10
              have H10 := Lib.hid (((H9.out.below ((Below.refl _ w8).alloc (Nat.le_refl _) (.cells (lpCells 2 1 0 (cb4 : Nat) 0 0) 53)))).grow (r' := ⟨53, 25, .slice D6 (nD + 1) c6, nD + 1, rowC PR.cells (ds.map dP) ++ rowC PR.cells [dP cb4]⟩) hg10 ho10 hs10)
              clear ho10 hg10 hs10
              refine hK.out _ _ trivial (fun hHeld => ?_)
              clear hK K
              try simp only [Act.put, List.setIfInBounds_toArray, List.set_cons_zero, List.set_cons_succ]
              refine wpAnyH_take (i := 7) (oi := ⟨_, _, _, _, _, _⟩) (v := ?_) rfl (by kernel_rfl) (by kernel_rfl) (by kernel_rfl) (fun _ _ _ h => h) (Or.inl ⟨by rfl, ?_⟩) (by assumption) ?_
              rotate_left
              · (intro wS hSw; (try dsimp only at hSw); go_simp <;> with_reducible rfl)
              try simp only [Act.put, List.setIfInBounds_toArray, List.set_cons_zero, List.set_cons_succ]
              refine wpAnyH_take (i := 8) (oi := ⟨_, _, _, _, _, _⟩) (v := ?_) rfl (by kernel_rfl) (by kernel_rfl) (by kernel_rfl) (fun _ _ _ h => h) (Or.inl ⟨by rfl, ?_⟩) (by assumption) ?_
              rotate_left
              · (intro wS hSw; (try dsimp only at hSw); go_simp <;> with_reducible rfl)
              try simp only [Act.put, List.setIfInBounds_toArray, List.set_cons_zero, List.set_cons_succ]
              refine wpAnyH_done (by kernel_rfl) ?_ _
              go_wp2_with fail
              go_roundg (gk - 1)
              case measure => omega
              case rel =>
                have h10 := H10.out
                rw [dp_row_succ] at h10
                refine ⟨i + 1, σ, cb + d4, ka, kb4, t, nU, nD + 1, cU, c6, c5, (some ⟨qu, 0, none⟩), D6, A5, us, ds ++ [cb4], sa, sb4, by omega, by omega, hcb4, hσn, by omega, by omega, by omega, rfl, rfl, rfl, rfl, by go_num, ⟨HLN.out.1, by rw [List.length_append, HLN.out.2]; rfl⟩, ⟨HUD.out.1, fun x hx => ?_⟩, ⟨HC.out.1, by rw [HD4.out.2]; exact HE4.out.symm⟩, (h10.sub (B' := []) (List.Sublist.refl _) (by simp)).perm ((List.Perm.swap _ _ _).trans (List.Perm.cons _ (List.Perm.swap _ _ _))), B4⟩
                have he := HE4.out
                rcases List.mem_append.1 hx with z | z
                · have := HUD.out.2 x z; omega
                · simp at z; omega
            · go_simp
              have e7 := heap_alloc_new w7.drew (.cells (lpCells 2 1 0 (cb4 : Nat) 0 0) 53)
              have H7b := Lib.hid ((H7.out.below (Below.refl _ w7).drew).box ((Below.refl _ w7.drew).alloc (Nat.le_refl _) (.cells (lpCells 2 1 0 (cb4 : Nat) 0 0) 53)) (Nat.le_refl _) (bg_lt e7))
              refine hK.out _ _ trivial (fun hHeld => ?_)
              clear hK K
              try simp only [Act.put, List.setIfInBounds_toArray, List.set_cons_zero, List.set_cons_succ]
              refine wpAnyH_ready (rs := [2]) (by kernel_rfl) (by simp) ?_
              refine AllReadyH.cons (o := ⟨_, _, _, _, _, _⟩) rfl (fun K hK => ?_) AllReadyH.nil
              refine step_append_any rfl (.tmp 122) (.tmp 123) 59 rfl W.heap.size 51 iL (.agg (ltCells 0 0)) 21 240 Try.underlying59 hiL hzL hsL hbL rfl (by decide) (.slice G cb cG) cb (rowC LR.cells ((List.range' 1 cb).map (fk 1))) rfl (fx_nil_sl (H7b.out)) (.slice T4 d4 c4) d4 (rowC LR.cells ((List.range' (cb + 1) d4).map (fk 1))) rfl (From.own (fx_snd (H7b.out))) (rowC_all (fun y hy => by obtain ⟨j, _, rfl⟩ := List.mem_map.1 hy; exact LR.one (light_sl _ _))) (by unfold maxLen; omega) (by omega) ((H7b.out)).base.size ?_
              intro A5 c5 w8 ho8 hg8 hs8
              have p8 := fx_box2 (H7b.out) (by simp) hg8 e7
              have H8 := Lib.hid ((H7b.out).grow (r' := ⟨51, 21, .slice A5 (cb + d4) c5, cb + d4, rowC LR.cells ((List.range' 1 cb).map (fk 1)) ++ rowC LR.cells ((List.range' (cb + 1) d4).map (fk 1))⟩) hg8 ho8 hs8)
              clear ho8 hg8 hs8
              refine hK.out _ _ trivial (fun hHeld => ?_)
              clear hK K
              try simp only [Act.put, List.setIfInBounds_toArray, List.set_cons_zero, List.set_cons_succ]
              have H9 : Hid (FX W w8 [⟨53, 25, .slice D nD cD, nD, rowC PR.cells ((ds).map dP)⟩, ⟨51, 21, .slice A5 (cb + d4) c5, cb + d4, rowC LR.cells ((List.range' 1 (cb + d4)).map (fk 1))⟩, ⟨53, 25, .slice (some ⟨qu, 0, none⟩) nU cU, nU, rowC PR.cells ((us).map uP)⟩] [w7.drew.heap.size, w4.heap.size, wr.heap.size] ga sa gb sb4) := by
                have h8 := H8.out
                rw [fk_row_app] at h8
                exact (h8.sub (R' := [⟨51, 21, .slice A5 (cb + d4) c5, cb + d4, rowC LR.cells ((List.range' 1 (cb + d4)).map (fk 1))⟩, ⟨53, 25, .slice (some ⟨qu, 0, none⟩) nU cU, nU, rowC PR.cells ((us).map uP)⟩, ⟨53, 25, .slice D nD cD, nD, rowC PR.cells ((ds).map dP)⟩]) (((List.Sublist.refl _).cons _).cons_cons _) (fun _ hq => hq)).perm ((List.Perm.cons _ (List.Perm.swap _ _ _)).trans (List.Perm.swap _ _ _))
              refine wpAnyH_ready (rs := [6]) (by kernel_rfl) (by simp) ?_
              refine AllReadyH.cons (o := ⟨_, _, _, _, _, _⟩) rfl (fun K hK => ?_) AllReadyH.nil
              refine step_append_any rfl (.tmp 125) (.tmp 127) 28 rfl W.heap.size 53 iP (.agg (lpCells 0 0 0 0 0 0)) 25 272 Try.underlying28 hiP hzP hsP hbP rfl (by decide) (.slice D nD cD) nD (rowC PR.cells (ds.map dP)) rfl (fx_nil_sl (H9.out)) (.slice (some ⟨w7.drew.heap.size, 0, none⟩) 1 1) 1 (rowC PR.cells [dP cb4]) rfl (lk_row_at (p := dP cb4) p8) (rowC_all (enc := PR.cells) (l := [dP cb4]) (fun y hy => by simp at hy; subst hy; exact PR.one (light_sl _ _))) (by unfold maxLen; omega) (by omega) ((H9.out)).base.size ?_
              intro D6 c6 w10 ho10 hg10 hs10
              have H10 := Lib.hid (((H9.out)).grow (r' := ⟨53, 25, .slice D6 (nD + 1) c6, nD + 1, rowC PR.cells (ds.map dP) ++ rowC PR.cells [dP cb4]⟩) hg10 ho10 hs10)
              clear ho10 hg10 hs10
              refine hK.out _ _ trivial (fun hHeld => ?_)
              clear hK K
              try simp only [Act.put, List.setIfInBounds_toArray, List.set_cons_zero, List.set_cons_succ]
              refine wpAnyH_take (i := 7) (oi := ⟨_, _, _, _, _, _⟩) (v := ?_) rfl (by kernel_rfl) (by kernel_rfl) (by kernel_rfl) (fun _ _ _ h => h) (Or.inl ⟨by rfl, ?_⟩) (by assumption) ?_
              rotate_left
              · (intro wS hSw; (try dsimp only at hSw); go_simp <;> with_reducible rfl)
              try simp only [Act.put, List.setIfInBounds_toArray, List.set_cons_zero, List.set_cons_succ]
              refine wpAnyH_take (i := 8) (oi := ⟨_, _, _, _, _, _⟩) (v := ?_) rfl (by kernel_rfl) (by kernel_rfl) (by kernel_rfl) (fun _ _ _ h => h) (Or.inl ⟨by rfl, ?_⟩) (by assumption) ?_
              rotate_left
              · (intro wS hSw; (try dsimp only at hSw); go_simp <;> with_reducible rfl)
              try simp only [Act.put, List.setIfInBounds_toArray, List.set_cons_zero, List.set_cons_succ]
              refine wpAnyH_done (by kernel_rfl) ?_ _
              go_wp2_with fail
              go_roundg (gk - 1)
              case measure => omega
              case rel =>
                have h10 := H10.out
                rw [dp_row_succ] at h10
                refine ⟨i + 1, σ, cb + d4, ka, kb4, t, nU, nD + 1, cU, c6, c5, (some ⟨qu, 0, none⟩), D6, A5, us, ds ++ [cb4], sa, sb4, by omega, by omega, hcb4, hσn, by omega, by omega, by omega, rfl, rfl, rfl, rfl, by go_num, ⟨HLN.out.1, by rw [List.length_append, HLN.out.2]; rfl⟩, ⟨HUD.out.1, fun x hx => ?_⟩, ⟨HC.out.1, by rw [HD4.out.2]; exact HE4.out.symm⟩, (h10.sub (B' := []) (List.Sublist.refl _) (by simp)).perm ((List.Perm.swap _ _ _).trans (List.Perm.cons _ (List.Perm.swap _ _ _))), B4⟩
                have he := HE4.out
                rcases List.mem_append.1 hx with z | z
                · have := HUD.out.2 x z; omega
                · simp at z; omega
        · obtain rfl : nU = 0 := by omega
          go_wp2_with fail
          go_roundg (gk - 1)
          case measure => omega
          case rel =>
            exact ⟨i + 1, σ, cb, ka, kb, t, 0, nD, cU, cD, cG, U, D, G, us, ds, sa, sb, by omega, by omega, hcb, hσn, by omega, by omega, by omega, rfl, rfl, rfl, rfl, by go_num, HLN, HUD, HC, HX, HB⟩
      by_cases c3 : y = 3
      · subst c3
        by_cases hu : 0 < nU
        · have n0 : decide ((0 : Int) < (nU : Int)) = true := by simp; omega
          obtain ⟨qu, hqu⟩ := lk_at (HX.out.r ⟨53, 25, .slice U nU cU, nU, rowC PR.cells ((us).map uP)⟩ (.tail _ (.head _))) hu
          subst hqu
          obtain ⟨k, hk, hidx⟩ := idx_ok (x / 8) nU hu (by omega)
          have iq : (k : Int) < (nU : Int) := by omega
          have hlu := HLN.out.1
          obtain ⟨q, hq⟩ : ∃ q, us[k]? = some q := ⟨us[k]'(by omega), List.getElem?_eq_getElem _⟩
          have hqq := HUD.out.1 q (List.mem_of_getElem? hq)
          have HRA := Lib.hid (show wr.rangeAt qu (k * 25) (lpCells 1 2 (q : Nat) 0 1 (q : Nat)).toList from (row_range (p := uP q) (HX.out.r ⟨53, 25, .slice (some ⟨qu, 0, none⟩) nU cU, nU, rowC PR.cells ((us).map uP)⟩ (.tail _ (.head _))) (by rw [List.getElem?_map, hq]; rfl) hk).2)
          have CG : Hid (∀ w R, FX W w R [wr.heap.size] ga sa gb sb → Calls Try.prog 17 #[.pointer (some ⟨gb, 0, none⟩), .agg (lpCells 1 2 (q : Nat) 0 1 (q : Nat))] w (JG W R [wr.heap.size] ga sa gb cb 1 2 1 2 σ 0 ka kb t 0 t 0 q)) := fun w R hx => jx_got2 (q := q) (a := 0) (cb := cb) hx HB.out (by omega) (by omega) (by omega) (by omega) (by omega) (by omega) (by omega) HC.out.2
          have hszP : (Try.prog.info? 53).map (·.size) = some (lpCells 1 2 (q : Nat) 0 1 (q : Nat)).toList.length := bg_infoP
          have b1 := lp_box wr 1 2 (q : Nat) 0 1 (q : Nat)
          have H1 : Hid (FX W _ [⟨51, 21, .slice G cb cG, cb, rowC LR.cells ((List.range' 1 (cb)).map (fk 1))⟩, ⟨53, 25, .slice (some ⟨qu, 0, none⟩) nU cU, nU, rowC PR.cells ((us).map uP)⟩, ⟨53, 25, .slice D nD cD, nD, rowC PR.cells ((ds).map dP)⟩] [wr.heap.size] ga sa gb sb) := HX.out.box b1.1 (Nat.le_refl _) (bg_lt b1.2)
          have P1 := Lib.hid b1.2
          clear hq hlu b1
          have hcap : nU ≤ cU := row_cap (HX.out.r ⟨53, 25, .slice (some ⟨qu, 0, none⟩) nU cU, nU, rowC PR.cells ((us).map uP)⟩ (.tail _ (.head _)))
          have i1 : (k : Int) ≤ (nU : Int) := by omega
          have i2 : k ≤ cU := by omega
          have i3 : (k : Int) + 1 ≤ (nU : Int) := by omega
          have i4 : k + 1 ≤ cU := by omega
          have i5 : 0 ≤ (k : Int) + 1 := by omega
          have z1 : IntKind.i64.wrap ((k : Int) + 1) = (k : Int) + 1 := by rw [IntKind.wrap_i64]; omega
          go_wp2_with (first
            | (refine wpList_load_mid rfl 53 (.tmp 96) rfl qu (k * 25) rfl (lpCells 1 2 (q : Nat) 0 1 (q : Nat)).toList _ HRA.out Try.underlying53 rfl hszP ?_)
            | (with_reducible (show wpList _ _ _ (⟨none, Op.store _ (Operand.tmp 14) _, _, _, _, _⟩ :: _) _ _); go_must (refine wpList_store_lp rfl (.tmp 14) (.tmp 97) rfl wr.heap.size 1 2 (q : Nat) 0 1 (q : Nat) rfl rfl (heap_alloc_new wr _) ?_)))
          obtain ⟨wq, hwq⟩ : ∃ wq, ((wr.alloc (.cells (lpCells 0 0 0 0 0 0) 53)).setRow wr.heap.size (lpCells 1 2 (q : Nat) 0 1 (q : Nat))) = wq := ⟨_, rfl⟩
          have H1q : Hid (FX W wq [⟨51, 21, .slice G cb cG, cb, rowC LR.cells ((List.range' 1 (cb)).map (fk 1))⟩, ⟨53, 25, .slice (some ⟨qu, 0, none⟩) nU cU, nU, rowC PR.cells ((us).map uP)⟩, ⟨53, 25, .slice D nD cD, nD, rowC PR.cells ((ds).map dP)⟩] [wr.heap.size] ga sa gb sb) := by rw [← hwq]; exact H1
          have P1q : wq.heap[wr.heap.size]? = some (.cells (lpCells 1 2 (q : Nat) 0 1 (q : Nat)) 53) := by rw [← hwq]; exact P1.out
          rw [hwq]
          have HFR := Lib.hid (H1q.out.perm (R' := [⟨53, 25, .slice (some ⟨qu, 0, none⟩) nU cU, nU, rowC PR.cells ((us).map uP)⟩, ⟨51, 21, .slice G cb cG, cb, rowC LR.cells ((List.range' 1 (cb)).map (fk 1))⟩, ⟨53, 25, .slice D nD cD, nD, rowC PR.cells ((ds).map dP)⟩]) (List.Perm.swap _ _ _))
          have HFR0 := Lib.hid (HFR.out.nil 53 25)
          have HLEN := Lib.hid HLN.out.1
          clear hwq H1q H1 P1 HRA HX HB
          refine wp_region_till (fun _ => True) 8 (by kernel_rfl) ?_ (fun hHeld => ?_)
          · (try dsimp only); (first | done | trivial)
          refine wpAnyT_pure (i := 0) (oi := ⟨_, _, _, _, _, _⟩) (v := ?_) rfl (by kernel_rfl) (by kernel_rfl) (by kernel_rfl) (fun _ _ _ h => h) (by kernel_rfl) (Or.inl ⟨by rfl, ?_⟩) (by assumption) ?_
          rotate_left
          · (intro wS hSw; (try dsimp only at hSw); go_simp <;> with_reducible rfl)
          try simp only [Act.put, List.setIfInBounds_toArray, List.set_cons_zero, List.set_cons_succ]
          refine wpAnyT_pure (i := 1) (oi := ⟨_, _, _, _, _, _⟩) (v := ?_) rfl (by kernel_rfl) (by kernel_rfl) (by kernel_rfl) (fun _ _ _ h => h) (by kernel_rfl) (Or.inl ⟨by rfl, ?_⟩) (by assumption) ?_
          rotate_left
          · (intro wS hSw; (try dsimp only at hSw); go_simp <;> with_reducible rfl)
          try simp only [Act.put, List.setIfInBounds_toArray, List.set_cons_zero, List.set_cons_succ]
          refine wpAnyT_pure (i := 2) (oi := ⟨_, _, _, _, _, _⟩) (v := ?_) rfl (by kernel_rfl) (by kernel_rfl) (by kernel_rfl) (fun _ _ _ h => h) (by kernel_rfl) (Or.inl ⟨by rfl, ?_⟩) (by assumption) ?_
          rotate_left
          · (intro wS hSw; (try dsimp only at hSw); go_simp <;> with_reducible rfl)
          try simp only [Act.put, List.setIfInBounds_toArray, List.set_cons_zero, List.set_cons_succ]
          refine wpAnyT_pure (i := 4) (oi := ⟨_, _, _, _, _, _⟩) (v := ?_) rfl (by kernel_rfl) (by kernel_rfl) (by kernel_rfl) (fun _ _ _ h => h) (by kernel_rfl) (Or.inl ⟨by rfl, ?_⟩) (by assumption) ?_
          rotate_left
          · (intro wS hSw; (try dsimp only at hSw); go_simp <;> with_reducible rfl)
          try simp only [Act.put, List.setIfInBounds_toArray, List.set_cons_zero, List.set_cons_succ]
          refine wpAnyT_pure (i := 5) (oi := ⟨_, _, _, _, _, _⟩) (v := ?_) rfl (by kernel_rfl) (by kernel_rfl) (by kernel_rfl) (fun _ _ _ h => h) (by kernel_rfl) (Or.inl ⟨by rfl, ?_⟩) (by assumption) ?_
          rotate_left
          · (intro wS hSw; (try dsimp only at hSw); go_simp <;> with_reducible rfl)
          try simp only [Act.put, List.setIfInBounds_toArray, List.set_cons_zero, List.set_cons_succ]
          refine wpAnyT_pure (i := 6) (oi := ⟨_, _, _, _, _, _⟩) (v := ?_) rfl (by kernel_rfl) (by kernel_rfl) (by kernel_rfl) (fun _ _ _ h => h) (by kernel_rfl) (Or.inl ⟨by rfl, ?_⟩) (by assumption) ?_
          rotate_left
          · (intro wS hSw; (try dsimp only at hSw); go_simp <;> with_reducible rfl)
          try simp only [Act.put, List.setIfInBounds_toArray, List.set_cons_zero, List.set_cons_succ]
          refine wpAnyT_pure (i := 7) (oi := ⟨_, _, _, _, _, _⟩) (v := ?_) rfl (by kernel_rfl) (by kernel_rfl) (by kernel_rfl) (fun _ _ _ h => h) (by kernel_rfl) (Or.inl ⟨by rfl, ?_⟩) (by assumption) ?_
          rotate_left
          · (intro wS hSw; (try dsimp only at hSw); go_simp <;> with_reducible rfl)
          try simp only [Act.put, List.setIfInBounds_toArray, List.set_cons_zero, List.set_cons_succ]
          refine wpAnyT_ready (rs := [3]) (by kernel_rfl) (by simp) ?_
          refine AllReadyT.cons (o := ⟨_, _, _, _, _, _⟩) rfl (fun K hK => ?_) AllReadyT.nil
          refine step_append_any rfl (.const (.slice none 0 0)) (.tmp 103) 28 rfl W.heap.size 53 iP (.agg (lpCells 0 0 0 0 0 0)) 25 272 Try.underlying28 hiP hzP hsP hbP rfl (by decide) (.slice none 0 0) 0 [] rfl (World.ownsRow_nil _ _ _ _) (.slice (some ⟨qu, 0, none⟩) k cU) k (rowC PR.cells ((us.take k).map uP)) rfl (part_take ((HFR.out.below (Below.refl _ _).drew).r _ (.head _)) HLEN.out (by omega)) (rowC_all (fun y hy => by obtain ⟨j, _, rfl⟩ := List.mem_map.1 hy; exact PR.one (light_sl _ _))) (by unfold maxLen; omega) (by omega) (by have := HFR.out.base.size; simpa using this) ?_
          intro A1 c1 w5 ho5 hg5 hs5
          simp only [Nat.zero_add, List.nil_append] at ho5 hs5 ⊢
          have p5 := fx_box2 (HFR0.out.below (Below.refl _ wq).drew) (by simp) hg5 (show wq.drew.heap[wr.heap.size]? = some _ from P1q)
          have HF5 := Lib.hid ((HFR0.out.below (Below.refl _ wq).drew).grow (r' := ⟨53, 25, .slice A1 k c1, k, rowC PR.cells ((us.take k).map uP)⟩) hg5 ho5 hs5)
          clear ho5 hg5 hs5
          refine hK.out _ _ (by (try dsimp only); (first | done | trivial)) (fun hHeld => ?_)
          clear hK K
          try simp only [Act.put, List.setIfInBounds_toArray, List.set_cons_zero, List.set_cons_succ]
          refine wpAnyT_ready (rs := [8]) (by kernel_rfl) (by simp) ?_
          refine AllReadyT.past (o := ⟨_, _, _, _, _, _⟩) rfl (by kernel_rfl) (fun K hK => ?_) AllReadyT.nil
          refine step_append_any rfl (.tmp 104) (.tmp 108) 28 rfl W.heap.size 53 iP (.agg (lpCells 0 0 0 0 0 0)) 25 272 Try.underlying28 hiP hzP hsP hbP rfl (by decide) (.slice A1 k c1) k (rowC PR.cells ((us.take k).map uP)) rfl (fx_nil_sl HF5.out) (.slice (if cU = k + 1 then some ⟨qu, 0, none⟩ else some ⟨qu, (k + 1) * 25, none⟩) (nU - (k + 1)) (cU - (k + 1))) (nU - (k + 1)) (rowC PR.cells ((us.drop (k + 1)).map uP)) rfl (part_any (HF5.out.r _ (.tail _ (.head _))) HLEN.out (by omega)) (rowC_all (fun y hy => by obtain ⟨j, _, rfl⟩ := List.mem_map.1 hy; exact PR.one (light_sl _ _))) (by unfold maxLen; omega) (by omega) HF5.out.base.size ?_
          intro A2 c2 w6 ho6 hg6 hs6
          have p6 := fx_box2 HF5.out (by simp) hg6 p5
          have H6 := Lib.hid (HF5.out.grow (r' := ⟨53, 25, .slice A2 (k + (nU - (k + 1))) c2, k + (nU - (k + 1)), rowC PR.cells ((us.take k).map uP) ++ rowC PR.cells ((us.drop (k + 1)).map uP)⟩) hg6 ho6 hs6)
          clear ho6 hg6 hs6
          refine hK.out _ _ ?_
          clear hK K
          try simp only [Act.put, List.setIfInBounds_toArray, List.set_cons_zero, List.set_cons_succ]
          refine wpAnyT_ready (rs := [9]) (by kernel_rfl) (by simp) ?_
          refine AllReadyT.past (o := ⟨_, _, _, _, _, _⟩) rfl (by kernel_rfl) (fun K hK => ?_) AllReadyT.nil
          go_simp
          refine hK.out _ _ ?_
          clear hK K
          try simp only [Act.put, List.setIfInBounds_toArray, List.set_cons_zero, List.set_cons_succ]
          refine wpAnyT_done (by kernel_rfl) ?_ _
          generalize (if cU = k + 1 then (some ⟨qu, 0, none⟩ : Option Addr) else some ⟨qu, (k + 1) * 25, none⟩) = zA

          have H6c : Hid (FX W w6 [⟨51, 21, .slice G cb cG, cb, rowC LR.cells ((List.range' 1 (cb)).map (fk 1))⟩, ⟨53, 25, .slice A2 (k + (nU - (k + 1))) c2, k + (nU - (k + 1)), rowC PR.cells ((us.take k ++ us.drop (k + 1)).map uP)⟩, ⟨53, 25, .slice D nD cD, nD, rowC PR.cells ((ds).map dP)⟩] [wr.heap.size] ga sa gb sb) := by
            have h6 := H6.out
            rw [cut_row] at h6
            exact (h6.sub (R' := [⟨53, 25, .slice A2 (k + (nU - (k + 1))) c2, k + (nU - (k + 1)), rowC PR.cells ((us.take k ++ us.drop (k + 1)).map uP)⟩, ⟨51, 21, .slice G cb cG, cb, rowC LR.cells ((List.range' 1 (cb)).map (fk 1))⟩, ⟨53, 25, .slice D nD cD, nD, rowC PR.cells ((ds).map dP)⟩]) (((List.Sublist.refl _).cons _).cons_cons _) (fun _ hq => hq)).perm (List.Perm.swap _ _ _)
          clear H6 HF5 HFR HFR0 p5
          go_wp2_with (first
            | (with_reducible (show wpList _ _ _ (⟨some 115, Op.load _ _, _, _, _, _⟩ :: _) _ _); go_must (refine wpList_load_lp rfl (.tmp 14) rfl wr.heap.size 1 2 (q : Nat) 0 1 (q : Nat) rfl p6 ?_))
            | (go_at_call 17; (with_reducible refine (CG.out _ _ H6c.out).mono ?_); rintro e w4 ⟨T4, c4, d4, cb4, sb4, kb4, rfl, hd4, hs4, hn4, hq4, hk4, h4, b4⟩; have p4 := (lp_box w4 2 1 0 (cb4 : Nat) 0 0).2; have H4 := Lib.hid ((h4.perm (List.Perm.swap _ _ _)).box (lp_box w4 2 1 0 (cb4 : Nat) 0 0).1 (Nat.le_refl _) (bg_lt p4)); have B4 := Lib.hid b4; have HD4 := Lib.hid (And.intro hd4 hs4); have hcb4 : cb + d4 ≤ 40 := (by omega); have hcb5 : cb4 ≤ 40 := (by omega); have HE4 := Lib.hid hd4; clear h4 b4 hd4 hs4 hn4 hq4 hk4)
            | (with_reducible (show wpList _ _ _ (⟨none, Op.store _ (Operand.tmp 16) _, _, _, _, _⟩ :: _) _ _); go_must (refine wpList_store_lp rfl (.tmp 16) (.tmp 118) rfl w4.heap.size 2 1 0 (cb4 : Nat) 0 0 rfl rfl (heap_alloc_new w4 _) ?_)))
          obtain ⟨w7, hw7⟩ : ∃ w7, ((w4.alloc (.cells (lpCells 0 0 0 0 0 0) 53)).setRow w4.heap.size (lpCells 2 1 0 (cb4 : Nat) 0 0)) = w7 := ⟨_, rfl⟩
          rw [hw7] at H4 p4 ⊢
          have H7 := H4
          have p7 := p4
          clear hw7 H4 p4 H6c p6 CG
          refine wp_region_held_drew (S := fun _ => True) (by kernel_rfl) trivial (fun hHeld => ?_)
          refine wpAnyH_take (i := 0) (oi := ⟨_, _, _, _, _, _⟩) (v := ?_) rfl (by kernel_rfl) (by kernel_rfl) (by kernel_rfl) (fun _ _ _ h => h) (Or.inl ⟨by rfl, ?_⟩) (by assumption) ?_
          rotate_left
          · (intro wS hSw; (try dsimp only at hSw); go_simp <;> with_reducible rfl)
          try simp only [Act.put, List.setIfInBounds_toArray, List.set_cons_zero, List.set_cons_succ]
          refine wpAnyH_take (i := 1) (oi := ⟨_, _, _, _, _, _⟩) (v := ?_) rfl (by kernel_rfl) (by kernel_rfl) (by kernel_rfl) (fun _ _ _ h => h) (Or.inl ⟨by rfl, ?_⟩) (by assumption) ?_
          rotate_left
          · (intro wS hSw; (try dsimp only at hSw); go_simp <;> with_reducible rfl)
          try simp only [Act.put, List.setIfInBounds_toArray, List.set_cons_zero, List.set_cons_succ]
          refine wpAnyH_take (i := 3) (oi := ⟨_, _, _, _, _, _⟩) (v := ?_) rfl (by kernel_rfl) (by kernel_rfl) (by kernel_rfl) (fun _ _ _ h => h) (Or.inl ⟨by rfl, ?_⟩) (by assumption) ?_
          rotate_left
          · (intro wS hSw; (try dsimp only at hSw); go_simp <;> with_reducible rfl)
          try simp only [Act.put, List.setIfInBounds_toArray, List.set_cons_zero, List.set_cons_succ]
          refine wpAnyH_ready (rs := [2, 4]) (by kernel_rfl) (by simp) ?_
          refine AllReadyH.cons (o := ⟨_, _, _, _, _, _⟩) rfl (fun K hK => ?_) (AllReadyH.cons (o := ⟨_, _, _, _, _, _⟩) rfl (fun K hK => ?_) AllReadyH.nil)
          · refine step_append_any rfl (.tmp 122) (.tmp 123) 59 rfl W.heap.size 51 iL (.agg (ltCells 0 0)) 21 240 Try.underlying59 hiL hzL hsL hbL rfl (by decide) (.slice G cb cG) cb (rowC LR.cells ((List.range' 1 cb).map (fk 1))) rfl (fx_nil_sl (H7.out.below (Below.refl _ w7).drew)) (.slice T4 d4 c4) d4 (rowC LR.cells ((List.range' (cb + 1) d4).map (fk 1))) rfl (From.own (fx_snd (H7.out.below (Below.refl _ w7).drew))) (rowC_all (fun y hy => by obtain ⟨j, _, rfl⟩ := List.mem_map.1 hy; exact LR.one (light_sl _ _))) (by unfold maxLen; omega) (by omega) ((H7.out.below (Below.refl _ w7).drew)).base.size ?_
            intro A5 c5 w8 ho8 hg8 hs8
            have p8 := fx_box2 (H7.out.below (Below.refl _ w7).drew) (by simp) hg8 (show w7.drew.heap[w4.heap.size]? = some _ from p7)
            have H8 := Lib.hid ((H7.out.below (Below.refl _ w7).drew).grow (r' := ⟨51, 21, .slice A5 (cb + d4) c5, cb + d4, rowC LR.cells ((List.range' 1 cb).map (fk 1)) ++ rowC LR.cells ((List.range' (cb + 1) d4).map (fk 1))⟩) hg8 ho8 hs8)
            clear ho8 hg8 hs8
            refine hK.out _ _ trivial (fun hHeld => ?_)
            clear hK K
            try simp only [Act.put, List.setIfInBounds_toArray, List.set_cons_zero, List.set_cons_succ]
            refine wpAnyH_ready (rs := [4]) (by kernel_rfl) (by simp) ?_
            refine AllReadyH.cons (o := ⟨_, _, _, _, _, _⟩) rfl (fun K hK => ?_) AllReadyH.nil
            refine lk_step_load_row rfl 53 (.tmp 16) rfl w4.heap.size rfl 53 (lpCells 2 1 0 (cb4 : Nat) 0 0) (0, 0) _ p8 Try.underlying53 rfl bg_infoP ?_
            refine hK.out _ _ trivial (fun hHeld => ?_)
            clear hK K
            try simp only [Act.put, List.setIfInBounds_toArray, List.set_cons_zero, List.set_cons_succ]
            refine wpAnyH_ready (rs := [5]) (by kernel_rfl) (by simp) ?_
            refine AllReadyH.cons (o := ⟨_, _, _, _, _, _⟩) rfl (fun K hK => ?_) AllReadyH.nil
            go_simp
            refine hK.out _ _ trivial (fun hHeld => ?_)
            clear hK K
            try simp only [Act.put, List.setIfInBounds_toArray, List.set_cons_zero, List.set_cons_succ]
            have H9 : Hid (FX W w8 [⟨53, 25, .slice D nD cD, nD, rowC PR.cells ((ds).map dP)⟩, ⟨51, 21, .slice A5 (cb + d4) c5, cb + d4, rowC LR.cells ((List.range' 1 (cb + d4)).map (fk 1))⟩, ⟨53, 25, .slice A2 (k + (nU - (k + 1))) c2, (k + (nU - (k + 1))), rowC PR.cells ((us.take k ++ us.drop (k + 1)).map uP)⟩] [w4.heap.size, wr.heap.size] ga sa gb sb4) := by
              have h8 := H8.out
              rw [fk_row_app] at h8
              exact (h8.sub (R' := [⟨51, 21, .slice A5 (cb + d4) c5, cb + d4, rowC LR.cells ((List.range' 1 (cb + d4)).map (fk 1))⟩, ⟨53, 25, .slice A2 (k + (nU - (k + 1))) c2, (k + (nU - (k + 1))), rowC PR.cells ((us.take k ++ us.drop (k + 1)).map uP)⟩, ⟨53, 25, .slice D nD cD, nD, rowC PR.cells ((ds).map dP)⟩]) (((List.Sublist.refl _).cons _).cons_cons _) (fun _ hq => hq)).perm ((List.Perm.cons _ (List.Perm.swap _ _ _)).trans (List.Perm.swap _ _ _))
            refine wpAnyH_ready (rs := [6]) (by kernel_rfl) (by simp) ?_
            refine AllReadyH.cons (o := ⟨_, _, _, _, _, _⟩) rfl (fun K hK => ?_) AllReadyH.nil
            refine step_append_any rfl (.tmp 125) (.tmp 127) 28 rfl W.heap.size 53 iP (.agg (lpCells 0 0 0 0 0 0)) 25 272 Try.underlying28 hiP hzP hsP hbP rfl (by decide) (.slice D nD cD) nD (rowC PR.cells (ds.map dP)) rfl (fx_nil_sl (H9.out.below ((Below.refl _ w8).alloc (Nat.le_refl _) (.cells (lpCells 2 1 0 (cb4 : Nat) 0 0) 53)))) (.slice (some ⟨w8.heap.size, 0, none⟩) 1 1) 1 (rowC PR.cells [dP cb4]) rfl (lk_row_at (p := dP cb4) (heap_alloc_new w8 _)) (rowC_all (enc := PR.cells) (l := [dP cb4]) (fun y hy => by simp at hy; subst hy; exact PR.one (light_sl _ _))) (by unfold maxLen; omega) (by omega) ((H9.out.below ((Below.refl _ w8).alloc (Nat.le_refl _) (.cells (lpCells 2 1 0 (cb4 : Nat) 0 0) 53)))).base.size ?_
            intro D6 c6 w10 ho10 hg10 hs10
            have H10 := Lib.hid (((H9.out.below ((Below.refl _ w8).alloc (Nat.le_refl _) (.cells (lpCells 2 1 0 (cb4 : Nat) 0 0) 53)))).grow (r' := ⟨53, 25, .slice D6 (nD + 1) c6, nD + 1, rowC PR.cells (ds.map dP) ++ rowC PR.cells [dP cb4]⟩) hg10 ho10 hs10)
            clear ho10 hg10 hs10
            refine hK.out _ _ trivial (fun hHeld => ?_)
            clear hK K
            try simp only [Act.put, List.setIfInBounds_toArray, List.set_cons_zero, List.set_cons_succ]
            refine wpAnyH_take (i := 7) (oi := ⟨_, _, _, _, _, _⟩) (v := ?_) rfl (by kernel_rfl) (by kernel_rfl) (by kernel_rfl) (fun _ _ _ h => h) (Or.inl ⟨by rfl, ?_⟩) (by assumption) ?_
            rotate_left
            · (intro wS hSw; (try dsimp only at hSw); go_simp <;> with_reducible rfl)
            try simp only [Act.put, List.setIfInBounds_toArray, List.set_cons_zero, List.set_cons_succ]
            refine wpAnyH_take (i := 8) (oi := ⟨_, _, _, _, _, _⟩) (v := ?_) rfl (by kernel_rfl) (by kernel_rfl) (by kernel_rfl) (fun _ _ _ h => h) (Or.inl ⟨by rfl, ?_⟩) (by assumption) ?_
            rotate_left
            · (intro wS hSw; (try dsimp only at hSw); go_simp <;> with_reducible rfl)
            try simp only [Act.put, List.setIfInBounds_toArray, List.set_cons_zero, List.set_cons_succ]
            refine wpAnyH_done (by kernel_rfl) ?_ _
            go_wp2_with fail
            go_roundg (gk - 1)
            case measure => omega
            case rel =>
              have h10 := H10.out
              rw [dp_row_succ] at h10
              refine ⟨i + 1, σ, cb + d4, ka, kb4, t, (k + (nU - (k + 1))), nD + 1, c2, c6, c5, A2, D6, A5, us.take k ++ us.drop (k + 1), ds ++ [cb4], sa, sb4, by omega, by omega, hcb4, hσn, by omega, by omega, by omega, rfl, rfl, rfl, rfl, by go_num, ⟨(by have := without_length2 HLN.out.1 hk; omega), by rw [List.length_append, HLN.out.2]; rfl⟩, ⟨(fun x hx => HUD.out.1 x (mem_cut hx)), fun x hx => ?_⟩, ⟨HC.out.1, by rw [HD4.out.2]; exact HE4.out.symm⟩, (h10.sub (B' := []) (List.Sublist.refl _) (by simp)).perm ((List.Perm.swap _ _ _).trans (List.Perm.cons _ (List.Perm.swap _ _ _))), B4⟩
              have he := HE4.out
              rcases List.mem_append.1 hx with z | z
              · have := HUD.out.2 x z; omega
              · simp at z; omega
          · refine lk_step_load_row rfl 53 (.tmp 16) rfl w4.heap.size rfl 53 (lpCells 2 1 0 (cb4 : Nat) 0 0) (0, 0) _ (show w7.drew.heap[w4.heap.size]? = some _ from p7) Try.underlying53 rfl bg_infoP ?_
            refine hK.out _ _ trivial (fun hHeld => ?_)
            clear hK K
            try simp only [Act.put, List.setIfInBounds_toArray, List.set_cons_zero, List.set_cons_succ]
            refine wpAnyH_ready (rs := [2, 5]) (by kernel_rfl) (by simp) ?_
            refine AllReadyH.cons (o := ⟨_, _, _, _, _, _⟩) rfl (fun K hK => ?_) (AllReadyH.cons (o := ⟨_, _, _, _, _, _⟩) rfl (fun K hK => ?_) AllReadyH.nil)
            · refine step_append_any rfl (.tmp 122) (.tmp 123) 59 rfl W.heap.size 51 iL (.agg (ltCells 0 0)) 21 240 Try.underlying59 hiL hzL hsL hbL rfl (by decide) (.slice G cb cG) cb (rowC LR.cells ((List.range' 1 cb).map (fk 1))) rfl (fx_nil_sl (H7.out.below (Below.refl _ w7).drew)) (.slice T4 d4 c4) d4 (rowC LR.cells ((List.range' (cb + 1) d4).map (fk 1))) rfl (From.own (fx_snd (H7.out.below (Below.refl _ w7).drew))) (rowC_all (fun y hy => by obtain ⟨j, _, rfl⟩ := List.mem_map.1 hy; exact LR.one (light_sl _ _))) (by unfold maxLen; omega) (by omega) ((H7.out.below (Below.refl _ w7).drew)).base.size ?_
              intro A5 c5 w8 ho8 hg8 hs8
              have p8 := fx_box2 (H7.out.below (Below.refl _ w7).drew) (by simp) hg8 (show w7.drew.heap[w4.heap.size]? = some _ from p7)
              have H8 := Lib.hid ((H7.out.below (Below.refl _ w7).drew).grow (r' := ⟨51, 21, .slice A5 (cb + d4) c5, cb + d4, rowC LR.cells ((List.range' 1 cb).map (fk 1)) ++ rowC LR.cells ((List.range' (cb + 1) d4).map (fk 1))⟩) hg8 ho8 hs8)
              clear ho8 hg8 hs8
              refine hK.out _ _ trivial (fun hHeld => ?_)
              clear hK K
              try simp only [Act.put, List.setIfInBounds_toArray, List.set_cons_zero, List.set_cons_succ]
              refine wpAnyH_ready (rs := [5]) (by kernel_rfl) (by simp) ?_
              refine AllReadyH.cons (o := ⟨_, _, _, _, _, _⟩) rfl (fun K hK => ?_) AllReadyH.nil
              go_simp
              refine hK.out _ _ trivial (fun hHeld => ?_)
              clear hK K
              try simp only [Act.put, List.setIfInBounds_toArray, List.set_cons_zero, List.set_cons_succ]
              have H9 : Hid (FX W w8 [⟨53, 25, .slice D nD cD, nD, rowC PR.cells ((ds).map dP)⟩, ⟨51, 21, .slice A5 (cb + d4) c5, cb + d4, rowC LR.cells ((List.range' 1 (cb + d4)).map (fk 1))⟩, ⟨53, 25, .slice A2 (k + (nU - (k + 1))) c2, (k + (nU - (k + 1))), rowC PR.cells ((us.take k ++ us.drop (k + 1)).map uP)⟩] [w4.heap.size, wr.heap.size] ga sa gb sb4) := by
                have h8 := H8.out
                rw [fk_row_app] at h8
                exact (h8.sub (R' := [⟨51, 21, .slice A5 (cb + d4) c5, cb + d4, rowC LR.cells ((List.range' 1 (cb + d4)).map (fk 1))⟩, ⟨53, 25, .slice A2 (k + (nU - (k + 1))) c2, (k + (nU - (k + 1))), rowC PR.cells ((us.take k ++ us.drop (k + 1)).map uP)⟩, ⟨53, 25, .slice D nD cD, nD, rowC PR.cells ((ds).map dP)⟩]) (((List.Sublist.refl _).cons _).cons_cons _) (fun _ hq => hq)).perm ((List.Perm.cons _ (List.Perm.swap _ _ _)).trans (List.Perm.swap _ _ _))
              refine wpAnyH_ready (rs := [6]) (by kernel_rfl) (by simp) ?_
              refine AllReadyH.cons (o := ⟨_, _, _, _, _, _⟩) rfl (fun K hK => ?_) AllReadyH.nil
              refine step_append_any rfl (.tmp 125) (.tmp 127) 28 rfl W.heap.size 53 iP (.agg (lpCells 0 0 0 0 0 0)) 25 272 Try.underlying28 hiP hzP hsP hbP rfl (by decide) (.slice D nD cD) nD (rowC PR.cells (ds.map dP)) rfl (fx_nil_sl (H9.out.below ((Below.refl _ w8).alloc (Nat.le_refl _) (.cells (lpCells 2 1 0 (cb4 : Nat) 0 0) 53)))) (.slice (some ⟨w8.heap.size, 0, none⟩) 1 1) 1 (rowC PR.cells [dP cb4]) rfl (lk_row_at (p := dP cb4) (heap_alloc_new w8 _)) (rowC_all (enc := PR.cells) (l := [dP cb4]) (fun y hy => by simp at hy; subst hy; exact PR.one (light_sl _ _))) (by unfold maxLen; omega) (by omega) ((H9.out.below ((Below.refl _ w8).alloc (Nat.le_refl _) (.cells (lpCells 2 1 0 (cb4 : Nat) 0 0) 53)))).base.size ?_
              intro D6 c6 w10 ho10 hg10 hs10
              have H10 := Lib.hid (((H9.out.below ((Below.refl _ w8).alloc (Nat.le_refl _) (.cells (lpCells 2 1 0 (cb4 : Nat) 0 0) 53)))).grow (r' := ⟨53, 25, .slice D6 (nD + 1) c6, nD + 1, rowC PR.cells (ds.map dP) ++ rowC PR.cells [dP cb4]⟩) hg10 ho10 hs10)
              clear ho10 hg10 hs10
              refine hK.out _ _ trivial (fun hHeld => ?_)
              clear hK K
              try simp only [Act.put, List.setIfInBounds_toArray, List.set_cons_zero, List.set_cons_succ]
              refine wpAnyH_take (i := 7) (oi := ⟨_, _, _, _, _, _⟩) (v := ?_) rfl (by kernel_rfl) (by kernel_rfl) (by kernel_rfl) (fun _ _ _ h => h) (Or.inl ⟨by rfl, ?_⟩) (by assumption) ?_
              rotate_left
              · (intro wS hSw; (try dsimp only at hSw); go_simp <;> with_reducible rfl)
              try simp only [Act.put, List.setIfInBounds_toArray, List.set_cons_zero, List.set_cons_succ]
              refine wpAnyH_take (i := 8) (oi := ⟨_, _, _, _, _, _⟩) (v := ?_) rfl (by kernel_rfl) (by kernel_rfl) (by kernel_rfl) (fun _ _ _ h => h) (Or.inl ⟨by rfl, ?_⟩) (by assumption) ?_
              rotate_left
              · (intro wS hSw; (try dsimp only at hSw); go_simp <;> with_reducible rfl)
              try simp only [Act.put, List.setIfInBounds_toArray, List.set_cons_zero, List.set_cons_succ]
              refine wpAnyH_done (by kernel_rfl) ?_ _
              go_wp2_with fail
              go_roundg (gk - 1)
              case measure => omega
              case rel =>
                have h10 := H10.out
                rw [dp_row_succ] at h10
                refine ⟨i + 1, σ, cb + d4, ka, kb4, t, (k + (nU - (k + 1))), nD + 1, c2, c6, c5, A2, D6, A5, us.take k ++ us.drop (k + 1), ds ++ [cb4], sa, sb4, by omega, by omega, hcb4, hσn, by omega, by omega, by omega, rfl, rfl, rfl, rfl, by go_num, ⟨(by have := without_length2 HLN.out.1 hk; omega), by rw [List.length_append, HLN.out.2]; rfl⟩, ⟨(fun x hx => HUD.out.1 x (mem_cut hx)), fun x hx => ?_⟩, ⟨HC.out.1, by rw [HD4.out.2]; exact HE4.out.symm⟩, (h10.sub (B' := []) (List.Sublist.refl _) (by simp)).perm ((List.Perm.swap _ _ _).trans (List.Perm.cons _ (List.Perm.swap _ _ _))), B4⟩
                have he := HE4.out
                rcases List.mem_append.1 hx with z | z
                · have := HUD.out.2 x z; omega
                · simp at z; omega
            · go_simp
              have e7 := heap_alloc_new w7.drew (.cells (lpCells 2 1 0 (cb4 : Nat) 0 0) 53)
              have H7b := Lib.hid ((H7.out.below (Below.refl _ w7).drew).box ((Below.refl _ w7.drew).alloc (Nat.le_refl _) (.cells (lpCells 2 1 0 (cb4 : Nat) 0 0) 53)) (Nat.le_refl _) (bg_lt e7))
              refine hK.out _ _ trivial (fun hHeld => ?_)
              clear hK K
              try simp only [Act.put, List.setIfInBounds_toArray, List.set_cons_zero, List.set_cons_succ]
              refine wpAnyH_ready (rs := [2]) (by kernel_rfl) (by simp) ?_
              refine AllReadyH.cons (o := ⟨_, _, _, _, _, _⟩) rfl (fun K hK => ?_) AllReadyH.nil
              refine step_append_any rfl (.tmp 122) (.tmp 123) 59 rfl W.heap.size 51 iL (.agg (ltCells 0 0)) 21 240 Try.underlying59 hiL hzL hsL hbL rfl (by decide) (.slice G cb cG) cb (rowC LR.cells ((List.range' 1 cb).map (fk 1))) rfl (fx_nil_sl (H7b.out)) (.slice T4 d4 c4) d4 (rowC LR.cells ((List.range' (cb + 1) d4).map (fk 1))) rfl (From.own (fx_snd (H7b.out))) (rowC_all (fun y hy => by obtain ⟨j, _, rfl⟩ := List.mem_map.1 hy; exact LR.one (light_sl _ _))) (by unfold maxLen; omega) (by omega) ((H7b.out)).base.size ?_
              intro A5 c5 w8 ho8 hg8 hs8
              have p8 := fx_box2 (H7b.out) (by simp) hg8 e7
              have H8 := Lib.hid ((H7b.out).grow (r' := ⟨51, 21, .slice A5 (cb + d4) c5, cb + d4, rowC LR.cells ((List.range' 1 cb).map (fk 1)) ++ rowC LR.cells ((List.range' (cb + 1) d4).map (fk 1))⟩) hg8 ho8 hs8)
              clear ho8 hg8 hs8
              refine hK.out _ _ trivial (fun hHeld => ?_)
              clear hK K
              try simp only [Act.put, List.setIfInBounds_toArray, List.set_cons_zero, List.set_cons_succ]
              have H9 : Hid (FX W w8 [⟨53, 25, .slice D nD cD, nD, rowC PR.cells ((ds).map dP)⟩, ⟨51, 21, .slice A5 (cb + d4) c5, cb + d4, rowC LR.cells ((List.range' 1 (cb + d4)).map (fk 1))⟩, ⟨53, 25, .slice A2 (k + (nU - (k + 1))) c2, (k + (nU - (k + 1))), rowC PR.cells ((us.take k ++ us.drop (k + 1)).map uP)⟩] [w7.drew.heap.size, w4.heap.size, wr.heap.size] ga sa gb sb4) := by
                have h8 := H8.out
                rw [fk_row_app] at h8
                exact (h8.sub (R' := [⟨51, 21, .slice A5 (cb + d4) c5, cb + d4, rowC LR.cells ((List.range' 1 (cb + d4)).map (fk 1))⟩, ⟨53, 25, .slice A2 (k + (nU - (k + 1))) c2, (k + (nU - (k + 1))), rowC PR.cells ((us.take k ++ us.drop (k + 1)).map uP)⟩, ⟨53, 25, .slice D nD cD, nD, rowC PR.cells ((ds).map dP)⟩]) (((List.Sublist.refl _).cons _).cons_cons _) (fun _ hq => hq)).perm ((List.Perm.cons _ (List.Perm.swap _ _ _)).trans (List.Perm.swap _ _ _))
              refine wpAnyH_ready (rs := [6]) (by kernel_rfl) (by simp) ?_
              refine AllReadyH.cons (o := ⟨_, _, _, _, _, _⟩) rfl (fun K hK => ?_) AllReadyH.nil
              refine step_append_any rfl (.tmp 125) (.tmp 127) 28 rfl W.heap.size 53 iP (.agg (lpCells 0 0 0 0 0 0)) 25 272 Try.underlying28 hiP hzP hsP hbP rfl (by decide) (.slice D nD cD) nD (rowC PR.cells (ds.map dP)) rfl (fx_nil_sl (H9.out)) (.slice (some ⟨w7.drew.heap.size, 0, none⟩) 1 1) 1 (rowC PR.cells [dP cb4]) rfl (lk_row_at (p := dP cb4) p8) (rowC_all (enc := PR.cells) (l := [dP cb4]) (fun y hy => by simp at hy; subst hy; exact PR.one (light_sl _ _))) (by unfold maxLen; omega) (by omega) ((H9.out)).base.size ?_
              intro D6 c6 w10 ho10 hg10 hs10
              have H10 := Lib.hid (((H9.out)).grow (r' := ⟨53, 25, .slice D6 (nD + 1) c6, nD + 1, rowC PR.cells (ds.map dP) ++ rowC PR.cells [dP cb4]⟩) hg10 ho10 hs10)
              clear ho10 hg10 hs10
              refine hK.out _ _ trivial (fun hHeld => ?_)
              clear hK K
              try simp only [Act.put, List.setIfInBounds_toArray, List.set_cons_zero, List.set_cons_succ]
              refine wpAnyH_take (i := 7) (oi := ⟨_, _, _, _, _, _⟩) (v := ?_) rfl (by kernel_rfl) (by kernel_rfl) (by kernel_rfl) (fun _ _ _ h => h) (Or.inl ⟨by rfl, ?_⟩) (by assumption) ?_
              rotate_left
              · (intro wS hSw; (try dsimp only at hSw); go_simp <;> with_reducible rfl)
              try simp only [Act.put, List.setIfInBounds_toArray, List.set_cons_zero, List.set_cons_succ]
              refine wpAnyH_take (i := 8) (oi := ⟨_, _, _, _, _, _⟩) (v := ?_) rfl (by kernel_rfl) (by kernel_rfl) (by kernel_rfl) (fun _ _ _ h => h) (Or.inl ⟨by rfl, ?_⟩) (by assumption) ?_
              rotate_left
              · (intro wS hSw; (try dsimp only at hSw); go_simp <;> with_reducible rfl)
              try simp only [Act.put, List.setIfInBounds_toArray, List.set_cons_zero, List.set_cons_succ]
              refine wpAnyH_done (by kernel_rfl) ?_ _
              go_wp2_with fail
              go_roundg (gk - 1)
              case measure => omega
              case rel =>
                have h10 := H10.out
                rw [dp_row_succ] at h10
                refine ⟨i + 1, σ, cb + d4, ka, kb4, t, (k + (nU - (k + 1))), nD + 1, c2, c6, c5, A2, D6, A5, us.take k ++ us.drop (k + 1), ds ++ [cb4], sa, sb4, by omega, by omega, hcb4, hσn, by omega, by omega, by omega, rfl, rfl, rfl, rfl, by go_num, ⟨(by have := without_length2 HLN.out.1 hk; omega), by rw [List.length_append, HLN.out.2]; rfl⟩, ⟨(fun x hx => HUD.out.1 x (mem_cut hx)), fun x hx => ?_⟩, ⟨HC.out.1, by rw [HD4.out.2]; exact HE4.out.symm⟩, (h10.sub (B' := []) (List.Sublist.refl _) (by simp)).perm ((List.Perm.swap _ _ _).trans (List.Perm.cons _ (List.Perm.swap _ _ _))), B4⟩
                have he := HE4.out
                rcases List.mem_append.1 hx with z | z
                · have := HUD.out.2 x z; omega
                · simp at z; omega
        · obtain rfl : nU = 0 := by omega
          go_wp2_with fail
          go_roundg (gk - 1)
          case measure => omega
          case rel =>
            exact ⟨i + 1, σ, cb, ka, kb, t, 0, nD, cU, cD, cG, U, D, G, us, ds, sa, sb, by omega, by omega, hcb, hσn, by omega, by omega, by omega, rfl, rfl, rfl, rfl, by go_num, HLN, HUD, HC, HX, HB⟩
      by_cases c4 : y = 4
      · subst c4
        by_cases hu : 0 < nU
        · have n0 : decide ((0 : Int) < (nU : Int)) = true := by simp; omega
          obtain ⟨qu, hqu⟩ := lk_at (HX.out.r ⟨53, 25, .slice U nU cU, nU, rowC PR.cells ((us).map uP)⟩ (.tail _ (.head _))) hu
          subst hqu
          obtain ⟨k, hk, hidx⟩ := idx_ok (x / 8) nU hu (by omega)
          have iq : (k : Int) < (nU : Int) := by omega
          have hlu := HLN.out.1
          obtain ⟨q, hq⟩ : ∃ q, us[k]? = some q := ⟨us[k]'(by omega), List.getElem?_eq_getElem _⟩
          have hqq := HUD.out.1 q (List.mem_of_getElem? hq)
          have HRA := Lib.hid (show wr.rangeAt qu (k * 25) (lpCells 1 2 (q : Nat) 0 1 (q : Nat)).toList from (row_range (p := uP q) (HX.out.r ⟨53, 25, .slice (some ⟨qu, 0, none⟩) nU cU, nU, rowC PR.cells ((us).map uP)⟩ (.tail _ (.head _))) (by rw [List.getElem?_map, hq]; rfl) hk).2)
          have CG : Hid (∀ w R, FX W w R [wr.heap.size] ga sa gb sb → Calls Try.prog 17 #[.pointer (some ⟨gb, 0, none⟩), .agg (lpCells 1 2 (q : Nat) 0 1 (q : Nat))] w (JG W R [wr.heap.size] ga sa gb cb 1 2 1 2 σ 0 ka kb t 0 t 0 q)) := fun w R hx => jx_got2 (q := q) (a := 0) (cb := cb) hx HB.out (by omega) (by omega) (by omega) (by omega) (by omega) (by omega) (by omega) HC.out.2
          have hszP : (Try.prog.info? 53).map (·.size) = some (lpCells 1 2 (q : Nat) 0 1 (q : Nat)).toList.length := bg_infoP
          have b1 := lp_box wr 1 2 (q : Nat) 0 1 (q : Nat)
          have H1 : Hid (FX W _ [⟨51, 21, .slice G cb cG, cb, rowC LR.cells ((List.range' 1 (cb)).map (fk 1))⟩, ⟨53, 25, .slice (some ⟨qu, 0, none⟩) nU cU, nU, rowC PR.cells ((us).map uP)⟩, ⟨53, 25, .slice D nD cD, nD, rowC PR.cells ((ds).map dP)⟩] [wr.heap.size] ga sa gb sb) := HX.out.box b1.1 (Nat.le_refl _) (bg_lt b1.2)
          have P1 := Lib.hid b1.2
          clear hq hlu b1
          have HX1 := Lib.hid (H1.out.sub (R' := [⟨51, 21, .slice G cb cG, cb, rowC LR.cells ((List.range' 1 (cb)).map (fk 1))⟩, ⟨53, 25, .slice (some ⟨qu, 0, none⟩) nU cU, nU, rowC PR.cells ((us).map uP)⟩, ⟨53, 25, .slice D nD cD, nD, rowC PR.cells ((ds).map dP)⟩]) (B' := []) (List.Sublist.refl _) (by simp))
          clear H1 P1 CG
          go_wp2_with (first
            | (refine wpList_load_mid rfl 53 (.tmp 96) rfl qu (k * 25) rfl (lpCells 1 2 (q : Nat) 0 1 (q : Nat)).toList _ HRA.out Try.underlying53 rfl hszP ?_)
            | (with_reducible (show wpList _ _ _ (⟨none, Op.store _ (Operand.tmp 14) _, _, _, _, _⟩ :: _) _ _); go_must (refine wpList_store_lp rfl (.tmp 14) (.tmp 97) rfl wr.heap.size 1 2 (q : Nat) 0 1 (q : Nat) rfl rfl (heap_alloc_new wr _) ?_)))
          go_roundg (gk - 1)
          case measure => omega
          case rel =>
            exact ⟨i + 1, σ, cb, ka, kb, t, nU, nD, cU, cD, cG, some ⟨qu, 0, none⟩, D, G, us, ds, sa, sb, by omega, by omega, hcb, hσn, by omega, by omega, by omega, rfl, rfl, rfl, rfl, by go_num, HLN, HUD, HC, HX1, HB⟩
        · obtain rfl : nU = 0 := by omega
          go_wp2_with fail
          go_roundg (gk - 1)
          case measure => omega
          case rel =>
            exact ⟨i + 1, σ, cb, ka, kb, t, 0, nD, cU, cD, cG, U, D, G, us, ds, sa, sb, by omega, by omega, hcb, hσn, by omega, by omega, by omega, rfl, rfl, rfl, rfl, by go_num, HLN, HUD, HC, HX, HB⟩
      by_cases c5 : y = 5
      · subst c5
        by_cases hu : 0 < nD
        · have n0 : decide ((0 : Int) < (nD : Int)) = true := by simp; omega
          obtain ⟨qu, hqu⟩ := lk_at (HX.out.r ⟨53, 25, .slice D nD cD, nD, rowC PR.cells ((ds).map dP)⟩ (.tail _ (.tail _ (.head _)))) hu
          subst hqu
          obtain ⟨k, hk, hidx⟩ := idx_ok (x / 8) nD hu (by omega)
          have iq : (k : Int) < (nD : Int) := by omega
          have hlu := HLN.out.2
          obtain ⟨q, hq⟩ : ∃ q, ds[k]? = some q := ⟨ds[k]'(by omega), List.getElem?_eq_getElem _⟩
          have hqq := HUD.out.2 q (List.mem_of_getElem? hq)
          have HRA := Lib.hid (show wr.rangeAt qu (k * 25) (lpCells 2 1 0 (q : Nat) 0 0).toList from (row_range (p := dP q) (HX.out.r ⟨53, 25, .slice (some ⟨qu, 0, none⟩) nD cD, nD, rowC PR.cells ((ds).map dP)⟩ (.tail _ (.tail _ (.head _)))) (by rw [List.getElem?_map, hq]; rfl) hk).2)
          have CG := Lib.hid (jx_ack (c := q) (HX.out.perm (R' := [⟨53, 25, .slice (some ⟨qu, 0, none⟩) nD cD, nD, rowC PR.cells ((ds).map dP)⟩, ⟨51, 21, .slice G cb cG, cb, rowC LR.cells ((List.range' 1 (cb)).map (fk 1))⟩, ⟨53, 25, .slice U nU cU, nU, rowC PR.cells ((us).map uP)⟩]) ((List.Perm.cons _ (List.Perm.swap _ _ _)).trans (List.Perm.swap _ _ _))) HB.out (by omega) (by omega) (by omega) (by omega) (by rw [HC.out.2]; exact hqq))
          have hszP : (Try.prog.info? 53).map (·.size) = some (lpCells 2 1 0 (q : Nat) 0 0).toList.length := bg_infoP
          have hcap : nD ≤ cD := row_cap (HX.out.r ⟨53, 25, .slice (some ⟨qu, 0, none⟩) nD cD, nD, rowC PR.cells ((ds).map dP)⟩ (.tail _ (.tail _ (.head _))))
          clear hq hlu HB HX
          have i1 : (k : Int) ≤ (nD : Int) := by omega
          have i2 : k ≤ cD := by omega
          have i3 : (k : Int) + 1 ≤ (nD : Int) := by omega
          have i4 : k + 1 ≤ cD := by omega
          have i5 : 0 ≤ (k : Int) + 1 := by omega
          have z1 : IntKind.i64.wrap ((k : Int) + 1) = (k : Int) + 1 := by rw [IntKind.wrap_i64]; omega
          go_wp2_with (first
            | (refine wpList_load_mid rfl 53 (.tmp 149) rfl qu (k * 25) rfl (lpCells 2 1 0 (q : Nat) 0 0).toList _ HRA.out Try.underlying53 rfl hszP ?_)
            | (go_at_call 17; (with_reducible refine (CG.out).mono ?_); rintro e w4 ⟨rfl, sa4, hca4, h4, b4⟩; have HFR := Lib.hid (h4.below (lp_box w4 0 0 0 0 0 0).1); have B4 := Lib.hid b4; have HC4 := Lib.hid hca4; clear h4 b4 hca4)
            | (with_reducible (show wpList _ _ _ (⟨none, Op.store _ (Operand.tmp 20) _, _, _, _, _⟩ :: _) _ _); go_must (refine wpList_store_lp rfl (.tmp 20) (.tmp 153) rfl w4.heap.size 0 0 0 0 0 0 rfl rfl (heap_alloc_new w4 _) ?_)))
          obtain ⟨wq, hwq⟩ : ∃ wq, ((w4.alloc (.cells (lpCells 0 0 0 0 0 0) 53)).setRow w4.heap.size (lpCells 0 0 0 0 0 0)) = wq := ⟨_, rfl⟩
          rw [hwq] at HFR ⊢
          have HFR0 := Lib.hid (HFR.out.nil 53 25)
          have HLEN := Lib.hid HLN.out.2
          clear hwq HRA CG
          refine wp_region_till (fun _ => True) 8 (by kernel_rfl) ?_ (fun hHeld => ?_)
          · (try dsimp only); (first | done | trivial)
          refine wpAnyT_pure (i := 0) (oi := ⟨_, _, _, _, _, _⟩) (v := ?_) rfl (by kernel_rfl) (by kernel_rfl) (by kernel_rfl) (fun _ _ _ h => h) (by kernel_rfl) (Or.inl ⟨by rfl, ?_⟩) (by assumption) ?_
          rotate_left
          · (intro wS hSw; (try dsimp only at hSw); go_simp <;> with_reducible rfl)
          try simp only [Act.put, List.setIfInBounds_toArray, List.set_cons_zero, List.set_cons_succ]
          refine wpAnyT_pure (i := 1) (oi := ⟨_, _, _, _, _, _⟩) (v := ?_) rfl (by kernel_rfl) (by kernel_rfl) (by kernel_rfl) (fun _ _ _ h => h) (by kernel_rfl) (Or.inl ⟨by rfl, ?_⟩) (by assumption) ?_
          rotate_left
          · (intro wS hSw; (try dsimp only at hSw); go_simp <;> with_reducible rfl)
          try simp only [Act.put, List.setIfInBounds_toArray, List.set_cons_zero, List.set_cons_succ]
          refine wpAnyT_pure (i := 2) (oi := ⟨_, _, _, _, _, _⟩) (v := ?_) rfl (by kernel_rfl) (by kernel_rfl) (by kernel_rfl) (fun _ _ _ h => h) (by kernel_rfl) (Or.inl ⟨by rfl, ?_⟩) (by assumption) ?_
          rotate_left
          · (intro wS hSw; (try dsimp only at hSw); go_simp <;> with_reducible rfl)
          try simp only [Act.put, List.setIfInBounds_toArray, List.set_cons_zero, List.set_cons_succ]
          refine wpAnyT_pure (i := 4) (oi := ⟨_, _, _, _, _, _⟩) (v := ?_) rfl (by kernel_rfl) (by kernel_rfl) (by kernel_rfl) (fun _ _ _ h => h) (by kernel_rfl) (Or.inl ⟨by rfl, ?_⟩) (by assumption) ?_
          rotate_left
          · (intro wS hSw; (try dsimp only at hSw); go_simp <;> with_reducible rfl)
          try simp only [Act.put, List.setIfInBounds_toArray, List.set_cons_zero, List.set_cons_succ]
          refine wpAnyT_pure (i := 5) (oi := ⟨_, _, _, _, _, _⟩) (v := ?_) rfl (by kernel_rfl) (by kernel_rfl) (by kernel_rfl) (fun _ _ _ h => h) (by kernel_rfl) (Or.inl ⟨by rfl, ?_⟩) (by assumption) ?_
          rotate_left
          · (intro wS hSw; (try dsimp only at hSw); go_simp <;> with_reducible rfl)
          try simp only [Act.put, List.setIfInBounds_toArray, List.set_cons_zero, List.set_cons_succ]
          refine wpAnyT_pure (i := 6) (oi := ⟨_, _, _, _, _, _⟩) (v := ?_) rfl (by kernel_rfl) (by kernel_rfl) (by kernel_rfl) (fun _ _ _ h => h) (by kernel_rfl) (Or.inl ⟨by rfl, ?_⟩) (by assumption) ?_
          rotate_left
          · (intro wS hSw; (try dsimp only at hSw); go_simp <;> with_reducible rfl)
          try simp only [Act.put, List.setIfInBounds_toArray, List.set_cons_zero, List.set_cons_succ]
          refine wpAnyT_pure (i := 7) (oi := ⟨_, _, _, _, _, _⟩) (v := ?_) rfl (by kernel_rfl) (by kernel_rfl) (by kernel_rfl) (fun _ _ _ h => h) (by kernel_rfl) (Or.inl ⟨by rfl, ?_⟩) (by assumption) ?_
          rotate_left
          · (intro wS hSw; (try dsimp only at hSw); go_simp <;> with_reducible rfl)
          try simp only [Act.put, List.setIfInBounds_toArray, List.set_cons_zero, List.set_cons_succ]
          refine wpAnyT_ready (rs := [3]) (by kernel_rfl) (by simp) ?_
          refine AllReadyT.cons (o := ⟨_, _, _, _, _, _⟩) rfl (fun K hK => ?_) AllReadyT.nil
          refine step_append_any rfl (.const (.slice none 0 0)) (.tmp 159) 28 rfl W.heap.size 53 iP (.agg (lpCells 0 0 0 0 0 0)) 25 272 Try.underlying28 hiP hzP hsP hbP rfl (by decide) (.slice none 0 0) 0 [] rfl (World.ownsRow_nil _ _ _ _) (.slice (some ⟨qu, 0, none⟩) k cD) k (rowC PR.cells ((ds.take k).map dP)) rfl (part_take ((HFR.out.below (Below.refl _ _).drew).r _ (.head _)) HLEN.out (by omega)) (rowC_all (fun y hy => by obtain ⟨j, _, rfl⟩ := List.mem_map.1 hy; exact PR.one (light_sl _ _))) (by unfold maxLen; omega) (by omega) (by have := HFR.out.base.size; simpa using this) ?_
          intro A1 c1 w5 ho5 hg5 hs5
          simp only [Nat.zero_add, List.nil_append] at ho5 hs5 ⊢
          have HF5 := Lib.hid ((HFR0.out.below (Below.refl _ wq).drew).grow (r' := ⟨53, 25, .slice A1 k c1, k, rowC PR.cells ((ds.take k).map dP)⟩) hg5 ho5 hs5)
          clear ho5 hg5 hs5
          refine hK.out _ _ (by (try dsimp only); (first | done | trivial)) (fun hHeld => ?_)
          clear hK K
          try simp only [Act.put, List.setIfInBounds_toArray, List.set_cons_zero, List.set_cons_succ]
          refine wpAnyT_ready (rs := [8]) (by kernel_rfl) (by simp) ?_
          refine AllReadyT.past (o := ⟨_, _, _, _, _, _⟩) rfl (by kernel_rfl) (fun K hK => ?_) AllReadyT.nil
          refine step_append_any rfl (.tmp 160) (.tmp 164) 28 rfl W.heap.size 53 iP (.agg (lpCells 0 0 0 0 0 0)) 25 272 Try.underlying28 hiP hzP hsP hbP rfl (by decide) (.slice A1 k c1) k (rowC PR.cells ((ds.take k).map dP)) rfl (fx_nil_sl HF5.out) (.slice (if cD = k + 1 then some ⟨qu, 0, none⟩ else some ⟨qu, (k + 1) * 25, none⟩) (nD - (k + 1)) (cD - (k + 1))) (nD - (k + 1)) (rowC PR.cells ((ds.drop (k + 1)).map dP)) rfl (part_any (HF5.out.r _ (.tail _ (.head _))) HLEN.out (by omega)) (rowC_all (fun y hy => by obtain ⟨j, _, rfl⟩ := List.mem_map.1 hy; exact PR.one (light_sl _ _))) (by unfold maxLen; omega) (by omega) HF5.out.base.size ?_
          intro A2 c2 w6 ho6 hg6 hs6
          have H6 := Lib.hid (HF5.out.grow (r' := ⟨53, 25, .slice A2 (k + (nD - (k + 1))) c2, k + (nD - (k + 1)), rowC PR.cells ((ds.take k).map dP) ++ rowC PR.cells ((ds.drop (k + 1)).map dP)⟩) hg6 ho6 hs6)
          clear ho6 hg6 hs6
          refine hK.out _ _ ?_
          clear hK K
          try simp only [Act.put, List.setIfInBounds_toArray, List.set_cons_zero, List.set_cons_succ]
          refine wpAnyT_ready (rs := [9]) (by kernel_rfl) (by simp) ?_
          refine AllReadyT.past (o := ⟨_, _, _, _, _, _⟩) rfl (by kernel_rfl) (fun K hK => ?_) AllReadyT.nil
          go_simp
          refine hK.out _ _ ?_
          clear hK K
          try simp only [Act.put, List.setIfInBounds_toArray, List.set_cons_zero, List.set_cons_succ]
          refine wpAnyT_done (by kernel_rfl) ?_ _
          generalize (if cD = k + 1 then (some ⟨qu, 0, none⟩ : Option Addr) else some ⟨qu, (k + 1) * 25, none⟩) = zA

          go_wp2_with fail
          go_roundg (gk - 1)
          case measure => omega
          case rel =>
            have h6 := H6.out
            rw [cut_row] at h6
            exact ⟨i + 1, σ, cb, max ka q, kb, t, nU, k + (nD - (k + 1)), cU, c2, cG, U, A2, G, us, ds.take k ++ ds.drop (k + 1), sa4, sb, by omega, by omega, hcb, hσn, by omega, by omega, by omega, rfl, rfl, rfl, rfl, by go_num, ⟨HLN.out.1, by have := without_length2 HLN.out.2 hk; omega⟩, ⟨HUD.out.1, fun x hx => HUD.out.2 x (mem_cut hx)⟩, ⟨by rw [HC4.out]; exact HC.out.1, HC.out.2⟩, (h6.sub (R' := [⟨53, 25, .slice A2 (k + (nD - (k + 1))) c2, k + (nD - (k + 1)), rowC PR.cells ((ds.take k ++ ds.drop (k + 1)).map dP)⟩, ⟨51, 21, .slice G cb cG, cb, rowC LR.cells ((List.range' 1 (cb)).map (fk 1))⟩, ⟨53, 25, .slice U nU cU, nU, rowC PR.cells ((us).map uP)⟩]) (((List.Sublist.refl _).cons _).cons_cons _) (fun _ hq => hq)).perm ((List.Perm.swap _ _ _).trans (List.Perm.cons _ (List.Perm.swap _ _ _))), B4⟩
        · obtain rfl : nD = 0 := by omega
          go_wp2_with fail
          go_roundg (gk - 1)
          case measure => omega
          case rel =>
            exact ⟨i + 1, σ, cb, ka, kb, t, nU, 0, cU, cD, cG, U, D, G, us, ds, sa, sb, by omega, by omega, hcb, hσn, by omega, by omega, by omega, rfl, rfl, rfl, rfl, by go_num, HLN, HUD, HC, HX, HB⟩
      by_cases c6 : y = 6
      · subst c6
        have ct := Lib.hid (jx_tick HX.out HB.out (by omega) (by omega) (by omega) (by omega))
        have HABL := Lib.hid (And.intro HB.out.ab.a (And.intro HB.out.ab.s HB.out.a3))
        clear HX HB
        go_wp2_with (first
          | (go_at_call 15; (with_reducible refine (ct.out).mono ?_); rintro e w3 ⟨T1, c1, N1, sa1, ua1, rfl, hN1, hca1, h3, b3⟩; have hnn : N1 ≤ 40 := (by rcases hN1 with z | z <;> omega); have hkn : N1 = σ - ka ∨ N1 = 0 := (by rcases hN1 with z | z <;> omega); have hu1 : ua1 ≤ t + 1 := (by rcases hN1 with z | z <;> omega); have HCA1 := Lib.hid hca1; have H3 : Hid (FX W w3 [⟨53, 25, .slice U nU cU, nU, rowC PR.cells ((us).map uP)⟩, ⟨53, 25, .slice T1 N1 c1, N1, rowC PR.cells ((List.range N1).map fun j => pk 1 2 1 (ka + 1 + j) 0)⟩, ⟨51, 21, .slice G cb cG, cb, rowC LR.cells ((List.range' 1 (cb)).map (fk 1))⟩, ⟨53, 25, .slice D nD cD, nD, rowC PR.cells ((ds).map dP)⟩] [] ga sa1 gb sb) := (by rw [HC.out.1] at h3; exact h3.perm ((List.Perm.cons _ (List.Perm.swap _ _ _)).trans (List.Perm.swap _ _ _))); have B3 := Lib.hid (b3.later hu1); clear hN1 hca1 h3 b3)
          | (at_builtin; go_must (refine wpList_append_any rfl (.tmp 168) (.tmp 170) 28 rfl W.heap.size 53 iP (.agg (lpCells 0 0 0 0 0 0)) 25 272 Try.underlying28 hiP hzP hsP hbP rfl (by decide) (.slice U nU cU) nU (rowC PR.cells (us.map uP)) rfl (fx_nil_sl H3.out) (.slice T1 N1 c1) N1 (rowC PR.cells ((List.range N1).map fun j => pk 1 2 1 (ka + 1 + j) 0)) rfl (From.own (fx_snd H3.out)) (rowC_all (fun y hy => by obtain ⟨j, _, rfl⟩ := List.mem_map.1 hy; exact PR.one (light_sl _ _))) (by unfold maxLen; omega) (by omega) H3.out.base.size ?_); intro U5 c5 w5 ho5 hg5 hs5; have H5 := Lib.hid (H3.out.grow (r' := ⟨53, 25, .slice U5 (nU + N1) c5, nU + N1, rowC PR.cells (us.map uP) ++ rowC PR.cells ((List.range N1).map fun j => pk 1 2 1 (ka + 1 + j) 0)⟩) hg5 ho5 hs5); clear ho5 hg5 hs5))
        go_roundg (gk - 1)
        case measure => omega
        case rel =>
          have h5 := H5.out
          rw [up_row_ticks] at h5
          refine ⟨i + 1, σ, cb, ka, kb, t + 1, nU + N1, nD, c5, cD, cG, U5, D, G, us ++ (List.range N1).map (fun j => ka + 1 + j), ds, sa1, sb, by omega, by omega, hcb, hσn, by omega, by omega, by omega, rfl, rfl, rfl, rfl, by go_num, ⟨by rw [List.length_append, HLN.out.1, List.length_map, List.length_range], HLN.out.2⟩, ⟨fun x hx => ?_, HUD.out.2⟩, ⟨by rw [HCA1.out]; exact HC.out.1, HC.out.2⟩, (h5.sub (R' := [⟨53, 25, .slice U5 (nU + N1) c5, nU + N1, rowC PR.cells ((us ++ (List.range N1).map (fun j => ka + 1 + j)).map uP)⟩, ⟨51, 21, .slice G cb cG, cb, rowC LR.cells ((List.range' 1 (cb)).map (fk 1))⟩, ⟨53, 25, .slice D nD cD, nD, rowC PR.cells ((ds).map dP)⟩]) (((List.Sublist.refl _).cons _).cons_cons _) (fun _ hq => hq)).perm (List.Perm.swap _ _ _), B3⟩
          rcases List.mem_append.1 hx with z | z
          · exact HUD.out.1 x z
          · obtain ⟨j, hj, rfl⟩ := List.mem_map.1 z
            have := List.mem_range.1 hj
            omega
      have y0 : (y == 0) = false := by simpa using c0
      have y1 : (y == 1) = false := by simpa using c1
      have y2 : (y == 2) = false := by simpa using c2
      have y3 : (y == 3) = false := by simpa using c3
      have y4 : (y == 4) = false := by simpa using c4
      have y5 : (y == 5) = false := by simpa using c5
      have y6 : (y == 6) = false := by simpa using c6
      clear c0 c1 c2 c3 c4 c5 c6
      have HX1 := Lib.hid (((HX.out.sub (R' := [⟨51, 21, .slice G cb cG, cb, rowC LR.cells ((List.range' 1 (cb)).map (fk 1))⟩]) (B' := []) (((List.nil_sublist _)).cons_cons _) (by simp)).nil 53 25).nil 53 25)
      clear HX
      go_wp2_with fail
      go_roundg (gk - 1)
      case measure => omega
      case rel => exact ⟨i + 1, σ, cb, ka, kb, t, 0, 0, 0, 0, cG, none, none, G, [], [], sa, sb, by omega, by omega, hcb, hσn, by omega, by omega, by omega, rfl, rfl, rfl, rfl, by go_num, ⟨rfl, rfl⟩, ⟨by simp, by simp⟩, HC, HX1.out.perm ((List.Perm.cons _ (List.Perm.swap _ _ _)).trans (List.Perm.swap _ _ _)), HB⟩
    · obtain rfl : i = N := by omega
      have HX4 : Hid (FX W wr [⟨51, 21, .slice G cb cG, cb, rowC LR.cells ((List.range' 1 (cb)).map (fk 1))⟩] [] ga sa gb sb) := HX.out.sub ((List.nil_sublist _).cons_cons _) (by simp)
      have HB4 : Hid (Bi sa sb 1 2 (fk 1) (fk 2) σ 0 ka kb t 0 t 0) := HB
      have HC4 := HC
      have hσ40 : σ ≤ 40 := by omega
      have htN : t ≤ 200 := by omega
      clear HX HB HC HLN HUD hlt1 hnU hnD
      go_wp2_with fail
      --LOOP 2
      go_loopg [9, 22] 5 (fun gh s9 s22 wx => ∃ (k ca cb ka kb cG ta ua : Nat) (G : Option Addr) (sa sb : LS), k + gh = 5 ∧ k ≤ 4 ∧ cb ≤ 40 ∧ ta ≤ 200 + k ∧ ua ≤ ta ∧ s9 = .slice G cb cG ∧ s22 = .int .i64 (k : Nat) ∧ Hid (ka = σ ∨ (k ≤ 3 ∧ ua + k ≤ ta)) ∧ Hid (sa.came = ca ∧ sb.came = cb) ∧ Hid (FX W wx [⟨51, 21, .slice G cb cG, cb, rowC LR.cells ((List.range' 1 (cb)).map (fk 1))⟩] [] ga sa gb sb) ∧ Hid (Bi sa sb 1 2 (fk 1) (fk 2) σ 0 ka kb ta 0 ua 0))
      case atStart => exact ⟨0, 0, cb, ka, kb, cG, t, t, G, sa, sb, by omega, by omega, hcb, by omega, by omega, rfl, rfl, .inr ⟨by omega, by omega⟩, HC4, HX4, HB4⟩
      case round =>
        clear HX4 HB4 HC4 hcb ht htN
        obtain ⟨k, ca, cb, ka, kb, cG, ta, ua, G, sa, sb, hig2, hk4, hcb, hta, hua, rfl, rfl, HK, HC, HX, HB⟩ := hrel
        have dk : decide ((k : Int) < 40) = true := by simp; omega
        have hkσ : ka ≤ cb ∧ cb ≤ σ := by have := HB.out.ab.a; have := HB.out.ab.s; have := HB.out.a3; have := HC.out.2; omega
        by_cases hka : ka = σ
        · have hr1 := HB.out.rest (by omega) (by omega)
          have hr2 := HB.out.swap.rest (by omega) (by omega)
          have hcn : cb = σ := by omega
          subst hcn
          have R1 := HX.out.x.left.rest
          have R2 := HX.out.x.right.rest
          have R3 := HX.out.x.right.came
          rw [hr1] at R1
          rw [hr2] at R2
          rw [HC.out.2] at R3
          have CR1 := Lib.hid R1
          have CR2 := Lib.hid R2
          have CR3 := Lib.hid R3
          have HW := Lib.hid HX.out.base
          have hcR : ∀ i, i < cb → ∃ b, G = some ⟨b, 0, none⟩ ∧ wr.cell? ⟨b, i * 21 + 3, none⟩ = some (.int .i64 ((i : Int) + 1)) := fun i hi => fk_cell (k := 1) (HX.out.r ⟨51, 21, .slice G cb cG, cb, rowC LR.cells ((List.range' 1 (cb)).map (fk 1))⟩ (.head _)) hi
          have HCR := Lib.hid hcR
          clear HX HB HC HK hr1 hr2 R1 R2 R3 hcR hka
          obtain ⟨wz, hwz⟩ : ∃ wz : World, wz = wr := ⟨_, rfl⟩
          rw [← hwz] at HCR HW CR1 CR2 CR3 ⊢
          clear hwz
          go_wp2_with (first
            | (go_at_call 23; (with_reducible refine (CR1.out).mono ?_); rintro e w8 ⟨rfl, rfl⟩)
            | (go_at_call 23; (with_reducible refine (CR2.out).mono ?_); rintro e w8 ⟨rfl, rfl⟩)
            | (go_at_call 22; (with_reducible refine (CR3.out).mono ?_); rintro e w9 ⟨rfl, rfl⟩))
          --LOOP 4
          go_loopg [28] (cb + 1) (fun gh s28 wx => ∃ i : Nat, i + gh = cb + 1 ∧ i ≤ cb ∧ s28 = .int .i64 (i : Nat) ∧ wx = w9)
          case atStart => exact ⟨0, by omega, by omega, rfl, rfl⟩
          case round =>
            obtain ⟨i, hi7, hin7, rfl, rfl⟩ := hrel
            by_cases hlt7 : i < cb
            · obtain ⟨b, hb, hc⟩ := HCR.out i hlt7
              subst hb
              have i7 : (i : Int) < (cb : Int) := by omega
              have z7 : IntKind.i64.wrap ((i : Int) + 1) = (i : Int) + 1 := by rw [IntKind.wrap_i64]; omega
              go_wp2_with fail
              go_roundg (gk - 1)
              case measure => omega
              case rel => exact ⟨i + 1, by omega, by omega, by go_num, rfl⟩
            · obtain rfl : cb = i := by omega
              go_wp2_with fail
              go_ret
              exact ⟨rfl, HW.out⟩
        · have hk3 : k ≤ 3 ∧ ua + k ≤ ta := by rcases HK.out with z | z; exact absurd z hka; exact z
          have hr1 : sa.rest = false := by
            have hl := HB.out.ab.len
            rw [HB.out.a3] at hl
            unfold LS.rest
            rw [hl]
            simp
            omega
          have R1 := HX.out.x.left.rest
          rw [hr1] at R1
          have CR1 := Lib.hid R1
          have ct := Lib.hid (jx_tick HX.out HB.out (by omega) (by omega) (by omega) (by omega))
          clear R1 hr1 HK HX HB
          go_wp2_with (first
            | (go_at_call 23; (with_reducible refine (CR1.out).mono ?_); rintro e w2 ⟨rfl, hw2⟩; subst hw2)
            | (go_at_call 15; (with_reducible refine (ct.out).mono ?_); rintro e w3 ⟨T1, c1, N1, sa1, ua1, rfl, hN1, hca1, h3, b3⟩; have HN1 := Lib.hid hN1; have HCA1 := Lib.hid hca1; have H3 := Lib.hid h3; have B3 := Lib.hid b3; clear hN1 hca1 h3 b3))
          have HC3 : Hid (sa1.came = ca ∧ sb.came = cb) := ⟨by rw [HCA1.out]; exact HC.out.1, HC.out.2⟩
          have H3' : Hid (FX W w3 [⟨53, 25, .slice T1 N1 c1, N1, rowC PR.cells ((List.range N1).map fun j => pk 1 2 1 (ka + 1 + j) ca)⟩, ⟨51, 21, .slice G cb cG, cb, rowC LR.cells ((List.range' 1 (cb)).map (fk 1))⟩] [] ga sa1 gb sb) := by have h := H3.out; rw [HC.out.1] at h; exact h
          have hN1 : N1 ≤ 40 := by rcases HN1.out with z | z <;> omega
          have hua1 : ua1 ≤ ta + 1 := by rcases HN1.out with z | z <;> omega
          have hN1n : N1 = 0 ∨ ka + N1 = σ := by rcases HN1.out with z | z <;> omega
          clear ct H3 HC HCA1 dk CR1
          --LOOP 3
          go_loopg [9, 189] (N1 + 1) (fun gh s9 s189 wx => ∃ (j cb2 ka2 kb2 cG2 : Nat) (G2 : Option Addr) (sa2 sb2 : LS), j + gh = N1 + 1 ∧ j ≤ N1 ∧ cb2 ≤ 40 ∧ s9 = .slice G2 cb2 cG2 ∧ s189 = .int .i64 (j : Nat) ∧ ka + j ≤ cb2 ∧ Hid ((j = 0 ∧ ka2 = ka) ∨ ka + j ≤ ka2) ∧ Hid (sa2.came = ca ∧ sb2.came = cb2) ∧ Hid (FX W wx [⟨53, 25, .slice T1 N1 c1, N1, rowC PR.cells ((List.range N1).map fun j => pk 1 2 1 (ka + 1 + j) ca)⟩, ⟨51, 21, .slice G2 cb2 cG2, cb2, rowC LR.cells ((List.range' 1 cb2).map (fk 1))⟩] [] ga sa2 gb sb2) ∧ Hid (Bi sa2 sb2 1 2 (fk 1) (fk 2) σ 0 ka2 kb2 (ta + 1) 0 ua1 0))
          case atStart => exact ⟨0, cb, ka, kb, cG, G, sa1, sb, by omega, by omega, hcb, rfl, rfl, by omega, .inl ⟨rfl, rfl⟩, HC3, H3', B3⟩
          case round =>
            clear H3' B3 HC3
            obtain ⟨j, cb2, ka2, kb2, cG2, G2, sa2, sb2, hjg, hjN, hcb2, rfl, rfl, hkj, HJ, HC, HX, HB⟩ := hrel
            by_cases hlt5 : j < N1
            · have ij : (j : Int) < (N1 : Int) := by omega
              obtain ⟨qu, hqu⟩ := lk_at (HX.out.r ⟨53, 25, .slice T1 N1 c1, N1, rowC PR.cells ((List.range N1).map fun j => pk 1 2 1 (ka + 1 + j) ca)⟩ (.head _)) (show 0 < N1 by omega)
              subst hqu
              obtain ⟨qq, hqq⟩ : ∃ qq, ka + 1 + j = qq := ⟨_, rfl⟩
              have hra := (pk_range (q := j) (f := ka + 1) (a := ca) (pa := 1) (pb := 2) (k := 1) HX.out (.head _) hlt5).2
              have cg : ∀ w, FX W w [⟨53, 25, .slice (some ⟨qu, 0, none⟩) N1 c1, N1, rowC PR.cells ((List.range N1).map fun j => pk 1 2 1 (ka + 1 + j) ca)⟩, ⟨51, 21, .slice G2 cb2 cG2, cb2, rowC LR.cells ((List.range' 1 cb2).map (fk 1))⟩] [] ga sa2 gb sb2 → Calls Try.prog 17 #[.pointer (some ⟨gb, 0, none⟩), .agg (lpCells 1 2 ((ka + 1 + j : Nat) : Int) (ca : Nat) 1 ((ka + 1 + j : Nat) : Int))] w (JG W [⟨53, 25, .slice (some ⟨qu, 0, none⟩) N1 c1, N1, rowC PR.cells ((List.range N1).map fun j => pk 1 2 1 (ka + 1 + j) ca)⟩, ⟨51, 21, .slice G2 cb2 cG2, cb2, rowC LR.cells ((List.range' 1 cb2).map (fk 1))⟩] [] ga sa2 gb cb2 1 2 1 2 σ 0 ka2 kb2 (ta + 1) 0 ua1 0 (ka + 1 + j)) := fun w hx => jx_got2 (q := ka + 1 + j) (a := ca) (cb := cb2) hx HB.out (by omega) (by omega) (by omega) (by omega) (by omega) (by omega) (Nat.le_of_eq HC.out.1.symm) HC.out.2
              rw [hqq] at hra cg
              have HRA := Lib.hid hra
              have CG := Lib.hid cg
              have HQQ := Lib.hid hqq
              have hszP : (Try.prog.info? 53).map (·.size) = some (lpCells 1 2 (qq : Nat) (ca : Nat) 1 (qq : Nat)).toList.length := bg_infoP
              have hx0 := HX
              clear hra cg hqq HB
              go_wp2_with (first
                  | (refine wpList_load_mid rfl 53 (.tmp 191) rfl qu (j * 25) rfl (lpCells 1 2 (qq : Nat) (ca : Nat) 1 (qq : Nat)).toList _ HRA.out Try.underlying53 rfl hszP ?_)
                  | (with_reducible (show wpList _ _ _ (⟨none, Op.store _ (Operand.tmp 24) _, _, _, _, _⟩ :: _) _ _); go_must (refine wpList_store_lp rfl (.tmp 24) (.tmp 192) rfl wr.heap.size 1 2 (qq : Nat) (ca : Nat) 1 (qq : Nat) rfl rfl (heap_alloc_new wr _) ?_))
                  | (with_reducible (show wpList _ _ _ (⟨some 195, Op.load _ _, _, _, _, _⟩ :: _) _ _); go_must (refine wpList_load_lp rfl (.tmp 24) rfl wr.heap.size 1 2 (qq : Nat) (ca : Nat) 1 (qq : Nat) rfl (lp_box wr 1 2 (qq : Nat) (ca : Nat) 1 (qq : Nat)).2 ?_))
                  | (go_at_call 17; (with_reducible refine (CG.out _ (hx0.out.below (lp_box wr 1 2 (qq : Nat) (ca : Nat) 1 (qq : Nat)).1)).mono ?_); rintro e w4 ⟨T4, c4, d4, cb4, sb4, kb4, rfl, hd4, hs4, hn4, hq4, hk4, h4, b4⟩; have p4 := (lp_box w4 2 1 0 (cb4 : Nat) 0 0).2; have H4 := Lib.hid ((h4.perm (R' := [⟨51, 21, .slice G2 cb2 cG2, cb2, rowC LR.cells ((List.range' 1 cb2).map (fk 1))⟩, ⟨51, 21, .slice T4 d4 c4, d4, rowC LR.cells ((List.range' (cb2 + 1) d4).map (fk 1))⟩, ⟨53, 25, .slice (some ⟨qu, 0, none⟩) N1 c1, N1, rowC PR.cells ((List.range N1).map fun j => pk 1 2 1 (ka + 1 + j) ca)⟩]) ((List.Perm.cons _ (List.Perm.swap _ _ _)).trans (List.Perm.swap _ _ _))).box (lp_box w4 2 1 0 (cb4 : Nat) 0 0).1 (Nat.le_refl _) (bg_lt p4)); have B4 := Lib.hid b4; have HD4 := Lib.hid (And.intro hd4 (And.intro hs4 hq4)); have hcb4 : cb2 + d4 ≤ 40 := (by omega); have HK4 := Lib.hid hk4; clear h4 b4 hd4 hs4 hn4 hq4 hk4)
                  | (with_reducible (show wpList _ _ _ (⟨none, Op.store _ (Operand.tmp 26) _, _, _, _, _⟩ :: _) _ _); go_must (refine wpList_store_lp rfl (.tmp 26) (.tmp 198) rfl w4.heap.size 2 1 0 (cb4 : Nat) 0 0 rfl rfl (heap_alloc_new w4 _) ?_))
                  | (at_builtin; go_must (refine wpList_append_any rfl (.tmp 200) (.tmp 201) 59 rfl W.heap.size 51 iL (.agg (ltCells 0 0)) 21 240 Try.underlying59 hiL hzL hsL hbL rfl (by decide) (.slice G2 cb2 cG2) cb2 (rowC LR.cells ((List.range' 1 cb2).map (fk 1))) rfl (fx_nil_sl H4.out) (.slice T4 d4 c4) d4 (rowC LR.cells ((List.range' (cb2 + 1) d4).map (fk 1))) rfl (From.own (fx_snd H4.out)) (rowC_all (fun y hy => by obtain ⟨j, _, rfl⟩ := List.mem_map.1 hy; exact LR.one (light_sl _ _))) (by unfold maxLen; omega) (by omega) H4.out.base.size ?_); intro A5 c5 w5 ho5 hg5 hs5; have p5 := fx_box H4.out hg5 p4; have H5 := Lib.hid (H4.out.grow (r' := ⟨51, 21, .slice A5 (cb2 + d4) c5, cb2 + d4, rowC LR.cells ((List.range' 1 cb2).map (fk 1)) ++ rowC LR.cells ((List.range' (cb2 + 1) d4).map (fk 1))⟩) hg5 ho5 hs5); clear ho5 hg5 hs5)
                  | (with_reducible (show wpList _ _ _ (⟨some 204, Op.load _ _, _, _, _, _⟩ :: _) _ _); go_must (refine wpList_load_lp rfl (.tmp 26) rfl w4.heap.size 2 1 0 (cb4 : Nat) 0 0 rfl p5 ?_))
                  | (go_at_call 17; (with_reducible refine (jx_ack (k := 1) (l := 2) (c := cb4) H5.out B4.out (by omega) (by omega) (by omega) (by omega) (Nat.le_of_eq HD4.out.2.1.symm)).mono ?_); rintro e w6 ⟨rfl, sa6, hc6, h6, b6⟩; have H6 := Lib.hid h6; have B6 := Lib.hid b6; have HC6 := Lib.hid hc6; clear h6 b6 hc6))
              go_roundg (gk - 1)
              case measure => omega
              case rel =>
                have h6 := H6.out
                rw [fk_row_app] at h6
                have hd := HD4.out
                have hq := HQQ.out
                have hkj2 : ka + (j + 1) ≤ cb2 + d4 := by
                  by_cases hz : cb2 + 1 = qq
                  · have := hd.2.2 hz; omega
                  · omega
                exact ⟨j + 1, cb2 + d4, max ka2 cb4, kb4, c5, A5, sa6, sb4, by omega, by omega, hcb4, rfl, by go_num, hkj2, .inr (by omega), ⟨by rw [HC6.out]; exact HC.out.1, by rw [hd.2.1]; exact hd.1.symm⟩, (h6.sub (((List.Sublist.refl _).cons _).cons_cons _) (by simp)).perm (List.Perm.swap _ _ _), B6.out⟩
            · obtain rfl : N1 = j := by omega
              go_wp2_with fail
              go_roundg (4 - k)
              case measure => omega
              case rel =>
                have h1 := HN1.out
                have h2 := HJ.out
                have b2 : ka2 ≤ σ := by have := HB.out.ab.a; have := HB.out.ab.s; have := HB.out.a3; omega
                refine ⟨k + 1, ca, cb2, ka2, kb2, cG2, ta + 1, ua1, G2, sa2, sb2, by omega, by omega, hcb2, by omega, hua1, rfl, by go_num, ?_, HC, HX.out.sub ((List.Sublist.refl _).cons _) (fun _ hq => hq), HB⟩
                show _ ∨ _
                rcases h1 with ⟨z1, z2, z3⟩ | ⟨z1, z2, z3⟩
                · exact .inl (by omega)
                · exact .inr ⟨by omega, by omega⟩
set_option maxRecDepth 20000 in
theorem linkOnce_any (n : Int) (LA : Option Addr) (lc : Nat) (zs : List Int) (W : World) (_n0 : -9223372036854775808 ≤ n) (_n1 : n ≤ 9223372036854775807) (hl : zs.length ≤ 9223372036854775807) (hL : IntsAt W LA .i64 zs) (hzb : ∀ x ∈ zs, -9223372036854775808 ≤ x ∧ x ≤ 9223372036854775807) :
    Calls Try.prog 4 #[.int .i64 n, .slice LA zs.length lc] W fun e w' => e = .returned (.bool true) ∧ Below W.heap.size W w' := by
  have CA := Lib.hid aliveL
  by_cases c0 : n < 0
  · have d0 : decide (n < 0) = true := by simp; omega
    go_enter Try.func4, Try.ntmps4
    go_wp2_with (go_at_call 10; (with_reducible refine (CA.out _).mono ?_); rintro e w1 ⟨rfl, h1⟩)
    go_ret
    exact ⟨rfl, h1⟩
  have d0 : decide (n < 0) = false := by simp; omega
  by_cases c1 : 40 < n
  · have d1 : decide (40 < n) = true := by simp; omega
    go_enter Try.func4, Try.ntmps4
    go_wp2_with (go_at_call 10; (with_reducible refine (CA.out _).mono ?_); rintro e w1 ⟨rfl, h1⟩)
    go_ret
    exact ⟨rfl, h1⟩
  have d1 : decide (40 < n) = false := by simp; omega
  by_cases c2 : 200 < zs.length
  · have d2 : decide (200 < (zs.length : Int)) = true := by simp; omega
    go_enter Try.func4, Try.ntmps4
    go_wp2_with (go_at_call 10; (with_reducible refine (CA.out _).mono ?_); rintro e w1 ⟨rfl, h1⟩)
    go_ret
    exact ⟨rfl, h1⟩
  have d2 : decide (200 < (zs.length : Int)) = false := by simp; omega
  clear d0 d1 d2
  obtain ⟨n, rfl⟩ := Int.eq_ofNat_of_zero_le (show 0 ≤ n by omega)
  exact linkOnceGo n LA lc zs W (by omega) (by omega) hL hzb
end Go.Proofs.Ytfemdfidfomchaa
