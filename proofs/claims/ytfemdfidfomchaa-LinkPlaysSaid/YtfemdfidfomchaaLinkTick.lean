/-
  Tick: what waits too long goes again. (A region by tools/genLKTick.py.)
-/
import Derived.Test.YtfemdfidfomchaaLinkGot
namespace Go.Proofs.Ytfemdfidfomchaa
open Go.RowKit

/-- the first i of what waits were sent again at t -/
def upd (ws : List (LR × Nat)) (t i : Nat) : List (LR × Nat) := (ws.take i).map (fun x => (x.1, t)) ++ ws.drop i
theorem upd_zero (ws : List (LR × Nat)) (t : Nat) : upd ws t 0 = ws := by simp [upd]
theorem upd_all (ws : List (LR × Nat)) (t : Nat) : upd ws t ws.length = ws.map fun x => (x.1, t) := by simp [upd]
theorem upd_length (ws : List (LR × Nat)) (t i : Nat) : (upd ws t i).length = ws.length := by
  simp only [upd, List.length_append, List.length_map, List.length_take, List.length_drop]; omega
theorem upd_at {ws : List (LR × Nat)} {t i : Nat} (h : i < ws.length) : (upd ws t i)[i]? = ws[i]? := by
  rw [upd, List.getElem?_append_right (by simp; omega)]
  simp only [List.length_map, List.length_take, List.getElem?_drop]
  congr 1
  omega
theorem upd_succ {ws : List (LR × Nat)} {t i : Nat} {x : LR × Nat} (h : ws[i]? = some x) : upd ws t (i + 1) = (upd ws t i).set i (x.1, t) := by
  have hl := (List.getElem?_eq_some_iff.1 h).1
  have hx := (List.getElem?_eq_some_iff.1 h).2
  rw [upd, upd, List.set_append_right _ _ (by simp; omega)]
  have e1 : i - ((ws.take i).map fun x => (x.1, t)).length = 0 := by simp; omega
  have e2 : ws.drop i = x :: ws.drop (i + 1) := by rw [List.drop_eq_getElem_cons hl, hx]
  rw [e1, e2, List.take_add_one, h]
  simp
theorem rowC_set {α : Type} {enc : α → Array Value} {k : Nat} (h : ∀ x, (enc x).size = k) : ∀ (l : List α) (i j : Nat) (x y : α) (u : Value), l[i]? = some x → j < k → enc y = (enc x).setIfInBounds j u → (rowC enc l).set (i * k + j) u = rowC enc (l.set i y)
  | z :: l, 0, j, x, y, u, hx, hj, hy => by
    simp at hx
    subst hx
    rw [List.set_cons_zero, rowC_cons, rowC_cons, hy, Nat.zero_mul, Nat.zero_add, List.set_append_left _ _ (by rw [Array.length_toList, h]; exact hj), Array.toList_setIfInBounds]
  | z :: l, i + 1, j, x, y, u, hx, hj, hy => by
    rw [List.set_cons_succ, rowC_cons, rowC_cons, List.set_append_right _ _ (by rw [Array.length_toList, h, Nat.add_mul]; omega), Array.length_toList, h, show (i + 1) * k + j - k = i * k + j by rw [Nat.add_mul]; omega, rowC_set h l i j x y u (by simpa using hx) hj hy]
  | [], i, j, x, y, u, hx, hj, hy => by cases hx
theorem upd_mem {ws : List (LR × Nat)} {t i : Nat} {x : LR × Nat} (h : x ∈ upd ws t i) : ∃ y ∈ ws, y.1 = x.1 ∧ (x.2 = t ∨ x.2 = y.2) := by
  rcases List.mem_append.1 h with z | z
  · obtain ⟨y, hy, rfl⟩ := List.mem_map.1 z
    exact ⟨y, List.mem_of_mem_take hy, rfl, .inl rfl⟩
  · exact ⟨x, List.mem_of_mem_drop z, rfl, .inr rfl⟩
/-- packets with these letters, numbered from f on -/
def mkPs (me peer f a : Int) (rs : List LR) : List PR := rs.zipIdx.map fun x => ⟨me, peer, f + (x.2 : Nat), a, x.1⟩
theorem mkPs_length (me peer f a : Int) (rs : List LR) : (mkPs me peer f a rs).length = rs.length := by simp [mkPs]
theorem mkPs_succ (me peer f a : Int) (rs : List LR) (r : LR) : mkPs me peer f a (rs ++ [r]) = mkPs me peer f a rs ++ [⟨me, peer, f + (rs.length : Nat), a, r⟩] := by
  simp [mkPs, List.zipIdx_append]
/-- the list of what waits was turned in its place -/
theorem lnx_turn {W w : World} {g n : Nat} {s : LS} {V K : Value} {L : List Nat} {ws : List (LR × Nat)} (h : LNX W g s V K L) (t : Touch V.ownBlock.toList W w) (hn : ws.length = n) (ho : OwnAt w 80 22 V n (rowC wE ws)) (hw : ∀ x ∈ ws, x.1.At w L) : LNX w g {s with waits := ws} V K L := by
  subst hn
  have hgn : g ∉ V.ownBlock.toList := fun z => h.gv g (by simpa using z) rfl
  exact ⟨(t.block g h.glt hgn).trans h.hg, ho, t.row h.k (fun q hq z => h.vk q (by simpa using z) hq), h.gv, h.gk, h.vk, hw, fun x hx => (h.lk x hx).touch t fun q hq z => (h.lf q hq).2.1 (by simpa using z), fun q hq => Nat.lt_of_lt_of_le (h.lt q hq) t.size, h.lf⟩
theorem ownAt_free {w : World} {e : TypeId} {size n q o c : Nat} {xs : List Value} (h : OwnAt w e size (.slice (some ⟨q, o, none⟩) n c) n xs) {j : Nat} : w.frozen? ⟨q, j, none⟩ = false := by
  rcases h.2 with ⟨h0, _⟩ | ⟨q', o', c', cur, h0, hh, _⟩
  · cases h0
  · injection h0 with h0 _ _
    injection h0 with h0
    injection h0 with ha hb _
    subst ha hb
    simp [World.frozen?, hh]
/-- does a Tick send all again? -/
def LS.due (s : LS) : Bool := match s.waits with
  | [] => false
  | x :: _ => decide (4 ≤ (s.now : Int) + 1 - (x.2 : Nat))
abbrev LS.tick (s : LS) : LS := {s with now := s.now + 1}
abbrev LS.again (s : LS) : LS := {s with now := s.now + 1, waits := s.waits.map fun x => (x.1, s.now + 1)}
/-- what Tick has done so far -/
structure Tck (W w : World) (g : Nat) (s : LS) (V K : Value) (L : List Nat) (i : Nat) (T : Value) (rs : List LR) : Prop where
  x : LNX w g {s with now := s.now + 1, waits := upd s.waits (s.now + 1) i} V K L
  t : Touch (fr g V K) W w
  row : w.ownsRow W.heap.size 53 25 T i (rowC PR.cells (mkPs s.me s.peer ((s.sent : Int) - (s.waits.length : Nat) + 1) (s.came : Nat) rs))
  n : rs.length = i
  al : ∀ (j : Nat) (r' : LR) (y : LR × Nat), rs[j]? = some r' → s.waits[j]? = some y → AlikeP y.1 r'
  at_ : ∀ r' ∈ rs, r'.At w r'.blocks ∧ ∀ q ∈ r'.blocks, W.heap.size ≤ q ∧ q < w.heap.size
  dj : ∀ r' ∈ rs, ∀ q ∈ r'.blocks, q ∉ T.ownBlock.toList
/-- what Tick leaves where it sends all again -/
def TickPost (W : World) (g : Nat) (s : LS) (V K : Value) (L : List Nat) (e : Ending) (w' : World) : Prop :=
  ∃ B c rs, e = .returned (.slice B s.waits.length c) ∧ LNX w' g s.again V K L ∧ Touch (fr g V K) W w' ∧ w'.ownsRow W.heap.size 53 25 (.slice B s.waits.length c) s.waits.length (rowC PR.cells (mkPs s.me s.peer ((s.sent : Int) - (s.waits.length : Nat) + 1) (s.came : Nat) rs)) ∧ rs.length = s.waits.length ∧
    (∀ (j : Nat) (r' : LR) (y : LR × Nat), rs[j]? = some r' → s.waits[j]? = some y → AlikeP y.1 r') ∧ ∀ r' ∈ rs, r'.At w' r'.blocks ∧ ∀ q ∈ r'.blocks, W.heap.size ≤ q ∧ q < w'.heap.size
theorem lk_infoP : ∃ i, Try.prog.info? 53 = some i ∧ i.zero = some (.agg (lpCells 0 0 0 0 0 0)) ∧ i.size = 25 ∧ i.bytes = 272 := by
  have h : (Try.prog.info? 53).map (fun i => (i.zero, i.size, i.bytes)) = some (some (.agg (lpCells 0 0 0 0 0 0)), 25, 272) := by kernel_rfl
  obtain ⟨i, hi, hx⟩ := Option.map_eq_some_iff.1 h
  simp only [Prod.mk.injEq] at hx
  exact ⟨i, hi, hx⟩
set_option maxRecDepth 20000 in
set_option maxHeartbeats 4000000 in
theorem tickNot_any {W : World} {g : Nat} {s : LS} {V K : Value} {L : List Nat} (h : LNX W g s V K L) (hok : s.Ok) (hd : s.due = false) :
    Calls Try.prog 15 #[.pointer (some ⟨g, 0, none⟩)] W fun e w' => e = .returned (.slice none 0 0) ∧ LNX w' g s.tick V K L ∧ Touch [g] W w' := by
  have CL := Lib.hid (leads_any h.c0)
  have c7 := h.c7
  have f7 := h.free 7
  have hz : IntKind.i64.wrap ((s.now : Int) + 1) = (s.now : Int) + 1 := by rw [IntKind.wrap_i64]; have := hok.now; omega
  have h1 : LNX (W.setCell ⟨g, 7, none⟩ (.int .i64 ((s.now : Int) + 1))) g s.tick V K L := h.setNow (s.now + 1)
  have T1 : Touch [g] W (W.setCell ⟨g, 7, none⟩ (.int .i64 ((s.now : Int) + 1))) := (Touch.refl _ _).set (.inl (by simp)) _
  obtain ⟨w1, hw1⟩ : ∃ w1, W.setCell ⟨g, 7, none⟩ (.int .i64 ((s.now : Int) + 1)) = w1 := ⟨_, rfl⟩
  rw [hw1] at h1 T1
  have c4 := h1.c4
  have c71 := h1.c7
  obtain ⟨A, c, hVs, hnc, hcm⟩ := h1.v.shape
  rw [hVs] at c4
  have H1 := Lib.hid h1
  have HT1 := Lib.hid T1
  by_cases h0 : s.waits = []
  · have hn0 : s.waits.length = 0 := by rw [h0]; rfl
    rw [hn0] at c4
    clear h h1 T1 hVs hnc hcm hok
    go_enter Try.func15, Try.ntmps15
    go_upto_region 4 with (go_at_call 26; ((with_reducible refine CL.out.mono ?_); rintro e w9 ⟨rfl, rfl⟩))
    clear hw1
    go_quiet (fail)
    go_wp2
    go_ret
    exact ⟨rfl, H1.out.drewN _, HT1.out.drewN _⟩
  · obtain ⟨x, ws, hws⟩ : ∃ x ws, s.waits = x :: ws := by
      cases hx : s.waits with
      | nil => exact absurd hx h0
      | cons x ws => exact ⟨x, ws, rfl⟩
    have hd1 : ¬ (4 ≤ (s.now : Int) + 1 - (x.2 : Nat)) := by
      unfold LS.due at hd
      rw [hws] at hd
      simpa using hd
    have hx2 : x.2 ≤ 1000000 := hok.at_ x (by rw [hws]; simp)
    have hnow := hok.now
    obtain ⟨n, hn⟩ : ∃ n, s.waits.length = n := ⟨_, rfl⟩
    have hn1 : 0 < n := by rw [← hn, hws]; simp
    have hv1 := h1.v
    rw [hVs] at hv1
    rw [hn] at c4 hv1
    obtain ⟨q, o, rfl⟩ := hv1.at_ hn1
    have x0 : w1.cell? ⟨q, o + 21, none⟩ = some (.int .i64 (x.2 : Nat)) := by
      have := hv1.cells (0 * 22 + 21) (.int .i64 (x.2 : Nat)) (by rw [rowC_get wE_size s.waits 0 21 x (by rw [hws]; rfl) (by decide)]; rfl)
      simpa using this
    have i0 : (0 : Int) < (n : Int) := by omega
    have d0 : ((n : Int) == 0) = false := by simp; omega
    have hz3 : IntKind.i64.wrap ((s.now : Int) + 1 - (x.2 : Nat)) = (s.now : Int) + 1 - (x.2 : Nat) := by rw [IntKind.wrap_i64]; omega
    have d1 : decide ((s.now : Int) + 1 - (x.2 : Nat) < 4) = true := by simp; omega
    have c72 : w1.cell? ⟨g, 7, none⟩ = some (.int .i64 ((s.now : Int) + 1)) := c71
    clear h h1 T1 hVs hnc hcm hok hv1 c71 hd
    go_enter Try.func15, Try.ntmps15
    go_upto_region 4 with (go_at_call 26; ((with_reducible refine CL.out.mono ?_); rintro e w9 ⟨rfl, rfl⟩))
    clear hw1
    go_quiet (fail)
    go_wp2
    go_ret
    exact ⟨rfl, H1.out.drewN _, HT1.out.drewN _⟩
set_option maxRecDepth 20000 in
set_option maxHeartbeats 8000000 in
theorem tickDue_any {W : World} {g : Nat} {s : LS} {V K : Value} {L : List Nat} (h : LNX W g s V K L) (hok : s.Ok) (hsm : ∀ x ∈ s.waits, x.1.Sm) (hd : s.due = true) :
    Calls Try.prog 15 #[.pointer (some ⟨g, 0, none⟩)] W (TickPost W g s V K L) := by
  have CL := Lib.hid (leads_any h.c0)
  have c7 := h.c7
  have f7 := h.free 7
  have hz : IntKind.i64.wrap ((s.now : Int) + 1) = (s.now : Int) + 1 := by rw [IntKind.wrap_i64]; have := hok.now; omega
  have h1 : LNX (W.setCell ⟨g, 7, none⟩ (.int .i64 ((s.now : Int) + 1))) g s.tick V K L := h.setNow (s.now + 1)
  have T1 : Touch [g] W (W.setCell ⟨g, 7, none⟩ (.int .i64 ((s.now : Int) + 1))) := (Touch.refl _ _).set (.inl (by simp)) _
  obtain ⟨w1, hw1⟩ : ∃ w1, W.setCell ⟨g, 7, none⟩ (.int .i64 ((s.now : Int) + 1)) = w1 := ⟨_, rfl⟩
  rw [hw1] at h1 T1
  have c4 := h1.c4
  have c72 : w1.cell? ⟨g, 7, none⟩ = some (.int .i64 ((s.now : Int) + 1)) := h1.c7
  obtain ⟨A, c, hVs, hnc, hcm⟩ := h1.v.shape
  rw [hVs] at c4
  obtain ⟨x, ws, hws⟩ : ∃ x ws, s.waits = x :: ws := by
    cases hx : s.waits with
    | nil => unfold LS.due at hd; rw [hx] at hd; cases hd
    | cons x ws => exact ⟨x, ws, rfl⟩
  have hd1 : 4 ≤ (s.now : Int) + 1 - (x.2 : Nat) := by
    unfold LS.due at hd
    rw [hws] at hd
    simpa using hd
  have hx2 : x.2 ≤ 1000000 := hok.at_ x (by rw [hws]; simp)
  have hnow := hok.now
  obtain ⟨n, hn⟩ : ∃ n, s.waits.length = n := ⟨_, rfl⟩
  have hn1 : 0 < n := by rw [← hn, hws]; simp
  have hn6 : n ≤ 1000000 := by have := hok.waits; have := hok.sent; omega
  have hv1 := h1.v
  rw [hVs] at hv1
  rw [hn] at c4 hv1
  obtain ⟨q, o, rfl⟩ := hv1.at_ hn1
  have hVn : V = .slice (some ⟨q, o, none⟩) n c := by rw [hVs]; show Value.slice _ s.waits.length c = _; rw [hn]
  have x0 : w1.cell? ⟨q, o + 21, none⟩ = some (.int .i64 (x.2 : Nat)) := by
    have := hv1.cells (0 * 22 + 21) (.int .i64 (x.2 : Nat)) (by rw [rowC_get wE_size s.waits 0 21 x (by rw [hws]; rfl) (by decide)]; rfl)
    simpa using this
  have i0 : (0 : Int) < (n : Int) := by omega
  have d0 : ((n : Int) == 0) = false := by simp; omega
  have hz3 : IntKind.i64.wrap ((s.now : Int) + 1 - (x.2 : Nat)) = (s.now : Int) + 1 - (x.2 : Nat) := by rw [IntKind.wrap_i64]; omega
  have d1 : decide ((s.now : Int) + 1 - (x.2 : Nat) < 4) = false := by simp; omega
  have CF : Hid (∀ j, Calls Try.prog 29 #[.pointer (some ⟨g, 0, none⟩)] (w1.drewN j) fun e w' => e = .returned (.int .i64 ((s.sent : Int) - (n : Nat) + 1)) ∧ ∃ n, w' = (w1.drewN j).drewN n) := fun j => by
    have := first_any (h1.drewN j) hok.waits hok.sent
    rw [show (s.tick).waits.length = n from hn] at this
    exact this
  have H := Lib.hid h
  have H1 := Lib.hid h1
  have HT1 := Lib.hid T1
  have HN := Lib.hid hn
  have HV := Lib.hid hVn
  have HOK := Lib.hid hok
  have HSM := Lib.hid hsm
  clear h h1 T1 hVs hnc hcm hok hv1 hd hsm hn hVn
  go_enter Try.func15, Try.ntmps15
  go_upto_region 4 with (go_at_call 26; ((with_reducible refine CL.out.mono ?_); rintro e w9 ⟨rfl, rfl⟩))
  clear hw1
  go_quiet (fail)
  go_wp2_with (go_at_call 29; ((with_reducible refine (CF.out _).mono ?_); rintro e w2 ⟨rfl, k2, rfl⟩; have c42 : ((w1.drewN nq).drewN k2).cell? ⟨g, 4, none⟩ = some (.slice (some ⟨q, o, none⟩) n c) := c4))
  have h3 : LNX (w1.drewN (nq + k2)) g s.tick V K L := H1.out.drewN _
  have T3 := HT1.out.drewN (nq + k2)
  have c43 : (w1.drewN (nq + k2)).cell? ⟨g, 4, none⟩ = some (.slice (some ⟨q, o, none⟩) n c) := c4
  obtain ⟨w3, hw3⟩ : ∃ w3, w1.drewN (nq + k2) = w3 := ⟨_, rfl⟩
  rw [hw3] at h3 T3 c43 ⊢
  clear hw3
  have hK3 : Tck w9 w3 g s V K L 0 (.slice none 0 0) [] := ⟨by rw [upd_zero]; exact h3, T3.mono (by simp [fr]), World.ownsRow_nil _ _ _ _, rfl, fun j r' y h => (by cases h), fun r' h => (by cases h), fun r' h => (by cases h)⟩
  have HK3 := Lib.hid hK3
  obtain ⟨fi, hfi⟩ : ∃ fi : Int, (s.sent : Int) - (n : Nat) + 1 = fi := ⟨_, rfl⟩
  have hfb : 0 ≤ fi ∧ fi ≤ 1000001 := by have := HOK.out.waits; have := HOK.out.sent; have := HN.out; omega
  rw [hfi]
  obtain ⟨t, ht⟩ : ∃ t : Nat, s.now + 1 = t := ⟨_, rfl⟩
  have HTT := Lib.hid ht
  have HFI := Lib.hid hfi
  clear h3 T3 hK3 hfi ht H1 HT1 CF c4 c42 c72 x0 d0 d1 hz3 c7 f7 hz CL hd1 hws hnow
  go_loopg [4, 44] (n + 1) (fun z s4 s44 wx => ∃ (i cT : Nat) (B : Option Addr) (rs : List LR), i + z = n + 1 ∧ i ≤ n ∧ s4 = .slice B i cT ∧ s44 = .int .i64 (i : Nat) ∧ Hid (Tck w9 wx g s V K L i (.slice B i cT) rs))
  case atStart => exact ⟨0, 0, none, [], by omega, by omega, rfl, rfl, HK3⟩
  case round =>
    obtain ⟨i, cT, B, rs, hiz, hin, rfl, rfl, HX⟩ := hrel
    by_cases hlt : i < n
    · obtain ⟨y, hy⟩ : ∃ y, s.waits[i]? = some y := ⟨_, List.getElem?_eq_getElem (by rw [HN.out]; exact hlt)⟩
      have i1 : (i : Int) < (n : Int) := by omega
      have hX := HX.out
      have hv := hX.x.v
      rw [HV.out] at hv
      have hv : OwnAt wr 80 22 (.slice (some ⟨q, o, none⟩) n c) n (rowC wE (upd s.waits t i)) := by
        have e : (upd s.waits t i).length = n := by rw [upd_length, HN.out]
        rw [← HTT.out]
        rw [← HTT.out] at e
        have hv' := hv
        rw [show ({s with now := s.now + 1, waits := upd s.waits (s.now + 1) i} : LS).waits.length = n from e] at hv'
        exact hv'
      have hHSS : ∀ w', Below wr.heap.size wr w' → Below wr.heap.size wr w' ∧ w'.cell? ⟨g, 4, none⟩ = some (.slice (some ⟨q, o, none⟩) n c) ∧ w'.cell? ⟨g, 7, none⟩ = some (.int .i64 (t : Nat)) := fun w' hb => ⟨hb, by rw [← HV.out]; exact (hX.x.below hb).c4, by rw [← HTT.out]; exact (hX.x.below hb).c7⟩
      have HSS := Lib.hid hHSS
      have hj : i * 22 + 21 < n * 22 := by omega
      have hlen : (rowC wE (upd s.waits t i)).length = n * 22 := hv.1
      have HCZ : Hid (wr.cell? ⟨q, o + i * 22 + 21, none⟩ = some (.int .i64 (y.2 : Nat))) := by
        have := hv.cells (i * 22 + 21) (.int .i64 (y.2 : Nat)) (by rw [rowC_get wE_size _ i 21 y (by rw [upd_at (by rw [HN.out]; exact hlt)]; exact hy) (by decide)]; rfl)
        rw [Nat.add_assoc]
        exact this
      have HFZ : Hid (wr.frozen? ⟨q, o + i * 22 + 21, none⟩ = false) := ownAt_free hv
      have HVV := Lib.hid hv
      have HY := Lib.hid hy
      clear hX hv hHSS hj hlen hy
      go_upto_region 11 with fail
      --REGION
      refine wp_region_till (fun w' => Below wr.heap.size wr w' ∧ w'.cell? ⟨g, 4, none⟩ = some (.slice (some ⟨q, o, none⟩) n c) ∧ w'.cell? ⟨g, 7, none⟩ = some (.int .i64 (t : Nat))) 11 (by kernel_rfl) ?_ (fun hHeld => ?_)
      · (try dsimp only); exact HSS.out _ (Below.refl _ _).drew
      refine wpAnyT_pure (i := 0) (oi := ⟨_, _, _, _, _, _⟩) (v := ?_) rfl (by kernel_rfl) (by kernel_rfl) (by kernel_rfl) (fun _ _ _ h => h) (by kernel_rfl) (Or.inl ⟨by rfl, ?_⟩) (by assumption) ?_
      rotate_left
      · (intro wS hSw; (try dsimp only at hSw); go_simp <;> with_reducible rfl)
      try simp only [Act.put, List.setIfInBounds_toArray, List.set_cons_zero, List.set_cons_succ]
      refine wpAnyT_pure (i := 1) (oi := ⟨_, _, _, _, _, _⟩) (v := ?_) rfl (by kernel_rfl) (by kernel_rfl) (by kernel_rfl) (fun _ _ _ h => h) (by kernel_rfl) (Or.inl ⟨by rfl, ?_⟩) (by assumption) ?_
      rotate_left
      · (intro wS hSw; (try dsimp only at hSw); go_simp <;> with_reducible rfl)
      try simp only [Act.put, List.setIfInBounds_toArray, List.set_cons_zero, List.set_cons_succ]
      refine wpAnyT_pure (i := 2) (oi := ⟨_, _, _, _, _, _⟩) (v := ?_) rfl (by kernel_rfl) (by kernel_rfl) (by kernel_rfl) (fun _ _ _ h => h) (by kernel_rfl) (Or.inl ⟨by rfl, ?_⟩) (by assumption) ?_
      rotate_left
      · (intro wS hSw; (try dsimp only at hSw); go_simp <;> with_reducible rfl)
      try simp only [Act.put, List.setIfInBounds_toArray, List.set_cons_zero, List.set_cons_succ]
      refine wpAnyT_pure (i := 4) (oi := ⟨_, _, _, _, _, _⟩) (v := ?_) rfl (by kernel_rfl) (by kernel_rfl) (by kernel_rfl) (fun _ _ _ h => h) (by kernel_rfl) (Or.inl ⟨by rfl, ?_⟩) (by assumption) ?_
      rotate_left
      · (intro wS hSw; (try dsimp only at hSw); go_simp <;> with_reducible rfl)
      try simp only [Act.put, List.setIfInBounds_toArray, List.set_cons_zero, List.set_cons_succ]
      refine wpAnyT_pure (i := 5) (oi := ⟨_, _, _, _, _, _⟩) (v := ?_) rfl (by kernel_rfl) (by kernel_rfl) (by kernel_rfl) (fun _ _ _ h => h) (by kernel_rfl) (Or.inl ⟨by rfl, ?_⟩) (by assumption) ?_
      rotate_left
      · (intro wS hSw; (try dsimp only at hSw); go_simp <;> with_reducible rfl)
      try simp only [Act.put, List.setIfInBounds_toArray, List.set_cons_zero, List.set_cons_succ]
      refine wpAnyT_pure (i := 6) (oi := ⟨_, _, _, _, _, _⟩) (v := ?_) rfl (by kernel_rfl) (by kernel_rfl) (by kernel_rfl) (fun _ _ _ h => h) (by kernel_rfl) (Or.inl ⟨by rfl, ?_⟩) (by assumption) ?_
      rotate_left
      · (intro wS hSw; (try dsimp only at hSw); go_simp <;> with_reducible rfl)
      try simp only [Act.put, List.setIfInBounds_toArray, List.set_cons_zero, List.set_cons_succ]
      refine wpAnyT_pure (i := 7) (oi := ⟨_, _, _, _, _, _⟩) (v := ?_) rfl (by kernel_rfl) (by kernel_rfl) (by kernel_rfl) (fun _ _ _ h => h) (by kernel_rfl) (Or.inl ⟨by rfl, ?_⟩) (by assumption) ?_
      rotate_left
      · (intro wS hSw; (try dsimp only at hSw); go_simp <;> with_reducible rfl)
      try simp only [Act.put, List.setIfInBounds_toArray, List.set_cons_zero, List.set_cons_succ]
      refine wpAnyT_take (i := 3) (oi := ⟨_, _, _, _, _, _⟩) (v := ?_) rfl (by kernel_rfl) (by kernel_rfl) (by kernel_rfl) (fun _ _ _ h => h) (by kernel_rfl) (Or.inl ⟨by rfl, ?_⟩) (by assumption) ?_
      rotate_left
      · (intro wS hSw; (try dsimp only at hSw); go_simp <;> with_reducible rfl)
      try simp only [Act.put, List.setIfInBounds_toArray, List.set_cons_zero, List.set_cons_succ]
      refine wpAnyT_take (i := 8) (oi := ⟨_, _, _, _, _, _⟩) (v := ?_) rfl (by kernel_rfl) (by kernel_rfl) (by kernel_rfl) (fun _ _ _ h => h) (by kernel_rfl) (Or.inl ⟨by rfl, ?_⟩) (by assumption) ?_
      rotate_left
      · (intro wS hSw; (try dsimp only at hSw); go_simp <;> with_reducible rfl)
      try simp only [Act.put, List.setIfInBounds_toArray, List.set_cons_zero, List.set_cons_succ]
      refine wpAnyT_pure (i := 9) (oi := ⟨_, _, _, _, _, _⟩) (v := ?_) rfl (by kernel_rfl) (by kernel_rfl) (by kernel_rfl) (fun _ _ _ h => h) (by kernel_rfl) (Or.inl ⟨by rfl, ?_⟩) (by assumption) ?_
      rotate_left
      · (intro wS hSw; (try dsimp only at hSw); go_simp <;> with_reducible rfl)
      try simp only [Act.put, List.setIfInBounds_toArray, List.set_cons_zero, List.set_cons_succ]
      refine wpAnyT_pure (i := 10) (oi := ⟨_, _, _, _, _, _⟩) (v := ?_) rfl (by kernel_rfl) (by kernel_rfl) (by kernel_rfl) (fun _ _ _ h => h) (by kernel_rfl) (Or.inl ⟨by rfl, ?_⟩) (by assumption) ?_
      rotate_left
      · (intro wS hSw; (try dsimp only at hSw); go_simp <;> with_reducible rfl)
      try simp only [Act.put, List.setIfInBounds_toArray, List.set_cons_zero, List.set_cons_succ]
      refine wpAnyT_ready (rs := [11]) (by kernel_rfl) (by simp) ?_
      refine AllReadyT.past (o := ⟨_, _, _, _, _, _⟩) rfl (by kernel_rfl) (fun K hK => ?_) AllReadyT.nil
      have fz : wr.drew.frozen? ⟨q, o + i * 22 + 21, none⟩ = false := HFZ.out
      have cz : wr.drew.cell? ⟨q, o + i * 22 + 21, none⟩ = some (.int .i64 (y.2 : Nat)) := HCZ.out
      go_simp
      refine hK.out _ _ ?_
      clear hK K
      try simp only [Act.put]
      refine wpAnyT_done (by kernel_rfl) ?_ _
      --END
      go_upto_region 12 with fail
      have hX := HX.out
      have hgV : ∀ z ∈ V.ownBlock.toList, z = q := fun z hz => by rw [HV.out] at hz; simpa [Value.ownBlock, eq_comm] using hz
      have hqf : q ∈ fr g V K := mem_fr.2 (.inr (.inl (by rw [HV.out]; rfl)))
      have hqW : q < w9.heap.size := H.out.flt q hqf
      have T4 : Touch [q] wr (wr.drew.setCell ⟨q, o + i * 22 + 21, none⟩ (.int .i64 (t : Nat))) := (Touch.refl _ _).drew.set (.inl (by simp)) _
      have hv4 : OwnAt (wr.drew.setCell ⟨q, o + i * 22 + 21, none⟩ (.int .i64 (t : Nat))) 80 22 (.slice (some ⟨q, o, none⟩) n c) n (rowC wE (upd s.waits t (i + 1))) := by
        have := (OwnAt.below HVV.out (w1 := wr.drew) (Below.refl _ wr).drew).set (i * 22 + 21) (.int .i64 (t : Nat))
        rw [rowC_set wE_size _ i 21 y (y.1, t) _ (by rw [upd_at (by rw [HN.out]; exact hlt)]; exact HY.out) (by decide) rfl, ← upd_succ HY.out, ← Nat.add_assoc] at this
        exact this
      have hl4 : ∀ x ∈ upd s.waits t (i + 1), x.1.At wr L := fun x hx => by
        obtain ⟨z, hz, e, _⟩ := upd_mem hx
        rw [← e]
        exact (H.out.lw z hz).touch hX.t (fun u hu v => by
          have := H.out.lf u hu
          rcases mem_fr.1 v with e | e | e
          · exact this.1 e
          · exact this.2.1 e
          · exact this.2.2 e)
      have h4 : LNX (wr.drew.setCell ⟨q, o + i * 22 + 21, none⟩ (.int .i64 (t : Nat))) g {s with now := s.now + 1, waits := upd s.waits t (i + 1)} V K L := lnx_turn hX.x (T4.mono (by simp [HV.out, Value.ownBlock])) (n := n) (by rw [upd_length, HN.out]) (by rw [HV.out]; exact hv4) (fun x hx => (hl4 x hx).touch T4 (fun u hu v => by simp at v; subst v; exact (H.out.lf _ hu).2.1 (by rw [HV.out]; rfl)))
      have hws4 : wr.heap.size ≤ (wr.drew.setCell ⟨q, o + i * 22 + 21, none⟩ (.int .i64 (t : Nat))).heap.size := T4.size
      have r4 := T4.row hX.row (fun z hz v => by have := (hX.row.lt z hz).1; simp at v; omega)
      have TW4 := hX.t.trans T4 (fun z hz => .inl (by simp at hz; subst hz; exact hqf))
      have at4 : ∀ r' ∈ rs, r'.At (wr.drew.setCell ⟨q, o + i * 22 + 21, none⟩ (.int .i64 (t : Nat))) r'.blocks ∧ ∀ z ∈ r'.blocks, w9.heap.size ≤ z ∧ z < (wr.drew.setCell ⟨q, o + i * 22 + 21, none⟩ (.int .i64 (t : Nat))).heap.size := fun r' hr' => by
        obtain ⟨a1, a2⟩ := hX.at_ r' hr'
        exact ⟨a1.touch T4 (fun z hz v => by have := (a2 z hz).1; simp at v; omega), fun z hz => ⟨(a2 z hz).1, Nat.lt_of_lt_of_le (a2 z hz).2 T4.size⟩⟩
      obtain ⟨w4, hw4⟩ : ∃ w4, wr.drew.setCell ⟨q, o + i * 22 + 21, none⟩ (.int .i64 (t : Nat)) = w4 := ⟨_, rfl⟩
      rw [hw4] at h4 r4 TW4 at4 hv4 hws4
      rw [show (wr.setCell ⟨q, o + i * 22 + 21, none⟩ (.int .i64 (t : Nat))).drew = w4 from hw4]
      clear hw4 T4
      have c4 : w4.cell? ⟨g, 4, none⟩ = some (.slice (some ⟨q, o, none⟩) n c) := by rw [← HV.out]; exact h4.c4
      have hyx : (upd s.waits t (i + 1))[i]? = some (y.1, t) := by
        rw [upd_succ HY.out, List.getElem?_set_self (by rw [upd_length, HN.out]; exact hlt)]
      have hrl : w4.rangeAt q (o + i * 22) y.1.cells.toList := fun j v hj => by
        have hj' : j < 21 := (List.getElem?_eq_some_iff.1 hj).1
        rw [Nat.add_assoc]
        refine hv4.cells (i * 22 + j) v ?_
        rw [rowC_get wE_size _ i j _ hyx (by omega), ← hj]
        rw [Array.getElem?_toList]
        rcases j with _ | _ | _ | _ | _ | _ | _ | _ | _ | _ | _ | _ | _ | _ | _ | _ | _ | _ | _ | _ | _ | j <;> first | rfl | omega
      have hya := hl4 (y.1, t) (List.mem_of_getElem? hyx)
      have hya4 : y.1.At w4 L := h4.lw (y.1, t) (List.mem_of_getElem? hyx)
      have hz5 : IntKind.i64.wrap (fi + (i : Int)) = fi + (i : Int) := by rw [IntKind.wrap_i64]; omega
      have CP : Hid (Calls Try.prog 28 #[.pointer (some ⟨g, 0, none⟩), .int .i64 (fi + (i : Int)), .agg y.1.cells] w4 fun e w' => ∃ r', e = .returned (.agg (PR.mk s.me s.peer (fi + (i : Int)) s.came r').cells) ∧ Below w4.heap.size w4 w' ∧ Alike w4 w' y.1 r') := packet_any h4 _ y.1 hya4.a hya4.b (HSM.out y (List.mem_of_getElem? HY.out))
      have hszl : (Try.prog.info? 51).map (·.size) = some y.1.cells.toList.length := lk_infoL
      obtain ⟨i9, hi9, hz9, hs9, hb9⟩ := lk_infoP
      have HRL := Lib.hid hrl
      have H4 := Lib.hid h4
      have HR4 := Lib.hid r4
      have HT4 := Lib.hid TW4
      have HA4 := Lib.hid at4
      have HDJ := Lib.hid hX.dj
      have HWS := Lib.hid hws4
      clear hX h4 r4 TW4 at4 hv4 hl4 hrl hya hya4 HVV HFZ HCZ HSS
      go_wp2_with (first
        | (refine wpList_load_mid rfl 51 (.tmp 69) rfl q (o + i * 22) rfl y.1.cells.toList _ HRL.out Try.underlying51 rfl hszl ?_)
        | (go_at_call 28; (with_reducible refine CP.out.mono ?_); rintro e w5 ⟨r', rfl, hb5, ha5⟩; have HB5 := Lib.hid hb5; have HA5 := Lib.hid ha5; clear hb5 ha5)
        | (at_builtin; go_must (refine wpList_append_any rfl (.tmp 58) (.tmp 72) 28 rfl w9.heap.size 53 i9 (.agg (lpCells 0 0 0 0 0 0)) 25 272 Try.underlying28 hi9 hz9 hs9 hb9 rfl (by decide) (.slice B i cT) i (rowC PR.cells (mkPs s.me s.peer ((s.sent : Int) - (s.waits.length : Nat) + 1) (s.came : Nat) rs)) rfl ((lk_below HR4.out HB5.out).alloc _) (.slice (some ⟨w5.heap.size, 0, none⟩) 1 1) 1 (rowC PR.cells [PR.mk s.me s.peer (fi + (i : Int)) s.came r']) rfl (.inr ⟨⟨w5.heap.size, 0, none⟩, 1, rfl, rfl, lk_new_row w5 (PR.mk s.me s.peer (fi + (i : Int)) s.came r').cells _⟩) (rowC_all (enc := PR.cells) (l := [PR.mk s.me s.peer (fi + (i : Int)) s.came r']) (fun x hx => by simp at hx; subst hx; exact PR.one HA5.out.at_.sl)) (by unfold maxLen; omega) (by omega) (by have := HT4.out.size; have := HB5.out.size; simp; omega) ?_); intro B6 c6 w6 ho6 hg6 hs6; have HO6 := Lib.hid ho6; have HG6 := Lib.hid hg6; have HS6 := Lib.hid hs6; clear ho6 hg6 hs6))
      go_roundg (gk - 1)
      case measure => omega
      case rel =>
        have T6 : Touch (Value.slice B i cT).ownBlock.toList w5 w6 := ((Touch.refl _ w5).alloc _).grown HG6.out (fun z hz => .inl (by simp [hz]))
        have hTW : ∀ z ∈ (Value.slice B i cT).ownBlock.toList, w9.heap.size ≤ z ∧ z < wr.heap.size := fun z hz => by
          have := HX.out.row.lt z (by simpa using hz); exact this
        have hs4 : wr.heap.size ≤ w4.heap.size ∧ w9.heap.size ≤ w4.heap.size := ⟨HWS.out, HT4.out.size⟩
        refine ⟨i + 1, c6, B6, rs ++ [r'], by omega, by omega, rfl, by go_num, ⟨?_, ?_, ?_, by rw [List.length_append, HX.out.n]; rfl, fun j r2 y2 h1 h2 => ?_, fun r2 hr2 => ?_, fun r2 hr2 u hu v => ?_⟩⟩
        · have h6 := (H4.out.below HB5.out).touch T6 (fun z hz v => by have := H.out.flt z hz; have := (hTW z v).1; omega) (fun z hz v => by have := H.out.lt z hz; have := (hTW z v).1; omega)
          rw [← HTT.out] at h6
          exact h6
        · exact (HT4.out.trans (Touch.ofBelow (F := []) HB5.out) (by simp)).trans T6 (fun z hz => .inr (hTW z hz).1)
        · rw [mkPs_succ, rowC_append, HX.out.n, HN.out, HFI.out]
          have := HO6.out
          rw [HN.out, HFI.out] at this
          exact this
        · by_cases hjl : j < rs.length
          · rw [List.getElem?_append_left hjl] at h1
            exact HX.out.al j r2 y2 h1 h2
          · have hlt2 := (List.getElem?_eq_some_iff.1 h1).1
            rw [List.length_append] at hlt2
            simp at hlt2
            have hn := HX.out.n
            obtain rfl : j = i := by omega
            rw [List.getElem?_append_right (by omega), hn, Nat.sub_self] at h1
            simp at h1
            subst h1
            rw [HY.out] at h2
            injection h2 with h2
            subst h2
            exact HA5.out.p
        · rcases List.mem_append.1 hr2 with z | z
          · obtain ⟨a1, a2⟩ := HA4.out r2 z
            obtain ⟨_, a3⟩ := HX.out.at_ r2 z
            have hdj := HDJ.out r2 z
            exact ⟨(a1.below HB5.out).touch T6 (fun u hu v => hdj u hu v), fun u hu => ⟨(a2 u hu).1, by have := (a2 u hu).2; have := HB5.out.size; have := T6.size; omega⟩⟩
          · simp at z
            subst z
            refine ⟨HA5.out.at_.touch T6 (fun u hu v => by have := (HA5.out.new u hu).1; have := (hTW u v).2; omega), fun u hu => ⟨by have := (HA5.out.new u hu).1; omega, by have := (HA5.out.new u hu).2; have := T6.size; omega⟩⟩
        · rcases HS6.out u (by simpa using v) with e | e
          · rcases List.mem_append.1 hr2 with z | z
            · exact HDJ.out r2 z u hu (by simpa using e)
            · simp at z; subst z; have := (HA5.out.new u hu).1; have := (hTW u (by simpa using e)).2; omega
          · simp at e
            rcases List.mem_append.1 hr2 with z | z
            · have := ((HA4.out r2 z).2 u hu).2; have := HB5.out.size; omega
            · simp at z; subst z; have := (HA5.out.new u hu).2; omega
    · obtain rfl : i = n := by omega
      go_wp2_with fail
      go_ret
      have hX := HX.out
      have hn := HN.out
      subst hn
      refine ⟨B, cT, rs, rfl, ?_, hX.t, hX.row, hX.n, hX.al, hX.at_⟩
      have := hX.x
      rw [upd_all] at this
      exact this
end Go.Proofs.Ytfemdfidfomchaa
