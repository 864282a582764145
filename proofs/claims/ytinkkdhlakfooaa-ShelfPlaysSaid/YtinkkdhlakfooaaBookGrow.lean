/-
  The walks of the book of lists: growItems.
-/
import Derived.Test.YtinkkdhlakfooaaBookPut
namespace Go.Proofs.Ytinkkdhlakfooaa
open Go.RowKit

/-- a slice stays as it was, where a longer one over the same block does -/
theorem own_share {W1 W2 : World} {b b' e s n N q c c' : Nat} {xs XS : List Value} (hv : W1.ownsRow b e s (.slice (some ⟨q, 0, none⟩) n c) n xs) (hl : W1.ownsRow b' e s (.slice (some ⟨q, 0, none⟩) N c') N XS) (hn : n ≤ N)
    (h2 : W2.ownsRow b' e s (.slice (some ⟨q, 0, none⟩) N c') N XS) : W2.ownsRow b e s (.slice (some ⟨q, 0, none⟩) n c) n xs := by
  rcases hv.2 with ⟨h0, _⟩ | ⟨g1, cap1, cur1, a1, b1, c1, d1, e1, f1, t1⟩
  · cases h0
  rcases hl.2 with ⟨h0, _⟩ | ⟨g2, cap2, cur2, a2, b2, c2, d2, e2, f2, t2⟩
  · cases h0
  rcases h2.2 with ⟨h0, _⟩ | ⟨g3, cap3, cur3, a3, b3, c3, d3, e3, f3, t3⟩
  · cases h0
  injection a1 with k1 _ k2
  injection k1 with k1
  injection k1 with k1
  injection a2 with k3 _ k4
  injection k3 with k3
  injection k3 with k3
  injection a3 with k5 _ k6
  injection k5 with k5
  injection k5 with k5
  subst k1 k2 k3 k4 k5 k6
  rw [c1] at c2
  injection c2 with c2
  injection c2 with c2
  subst c2
  refine ⟨hv.1, .inr ⟨q, c, cur3, rfl, b1, c3, d1, e1, by rw [f3, ← f2, f1], ?_⟩⟩
  have hle : n * s ≤ N * s := Nat.mul_le_mul_right _ hn
  have h4 : (List.take (N * s) cur3.toList).take (n * s) = (List.take (N * s) cur1.toList).take (n * s) := by rw [t3, t2]
  rw [List.take_take, List.take_take, Nat.min_eq_left hle] at h4
  rw [h4, t1]
/-- what an append onto l leaves of a slice v that lies in l's block, or elsewhere -/
theorem own_beside {W1 W2 : World} {n N c : Nat} {A : Option Addr} {l : Value} {xs XS : List Value} (hv : W1.ownsRow 0 53 2 (.slice A n c) n xs) (hl : W1.ownsRow 0 53 2 l N XS) (hn : n ≤ N)
    (hg : W1.grownBy W2 l.ownBlock) (h2 : W2.ownsRow 0 53 2 l N XS) : W2.ownsRow 0 53 2 (.slice A n c) n xs := by
  rcases A with _ | ad
  · rcases hv.2 with ⟨h0, h1⟩ | ⟨g1, cap1, cur1, a1, _⟩
    · rw [h0]
      have : xs = [] := List.eq_nil_of_length_eq_zero (by rw [hv.1, h1])
      subst this
      rw [h1]
      exact World.ownsRow_nil _ _ _ _
    · cases a1
  · by_cases h : l.ownBlock = some ad.block
    · obtain ⟨B, d, rfl⟩ := own_slice hl
      rcases B with _ | bd
      · cases h
      rcases hv.2 with ⟨h0, _⟩ | ⟨g1, cap1, cur1, a1, _⟩
      · cases h0
      rcases hl.2 with ⟨h0, _⟩ | ⟨g2, cap2, cur2, a2, _⟩
      · cases h0
      injection a1 with k1 _ k2
      injection k1 with k1
      subst k1 k2
      injection a2 with k3 _ k4
      injection k3 with k3
      subst k3 k4
      have hq : g2 = g1 := Option.some.inj h
      subst hq
      exact own_share hv hl hn h2
    · exact hv.kept hg (.inr (fun e => h e.symm))

theorem markL_append (i N m : Nat) : markL i 0 N ++ markL i N m = markL i 0 (N + m) := by
  simp only [markL, ← List.map_append]
  congr 1
  have h := List.range'_append_1 (s := 0) (m := N) (n := m)
  simpa using h
/-- a list that is being grown: the slice v of the book stays, l is the longer one -/
structure GR (wo wx : World) (i : Nat) (v : Value) (n0 : Nat) (l : Value) (N : Nat) : Prop where
  le : n0 ≤ N
  old : wx.ownsRow 0 53 2 v n0 (itemCells (markL i 0 n0))
  row : wx.ownsRow 0 53 2 l N (itemCells (markL i 0 N))
  at_ : ∀ q ∈ blk l, q ∈ blk v ∨ wo.heap.size ≤ q
  touch : Touch (blk v) wo wx
theorem GR.start {wo : World} {i n0 : Nat} {v : Value} (h : wo.ownsRow 0 53 2 v n0 (itemCells (markL i 0 n0))) : GR wo wo i v n0 v n0 := ⟨Nat.le_refl _, h, h, fun _ hq => .inl hq, Touch.refl _ _⟩
theorem GR.below {wo wx w1 : World} {i n0 N : Nat} {v l : Value} (h : GR wo wx i v n0 l N) (hb : Below wx.heap.size wx w1) : GR wo w1 i v n0 l N :=
  ⟨h.le, own_step h.old hb, own_step h.row hb, h.at_, h.touch.trans (Touch.ofBelow (F := []) hb) (by simp)⟩
theorem GR.grown {wo w1 w2 : World} {i n0 N m : Nat} {v l l' : Value} (h : GR wo w1 i v n0 l N) (ho : w2.ownsRow 0 53 2 l' (N + m) (itemCells (markL i 0 N) ++ itemCells (markL i N m))) (hg : w1.grownBy w2 l.ownBlock)
    (hold : w2.ownsRow 0 53 2 l N (itemCells (markL i 0 N))) (hs : SameOrNew w1 l l') : GR wo w2 i v n0 l' (N + m) := by
  obtain ⟨A, c, rfl⟩ := own_slice h.old
  refine ⟨by have := h.le; omega, own_beside h.old h.row h.le hg hold, by rw [← itemCells_append, markL_append] at ho; exact ho, (fun q hq => ?_), h.touch.grown hg (fun k hk => h.at_ k (mem_blk.2 hk))⟩
  rcases hs q (mem_blk.1 hq) with h1 | h1
  · exact h.at_ q (mem_blk.2 h1)
  · exact .inr (Nat.le_trans h.touch.size h1)
def NewMarksF (W : World) (i f m : Nat) (e : Ending) (w' : World) : Prop :=
  ∃ A c, e = .returned (.slice A m c) ∧ w'.ownsRow W.heap.size 53 2 (.slice A m c) m (itemCells (markL i f m)) ∧ Below W.heap.size W w'
theorem NewItems.marksF {W w' : World} {i f m : Nat} {e : Ending} (h : NewItems W (markL i f m) e w') : NewMarksF W i f m e w' := by
  obtain ⟨A, c, h1, h2, h3⟩ := h
  rw [markL_length] at h1 h2
  exact ⟨A, c, h1, h2, h3⟩
theorem BL.touch {W W1 : World} {g : Nat} {va : Value} {es : List (Value × List Item)} {G : List Nat} (h : BL W g va es) (ht : Touch G W W1) (hn : ∀ q, q < W.heap.size → q ∈ g :: (blk va ++ fps es) → q ∉ G) : BL W1 g va es := by
  have hg : g ∉ G := hn g h.lt (by simp)
  refine ⟨Nat.lt_of_lt_of_le h.lt ht.size, fun j a b c => (ht.cell (p := ⟨g, j, .none⟩) h.lt hg).trans (h.none j a b c), (ht.cell (p := ⟨g, 6, .none⟩) h.lt hg).trans h.c6,
    ht.row h.own6 (fun q hq => hn q (h.own6.lt q hq).2 (by simp [mem_blk.2 hq])), fun x hx => (h.rows x hx).touch ht (fun q hq => hn q ((h.rows x hx).lt hq) (by
      simp only [List.mem_cons, List.mem_append]
      exact .inr (.inr (mem_fps.2 ⟨x, hx, hq⟩)))), h.apart⟩
theorem BL.ltF {W : World} {g : Nat} {va : Value} {es : List (Value × List Item)} (h : BL W g va es) : ∀ q ∈ g :: (blk va ++ fps es), q < W.heap.size := by
  intro q hq
  simp only [List.mem_cons, List.mem_append] at hq
  rcases hq with rfl | hq | hq
  · exact h.lt
  · exact row_lt h.own6 hq
  · obtain ⟨x, hx, hq⟩ := mem_fps.1 hq; exact (h.rows x hx).lt hq
def Marked (es : List (Value × List Item)) : Prop := ∀ j (h : j < es.length), (es[j]).2 = markL j 0 (es[j]).2.length
def GrowPost (W : World) (g : Nat) (va : Value) (es : List (Value × List Item)) (e : Ending) (w' : World) : Prop :=
  ∃ A c ys, ys.length = es.length ∧ e = .returned (.slice A es.length c) ∧ w'.ownsRow W.heap.size 49 1 (.slice A es.length c) es.length (ys.map (·.1)) ∧ (∀ x ∈ ys, rowOk w' x) ∧ Marked ys ∧ (∀ x ∈ ys, x.2.length ≤ 100000) ∧ BL w' g va es ∧ Touch (fps es) W w'

def GrowRel (W wx : World) (g : Nat) (va : Value) (es : List (Value × List Item)) (i : Nat) (vo : Value) (ys : List (Value × List Item)) : Prop :=
  ys.length = i ∧ wx.ownsRow W.heap.size 49 1 vo i (ys.map (·.1)) ∧ (∀ x ∈ ys, rowOk wx x) ∧ Marked ys ∧ (∀ x ∈ ys, x.2.length ≤ 100000) ∧
    (∀ q ∈ fps ys, q ∉ blk vo ∧ (q < W.heap.size → ∃ j, ∃ h : j < es.length, j < i ∧ q ∈ blk (es[j]).1)) ∧ BL wx g va es ∧ Touch (fps es) W wx
theorem grow_end {W wo w2 w3 : World} {g i m N2 : Nat} {va vo vo' : Value} {A2 : Option Addr} {c2 : Nat} {o : Obj} {es ys : List (Value × List Item)} (hlt : ∀ q ∈ fps es, q < W.heap.size) (h : GrowRel W wo g va es i vo ys) (hg0 : g < W.heap.size) (hva : ∀ q ∈ blk va, q < W.heap.size)
    (hi : i < es.length) (hm : (es[i]).2 = markL i 0 m) (hN : N2 ≤ 100000) (hv : ∃ A c, (es[i]).1 = .slice A m c) (hG : GR wo w2 i (es[i]).1 m (.slice A2 N2 c2) N2)
    (ho : w3.ownsRow W.heap.size 49 1 vo' (i + 1) (ys.map (·.1) ++ [.slice A2 N2 c2])) (hg : (w2.alloc o).grownBy w3 vo.ownBlock) (hs : SameOrNew (w2.alloc o) vo vo') :
    GrowRel W w3 g va es (i + 1) vo' (ys ++ [(.slice A2 N2 c2, markL i 0 N2)]) := by
  obtain ⟨hY, hO, hR, hMY, hLY, hF, hB, hT⟩ := h
  have hml : (markL i 0 N2).length = N2 := markL_length i 0 N2
  have lo : ∀ q ∈ blk vo, W.heap.size ≤ q ∧ q < wo.heap.size := fun q hq => hO.lt q (mem_blk.1 hq)
  have lv : ∀ q ∈ blk (es[i]).1, q < W.heap.size := fun q hq => hlt q (fps_at hi hq)
  have hnd : (fps es).Nodup := (List.nodup_append.1 (List.nodup_cons.1 hB.apart).2).2.1
  have T2 : Touch (blk (es[i]).1) wo w2 := hG.touch
  have T3 : Touch (blk vo) w2 w3 := ((Touch.refl _ w2).alloc o).grown hg (fun k hk => .inl (mem_blk.2 hk))
  have z2 := T2.size
  have z3 := T3.size
  have zW := hT.size
  have hrow2 : rowOk w2 ((es[i]).1, (es[i]).2) := by
    obtain ⟨A, c, e⟩ := hv
    refine ⟨A, c, ?_, ?_⟩
    · show (es[i]).1 = .slice A (es[i]).2.length c
      rw [hm, markL_length, e]
    · show Row w2 (es[i]).1 (es[i]).2
      rw [Row, hm, markL_length]
      exact hG.old
  have hB2 : BL w2 g va es := by
    have h9 := hB.turn hi T2 hrow2
    rwa [show es.set i ((es[i]).1, (es[i]).2) = es from List.set_getElem_self hi] at h9
  have hB3 : BL w3 g va es := hB2.touch T3 (fun q _ hq h9 => by
    have h8 := (lo q h9).1
    simp only [List.mem_cons, List.mem_append] at hq
    rcases hq with rfl | hq | hq
    · omega
    · have := hva q hq; omega
    · have := hlt q hq; omega)
  have hX : rowOk w2 (.slice A2 N2 c2, markL i 0 N2) := ⟨A2, c2, by show _ = Value.slice A2 (markL i 0 N2).length c2; rw [hml], by rw [Row, hml]; exact hG.row⟩
  have hXn : ∀ q ∈ blk (.slice A2 N2 c2), q ∉ blk vo := fun q hq h9 => by
    have h8 := lo q h9
    rcases hG.at_ q hq with h7 | h7
    · have := lv q h7; omega
    · omega
  have hR2 : ∀ x ∈ ys, rowOk w2 x := fun x hx => (hR x hx).touch T2 (fun q hq h9 => by
    obtain ⟨j, hj, hji, hq2⟩ := (hF q (mem_fps.2 ⟨x, hx, hq⟩)).2 (lv q h9)
    exact fps_apart hnd hj hi (by omega) hq2 h9)
  refine ⟨by simp [hY], by simpa using ho, ?_, ?_, ?_, ?_, hB3, ?_⟩
  · intro x hx
    rcases List.mem_append.1 hx with hx | hx
    · exact (hR2 x hx).touch T3 (fun q hq => (hF q (mem_fps.2 ⟨x, hx, hq⟩)).1)
    · simp at hx; subst hx; exact hX.touch T3 hXn
  · intro j hj
    by_cases h9 : j < ys.length
    · rw [List.getElem_append_left h9]; exact hMY j h9
    · have e : j = ys.length := by simp at hj; omega
      subst e
      rw [List.getElem_append_right (Nat.le_refl _)]
      simp [hml, hY]
  · intro x hx
    rcases List.mem_append.1 hx with hx | hx
    · exact hLY x hx
    · simp at hx; subst hx; show (markL i 0 N2).length ≤ _; omega
  · intro q hq
    rw [fps_snoc] at hq
    rcases List.mem_append.1 hq with hq | hq
    · obtain ⟨x, hx, hqx⟩ := mem_fps.1 hq
      have hq2 := (hR2 x hx).lt hqx
      refine ⟨fun h9 => ?_, fun h9 => ?_⟩
      · rcases hs q (mem_blk.1 h9) with h8 | h8
        · exact (hF q hq).1 (mem_blk.2 h8)
        · simp at h8; omega
      · obtain ⟨j, hj, hji, h7⟩ := (hF q hq).2 h9
        exact ⟨j, hj, by omega, h7⟩
    · have hq2 : q < w2.heap.size := row_lt hG.row hq
      refine ⟨fun h9 => ?_, fun h9 => ?_⟩
      · rcases hs q (mem_blk.1 h9) with h8 | h8
        · exact hXn q hq (mem_blk.2 h8)
        · simp at h8; omega
      · rcases hG.at_ q hq with h7 | h7
        · exact ⟨i, hi, by omega, h7⟩
        · omega
  · exact (hT.trans T2 (fun x hx => .inl (fps_at hi hx))).trans T3 (fun x hx => .inr (lo x hx).1)

set_option maxRecDepth 100000 in
set_option maxHeartbeats 8000000 in
theorem growItems_any (g : Nat) (va : Value) (es : List (Value × List Item)) (W : World) (hB : BL W g va es) (he : es.length ≤ 250) (hl : ∀ x ∈ es, x.2.length ≤ 90000) (hM : Marked es) :
    Calls Try.prog 57 #[.pointer (some ⟨g, 0, none⟩)] W (GrowPost W g va es) := by
  obtain ⟨A6, d6, rfl⟩ := own_slice hB.own6
  obtain ⟨i0, z0, hi0, hz, hs2, hb32, hzc⟩ := infoItem
  obtain ⟨i1, z1, hi1, hz1, hs1, hb24, hzc1⟩ := infoRow
  have HB := Lib.hid hB
  have HL := Lib.hid hl
  have HM := Lib.hid hM
  obtain ⟨n, hn⟩ : ∃ n, es.length = n := ⟨_, rfl⟩
  have HN := Lib.hid hn
  rw [hn] at he
  clear hB hn hl hM
  go_enter Try.func57, Try.ntmps57
  go_wp2
  go_loopg [3, 4] (n + 1) (fun gh s3 s4 wx => ∃ (i : Nat) (A : Option Addr) (c : Nat) (ys : List (Value × List Item)), i + gh = n + 1 ∧ i ≤ n ∧ s3 = .slice A i c ∧ s4 = .int .i64 i ∧ Hid (GrowRel W wx g (.slice A6 es.length d6) es i (.slice A i c) ys))
  case atStart => exact ⟨0, none, 0, [], by omega, by omega, rfl, rfl, ⟨rfl, World.ownsRow_nil _ _ _ _, (fun x hx => by cases hx), (fun j h => by cases h), (fun x hx => by cases hx), (fun q hq => by cases hq), HB.out, Touch.refl _ _⟩⟩
  case round =>
    obtain ⟨i, A, c, ys, hig, hi, rfl, rfl, HGR⟩ := hrel
    have HBi : Hid (BL wr g (.slice A6 es.length d6) es) := HGR.out.2.2.2.2.2.2.1
    have HO : Hid (wr.ownsRow W.heap.size 49 1 (.slice A i c) i (ys.map (·.1))) := HGR.out.2.1
    have c6 := HBi.out.c6
    rw [HN.out] at c6
    by_cases hlt : i < n
    · have h1 : i < es.length := by rw [HN.out]; exact hlt
      have hrow := HBi.out.rows _ (List.getElem_mem h1)
      obtain ⟨q6, rfl⟩ := own_block HB.out.own6 (by omega)
      have p6 : wr.cell? ⟨q6, i, none⟩ = some (es[i]).1 := (HBi.out.own6.cellAt i (by omega)).trans (fst_at es i h1)
      have hlen := HL.out _ (List.getElem_mem h1)
      have hmk := HM.out i h1
      obtain ⟨B, d, e1, r1⟩ := hrow
      have HE := Lib.hid e1
      rw [e1] at p6
      obtain ⟨m, hm⟩ : ∃ m, (es[i]).2.length = m := ⟨_, rfl⟩
      have HMm := Lib.hid hm
      rw [hm] at p6 hlen hmk
      have HMK := Lib.hid hmk
      have HR0 : Hid (wr.ownsRow 0 53 2 (.slice B m d) m (itemCells (markL i 0 m))) := by
        rw [Row, e1, hm, hmk] at r1
        exact r1
      clear r1 e1 hm hmk
      obtain ⟨gz, rfl⟩ : ∃ gz : Nat, gz = gk := ⟨_, rfl⟩
      obtain ⟨wo, rfl⟩ : ∃ wo : World, wo = wr := ⟨_, rfl⟩
      go_wp2
      clear p6 c6
      go_loopg [5, 6] 13 (fun gh s5 s6 wx => ∃ (t N : Nat) (Al : Option Addr) (cl : Nat), t + gh = 13 ∧ t ≤ 12 ∧ m + t ≤ N ∧ N ≤ m + t ∧ s5 = .slice Al N cl ∧ s6 = .int .i64 t ∧ Hid (GR wo wx i (.slice B m d) m (.slice Al N cl) N))
      case atStart => exact ⟨0, m, B, d, by omega, by omega, by omega, by omega, rfl, rfl, GR.start HR0.out⟩
      case round =>
        obtain ⟨t, N, Al, cl, htg, ht, hN1, hN2, rfl, rfl, HG⟩ := hrel
        by_cases h12 : t < 12
        · have hd : decide ((t : Int) < 12) = true := by simp; omega
          have CM : Hid (∀ W1, Calls Try.prog 87 #[.int .i64 (i : Nat), .int .i64 (N : Nat), .int .i64 1] W1 (NewMarksF W1 i N 1)) := fun W1 => (markItems_any i N 1 W1 (by omega) (by omega) (by omega)).mono fun _ _ h => h.marksF
          go_wp2_with (first
            | (go_at_call 87; ((with_reducible refine (CM.out _).mono ?_); rintro e w1 ⟨Am, cm, rfl, hown1, hb1⟩; obtain ⟨qm, rfl⟩ := own_at hown1 (by omega); have HG1 := Lib.hid (HG.out.below hb1); have HO1 := Lib.hid hown1; clear hb1 hown1))
            | (at_builtin; go_must (refine wpList_append_old rfl (.tmp 27) (.tmp 31) 49 rfl 0 53 i0 z0 2 32 Try.underlying49 hi0 hz hs2 hb32 hzc (by decide) (.slice Al N cl) N (itemCells (markL i 0 N)) rfl HG1.out.row ⟨qm, 0, none⟩ 1 cm (itemCells (markL i N 1)) rfl (by rw [itemCells_length, markL_length]) (HO1.out.cells (g := qm) rfl) (items_one _) (by unfold maxLen; omega) (by omega) (Nat.zero_le _) ?_); intro x2 w2 ho2 hg2 hnil2 hold2 hsn2; obtain ⟨A2, c2, rfl⟩ := own_slice ho2; have HG2 := Lib.hid (HG1.out.grown ho2 hg2 hold2 hsn2); clear ho2 hg2 hnil2 hold2 hsn2))
          go_roundg (gk - 1)
          case measure => omega
          case rel => exact ⟨t + 1, N + 1, A2, c2, by omega, by omega, by omega, by omega, rfl, by go_num, HG2⟩
        · obtain rfl : t = 12 := by omega
          have hd : decide (((12 : Nat) : Int) < 12) = false := by decide
          have CM : Hid (∀ W1, Calls Try.prog 87 #[.int .i64 (i : Nat), .int .i64 (N : Nat), .int .i64 60] W1 (NewMarksF W1 i N 60)) := fun W1 => (markItems_any i N 60 W1 (by omega) (by omega) (by omega)).mono fun _ _ h => h.marksF
          have HlW := Lib.hid (fun q hq => HB.out.ltF q (List.mem_cons_of_mem _ (List.mem_append_right _ hq)))
          have HOt : Hid (∀ w1, Touch (blk (.slice B m d)) wo w1 → w1.ownsRow W.heap.size 49 1 (.slice A i c) i (ys.map (·.1))) := fun w1 h => h.row HO.out (fun q hq hb => by
            have z1 := (HO.out.lt q hq).1
            have z2 := HlW.out q (fps_at h1 (by rw [HE.out, HMm.out]; exact hb))
            omega)
          have HzW := Lib.hid HGR.out.2.2.2.2.2.2.2.size
          go_wp2_with (first
            | (go_at_call 87; ((with_reducible refine (CM.out _).mono ?_); rintro e w1 ⟨Am, cm, rfl, hown1, hb1⟩; obtain ⟨qm, rfl⟩ := own_at hown1 (by omega); have HG1 := Lib.hid (HG.out.below hb1); have HO1 := Lib.hid hown1; clear hb1 hown1))
            | (at_builtin; (refine wpList_append_old rfl (.tmp 34) (.tmp 38) 49 rfl 0 53 i0 z0 2 32 Try.underlying49 hi0 hz hs2 hb32 hzc (by decide) (.slice Al N cl) N (itemCells (markL i 0 N)) rfl HG1.out.row ⟨qm, 0, none⟩ 60 cm (itemCells (markL i N 60)) rfl (by rw [itemCells_length, markL_length]) (HO1.out.cells (g := qm) rfl) (items_one _) (by unfold maxLen; omega) (by omega) (Nat.zero_le _) ?_); intro x2 w2 ho2 hg2 hnil2 hold2 hsn2; obtain ⟨A2, c2, rfl⟩ := own_slice ho2; have HG2 := Lib.hid (HG1.out.grown ho2 hg2 hold2 hsn2); have HO2 := Lib.hid (HOt.out _ HG2.out.touch); have HZ2 := Lib.hid HG2.out.touch.size; clear ho2 hg2 hnil2 hold2 hsn2)
            | (at_builtin; (refine wpList_append_old rfl (.tmp 33) (.tmp 40) 32 rfl W.heap.size 49 i1 z1 1 24 Try.underlying32 hi1 hz1 hs1 hb24 hzc1 (by decide) (.slice A i c) i (ys.map (·.1)) rfl (HO2.out.alloc _) ⟨w2.heap.size, 0, none⟩ 1 1 [.slice A2 (N + 60) c2] rfl rfl (cell_one_new _ _ _) (fun x hx => by simp at hx; subst hx; rfl) (by unfold maxLen; omega) (by omega) (by have a1 := HZ2.out; have a2 := HzW.out; simp <;> omega) ?_); intro x3 w3 ho3 hg3 hnil3 hold3 hsn3; obtain ⟨A3, c3, rfl⟩ := own_slice ho3; have HF3 := Lib.hid (grow_end HlW.out HGR.out HB.out.lt (fun q hq => HB.out.ltF q (List.mem_cons_of_mem _ (List.mem_append_left _ hq))) h1 HMK.out (show N + 60 ≤ 100000 by omega) ⟨B, d, by rw [HE.out, HMm.out]⟩ (by rw [HE.out, HMm.out]; exact HG2.out) ho3 hg3 hsn3); clear ho3 hg3 hnil3 hold3 hsn3))
          go_roundg (gz - 1)
          case measure => omega
          case rel => exact ⟨i + 1, A3, c3, _, by omega, by omega, rfl, by go_num, HF3⟩
    · obtain rfl : i = n := by omega
      go_wp2
      go_ret
      obtain ⟨hY, hO, hR, hMY, hLY, hF, hB9, hT9⟩ := HGR.out
      exact ⟨A, c, ys, by rw [hY, HN.out], by rw [HN.out]; rfl, by rw [HN.out]; exact hO, hR, hMY, hLY, hB9, hT9⟩
end Go.Proofs.Ytinkkdhlakfooaa
