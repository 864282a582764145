/-
  The book of points: one more list. (Written by tools/genBookP.py, out of the book of items.)
-/
import Derived.Test.YtfpoapmbpbkibaaPbBase
namespace Go.Proofs.Ytfpoapmbpbkibaa.Pb
open Go.RowKit Go.Proofs.Ytfpoapmbpbkibaa

theorem book_end {W w1 w2 w3 : World} {g : Nat} {va vb va' vb' u v : Value} {es us : List (Value × List Int)} {l : List Int} (hB : BK W g va vb es us) (hv : rowOk W (v, l))
    (hvn : ∀ q ∈ blk v, q ≠ g ∧ q ∉ blk va ∧ q ∉ blk vb ∧ q ∉ fps es) (hlu : us.length = es.length)
    (T1 : Touch (blk va) W w1) (o1 : w1.ownsRow 0 23 1 va' (es.length + 1) (es.map (·.1) ++ [v])) (s1 : ∀ q ∈ blk va', q ∈ blk va ∨ W.heap.size ≤ q)
    (T2 : Touch [] (w1.setCell ⟨g, 4, .none⟩ va') w2) (hu : rowOk w2 (u, l)) (su : ∀ q ∈ blk u, w1.heap.size ≤ q)
    (T3 : Touch (blk vb) w2 w3) (o3 : w3.ownsRow 0 23 1 vb' (es.length + 1) (us.map (·.1) ++ [u])) (s3 : ∀ q ∈ blk vb', q ∈ blk vb ∨ w2.heap.size ≤ q) :
    BookPost W g va vb es us v l (.returned (.tuple #[])) (w3.setCell ⟨g, 5, .none⟩ vb') := by
  have hg := hB.lt
  have hg1 : g < w1.heap.size := Nat.lt_of_lt_of_le hg T1.size
  have S6 : Touch [g] w1 (w1.setCell ⟨g, 4, .none⟩ va') := (Touch.refl _ _).set (.inl (by simp)) _
  have S7 : Touch [g] w3 (w3.setCell ⟨g, 5, .none⟩ vb') := (Touch.refl _ _).set (.inl (by simp)) _
  have hg2 : g < w2.heap.size := Nat.lt_of_lt_of_le (Nat.lt_of_lt_of_le hg1 S6.size) T2.size
  have hg3 : g < w3.heap.size := Nat.lt_of_lt_of_le hg2 T3.size
  have z12 : w1.heap.size ≤ w2.heap.size := Nat.le_trans S6.size T2.size
  have z01 := T1.size
  have z23 := T3.size
  have lv : ∀ q ∈ blk v, q < W.heap.size := fun q hq => hv.lt hq
  have la : ∀ q ∈ blk va, q < W.heap.size := fun q hq => row_lt hB.own6 hq
  have lb : ∀ q ∈ blk vb, q < W.heap.size := fun q hq => row_lt hB.own7 hq
  have le : ∀ q ∈ fps es, q < W.heap.size := fun q hq => by obtain ⟨x, hx, hq⟩ := mem_fps.1 hq; exact (hB.rows x hx).lt hq
  have lu : ∀ q ∈ fps us, q < W.heap.size := fun q hq => by obtain ⟨x, hx, hq⟩ := mem_fps.1 hq; exact (hB.copies x hx).lt hq
  have la' : ∀ q ∈ blk va', q < w1.heap.size := fun q hq => row_lt o1 hq
  -- what each step leaves
  have T02 : Touch (g :: blk va) W w2 := by
    have h1 : Touch (g :: blk va) W (w1.setCell ⟨g, 4, .none⟩ va') := Touch.set (F := g :: blk va) (T1.mono (fun x hx => List.mem_cons_of_mem _ hx)) (.inl (by simp)) _
    exact h1.trans T2 (by simp)
  have T03 : Touch (g :: (blk va ++ blk vb)) W w3 := (T02.mono (fun x hx => by rcases List.mem_cons.1 hx with rfl | h; simp; simp [h])).trans T3 (fun x hx => .inl (by simp [hx]))
  have T04 : Touch (g :: (blk va ++ blk vb)) W (w3.setCell ⟨g, 5, .none⟩ vb') := T03.set (.inl (by simp)) _
  have T14 : ∀ q, q ∈ blk va' → q ∉ g :: blk vb := by
    intro q hq h
    rcases List.mem_cons.1 h with rfl | h
    · rcases s1 q hq with h1 | h1
      · exact hB.ga h1
      · omega
    · rcases s1 q hq with h1 | h1
      · exact (hB.ab q h1).1 h
      · have := lb q h; omega
  have T24 : Touch (g :: blk vb) w2 (w3.setCell ⟨g, 5, .none⟩ vb') := Touch.set (F := g :: blk vb) (T3.mono (fun x hx => List.mem_cons_of_mem _ hx)) (.inl (by simp)) _
  have gvb' : g ∉ blk vb' := fun h => by
    rcases s3 g h with h1 | h1
    · exact hB.gb h1
    · omega
  -- cells of the book's own block
  have cell2 : ∀ j, j ≠ 4 → w2.cell? ⟨g, j, .none⟩ = W.cell? ⟨g, j, .none⟩ := fun j hj => by
    rw [T2.cell (p := ⟨g, j, .none⟩) (Nat.lt_of_lt_of_le hg1 S6.size) (by simp), World.cell?_setCell_other _ _ _ _ (by simp <;> omega), T1.cell (p := ⟨g, j, .none⟩) hg hB.ga]
  have cell3 : ∀ j, w3.cell? ⟨g, j, .none⟩ = w2.cell? ⟨g, j, .none⟩ := fun j => T3.cell (p := ⟨g, j, .none⟩) hg2 hB.gb
  have froz : ∀ j, w3.frozen? ⟨g, j, .none⟩ = W.frozen? ⟨g, j, .none⟩ := fun j => by
    rw [T3.frozen (p := ⟨g, j, .none⟩) hg2 hB.gb, T2.frozen (p := ⟨g, j, .none⟩) (Nat.lt_of_lt_of_le hg1 S6.size) (by simp), World.frozen?_setCell, T1.frozen (p := ⟨g, j, .none⟩) hg hB.ga]
  have c6 : w2.cell? ⟨g, 4, .none⟩ = some va' := by
    rw [T2.cell (p := ⟨g, 4, .none⟩) (Nat.lt_of_lt_of_le hg1 S6.size) (by simp)]
    exact World.cell?_setCell_same _ _ _ ((T1.cell (p := ⟨g, 4, .none⟩) hg hB.ga).trans hB.c6)
  have c7 : w3.cell? ⟨g, 5, .none⟩ = some vb := by rw [cell3, cell2 5 (by omega)]; exact hB.c7
  have o1' : w2.ownsRow 0 23 1 va' (es.length + 1) (es.map (·.1) ++ [v]) :=
    T2.row (S6.row o1 (fun q hq h => by have := T14 q (mem_blk.2 hq); simp at h; exact this (by simp [h]))) (by simp)
  have o1f : (w3.setCell ⟨g, 5, .none⟩ vb').ownsRow 0 23 1 va' (es.length + 1) (es.map (·.1) ++ [v]) := T24.row o1' (fun q hq => T14 q (mem_blk.2 hq))
  have o3f : (w3.setCell ⟨g, 5, .none⟩ vb').ownsRow 0 23 1 vb' (es.length + 1) (us.map (·.1) ++ [u]) := S7.row o3 (fun q hq h => gvb' (by have := mem_blk.2 hq; simp at h; rw [← h]; exact this))
  have n0 : ∀ x ∈ es, ∀ q ∈ blk x.1, q ∉ g :: (blk va ++ blk vb) := by
    intro x hx q hq h
    have hf : q ∈ fps es := mem_fps.2 ⟨x, hx, hq⟩
    simp only [List.mem_cons, List.mem_append] at h
    rcases h with rfl | h | h
    · exact hB.ge hf
    · exact (hB.ab q h).2 hf
    · exact hB.be q h hf
  have nu : ∀ x ∈ us, ∀ q ∈ blk x.1, q ∉ g :: (blk va ++ blk vb) := by
    intro x hx q hq h
    have hf := hB.beside q (mem_fps.2 ⟨x, hx, hq⟩)
    simp only [List.mem_cons, List.mem_append] at h
    rcases h with h | h | h
    · exact hf.1 h
    · exact hf.2.1 h
    · exact hf.2.2 h
  have nv : ∀ q ∈ blk v, q ∉ g :: (blk va ++ blk vb) := by
    intro q hq h
    have hf := hvn q hq
    simp only [List.mem_cons, List.mem_append] at h
    rcases h with h | h | h
    · exact hf.1 h
    · exact hf.2.1 h
    · exact hf.2.2.1 h
  have nU : ∀ q ∈ blk u, q ∉ g :: blk vb := by
    intro q hq h
    have := su q hq
    rcases List.mem_cons.1 h with rfl | h
    · omega
    · have := lb q h; omega
  have mem' : ∀ q, q ∈ blk va' → q ∉ blk v := fun q hq h => by
    rcases s1 q hq with h1 | h1
    · exact (hvn q h).2.1 h1
    · have := lv q h; omega
  refine ⟨rfl, va', vb', u, ⟨by simpa [World.setCell] using hg3, fun j a b c => ?_, ?_, World.cell?_setCell_same _ _ _ c7, by rw [World.frozen?_setCell, froz]; exact hB.f6, by rw [World.frozen?_setCell, froz]; exact hB.f7, ?_, ?_, ?_, ?_, ?_, ?_, ?_⟩, T04, ?_⟩
  · rw [World.cell?_setCell_other _ _ _ _ (by simp <;> omega), cell3, cell2 j b]; exact hB.none j a b c
  · rw [World.cell?_setCell_other _ _ _ _ (by simp), cell3]; exact c6
  · simpa using o1f
  · simpa [hlu] using o3f
  · intro x hx
    rcases List.mem_append.1 hx with hx | hx
    · exact (hB.rows x hx).touch T04 (n0 x hx)
    · simp at hx; subst hx; exact hv.touch T04 nv
  · intro x hx
    rcases List.mem_append.1 hx with hx | hx
    · exact (hB.copies x hx).touch T04 (nu x hx)
    · simp at hx; subst hx; exact hu.touch T24 nU
  · simp [hB.same]
  · rw [fps_snoc]
    have he : (fps es).Nodup := (List.nodup_append.1 (List.nodup_append.1 (List.nodup_cons.1 hB.apart).2).2.1).2.1
    refine nodup5 (blk_nodup _) (blk_nodup _) he (blk_nodup _) (fun h => T14 g h (by simp)) gvb' hB.ge (fun h => (hvn g h).1 rfl) ?_ ?_ mem' ?_ ?_ ?_
    · intro q hq h
      rcases s3 q h with h1 | h1
      · exact T14 q hq (by simp [h1])
      · have := la' q hq; omega
    · intro q hq h
      rcases s1 q hq with h1 | h1
      · exact (hB.ab q h1).2 h
      · have := le q h; omega
    · intro q hq h
      rcases s3 q hq with h1 | h1
      · exact hB.be q h1 h
      · have := le q h; omega
    · intro q hq h
      rcases s3 q hq with h1 | h1
      · exact (hvn q h).2.2.1 h1
      · have := lv q h; omega
    · intro q hq h
      exact (hvn q h).2.2.2 hq
  · intro q hq
    rw [fps_snoc] at hq
    rcases List.mem_append.1 hq with hq | hq
    · have hf := hB.beside q hq
      have := lu q hq
      refine ⟨hf.1, fun h => ?_, fun h => ?_⟩
      · rcases s1 q h with h1 | h1
        · exact hf.2.1 h1
        · omega
      · rcases s3 q h with h1 | h1
        · exact hf.2.2 h1
        · omega
    · have h0 := su q hq
      have h2 : q < w2.heap.size := hu.lt hq
      refine ⟨by omega, fun h => ?_, fun h => ?_⟩
      · have := la' q h; omega
      · rcases s3 q h with h1 | h1
        · have := lb q h1; omega
        · omega
  · intro q hq
    simp only [BF, fps_snoc, List.mem_cons, List.mem_append] at hq ⊢
    rcases hq with h | h | h | (h | h) | (h | h)
    · exact .inl (.inl h)
    · rcases s1 q h with h1 | h1
      · exact .inl (.inr (.inl h1))
      · exact .inr (.inr h1)
    · rcases s3 q h with h1 | h1
      · exact .inl (.inr (.inr (.inl h1)))
      · exact .inr (.inr (by omega))
    · exact .inl (.inr (.inr (.inr (.inl h))))
    · exact .inr (.inl h)
    · exact .inl (.inr (.inr (.inr (.inr h))))
    · exact .inr (.inr (by have := su q h; omega))

set_option maxRecDepth 100000 in
set_option maxHeartbeats 2000000 in
theorem bookPoints_any (g : Nat) (va vb : Value) (es us : List (Value × List Int)) (A : Option Addr) (c : Nat) (l : List Int) (W : World) (hB : BK W g va vb es us) (hv : Row W (.slice A l.length c) l)
    (hvn : ∀ q ∈ blk (.slice A l.length c), q ≠ g ∧ q ∉ blk va ∧ q ∉ blk vb ∧ q ∉ fps es) (he : es.length < 250) (hl : l.length ≤ 100000) :
    Calls Try.prog 13 #[.pointer (some ⟨g, 0, none⟩), .slice A l.length c] W (BookPost W g va vb es us (.slice A l.length c) l) := by
  obtain ⟨i0, z0, hi, hz, hs1, hb24, hzc⟩ := infoRow
  obtain ⟨A6, d6, rfl⟩ := own_slice hB.own6
  obtain ⟨A7, d7, rfl⟩ := own_slice hB.own7
  have hlu : us.length = es.length := by have := congrArg List.length hB.same; simpa using this
  have HBK := Lib.hid hB
  have c6 := hB.c6
  have c7 := hB.c7
  have f6 := hB.f6
  have f7 := hB.f7
  have hg := hB.lt
  have HV := Lib.hid hv
  have HVN := Lib.hid hvn
  obtain ⟨n, hn⟩ : ∃ n, es.length = n := ⟨_, rfl⟩
  obtain ⟨m, hm⟩ : ∃ m, l.length = m := ⟨_, rfl⟩
  have HN := Lib.hid hn
  have HM := Lib.hid hm
  have HLU := Lib.hid hlu
  have HO6 : Hid (W.ownsRow 0 23 1 (.slice A6 n d6) n (es.map (·.1))) := by have h := hB.own6; rw [hn] at h; exact h
  have HO7 : Hid (W.ownsRow 0 23 1 (.slice A7 n d7) n (us.map (·.1))) := by have h := hB.own7; rw [hlu, hn] at h; exact h
  have HN7 : Hid (∀ q, q ∈ blk (.slice A7 n d7) → q ∉ g :: blk (.slice A6 n d6)) := by
    intro q hq h
    have h1 := hB.gb
    have h2 := fun q hq => (hB.ab q hq).1
    rw [hlu, hn] at h1
    rw [hlu, hn] at h2
    rcases List.mem_cons.1 h with rfl | h
    · exact h1 hq
    · exact h2 q h hq
  have HNV : Hid (∀ q, q ∈ blk (.slice A l.length c) → q ∉ g :: blk (.slice A6 n d6)) := by
    intro q hq h
    have h1 := hvn q hq
    rw [hn] at h1
    rcases List.mem_cons.1 h with h | h
    · exact h1.1 h
    · exact h1.2.1 h
  have hgb : g ∉ blk (.slice A7 n d7) := by have h := hB.gb; rw [hlu, hn] at h; exact h
  have hga : g ∉ blk (.slice A6 n d6) := by have h := hB.ga; rw [hn] at h; exact h
  rw [hn] at c6 he
  rw [hlu, hn] at c7
  rw [hm] at hl ⊢
  clear hB hv hvn hn hm hlu
  go_enter Try.func13, Try.ntmps13
  go_upto_region 2 with (at_builtin; go_must (refine wpList_append_old rfl (.tmp 14) (.tmp 16) 29 rfl 0 23 i0 z0 1 24 Try.underlying29 hi hz hs1 hb24 hzc (by decide) (.slice A6 n d6) n (es.map (·.1)) rfl (HO6.out.alloc _) ⟨W.heap.size, 0, none⟩ 1 1 [.slice A m c] rfl rfl (cell_one_new _ _ _) (fun x hx => by simp at hx; subst hx; rfl) (by unfold maxLen; omega) (by omega) (Nat.zero_le _) ?_); intro x1 w1 hown1 hg1 hnil1 hold1 hsn1; obtain ⟨A1, d1, rfl⟩ := own_slice hown1; have hT1 : Touch (blk (.slice A6 n d6)) W w1 := ((Touch.refl _ W).alloc _).grown hg1 (fun k hk => .inl (mem_blk.2 hk)); have e6 := (hT1.cell (p := ⟨g, 4, none⟩) hg (by first | exact hga)).trans c6; have e7 := (hT1.cell (p := ⟨g, 5, none⟩) hg (by first | exact hga)).trans c7; have k6 := (hT1.frozen (p := ⟨g, 4, none⟩) hg (by first | exact hga)).trans f6; have k7 := (hT1.frozen (p := ⟨g, 5, none⟩) hg (by first | exact hga)).trans f7; have HT1 := Lib.hid hT1; have HO1 := Lib.hid hown1; have HS1 := Lib.hid hsn1; clear hT1 hown1 hg1 hnil1 hold1 hsn1)
  have HTV : Hid (Touch (g :: blk (.slice A6 n d6)) W (w1.setCell ⟨g, 4, none⟩ (.slice A1 (n + 1) d1))) := Touch.set (F := g :: blk (.slice A6 n d6)) (HT1.out.mono (fun x hx => List.mem_cons_of_mem _ hx)) (.inl (by simp)) _
  have HGV : Hid (Touch [g] w1 (w1.setCell ⟨g, 4, none⟩ (.slice A1 (n + 1) d1))) := (Touch.refl _ _).set (.inl (by simp)) _
  have v1 : g < (w1.setCell ⟨g, 4, none⟩ (.slice A1 (n + 1) d1)).heap.size := Nat.lt_of_lt_of_le hg HTV.out.size
  have v7 : (w1.setCell ⟨g, 4, none⟩ (.slice A1 (n + 1) d1)).cell? ⟨g, 5, none⟩ = some (.slice A7 n d7) := by rw [World.cell?_setCell_other _ _ _ _ (by simp)]; exact e7
  have x7 : (w1.setCell ⟨g, 4, none⟩ (.slice A1 (n + 1) d1)).frozen? ⟨g, 5, none⟩ = false := by rw [World.frozen?_setCell]; exact k7
  have HV7 : Hid ((w1.setCell ⟨g, 4, none⟩ (.slice A1 (n + 1) d1)).ownsRow 0 23 1 (.slice A7 n d7) n (us.map (·.1))) := HTV.out.row HO7.out (fun q hq h => HN7.out q (mem_blk.2 hq) h)
  have HVV : Hid (Row (w1.setCell ⟨g, 4, none⟩ (.slice A1 (n + 1) d1)) (.slice A l.length c) l) := HTV.out.row HV.out (fun q hq h => HNV.out q (mem_blk.2 hq) h)
  have CC : Hid (∀ W1, Row W1 (.slice A l.length c) l → Calls Try.prog 21 #[.slice A m c] W1 (NewPts W1 l)) := fun W1 h => by
    have h9 := copyPts_any A c l W1 h (by rw [HM.out]; exact hl)
    rw [HM.out] at h9
    exact h9
  have HVdef := Lib.hid (rfl : w1.setCell ⟨g, 4, none⟩ (.slice A1 (n + 1) d1) = w1.setCell ⟨g, 4, none⟩ (.slice A1 (n + 1) d1))
  clear e6 e7 k6 k7 c6 c7 f6 f7 hg
  generalize hVV : w1.setCell ⟨g, 4, none⟩ (.slice A1 (n + 1) d1) = V at *
  have HVW := Lib.hid hVV
  clear hVV HVdef
  have HVD : Hid (Row V.drew (.slice A l.length c) l) := HVV.out
  have HV7D : Hid (V.drew.ownsRow 0 23 1 (.slice A7 n d7) n (us.map (·.1))) := HV7.out
  have HD7 : Hid (V.drew.cell? ⟨g, 5, none⟩ = some (.slice A7 n d7) ∧ V.drew.frozen? ⟨g, 5, none⟩ = false ∧ g < V.drew.heap.size) := ⟨v7, x7, v1⟩
  go_region_law (first
    | (refine step_append_old rfl (.tmp 24) (.tmp 27) 29 rfl 0 23 i0 z0 1 24 Try.underlying29 hi hz hs1 hb24 hzc (by decide) (.slice A7 n d7) n (us.map (·.1)) (by simp [Act.eval]) (HY7.out.alloc _) ⟨w2.heap.size, 0, none⟩ 1 1 [.slice A2 l.length d2] (by simp [Act.eval]) rfl (cell_one_new _ _ _) (fun x hx => by simp at hx; subst hx; rfl) (by unfold maxLen; omega) (by omega) (Nat.zero_le _) ?_; intro x3 w3 hown3 hg3 hnil3 hold3 hsn3; obtain ⟨A3, d3, rfl⟩ := own_slice hown3; have hT3 : Touch (blk (.slice A7 n d7)) w2 w3 := ((Touch.refl _ w2).alloc _).grown hg3 (fun k hk => .inl (mem_blk.2 hk)); have u7 := (hT3.cell (p := ⟨g, 5, none⟩) y1 hgb).trans y7; have t7 := (hT3.frozen (p := ⟨g, 5, none⟩) y1 hgb).trans z7; have HT3 := Lib.hid hT3; have HO3 := Lib.hid hown3; have HS3 := Lib.hid hsn3; clear hT3 hown3 hg3 hnil3 hold3 hsn3)
    | (go_simp; go_at_call 21; (with_reducible refine (CC.out _ HVD.out).mono ?_); rintro e w2 ⟨A2, d2, rfl, hown2, hb2⟩; have HT2 := Lib.hid (Touch.ofBelow (F := []) hb2); have y7 := (HT2.out.cell (p := ⟨g, 5, none⟩) HD7.out.2.2 (by simp)).trans HD7.out.1; have z7 := (HT2.out.frozen (p := ⟨g, 5, none⟩) HD7.out.2.2 (by simp)).trans HD7.out.2.1; have y1 := Nat.lt_of_lt_of_le HD7.out.2.2 HT2.out.size; have HY7 := Lib.hid (HT2.out.row HV7D.out (by simp)); have HU := Lib.hid hown2; clear hown2 hb2; go_wp2_with fail))
  all_goals
    go_wp2
    go_end0
    have hn9 := HN.out
    subst hn9
    have hb9 := HBK.out
    have hl9 := HLU.out
    rw [hl9] at hb9
    have hm9 := HM.out
    subst hm9
    have hw9 := HVW.out
    rw [hl9]
    refine book_end (va := .slice A6 es.length d6) (vb := .slice A7 es.length d7) hb9 ⟨A, c, rfl, HV.out⟩ (by have h := HVN.out; rw [hl9] at h; exact h) hl9 HT1.out HO1.out ?_ (hw9 ▸ undrew HT2.out) ⟨A2, d2, rfl, own_mono HU.out (Nat.zero_le _)⟩ ?_ HT3.out HO3.out ?_
    · intro q hq
      rcases HS1.out q (mem_blk.1 hq) with h | h
      · exact .inl (mem_blk.2 h)
      · exact .inr (by simp at h; omega)
    · intro q hq
      have h := (HU.out.lt q (mem_blk.1 hq)).1
      have h2 : (w1.setCell ⟨g, 4, none⟩ (.slice A1 (es.length + 1) d1)).heap.size ≤ q := by rw [hw9]; exact h
      simpa [World.setCell] using h2
    · intro q hq
      rcases HS3.out q (mem_blk.1 hq) with h | h
      · exact .inl (mem_blk.2 h)
      · exact .inr (by simp at h; omega)

end Go.Proofs.Ytfpoapmbpbkibaa.Pb
