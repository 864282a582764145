/-
  The code's gate: Point. (genGQ.py)
-/
import Derived.Test.YtompbhkmaalioaaGateCodeA
import Derived.Test.YtompbhkmaalioaaAppendAny
import Derived.Test.YtompbhkmaalioaaHeldTill
import Derived.Deep.DeepCutAuto
namespace Go.Proofs.Ytompbhkmaalioaa
open Go.RowKit

theorem ge_new (w : World) (p : GP) : ∀ j u, (rowC gE [p])[j]? = some u → (w.alloc (.cells (gE p) 54)).cell? ((⟨w.heap.size, 0, none⟩ : Addr).add j) = some u := by
  intro j u hj
  have hj : ((gE p).toList)[j]? = some u := by rw [← hj]; simp [rowC]
  have : j = 0 ∨ j = 1 ∨ j = 2 := by have := (List.getElem?_eq_some_iff.1 hj).1; simp at this; omega
  rw [Go.WideShapes.add_plain]
  rcases this with rfl | rfl | rfl <;> (simp at hj; subst hj; go_simp)
theorem infoGE_ : ∃ i z, Try.prog.info? 54 = some i ∧ i.zero = some z ∧ i.size = 3 ∧ i.bytes = 24 ∧ z.cells.size = 3 := by
  have h : (Try.prog.info? 54).map (fun i => (i.zero.isSome, i.size, i.bytes, (i.zero.getD undef).cells.size)) = some (true, 3, 24, 3) := by kernel_rfl
  obtain ⟨i, hi, hx⟩ := Option.map_eq_some_iff.1 h
  simp only [Prod.mk.injEq] at hx
  obtain ⟨h1, h2, h3, h4⟩ := hx
  obtain ⟨z, hz⟩ := Option.isSome_iff_exists.1 h1
  exact ⟨i, z, hi, hz, h2, h3, by rw [hz] at h4; exact h4⟩
/-- the youngest row has one more -/
theorem GM.grow {w w5 : World} {g : Nat} {s : GS} {x : GRow} {R : List GRow} (h : GM w g s x R) {V : Value} {n : Nat} (hn : x.2.length = n) (f t : Nat) (nd : Int) (hf : f < 18446744073709551616) (ht : t < 18446744073709551616) (hl : s.l.length ≤ 1000)
    (k : Touch x.1.ownBlock.toList w w5) (ho : w5.ownsRow 0 54 3 V (n + 1) (rowC gE x.2 ++ rowC gE [⟨f, t, nd, 0⟩])) (hs : ∀ q, V.ownBlock = some q → x.1.ownBlock = some q ∨ w.heap.size ≤ q) :
    ∃ F1, VG (w5.setCell ⟨g, 3, none⟩ V) g (s.point f t nd) F1 ∧ Touch (gF g (x :: R)) w (w5.setCell ⟨g, 3, none⟩ V) ∧ ∀ q ∈ F1, q ∈ gF g (x :: R) ∨ w.heap.size ≤ q := by
  have hgx : g ∉ x.1.ownBlock.toList := fun z => h.gn x (by simp) (Option.mem_toList.1 z)
  have t2 : Touch [g] w5 (w5.setCell ⟨g, 3, none⟩ V) := (Touch.refl _ _).set (.inl (by simp)) _
  have hg5 := (k.block g h.lt hgx).trans h.hg
  have hVg : V.ownBlock ≠ some g := fun z => by
    rcases hs g z with y | y
    · exact h.gn x (by simp) y
    · have := h.lt; omega
  have t3 : Touch (gF g (x :: R)) w (w5.setCell ⟨g, 3, none⟩ V) := (k.mono (fun q hq => mem_gF.2 (.inr ⟨x, by simp, Option.mem_toList.1 hq⟩))).trans t2 (fun q hq => .inl (mem_gF.2 (.inl (by simpa using hq))))
  refine ⟨_, ⟨(V, x.2 ++ [⟨f, t, nd, 0⟩]), R, ⟨h.hl, ?_, ?_, ?_, ?_, ?_, ?_, h.b, ?_⟩, rfl⟩, t3, ?_⟩
  · show s.l ++ [_] = _
    rw [h.l, agesL_cons, agesL_cons, List.map_append, List.append_assoc]
    rfl
  · show (s.l ++ [_]).length ≤ 1001
    rw [List.length_append]
    simp only [List.length_singleton]
    omega
  · rw [gm_set hg5]
    simp [gC, GS.point]
  · intro y hy
    rcases List.mem_cons.1 hy with rfl | z
    · refine t2.row ?_ (fun q hq z => hVg (by rw [hq, List.mem_singleton.1 z]))
      rw [rowC_append, List.length_append, hn]
      exact ho
    · refine t2.row (k.row (h.rows y (List.mem_cons_of_mem _ z)) fun q hq z' => h.own q (Option.mem_toList.1 z') y z hq) (fun q hq z' => h.gn y (List.mem_cons_of_mem _ z) (by rw [hq, List.mem_singleton.1 z']))
  · intro q hq y hy
    rcases hs q hq with z | z
    · exact h.own q z y hy
    · exact fun z' => by have := ((h.rows y (List.mem_cons_of_mem _ hy)).lt q z').2; omega
  · intro y hy
    rcases List.mem_cons.1 hy with rfl | z
    · exact hVg
    · exact h.gn y (List.mem_cons_of_mem _ z)
  · intro y hy p hp
    rcases List.mem_cons.1 hy with rfl | z
    · rcases List.mem_append.1 hp with z | z
      · exact h.pts x (by simp) p z
      · rw [List.mem_singleton.1 z]
        exact ⟨hf, ht⟩
    · exact h.pts y (List.mem_cons_of_mem _ z) p hp
  · intro q hq
    rcases mem_gF.1 hq with rfl | ⟨y, hy, hyq⟩
    · exact .inl (mem_gF.2 (.inl rfl))
    · rcases List.mem_cons.1 hy with rfl | z
      · rcases hs q hyq with z | z
        · exact .inl (mem_gF.2 (.inr ⟨x, by simp, z⟩))
        · exact .inr z
      · exact .inl (mem_gF.2 (.inr ⟨y, List.mem_cons_of_mem _ z, hyq⟩))
set_option maxRecDepth 20000 in
set_option maxHeartbeats 4000000 in
theorem gatePoint_any {w : World} {g : Nat} {s : GS} {F : List Nat} (f t : Nat) (nd : Int) (hf : f < 18446744073709551616) (ht : t < 18446744073709551616) (hl : s.l.length ≤ 1000) (h : VG w g s F) :
    Calls Try.prog 10 #[.pointer (some ⟨g, 0, none⟩), .agg #[.int .u64 (f : Nat), .int .u64 (t : Nat)], .int .i64 nd] w fun e w' =>
    ∃ F1, e = .returned (.tuple #[]) ∧ VG w' g (s.point f t nd) F1 ∧ Touch F w w' ∧ ∀ q ∈ F1, q ∈ F ∨ w.heap.size ≤ q := by
  obtain ⟨x, R, h, rfl⟩ := h
  obtain ⟨i0, z0, hi0, hz, hsL, hbL, hzc⟩ := infoGE_
  obtain ⟨V, l⟩ := x
  obtain ⟨n, hn⟩ : ∃ n, l.length = n := ⟨_, rfl⟩
  have hv := h.rows (V, l) (by simp)
  simp only at hv
  rw [hn] at hv
  have hn1 : n ≤ 1000 := by
    have e := h.l
    rw [agesL_cons] at e
    rw [e, List.length_append, List.length_map] at hl
    simp only at hl
    omega
  obtain ⟨A, c, rfl⟩ := own_slice hv
  obtain ⟨w1, hw1⟩ : ∃ w1, w.alloc (.cells #[.int .u64 (f : Nat), .int .u64 (t : Nat)] 27) = w1 := ⟨_, rfl⟩
  obtain ⟨qa, hqa⟩ : ∃ q, w.heap.size = q := ⟨_, rfl⟩
  have H1 : Hid (Below w.heap.size w w1) := by rw [← hw1]; exact (Below.refl _ _).alloc (Nat.le_refl _) _
  have ba0 : w1.cell? ⟨qa, 0, none⟩ = some (.int .u64 (f : Nat)) := by rw [← hw1, ← hqa]; simp
  have ba1 : w1.cell? ⟨qa, 1, none⟩ = some (.int .u64 (t : Nat)) := by rw [← hw1, ← hqa]; simp
  have hlq : qa < w1.heap.size := World.block_lt_of_cell? _ _ ba0
  have h1 := h.below H1.out
  have hgx : g ∉ (Value.slice A n c).ownBlock.toList := fun z => h1.gn (.slice A n c, l) (by simp) (Option.mem_toList.1 z)
  have hqx : qa ∉ (Value.slice A n c).ownBlock.toList := fun z => by have := (hv.lt qa (Option.mem_toList.1 z)).2; omega
  have HSS : Hid (∀ w', Touch (Value.slice A n c).ownBlock.toList w1 w' → w'.cell? ⟨g, 3, none⟩ = some (.slice A n c) ∧ w'.cell? ⟨qa, 0, none⟩ = some (.int .u64 (f : Nat)) ∧ w'.cell? ⟨qa, 1, none⟩ = some (.int .u64 (t : Nat))) := fun w' hb =>
    ⟨(hb.cell (p := ⟨g, 3, none⟩) h1.lt hgx).trans h1.c3, (hb.cell (p := ⟨qa, 0, none⟩) hlq hqx).trans ba0, (hb.cell (p := ⟨qa, 1, none⟩) hlq hqx).trans ba1⟩
  have HFR : Hid (∀ w', Touch (Value.slice A n c).ownBlock.toList w1 w' → w'.frozen? ⟨g, 3, none⟩ = false) := fun w' hb => (hb.frozen (p := ⟨g, 3, none⟩) h1.lt hgx).trans (h1.free 3)
  have HROW := Lib.hid (h1.rows (.slice A n c, l) (by simp))
  simp only at HROW
  rw [hn] at HROW
  have HB1 : Hid (Below w1.heap.size w1 (w1.drew.alloc (.cells (gE ⟨f, t, nd, 0⟩) 54))) := (Below.refl _ _).drew.alloc (Nat.le_refl _) _
  have HT0 : Hid (Touch (Value.slice A n c).ownBlock.toList w1 w1.drew) := (Touch.refl _ _).drew
  have HEND : Hid (∀ A5 c5 w5, Touch (Value.slice A n c).ownBlock.toList w1 w5 → w5.ownsRow 0 54 3 (.slice A5 (n + 1) c5) (n + 1) (rowC gE l ++ rowC gE [⟨f, t, nd, 0⟩]) → SameOrNew (w1.drew.alloc (.cells (gE ⟨f, t, nd, 0⟩) 54)) (.slice A n c) (.slice A5 (n + 1) c5) →
      ∃ F1, VG (w5.setCell ⟨g, 3, none⟩ (.slice A5 (n + 1) c5)) g (s.point f t nd) F1 ∧ Touch (gF g ((.slice A n c, l) :: R)) w (w5.setCell ⟨g, 3, none⟩ (.slice A5 (n + 1) c5)) ∧ ∀ q ∈ F1, q ∈ gF g ((.slice A n c, l) :: R) ∨ w.heap.size ≤ q) := fun A5 c5 w5 k1 k2 k3 => by
    obtain ⟨F1, k4, k5, k6⟩ := h1.grow hn f t nd hf ht hl k1 k2 (fun q hq => (k3 q hq).imp id (fun z => by simp at z; omega))
    have := H1.out.size
    exact ⟨F1, k4, (Touch.ofBelow (F := gF g ((.slice A n c, l) :: R)) H1.out).trans k5 (fun x hx => .inl hx), fun q hq => (k6 q hq).imp id (fun z => by omega)⟩
  clear h h1 hv hgx hqx hlq ba0 ba1 hn hl
  go_enter Try.func10, Try.ntmps10
  go_upto_region 2 with fail
  (try rw [hw1])
  (try rw [hqa])
  clear hw1 hqa
  refine wp_region_till (fun w' => w'.cell? ⟨g, 3, none⟩ = some (.slice A n c) ∧ w'.cell? ⟨qa, 0, none⟩ = some (.int .u64 (f : Nat)) ∧ w'.cell? ⟨qa, 1, none⟩ = some (.int .u64 (t : Nat))) 14 (by kernel_rfl) ?_ (fun hHeld => ?_)
  · (try dsimp only); exact HSS.out _ HT0.out
  refine wpAnyT_pure (i := 0) (oi := ⟨_, _, _, _, _, _⟩) (v := ?_) rfl (by kernel_rfl) (by kernel_rfl) (by kernel_rfl) (fun _ _ _ h => h) (by kernel_rfl) (Or.inl ⟨by rfl, ?_⟩) (by assumption) ?_
  rotate_left
  · (intro wS hSw; (try dsimp only at hSw); go_simp <;> with_reducible rfl)
  try simp only [Act.put, List.setIfInBounds_toArray, List.set_cons_zero, List.set_cons_succ]
  refine wpAnyT_pure (i := 1) (oi := ⟨_, _, _, _, _, _⟩) (v := ?_) rfl (by kernel_rfl) (by kernel_rfl) (by kernel_rfl) (fun _ _ _ h => h) (by kernel_rfl) (Or.inl ⟨by rfl, ?_⟩) (by assumption) ?_
  rotate_left
  · (intro wS hSw; (try dsimp only at hSw); go_simp <;> with_reducible rfl)
  try simp only [Act.put, List.setIfInBounds_toArray, List.set_cons_zero, List.set_cons_succ]
  refine wpAnyT_pure (i := 2) (oi := ⟨_, _, _, _, _, _⟩) (v := ?_) rfl (by kernel_rfl) (by kernel_rfl) (by kernel_rfl) (fun _ _ _ h => h) (by kernel_rfl) (Or.inl ⟨by rfl, ?_⟩) (by assumption) ?_
  rotate_left
  · (intro wS hSw; (try dsimp only at hSw); go_simp <;> with_reducible rfl)
  try simp only [Act.put, List.setIfInBounds_toArray, List.set_cons_zero, List.set_cons_succ]
  refine wpAnyT_pure (i := 3) (oi := ⟨_, _, _, _, _, _⟩) (v := ?_) rfl (by kernel_rfl) (by kernel_rfl) (by kernel_rfl) (fun _ _ _ h => h) (by kernel_rfl) (Or.inl ⟨by rfl, ?_⟩) (by assumption) ?_
  rotate_left
  · (intro wS hSw; (try dsimp only at hSw); go_simp <;> with_reducible rfl)
  try simp only [Act.put, List.setIfInBounds_toArray, List.set_cons_zero, List.set_cons_succ]
  refine wpAnyT_pure (i := 4) (oi := ⟨_, _, _, _, _, _⟩) (v := ?_) rfl (by kernel_rfl) (by kernel_rfl) (by kernel_rfl) (fun _ _ _ h => h) (by kernel_rfl) (Or.inl ⟨by rfl, ?_⟩) (by assumption) ?_
  rotate_left
  · (intro wS hSw; (try dsimp only at hSw); go_simp <;> with_reducible rfl)
  try simp only [Act.put, List.setIfInBounds_toArray, List.set_cons_zero, List.set_cons_succ]
  refine wpAnyT_pure (i := 7) (oi := ⟨_, _, _, _, _, _⟩) (v := ?_) rfl (by kernel_rfl) (by kernel_rfl) (by kernel_rfl) (fun _ _ _ h => h) (by kernel_rfl) (Or.inl ⟨by rfl, ?_⟩) (by assumption) ?_
  rotate_left
  · (intro wS hSw; (try dsimp only at hSw); go_simp <;> with_reducible rfl)
  try simp only [Act.put, List.setIfInBounds_toArray, List.set_cons_zero, List.set_cons_succ]
  refine wpAnyT_pure (i := 11) (oi := ⟨_, _, _, _, _, _⟩) (v := ?_) rfl (by kernel_rfl) (by kernel_rfl) (by kernel_rfl) (fun _ _ _ h => h) (by kernel_rfl) (Or.inl ⟨by rfl, ?_⟩) (by assumption) ?_
  rotate_left
  · (intro wS hSw; (try dsimp only at hSw); go_simp <;> with_reducible rfl)
  try simp only [Act.put, List.setIfInBounds_toArray, List.set_cons_zero, List.set_cons_succ]
  refine wpAnyT_pure (i := 12) (oi := ⟨_, _, _, _, _, _⟩) (v := ?_) rfl (by kernel_rfl) (by kernel_rfl) (by kernel_rfl) (fun _ _ _ h => h) (by kernel_rfl) (Or.inl ⟨by rfl, ?_⟩) (by assumption) ?_
  rotate_left
  · (intro wS hSw; (try dsimp only at hSw); go_simp <;> with_reducible rfl)
  try simp only [Act.put, List.setIfInBounds_toArray, List.set_cons_zero, List.set_cons_succ]
  refine wpAnyT_take (i := 5) (oi := ⟨_, _, _, _, _, _⟩) (v := ?_) rfl (by kernel_rfl) (by kernel_rfl) (by kernel_rfl) (fun _ _ _ h => h) (by kernel_rfl) (Or.inl ⟨by rfl, ?_⟩) (by assumption) ?_
  rotate_left
  · (intro wS hSw; (try dsimp only at hSw); go_simp <;> with_reducible rfl)
  try simp only [Act.put, List.setIfInBounds_toArray, List.set_cons_zero, List.set_cons_succ]
  refine wpAnyT_take (i := 6) (oi := ⟨_, _, _, _, _, _⟩) (v := ?_) rfl (by kernel_rfl) (by kernel_rfl) (by kernel_rfl) (fun _ _ _ h => h) (by kernel_rfl) (Or.inl ⟨by rfl, ?_⟩) (by assumption) ?_
  rotate_left
  · (intro wS hSw; (try dsimp only at hSw); go_simp <;> with_reducible rfl)
  try simp only [Act.put, List.setIfInBounds_toArray, List.set_cons_zero, List.set_cons_succ]
  refine wpAnyT_ready (rs := [8]) (by kernel_rfl) (by simp) ?_
  refine (AllReadyT.cons (o := ⟨_, _, _, _, _, _⟩) rfl (fun K hK => ?_) AllReadyT.nil)
  go_simp
  refine hK.out _ _ (by (try dsimp only); (first | exact HSS.out _ HT5.out | exact HSS.out _ (Touch.ofBelow HB1.out) | exact HSS.out _ HT0.out)) (fun hHeld => ?_)
  clear hK K
  try simp only [Act.put, List.setIfInBounds_toArray, List.set_cons_zero, List.set_cons_succ]
  refine wpAnyT_ready (rs := [9]) (by kernel_rfl) (by simp) ?_
  refine (AllReadyT.cons (o := ⟨_, _, _, _, _, _⟩) rfl (fun K hK => ?_) AllReadyT.nil)
  go_simp
  refine hK.out _ _ (by (try dsimp only); (first | exact HSS.out _ HT5.out | exact HSS.out _ (Touch.ofBelow HB1.out) | exact HSS.out _ HT0.out)) (fun hHeld => ?_)
  clear hK K
  try simp only [Act.put, List.setIfInBounds_toArray, List.set_cons_zero, List.set_cons_succ]
  refine wpAnyT_ready (rs := [10]) (by kernel_rfl) (by simp) ?_
  refine (AllReadyT.cons (o := ⟨_, _, _, _, _, _⟩) rfl (fun K hK => ?_) AllReadyT.nil)
  refine step_append_any rfl (.tmp 13) (.tmp 17) 28 rfl 0 54 i0 z0 3 24 Try.underlying28 hi0 hz hsL hbL hzc (by decide) (.slice A n c) n (rowC gE l) rfl (own_step HROW.out HB1.out) (.slice (some ⟨w1.drew.heap.size, 0, none⟩) 1 1) 1 (rowC gE [⟨f, t, nd, 0⟩]) rfl (.inr ⟨_, _, rfl, rfl, (fun j u hu => ge_new w1.drew ⟨f, t, nd, 0⟩ j u hu)⟩) (gE_one _) (by unfold maxLen; omega) (by omega) (Nat.zero_le _) ?_
  intro A5 c5 w5 ho5 hg5 hs5
  have HO5 := Lib.hid ho5
  have HT5 : Hid (Touch (Value.slice A n c).ownBlock.toList w1 w5) := ((Touch.ofBelow HB1.out).grown hg5 (fun k hk => .inl (Option.mem_toList.2 hk)))
  have HS5 := Lib.hid hs5
  have ff := HFR.out _ HT5.out
  clear ho5 hg5 hs5
  refine hK.out _ _ (by (try dsimp only); (first | exact HSS.out _ HT5.out | exact HSS.out _ (Touch.ofBelow HB1.out) | exact HSS.out _ HT0.out)) (fun hHeld => ?_)
  clear hK K
  try simp only [Act.put, List.setIfInBounds_toArray, List.set_cons_zero, List.set_cons_succ]
  refine wpAnyT_pure (i := 13) (oi := ⟨_, _, _, _, _, _⟩) (v := ?_) rfl (by kernel_rfl) (by kernel_rfl) (by kernel_rfl) (fun _ _ _ h => h) (by kernel_rfl) (Or.inl ⟨by rfl, ?_⟩) (by assumption) ?_
  rotate_left
  · (intro wS hSw; (try dsimp only at hSw); go_simp <;> with_reducible rfl)
  try simp only [Act.put, List.setIfInBounds_toArray, List.set_cons_zero, List.set_cons_succ]
  refine wpAnyT_ready (rs := [14]) (by kernel_rfl) (by simp) ?_
  refine (AllReadyT.past (o := ⟨_, _, _, _, _, _⟩) rfl (by kernel_rfl) (fun K hK => ?_) AllReadyT.nil)
  go_simp
  refine hK.out _ _ ?_
  clear hK K
  try simp only [Act.put, List.setIfInBounds_toArray, List.set_cons_zero, List.set_cons_succ]
  refine wpAnyT_done (by kernel_rfl) ?_ _
  go_wp2_with fail
  go_end0
  obtain ⟨F1, z⟩ := HEND.out A5 c5 w5 HT5.out HO5.out HS5.out
  first
    | exact ⟨F1, rfl, z⟩
    | exact ⟨rfl, F1, z⟩
end Go.Proofs.Ytompbhkmaalioaa
