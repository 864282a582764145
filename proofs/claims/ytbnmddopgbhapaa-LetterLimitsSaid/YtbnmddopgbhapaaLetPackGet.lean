/-
  GetPacket, walked: what it tells.
-/
import Derived.Test.YtbnmddopgbhapaaLetPackRead
namespace Go.Proofs.Ytbnmddopgbhapaa
open Go.RowKit

theorem loadVar_packet (w : World) (b : Nat) (cs : Array Value) (hs : cs.size = 25) (hb : w.heap[b]? = some (.cells cs 34)) : (loadVar 34 ⟨b, 0, none⟩).run Try.prog w = .ok (.agg cs) w := by
  have hi : (Try.prog.info? 34).map (·.size) = some 25 := by kernel_rfl
  exact run_loadVar_row w b 34 34 cs (0, 0) _ hb Try.underlying34 rfl (hi.trans (congrArg some hs.symm))
/-- what GetPacket tells -/
def PGetPost (W : World) (b : ByteArray) (e : Ending) (w' : World) : Prop :=
  Below W.heap.size W w' ∧ ((getP b = none ∧ e = .returned (.tuple #[.agg PZ, .bool false])) ∨
    ∃ q S1 S2, getP b = some q ∧ e = .returned (.tuple #[.agg (q.cells S1 S2), .bool true]) ∧ w'.ownsRow W.heap.size 56 2 S1 q.lt.ti.length (itemCells q.lt.ti) ∧ w'.ownsRow W.heap.size 56 2 S2 q.lt.li.length (itemCells q.lt.li) ∧ ∀ q, S1.ownBlock = some q → S2.ownBlock ≠ some q)
def PAll (W : World) (R B : Nat) (b : ByteArray) (e : Ending) (w' : World) : Prop :=
  w'.heap[R]? = some (.cells PZ 34) ∧ Touch [B] W w' ∧ ((e = .returned (.bool false) ∧ getP b = none) ∨ ∃ q A1 c1 A2 c2, e = .returned (.bool true) ∧ getP b = some q ∧ w'.heap[B]? = some (.cells (q.cells (.slice A1 q.lt.ti.length c1) (.slice A2 q.lt.li.length c2)) 34) ∧
    w'.ownsRow W.heap.size 56 2 (.slice A1 q.lt.ti.length c1) q.lt.ti.length (itemCells q.lt.ti) ∧ w'.ownsRow W.heap.size 56 2 (.slice A2 q.lt.li.length c2) q.lt.li.length (itemCells q.lt.li) ∧ ∀ q1, (Value.slice A1 q.lt.ti.length c1).ownBlock = some q1 → (Value.slice A2 q.lt.li.length c2).ownBlock ≠ some q1)
theorem pall {W w' : World} {R B : Nat} {b : ByteArray} {e : Ending} (hR : W.heap[R]? = some (.cells PZ 34)) (hne : R ≠ B) (h : AllP W B b e w') : PAll W R B b e w' := by
  obtain ⟨ht, h⟩ := h
  refine ⟨(ht.block R (lt_of_heap hR) (by simpa using hne)).trans hR, ht, ?_⟩
  rcases h with h | ⟨rfl, q, S1, S2, g1, g2, g3, g4, g5⟩
  · exact .inl h
  · obtain ⟨A1, k1, rfl⟩ := own_slice g3
    obtain ⟨A2, k2, rfl⟩ := own_slice g4
    exact .inr ⟨q, A1, k1, A2, k2, rfl, g1, g2, g3, g4, g5⟩
set_option maxRecDepth 20000 in
set_option maxHeartbeats 2000000 in
theorem pget_any (b : ByteArray) (W : World) (hs : b.size ≤ 9223372036854775807) : Calls Try.prog 14 #[.string b] W (PGetPost W b) := by
  have CO := Lib.hid of_packet5
  have CA : Hid (∀ w A c, w.heap[W.heap.size]? = some (.cells PZ 34) → w.heap[W.heap.size + 1]? = some (.cells PZ 34) → FieldsAt w A (packetFs (W.heap.size + 1)) → (∀ q o, A = some ⟨q, o, none⟩ → q ≠ W.heap.size + 1 ∧ q < w.heap.size) → Calls Try.prog 33 #[.string b, .slice A 5 c] w (PAll w W.heap.size (W.heap.size + 1) b)) := fun w A c h0 h1 h2 h3 =>
    (readAllP_any w (W.heap.size + 1) b A c h1 hs h2 h3).mono fun _ _ h => pall h0 (by omega) h
  clear hs
  have W0 : Below W.heap.size W ((W.alloc (.cells PZ 34)).alloc (.cells PZ 34)) := ((Below.refl _ _).alloc (Nat.le_refl _) _).alloc (by simp) _
  have r0 : ((W.alloc (.cells PZ 34)).alloc (.cells PZ 34)).heap[W.heap.size]? = some (.cells PZ 34) := (Lib.alloc_old _ _ _ (by simp)).trans (heap_alloc_new W _)
  have b0 : ((W.alloc (.cells PZ 34)).alloc (.cells PZ 34)).heap[W.heap.size + 1]? = some (.cells PZ 34) := by
    have := heap_alloc_new (W.alloc (.cells PZ 34)) (.cells PZ 34)
    simpa using this
  have hsz : (Try.prog.info? 34).map (·.size) = some 25 := by kernel_rfl
  have H0 : Hid (Below W.heap.size W ((W.alloc (.cells PZ 34)).alloc (.cells PZ 34)) ∧ ((W.alloc (.cells PZ 34)).alloc (.cells PZ 34)).heap[W.heap.size]? = some (.cells PZ 34) ∧ ((W.alloc (.cells PZ 34)).alloc (.cells PZ 34)).heap[W.heap.size + 1]? = some (.cells PZ 34) ∧ ((W.alloc (.cells PZ 34)).alloc (.cells PZ 34)).heap.size = W.heap.size + 1 + 1) := ⟨W0, r0, b0, by simp⟩
  clear W0 r0 b0
  go_enter Try.func14, Try.ntmps14
  go_wp2_with (first
    | (go_at_call 26; ((with_reducible refine (CO.out _ _).mono ?_); rintro e w1 ⟨c1, rfl, hf1, hb1, hs1⟩; have hs2 : W.heap.size + 1 + 1 < w1.heap.size := (by simpa using hs1); have CR := Lib.hid (CA.out w1 (some ⟨W.heap.size + 1 + 1, 0, none⟩) c1 ((hb1.block _ (by simp; omega)).trans H0.out.2.1) ((hb1.block _ (by simp)).trans H0.out.2.2.1) (H0.out.2.2.2 ▸ hf1) (fun q o hq => by injection hq with hq; injection hq with hq _ _; exact ⟨by omega, by omega⟩)); have HB1 : Hid (Below W.heap.size W w1 ∧ w1.heap[W.heap.size]? = some (.cells PZ 34)) := ⟨acc H0.out.1 hb1, (hb1.block _ (by simp; omega)).trans H0.out.2.1⟩; clear hf1 hb1 hs1 hs2))
    | (go_at_call 33; fail))
  go_at_call 33
  with_reducible refine (CR.out).mono ?_
  rintro e w2 ⟨hr2, ht, (⟨rfl, hno⟩ | ⟨q, A1, k1, A2, k2, rfl, hgl, hB2, ho1, ho2, hap⟩)⟩
  · have hszC : (Try.prog.info? 34).map (·.size) = some PZ.size := hsz
    have honeZ : PZ.all (·.oneCell') = true := by first | decide | simp [PZ, Value.oneCell']
    go_wp2_with (with_reducible (show wpList _ _ _ (⟨none, Op.store _ _ _, _, _, _, _⟩ :: _) _ _); go_must (refine wpList_store_row rfl 34 (.tmp 2) (.tmp 9) rfl W.heap.size PZ rfl rfl 34 PZ hr2 hszC rfl honeZ ?_))
    refine bodyPost_ret (results_row_tmp rfl _ _ W.heap.size PZ (.bool false) rfl rfl (loadVar_packet _ _ _ rfl (setRow_at _ hr2))) rfl ?_
    exact ⟨(HB1.out.1.trans (ht.below HB1.out.1.size (fun x hx => by simp only [List.mem_cons, List.not_mem_nil, or_false] at hx; omega))).trans (below_setRow _ (Nat.le_refl _)), .inl ⟨hno, rfl⟩⟩
  · have hszC : (Try.prog.info? 34).map (·.size) = some (q.cells (.slice A1 q.lt.ti.length k1) (.slice A2 q.lt.li.length k2)).size := hsz
    have hone : (q.cells (.slice A1 q.lt.ti.length k1) (.slice A2 q.lt.li.length k2)).all (·.oneCell') = true := by first | kernel_rfl | simp [PV.cells, Value.oneCell']
    have hold : PZ.size = (q.cells (.slice A1 q.lt.ti.length k1) (.slice A2 q.lt.li.length k2)).size := rfl
    go_wp2_with (first
      | (with_reducible (show wpList _ _ _ (⟨some _, Op.load _ _, _, _, _, _⟩ :: _) _ _); go_must (refine wpList_load_row rfl 34 (.tmp 4) rfl (W.heap.size + 1) rfl 34 (q.cells (.slice A1 q.lt.ti.length k1) (.slice A2 q.lt.li.length k2)) (0, 0) _ hB2 Try.underlying34 rfl hszC ?_))
      | (with_reducible (show wpList _ _ _ (⟨none, Op.store _ _ _, _, _, _, _⟩ :: _) _ _); go_must (refine wpList_store_row rfl 34 (.tmp 2) (.tmp 10) rfl W.heap.size (q.cells (.slice A1 q.lt.ti.length k1) (.slice A2 q.lt.li.length k2)) rfl rfl 34 PZ hr2 hszC hold hone ?_)))
    refine bodyPost_ret (results_row_tmp rfl _ _ W.heap.size (q.cells (.slice A1 q.lt.ti.length k1) (.slice A2 q.lt.li.length k2)) (.bool true) rfl rfl (loadVar_packet _ _ _ rfl (setRow_at _ hr2))) rfl ?_
    have hz := HB1.out.1.size
    refine ⟨(HB1.out.1.trans (ht.below HB1.out.1.size (fun x hx => by simp only [List.mem_cons, List.not_mem_nil, or_false] at hx; omega))).trans (below_setRow _ (Nat.le_refl _)), .inr ⟨q, _, _, hgl, rfl, own_mono (setRow_row _ ho1 (by have := lt_of_heap HB1.out.2; omega)) hz, own_mono (setRow_row _ ho2 (by have := lt_of_heap HB1.out.2; omega)) hz, hap⟩⟩
end Go.Proofs.Ytbnmddopgbhapaa
