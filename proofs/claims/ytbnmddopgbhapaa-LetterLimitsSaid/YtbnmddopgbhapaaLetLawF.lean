/-
  LetterLimits' walk.
-/
import Derived.Test.YtbnmddopgbhapaaLetLim
namespace Go.Proofs.Ytbnmddopgbhapaa
open Go.RowKit

abbrev XC1 : Array Value := #[.int .i64 1, .int .i64 0, .int .i64 0, .int .i64 0, .int .i64 0, .string ⟨#[]⟩, .string ⟨#[]⟩, .string ⟨#[]⟩, .int .i64 0, .int .i64 0, .string ⟨#[]⟩, .slice none 0 0, .bool false, .string ⟨#[]⟩, .int .i64 0, .int .u64 0, .int .u64 0, .int .i64 0, .slice none 0 0, .int .i64 0, .int .i64 0]
theorem lim_rows (w1 : World) (o1 o2 o3 : Obj) : ((((((w1.alloc (.cells ZC 32)).setRow w1.heap.size XC1).alloc o1).alloc o2).alloc o3).heap[w1.heap.size]? = some (.cells XC1 32) ∧ (((((w1.alloc (.cells ZC 32)).setRow w1.heap.size XC1).alloc o1).alloc o2).alloc o3).heap[w1.heap.size + 1 + 1]? = some o2 ∧ (((((w1.alloc (.cells ZC 32)).setRow w1.heap.size XC1).alloc o1).alloc o2).alloc o3).heap[w1.heap.size + 1 + 1 + 1]? = some o3) ∧ Below w1.heap.size w1 (((((w1.alloc (.cells ZC 32)).setRow w1.heap.size XC1).alloc o1).alloc o2).alloc o3) ∧ (((((w1.alloc (.cells ZC 32)).setRow w1.heap.size XC1).alloc o1).alloc o2).alloc o3).heap.size = w1.heap.size + 4 := by
  have hz : ((w1.alloc (.cells ZC 32)).setRow w1.heap.size XC1).heap.size = w1.heap.size + 1 := by simp [World.setRow]
  have h0 : ((w1.alloc (.cells ZC 32)).setRow w1.heap.size XC1).heap[w1.heap.size]? = some (.cells XC1 32) := setRow_at XC1 (heap_alloc_new w1 _)
  have z1 : (((w1.alloc (.cells ZC 32)).setRow w1.heap.size XC1).alloc o1).heap.size = w1.heap.size + 1 + 1 := by rw [← hz]; simp
  have z2 : ((((w1.alloc (.cells ZC 32)).setRow w1.heap.size XC1).alloc o1).alloc o2).heap.size = w1.heap.size + 1 + 1 + 1 := by rw [← z1]; simp
  have h2 := heap_alloc_new (((w1.alloc (.cells ZC 32)).setRow w1.heap.size XC1).alloc o1) o2
  have h3 := heap_alloc_new ((((w1.alloc (.cells ZC 32)).setRow w1.heap.size XC1).alloc o1).alloc o2) o3
  rw [z1] at h2
  rw [z2] at h3
  refine ⟨⟨?_, (Lib.alloc_old _ _ _ (by omega)).trans h2, h3⟩, ?_, by have e : (((((w1.alloc (.cells ZC 32)).setRow w1.heap.size XC1).alloc o1).alloc o2).alloc o3).heap.size = ((((w1.alloc (.cells ZC 32)).setRow w1.heap.size XC1).alloc o1).alloc o2).heap.size + 1 := Array.size_push _; omega⟩
  · exact (Lib.alloc_old _ _ _ (by omega)).trans ((Lib.alloc_old _ _ _ (by omega)).trans ((Lib.alloc_old _ _ _ (by omega)).trans h0))
  · exact (((((Below.refl _ _).alloc (Nat.le_refl _) _).trans (below_setRow XC1 (Nat.le_refl _))).alloc (by omega) o1).alloc (by omega) o2).alloc (by omega) o3
theorem x_fine {l : LV} (h : l.Fine) : l.Fine := h
theorem xk1 : (XK 1).Fine := xk_fine 1 ⟨by decide, by decide⟩
theorem infoItem2 : ∃ i, Try.prog.info? 56 = some i ∧ i.zero = some (.agg #[.string ⟨#[]⟩, .string ⟨#[]⟩]) ∧ i.size = 2 ∧ i.bytes = 32 := by
  have h : (Try.prog.info? 56).map (fun i => (i.zero, i.size, i.bytes)) = some (some (.agg #[.string ⟨#[]⟩, .string ⟨#[]⟩]), 2, 32) := by kernel_rfl
  obtain ⟨i, hi, hx⟩ := Option.map_eq_some_iff.1 h
  simp only [Prod.mk.injEq] at hx
  exact ⟨i, hi, hx⟩
theorem made_at (n j : Nat) (h : j < n) : (madeCells #[.string ⟨#[]⟩, .string ⟨#[]⟩] n)[j]? = some (.string ⟨#[]⟩) := by
  have h2 : j % 2 = 0 ∨ j % 2 = 1 := by omega
  rcases h2 with e | e <;> simp [madeCells, h, e]
theorem x4_fine (n : Nat) (h : n ≤ 400) : (X4 n).Fine := { xk1 with liB := ⟨by show (List.replicate n _).length ≤ _; rw [List.length_replicate]; omega, fun x hx => by obtain rfl := (List.mem_replicate.1 hx).2; exact ⟨by show 0 ≤ _; decide, by show 0 ≤ _; decide⟩⟩ }
theorem x5_fine (n : Int) (h0 : 0 ≤ n) (h : n ≤ 400) : (X5 n).Fine := { xk1 with tB := ⟨by show _ ≤ n; omega, by show n ≤ _; omega⟩ }
theorem its_made {w : World} {b n : Nat} (h : w.heap[b]? = some (.cells (madeCells #[.string ⟨#[]⟩, .string ⟨#[]⟩] (n * 2)) 56)) (hn : n ≤ 400) : SlAt w (.slice (some ⟨b, 0, none⟩) n n) (List.replicate n (⟨#[]⟩, ⟨#[]⟩)) :=
  ⟨_, n, by rw [List.length_replicate], by rw [List.length_replicate]; omega, by unfold maxLen; omega, b, 0, fun i hi => by
    rw [List.length_replicate] at hi
    rw [List.getElem_replicate]
    exact ⟨rfl, lt_of_heap h, by rw [Lib.cell_of_heap h]; exact made_at _ _ (by omega), by rw [Lib.cell_of_heap h]; exact made_at _ _ (by omega)⟩⟩
theorem x1_fine (s : ByteArray) (h : s.size ≤ 9223372036854775807) : (X1 s).Fine := { xk1 with keyB := h }
theorem x2_fine (s : ByteArray) (h : s.size ≤ 9223372036854775807) : (X2 s).Fine := { xk1 with nxB := h }
theorem x3_fine (s : ByteArray) (h : s.size ≤ 9223372036854775807) : (X3 s).Fine := { xk1 with liB := ⟨by show 1 ≤ _; decide, fun x hx => by obtain rfl := List.mem_singleton.1 hx; exact ⟨by show 0 ≤ _; decide, h⟩⟩ }
set_option maxRecDepth 20000 in
set_option maxHeartbeats 8000000 in
theorem lim_in (m : Nat) (hm : m ≤ 400) (W : World) :
    Calls Try.prog 8 #[.int .i64 (m : Nat)] W fun e w' => e = .returned (.bool true) ∧ Below W.heap.size W w' := by
  have CA := Lib.hid alive_any
  have hszX : (Try.prog.info? 32).map (·.size) = some XC1.size := by kernel_rfl
  have hszZ : (Try.prog.info? 32).map (·.size) = some 21 := by kernel_rfl
  have hzx : ZC.size = XC1.size := rfl
  have honeX : XC1.all (·.oneCell') = true := by first | decide | simp [XC1, Value.oneCell']
  obtain ⟨s, hs⟩ : ∃ s, txt (List.replicate m 0) = s := ⟨_, rfl⟩
  have hsm : s.size = m := by rw [← hs, txt_size, List.length_replicate]
  have HS := Lib.hid hs
  have HSM := Lib.hid hsm
  clear hs hsm
  go_enter Try.func8, Try.ntmps8
  go_wp2_with (first
    | (go_at_call 11; ((with_reducible refine (CA.out _).mono ?_); rintro e w1 ⟨rfl, hb⟩; have HB1 : Hid (Below W.heap.size W w1) := hb; clear hb; have hwz : ((w1.alloc (.cells ZC 32)).setRow w1.heap.size XC1).heap.size = w1.heap.size + 1 := (by simp [World.setRow]); have hmk := run_make_bytes m (by omega) ((w1.alloc (.cells ZC 32)).setRow w1.heap.size XC1); have hcv := run_conv_zeros m (by omega) ((w1.alloc (.cells ZC 32)).setRow w1.heap.size XC1) (w1.heap.size + 1) hwz.symm; rw [hwz] at hmk; rw [HS.out] at hcv; clear hwz))
    | (with_reducible (show wpList _ _ _ (⟨none, Op.store _ (Operand.tmp 3) _, _, _, _, _⟩ :: _) _ _); go_must (refine wpList_store_row rfl 32 (.tmp 3) (.tmp 21) rfl w1.heap.size XC1 rfl rfl 32 ZC (heap_alloc_new w1 _) hszX hzx honeX ?_)))
  clear hmk hcv
  obtain ⟨hrows, hbw, hwsz⟩ := lim_rows w1 (.cells (zcells m) 5) (.cells #[.string s] 9) (.cells #[.func (.func 22) #[] #[.pointer (some ⟨w1.heap.size + 1 + 1, 0, none⟩)], .func (.func 23) #[] #[.pointer (some ⟨w1.heap.size + 1 + 1, 0, none⟩)], .func (.func 24) #[] #[.pointer (some ⟨w1.heap.size + 1 + 1, 0, none⟩)]] 54)
  have HBL : Hid (Below W.heap.size W (((((w1.alloc (.cells ZC 32)).setRow w1.heap.size XC1).alloc (.cells (zcells m) 5)).alloc (.cells #[.string s] 9)).alloc (.cells #[.func (.func 22) #[] #[.pointer (some ⟨w1.heap.size + 1 + 1, 0, none⟩)], .func (.func 23) #[] #[.pointer (some ⟨w1.heap.size + 1 + 1, 0, none⟩)], .func (.func 24) #[] #[.pointer (some ⟨w1.heap.size + 1 + 1, 0, none⟩)]] 54))) := acc HB1.out hbw
  have HR : Hid (∀ w, Below (((((w1.alloc (.cells ZC 32)).setRow w1.heap.size XC1).alloc (.cells (zcells m) 5)).alloc (.cells #[.string s] 9)).alloc (.cells #[.func (.func 22) #[] #[.pointer (some ⟨w1.heap.size + 1 + 1, 0, none⟩)], .func (.func 23) #[] #[.pointer (some ⟨w1.heap.size + 1 + 1, 0, none⟩)], .func (.func 24) #[] #[.pointer (some ⟨w1.heap.size + 1 + 1, 0, none⟩)]] 54)).heap.size (((((w1.alloc (.cells ZC 32)).setRow w1.heap.size XC1).alloc (.cells (zcells m) 5)).alloc (.cells #[.string s] 9)).alloc (.cells #[.func (.func 22) #[] #[.pointer (some ⟨w1.heap.size + 1 + 1, 0, none⟩)], .func (.func 23) #[] #[.pointer (some ⟨w1.heap.size + 1 + 1, 0, none⟩)], .func (.func 24) #[] #[.pointer (some ⟨w1.heap.size + 1 + 1, 0, none⟩)]] 54)) w → w1.heap.size + 4 ≤ w.heap.size ∧ w.heap[w1.heap.size]? = some (.cells XC1 32) ∧ w.heap[w1.heap.size + 1 + 1]? = some (.cells #[.string s] 9) ∧ w.heap[w1.heap.size + 1 + 1 + 1]? = some (.cells #[.func (.func 22) #[] #[.pointer (some ⟨w1.heap.size + 1 + 1, 0, none⟩)], .func (.func 23) #[] #[.pointer (some ⟨w1.heap.size + 1 + 1, 0, none⟩)], .func (.func 24) #[] #[.pointer (some ⟨w1.heap.size + 1 + 1, 0, none⟩)]] 54)) := fun w hb => by
    have := hb.size
    exact ⟨by omega, (hb.block _ (by omega)).trans hrows.1, (hb.block _ (by omega)).trans hrows.2.1, (hb.block _ (by omega)).trans hrows.2.2⟩
  clear hrows hbw hwsz
  go_loopg [30] 4 (fun z s30 wx => ∃ (i : Nat), i + z = 4 ∧ i ≤ 3 ∧ s30 = .int .i64 (i : Nat) ∧ Hid (Below (((((w1.alloc (.cells ZC 32)).setRow w1.heap.size XC1).alloc (.cells (zcells m) 5)).alloc (.cells #[.string s] 9)).alloc (.cells #[.func (.func 22) #[] #[.pointer (some ⟨w1.heap.size + 1 + 1, 0, none⟩)], .func (.func 23) #[] #[.pointer (some ⟨w1.heap.size + 1 + 1, 0, none⟩)], .func (.func 24) #[] #[.pointer (some ⟨w1.heap.size + 1 + 1, 0, none⟩)]] 54)).heap.size (((((w1.alloc (.cells ZC 32)).setRow w1.heap.size XC1).alloc (.cells (zcells m) 5)).alloc (.cells #[.string s] 9)).alloc (.cells #[.func (.func 22) #[] #[.pointer (some ⟨w1.heap.size + 1 + 1, 0, none⟩)], .func (.func 23) #[] #[.pointer (some ⟨w1.heap.size + 1 + 1, 0, none⟩)], .func (.func 24) #[] #[.pointer (some ⟨w1.heap.size + 1 + 1, 0, none⟩)]] 54)) wx))
  case atStart => exact ⟨0, by omega, by omega, rfl, Below.refl _ _⟩
  case round =>
    obtain ⟨i, hiz, hi3, rfl, HB⟩ := hrel
    obtain ⟨hwr, r1, r2, r3⟩ := HR.out wr HB.out
    obtain ⟨q, hq⟩ : ∃ q, okText s = q := ⟨_, rfl⟩
    have hqq : (q != q) = false := by cases q <;> rfl
    have hqm : decide ((m : Int) ≤ 255) = q := by
      rw [← hq, okText]
      have := HSM.out
      exact decide_eq_decide.2 (by omega)
    have hsl : s.size ≤ 9223372036854775807 := by have := HSM.out; omega
    have hc : i = 0 ∨ i = 1 ∨ i = 2 ∨ i = 3 := by omega
    rcases hc with rfl | rfl | rfl | rfl
    · have c6 := cell_at (o := 0) r3 rfl
      have hi : ∀ a w, (callFunc 22 a).run Try.prog w = .ok (.enter 22 a) w := fun _ _ => by kernel_rfl
      have hzr : ((wr.alloc (.cells ZC 32)).setRow wr.heap.size XC1).heap.size = wr.heap.size + 1 := by simp [World.setRow]
      have hra : ((wr.alloc (.cells ZC 32)).setRow wr.heap.size XC1).heap[wr.heap.size]? = some (.cells XC1 32) := setRow_at XC1 (heap_alloc_new wr _)
      have bra : Below wr.heap.size wr ((wr.alloc (.cells ZC 32)).setRow wr.heap.size XC1) := ((Below.refl _ _).alloc (Nat.le_refl _) _).trans (below_setRow XC1 (Nat.le_refl _))
      have hga : At ((wr.alloc (.cells ZC 32)).setRow wr.heap.size XC1) ⟨w1.heap.size + 1 + 1, 0, none⟩ (.string s) := (show At wr ⟨w1.heap.size + 1 + 1, 0, none⟩ (.string s) from ⟨by show w1.heap.size + 1 + 1 < wr.heap.size; omega, cell_at r2 rfl⟩).below bra
      have CC := lim1_any wr.heap.size (w1.heap.size + 1 + 1) XC1 ⟨#[]⟩ s ((wr.alloc (.cells ZC 32)).setRow wr.heap.size XC1) hra rfl hga
      have CC := Lib.hid CC
      have hr2 : (((wr.alloc (.cells ZC 32)).setRow wr.heap.size XC1).setCell ⟨wr.heap.size, 5, none⟩ (.string s)).heap[wr.heap.size]? = some (.cells ((X1 s).cells (.slice none 0 0) (.slice none 0 0)) 32) := heap_set (o := 5) _ hra
      have hsl2 : SlAt (((wr.alloc (.cells ZC 32)).setRow wr.heap.size XC1).setCell ⟨wr.heap.size, 5, none⟩ (.string s)) (.slice none 0 0) (X1 s).li := SlAt.nil _
      have BR2 : Hid (Below wr.heap.size wr (((wr.alloc (.cells ZC 32)).setRow wr.heap.size XC1).setCell ⟨wr.heap.size, 5, none⟩ (.string s))) := bra.setCell (Nat.le_refl _) _
      have CR := lright_any (X1 s) (.slice none 0 0) (.slice none 0 0) (((wr.alloc (.cells ZC 32)).setRow wr.heap.size XC1).setCell ⟨wr.heap.size, 5, none⟩ (.string s)) (x1_fine s hsl) (SlAt.nil _) hsl2
      rw [x1_some, hq] at CR
      have CR := Lib.hid CR
      have hsz2 : (Try.prog.info? 32).map (·.size) = some ((X1 s).cells (.slice none 0 0) (.slice none 0 0)).size := hszZ
      have R1 := Lib.hid r1
      have R2 := Lib.hid hr2
      clear r1 r2 r3 hr2 hra bra hga hsl2 hzr hq hsl
      go_wp2_with (first
        | (refine wpList_load_row rfl 32 (.tmp 3) rfl w1.heap.size rfl 32 XC1 (0, 0) _ R1.out Try.underlying32 rfl hszX ?_)
        | (with_reducible (show wpList _ _ _ (⟨none, Op.store _ (Operand.tmp 7) _, _, _, _, _⟩ :: _) _ _); go_must (refine wpList_store_row rfl 32 (.tmp 7) (.tmp 34) rfl wr.heap.size XC1 rfl rfl 32 ZC (heap_alloc_new wr _) hszX hzx honeX ?_))
        | (go_at_call 22; ((with_reducible refine (CC.out).mono ?_); rintro e w2 ⟨rfl, rfl⟩))
        | (refine wpList_load_row rfl 32 (.tmp 7) rfl wr.heap.size rfl 32 ((X1 s).cells (.slice none 0 0) (.slice none 0 0)) (0, 0) _ R2.out Try.underlying32 rfl hsz2 ?_)
        | (go_at_call 21; ((with_reducible refine (CR.out).mono ?_); rintro e w3 ⟨rfl, hb3⟩)))
      go_roundg (gk - 1)
      case measure => omega
      case rel => exact ⟨1, by omega, by omega, by go_num, acc HB.out (acc BR2.out hb3)⟩
    · have c6 := cell_at (o := 1) r3 rfl
      have hi : ∀ a w, (callFunc 23 a).run Try.prog w = .ok (.enter 23 a) w := fun _ _ => by kernel_rfl
      have hzr : ((wr.alloc (.cells ZC 32)).setRow wr.heap.size XC1).heap.size = wr.heap.size + 1 := by simp [World.setRow]
      have hra : ((wr.alloc (.cells ZC 32)).setRow wr.heap.size XC1).heap[wr.heap.size]? = some (.cells XC1 32) := setRow_at XC1 (heap_alloc_new wr _)
      have bra : Below wr.heap.size wr ((wr.alloc (.cells ZC 32)).setRow wr.heap.size XC1) := ((Below.refl _ _).alloc (Nat.le_refl _) _).trans (below_setRow XC1 (Nat.le_refl _))
      have hga : At ((wr.alloc (.cells ZC 32)).setRow wr.heap.size XC1) ⟨w1.heap.size + 1 + 1, 0, none⟩ (.string s) := (show At wr ⟨w1.heap.size + 1 + 1, 0, none⟩ (.string s) from ⟨by show w1.heap.size + 1 + 1 < wr.heap.size; omega, cell_at r2 rfl⟩).below bra
      have CC := lim2_any wr.heap.size (w1.heap.size + 1 + 1) XC1 ⟨#[]⟩ s ((wr.alloc (.cells ZC 32)).setRow wr.heap.size XC1) hra rfl hga
      have CC := Lib.hid CC
      have hr2 : (((wr.alloc (.cells ZC 32)).setRow wr.heap.size XC1).setCell ⟨wr.heap.size, 13, none⟩ (.string s)).heap[wr.heap.size]? = some (.cells ((X2 s).cells (.slice none 0 0) (.slice none 0 0)) 32) := heap_set (o := 13) _ hra
      have hsl2 : SlAt (((wr.alloc (.cells ZC 32)).setRow wr.heap.size XC1).setCell ⟨wr.heap.size, 13, none⟩ (.string s)) (.slice none 0 0) (X2 s).li := SlAt.nil _
      have BR2 : Hid (Below wr.heap.size wr (((wr.alloc (.cells ZC 32)).setRow wr.heap.size XC1).setCell ⟨wr.heap.size, 13, none⟩ (.string s))) := bra.setCell (Nat.le_refl _) _
      have CR := lright_any (X2 s) (.slice none 0 0) (.slice none 0 0) (((wr.alloc (.cells ZC 32)).setRow wr.heap.size XC1).setCell ⟨wr.heap.size, 13, none⟩ (.string s)) (x2_fine s hsl) (SlAt.nil _) hsl2
      rw [x2_some, hq] at CR
      have CR := Lib.hid CR
      have hsz2 : (Try.prog.info? 32).map (·.size) = some ((X2 s).cells (.slice none 0 0) (.slice none 0 0)).size := hszZ
      have R1 := Lib.hid r1
      have R2 := Lib.hid hr2
      clear r1 r2 r3 hr2 hra bra hga hsl2 hzr hq hsl
      go_wp2_with (first
        | (refine wpList_load_row rfl 32 (.tmp 3) rfl w1.heap.size rfl 32 XC1 (0, 0) _ R1.out Try.underlying32 rfl hszX ?_)
        | (with_reducible (show wpList _ _ _ (⟨none, Op.store _ (Operand.tmp 7) _, _, _, _, _⟩ :: _) _ _); go_must (refine wpList_store_row rfl 32 (.tmp 7) (.tmp 34) rfl wr.heap.size XC1 rfl rfl 32 ZC (heap_alloc_new wr _) hszX hzx honeX ?_))
        | (go_at_call 23; ((with_reducible refine (CC.out).mono ?_); rintro e w2 ⟨rfl, rfl⟩))
        | (refine wpList_load_row rfl 32 (.tmp 7) rfl wr.heap.size rfl 32 ((X2 s).cells (.slice none 0 0) (.slice none 0 0)) (0, 0) _ R2.out Try.underlying32 rfl hsz2 ?_)
        | (go_at_call 21; ((with_reducible refine (CR.out).mono ?_); rintro e w3 ⟨rfl, hb3⟩)))
      go_roundg (gk - 1)
      case measure => omega
      case rel => exact ⟨2, by omega, by omega, by go_num, acc HB.out (acc BR2.out hb3)⟩
    · have c6 := cell_at (o := 2) r3 rfl
      have hi : ∀ a w, (callFunc 24 a).run Try.prog w = .ok (.enter 24 a) w := fun _ _ => by kernel_rfl
      have hzr : ((wr.alloc (.cells ZC 32)).setRow wr.heap.size XC1).heap.size = wr.heap.size + 1 := by simp [World.setRow]
      have hra : ((wr.alloc (.cells ZC 32)).setRow wr.heap.size XC1).heap[wr.heap.size]? = some (.cells XC1 32) := setRow_at XC1 (heap_alloc_new wr _)
      have bra : Below wr.heap.size wr ((wr.alloc (.cells ZC 32)).setRow wr.heap.size XC1) := ((Below.refl _ _).alloc (Nat.le_refl _) _).trans (below_setRow XC1 (Nat.le_refl _))
      have hga : At ((wr.alloc (.cells ZC 32)).setRow wr.heap.size XC1) ⟨w1.heap.size + 1 + 1, 0, none⟩ (.string s) := (show At wr ⟨w1.heap.size + 1 + 1, 0, none⟩ (.string s) from ⟨by show w1.heap.size + 1 + 1 < wr.heap.size; omega, cell_at r2 rfl⟩).below bra
      have CC := lim3_any wr.heap.size (w1.heap.size + 1 + 1) XC1 (.slice none 0 0) s ((wr.alloc (.cells ZC 32)).setRow wr.heap.size XC1) hra rfl ⟨_, _, _, rfl⟩ hga
      rw [hzr] at CC
      have CC := Lib.hid CC
      have hr2 : (((wr.alloc (.cells ZC 32)).setRow wr.heap.size XC1).setCell ⟨wr.heap.size, 18, none⟩ (.slice (some ⟨wr.heap.size + 1, 0, none⟩) 1 1)).heap[wr.heap.size]? = some (.cells ((X3 s).cells (.slice none 0 0) (.slice (some ⟨wr.heap.size + 1, 0, none⟩) 1 1)) 32) := heap_set (o := 18) _ hra
      have hr2 := (Lib.alloc_old _ (.cells #[.string ⟨#[]⟩, .string s] 56) _ (lt_of_heap hr2)).trans hr2
      have hz2 : (((wr.alloc (.cells ZC 32)).setRow wr.heap.size XC1).setCell ⟨wr.heap.size, 18, none⟩ (.slice (some ⟨wr.heap.size + 1, 0, none⟩) 1 1)).heap.size = wr.heap.size + 1 := by simp [World.setRow, World.setCell]
      have hnew := heap_alloc_new (((wr.alloc (.cells ZC 32)).setRow wr.heap.size XC1).setCell ⟨wr.heap.size, 18, none⟩ (.slice (some ⟨wr.heap.size + 1, 0, none⟩) 1 1)) (.cells #[.string ⟨#[]⟩, .string s] 56)
      rw [hz2] at hnew
      have hsl2 : SlAt ((((wr.alloc (.cells ZC 32)).setRow wr.heap.size XC1).setCell ⟨wr.heap.size, 18, none⟩ (.slice (some ⟨wr.heap.size + 1, 0, none⟩) 1 1)).alloc (.cells #[.string ⟨#[]⟩, .string s] 56)) (.slice (some ⟨wr.heap.size + 1, 0, none⟩) 1 1) (X3 s).li := ⟨_, 1, rfl, Nat.le_refl _, by unfold maxLen; omega, wr.heap.size + 1, 0, fun i hi => by
        obtain rfl : i = 0 := by have : i < 1 := hi; omega
        exact ⟨rfl, lt_of_heap hnew, cell_at hnew rfl, cell_at hnew rfl⟩⟩
      have BR2 : Hid (Below wr.heap.size wr ((((wr.alloc (.cells ZC 32)).setRow wr.heap.size XC1).setCell ⟨wr.heap.size, 18, none⟩ (.slice (some ⟨wr.heap.size + 1, 0, none⟩) 1 1)).alloc (.cells #[.string ⟨#[]⟩, .string s] 56))) := (bra.setCell (Nat.le_refl _) _).alloc (by rw [hz2]; omega) _
      have CR := lright_any (X3 s) (.slice none 0 0) (.slice (some ⟨wr.heap.size + 1, 0, none⟩) 1 1) ((((wr.alloc (.cells ZC 32)).setRow wr.heap.size XC1).setCell ⟨wr.heap.size, 18, none⟩ (.slice (some ⟨wr.heap.size + 1, 0, none⟩) 1 1)).alloc (.cells #[.string ⟨#[]⟩, .string s] 56)) (x3_fine s hsl) (SlAt.nil _) hsl2
      rw [x3_some, hq] at CR
      have CR := Lib.hid CR
      have hsz2 : (Try.prog.info? 32).map (·.size) = some ((X3 s).cells (.slice none 0 0) (.slice (some ⟨wr.heap.size + 1, 0, none⟩) 1 1)).size := hszZ
      have R1 := Lib.hid r1
      have R2 := Lib.hid hr2
      clear r1 r2 r3 hr2 hra bra hga hsl2 hzr hq hsl
      go_wp2_with (first
        | (refine wpList_load_row rfl 32 (.tmp 3) rfl w1.heap.size rfl 32 XC1 (0, 0) _ R1.out Try.underlying32 rfl hszX ?_)
        | (with_reducible (show wpList _ _ _ (⟨none, Op.store _ (Operand.tmp 7) _, _, _, _, _⟩ :: _) _ _); go_must (refine wpList_store_row rfl 32 (.tmp 7) (.tmp 34) rfl wr.heap.size XC1 rfl rfl 32 ZC (heap_alloc_new wr _) hszX hzx honeX ?_))
        | (go_at_call 24; ((with_reducible refine (CC.out).mono ?_); rintro e w2 ⟨rfl, rfl⟩))
        | (refine wpList_load_row rfl 32 (.tmp 7) rfl wr.heap.size rfl 32 ((X3 s).cells (.slice none 0 0) (.slice (some ⟨wr.heap.size + 1, 0, none⟩) 1 1)) (0, 0) _ R2.out Try.underlying32 rfl hsz2 ?_)
        | (go_at_call 21; ((with_reducible refine (CR.out).mono ?_); rintro e w3 ⟨rfl, hb3⟩)))
      go_roundg (gk - 1)
      case measure => omega
      case rel => exact ⟨3, by omega, by omega, by go_num, acc HB.out (acc BR2.out hb3)⟩
    · obtain ⟨iI, hiI, hzI, hz1I, hz2I⟩ := infoItem2
      have hzr : ((wr.alloc (.cells ZC 32)).setRow wr.heap.size XC1).heap.size = wr.heap.size + 1 := by simp [World.setRow]
      have hra : ((wr.alloc (.cells ZC 32)).setRow wr.heap.size XC1).heap[wr.heap.size]? = some (.cells XC1 32) := setRow_at XC1 (heap_alloc_new wr _)
      have bra : Below wr.heap.size wr ((wr.alloc (.cells ZC 32)).setRow wr.heap.size XC1) := ((Below.refl _ _).alloc (Nat.le_refl _) _).trans (below_setRow XC1 (Nat.le_refl _))
      have hmk := run_make (P := Try.prog) ((wr.alloc (.cells ZC 32)).setRow wr.heap.size XC1) 25 56 iI _ Try.underlying25 hiI hzI .i64 .i64 (m : Int) (m : Int) (by omega) (Int.le_refl _) (by rw [hz2I]; omega) (by omega)
      simp only [Int.toNat_natCast, hz1I, hzr] at hmk
      obtain ⟨mc, hmc⟩ : ∃ mc, madeCells (Value.agg #[.string ⟨#[]⟩, .string ⟨#[]⟩]).cells (m * 2) = mc := ⟨_, rfl⟩
      rw [hmc] at hmk
      have hrb := (Lib.alloc_old ((wr.alloc (.cells ZC 32)).setRow wr.heap.size XC1) (.cells mc 56) wr.heap.size (by omega)).trans hra
      have c18 := cell_at (o := 18) hrb rfl
      have f18 := frozen_at (o := 18) hrb
      have zs : (((wr.alloc (.cells ZC 32)).setRow wr.heap.size XC1).setCell ⟨wr.heap.size, 18, none⟩ (.slice (some ⟨wr.heap.size + 1, 0, none⟩) m m)).heap.size = wr.heap.size + 1 := by simp [World.setRow, World.setCell]
      have zb : ((((wr.alloc (.cells ZC 32)).setRow wr.heap.size XC1).setCell ⟨wr.heap.size, 18, none⟩ (.slice (some ⟨wr.heap.size + 1, 0, none⟩) m m)).alloc (.cells mc 56)).heap.size = wr.heap.size + 1 + 1 := by rw [← zs]; simp
      have n8 : ((((wr.alloc (.cells ZC 32)).setRow wr.heap.size XC1).setCell ⟨wr.heap.size, 18, none⟩ (.slice (some ⟨wr.heap.size + 1, 0, none⟩) m m)).alloc (.cells mc 56)).heap[wr.heap.size]? = some (.cells ((X4 m).cells (.slice none 0 0) (.slice (some ⟨wr.heap.size + 1, 0, none⟩) m m)) 32) := (Lib.alloc_old _ _ _ (by omega)).trans (heap_set (o := 18) _ hra)
      have nm0 := heap_alloc_new (((wr.alloc (.cells ZC 32)).setRow wr.heap.size XC1).setCell ⟨wr.heap.size, 18, none⟩ (.slice (some ⟨wr.heap.size + 1, 0, none⟩) m m)) (.cells mc 56)
      rw [zs] at nm0
      have nm : ((((wr.alloc (.cells ZC 32)).setRow wr.heap.size XC1).setCell ⟨wr.heap.size, 18, none⟩ (.slice (some ⟨wr.heap.size + 1, 0, none⟩) m m)).alloc (.cells mc 56)).heap[wr.heap.size + 1]? = some (.cells (madeCells #[.string ⟨#[]⟩, .string ⟨#[]⟩] (m * 2)) 56) := by
        rw [show madeCells #[.string ⟨#[]⟩, .string ⟨#[]⟩] (m * 2) = mc from hmc]
        exact nm0
      have bwb : Below wr.heap.size wr ((((wr.alloc (.cells ZC 32)).setRow wr.heap.size XC1).setCell ⟨wr.heap.size, 18, none⟩ (.slice (some ⟨wr.heap.size + 1, 0, none⟩) m m)).alloc (.cells mc 56)) := (bra.setCell (Nat.le_refl _) _).alloc (by omega) _
      have nz := heap_alloc_new ((((wr.alloc (.cells ZC 32)).setRow wr.heap.size XC1).setCell ⟨wr.heap.size, 18, none⟩ (.slice (some ⟨wr.heap.size + 1, 0, none⟩) m m)).alloc (.cells mc 56)) (.cells ZC 32)
      rw [zb] at nz
      have bwd : Below ((((wr.alloc (.cells ZC 32)).setRow wr.heap.size XC1).setCell ⟨wr.heap.size, 18, none⟩ (.slice (some ⟨wr.heap.size + 1, 0, none⟩) m m)).alloc (.cells mc 56)).heap.size ((((wr.alloc (.cells ZC 32)).setRow wr.heap.size XC1).setCell ⟨wr.heap.size, 18, none⟩ (.slice (some ⟨wr.heap.size + 1, 0, none⟩) m m)).alloc (.cells mc 56)) (((((((wr.alloc (.cells ZC 32)).setRow wr.heap.size XC1).setCell ⟨wr.heap.size, 18, none⟩ (.slice (some ⟨wr.heap.size + 1, 0, none⟩) m m)).alloc (.cells mc 56)).alloc (.cells ZC 32)).setRow (wr.heap.size + 1 + 1) XC1).setCell ⟨wr.heap.size + 1 + 1, 2, none⟩ (.int .i64 (m : Nat))) := (((Below.refl _ _).alloc (Nat.le_refl _) _).trans (below_setRow XC1 (by omega))).setCell (by show ((((wr.alloc (.cells ZC 32)).setRow wr.heap.size XC1).setCell ⟨wr.heap.size, 18, none⟩ (.slice (some ⟨wr.heap.size + 1, 0, none⟩) m m)).alloc (.cells mc 56)).heap.size ≤ wr.heap.size + 1 + 1; omega) _
      have hrc : ((((((wr.alloc (.cells ZC 32)).setRow wr.heap.size XC1).setCell ⟨wr.heap.size, 18, none⟩ (.slice (some ⟨wr.heap.size + 1, 0, none⟩) m m)).alloc (.cells mc 56)).alloc (.cells ZC 32)).setRow (wr.heap.size + 1 + 1) XC1).heap[wr.heap.size + 1 + 1]? = some (.cells XC1 32) := setRow_at XC1 nz
      have c2 := cell_at (o := 2) hrc rfl
      have f2 := frozen_at (o := 2) hrc
      have n9 : (((((((wr.alloc (.cells ZC 32)).setRow wr.heap.size XC1).setCell ⟨wr.heap.size, 18, none⟩ (.slice (some ⟨wr.heap.size + 1, 0, none⟩) m m)).alloc (.cells mc 56)).alloc (.cells ZC 32)).setRow (wr.heap.size + 1 + 1) XC1).setCell ⟨wr.heap.size + 1 + 1, 2, none⟩ (.int .i64 (m : Nat))).heap[wr.heap.size + 1 + 1]? = some (.cells ((X5 m).cells (.slice none 0 0) (.slice none 0 0)) 32) := heap_set (o := 2) _ hrc
      have n8d := (bwd.block _ (lt_of_heap n8)).trans n8
      have sl4 : SlAt (((((((wr.alloc (.cells ZC 32)).setRow wr.heap.size XC1).setCell ⟨wr.heap.size, 18, none⟩ (.slice (some ⟨wr.heap.size + 1, 0, none⟩) m m)).alloc (.cells mc 56)).alloc (.cells ZC 32)).setRow (wr.heap.size + 1 + 1) XC1).setCell ⟨wr.heap.size + 1 + 1, 2, none⟩ (.int .i64 (m : Nat))) (.slice (some ⟨wr.heap.size + 1, 0, none⟩) m m) (X4 m).li := (its_made nm hm).below bwd
      have CR4 := lright_any (X4 m) (.slice none 0 0) (.slice (some ⟨wr.heap.size + 1, 0, none⟩) m m) (((((((wr.alloc (.cells ZC 32)).setRow wr.heap.size XC1).setCell ⟨wr.heap.size, 18, none⟩ (.slice (some ⟨wr.heap.size + 1, 0, none⟩) m m)).alloc (.cells mc 56)).alloc (.cells ZC 32)).setRow (wr.heap.size + 1 + 1) XC1).setCell ⟨wr.heap.size + 1 + 1, 2, none⟩ (.int .i64 (m : Nat))) (x4_fine m hm) (SlAt.nil _) sl4
      rw [x4_some] at CR4
      have CR5 : Hid (∀ w, Calls Try.prog 21 #[.agg ((X5 m).cells (.slice none 0 0) (.slice none 0 0))] w fun e w' => e = .returned (.bool (decide ((m : Int) ≤ 255))) ∧ Below w.heap.size w w') := fun w => by
        have := lright_any (X5 m) (.slice none 0 0) (.slice none 0 0) w (x5_fine m (by omega) (by omega)) (SlAt.nil _) (SlAt.nil _)
        rw [x5_some, show decide (0 ≤ (m : Int) ∧ (m : Int) ≤ 255) = decide ((m : Int) ≤ 255) from decide_eq_decide.2 (by omega)] at this
        exact this
      obtain ⟨q4, hq4⟩ : ∃ q4, decide (m ≤ 40) = q4 := ⟨_, rfl⟩
      have e4 : decide ((m : Int) ≤ 40) = q4 := by rw [← hq4]; exact decide_eq_decide.2 (by omega)
      rw [hq4] at CR4
      have CR4 := Lib.hid CR4
      have hqq4 : (q4 == q4) = true := by cases q4 <;> rfl
      have hqq5 : (q == q) = true := by cases q <;> rfl
      rw [hqm] at CR5
      have N9 : Hid (∀ w, Below (((((((wr.alloc (.cells ZC 32)).setRow wr.heap.size XC1).setCell ⟨wr.heap.size, 18, none⟩ (.slice (some ⟨wr.heap.size + 1, 0, none⟩) m m)).alloc (.cells mc 56)).alloc (.cells ZC 32)).setRow (wr.heap.size + 1 + 1) XC1).setCell ⟨wr.heap.size + 1 + 1, 2, none⟩ (.int .i64 (m : Nat))).heap.size (((((((wr.alloc (.cells ZC 32)).setRow wr.heap.size XC1).setCell ⟨wr.heap.size, 18, none⟩ (.slice (some ⟨wr.heap.size + 1, 0, none⟩) m m)).alloc (.cells mc 56)).alloc (.cells ZC 32)).setRow (wr.heap.size + 1 + 1) XC1).setCell ⟨wr.heap.size + 1 + 1, 2, none⟩ (.int .i64 (m : Nat))) w → w.heap[wr.heap.size + 1 + 1]? = some (.cells ((X5 m).cells (.slice none 0 0) (.slice none 0 0)) 32)) := fun w hb => (hb.block _ (lt_of_heap n9)).trans n9
      have hs4 : (Try.prog.info? 32).map (·.size) = some ((X4 m).cells (.slice none 0 0) (.slice (some ⟨wr.heap.size + 1, 0, none⟩) m m)).size := hszZ
      have hs5 : (Try.prog.info? 32).map (·.size) = some ((X5 m).cells (.slice none 0 0) (.slice none 0 0)).size := hszZ
      have BD : Hid (Below W.heap.size W (((((((wr.alloc (.cells ZC 32)).setRow wr.heap.size XC1).setCell ⟨wr.heap.size, 18, none⟩ (.slice (some ⟨wr.heap.size + 1, 0, none⟩) m m)).alloc (.cells mc 56)).alloc (.cells ZC 32)).setRow (wr.heap.size + 1 + 1) XC1).setCell ⟨wr.heap.size + 1 + 1, 2, none⟩ (.int .i64 (m : Nat)))) := acc (acc HBL.out HB.out) (acc bwb bwd)
      have N8 := Lib.hid n8d
      have R1 := Lib.hid r1
      have R1b := Lib.hid ((bwb.block _ (lt_of_heap r1)).trans r1)
      have NZ := Lib.hid nz
      clear r1 r2 r3 hqq hq hra hrb bra hmc zs n8 nm nm0 bwb nz bwd hrc n9 n8d sl4 hq4 hsl hzI hiI hz1I hz2I hzr
      go_upto_region 14 with (first
        | (with_reducible (show wpList _ _ _ (⟨none, Op.store _ (Operand.tmp 8) _, _, _, _, _⟩ :: _) _ _); go_must (refine wpList_store_row rfl 32 (.tmp 8) (.tmp 43) rfl wr.heap.size XC1 rfl rfl 32 ZC (heap_alloc_new wr _) hszX hzx honeX ?_))
        | (refine wpList_load_row rfl 32 (.tmp 3) rfl w1.heap.size rfl 32 XC1 (0, 0) _ R1.out Try.underlying32 rfl hszX ?_))
      go_upto_region 15 with (go_at_call 21; fail)
      go_upto_region 16 with (first
        | (with_reducible (show wpList _ _ _ (⟨none, Op.store _ (Operand.tmp 9) _, _, _, _, _⟩ :: _) _ _); go_must (refine wpList_store_row rfl 32 (.tmp 9) (.tmp 47) rfl (wr.heap.size + 1 + 1) XC1 rfl rfl 32 ZC NZ.out hszX hzx honeX ?_))
        | (refine wpList_load_row rfl 32 (.tmp 3) rfl w1.heap.size rfl 32 XC1 (0, 0) _ R1b.out Try.underlying32 rfl hszX ?_))
      go_upto_region 17 with (go_at_call 21; fail)
      obtain ⟨wd, hwd⟩ : ∃ w, (((((((wr.alloc (.cells ZC 32)).setRow wr.heap.size XC1).setCell ⟨wr.heap.size, 18, none⟩ (.slice (some ⟨wr.heap.size + 1, 0, none⟩) m m)).alloc (.cells mc 56)).alloc (.cells ZC 32)).setRow (wr.heap.size + 1 + 1) XC1).setCell ⟨wr.heap.size + 1 + 1, 2, none⟩ (.int .i64 (m : Nat))) = w := ⟨_, rfl⟩
      rw [hwd] at CR4 N9 N8 BD ⊢
      clear hwd NZ R1 R1b
      go_wp2_with (first
        | (refine wpList_load_row rfl 32 (.tmp 8) rfl wr.heap.size rfl 32 ((X4 m).cells (.slice none 0 0) (.slice (some ⟨wr.heap.size + 1, 0, none⟩) m m)) (0, 0) _ N8.out Try.underlying32 rfl hs4 ?_)
        | (go_at_call 21; ((with_reducible refine (CR4.out).mono ?_); rintro e w4 ⟨rfl, hb4⟩; have HB4 := Lib.hid hb4; have n9 := Lib.hid (N9.out w4 hb4); clear hb4))
        | (refine wpList_load_rowG (by rfl) 32 (.tmp 9) rfl (wr.heap.size + 1 + 1) rfl 32 ((X5 m).cells (.slice none 0 0) (.slice none 0 0)) (0, 0) _ n9.out Try.underlying32 rfl hs5 ?_)
        | (go_at_call 21; ((with_reducible refine (CR5.out _).mono ?_); rintro e w5 ⟨rfl, hb5⟩)))
      go_ret
      exact ⟨rfl, acc (acc BD.out HB4.out) hb5⟩
end Go.Proofs.Ytbnmddopgbhapaa
