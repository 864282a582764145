/-
  The document's reader, walked: items.
  The document's reader, walked: letter.
  The document's Get, walked.
-/
import Derived.Test.YtbnmddopgbhapaaGreatLetRefA
import Derived.Test.YtbnmddopgbhapaaGreatAppendAny
import Derived.Test.YtbnmddopgbhapaaGreatLetLetter
import Derived.Test.YtbnmddopgbhapaaGreatLetRefC
import Derived.Test.YtbnmddopgbhapaaGreatLetRefBP
namespace Go.Proofs.YtbnmddopgbhapaaGreat
open Go.RowKit

theorem infoItem3 : ∃ i, Tryz.prog.info? 58 = some i ∧ i.zero = some (.agg #[.string ⟨#[]⟩, .string ⟨#[]⟩]) ∧ i.size = 2 ∧ i.bytes = 32 := by
  have h : (Tryz.prog.info? 58).map (fun i => (i.zero, i.size, i.bytes)) = some (some (.agg #[.string ⟨#[]⟩, .string ⟨#[]⟩]), 2, 32) := by kernel_rfl
  obtain ⟨i, hi, hx⟩ := Option.map_eq_some_iff.1 h
  simp only [Prod.mk.injEq] at hx
  exact ⟨i, hi, hx⟩
theorem item_from (Wc : World) (b : Nat) (xk xv : ByteArray) (hh : Wc.heap[b]? = some (.cells #[.string xk, .string xv] 58 (0, 0))) : From Wc 2 (.slice (some ⟨b, 0, none⟩) 1 1) 1 (itemCells [(xk, xv)]) := by
  refine .inr ⟨_, _, rfl, rfl, fun j' u hj => ?_⟩
  rw [Go.WideShapes.add_plain, Nat.zero_add, Lib.cell_of_heap hh]
  simpa [itemCells] using hj
theorem cells_one : ∀ (l : List Item), ∀ u ∈ itemCells l, u.oneCell' = true
  | [], u, h => by cases h
  | x :: l, u, h => by
    rw [itemCells_cons] at h
    rcases List.mem_cons.1 h with rfl | h
    · rfl
    · rcases List.mem_cons.1 h with rfl | h
      · rfl
      · exact cells_one l u h
theorem own_push {w : World} {b : Nat} {A : Option Addr} {c n : Nat} {l : List Item} {x : Item} (h : w.ownsRow b 58 2 (.slice A (n + 1) c) (n + 1) (itemCells l ++ itemCells [x])) (hn : l.length = n) : w.ownsRow b 58 2 (.slice A (l ++ [x]).length c) (l ++ [x]).length (itemCells (l ++ [x])) := by
  have e : (l ++ [x]).length = n + 1 := by rw [List.length_append]; simp [hn]
  rw [e, itemCells_append]
  exact h
/-- a row of items of the call's own, and a reader that moved -/
def OutR (g : Nat) (W w : World) (A : Option Addr) (c : Nat) (l : List Item) : Prop := w.ownsRow W.heap.size 58 2 (.slice A l.length c) l.length (itemCells l) ∧ Gr g W w ∧ g < W.heap.size
theorem OutR.nil {g : Nat} {W w : World} (h : Gr g W w) (hg : g < W.heap.size) : OutR g W w none 0 [] := ⟨World.ownsRow_nil _ _ _ _, h, hg⟩
theorem OutR.step {g : Nat} {W w w1 : World} {A : Option Addr} {c : Nat} {l : List Item} (h : OutR g W w A c l) (k : Gr g w w1) : OutR g W w1 A c l := ⟨own_other h.1 k h.2.2, h.2.1.trans k, h.2.2⟩
theorem OutR.push {g : Nat} {W w w3 : World} {A A3 : Option Addr} {c c3 : Nat} {l : List Item} {x : Item} {o : Obj} (h : OutR g W w A c l) (ho : w3.ownsRow W.heap.size 58 2 (.slice A3 (l.length + 1) c3) (l.length + 1) (itemCells l ++ itemCells [x])) (hg : (w.alloc o).grownBy w3 (Value.slice A l.length c).ownBlock) : OutR g W w3 A3 c3 (l ++ [x]) :=
  ⟨own_push ho rfl, (h.2.1.alloc o).grown hg (fun k hk => (h.1.lt k hk).1), h.2.2⟩
theorem RfO.grown {W W1 : World} {g : Nat} {row : Option Nat} {o : Option ByteArray} (h : RfO W g o) (hg : W.grownBy W1 row) (hr : ∀ k, row = some k → g < k) : RfO W1 g o := by
  cases o with
  | none => obtain ⟨s, h⟩ := h; exact ⟨s, Rq.grown h hg hr⟩
  | some s => exact Rq.grown h hg hr
theorem RfO.alloc {W : World} {g : Nat} {o : Option ByteArray} (h : RfO W g o) (x : Obj) : RfO (W.alloc x) g o := by
  cases o with
  | none => obtain ⟨s, h⟩ := h; exact ⟨s, h.alloc x⟩
  | some s => exact Rq.alloc h x
theorem RfO.lt {W : World} {g : Nat} {o : Option ByteArray} (h : RfO W g o) : g < W.heap.size := by
  cases o with
  | none => obtain ⟨s, h⟩ := h; exact h.1
  | some s => exact h.1
/-- what items tells -/
def RItems (g : Nat) (W : World) (o : Option ByteArray) (e : Ending) (w' : World) : Prop :=
  ∃ A c, e = .returned (.slice A (listR o).1.length c) ∧ RfO w' g (listR o).2 ∧ OutR g W w' A c (listR o).1
theorem itemsR_none (n : Nat) : itemsR n none = ([], none) := by cases n <;> rfl
theorem itemsR_size : ∀ (n : Nat) (o : Option ByteArray), sizeO (itemsR n o).2 ≤ sizeO o ∧ (itemsR n o).1.length ≤ n
  | 0, o => ⟨Nat.le_refl _, Nat.le_refl _⟩
  | n + 1, none => ⟨Nat.le_refl _, by simp [itemsR]⟩
  | n + 1, some s => by
    have ih := itemsR_size n (restT (restT (some s)))
    have h1 : sizeO (restT (some s)) ≤ sizeO (some s) := Nat.le_trans (sizeO_rest _ _) (sizeO_rest _ _)
    have h2 : sizeO (restT (restT (some s))) ≤ sizeO (restT (some s)) := Nat.le_trans (sizeO_rest _ _) (sizeO_rest _ _)
    rw [itemsR]
    refine ⟨Nat.le_trans ih.1 (Nat.le_trans h2 h1), ?_⟩
    rw [List.length_cons]
    omega
set_option maxRecDepth 20000 in
set_option maxHeartbeats 4000000 in
theorem ritems_any (g : Nat) (o : Option ByteArray) (W : World) (hR : RfO W g o) (hs : sizeO o ≤ 9223372036854775807) :
    Calls Tryz.prog 70 #[.pointer (some ⟨g, 0, none⟩)] W (RItems g W o) := by
  obtain ⟨iI, hiI, hzI, hz1I, hz2I⟩ := infoItem3
  have hgl := hR.lt
  have HGL := Lib.hid hgl
  have CN := Lib.hid (fnum_any g o W hR hs)
  have CT : Hid (∀ p w, RfO w g p → sizeO p ≤ 9223372036854775807 → Calls Tryz.prog 71 #[.pointer (some ⟨g, 0, none⟩)] w fun e w' => e = .returned (.string (textO p)) ∧ RfO w' g (restT p) ∧ Gr g w w') := fun p w h1 h2 => ftext_any g p w h1 h2
  have hm : numO o 2 ≤ 65535 := by have := numO_lt o 2; omega
  have hrs : sizeO (restO o 2) ≤ 9223372036854775807 := Nat.le_trans (sizeO_rest _ _) hs
  unfold RItems
  have HL : Hid (listR o = itemsR (numO o 2) (restO o 2)) := rfl
  generalize listR o = lo at *
  generalize numO o 2 = m at *
  generalize restO o 2 = r at *
  clear hR hs hgl
  go_enter Tryz.func70, Tryz.ntmps70
  go_wp2_with (go_at_call 68; ((with_reducible refine (CN.out).mono ?_); rintro e w1 ⟨rfl, hR1, hg1⟩; have HR1 := Lib.hid hR1; have HG1 := Lib.hid hg1; clear hR1 hg1))
  go_loopg [4, 5] (m + 1) (fun z s4 s5 wx => ∃ (i : Nat) (A : Option Addr) (c : Nat) (cur : List Item) (p : Option ByteArray), i + z = m + 1 ∧ i ≤ m ∧ s4 = .slice A cur.length c ∧ s5 = .int .i64 (i : Nat) ∧ Hid (cur.length = i) ∧ sizeO p ≤ 9223372036854775807 ∧ Hid (lo = (cur ++ (itemsR (m - i) p).1, (itemsR (m - i) p).2)) ∧ Hid (RfO wx g p) ∧ Hid (OutR g W wx A c cur))
  case atStart => exact ⟨0, none, 0, [], r, by omega, by omega, rfl, rfl, (show _ = _ from rfl), hrs, HL.out, HR1.out, OutR.nil HG1.out HGL.out⟩
  case round =>
    obtain ⟨i, A, c, cur, p, hiz, him, rfl, rfl, hcl, hps, HE, HR, HO⟩ := hrel
    by_cases hlt : i < m
    · have bi : decide ((i : Int) < (m : Int)) = true := by simp; omega
      obtain ⟨k, hk⟩ : ∃ k, m - i = k + 1 := ⟨m - i - 1, by omega⟩
      cases p with
      | none =>
        obtain ⟨s, q1, q2, q3, q4, q5⟩ := HR.out
        have HX : Hid (lo = (cur, none)) := by
          show _ = _
          have h := HE.out
          rw [itemsR_none, List.append_nil] at h
          exact h
        clear hk
        go_wp2_with fail
        go_ret
        exact ⟨A, c, by rw [HX.out]; rfl, by rw [HX.out]; exact HR.out, by rw [HX.out]; exact HO.out⟩
      | some s =>
        obtain ⟨q1, q2, q3, q4, q5⟩ := HR.out
        have C1 := Lib.hid (CT.out (some s) wr HR.out hps)
        have hz1 : sizeO (restT (some s)) ≤ 9223372036854775807 := Nat.le_trans (Nat.le_trans (sizeO_rest _ _) (sizeO_rest _ _)) hps
        have HS2 : Hid (sizeO (restT (restT (some s))) ≤ 9223372036854775807) := Nat.le_trans (Nat.le_trans (sizeO_rest _ _) (sizeO_rest _ _)) hz1
        have C2 := Lib.hid (fun w h => CT.out (restT (some s)) w h hz1)
        have HX : Hid (lo = ((cur ++ [(textO (some s), textO (restT (some s)))]) ++ (itemsR (m - (i + 1)) (restT (restT (some s)))).1, (itemsR (m - (i + 1)) (restT (restT (some s)))).2)) := by
          show _ = _
          have h := HE.out
          rw [hk, itemsR] at h
          have e : m - (i + 1) = k := by omega
          rw [e, List.append_assoc]
          exact h
        clear HE hk hz1
        generalize textO (some s) = t1 at *
        generalize restT (some s) = p1 at *
        generalize textO p1 = t2 at *
        generalize restT p1 = p2 at *
        go_wp2_with (first
          | (go_at_call 71; ((with_reducible refine (C1.out).mono ?_); rintro e w2 ⟨rfl, hR2, hg2⟩; have HR2 := Lib.hid hR2; have HO2 := Lib.hid (HO.out.step hg2); clear hR2 hg2))
          | (go_at_call 71; ((with_reducible refine (C2.out _ HR2.out).mono ?_); rintro e w3 ⟨rfl, hR3, hg3⟩; have HR3 := Lib.hid hR3; have HO3 := Lib.hid (HO2.out.step hg3); clear hR3 hg3))
          | (at_builtin; go_must (refine wpList_append_any rfl (.tmp 20) (.tmp 26) 25 rfl W.heap.size 58 iI (.agg #[.string ⟨#[]⟩, .string ⟨#[]⟩]) 2 32 Tryz.underlying25 hiI hzI hz1I hz2I rfl (by decide) (.slice A cur.length c) cur.length (itemCells cur) rfl (HO3.out.1.alloc _) (.slice (some ⟨w3.heap.size, 0, none⟩) 1 1) 1 (itemCells [(t1, t2)]) rfl (item_from _ _ t1 t2 (heap_alloc_new _ _)) (cells_one _) (by have := hcl.out; unfold maxLen; omega) (by have := hcl.out; omega) (by have := HO3.out.2.1.size; simp; omega) ?_); intro A4 c4 w4 ho4 hg4 hs4; have HO4 := Lib.hid (HO3.out.push ho4 hg4); have HR4 := Lib.hid ((HR3.out.alloc _).grown hg4 (fun k hk => by have := (HO3.out.1.lt k hk).1; have := HGL.out; omega)); clear ho4 hg4 hs4))
        go_roundg (gk - 1)
        case measure => omega
        case rel => exact ⟨i + 1, A4, c4, cur ++ [(t1, t2)], p2, by omega, by omega, by rw [List.length_append]; rfl, by go_num, (show _ = _ by rw [List.length_append, hcl.out]; rfl), HS2.out, HX.out, HR4.out, HO4.out⟩
    · obtain rfl : i = m := by omega
      have bi : decide ((i : Int) < (i : Int)) = false := by simp
      have HX : Hid (lo = (cur, p)) := by
        show _ = _
        have h := HE.out
        rw [Nat.sub_self, itemsR, List.append_nil] at h
        exact h
      go_wp2_with fail
      go_ret
      exact ⟨A, c, by rw [HX.out]; rfl, by rw [HX.out]; exact HR.out, by rw [HX.out]; exact HO.out⟩
end Go.Proofs.YtbnmddopgbhapaaGreat
namespace Go.Proofs.YtbnmddopgbhapaaGreat
open Go.RowKit

theorem its_row {w : World} {base n c : Nat} {A : Option Addr} {l : List Item} (h : w.ownsRow base 58 2 (.slice A n c) n (itemCells l)) (hn : l.length = n) : ItsAt w A l := by
  subst hn
  rcases h.2 with ⟨h0, h1⟩ | ⟨g, cap, cur, h0, hg, hh, _⟩
  · exact ⟨0, 0, fun i hi => by omega⟩
  · injection h0 with h1 _ _
    subst h1
    refine ⟨g, 0, fun i hi => ⟨rfl, lt_of_heap hh, ?_, ?_⟩⟩
    · rw [Nat.zero_add]; exact (h.cellAt (i * 2) (by omega)).trans (itemCells_get0 l i hi)
    · rw [Nat.zero_add]; exact (h.cellAt (i * 2 + 1) (by omega)).trans (itemCells_get1 l i hi)
theorem row_caps {w : World} {base n c : Nat} {A : Option Addr} {l : List Item} (h : w.ownsRow base 58 2 (.slice A n c) n (itemCells l)) : n ≤ c ∧ c ≤ maxLen := by
  rcases h.2 with ⟨h0, h1⟩ | ⟨g, cap, cur, h0, hg, hh, h1, h2, _⟩
  · injection h0 with _ e1 e2
    subst e1 e2
    exact ⟨Nat.le_refl _, by unfold maxLen; omega⟩
  · injection h0 with _ _ e2
    subst e2
    exact ⟨h1, h2⟩
theorem slAt_row {w : World} {base : Nat} {S : Value} {l : List Item} (h : w.ownsRow base 58 2 S l.length (itemCells l)) : SlAt w S l := by
  obtain ⟨A, c, rfl⟩ := own_slice h
  obtain ⟨h1, h2⟩ := row_caps h
  exact ⟨A, c, rfl, h1, h2, its_row h rfl⟩
/-- the letter while it is read: the reader, the letter's cells, the result's, the lists that were read -/
structure LS (g : Nat) (W w : World) (o : Option ByteArray) (cs : Array Value) (its : List (Value × List Item)) : Prop where
  rd : RfO w g o
  row : w.heap[W.heap.size + 1]? = some (.cells cs 32)
  res : w.heap[W.heap.size]? = some (.cells ZC 32)
  gr : Gr g W w
  lt : g < W.heap.size
  sz : sizeO o ≤ 9223372036854775807
  its : ∀ x ∈ its, ∃ base, W.heap.size + 1 < base ∧ w.ownsRow base 58 2 x.1 x.2.length (itemCells x.2)
theorem LS.call {g : Nat} {W w w1 : World} {o o1 : Option ByteArray} {cs : Array Value} {its : List (Value × List Item)} (h : LS g W w o cs its) (hR : RfO w1 g o1) (hg : Gr g w w1) (hs : sizeO o1 ≤ sizeO o) : LS g W w1 o1 cs its where
  rd := hR
  row := (hg.block _ (lt_of_heap h.row) (fun e => by have := h.lt; have := Option.some.inj e; omega)).trans h.row
  res := (hg.block _ (lt_of_heap h.res) (fun e => by have := h.lt; have := Option.some.inj e; omega)).trans h.res
  gr := h.gr.trans hg
  lt := h.lt
  sz := Nat.le_trans hs h.sz
  its := fun x hx => by
    obtain ⟨base, hb, ho⟩ := h.its x hx
    exact ⟨base, hb, own_other ho hg (by have := h.lt; omega)⟩
theorem LS.set {g : Nat} {W w : World} {o : Option ByteArray} {cs : Array Value} {its : List (Value × List Item)} (h : LS g W w o cs its) (j : Nat) (v : Value) : LS g W (w.setCell ⟨W.heap.size + 1, j, none⟩ v) o (cs.setIfInBounds j v) its where
  rd := h.rd.gr ((Gr.refl (W.heap.size + 1) w).set j v) (by have := h.lt; omega)
  row := heap_set v h.row
  res := (Below.heap_setCell w ⟨W.heap.size + 1, j, none⟩ v W.heap.size (show W.heap.size ≠ W.heap.size + 1 by omega)).trans h.res
  gr := h.gr.setNew (show W.heap.size ≤ W.heap.size + 1 by omega) v
  lt := h.lt
  sz := h.sz
  its := fun x hx => by
    obtain ⟨base, hb, ho⟩ := h.its x hx
    exact ⟨base, hb, own_other ho ((Gr.refl (W.heap.size + 1) w).set j v) hb⟩
theorem RfO.touch {W W1 : World} {g : Nat} {o : Option ByteArray} {F : List Nat} (h : RfO W g o) (ht : Touch F W W1) (hg : g ∉ F) : RfO W1 g o := by
  cases o with
  | none => obtain ⟨s, h⟩ := h; exact ⟨s, h.of_block ht.size (ht.block g h.1 hg)⟩
  | some s => exact Rq.of_block h ht.size (ht.block g h.1 hg)
theorem Gr.row {g r : Nat} {W w : World} (h : Gr g W w) (hr : W.heap.size ≤ r) (cs : Array Value) : Gr g W (w.setRow r cs) := by
  have t := setRow_touch w r cs
  exact ⟨t.os.trans h.os, t.tape.trans h.tape, t.output.trans h.output, Nat.le_trans h.size t.size, fun i hi hn => (t.block i (Nat.lt_of_lt_of_le hi h.size) (by simp only [List.mem_cons, List.not_mem_nil, or_false]; omega)).trans (h.block i hi hn)⟩
theorem num_ls (g : Nat) (W w : World) (o : Option ByteArray) (cs : Array Value) (its : List (Value × List Item)) (h : LS g W w o cs its) :
    Calls Tryz.prog 68 #[.pointer (some ⟨g, 0, none⟩)] w fun e w' => ∃ (v : Nat) (o' : Option ByteArray), numO o 2 = v ∧ restO o 2 = o' ∧ e = .returned (.int .i64 (v : Nat)) ∧ LS g W w' o' cs its :=
  (fnum_any g o w h.rd h.sz).mono fun _ _ ⟨h1, h2, h3⟩ => ⟨_, _, rfl, rfl, h1, h.call h2 h3 (sizeO_rest _ _)⟩
theorem wide_ls (g : Nat) (W w : World) (o : Option ByteArray) (cs : Array Value) (its : List (Value × List Item)) (h : LS g W w o cs its) :
    Calls Tryz.prog 69 #[.pointer (some ⟨g, 0, none⟩)] w fun e w' => ∃ (v : Nat) (o' : Option ByteArray), numO o 8 = v ∧ restO o 8 = o' ∧ e = .returned (.int .u64 (v : Nat)) ∧ LS g W w' o' cs its :=
  (fwide_any g o w h.rd h.sz).mono fun _ _ ⟨h1, h2, h3⟩ => ⟨_, _, rfl, rfl, h1, h.call h2 h3 (sizeO_rest _ _)⟩
theorem text_ls (g : Nat) (W w : World) (o : Option ByteArray) (cs : Array Value) (its : List (Value × List Item)) (h : LS g W w o cs its) :
    Calls Tryz.prog 71 #[.pointer (some ⟨g, 0, none⟩)] w fun e w' => ∃ (t : ByteArray) (o' : Option ByteArray), textO o = t ∧ restT o = o' ∧ e = .returned (.string t) ∧ LS g W w' o' cs its :=
  (ftext_any g o w h.rd h.sz).mono fun _ _ ⟨h1, h2, h3⟩ => ⟨_, _, rfl, rfl, h1, h.call h2 h3 (Nat.le_trans (sizeO_rest _ _) (sizeO_rest _ _))⟩
theorem items_ls (g : Nat) (W w : World) (o : Option ByteArray) (cs : Array Value) (its : List (Value × List Item)) (h : LS g W w o cs its) :
    Calls Tryz.prog 70 #[.pointer (some ⟨g, 0, none⟩)] w fun e w' => ∃ (A : Option Addr) (c n : Nat) (l : List Item) (o' : Option ByteArray), listR o = (l, o') ∧ l.length = n ∧ e = .returned (.slice A n c) ∧ LS g W w' o' cs ((.slice A n c, l) :: its) :=
  (ritems_any g o w h.rd h.sz).mono fun e w' ⟨A, c, h1, h2, h3⟩ => by
    have L := h.call h2 h3.2.1 (Nat.le_trans (itemsR_size _ _).1 (sizeO_rest _ _))
    refine ⟨A, c, _, _, _, rfl, rfl, h1, { L with its := fun x hx => ?_ }⟩
    rcases List.mem_cons.1 hx with rfl | hx
    · exact ⟨w.heap.size, lt_of_heap h.row, h3.1⟩
    · exact L.its x hx
theorem step_num {e : Bool} {lo hi : Int} {o o' : Option ByteArray} {v : Nat} (h : numO o 2 = v) (h' : restO o 2 = o') : stepR (.num e lo hi) o = (nv (v : Nat), o') := by subst h h'; rfl
theorem step_flag {o o' : Option ByteArray} {v : Nat} (h : numO o 2 = v) (h' : restO o 2 = o') : stepR .flag o = (nv (v : Nat), o') := by subst h h'; rfl
theorem step_wide {o o' : Option ByteArray} {v : Nat} (h : numO o 8 = v) (h' : restO o 8 = o') : stepR .wide o = (nv (v : Nat), o') := by subst h h'; rfl
theorem step_text {o o' : Option ByteArray} {t : ByteArray} (h : textO o = t) (h' : restT o = o') : stepR .text o = (sv t, o') := by subst h h'; rfl
theorem step_items {o o' : Option ByteArray} {l : List Item} (h : listR o = (l, o')) : stepR .items o = (iv l, o') := by
  show (iv (listR o).1, (listR o).2) = _
  rw [h]
theorem readR_cons {k : FK} {ks : List FK} {o o' o2 : Option ByteArray} {x : FV} {xs : List FV} (h : stepR k o = (x, o')) (hr : readR ks o' = (xs, o2)) : readR (k :: ks) o = (x :: xs, o2) := by rw [readR, h, hr]
/-- a list in a block that is younger -/
def OwnAt (K : Nat) (w : World) (S : Value) (l : List Item) : Prop := ∃ base, K ≤ base ∧ w.ownsRow base 58 2 S l.length (itemCells l)
theorem OwnAt.slAt {K : Nat} {w : World} {S : Value} {l : List Item} (h : OwnAt K w S l) : SlAt w S l := by
  obtain ⟨b, _, h⟩ := h
  exact slAt_row h
theorem OwnAt.below {K : Nat} {w w1 : World} {S : Value} {l : List Item} (h : OwnAt K w S l) (hb : Below w.heap.size w w1) : OwnAt K w1 S l := by
  obtain ⟨b, hk, h⟩ := h
  exact ⟨b, hk, own_step h hb⟩
theorem OwnAt.row {K r : Nat} {w : World} {S : Value} {l : List Item} (h : OwnAt K w S l) (hr : r < K) (cs : Array Value) : OwnAt K (w.setRow r cs) S l := by
  obtain ⟨b, hk, h⟩ := h
  exact ⟨b, hk, setRow_row _ h (by omega)⟩
theorem OwnAt.mono {K K1 : Nat} {w : World} {S : Value} {l : List Item} (h : OwnAt K w S l) (hk : K1 ≤ K) : OwnAt K1 w S l := by
  obtain ⟨b, hb, h⟩ := h
  exact ⟨b, by omega, h⟩
theorem OwnAt.slice {K : Nat} {w : World} {S : Value} {l : List Item} (h : OwnAt K w S l) : ∃ A c, S = .slice A l.length c := by
  obtain ⟨b, _, h⟩ := h
  exact own_slice h
/-- what letter tells -/
def RLetter (g : Nat) (W : World) (o : Option ByteArray) (e : Ending) (w' : World) : Prop :=
  ∃ S1 S2, e = .returned (.agg ((letR o).cells S1 S2)) ∧ OwnAt W.heap.size w' S1 (letR o).ti ∧ OwnAt W.heap.size w' S2 (letR o).li ∧ RfO w' g (leftR o) ∧ Gr g W w'
set_option maxRecDepth 20000 in
set_option maxHeartbeats 8000000 in
theorem rletter_any (g : Nat) (o0 : Option ByteArray) (W : World) (hR : RfO W g o0) (hs : sizeO o0 ≤ 9223372036854775807) :
    Calls Tryz.prog 31 #[.pointer (some ⟨g, 0, none⟩)] W (RLetter g W o0) := by
  have hgl := hR.lt
  have b0 : ((W.alloc (.cells ZC 32)).alloc (.cells ZC 32)).heap[W.heap.size + 1]? = some (.cells ZC 32) := by
    have := heap_alloc_new (W.alloc (.cells ZC 32)) (.cells ZC 32)
    simpa using this
  have L0 : Hid (LS g W ((W.alloc (.cells ZC 32)).alloc (.cells ZC 32)) o0 ZC []) := { rd := (hR.alloc _).alloc _, row := b0, res := (Lib.alloc_old _ _ _ (by simp)).trans (heap_alloc_new W _), gr := ((Gr.refl g W).alloc _).alloc _, lt := hgl, sz := hs, its := fun x hx => by cases hx }
  have CN := Lib.hid num_ls
  have CT := Lib.hid text_ls
  have CW := Lib.hid wide_ls
  have CI := Lib.hid items_ls
  have hsz : (Tryz.prog.info? 32).map (·.size) = some 21 := by kernel_rfl
  clear hR hs b0
  go_enter Tryz.func31, Tryz.ntmps31
  go_upto_region 3 with (first
    | (go_at_call 68; ((with_reducible refine (CN.out _ _ _ _ _ _ L0.out).mono ?_); rintro e w1 ⟨v0, o1, h0, g0, rfl, hl⟩; have L1 := Lib.hid hl; have H0 := Lib.hid h0; have G0 := Lib.hid g0; clear hl h0 g0))
    | (go_at_call 68; ((with_reducible refine (CN.out _ _ _ _ _ _ L1.out).mono ?_); rintro e w2 ⟨v1, o2, h1, g1, rfl, hl⟩; have L2 := Lib.hid hl; have H1 := Lib.hid h1; have G1 := Lib.hid g1; clear hl h1 g1))
    | (go_at_call 68; ((with_reducible refine (CN.out _ _ _ _ _ _ L2.out).mono ?_); rintro e w3 ⟨v2, o3, h2, g2, rfl, hl⟩; have L3 := Lib.hid hl; have H2 := Lib.hid h2; have G2 := Lib.hid g2; clear hl h2 g2))
    | (go_at_call 68; ((with_reducible refine (CN.out _ _ _ _ _ _ L3.out).mono ?_); rintro e w4 ⟨v3, o4, h3, g3, rfl, hl⟩; have L4 := Lib.hid hl; have H3 := Lib.hid h3; have G3 := Lib.hid g3; clear hl h3 g3))
    | (go_at_call 68; ((with_reducible refine (CN.out _ _ _ _ _ _ L4.out).mono ?_); rintro e w5 ⟨v4, o5, h4, g4, rfl, hl⟩; have L5 := Lib.hid hl; have H4 := Lib.hid h4; have G4 := Lib.hid g4; clear hl h4 g4))
    | (go_at_call 68; ((with_reducible refine (CN.out _ _ _ _ _ _ L5.out).mono ?_); rintro e w6 ⟨v5, o6, h5, g5, rfl, hl⟩; have L6 := Lib.hid hl; have H5 := Lib.hid h5; have G5 := Lib.hid g5; clear hl h5 g5))
    | (go_at_call 68; ((with_reducible refine (CN.out _ _ _ _ _ _ L6.out).mono ?_); rintro e w7 ⟨v6, o7, h6, g6, rfl, hl⟩; have L7 := Lib.hid hl; have H6 := Lib.hid h6; have G6 := Lib.hid g6; clear hl h6 g6; have y0 := cell_at (o := 0) L7.out.row rfl; have f0 := frozen_at (o := 0) L7.out.row; have y1 := cell_at (o := 1) L7.out.row rfl; have f1 := frozen_at (o := 1) L7.out.row; have y2 := cell_at (o := 2) L7.out.row rfl; have f2 := frozen_at (o := 2) L7.out.row; have y3 := cell_at (o := 3) L7.out.row rfl; have f3 := frozen_at (o := 3) L7.out.row; have y4 := cell_at (o := 17) L7.out.row rfl; have f4 := frozen_at (o := 17) L7.out.row; have y5 := cell_at (o := 19) L7.out.row rfl; have f5 := frozen_at (o := 19) L7.out.row; have y6 := cell_at (o := 20) L7.out.row rfl; have f6 := frozen_at (o := 20) L7.out.row)))
  clear y0 f0 y1 f1 y2 f2 y3 f3 y4 f4 y5 f5 y6 f6
  have M0 : Hid (LS g W (((((((w7.setCell ⟨W.heap.size + 1, 0, none⟩ (.int .i64 (v0 : Nat))).setCell ⟨W.heap.size + 1, 1, none⟩ (.int .i64 (v1 : Nat))).setCell ⟨W.heap.size + 1, 2, none⟩ (.int .i64 (v2 : Nat))).setCell ⟨W.heap.size + 1, 3, none⟩ (.int .i64 (v3 : Nat))).setCell ⟨W.heap.size + 1, 17, none⟩ (.int .i64 (v4 : Nat))).setCell ⟨W.heap.size + 1, 19, none⟩ (.int .i64 (v5 : Nat))).setCell ⟨W.heap.size + 1, 20, none⟩ (.int .i64 (v6 : Nat))) o7 #[.int .i64 (v0 : Nat), .int .i64 (v1 : Nat), .int .i64 (v2 : Nat), .int .i64 (v3 : Nat), .int .i64 0, .string ⟨#[]⟩, .string ⟨#[]⟩, .string ⟨#[]⟩, .int .i64 0, .int .i64 0, .string ⟨#[]⟩, .slice none 0 0, .bool false, .string ⟨#[]⟩, .int .i64 0, .int .u64 0, .int .u64 0, .int .i64 (v4 : Nat), .slice none 0 0, .int .i64 (v5 : Nat), .int .i64 (v6 : Nat)] []) := (((((((L7.out.set 0 (.int .i64 (v0 : Nat))).set 1 (.int .i64 (v1 : Nat))).set 2 (.int .i64 (v2 : Nat))).set 3 (.int .i64 (v3 : Nat))).set 17 (.int .i64 (v4 : Nat))).set 19 (.int .i64 (v5 : Nat))).set 20 (.int .i64 (v6 : Nat)))
  go_upto_region 4 with (first
    | (go_at_call 69; ((with_reducible refine (CW.out _ _ _ _ _ _ M0.out).mono ?_); rintro e w8 ⟨v7, o8, h7, g7, rfl, hl⟩; have L8 := Lib.hid hl; have H7 := Lib.hid h7; have G7 := Lib.hid g7; clear hl h7 g7))
    | (go_at_call 69; ((with_reducible refine (CW.out _ _ _ _ _ _ L8.out).mono ?_); rintro e w9 ⟨v8, o9, h8, g8, rfl, hl⟩; have L9 := Lib.hid hl; have H8 := Lib.hid h8; have G8 := Lib.hid g8; clear hl h8 g8; have y7 := cell_at (o := 15) L9.out.row rfl; have f7 := frozen_at (o := 15) L9.out.row; have y8 := cell_at (o := 16) L9.out.row rfl; have f8 := frozen_at (o := 16) L9.out.row)))
  clear y7 f7 y8 f8
  have M1 : Hid (LS g W ((w9.setCell ⟨W.heap.size + 1, 15, none⟩ (.int .u64 (v7 : Nat))).setCell ⟨W.heap.size + 1, 16, none⟩ (.int .u64 (v8 : Nat))) o9 #[.int .i64 (v0 : Nat), .int .i64 (v1 : Nat), .int .i64 (v2 : Nat), .int .i64 (v3 : Nat), .int .i64 0, .string ⟨#[]⟩, .string ⟨#[]⟩, .string ⟨#[]⟩, .int .i64 0, .int .i64 0, .string ⟨#[]⟩, .slice none 0 0, .bool false, .string ⟨#[]⟩, .int .i64 0, .int .u64 (v7 : Nat), .int .u64 (v8 : Nat), .int .i64 (v4 : Nat), .slice none 0 0, .int .i64 (v5 : Nat), .int .i64 (v6 : Nat)] []) := ((L9.out.set 15 (.int .u64 (v7 : Nat))).set 16 (.int .u64 (v8 : Nat)))
  go_upto_region 5 with (first
    | (go_at_call 70; ((with_reducible refine (CI.out _ _ _ _ _ _ M1.out).mono ?_); rintro e w10 ⟨A9, c9, n9, l9, o10, h9, g9, rfl, hl⟩; have L10 := Lib.hid hl; have H9 := Lib.hid h9; have G9 := Lib.hid g9; clear hl h9 g9; have y9 := cell_at (o := 18) L10.out.row rfl; have f9 := frozen_at (o := 18) L10.out.row)))
  clear y9 f9
  have M2 : Hid (LS g W (w10.setCell ⟨W.heap.size + 1, 18, none⟩ (.slice A9 n9 c9)) o10 #[.int .i64 (v0 : Nat), .int .i64 (v1 : Nat), .int .i64 (v2 : Nat), .int .i64 (v3 : Nat), .int .i64 0, .string ⟨#[]⟩, .string ⟨#[]⟩, .string ⟨#[]⟩, .int .i64 0, .int .i64 0, .string ⟨#[]⟩, .slice none 0 0, .bool false, .string ⟨#[]⟩, .int .i64 0, .int .u64 (v7 : Nat), .int .u64 (v8 : Nat), .int .i64 (v4 : Nat), .slice A9 n9 c9, .int .i64 (v5 : Nat), .int .i64 (v6 : Nat)] [(.slice A9 n9 c9, l9)]) := (L10.out.set 18 (.slice A9 n9 c9))
  go_upto_region 6 with (first
    | (go_at_call 68; ((with_reducible refine (CN.out _ _ _ _ _ _ M2.out).mono ?_); rintro e w11 ⟨v10, o11, h10, g10, rfl, hl⟩; have L11 := Lib.hid hl; have H10 := Lib.hid h10; have G10 := Lib.hid g10; clear hl h10 g10))
    | (go_at_call 71; ((with_reducible refine (CT.out _ _ _ _ _ _ L11.out).mono ?_); rintro e w12 ⟨t11, o12, h11, g11, rfl, hl⟩; have L12 := Lib.hid hl; have H11 := Lib.hid h11; have G11 := Lib.hid g11; clear hl h11 g11))
    | (go_at_call 71; ((with_reducible refine (CT.out _ _ _ _ _ _ L12.out).mono ?_); rintro e w13 ⟨t12, o13, h12, g12, rfl, hl⟩; have L13 := Lib.hid hl; have H12 := Lib.hid h12; have G12 := Lib.hid g12; clear hl h12 g12))
    | (go_at_call 71; ((with_reducible refine (CT.out _ _ _ _ _ _ L13.out).mono ?_); rintro e w14 ⟨t13, o14, h13, g13, rfl, hl⟩; have L14 := Lib.hid hl; have H13 := Lib.hid h13; have G13 := Lib.hid g13; clear hl h13 g13))
    | (go_at_call 68; ((with_reducible refine (CN.out _ _ _ _ _ _ L14.out).mono ?_); rintro e w15 ⟨v14, o15, h14, g14, rfl, hl⟩; have L15 := Lib.hid hl; have H14 := Lib.hid h14; have G14 := Lib.hid g14; clear hl h14 g14; have y10 := cell_at (o := 4) L15.out.row rfl; have f10 := frozen_at (o := 4) L15.out.row; have y11 := cell_at (o := 5) L15.out.row rfl; have f11 := frozen_at (o := 5) L15.out.row; have y12 := cell_at (o := 6) L15.out.row rfl; have f12 := frozen_at (o := 6) L15.out.row; have y13 := cell_at (o := 7) L15.out.row rfl; have f13 := frozen_at (o := 7) L15.out.row; have y14 := cell_at (o := 8) L15.out.row rfl; have f14 := frozen_at (o := 8) L15.out.row)))
  clear y10 f10 y11 f11 y12 f12 y13 f13 y14 f14
  have M3 : Hid (LS g W (((((w15.setCell ⟨W.heap.size + 1, 4, none⟩ (.int .i64 (v10 : Nat))).setCell ⟨W.heap.size + 1, 5, none⟩ (.string t11)).setCell ⟨W.heap.size + 1, 6, none⟩ (.string t12)).setCell ⟨W.heap.size + 1, 7, none⟩ (.string t13)).setCell ⟨W.heap.size + 1, 8, none⟩ (.int .i64 (v14 : Nat))) o15 #[.int .i64 (v0 : Nat), .int .i64 (v1 : Nat), .int .i64 (v2 : Nat), .int .i64 (v3 : Nat), .int .i64 (v10 : Nat), .string t11, .string t12, .string t13, .int .i64 (v14 : Nat), .int .i64 0, .string ⟨#[]⟩, .slice none 0 0, .bool false, .string ⟨#[]⟩, .int .i64 0, .int .u64 (v7 : Nat), .int .u64 (v8 : Nat), .int .i64 (v4 : Nat), .slice A9 n9 c9, .int .i64 (v5 : Nat), .int .i64 (v6 : Nat)] [(.slice A9 n9 c9, l9)]) := (((((L15.out.set 4 (.int .i64 (v10 : Nat))).set 5 (.string t11)).set 6 (.string t12)).set 7 (.string t13)).set 8 (.int .i64 (v14 : Nat)))
  go_upto_region 7 with (first
    | (go_at_call 68; ((with_reducible refine (CN.out _ _ _ _ _ _ M3.out).mono ?_); rintro e w16 ⟨v15, o16, h15, g15, rfl, hl⟩; have L16 := Lib.hid hl; have H15 := Lib.hid h15; have G15 := Lib.hid g15; clear hl h15 g15))
    | (go_at_call 71; ((with_reducible refine (CT.out _ _ _ _ _ _ L16.out).mono ?_); rintro e w17 ⟨t16, o17, h16, g16, rfl, hl⟩; have L17 := Lib.hid hl; have H16 := Lib.hid h16; have G16 := Lib.hid g16; clear hl h16 g16; have y15 := cell_at (o := 9) L17.out.row rfl; have f15 := frozen_at (o := 9) L17.out.row; have y16 := cell_at (o := 10) L17.out.row rfl; have f16 := frozen_at (o := 10) L17.out.row)))
  clear y15 f15 y16 f16
  have M4 : Hid (LS g W ((w17.setCell ⟨W.heap.size + 1, 9, none⟩ (.int .i64 (v15 : Nat))).setCell ⟨W.heap.size + 1, 10, none⟩ (.string t16)) o17 #[.int .i64 (v0 : Nat), .int .i64 (v1 : Nat), .int .i64 (v2 : Nat), .int .i64 (v3 : Nat), .int .i64 (v10 : Nat), .string t11, .string t12, .string t13, .int .i64 (v14 : Nat), .int .i64 (v15 : Nat), .string t16, .slice none 0 0, .bool false, .string ⟨#[]⟩, .int .i64 0, .int .u64 (v7 : Nat), .int .u64 (v8 : Nat), .int .i64 (v4 : Nat), .slice A9 n9 c9, .int .i64 (v5 : Nat), .int .i64 (v6 : Nat)] [(.slice A9 n9 c9, l9)]) := ((L17.out.set 9 (.int .i64 (v15 : Nat))).set 10 (.string t16))
  go_upto_region 8 with (first
    | (go_at_call 70; ((with_reducible refine (CI.out _ _ _ _ _ _ M4.out).mono ?_); rintro e w18 ⟨A17, c17, n17, l17, o18, h17, g17, rfl, hl⟩; have L18 := Lib.hid hl; have H17 := Lib.hid h17; have G17 := Lib.hid g17; clear hl h17 g17; have y17 := cell_at (o := 11) L18.out.row rfl; have f17 := frozen_at (o := 11) L18.out.row)))
  clear y17 f17
  have M5 : Hid (LS g W (w18.setCell ⟨W.heap.size + 1, 11, none⟩ (.slice A17 n17 c17)) o18 #[.int .i64 (v0 : Nat), .int .i64 (v1 : Nat), .int .i64 (v2 : Nat), .int .i64 (v3 : Nat), .int .i64 (v10 : Nat), .string t11, .string t12, .string t13, .int .i64 (v14 : Nat), .int .i64 (v15 : Nat), .string t16, .slice A17 n17 c17, .bool false, .string ⟨#[]⟩, .int .i64 0, .int .u64 (v7 : Nat), .int .u64 (v8 : Nat), .int .i64 (v4 : Nat), .slice A9 n9 c9, .int .i64 (v5 : Nat), .int .i64 (v6 : Nat)] [(.slice A17 n17 c17, l17), (.slice A9 n9 c9, l9)]) := (L18.out.set 11 (.slice A17 n17 c17))
  go_upto_region 9 with (first
    | (go_at_call 68; ((with_reducible refine (CN.out _ _ _ _ _ _ M5.out).mono ?_); rintro e w19 ⟨v18, o19, h18, g18, rfl, hl⟩; have L19 := Lib.hid hl; have H18 := Lib.hid h18; have G18 := Lib.hid g18; clear hl h18 g18))
    | (go_at_call 71; ((with_reducible refine (CT.out _ _ _ _ _ _ L19.out).mono ?_); rintro e w20 ⟨t19, o20, h19, g19, rfl, hl⟩; have L20 := Lib.hid hl; have H19 := Lib.hid h19; have G19 := Lib.hid g19; clear hl h19 g19))
    | (go_at_call 68; ((with_reducible refine (CN.out _ _ _ _ _ _ L20.out).mono ?_); rintro e w21 ⟨v20, o21, h20, g20, rfl, hl⟩; have L21 := Lib.hid hl; have H20 := Lib.hid h20; have G20 := Lib.hid g20; clear hl h20 g20; have y18 := cell_at (o := 12) L21.out.row rfl; have f18 := frozen_at (o := 12) L21.out.row; have y19 := cell_at (o := 13) L21.out.row rfl; have f19 := frozen_at (o := 13) L21.out.row; have y20 := cell_at (o := 14) L21.out.row rfl; have f20 := frozen_at (o := 14) L21.out.row)))
  clear y18 f18 y19 f19 y20 f20
  have M6 : Hid (LS g W (((w21.setCell ⟨W.heap.size + 1, 12, none⟩ (.bool ((v18 : Int) == 1))).setCell ⟨W.heap.size + 1, 13, none⟩ (.string t19)).setCell ⟨W.heap.size + 1, 14, none⟩ (.int .i64 (v20 : Nat))) o21 #[.int .i64 (v0 : Nat), .int .i64 (v1 : Nat), .int .i64 (v2 : Nat), .int .i64 (v3 : Nat), .int .i64 (v10 : Nat), .string t11, .string t12, .string t13, .int .i64 (v14 : Nat), .int .i64 (v15 : Nat), .string t16, .slice A17 n17 c17, .bool ((v18 : Int) == 1), .string t19, .int .i64 (v20 : Nat), .int .u64 (v7 : Nat), .int .u64 (v8 : Nat), .int .i64 (v4 : Nat), .slice A9 n9 c9, .int .i64 (v5 : Nat), .int .i64 (v6 : Nat)] [(.slice A17 n17 c17, l17), (.slice A9 n9 c9, l9)]) := (((L21.out.set 12 (.bool ((v18 : Int) == 1))).set 13 (.string t19)).set 14 (.int .i64 (v20 : Nat)))
  have hrow := M6.out.row
  have hres := M6.out.res
  have hszC : (Tryz.prog.info? 32).map (·.size) = some (#[.int .i64 (v0 : Nat), .int .i64 (v1 : Nat), .int .i64 (v2 : Nat), .int .i64 (v3 : Nat), .int .i64 (v10 : Nat), .string t11, .string t12, .string t13, .int .i64 (v14 : Nat), .int .i64 (v15 : Nat), .string t16, .slice A17 n17 c17, .bool ((v18 : Int) == 1), .string t19, .int .i64 (v20 : Nat), .int .u64 (v7 : Nat), .int .u64 (v8 : Nat), .int .i64 (v4 : Nat), .slice A9 n9 c9, .int .i64 (v5 : Nat), .int .i64 (v6 : Nat)] : Array Value).size := hsz
  have hone : (#[.int .i64 (v0 : Nat), .int .i64 (v1 : Nat), .int .i64 (v2 : Nat), .int .i64 (v3 : Nat), .int .i64 (v10 : Nat), .string t11, .string t12, .string t13, .int .i64 (v14 : Nat), .int .i64 (v15 : Nat), .string t16, .slice A17 n17 c17, .bool ((v18 : Int) == 1), .string t19, .int .i64 (v20 : Nat), .int .u64 (v7 : Nat), .int .u64 (v8 : Nat), .int .i64 (v4 : Nat), .slice A9 n9 c9, .int .i64 (v5 : Nat), .int .i64 (v6 : Nat)] : Array Value).all (·.oneCell') = true := by first | kernel_rfl | simp [Value.oneCell']
  have hold : ZC.size = (#[.int .i64 (v0 : Nat), .int .i64 (v1 : Nat), .int .i64 (v2 : Nat), .int .i64 (v3 : Nat), .int .i64 (v10 : Nat), .string t11, .string t12, .string t13, .int .i64 (v14 : Nat), .int .i64 (v15 : Nat), .string t16, .slice A17 n17 c17, .bool ((v18 : Int) == 1), .string t19, .int .i64 (v20 : Nat), .int .u64 (v7 : Nat), .int .u64 (v8 : Nat), .int .i64 (v4 : Nat), .slice A9 n9 c9, .int .i64 (v5 : Nat), .int .i64 (v6 : Nat)] : Array Value).size := rfl
  go_wp2_with (first
    | (with_reducible (show wpList _ _ _ (⟨some _, Op.load _ _, _, _, _, _⟩ :: _) _ _); go_must (refine wpList_load_row rfl 32 (.tmp 3) rfl (W.heap.size + 1) rfl 32 #[.int .i64 (v0 : Nat), .int .i64 (v1 : Nat), .int .i64 (v2 : Nat), .int .i64 (v3 : Nat), .int .i64 (v10 : Nat), .string t11, .string t12, .string t13, .int .i64 (v14 : Nat), .int .i64 (v15 : Nat), .string t16, .slice A17 n17 c17, .bool ((v18 : Int) == 1), .string t19, .int .i64 (v20 : Nat), .int .u64 (v7 : Nat), .int .u64 (v8 : Nat), .int .i64 (v4 : Nat), .slice A9 n9 c9, .int .i64 (v5 : Nat), .int .i64 (v6 : Nat)] (0, 0) _ hrow Tryz.underlying32 rfl hszC ?_))
    | (with_reducible (show wpList _ _ _ (⟨none, Op.store _ _ _, _, _, _, _⟩ :: _) _ _); go_must (refine wpList_store_row rfl 32 (.tmp 2) (.tmp 81) rfl W.heap.size #[.int .i64 (v0 : Nat), .int .i64 (v1 : Nat), .int .i64 (v2 : Nat), .int .i64 (v3 : Nat), .int .i64 (v10 : Nat), .string t11, .string t12, .string t13, .int .i64 (v14 : Nat), .int .i64 (v15 : Nat), .string t16, .slice A17 n17 c17, .bool ((v18 : Int) == 1), .string t19, .int .i64 (v20 : Nat), .int .u64 (v7 : Nat), .int .u64 (v8 : Nat), .int .i64 (v4 : Nat), .slice A9 n9 c9, .int .i64 (v5 : Nat), .int .i64 (v6 : Nat)] rfl rfl 32 ZC hres hszC hold hone ?_)))
  have hread : readR LK o0 = ([nv (v0 : Nat), nv (v1 : Nat), nv (v2 : Nat), nv (v3 : Nat), nv (v4 : Nat), nv (v5 : Nat), nv (v6 : Nat), nv (v7 : Nat), nv (v8 : Nat), iv l9, nv (v10 : Nat), sv t11, sv t12, sv t13, nv (v14 : Nat), nv (v15 : Nat), sv t16, iv l17, nv (v18 : Nat), sv t19, nv (v20 : Nat)], o21) := readR_cons (step_num H0.out G0.out) (readR_cons (step_num H1.out G1.out) (readR_cons (step_num H2.out G2.out) (readR_cons (step_num H3.out G3.out) (readR_cons (step_num H4.out G4.out) (readR_cons (step_num H5.out G5.out) (readR_cons (step_num H6.out G6.out) (readR_cons (step_wide H7.out G7.out) (readR_cons (step_wide H8.out G8.out) (readR_cons (step_items H9.out) (readR_cons (step_num H10.out G10.out) (readR_cons (step_text H11.out G11.out) (readR_cons (step_text H12.out G12.out) (readR_cons (step_text H13.out G13.out) (readR_cons (step_num H14.out G14.out) (readR_cons (step_num H15.out G15.out) (readR_cons (step_text H16.out G16.out) (readR_cons (step_items H17.out) (readR_cons (step_flag H18.out G18.out) (readR_cons (step_text H19.out G19.out) (readR_cons (step_num H20.out G20.out) (rfl)))))))))))))))))))))
  have hlet : letR o0 = LV.of [nv (v0 : Nat), nv (v1 : Nat), nv (v2 : Nat), nv (v3 : Nat), nv (v4 : Nat), nv (v5 : Nat), nv (v6 : Nat), nv (v7 : Nat), nv (v8 : Nat), iv l9, nv (v10 : Nat), sv t11, sv t12, sv t13, nv (v14 : Nat), nv (v15 : Nat), sv t16, iv l17, nv (v18 : Nat), sv t19, nv (v20 : Nat)] := by unfold letR; rw [hread]
  have hleft : leftR o0 = o21 := by unfold leftR; rw [hread]
  obtain ⟨b1, hb1, ho1⟩ := M6.out.its _ List.mem_cons_self
  obtain ⟨b2, hb2, ho2⟩ := M6.out.its _ (List.mem_cons_of_mem _ List.mem_cons_self)
  refine bodyPost_ret (results_cell_row rfl _ _ W.heap.size 32 #[.int .i64 (v0 : Nat), .int .i64 (v1 : Nat), .int .i64 (v2 : Nat), .int .i64 (v3 : Nat), .int .i64 (v10 : Nat), .string t11, .string t12, .string t13, .int .i64 (v14 : Nat), .int .i64 (v15 : Nat), .string t16, .slice A17 n17 c17, .bool ((v18 : Int) == 1), .string t19, .int .i64 (v20 : Nat), .int .u64 (v7 : Nat), .int .u64 (v8 : Nat), .int .i64 (v4 : Nat), .slice A9 n9 c9, .int .i64 (v5 : Nat), .int .i64 (v6 : Nat)] (0, 0) _ rfl (setRow_at _ hres) Tryz.underlying32 rfl hszC) rfl ?_
  refine ⟨.slice A17 n17 c17, .slice A9 n9 c9, by rw [hlet]; rfl, ?_, ?_, ?_, M6.out.gr.row (Nat.le_refl _) _⟩
  · have e : (letR o0).ti = l17 := by rw [hlet]; rfl
    rw [e]
    exact ⟨b1, by omega, setRow_row _ ho1 (by omega)⟩
  · have e : (letR o0).li = l9 := by rw [hlet]; rfl
    rw [e]
    exact ⟨b2, by omega, setRow_row _ ho2 (by omega)⟩
  · rw [hleft]
    exact M6.out.rd.touch (setRow_touch _ _ _) (by have := M6.out.lt; simp only [List.mem_cons, List.not_mem_nil, or_false]; omega)
end Go.Proofs.YtbnmddopgbhapaaGreat
namespace Go.Proofs.YtbnmddopgbhapaaGreat
open Go.RowKit

theorem wpList_load_rowH {P : Program} {ops : Array Oper} {rest : List Oper} {o : Oper} {a : Act} {w : World} {Q : Exit → Act → World → Prop} (hw : Region.wanted o (yielded ops a.tmps) = true) (ty : TypeId) (x : Operand) (ho : o.op = .load ty x)
    (g : Nat) (hx : a.eval x = .pointer (some ⟨g, 0, none⟩)) (t : TypeId) (cs : Array Value) (fr : Nat × Nat) (d : TypeDesc) (hg : w.heap[g]? = some (.cells cs t fr))
    (hu : P.underlying ty = some d) (hd : (match d with | .struct _ | .array _ _ => true | _ => false) = true) (hi : (P.info? ty).map (·.size) = some cs.size)
    (h : wpList P ops Q rest (a.put o.dst (.agg cs)) w) : wpList P ops Q (o :: rest) a w := by
  unfold wpList
  rw [if_pos hw]
  exact .inl (wp_load_row ty x ho g hx t cs fr d hg hu hd hi h)

theorem numB (o : Option ByteArray) : i64B ((numO o 2 : Nat) : Int) := by
  have := numO_lt o 2
  exact ⟨by omega, by omega⟩
theorem wideB (o : Option ByteArray) : numO o 8 < 18446744073709551616 := by
  have := numO_lt o 8
  omega
theorem textO_sz (o : Option ByteArray) : (textO o).size ≤ 255 := by
  unfold textO
  have hl := numO_lt o 1
  generalize restO o 1 = r
  cases r with
  | none => exact Nat.zero_le _
  | some s =>
    by_cases h : numO o 1 ≤ s.size
    · simp only [partO, if_pos h]
      rw [← data_length, extract_first, List.length_take, data_length]
      omega
    · simp only [partO, if_neg h]
      exact Nat.zero_le _
theorem textB (o : Option ByteArray) : (textO o).size ≤ 9223372036854775807 := Nat.le_trans (textO_sz o) (by omega)
theorem itemsR_sz : ∀ (n : Nat) (o : Option ByteArray), ∀ x ∈ (itemsR n o).1, x.1.size ≤ 9223372036854775807 ∧ x.2.size ≤ 9223372036854775807
  | 0, o => fun x hx => by cases hx
  | n + 1, none => fun x hx => by cases hx
  | n + 1, some s => fun x hx => by
    rw [itemsR] at hx
    rcases List.mem_cons.1 hx with rfl | hx
    · exact ⟨textB _, textB _⟩
    · exact itemsR_sz n _ x hx
theorem listB (o : Option ByteArray) : itemsB (listR o).1 := by
  refine ⟨?_, itemsR_sz _ _⟩
  have := (itemsR_size (numO o 2) (restO o 2)).2
  have := numO_lt o 2
  unfold listR
  omega
set_option maxRecDepth 20000 in
theorem letR_fine (o : Option ByteArray) : (letR o).Fine where
  kB := numB _
  fB := numB _
  tB := numB _
  iB := numB _
  opB := numB _
  keyB := textB _
  valB := textB _
  ktoB := textB _
  mostB := numB _
  erB := numB _
  tvB := textB _
  tiB := listB _
  nxB := textB _
  tnB := numB _
  afB := wideB _
  auB := wideB _
  epB := numB _
  liB := listB _
  nB := numB _
  ndB := numB _
/-- what the document's Get tells -/
def DGet (W : World) (b : ByteArray) (e : Ending) (w' : World) : Prop :=
  Below W.heap.size W w' ∧ ((getL b = none ∧ e = .returned (.tuple #[.agg ZC, .bool false])) ∨
    ∃ l S1 S2, getL b = some l ∧ l.Fine ∧ e = .returned (.tuple #[.agg (l.cells S1 S2), .bool true]) ∧ OwnAt W.heap.size w' S1 l.ti ∧ OwnAt W.heap.size w' S2 l.li)
theorem getL_bad {b : ByteArray} (h : leftR (some b) = none) : getL b = none := by
  rw [getL_is (letR_fine _).afB (letR_fine _).auB, if_neg (fun hh => hh.1 h)]
theorem getL_may {b : ByteArray} (h : mayB (letR (some b)) = false) : getL b = none := by
  rw [getL_is (letR_fine _).afB (letR_fine _).auB, if_neg]
  rintro ⟨-, hp⟩
  rw [← putL_may, hp] at h
  cases h
theorem getL_other {b c : ByteArray} (h : putL (letR (some b)) = some c) (hc : c ≠ b) : getL b = none := by
  rw [getL_is (letR_fine _).afB (letR_fine _).auB, if_neg]
  rintro ⟨-, hp⟩
  exact hc (Option.some.inj (h.symm.trans hp))
theorem getL_yes {b : ByteArray} (h0 : leftR (some b) ≠ none) (h : putL (letR (some b)) = some b) : getL b = some (letR (some b)) := by
  rw [getL_is (letR_fine _).afB (letR_fine _).auB, if_pos ⟨h0, h⟩]
set_option maxRecDepth 20000 in
set_option maxHeartbeats 8000000 in
theorem dget_any (b : ByteArray) (W : World) (hs : b.size ≤ 9223372036854775807) : Calls Tryz.prog 13 #[.string b] W (DGet W b) := by
  have hZ : ((W.alloc (.cells ZC 32)).alloc (.cells #[.string b, .bool false] 72)).heap.size = W.heap.size + 1 + 1 := by simp
  have hr0 : ((W.alloc (.cells ZC 32)).alloc (.cells #[.string b, .bool false] 72)).heap[W.heap.size]? = some (.cells ZC 32) := (Lib.alloc_old _ _ _ (by simp)).trans (heap_alloc_new W _)
  have hrq : Rq ((W.alloc (.cells ZC 32)).alloc (.cells #[.string b, .bool false] 72)) (W.heap.size + 1) b false := by
    have := Rq.new (W.alloc (.cells ZC 32)) b false 72
    simpa using this
  have BW1 : Below W.heap.size W ((W.alloc (.cells ZC 32)).alloc (.cells #[.string b, .bool false] 72)) := ((Below.refl _ _).alloc (Nat.le_refl _) _).alloc (by simp) _
  have H0 : Hid (((W.alloc (.cells ZC 32)).alloc (.cells #[.string b, .bool false] 72)).heap.size = W.heap.size + 1 + 1 ∧ ((W.alloc (.cells ZC 32)).alloc (.cells #[.string b, .bool false] 72)).heap[W.heap.size]? = some (.cells ZC 32) ∧ Below W.heap.size W ((W.alloc (.cells ZC 32)).alloc (.cells #[.string b, .bool false] 72))) := ⟨hZ, hr0, BW1⟩
  have hF := letR_fine (some b)
  have P1 := Lib.hid (@getL_bad b)
  have P2 := Lib.hid (@getL_may b)
  have P3 := Lib.hid (fun c => @getL_other b c)
  have P4 := Lib.hid (@getL_yes b)
  have cl := rletter_any (W.heap.size + 1) (some b) ((W.alloc (.cells ZC 32)).alloc (.cells #[.string b, .bool false] 72)) hrq hs
  unfold RLetter at cl
  have CL := Lib.hid cl
  generalize letR (some b) = l at *
  generalize leftR (some b) = lo at *
  have HF := Lib.hid hF
  have hsz : (Tryz.prog.info? 32).map (·.size) = some 21 := by kernel_rfl
  clear hs hZ hr0 hrq BW1 hF cl
  go_enter Tryz.func13, Tryz.ntmps13
  go_upto_region 3 with (first
    | (go_at_call 31; ((with_reducible refine (CL.out).mono ?_); rintro e w2 ⟨S1, S2, rfl, hs1, hs2, hrd, hgr⟩; have HS1 := Lib.hid hs1; have HS2 := Lib.hid hs2; have HRD := Lib.hid hrd; have HGR := Lib.hid hgr; obtain ⟨A1, k1, rfl⟩ := hs1.slice; obtain ⟨A2, k2, rfl⟩ := hs2.slice; clear hrd hgr hs1 hs2; have hone : (l.cells (.slice A1 l.ti.length k1) (.slice A2 l.li.length k2)).all (·.oneCell') = true := (by first | kernel_rfl | simp [LV.cells, Value.oneCell']); have hold : ZC.size = (l.cells (.slice A1 l.ti.length k1) (.slice A2 l.li.length k2)).size := rfl; have hszC : (Tryz.prog.info? 32).map (·.size) = some (l.cells (.slice A1 l.ti.length k1) (.slice A2 l.li.length k2)).size := hsz))
    | (with_reducible (show wpList _ _ _ (⟨none, Op.store _ _ _, _, _, _, _⟩ :: _) _ _); go_must (refine wpList_store_row rfl 32 (.tmp 5) (.tmp 10) rfl w2.heap.size (l.cells (.slice A1 l.ti.length k1) (.slice A2 l.li.length k2)) rfl rfl 32 ZC (heap_alloc_new w2 _) hszC hold hone ?_)))
  have z2 : W.heap.size + 1 + 1 ≤ w2.heap.size := by have := HGR.out.size; have := H0.out.1; omega
  have hres3 : ((w2.alloc (.cells ZC 32)).setRow w2.heap.size (l.cells (.slice A1 l.ti.length k1) (.slice A2 l.li.length k2))).heap[W.heap.size]? = some (.cells ZC 32) := by
    have h1 := (HGR.out.block W.heap.size (by have := H0.out.1; omega) (fun e => by have := Option.some.inj e; omega)).trans H0.out.2.1
    exact ((setRow_touch _ _ _).block _ (by have := lt_of_heap h1; simp; omega) (by simp only [List.mem_cons, List.not_mem_nil, or_false]; omega)).trans ((Lib.alloc_old _ _ _ (lt_of_heap h1)).trans h1)
  have hrow3 : ((w2.alloc (.cells ZC 32)).setRow w2.heap.size (l.cells (.slice A1 l.ti.length k1) (.slice A2 l.li.length k2))).heap[w2.heap.size]? = some (.cells (l.cells (.slice A1 l.ti.length k1) (.slice A2 l.li.length k2)) 32) := setRow_at _ (heap_alloc_new w2 _)
  have hrd3 : RfO ((w2.alloc (.cells ZC 32)).setRow w2.heap.size (l.cells (.slice A1 l.ti.length k1) (.slice A2 l.li.length k2))) (W.heap.size + 1) lo := (HRD.out.alloc _).touch (setRow_touch _ _ _) (by simp only [List.mem_cons, List.not_mem_nil, or_false]; omega)
  have b23 : Below w2.heap.size w2 ((w2.alloc (.cells ZC 32)).setRow w2.heap.size (l.cells (.slice A1 l.ti.length k1) (.slice A2 l.li.length k2))) := ((Below.refl _ _).alloc (Nat.le_refl _) _).trans (below_setRow _ (Nat.le_refl _))
  have B3 : Hid (Below W.heap.size W ((w2.alloc (.cells ZC 32)).setRow w2.heap.size (l.cells (.slice A1 l.ti.length k1) (.slice A2 l.li.length k2)))) := (H0.out.2.2.trans (HGR.out.toBelow (by omega) (by have := H0.out.1; omega))).trans (b23.mono (by omega))
  have s1 : OwnAt (W.heap.size + 1) ((w2.alloc (.cells ZC 32)).setRow w2.heap.size (l.cells (.slice A1 l.ti.length k1) (.slice A2 l.li.length k2))) (.slice A1 l.ti.length k1) l.ti := (HS1.out.below b23).mono (by have := H0.out.1; omega)
  have s2 : OwnAt (W.heap.size + 1) ((w2.alloc (.cells ZC 32)).setRow w2.heap.size (l.cells (.slice A1 l.ti.length k1) (.slice A2 l.li.length k2))) (.slice A2 l.li.length k2) l.li := (HS2.out.below b23).mono (by have := H0.out.1; omega)
  have HSS : Hid (OwnAt (W.heap.size + 1) ((w2.alloc (.cells ZC 32)).setRow w2.heap.size (l.cells (.slice A1 l.ti.length k1) (.slice A2 l.li.length k2))) (.slice A1 l.ti.length k1) l.ti ∧ OwnAt (W.heap.size + 1) ((w2.alloc (.cells ZC 32)).setRow w2.heap.size (l.cells (.slice A1 l.ti.length k1) (.slice A2 l.li.length k2))) (.slice A2 l.li.length k2) l.li) := ⟨s1, s2⟩
  obtain ⟨w3, hw3⟩ : ∃ w3, ((w2.alloc (.cells ZC 32)).setRow w2.heap.size (l.cells (.slice A1 l.ti.length k1) (.slice A2 l.li.length k2))) = w3 := ⟨_, rfl⟩
  rw [hw3] at hres3 hrow3 hrd3 B3 HSS s1 s2 ⊢
  have hszZ : (Tryz.prog.info? 32).map (·.size) = some ZC.size := hsz
  have honeZ : ZC.all (·.oneCell') = true := by first | decide | simp [ZC, Value.oneCell']
  have HR3 : Hid (∀ w, Below w3.heap.size w3 w → w.heap[W.heap.size]? = some (.cells ZC 32) ∧ w.heap[w2.heap.size]? = some (.cells (l.cells (.slice A1 l.ti.length k1) (.slice A2 l.li.length k2)) 32) ∧ Below W.heap.size W w ∧ OwnAt (W.heap.size + 1) w (.slice A1 l.ti.length k1) l.ti ∧ OwnAt (W.heap.size + 1) w (.slice A2 l.li.length k2) l.li) := fun w hb =>
    ⟨(hb.block _ (lt_of_heap hres3)).trans hres3, (hb.block _ (lt_of_heap hrow3)).trans hrow3, acc B3.out hb, HSS.out.1.below hb, HSS.out.2.below hb⟩
  have CM := Lib.hid (dletter_any l _ _ w3 HF.out s1.slAt s2.slAt)
  clear b23 s1 s2 hw3 z2 CL HS1 HS2 HRD HGR HSS H0
  cases lo with
  | none =>
    have N0 : Hid (getL b = none) := P1.out rfl
    obtain ⟨s, q1, q2, q3, q4, q5⟩ := hrd3
    clear hrow3
    go_wp2_with (with_reducible (show wpList _ _ _ (⟨none, Op.store _ _ _, _, _, _, _⟩ :: _) _ _); go_must (refine wpList_store_row rfl 32 (.tmp 2) (.tmp 26) rfl W.heap.size ZC rfl rfl 32 ZC hres3 hszZ rfl honeZ ?_))
    refine bodyPost_ret (results_row_tmp rfl _ _ W.heap.size ZC (.bool false) rfl rfl (loadVar_letter _ _ _ rfl (setRow_at _ hres3))) rfl ?_
    exact ⟨B3.out.trans (below_setRow _ (Nat.le_refl _)), .inl ⟨N0.out, rfl⟩⟩
  | some r =>
    obtain ⟨q1, q2, q3, q4, q5⟩ := hrd3
    cases hm : mayB l with
    | false =>
      rw [hm] at CM
      go_wp2_with (first
        | (refine wpList_load_rowH (by rfl) 32 (.tmp 5) rfl w2.heap.size rfl 32 (l.cells (.slice A1 l.ti.length k1) (.slice A2 l.li.length k2)) (0, 0) _ hrow3 Tryz.underlying32 rfl hszC ?_)
        | (go_at_call 8; ((with_reducible refine (CM.out).mono ?_); rintro e w4 ⟨rfl, hb4⟩; obtain ⟨hres4, hrow4, hB4, -, -⟩ := HR3.out w4 hb4; have B4 := Lib.hid hB4; clear hB4 hb4))
        | (with_reducible (show wpList _ _ _ (⟨none, Op.store _ _ _, _, _, _, _⟩ :: _) _ _); go_must (refine wpList_store_row rfl 32 (.tmp 2) (.tmp 26) rfl W.heap.size ZC rfl rfl 32 ZC hres4 hszZ rfl honeZ ?_)))
      refine bodyPost_ret (results_row_tmp rfl _ _ W.heap.size ZC (.bool false) rfl rfl (loadVar_letter _ _ _ rfl (setRow_at _ hres4))) rfl ?_
      exact ⟨B4.out.trans (below_setRow _ (Nat.le_refl _)), .inl ⟨P2.out hm, rfl⟩⟩
    | true =>
      rw [hm] at CM
      cases hp : putL l with
      | none =>
        rw [← putL_may, hp] at hm
        cases hm
      | some c =>
        have CP : Hid (∀ w, Below w3.heap.size w3 w → Calls Tryz.prog 10 #[.agg (l.cells (.slice A1 l.ti.length k1) (.slice A2 l.li.length k2))] w fun e w' => e = .returned (.string c) ∧ Below w.heap.size w w') := fun w hb => dput_any l _ _ c w HF.out (HR3.out w hb).2.2.2.1.slAt (HR3.out w hb).2.2.2.2.slAt hp
        by_cases hcb : c = b
        · subst hcb
          have HY : Hid (getL c = some l) := P4.out (by simp) hp
          clear hp hm
          go_wp2_with (first
            | (refine wpList_load_rowH (by rfl) 32 (.tmp 5) rfl w2.heap.size rfl 32 (l.cells (.slice A1 l.ti.length k1) (.slice A2 l.li.length k2)) (0, 0) _ hrow3 Tryz.underlying32 rfl hszC ?_)
            | (go_at_call 8; ((with_reducible refine (CM.out).mono ?_); rintro e w4 ⟨rfl, hb4⟩; obtain ⟨-, hrow4, -, -, -⟩ := HR3.out w4 hb4; have BB4 := Lib.hid hb4; clear hb4))
            | (refine wpList_load_rowH (by rfl) 32 (.tmp 5) rfl w2.heap.size rfl 32 (l.cells (.slice A1 l.ti.length k1) (.slice A2 l.li.length k2)) (0, 0) _ hrow4 Tryz.underlying32 rfl hszC ?_)
            | (go_at_call 10; ((with_reducible refine (CP.out w4 BB4.out).mono ?_); rintro e w5 ⟨rfl, hb5⟩; obtain ⟨hres5, hrow5, hB5, hs51, hs52⟩ := HR3.out w5 (acc BB4.out hb5); have B5 := Lib.hid hB5; have S51 := Lib.hid hs51; have S52 := Lib.hid hs52; clear hB5 hb5 hs51 hs52))
            | (with_reducible (show wpList _ _ _ (⟨some _, Op.load _ (Operand.tmp 5), _, _, _, _⟩ :: _) _ _); go_must (refine wpList_load_row rfl 32 (.tmp 5) rfl w2.heap.size rfl 32 (l.cells (.slice A1 l.ti.length k1) (.slice A2 l.li.length k2)) (0, 0) _ hrow5 Tryz.underlying32 rfl hszC ?_))
            | (with_reducible (show wpList _ _ _ (⟨none, Op.store _ _ _, _, _, _, _⟩ :: _) _ _); go_must (refine wpList_store_row rfl 32 (.tmp 2) (.tmp 27) rfl W.heap.size (l.cells (.slice A1 l.ti.length k1) (.slice A2 l.li.length k2)) rfl rfl 32 ZC hres5 hszC hold hone ?_)))
          refine bodyPost_ret (results_row_tmp rfl _ _ W.heap.size (l.cells (.slice A1 l.ti.length k1) (.slice A2 l.li.length k2)) (.bool true) rfl rfl (loadVar_letter _ _ _ rfl (setRow_at _ hres5))) rfl ?_
          exact ⟨B5.out.trans (below_setRow _ (Nat.le_refl _)), .inr ⟨l, _, _, HY.out, HF.out, rfl, (S51.out.row (by omega) _).mono (by omega), (S52.out.row (by omega) _).mono (by omega)⟩⟩
        · have HN : Hid (getL b = none) := P3.out c hp hcb
          have d1 : (c.toList == b.toList) = false := by
            rw [beq_eq_false_iff_ne]
            exact fun e => hcb (ByteArray.ext (Array.ext' (by rw [← Lib.toList_data, ← Lib.toList_data]; exact e)))
          clear hp hm
          go_wp2_with (first
            | (refine wpList_load_rowH (by rfl) 32 (.tmp 5) rfl w2.heap.size rfl 32 (l.cells (.slice A1 l.ti.length k1) (.slice A2 l.li.length k2)) (0, 0) _ hrow3 Tryz.underlying32 rfl hszC ?_)
            | (go_at_call 8; ((with_reducible refine (CM.out).mono ?_); rintro e w4 ⟨rfl, hb4⟩; obtain ⟨-, hrow4, -, -, -⟩ := HR3.out w4 hb4; have BB4 := Lib.hid hb4; clear hb4))
            | (refine wpList_load_rowH (by rfl) 32 (.tmp 5) rfl w2.heap.size rfl 32 (l.cells (.slice A1 l.ti.length k1) (.slice A2 l.li.length k2)) (0, 0) _ hrow4 Tryz.underlying32 rfl hszC ?_)
            | (go_at_call 10; ((with_reducible refine (CP.out w4 BB4.out).mono ?_); rintro e w5 ⟨rfl, hb5⟩; obtain ⟨hres5, hrow5, hB5, hs51, hs52⟩ := HR3.out w5 (acc BB4.out hb5); have B5 := Lib.hid hB5; clear hB5 hb5 hs51 hs52 hrow5))
            | (with_reducible (show wpList _ _ _ (⟨none, Op.store _ _ _, _, _, _, _⟩ :: _) _ _); go_must (refine wpList_store_row rfl 32 (.tmp 2) (.tmp 26) rfl W.heap.size ZC rfl rfl 32 ZC hres5 hszZ rfl honeZ ?_)))
          refine bodyPost_ret (results_row_tmp rfl _ _ W.heap.size ZC (.bool false) rfl rfl (loadVar_letter _ _ _ rfl (setRow_at _ hres5))) rfl ?_
          exact ⟨B5.out.trans (below_setRow _ (Nat.le_refl _)), .inl ⟨HN.out, rfl⟩⟩
end Go.Proofs.YtbnmddopgbhapaaGreat
