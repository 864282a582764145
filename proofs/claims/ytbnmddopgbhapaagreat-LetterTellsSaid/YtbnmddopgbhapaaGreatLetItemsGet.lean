/-
  Package letter's lists of items, walked: what such a field reads.
-/
import Derived.Test.YtbnmddopgbhapaaGreatLetReadF
import Derived.Deep.RegionHeld3
import Derived.Lib.SmallJoins
namespace Go.Proofs.YtbnmddopgbhapaaGreat
open Go.RowKit

def LI : List (FK × Nat) := [(.text, 0), (.text, 1)]
/-- an item that was read, or not -/
def ItemPost (W : World) (q g : Nat) (s : ByteArray) (e : Ending) (w' : World) : Prop :=
  ∃ (res : Bool) (t1 t2 : ByteArray) (o' : Option ByteArray), e = .returned (.bool res) ∧ RdO w' g o' ∧ Touch [q, g] W w' ∧ w'.heap[q]? = some (.cells #[.string t1, .string t2] 58) ∧
    (res = true → ∃ s1 s2, restT (some s) = some s1 ∧ restT (some s1) = some s2 ∧ t1 = textO (some s) ∧ t2 = textO (some s1) ∧ o' = some s2 ∧ s2.size ≤ s.size) ∧ (res = false → ∀ n, itemsG (n + 1) s = none)
theorem two_cells {cs : Array Value} {a b : Value} (h : cs.size = 2) (h0 : cs[0]? = some a) (h1 : cs[1]? = some b) : cs = #[a, b] := by
  obtain ⟨x, y, rfl⟩ := Go.Joins.array2 h
  simp at h0 h1
  rw [h0, h1]
theorem readItem_any (W : World) (q g : Nat) (s : ByteArray) (A : Option Addr) (c : Nat) (hb : W.heap[q]? = some (.cells #[.string ⟨#[]⟩, .string ⟨#[]⟩] 58)) (hR : RdO W g (some s)) (hne : q ≠ g) (hs : s.size ≤ 9223372036854775807)
    (hA : FieldsAt W A (itemFs q)) (hAb : ∀ q' o, A = some ⟨q', o, none⟩ → q' ≠ q ∧ q' ≠ g) :
    Calls Tryz.prog 66 #[.pointer (some ⟨g, 0, none⟩), .slice A 2 c] W (ItemPost W q g s) := by
  have key := readF_any W q g #[.string ⟨#[]⟩, .string ⟨#[]⟩] 58 LI s A c hb
    (fun i h => by have h' : i < 2 := h; have : i = 0 ∨ i = 1 := by omega
                   rcases this with rfl | rfl <;> rfl) hR hne hs
    (fun i i' h h' hi => by have h1 : i < 2 := h; have h2 : i' < 2 := h'; have a : i = 0 ∨ i = 1 := by omega
                            have b : i' = 0 ∨ i' = 1 := by omega
                            rcases a with rfl | rfl <;> rcases b with rfl | rfl <;> first | exact absurd rfl hi | exact (show (0 : Nat) ≠ 1 by decide) | exact (show (1 : Nat) ≠ 0 by decide))
    (fun x hx => by simp only [LI, List.mem_cons, List.not_mem_nil, or_false] at hx; rcases hx with rfl | rfl <;> exact getOk_text) (by decide) hA hAb
  refine (show Calls Tryz.prog 66 #[.pointer (some ⟨g, 0, none⟩), .slice A 2 c] W _ from key).mono ?_
  rintro e w' (⟨rfl, cs, xs, vs, r, h⟩ | ⟨rfl, hno, ht, ⟨o', hr⟩, cs, hc, hsz, hty⟩)
  · have hg : getF [.text, .text] s = some (xs, r) := h.got
    have hvl : vs.length = 2 := h.lens
    have hxl : xs.length = 2 := getF_len _ _ _ _ hg
    obtain ⟨d0, e0⟩ := h.done 0 (by decide) (by omega) (by omega)
    obtain ⟨d1, e1⟩ := h.done 1 (by decide) (by omega) (by omega)
    have d0' : cs[0]? = some (.string (xs[0]).s) := d0.trans (congrArg some e0)
    have d1' : cs[1]? = some (.string (xs[1]).s) := d1.trans (congrArg some e1)
    have hcs := two_cells h.size d0' d1'
    refine ⟨true, _, _, some r, rfl, h.rd, h.touch, (by rw [← hcs]; exact h.blk), fun _ => ?_, fun hh => by cases hh⟩
    simp only [getF, getK] at hg
    cases hr1 : restT (some s) with
    | none => rw [hr1] at hg; cases hg
    | some s1 =>
      rw [hr1] at hg
      simp only [Option.map_some] at hg
      cases hr2 : restT (some s1) with
      | none => rw [hr2] at hg; cases hg
      | some s2 =>
        rw [hr2] at hg
        simp only [Option.map_some] at hg
        injection hg with hg
        injection hg with ha hb
        subst ha hb
        exact ⟨s1, s2, rfl, hr2, rfl, rfl, rfl, h.left⟩
  · obtain ⟨v0, c0, t0, rfl⟩ := hty 0 (by decide)
    obtain ⟨v1, c1, t1, rfl⟩ := hty 1 (by decide)
    have hcs := two_cells hsz c0 c1
    refine ⟨false, t0, t1, o', rfl, hr, ht, (by rw [← hcs]; exact hc), fun hh => (by cases hh), fun _ n => ?_⟩
    have hg : getF [.text, .text] s = none := hno
    simp only [getF, getK] at hg
    rw [itemsG]
    cases hr1 : restT (some s) with
    | none => rfl
    | some s1 =>
      rw [hr1] at hg
      simp only [Option.map_some] at hg ⊢
      cases hr2 : restT (some s1) with
      | none => rfl
      | some s2 => rw [hr2] at hg; cases hg
theorem ofItem_any2 (b : Nat) (W : World) : Calls Tryz.prog 119 #[.pointer (some ⟨b, 0, none⟩)] W fun e w' => ∃ c, e = .returned (.slice (some ⟨W.heap.size, 0, none⟩) 2 c) ∧ FieldsAt w' (some ⟨W.heap.size, 0, none⟩) (itemFs b) ∧ Below W.heap.size W w' := by
  refine (ofItem_any b W).mono ?_
  rintro e w1 ⟨c, rfl, hf, hb, hs⟩
  exact ⟨c, rfl, hf, hb⟩
/-- k items were read -/
def ItSt (W : World) (b o g n : Nat) (cs : Array Value) (T : TypeId) (r : ByteArray) (k : Nat) (A : Option Addr) (c : Nat) (l : List Item) (r' : ByteArray) (wx : World) : Prop :=
  l.length = k ∧ itemsG n r = (itemsG (n - k) r').map (fun p => (l ++ p.1, p.2)) ∧ r'.size ≤ r.size ∧ RdO wx g (some r') ∧ wx.heap[b]? = some (.cells (cs.setIfInBounds o (.slice A k c)) T) ∧ wx.ownsRow (W.heap.size + 2) 58 2 (.slice A k c) k (itemCells l) ∧ Touch [b, g] W wx ∧
    wx.heap[W.heap.size + 1]? = some (.cells #[.int .i64 (n : Nat)] 3) ∧ wx.heap[W.heap.size]? = some (.cells #[.pointer (some ⟨b, o, none⟩)] 111)
def ItNo (W : World) (b o g n : Nat) (cs : Array Value) (T : TypeId) (r : ByteArray) (wx : World) : Prop :=
  itemsG n r = none ∧ (∃ o', RdO wx g o') ∧ Touch [b, g] W wx ∧ ∃ A k c, wx.heap[b]? = some (.cells (cs.setIfInBounds o (.slice A k c)) T)
theorem set_same {cs : Array Value} {o : Nat} {v : Value} (h : cs[o]? = some v) : cs.setIfInBounds o v = cs := by
  obtain ⟨h1, h2⟩ := Array.getElem?_eq_some_iff.1 h
  subst h2
  apply Array.ext (by simp)
  intro i hi hj
  rw [Array.getElem_setIfInBounds]
  · split
    · rename_i e; subst e; rfl
    · rfl
theorem Rq.grown' {W W1 : World} {g : Nat} {row : Option Nat} {s : ByteArray} {b : Bool} (h : Rq W g s b) (hg : W.grownBy W1 row) (hr : ∀ k, row = some k → k ≠ g) : Rq W1 g s b :=
  h.of_block hg.size (hg.block g h.1 (fun e => hr g e.symm rfl))
theorem At.grown {W W1 : World} {p : Addr} {v : Value} {row : Option Nat} (h : At W p v) (hg : W.grownBy W1 row) (hn : row ≠ some p.block) : At W1 p v :=
  ⟨Nat.lt_of_lt_of_le h.1 hg.size, (World.cell?_of_block (w := W) (hg.block p.block h.1 (fun e => hn e.symm))).trans h.2⟩
theorem At.set_ {W : World} {p q : Addr} {v : Value} (h : At W p v) (u : Value) (hn : p.block ≠ q.block) : At (W.setCell q u) p v :=
  ⟨by have := h.1; simpa [World.setCell] using this, (World.cell?_setCell_other _ _ _ _ (fun e => hn (by rw [e]))).trans h.2⟩
theorem At.ofHeap {W : World} {b o : Nat} {cs : Array Value} {T : TypeId} {v : Value} (h : W.heap[b]? = some (.cells cs T)) (hv : cs[o]? = some v) : At W ⟨b, o, none⟩ v := ⟨lt_of_heap h, cell_at h hv⟩
theorem items_snoc (l : List Item) (x : Item) : itemCells l ++ [Value.string x.1, Value.string x.2] = itemCells (l ++ [x]) := by rw [itemCells_append]; rfl
set_option maxRecDepth 20000 in
set_option maxHeartbeats 2000000 in
theorem itemsget_any (b o g : Nat) (cs : Array Value) (T : TypeId) (s : ByteArray) (W : World) (hb : W.heap[b]? = some (.cells cs T)) (hold : cs[o]? = some (.slice none 0 0)) (hR : RdO W g (some s)) (hne : b ≠ g) (hs : s.size ≤ 9223372036854775807) :
    Calls Tryz.prog 116 #[.agg #[.pointer (some ⟨b, o, none⟩)], .pointer (some ⟨g, 0, none⟩)] W (GetPost W b o g cs T .items s) := by
  have hg1 : g < W.heap.size := hR.1
  have hbl := lt_of_heap hb
  have B2 : Below W.heap.size W ((W.alloc (.cells #[.pointer (some ⟨b, o, none⟩)] 111)).alloc (.cells #[.int .i64 0] 3)) := ((Below.refl _ _).alloc (Nat.le_refl _) _).alloc (by simp) _
  have hv : ((W.alloc (.cells #[.pointer (some ⟨b, o, none⟩)] 111)).alloc (.cells #[.int .i64 0] 3)).heap[W.heap.size + 1]? = some (.cells #[.int .i64 0] 3) := by
    have := heap_alloc_new (W.alloc (.cells #[.pointer (some ⟨b, o, none⟩)] 111)) (.cells #[.int .i64 0] 3)
    simpa using this
  have hbx : ((W.alloc (.cells #[.pointer (some ⟨b, o, none⟩)] 111)).alloc (.cells #[.int .i64 0] 3)).heap[W.heap.size]? = some (.cells #[.pointer (some ⟨b, o, none⟩)] 111) := (Lib.alloc_old _ _ _ (by simp)).trans (heap_alloc_new W _)
  have hb2 := (B2.block b hbl).trans hb
  have CM := Lib.hid mknum_any
  obtain ⟨m1, m2⟩ := num_look ⟨W.heap.size + 1, 0, none⟩ 0 40
  have CG := Lib.hid (numget_any (W.heap.size + 1) 0 g 0 40 #[.int .i64 0] 3 (some s) _ hv rfl (RdO.below_ hR B2) (by omega) hs)
  have HX : Hid (Below W.heap.size W ((W.alloc (.cells #[.pointer (some ⟨b, o, none⟩)] 111)).alloc (.cells #[.int .i64 0] 3)) ∧ ((W.alloc (.cells #[.pointer (some ⟨b, o, none⟩)] 111)).alloc (.cells #[.int .i64 0] 3)).heap[b]? = some (.cells cs T) ∧ ((W.alloc (.cells #[.pointer (some ⟨b, o, none⟩)] 111)).alloc (.cells #[.int .i64 0] 3)).heap[W.heap.size]? = some (.cells #[.pointer (some ⟨b, o, none⟩)] 111)) := ⟨B2, hb2, hbx⟩
  have HNE := Lib.hid hne
  obtain ⟨iI, zI, hiI, hzI, hz1I, hz2I, hzcI⟩ := infoItem
  have CI := Lib.hid ofItem_any2
  obtain ⟨n, hn⟩ : ∃ n, numO (some s) 2 = n := ⟨_, rfl⟩
  have hn16 := numO_lt (some s) 2
  rw [hn] at CG hn16
  obtain ⟨o1, ho1⟩ : ∃ o1, restO (some s) 2 = o1 := ⟨_, rfl⟩
  rw [ho1] at CG
  generalize hok : decide ((0 : Int) ≤ (n : Nat) ∧ ((n : Nat) : Int) ≤ 40) = ok at CG
  have HOK := Lib.hid hok
  have HN := Lib.hid hn
  have HO1 := Lib.hid ho1
  have HS := Lib.hid hs
  clear hR hb B2 hv hbx hb2 hs hok hn ho1
  go_enter Tryz.func116, Tryz.ntmps116
  go_wp2_with (first
    | (go_at_call 63; ((with_reducible refine (CM.out _ _ _ _).mono ?_); rintro e w1 ⟨rfl, rfl⟩))
    | (go_at_call 129; ((with_reducible refine (CG.out).mono ?_); rintro e w1 ⟨rfl, hr, hv1, ht⟩; have HK : Hid (RdO w1 g o1 ∧ w1.heap[W.heap.size + 1]? = some (.cells #[.int .i64 (n : Nat)] 3) ∧ Touch [W.heap.size + 1, g] ((W.alloc (.cells #[.pointer (some ⟨b, o, none⟩)] 111)).alloc (.cells #[.int .i64 0] 3)) w1) := ⟨hr, hv1, ht⟩; clear hr hv1 ht)))
  have HK2 : Hid (Touch [b, g] W w1 ∧ w1.heap[b]? = some (.cells cs T) ∧ w1.heap[W.heap.size]? = some (.cells #[.pointer (some ⟨b, o, none⟩)] 111)) := by
    obtain ⟨q1, q2, q3⟩ := HK.out
    obtain ⟨x1, x2, x3⟩ := HX.out
    refine ⟨(Touch.ofBelow (F := [b, g]) x1).trans q3 (fun x hx => by simp only [List.mem_cons, List.not_mem_nil, or_false] at hx ⊢; rcases hx with rfl | rfl; exact .inr (by omega); exact .inl (.inr rfl)), (q3.block b (lt_of_heap x2) (by simp; exact ⟨by omega, HNE.out⟩)).trans x2, (q3.block W.heap.size (lt_of_heap x3) (by simp; omega)).trans x3⟩
  have hcell1 : w1.cell? ⟨W.heap.size + 1, 0, none⟩ = some (.int .i64 (n : Nat)) := cell_at HK.out.2.1 rfl
  have hcell0 : w1.cell? ⟨W.heap.size, 0, none⟩ = some (.pointer (some ⟨b, o, none⟩)) := cell_at HK2.out.2.2 rfl
  cases o1 with
  | none =>
    have hn0 : n = 0 := by
      rw [← HN.out]
      have := HO1.out
      simp only [restO] at this
      simp only [numO]
      split at this
      · cases this
      · rename_i hh; rw [if_neg hh]
    subst hn0
    have hokt : ok = true := by rw [← HOK.out]; rfl
    subst hokt
    have hcb : w1.cell? ⟨b, o, none⟩ = some (.slice none 0 0) := cell_at HK2.out.2.1 hold
    go_loopg [6] 1 (fun gh s6 wx => gh = 1 ∧ s6 = .bool true ∧ wx = w1)
    case atStart => exact ⟨rfl, rfl, rfl⟩
    case round =>
      obtain ⟨_, rfl, rfl⟩ := hrel
      go_wp2
      go_quiet (fail)
      go_wp2
      go_ret
      refine ⟨true, none, rfl, HK.out.1, HK2.out.1.drewN nq, .inr ⟨?_, rfl, .slice none 0 0, ?_, none, 0, 0, rfl⟩⟩
      · rw [getK, HO1.out]
      · rw [set_same hold]; exact HK2.out.2.1
  | some r =>
    by_cases hle : n ≤ 40
    · have hokt : ok = true := by rw [← HOK.out]; exact decide_eq_true ⟨by omega, by omega⟩
      subst hokt
      have hrs : r.size ≤ s.size := by
        obtain ⟨h1, h2⟩ := restO_some HO1.out
        rw [h2, extract_size _ _ h1]; omega
      go_loopg [6] (n + 2) (fun gh s6 wx => (∃ k A c l r', k + gh = n + 2 ∧ k ≤ n ∧ s6 = .bool true ∧ Hid (ItSt W b o g n cs T r k A c l r' wx)) ∨ (1 ≤ gh ∧ s6 = .bool false ∧ Hid (ItNo W b o g n cs T r wx)))
      case atStart => exact .inl ⟨0, none, 0, [], r, by omega, by omega, rfl, rfl, by rw [Nat.sub_zero]; cases itemsG n r <;> rfl, Nat.le_refl _, HK.out.1, by rw [set_same hold]; exact HK2.out.2.1, World.ownsRow_nil _ _ _ _, HK2.out.1, HK.out.2.1, HK2.out.2.2⟩
      case round =>
        rcases hrel with ⟨k, A, c, l, r', hkg, hk, rfl, HST⟩ | ⟨hg1', rfl, HNO⟩
        · obtain ⟨s1, s2, s3, s4, s5, s6', s7, s8, s9⟩ := HST.out
          have y0 : wr.cell? ⟨W.heap.size, 0, none⟩ = some (.pointer (some ⟨b, o, none⟩)) := cell_at s9 rfl
          have y1 : wr.cell? ⟨W.heap.size + 1, 0, none⟩ = some (.int .i64 (n : Nat)) := cell_at s8 rfl
          have hcell := set_at (.slice A k c) hold
          have y2 : wr.cell? ⟨b, o, none⟩ = some (.slice A k c) := cell_at s5 hcell
          have hsz := s7.size
          clear s1 s2 s3 s4 s5 s6' s7 s8 s9 hcell0 hcell1
          by_cases hlt : k < n
          · have d1 : decide ((k : Int) < (n : Int)) = true := by simp; omega
            go_wp2
            go_quiet (fail)
            clear y0 y1 y2
            have HPRE : Hid (∀ w3 : World, Below wr.heap.size (wr.drewN nq) w3 → ItSt W b o g n cs T r k A c l r' w3) := fun w3 hb30 => (by
              have hb3 : Below wr.heap.size wr w3 := (belowN (Below.refl _ _) nq).trans hb30
              obtain ⟨s1, s2, s3, s4, s5, s6', s7, s8, s9⟩ := HST.out
              exact ⟨s1, s2, s3, Rq.belowAt s4 hb3 s4.1, (hb3.block b (lt_of_heap s5)).trans s5, own_step s6' hb3, s7.trans (Touch.ofBelow (F := [b, g]) hb3) (fun x hx => .inl hx), (hb3.block _ (lt_of_heap s8)).trans s8, (hb3.block _ (lt_of_heap s9)).trans s9⟩)
            have BI : Below wr.heap.size (wr.drewN nq) ((wr.drewN nq).alloc (.cells #[.string ⟨#[]⟩, .string ⟨#[]⟩] 58)) := (Below.refl wr.heap.size (wr.drewN nq)).alloc (Nat.le_refl _) _
            have hqI : ((wr.drewN nq).alloc (.cells #[.string ⟨#[]⟩, .string ⟨#[]⟩] 58)).heap[wr.heap.size]? = some (.cells #[.string ⟨#[]⟩, .string ⟨#[]⟩] 58) := heap_alloc_new (wr.drewN nq) _
            have HQI := Lib.hid hqI
            have HBI := Lib.hid BI
            clear hqI BI hcell
            have HRS := Lib.hid hrs
            clear hrs
            go_wp2_with (first
              | (go_at_call 119; ((with_reducible refine (CI.out _ _).mono ?_); rintro e w3 ⟨c3, rfl, hf30, hb3⟩; have hf3 : FieldsAt w3 (some ⟨wr.heap.size + 1, 0, none⟩) (itemFs wr.heap.size) := (show wr.heap.size + 1 = ((wr.drewN nq).alloc (.cells #[.string ⟨#[]⟩, .string ⟨#[]⟩] 58)).heap.size by simp [World.drewN]) ▸ hf30; have CR := Lib.hid (readItem_any w3 wr.heap.size g r' (some ⟨wr.heap.size + 1, 0, none⟩) c3 ((hb3.block wr.heap.size (by simp [World.drewN])).trans HQI.out) (HPRE.out w3 (HBI.out.trans (hb3.mono (by simp [World.drewN])))).2.2.2.1 (by have := (HST.out).2.2.2.1.1; omega) (by have := HS.out; have := HRS.out; have := (HST.out).2.2.1; omega) hf3 (by intro q' o' hq; have hl := (HST.out).2.2.2.1.1; injection hq with hq; injection hq with hq _ _; exact ⟨by omega, by omega⟩)); have HB3 : Hid (Below wr.heap.size (wr.drewN nq) w3 ∧ wr.heap.size < w3.heap.size) := ⟨HBI.out.trans (hb3.mono (by simp [World.drewN])), by have := hb3.size; simp [World.drewN] at this; omega⟩; clear hf3 hf30 hb3))
              | (go_at_call 66; ((with_reducible refine (CR.out).mono ?_); rintro e w5 ⟨res, t1, t2, o5, rfl, h5⟩; have H5 := Lib.hid h5; clear h5)))
            have H6 : Hid (RdO w5 g o5 ∧ w5.heap[b]? = some (.cells (cs.setIfInBounds o (.slice A k c)) T) ∧ w5.ownsRow (W.heap.size + 2) 58 2 (.slice A k c) k (itemCells l) ∧ Touch [b, g] W w5 ∧ w5.heap[W.heap.size + 1]? = some (.cells #[.int .i64 (n : Nat)] 3) ∧ w5.heap[W.heap.size]? = some (.cells #[.pointer (some ⟨b, o, none⟩)] 111) ∧ w5.heap[wr.heap.size]? = some (.cells #[.string t1, .string t2] 58) ∧ wr.heap.size < w5.heap.size ∧ (∀ q, (Value.slice A k c).ownBlock = some q → W.heap.size + 2 ≤ q ∧ q < wr.heap.size)) := by
              obtain ⟨p1, p2, p3, p4, p5, p6, p7, p8, p9⟩ := HPRE.out w3 HB3.out.1
              obtain ⟨g1, g2, g3, -, -⟩ := H5.out
              have hrow : ∀ q, (Value.slice A k c).ownBlock = some q → W.heap.size + 2 ≤ q ∧ q < wr.heap.size := fun q hq => (HST.out).2.2.2.2.2.1.lt q hq
              have hgw := (HST.out).2.2.2.1.1
              have hw8 := lt_of_heap (HST.out).2.2.2.2.2.2.2.1
              refine ⟨g1, (g2.block b (lt_of_heap p5) (by simp only [List.mem_cons, List.not_mem_nil, or_false]; have := HNE.out; omega)).trans p5, Touch.row g2 p6 (fun q hq => by have := hrow q hq; simp only [List.mem_cons, List.not_mem_nil, or_false]; omega), p7.trans g2 (fun x hx => by simp only [List.mem_cons, List.not_mem_nil, or_false] at hx ⊢; rcases hx with rfl | rfl; exact .inr hsz; exact .inl (.inr rfl)), (g2.block _ (lt_of_heap p8) (by simp only [List.mem_cons, List.not_mem_nil, or_false]; omega)).trans p8, (g2.block _ (lt_of_heap p9) (by simp only [List.mem_cons, List.not_mem_nil, or_false]; omega)).trans p9, g3, ?_, hrow⟩
              have := g2.size
              have := HB3.out.2
              omega
            have S5 : Hid (At w5 ⟨W.heap.size, 0, none⟩ (.pointer (some ⟨b, o, none⟩)) ∧ At w5 ⟨wr.heap.size, 0, none⟩ (.string t1) ∧ At w5 ⟨wr.heap.size, 1, none⟩ (.string t2)) := ⟨At.ofHeap H6.out.2.2.2.2.2.1 rfl, At.ofHeap H6.out.2.2.2.2.2.2.1 rfl, At.ofHeap H6.out.2.2.2.2.2.2.1 rfl⟩
            have A5 : At w5 ⟨b, o, none⟩ (.slice A k c) := At.ofHeap H6.out.2.1 (set_at _ hold)
            have z5 := A5.2
            have z5b : (w5.drew.alloc (.cells #[.string t1, .string t2] 58)).cell? ⟨b, o, none⟩ = some (.slice A k c) := (At.alloc (W := w5.drew) A5 _).2
            have z5c : (w5.alloc (.cells #[.string t1, .string t2] 58)).cell? ⟨b, o, none⟩ = some (.slice A k c) := z5b
            have z5d : (w5.alloc (.cells #[.string t1, .string t2] 58)).drew.cell? ⟨b, o, none⟩ = some (.slice A k c) := z5b
            have HOW : Hid ((w5.drew.alloc (.cells #[.string t1, .string t2] 58)).ownsRow (W.heap.size + 2) 58 2 (.slice A k c) k (itemCells l)) := own_step (H6.out.2.2.1) ((Below.refl w5.heap.size w5).drew.alloc (Nat.le_refl _) _)
            have HNW := Lib.hid (item_new w5.drew t1 t2)
            have HSZ : Hid (W.heap.size + 2 ≤ (w5.drew.alloc (.cells #[.string t1, .string t2] 58)).heap.size) := by
              have := H6.out.2.2.2.2.2.2.2.1
              have e1 : (w5.drew.alloc (.cells #[.string t1, .string t2] 58)).heap.size = w5.heap.size + 1 := by simp
              show _ ≤ _
              rw [e1]; omega
            have HGR : Hid (∀ w6 : World, (w5.drew.alloc (.cells #[.string t1, .string t2] 58)).grownBy w6 (Value.slice A k c).ownBlock → At w6 ⟨W.heap.size, 0, none⟩ (.pointer (some ⟨b, o, none⟩)) ∧ At w6 ⟨wr.heap.size, 0, none⟩ (.string t1) ∧ At w6 ⟨wr.heap.size, 1, none⟩ (.string t2) ∧ At w6 ⟨b, o, none⟩ (.slice A k c) ∧ w6.frozen? ⟨b, o, none⟩ = false) := fun w6 hgr => by
              obtain ⟨x1, x2, x3⟩ := S5.out
              have hrow := H6.out.2.2.2.2.2.2.2.2
              have f : ∀ p v, At w5 p v → (p.block ≤ W.heap.size ∨ p.block = wr.heap.size) → At w6 p v := fun p v hp hq => (At.alloc (W := w5.drew) hp _).grown hgr (fun e => by have := hrow _ e; omega)
              refine ⟨f _ _ x1 (.inl (Nat.le_refl _)), f _ _ x2 (.inr rfl), f _ _ x3 (.inr rfl), f _ _ A5 (.inl (Nat.le_of_lt hbl)), ?_⟩
              have hb6 : w6.heap[b]? = some (.cells (cs.setIfInBounds o (.slice A k c)) T) := (hgr.block b (by have := (At.alloc (W := w5.drew) A5 (.cells #[.string t1, .string t2] 58)).1; exact this) (fun e => by have := hrow _ e.symm; omega)).trans ((Lib.alloc_old w5.drew _ b (lt_of_heap H6.out.2.1)).trans H6.out.2.1)
              exact frozen_at hb6
            clear A5
            have HREL : Hid (∀ (A6 : Option Addr) (c6 : Nat) (w6 : World), w6.ownsRow (W.heap.size + 2) 58 2 (.slice A6 (k + 1) c6) (k + 1) (itemCells l ++ [.string t1, .string t2]) → (w5.drew.alloc (.cells #[.string t1, .string t2] 58)).grownBy w6 (Value.slice A k c).ownBlock →
                (∃ k' A' c' l' r'', k' + (gk - 1) = n + 2 ∧ k' ≤ n ∧ Value.bool res = .bool true ∧ Hid (ItSt W b o g n cs T r k' A' c' l' r'' (w6.setCell ⟨b, o, none⟩ (.slice A6 (k + 1) c6)))) ∨ (1 ≤ gk - 1 ∧ Value.bool res = .bool false ∧ Hid (ItNo W b o g n cs T r (w6.setCell ⟨b, o, none⟩ (.slice A6 (k + 1) c6))))) := fun A6 c6 w6 hown6 hgr => by
              obtain ⟨q1, q2, q3, q4, q5, q6, q7, q8, hrow⟩ := H6.out
              obtain ⟨-, -, -, hyes, hno⟩ := H5.out
              obtain ⟨s1, s2, s3, -, -, -, -, -, -⟩ := HST.out
              have BA : Below w5.heap.size w5 (w5.drew.alloc (.cells #[.string t1, .string t2] 58)) := (Below.refl w5.heap.size w5).drew.alloc (Nat.le_refl _) _
              have hgw := q1.1
              have key : ∀ (j : Nat) (ob : Obj), w5.heap[j]? = some ob → (∀ q, (Value.slice A k c).ownBlock = some q → q ≠ j) → w6.heap[j]? = some ob := fun j ob hj hn =>
                (hgr.block j (Nat.lt_of_lt_of_le (lt_of_heap hj) BA.size) (fun e => hn j e.symm rfl)).trans ((BA.block j (lt_of_heap hj)).trans hj)
              have kb := key b _ q2 (fun q hq => by have := hrow q hq; omega)
              have hset := heap_set (o := o) (.slice A6 (k + 1) c6) kb
              rw [Array.setIfInBounds_setIfInBounds] at hset
              have tW6 : Touch [b, g] W w6 := (q4.trans (Touch.ofBelow (F := [b, g]) BA) (fun x hx => .inl hx)).grown hgr (fun q hq => .inr (by have := hrow q hq; omega))
              have tW7 : Touch [b, g] W (w6.setCell ⟨b, o, none⟩ (.slice A6 (k + 1) c6)) := tW6.set (.inl (by simp)) _
              have hrg : RdO w6 g o5 := by
                have h1 : RdO (w5.drew.alloc (.cells #[.string t1, .string t2] 58)) g o5 := RdO.below_ q1 BA
                exact Rq.grown' h1 hgr (fun q hq => by have := hrow q hq; omega)
              have hrg7 : RdO (w6.setCell ⟨b, o, none⟩ (.slice A6 (k + 1) c6)) g o5 := RdO.touch (F := [b]) hrg ((Touch.refl _ _).set (.inl (by simp)) _) (by simp; exact fun e => HNE.out e.symm)
              have hnew6 : ∀ q, (Value.slice A6 (k + 1) c6).ownBlock = some q → W.heap.size + 2 ≤ q := fun q hq => (hown6.lt q hq).1
              have hown7 : (w6.setCell ⟨b, o, none⟩ (.slice A6 (k + 1) c6)).ownsRow (W.heap.size + 2) 58 2 (.slice A6 (k + 1) c6) (k + 1) (itemCells l ++ [.string t1, .string t2]) :=
                Touch.row (F := [b]) ((Touch.refl _ _).set (.inl (by simp)) _) hown6 (fun q hq => by have := hnew6 q hq; simp only [List.mem_cons, List.not_mem_nil, or_false]; omega)
              have h8 := key (W.heap.size + 1) _ q5 (fun q hq => by have := hrow q hq; omega)
              have h9 := key W.heap.size _ q6 (fun q hq => by have := hrow q hq; omega)
              have far : ∀ (j : Nat) (ob : Obj), j ≠ b → w6.heap[j]? = some ob → (w6.setCell ⟨b, o, none⟩ (.slice A6 (k + 1) c6)).heap[j]? = some ob := fun j ob hj h => (Below.heap_setCell _ _ _ _ (by exact hj)).trans h
              cases res with
              | true =>
                obtain ⟨r1, r2, e1, e2, e3, e4, e5, e6⟩ := hyes rfl
                subst e3 e4 e5
                refine .inl ⟨k + 1, A6, c6, l ++ [(textO (some r'), textO (some r1))], r2, by omega, by omega, rfl, by simp [s1], ?_, Nat.le_trans e6 s3, hrg7, hset, ?_, tW7, far _ _ (by omega) h8, far _ _ (by omega) h9⟩
                · rw [s2, show n - k = (n - (k + 1)) + 1 by omega, itemsG, e1]
                  simp only
                  rw [e2]
                  simp only
                  cases itemsG (n - (k + 1)) r2 with
                  | none => rfl
                  | some p => simp
                · rw [← items_snoc]
                  exact hown7
              | false =>
                refine .inr ⟨by omega, rfl, ?_, ⟨o5, hrg7⟩, tW7, A6, k + 1, c6, hset⟩
                rw [s2, show n - k = (n - (k + 1)) + 1 by omega, hno rfl]; rfl
            have HNW' : Hid (∀ j u, [Value.string t1, Value.string t2][j]? = some u → (w5.drew.alloc (.cells #[.string t1, .string t2] 58)).cell? ((⟨w5.heap.size, 0, none⟩ : Addr).add j) = some u) := HNW.out
            clear HNW
            refine wp_region_held_drew (S := (fun w' => At w' ⟨W.heap.size, 0, none⟩ (.pointer (some ⟨b, o, none⟩)) ∧ At w' ⟨wr.heap.size, 0, none⟩ (.string t1) ∧ At w' ⟨wr.heap.size, 1, none⟩ (.string t2))) (by kernel_rfl) S5.out (fun hHeld => ?_)
            refine wpAnyH_take (i := 0) (oi := ⟨_, _, _, _, _, _⟩) (v := ?_) rfl (by kernel_rfl) (by kernel_rfl) (by kernel_rfl) (fun _ _ _ h => h) (Or.inl ⟨by rfl, ?_⟩) (by assumption) ?_
            rotate_left
            · (intro wS hSw; (try dsimp only at hSw); (obtain ⟨⟨_, q1⟩, ⟨_, q2⟩, ⟨_, q3⟩⟩ := hSw; go_simp <;> with_reducible rfl))
            try simp only [Act.put, List.setIfInBounds_toArray, List.set_cons_zero, List.set_cons_succ]
            refine wpAnyH_take (i := 1) (oi := ⟨_, _, _, _, _, _⟩) (v := ?_) rfl (by kernel_rfl) (by kernel_rfl) (by kernel_rfl) (fun _ _ _ h => h) (Or.inl ⟨by rfl, ?_⟩) (by assumption) ?_
            rotate_left
            · (intro wS hSw; (try dsimp only at hSw); (obtain ⟨⟨_, q1⟩, ⟨_, q2⟩, ⟨_, q3⟩⟩ := hSw; go_simp <;> with_reducible rfl))
            try simp only [Act.put, List.setIfInBounds_toArray, List.set_cons_zero, List.set_cons_succ]
            refine wpAnyH_take (i := 2) (oi := ⟨_, _, _, _, _, _⟩) (v := ?_) rfl (by kernel_rfl) (by kernel_rfl) (by kernel_rfl) (fun _ _ _ h => h) (Or.inl ⟨by rfl, ?_⟩) (by assumption) ?_
            rotate_left
            · (intro wS hSw; (try dsimp only at hSw); (obtain ⟨⟨_, q1⟩, ⟨_, q2⟩, ⟨_, q3⟩⟩ := hSw; go_simp <;> with_reducible rfl))
            try simp only [Act.put, List.setIfInBounds_toArray, List.set_cons_zero, List.set_cons_succ]
            refine wpAnyH_take (i := 3) (oi := ⟨_, _, _, _, _, _⟩) (v := ?_) rfl (by kernel_rfl) (by kernel_rfl) (by kernel_rfl) (fun _ _ _ h => h) (Or.inl ⟨by rfl, ?_⟩) (by assumption) ?_
            rotate_left
            · (intro wS hSw; (try dsimp only at hSw); (obtain ⟨⟨_, q1⟩, ⟨_, q2⟩, ⟨_, q3⟩⟩ := hSw; go_simp <;> with_reducible rfl))
            try simp only [Act.put, List.setIfInBounds_toArray, List.set_cons_zero, List.set_cons_succ]
            refine wpAnyH_take (i := 4) (oi := ⟨_, _, _, _, _, _⟩) (v := ?_) rfl (by kernel_rfl) (by kernel_rfl) (by kernel_rfl) (fun _ _ _ h => h) (Or.inl ⟨by rfl, ?_⟩) (by assumption) ?_
            rotate_left
            · (intro wS hSw; (try dsimp only at hSw); (obtain ⟨⟨_, q1⟩, ⟨_, q2⟩, ⟨_, q3⟩⟩ := hSw; go_simp <;> with_reducible rfl))
            try simp only [Act.put, List.setIfInBounds_toArray, List.set_cons_zero, List.set_cons_succ]
            refine wpAnyH_take (i := 6) (oi := ⟨_, _, _, _, _, _⟩) (v := ?_) rfl (by kernel_rfl) (by kernel_rfl) (by kernel_rfl) (fun _ _ _ h => h) (Or.inl ⟨by rfl, ?_⟩) (by assumption) ?_
            rotate_left
            · (intro wS hSw; (try dsimp only at hSw); (obtain ⟨⟨_, q1⟩, ⟨_, q2⟩, ⟨_, q3⟩⟩ := hSw; go_simp <;> with_reducible rfl))
            try simp only [Act.put, List.setIfInBounds_toArray, List.set_cons_zero, List.set_cons_succ]
            refine wpAnyH_ready (rs := [5, 7]) (by kernel_rfl) (by simp) ?_
            refine AllReadyH.cons (o := ⟨_, _, _, _, _, _⟩) rfl (fun K hK => ?_) (AllReadyH.cons (o := ⟨_, _, _, _, _, _⟩) rfl (fun K hK => ?_) AllReadyH.nil)
            · go_simp
              refine hK.out _ _ (by (try dsimp only); assumption) (fun hHeld => ?_)
              clear hK K
              try simp only [Act.put, List.setIfInBounds_toArray, List.set_cons_zero, List.set_cons_succ]
              refine wpAnyH_ready (rs := [7]) (by kernel_rfl) (by simp) ?_
              refine AllReadyH.cons (o := ⟨_, _, _, _, _, _⟩) rfl (fun K hK => ?_) AllReadyH.nil
              go_simp
              refine hK.out _ _ (by (try dsimp only); exact ⟨(hHeld.1.alloc _), (hHeld.2.1.alloc _), (hHeld.2.2.alloc _)⟩) (fun hHeld => ?_)
              clear hK K
              try simp only [Act.put, List.setIfInBounds_toArray, List.set_cons_zero, List.set_cons_succ]
              refine wpAnyH_ready (rs := [8]) (by kernel_rfl) (by simp) ?_
              refine AllReadyH.cons (o := ⟨_, _, _, _, _, _⟩) rfl (fun K hK => ?_) AllReadyH.nil
              refine step_append_own rfl (.tmp 29) (.tmp 31) 25 rfl (W.heap.size + 2) 58 iI zI 2 32 Tryz.underlying25 hiI hzI hz1I hz2I hzcI (by decide) (.slice A k c) k (itemCells l) (by simp [Act.eval]) HOW.out ⟨w5.heap.size, 0, none⟩ 1 1 [.string t1, .string t2] (by simp [Act.eval]) rfl HNW'.out (by intro u hu; simp only [List.mem_cons, List.not_mem_nil, or_false] at hu; rcases hu with rfl | rfl <;> rfl) (by unfold maxLen; omega) (by omega) HSZ.out ?_
              intro v6 w6 hown6 hgrow6 hnil6
              obtain ⟨A6, c6, rfl⟩ := own_slice hown6
              clear hnil6
              have S6 := HGR.out w6 hgrow6
              have z6 := S6.2.2.2.1.2
              have f6 := S6.2.2.2.2
              have HO6 := Lib.hid hown6
              have HG6 := Lib.hid hgrow6
              clear hown6 hgrow6
              refine hK.out _ _ (by (try dsimp only); exact ⟨S6.1, S6.2.1, S6.2.2.1⟩) (fun hHeld => ?_)
              clear hK K
              try simp only [Act.put, List.setIfInBounds_toArray, List.set_cons_zero, List.set_cons_succ]
              refine wpAnyH_take (i := 9) (oi := ⟨_, _, _, _, _, _⟩) (v := ?_) rfl (by kernel_rfl) (by kernel_rfl) (by kernel_rfl) (fun _ _ _ h => h) (Or.inl ⟨by rfl, ?_⟩) (by assumption) ?_
              rotate_left
              · (intro wS hSw; (try dsimp only at hSw); (obtain ⟨⟨_, q1⟩, ⟨_, q2⟩, ⟨_, q3⟩⟩ := hSw; go_simp <;> with_reducible rfl))
              try simp only [Act.put, List.setIfInBounds_toArray, List.set_cons_zero, List.set_cons_succ]
              refine wpAnyH_ready (rs := [10]) (by kernel_rfl) (by simp) ?_
              refine AllReadyH.cons (o := ⟨_, _, _, _, _, _⟩) rfl (fun K hK => ?_) AllReadyH.nil
              go_simp
              refine hK.out _ _ (by (try dsimp only); exact ⟨S6.1.set_ _ (by show W.heap.size ≠ b; omega), S6.2.1.set_ _ (by show wr.heap.size ≠ b; omega), S6.2.2.1.set_ _ (by show wr.heap.size ≠ b; omega)⟩) (fun hHeld => ?_)
              clear hK K
              try simp only [Act.put, List.setIfInBounds_toArray, List.set_cons_zero, List.set_cons_succ]
              refine wpAnyH_done (by kernel_rfl) ?_ _
              go_wp2_with fail
              go_roundg (gk - 1)
              case measure => omega
              case rel => exact HREL.out A6 c6 w6 HO6.out HG6.out
            · go_simp
              refine hK.out _ _ (by (try dsimp only); exact ⟨(hHeld.1.alloc _), (hHeld.2.1.alloc _), (hHeld.2.2.alloc _)⟩) (fun hHeld => ?_)
              clear hK K
              try simp only [Act.put, List.setIfInBounds_toArray, List.set_cons_zero, List.set_cons_succ]
              refine wpAnyH_ready (rs := [5]) (by kernel_rfl) (by simp) ?_
              refine AllReadyH.cons (o := ⟨_, _, _, _, _, _⟩) rfl (fun K hK => ?_) AllReadyH.nil
              go_simp
              refine hK.out _ _ (by (try dsimp only); assumption) (fun hHeld => ?_)
              clear hK K
              try simp only [Act.put, List.setIfInBounds_toArray, List.set_cons_zero, List.set_cons_succ]
              refine wpAnyH_ready (rs := [8]) (by kernel_rfl) (by simp) ?_
              refine AllReadyH.cons (o := ⟨_, _, _, _, _, _⟩) rfl (fun K hK => ?_) AllReadyH.nil
              refine step_append_own rfl (.tmp 29) (.tmp 31) 25 rfl (W.heap.size + 2) 58 iI zI 2 32 Tryz.underlying25 hiI hzI hz1I hz2I hzcI (by decide) (.slice A k c) k (itemCells l) (by simp [Act.eval]) HOW.out ⟨w5.heap.size, 0, none⟩ 1 1 [.string t1, .string t2] (by simp [Act.eval]) rfl HNW'.out (by intro u hu; simp only [List.mem_cons, List.not_mem_nil, or_false] at hu; rcases hu with rfl | rfl <;> rfl) (by unfold maxLen; omega) (by omega) HSZ.out ?_
              intro v6 w6 hown6 hgrow6 hnil6
              obtain ⟨A6, c6, rfl⟩ := own_slice hown6
              clear hnil6
              have S6 := HGR.out w6 hgrow6
              have z6 := S6.2.2.2.1.2
              have f6 := S6.2.2.2.2
              have HO6 := Lib.hid hown6
              have HG6 := Lib.hid hgrow6
              clear hown6 hgrow6
              refine hK.out _ _ (by (try dsimp only); exact ⟨S6.1, S6.2.1, S6.2.2.1⟩) (fun hHeld => ?_)
              clear hK K
              try simp only [Act.put, List.setIfInBounds_toArray, List.set_cons_zero, List.set_cons_succ]
              refine wpAnyH_take (i := 9) (oi := ⟨_, _, _, _, _, _⟩) (v := ?_) rfl (by kernel_rfl) (by kernel_rfl) (by kernel_rfl) (fun _ _ _ h => h) (Or.inl ⟨by rfl, ?_⟩) (by assumption) ?_
              rotate_left
              · (intro wS hSw; (try dsimp only at hSw); (obtain ⟨⟨_, q1⟩, ⟨_, q2⟩, ⟨_, q3⟩⟩ := hSw; go_simp <;> with_reducible rfl))
              try simp only [Act.put, List.setIfInBounds_toArray, List.set_cons_zero, List.set_cons_succ]
              refine wpAnyH_ready (rs := [10]) (by kernel_rfl) (by simp) ?_
              refine AllReadyH.cons (o := ⟨_, _, _, _, _, _⟩) rfl (fun K hK => ?_) AllReadyH.nil
              go_simp
              refine hK.out _ _ (by (try dsimp only); exact ⟨S6.1.set_ _ (by show W.heap.size ≠ b; omega), S6.2.1.set_ _ (by show wr.heap.size ≠ b; omega), S6.2.2.1.set_ _ (by show wr.heap.size ≠ b; omega)⟩) (fun hHeld => ?_)
              clear hK K
              try simp only [Act.put, List.setIfInBounds_toArray, List.set_cons_zero, List.set_cons_succ]
              refine wpAnyH_done (by kernel_rfl) ?_ _
              go_wp2_with fail
              go_roundg (gk - 1)
              case measure => omega
              case rel => exact HREL.out A6 c6 w6 HO6.out HG6.out

          · obtain rfl : k = n := by omega
            go_wp2
            go_quiet (fail)
            go_wp2
            go_ret
            obtain ⟨s1, s2, s3, s4, s5, s6', s7, s8, s9⟩ := HST.out
            rw [Nat.sub_self] at s2
            have e2 : itemsG k r = some (l, r') := by rw [s2]; simp [itemsG]
            refine ⟨true, some r', rfl, s4, s7.drewN nq, .inl ⟨⟨0, ByteArray.empty, l⟩, r', .slice A k c, ?_, rfl, rfl, s5, ?_⟩⟩
            · rw [getK, HO1.out]
              simp only
              rw [HN.out, if_pos hle, e2]; rfl
            · show (World.ownsRow _ _ _ 2 _ l.length (itemCells l))
              rw [s1]
              exact own_mono s6' (by omega)
        · go_wp2
          go_quiet (fail)
          go_wp2
          go_ret
          obtain ⟨s1, ⟨o', s2⟩, s3, A, k, c, s4⟩ := HNO.out
          refine ⟨false, o', rfl, s2, s3.drewN nq, .inr ⟨?_, rfl, .slice A k c, s4, A, k, c, rfl⟩⟩
          rw [getK, HO1.out]
          simp only
          rw [HN.out, if_pos hle, s1]; rfl
    · have hokf : ok = false := by rw [← HOK.out]; exact decide_eq_false (fun h => by omega)
      subst hokf
      go_loopg [6] 1 (fun gh s6 wx => gh = 1 ∧ s6 = .bool false ∧ wx = w1)
      case atStart => exact ⟨rfl, rfl, rfl⟩
      case round =>
        obtain ⟨_, rfl, rfl⟩ := hrel
        go_wp2
        go_quiet (fail)
        go_wp2
        go_ret
        refine ⟨false, some r, rfl, HK.out.1, HK2.out.1.drewN nq, .inr ⟨?_, rfl, .slice none 0 0, ?_, none, 0, 0, rfl⟩⟩
        · rw [getK, HO1.out]
          simp only
          rw [HN.out, if_neg hle]
        · rw [set_same hold]; exact HK2.out.2.1
end Go.Proofs.YtbnmddopgbhapaaGreat
