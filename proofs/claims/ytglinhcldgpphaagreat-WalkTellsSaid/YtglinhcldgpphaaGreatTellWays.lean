/-
  WalkTells: Ways over any way; the first so many of a list; the ways of nil.
-/
import Derived.Test.YtglinhcldgpphaaGreatWalkYields
import Derived.Test.YtglinhcldgpphaaGreatWalkProved
import Derived.Test.YtglinhcldgpphaaGreatAppendAny
import Derived.Laws.EntriesVeiled
namespace Go.Proofs.YtglinhcldgpphaaGreat
open Go.RowKit

theorem row_take {W : World} {A : Option Addr} {c : Nat} {l : List Item} (h : Row W (.slice A l.length c) l) (k : Nat) : Row W (.slice A (l.take k).length c) (l.take k) := by
  obtain ⟨h1, h2⟩ := h
  have hk : (l.take k).length ≤ l.length := by rw [List.length_take]; omega
  refine ⟨by rw [itemCells_length], ?_⟩
  rcases h2 with ⟨h3, h4⟩ | ⟨g, cap, cur, h3, h4, h5, h6, h7, h8, h9⟩
  · have e0 : (l.take k).length = 0 := by omega
    injection h3 with e1 _ e2
    exact .inl ⟨by rw [e0, e1, e2], e0⟩
  · injection h3 with e1 _ e2
    refine .inr ⟨g, cap, cur, by rw [e1, e2], h4, h5, by omega, h7, h8, ?_⟩
    have e : (cur.toList.take (l.length * 2)).take ((l.take k).length * 2) = cur.toList.take ((l.take k).length * 2) := by rw [List.take_take]; congr 1; omega
    rw [← e, h9, itemCells_take, List.length_take]
    congr 1
    rcases Nat.le_total k l.length with z | z
    · rw [Nat.min_eq_left z]
    · rw [Nat.min_eq_right z, List.take_of_length_le (Nat.le_refl _), List.take_of_length_le z]
set_option maxRecDepth 100000 in
theorem firstItems_any {W : World} {A : Option Addr} {c : Nat} {l : List Item} (h : Row W (.slice A l.length c) l) (m : Int) {k : Nat} (hk : (l.take m.toNat).length = k) {n : Nat} (hn : l.length = n) :
    Calls Tryz.prog 13 #[.slice A n c, .int .i64 m] W fun e w' => e = .returned (.slice A k c) ∧ w' = W := by
  rw [List.length_take, hn] at hk
  have hc : n ≤ c := hn ▸ h.cap
  obtain ⟨m1, hm1⟩ : ∃ x, (if m < 0 then (0 : Int) else m) = x := ⟨_, rfl⟩
  have hm2 : m1.toNat = m.toNat := by rw [← hm1]; split <;> omega
  rcases h.nilOr with ⟨h3, h4⟩ | ⟨q, rfl⟩
  · injection h3 with e1 _ e2
    subst e1 e2
    rw [hn] at h4
    subst h4
    have hk0 : k = 0 := by omega
    subst hk0
    go_enter Tryz.func13, Tryz.ntmps13
    go_wp2_with fail
    · go_ret
      exact ⟨rfl, rfl⟩
    · go_ret
      rw [show m.toNat = 0 by omega]
      exact ⟨rfl, rfl⟩
  · go_enter Tryz.func13, Tryz.ntmps13
    go_wp2_with fail
    · go_ret
      rw [show n = k by omega]
      exact ⟨rfl, rfl⟩
    · go_ret
      rw [show m.toNat = k by omega]
      exact ⟨rfl, rfl⟩
/-- what Ways knows between two items: its four variables, what was told till now -/
structure WY (N0 : Nat) (V : World) (bm bu bo bd : Nat) (most : Int) (xs : List Item) (b : Bool) (m : Nat) (A : Option Addr) (c : Nat) : Prop where
  vm : Var V bm (.int .i64 most)
  vu : Var V bu (.slice A m c)
  vo : Var V bo (.int .i64 0)
  vd : Var V bd (.bool b)
  row : V.ownsRow N0 59 2 (.slice A m c) m (itemCells (xs.take m))
  lo : bm < N0 ∧ bu < N0 ∧ bo < N0 ∧ bd < N0
  ne : bm ≠ bu ∧ bm ≠ bd ∧ bo ≠ bu ∧ bo ≠ bd ∧ bu ≠ bd
theorem WY.touch {N0 : Nat} {V V1 : World} {bm bu bo bd : Nat} {most : Int} {xs : List Item} {b : Bool} {m : Nat} {A : Option Addr} {c : Nat} {G : List Nat} (h : WY N0 V bm bu bo bd most xs b m A c) (t : Touch G V V1) (hn : ∀ q ∈ [bm, bu, bo, bd] ++ (Value.slice A m c).ownBlock.toList, q ∉ G) : WY N0 V1 bm bu bo bd most xs b m A c := by
  obtain ⟨h1, h2, h3, h4, h5, h6, h7⟩ := h
  exact ⟨h1.touch t (hn _ (by simp)), h2.touch t (hn _ (by simp)), h3.touch t (hn _ (by simp)), h4.touch t (hn _ (by simp)), t.row h5 (fun q hq => hn q (List.mem_append_right _ (by simp [hq]))), h6, h7⟩
theorem WY.lt {N0 : Nat} {V : World} {bm bu bo bd : Nat} {most : Int} {xs : List Item} {b : Bool} {m : Nat} {A : Option Addr} {c : Nat} (h : WY N0 V bm bu bo bd most xs b m A c) : ∀ q ∈ [bm, bu, bo, bd] ++ (Value.slice A m c).ownBlock.toList, q < V.heap.size := fun q hq => by
  rcases List.mem_append.1 hq with z | z
  · simp at z
    rcases z with rfl | rfl | rfl | rfl
    · exact h.vm.lt
    · exact h.vu.lt
    · exact h.vo.lt
    · exact h.vd.lt
  · exact (h.row.lt q (by simpa using z)).2
/-- an item more told -/
theorem WY.step {N0 : Nat} {V w3 : World} {bm bu bo bd : Nat} {most : Int} {xs : List Item} {m : Nat} {A A3 : Option Addr} {c c3 : Nat} {o : Obj} {x : Item} {b : Bool} (h : WY N0 V bm bu bo bd most xs false m A c) (hx : xs[m]? = some x)
    (ho : w3.ownsRow N0 59 2 (.slice A3 (m + 1) c3) (m + 1) (itemCells (xs.take m) ++ itemCells [x])) (hg : (V.alloc o).grownBy w3 (Value.slice A m c).ownBlock) (hs : SameOrNew (V.alloc o) (.slice A m c) (.slice A3 (m + 1) c3)) :
    WY N0 ((w3.setCell ⟨bu, 0, none⟩ (.slice A3 (m + 1) c3)).setCell ⟨bd, 0, none⟩ (.bool b)) bm bu bo bd most xs b (m + 1) A3 c3 ∧ Touch (bd :: bu :: (Value.slice A m c).ownBlock.toList) V ((w3.setCell ⟨bu, 0, none⟩ (.slice A3 (m + 1) c3)).setCell ⟨bd, 0, none⟩ (.bool b)) ∧ Var w3 bu (.slice A m c) ∧ Var w3 bd (.bool false) ∧ Var w3 bm (.int .i64 most) ∧
      ∀ q, (Value.slice A3 (m + 1) c3).ownBlock = some q → (Value.slice A m c).ownBlock = some q ∨ V.heap.size ≤ q := by
  obtain ⟨h1, h2, h3, h4, h5, h6, h7, h8, h9, h10, h11⟩ := h
  have t3 : Touch (Value.slice A m c).ownBlock.toList V w3 := ((Touch.refl _ V).alloc o).grown hg (fun k hk => .inl (by simp [hk]))
  have lo : ∀ q, q < N0 → q ∉ (Value.slice A m c).ownBlock.toList := fun q hq z => by
    have := (h5.lt q (by simpa using z)).1
    omega
  have k1 := h1.touch t3 (lo _ h6.1)
  have k2 := h2.touch t3 (lo _ h6.2.1)
  have k3 := h3.touch t3 (lo _ h6.2.2.1)
  have k4 := h4.touch t3 (lo _ h6.2.2.2)
  have t4 : Touch [bd, bu] w3 ((w3.setCell ⟨bu, 0, none⟩ (.slice A3 (m + 1) c3)).setCell ⟨bd, 0, none⟩ (.bool b)) := ((Touch.refl _ _).set (.inl (by simp)) _).set (.inl (by simp)) _
  refine ⟨⟨(k1.other h7 _ _).other h8 _ _, (k2.set _).other h11 _ _, (k3.other h9 _ _).other h10 _ _, (k4.other (fun e => h11 e.symm) _ _).set _, ?_, h6, h7, h8, h9, h10, h11⟩, ?_, k2, k4, k1, fun q hq => ?_⟩
  · have e : xs.take (m + 1) = xs.take m ++ [x] := by rw [List.take_add_one, hx]; rfl
    rw [e, itemCells_append]
    refine t4.row ho (fun q hq z => ?_)
    have := (ho.lt q hq).1
    simp at z
    omega
  · exact ((t3.mono (fun q hq => by simp [hq])).set (.inl (by simp)) _).set (.inl (by simp)) _
  · rcases hs q hq with y | y
    · exact .inl y
    · simp at y
      exact .inr (by omega)

set_option maxRecDepth 100000 in
set_option maxHeartbeats 8000000 in
theorem ways1_any {N0 : Nat} {V : World} {bm bu bo bd : Nat} {most : Int} {xs : List Item} {m : Nat} {A : Option Addr} {c : Nat} (h : WY N0 V bm bu bo bd most xs false m A c) (hN0 : N0 ≤ V.heap.size) {xk xv : ByteArray} (hx : xs[m]? = some (xk, xv)) (hm : m ≤ 400) {b : Bool} (hb : decide (most ≤ ((m : Int) + 1)) = b) :
    Calls Tryz.prog 35 #[.string xk, .string xv, .pointer (some ⟨bd, 0, none⟩), .pointer (some ⟨bo, 0, none⟩), .pointer (some ⟨bu, 0, none⟩), .pointer (some ⟨bm, 0, none⟩)] V fun e w' =>
      e = .returned (.bool (!b)) ∧ ∃ A3 c3, WY N0 w' bm bu bo bd most xs b (m + 1) A3 c3 ∧ Touch (bd :: bu :: (Value.slice A m c).ownBlock.toList) V w' ∧ ∀ q, (Value.slice A3 (m + 1) c3).ownBlock = some q → (Value.slice A m c).ownBlock = some q ∨ V.heap.size ≤ q := by
  obtain ⟨i0, hi0, hz0, hs0, hb0⟩ := infoItems
  have HX := Lib.hid hx
  have H := Lib.hid h
  have HR := Lib.hid h.row
  have a0 := h.vd.val
  have a1 := h.vu.val
  have n1 := h.ne.2.2.2.2
  have n2 : bd ≠ bu := fun e => n1 e.symm
  have n3 := h.ne.1
  have n4 : bu ≠ bm := fun e => n3 e.symm
  clear h hx
  go_enter Tryz.func35, Tryz.ntmps35
  go_wp2_with (at_builtin; refine wpList_append_any rfl (.tmp 12) (.tmp 16) 22 rfl N0 59 i0 (.agg #[.string ⟨#[]⟩, .string ⟨#[]⟩]) 2 32 Tryz.underlying22 hi0 hz0 hs0 hb0 rfl (by decide) (.slice A m c) m (itemCells (xs.take m)) rfl (HR.out.alloc _) (.slice (some ⟨V.heap.size, 0, none⟩) 1 1) 1 (itemCells [(xk, xv)]) rfl (item_src _ _ xk xv (heap_alloc_new _ _)) (items_one _) (by unfold maxLen; omega) (by omega) (by simp; omega) ?_; intro A3 c3 w3 ho3 hg3 hs3; obtain ⟨hw3, ht3, hv3, hd3, hm3, hb3⟩ := H.out.step (b := b) HX.out ho3 hg3 hs3; have e1 := hv3.val; have e2 := hv3.free; have e3 := hd3.val; have e4 := hd3.free; have e5 := hm3.val; have HW3 := Lib.hid hw3; have HT3 := Lib.hid ht3; have HB3 := Lib.hid hb3; clear ho3 hg3 hs3 hw3 ht3 hv3 hd3 hm3 hb3)
  go_ret
  exact ⟨rfl, A3, c3, HW3.out, HT3.out, HB3.out⟩

set_option maxRecDepth 100000 in
set_option maxHeartbeats 8000000 in
theorem ways_any {W : World} {i : Nat} {lb : Array Value} {xs : List Item} (hi : ∀ a w, (callFunc i a).run Tryz.prog w = .ok (.enter i a) w) {B : List Nat} (hB : ∀ q ∈ B, q < W.heap.size) (hw : ∀ V, Below W.heap.size W V → WayIn i lb xs B V) (hx : xs.length ≤ 400) (most : Int) (h1 : 1 ≤ most) {k : Nat} (hk : (xs.take most.toNat).length = k) :
    Calls Tryz.prog 11 #[.func (.func i) #[] lb, .int .i64 most] W fun e w' => ∃ A c, e = .returned (.tuple #[.slice A k c, .int .i64 0]) ∧ Row w' (.slice A k c) (xs.take most.toNat) ∧ Below W.heap.size W w' := by
  have hne : ∀ w, (binOp .eql 41 (.func (.func i) #[] lb) .nilFunc).run Tryz.prog w = .ok (.bool false) w := fun w => run_eql_func w _ _ _ _ Tryz.underlying41
  have HWAY : Hid (∀ V, Below W.heap.size W V → V.heap.size = W.heap.size + 4 → WY V.heap.size V W.heap.size (W.heap.size + 1) (W.heap.size + 1 + 1) (W.heap.size + 1 + 1 + 1) most xs false 0 none 0 → Calls Tryz.prog i (#[.func (.func 35) #[] #[.pointer (some ⟨W.heap.size + 1 + 1 + 1, 0, none⟩), .pointer (some ⟨W.heap.size + 1 + 1, 0, none⟩), .pointer (some ⟨W.heap.size + 1, 0, none⟩), .pointer (some ⟨W.heap.size, 0, none⟩)]] ++ lb) V fun e w' => e = .returned (.tuple #[]) ∧ Below W.heap.size W w' ∧ ∃ A c, Var w' (W.heap.size + 1) (.slice A k c) ∧ Var w' (W.heap.size + 1 + 1) (.int .i64 0) ∧ Row w' (.slice A k c) (xs.take most.toNat)) := by
    intro V hV hs hWY
    refine (hw V hV (.func 35) #[] #[.pointer (some ⟨W.heap.size + 1 + 1 + 1, 0, none⟩), .pointer (some ⟨W.heap.size + 1 + 1, 0, none⟩), .pointer (some ⟨W.heap.size + 1, 0, none⟩), .pointer (some ⟨W.heap.size, 0, none⟩)]
      (fun m U Y => ∃ A c, Y = [W.heap.size, W.heap.size + 1, W.heap.size + 1 + 1, W.heap.size + 1 + 1 + 1] ++ (Value.slice A m c).ownBlock.toList ∧ WY V.heap.size U W.heap.size (W.heap.size + 1) (W.heap.size + 1 + 1) (W.heap.size + 1 + 1 + 1) most xs false m A c ∧ (m : Int) < most ∧ V.heap.size ≤ U.heap.size)
      (fun U Y => ∃ A c m, Y = [W.heap.size, W.heap.size + 1, W.heap.size + 1 + 1, W.heap.size + 1 + 1 + 1] ++ (Value.slice A m c).ownBlock.toList ∧ WY V.heap.size U W.heap.size (W.heap.size + 1) (W.heap.size + 1 + 1) (W.heap.size + 1 + 1 + 1) most xs true m A c ∧ (m : Int) = most ∧ m ≤ xs.length)
      [W.heap.size, W.heap.size + 1, W.heap.size + 1 + 1, W.heap.size + 1 + 1 + 1] (by simp; omega) ⟨none, 0, by simp [Value.ownBlock], hWY, by omega, Nat.le_refl _⟩ ?_ ?_ ?_).mono ?_
    · rintro m U U1 Y G ⟨A, c, rfl, g1, g2, g3⟩ t hn
      exact ⟨A, c, rfl, g1.touch t hn, g2, Nat.le_trans g3 t.size⟩
    · rintro U U1 Y G ⟨A, c, m, rfl, g1, g2⟩ t hn
      exact ⟨A, c, m, rfl, g1.touch t hn, g2⟩
    · rintro m ⟨xk, xv⟩ U Y hxm ⟨A, c, rfl, g1, g2, g3⟩ hY
      have hml := (List.getElem?_eq_some_iff.1 hxm).1
      refine YV.own (enters_of Tryz.func35 (by kernel_rfl) rfl) ((ways1_any g1 g3 hxm (by omega) rfl).mono ?_)
      rintro e w' ⟨rfl, A3, c3, k1, k2, k3⟩
      have hLeft : Left B ([W.heap.size, W.heap.size + 1, W.heap.size + 1 + 1, W.heap.size + 1 + 1 + 1] ++ (Value.slice A m c).ownBlock.toList) U w' ([W.heap.size, W.heap.size + 1, W.heap.size + 1 + 1, W.heap.size + 1 + 1 + 1] ++ (Value.slice A3 (m + 1) c3).ownBlock.toList) := by
        refine ⟨⟨_, k2, fun q hq => ?_⟩, fun q hq => ⟨k1.lt q hq, ?_⟩⟩
        · have hin : q ∈ [W.heap.size, W.heap.size + 1, W.heap.size + 1 + 1, W.heap.size + 1 + 1 + 1] ++ (Value.slice A m c).ownBlock.toList := by
            rcases List.mem_cons.1 hq with rfl | z
            · simp
            · rcases List.mem_cons.1 z with rfl | z
              · simp
              · exact List.mem_append_right _ z
          refine ⟨hin, fun hb => ?_⟩
          have h1 := hB q hb
          rcases List.mem_append.1 hin with z | z
          · simp at z; omega
          · have := (g1.row.lt q (by simpa using z)).1; omega
        · rcases List.mem_append.1 hq with z | z
          · exact .inl (List.mem_append_left _ z)
          · exact (k3 q (Option.mem_toList.1 z)).imp (fun y => List.mem_append_right _ (Option.mem_toList.2 y)) id
      refine ⟨_, hLeft, ?_⟩
      by_cases he : most ≤ (m : Int) + 1
      · have hd : decide (most ≤ (m : Int) + 1) = true := by simpa using he
        rw [hd] at k1 ⊢
        exact .inr ⟨rfl, A3, c3, m + 1, rfl, k1, by omega, by omega⟩
      · have hd : decide (most ≤ (m : Int) + 1) = false := by simpa using he
        rw [hd] at k1 ⊢
        exact .inl ⟨rfl, A3, c3, rfl, k1, by omega, Nat.le_trans g3 k2.size⟩
    · have fin : ∀ (w' : World) (Y : List Nat) (A : Option Addr) (c m : Nat) (b : Bool), Left B [W.heap.size, W.heap.size + 1, W.heap.size + 1 + 1, W.heap.size + 1 + 1 + 1] V w' Y → WY V.heap.size w' W.heap.size (W.heap.size + 1) (W.heap.size + 1 + 1) (W.heap.size + 1 + 1 + 1) most xs b m A c → xs.take m = xs.take most.toNat → m ≤ xs.length → Below W.heap.size W w' ∧ ∃ A c, Var w' (W.heap.size + 1) (.slice A k c) ∧ Var w' (W.heap.size + 1 + 1) (.int .i64 0) ∧ Row w' (.slice A k c) (xs.take most.toNat) := by
        intro w' Y A c m b hL g1 e hm
        have hmk : m = k := by rw [← hk, ← e, List.length_take]; omega
        refine ⟨Left.new hV hL (by simp; omega), A, c, hmk ▸ g1.vu, g1.vo, ?_⟩
        have z := own_mono g1.row (Nat.zero_le _)
        rw [e] at z
        rw [hmk] at z
        show w'.ownsRow 0 _ 2 _ _ _
        rw [hk]
        exact z
      rintro e w' ⟨rfl, Y, hL, (⟨A, c, -, g1, g2, -⟩ | ⟨A, c, m, -, g1, g2, g3⟩)⟩
      · refine ⟨rfl, fin w' Y A c _ _ hL g1 ?_ (Nat.le_refl _)⟩
        rw [List.take_of_length_le (Nat.le_refl _), List.take_of_length_le (by omega)]
      · exact ⟨rfl, fin w' Y A c m _ hL g1 (by rw [← g2]; rfl) g3⟩
  have he := hi
  clear hw hx hi hB h1 hk
  go_enter Tryz.func11, Tryz.ntmps11
  go_upto_region 6 with (refine (HWAY.out _ (by exact ((((Below.refl _ W).alloc (Nat.le_refl _) _).alloc (by simp only [World.size_alloc]; omega) _).alloc (by simp only [World.size_alloc]; omega) _).alloc (by simp only [World.size_alloc]; omega) _) (by simp) ⟨⟨by go_simp, by go_simp⟩, ⟨by go_simp, by go_simp⟩, ⟨by go_simp, by go_simp⟩, ⟨by go_simp, by go_simp⟩, World.ownsRow_nil _ _ _ _, by simp; omega, by omega⟩).mono ?_; rintro e w2 ⟨rfl, b2, A, c, u1, u2, r⟩)
  have HS : Hid ((fun w' => w'.cell? ⟨W.heap.size + 1, 0, none⟩ = some (.slice A k c) ∧ w'.cell? ⟨W.heap.size + 1 + 1, 0, none⟩ = some (.int .i64 0)) w2.drew) := ⟨u1.val, u2.val⟩
  refine wp_region_held_drew (S := (fun w' => w'.cell? ⟨W.heap.size + 1, 0, none⟩ = some (.slice A k c) ∧ w'.cell? ⟨W.heap.size + 1 + 1, 0, none⟩ = some (.int .i64 0))) (by kernel_rfl) ?_ (fun hHeld => ?_)
  · (try dsimp only); exact HS.out
  refine wpAnyH_take (i := 0) (oi := ⟨_, _, _, _, _, _⟩) (v := ?_) rfl (by kernel_rfl) (by kernel_rfl) (by kernel_rfl) (fun _ _ _ h => h) (Or.inl ⟨by rfl, ?_⟩) (by assumption) ?_
  rotate_left
  · (intro wS hSw; (try dsimp only at hSw); go_simp <;> with_reducible rfl)
  try simp only [Act.put, List.setIfInBounds_toArray, List.set_cons_zero, List.set_cons_succ]
  refine wpAnyH_take (i := 1) (oi := ⟨_, _, _, _, _, _⟩) (v := ?_) rfl (by kernel_rfl) (by kernel_rfl) (by kernel_rfl) (fun _ _ _ h => h) (Or.inl ⟨by rfl, ?_⟩) (by assumption) ?_
  rotate_left
  · (intro wS hSw; (try dsimp only at hSw); go_simp <;> with_reducible rfl)
  try simp only [Act.put, List.setIfInBounds_toArray, List.set_cons_zero, List.set_cons_succ]
  refine wpAnyH_take (i := 2) (oi := ⟨_, _, _, _, _, _⟩) (v := ?_) rfl (by kernel_rfl) (by kernel_rfl) (by kernel_rfl) (fun _ _ _ h => h) (Or.inl ⟨by rfl, ?_⟩) (by assumption) ?_
  rotate_left
  · (intro wS hSw; (try dsimp only at hSw); go_simp <;> with_reducible rfl)
  try simp only [Act.put, List.setIfInBounds_toArray, List.set_cons_zero, List.set_cons_succ]
  refine wpAnyH_take (i := 3) (oi := ⟨_, _, _, _, _, _⟩) (v := ?_) rfl (by kernel_rfl) (by kernel_rfl) (by kernel_rfl) (fun _ _ _ h => h) (Or.inl ⟨by rfl, ?_⟩) (by assumption) ?_
  rotate_left
  · (intro wS hSw; (try dsimp only at hSw); go_simp <;> with_reducible rfl)
  try simp only [Act.put, List.setIfInBounds_toArray, List.set_cons_zero, List.set_cons_succ]
  refine wpAnyH_done (by kernel_rfl) ?_ _
  go_wp2_with fail
  exact bodyPost_ret (v := .tuple #[.slice A k c, .int .i64 0]) (by simp [results, Tryz.results11, go_sem]) rfl ⟨A, c, rfl, (Touch.refl [] w2).drew.row r (by simp), acc b2 (Below.refl _ _).drew⟩
end Go.Proofs.YtglinhcldgpphaaGreat
