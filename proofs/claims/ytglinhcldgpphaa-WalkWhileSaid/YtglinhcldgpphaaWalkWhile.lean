/-
  What WalkWhile hands to the way through all items: at one of them it puts an item into the shelf, and takes the last one away.
  The walk of WalkWhile over ShelfLaws and WalkLaws. (Written by tools/genWWhi.py.)
  WalkWhile: the way through all items with its closure, and the statement's walk. (Written by tools/genWWh2.py.)
-/
import Derived.Test.YtglinhcldgpphaaWalkYields
import Derived.Test.YtglinhcldgpphaaAppendAny
import Derived.Test.YtglinhcldgpphaaShelfItems
import Derived.Test.YtglinhcldgpphaaWalkLawC
namespace Go.Proofs.Ytglinhcldgpphaa
open Go.RowKit

theorem RS.keep {W W1 : World} {g : Nat} {F G : List Nat} {most : Int} {l : List Item} (h : RS W g F most l) (t : Touch G W W1) (h1 : g ∉ G) (h2 : ∀ q ∈ F, q ∉ G) : RS W1 g F most l := h.touch t h1 h2
/-- the caller's world: the shelf, the document's list, six variables, what was told till now -/
structure WH (SH : ShP) (N0 : Nat) (V : World) (gs gr : Nat) (Fr : List Nat) (l : List Item) (bn ba bs bm br bo : Nat) (at_ : Int) (more : ByteArray) (m : Nat) (F : List Nat) (A : Option Addr) (c : Nat) : Prop where
  sh : ∃ l', SH V gs 200 l' F
  rs : RS V gr Fr 200 l
  vn : Var V bn (.int .i64 (m : Nat))
  va : Var V ba (.int .i64 at_)
  vs : Var V bs (.pointer (some ⟨gs, 0, none⟩))
  vm : Var V bm (.string more)
  vr : Var V br (.pointer (some ⟨gr, 0, none⟩))
  vo : Var V bo (.slice A m c)
  row : V.ownsRow N0 32 2 (.slice A m c) m (itemCells (l.take m))
  nF : ∀ q ∈ [bn, ba, bs, bm, br, bo, gr] ++ Fr, q ∉ F
  lo : ∀ q ∈ [bn, ba, bs, bm, br, bo, gr] ++ Fr, q < N0
  oF : ∀ q, (Value.slice A m c).ownBlock = some q → q ∉ F
  ne : bn ≠ bo ∧ ∀ q ∈ [ba, bs, bm, br, gr] ++ Fr, q ≠ bn ∧ q ≠ bo
/-- one that was touched in blocks that are none of these -/
theorem WH.touch {SH : ShP} (L : ShelfLaws SH) {N0 : Nat} {V V1 : World} {gs gr : Nat} {Fr : List Nat} {l : List Item} {bn ba bs bm br bo : Nat} {at_ : Int} {more : ByteArray} {m : Nat} {F : List Nat} {A : Option Addr} {c : Nat} {G : List Nat}
    (h : WH SH N0 V gs gr Fr l bn ba bs bm br bo at_ more m F A c) (t : Touch G V V1) (hn : ∀ q ∈ [bn, ba, bs, bm, br, bo, gr] ++ Fr ++ F ++ (Value.slice A m c).ownBlock.toList, q ∉ G) : WH SH N0 V1 gs gr Fr l bn ba bs bm br bo at_ more m F A c := by
  obtain ⟨⟨l', h1⟩, h2, h3, h4, h5, h6, h7, h8, h9, h10, h11, h12, h13⟩ := h
  have g : ∀ q ∈ [bn, ba, bs, bm, br, bo, gr] ++ Fr, q ∉ G := fun q hq => hn q (by rw [List.append_assoc]; exact List.mem_append_left _ hq)
  exact ⟨⟨l', L.touch h1 t (fun q hq => hn q (List.mem_append_left _ (List.mem_append_right _ hq)))⟩, h2.keep t (g _ (by simp)) (fun q hq => g q (List.mem_append_right _ hq)), h3.touch t (g _ (by simp)), h4.touch t (g _ (by simp)), h5.touch t (g _ (by simp)), h6.touch t (g _ (by simp)), h7.touch t (g _ (by simp)), h8.touch t (g _ (by simp)),
    t.row h9 (fun q hq => hn q (List.mem_append_right _ (by simp [hq]))), h10, h11, h12, h13⟩
/-- the shelf written to -/
theorem WH.shelf {SH : ShP} {N0 : Nat} {V V1 : World} {gs gr : Nat} {Fr : List Nat} {l l1 : List Item} {bn ba bs bm br bo : Nat} {at_ : Int} {more : ByteArray} {m : Nat} {F F1 : List Nat} {A : Option Addr} {c : Nat}
    (h : WH SH N0 V gs gr Fr l bn ba bs bm br bo at_ more m F A c) (t : Touch F V V1) (hs : SH V1 gs 200 l1 F1) (hF : ∀ q ∈ F1, q ∈ F ∨ V.heap.size ≤ q) : WH SH N0 V1 gs gr Fr l bn ba bs bm br bo at_ more m F1 A c := by
  obtain ⟨-, h2, h3, h4, h5, h6, h7, h8, h9, h10, h11, h12, h13⟩ := h
  have old : ∀ q, q < V.heap.size → q ∉ F → q ∉ F1 := fun q h1 h2 h3 => by
    rcases hF q h3 with z | z
    · exact h2 z
    · omega
  refine ⟨⟨l1, hs⟩, h2.keep t (h10 _ (by simp)) (fun q hq => h10 q (List.mem_append_right _ hq)), h3.touch t (h10 _ (by simp)), h4.touch t (h10 _ (by simp)), h5.touch t (h10 _ (by simp)), h6.touch t (h10 _ (by simp)), h7.touch t (h10 _ (by simp)), h8.touch t (h10 _ (by simp)),
    t.row h9 (fun q hq => h12 q hq), fun q hq => old q ?_ (h10 q hq), h11, fun q hq => old q (h9.lt q hq).2 (h12 q hq), h13⟩
  rcases List.mem_append.1 hq with z | z
  · simp at z
    rcases z with rfl | rfl | rfl | rfl | rfl | rfl | rfl
    · exact h3.lt
    · exact h4.lt
    · exact h5.lt
    · exact h6.lt
    · exact h7.lt
    · exact h8.lt
    · exact rs_ltg h2
  · exact rs_ltF h2 q z
/-- an item more told -/
theorem WH.step {SH : ShP} (L : ShelfLaws SH) {N0 : Nat} {V w3 : World} {gs gr : Nat} {Fr : List Nat} {l : List Item} {bn ba bs bm br bo : Nat} {at_ : Int} {more : ByteArray} {m : Nat} {F : List Nat} {A A3 : Option Addr} {c c3 : Nat} {o : Obj} {x : Item} {u : Value}
    (h : WH SH N0 V gs gr Fr l bn ba bs bm br bo at_ more m F A c) (hu : u = .int .i64 ((m + 1 : Nat) : Int)) (hx : l[m]? = some x) (hF : ∀ q ∈ F, q < V.heap.size)
    (ho : w3.ownsRow N0 32 2 (.slice A3 (m + 1) c3) (m + 1) (itemCells (l.take m) ++ itemCells [x])) (hg : ((V.setCell ⟨bn, 0, none⟩ u).alloc o).grownBy w3 (Value.slice A m c).ownBlock) (hs : SameOrNew ((V.setCell ⟨bn, 0, none⟩ u).alloc o) (.slice A m c) (.slice A3 (m + 1) c3)) :
    WH SH N0 (w3.setCell ⟨bo, 0, none⟩ (.slice A3 (m + 1) c3)) gs gr Fr l bn ba bs bm br bo at_ more (m + 1) F A3 c3 ∧ Touch (bn :: bo :: (Value.slice A m c).ownBlock.toList) V (w3.setCell ⟨bo, 0, none⟩ (.slice A3 (m + 1) c3)) ∧ Var w3 bo (.slice A m c) ∧ Var w3 bn u ∧
      ∀ q, (Value.slice A3 (m + 1) c3).ownBlock = some q → (Value.slice A m c).ownBlock = some q ∨ V.heap.size ≤ q := by
  obtain ⟨⟨l', h1⟩, h2, h3, h4, h5, h6, h7, h8, h9, h10, h11, h12, h13⟩ := h
  have e1 : (V.setCell ⟨bn, 0, none⟩ u).heap.size = V.heap.size := by simp [World.setCell]
  have t3 : Touch (bn :: (Value.slice A m c).ownBlock.toList) V w3 := (((Touch.refl _ V).set (.inl (by simp)) u).alloc o).grown hg (fun k hk => .inl (by simp [hk]))
  have hob : ∀ q, (Value.slice A m c).ownBlock = some q → N0 ≤ q := fun q hq => (h9.lt q hq).1
  have lo : ∀ q ∈ [bn, ba, bs, bm, br, bo, gr] ++ Fr, q ∉ (Value.slice A m c).ownBlock.toList := fun q hq z => by
    have := hob q (by simpa using z)
    have := h11 q hq
    omega
  have n3 : ∀ q ∈ [ba, bs, bm, br, gr] ++ Fr, q ∉ bn :: (Value.slice A m c).ownBlock.toList := fun q hq z => by
    rcases List.mem_cons.1 z with y | y
    · exact (h13.2 q hq).1 y
    · refine lo q ?_ y
      rcases List.mem_append.1 hq with x | x
      · simp at x
        rcases x with rfl | rfl | rfl | rfl | rfl <;> simp
      · exact List.mem_append_right _ x
  have n4 : ∀ q ∈ [ba, bs, bm, br, gr] ++ Fr, q ∉ [bo] := fun q hq z => by simp at z; exact (h13.2 q hq).2 z
  have t4 : Touch [bo] w3 (w3.setCell ⟨bo, 0, none⟩ (.slice A3 (m + 1) c3)) := (Touch.refl _ _).set (.inl (by simp)) _
  have vo3 : Var w3 bo (.slice A m c) := h8.touch t3 (fun z => by
    rcases List.mem_cons.1 z with y | y
    · exact h13.1 y.symm
    · exact lo bo (by simp) y)
  have vn3 : Var w3 bn u := ((h3.set u).old o).touch (G := (Value.slice A m c).ownBlock.toList) ((Touch.refl _ _).grown hg (fun k hk => .inl (by simp [hk]))) (lo bn (by simp))
  have hblk : ∀ q, (Value.slice A3 (m + 1) c3).ownBlock = some q → (Value.slice A m c).ownBlock = some q ∨ V.heap.size ≤ q := fun q hq => by
    rcases hs q hq with y | y
    · exact .inl y
    · simp [e1] at y
      exact .inr (by omega)
  have hb : ∀ q, (Value.slice A3 (m + 1) c3).ownBlock = some q → q ∉ [bo] := fun q hq z => by
    have := (ho.lt q hq).1
    have := h11 bo (by simp)
    simp at z
    omega
  refine ⟨⟨⟨l', L.touch (L.touch h1 t3 (fun q hq z => ?_)) t4 (fun q hq z => ?_)⟩, (h2.keep t3 (n3 _ (by simp)) (fun q hq => n3 q (List.mem_append_right _ hq))).keep t4 (n4 _ (by simp)) (fun q hq => n4 q (List.mem_append_right _ hq)),
    by rw [← hu]; exact vn3.touch t4 (by simpa using h13.1), (h4.touch t3 (n3 _ (by simp))).touch t4 (n4 _ (by simp)), (h5.touch t3 (n3 _ (by simp))).touch t4 (n4 _ (by simp)), (h6.touch t3 (n3 _ (by simp))).touch t4 (n4 _ (by simp)), (h7.touch t3 (n3 _ (by simp))).touch t4 (n4 _ (by simp)), vo3.set _, ?_, h10, h11, fun q hq z => ?_, h13⟩,
    (t3.mono (fun q hq => by rcases List.mem_cons.1 hq with y | y; simp [y]; simp [y])).set (.inl (by simp)) _, vo3, vn3, hblk⟩
  · rcases List.mem_cons.1 z with y | y
    · exact h10 bn (by simp) (y ▸ hq)
    · exact h12 q (by simpa using y) hq
  · simp at z
    exact h10 bo (by simp) (z ▸ hq)
  · have e : l.take (m + 1) = l.take m ++ [x] := by rw [List.take_add_one, hx]; rfl
    rw [e, itemCells_append]
    exact t4.row ho hb
  · rcases hblk q hq with y | y
    · exact h12 q y z
    · have := hF q z
      omega
end Go.Proofs.Ytglinhcldgpphaa
namespace Go.Proofs.Ytglinhcldgpphaa
open Go.RowKit

set_option maxRecDepth 100000 in
set_option maxHeartbeats 8000000 in
theorem while_any {SH : ShP} (L : ShelfLaws SH) {N0 : Nat} {V : World} {gs gr : Nat} {Fr : List Nat} {l : List Item} {bn ba bs bm br bo : Nat} {at_ : Int} {more : ByteArray} {m : Nat} {F0 : List Nat} {A : Option Addr} {c : Nat}
    (h : WH SH N0 V gs gr Fr l bn ba bs bm br bo at_ more m F0 A c) (hN0 : N0 ≤ V.heap.size) (hmore : more.size ≤ maxLen) {xk xv : ByteArray} (hx : l[m]? = some (xk, xv)) (hl : l.length ≤ 60) :
    Calls Try.prog 22 #[.string xk, .string xv, .pointer (some ⟨bn, 0, none⟩), .pointer (some ⟨ba, 0, none⟩), .pointer (some ⟨bs, 0, none⟩), .pointer (some ⟨bm, 0, none⟩), .pointer (some ⟨br, 0, none⟩), .pointer (some ⟨bo, 0, none⟩)] V fun e w' =>
      e = .returned (.bool true) ∧ ∃ F3 A3 c3, WH SH N0 w' gs gr Fr l bn ba bs bm br bo at_ more (m + 1) F3 A3 c3 ∧ Touch (F0 ++ bn :: bo :: (Value.slice A m c).ownBlock.toList) V w' ∧ (∀ q ∈ F3, q ∈ F0 ∨ V.heap.size ≤ q) ∧ ∀ q, (Value.slice A3 (m + 1) c3).ownBlock = some q → (Value.slice A m c).ownBlock = some q ∨ V.heap.size ≤ q := by
  obtain ⟨i0, hi0, hz0, hs0, hb0⟩ := infoItems
  have hm60 : m < 60 := by have := (List.getElem?_eq_some_iff.1 hx).1; omega
  have HX := Lib.hid hx
  have HM := Lib.hid hmore
  have HN00 := Lib.hid hN0
  have a0 := h.vn.val
  have a1 := h.va.val
  have lim : decide ((m : Int) + 1 < 500) = true := by simp; omega
  by_cases he : (m : Int) = at_
  · have t1 : ((m : Int) == at_) = true := by simpa using he
    have a2 := h.vs.val
    have a3 := h.vm.val
    obtain ⟨len, hlen⟩ : ∃ x, l.length = x := ⟨_, rfl⟩
    obtain ⟨j, hj⟩ : ∃ j, l.length = j + 1 := ⟨l.length - 1, by have := (List.getElem?_eq_some_iff.1 hx).1; omega⟩
    have HLL := Lib.hid hl
    have HJ := Lib.hid hj
    obtain ⟨l0, sh0⟩ := h.sh
    have HSP := Lib.hid sh0
    have H0 := Lib.hid h
    clear h hx hl hlen hj he sh0 hmore hN0
    go_enter Try.func22, Try.ntmps22
    go_upto_region 3 with (go_at_call 23; (with_reducible refine (L.put more ⟨#[110, 101, 119]⟩ HSP.out HM.out (by unfold maxLen; simp [ByteArray.size])).mono ?_); rintro e V1 ⟨rfl, F1, sh1, t1', n1⟩; have HSH1 := Lib.hid sh1; have HT1 := Lib.hid t1'; have HN1 := Lib.hid n1; clear sh1 t1' n1)
    have h1 := H0.out.shelf HT1.out HSH1.out HN1.out
    have H1 := Lib.hid h1
    obtain ⟨LA, lc, ⟨hg1, -, hg3, -, -⟩, hrow, hin, -⟩ := h1.rs
    rw [HJ.out] at hg3
    obtain ⟨lq, rfl⟩ := hrow.atBlock (by rw [HJ.out]; omega)
    obtain ⟨kl, hkl⟩ : ∃ x, (l[j]'(by rw [HJ.out]; omega)).1 = x := ⟨_, rfl⟩
    have ck := (hrow.cellAt (j * 2) (by rw [HJ.out]; omega)).trans (itemCells_get0 l j (by rw [HJ.out]; omega))
    rw [hkl] at ck
    have hlq : lq ∈ Fr := hin lq rfl
    have b2 := h1.vs.val
    have b4 := h1.vr.val
    have HS4 : Hid (∀ w', Touch F1 V1 w' → w'.cell? ⟨bs, 0, none⟩ = some (.pointer (some ⟨gs, 0, none⟩)) ∧ w'.cell? ⟨br, 0, none⟩ = some (.pointer (some ⟨gr, 0, none⟩)) ∧ w'.cell? ⟨gr, 1, none⟩ = some (.slice (some ⟨lq, 0, none⟩) (j + 1) lc) ∧ w'.cell? ⟨lq, j * 2, none⟩ = some (.string kl)) := fun w' t => ⟨(h1.vs.touch t (h1.nF _ (by simp))).val, (h1.vr.touch t (h1.nF _ (by simp))).val, (t.cell (p := ⟨gr, 1, none⟩) hg1 (h1.nF gr (by simp))).trans hg3, (t.cell (p := ⟨lq, j * 2, none⟩) (hrow.lt lq rfl).2 (h1.nF lq (List.mem_append_right _ hlq))).trans ck⟩
    have hj60 : j < 60 := by have := HJ.out; have := HLL.out; omega
    have hjw : IntKind.i64.wrap (j : Int) = (j : Int) := by rw [IntKind.wrap_i64]; omega
    have hpos : decide ((0 : Int) < (j : Int) + 1) = true := by rw [decide_eq_true_iff]; omega
    have hjl : (j : Int) < (j : Int) + 1 := by omega
    clear a0 a1 a2 a3 ck hrow hin hlq hkl t1 h1
    go_upto_region 4 with fail
    have HSD : Hid (SH V1.drew gs 200 (putS 200 l0 more ⟨#[110, 101, 119]⟩) F1) := L.touch HSH1.out ((Touch.refl [] V1).drew) (by simp)
    have ht0 : Touch F1 V1 V1.drew := (Touch.refl _ _).drew
    clear b2 b4 hg3
    · skip
      refine wp_region_held_drew (S := (fun w' => w'.cell? ⟨bs, 0, none⟩ = some (.pointer (some ⟨gs, 0, none⟩)) ∧ w'.cell? ⟨br, 0, none⟩ = some (.pointer (some ⟨gr, 0, none⟩)) ∧ w'.cell? ⟨gr, 1, none⟩ = some (.slice (some ⟨lq, 0, none⟩) (j + 1) lc) ∧ w'.cell? ⟨lq, j * 2, none⟩ = some (.string kl))) (by kernel_rfl) ?_ (fun hHeld => ?_)
      · (try dsimp only); (first | assumption | exact HS4.out _ (by assumption))
      refine wpAnyH_take (i := 0) (oi := ⟨_, _, _, _, _, _⟩) (v := ?_) rfl (by kernel_rfl) (by kernel_rfl) (by kernel_rfl) (fun _ _ _ h => h) (Or.inl ⟨by rfl, ?_⟩) (by assumption) ?_
      rotate_left
      · (intro wS hSw; (try dsimp only at hSw); go_simp <;> with_reducible rfl)
      try simp only [Act.put, List.setIfInBounds_toArray, List.set_cons_zero, List.set_cons_succ]
      refine wpAnyH_take (i := 1) (oi := ⟨_, _, _, _, _, _⟩) (v := ?_) rfl (by kernel_rfl) (by kernel_rfl) (by kernel_rfl) (fun _ _ _ h => h) (Or.inl ⟨by rfl, ?_⟩) (by assumption) ?_
      rotate_left
      · (intro wS hSw; (try dsimp only at hSw); go_simp <;> with_reducible rfl)
      try simp only [Act.put, List.setIfInBounds_toArray, List.set_cons_zero, List.set_cons_succ]
      refine wpAnyH_take (i := 2) (oi := ⟨_, _, _, _, _, _⟩) (v := ?_) rfl (by kernel_rfl) (by kernel_rfl) (by kernel_rfl) (fun _ _ _ h => h) (Or.inl ⟨by rfl, ?_⟩) (by assumption) ?_
      rotate_left
      · (intro wS hSw; (try dsimp only at hSw); go_simp <;> with_reducible rfl)
      try simp only [Act.put, List.setIfInBounds_toArray, List.set_cons_zero, List.set_cons_succ]
      refine wpAnyH_take (i := 3) (oi := ⟨_, _, _, _, _, _⟩) (v := ?_) rfl (by kernel_rfl) (by kernel_rfl) (by kernel_rfl) (fun _ _ _ h => h) (Or.inl ⟨by rfl, ?_⟩) (by assumption) ?_
      rotate_left
      · (intro wS hSw; (try dsimp only at hSw); go_simp <;> with_reducible rfl)
      try simp only [Act.put, List.setIfInBounds_toArray, List.set_cons_zero, List.set_cons_succ]
      refine wpAnyH_take (i := 4) (oi := ⟨_, _, _, _, _, _⟩) (v := ?_) rfl (by kernel_rfl) (by kernel_rfl) (by kernel_rfl) (fun _ _ _ h => h) (Or.inl ⟨by rfl, ?_⟩) (by assumption) ?_
      rotate_left
      · (intro wS hSw; (try dsimp only at hSw); go_simp <;> with_reducible rfl)
      try simp only [Act.put, List.setIfInBounds_toArray, List.set_cons_zero, List.set_cons_succ]
      refine wpAnyH_take (i := 5) (oi := ⟨_, _, _, _, _, _⟩) (v := ?_) rfl (by kernel_rfl) (by kernel_rfl) (by kernel_rfl) (fun _ _ _ h => h) (Or.inl ⟨by rfl, ?_⟩) (by assumption) ?_
      rotate_left
      · (intro wS hSw; (try dsimp only at hSw); go_simp <;> with_reducible rfl)
      try simp only [Act.put, List.setIfInBounds_toArray, List.set_cons_zero, List.set_cons_succ]
      refine wpAnyH_take (i := 6) (oi := ⟨_, _, _, _, _, _⟩) (v := ?_) rfl (by kernel_rfl) (by kernel_rfl) (by kernel_rfl) (fun _ _ _ h => h) (Or.inl ⟨by rfl, ?_⟩) (by assumption) ?_
      rotate_left
      · (intro wS hSw; (try dsimp only at hSw); go_simp <;> with_reducible rfl)
      try simp only [Act.put, List.setIfInBounds_toArray, List.set_cons_zero, List.set_cons_succ]
      refine wpAnyH_take (i := 7) (oi := ⟨_, _, _, _, _, _⟩) (v := ?_) rfl (by kernel_rfl) (by kernel_rfl) (by kernel_rfl) (fun _ _ _ h => h) (Or.inl ⟨by rfl, ?_⟩) (by assumption) ?_
      rotate_left
      · (intro wS hSw; (try dsimp only at hSw); go_simp <;> with_reducible rfl)
      try simp only [Act.put, List.setIfInBounds_toArray, List.set_cons_zero, List.set_cons_succ]
      refine wpAnyH_take (i := 8) (oi := ⟨_, _, _, _, _, _⟩) (v := ?_) rfl (by kernel_rfl) (by kernel_rfl) (by kernel_rfl) (fun _ _ _ h => h) (Or.inl ⟨by rfl, ?_⟩) (by assumption) ?_
      rotate_left
      · (intro wS hSw; (try dsimp only at hSw); go_simp <;> with_reducible rfl)
      try simp only [Act.put, List.setIfInBounds_toArray, List.set_cons_zero, List.set_cons_succ]
      refine wpAnyH_take (i := 9) (oi := ⟨_, _, _, _, _, _⟩) (v := ?_) rfl (by kernel_rfl) (by kernel_rfl) (by kernel_rfl) (fun _ _ _ h => h) (Or.inl ⟨by rfl, ?_⟩) (by assumption) ?_
      rotate_left
      · (intro wS hSw; (try dsimp only at hSw); go_simp <;> with_reducible rfl)
      try simp only [Act.put, List.setIfInBounds_toArray, List.set_cons_zero, List.set_cons_succ]
      refine wpAnyH_take (i := 10) (oi := ⟨_, _, _, _, _, _⟩) (v := ?_) rfl (by kernel_rfl) (by kernel_rfl) (by kernel_rfl) (fun _ _ _ h => h) (Or.inl ⟨by rfl, ?_⟩) (by assumption) ?_
      rotate_left
      · (intro wS hSw; (try dsimp only at hSw); go_simp <;> with_reducible rfl)
      try simp only [Act.put, List.setIfInBounds_toArray, List.set_cons_zero, List.set_cons_succ]
      refine wpAnyH_take (i := 11) (oi := ⟨_, _, _, _, _, _⟩) (v := ?_) rfl (by kernel_rfl) (by kernel_rfl) (by kernel_rfl) (fun _ _ _ h => h) (Or.inl ⟨by rfl, ?_⟩) (by assumption) ?_
      rotate_left
      · (intro wS hSw; (try dsimp only at hSw); go_simp <;> with_reducible rfl)
      try simp only [Act.put, List.setIfInBounds_toArray, List.set_cons_zero, List.set_cons_succ]
      refine wpAnyH_take (i := 12) (oi := ⟨_, _, _, _, _, _⟩) (v := ?_) rfl (by kernel_rfl) (by kernel_rfl) (by kernel_rfl) (fun _ _ _ h => h) (Or.inl ⟨by rfl, ?_⟩) (by assumption) ?_
      rotate_left
      · (intro wS hSw; (try dsimp only at hSw); go_simp <;> with_reducible rfl)
      try simp only [Act.put, List.setIfInBounds_toArray, List.set_cons_zero, List.set_cons_succ]
      refine wpAnyH_take (i := 13) (oi := ⟨_, _, _, _, _, _⟩) (v := ?_) rfl (by kernel_rfl) (by kernel_rfl) (by kernel_rfl) (fun _ _ _ h => h) (Or.inl ⟨by rfl, ?_⟩) (by assumption) ?_
      rotate_left
      · (intro wS hSw; (try dsimp only at hSw); go_simp <;> with_reducible rfl)
      try simp only [Act.put, List.setIfInBounds_toArray, List.set_cons_zero, List.set_cons_succ]
      refine wpAnyH_ready (rs := [14]) (by kernel_rfl) (by simp) ?_
      refine AllReadyH.cons (o := ⟨_, _, _, _, _, _⟩) rfl (fun K hK => ?_) AllReadyH.nil
      go_simp
      (first | (go_at_call 24; (with_reducible refine (L.del kl HSD.out).mono ?_); rintro e V2 ⟨rfl, F2, sh2, t2, n2⟩; have ht2 : Touch F1 V1 V2 := ht0.trans t2 (fun x hx => .inl hx)))
      go_wp2_with fail
      refine hK.out _ _ (by (try dsimp only); (first | assumption | exact HS4.out _ (by assumption))) (fun hHeld => ?_)
      clear hK K
      try simp only [Act.put, List.setIfInBounds_toArray, List.set_cons_zero, List.set_cons_succ]
      refine wpAnyH_done (by kernel_rfl) ?_ _
      have hh := H1.out.shelf ht2 sh2 (fun q hq => n2 q hq)
      have HH := Lib.hid hh
      have HT2 := Lib.hid ht2
      have HN2 := Lib.hid n2
      clear hh ht2 n2 t2 sh2
      have v0 := HH.out.vn.val
      have v1 := HH.out.vn.free
      have v3 := HH.out.vo.val
      have v4 := HH.out.vo.free
      have hne := HH.out.ne.1
      have hne' : bo ≠ bn := fun e => hne e.symm
      have v2 := (HH.out.vo.other (c := bn) (by have := HH.out.ne.1; omega) 0 (.int .i64 ((m : Int) + 1))).val
      have HROW : Hid ((V2.setCell ⟨bn, 0, none⟩ (.int .i64 ((m : Int) + 1))).ownsRow N0 32 2 (.slice A m c) m (itemCells (l.take m))) := ((Touch.refl [bn] V2).set (.inl (by simp)) _).row HH.out.row (fun q hq z => by
        have h1 := (HH.out.row.lt q hq).1
        have h2 := HH.out.lo bn (by simp)
        simp at z
        omega)
      have HSZ : Hid ((V2.setCell ⟨bn, 0, none⟩ (.int .i64 ((m : Int) + 1))).heap.size = V2.heap.size) := by show _ = _; simp [World.setCell]
      have HN0 : Hid (N0 ≤ V2.heap.size) := by
        have s1 := HT1.out.size
        have s2 := HT2.out.size
        exact Nat.le_trans HN00.out (Nat.le_trans s1 s2)
      have HLT : Hid (∀ q ∈ F2, q < V2.heap.size) := by
        obtain ⟨l', z⟩ := HH.out.sh
        exact L.ltF z
      go_wp2_with (at_builtin; refine wpList_append_any rfl (.tmp 40) (.tmp 44) 22 rfl N0 32 i0 (.agg #[.string ⟨#[]⟩, .string ⟨#[]⟩]) 2 32 Try.underlying22 hi0 hz0 hs0 hb0 rfl (by decide) (.slice A m c) m (itemCells (l.take m)) rfl (HROW.out.alloc _) (.slice (some ⟨V2.heap.size, 0, none⟩) 1 1) 1 (itemCells [(xk, xv)]) rfl (item_src _ _ xk xv (by rw [← HSZ.out]; exact heap_alloc_new _ _)) (items_one _) (by unfold maxLen; omega) (by omega) (by have := HN0.out; simp [World.setCell]; omega) ?_; intro A3 c3 w3 ho3 hg3 hs3; obtain ⟨hw3, ht3, hv3, hn3, hb3⟩ := HH.out.step L rfl HX.out HLT.out ho3 hg3 hs3; have e1 := hv3.val; have e2 := hv3.free; have e3 := hn3.val; have HW3 := Lib.hid hw3; have HT3 := Lib.hid ht3; have HB3 := Lib.hid hb3; clear ho3 hg3 hs3 hw3 ht3 hv3 hn3 hb3)
      go_ret
      refine ⟨rfl, _, A3, c3, HW3.out, ?_, fun q hq => ?_, fun q hq => ?_⟩
      · refine ((HT1.out.mono (fun q hq => List.mem_append_left _ hq)).trans HT2.out (fun q hq => ?_)).trans HT3.out (fun q hq => .inl (List.mem_append_right _ hq))
        rcases HN1.out q hq with z | z
        · exact .inl (List.mem_append_left _ z)
        · exact .inr z
      · have s1 := HT1.out.size
        rcases HN2.out q hq with z | z
        · exact HN1.out q z
        · exact .inr (Nat.le_trans s1 z)
      · have s1 := HT1.out.size
        have s2 := HT2.out.size
        exact (HB3.out q hq).imp id (fun z => by omega)
  · have t1 : ((m : Int) == at_) = false := by simpa using he
    have HH := Lib.hid h
    clear h hx hl he hmore
    go_enter Try.func22, Try.ntmps22
    have v0 := HH.out.vn.val
    have v1 := HH.out.vn.free
    have v3 := HH.out.vo.val
    have v4 := HH.out.vo.free
    have hne := HH.out.ne.1
    have hne' : bo ≠ bn := fun e => hne e.symm
    have v2 := (HH.out.vo.other (c := bn) (by have := HH.out.ne.1; omega) 0 (.int .i64 ((m : Int) + 1))).val
    have HROW : Hid ((V.setCell ⟨bn, 0, none⟩ (.int .i64 ((m : Int) + 1))).ownsRow N0 32 2 (.slice A m c) m (itemCells (l.take m))) := ((Touch.refl [bn] V).set (.inl (by simp)) _).row HH.out.row (fun q hq z => by
      have h1 := (HH.out.row.lt q hq).1
      have h2 := HH.out.lo bn (by simp)
      simp at z
      omega)
    have HSZ : Hid ((V.setCell ⟨bn, 0, none⟩ (.int .i64 ((m : Int) + 1))).heap.size = V.heap.size) := by show _ = _; simp [World.setCell]
    have HN0 : Hid (N0 ≤ V.heap.size) := HN00.out
    have HLT : Hid (∀ q ∈ F0, q < V.heap.size) := by
      obtain ⟨l', z⟩ := HH.out.sh
      exact L.ltF z
    go_wp2_with (at_builtin; refine wpList_append_any rfl (.tmp 40) (.tmp 44) 22 rfl N0 32 i0 (.agg #[.string ⟨#[]⟩, .string ⟨#[]⟩]) 2 32 Try.underlying22 hi0 hz0 hs0 hb0 rfl (by decide) (.slice A m c) m (itemCells (l.take m)) rfl (HROW.out.alloc _) (.slice (some ⟨V.heap.size, 0, none⟩) 1 1) 1 (itemCells [(xk, xv)]) rfl (item_src _ _ xk xv (by rw [← HSZ.out]; exact heap_alloc_new _ _)) (items_one _) (by unfold maxLen; omega) (by omega) (by have := HN0.out; simp [World.setCell]; omega) ?_; intro A3 c3 w3 ho3 hg3 hs3; obtain ⟨hw3, ht3, hv3, hn3, hb3⟩ := HH.out.step L rfl HX.out HLT.out ho3 hg3 hs3; have e1 := hv3.val; have e2 := hv3.free; have e3 := hn3.val; have HW3 := Lib.hid hw3; have HT3 := Lib.hid ht3; have HB3 := Lib.hid hb3; clear ho3 hg3 hs3 hw3 ht3 hv3 hn3 hb3)
    go_ret
    exact ⟨rfl, F0, A3, c3, HW3.out, HT3.out.mono (fun q hq => List.mem_append_right _ hq), fun q hq => .inl hq, HB3.out⟩
end Go.Proofs.Ytglinhcldgpphaa
namespace Go.Proofs.Ytglinhcldgpphaa
open Go.RowKit

theorem whileWay {SH : ShP} (L : ShelfLaws SH) {i : Nat} {cap : Array Value} {B : List Nat} {W : World} {gs gr : Nat} {Fr : List Nat} {l : List Item} {bn ba bs bm br bo : Nat} {at_ : Int} {more : ByteArray} {F : List Nat}
    (hw : WayIn i cap l B W) (h : WH SH W.heap.size W gs gr Fr l bn ba bs bm br bo at_ more 0 F none 0) (hB : ∀ q ∈ B, q < W.heap.size ∧ q ∉ F ∧ q ≠ bn ∧ q ≠ bo) (hmore : more.size ≤ maxLen) (hl : l.length ≤ 60) :
    Calls Try.prog i (#[.func (.func 22) #[] #[.pointer (some ⟨bn, 0, none⟩), .pointer (some ⟨ba, 0, none⟩), .pointer (some ⟨bs, 0, none⟩), .pointer (some ⟨bm, 0, none⟩), .pointer (some ⟨br, 0, none⟩), .pointer (some ⟨bo, 0, none⟩)]] ++ cap) W fun e w' =>
      e = .returned (.tuple #[]) ∧ ∃ F3 A3 c3, WH SH W.heap.size w' gs gr Fr l bn ba bs bm br bo at_ more l.length F3 A3 c3 ∧ ∃ G, Touch G W w' ∧ ∀ q ∈ G, q ∈ [bn, ba, bs, bm, br, bo, gr] ++ Fr ++ F := by
  refine (hw (.func 22) #[] #[.pointer (some ⟨bn, 0, none⟩), .pointer (some ⟨ba, 0, none⟩), .pointer (some ⟨bs, 0, none⟩), .pointer (some ⟨bm, 0, none⟩), .pointer (some ⟨br, 0, none⟩), .pointer (some ⟨bo, 0, none⟩)]
    (fun m V Y => ∃ F1 A c, WH SH W.heap.size V gs gr Fr l bn ba bs bm br bo at_ more m F1 A c ∧ Y = [bn, ba, bs, bm, br, bo, gr] ++ Fr ++ F1 ++ (Value.slice A m c).ownBlock.toList ∧ (∀ q ∈ F1, q ∈ F ∨ W.heap.size ≤ q) ∧ W.heap.size ≤ V.heap.size) (fun _ _ => False) ([bn, ba, bs, bm, br, bo, gr] ++ Fr ++ F) ?_ ?_ ?_ ?_ ?_).mono ?_
  · intro q hq
    rcases List.mem_append.1 hq with z | z
    · exact h.lo q z
    · obtain ⟨l', z'⟩ := h.sh
      exact L.ltF z' q z
  · exact ⟨F, none, 0, h, by simp [Value.ownBlock], fun q hq => .inl hq, Nat.le_refl _⟩
  · rintro m V V1 Y G ⟨F1, A, c, h1, rfl, h2, h3⟩ t hn
    exact ⟨F1, A, c, h1.touch L t hn, rfl, h2, Nat.le_trans h3 t.size⟩
  · rintro V V1 Y G hf
    cases hf
  · rintro m ⟨xk, xv⟩ V Y hx ⟨F1, A, c, h1, rfl, h2, h3⟩ hY
    refine YV.own (enters_of Try.func22 (by kernel_rfl) rfl) ((while_any L h1 h3 hmore hx hl).mono ?_)
    rintro e w' ⟨rfl, F3, A3, c3, g1, g2, g3, g4⟩
    have hs := g2.size
    refine ⟨_, ⟨⟨_, g2, fun q hq => ?_⟩, fun q hq => ?_⟩, .inl ⟨rfl, F3, A3, c3, g1, rfl, fun q hq => ?_, by omega⟩⟩
    · rcases List.mem_append.1 hq with z | z
      · refine ⟨List.mem_append_left _ (List.mem_append_right _ z), fun hb => ?_⟩
        obtain ⟨y1, y2, -, -⟩ := hB q hb
        rcases h2 q z with y | y
        · exact y2 y
        · omega
      · rcases List.mem_cons.1 z with rfl | z
        · exact ⟨by simp, fun hb => (hB _ hb).2.2.1 rfl⟩
        · rcases List.mem_cons.1 z with rfl | z
          · exact ⟨by simp, fun hb => (hB _ hb).2.2.2 rfl⟩
          · refine ⟨List.mem_append_right _ z, fun hb => ?_⟩
            have y1 := (hB q hb).1
            have y2 := (h1.row.lt q (by simpa using z)).1
            omega
    · rcases List.mem_append.1 hq with z | z
      · rcases List.mem_append.1 z with z | z
        · have := g1.lo q z
          exact ⟨by omega, .inl (List.mem_append_left _ (List.mem_append_left _ z))⟩
        · obtain ⟨l', z'⟩ := g1.sh
          exact ⟨L.ltF z' q z, (g3 q z).imp (fun y => List.mem_append_left _ (List.mem_append_right _ y)) id⟩
      · have z := Option.mem_toList.1 z
        exact ⟨(g1.row.lt q z).2, (g4 q z).imp (fun y => List.mem_append_right _ (Option.mem_toList.2 y)) id⟩
    · rcases g3 q hq with z | z
      · exact h2 q z
      · exact .inr (by omega)
  · rintro e w' ⟨rfl, Y, ⟨⟨G, t, hG⟩, -⟩, (⟨F3, A3, c3, h1, rfl, h2, h3⟩ | hf)⟩
    · exact ⟨rfl, F3, A3, c3, h1, G, t, fun q hq => (hG q hq).1⟩
    · cases hf

set_option maxRecDepth 100000 in
set_option maxHeartbeats 16000000 in
theorem walkWhile_any {SH : ShP} {SQ : SqP} (L : ShelfLaws SH) (KW : WalkLaws SH SQ) (A : Option Addr) (c : Nat) (zs : List Item) (more : ByteArray) (at_ : Int) (W : World) (hA : ItemsAt W A zs) (hz : zs.length ≤ 9223372036854775807) (sm : more.size ≤ maxLen) (_ha0 : -9223372036854775808 ≤ at_) (_ha1 : at_ ≤ 9223372036854775807) :
    Calls Try.prog 5 #[.slice A zs.length c, .string more, .int .i64 at_] W fun e w' => e = .returned (.bool true) ∧ Below W.heap.size W w' := by
  have CA : Hid (∀ w, Calls Try.prog 12 #[] w fun e w' => e = .returned (.bool true) ∧ Below w.heap.size w w') := fun w => walkAlive_any L KW w w (Below.refl _ _)
  obtain ⟨l, hl⟩ : ∃ l, fillL zs = l := ⟨_, rfl⟩
  have hlen : l.length ≤ 60 := by rw [← hl]; exact fillL_length zs
  obtain ⟨n, hn⟩ : ∃ n, zs.length = n := ⟨_, rfl⟩
  have CF : Hid (∀ w, Below W.heap.size W w → Calls Try.prog 13 #[.slice A n c] w fun e w' => ∃ gs gr, e = .returned (.tuple #[.pointer (some ⟨gs, 0, none⟩), .pointer (some ⟨gr, 0, none⟩)]) ∧ OSW SH SQ w w' gs gr l []) := fun w h => by
    have z := filledW (SQ := SQ) L A c zs W w h hA hz hn
    rwa [hl] at z
  obtain ⟨n0, hn0⟩ : ∃ x, l.length = x := ⟨_, rfl⟩
  have HN0 := Lib.hid hn0
  have HLE := Lib.hid hlen
  have HSM := Lib.hid sm
  have HX : Hid (Var ((W.alloc (.cells #[.string more] 9)).alloc (.cells #[.int .i64 at_] 3)) W.heap.size (.string more) ∧ Var ((W.alloc (.cells #[.string more] 9)).alloc (.cells #[.int .i64 at_] 3)) (W.heap.size + 1) (.int .i64 at_) ∧ Below W.heap.size W ((W.alloc (.cells #[.string more] 9)).alloc (.cells #[.int .i64 at_] 3))) := by
    refine ⟨(Var.new W _ _).old _, ?_, ((Below.refl _ _).alloc (Nat.le_refl _) _).alloc (by simp) _⟩
    have z := Var.new (W.alloc (.cells #[.string more] 9)) (.int .i64 at_) 3
    rwa [World.size_alloc] at z
  rw [hn] at hz ⊢
  obtain ⟨vm, va, HBX⟩ := HX.out
  have VM := Lib.hid vm
  have VA := Lib.hid va
  have x0 := vm.val
  have hbx : W.heap.size + 2 ≤ ((W.alloc (.cells #[.string more] 9)).alloc (.cells #[.int .i64 at_] 3)).heap.size := by simp
  clear vm va hA hl hlen hn0 hn
  by_cases c0 : 60 < n
  · have d0 : decide ((60 : Int) < (n : Int)) = true := by simp; omega
    clear CF
    go_enter Try.func5, Try.ntmps5
    go_wp2_with (go_at_call 12; (with_reducible refine (CA.out _).mono ?_); rintro e w1 ⟨rfl, h1⟩)
    go_ret
    exact ⟨rfl, acc HBX h1⟩
  have d0 : decide ((60 : Int) < (n : Int)) = false := by simp; omega
  by_cases c1 : 40 < more.size
  · have d1 : decide ((40 : Int) < (more.size : Int)) = true := by simp; omega
    clear CF
    go_enter Try.func5, Try.ntmps5
    go_wp2_with (go_at_call 12; (with_reducible refine (CA.out _).mono ?_); rintro e w1 ⟨rfl, h1⟩)
    go_ret
    exact ⟨rfl, acc HBX h1⟩
  have d1 : decide ((40 : Int) < (more.size : Int)) = false := by simp; omega
  have CALL : Hid (∀ (w1 w2 w3 : World) (gs gr : Nat), Below ((W.alloc (.cells #[.string more] 9)).alloc (.cells #[.int .i64 at_] 3)).heap.size ((W.alloc (.cells #[.string more] 9)).alloc (.cells #[.int .i64 at_] 3)) w1 → OSW SH SQ w1 w2 gs gr l [] → Below w2.heap.size w2 w3 → w2.heap.size + 4 = w3.heap.size → Var w3 w2.heap.size (.pointer (some ⟨gs, 0, none⟩)) → Var w3 (w2.heap.size + 1) (.pointer (some ⟨gr, 0, none⟩)) → Var w3 (w2.heap.size + 1 + 1) (.slice none 0 0) → Var w3 (w2.heap.size + 1 + 1 + 1) (.int .i64 0) →
      Calls Try.prog 21 #[.pointer (some ⟨gs, 0, none⟩)] w3 fun e w4 => ∃ i cap, e = .returned (.func (.func i) #[] cap) ∧ (∀ a w, (callFunc i a).run Try.prog w = .ok (.enter i a) w) ∧
        Calls Try.prog i (#[.func (.func 22) #[] #[.pointer (some ⟨w2.heap.size + 1 + 1 + 1, 0, none⟩), .pointer (some ⟨W.heap.size + 1, 0, none⟩), .pointer (some ⟨w2.heap.size, 0, none⟩), .pointer (some ⟨W.heap.size, 0, none⟩), .pointer (some ⟨w2.heap.size + 1, 0, none⟩), .pointer (some ⟨w2.heap.size + 1 + 1, 0, none⟩)]] ++ cap) w4 fun e w5 =>
          e = .returned (.tuple #[]) ∧ Below W.heap.size W w5 ∧ ∃ A3 c3, w5.cell? ⟨w2.heap.size + 1 + 1, 0, none⟩ = some (.slice A3 n0 c3) ∧ w5.cell? ⟨w2.heap.size + 1, 0, none⟩ = some (.pointer (some ⟨gr, 0, none⟩)) ∧ Row w5 (.slice A3 l.length c3) l ∧ ∃ LA lc, w5.cell? ⟨gr, 1, none⟩ = some (.slice LA n0 lc) ∧ Row w5 (.slice LA l.length lc) l) := by
    intro w1 w2 w3 gs gr hb1 hO hb3 hsz v1 v2 v3 v4
    obtain ⟨hb2, F, Fr, sh, rs, hF, ⟨hgr, hFr⟩, -⟩ := hO
    have t3 : Touch [] w2 w3 := Touch.ofBelow hb3
    have sh3 := L.touch sh t3 (by simp)
    refine (KW.all sh3).mono ?_
    rintro e w4 ⟨fv, B, rfl, sq, hBlo, hb4⟩
    have t4 : Touch [] w3 w4 := Touch.ofBelow hb4
    have sh4 := L.touch sh3 t4 (by simp)
    obtain ⟨i, cap, rfl, hi, hway⟩ := KW.go sq sh4
    refine ⟨i, cap, rfl, hi, ?_⟩
    have s0 : ((W.alloc (.cells #[.string more] 9)).alloc (.cells #[.int .i64 at_] 3)).heap.size = W.heap.size + 2 := by simp
    have s1 := hb1.size
    have s2 := hb2.size
    have s3 := hb3.size
    have s4 := hb4.size
    have gl := rs_ltg rs
    have fl := rs_ltF rs
    have sl := L.ltF sh
    have vm4 := (((VM.out.below hb1).below hb2).below hb3).below hb4
    have va4 := (((VA.out.below hb1).below hb2).below hb3).below hb4
    have rs4 := rs.keep (t3.trans t4 (by simp)) (by simp) (by simp)
    have hWH : WH SH w4.heap.size w4 gs gr Fr l (w2.heap.size + 1 + 1 + 1) (W.heap.size + 1) w2.heap.size W.heap.size (w2.heap.size + 1) (w2.heap.size + 1 + 1) at_ more 0 F none 0 := by
      refine ⟨⟨l, sh4⟩, rs4, v4.below hb4, va4, v1.below hb4, vm4, v2.below hb4, v3.below hb4, ?_, ?_, ?_, ?_, ?_, ?_⟩
      · exact ⟨by simp [itemCells], .inl ⟨rfl, rfl⟩⟩
      · intro q hq hf
        obtain ⟨f1, f2, f3⟩ := hF q hf
        have f4 := sl q hf
        rcases List.mem_append.1 hq with z | z
        · simp at z
          rcases z with rfl | rfl | rfl | rfl | rfl | rfl | rfl <;> first | omega | exact f2 rfl
        · exact f3 z
      · intro q hq
        rcases List.mem_append.1 hq with z | z
        · simp at z
          rcases z with rfl | rfl | rfl | rfl | rfl | rfl | rfl <;> omega
        · have := fl q z
          omega
      · intro q hq
        simp [Value.ownBlock] at hq
      · omega
      · intro q hq
        rcases List.mem_append.1 hq with z | z
        · simp at z
          rcases z with rfl | rfl | rfl | rfl | rfl <;> omega
        · have := fl q z
          omega
    refine (whileWay L hway hWH (fun q hq => ?_) HSM.out HLE.out).mono ?_
    · have := hBlo q hq
      refine ⟨KW.ltB sq q hq, fun z => ?_, by omega, by omega⟩
      have := sl q z
      omega
    · rintro e w5 ⟨rfl, F3, A3, c3, h5, G, t5, hG⟩
      have b2 : Below W.heap.size W w4 := (((HBX.trans (hb1.mono (by omega))).trans (hb2.mono (by omega))).trans (hb3.mono (by omega))).trans (hb4.mono (by omega))
      have b5 : Below W.heap.size w4 w5 := t5.below (by omega) (fun q hq => ?_)
      · obtain ⟨LA, lc, ⟨-, -, g3, -⟩, g6, -⟩ := h5.rs
        refine ⟨rfl, b2.trans b5, A3, c3, ?_, h5.vr.val, ?_, LA, lc, ?_, g6⟩
        · rw [← HN0.out]; exact h5.vo.val
        · have z := own_mono h5.row (Nat.zero_le _)
          rw [List.take_length] at z
          exact z
        · rw [← HN0.out]; exact g3
      · rcases List.mem_append.1 (hG q hq) with z | z
        · rcases List.mem_append.1 z with z | z
          · simp at z
            rcases z with rfl | rfl | rfl | rfl | rfl | rfl | rfl <;> omega
          · have := hFr q z
            omega
        · have := (hF q z).1
          omega
  · go_enter Try.func5, Try.ntmps5
    go_upto_region 9 with (first
      | (go_at_call 12; (with_reducible refine (CA.out _).mono ?_); rintro e w1 ⟨rfl, h1⟩; have HB1 := Lib.hid h1; have HBW := Lib.hid (acc HBX h1); clear h1)
      | (go_at_call 13; (with_reducible refine (CF.out _ HBW.out).mono ?_); rintro e w2 ⟨gs, gr, rfl, h2⟩; have H2 := Lib.hid h2; clear h2))
    go_at_call 21
    (with_reducible refine (CALL.out w1 w2 _ gs gr HB1.out H2.out ?hb ?hs ?v1 ?v2 ?v3 ?v4).mono ?_)
    case hb => exact ((((Below.refl _ w2).alloc (Nat.le_refl _) _).alloc (by simp only [World.size_alloc]; omega) _).alloc (by simp only [World.size_alloc]; omega) _).alloc (by simp only [World.size_alloc]; omega) _
    case hs => simp
    case v1 => exact ⟨by go_simp, by go_simp⟩
    case v2 => exact ⟨by go_simp, by go_simp⟩
    case v3 => exact ⟨by go_simp, by go_simp⟩
    case v4 => exact ⟨by go_simp, by go_simp⟩
    rintro e w3 ⟨i, cap, rfl, he, h3⟩
    have H3 := Lib.hid h3
    clear h3
    go_upto_region 9 with (refine H3.out.mono ?_; rintro e w4 ⟨rfl, b4, A9, c9, g1, g2, g3, LA, lc, g4, g5⟩)
    have HS9 : Hid (∀ w', Below w4.drew.heap.size w4.drew w' → w'.cell? ⟨w2.heap.size + 1 + 1, 0, none⟩ = some (.slice A9 n0 c9) ∧ w'.cell? ⟨w2.heap.size + 1, 0, none⟩ = some (.pointer (some ⟨gr, 0, none⟩)) ∧ w'.cell? ⟨gr, 1, none⟩ = some (.slice LA n0 lc)) := fun w' h => by
      have z : Below w4.heap.size w4 w' := (show Below w4.heap.size w4 w4.drew from (Below.refl _ _).drew).trans h
      exact ⟨(z.cell (p := ⟨w2.heap.size + 1 + 1, 0, none⟩) (World.block_lt_of_cell? w4 _ g1)).trans g1, (z.cell (p := ⟨w2.heap.size + 1, 0, none⟩) (World.block_lt_of_cell? w4 _ g2)).trans g2, (z.cell (p := ⟨gr, 1, none⟩) (World.block_lt_of_cell? w4 _ g4)).trans g4⟩
    have SA : Hid (∀ w, Below w4.drew.heap.size w4.drew w → Calls Try.prog 25 #[.slice A9 n0 c9, .slice LA n0 lc] w fun e w' => e = .returned (.bool true) ∧ ∃ k, w' = w.drewN k) := fun w h => by
      have t : Touch [] w4 w := Touch.ofBelow ((show Below w4.heap.size w4 w4.drew from (Below.refl _ _).drew).trans h)
      have y := sameItems_any A9 LA c9 lc l l w (t.row g3 (by simp)) (t.row g5 (by simp))
      rw [HN0.out, sameL_self] at y
      exact y
    have HV0 : Hid (Below w4.drew.heap.size w4.drew w4.drew) := Below.refl _ _
    have hv0 := HV0.out
    have HB4 := Lib.hid b4
    clear g1 g2 g3 g4 g5 b4 H3 CALL
    refine wp_region_held_drew (S := (fun w' => w'.cell? ⟨w2.heap.size + 1 + 1, 0, none⟩ = some (.slice A9 n0 c9) ∧ w'.cell? ⟨w2.heap.size + 1, 0, none⟩ = some (.pointer (some ⟨gr, 0, none⟩)) ∧ w'.cell? ⟨gr, 1, none⟩ = some (.slice LA n0 lc))) (by kernel_rfl) ?_ (fun hHeld => ?_)
    · (try dsimp only); (first | assumption | exact HS9.out _ (by assumption))
    refine wpAnyH_take (i := 0) (oi := ⟨_, _, _, _, _, _⟩) (v := ?_) rfl (by kernel_rfl) (by kernel_rfl) (by kernel_rfl) (fun _ _ _ h => h) (Or.inl ⟨by rfl, ?_⟩) (by assumption) ?_
    rotate_left
    · (intro wS hSw; (try dsimp only at hSw); go_simp <;> with_reducible rfl)
    try simp only [Act.put, List.setIfInBounds_toArray, List.set_cons_zero, List.set_cons_succ]
    refine wpAnyH_take (i := 1) (oi := ⟨_, _, _, _, _, _⟩) (v := ?_) rfl (by kernel_rfl) (by kernel_rfl) (by kernel_rfl) (fun _ _ _ h => h) (Or.inl ⟨by rfl, ?_⟩) (by assumption) ?_
    rotate_left
    · (intro wS hSw; (try dsimp only at hSw); go_simp <;> with_reducible rfl)
    try simp only [Act.put, List.setIfInBounds_toArray, List.set_cons_zero, List.set_cons_succ]
    refine wpAnyH_take (i := 2) (oi := ⟨_, _, _, _, _, _⟩) (v := ?_) rfl (by kernel_rfl) (by kernel_rfl) (by kernel_rfl) (fun _ _ _ h => h) (Or.inl ⟨by rfl, ?_⟩) (by assumption) ?_
    rotate_left
    · (intro wS hSw; (try dsimp only at hSw); go_simp <;> with_reducible rfl)
    try simp only [Act.put, List.setIfInBounds_toArray, List.set_cons_zero, List.set_cons_succ]
    refine wpAnyH_take (i := 3) (oi := ⟨_, _, _, _, _, _⟩) (v := ?_) rfl (by kernel_rfl) (by kernel_rfl) (by kernel_rfl) (fun _ _ _ h => h) (Or.inl ⟨by rfl, ?_⟩) (by assumption) ?_
    rotate_left
    · (intro wS hSw; (try dsimp only at hSw); go_simp <;> with_reducible rfl)
    try simp only [Act.put, List.setIfInBounds_toArray, List.set_cons_zero, List.set_cons_succ]
    refine wpAnyH_take (i := 4) (oi := ⟨_, _, _, _, _, _⟩) (v := ?_) rfl (by kernel_rfl) (by kernel_rfl) (by kernel_rfl) (fun _ _ _ h => h) (Or.inl ⟨by rfl, ?_⟩) (by assumption) ?_
    rotate_left
    · (intro wS hSw; (try dsimp only at hSw); go_simp <;> with_reducible rfl)
    try simp only [Act.put, List.setIfInBounds_toArray, List.set_cons_zero, List.set_cons_succ]
    refine wpAnyH_ready (rs := [5]) (by kernel_rfl) (by simp) ?_
    refine AllReadyH.cons (o := ⟨_, _, _, _, _, _⟩) rfl (fun K hK => ?_) AllReadyH.nil
    go_simp
    (first | (go_at_call 25; (with_reducible refine (SA.out _ HV0.out).mono ?_); rintro e w5 ⟨rfl, k5, rfl⟩; have hv5 := acc hv0 (((Touch.refl [] w4.drew).drewN k5).below (Nat.le_refl _) (by simp))))
    go_wp2_with fail
    refine hK.out _ _ (by (try dsimp only); (first | assumption | exact HS9.out _ (by assumption))) (fun hHeld => ?_)
    clear hK K
    try simp only [Act.put, List.setIfInBounds_toArray, List.set_cons_zero, List.set_cons_succ]
    refine wpAnyH_take (i := 6) (oi := ⟨_, _, _, _, _, _⟩) (v := ?_) rfl (by kernel_rfl) (by kernel_rfl) (by kernel_rfl) (fun _ _ _ h => h) (Or.inl ⟨by rfl, ?_⟩) (by assumption) ?_
    rotate_left
    · (intro wS hSw; (try dsimp only at hSw); go_simp <;> with_reducible rfl)
    try simp only [Act.put, List.setIfInBounds_toArray, List.set_cons_zero, List.set_cons_succ]
    refine wpAnyH_done (by kernel_rfl) ?_ _
    go_wp2_with fail
    go_ret
    exact ⟨rfl, acc HB4.out (((Touch.refl [] w4).drewN (1 + k5)).below (Nat.le_refl _) (by simp))⟩
end Go.Proofs.Ytglinhcldgpphaa
