/-
  cut.Out: what lies in an arc is told in its order, and taken away.
  cut.Page: the first items of a range; is there more of it, and which key is next.
-/
import Derived.Test.YthgndgoljchnfaaGreatHg23
import Derived.Test.YthgndgoljchnfaaGreatHg26
import Derived.Test.YthgndgoljchnfaaGreatHg27
namespace Go.Proofs.YthgndgoljchnfaaGreat
open Go.RowKit

attribute [local go_sem] Oper.semAt_some

/-- a shelf of the code's own is a source of items, whatever room it has -/
theorem srcOfM {W : World} {g : Nat} {most : Int} {l : List Item} {F : List Nat} (h : SH W g most l F) : Src W (some ⟨g, 0, none⟩) l where
  rising := shelfLaws.rising h
  len := by
    obtain ⟨_, _, _, _, _, _, _, _, _, a, b⟩ := h
    omega
  items w hw := shelfLaws.items (h.touch (Touch.ofBelow (F := []) hw) (by simp))
  copy w hw := by
    refine (shelfLaws.copy (h.touch (Touch.ofBelow (F := []) hw) (by simp))).mono ?_
    rintro e w' ⟨g', F', rfl, h1, h2, h3⟩
    exact ⟨_, F', rfl, h3, fun q hq => ⟨h2 q hq, h1.ltF q hq⟩, fun V G t hn => shelfLaws.items (h1.touch t hn)⟩
/-- what Out leaves: the list, in a block of its own; the shelf without it -/
def OutPost (W : World) (g : Nat) (most : Int) (F : List Nat) (a left : List Item) (e : Ending) (w' : World) : Prop :=
  ∃ A c F', e = .returned (.slice A a.length c) ∧ w'.ownsRow W.heap.size 31 2 (.slice A a.length c) a.length (itemCells a) ∧ SH w' g most left F' ∧ Touch F W w' ∧ (∀ q ∈ F', q ∈ F ∨ W.heap.size ≤ q) ∧ ∀ q ∈ F', (Value.slice A a.length c).ownBlock ≠ some q
/-- one round of Out -/
theorem out_round {V w3 w5 : World} {z n0 : Nat} {p : Value} {A A3 : Option Addr} {c c3 m : Nat} {xs : List Value} {Fm F5 : List Nat} {o : Obj} (hn : z + 2 < n0) (h1 : Var V z p) (h2 : Var V (z + 2) (.slice A m c)) (hr : V.ownsRow n0 31 2 (.slice A m c) m xs)
    (hY : ∀ q ∈ Fm, q < V.heap.size) (hD : ∀ q ∈ Fm, q ≠ z ∧ q ≠ z + 2 ∧ (Value.slice A m c).ownBlock ≠ some q)
    (tt : Touch (Value.slice A m c).ownBlock.toList V w3) {k : Nat} {ys : List Value} (ho : w3.ownsRow n0 31 2 (.slice A3 k c3) k ys) (hs : SameOrNew (V.alloc o) (.slice A m c) (.slice A3 k c3))
    (td : Touch Fm (w3.setCell ⟨z + 2, 0, none⟩ (.slice A3 k c3)) w5) (h5 : ∀ q ∈ F5, q ∈ Fm ∨ (w3.setCell ⟨z + 2, 0, none⟩ (.slice A3 k c3)).heap.size ≤ q) (h6 : ∀ q ∈ F5, q < w5.heap.size) :
    Left [] ([z, z + 2] ++ (Value.slice A m c).ownBlock.toList ++ Fm) V w5 ([z, z + 2] ++ (Value.slice A3 k c3).ownBlock.toList ++ F5) ∧ Var w5 z p ∧ Var w5 (z + 2) (.slice A3 k c3) ∧ w5.ownsRow n0 31 2 (.slice A3 k c3) k ys ∧ ∀ q ∈ F5, q ≠ z ∧ q ≠ z + 2 ∧ (Value.slice A3 k c3).ownBlock ≠ some q := by
  have hl1 := h1.lt
  have hl2 := h2.lt
  have hown : ∀ q, q ∈ (Value.slice A m c).ownBlock.toList → n0 ≤ q ∧ q < V.heap.size := fun q hq => hr.lt q (by simpa using hq)
  have e4 : (w3.setCell ⟨z + 2, 0, none⟩ (.slice A3 k c3)).heap.size = w3.heap.size := by simp [World.setCell]
  have s3 := tt.size
  have s5 := td.size
  rw [e4] at s5 h5
  have k1 : Var w3 z p := h1.touch tt (fun y => by have := hown _ y; omega)
  have k2 : Var w3 (z + 2) (.slice A m c) := h2.touch tt (fun y => by have := hown _ y; omega)
  have nz : z ∉ Fm := fun y => (hD _ y).1 rfl
  have nz2 : z + 2 ∉ Fm := fun y => (hD _ y).2.1 rfl
  have own3 : ∀ q, (Value.slice A3 k c3).ownBlock = some q → n0 ≤ q ∧ q < w3.heap.size := fun q hq => ho.lt q hq
  have nown : ∀ q, (Value.slice A3 k c3).ownBlock = some q → q ∉ Fm := fun q hq y => by
    rcases hs q hq with u | u
    · exact (hD q y).2.2 u
    · have := hY q y
      simp at u
      omega
  refine ⟨⟨⟨(z + 2) :: (Value.slice A m c).ownBlock.toList ++ Fm, ?_, ?_⟩, ?_⟩, (k1.other (by omega) _ _).touch td nz, (k2.set _).touch td nz2, ?_, ?_⟩
  · exact ((tt.mono (fun x hx => by simp [hx])).set (.inl (by simp)) _).trans td (fun x hx => .inl (List.mem_append_right _ hx))
  · intro q hq
    refine ⟨?_, by simp⟩
    simp at hq ⊢
    rcases hq with y | y | y
    · exact .inr (.inl y)
    · exact .inr (.inr (.inl y))
    · exact .inr (.inr (.inr y))
  · intro q hq
    rcases List.mem_append.1 hq with y | y
    · rcases List.mem_append.1 y with y | y
      · exact ⟨by simp at y; omega, .inl (by simp at y; simp; omega)⟩
      · have y' : (Value.slice A3 k c3).ownBlock = some q := by simpa using y
        refine ⟨by have := own3 q y'; omega, ?_⟩
        rcases hs q y' with u | u
        · exact .inl (by simp [u])
        · simp at u
          exact .inr (by omega)
    · refine ⟨h6 q y, ?_⟩
      rcases h5 q y with u | u
      · exact .inl (List.mem_append_right _ u)
      · exact .inr (by omega)
  · exact td.row (((Touch.refl [z + 2] _).set (.inl (by simp)) _).row ho (fun q hq y => by
      have := own3 q hq
      simp at y
      omega)) nown
  · intro q hq
    rcases h5 q hq with u | u
    · exact ⟨(hD q u).1, (hD q u).2.1, fun y => nown q y u⟩
    · refine ⟨by omega, by omega, fun y => ?_⟩
      have := own3 q y
      omega

set_option maxRecDepth 100000 in
set_option maxHeartbeats 8000000 in
theorem out_any {W : World} {g : Nat} {most : Int} {l : List Item} {F : List Nat} (h : SH W g most l F) (f t : Nat) (hf : f < 18446744073709551616) (ht : t < 18446744073709551616) :
    Calls Tryz.prog 58 #[.pointer (some ⟨g, 0, none⟩), .agg #[.int .u64 (f : Nat), .int .u64 (t : Nat)]] W (OutPost W g most F (arcL l f t) (delsN l (arcL l f t))) := by
  have HS := Lib.hid (srcOfM h)
  have HSH := Lib.hid h
  have HF := Lib.hid hf
  have HT := Lib.hid ht
  have hlt := h.ltF
  obtain ⟨i0, hi0, hz0, hs0, hb0⟩ := infoItems
  have hxs : (arcL l f t).length ≤ 400 := by
    have h2 := arcL_length_le l f t
    have h3 := HS.out.len
    omega
  have HX := Lib.hid hxs
  have HLT := Lib.hid hlt
  clear h hf ht hxs hlt
  refine (callsIn_wide (n := 0)).1 (callsIn_of_wp_marks Tryz.func58 rfl trivial ?_ rfl)
  simp only [Tryz.ntmps58, List.size_toArray, List.length_cons, List.length_nil, Nat.reduceAdd, Nat.reduceSub, Array.replicate_succ, Array.replicate_zero, List.push_toArray, List.append_toArray, List.nil_append, List.cons_append]
  obtain ⟨W0, hW0⟩ : ∃ W0, ((W.alloc (.cells #[.pointer (some ⟨g, 0, none⟩)] 69)).alloc (.cells #[.int .u64 (f : Nat), .int .u64 (t : Nat)] 25)).alloc (.cells #[.slice none 0 0] 22) = W0 := ⟨_, rfl⟩
  have hV1 : Var W0 W.heap.size (.pointer (some ⟨g, 0, none⟩)) := by
    rw [← hW0]; exact ((Var.new W _ _).old _).old _
  have hV2 : Var W0 (W.heap.size + 2) (.slice none 0 0) := by
    have z := Var.new ((W.alloc (.cells #[.pointer (some ⟨g, 0, none⟩)] 69)).alloc (.cells #[.int .u64 (f : Nat), .int .u64 (t : Nat)] 25)) (.slice none 0 0) 22
    rw [World.size_alloc, World.size_alloc] at z
    rw [← hW0]; exact z
  have hb0' : Below W.heap.size W W0 := by
    rw [← hW0]; exact (((Below.refl _ W).alloc (Nat.le_refl _) _).alloc (by simp) _).alloc (by simp; omega) _
  have hs0' : W0.heap.size = W.heap.size + 3 := by rw [← hW0]; simp
  have HV1 := Lib.hid hV1
  have HV2 := Lib.hid hV2
  have HB0 := Lib.hid hb0'
  have HS0 := Lib.hid hs0'
  have HW0 := Lib.hid hW0
  clear hV1 hV2 hb0' hs0' hW0
  gi_wp2_with (refine ⟨trivial, rfl, ?_⟩; gi_at_call 54; refine (callsIn_wide.2 (arc_post _ f t _)).mono ?_; rintro e W2 ⟨a0, a1, rfl, ca0, ca1, ca2, hb2⟩)
  rw [HW0.out] at hb2
  have HB : Hid (Below W.heap.size W W2) := HB0.out.trans (hb2.mono HB0.out.size)
  have v1 := HV1.out.below hb2
  have v2 := HV2.out.below hb2
  have hz : W.heap.size + 3 ≤ W2.heap.size := by have := hb2.size; rw [HS0.out] at this; exact this
  have hsh : SH W2 g most l F := HSH.out.touch (Touch.ofBelow (F := []) HB.out) (by simp)
  clear hb2
  refine wp_ways (gf := 86) (lb := #[.pointer (some ⟨a0, 0, none⟩), .pointer (some ⟨a1, 0, none⟩)]) rfl (enters_of Tryz.func86 (by kernel_rfl) rfl) (xs := arcL l f t) (B := [])
    (fun V hV => arcWay HS.out.rising (fun w hw => HS.out.copy w (HB.out.trans ((hV.mono HB.out.size).trans (hw.mono (Nat.le_trans HB.out.size hV.size))))) HF.out HT.out ((hV.cell (p := ⟨a0, 0, none⟩) (World.block_lt_of_cell? W2 _ ca0)).trans ca0) ((hV.cell (p := ⟨a1, 0, none⟩) (World.block_lt_of_cell? W2 _ ca1)).trans ca1) ((hV.cell (p := ⟨a1, 1, none⟩) (World.block_lt_of_cell? W2 _ ca2)).trans ca2) [] (by simp)) (by simp) rfl
    (fun m V Y => ∃ A c Fm, Y = [W.heap.size, W.heap.size + 2] ++ (Value.slice A m c).ownBlock.toList ++ Fm ∧ Var V W.heap.size (.pointer (some ⟨g, 0, none⟩)) ∧ Var V (W.heap.size + 2) (.slice A m c) ∧ V.ownsRow W2.heap.size 31 2 (.slice A m c) m (itemCells ((arcL l f t).take m)) ∧
      SH V g most (delsN l ((arcL l f t).take m)) Fm ∧ (∀ q ∈ Fm, q ∈ F ∨ W.heap.size ≤ q) ∧ ∀ q ∈ Fm, q ≠ W.heap.size ∧ q ≠ W.heap.size + 2 ∧ (Value.slice A m c).ownBlock ≠ some q)
    (fun _ _ _ => False)
    ([W.heap.size, W.heap.size + 2] ++ F) (fun q hq => by
      rcases List.mem_append.1 hq with y | y
      · simp at y; omega
      · have := HLT.out q y; omega)
    ⟨none, 0, F, rfl, v1, v2, World.ownsRow_nil _ _ _ _, hsh, fun q hq => .inl hq, fun q hq => ⟨by have := HLT.out q hq; omega, by have := HLT.out q hq; omega, fun y => by cases y⟩⟩
    (by
      rintro m V V1 Y G ⟨A, c, Fm, rfl, h1, h2, h3, h4, h5, h6⟩ tt hn
      exact ⟨A, c, Fm, rfl, h1.touch tt (hn _ (by simp)), h2.touch tt (hn _ (by simp)), tt.row h3 (fun q hq => hn q (by simp [hq])), h4.touch tt (fun q hq => hn q (by simp [hq])), h5, h6⟩)
    (fun _ _ _ _ _ h _ _ => h)
    (fun x => { tmps := #[.pointer (some ⟨g, 0, none⟩), .agg #[.int .u64 (f : Nat), .int .u64 (t : Nat)], .pointer (some ⟨W.heap.size, 0, none⟩), .pointer (some ⟨W.heap.size + 1, 0, none⟩), .slice none 0 0, .pointer (some ⟨W.heap.size + 1 + 1, 0, none⟩), .string x.1, .string x.2, .pointer (some ⟨g, 0, none⟩), .agg #[.int .u64 (f : Nat), .int .u64 (t : Nat)], .func (.func 86) #[] #[.pointer (some ⟨a0, 0, none⟩), .pointer (some ⟨a1, 0, none⟩)], .string x.1, .string x.2, undef, undef, undef, undef, undef, undef, undef, undef, undef, undef], defers := [] })
    ?assign ?body ?done ?stop
  case assign =>
    intro lp x V K hK
    gi_wp2
    exact hK
  case body =>
    rintro lp m ⟨xk, xv⟩ V Y hV hx ⟨A, c, Fm, rfl, h1, h2, h3, h4, h5, h6⟩ hY
    have hm : m < 400 := by
      have := (List.getElem?_eq_some_iff.1 hx).1
      have := HX.out
      omega
    have htk : (arcL l f t).take (m + 1) = (arcL l f t).take m ++ [(xk, xv)] := by rw [List.take_add_one, hx]; rfl
    have c1 := h1.val
    have c2 := h2.val
    have f2 := h2.free
    have H1 := Lib.hid h1
    have H2 := Lib.hid h2
    have HR := Lib.hid h3
    have H4 := Lib.hid h4
    have H5 := Lib.hid h5
    have H6 := Lib.hid h6
    have HTK := Lib.hid htk
    have HY := Lib.hid hY
    have hsz : W2.heap.size ≤ V.heap.size := hV
    have HN : Hid (∀ q, q < W2.heap.size → q ∉ (Value.slice A m c).ownBlock.toList) := fun q hq z => by
      have := (HR.out.lt q (by simpa using z)).1
      omega
    clear h1 h2 h3 h4 h5 h6 htk hY hx
    gi_wp2_with (first
      | (gi_at_builtin; refine wpListIn_append_any rfl (.tmp 13) (.tmp 17) 22 rfl W2.heap.size 31 i0 (.agg #[.string ⟨#[]⟩, .string ⟨#[]⟩]) 2 32 Tryz.underlying22 hi0 hz0 hs0 hb0 rfl (by decide) (.slice A m c) m (itemCells ((arcL l f t).take m)) rfl (HR.out.alloc _) (.slice (some ⟨V.heap.size, 0, none⟩) 1 1) 1 (itemCells [(xk, xv)]) rfl (item_src _ _ xk xv (heap_alloc_new _ _)) (items_one _) (by unfold maxLen; omega) (by omega) (by simp; omega) ?_; intro A3 c3 w3 ho3 hg3 hs3; have tt : Touch (Value.slice A m c).ownBlock.toList V w3 := ((Touch.refl _ V).alloc _).grown hg3 (fun k hk => .inl (by simp [hk])); have HTT := Lib.hid tt; have c2 := (H2.out.touch tt (HN.out _ (by omega))).val; have f2 := (H2.out.touch tt (HN.out _ (by omega))).free; have c1 : (w3.setCell ⟨W.heap.size + 2, 0, none⟩ (.slice A3 (m + 1) c3)).cell? ⟨W.heap.size, 0, none⟩ = some (.pointer (some ⟨g, 0, none⟩)) := ((H1.out.touch tt (HN.out _ (by omega))).other (by omega) _ _).val; have HO3 := Lib.hid ho3; have HS3 := Lib.hid hs3; have HD4 : Hid (SH (w3.setCell ⟨W.heap.size + 2, 0, none⟩ (.slice A3 (m + 1) c3)) g most (delsN l ((arcL l f t).take m)) Fm) := H4.out.touch ((tt.mono (G := (W.heap.size + 2) :: (Value.slice A m c).ownBlock.toList) (fun x hx => by simp [hx])).set (.inl (by simp)) _) (fun q hq y => by have z := H6.out q hq; simp at y; rcases y with y | y; exact z.2.1 y; exact z.2.2 y); clear tt ho3 hg3 hs3)
      | (refine ⟨trivial, rfl, ?_⟩; gi_at_call 76; refine (CallsIn.inRound lp (callsIn_wide.2 (shelfLaws.del xk HD4.out))).mono ?_; rintro e w5 ⟨rfl, F5, k1, k2, k3⟩))
    obtain ⟨z1, z2, z3, z4, z5⟩ := out_round (by omega) H1.out H2.out HR.out (fun q hq => HY.out q (List.mem_append_right _ hq)) H6.out HTT.out HO3.out HS3.out k2 k3 k1.ltF
    refine ⟨_, z1, A3, c3, F5, rfl, z2, z3, by rw [HTK.out, itemCells_append]; exact z4, by rw [HTK.out, delsN_snoc]; exact k1, fun q hq => ?_, z5⟩
    rcases k3 q hq with y | y
    · exact H5.out q y
    · have e4 : (w3.setCell ⟨W.heap.size + 2, 0, none⟩ (.slice A3 (m + 1) c3)).heap.size = w3.heap.size := by simp [World.setCell]
      have := HTT.out.size
      rw [e4] at y
      exact .inr (by omega)
  case done =>
    rintro D V Y hD hDn hL ⟨A, c, Fm, rfl, h1, h2, h3, h4, h5, h6⟩ hK
    have htk : (arcL l f t).take (arcL l f t).length = arcL l f t := List.take_length
    rw [htk] at h3 h4
    have c2 := h2.val
    have HK := Lib.hid hK
    have hp : Touch [D] V (V.putObj D (.deferred none)) := (Touch.refl _ _).put (.inl (by simp)) _
    have HR : Hid ((V.putObj D (.deferred none)).ownsRow W2.heap.size 31 2 (.slice A (arcL l f t).length c) (arcL l f t).length (itemCells (arcL l f t))) := hp.row h3 (fun q hq z => hDn (by simp at z; simp [← z, hq]))
    have HSD : Hid (SH (V.putObj D (.deferred none)) g most (delsN l (arcL l f t)) Fm) := h4.touch hp (fun q hq z => hDn (by simp at z; simp [← z, hq]))
    have HT2 : Hid (Touch F W (V.putObj D (.deferred none))) := by
      obtain ⟨⟨G, tg, hG⟩, _⟩ := hL
      refine ((Touch.ofBelow HB.out).trans tg (fun x hx => ?_)).put (.inr (by have := HB.out.size; omega)) _
      have y := (hG x hx).1
      rcases List.mem_append.1 y with y | y
      · exact .inr (by simp at y; omega)
      · exact .inl y
    have H5 := Lib.hid h5
    have H6 := Lib.hid h6
    clear hL h1 h2 h3 h4 h5 h6
    gi_wp2
    refine ⟨by simp, .inl ⟨_, _, rfl, run_takeDeferred HK.out, ?_⟩⟩
    exact ⟨_, results_tmp rfl _ _ _, A, c, Fm, rfl, own_mono HR.out HB.out.size, HSD.out, HT2.out, H5.out, fun q hq => (H6.out q hq).2.2⟩
  case stop =>
    rintro D c V Y hD hDn hL h hK
    exact h.elim
end Go.Proofs.YthgndgoljchnfaaGreat
namespace Go.Proofs.YthgndgoljchnfaaGreat
open Go.RowKit

attribute [local go_sem] Oper.semAt_some

/-- the first key behind a page -/
def pageNext (xs : List Item) (n : Nat) : ByteArray := match xs[n]? with
  | some x => x.1
  | none => ⟨#[]⟩
def PagePost (W : World) (xs : List Item) (n : Nat) (e : Ending) (w' : World) : Prop :=
  ∃ A c, e = .returned (.tuple #[.slice A (xs.take n).length c, .bool (decide (n < xs.length)), .string (pageNext xs n)]) ∧
    w'.ownsRow W.heap.size 31 2 (.slice A (xs.take n).length c) (xs.take n).length (itemCells (xs.take n)) ∧ Below W.heap.size W w'
/-- what a page that has ended early holds -/
def PageStop (s n0 : Nat) (xs : List Item) (n : Int) (V : World) (Y : List Nat) : Prop :=
  ∃ (A : Option Addr) (c m : Nat), m = n.toNat ∧ m < xs.length ∧ Y = [s, s + 1, s + 2, s + 3] ++ (Value.slice A m c).ownBlock.toList ∧ Var V (s + 1) (.slice A m c) ∧ Var V (s + 2) (.bool true) ∧ Var V (s + 3) (.string (pageNext xs m)) ∧ V.ownsRow n0 31 2 (.slice A m c) m (itemCells (xs.take m))
/-- one round of Page -/
theorem page_round {V w3 : World} {s n0 : Nat} {v p r : Value} {A A3 : Option Addr} {c c3 m k : Nat} {xs ys : List Value} {B : List Nat} {o : Obj} (hn : s + 3 < n0) (hB : ∀ q ∈ B, q < n0 ∧ s + 4 ≤ q)
    (h1 : Var V s v) (h2 : Var V (s + 1) (.slice A m c)) (h3 : Var V (s + 2) p) (h4 : Var V (s + 3) r) (hr : V.ownsRow n0 31 2 (.slice A m c) m xs)
    (tt : Touch (Value.slice A m c).ownBlock.toList V w3) (ho : w3.ownsRow n0 31 2 (.slice A3 k c3) k ys) (hs : SameOrNew (V.alloc o) (.slice A m c) (.slice A3 k c3)) :
    Left B ([s, s + 1, s + 2, s + 3] ++ (Value.slice A m c).ownBlock.toList) V (w3.setCell ⟨s + 1, 0, none⟩ (.slice A3 k c3)) ([s, s + 1, s + 2, s + 3] ++ (Value.slice A3 k c3).ownBlock.toList) ∧
    Var (w3.setCell ⟨s + 1, 0, none⟩ (.slice A3 k c3)) s v ∧ Var (w3.setCell ⟨s + 1, 0, none⟩ (.slice A3 k c3)) (s + 1) (.slice A3 k c3) ∧ Var (w3.setCell ⟨s + 1, 0, none⟩ (.slice A3 k c3)) (s + 2) p ∧ Var (w3.setCell ⟨s + 1, 0, none⟩ (.slice A3 k c3)) (s + 3) r ∧
    (w3.setCell ⟨s + 1, 0, none⟩ (.slice A3 k c3)).ownsRow n0 31 2 (.slice A3 k c3) k ys := by
  have l1 := h1.lt
  have l2 := h2.lt
  have l3 := h3.lt
  have l4 := h4.lt
  have hown : ∀ q, q ∈ (Value.slice A m c).ownBlock.toList → n0 ≤ q ∧ q < V.heap.size := fun q hq => hr.lt q (by simpa using hq)
  have e4 : (w3.setCell ⟨s + 1, 0, none⟩ (.slice A3 k c3)).heap.size = w3.heap.size := by simp [World.setCell]
  have s3 := tt.size
  have own3 : ∀ q, (Value.slice A3 k c3).ownBlock = some q → n0 ≤ q ∧ q < w3.heap.size := fun q hq => ho.lt q hq
  have no : ∀ q, q < n0 → q ∉ (Value.slice A m c).ownBlock.toList := fun q hq y => by have := hown q y; omega
  refine ⟨⟨⟨(s + 1) :: (Value.slice A m c).ownBlock.toList, (tt.mono (fun x hx => by simp [hx])).set (.inl (by simp)) _, ?_⟩, ?_⟩, (h1.touch tt (no _ (by omega))).other (by omega) _ _, (h2.touch tt (no _ (by omega))).set _, (h3.touch tt (no _ (by omega))).other (by omega) _ _, (h4.touch tt (no _ (by omega))).other (by omega) _ _, ?_⟩
  · intro q hq
    refine ⟨?_, fun y => ?_⟩
    · simp at hq ⊢
      rcases hq with y | y
      · exact .inr (.inl y)
      · exact .inr (.inr (.inr (.inr y)))
    · have := hB q y
      rcases List.mem_cons.1 hq with z | z
      · omega
      · have := hown q z
        omega
  · intro q hq
    rw [e4]
    rcases List.mem_append.1 hq with y | y
    · exact ⟨by simp at y; omega, .inl (List.mem_append_left _ y)⟩
    · have y' : (Value.slice A3 k c3).ownBlock = some q := by simpa using y
      refine ⟨(own3 q y').2, ?_⟩
      rcases hs q y' with u | u
      · exact .inl (List.mem_append_right _ (by simp [u]))
      · simp at u
        exact .inr (by omega)
  · exact ((Touch.refl [s + 1] _).set (.inl (by simp)) _).row ho (fun q hq y => by
      have := own3 q hq
      simp at y
      omega)
/-- the three results stored as they are -/
theorem page_fin {V S : World} {s n0 D : Nat} {A : Option Addr} {c m : Nat} {b : Bool} {x : ByteArray} {xs : List Value} (hS : S = (((V.setCell ⟨s + 1, 0, none⟩ (.slice A m c)).setCell ⟨s + 1 + 1, 0, none⟩ (.bool b)).setCell ⟨s + 1 + 1 + 1, 0, none⟩ (.string x)).drew)
    (hn : s + 3 < n0) (hD : n0 ≤ D) (hDn : D ∉ (Value.slice A m c).ownBlock.toList) (h2 : Var V (s + 1) (.slice A m c)) (h3 : Var V (s + 2) (.bool b)) (h4 : Var V (s + 3) (.string x)) (hr : V.ownsRow n0 31 2 (.slice A m c) m xs) (hK : V.heap[D]? = some (.deferred (some []))) :
    S.heap[D]? = some (.deferred (some [])) ∧ (S.putObj D (.deferred none)).cell? ⟨s + 1, 0, none⟩ = some (.slice A m c) ∧ (S.putObj D (.deferred none)).cell? ⟨s + 1 + 1, 0, none⟩ = some (.bool b) ∧ (S.putObj D (.deferred none)).cell? ⟨s + 1 + 1 + 1, 0, none⟩ = some (.string x) ∧
    (S.putObj D (.deferred none)).ownsRow n0 31 2 (.slice A m c) m xs ∧ Touch [s + 1, s + 2, s + 3] V S := by
  have tS : Touch [s + 1, s + 2, s + 3] V S := by
    rw [hS]; exact ((((Touch.refl _ _).set (.inl (by simp)) _).set (.inl (by simp)) _).set (.inl (by simp)) _).drew
  have hK' : S.heap[D]? = some (.deferred (some [])) := (tS.block D (Array.getElem?_eq_some_iff.1 hK).1 (by simp; omega)).trans hK
  have hp : Touch [D] S (S.putObj D (.deferred none)) := (Touch.refl _ _).put (.inl (by simp)) _
  have g2 : Var S (s + 1) (.slice A m c) := by
    rw [hS]; exact (((h2.set _).other (by omega) _ _).other (by omega) _ _).touch (G := []) (Touch.refl _ _).drew (by simp)
  have g3 : Var S (s + 1 + 1) (.bool b) := by
    rw [hS]; exact (((h3.other (by omega) _ _).set _).other (by omega) _ _).touch (G := []) (Touch.refl _ _).drew (by simp)
  have g4 : Var S (s + 1 + 1 + 1) (.string x) := by
    rw [hS]; exact (((h4.other (by omega) _ _).other (by omega) _ _).set _).touch (G := []) (Touch.refl _ _).drew (by simp)
  refine ⟨hK', (g2.touch hp (by simp; omega)).val, (g3.touch hp (by simp; omega)).val, (g4.touch hp (by simp; omega)).val, hp.row (tS.row hr (fun q hq z => ?_)) (fun q hq z => hDn (by simp at z; simp [← z, hq])), tS⟩
  have := (hr.lt q hq).1
  simp at z
  omega
set_option maxRecDepth 100000 in
set_option maxHeartbeats 8000000 in
theorem page_src {W : World} {p : Option Addr} {l : List Item} (hs : Src W p l) (f t : ByteArray) (n : Int) (h0 : -9223372036854775808 ≤ n) (h1 : n ≤ 9223372036854775807) :
    Calls Tryz.prog 80 #[.pointer p, .string f, .string t, .int .i64 n] W (PagePost W (rangeL l f t) n.toNat) := by
  have HS := Lib.hid hs
  obtain ⟨i0, hi0, hz0, hs0, hb0⟩ := infoItems
  have hxs : (rangeL l f t).length ≤ 200 := by
    have h2 := List.length_filter_le (fun x : Item => !lessB x.1 f && (t.size == 0 || lessB x.1 t)) l
    have h3 := HS.out.len
    show (l.filter _).length ≤ 200
    omega
  have HX := Lib.hid hxs
  clear hs hxs
  refine (callsIn_wide (n := 0)).1 (callsIn_of_wp_marks Tryz.func80 rfl trivial ?_ rfl)
  simp only [Tryz.ntmps80, List.size_toArray, List.length_cons, List.length_nil, Nat.reduceAdd, Nat.reduceSub, Array.replicate_succ, Array.replicate_zero, List.push_toArray, List.append_toArray, List.nil_append, List.cons_append]
  obtain ⟨W0, hW0⟩ : ∃ W0, (((W.alloc (.cells #[.int .i64 n] 3)).alloc (.cells #[.slice none 0 0] 22)).alloc (.cells #[.bool false] 4)).alloc (.cells #[.string ⟨#[]⟩] 9) = W0 := ⟨_, rfl⟩
  have v1 : Var W0 W.heap.size (.int .i64 n) := by
    rw [← hW0]; exact (((Var.new W _ _).old _).old _).old _
  have v2 : Var W0 (W.heap.size + 1) (.slice none 0 0) := by
    have z := ((Var.new (W.alloc (.cells #[.int .i64 n] 3)) (.slice none 0 0) 22).old (.cells #[.bool false] 4)).old (.cells #[.string ⟨#[]⟩] 9)
    rw [World.size_alloc] at z
    rw [← hW0]; exact z
  have v3 : Var W0 (W.heap.size + 2) (.bool false) := by
    have z := (Var.new ((W.alloc (.cells #[.int .i64 n] 3)).alloc (.cells #[.slice none 0 0] 22)) (.bool false) 4).old (.cells #[.string ⟨#[]⟩] 9)
    rw [World.size_alloc, World.size_alloc] at z
    rw [← hW0]; exact z
  have v4 : Var W0 (W.heap.size + 3) (.string ⟨#[]⟩) := by
    have z := Var.new (((W.alloc (.cells #[.int .i64 n] 3)).alloc (.cells #[.slice none 0 0] 22)).alloc (.cells #[.bool false] 4)) (.string ⟨#[]⟩) 9
    rw [World.size_alloc, World.size_alloc, World.size_alloc] at z
    rw [← hW0]; exact z
  have hb0' : Below W.heap.size W W0 := by
    rw [← hW0]; exact ((((Below.refl _ W).alloc (Nat.le_refl _) _).alloc (by simp) _).alloc (by simp; omega) _).alloc (by simp; omega) _
  have hs0' : W0.heap.size = W.heap.size + 4 := by rw [← hW0]; simp
  have HV1 := Lib.hid v1
  have HV2 := Lib.hid v2
  have HV3 := Lib.hid v3
  have HV4 := Lib.hid v4
  have HB0 := Lib.hid hb0'
  have HS0 := Lib.hid hs0'
  have HW0 := Lib.hid hW0
  clear v1 v2 v3 v4 hb0' hs0' hW0
  gi_wp2
  refine wpIn_wide.2 (wp_scope_straight ((wpIn_wide (n := 0)).1 ?_))
  gi_wp2
  refine wpIn_label ?_
  gi_wp2_with (refine ⟨trivial, rfl, ?_⟩; gi_at_call 87; refine (callsIn_wide.2 (range_post p f t _)).mono ?_; rintro e W2 ⟨a0, a1, a2, rfl, ca0, ca1, ca2, la1, la2, hb2⟩)
  rw [HW0.out] at hb2 la1 la2
  have HB : Hid (Below W.heap.size W W2) := HB0.out.trans (hb2.mono HB0.out.size)
  have v1 := HV1.out.below hb2
  have v2 := HV2.out.below hb2
  have v3 := HV3.out.below hb2
  have v4 := HV4.out.below hb2
  have hz : W.heap.size + 4 ≤ W2.heap.size := by have := hb2.size; rw [HS0.out] at this; exact this
  have lt1 : a1 < W2.heap.size := World.block_lt_of_cell? W2 _ ca1
  have lt2 : a2 < W2.heap.size := World.block_lt_of_cell? W2 _ ca2
  rw [HS0.out] at la1 la2
  clear hb2
  have hBB : ∀ q ∈ [a1, a2], q < W2.heap.size ∧ W.heap.size + 4 ≤ q := fun q hq => by simp at hq; omega
  have HBB := Lib.hid hBB
  clear hBB la1 la2
  refine wp_ways (gf := 103) (lb := #[.pointer (some ⟨a0, 0, none⟩), .pointer (some ⟨a1, 0, none⟩), .pointer (some ⟨a2, 0, none⟩)]) rfl (enters_of Tryz.func103 (by kernel_rfl) rfl) (xs := rangeL l f t) (B := [a1, a2])
    (fun V hV => rangeWay HS.out.rising (fun w hw => HS.out.items w (HB.out.trans ((hV.mono HB.out.size).trans (hw.mono (Nat.le_trans HB.out.size hV.size))))) ((hV.cell (p := ⟨a0, 0, none⟩) (World.block_lt_of_cell? W2 _ ca0)).trans ca0) ((hV.cell (p := ⟨a1, 0, none⟩) lt1).trans ca1) ((hV.cell (p := ⟨a2, 0, none⟩) lt2).trans ca2) [a1, a2] (by simp) (by simp) (fun q hq => Nat.lt_of_lt_of_le (HBB.out q hq).1 hV.size)) (fun q hq => (HBB.out q hq).1) rfl
    (fun m V Y => ∃ A c, Y = [W.heap.size, W.heap.size + 1, W.heap.size + 2, W.heap.size + 3] ++ (Value.slice A m c).ownBlock.toList ∧ Var V W.heap.size (.int .i64 n) ∧ Var V (W.heap.size + 1) (.slice A m c) ∧ Var V (W.heap.size + 2) (.bool false) ∧ Var V (W.heap.size + 3) (.string ⟨#[]⟩) ∧ V.ownsRow W2.heap.size 31 2 (.slice A m c) m (itemCells ((rangeL l f t).take m)) ∧ m ≤ n.toNat)
    (fun k V Y => k = .exit 0 ∧ PageStop W.heap.size W2.heap.size (rangeL l f t) n V Y)
    [W.heap.size, W.heap.size + 1, W.heap.size + 2, W.heap.size + 3] (by simp; omega) ⟨none, 0, rfl, v1, v2, v3, v4, World.ownsRow_nil _ _ _ _, Nat.zero_le _⟩
    (by
      rintro m V V1 Y G ⟨A, c, rfl, h1, h2, h3, h4, h5, h6⟩ tt hn
      exact ⟨A, c, rfl, h1.touch tt (hn _ (by simp)), h2.touch tt (hn _ (by simp)), h3.touch tt (hn _ (by simp)), h4.touch tt (hn _ (by simp)), tt.row h5 (fun q hq => hn q (by simp [hq])), h6⟩)
    (by
      rintro k V V1 Y G ⟨h1, A, c, m, h2, h3, rfl, h5, h6, h7, h8⟩ tt hn
      exact ⟨h1, A, c, m, h2, h3, rfl, h5.touch tt (hn _ (by simp)), h6.touch tt (hn _ (by simp)), h7.touch tt (hn _ (by simp)), tt.row h8 (fun q hq => hn q (by simp [hq]))⟩)
    (fun x => { tmps := #[.pointer p, .string f, .string t, .int .i64 n, undef, undef, undef, .pointer (some ⟨W.heap.size, 0, none⟩), .pointer (some ⟨W.heap.size + 1, 0, none⟩), .pointer (some ⟨W.heap.size + 1 + 1, 0, none⟩), .pointer (some ⟨W.heap.size + 1 + 1 + 1, 0, none⟩), .string x.1, .string x.2, .pointer p, .string f, .string t, .func (.func 103) #[] #[.pointer (some ⟨a0, 0, none⟩), .pointer (some ⟨a1, 0, none⟩), .pointer (some ⟨a2, 0, none⟩)], .string x.1, .string x.2, undef, undef, undef, undef, undef, undef, undef, undef, undef, undef, undef, undef, undef, undef, undef], defers := [] })
    ?assign ?body ?done ?stop
  case assign =>
    intro lp x V K hK
    gi_wp2
    exact hK
  case body =>
    rintro lp m ⟨xk, xv⟩ V Y hV hx ⟨A, c, rfl, h1, h2, h3, h4, h5, h6⟩ hY
    have hm1 := (List.getElem?_eq_some_iff.1 hx).1
    have hm : m < 200 := by
      have := HX.out
      omega
    have htk : (rangeL l f t).take (m + 1) = (rangeL l f t).take m ++ [(xk, xv)] := by rw [List.take_add_one, hx]; rfl
    have hnx : pageNext (rangeL l f t) m = xk := by rw [pageNext, hx]
    have HNX := Lib.hid hnx
    have c1 := h1.val
    have c2 := h2.val
    have f2 := h2.free
    have c3 := h3.val
    have f3 := h3.free
    have c4 := h4.val
    have f4 := h4.free
    have H1 := Lib.hid h1
    have H2 := Lib.hid h2
    have H3 := Lib.hid h3
    have H4 := Lib.hid h4
    have HR := Lib.hid h5
    have HTK := Lib.hid htk
    have HY := Lib.hid hY
    have hsz : W2.heap.size ≤ V.heap.size := hV
    have HN : Hid (∀ q, q < W2.heap.size → q ∉ (Value.slice A m c).ownBlock.toList) := fun q hq z => by
      have := (HR.out.lt q (by simpa using z)).1
      omega
    clear h1 h2 h3 h4 h5 htk hY hx hnx
    by_cases hlt : (m : Int) < n
    · have t1 : decide ((m : Int) < n) = true := by simpa using hlt
      gi_wp2_with (gi_at_builtin; refine wpListIn_append_any rfl (.tmp 25) (.tmp 29) 22 rfl W2.heap.size 31 i0 (.agg #[.string ⟨#[]⟩, .string ⟨#[]⟩]) 2 32 Tryz.underlying22 hi0 hz0 hs0 hb0 rfl (by decide) (.slice A m c) m (itemCells ((rangeL l f t).take m)) rfl (HR.out.alloc _) (.slice (some ⟨V.heap.size, 0, none⟩) 1 1) 1 (itemCells [(xk, xv)]) rfl (item_src _ _ xk xv (heap_alloc_new _ _)) (items_one _) (by unfold maxLen; omega) (by omega) (by simp; omega) ?_; intro A3 c3' w3 ho3 hg3 hs3; have tt : Touch (Value.slice A m c).ownBlock.toList V w3 := ((Touch.refl _ V).alloc _).grown hg3 (fun k hk => .inl (by simp [hk])); have HTT := Lib.hid tt; have c2 := (H2.out.touch tt (HN.out _ (by omega))).val; have f2 := (H2.out.touch tt (HN.out _ (by omega))).free; have HO3 := Lib.hid ho3; have HS3 := Lib.hid hs3; clear tt ho3 hg3 hs3)
      obtain ⟨z1, z2, z3, z4, z5, z6⟩ := page_round (by omega) HBB.out H1.out H2.out H3.out H4.out HR.out HTT.out HO3.out HS3.out
      exact ⟨_, z1, A3, c3', rfl, z2, z3, z4, z5, by rw [HTK.out, itemCells_append]; exact z6, by omega⟩
    · have t1 : decide ((m : Int) < n) = false := by simpa using hlt
      gi_wp2
      refine ⟨_, ⟨⟨[W.heap.size + 2, W.heap.size + 3], ((Touch.refl _ _).set (.inl (by simp)) _).set (.inl (by simp)) _, fun q hq => ⟨by simp at hq; simp; omega, fun y => by have := HBB.out q y; simp at hq; omega⟩⟩, fun q hq => ⟨by simpa [World.setCell] using HY.out q hq, .inl hq⟩⟩, rfl, A, c, m, by omega, hm1, rfl, (H2.out.other (by omega) _ _).other (by omega) _ _, (H3.out.set _).other (by omega) _ _, by rw [HNX.out]; exact (H4.out.other (by omega) _ _).set _, ?_⟩
      exact (((Touch.refl [W.heap.size + 2, W.heap.size + 3] _).set (.inl (by simp)) _).set (.inl (by simp)) _).row HR.out (fun q hq z => by
        have := (HR.out.lt q hq).1
        simp at z
        omega)
  case done =>
    rintro D V Y hD hDn hL ⟨A, c, rfl, h1, h2, h3, h4, h5, h6⟩ hK
    obtain ⟨S, hS⟩ : ∃ S, S = (((V.setCell ⟨W.heap.size + 1, 0, none⟩ (.slice A (rangeL l f t).length c)).setCell ⟨W.heap.size + 1 + 1, 0, none⟩ (.bool false)).setCell ⟨W.heap.size + 1 + 1 + 1, 0, none⟩ (.string ⟨#[]⟩)).drew := ⟨_, rfl⟩
    obtain ⟨k1, k2, k3, k4, k5, k6⟩ := page_fin hS (by omega) hD (fun z => hDn (List.mem_append_right _ z)) h2 h3 h4 h5 hK
    have hB := Left.new HB.out hL (by simp)
    have HD : Hid (Below W.heap.size W (S.putObj D (.deferred none))) := (Touch.acc hB k6 (by simp)).trans (belowK_b (w := W) (Nat.le_refl _) S D _ _ (by omega) k1 rfl rfl)
    have e : (rangeL l f t).take n.toNat = (rangeL l f t).take (rangeL l f t).length := by rw [List.take_of_length_le h6, List.take_length]
    have HE : Hid ((rangeL l f t).take n.toNat = rangeL l f t ∧ decide (n.toNat < (rangeL l f t).length) = false ∧ pageNext (rangeL l f t) n.toNat = ⟨#[]⟩) := ⟨by rw [e, List.take_length], by simpa using h6, by rw [pageNext, List.getElem?_eq_none h6]⟩
    rw [List.take_length] at k5
    have c2 := h2.val
    have f2 := h2.free
    have c3 := h3.val
    have f3 := h3.free
    have c4 := h4.val
    have f4 := h4.free
    have HSS := Lib.hid hS
    have K1 := Lib.hid k1
    have K2 := Lib.hid k2
    have K3 := Lib.hid k3
    have K4 := Lib.hid k4
    have K5 := Lib.hid k5
    clear hS k1 k2 k3 k4 k5 k6 hL h1 h2 h3 h4 h5 h6 hK hB e
    gi_wp2
    refine wpIn_wide.2 ?_
    go_region
    rw [← HSS.out]
    gi_wp2
    refine ⟨by simp, .inl ⟨_, _, rfl, run_takeDeferred K1.out, ?_⟩⟩
    have c2 := K2.out
    have c3 := K3.out
    have c4 := K4.out
    refine ⟨.tuple #[.slice A (rangeL l f t).length c, .bool false, .string ⟨#[]⟩], ?_, A, c, ?_, ?_, HD.out⟩
    · simp [results, Tryz.results80, go_sem, c2, c3, c4]
    · rw [HE.out.1, HE.out.2.1, HE.out.2.2]
    · rw [HE.out.1]; exact own_mono K5.out HB.out.size
  case stop =>
    rintro D k V Y hD hDn hL ⟨rfl, A, c, m, h2, h3, rfl, h5, h6, h7, h8⟩ hK
    obtain ⟨S, hS⟩ : ∃ S, S = (((V.setCell ⟨W.heap.size + 1, 0, none⟩ (.slice A m c)).setCell ⟨W.heap.size + 1 + 1, 0, none⟩ (.bool true)).setCell ⟨W.heap.size + 1 + 1 + 1, 0, none⟩ (.string (pageNext (rangeL l f t) m))).drew := ⟨_, rfl⟩
    obtain ⟨k1, k2, k3, k4, k5, k6⟩ := page_fin hS (by omega) hD (fun z => hDn (List.mem_append_right _ z)) h5 h6 h7 h8 hK
    have hB := Left.new HB.out hL (by simp)
    have HD : Hid (Below W.heap.size W (S.putObj D (.deferred none))) := (Touch.acc hB k6 (by simp)).trans (belowK_b (w := W) (Nat.le_refl _) S D _ _ (by omega) k1 rfl rfl)
    have HE : Hid (n.toNat = m ∧ ((rangeL l f t).take m).length = m ∧ decide (m < (rangeL l f t).length) = true) := ⟨h2.symm, by rw [List.length_take]; omega, by simpa using h3⟩
    have c2 := h5.val
    have f2 := h5.free
    have c3 := h6.val
    have f3 := h6.free
    have c4 := h7.val
    have f4 := h7.free
    have HSS := Lib.hid hS
    have K1 := Lib.hid k1
    have K2 := Lib.hid k2
    have K3 := Lib.hid k3
    have K4 := Lib.hid k4
    have K5 := Lib.hid k5
    clear hS k1 k2 k3 k4 k5 k6 hL h2 h3 h5 h6 h7 h8 hK hB
    gi_wp2
    refine wpIn_wide.2 ?_
    go_region
    rw [← HSS.out]
    gi_wp2
    refine ⟨by simp, .inl ⟨_, _, rfl, run_takeDeferred K1.out, ?_⟩⟩
    have c2 := K2.out
    have c3 := K3.out
    have c4 := K4.out
    refine ⟨.tuple #[.slice A m c, .bool true, .string (pageNext (rangeL l f t) m)], ?_, A, c, ?_, ?_, HD.out⟩
    · simp [results, Tryz.results80, go_sem, c2, c3, c4]
    · rw [HE.out.1, HE.out.2.1, HE.out.2.2]
    · rw [HE.out.1, HE.out.2.1]; exact own_mono K5.out HB.out.size
end Go.Proofs.YthgndgoljchnfaaGreat
