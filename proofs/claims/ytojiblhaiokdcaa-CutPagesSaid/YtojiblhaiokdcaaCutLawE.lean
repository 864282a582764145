/-
  CutPages: pages one behind the other, each from where the one ahead of it ended, are the whole range. (Written by tools/genCPages.py.)
-/
import Derived.Test.YtojiblhaiokdcaaCutBegin
import Derived.Test.YtojiblhaiokdcaaCutLawA
import Derived.Test.YtojiblhaiokdcaaCutLawC
namespace Go.Proofs.Ytojiblhaiokdcaa
open Go.RowKit

theorem lessB_below {a b f : ByteArray} (h : lessB a f = true) (k : lessB b f = false) : lessB a b = true := by
  by_cases e : a = b
  · rw [e, k] at h; cases h
  · rcases lessB_total e with z | z
    · exact z
    · rw [lessB_trans z h] at k; cases k
theorem rangeL_rising {l : List Item} (h : Rising l) (f t : ByteArray) : Rising (rangeL l f t) := h.filter _
/-- a range from one of its items on -/
theorem rangeL_from {l : List Item} (h : Rising l) {f t : ByteArray} {j : Nat} {y : Item} (hy : (rangeL l f t)[j]? = some y) : rangeL l y.1 t = (rangeL l f t).drop j := by
  have hX := rangeL_rising h f t
  have hmem := List.mem_of_getElem? hy
  refine rising_ext (rangeL_rising h y.1 t) (hX.sublist (List.drop_sublist _ _)) fun x => ?_
  have hf : lessB y.1 f = false := by
    have z := (List.mem_filter.1 hmem).2
    cases c : lessB y.1 f
    · rfl
    · rw [c] at z; simp at z
  constructor
  · intro hx
    obtain ⟨x1, x2⟩ := List.mem_filter.1 hx
    rw [Bool.and_eq_true] at x2
    have hx3 : lessB x.1 y.1 = false := by simpa using x2.1
    have hxX : x ∈ rangeL l f t := List.mem_filter.2 ⟨x1, by
      rw [Bool.and_eq_true]
      refine ⟨?_, x2.2⟩
      cases c : lessB x.1 f
      · rfl
      · rw [lessB_below c hf] at hx3; cases hx3⟩
    rw [← List.take_append_drop j (rangeL l f t), List.mem_append] at hxX
    rcases hxX with z | z
    · obtain ⟨i, hi, rfl⟩ := List.getElem_of_mem z
      rw [List.length_take] at hi
      rw [List.getElem_take] at hx3
      obtain ⟨hj, rfl⟩ := List.getElem?_eq_some_iff.1 hy
      have := (List.pairwise_iff_getElem.1 hX) i j (by omega) hj (by omega)
      rw [this] at hx3
      cases hx3
    · exact z
  · intro hx
    have hxX := (List.drop_sublist _ _).subset hx
    obtain ⟨x1, x2⟩ := List.mem_filter.1 hxX
    rw [Bool.and_eq_true] at x2
    refine List.mem_filter.2 ⟨x1, ?_⟩
    rw [Bool.and_eq_true]
    refine ⟨?_, x2.2⟩
    rcases rising_from hX hy x hx with rfl | z
    · rw [lessB_irrefl]; rfl
    · rw [lessB_asymm z]; rfl
theorem fillL_few (zs : List Item) : (fillL zs).length ≤ zs.length := by
  have h := foldl_length (zs.take 60) []
  rw [List.length_take] at h
  unfold fillL
  simp at h
  omega
section
variable {W V w w1 : World} {P : List Nat} {g : Nat} {m : Int} {l : List Item}
theorem S1.write {G : List Nat} (h : S1 W w P g m l) (t : Touch G w w1) (hG : ∀ q ∈ G, q ∈ P ∧ W.heap.size ≤ q) : S1 W w1 P g m l := by
  obtain ⟨a, F, b, d, f⟩ := h
  exact ⟨Touch.acc a t (fun q hq => (hG q hq).2), F, b.touch t (fun q hq z => (d q hq).2 (hG q z).1), d, fun q hq => Nat.lt_of_lt_of_le (f q hq) t.size⟩
/-- .. and a block that is his, or new -/
theorem S1.grown {G Q : List Nat} (h : S1 W w P g m l) (t : Touch G w w1) (hG : ∀ q ∈ G, q ∈ P ∧ W.heap.size ≤ q) (hQ : ∀ q ∈ Q, q < w1.heap.size ∧ (q ∈ P ∨ w.heap.size ≤ q)) : S1 W w1 Q g m l := by
  obtain ⟨a, F, b, d, f⟩ := h
  refine ⟨Touch.acc a t (fun q hq => (hG q hq).2), F, b.touch t (fun q hq z => (d q hq).2 (hG q z).1), fun q hq => ⟨(d q hq).1, fun z => ?_⟩, fun q hq => (hQ q hq).1⟩
  rcases (hQ q z).2 with y | y
  · exact (d q hq).2 y
  · have := b.ltF q hq; omega
end
/-- a shelf, the document's, and a list of the caller's that grows -/
structure PX (V w : World) (n0 gs gr : Nat) (Fr : List Nat) (l : List Item) (A : Option Addr) (m c : Nat) (X : List Item) : Prop where
  s : S1 V w (gr :: Fr ++ (Value.slice A m c).ownBlock.toList) gs 200 l
  r : RS w gr Fr 200 l
  lo : ∀ q ∈ gr :: Fr, q < n0
  sz : V.heap.size ≤ n0
  row : w.ownsRow n0 39 2 (.slice A m c) m (itemCells (X.take m))
theorem PX.below {V w w1 : World} {n0 gs gr : Nat} {Fr : List Nat} {l : List Item} {A : Option Addr} {m c : Nat} {X : List Item} (h : PX V w n0 gs gr Fr l A m c X) (hb : Below w.heap.size w w1) : PX V w1 n0 gs gr Fr l A m c X :=
  ⟨h.s.below hb, h.r.touch (Touch.ofBelow (F := []) hb) (by simp) (by simp), h.lo, h.sz, own_keep h.row hb⟩
theorem PX.grow {V w w1 : World} {n0 gs gr : Nat} {Fr : List Nat} {l : List Item} {A A3 : Option Addr} {m c m3 c3 : Nat} {X : List Item} (h : PX V w n0 gs gr Fr l A m c X) (hg : w.grownBy w1 (Value.slice A m c).ownBlock) (hs : SameOrNew w (.slice A m c) (.slice A3 m3 c3))
    (hr : w1.ownsRow n0 39 2 (.slice A3 m3 c3) m3 (itemCells (X.take m3))) : PX V w1 n0 gs gr Fr l A3 m3 c3 X := by
  have t : Touch (Value.slice A m c).ownBlock.toList w w1 := (Touch.refl _ _).grown hg (fun k hk => .inl (by simp [hk]))
  have ho : ∀ q ∈ (Value.slice A m c).ownBlock.toList, n0 ≤ q := fun q hq => (h.row.lt q (by simpa using hq)).1
  refine ⟨h.s.grown t (fun q hq => ⟨List.mem_append_right _ hq, Nat.le_trans h.sz (ho q hq)⟩) (fun q hq => ?_), h.r.touch t (fun z => ?_) (fun q hq z => ?_), h.lo, h.sz, hr⟩
  · rcases List.mem_append.1 hq with z | z
    · obtain ⟨_, _, _, _, f⟩ := h.s
      exact ⟨Nat.lt_of_lt_of_le (f q (List.mem_append_left _ z)) t.size, .inl (List.mem_append_left _ z)⟩
    · have z' : (Value.slice A3 m3 c3).ownBlock = some q := by simpa using z
      refine ⟨(hr.lt q z').2, ?_⟩
      rcases hs q z' with y | y
      · exact .inl (List.mem_append_right _ (by simp [y]))
      · exact .inr y
  · have := ho _ z
    have := h.lo gr (by simp)
    omega
  · have := ho _ z
    have := h.lo q (by simp [hq])
    omega
set_option maxRecDepth 100000 in
set_option maxHeartbeats 8000000 in
theorem cutPagesGo (A0 : Option Addr) (c0 : Nat) (zs : List Item) (f t : ByteArray) (mo : Nat) (W : World) (hA : ItemsAt W A0 zs) (hz : zs.length ≤ 60) (hf : f.size ≤ 40) (ht : t.size ≤ 40) (hm0 : 1 ≤ mo) (hm1 : mo ≤ 40) :
    Calls Try.prog 4 #[.slice A0 zs.length c0, .string f, .string t, .int .i64 (mo : Nat)] W fun e w' => e = .returned (.bool true) ∧ Below W.heap.size W w' := by
  have CA : Hid (∀ w, Calls Try.prog 9 #[] w fun e w' => e = .returned (.bool true) ∧ Below w.heap.size w w') := fun w => cutAlive_any w w (Below.refl _ _)
  obtain ⟨i0, hi0, hz0, hs0, hb0⟩ := infoItems
  obtain ⟨l, hl⟩ : ∃ l, fillL zs = l := ⟨_, rfl⟩
  have hfine : Fine l := by rw [← hl]; exact fillL_fine zs
  have hfew : l.length ≤ zs.length := by rw [← hl]; exact fillL_few zs
  obtain ⟨X, hX⟩ : ∃ X, rangeL l f t = X := ⟨_, rfl⟩
  have hXl : X.length ≤ l.length := by rw [← hX]; exact List.length_filter_le _ _
  have HR0 := Lib.hid hfine.1
  have CF : Hid (∀ w, Below W.heap.size W w → Calls Try.prog 10 #[.slice A0 zs.length c0] w fun e w' => ∃ gs gr Fr, e = .returned (.tuple #[.pointer (some ⟨gs, 0, none⟩), .pointer (some ⟨gr, 0, none⟩)]) ∧ PX W w' w'.heap.size gs gr Fr l none 0 0 X) := fun w hw => (filled_any shelfLaws A0 c0 zs W w hw hA (by omega)).mono (by
    rintro e w' ⟨gs, gr, rfl, z⟩
    rw [hl] at z
    obtain ⟨Fr, z1, z2⟩ := S1.of z
    refine ⟨gs, gr, Fr, rfl, by simpa [Value.ownBlock] using z1, z2, ?_, z1.1.size, World.ownsRow_nil _ _ _ _⟩
    obtain ⟨_, _, _, _, f⟩ := z1
    exact f)
  have CP : Hid (∀ w n0 gs gr Fr A m c a xs, rangeL l a t = xs → PX W w n0 gs gr Fr l A m c X → Calls Try.prog 18 #[.pointer (some ⟨gs, 0, none⟩), .string a, .string t, .int .i64 (mo : Nat)] w fun e w' =>
      ∃ A2 c2, e = .returned (.tuple #[.slice A2 (xs.take mo).length c2, .bool (decide (mo < xs.length)), .string (pageNext xs mo)]) ∧ w'.ownsRow 0 39 2 (.slice A2 (xs.take mo).length c2) (xs.take mo).length (itemCells (xs.take mo)) ∧ PX W w' n0 gs gr Fr l A m c X ∧ w.heap.size ≤ w'.heap.size) := fun w n0 gs gr Fr A m c a xs hx h => (h.s.page a t (mo : Nat) (by omega) (by omega) hx).mono (by
    rintro e w' ⟨⟨A2, c2, rfl, z1, z2⟩, z3⟩
    exact ⟨A2, c2, rfl, own_mono z1 (Nat.zero_le _), h.below z2, z2.size⟩)
  have CRR : Hid (∀ w n0 gs gr Fr A m c, PX W w n0 gs gr Fr l A m c X → Calls Try.prog 20 #[.pointer (some ⟨gr, 0, none⟩), .string f, .string t] w fun e w' =>
      ∃ A2 c2, e = .returned (.slice A2 X.length c2) ∧ w'.ownsRow 0 39 2 (.slice A2 X.length c2) X.length (itemCells X) ∧ PX W w' n0 gs gr Fr l A m c X) := fun w n0 gs gr Fr A m c h => (refRange_any gr Fr 200 l f t w h.r (by omega)).mono (by
    rintro e w' ⟨A2, c2, rfl, z1, z2⟩
    rw [hX] at z1 ⊢
    exact ⟨A2, c2, rfl, own_mono z1 (Nat.zero_le _), h.below z2⟩)
  obtain ⟨nX, hnX⟩ : ∃ n, X.length = n := ⟨_, rfl⟩
  rw [hnX] at CRR hXl
  have CS : Hid (∀ w A B c d, w.ownsRow 0 39 2 (.slice A nX c) nX (itemCells X) → w.ownsRow 0 39 2 (.slice B nX d) nX (itemCells X) → Calls Try.prog 19 #[.slice A nX c, .slice B nX d] w fun e w' => e = .returned (.bool true) ∧ ∃ j, w' = w.drewN j) := fun w A B c d h1 h2 => same_any A B c d nX _ _ X w hnX h1 h2
  have HNX := Lib.hid hnX
  have HXE := Lib.hid hX
  obtain ⟨nz, hnz⟩ : ∃ y, zs.length = y := ⟨_, rfl⟩
  rw [hnz] at CF hz hfew ⊢
  have d0 : decide ((60 : Int) < (nz : Int)) = false := by simp; omega
  have d1 : decide ((40 : Int) < (f.size : Int)) = false := by simp; omega
  have d2 : decide ((40 : Int) < (t.size : Int)) = false := by simp; omega
  have d3 : decide ((mo : Int) < 1) = false := by simp; omega
  have d4 : decide ((40 : Int) < (mo : Int)) = false := by simp; omega
  have hXz : nX ≤ nz := by omega
  clear hA hl hfine hfew hXl hX hnX hnz
  go_enter Try.func4, Try.ntmps4
  go_upto_region 4 with (first
    | (go_at_call 9; (with_reducible refine (CA.out _).mono ?_); rintro e w1 ⟨rfl, h1⟩; have B1 := Lib.hid h1; clear h1)
    | (go_at_call 10; (with_reducible refine (CF.out _ B1.out).mono ?_); rintro e w2 ⟨gs, gr, Fr, rfl, h2⟩; have H2 := Lib.hid h2; clear h2))
  obtain ⟨n0, hn0⟩ : ∃ n, w2.heap.size = n := ⟨_, rfl⟩
  rw [hn0] at H2
  have HZ2 : Hid (n0 ≤ w2.heap.size) := Nat.le_of_eq hn0.symm
  clear hn0
  go_wp2_with fail
  go_loopg [11, 12, 13] (nz + 2) (fun gh s11 s12 s13 wx => ∃ (n m c : Nat) (A : Option Addr) (a : ByteArray), n + gh = nz + 2 ∧ n ≤ nz ∧ s11 = .slice A m c ∧ s12 = .string a ∧ s13 = .int .i64 (n : Nat) ∧ Hid (PX W wx n0 gs gr Fr l A m c X) ∧ Hid (n0 ≤ wx.heap.size) ∧
    Hid (m = n * mo ∧ m ≤ nX ∧ rangeL l a t = X.drop m ∧ (0 < n → ∃ y, X[m]? = some y ∧ y.1 = a)))
  case atStart => exact ⟨0, 0, 0, none, f, by omega, by omega, rfl, rfl, rfl, H2.out, HZ2.out, by simp, by omega, HXE.out, fun h => by omega⟩
  case round =>
    obtain ⟨n, m, c, A, a, hgh, hn, rfl, rfl, rfl, HX, HSZ, HI⟩ := hrel
    have t0 : decide ((n : Int) ≤ (nz : Int)) = true := by simp; omega
    have cp := CP.out wr n0 gs gr Fr A m c a _ HI.out.2.2.1 HX.out
    have hlen : (X.drop m).length = nX - m := by rw [List.length_drop, HNX.out]
    have hmle := HI.out.2.1
    by_cases hmore : mo < nX - m
    · have htl : ((X.drop m).take mo).length = mo := by rw [List.length_take, hlen]; omega
      have htk : itemCells (X.take (m + mo)) = itemCells (X.take m) ++ itemCells ((X.drop m).take mo) := by rw [List.take_add, itemCells_append]
      obtain ⟨y, hy⟩ : ∃ y, X[m + mo]? = some y := ⟨X[m + mo]'(by rw [HNX.out]; omega), List.getElem?_eq_getElem _⟩
      have hnx : pageNext (X.drop m) mo = y.1 := by rw [pageNext, List.getElem?_drop, hy]
      have hst : rangeL l y.1 t = X.drop (m + mo) := by
        have z := HXE.out
        subst z
        exact rangeL_from HR0.out hy
      have hmul : m + mo = (n + 1) * mo := by rw [Nat.add_mul, Nat.one_mul, ← HI.out.1]
      have hn1 : n + 1 ≤ nz := by
        have : n + 1 ≤ (n + 1) * mo := Nat.le_mul_of_pos_right _ (by omega)
        omega
      have hgt : 0 < n → lessB a y.1 = true := fun h => by
        obtain ⟨y0, h0, h1⟩ := HI.out.2.2.2 h
        have hXr : Rising X := by rw [← HXE.out]; exact rangeL_rising HR0.out f t
        obtain ⟨p1, p2⟩ := List.getElem?_eq_some_iff.1 h0
        obtain ⟨q1, q2⟩ := List.getElem?_eq_some_iff.1 hy
        have z := (List.pairwise_iff_getElem.1 hXr) m (m + mo) p1 q1 (by omega)
        rw [p2, q2, h1] at z
        exact z
      rw [htl, hlen, hnx, decide_eq_true hmore] at cp
      have HCP := Lib.hid cp
      have HTK := Lib.hid htk
      have HNI : Hid (m + mo = (n + 1) * mo ∧ m + mo ≤ nX ∧ rangeL l y.1 t = X.drop (m + mo) ∧ (0 < n + 1 → ∃ z, X[m + mo]? = some z ∧ z.1 = y.1)) := ⟨hmul, by omega, hst, fun _ => ⟨y, hy, rfl⟩⟩
      obtain ⟨nx, hnxx⟩ : ∃ nx, y.1 = nx := ⟨_, rfl⟩
      rw [hnxx] at HCP HNI hgt
      clear cp hlen htl htk hnx hst hmul hnxx hy
      obtain ⟨u, hu⟩ : ∃ u, Op.bytesLess nx.toList a.toList = u := ⟨_, rfl⟩
      obtain ⟨v, hv⟩ : ∃ v, (nx.toList == a.toList) = v := ⟨_, rfl⟩
      by_cases hpos : 0 < n
      · have t1 : decide ((0 : Int) < (n : Int)) = true := by simp; omega
        have z := hgt hpos
        obtain rfl : u = false := hu.symm.trans (lessB_asymm z)
        obtain rfl : v = false := by
          rw [← hv, beq_eq_false_iff_ne]
          intro e
          rw [toList_inj e, lessB_irrefl] at z
          cases z
        clear z hgt
        go_wp2_with (first
          | (go_at_call 18; (with_reducible refine HCP.out.mono ?_); rintro e w2' ⟨A2, c2, rfl, r2, x2, z2⟩; have HX2 := Lib.hid x2; have HR2 := Lib.hid r2; have HSZ2 : Hid (n0 ≤ w2'.heap.size) := Nat.le_trans HSZ.out z2; clear r2 x2 z2)
          | (at_builtin; ((refine wpList_append_any rfl (.tmp 64) (.tmp 65) 22 rfl n0 39 i0 (.agg #[.string ⟨#[]⟩, .string ⟨#[]⟩]) 2 32 Try.underlying22 hi0 hz0 hs0 hb0 rfl (by decide) (.slice A m c) m (itemCells (X.take m)) rfl HX2.out.row (.slice A2 mo c2) mo (itemCells ((X.drop m).take mo)) rfl (From.own HR2.out) (items_one _) (by unfold maxLen; omega) (by omega) (by have := HSZ2.out; omega) ?_); intro A3 c3 w3 ho3 hg3 hs3; have HX3 : Hid (PX W w3 n0 gs gr Fr l A3 (m + mo) c3 X) := HX2.out.grow hg3 hs3 (by rw [HTK.out]; exact ho3); have HSZ3 : Hid (n0 ≤ w3.heap.size) := Nat.le_trans HSZ2.out hg3.size; clear ho3 hg3 hs3)))
        go_roundg (gk - 1)
        case measure => omega
        case rel => exact ⟨n + 1, m + mo, c3, A3, nx, by omega, by omega, rfl, rfl, by go_num, HX3, HSZ3, HNI⟩
      · obtain rfl : n = 0 := by omega
        clear hgt
        cases u <;> cases v
        all_goals
          go_wp2_with (first
            | (go_at_call 18; (with_reducible refine HCP.out.mono ?_); rintro e w2' ⟨A2, c2, rfl, r2, x2, z2⟩; have HX2 := Lib.hid x2; have HR2 := Lib.hid r2; have HSZ2 : Hid (n0 ≤ w2'.heap.size) := Nat.le_trans HSZ.out z2; clear r2 x2 z2)
            | (at_builtin; ((refine wpList_append_any rfl (.tmp 64) (.tmp 65) 22 rfl n0 39 i0 (.agg #[.string ⟨#[]⟩, .string ⟨#[]⟩]) 2 32 Try.underlying22 hi0 hz0 hs0 hb0 rfl (by decide) (.slice A m c) m (itemCells (X.take m)) rfl HX2.out.row (.slice A2 mo c2) mo (itemCells ((X.drop m).take mo)) rfl (From.own HR2.out) (items_one _) (by unfold maxLen; omega) (by omega) (by have := HSZ2.out; omega) ?_); intro A3 c3 w3 ho3 hg3 hs3; have HX3 : Hid (PX W w3 n0 gs gr Fr l A3 (m + mo) c3 X) := HX2.out.grow hg3 hs3 (by rw [HTK.out]; exact ho3); have HSZ3 : Hid (n0 ≤ w3.heap.size) := Nat.le_trans HSZ2.out hg3.size; clear ho3 hg3 hs3)))
          go_roundg (gk - 1)
          case measure => omega
          case rel => exact ⟨0 + 1, m + mo, c3, A3, nx, by omega, by omega, rfl, rfl, by go_num, HX3, HSZ3, HNI⟩
    · have htl : (X.drop m).take mo = X.drop m := List.take_of_length_le (by rw [hlen]; omega)
      have htk : itemCells (X.take (m + (nX - m))) = itemCells (X.take m) ++ itemCells (X.drop m) := by
        rw [show m + (nX - m) = X.length by rw [HNX.out]; omega, List.take_length, ← itemCells_append, List.take_append_drop]
      have hnx : pageNext (X.drop m) mo = ⟨#[]⟩ := by rw [pageNext, List.getElem?_eq_none (by rw [hlen]; omega)]
      rw [htl, hlen, hnx, decide_eq_false hmore] at cp
      obtain ⟨np, hnp⟩ : ∃ np, nX - m = np := ⟨_, rfl⟩
      rw [hnp] at cp htk
      have hsum : m + np = nX := by omega
      have HCP := Lib.hid cp
      have HTK := Lib.hid htk
      have HTL := Lib.hid htl
      have HNP := Lib.hid hsum
      have hnp2 : np ≤ 40 := by omega
      clear cp hlen htl htk hnx hmore hnp hsum
      go_wp2_with (first
        | (go_at_call 18; (with_reducible refine HCP.out.mono ?_); rintro e w2' ⟨A2, c2, rfl, r2, x2, z2⟩; have HX2 := Lib.hid x2; have HR2 := Lib.hid r2; have HSZ2 : Hid (n0 ≤ w2'.heap.size) := Nat.le_trans HSZ.out z2; clear r2 x2 z2)
        | (at_builtin; ((refine wpList_append_any rfl (.tmp 64) (.tmp 65) 22 rfl n0 39 i0 (.agg #[.string ⟨#[]⟩, .string ⟨#[]⟩]) 2 32 Try.underlying22 hi0 hz0 hs0 hb0 rfl (by decide) (.slice A m c) m (itemCells (X.take m)) rfl HX2.out.row (.slice A2 np c2) np (itemCells (X.drop m)) rfl (From.own HR2.out) (items_one _) (by unfold maxLen; omega) (by omega) (by have := HSZ2.out; omega) ?_); intro A3 c3 w3 ho3 hg3 hs3; have HX3 : Hid (PX W w3 n0 gs gr Fr l A3 (m + np) c3 X) := HX2.out.grow hg3 hs3 (by rw [HTK.out]; exact ho3); have HSZ3 : Hid (n0 ≤ w3.heap.size) := Nat.le_trans HSZ2.out hg3.size; rw [HNP.out] at HX3 ⊢; clear ho3 hg3 hs3))
        | (go_at_call 20; (with_reducible refine (CRR.out _ _ _ _ _ _ _ _ HX3.out).mono ?_); rintro e w4 ⟨A4, c4, rfl, r4, x4⟩; have HX4 := Lib.hid x4; have HR4 := Lib.hid r4; have HRX : Hid (w4.ownsRow 0 39 2 (.slice A3 nX c3) nX (itemCells X)) := own_mono (by have z := x4.row; rwa [show X.take nX = X by rw [← HNX.out, List.take_length]] at z) (Nat.zero_le _); clear x4 r4)
        | (go_at_call 19; (with_reducible refine (CS.out _ _ _ _ _ HRX.out HR4.out).mono ?_); rintro e w5 ⟨rfl, k5, rfl⟩))
      go_ret
      exact ⟨rfl, acc HX4.out.s.1 (((Touch.refl [] w4).drewN k5).below (Nat.le_refl _) (by simp))⟩
set_option maxRecDepth 100000 in
set_option maxHeartbeats 8000000 in
theorem cutPages_any (A : Option Addr) (c : Nat) (zs : List Item) (f t : ByteArray) (m : Int) (W : World) (hA : ItemsAt W A zs) (hz : zs.length ≤ 9223372036854775807) (hf : f.size ≤ maxLen) (ht : t.size ≤ maxLen) (m0 : -9223372036854775808 ≤ m) (m1 : m ≤ 9223372036854775807) :
    Calls Try.prog 4 #[.slice A zs.length c, .string f, .string t, .int .i64 m] W fun e w' => e = .returned (.bool true) ∧ Below W.heap.size W w' := by
  unfold maxLen at hf ht
  by_cases bad : 60 < zs.length ∨ 40 < f.size ∨ 40 < t.size ∨ m < 1 ∨ 40 < m
  · have CA : Hid (∀ w, Calls Try.prog 9 #[] w fun e w' => e = .returned (.bool true) ∧ Below w.heap.size w w') := fun w => cutAlive_any w w (Below.refl _ _)
    obtain ⟨nz, hnz⟩ : ∃ x, zs.length = x := ⟨_, rfl⟩
    rw [hnz] at bad hz ⊢
    clear hA hnz
    by_cases c0 : 60 < nz
    · have d0 : decide ((60 : Int) < (nz : Int)) = true := by simp; omega
      go_enter Try.func4, Try.ntmps4
      go_wp2_with (go_at_call 9; (with_reducible refine (CA.out _).mono ?_); rintro e w1 ⟨rfl, h1⟩)
      go_ret
      exact ⟨rfl, h1⟩
    have d0 : decide ((60 : Int) < (nz : Int)) = false := by simp; omega
    by_cases c1 : 40 < f.size
    · have d1 : decide ((40 : Int) < (f.size : Int)) = true := by simp; omega
      go_enter Try.func4, Try.ntmps4
      go_wp2_with (go_at_call 9; (with_reducible refine (CA.out _).mono ?_); rintro e w1 ⟨rfl, h1⟩)
      go_ret
      exact ⟨rfl, h1⟩
    have d1 : decide ((40 : Int) < (f.size : Int)) = false := by simp; omega
    by_cases c2 : 40 < t.size
    · have d2 : decide ((40 : Int) < (t.size : Int)) = true := by simp; omega
      go_enter Try.func4, Try.ntmps4
      go_wp2_with (go_at_call 9; (with_reducible refine (CA.out _).mono ?_); rintro e w1 ⟨rfl, h1⟩)
      go_ret
      exact ⟨rfl, h1⟩
    have d2 : decide ((40 : Int) < (t.size : Int)) = false := by simp; omega
    by_cases c3 : m < 1
    · have d3 : decide (m < 1) = true := by simp; omega
      go_enter Try.func4, Try.ntmps4
      go_wp2_with (go_at_call 9; (with_reducible refine (CA.out _).mono ?_); rintro e w1 ⟨rfl, h1⟩)
      go_ret
      exact ⟨rfl, h1⟩
    have d3 : decide (m < 1) = false := by simp; omega
    by_cases c4 : 40 < m
    · have d4 : decide (40 < m) = true := by simp; omega
      go_enter Try.func4, Try.ntmps4
      go_wp2_with (go_at_call 9; (with_reducible refine (CA.out _).mono ?_); rintro e w1 ⟨rfl, h1⟩)
      go_ret
      exact ⟨rfl, h1⟩
    have d4 : decide (40 < m) = false := by simp; omega
    exfalso
    omega
  · obtain ⟨mo, rfl⟩ := Int.eq_ofNat_of_zero_le (show 0 ≤ m by omega)
    exact cutPagesGo A c zs f t mo W hA (by omega) (by omega) (by omega) (by omega) (by omega)
end Go.Proofs.Ytojiblhaiokdcaa
