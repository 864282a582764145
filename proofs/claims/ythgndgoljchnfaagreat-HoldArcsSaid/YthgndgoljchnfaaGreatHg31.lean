/-
  What goes from a hold to another (as CutFactz has it, of putsEI, putsSI, leftI; no program is met here).
  The code's hold: Lose, Win. (Written by tools/genLW.py.)
-/
import Derived.Test.YthgndgoljchnfaaGreatHg30
import Derived.Test.YthgndgoljchnfaaGreatHg03
namespace Go.Proofs.YthgndgoljchnfaaGreat.Hd
open Go.RowKit Go.Proofs.YthgndgoljchnfaaGreat

theorem mem_arcL {l : List Item} {f t : Nat} {x : Item} (h : x ∈ arcL l f t) : x ∈ l ∧ inB f t (adr x) = true := by
  rw [arcL_rot] at h
  obtain ⟨h1, h2⟩ := List.mem_filter.1 h
  refine ⟨?_, h2⟩
  unfold rot at h1
  simp only [List.mem_append, List.mem_filter] at h1
  rcases h1 with h1 | h1
  · exact h1.1
  · exact h1.1
theorem mem_arcL' {l : List Item} {f t : Nat} {x : Item} : x ∈ arcL l f t ↔ x ∈ l ∧ inB f t (adr x) = true := by
  refine ⟨mem_arcL, fun ⟨h1, h2⟩ => ?_⟩
  unfold arcL inA
  rw [List.mem_append, List.mem_filter, List.mem_filter]
  cases h : decide (f ≤ adr x)
  · exact .inr ⟨h1, by rw [h2]; rfl⟩
  · exact .inl ⟨h1, by rw [h2]; rfl⟩
theorem mem_leftI {l : List Item} {f t : Nat} {x : Item} : x ∈ leftI l f t ↔ x ∈ l ∧ inB f t (adr x) = false := by
  unfold leftI
  rw [List.mem_filter]
  simp
theorem rising_filter {l : List Item} (h : Rising l) (p : Item → Bool) : Rising (l.filter p) := h.filter p
theorem rising_leftI {l : List Item} (h : Rising l) (f t : Nat) : Rising (leftI l f t) := rising_filter h _
theorem rising_key {l : List Item} (h : Rising l) {x y : Item} (hx : x ∈ l) (hy : y ∈ l) (e : x.1 = y.1) : x = y := by
  obtain ⟨i, hi, rfl⟩ := List.getElem_of_mem hx
  obtain ⟨j, hj, rfl⟩ := List.getElem_of_mem hy
  have z := List.pairwise_iff_getElem.1 h
  rcases Nat.lt_trichotomy i j with c | c | c
  · have := z i j hi hj c
    rw [e, lessB_irrefl] at this
    cases this
  · subst c; rfl
  · have := z j i hj hi c
    rw [e, lessB_irrefl] at this
    cases this
theorem adr_key {x y : Item} (e : x.1 = y.1) : adr x = adr y := by unfold adr; rw [e]
theorem filter_len (p : Item → Bool) : ∀ l : List Item, l.length = (l.filter p).length + (l.filter fun x => !p x).length
  | [] => rfl
  | x :: l => by
    have ih := filter_len p l
    rw [List.length_cons, List.filter_cons, List.filter_cons]
    cases p x
    · rw [if_neg (by simp), if_pos (by simp), List.length_cons]; omega
    · rw [if_pos rfl, if_neg (by simp), List.length_cons]; omega
theorem arcL_count (l : List Item) (f t : Nat) : (arcL l f t).length + (leftI l f t).length = l.length := by
  have h1 := filter_len (fun x => inB f t (adr x)) l
  have h2 := filter_len (fun x => decide (f ≤ adr x)) (l.filter (fun x => inB f t (adr x)))
  rw [List.filter_filter, List.filter_filter] at h2
  have e1 : (fun x => decide (f ≤ adr x) && inB f t (adr x)) = inA f t false := by
    funext x
    unfold inA
    cases inB f t (adr x) <;> cases decide (f ≤ adr x) <;> rfl
  have e2 : (fun x => !decide (f ≤ adr x) && inB f t (adr x)) = inA f t true := by
    funext x
    unfold inA
    cases inB f t (adr x) <;> cases decide (f ≤ adr x) <;> rfl
  rw [e1, e2] at h2
  unfold arcL leftI
  rw [List.length_append]
  omega
theorem arcL_nodup {l : List Item} (h : Rising l) (f t : Nat) : (arcL l f t).Pairwise fun x y => x.1 ≠ y.1 := by
  unfold arcL
  have hne : ∀ p : Item → Bool, (l.filter p).Pairwise fun x y => x.1 ≠ y.1 := fun p => (rising_filter h p).imp (fun z e => by rw [e, lessB_irrefl] at z; cases z)
  refine List.pairwise_append.2 ⟨hne _, hne _, fun x hx y hy e => ?_⟩
  obtain ⟨x1, x2⟩ := List.mem_filter.1 hx
  obtain ⟨y1, y2⟩ := List.mem_filter.1 hy
  have := rising_key h x1 y1 e
  subst this
  unfold inA at x2 y2
  cases c : inB f t (adr x) <;> cases d : decide (f ≤ adr x) <;> rw [c, d] at x2 y2 <;> simp at x2 y2

/-- items that may be -/
def Right (l : List Item) : Prop := ∀ x ∈ l, rightN x.1 = 0 ∧ valueN x.2 = 0
theorem Right.arc {l : List Item} (h : Right l) (f t : Nat) : Right (arcL l f t) := fun x hx => h x (mem_arcL'.1 hx).1
theorem putE_new {most : Int} {l : List Item} {k v : ByteArray} (hr : rightN k = 0 ∧ valueN v = 0) (hn : hasN l k = false) : putEI most l k v = if most ≤ l.length then 5 else 0 := by
  unfold putEI
  rw [if_neg (by simp [hr.1]), if_neg (by simp [hr.2])]
  by_cases h : most ≤ l.length
  · rw [if_pos ⟨hn, h⟩, if_pos h]
  · rw [if_neg (fun z => h z.2), if_neg h]
theorem hasN_none {l : List Item} (h : Rising l) {k : ByteArray} (hn : ∀ y ∈ l, y.1 ≠ k) : hasN l k = false := by
  cases c : hasN l k
  · rfl
  · obtain ⟨x, hx, e⟩ := (hasN_iff h k).1 c
    exact absurd e (hn x hx)
/-- new keys, one behind the other -/
theorem puts_new (most : Int) : ∀ (ms : List Item) {l : List Item} (_ : Rising l) (_ : ms.Pairwise fun x y => x.1 ≠ y.1) (_ : Right ms) (_ : ∀ x ∈ ms, ∀ y ∈ l, y.1 ≠ x.1) (_ : (l.length : Int) ≤ most),
    ((l.length : Int) + ms.length ≤ most → putsEI most l ms = 0 ∧ Rising (putsSI most l ms) ∧ (∀ x, x ∈ putsSI most l ms ↔ x ∈ l ∨ x ∈ ms) ∧ (putsSI most l ms).length = l.length + ms.length) ∧ (most < (l.length : Int) + ms.length → putsEI most l ms = 5)
  | [], l, h, _, _, _, hm => by
    refine ⟨fun _ => ⟨rfl, h, fun x => by simp [putsSI], by simp [putsSI]⟩, fun z => ?_⟩
    simp at z
    omega
  | x :: ms, l, h, hp, hr, hn, hm => by
    obtain ⟨p1, p2⟩ := List.pairwise_cons.1 hp
    have hh : hasN l x.1 = false := hasN_none h (hn x (by simp))
    have hE := putE_new (most := most) (hr x (by simp)) hh
    by_cases hf : most ≤ l.length
    · rw [if_pos hf] at hE
      refine ⟨fun z => ?_, fun _ => ?_⟩
      · simp at z; omega
      · rw [putsEI, if_neg (by rw [hE]; omega), hE]
    · rw [if_neg hf] at hE
      have hS : putSI most l x.1 x.2 = putN l x.1 x.2 := by rw [putSI, if_pos hE]
      have hl : (putN l x.1 x.2).length = l.length + 1 := by rw [putN_length, hh]; simp
      obtain ⟨i1, i2⟩ := puts_new most ms (h.put x.1 x.2) p2 (fun y hy => hr y (by simp [hy])) (fun y hy z hz => by
        rcases (mem_putN h _ _ z).1 hz with rfl | ⟨c, _⟩
        · exact p1 y hy
        · exact hn y (by simp [hy]) z c) (by rw [hl]; omega)
      rw [putsEI, putsSI, if_pos hE, if_pos hE, hS]
      rw [hl] at i1 i2
      refine ⟨fun z => ?_, fun z => i2 (by simp at z ⊢; omega)⟩
      obtain ⟨j1, j2, j3, j4⟩ := i1 (by simp at z ⊢; omega)
      refine ⟨j1, j2, fun y => ?_, by rw [j4, List.length_cons]; omega⟩
      rw [j3, mem_putN h, List.mem_cons]
      constructor
      · rintro ((e | ⟨c, _⟩) | c)
        · exact .inr (.inl e)
        · exact .inl c
        · exact .inr (.inr c)
      · rintro (c | e | c)
        · exact .inl (.inr ⟨c, hn x (by simp) y c⟩)
        · exact .inl (.inl e)
        · exact .inr c
/-- .. or into another one that is empty -/
theorem puts_fresh {l : List Item} (h : Rising l) (hr : Right l) (f t : Nat) {most : Int} (hm : 0 ≤ most) :
    (putsEI most [] (arcL l f t) = if ((arcL l f t).length : Int) ≤ most then 0 else 5) ∧
    (((arcL l f t).length : Int) ≤ most → Rising (putsSI most [] (arcL l f t)) ∧ ∀ x, x ∈ putsSI most [] (arcL l f t) ↔ x ∈ arcL l f t) := by
  obtain ⟨z1, z2⟩ := puts_new most (arcL l f t) Rising.nil (arcL_nodup h f t) (hr.arc f t) (fun x _ y hy => by cases hy) (by simpa using hm)
  by_cases c : ((arcL l f t).length : Int) ≤ most
  · obtain ⟨a, b, d, _⟩ := z1 (by simpa using c)
    exact ⟨by rw [if_pos c, a], fun _ => ⟨b, fun x => by rw [d]; simp⟩⟩
  · exact ⟨by rw [if_neg c]; exact z2 (by simp; omega), fun z => absurd z c⟩
/-- two rising lists that have the same under a key tell the same -/
theorem same_at {a b : List Item} (ha : Rising a) (hb : Rising b) {k : ByteArray} (h : ∀ v, (k, v) ∈ a ↔ (k, v) ∈ b) : hasN a k = hasN b k ∧ getI a k = getI b k := by
  have e : hasN a k = hasN b k := bool_ext (by
    rw [hasN_iff ha, hasN_iff hb]
    constructor
    · rintro ⟨⟨x1, x2⟩, hx, rfl⟩
      exact ⟨_, (h x2).1 hx, rfl⟩
    · rintro ⟨⟨x1, x2⟩, hx, rfl⟩
      exact ⟨_, (h x2).2 hx, rfl⟩)
  refine ⟨e, ?_⟩
  cases hh : hasN a k with
  | true =>
    obtain ⟨⟨x1, x2⟩, hx, rfl⟩ := (hasN_iff ha k).1 hh
    rw [getI_mem ha hx, getI_mem hb ((h x2).1 hx)]
  | false => rw [getI_not hh, getI_not (by rw [← e]; exact hh)]
/-- what was left, at a key beside the arc -/
theorem left_at {l : List Item} (h : Rising l) {f t : Nat} {k : ByteArray} (hk : inB f t (addrN k) = false) : hasN (leftI l f t) k = hasN l k ∧ getI (leftI l f t) k = getI l k :=
  same_at (rising_leftI h f t) h fun v => by
    rw [mem_leftI]
    exact ⟨fun z => z.1, fun z => ⟨z, hk⟩⟩
/-- what was won, at a key in the arc -/
theorem won_at {l m : List Item} (h : Rising l) (hm : Rising m) {f t : Nat} (hx : ∀ x, x ∈ m ↔ x ∈ arcL l f t) {k : ByteArray} (hk : inB f t (addrN k) = true) : hasN m k = hasN l k ∧ getI m k = getI l k :=
  same_at hm h fun v => by
    rw [hx, mem_arcL']
    exact ⟨fun z => z.1, fun z => ⟨z, hk⟩⟩
end Go.Proofs.YthgndgoljchnfaaGreat.Hd
namespace Go.Proofs.YthgndgoljchnfaaGreat
open Go.RowKit

/-! the words of the hold's laws, as the shelf's have them -/
theorem getI_eq (l : List Item) (k : ByteArray) : getI l k = getN l k := rfl
theorem putsEI_eq (m : Int) : ∀ (ms l : List Item), putsEI m l ms = putsE m l ms
  | [], _ => rfl
  | x :: ms, l => by
    rw [putsEI, putsE, putsEI_eq m ms]
    rfl
theorem putsSI_eq (m : Int) : ∀ (ms l : List Item), putsSI m l ms = putsS m l ms
  | [], _ => rfl
  | x :: ms, l => by
    rw [putsSI, putsS, putsSI_eq m ms]
    rfl
theorem putS_right {m : Int} {l : List Item} (hr : Rising l) (h : ∀ x ∈ l, rightN x.1 = 0 ∧ valueN x.2 = 0) (k v : ByteArray) : ∀ x ∈ putS m l k v, rightN x.1 = 0 ∧ valueN x.2 = 0 := by
  unfold putS
  split
  · rename_i e
    intro x hx
    rcases (mem_putN hr k v x).1 hx with rfl | z
    · exact putE_right e
    · exact h x z.1
  · exact h
theorem putS_rising {m : Int} {l : List Item} (hr : Rising l) (k v : ByteArray) : Rising (putS m l k v) := by
  unfold putS
  split
  · exact hr.put k v
  · exact hr
theorem putsS_right {m : Int} : ∀ (ms : List Item) {l : List Item} (_ : Rising l) (_ : ∀ x ∈ l, rightN x.1 = 0 ∧ valueN x.2 = 0), ∀ x ∈ putsS m l ms, rightN x.1 = 0 ∧ valueN x.2 = 0
  | [], _, _, h => h
  | y :: ms, l, hr, h => by
    unfold putsS
    split
    · exact putsS_right ms (putS_rising hr _ _) (putS_right hr h _ _)
    · exact h
set_option maxRecDepth 100000 in
set_option maxHeartbeats 4000000 in
theorem hdLose_any {w : World} {g : Nat} {s : HO} {F : List Nat} (n : Int) (hn : Wide n) (hk : s.k ≤ 1000) (hl : s.g.l.length ≤ 1000) (h : VD w g s F) : Calls Tryz.prog 25 #[.pointer (some ⟨g, 0, none⟩), .int .i64 n] w fun e w' =>
    (s.g.shut = true ∧ HdPost VD w g F (.int .i64 0) (s.lose n) e w') ∨ (s.g.shut = false ∧ HdPost VD w g F (.int .i64 10) s e w') := by
  obtain ⟨l, S, sp, Fs, Fg, h, rfl⟩ := h
  have C0 := Lib.hid (none_any g sp w h.c4)
  have C1 := Lib.hid (Gi.gateArc_any h.gate)
  have HH := Lib.hid h
  have hft : s.g.f < 18446744073709551616 ∧ s.g.t < 18446744073709551616 := by
    obtain ⟨_, _, z, _⟩ := h.gate
    exact ⟨z.b.1, z.b.2.1⟩
  obtain ⟨f, hf⟩ : ∃ f, s.g.f = f := ⟨_, rfl⟩
  obtain ⟨t, ht⟩ : ∃ t, s.g.t = t := ⟨_, rfl⟩
  rw [hf, ht] at C1 hft
  have HF := Lib.hid hf
  have HT := Lib.hid ht
  have HFT := Lib.hid hft
  have HK := Lib.hid hk
  have HL := Lib.hid hl
  have HN := Lib.hid hn
  obtain ⟨b, hb⟩ : ∃ b, s.g.shut = b := ⟨_, rfl⟩
  rw [hb] at C1
  rw [hb]
  clear h hf ht hft hk hl hn hb
  go_enter Tryz.func25, Tryz.ntmps25
  go_upto_region 4 with (first
    | (go_at_call 33; (with_reducible refine (C0.out).mono ?_); rintro e w1 ⟨rfl, rfl⟩)
    | (go_at_call 51; (with_reducible refine (C1.out).mono ?_); rintro e w1 ⟨rfl, hb1⟩; have HB1 := Lib.hid hb1; clear hb1))
  cases b
  · go_wp2_with fail
    go_ret
    first
      | exact .inr ⟨rfl, HH.out.same (HB1.out.alloc HB1.out.size _) _⟩
      | exact HH.out.same (HB1.out.alloc HB1.out.size _) _
  · go_upto_region 6 with fail
    have h2 := HH.out.below (HB1.out.alloc HB1.out.size (.cells (a2 f t) 25))
    have HC2 : Hid (Below w.heap.size w (w1.alloc (.cells (a2 f t) 25))) := HB1.out.alloc HB1.out.size _
    have hx := Bx.new w1 (a2 f t) 25
    obtain ⟨b5, hb5⟩ : ∃ b5, w1.heap.size = b5 := ⟨_, rfl⟩
    have HB5 : Hid (w.heap.size ≤ b5) := hb5 ▸ HB1.out.size
    rw [hb5] at hx ⊢
    obtain ⟨w2, hw2⟩ : ∃ w2, w1.alloc (.cells (a2 f t) 25) = w2 := ⟨_, rfl⟩
    rw [hw2] at h2 hx HC2 ⊢
    clear hw2 hb5
    have HX2 := Lib.hid hx
    have H2 := Lib.hid h2
    obtain ⟨A, c, rfl, hq1, hq2⟩ := h2.row.shape
    clear hq1 hq2 hx
    have l5 := HX2.out.two.2.2
    have HSS : Hid (∀ w', Below w2.heap.size w2 w' → w'.cell? ⟨g, 3, none⟩ = some (.slice A l.length c) ∧ w'.cell? ⟨b5, 0, none⟩ = some (.int .u64 (f : Nat)) ∧ w'.cell? ⟨b5, 1, none⟩ = some (.int .u64 (t : Nat))) := fun w' tt => ⟨(H2.out.below tt).c3, (HX2.out.below tt).two.1, (HX2.out.below tt).two.2.1⟩
    have CW : Hid (∀ w', Below w2.heap.size w2 w' → Calls Tryz.prog 57 #[.slice A l.length c, .agg (a2 f t)] w' (WithoutPost w' s.nd l f t)) := fun w' tt => without_any l s.nd f t A c l.length w' (H2.out.below tt).row (by have := H2.out.few; have := HK.out; omega) H2.out.ol.arcs.lt H2.out.ol.arcs.apart HFT.out.1 HFT.out.2
    clear h2
    have lg := H2.out.lt
    refine wp_region_till (fun w' => w'.cell? ⟨g, 3, none⟩ = some (.slice A l.length c) ∧ w'.cell? ⟨b5, 0, none⟩ = some (.int .u64 (f : Nat)) ∧ w'.cell? ⟨b5, 1, none⟩ = some (.int .u64 (t : Nat))) 9 (by kernel_rfl) ?_ (fun hHeld => ?_)
    · (try dsimp only); exact HSS.out _ (Below.refl _ _).drew
    refine wpAnyT_pure (i := 0) (oi := ⟨_, _, _, _, _, _⟩) (v := ?_) rfl (by kernel_rfl) (by kernel_rfl) (by kernel_rfl) (fun _ _ _ h => h) (by kernel_rfl) (Or.inl ⟨by rfl, ?_⟩) (by assumption) ?_
    rotate_left
    · (intro wS hSw; (try dsimp only at hSw); go_simp <;> with_reducible rfl)
    try simp only [Act.put, List.setIfInBounds_toArray, List.set_cons_zero, List.set_cons_succ]
    refine wpAnyT_pure (i := 1) (oi := ⟨_, _, _, _, _, _⟩) (v := ?_) rfl (by kernel_rfl) (by kernel_rfl) (by kernel_rfl) (fun _ _ _ h => h) (by kernel_rfl) (Or.inl ⟨by rfl, ?_⟩) (by assumption) ?_
    rotate_left
    · (intro wS hSw; (try dsimp only at hSw); go_simp <;> with_reducible rfl)
    try simp only [Act.put, List.setIfInBounds_toArray, List.set_cons_zero, List.set_cons_succ]
    refine wpAnyT_pure (i := 2) (oi := ⟨_, _, _, _, _, _⟩) (v := ?_) rfl (by kernel_rfl) (by kernel_rfl) (by kernel_rfl) (fun _ _ _ h => h) (by kernel_rfl) (Or.inl ⟨by rfl, ?_⟩) (by assumption) ?_
    rotate_left
    · (intro wS hSw; (try dsimp only at hSw); go_simp <;> with_reducible rfl)
    try simp only [Act.put, List.setIfInBounds_toArray, List.set_cons_zero, List.set_cons_succ]
    refine wpAnyT_pure (i := 3) (oi := ⟨_, _, _, _, _, _⟩) (v := ?_) rfl (by kernel_rfl) (by kernel_rfl) (by kernel_rfl) (fun _ _ _ h => h) (by kernel_rfl) (Or.inl ⟨by rfl, ?_⟩) (by assumption) ?_
    rotate_left
    · (intro wS hSw; (try dsimp only at hSw); go_simp <;> with_reducible rfl)
    try simp only [Act.put, List.setIfInBounds_toArray, List.set_cons_zero, List.set_cons_succ]
    refine wpAnyT_take (i := 4) (oi := ⟨_, _, _, _, _, _⟩) (v := ?_) rfl (by kernel_rfl) (by kernel_rfl) (by kernel_rfl) (fun _ _ _ h => h) (by kernel_rfl) (Or.inl ⟨by rfl, ?_⟩) (by assumption) ?_
    rotate_left
    · (intro wS hSw; (try dsimp only at hSw); go_simp <;> with_reducible rfl)
    try simp only [Act.put, List.setIfInBounds_toArray, List.set_cons_zero, List.set_cons_succ]
    refine wpAnyT_take (i := 5) (oi := ⟨_, _, _, _, _, _⟩) (v := ?_) rfl (by kernel_rfl) (by kernel_rfl) (by kernel_rfl) (fun _ _ _ h => h) (by kernel_rfl) (Or.inl ⟨by rfl, ?_⟩) (by assumption) ?_
    rotate_left
    · (intro wS hSw; (try dsimp only at hSw); go_simp <;> with_reducible rfl)
    try simp only [Act.put, List.setIfInBounds_toArray, List.set_cons_zero, List.set_cons_succ]
    refine wpAnyT_ready (rs := [6]) (by kernel_rfl) (by simp) ?_
    refine (AllReadyT.cons (o := ⟨_, _, _, _, _, _⟩) rfl (fun K hK => ?_) AllReadyT.nil)
    go_simp
    (first | (go_at_call 57; (with_reducible refine (CW.out _ (Below.refl w2.heap.size w2).drew).mono ?_); rintro e w3 ⟨D, S2, hp, hs, rfl, ho, hn3, hb3⟩))
    obtain ⟨A2, c2, rfl, hq1, hq2⟩ := ho.shape
    clear hq1 hq2
    have HP := Lib.hid hp
    have HSO := Lib.hid hs
    have HO3 := Lib.hid ho
    have HN3 : Hid (∀ q, (Value.slice A2 (joinJ false D).length c2).ownBlock = some q → w2.heap.size ≤ q) := hn3
    have HB3 : Hid (Below w2.heap.size w2 w3) := ((Below.refl w2.heap.size w2).drew).trans hb3
    have f3 := (H2.out.below HB3.out).gate.cells.2.2.2.2.2.1 3
    have y3 := (H2.out.below HB3.out).c3
    clear hp hs ho hn3 hb3
    go_wp2_with fail
    refine hK.out _ _ (by (try dsimp only); (first | exact HSS.out _ HB3.out | exact HSS.out _ (Below.refl _ _).drew)) (fun hHeld => ?_)
    clear hK K
    try simp only [Act.put, List.setIfInBounds_toArray, List.set_cons_zero, List.set_cons_succ]
    refine wpAnyT_pure (i := 7) (oi := ⟨_, _, _, _, _, _⟩) (v := ?_) rfl (by kernel_rfl) (by kernel_rfl) (by kernel_rfl) (fun _ _ _ h => h) (by kernel_rfl) (Or.inl ⟨by rfl, ?_⟩) (by assumption) ?_
    rotate_left
    · (intro wS hSw; (try dsimp only at hSw); go_simp <;> with_reducible rfl)
    try simp only [Act.put, List.setIfInBounds_toArray, List.set_cons_zero, List.set_cons_succ]
    refine wpAnyT_pure (i := 8) (oi := ⟨_, _, _, _, _, _⟩) (v := ?_) rfl (by kernel_rfl) (by kernel_rfl) (by kernel_rfl) (fun _ _ _ h => h) (by kernel_rfl) (Or.inl ⟨by rfl, ?_⟩) (by assumption) ?_
    rotate_left
    · (intro wS hSw; (try dsimp only at hSw); go_simp <;> with_reducible rfl)
    try simp only [Act.put, List.setIfInBounds_toArray, List.set_cons_zero, List.set_cons_succ]
    refine wpAnyT_ready (rs := [9]) (by kernel_rfl) (by simp) ?_
    refine (AllReadyT.past (o := ⟨_, _, _, _, _, _⟩) rfl (by kernel_rfl) (fun K hK => ?_) AllReadyT.nil)
    go_simp
    refine hK.out _ _ ?_
    clear hK K
    try simp only [Act.put, List.setIfInBounds_toArray, List.set_cons_zero, List.set_cons_succ]
    refine wpAnyT_done (by kernel_rfl) ?_ _
    go_upto_region 7 with fail
    have hown := lose_ok H2.out.ol HFT.out.1 HFT.out.2 HP.out HSO.out
    have H4 := Lib.hid (H2.out.setOwned (w1 := w3) hown.1 hown.2 (Touch.ofBelow HB3.out) HO3.out HN3.out)
    have hg := H2.out.gate.cells.2.2.2.2.2.2.2
    have HT4 : Hid (Touch [g] w2 (w3.setCell ⟨g, 3, none⟩ (.slice A2 (joinJ false D).length c2))) := (Touch.ofBelow HB3.out).set (.inl (by simp)) _
    have HX4 := Lib.hid ((HX2.out.below HB3.out).other 3 (.slice A2 (joinJ false D).length c2) (k := g) (by have := HH.out.lt; have := HB5.out; omega))
    clear hown f3 y3
    obtain ⟨w4, hw4⟩ : ∃ w4, w3.setCell ⟨g, 3, none⟩ (.slice A2 (joinJ false D).length c2) = w4 := ⟨_, rfl⟩
    rw [hw4] at H4 HT4 HX4
    try rw [hw4]
    clear hw4
    obtain ⟨l2, hl2⟩ : ∃ l2, joinJ false D = l2 := ⟨_, rfl⟩
    rw [hl2] at H4 HN3
    clear hl2
    have HOUT : Hid (∀ w', Below w4.heap.size w4 w' → Calls Tryz.prog 58 #[.pointer (some ⟨sp, 0, none⟩), .agg (a2 f t)] w' (OutPost w' sp s.most Fs (arcL s.its f t) (delsN s.its (arcL s.its f t)))) := fun w' tt => out_any (H4.out.below tt).shelf f t HFT.out.1 HFT.out.2
    have HSS7 : Hid (∀ w', Below w4.heap.size w4 w' → w'.cell? ⟨g, 4, none⟩ = some (.pointer (some ⟨sp, 0, none⟩)) ∧ w'.cell? ⟨b5, 0, none⟩ = some (.int .u64 (f : Nat)) ∧ w'.cell? ⟨b5, 1, none⟩ = some (.int .u64 (t : Nat))) := fun w' tt => ⟨(H4.out.below tt).c4, (HX4.out.below tt).two.1, (HX4.out.below tt).two.2.1⟩
    refine wp_region_till (fun w' => w'.cell? ⟨g, 4, none⟩ = some (.pointer (some ⟨sp, 0, none⟩)) ∧ w'.cell? ⟨b5, 0, none⟩ = some (.int .u64 (f : Nat)) ∧ w'.cell? ⟨b5, 1, none⟩ = some (.int .u64 (t : Nat))) 5 (by kernel_rfl) ?_ (fun hHeld => ?_)
    · (try dsimp only); exact HSS7.out _ (Below.refl _ _).drew
    refine wpAnyT_pure (i := 0) (oi := ⟨_, _, _, _, _, _⟩) (v := ?_) rfl (by kernel_rfl) (by kernel_rfl) (by kernel_rfl) (fun _ _ _ h => h) (by kernel_rfl) (Or.inl ⟨by rfl, ?_⟩) (by assumption) ?_
    rotate_left
    · (intro wS hSw; (try dsimp only at hSw); go_simp <;> with_reducible rfl)
    try simp only [Act.put, List.setIfInBounds_toArray, List.set_cons_zero, List.set_cons_succ]
    refine wpAnyT_pure (i := 1) (oi := ⟨_, _, _, _, _, _⟩) (v := ?_) rfl (by kernel_rfl) (by kernel_rfl) (by kernel_rfl) (fun _ _ _ h => h) (by kernel_rfl) (Or.inl ⟨by rfl, ?_⟩) (by assumption) ?_
    rotate_left
    · (intro wS hSw; (try dsimp only at hSw); go_simp <;> with_reducible rfl)
    try simp only [Act.put, List.setIfInBounds_toArray, List.set_cons_zero, List.set_cons_succ]
    refine wpAnyT_pure (i := 2) (oi := ⟨_, _, _, _, _, _⟩) (v := ?_) rfl (by kernel_rfl) (by kernel_rfl) (by kernel_rfl) (fun _ _ _ h => h) (by kernel_rfl) (Or.inl ⟨by rfl, ?_⟩) (by assumption) ?_
    rotate_left
    · (intro wS hSw; (try dsimp only at hSw); go_simp <;> with_reducible rfl)
    try simp only [Act.put, List.setIfInBounds_toArray, List.set_cons_zero, List.set_cons_succ]
    refine wpAnyT_take (i := 3) (oi := ⟨_, _, _, _, _, _⟩) (v := ?_) rfl (by kernel_rfl) (by kernel_rfl) (by kernel_rfl) (fun _ _ _ h => h) (by kernel_rfl) (Or.inl ⟨by rfl, ?_⟩) (by assumption) ?_
    rotate_left
    · (intro wS hSw; (try dsimp only at hSw); go_simp <;> with_reducible rfl)
    try simp only [Act.put, List.setIfInBounds_toArray, List.set_cons_zero, List.set_cons_succ]
    refine wpAnyT_take (i := 4) (oi := ⟨_, _, _, _, _, _⟩) (v := ?_) rfl (by kernel_rfl) (by kernel_rfl) (by kernel_rfl) (fun _ _ _ h => h) (by kernel_rfl) (Or.inl ⟨by rfl, ?_⟩) (by assumption) ?_
    rotate_left
    · (intro wS hSw; (try dsimp only at hSw); go_simp <;> with_reducible rfl)
    try simp only [Act.put, List.setIfInBounds_toArray, List.set_cons_zero, List.set_cons_succ]
    refine wpAnyT_ready (rs := [5]) (by kernel_rfl) (by simp) ?_
    refine (AllReadyT.past (o := ⟨_, _, _, _, _, _⟩) rfl (by kernel_rfl) (fun K hK => ?_) AllReadyT.nil)
    go_simp
    (first | (go_at_call 58; (with_reducible refine (HOUT.out _ (Below.refl w4.heap.size w4).drew).mono ?_); rintro e w5 ⟨A5, c5, Fs', rfl, ho, hsh, ht5, hn5, -⟩))
    have HSH := Lib.hid hsh
    have HT5 : Hid (Touch Fs w4 w5) := ((Touch.refl _ _).drew).trans ht5 (fun q hq => .inl hq)
    have HN5 : Hid (∀ q ∈ Fs', q ∈ Fs ∨ w4.heap.size ≤ q) := hn5
    clear ho hsh ht5 hn5
    go_wp2_with fail
    refine hK.out _ _ ?_
    clear hK K
    try simp only [Act.put, List.setIfInBounds_toArray, List.set_cons_zero, List.set_cons_succ]
    refine wpAnyT_done (by kernel_rfl) ?_ _
    go_upto_region 8 with fail
    have hris := shelfLaws.rising H4.out.shelf
    have hdel : delsN s.its (arcL s.its f t) = leftI s.its f t := delsN_arc hris f t
    have hsh5 := HSH.out
    rw [hdel] at hsh5
    have H5 := Lib.hid (H4.out.setShelf hsh5 HT5.out HN5.out (fun x hx => H4.out.right x (List.mem_filter.1 hx).1))
    have hb5n : b5 ∉ Fs := fun z => by have := HH.out.shelf.ltF b5 z; have := HB5.out; omega
    have HX5 := Lib.hid (HX4.out.touch HT5.out hb5n)
    clear hris hdel hsh5 hb5n
    have HPT : Hid (∀ w', Below w5.heap.size w5 w' → Calls Tryz.prog 59 #[.pointer (some ⟨g, 5, none⟩), .agg (a2 f t), .int .i64 n] w' fun e w'' => ∃ F1, e = .returned (.tuple #[]) ∧ Gi.VG w'' g (hcOf s (.slice A2 l2.length c2) sp) (s.g.point f t n) F1 ∧ Touch Fg w' w'' ∧ ∀ q ∈ F1, q ∈ Fg ∨ w'.heap.size ≤ q) := fun w' tt => Gi.gatePoint_any f t n HFT.out.1 HFT.out.2 HL.out (H5.out.below tt).gate
    have HSS8 : Hid (∀ w', Below w5.heap.size w5 w' → w'.cell? ⟨b5, 0, none⟩ = some (.int .u64 (f : Nat)) ∧ w'.cell? ⟨b5, 1, none⟩ = some (.int .u64 (t : Nat))) := fun w' tt => ⟨(HX5.out.below tt).two.1, (HX5.out.below tt).two.2.1⟩
    refine wp_region_till (fun w' => w'.cell? ⟨b5, 0, none⟩ = some (.int .u64 (f : Nat)) ∧ w'.cell? ⟨b5, 1, none⟩ = some (.int .u64 (t : Nat))) 5 (by kernel_rfl) ?_ (fun hHeld => ?_)
    · (try dsimp only); exact HSS8.out _ (Below.refl _ _).drew
    refine wpAnyT_pure (i := 0) (oi := ⟨_, _, _, _, _, _⟩) (v := ?_) rfl (by kernel_rfl) (by kernel_rfl) (by kernel_rfl) (fun _ _ _ h => h) (by kernel_rfl) (Or.inl ⟨by rfl, ?_⟩) (by assumption) ?_
    rotate_left
    · (intro wS hSw; (try dsimp only at hSw); go_simp <;> with_reducible rfl)
    try simp only [Act.put, List.setIfInBounds_toArray, List.set_cons_zero, List.set_cons_succ]
    refine wpAnyT_pure (i := 1) (oi := ⟨_, _, _, _, _, _⟩) (v := ?_) rfl (by kernel_rfl) (by kernel_rfl) (by kernel_rfl) (fun _ _ _ h => h) (by kernel_rfl) (Or.inl ⟨by rfl, ?_⟩) (by assumption) ?_
    rotate_left
    · (intro wS hSw; (try dsimp only at hSw); go_simp <;> with_reducible rfl)
    try simp only [Act.put, List.setIfInBounds_toArray, List.set_cons_zero, List.set_cons_succ]
    refine wpAnyT_pure (i := 2) (oi := ⟨_, _, _, _, _, _⟩) (v := ?_) rfl (by kernel_rfl) (by kernel_rfl) (by kernel_rfl) (fun _ _ _ h => h) (by kernel_rfl) (Or.inl ⟨by rfl, ?_⟩) (by assumption) ?_
    rotate_left
    · (intro wS hSw; (try dsimp only at hSw); go_simp <;> with_reducible rfl)
    try simp only [Act.put, List.setIfInBounds_toArray, List.set_cons_zero, List.set_cons_succ]
    refine wpAnyT_pure (i := 4) (oi := ⟨_, _, _, _, _, _⟩) (v := ?_) rfl (by kernel_rfl) (by kernel_rfl) (by kernel_rfl) (fun _ _ _ h => h) (by kernel_rfl) (Or.inl ⟨by rfl, ?_⟩) (by assumption) ?_
    rotate_left
    · (intro wS hSw; (try dsimp only at hSw); go_simp <;> with_reducible rfl)
    try simp only [Act.put, List.setIfInBounds_toArray, List.set_cons_zero, List.set_cons_succ]
    refine wpAnyT_take (i := 3) (oi := ⟨_, _, _, _, _, _⟩) (v := ?_) rfl (by kernel_rfl) (by kernel_rfl) (by kernel_rfl) (fun _ _ _ h => h) (by kernel_rfl) (Or.inl ⟨by rfl, ?_⟩) (by assumption) ?_
    rotate_left
    · (intro wS hSw; (try dsimp only at hSw); go_simp <;> with_reducible rfl)
    try simp only [Act.put, List.setIfInBounds_toArray, List.set_cons_zero, List.set_cons_succ]
    refine wpAnyT_ready (rs := [5]) (by kernel_rfl) (by simp) ?_
    refine (AllReadyT.past (o := ⟨_, _, _, _, _, _⟩) rfl (by kernel_rfl) (fun K hK => ?_) AllReadyT.nil)
    go_simp
    (first | (go_at_call 59; (with_reducible refine (HPT.out _ (Below.refl w5.heap.size w5).drew).mono ?_); rintro e w6 ⟨Fg', rfl, hg6, ht6, hn6⟩))
    have HT6 : Hid (Touch Fg w5 w6) := ((Touch.refl _ _).drew).trans ht6 (fun q hq => .inl hq)
    have HN6 : Hid (∀ q ∈ Fg', q ∈ Fg ∨ w5.heap.size ≤ q) := hn6
    have H6 := Lib.hid (H5.out.setGate hg6 HT6.out HN6.out)
    clear hg6 ht6 hn6
    have CT := Lib.hid (Gi.gateThaw_any H6.out.gate)
    go_wp2_with fail
    refine hK.out _ _ ?_
    clear hK K
    try simp only [Act.put, List.setIfInBounds_toArray, List.set_cons_zero, List.set_cons_succ]
    refine wpAnyT_done (by kernel_rfl) ?_ _
    go_wp2_with (go_at_call 56; (with_reducible refine (CT.out).mono ?_); rintro e w7 ⟨Fg2, rfl, hg7, ht7, hn7⟩; have H7 := Lib.hid (H6.out.setGate hg7 ht7 hn7); have HT7 := Lib.hid ht7; have HN7 := Lib.hid hn7; clear hg7 ht7 hn7)
    go_ret
    have hpost : HdPost VD w g (hF (.slice A l.length c) Fs Fg) (.int .i64 0) (s.lose n) (.returned (.int .i64 0)) w7 := by
      have z2 := HC2.out.size
      have z4 := HT4.out.size
      have z5 := HT5.out.size
      have z6 := HT6.out.size
      refine ⟨hF (.slice A2 l2.length c2) Fs' Fg2, rfl, ⟨l2, .slice A2 l2.length c2, sp, Fs', Fg2, ?_, rfl⟩, ?_, fun q hq => ?_⟩
      · have e : s.lose n = ⟨s.nd, s.most, s.kept, fun x => if inB f t x = true then none else s.own x, leftI s.its f t, (s.g.point f t n).thaw, s.k + 1⟩ := by unfold HO.lose; rw [HF.out, HT.out]; rfl
        rw [e]
        exact H7.out
      · have hg : g ∈ Fg := HH.out.gate.cells.2.2.2.2.2.2.2
        have t1 : Touch (hF (.slice A l.length c) Fs Fg) w w4 := (Touch.ofBelow HC2.out).trans HT4.out (fun q hq => .inl (mem_hF.2 (.inr (.inr (by rw [List.mem_singleton.1 hq]; exact hg)))))
        have t2 : Touch (hF (.slice A l.length c) Fs Fg) w w5 := t1.trans HT5.out (fun q hq => .inl (mem_hF.2 (.inr (.inl hq))))
        have t3 : Touch (hF (.slice A l.length c) Fs Fg) w w6 := t2.trans HT6.out (fun q hq => .inl (mem_hF.2 (.inr (.inr hq))))
        refine t3.trans HT7.out (fun q hq => ?_)
        rcases HN6.out q hq with y | y
        · exact .inl (mem_hF.2 (.inr (.inr y)))
        · exact .inr (by omega)
      · rcases mem_hF.1 hq with y | y | y
        · have := HN3.out q y
          exact .inr (by omega)
        · rcases HN5.out q y with x | x
          · exact .inl (mem_hF.2 (.inr (.inl x)))
          · exact .inr (by omega)
        · rcases HN7.out q y with x | x
          · rcases HN6.out q x with u | u
            · exact .inl (mem_hF.2 (.inr (.inr u)))
            · exact .inr (by omega)
          · exact .inr (by omega)
    first
      | exact .inl ⟨rfl, hpost⟩
      | exact hpost
end Go.Proofs.YthgndgoljchnfaaGreat
