/-
  CutMoves: what is taken out of one shelf and put into another one is all there. (Written by tools/genCMoves.py.)
-/
import Derived.Test.YtojiblhaiokdcaaCutBegin
namespace Go.Proofs.Ytojiblhaiokdcaa
open Go.RowKit

theorem ItemsAt.below {W V : World} {A : Option Addr} {zs : List Item} (hA : ItemsAt W A zs) (hb : Below W.heap.size W V) : ItemsAt V A zs := by
  obtain ⟨b, off, h⟩ := hA
  refine ⟨b, off, fun i hi => ?_⟩
  obtain ⟨a1, a2, a3, a4⟩ := h i hi
  exact ⟨a1, Nat.lt_of_lt_of_le a2 hb.size, (hb.cell (p := ⟨b, off + i * 2, none⟩) a2).trans a3, (hb.cell (p := ⟨b, off + i * 2 + 1, none⟩) a2).trans a4⟩
/-- two shelves, and the document's list -/
def MX (V w : World) (P : List Nat) (gs : Nat) (l1 : List Item) (gt : Nat) (m : Int) (l2 : List Item) (gr : Nat) (LA : Option Addr) (lc nl : Nat) (l : List Item) : Prop :=
  S2 V w P gs 200 l1 gt m l2 ∧ w.ownsRow 0 39 2 (.slice LA nl lc) nl (itemCells l) ∧ w.cell? ⟨gr, 1, none⟩ = some (.slice LA nl lc)
theorem MX.below {V w w1 : World} {P : List Nat} {gs : Nat} {l1 : List Item} {gt : Nat} {m : Int} {l2 : List Item} {gr : Nat} {LA : Option Addr} {lc nl : Nat} {l : List Item} (h : MX V w P gs l1 gt m l2 gr LA lc nl l) (hb : Below w.heap.size w w1) : MX V w1 P gs l1 gt m l2 gr LA lc nl l :=
  ⟨h.1.below hb, own_keep h.2.1 hb, (hb.cell (p := ⟨gr, 1, none⟩) (World.block_lt_of_cell? w _ h.2.2)).trans h.2.2⟩
theorem MX.get1 {V w : World} {P : List Nat} {gs : Nat} {l1 : List Item} {gt : Nat} {m : Int} {l2 : List Item} {gr : Nat} {LA : Option Addr} {lc nl : Nat} {l : List Item} (h : MX V w P gs l1 gt m l2 gr LA lc nl l) (k v : ByteArray) (b : Bool) (hv : getN l1 k = v) (hb : hasN l1 k = b) :
    Calls Try.prog 15 #[.pointer (some ⟨gs, 0, none⟩), .string k] w fun e w' => e = .returned (.tuple #[.string v, .bool b]) ∧ MX V w' P gs l1 gt m l2 gr LA lc nl l ∧ Below w.heap.size w w' :=
  (h.1.get1 k hv hb).mono (fun _ _ ⟨z1, _, z3⟩ => ⟨z1, h.below z3, z3⟩)
theorem MX.get2 {V w : World} {P : List Nat} {gs : Nat} {l1 : List Item} {gt : Nat} {m : Int} {l2 : List Item} {gr : Nat} {LA : Option Addr} {lc nl : Nat} {l : List Item} (h : MX V w P gs l1 gt m l2 gr LA lc nl l) (k v : ByteArray) (b : Bool) (hv : getN l2 k = v) (hb : hasN l2 k = b) :
    Calls Try.prog 15 #[.pointer (some ⟨gt, 0, none⟩), .string k] w fun e w' => e = .returned (.tuple #[.string v, .bool b]) ∧ MX V w' P gs l1 gt m l2 gr LA lc nl l ∧ Below w.heap.size w w' :=
  (h.1.swap.get1 k hv hb).mono (fun _ _ ⟨z1, _, z3⟩ => ⟨z1, h.below z3, z3⟩)
set_option maxRecDepth 100000 in
set_option maxHeartbeats 8000000 in
theorem cutMovesOk (A : Option Addr) (c : Nat) (zs : List Item) (f t : Nat) (m : Int) (W : World) (hA : ItemsAt W A zs) (hz : zs.length ≤ 60) (hf : f < 18446744073709551616) (ht : t < 18446744073709551616) (m0 : 0 ≤ m) (m1 : m ≤ 100)
    (l a left tl : List Item) (na nl : Nat) (hl : fillL zs = l) (ha : arcL l f t = a) (hleft : leftL l f t = left) (hna : a.length = na) (hnl : l.length = nl) (htl : putsS m [] a = tl) (hok : (na : Int) ≤ m) :
    Calls Try.prog 3 #[.slice A zs.length c, .agg #[.int .u64 (f : Nat), .int .u64 (t : Nat)], .int .i64 m] W fun e w' => e = .returned (.bool true) ∧ Below W.heap.size W w' := by
  have CA : Hid (∀ w, Calls Try.prog 9 #[] w fun e w' => e = .returned (.bool true) ∧ Below w.heap.size w w') := fun w => cutAlive_any w w (Below.refl _ _)
  obtain ⟨V, hV⟩ : ∃ V, W.alloc (.cells #[.int .u64 (f : Nat), .int .u64 (t : Nat)] 25) = V := ⟨_, rfl⟩
  have HBX : Hid (Below W.heap.size W V) := by rw [← hV]; exact (Below.refl _ _).alloc (Nat.le_refl _) _
  have hAV : ItemsAt V A zs := hA.below HBX.out
  have hfine : Fine l := by rw [← hl]; exact fillL_fine zs
  have hright : Right l := by rw [← hl]; exact fillL_right zs
  have hlen : nl ≤ 60 := by rw [← hnl, ← hl]; exact fillL_length zs
  have hcnt : left.length + na = nl := by
    rw [← hna, ← hnl, ← ha, ← hleft, Nat.add_comm]; exact arcL_count l f t
  obtain ⟨pf1, pf2⟩ := puts_fresh hfine.1 hright f t m0
  rw [ha, hna] at pf1 pf2
  have pf1' : putsE m [] a = 0 := by rw [pf1, if_pos hok]
  have CF : Hid (∀ w, Below V.heap.size V w → Calls Try.prog 10 #[.slice A zs.length c] w fun e w' => ∃ gs gr, e = .returned (.tuple #[.pointer (some ⟨gs, 0, none⟩), .pointer (some ⟨gr, 0, none⟩)]) ∧ OSR SH V w' [] gs l gr l) := fun w hw => (filled_any shelfLaws A c zs V w hw hAV (by omega)).mono (by
    rintro e w' ⟨gs, gr, rfl, z⟩
    rw [hl] at z
    exact ⟨gs, gr, rfl, z⟩)
  have CN : Hid (∀ w gs gr, OSR SH V w [] gs l gr l → Calls Try.prog 11 #[.int .i64 m] w fun e w' => ∃ gt P Fr, e = .returned (.pointer (some ⟨gt, 0, none⟩)) ∧ S2 V w' P gs 200 l gt m [] ∧ RS w' gr Fr 200 l ∧ gr ∈ P ∧ ∀ q ∈ Fr, q ∈ P) := fun w gs gr h => (shelfLaws.new w m (by omega) (by omega)).mono (by
    rintro e w' ⟨gt, F2, rfl, z1, z2, z3⟩
    rw [show min (max m 0) 200 = m by omega] at z1
    obtain ⟨P, Fr, y1, y2, y3, y4⟩ := S2.of h z1 z2 z3
    exact ⟨gt, P, Fr, rfl, y1, y2, y3, y4⟩)
  have CO : Hid (∀ w gs gt P, S2 V w P gs 200 l gt m [] → Calls Try.prog 12 #[.pointer (some ⟨gs, 0, none⟩), .agg #[.int .u64 (f : Nat), .int .u64 (t : Nat)]] w fun e w' =>
      ∃ A c, e = .returned (.slice A na c) ∧ w'.ownsRow w.heap.size 39 2 (.slice A na c) na (itemCells a) ∧ S2 V w' (P ++ (Value.slice A na c).ownBlock.toList) gs 200 left gt m [] ∧ Kp P w w') := fun w gs gt P h => by
    have z := h.out1 f t hf ht ha hleft
    rwa [hna] at z
  have CI : Hid (∀ w gs gt P A c, S2 V w P gs 200 left gt m [] → w.ownsRow 0 39 2 (.slice A na c) na (itemCells a) → (∀ q, (Value.slice A na c).ownBlock = some q → q ∈ P) → Calls Try.prog 13 #[.pointer (some ⟨gt, 0, none⟩), .slice A na c] w fun e w' => e = .returned (.int .i64 0) ∧ S2 V w' P gs 200 left gt m tl ∧ Kp P w w') := fun w gs gt P A c h hr hP => by
    have z := h.swap.in1 (ms := a) (by rw [hna]; exact hr) (by rw [hna]; exact hP) (fun x hx => by
      have z := hright.arc f t x (by rw [ha]; exact hx)
      unfold rightN valueN at z
      unfold maxLen
      constructor
      · have := z.1; split at this <;> omega
      · have := z.2; split at this <;> omega) pf1' (l' := tl) (by rw [inS, if_pos pf1']; exact htl)
    rw [hna] at z
    exact z.mono (fun _ _ ⟨z1, z2, z3⟩ => ⟨z1, z2.swap, z3⟩)
  have CAD : Hid (∀ (x : Item) w, x ∈ l → Calls Try.prog 17 #[.string x.1] w fun e w' => e = .returned (.int .u64 (adr x : Nat)) ∧ w = w') := fun x w hx => refAddr_any x.1 w (by have := hfine.2 x hx; unfold maxLen; omega)
  have CIN : Hid (∀ (x : Item) w, Calls Try.prog 16 #[.agg #[.int .u64 (f : Nat), .int .u64 (t : Nat)], .int .u64 (adr x : Nat)] w fun e w' => e = .returned (.bool (inB f t (adr x))) ∧ Below w.heap.size w w') := fun x w => refIn_any f t (adr x) w (by omega) (by omega) (by have := adr_lt x; omega)
  have HH : Hid (∀ x ∈ l, hasN left x.1 = !inB f t (adr x) ∧ hasN tl x.1 = inB f t (adr x)) := fun x hx => by
    refine ⟨?_, ?_⟩
    · rw [← hleft]
      cases c : inB f t (adr x)
      · exact (hasN_iff (rising_leftL hfine.1 f t) _).2 ⟨x, mem_leftL.2 ⟨hx, c⟩, rfl⟩
      · refine hasN_none (rising_leftL hfine.1 f t) (fun y hy e => ?_)
        have z := (mem_leftL.1 hy).2
        rw [adr_key e, c] at z
        cases z
    · rw [← htl]
      obtain ⟨q1, q2⟩ := pf2 hok
      cases c : inB f t (adr x)
      · refine hasN_none q1 (fun y hy e => ?_)
        rw [q2, ← ha] at hy
        have z := (mem_arcL'.1 hy).2
        rw [adr_key e, c] at z
        cases z
      · refine (hasN_iff q1 _).2 ⟨x, ?_, rfl⟩
        rw [q2, ← ha]
        exact mem_arcL'.2 ⟨hx, c⟩
  have CL1 : Hid (∀ w P gs gt gr LA lc, MX V w P gs left gt m tl gr LA lc nl l → Calls Try.prog 14 #[.pointer (some ⟨gs, 0, none⟩)] w fun e w' => e = .returned (.int .i64 (left.length : Nat)) ∧ MX V w' P gs left gt m tl gr LA lc nl l ∧ Below w.heap.size w w') := fun w P gs gt gr LA lc h => (h.1.len1 rfl).mono (fun _ _ ⟨z1, _, z3⟩ => ⟨z1, h.below z3, z3⟩)
  have HVC : Hid (∀ w, Below V.heap.size V w → w.cell? ⟨W.heap.size, 0, none⟩ = some (.int .u64 (f : Nat)) ∧ w.cell? ⟨W.heap.size, 1, none⟩ = some (.int .u64 (t : Nat))) := fun w hw => by
    have hlt : W.heap.size < V.heap.size := by rw [← hV]; simp
    have g0 : V.cell? ⟨W.heap.size, 0, none⟩ = some (.int .u64 (f : Nat)) := by rw [← hV]; exact arc_new0 _ _ _ _
    have g1 : V.cell? ⟨W.heap.size, 1, none⟩ = some (.int .u64 (t : Nat)) := by rw [← hV]; exact arc_new1 _ _ _ _
    exact ⟨(hw.cell (p := ⟨W.heap.size, 0, none⟩) hlt).trans g0, (hw.cell (p := ⟨W.heap.size, 1, none⟩) hlt).trans g1⟩
  obtain ⟨nz, hnz⟩ : ∃ x, zs.length = x := ⟨_, rfl⟩
  rw [hnz] at CF hz ⊢
  obtain ⟨nf, hnf⟩ : ∃ x, left.length = x := ⟨_, rfl⟩
  rw [hnf] at CL1 hcnt
  have HV := Lib.hid hV
  have HN := Lib.hid hnl
  have d0 : decide ((60 : Int) < (nz : Int)) = false := by simp; omega
  have d1 : decide (m < 0) = false := by simp; omega
  have d2 : decide (100 < m) = false := by simp; omega
  have d3 : decide ((na : Int) ≤ m) = true := by simp; omega
  have hn1 : na ≤ 60 := by omega
  have hn2 : nf ≤ 60 := by omega
  have d4 : IntKind.i64.wrap ((nf : Int) + (na : Int)) = (nl : Int) := by rw [IntKind.wrap_i64]; omega
  clear hA hAV hfine hright hl ha hleft hna hnl hnz hV pf1 pf2 pf1' htl hok hnf
  go_enter Try.func3, Try.ntmps3
  go_upto_region 11 with (first
    | (go_at_call 9; (with_reducible refine (CA.out _).mono ?_); rintro e w1 ⟨rfl, h1⟩; rw [HV.out] at h1; have B1 := Lib.hid h1; clear h1)
    | (go_at_call 10; (with_reducible refine (CF.out _ B1.out).mono ?_); rintro e w2 ⟨gs, gr, rfl, h2⟩; have H2 := Lib.hid h2; clear h2)
    | (go_at_call 11; (with_reducible refine (CN.out _ _ _ H2.out).mono ?_); rintro e w3 ⟨gt, P, Fr, rfl, h3, r3, p1, p2⟩; obtain ⟨y0, y1⟩ := HVC.out _ h3.1; have H3 := Lib.hid h3; have R3 := Lib.hid r3; have HPg := Lib.hid p1; have HPF := Lib.hid p2; clear h3 r3 p1 p2)
    | (go_at_call 12; (with_reducible refine (CO.out _ _ _ _ H3.out).mono ?_); rintro e w4 ⟨A4, c4, rfl, r4, h4, k4⟩; have R4 := Lib.hid (k4.rs R3.out HPg.out HPF.out); have H4 := Lib.hid h4; have HO4 := Lib.hid (own_mono r4 (Nat.zero_le _)); clear r4 h4 k4)
    | (go_at_call 13; (with_reducible refine (CI.out _ _ _ _ _ _ H4.out HO4.out (fun q hq => List.mem_append_right _ (by simp [hq]))).mono ?_); rintro e w5 ⟨rfl, h5, k5⟩; have R5 := Lib.hid (k5.rs R4.out (List.mem_append_left _ HPg.out) (fun q hq => List.mem_append_left _ (HPF.out q hq))); have HI4 := Lib.hid h5; clear h5 k5))
  generalize P ++ (Value.slice A4 na c4).ownBlock.toList = P2 at *
  obtain ⟨LA, lc, ⟨g1, -, g2, -, -⟩, g3, -, -⟩ := R5.out
  rw [HN.out] at g2
  have HX0 : Hid (MX V w5 P2 gs left gt m tl gr LA lc nl l) := ⟨HI4.out, by rw [← HN.out]; rw [← HN.out] at g2; exact g3, g2⟩
  clear g1 g3 y0 y1
  go_wp2_with fail
  go_loopg [79] (nl + 1) (fun gh s79 wx => ∃ i : Nat, i + gh = nl + 1 ∧ i ≤ nl ∧ s79 = .int .i64 (i : Nat) ∧ Hid (MX V wx P2 gs left gt m tl gr LA lc nl l))
  case atStart => exact ⟨0, by omega, by omega, rfl, HX0.out⟩
  case round =>
    obtain ⟨i, hig, hi, rfl, HX⟩ := hrel
    by_cases hlt : i < nl
    · have hil : i < l.length := by rw [HN.out]; exact hlt
      obtain ⟨q, rfl⟩ := own_at HX.out.2.1 (by omega)
      have ck := (HX.out.2.1.cellAt (i * 2) (by omega)).trans (itemCells_get0 l i hil)
      have cv := (HX.out.2.1.cellAt (i * 2 + 1) (by omega)).trans (itemCells_get1 l i hil)
      have hhx := HH.out _ (List.getElem_mem hil)
      have cad := fun w => CAD.out _ w (List.getElem_mem hil)
      have cin := fun w => CIN.out (l[i]) w
      have hal := adr_lt (l[i])
      obtain ⟨x, hx'⟩ : ∃ x, l[i] = x := ⟨_, rfl⟩
      rw [hx'] at ck cv hhx cad cin hal
      obtain ⟨xk, xv⟩ := x
      dsimp only at ck cv hhx cad
      obtain ⟨ad, had⟩ : ∃ ad, adr (xk, xv) = ad := ⟨_, rfl⟩
      rw [had] at hhx cad cin hal
      obtain ⟨h1, h2⟩ := hhx
      clear hx' hil had
      cases hb : inB f t ad
      · rw [hb] at h1 cin
        try rw [hb] at h2
        have CG1 := Lib.hid (fun w (h : MX V w P2 gs left gt m tl gr (some ⟨q, 0, none⟩) lc nl l) => h.get1 xk _ true rfl h1)
        have CG2 := Lib.hid (fun w (h : MX V w P2 gs left gt m tl gr (some ⟨q, 0, none⟩) lc nl l) => h.get2 xk _ false rfl h2)
        have CADR := Lib.hid cad
        have CINR := Lib.hid cin
        clear h1 h2 cad cin hb
        go_upto_region 16 with (first
          | (go_at_call 15; (with_reducible refine (CG1.out _ (HX.out.below ((Below.refl _ _).alloc (Nat.le_refl _) _))).mono ?_); rintro e w3 ⟨rfl, x3, b3⟩; have c30 : w3.cell? ⟨wr.heap.size, 0, none⟩ = some (.string xk) := (b3.cell (p := ⟨wr.heap.size, 0, none⟩) (by simp)).trans (arc_new0 _ _ _ _); have c31 : w3.cell? ⟨wr.heap.size, 1, none⟩ = some (.string xv) := (b3.cell (p := ⟨wr.heap.size, 1, none⟩) (by simp)).trans (arc_new1 _ _ _ _); have hz3 := World.block_lt_of_cell? w3 _ c30; have HX1 := Lib.hid x3; clear x3 b3)
          | (go_at_call 15; (with_reducible refine (CG2.out _ HX1.out).mono ?_); rintro e w4 ⟨rfl, x4, b4⟩; have HS16 : Hid (∀ w', Below w4.heap.size w4 w' → w'.cell? ⟨W.heap.size, 0, none⟩ = some (.int .u64 (f : Nat)) ∧ w'.cell? ⟨W.heap.size, 1, none⟩ = some (.int .u64 (t : Nat)) ∧ w'.cell? ⟨wr.heap.size, 0, none⟩ = some (.string xk) ∧ w'.cell? ⟨wr.heap.size, 1, none⟩ = some (.string xv)) := (fun w' h => ⟨(HVC.out _ (acc x4.1.1 h)).1, (HVC.out _ (acc x4.1.1 h)).2, ((b4.trans (h.mono b4.size)).cell (p := ⟨wr.heap.size, 0, none⟩) hz3).trans c30, ((b4.trans (h.mono b4.size)).cell (p := ⟨wr.heap.size, 1, none⟩) hz3).trans c31⟩); have HX2 := Lib.hid x4; clear x4 b4))
        refine wp_region_held_drew (S := (fun w' => w'.cell? ⟨W.heap.size, 0, none⟩ = some (.int .u64 (f : Nat)) ∧ w'.cell? ⟨W.heap.size, 1, none⟩ = some (.int .u64 (t : Nat)) ∧ w'.cell? ⟨wr.heap.size, 0, none⟩ = some (.string xk) ∧ w'.cell? ⟨wr.heap.size, 1, none⟩ = some (.string xv))) (by kernel_rfl) ?_ (fun hHeld => ?_)
        · (try dsimp only); (first | assumption | exact HS16.out _ (Below.refl _ _).drew)
        refine wpAnyH_take (i := 0) (oi := ⟨_, _, _, _, _, _⟩) (v := ?_) rfl (by kernel_rfl) (by kernel_rfl) (by kernel_rfl) (fun _ _ _ h => h) (Or.inl ⟨by rfl, ?_⟩) (by assumption) ?_
        rotate_left
        · (intro wS hSw; (try dsimp only at hSw); go_simp <;> with_reducible rfl)
        try simp only [Act.put, List.setIfInBounds_toArray, List.set_cons_zero, List.set_cons_succ]
        refine wpAnyH_take (i := 1) (oi := ⟨_, _, _, _, _, _⟩) (v := ?_) rfl (by kernel_rfl) (by kernel_rfl) (by kernel_rfl) (fun _ _ _ h => h) (Or.inl ⟨by rfl, ?_⟩) (by assumption) ?_
        rotate_left
        · (intro wS hSw; (try dsimp only at hSw); go_simp <;> with_reducible rfl)
        try simp only [Act.put, List.setIfInBounds_toArray, List.set_cons_zero, List.set_cons_succ]
        refine wpAnyH_take (i := 2) (oi := ⟨_, _, _, _, _, _⟩) (v := ?_) rfl (by kernel_rfl) (by kernel_rfl) (by kernel_rfl) (fun _ _ _ h => h) (Or.inl ⟨by rfl, ?_⟩) (by assumption) ?_
        rotate_left
        · (intro wS hSw; (try dsimp only at hSw); go_simp <;> with_reducible rfl)
        try simp only [Act.put, List.setIfInBounds_toArray, List.set_cons_zero, List.set_cons_succ]
        refine wpAnyH_ready (rs := [3]) (by kernel_rfl) (by simp) ?_
        refine AllReadyH.cons (o := ⟨_, _, _, _, _, _⟩) rfl (fun K hK => ?_) AllReadyH.nil
        go_simp
        (first | (go_at_call 17; (with_reducible refine (CADR.out _).mono ?_); rintro e w5 ⟨rfl, rfl⟩) | (go_at_call 16; (with_reducible refine (CINR.out _).mono ?_); rintro e w6 ⟨rfl, b6⟩; have HX6 := Lib.hid ((HX2.out.below (Below.refl _ _).drew).below b6); have s6 := HS16.out _ ((Below.refl _ _).drew.trans b6); clear b6))
        go_wp2_with fail
        refine hK.out _ _ (by (try dsimp only); (first | assumption | exact HS16.out _ (Below.refl _ _).drew)) (fun hHeld => ?_)
        clear hK K
        try simp only [Act.put, List.setIfInBounds_toArray, List.set_cons_zero, List.set_cons_succ]
        refine wpAnyH_ready (rs := [4]) (by kernel_rfl) (by simp) ?_
        refine AllReadyH.cons (o := ⟨_, _, _, _, _, _⟩) rfl (fun K hK => ?_) AllReadyH.nil
        go_simp
        (first | (go_at_call 17; (with_reducible refine (CADR.out _).mono ?_); rintro e w5 ⟨rfl, rfl⟩) | (go_at_call 16; (with_reducible refine (CINR.out _).mono ?_); rintro e w6 ⟨rfl, b6⟩; have HX6 := Lib.hid ((HX2.out.below (Below.refl _ _).drew).below b6); have s6 := HS16.out _ ((Below.refl _ _).drew.trans b6); clear b6))
        go_wp2_with fail
        refine hK.out _ _ (by (try dsimp only); (first | assumption | exact HS16.out _ (Below.refl _ _).drew)) (fun hHeld => ?_)
        clear hK K
        try simp only [Act.put, List.setIfInBounds_toArray, List.set_cons_zero, List.set_cons_succ]
        refine wpAnyH_take (i := 5) (oi := ⟨_, _, _, _, _, _⟩) (v := ?_) rfl (by kernel_rfl) (by kernel_rfl) (by kernel_rfl) (fun _ _ _ h => h) (Or.inl ⟨by rfl, ?_⟩) (by assumption) ?_
        rotate_left
        · (intro wS hSw; (try dsimp only at hSw); go_simp <;> with_reducible rfl)
        try simp only [Act.put, List.setIfInBounds_toArray, List.set_cons_zero, List.set_cons_succ]
        refine wpAnyH_done (by kernel_rfl) ?_ _
        go_wp2_with fail
        go_roundg (gk - 1)
        case measure => omega
        case rel => exact ⟨i + 1, by omega, by omega, by go_num, HX6⟩
      · rw [hb] at h1 cin
        try rw [hb] at h2
        have CG1 := Lib.hid (fun w (h : MX V w P2 gs left gt m tl gr (some ⟨q, 0, none⟩) lc nl l) => h.get1 xk _ false rfl h1)
        have CG2 := Lib.hid (fun w (h : MX V w P2 gs left gt m tl gr (some ⟨q, 0, none⟩) lc nl l) => h.get2 xk _ true rfl h2)
        have CADR := Lib.hid cad
        have CINR := Lib.hid cin
        clear h1 h2 cad cin hb
        go_upto_region 16 with (first
          | (go_at_call 15; (with_reducible refine (CG1.out _ (HX.out.below ((Below.refl _ _).alloc (Nat.le_refl _) _))).mono ?_); rintro e w3 ⟨rfl, x3, b3⟩; have c30 : w3.cell? ⟨wr.heap.size, 0, none⟩ = some (.string xk) := (b3.cell (p := ⟨wr.heap.size, 0, none⟩) (by simp)).trans (arc_new0 _ _ _ _); have c31 : w3.cell? ⟨wr.heap.size, 1, none⟩ = some (.string xv) := (b3.cell (p := ⟨wr.heap.size, 1, none⟩) (by simp)).trans (arc_new1 _ _ _ _); have hz3 := World.block_lt_of_cell? w3 _ c30; have HX1 := Lib.hid x3; clear x3 b3)
          | (go_at_call 15; (with_reducible refine (CG2.out _ HX1.out).mono ?_); rintro e w4 ⟨rfl, x4, b4⟩; have HS16 : Hid (∀ w', Below w4.heap.size w4 w' → w'.cell? ⟨W.heap.size, 0, none⟩ = some (.int .u64 (f : Nat)) ∧ w'.cell? ⟨W.heap.size, 1, none⟩ = some (.int .u64 (t : Nat)) ∧ w'.cell? ⟨wr.heap.size, 0, none⟩ = some (.string xk) ∧ w'.cell? ⟨wr.heap.size, 1, none⟩ = some (.string xv)) := (fun w' h => ⟨(HVC.out _ (acc x4.1.1 h)).1, (HVC.out _ (acc x4.1.1 h)).2, ((b4.trans (h.mono b4.size)).cell (p := ⟨wr.heap.size, 0, none⟩) hz3).trans c30, ((b4.trans (h.mono b4.size)).cell (p := ⟨wr.heap.size, 1, none⟩) hz3).trans c31⟩); have HX2 := Lib.hid x4; clear x4 b4))
        refine wp_region_held_drew (S := (fun w' => w'.cell? ⟨W.heap.size, 0, none⟩ = some (.int .u64 (f : Nat)) ∧ w'.cell? ⟨W.heap.size, 1, none⟩ = some (.int .u64 (t : Nat)) ∧ w'.cell? ⟨wr.heap.size, 0, none⟩ = some (.string xk) ∧ w'.cell? ⟨wr.heap.size, 1, none⟩ = some (.string xv))) (by kernel_rfl) ?_ (fun hHeld => ?_)
        · (try dsimp only); (first | assumption | exact HS16.out _ (Below.refl _ _).drew)
        refine wpAnyH_take (i := 0) (oi := ⟨_, _, _, _, _, _⟩) (v := ?_) rfl (by kernel_rfl) (by kernel_rfl) (by kernel_rfl) (fun _ _ _ h => h) (Or.inl ⟨by rfl, ?_⟩) (by assumption) ?_
        rotate_left
        · (intro wS hSw; (try dsimp only at hSw); go_simp <;> with_reducible rfl)
        try simp only [Act.put, List.setIfInBounds_toArray, List.set_cons_zero, List.set_cons_succ]
        refine wpAnyH_take (i := 1) (oi := ⟨_, _, _, _, _, _⟩) (v := ?_) rfl (by kernel_rfl) (by kernel_rfl) (by kernel_rfl) (fun _ _ _ h => h) (Or.inl ⟨by rfl, ?_⟩) (by assumption) ?_
        rotate_left
        · (intro wS hSw; (try dsimp only at hSw); go_simp <;> with_reducible rfl)
        try simp only [Act.put, List.setIfInBounds_toArray, List.set_cons_zero, List.set_cons_succ]
        refine wpAnyH_take (i := 2) (oi := ⟨_, _, _, _, _, _⟩) (v := ?_) rfl (by kernel_rfl) (by kernel_rfl) (by kernel_rfl) (fun _ _ _ h => h) (Or.inl ⟨by rfl, ?_⟩) (by assumption) ?_
        rotate_left
        · (intro wS hSw; (try dsimp only at hSw); go_simp <;> with_reducible rfl)
        try simp only [Act.put, List.setIfInBounds_toArray, List.set_cons_zero, List.set_cons_succ]
        refine wpAnyH_ready (rs := [3]) (by kernel_rfl) (by simp) ?_
        refine AllReadyH.cons (o := ⟨_, _, _, _, _, _⟩) rfl (fun K hK => ?_) AllReadyH.nil
        go_simp
        (first | (go_at_call 17; (with_reducible refine (CADR.out _).mono ?_); rintro e w5 ⟨rfl, rfl⟩) | (go_at_call 16; (with_reducible refine (CINR.out _).mono ?_); rintro e w6 ⟨rfl, b6⟩; have HX6 := Lib.hid ((HX2.out.below (Below.refl _ _).drew).below b6); have s6 := HS16.out _ ((Below.refl _ _).drew.trans b6); clear b6))
        go_wp2_with fail
        refine hK.out _ _ (by (try dsimp only); (first | assumption | exact HS16.out _ (Below.refl _ _).drew)) (fun hHeld => ?_)
        clear hK K
        try simp only [Act.put, List.setIfInBounds_toArray, List.set_cons_zero, List.set_cons_succ]
        refine wpAnyH_ready (rs := [4]) (by kernel_rfl) (by simp) ?_
        refine AllReadyH.cons (o := ⟨_, _, _, _, _, _⟩) rfl (fun K hK => ?_) AllReadyH.nil
        go_simp
        (first | (go_at_call 17; (with_reducible refine (CADR.out _).mono ?_); rintro e w5 ⟨rfl, rfl⟩) | (go_at_call 16; (with_reducible refine (CINR.out _).mono ?_); rintro e w6 ⟨rfl, b6⟩; have HX6 := Lib.hid ((HX2.out.below (Below.refl _ _).drew).below b6); have s6 := HS16.out _ ((Below.refl _ _).drew.trans b6); clear b6))
        go_wp2_with fail
        refine hK.out _ _ (by (try dsimp only); (first | assumption | exact HS16.out _ (Below.refl _ _).drew)) (fun hHeld => ?_)
        clear hK K
        try simp only [Act.put, List.setIfInBounds_toArray, List.set_cons_zero, List.set_cons_succ]
        refine wpAnyH_take (i := 5) (oi := ⟨_, _, _, _, _, _⟩) (v := ?_) rfl (by kernel_rfl) (by kernel_rfl) (by kernel_rfl) (fun _ _ _ h => h) (Or.inl ⟨by rfl, ?_⟩) (by assumption) ?_
        rotate_left
        · (intro wS hSw; (try dsimp only at hSw); go_simp <;> with_reducible rfl)
        try simp only [Act.put, List.setIfInBounds_toArray, List.set_cons_zero, List.set_cons_succ]
        refine wpAnyH_done (by kernel_rfl) ?_ _
        go_wp2_with fail
        go_roundg (gk - 1)
        case measure => omega
        case rel => exact ⟨i + 1, by omega, by omega, by go_num, HX6⟩
    · obtain rfl : nl = i := by omega
      go_upto_region 20 with fail
      refine wp_region_held_drew (S := (fun w' => w'.cell? ⟨gr, 1, none⟩ = some (.slice LA nl lc))) (by kernel_rfl) ?_ (fun hHeld => ?_)
      · (try dsimp only); exact HX.out.2.2
      refine wpAnyH_take (i := 0) (oi := ⟨_, _, _, _, _, _⟩) (v := ?_) rfl (by kernel_rfl) (by kernel_rfl) (by kernel_rfl) (fun _ _ _ h => h) (Or.inl ⟨by rfl, ?_⟩) (by assumption) ?_
      rotate_left
      · (intro wS hSw; (try dsimp only at hSw); go_simp <;> with_reducible rfl)
      try simp only [Act.put, List.setIfInBounds_toArray, List.set_cons_zero, List.set_cons_succ]
      refine wpAnyH_take (i := 2) (oi := ⟨_, _, _, _, _, _⟩) (v := ?_) rfl (by kernel_rfl) (by kernel_rfl) (by kernel_rfl) (fun _ _ _ h => h) (Or.inl ⟨by rfl, ?_⟩) (by assumption) ?_
      rotate_left
      · (intro wS hSw; (try dsimp only at hSw); go_simp <;> with_reducible rfl)
      try simp only [Act.put, List.setIfInBounds_toArray, List.set_cons_zero, List.set_cons_succ]
      refine wpAnyH_take (i := 3) (oi := ⟨_, _, _, _, _, _⟩) (v := ?_) rfl (by kernel_rfl) (by kernel_rfl) (by kernel_rfl) (fun _ _ _ h => h) (Or.inl ⟨by rfl, ?_⟩) (by assumption) ?_
      rotate_left
      · (intro wS hSw; (try dsimp only at hSw); go_simp <;> with_reducible rfl)
      try simp only [Act.put, List.setIfInBounds_toArray, List.set_cons_zero, List.set_cons_succ]
      refine wpAnyH_take (i := 5) (oi := ⟨_, _, _, _, _, _⟩) (v := ?_) rfl (by kernel_rfl) (by kernel_rfl) (by kernel_rfl) (fun _ _ _ h => h) (Or.inl ⟨by rfl, ?_⟩) (by assumption) ?_
      rotate_left
      · (intro wS hSw; (try dsimp only at hSw); go_simp <;> with_reducible rfl)
      try simp only [Act.put, List.setIfInBounds_toArray, List.set_cons_zero, List.set_cons_succ]
      refine wpAnyH_take (i := 6) (oi := ⟨_, _, _, _, _, _⟩) (v := ?_) rfl (by kernel_rfl) (by kernel_rfl) (by kernel_rfl) (fun _ _ _ h => h) (Or.inl ⟨by rfl, ?_⟩) (by assumption) ?_
      rotate_left
      · (intro wS hSw; (try dsimp only at hSw); go_simp <;> with_reducible rfl)
      try simp only [Act.put, List.setIfInBounds_toArray, List.set_cons_zero, List.set_cons_succ]
      refine wpAnyH_take (i := 7) (oi := ⟨_, _, _, _, _, _⟩) (v := ?_) rfl (by kernel_rfl) (by kernel_rfl) (by kernel_rfl) (fun _ _ _ h => h) (Or.inl ⟨by rfl, ?_⟩) (by assumption) ?_
      rotate_left
      · (intro wS hSw; (try dsimp only at hSw); go_simp <;> with_reducible rfl)
      try simp only [Act.put, List.setIfInBounds_toArray, List.set_cons_zero, List.set_cons_succ]
      refine wpAnyH_take (i := 8) (oi := ⟨_, _, _, _, _, _⟩) (v := ?_) rfl (by kernel_rfl) (by kernel_rfl) (by kernel_rfl) (fun _ _ _ h => h) (Or.inl ⟨by rfl, ?_⟩) (by assumption) ?_
      rotate_left
      · (intro wS hSw; (try dsimp only at hSw); go_simp <;> with_reducible rfl)
      try simp only [Act.put, List.setIfInBounds_toArray, List.set_cons_zero, List.set_cons_succ]
      refine wpAnyH_take (i := 9) (oi := ⟨_, _, _, _, _, _⟩) (v := ?_) rfl (by kernel_rfl) (by kernel_rfl) (by kernel_rfl) (fun _ _ _ h => h) (Or.inl ⟨by rfl, ?_⟩) (by assumption) ?_
      rotate_left
      · (intro wS hSw; (try dsimp only at hSw); go_simp <;> with_reducible rfl)
      try simp only [Act.put, List.setIfInBounds_toArray, List.set_cons_zero, List.set_cons_succ]
      refine wpAnyH_ready (rs := [1]) (by kernel_rfl) (by simp) ?_
      refine AllReadyH.cons (o := ⟨_, _, _, _, _, _⟩) rfl (fun K hK => ?_) AllReadyH.nil
      go_simp
      (first | (go_at_call 14; (with_reducible refine (CL1.out _ _ _ _ _ _ _ (HX.out.below (Below.refl _ _).drew)).mono ?_); rintro e w5 ⟨rfl, x5, b5⟩; have s5 := x5.2.2; have HX5 := Lib.hid x5; clear x5 b5))
      go_wp2_with fail
      refine hK.out _ _ (by (try dsimp only); (first | assumption)) (fun hHeld => ?_)
      clear hK K
      try simp only [Act.put, List.setIfInBounds_toArray, List.set_cons_zero, List.set_cons_succ]
      refine wpAnyH_take (i := 4) (oi := ⟨_, _, _, _, _, _⟩) (v := ?_) rfl (by kernel_rfl) (by kernel_rfl) (by kernel_rfl) (fun _ _ _ h => h) (Or.inl ⟨by rfl, ?_⟩) (by assumption) ?_
      rotate_left
      · (intro wS hSw; (try dsimp only at hSw); go_simp <;> with_reducible rfl)
      try simp only [Act.put, List.setIfInBounds_toArray, List.set_cons_zero, List.set_cons_succ]
      refine wpAnyH_take (i := 10) (oi := ⟨_, _, _, _, _, _⟩) (v := ?_) rfl (by kernel_rfl) (by kernel_rfl) (by kernel_rfl) (fun _ _ _ h => h) (Or.inl ⟨by rfl, ?_⟩) (by assumption) ?_
      rotate_left
      · (intro wS hSw; (try dsimp only at hSw); go_simp <;> with_reducible rfl)
      try simp only [Act.put, List.setIfInBounds_toArray, List.set_cons_zero, List.set_cons_succ]
      refine wpAnyH_take (i := 11) (oi := ⟨_, _, _, _, _, _⟩) (v := ?_) rfl (by kernel_rfl) (by kernel_rfl) (by kernel_rfl) (fun _ _ _ h => h) (Or.inl ⟨by rfl, ?_⟩) (by assumption) ?_
      rotate_left
      · (intro wS hSw; (try dsimp only at hSw); go_simp <;> with_reducible rfl)
      try simp only [Act.put, List.setIfInBounds_toArray, List.set_cons_zero, List.set_cons_succ]
      refine wpAnyH_done (by kernel_rfl) ?_ _
      go_wp2_with fail
      go_ret
      exact ⟨rfl, acc HBX.out HX5.out.1.1⟩
set_option maxRecDepth 100000 in
set_option maxHeartbeats 8000000 in
theorem cutMovesFull (A : Option Addr) (c : Nat) (zs : List Item) (f t : Nat) (m : Int) (W : World) (hA : ItemsAt W A zs) (hz : zs.length ≤ 60) (hf : f < 18446744073709551616) (ht : t < 18446744073709551616) (m0 : 0 ≤ m) (m1 : m ≤ 100)
    (l a left tl : List Item) (na nl : Nat) (hl : fillL zs = l) (ha : arcL l f t = a) (hleft : leftL l f t = left) (hna : a.length = na) (hnl : l.length = nl) (htl : [] = tl) (hok : m < (na : Int)) :
    Calls Try.prog 3 #[.slice A zs.length c, .agg #[.int .u64 (f : Nat), .int .u64 (t : Nat)], .int .i64 m] W fun e w' => e = .returned (.bool true) ∧ Below W.heap.size W w' := by
  have CA : Hid (∀ w, Calls Try.prog 9 #[] w fun e w' => e = .returned (.bool true) ∧ Below w.heap.size w w') := fun w => cutAlive_any w w (Below.refl _ _)
  obtain ⟨V, hV⟩ : ∃ V, W.alloc (.cells #[.int .u64 (f : Nat), .int .u64 (t : Nat)] 25) = V := ⟨_, rfl⟩
  have HBX : Hid (Below W.heap.size W V) := by rw [← hV]; exact (Below.refl _ _).alloc (Nat.le_refl _) _
  have hAV : ItemsAt V A zs := hA.below HBX.out
  have hfine : Fine l := by rw [← hl]; exact fillL_fine zs
  have hright : Right l := by rw [← hl]; exact fillL_right zs
  have hlen : nl ≤ 60 := by rw [← hnl, ← hl]; exact fillL_length zs
  have hcnt : left.length + na = nl := by
    rw [← hna, ← hnl, ← ha, ← hleft, Nat.add_comm]; exact arcL_count l f t
  obtain ⟨pf1, pf2⟩ := puts_fresh hfine.1 hright f t m0
  rw [ha, hna] at pf1 pf2
  have pf1' : putsE m [] a = 5 := by rw [pf1, if_neg (by omega)]
  have CF : Hid (∀ w, Below V.heap.size V w → Calls Try.prog 10 #[.slice A zs.length c] w fun e w' => ∃ gs gr, e = .returned (.tuple #[.pointer (some ⟨gs, 0, none⟩), .pointer (some ⟨gr, 0, none⟩)]) ∧ OSR SH V w' [] gs l gr l) := fun w hw => (filled_any shelfLaws A c zs V w hw hAV (by omega)).mono (by
    rintro e w' ⟨gs, gr, rfl, z⟩
    rw [hl] at z
    exact ⟨gs, gr, rfl, z⟩)
  have CN : Hid (∀ w gs gr, OSR SH V w [] gs l gr l → Calls Try.prog 11 #[.int .i64 m] w fun e w' => ∃ gt P Fr, e = .returned (.pointer (some ⟨gt, 0, none⟩)) ∧ S2 V w' P gs 200 l gt m [] ∧ RS w' gr Fr 200 l ∧ gr ∈ P ∧ ∀ q ∈ Fr, q ∈ P) := fun w gs gr h => (shelfLaws.new w m (by omega) (by omega)).mono (by
    rintro e w' ⟨gt, F2, rfl, z1, z2, z3⟩
    rw [show min (max m 0) 200 = m by omega] at z1
    obtain ⟨P, Fr, y1, y2, y3, y4⟩ := S2.of h z1 z2 z3
    exact ⟨gt, P, Fr, rfl, y1, y2, y3, y4⟩)
  have CO : Hid (∀ w gs gt P, S2 V w P gs 200 l gt m [] → Calls Try.prog 12 #[.pointer (some ⟨gs, 0, none⟩), .agg #[.int .u64 (f : Nat), .int .u64 (t : Nat)]] w fun e w' =>
      ∃ A c, e = .returned (.slice A na c) ∧ w'.ownsRow w.heap.size 39 2 (.slice A na c) na (itemCells a) ∧ S2 V w' (P ++ (Value.slice A na c).ownBlock.toList) gs 200 left gt m [] ∧ Kp P w w') := fun w gs gt P h => by
    have z := h.out1 f t hf ht ha hleft
    rwa [hna] at z
  have CI : Hid (∀ w gs gt P A c, S2 V w P gs 200 left gt m [] → w.ownsRow 0 39 2 (.slice A na c) na (itemCells a) → (∀ q, (Value.slice A na c).ownBlock = some q → q ∈ P) → Calls Try.prog 13 #[.pointer (some ⟨gt, 0, none⟩), .slice A na c] w fun e w' => e = .returned (.int .i64 5) ∧ S2 V w' P gs 200 left gt m tl ∧ Kp P w w') := fun w gs gt P A c h hr hP => by
    have z := h.swap.in1 (ms := a) (by rw [hna]; exact hr) (by rw [hna]; exact hP) (fun x hx => by
      have z := hright.arc f t x (by rw [ha]; exact hx)
      unfold rightN valueN at z
      unfold maxLen
      constructor
      · have := z.1; split at this <;> omega
      · have := z.2; split at this <;> omega) pf1' (l' := tl) (by rw [inS, if_neg (by rw [pf1']; omega)]; exact htl)
    rw [hna] at z
    exact z.mono (fun _ _ ⟨z1, z2, z3⟩ => ⟨z1, z2.swap, z3⟩)
  have CAD : Hid (∀ (x : Item) w, x ∈ l → Calls Try.prog 17 #[.string x.1] w fun e w' => e = .returned (.int .u64 (adr x : Nat)) ∧ w = w') := fun x w hx => refAddr_any x.1 w (by have := hfine.2 x hx; unfold maxLen; omega)
  have CIN : Hid (∀ (x : Item) w, Calls Try.prog 16 #[.agg #[.int .u64 (f : Nat), .int .u64 (t : Nat)], .int .u64 (adr x : Nat)] w fun e w' => e = .returned (.bool (inB f t (adr x))) ∧ Below w.heap.size w w') := fun x w => refIn_any f t (adr x) w (by omega) (by omega) (by have := adr_lt x; omega)
  have HH : Hid (∀ x ∈ l, hasN left x.1 = !inB f t (adr x) ∧ hasN tl x.1 = false) := fun x hx => by
    refine ⟨?_, ?_⟩
    · rw [← hleft]
      cases c : inB f t (adr x)
      · exact (hasN_iff (rising_leftL hfine.1 f t) _).2 ⟨x, mem_leftL.2 ⟨hx, c⟩, rfl⟩
      · refine hasN_none (rising_leftL hfine.1 f t) (fun y hy e => ?_)
        have z := (mem_leftL.1 hy).2
        rw [adr_key e, c] at z
        cases z
    · rw [← htl]
      rfl
  have CL1 : Hid (∀ w P gs gt gr LA lc, MX V w P gs left gt m tl gr LA lc nl l → Calls Try.prog 14 #[.pointer (some ⟨gs, 0, none⟩)] w fun e w' => e = .returned (.int .i64 (left.length : Nat)) ∧ MX V w' P gs left gt m tl gr LA lc nl l ∧ Below w.heap.size w w') := fun w P gs gt gr LA lc h => (h.1.len1 rfl).mono (fun _ _ ⟨z1, _, z3⟩ => ⟨z1, h.below z3, z3⟩)
  have CL0 : Hid (∀ w P gs gt, S2 V w P gs 200 left gt m tl → Calls Try.prog 14 #[.pointer (some ⟨gt, 0, none⟩)] w fun e w' => e = .returned (.int .i64 0) ∧ S2 V w' P gs 200 left gt m tl ∧ Below w.heap.size w w') := fun w P gs gt h => (h.swap.len1 (n := 0) (by rw [← htl]; rfl)).mono (fun _ _ ⟨z1, z2, z3⟩ => ⟨z1, z2.swap, z3⟩)
  have HVC : Hid (∀ w, Below V.heap.size V w → w.cell? ⟨W.heap.size, 0, none⟩ = some (.int .u64 (f : Nat)) ∧ w.cell? ⟨W.heap.size, 1, none⟩ = some (.int .u64 (t : Nat))) := fun w hw => by
    have hlt : W.heap.size < V.heap.size := by rw [← hV]; simp
    have g0 : V.cell? ⟨W.heap.size, 0, none⟩ = some (.int .u64 (f : Nat)) := by rw [← hV]; exact arc_new0 _ _ _ _
    have g1 : V.cell? ⟨W.heap.size, 1, none⟩ = some (.int .u64 (t : Nat)) := by rw [← hV]; exact arc_new1 _ _ _ _
    exact ⟨(hw.cell (p := ⟨W.heap.size, 0, none⟩) hlt).trans g0, (hw.cell (p := ⟨W.heap.size, 1, none⟩) hlt).trans g1⟩
  obtain ⟨nz, hnz⟩ : ∃ x, zs.length = x := ⟨_, rfl⟩
  rw [hnz] at CF hz ⊢
  obtain ⟨nf, hnf⟩ : ∃ x, left.length = x := ⟨_, rfl⟩
  rw [hnf] at CL1 hcnt
  have HV := Lib.hid hV
  have HN := Lib.hid hnl
  have d0 : decide ((60 : Int) < (nz : Int)) = false := by simp; omega
  have d1 : decide (m < 0) = false := by simp; omega
  have d2 : decide (100 < m) = false := by simp; omega
  have d3 : decide ((na : Int) ≤ m) = false := by simp; omega
  have hn1 : na ≤ 60 := by omega
  have hn2 : nf ≤ 60 := by omega
  have d4 : IntKind.i64.wrap ((nf : Int) + (na : Int)) = (nl : Int) := by rw [IntKind.wrap_i64]; omega
  clear hA hAV hfine hright hl ha hleft hna hnl hnz hV pf1 pf2 pf1' htl hok hnf
  go_enter Try.func3, Try.ntmps3
  go_upto_region 11 with (first
    | (go_at_call 9; (with_reducible refine (CA.out _).mono ?_); rintro e w1 ⟨rfl, h1⟩; rw [HV.out] at h1; have B1 := Lib.hid h1; clear h1)
    | (go_at_call 10; (with_reducible refine (CF.out _ B1.out).mono ?_); rintro e w2 ⟨gs, gr, rfl, h2⟩; have H2 := Lib.hid h2; clear h2)
    | (go_at_call 11; (with_reducible refine (CN.out _ _ _ H2.out).mono ?_); rintro e w3 ⟨gt, P, Fr, rfl, h3, r3, p1, p2⟩; obtain ⟨y0, y1⟩ := HVC.out _ h3.1; have H3 := Lib.hid h3; have R3 := Lib.hid r3; have HPg := Lib.hid p1; have HPF := Lib.hid p2; clear h3 r3 p1 p2)
    | (go_at_call 12; (with_reducible refine (CO.out _ _ _ _ H3.out).mono ?_); rintro e w4 ⟨A4, c4, rfl, r4, h4, k4⟩; have R4 := Lib.hid (k4.rs R3.out HPg.out HPF.out); have H4 := Lib.hid h4; have HO4 := Lib.hid (own_mono r4 (Nat.zero_le _)); clear r4 h4 k4)
    | (go_at_call 13; (with_reducible refine (CI.out _ _ _ _ _ _ H4.out HO4.out (fun q hq => List.mem_append_right _ (by simp [hq]))).mono ?_); rintro e w5 ⟨rfl, h5, k5⟩; have R5 := Lib.hid (k5.rs R4.out (List.mem_append_left _ HPg.out) (fun q hq => List.mem_append_left _ (HPF.out q hq))); have HI4 := Lib.hid h5; clear h5 k5)
    | (go_at_call 14; (with_reducible refine (CL0.out _ _ _ _ HI4.out).mono ?_); rintro e w6 ⟨rfl, h6, b6⟩; have R6 : Hid (RS w6 gr Fr 200 l) := R5.out.touch (Touch.ofBelow (F := []) b6) (by simp) (by simp); have HI5 := Lib.hid h6; clear h6 b6))
  generalize P ++ (Value.slice A4 na c4).ownBlock.toList = P2 at *
  obtain ⟨LA, lc, ⟨g1, -, g2, -, -⟩, g3, -, -⟩ := R6.out
  rw [HN.out] at g2
  have HX0 : Hid (MX V w6 P2 gs left gt m tl gr LA lc nl l) := ⟨HI5.out, by rw [← HN.out]; rw [← HN.out] at g2; exact g3, g2⟩
  clear g1 g3 y0 y1
  go_wp2_with fail
  go_loopg [79] (nl + 1) (fun gh s79 wx => ∃ i : Nat, i + gh = nl + 1 ∧ i ≤ nl ∧ s79 = .int .i64 (i : Nat) ∧ Hid (MX V wx P2 gs left gt m tl gr LA lc nl l))
  case atStart => exact ⟨0, by omega, by omega, rfl, HX0.out⟩
  case round =>
    obtain ⟨i, hig, hi, rfl, HX⟩ := hrel
    by_cases hlt : i < nl
    · have hil : i < l.length := by rw [HN.out]; exact hlt
      obtain ⟨q, rfl⟩ := own_at HX.out.2.1 (by omega)
      have ck := (HX.out.2.1.cellAt (i * 2) (by omega)).trans (itemCells_get0 l i hil)
      have cv := (HX.out.2.1.cellAt (i * 2 + 1) (by omega)).trans (itemCells_get1 l i hil)
      have hhx := HH.out _ (List.getElem_mem hil)
      have cad := fun w => CAD.out _ w (List.getElem_mem hil)
      have cin := fun w => CIN.out (l[i]) w
      have hal := adr_lt (l[i])
      obtain ⟨x, hx'⟩ : ∃ x, l[i] = x := ⟨_, rfl⟩
      rw [hx'] at ck cv hhx cad cin hal
      obtain ⟨xk, xv⟩ := x
      dsimp only at ck cv hhx cad
      obtain ⟨ad, had⟩ : ∃ ad, adr (xk, xv) = ad := ⟨_, rfl⟩
      rw [had] at hhx cad cin hal
      obtain ⟨h1, h2⟩ := hhx
      clear hx' hil had
      cases hb : inB f t ad
      · rw [hb] at h1 cin
        try rw [hb] at h2
        have CG1 := Lib.hid (fun w (h : MX V w P2 gs left gt m tl gr (some ⟨q, 0, none⟩) lc nl l) => h.get1 xk _ true rfl h1)
        have CG2 := Lib.hid (fun w (h : MX V w P2 gs left gt m tl gr (some ⟨q, 0, none⟩) lc nl l) => h.get2 xk _ false rfl h2)
        have CADR := Lib.hid cad
        have CINR := Lib.hid cin
        clear h1 h2 cad cin hb
        go_upto_region 16 with (first
          | (go_at_call 15; (with_reducible refine (CG1.out _ (HX.out.below ((Below.refl _ _).alloc (Nat.le_refl _) _))).mono ?_); rintro e w3 ⟨rfl, x3, b3⟩; have c30 : w3.cell? ⟨wr.heap.size, 0, none⟩ = some (.string xk) := (b3.cell (p := ⟨wr.heap.size, 0, none⟩) (by simp)).trans (arc_new0 _ _ _ _); have c31 : w3.cell? ⟨wr.heap.size, 1, none⟩ = some (.string xv) := (b3.cell (p := ⟨wr.heap.size, 1, none⟩) (by simp)).trans (arc_new1 _ _ _ _); have hz3 := World.block_lt_of_cell? w3 _ c30; have HX1 := Lib.hid x3; clear x3 b3)
          | (go_at_call 15; (with_reducible refine (CG2.out _ HX1.out).mono ?_); rintro e w4 ⟨rfl, x4, b4⟩; have HS16 : Hid (∀ w', Below w4.heap.size w4 w' → w'.cell? ⟨W.heap.size, 0, none⟩ = some (.int .u64 (f : Nat)) ∧ w'.cell? ⟨W.heap.size, 1, none⟩ = some (.int .u64 (t : Nat)) ∧ w'.cell? ⟨wr.heap.size, 0, none⟩ = some (.string xk) ∧ w'.cell? ⟨wr.heap.size, 1, none⟩ = some (.string xv)) := (fun w' h => ⟨(HVC.out _ (acc x4.1.1 h)).1, (HVC.out _ (acc x4.1.1 h)).2, ((b4.trans (h.mono b4.size)).cell (p := ⟨wr.heap.size, 0, none⟩) hz3).trans c30, ((b4.trans (h.mono b4.size)).cell (p := ⟨wr.heap.size, 1, none⟩) hz3).trans c31⟩); have HX2 := Lib.hid x4; clear x4 b4))
        refine wp_region_held_drew (S := (fun w' => w'.cell? ⟨W.heap.size, 0, none⟩ = some (.int .u64 (f : Nat)) ∧ w'.cell? ⟨W.heap.size, 1, none⟩ = some (.int .u64 (t : Nat)) ∧ w'.cell? ⟨wr.heap.size, 0, none⟩ = some (.string xk) ∧ w'.cell? ⟨wr.heap.size, 1, none⟩ = some (.string xv))) (by kernel_rfl) ?_ (fun hHeld => ?_)
        · (try dsimp only); (first | assumption | exact HS16.out _ (Below.refl _ _).drew)
        refine wpAnyH_take (i := 0) (oi := ⟨_, _, _, _, _, _⟩) (v := ?_) rfl (by kernel_rfl) (by kernel_rfl) (by kernel_rfl) (fun _ _ _ h => h) (Or.inl ⟨by rfl, ?_⟩) (by assumption) ?_
        rotate_left
        · (intro wS hSw; (try dsimp only at hSw); go_simp <;> with_reducible rfl)
        try simp only [Act.put, List.setIfInBounds_toArray, List.set_cons_zero, List.set_cons_succ]
        refine wpAnyH_take (i := 1) (oi := ⟨_, _, _, _, _, _⟩) (v := ?_) rfl (by kernel_rfl) (by kernel_rfl) (by kernel_rfl) (fun _ _ _ h => h) (Or.inl ⟨by rfl, ?_⟩) (by assumption) ?_
        rotate_left
        · (intro wS hSw; (try dsimp only at hSw); go_simp <;> with_reducible rfl)
        try simp only [Act.put, List.setIfInBounds_toArray, List.set_cons_zero, List.set_cons_succ]
        refine wpAnyH_take (i := 2) (oi := ⟨_, _, _, _, _, _⟩) (v := ?_) rfl (by kernel_rfl) (by kernel_rfl) (by kernel_rfl) (fun _ _ _ h => h) (Or.inl ⟨by rfl, ?_⟩) (by assumption) ?_
        rotate_left
        · (intro wS hSw; (try dsimp only at hSw); go_simp <;> with_reducible rfl)
        try simp only [Act.put, List.setIfInBounds_toArray, List.set_cons_zero, List.set_cons_succ]
        refine wpAnyH_ready (rs := [3]) (by kernel_rfl) (by simp) ?_
        refine AllReadyH.cons (o := ⟨_, _, _, _, _, _⟩) rfl (fun K hK => ?_) AllReadyH.nil
        go_simp
        (first | (go_at_call 17; (with_reducible refine (CADR.out _).mono ?_); rintro e w5 ⟨rfl, rfl⟩) | (go_at_call 16; (with_reducible refine (CINR.out _).mono ?_); rintro e w6 ⟨rfl, b6⟩; have HX6 := Lib.hid ((HX2.out.below (Below.refl _ _).drew).below b6); have s6 := HS16.out _ ((Below.refl _ _).drew.trans b6); clear b6))
        go_wp2_with fail
        refine hK.out _ _ (by (try dsimp only); (first | assumption | exact HS16.out _ (Below.refl _ _).drew)) (fun hHeld => ?_)
        clear hK K
        try simp only [Act.put, List.setIfInBounds_toArray, List.set_cons_zero, List.set_cons_succ]
        refine wpAnyH_ready (rs := [4]) (by kernel_rfl) (by simp) ?_
        refine AllReadyH.cons (o := ⟨_, _, _, _, _, _⟩) rfl (fun K hK => ?_) AllReadyH.nil
        go_simp
        (first | (go_at_call 17; (with_reducible refine (CADR.out _).mono ?_); rintro e w5 ⟨rfl, rfl⟩) | (go_at_call 16; (with_reducible refine (CINR.out _).mono ?_); rintro e w6 ⟨rfl, b6⟩; have HX6 := Lib.hid ((HX2.out.below (Below.refl _ _).drew).below b6); have s6 := HS16.out _ ((Below.refl _ _).drew.trans b6); clear b6))
        go_wp2_with fail
        refine hK.out _ _ (by (try dsimp only); (first | assumption | exact HS16.out _ (Below.refl _ _).drew)) (fun hHeld => ?_)
        clear hK K
        try simp only [Act.put, List.setIfInBounds_toArray, List.set_cons_zero, List.set_cons_succ]
        refine wpAnyH_take (i := 5) (oi := ⟨_, _, _, _, _, _⟩) (v := ?_) rfl (by kernel_rfl) (by kernel_rfl) (by kernel_rfl) (fun _ _ _ h => h) (Or.inl ⟨by rfl, ?_⟩) (by assumption) ?_
        rotate_left
        · (intro wS hSw; (try dsimp only at hSw); go_simp <;> with_reducible rfl)
        try simp only [Act.put, List.setIfInBounds_toArray, List.set_cons_zero, List.set_cons_succ]
        refine wpAnyH_done (by kernel_rfl) ?_ _
        go_wp2_with fail
        go_roundg (gk - 1)
        case measure => omega
        case rel => exact ⟨i + 1, by omega, by omega, by go_num, HX6⟩
      · rw [hb] at h1 cin
        try rw [hb] at h2
        have CG1 := Lib.hid (fun w (h : MX V w P2 gs left gt m tl gr (some ⟨q, 0, none⟩) lc nl l) => h.get1 xk _ false rfl h1)
        have CG2 := Lib.hid (fun w (h : MX V w P2 gs left gt m tl gr (some ⟨q, 0, none⟩) lc nl l) => h.get2 xk _ false rfl h2)
        have CADR := Lib.hid cad
        have CINR := Lib.hid cin
        clear h1 h2 cad cin hb
        go_upto_region 16 with (first
          | (go_at_call 15; (with_reducible refine (CG1.out _ (HX.out.below ((Below.refl _ _).alloc (Nat.le_refl _) _))).mono ?_); rintro e w3 ⟨rfl, x3, b3⟩; have c30 : w3.cell? ⟨wr.heap.size, 0, none⟩ = some (.string xk) := (b3.cell (p := ⟨wr.heap.size, 0, none⟩) (by simp)).trans (arc_new0 _ _ _ _); have c31 : w3.cell? ⟨wr.heap.size, 1, none⟩ = some (.string xv) := (b3.cell (p := ⟨wr.heap.size, 1, none⟩) (by simp)).trans (arc_new1 _ _ _ _); have hz3 := World.block_lt_of_cell? w3 _ c30; have HX1 := Lib.hid x3; clear x3 b3)
          | (go_at_call 15; (with_reducible refine (CG2.out _ HX1.out).mono ?_); rintro e w4 ⟨rfl, x4, b4⟩; have HS16 : Hid (∀ w', Below w4.heap.size w4 w' → w'.cell? ⟨W.heap.size, 0, none⟩ = some (.int .u64 (f : Nat)) ∧ w'.cell? ⟨W.heap.size, 1, none⟩ = some (.int .u64 (t : Nat)) ∧ w'.cell? ⟨wr.heap.size, 0, none⟩ = some (.string xk) ∧ w'.cell? ⟨wr.heap.size, 1, none⟩ = some (.string xv)) := (fun w' h => ⟨(HVC.out _ (acc x4.1.1 h)).1, (HVC.out _ (acc x4.1.1 h)).2, ((b4.trans (h.mono b4.size)).cell (p := ⟨wr.heap.size, 0, none⟩) hz3).trans c30, ((b4.trans (h.mono b4.size)).cell (p := ⟨wr.heap.size, 1, none⟩) hz3).trans c31⟩); have HX2 := Lib.hid x4; clear x4 b4))
        refine wp_region_held_drew (S := (fun w' => w'.cell? ⟨W.heap.size, 0, none⟩ = some (.int .u64 (f : Nat)) ∧ w'.cell? ⟨W.heap.size, 1, none⟩ = some (.int .u64 (t : Nat)) ∧ w'.cell? ⟨wr.heap.size, 0, none⟩ = some (.string xk) ∧ w'.cell? ⟨wr.heap.size, 1, none⟩ = some (.string xv))) (by kernel_rfl) ?_ (fun hHeld => ?_)
        · (try dsimp only); (first | assumption | exact HS16.out _ (Below.refl _ _).drew)
        refine wpAnyH_take (i := 0) (oi := ⟨_, _, _, _, _, _⟩) (v := ?_) rfl (by kernel_rfl) (by kernel_rfl) (by kernel_rfl) (fun _ _ _ h => h) (Or.inl ⟨by rfl, ?_⟩) (by assumption) ?_
        rotate_left
        · (intro wS hSw; (try dsimp only at hSw); go_simp <;> with_reducible rfl)
        try simp only [Act.put, List.setIfInBounds_toArray, List.set_cons_zero, List.set_cons_succ]
        refine wpAnyH_take (i := 1) (oi := ⟨_, _, _, _, _, _⟩) (v := ?_) rfl (by kernel_rfl) (by kernel_rfl) (by kernel_rfl) (fun _ _ _ h => h) (Or.inl ⟨by rfl, ?_⟩) (by assumption) ?_
        rotate_left
        · (intro wS hSw; (try dsimp only at hSw); go_simp <;> with_reducible rfl)
        try simp only [Act.put, List.setIfInBounds_toArray, List.set_cons_zero, List.set_cons_succ]
        refine wpAnyH_take (i := 2) (oi := ⟨_, _, _, _, _, _⟩) (v := ?_) rfl (by kernel_rfl) (by kernel_rfl) (by kernel_rfl) (fun _ _ _ h => h) (Or.inl ⟨by rfl, ?_⟩) (by assumption) ?_
        rotate_left
        · (intro wS hSw; (try dsimp only at hSw); go_simp <;> with_reducible rfl)
        try simp only [Act.put, List.setIfInBounds_toArray, List.set_cons_zero, List.set_cons_succ]
        refine wpAnyH_ready (rs := [3]) (by kernel_rfl) (by simp) ?_
        refine AllReadyH.cons (o := ⟨_, _, _, _, _, _⟩) rfl (fun K hK => ?_) AllReadyH.nil
        go_simp
        (first | (go_at_call 17; (with_reducible refine (CADR.out _).mono ?_); rintro e w5 ⟨rfl, rfl⟩) | (go_at_call 16; (with_reducible refine (CINR.out _).mono ?_); rintro e w6 ⟨rfl, b6⟩; have HX6 := Lib.hid ((HX2.out.below (Below.refl _ _).drew).below b6); have s6 := HS16.out _ ((Below.refl _ _).drew.trans b6); clear b6))
        go_wp2_with fail
        refine hK.out _ _ (by (try dsimp only); (first | assumption | exact HS16.out _ (Below.refl _ _).drew)) (fun hHeld => ?_)
        clear hK K
        try simp only [Act.put, List.setIfInBounds_toArray, List.set_cons_zero, List.set_cons_succ]
        refine wpAnyH_ready (rs := [4]) (by kernel_rfl) (by simp) ?_
        refine AllReadyH.cons (o := ⟨_, _, _, _, _, _⟩) rfl (fun K hK => ?_) AllReadyH.nil
        go_simp
        (first | (go_at_call 17; (with_reducible refine (CADR.out _).mono ?_); rintro e w5 ⟨rfl, rfl⟩) | (go_at_call 16; (with_reducible refine (CINR.out _).mono ?_); rintro e w6 ⟨rfl, b6⟩; have HX6 := Lib.hid ((HX2.out.below (Below.refl _ _).drew).below b6); have s6 := HS16.out _ ((Below.refl _ _).drew.trans b6); clear b6))
        go_wp2_with fail
        refine hK.out _ _ (by (try dsimp only); (first | assumption | exact HS16.out _ (Below.refl _ _).drew)) (fun hHeld => ?_)
        clear hK K
        try simp only [Act.put, List.setIfInBounds_toArray, List.set_cons_zero, List.set_cons_succ]
        refine wpAnyH_take (i := 5) (oi := ⟨_, _, _, _, _, _⟩) (v := ?_) rfl (by kernel_rfl) (by kernel_rfl) (by kernel_rfl) (fun _ _ _ h => h) (Or.inl ⟨by rfl, ?_⟩) (by assumption) ?_
        rotate_left
        · (intro wS hSw; (try dsimp only at hSw); go_simp <;> with_reducible rfl)
        try simp only [Act.put, List.setIfInBounds_toArray, List.set_cons_zero, List.set_cons_succ]
        refine wpAnyH_done (by kernel_rfl) ?_ _
        go_wp2_with fail
        go_roundg (gk - 1)
        case measure => omega
        case rel => exact ⟨i + 1, by omega, by omega, by go_num, HX6⟩
    · obtain rfl : nl = i := by omega
      go_upto_region 20 with fail
      refine wp_region_held_drew (S := (fun w' => w'.cell? ⟨gr, 1, none⟩ = some (.slice LA nl lc))) (by kernel_rfl) ?_ (fun hHeld => ?_)
      · (try dsimp only); exact HX.out.2.2
      refine wpAnyH_take (i := 0) (oi := ⟨_, _, _, _, _, _⟩) (v := ?_) rfl (by kernel_rfl) (by kernel_rfl) (by kernel_rfl) (fun _ _ _ h => h) (Or.inl ⟨by rfl, ?_⟩) (by assumption) ?_
      rotate_left
      · (intro wS hSw; (try dsimp only at hSw); go_simp <;> with_reducible rfl)
      try simp only [Act.put, List.setIfInBounds_toArray, List.set_cons_zero, List.set_cons_succ]
      refine wpAnyH_take (i := 2) (oi := ⟨_, _, _, _, _, _⟩) (v := ?_) rfl (by kernel_rfl) (by kernel_rfl) (by kernel_rfl) (fun _ _ _ h => h) (Or.inl ⟨by rfl, ?_⟩) (by assumption) ?_
      rotate_left
      · (intro wS hSw; (try dsimp only at hSw); go_simp <;> with_reducible rfl)
      try simp only [Act.put, List.setIfInBounds_toArray, List.set_cons_zero, List.set_cons_succ]
      refine wpAnyH_take (i := 3) (oi := ⟨_, _, _, _, _, _⟩) (v := ?_) rfl (by kernel_rfl) (by kernel_rfl) (by kernel_rfl) (fun _ _ _ h => h) (Or.inl ⟨by rfl, ?_⟩) (by assumption) ?_
      rotate_left
      · (intro wS hSw; (try dsimp only at hSw); go_simp <;> with_reducible rfl)
      try simp only [Act.put, List.setIfInBounds_toArray, List.set_cons_zero, List.set_cons_succ]
      refine wpAnyH_take (i := 5) (oi := ⟨_, _, _, _, _, _⟩) (v := ?_) rfl (by kernel_rfl) (by kernel_rfl) (by kernel_rfl) (fun _ _ _ h => h) (Or.inl ⟨by rfl, ?_⟩) (by assumption) ?_
      rotate_left
      · (intro wS hSw; (try dsimp only at hSw); go_simp <;> with_reducible rfl)
      try simp only [Act.put, List.setIfInBounds_toArray, List.set_cons_zero, List.set_cons_succ]
      refine wpAnyH_take (i := 6) (oi := ⟨_, _, _, _, _, _⟩) (v := ?_) rfl (by kernel_rfl) (by kernel_rfl) (by kernel_rfl) (fun _ _ _ h => h) (Or.inl ⟨by rfl, ?_⟩) (by assumption) ?_
      rotate_left
      · (intro wS hSw; (try dsimp only at hSw); go_simp <;> with_reducible rfl)
      try simp only [Act.put, List.setIfInBounds_toArray, List.set_cons_zero, List.set_cons_succ]
      refine wpAnyH_take (i := 7) (oi := ⟨_, _, _, _, _, _⟩) (v := ?_) rfl (by kernel_rfl) (by kernel_rfl) (by kernel_rfl) (fun _ _ _ h => h) (Or.inl ⟨by rfl, ?_⟩) (by assumption) ?_
      rotate_left
      · (intro wS hSw; (try dsimp only at hSw); go_simp <;> with_reducible rfl)
      try simp only [Act.put, List.setIfInBounds_toArray, List.set_cons_zero, List.set_cons_succ]
      refine wpAnyH_take (i := 8) (oi := ⟨_, _, _, _, _, _⟩) (v := ?_) rfl (by kernel_rfl) (by kernel_rfl) (by kernel_rfl) (fun _ _ _ h => h) (Or.inl ⟨by rfl, ?_⟩) (by assumption) ?_
      rotate_left
      · (intro wS hSw; (try dsimp only at hSw); go_simp <;> with_reducible rfl)
      try simp only [Act.put, List.setIfInBounds_toArray, List.set_cons_zero, List.set_cons_succ]
      refine wpAnyH_take (i := 9) (oi := ⟨_, _, _, _, _, _⟩) (v := ?_) rfl (by kernel_rfl) (by kernel_rfl) (by kernel_rfl) (fun _ _ _ h => h) (Or.inl ⟨by rfl, ?_⟩) (by assumption) ?_
      rotate_left
      · (intro wS hSw; (try dsimp only at hSw); go_simp <;> with_reducible rfl)
      try simp only [Act.put, List.setIfInBounds_toArray, List.set_cons_zero, List.set_cons_succ]
      refine wpAnyH_ready (rs := [1]) (by kernel_rfl) (by simp) ?_
      refine AllReadyH.cons (o := ⟨_, _, _, _, _, _⟩) rfl (fun K hK => ?_) AllReadyH.nil
      go_simp
      (first | (go_at_call 14; (with_reducible refine (CL1.out _ _ _ _ _ _ _ (HX.out.below (Below.refl _ _).drew)).mono ?_); rintro e w5 ⟨rfl, x5, b5⟩; have s5 := x5.2.2; have HX5 := Lib.hid x5; clear x5 b5))
      go_wp2_with fail
      refine hK.out _ _ (by (try dsimp only); (first | assumption)) (fun hHeld => ?_)
      clear hK K
      try simp only [Act.put, List.setIfInBounds_toArray, List.set_cons_zero, List.set_cons_succ]
      refine wpAnyH_take (i := 4) (oi := ⟨_, _, _, _, _, _⟩) (v := ?_) rfl (by kernel_rfl) (by kernel_rfl) (by kernel_rfl) (fun _ _ _ h => h) (Or.inl ⟨by rfl, ?_⟩) (by assumption) ?_
      rotate_left
      · (intro wS hSw; (try dsimp only at hSw); go_simp <;> with_reducible rfl)
      try simp only [Act.put, List.setIfInBounds_toArray, List.set_cons_zero, List.set_cons_succ]
      refine wpAnyH_take (i := 10) (oi := ⟨_, _, _, _, _, _⟩) (v := ?_) rfl (by kernel_rfl) (by kernel_rfl) (by kernel_rfl) (fun _ _ _ h => h) (Or.inl ⟨by rfl, ?_⟩) (by assumption) ?_
      rotate_left
      · (intro wS hSw; (try dsimp only at hSw); go_simp <;> with_reducible rfl)
      try simp only [Act.put, List.setIfInBounds_toArray, List.set_cons_zero, List.set_cons_succ]
      refine wpAnyH_take (i := 11) (oi := ⟨_, _, _, _, _, _⟩) (v := ?_) rfl (by kernel_rfl) (by kernel_rfl) (by kernel_rfl) (fun _ _ _ h => h) (Or.inl ⟨by rfl, ?_⟩) (by assumption) ?_
      rotate_left
      · (intro wS hSw; (try dsimp only at hSw); go_simp <;> with_reducible rfl)
      try simp only [Act.put, List.setIfInBounds_toArray, List.set_cons_zero, List.set_cons_succ]
      refine wpAnyH_done (by kernel_rfl) ?_ _
      go_wp2_with fail
      go_ret
      exact ⟨rfl, acc HBX.out HX5.out.1.1⟩
set_option maxRecDepth 100000 in
set_option maxHeartbeats 8000000 in
theorem cutMoves_any (A : Option Addr) (c : Nat) (zs : List Item) (f t : Nat) (m : Int) (W : World) (hA : ItemsAt W A zs) (hz : zs.length ≤ 9223372036854775807) (hf : f < 18446744073709551616) (ht : t < 18446744073709551616) (m0 : -9223372036854775808 ≤ m) (m1 : m ≤ 9223372036854775807) :
    Calls Try.prog 3 #[.slice A zs.length c, .agg #[.int .u64 (f : Nat), .int .u64 (t : Nat)], .int .i64 m] W fun e w' => e = .returned (.bool true) ∧ Below W.heap.size W w' := by
  by_cases bad : 60 < zs.length ∨ m < 0 ∨ 100 < m
  · have CA : Hid (∀ w, Calls Try.prog 9 #[] w fun e w' => e = .returned (.bool true) ∧ Below w.heap.size w w') := fun w => cutAlive_any w w (Below.refl _ _)
    obtain ⟨V, hV⟩ : ∃ V, W.alloc (.cells #[.int .u64 (f : Nat), .int .u64 (t : Nat)] 25) = V := ⟨_, rfl⟩
    have HBX : Hid (Below W.heap.size W V) := by rw [← hV]; exact (Below.refl _ _).alloc (Nat.le_refl _) _
    have HV := Lib.hid hV
    obtain ⟨nz, hnz⟩ : ∃ x, zs.length = x := ⟨_, rfl⟩
    rw [hnz] at bad hz ⊢
    clear hA hnz hV
    by_cases c0 : 60 < nz
    · have d0 : decide ((60 : Int) < (nz : Int)) = true := by simp; omega
      go_enter Try.func3, Try.ntmps3
      go_wp2_with (go_at_call 9; (with_reducible refine (CA.out _).mono ?_); rintro e w1 ⟨rfl, h1⟩)
      go_ret
      rw [HV.out] at h1
      exact ⟨rfl, acc HBX.out h1⟩
    have d0 : decide ((60 : Int) < (nz : Int)) = false := by simp; omega
    by_cases c1 : m < 0
    · have d1 : decide (m < 0) = true := by simp; omega
      go_enter Try.func3, Try.ntmps3
      go_wp2_with (go_at_call 9; (with_reducible refine (CA.out _).mono ?_); rintro e w1 ⟨rfl, h1⟩)
      go_ret
      rw [HV.out] at h1
      exact ⟨rfl, acc HBX.out h1⟩
    have d1 : decide (m < 0) = false := by simp; omega
    by_cases c2 : 100 < m
    · have d2 : decide (100 < m) = true := by simp; omega
      go_enter Try.func3, Try.ntmps3
      go_wp2_with (go_at_call 9; (with_reducible refine (CA.out _).mono ?_); rintro e w1 ⟨rfl, h1⟩)
      go_ret
      rw [HV.out] at h1
      exact ⟨rfl, acc HBX.out h1⟩
    have d2 : decide (100 < m) = false := by simp; omega
    exfalso
    omega
  · have h3 : 0 ≤ m ∧ m ≤ 100 ∧ zs.length ≤ 60 := by omega
    by_cases hok : ((arcL (fillL zs) f t).length : Int) ≤ m
    · exact cutMovesOk A c zs f t m W hA h3.2.2 hf ht h3.1 h3.2.1 _ _ _ _ _ _ rfl rfl rfl rfl rfl rfl hok
    · exact cutMovesFull A c zs f t m W hA h3.2.2 hf ht h3.1 h3.2.1 _ _ _ _ _ _ rfl rfl rfl rfl rfl rfl (by omega)
end Go.Proofs.Ytojiblhaiokdcaa
