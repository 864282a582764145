/-
  The code's hold: a scan. (Written by tools/genSC.py.)
-/
import Derived.Test.YthgndgoljchnfaaGreatHg34
namespace Go.Proofs.YthgndgoljchnfaaGreat
open Go.RowKit

theorem nextOf_eq (xs : List Item) (n : Nat) : nextOf xs n = pageNext xs n := rfl
theorem scanC_one {s : HO} {a : AK} {st : ByteArray} (hB : scanB a st = true) (hm : decide (a.most.toNat < (rangeL s.its a.key st).length) = false) : scanC s a st = ⟨0, ⟨#[]⟩, (rangeL s.its a.key st).take a.most.toNat, true, st, 0⟩ := by
  unfold scanC
  simp only [hB, if_true, hm, Bool.not_false, Bool.and_self]
theorem scanC_two {s : HO} {a : AK} {st T : ByteArray} {m : Bool} (hT : (if scanB a st = true then st else a.tt) = T) (hm : decide (a.most.toNat < (rangeL s.its a.key T).length) = m) (hc : (scanB a st && !m) = false) : scanC s a st = ⟨0, ⟨#[]⟩, (rangeL s.its a.key T).take a.most.toNat, m, pageNext (rangeL s.its a.key T) a.most.toNat, 0⟩ := by
  unfold scanC
  simp only [hT, hm, hc, Bool.false_eq_true, if_false, nextOf_eq]
/-- what a scan tells -/
def ScanPost (w : World) (s : HO) (a : AK) (e : Ending) (w' : World) : Prop :=
  ∃ stop A c, Upto s (addrN a.key) stop ∧ e = .returned (.agg ((scanT s a stop).cells (.slice A (scanT s a stop).its.length c))) ∧ w'.ownsRow w.heap.size 31 2 (.slice A (scanT s a stop).its.length c) (scanT s a stop).its.length (itemCells (scanT s a stop).its) ∧ Below w.heap.size w w'
theorem ScanPost.of {w w2 w5 w6 : World} {s : HO} {a : AK} {stop : Nat} {T : TL} {A : Option Addr} {c b4 : Nat} (hu : Upto s (addrN a.key) stop) (he : scanC s a (scanSt stop) = T) (ho : w5.ownsRow w2.heap.size 31 2 (.slice A T.its.length c) T.its.length (itemCells T.its)) (h2 : w.heap.size ≤ w2.heap.size) (h4 : b4 < w2.heap.size) (t : Touch [b4] w5 w6) (hb : Below w.heap.size w w6) :
    ScanPost w s a (.returned (.agg (T.cells (.slice A T.its.length c)))) w6 := by
  rw [scanC_eq hu] at he
  subst he
  exact ⟨stop, A, c, hu, rfl, own_mono (t.row ho (fun q hq z => by have := (ho.lt q hq).1; have e := List.mem_singleton.1 z; omega)) h2, hb⟩
set_option maxRecDepth 100000 in
set_option maxHeartbeats 4000000 in
theorem scan_any {w : World} {g sp : Nat} {s : HO} {l : List AO} {S : Value} {Fs Fg : List Nat} (a : AK) (ha : a.Fit) (hox : s.own (addrN a.key) ≠ none) (hnf : s.g.frozen (addrN a.key) = false) (hk : s.k ≤ 1000) (h : HM w g s l S sp Fs Fg) : Calls Tryz.prog 44 #[.pointer (some ⟨g, 0, none⟩), .agg a.cells] w (ScanPost w s a) := by
  have B0 : Below w.heap.size w ((w.alloc (.cells a.cells 37)).alloc (.cells tz 34)) := ((Below.refl _ _).alloc (Nat.le_refl _) _).alloc (by simp) _
  have hxa := (Bx.new w a.cells 37).old (.cells tz 34)
  have hx := Bx.new (w.alloc (.cells a.cells 37)) tz 34
  simp only [World.size_alloc] at hx
  have h1 := h.below B0
  have CA := Lib.hid (fun W => addr_any a.key W ha.key)
  have CS : Hid (∀ (W : World), HM W g s l S sp Fs Fg → Calls Tryz.prog 78 #[.pointer (some ⟨g, 0, none⟩), .int .u64 (addrN a.key : Nat)] W fun e w' => ∃ stop n : Nat, Upto s (addrN a.key) stop ∧ stop % 18446744073709551616 = n ∧ e = .returned (.int .u64 (n : Nat)) ∧ Below W.heap.size W w') := fun W h' => (stop_any _ (addrN_lt a.key) hox hnf hk h').mono (by
    rintro e w' ⟨⟨stop, hu, rfl⟩, hb⟩
    exact ⟨stop, _, hu, rfl, rfl, hb⟩)
  have CF : Hid (∀ (W : World) (n : Nat), n < 18446744073709551616 → Calls Tryz.prog 77 #[.int .u64 (n : Nat)] W fun e w' => e = .returned (.string (txt (firstN n))) ∧ Below W.heap.size W w') := fun W n hn => first_any n W hn
  have CP : Hid (∀ (W : World) (T : ByteArray), HM W g s l S sp Fs Fg → Calls Tryz.prog 80 #[.pointer (some ⟨sp, 0, none⟩), .string a.key, .string T, .int .i64 a.most] W fun e w' => ∃ A c k m nx, e = .returned (.tuple #[.slice A k c, .bool m, .string nx]) ∧ decide (a.most.toNat < (rangeL s.its a.key T).length) = m ∧ pageNext (rangeL s.its a.key T) a.most.toNat = nx ∧ k = ((rangeL s.its a.key T).take a.most.toNat).length ∧ w'.ownsRow W.heap.size 31 2 (.slice A k c) k (itemCells ((rangeL s.its a.key T).take a.most.toNat)) ∧ Below W.heap.size W w') := fun W T h' => (page_src (srcOfM h'.shelf) a.key T a.most ha.most.1 ha.most.2).mono (by
    rintro e w' ⟨A, c, rfl, ho, hb⟩
    exact ⟨A, c, _, _, _, rfl, rfl, rfl, rfl, ho, hb⟩)
  have CL := Lib.hid (fun (p q : ByteArray) (W : World) => less_any p q W)
  obtain ⟨op, key, val, tt, most⟩ := a
  obtain ⟨x, hxk⟩ : ∃ x, addrN key = x := ⟨_, rfl⟩
  have HXK := Lib.hid hxk
  dsimp only at CA CS CP
  rw [hxk] at CA CS
  clear hxk
  clear ha hox hnf hk h
  go_enter Tryz.func44, Tryz.ntmps44
  go_upto_region 1 with fail
  obtain ⟨b3, hb3⟩ : ∃ b3, w.heap.size = b3 := ⟨_, rfl⟩
  have HB3 : Hid (w.heap.size ≤ b3) := Nat.le_of_eq hb3
  rw [hb3] at hx hxa
  obtain ⟨w0, hw0⟩ : ∃ w0, (w.alloc (.cells #[.int .i64 op, .string key, .string val, .string tt, .int .i64 most] 37)).alloc (.cells tz 34) = w0 := ⟨_, rfl⟩
  dsimp only [AK.cells] at B0 hx hxa h1
  rw [hw0] at B0 hx hxa h1 ⊢
  try rw [hb3]
  clear hw0 hb3
  have HB0 := Lib.hid B0
  have HA0 := Lib.hid hxa
  have HX0 := Lib.hid hx
  have H0 := Lib.hid h1
  obtain ⟨b4, hb4⟩ : ∃ b4, b3 + 1 = b4 := ⟨_, rfl⟩
  have HB4 : Hid (w.heap.size ≤ b4) := by have := HB3.out; show _ ≤ _; omega
  rw [hb4] at hx HX0 ⊢
  clear hb4
  obtain ⟨x0, x1, x2, x3, x4, xl⟩ := hxa.five
  clear B0 hx hxa h1
  go_upto_region 3 with (first
    | (go_at_call 38; (with_reducible refine (CA.out _).mono ?_); rintro e wa ⟨rfl, rfl⟩)
    | (go_at_call 78; (with_reducible refine (CS.out _ H0.out).mono ?_); rintro e w1 ⟨stop, sn, hu, hsn, rfl, hb1⟩; have HSN : Hid (stop % 18446744073709551616 = sn ∧ sn < 18446744073709551616) := ⟨hsn, hsn ▸ Nat.mod_lt _ (by decide)⟩; have HU := Lib.hid hu; have HB1 := Lib.hid (acc HB0.out hb1); have HA1 := Lib.hid (HA0.out.below hb1); have HX1 := Lib.hid (HX0.out.below hb1); have H1 := Lib.hid (H0.out.below hb1); clear hu hsn hb1)
    | (go_at_call 77; (with_reducible refine (CF.out _ _ HSN.out.2).mono ?_); rintro e w2 ⟨rfl, hb2⟩; have HB2 := Lib.hid (acc HB1.out hb2); have HA2 := Lib.hid (HA1.out.below hb2); have HX2 := Lib.hid (HX1.out.below hb2); have H2 := Lib.hid (H1.out.below hb2); clear hb2))
  clear x0 x1 x2 x3 x4 xl
  obtain ⟨st, hst⟩ : ∃ st, txt (firstN sn) = st := ⟨_, rfl⟩
  have HST : Hid (scanSt stop = st) := by show scanSt stop = st; unfold scanSt; rw [HSN.out.1]; exact hst
  rw [hst]
  clear hst
  obtain ⟨x0, x1, x2, x3, x4, xl⟩ := HA2.out.five
  have c42 := H2.out.c4
  have HSS : Hid (∀ w', Below w2.heap.size w2 w' → w'.cell? ⟨g, 4, none⟩ = some (.pointer (some ⟨sp, 0, none⟩)) ∧ w'.cell? ⟨b3, 1, none⟩ = some (.string key) ∧ w'.cell? ⟨b3, 4, none⟩ = some (.int .i64 most)) := fun w' t => ⟨(H2.out.below t).c4, (HA2.out.below t).five.2.1, (HA2.out.below t).five.2.2.2.2.1⟩
  clear x0 x1 x2 x3 x4 xl c42
  have LG := H2.out.lt
  by_cases h1 : st.size = 0
  · have d1 : st.toList.isEmpty = true := by rw [List.isEmpty_iff]; exact List.length_eq_zero_iff.1 (by rw [Lib.toList_data]; exact h1)
    have d1' : st.toList = [] := List.isEmpty_iff.1 d1
    have HBB : Hid (scanB ⟨op, key, val, tt, most⟩ st = false) := by show scanB _ _ = _; unfold scanB; simp [h1]
    clear h1
    go_upto_region 6 with fail
    refine wp_region_till (fun w' => w'.cell? ⟨g, 4, none⟩ = some (.pointer (some ⟨sp, 0, none⟩)) ∧ w'.cell? ⟨b3, 1, none⟩ = some (.string key) ∧ w'.cell? ⟨b3, 4, none⟩ = some (.int .i64 most)) 16 (by kernel_rfl) ?_ (fun hHeld => ?_)
    · (try dsimp only); exact HSS.out _ (Below.refl _ _).drew
    refine wpAnyT_pure (i := 0) (oi := ⟨_, _, _, _, _, _⟩) (v := ?_) rfl (by kernel_rfl) (by kernel_rfl) (by kernel_rfl) (fun _ _ _ h => h) (by kernel_rfl) (Or.inl ⟨by rfl, ?_⟩) (by assumption) ?_
    rotate_left
    · (intro wS hSw; (try dsimp only at hSw); go_simp <;> with_reducible rfl)
    try simp only [Act.put, List.setIfInBounds_toArray, List.set_cons_zero, List.set_cons_succ]
    refine wpAnyT_pure (i := 1) (oi := ⟨_, _, _, _, _, _⟩) (v := ?_) rfl (by kernel_rfl) (by kernel_rfl) (by kernel_rfl) (fun _ _ _ h => h) (by kernel_rfl) (Or.inl ⟨by rfl, ?_⟩) (by assumption) ?_
    rotate_left
    · (intro wS hSw; (try dsimp only at hSw); go_simp <;> with_reducible rfl)
    try simp only [Act.put, List.setIfInBounds_toArray, List.set_cons_zero, List.set_cons_succ]
    refine wpAnyT_pure (i := 2) (oi := ⟨_, _, _, _, _, _⟩) (v := ?_) rfl (by kernel_rfl) (by kernel_rfl) (by kernel_rfl) (fun _ _ _ h => h) (by kernel_rfl) (Or.inl ⟨by rfl, ?_⟩) (by assumption) ?_
    rotate_left
    · (intro wS hSw; (try dsimp only at hSw); go_simp <;> with_reducible rfl)
    try simp only [Act.put, List.setIfInBounds_toArray, List.set_cons_zero, List.set_cons_succ]
    refine wpAnyT_pure (i := 4) (oi := ⟨_, _, _, _, _, _⟩) (v := ?_) rfl (by kernel_rfl) (by kernel_rfl) (by kernel_rfl) (fun _ _ _ h => h) (by kernel_rfl) (Or.inl ⟨by rfl, ?_⟩) (by assumption) ?_
    rotate_left
    · (intro wS hSw; (try dsimp only at hSw); go_simp <;> with_reducible rfl)
    try simp only [Act.put, List.setIfInBounds_toArray, List.set_cons_zero, List.set_cons_succ]
    refine wpAnyT_pure (i := 6) (oi := ⟨_, _, _, _, _, _⟩) (v := ?_) rfl (by kernel_rfl) (by kernel_rfl) (by kernel_rfl) (fun _ _ _ h => h) (by kernel_rfl) (Or.inl ⟨by rfl, ?_⟩) (by assumption) ?_
    rotate_left
    · (intro wS hSw; (try dsimp only at hSw); go_simp <;> with_reducible rfl)
    try simp only [Act.put, List.setIfInBounds_toArray, List.set_cons_zero, List.set_cons_succ]
    refine wpAnyT_pure (i := 7) (oi := ⟨_, _, _, _, _, _⟩) (v := ?_) rfl (by kernel_rfl) (by kernel_rfl) (by kernel_rfl) (fun _ _ _ h => h) (by kernel_rfl) (Or.inl ⟨by rfl, ?_⟩) (by assumption) ?_
    rotate_left
    · (intro wS hSw; (try dsimp only at hSw); go_simp <;> with_reducible rfl)
    try simp only [Act.put, List.setIfInBounds_toArray, List.set_cons_zero, List.set_cons_succ]
    refine wpAnyT_take (i := 3) (oi := ⟨_, _, _, _, _, _⟩) (v := ?_) rfl (by kernel_rfl) (by kernel_rfl) (by kernel_rfl) (fun _ _ _ h => h) (by kernel_rfl) (Or.inl ⟨by rfl, ?_⟩) (by assumption) ?_
    rotate_left
    · (intro wS hSw; (try dsimp only at hSw); go_simp <;> with_reducible rfl)
    try simp only [Act.put, List.setIfInBounds_toArray, List.set_cons_zero, List.set_cons_succ]
    refine wpAnyT_take (i := 5) (oi := ⟨_, _, _, _, _, _⟩) (v := ?_) rfl (by kernel_rfl) (by kernel_rfl) (by kernel_rfl) (fun _ _ _ h => h) (by kernel_rfl) (Or.inl ⟨by rfl, ?_⟩) (by assumption) ?_
    rotate_left
    · (intro wS hSw; (try dsimp only at hSw); go_simp <;> with_reducible rfl)
    try simp only [Act.put, List.setIfInBounds_toArray, List.set_cons_zero, List.set_cons_succ]
    refine wpAnyT_take (i := 8) (oi := ⟨_, _, _, _, _, _⟩) (v := ?_) rfl (by kernel_rfl) (by kernel_rfl) (by kernel_rfl) (fun _ _ _ h => h) (by kernel_rfl) (Or.inl ⟨by rfl, ?_⟩) (by assumption) ?_
    rotate_left
    · (intro wS hSw; (try dsimp only at hSw); go_simp <;> with_reducible rfl)
    try simp only [Act.put, List.setIfInBounds_toArray, List.set_cons_zero, List.set_cons_succ]
    refine wpAnyT_ready (rs := [9]) (by kernel_rfl) (by simp) ?_
    refine (AllReadyT.cons (o := ⟨_, _, _, _, _, _⟩) rfl (fun K hK => ?_) AllReadyT.nil)
    go_simp
    (first | (go_at_call 80; (with_reducible refine (CP.out _ _ (H2.out.below (Below.refl w2.heap.size w2).drew)).mono ?_); rintro e w5 ⟨A5, c5, k5, m5, nx5, rfl, hm, hnx, hk5, ho, hb5⟩))
    have HB5 : Hid (Below w2.heap.size w2 w5) := ((Below.refl w2.heap.size w2).drew).trans hb5
    have HO5 : Hid (w5.ownsRow w2.heap.size 31 2 (.slice A5 k5 c5) k5 (itemCells ((rangeL s.its key tt).take most.toNat))) := ho
    have HM5 := Lib.hid hm
    have HN5 := Lib.hid hnx
    have HK5 := Lib.hid hk5
    clear hm hnx hk5 ho hb5
    go_wp2_with fail
    refine hK.out _ _ (by (try dsimp only); (first | exact HSS.out _ HB5.out | exact HSS.out _ (Below.refl _ _).drew)) (fun hHeld => ?_)
    clear hK K
    try simp only [Act.put, List.setIfInBounds_toArray, List.set_cons_zero, List.set_cons_succ]
    refine wpAnyT_pure (i := 10) (oi := ⟨_, _, _, _, _, _⟩) (v := ?_) rfl (by kernel_rfl) (by kernel_rfl) (by kernel_rfl) (fun _ _ _ h => h) (by kernel_rfl) (Or.inl ⟨by rfl, ?_⟩) (by assumption) ?_
    rotate_left
    · (intro wS hSw; (try dsimp only at hSw); go_simp <;> with_reducible rfl)
    try simp only [Act.put, List.setIfInBounds_toArray, List.set_cons_zero, List.set_cons_succ]
    refine wpAnyT_pure (i := 11) (oi := ⟨_, _, _, _, _, _⟩) (v := ?_) rfl (by kernel_rfl) (by kernel_rfl) (by kernel_rfl) (fun _ _ _ h => h) (by kernel_rfl) (Or.inl ⟨by rfl, ?_⟩) (by assumption) ?_
    rotate_left
    · (intro wS hSw; (try dsimp only at hSw); go_simp <;> with_reducible rfl)
    try simp only [Act.put, List.setIfInBounds_toArray, List.set_cons_zero, List.set_cons_succ]
    refine wpAnyT_pure (i := 12) (oi := ⟨_, _, _, _, _, _⟩) (v := ?_) rfl (by kernel_rfl) (by kernel_rfl) (by kernel_rfl) (fun _ _ _ h => h) (by kernel_rfl) (Or.inl ⟨by rfl, ?_⟩) (by assumption) ?_
    rotate_left
    · (intro wS hSw; (try dsimp only at hSw); go_simp <;> with_reducible rfl)
    try simp only [Act.put, List.setIfInBounds_toArray, List.set_cons_zero, List.set_cons_succ]
    refine wpAnyT_pure (i := 13) (oi := ⟨_, _, _, _, _, _⟩) (v := ?_) rfl (by kernel_rfl) (by kernel_rfl) (by kernel_rfl) (fun _ _ _ h => h) (by kernel_rfl) (Or.inl ⟨by rfl, ?_⟩) (by assumption) ?_
    rotate_left
    · (intro wS hSw; (try dsimp only at hSw); go_simp <;> with_reducible rfl)
    try simp only [Act.put, List.setIfInBounds_toArray, List.set_cons_zero, List.set_cons_succ]
    refine wpAnyT_pure (i := 14) (oi := ⟨_, _, _, _, _, _⟩) (v := ?_) rfl (by kernel_rfl) (by kernel_rfl) (by kernel_rfl) (fun _ _ _ h => h) (by kernel_rfl) (Or.inl ⟨by rfl, ?_⟩) (by assumption) ?_
    rotate_left
    · (intro wS hSw; (try dsimp only at hSw); go_simp <;> with_reducible rfl)
    try simp only [Act.put, List.setIfInBounds_toArray, List.set_cons_zero, List.set_cons_succ]
    refine wpAnyT_pure (i := 15) (oi := ⟨_, _, _, _, _, _⟩) (v := ?_) rfl (by kernel_rfl) (by kernel_rfl) (by kernel_rfl) (fun _ _ _ h => h) (by kernel_rfl) (Or.inl ⟨by rfl, ?_⟩) (by assumption) ?_
    rotate_left
    · (intro wS hSw; (try dsimp only at hSw); go_simp <;> with_reducible rfl)
    try simp only [Act.put, List.setIfInBounds_toArray, List.set_cons_zero, List.set_cons_succ]
    refine wpAnyT_ready (rs := [16]) (by kernel_rfl) (by simp) ?_
    refine (AllReadyT.past (o := ⟨_, _, _, _, _, _⟩) rfl (by kernel_rfl) (fun K hK => ?_) AllReadyT.nil)
    go_simp
    refine hK.out _ _ ?_
    clear hK K
    try simp only [Act.put, List.setIfInBounds_toArray, List.set_cons_zero, List.set_cons_succ]
    refine wpAnyT_done (by kernel_rfl) ?_ _
    have HX5 := Lib.hid (HX2.out.below HB5.out)
    obtain ⟨z0, z1, z2, z3, z4, z5, zl⟩ := HX5.out.six
    obtain ⟨f0, f1, f2, f3, f4, f5⟩ := HX5.out.free6
    go_wp2_with fail
    refine bodyPost_ret (v := .agg #[.int .i64 0, .string ⟨#[]⟩, .slice A5 k5 c5, .bool m5, .string nx5, .int .i64 0]) ?_ rfl ?_
    · obtain ⟨s0, s1, s2, s3, s4, s5, _⟩ := (HX5.out.put6 (.int .i64 0) (.string ⟨#[]⟩) (.slice A5 k5 c5) (.bool m5) (.string nx5) (.int .i64 0)).six
      simp [results, Tryz.results44, go_sem, s0, s1, s2, s3, s4, s5]
    · have hm := HM5.out
      have hn := HN5.out
      subst hm hn
      have hk := HK5.out
      subst hk
      exact ScanPost.of (T := ⟨0, ⟨#[]⟩, (rangeL s.its key tt).take most.toNat, decide (most.toNat < (rangeL s.its key tt).length), pageNext (rangeL s.its key tt) most.toNat, 0⟩) (by show Upto s (addrN key) stop; rw [HXK.out]; exact HU.out) (by rw [HST.out]; exact scanC_two (by rw [HBB.out]; rfl) rfl (by rw [HBB.out]; rfl)) HO5.out HB2.out.size HX2.out.six.2.2.2.2.2.2 (set6_touch (Touch.refl _ _) (by simp) _ _ _ _ _ _) (set6_new (acc HB2.out HB5.out) HB4.out _ _ _ _ _ _)
  · have d1 : ¬ st.toList = [] := fun z => h1 (by
      have e := congrArg List.length z
      rw [Lib.toList_data] at e
      exact e)
    have d1' : st.toList.isEmpty = false := by rw [Bool.eq_false_iff]; exact fun z => d1 (List.isEmpty_iff.1 z)
    by_cases h2 : tt.size = 0
    · have d2 : tt.toList.isEmpty = true := by rw [List.isEmpty_iff]; exact List.length_eq_zero_iff.1 (by rw [Lib.toList_data]; exact h2)
      have d2' : tt.toList = [] := List.isEmpty_iff.1 d2
      have HBB : Hid (scanB ⟨op, key, val, tt, most⟩ st = true) := by show scanB _ _ = _; unfold scanB; simp [h1, h2]
      clear h1 h2
      go_upto_region 6 with fail
      refine wp_region_till (fun w' => w'.cell? ⟨g, 4, none⟩ = some (.pointer (some ⟨sp, 0, none⟩)) ∧ w'.cell? ⟨b3, 1, none⟩ = some (.string key) ∧ w'.cell? ⟨b3, 4, none⟩ = some (.int .i64 most)) 16 (by kernel_rfl) ?_ (fun hHeld => ?_)
      · (try dsimp only); exact HSS.out _ (Below.refl _ _).drew
      refine wpAnyT_pure (i := 0) (oi := ⟨_, _, _, _, _, _⟩) (v := ?_) rfl (by kernel_rfl) (by kernel_rfl) (by kernel_rfl) (fun _ _ _ h => h) (by kernel_rfl) (Or.inl ⟨by rfl, ?_⟩) (by assumption) ?_
      rotate_left
      · (intro wS hSw; (try dsimp only at hSw); go_simp <;> with_reducible rfl)
      try simp only [Act.put, List.setIfInBounds_toArray, List.set_cons_zero, List.set_cons_succ]
      refine wpAnyT_pure (i := 1) (oi := ⟨_, _, _, _, _, _⟩) (v := ?_) rfl (by kernel_rfl) (by kernel_rfl) (by kernel_rfl) (fun _ _ _ h => h) (by kernel_rfl) (Or.inl ⟨by rfl, ?_⟩) (by assumption) ?_
      rotate_left
      · (intro wS hSw; (try dsimp only at hSw); go_simp <;> with_reducible rfl)
      try simp only [Act.put, List.setIfInBounds_toArray, List.set_cons_zero, List.set_cons_succ]
      refine wpAnyT_pure (i := 2) (oi := ⟨_, _, _, _, _, _⟩) (v := ?_) rfl (by kernel_rfl) (by kernel_rfl) (by kernel_rfl) (fun _ _ _ h => h) (by kernel_rfl) (Or.inl ⟨by rfl, ?_⟩) (by assumption) ?_
      rotate_left
      · (intro wS hSw; (try dsimp only at hSw); go_simp <;> with_reducible rfl)
      try simp only [Act.put, List.setIfInBounds_toArray, List.set_cons_zero, List.set_cons_succ]
      refine wpAnyT_pure (i := 4) (oi := ⟨_, _, _, _, _, _⟩) (v := ?_) rfl (by kernel_rfl) (by kernel_rfl) (by kernel_rfl) (fun _ _ _ h => h) (by kernel_rfl) (Or.inl ⟨by rfl, ?_⟩) (by assumption) ?_
      rotate_left
      · (intro wS hSw; (try dsimp only at hSw); go_simp <;> with_reducible rfl)
      try simp only [Act.put, List.setIfInBounds_toArray, List.set_cons_zero, List.set_cons_succ]
      refine wpAnyT_pure (i := 6) (oi := ⟨_, _, _, _, _, _⟩) (v := ?_) rfl (by kernel_rfl) (by kernel_rfl) (by kernel_rfl) (fun _ _ _ h => h) (by kernel_rfl) (Or.inl ⟨by rfl, ?_⟩) (by assumption) ?_
      rotate_left
      · (intro wS hSw; (try dsimp only at hSw); go_simp <;> with_reducible rfl)
      try simp only [Act.put, List.setIfInBounds_toArray, List.set_cons_zero, List.set_cons_succ]
      refine wpAnyT_pure (i := 7) (oi := ⟨_, _, _, _, _, _⟩) (v := ?_) rfl (by kernel_rfl) (by kernel_rfl) (by kernel_rfl) (fun _ _ _ h => h) (by kernel_rfl) (Or.inl ⟨by rfl, ?_⟩) (by assumption) ?_
      rotate_left
      · (intro wS hSw; (try dsimp only at hSw); go_simp <;> with_reducible rfl)
      try simp only [Act.put, List.setIfInBounds_toArray, List.set_cons_zero, List.set_cons_succ]
      refine wpAnyT_take (i := 3) (oi := ⟨_, _, _, _, _, _⟩) (v := ?_) rfl (by kernel_rfl) (by kernel_rfl) (by kernel_rfl) (fun _ _ _ h => h) (by kernel_rfl) (Or.inl ⟨by rfl, ?_⟩) (by assumption) ?_
      rotate_left
      · (intro wS hSw; (try dsimp only at hSw); go_simp <;> with_reducible rfl)
      try simp only [Act.put, List.setIfInBounds_toArray, List.set_cons_zero, List.set_cons_succ]
      refine wpAnyT_take (i := 5) (oi := ⟨_, _, _, _, _, _⟩) (v := ?_) rfl (by kernel_rfl) (by kernel_rfl) (by kernel_rfl) (fun _ _ _ h => h) (by kernel_rfl) (Or.inl ⟨by rfl, ?_⟩) (by assumption) ?_
      rotate_left
      · (intro wS hSw; (try dsimp only at hSw); go_simp <;> with_reducible rfl)
      try simp only [Act.put, List.setIfInBounds_toArray, List.set_cons_zero, List.set_cons_succ]
      refine wpAnyT_take (i := 8) (oi := ⟨_, _, _, _, _, _⟩) (v := ?_) rfl (by kernel_rfl) (by kernel_rfl) (by kernel_rfl) (fun _ _ _ h => h) (by kernel_rfl) (Or.inl ⟨by rfl, ?_⟩) (by assumption) ?_
      rotate_left
      · (intro wS hSw; (try dsimp only at hSw); go_simp <;> with_reducible rfl)
      try simp only [Act.put, List.setIfInBounds_toArray, List.set_cons_zero, List.set_cons_succ]
      refine wpAnyT_ready (rs := [9]) (by kernel_rfl) (by simp) ?_
      refine (AllReadyT.cons (o := ⟨_, _, _, _, _, _⟩) rfl (fun K hK => ?_) AllReadyT.nil)
      go_simp
      (first | (go_at_call 80; (with_reducible refine (CP.out _ _ (H2.out.below (Below.refl w2.heap.size w2).drew)).mono ?_); rintro e w5 ⟨A5, c5, k5, m5, nx5, rfl, hm, hnx, hk5, ho, hb5⟩))
      have HB5 : Hid (Below w2.heap.size w2 w5) := ((Below.refl w2.heap.size w2).drew).trans hb5
      have HO5 : Hid (w5.ownsRow w2.heap.size 31 2 (.slice A5 k5 c5) k5 (itemCells ((rangeL s.its key st).take most.toNat))) := ho
      have HM5 := Lib.hid hm
      have HN5 := Lib.hid hnx
      have HK5 := Lib.hid hk5
      clear hm hnx hk5 ho hb5
      go_wp2_with fail
      refine hK.out _ _ (by (try dsimp only); (first | exact HSS.out _ HB5.out | exact HSS.out _ (Below.refl _ _).drew)) (fun hHeld => ?_)
      clear hK K
      try simp only [Act.put, List.setIfInBounds_toArray, List.set_cons_zero, List.set_cons_succ]
      refine wpAnyT_pure (i := 10) (oi := ⟨_, _, _, _, _, _⟩) (v := ?_) rfl (by kernel_rfl) (by kernel_rfl) (by kernel_rfl) (fun _ _ _ h => h) (by kernel_rfl) (Or.inl ⟨by rfl, ?_⟩) (by assumption) ?_
      rotate_left
      · (intro wS hSw; (try dsimp only at hSw); go_simp <;> with_reducible rfl)
      try simp only [Act.put, List.setIfInBounds_toArray, List.set_cons_zero, List.set_cons_succ]
      refine wpAnyT_pure (i := 11) (oi := ⟨_, _, _, _, _, _⟩) (v := ?_) rfl (by kernel_rfl) (by kernel_rfl) (by kernel_rfl) (fun _ _ _ h => h) (by kernel_rfl) (Or.inl ⟨by rfl, ?_⟩) (by assumption) ?_
      rotate_left
      · (intro wS hSw; (try dsimp only at hSw); go_simp <;> with_reducible rfl)
      try simp only [Act.put, List.setIfInBounds_toArray, List.set_cons_zero, List.set_cons_succ]
      refine wpAnyT_pure (i := 12) (oi := ⟨_, _, _, _, _, _⟩) (v := ?_) rfl (by kernel_rfl) (by kernel_rfl) (by kernel_rfl) (fun _ _ _ h => h) (by kernel_rfl) (Or.inl ⟨by rfl, ?_⟩) (by assumption) ?_
      rotate_left
      · (intro wS hSw; (try dsimp only at hSw); go_simp <;> with_reducible rfl)
      try simp only [Act.put, List.setIfInBounds_toArray, List.set_cons_zero, List.set_cons_succ]
      refine wpAnyT_pure (i := 13) (oi := ⟨_, _, _, _, _, _⟩) (v := ?_) rfl (by kernel_rfl) (by kernel_rfl) (by kernel_rfl) (fun _ _ _ h => h) (by kernel_rfl) (Or.inl ⟨by rfl, ?_⟩) (by assumption) ?_
      rotate_left
      · (intro wS hSw; (try dsimp only at hSw); go_simp <;> with_reducible rfl)
      try simp only [Act.put, List.setIfInBounds_toArray, List.set_cons_zero, List.set_cons_succ]
      refine wpAnyT_pure (i := 14) (oi := ⟨_, _, _, _, _, _⟩) (v := ?_) rfl (by kernel_rfl) (by kernel_rfl) (by kernel_rfl) (fun _ _ _ h => h) (by kernel_rfl) (Or.inl ⟨by rfl, ?_⟩) (by assumption) ?_
      rotate_left
      · (intro wS hSw; (try dsimp only at hSw); go_simp <;> with_reducible rfl)
      try simp only [Act.put, List.setIfInBounds_toArray, List.set_cons_zero, List.set_cons_succ]
      refine wpAnyT_pure (i := 15) (oi := ⟨_, _, _, _, _, _⟩) (v := ?_) rfl (by kernel_rfl) (by kernel_rfl) (by kernel_rfl) (fun _ _ _ h => h) (by kernel_rfl) (Or.inl ⟨by rfl, ?_⟩) (by assumption) ?_
      rotate_left
      · (intro wS hSw; (try dsimp only at hSw); go_simp <;> with_reducible rfl)
      try simp only [Act.put, List.setIfInBounds_toArray, List.set_cons_zero, List.set_cons_succ]
      refine wpAnyT_ready (rs := [16]) (by kernel_rfl) (by simp) ?_
      refine (AllReadyT.past (o := ⟨_, _, _, _, _, _⟩) rfl (by kernel_rfl) (fun K hK => ?_) AllReadyT.nil)
      go_simp
      refine hK.out _ _ ?_
      clear hK K
      try simp only [Act.put, List.setIfInBounds_toArray, List.set_cons_zero, List.set_cons_succ]
      refine wpAnyT_done (by kernel_rfl) ?_ _
      have HX5 := Lib.hid (HX2.out.below HB5.out)
      obtain ⟨z0, z1, z2, z3, z4, z5, zl⟩ := HX5.out.six
      obtain ⟨f0, f1, f2, f3, f4, f5⟩ := HX5.out.free6
      cases m5
      · go_wp2_with fail
        refine bodyPost_ret (v := .agg #[.int .i64 0, .string ⟨#[]⟩, .slice A5 k5 c5, .bool true, .string st, .int .i64 0]) ?_ rfl ?_
        · obtain ⟨s0, s1, s2, s3, s4, s5, _⟩ := (HX5.out.put6 (.int .i64 0) (.string ⟨#[]⟩) (.slice A5 k5 c5) (.bool true) (.string st) (.int .i64 0)).six
          simp [results, Tryz.results44, go_sem, s0, s1, s2, s3, s4, s5]
        · have hk := HK5.out
          subst hk
          exact ScanPost.of (T := ⟨0, ⟨#[]⟩, (rangeL s.its key st).take most.toNat, true, st, 0⟩) (by show Upto s (addrN key) stop; rw [HXK.out]; exact HU.out) (by rw [HST.out]; exact scanC_one HBB.out HM5.out) HO5.out HB2.out.size HX2.out.six.2.2.2.2.2.2 (set6_touch (Touch.refl _ _) (by simp) _ _ _ _ _ _) (set6_new (acc HB2.out HB5.out) HB4.out _ _ _ _ _ _)
      · go_wp2_with fail
        refine bodyPost_ret (v := .agg #[.int .i64 0, .string ⟨#[]⟩, .slice A5 k5 c5, .bool true, .string nx5, .int .i64 0]) ?_ rfl ?_
        · obtain ⟨s0, s1, s2, s3, s4, s5, _⟩ := (HX5.out.put6 (.int .i64 0) (.string ⟨#[]⟩) (.slice A5 k5 c5) (.bool true) (.string nx5) (.int .i64 0)).six
          simp [results, Tryz.results44, go_sem, s0, s1, s2, s3, s4, s5]
        · have hn := HN5.out
          subst hn
          have hk := HK5.out
          subst hk
          exact ScanPost.of (T := ⟨0, ⟨#[]⟩, (rangeL s.its key st).take most.toNat, true, pageNext (rangeL s.its key st) most.toNat, 0⟩) (by show Upto s (addrN key) stop; rw [HXK.out]; exact HU.out) (by rw [HST.out]; exact scanC_two (by rw [HBB.out]; rfl) HM5.out (by rw [HBB.out]; rfl)) HO5.out HB2.out.size HX2.out.six.2.2.2.2.2.2 (set6_touch (Touch.refl _ _) (by simp) _ _ _ _ _ _) (set6_new (acc HB2.out HB5.out) HB4.out _ _ _ _ _ _)
    · have d2 : ¬ tt.toList = [] := fun z => h2 (by
        have e := congrArg List.length z
        rw [Lib.toList_data] at e
        exact e)
      have d2' : tt.toList.isEmpty = false := by rw [Bool.eq_false_iff]; exact fun z => d2 (List.isEmpty_iff.1 z)
      have hll : lessB st tt = Op.bytesLess st.toList tt.toList := rfl
      obtain ⟨lb, hlb⟩ : ∃ lb, lessB st tt = lb := ⟨_, rfl⟩
      have HBB0 : Hid (scanB ⟨op, key, val, tt, most⟩ st = lb) := by show scanB _ _ = _; unfold scanB; simp [h1, h2, hlb]
      rw [hlb] at hll
      have CLE : Hid (∀ W, Calls Tryz.prog 79 #[.string st, .string tt] W fun e w' => e = .returned (.bool lb) ∧ W = w') := fun W => by
        have := CL.out st tt W
        rw [← hll] at this
        exact this
      clear h1 h2 hll hlb
      cases lb
      · have HBB := HBB0
        go_upto_region 6 with (go_at_call 79; (with_reducible refine (CLE.out _).mono ?_); rintro e wl ⟨rfl, rfl⟩)
        refine wp_region_till (fun w' => w'.cell? ⟨g, 4, none⟩ = some (.pointer (some ⟨sp, 0, none⟩)) ∧ w'.cell? ⟨b3, 1, none⟩ = some (.string key) ∧ w'.cell? ⟨b3, 4, none⟩ = some (.int .i64 most)) 16 (by kernel_rfl) ?_ (fun hHeld => ?_)
        · (try dsimp only); exact HSS.out _ (Below.refl _ _).drew
        refine wpAnyT_pure (i := 0) (oi := ⟨_, _, _, _, _, _⟩) (v := ?_) rfl (by kernel_rfl) (by kernel_rfl) (by kernel_rfl) (fun _ _ _ h => h) (by kernel_rfl) (Or.inl ⟨by rfl, ?_⟩) (by assumption) ?_
        rotate_left
        · (intro wS hSw; (try dsimp only at hSw); go_simp <;> with_reducible rfl)
        try simp only [Act.put, List.setIfInBounds_toArray, List.set_cons_zero, List.set_cons_succ]
        refine wpAnyT_pure (i := 1) (oi := ⟨_, _, _, _, _, _⟩) (v := ?_) rfl (by kernel_rfl) (by kernel_rfl) (by kernel_rfl) (fun _ _ _ h => h) (by kernel_rfl) (Or.inl ⟨by rfl, ?_⟩) (by assumption) ?_
        rotate_left
        · (intro wS hSw; (try dsimp only at hSw); go_simp <;> with_reducible rfl)
        try simp only [Act.put, List.setIfInBounds_toArray, List.set_cons_zero, List.set_cons_succ]
        refine wpAnyT_pure (i := 2) (oi := ⟨_, _, _, _, _, _⟩) (v := ?_) rfl (by kernel_rfl) (by kernel_rfl) (by kernel_rfl) (fun _ _ _ h => h) (by kernel_rfl) (Or.inl ⟨by rfl, ?_⟩) (by assumption) ?_
        rotate_left
        · (intro wS hSw; (try dsimp only at hSw); go_simp <;> with_reducible rfl)
        try simp only [Act.put, List.setIfInBounds_toArray, List.set_cons_zero, List.set_cons_succ]
        refine wpAnyT_pure (i := 4) (oi := ⟨_, _, _, _, _, _⟩) (v := ?_) rfl (by kernel_rfl) (by kernel_rfl) (by kernel_rfl) (fun _ _ _ h => h) (by kernel_rfl) (Or.inl ⟨by rfl, ?_⟩) (by assumption) ?_
        rotate_left
        · (intro wS hSw; (try dsimp only at hSw); go_simp <;> with_reducible rfl)
        try simp only [Act.put, List.setIfInBounds_toArray, List.set_cons_zero, List.set_cons_succ]
        refine wpAnyT_pure (i := 6) (oi := ⟨_, _, _, _, _, _⟩) (v := ?_) rfl (by kernel_rfl) (by kernel_rfl) (by kernel_rfl) (fun _ _ _ h => h) (by kernel_rfl) (Or.inl ⟨by rfl, ?_⟩) (by assumption) ?_
        rotate_left
        · (intro wS hSw; (try dsimp only at hSw); go_simp <;> with_reducible rfl)
        try simp only [Act.put, List.setIfInBounds_toArray, List.set_cons_zero, List.set_cons_succ]
        refine wpAnyT_pure (i := 7) (oi := ⟨_, _, _, _, _, _⟩) (v := ?_) rfl (by kernel_rfl) (by kernel_rfl) (by kernel_rfl) (fun _ _ _ h => h) (by kernel_rfl) (Or.inl ⟨by rfl, ?_⟩) (by assumption) ?_
        rotate_left
        · (intro wS hSw; (try dsimp only at hSw); go_simp <;> with_reducible rfl)
        try simp only [Act.put, List.setIfInBounds_toArray, List.set_cons_zero, List.set_cons_succ]
        refine wpAnyT_take (i := 3) (oi := ⟨_, _, _, _, _, _⟩) (v := ?_) rfl (by kernel_rfl) (by kernel_rfl) (by kernel_rfl) (fun _ _ _ h => h) (by kernel_rfl) (Or.inl ⟨by rfl, ?_⟩) (by assumption) ?_
        rotate_left
        · (intro wS hSw; (try dsimp only at hSw); go_simp <;> with_reducible rfl)
        try simp only [Act.put, List.setIfInBounds_toArray, List.set_cons_zero, List.set_cons_succ]
        refine wpAnyT_take (i := 5) (oi := ⟨_, _, _, _, _, _⟩) (v := ?_) rfl (by kernel_rfl) (by kernel_rfl) (by kernel_rfl) (fun _ _ _ h => h) (by kernel_rfl) (Or.inl ⟨by rfl, ?_⟩) (by assumption) ?_
        rotate_left
        · (intro wS hSw; (try dsimp only at hSw); go_simp <;> with_reducible rfl)
        try simp only [Act.put, List.setIfInBounds_toArray, List.set_cons_zero, List.set_cons_succ]
        refine wpAnyT_take (i := 8) (oi := ⟨_, _, _, _, _, _⟩) (v := ?_) rfl (by kernel_rfl) (by kernel_rfl) (by kernel_rfl) (fun _ _ _ h => h) (by kernel_rfl) (Or.inl ⟨by rfl, ?_⟩) (by assumption) ?_
        rotate_left
        · (intro wS hSw; (try dsimp only at hSw); go_simp <;> with_reducible rfl)
        try simp only [Act.put, List.setIfInBounds_toArray, List.set_cons_zero, List.set_cons_succ]
        refine wpAnyT_ready (rs := [9]) (by kernel_rfl) (by simp) ?_
        refine (AllReadyT.cons (o := ⟨_, _, _, _, _, _⟩) rfl (fun K hK => ?_) AllReadyT.nil)
        go_simp
        (first | (go_at_call 80; (with_reducible refine (CP.out _ _ (H2.out.below (Below.refl w2.heap.size w2).drew)).mono ?_); rintro e w5 ⟨A5, c5, k5, m5, nx5, rfl, hm, hnx, hk5, ho, hb5⟩))
        have HB5 : Hid (Below w2.heap.size w2 w5) := ((Below.refl w2.heap.size w2).drew).trans hb5
        have HO5 : Hid (w5.ownsRow w2.heap.size 31 2 (.slice A5 k5 c5) k5 (itemCells ((rangeL s.its key tt).take most.toNat))) := ho
        have HM5 := Lib.hid hm
        have HN5 := Lib.hid hnx
        have HK5 := Lib.hid hk5
        clear hm hnx hk5 ho hb5
        go_wp2_with fail
        refine hK.out _ _ (by (try dsimp only); (first | exact HSS.out _ HB5.out | exact HSS.out _ (Below.refl _ _).drew)) (fun hHeld => ?_)
        clear hK K
        try simp only [Act.put, List.setIfInBounds_toArray, List.set_cons_zero, List.set_cons_succ]
        refine wpAnyT_pure (i := 10) (oi := ⟨_, _, _, _, _, _⟩) (v := ?_) rfl (by kernel_rfl) (by kernel_rfl) (by kernel_rfl) (fun _ _ _ h => h) (by kernel_rfl) (Or.inl ⟨by rfl, ?_⟩) (by assumption) ?_
        rotate_left
        · (intro wS hSw; (try dsimp only at hSw); go_simp <;> with_reducible rfl)
        try simp only [Act.put, List.setIfInBounds_toArray, List.set_cons_zero, List.set_cons_succ]
        refine wpAnyT_pure (i := 11) (oi := ⟨_, _, _, _, _, _⟩) (v := ?_) rfl (by kernel_rfl) (by kernel_rfl) (by kernel_rfl) (fun _ _ _ h => h) (by kernel_rfl) (Or.inl ⟨by rfl, ?_⟩) (by assumption) ?_
        rotate_left
        · (intro wS hSw; (try dsimp only at hSw); go_simp <;> with_reducible rfl)
        try simp only [Act.put, List.setIfInBounds_toArray, List.set_cons_zero, List.set_cons_succ]
        refine wpAnyT_pure (i := 12) (oi := ⟨_, _, _, _, _, _⟩) (v := ?_) rfl (by kernel_rfl) (by kernel_rfl) (by kernel_rfl) (fun _ _ _ h => h) (by kernel_rfl) (Or.inl ⟨by rfl, ?_⟩) (by assumption) ?_
        rotate_left
        · (intro wS hSw; (try dsimp only at hSw); go_simp <;> with_reducible rfl)
        try simp only [Act.put, List.setIfInBounds_toArray, List.set_cons_zero, List.set_cons_succ]
        refine wpAnyT_pure (i := 13) (oi := ⟨_, _, _, _, _, _⟩) (v := ?_) rfl (by kernel_rfl) (by kernel_rfl) (by kernel_rfl) (fun _ _ _ h => h) (by kernel_rfl) (Or.inl ⟨by rfl, ?_⟩) (by assumption) ?_
        rotate_left
        · (intro wS hSw; (try dsimp only at hSw); go_simp <;> with_reducible rfl)
        try simp only [Act.put, List.setIfInBounds_toArray, List.set_cons_zero, List.set_cons_succ]
        refine wpAnyT_pure (i := 14) (oi := ⟨_, _, _, _, _, _⟩) (v := ?_) rfl (by kernel_rfl) (by kernel_rfl) (by kernel_rfl) (fun _ _ _ h => h) (by kernel_rfl) (Or.inl ⟨by rfl, ?_⟩) (by assumption) ?_
        rotate_left
        · (intro wS hSw; (try dsimp only at hSw); go_simp <;> with_reducible rfl)
        try simp only [Act.put, List.setIfInBounds_toArray, List.set_cons_zero, List.set_cons_succ]
        refine wpAnyT_pure (i := 15) (oi := ⟨_, _, _, _, _, _⟩) (v := ?_) rfl (by kernel_rfl) (by kernel_rfl) (by kernel_rfl) (fun _ _ _ h => h) (by kernel_rfl) (Or.inl ⟨by rfl, ?_⟩) (by assumption) ?_
        rotate_left
        · (intro wS hSw; (try dsimp only at hSw); go_simp <;> with_reducible rfl)
        try simp only [Act.put, List.setIfInBounds_toArray, List.set_cons_zero, List.set_cons_succ]
        refine wpAnyT_ready (rs := [16]) (by kernel_rfl) (by simp) ?_
        refine (AllReadyT.past (o := ⟨_, _, _, _, _, _⟩) rfl (by kernel_rfl) (fun K hK => ?_) AllReadyT.nil)
        go_simp
        refine hK.out _ _ ?_
        clear hK K
        try simp only [Act.put, List.setIfInBounds_toArray, List.set_cons_zero, List.set_cons_succ]
        refine wpAnyT_done (by kernel_rfl) ?_ _
        have HX5 := Lib.hid (HX2.out.below HB5.out)
        obtain ⟨z0, z1, z2, z3, z4, z5, zl⟩ := HX5.out.six
        obtain ⟨f0, f1, f2, f3, f4, f5⟩ := HX5.out.free6
        go_wp2_with fail
        refine bodyPost_ret (v := .agg #[.int .i64 0, .string ⟨#[]⟩, .slice A5 k5 c5, .bool m5, .string nx5, .int .i64 0]) ?_ rfl ?_
        · obtain ⟨s0, s1, s2, s3, s4, s5, _⟩ := (HX5.out.put6 (.int .i64 0) (.string ⟨#[]⟩) (.slice A5 k5 c5) (.bool m5) (.string nx5) (.int .i64 0)).six
          simp [results, Tryz.results44, go_sem, s0, s1, s2, s3, s4, s5]
        · have hm := HM5.out
          have hn := HN5.out
          subst hm hn
          have hk := HK5.out
          subst hk
          exact ScanPost.of (T := ⟨0, ⟨#[]⟩, (rangeL s.its key tt).take most.toNat, decide (most.toNat < (rangeL s.its key tt).length), pageNext (rangeL s.its key tt) most.toNat, 0⟩) (by show Upto s (addrN key) stop; rw [HXK.out]; exact HU.out) (by rw [HST.out]; exact scanC_two (by rw [HBB.out]; rfl) rfl (by rw [HBB.out]; rfl)) HO5.out HB2.out.size HX2.out.six.2.2.2.2.2.2 (set6_touch (Touch.refl _ _) (by simp) _ _ _ _ _ _) (set6_new (acc HB2.out HB5.out) HB4.out _ _ _ _ _ _)
      · have HBB := HBB0
        go_upto_region 6 with (go_at_call 79; (with_reducible refine (CLE.out _).mono ?_); rintro e wl ⟨rfl, rfl⟩)
        refine wp_region_till (fun w' => w'.cell? ⟨g, 4, none⟩ = some (.pointer (some ⟨sp, 0, none⟩)) ∧ w'.cell? ⟨b3, 1, none⟩ = some (.string key) ∧ w'.cell? ⟨b3, 4, none⟩ = some (.int .i64 most)) 16 (by kernel_rfl) ?_ (fun hHeld => ?_)
        · (try dsimp only); exact HSS.out _ (Below.refl _ _).drew
        refine wpAnyT_pure (i := 0) (oi := ⟨_, _, _, _, _, _⟩) (v := ?_) rfl (by kernel_rfl) (by kernel_rfl) (by kernel_rfl) (fun _ _ _ h => h) (by kernel_rfl) (Or.inl ⟨by rfl, ?_⟩) (by assumption) ?_
        rotate_left
        · (intro wS hSw; (try dsimp only at hSw); go_simp <;> with_reducible rfl)
        try simp only [Act.put, List.setIfInBounds_toArray, List.set_cons_zero, List.set_cons_succ]
        refine wpAnyT_pure (i := 1) (oi := ⟨_, _, _, _, _, _⟩) (v := ?_) rfl (by kernel_rfl) (by kernel_rfl) (by kernel_rfl) (fun _ _ _ h => h) (by kernel_rfl) (Or.inl ⟨by rfl, ?_⟩) (by assumption) ?_
        rotate_left
        · (intro wS hSw; (try dsimp only at hSw); go_simp <;> with_reducible rfl)
        try simp only [Act.put, List.setIfInBounds_toArray, List.set_cons_zero, List.set_cons_succ]
        refine wpAnyT_pure (i := 2) (oi := ⟨_, _, _, _, _, _⟩) (v := ?_) rfl (by kernel_rfl) (by kernel_rfl) (by kernel_rfl) (fun _ _ _ h => h) (by kernel_rfl) (Or.inl ⟨by rfl, ?_⟩) (by assumption) ?_
        rotate_left
        · (intro wS hSw; (try dsimp only at hSw); go_simp <;> with_reducible rfl)
        try simp only [Act.put, List.setIfInBounds_toArray, List.set_cons_zero, List.set_cons_succ]
        refine wpAnyT_pure (i := 4) (oi := ⟨_, _, _, _, _, _⟩) (v := ?_) rfl (by kernel_rfl) (by kernel_rfl) (by kernel_rfl) (fun _ _ _ h => h) (by kernel_rfl) (Or.inl ⟨by rfl, ?_⟩) (by assumption) ?_
        rotate_left
        · (intro wS hSw; (try dsimp only at hSw); go_simp <;> with_reducible rfl)
        try simp only [Act.put, List.setIfInBounds_toArray, List.set_cons_zero, List.set_cons_succ]
        refine wpAnyT_pure (i := 6) (oi := ⟨_, _, _, _, _, _⟩) (v := ?_) rfl (by kernel_rfl) (by kernel_rfl) (by kernel_rfl) (fun _ _ _ h => h) (by kernel_rfl) (Or.inl ⟨by rfl, ?_⟩) (by assumption) ?_
        rotate_left
        · (intro wS hSw; (try dsimp only at hSw); go_simp <;> with_reducible rfl)
        try simp only [Act.put, List.setIfInBounds_toArray, List.set_cons_zero, List.set_cons_succ]
        refine wpAnyT_pure (i := 7) (oi := ⟨_, _, _, _, _, _⟩) (v := ?_) rfl (by kernel_rfl) (by kernel_rfl) (by kernel_rfl) (fun _ _ _ h => h) (by kernel_rfl) (Or.inl ⟨by rfl, ?_⟩) (by assumption) ?_
        rotate_left
        · (intro wS hSw; (try dsimp only at hSw); go_simp <;> with_reducible rfl)
        try simp only [Act.put, List.setIfInBounds_toArray, List.set_cons_zero, List.set_cons_succ]
        refine wpAnyT_take (i := 3) (oi := ⟨_, _, _, _, _, _⟩) (v := ?_) rfl (by kernel_rfl) (by kernel_rfl) (by kernel_rfl) (fun _ _ _ h => h) (by kernel_rfl) (Or.inl ⟨by rfl, ?_⟩) (by assumption) ?_
        rotate_left
        · (intro wS hSw; (try dsimp only at hSw); go_simp <;> with_reducible rfl)
        try simp only [Act.put, List.setIfInBounds_toArray, List.set_cons_zero, List.set_cons_succ]
        refine wpAnyT_take (i := 5) (oi := ⟨_, _, _, _, _, _⟩) (v := ?_) rfl (by kernel_rfl) (by kernel_rfl) (by kernel_rfl) (fun _ _ _ h => h) (by kernel_rfl) (Or.inl ⟨by rfl, ?_⟩) (by assumption) ?_
        rotate_left
        · (intro wS hSw; (try dsimp only at hSw); go_simp <;> with_reducible rfl)
        try simp only [Act.put, List.setIfInBounds_toArray, List.set_cons_zero, List.set_cons_succ]
        refine wpAnyT_take (i := 8) (oi := ⟨_, _, _, _, _, _⟩) (v := ?_) rfl (by kernel_rfl) (by kernel_rfl) (by kernel_rfl) (fun _ _ _ h => h) (by kernel_rfl) (Or.inl ⟨by rfl, ?_⟩) (by assumption) ?_
        rotate_left
        · (intro wS hSw; (try dsimp only at hSw); go_simp <;> with_reducible rfl)
        try simp only [Act.put, List.setIfInBounds_toArray, List.set_cons_zero, List.set_cons_succ]
        refine wpAnyT_ready (rs := [9]) (by kernel_rfl) (by simp) ?_
        refine (AllReadyT.cons (o := ⟨_, _, _, _, _, _⟩) rfl (fun K hK => ?_) AllReadyT.nil)
        go_simp
        (first | (go_at_call 80; (with_reducible refine (CP.out _ _ (H2.out.below (Below.refl w2.heap.size w2).drew)).mono ?_); rintro e w5 ⟨A5, c5, k5, m5, nx5, rfl, hm, hnx, hk5, ho, hb5⟩))
        have HB5 : Hid (Below w2.heap.size w2 w5) := ((Below.refl w2.heap.size w2).drew).trans hb5
        have HO5 : Hid (w5.ownsRow w2.heap.size 31 2 (.slice A5 k5 c5) k5 (itemCells ((rangeL s.its key st).take most.toNat))) := ho
        have HM5 := Lib.hid hm
        have HN5 := Lib.hid hnx
        have HK5 := Lib.hid hk5
        clear hm hnx hk5 ho hb5
        go_wp2_with fail
        refine hK.out _ _ (by (try dsimp only); (first | exact HSS.out _ HB5.out | exact HSS.out _ (Below.refl _ _).drew)) (fun hHeld => ?_)
        clear hK K
        try simp only [Act.put, List.setIfInBounds_toArray, List.set_cons_zero, List.set_cons_succ]
        refine wpAnyT_pure (i := 10) (oi := ⟨_, _, _, _, _, _⟩) (v := ?_) rfl (by kernel_rfl) (by kernel_rfl) (by kernel_rfl) (fun _ _ _ h => h) (by kernel_rfl) (Or.inl ⟨by rfl, ?_⟩) (by assumption) ?_
        rotate_left
        · (intro wS hSw; (try dsimp only at hSw); go_simp <;> with_reducible rfl)
        try simp only [Act.put, List.setIfInBounds_toArray, List.set_cons_zero, List.set_cons_succ]
        refine wpAnyT_pure (i := 11) (oi := ⟨_, _, _, _, _, _⟩) (v := ?_) rfl (by kernel_rfl) (by kernel_rfl) (by kernel_rfl) (fun _ _ _ h => h) (by kernel_rfl) (Or.inl ⟨by rfl, ?_⟩) (by assumption) ?_
        rotate_left
        · (intro wS hSw; (try dsimp only at hSw); go_simp <;> with_reducible rfl)
        try simp only [Act.put, List.setIfInBounds_toArray, List.set_cons_zero, List.set_cons_succ]
        refine wpAnyT_pure (i := 12) (oi := ⟨_, _, _, _, _, _⟩) (v := ?_) rfl (by kernel_rfl) (by kernel_rfl) (by kernel_rfl) (fun _ _ _ h => h) (by kernel_rfl) (Or.inl ⟨by rfl, ?_⟩) (by assumption) ?_
        rotate_left
        · (intro wS hSw; (try dsimp only at hSw); go_simp <;> with_reducible rfl)
        try simp only [Act.put, List.setIfInBounds_toArray, List.set_cons_zero, List.set_cons_succ]
        refine wpAnyT_pure (i := 13) (oi := ⟨_, _, _, _, _, _⟩) (v := ?_) rfl (by kernel_rfl) (by kernel_rfl) (by kernel_rfl) (fun _ _ _ h => h) (by kernel_rfl) (Or.inl ⟨by rfl, ?_⟩) (by assumption) ?_
        rotate_left
        · (intro wS hSw; (try dsimp only at hSw); go_simp <;> with_reducible rfl)
        try simp only [Act.put, List.setIfInBounds_toArray, List.set_cons_zero, List.set_cons_succ]
        refine wpAnyT_pure (i := 14) (oi := ⟨_, _, _, _, _, _⟩) (v := ?_) rfl (by kernel_rfl) (by kernel_rfl) (by kernel_rfl) (fun _ _ _ h => h) (by kernel_rfl) (Or.inl ⟨by rfl, ?_⟩) (by assumption) ?_
        rotate_left
        · (intro wS hSw; (try dsimp only at hSw); go_simp <;> with_reducible rfl)
        try simp only [Act.put, List.setIfInBounds_toArray, List.set_cons_zero, List.set_cons_succ]
        refine wpAnyT_pure (i := 15) (oi := ⟨_, _, _, _, _, _⟩) (v := ?_) rfl (by kernel_rfl) (by kernel_rfl) (by kernel_rfl) (fun _ _ _ h => h) (by kernel_rfl) (Or.inl ⟨by rfl, ?_⟩) (by assumption) ?_
        rotate_left
        · (intro wS hSw; (try dsimp only at hSw); go_simp <;> with_reducible rfl)
        try simp only [Act.put, List.setIfInBounds_toArray, List.set_cons_zero, List.set_cons_succ]
        refine wpAnyT_ready (rs := [16]) (by kernel_rfl) (by simp) ?_
        refine (AllReadyT.past (o := ⟨_, _, _, _, _, _⟩) rfl (by kernel_rfl) (fun K hK => ?_) AllReadyT.nil)
        go_simp
        refine hK.out _ _ ?_
        clear hK K
        try simp only [Act.put, List.setIfInBounds_toArray, List.set_cons_zero, List.set_cons_succ]
        refine wpAnyT_done (by kernel_rfl) ?_ _
        have HX5 := Lib.hid (HX2.out.below HB5.out)
        obtain ⟨z0, z1, z2, z3, z4, z5, zl⟩ := HX5.out.six
        obtain ⟨f0, f1, f2, f3, f4, f5⟩ := HX5.out.free6
        cases m5
        · go_wp2_with fail
          refine bodyPost_ret (v := .agg #[.int .i64 0, .string ⟨#[]⟩, .slice A5 k5 c5, .bool true, .string st, .int .i64 0]) ?_ rfl ?_
          · obtain ⟨s0, s1, s2, s3, s4, s5, _⟩ := (HX5.out.put6 (.int .i64 0) (.string ⟨#[]⟩) (.slice A5 k5 c5) (.bool true) (.string st) (.int .i64 0)).six
            simp [results, Tryz.results44, go_sem, s0, s1, s2, s3, s4, s5]
          · have hk := HK5.out
            subst hk
            exact ScanPost.of (T := ⟨0, ⟨#[]⟩, (rangeL s.its key st).take most.toNat, true, st, 0⟩) (by show Upto s (addrN key) stop; rw [HXK.out]; exact HU.out) (by rw [HST.out]; exact scanC_one HBB.out HM5.out) HO5.out HB2.out.size HX2.out.six.2.2.2.2.2.2 (set6_touch (Touch.refl _ _) (by simp) _ _ _ _ _ _) (set6_new (acc HB2.out HB5.out) HB4.out _ _ _ _ _ _)
        · go_wp2_with fail
          refine bodyPost_ret (v := .agg #[.int .i64 0, .string ⟨#[]⟩, .slice A5 k5 c5, .bool true, .string nx5, .int .i64 0]) ?_ rfl ?_
          · obtain ⟨s0, s1, s2, s3, s4, s5, _⟩ := (HX5.out.put6 (.int .i64 0) (.string ⟨#[]⟩) (.slice A5 k5 c5) (.bool true) (.string nx5) (.int .i64 0)).six
            simp [results, Tryz.results44, go_sem, s0, s1, s2, s3, s4, s5]
          · have hn := HN5.out
            subst hn
            have hk := HK5.out
            subst hk
            exact ScanPost.of (T := ⟨0, ⟨#[]⟩, (rangeL s.its key st).take most.toNat, true, pageNext (rangeL s.its key st) most.toNat, 0⟩) (by show Upto s (addrN key) stop; rw [HXK.out]; exact HU.out) (by rw [HST.out]; exact scanC_two (by rw [HBB.out]; rfl) HM5.out (by rw [HBB.out]; rfl)) HO5.out HB2.out.size HX2.out.six.2.2.2.2.2.2 (set6_touch (Touch.refl _ _) (by simp) _ _ _ _ _ _) (set6_new (acc HB2.out HB5.out) HB4.out _ _ _ _ _ _)
end Go.Proofs.YthgndgoljchnfaaGreat
