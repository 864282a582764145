/-
  Every number mixed; of every node its seats, and which has the most room among every others (SeatTells).
-/
import Derived.Test.YtpgolebikjjdlaaSeatLawE
import Derived.Test.YtpgolebikjjdlaaPbKeep
import Derived.Test.YtpgolebikjjdlaaPbLent
import Derived.Test.YtpgolebikjjdlaaHeldTill
import Derived.Deep.DeepCutAuto
namespace Go.Proofs.Ytpgolebikjjdlaa
open Go.RowKit Pb

theorem step_append_ran {P : Program} {ops : Array Oper} {o : Oper} {a : Act} {w : World} {K : Act → World → Prop} {Q : Exit → Act → World → Prop} {E : Prop} (hg : o.guard = none) (s x : Operand) (t : TypeId)
    (ho : o.op = .call { callee := .builtin .append, args := #[s, x], argTypes := #[t, t] }) (v y : Value) (hs : a.eval s = v) (hx : a.eval x = y) {v' : Value} {w' : World}
    (hr : (Builtin.append_ #[t, t] o.type #[v, y]).run P w = .ok v' w') (h : K (a.put o.dst v') w') : if Region.wanted o (yielded ops a.tmps) = true then Oper.wp P o a w K Q else E := by
  rw [if_pos (by simp [Region.wanted, hg])]
  exact Lib.wp_append_run w s x t t ho v y hs hx v' w' hr h
/-- a copy: append onto nothing -/
theorem run_append_pts (A : Option Addr) (c n : Nat) (ts : List Int) (w : World) (h : PtAt w A ts) (hn : ts.length = n) (hl : n ≤ 100000) :
    ∃ A4 c4 w4, (Builtin.append_ #[23, 23] 23 #[.slice none 0 0, .slice A n c]).run Try.prog w = .ok (.slice A4 n c4) w4 ∧ w4.ownsRow w.heap.size 22 1 (.slice A4 n c4) n (ptC ts) ∧ Below w.heap.size w w4 := by
  obtain ⟨i0, z0, hi, hz, hsL, hbL, hzc⟩ := infoP_
  rcases Option.eq_none_or_eq_some A with rfl | ⟨ad, rfl⟩
  · have hl0 : ts = [] := by
      cases ts with
      | nil => rfl
      | cons x l =>
        obtain ⟨b, off, h⟩ := h
        have := (h 0 (by simp)).1
        cases this
    subst hl0
    obtain rfl : n = 0 := hn.symm
    exact ⟨none, 0, w, run_append_nothing w 23 23 22 i0 Try.underlying23 hi c, World.ownsRow_nil _ _ _ _, Below.refl _ _⟩
  · subst hn
    obtain ⟨v', w', hr, h2, h3, h4⟩ := run_append_any (P := Try.prog) w w.heap.size 23 23 22 i0 z0 1 8 Try.underlying23 hi hz hsL hbL hzc (by decide) (.slice none 0 0) 0 [] (World.ownsRow_nil _ _ _ _) _ ts.length (ptC ts) (PtAt.from_ (c := c) h) (pt_one _) (by unfold maxLen; omega) (by omega) (Nat.le_refl _)
    simp only [Nat.zero_add, List.nil_append] at h2
    obtain ⟨A4, c4, rfl⟩ := own_slice h2
    exact ⟨A4, c4, w', hr, h2, (Below.refl w.heap.size w).grown h3 (Nat.le_refl _) (fun z hz => by cases hz)⟩
theorem pt_old {w w1 : World} {x : Int} (hb : Below (w.alloc (.cells #[.int .u64 x] 22)).heap.size (w.alloc (.cells #[.int .u64 x] 22)) w1) :
    ∀ j u, (ptC [x])[j]? = some u → w1.cell? ((⟨w.heap.size, 0, none⟩ : Addr).add j) = some u := by
  intro j u hj
  refine Eq.trans ?_ (pt_new w x j u hj)
  have h0 : j = 0 := by have := (List.getElem?_eq_some_iff.1 hj).1; simp at this; omega
  subst h0
  rw [Go.WideShapes.add_plain]
  exact hb.cell (by simp)
theorem kb_pts {w0 w : World} {gk : Nat} {es ps : List (Value × List Int)} {P : List Nat} (h : KB w0 w gk es ps P) {A : Option Addr} {c n : Nat} {l : List Int} (hn : l.length = n) (hx : (.slice A n c, l) ∈ es ++ ps) : PtAt w A l := by
  have z : Pb.Row w (.slice A n c) l := h.row hx
  unfold Pb.Row at z
  rw [hn] at z
  exact PtAt.own z hn
theorem pt_touch {w w0 w1 : World} {G : List Nat} {A : Option Addr} {l : List Int} (h : PtAt w A l) (hb : Below w.heap.size w w0) (ht : Touch G w0 w1) (hG : ∀ q ∈ G, w.heap.size ≤ q) : PtAt w1 A l :=
  h.below (Touch.acc hb ht hG)
theorem lent_touch {K : Nat} {w w0 w1 : World} {G : List Nat} {A : Option Addr} {c n : Nat} {l : List Int} (h : Lent K w A c n l) (hb : Below w.heap.size w w0) (ht : Touch G w0 w1) (hG : ∀ q ∈ G, w.heap.size ≤ q) : Lent K w1 A c n l :=
  h.below (Touch.acc hb ht hG)
set_option maxRecDepth 20000 in
set_option maxHeartbeats 8000000 in
theorem seatTells_any (v w id salt : Int) (A : Option Addr) (c n : Nat) (ts : List Int) (own : Int) (W : World) (hA : PtAt W A ts) (hn : ts.length = n) :
    Calls Try.prog 3 #[.int .u64 v, .int .u64 w, .int .i64 id, .int .i64 salt, .slice A n c, .int .i64 own] W fun e w' => e = .returned (.bool true) ∧ Below W.heap.size W w' := by
  have CA := Lib.hid seatAlive_any
  by_cases h6 : 60 < n
  · have d6 : decide (60 < (n : Int)) = true := by simp; omega
    go_enter Try.func3, Try.ntmps3
    go_wp2_with (go_at_call 8; (with_reducible refine (CA.out _).mono ?_); rintro e w1 ⟨rfl, h1⟩)
    go_ret
    exact ⟨rfl, h1⟩
  have d6 : decide (60 < (n : Int)) = false := by simp; omega
  obtain ⟨i0, z0, hi0, hz, hsL, hbL, hzc⟩ := infoP_
  obtain ⟨l, hs⟩ : ∃ l, seatsI id salt 4 = l := ⟨_, rfl⟩
  have hll : l.length = 4 := by rw [← hs, seatsI_length]
  have CR := Lib.hid (refSeats_any id salt)
  rw [hs] at CR
  have HL := Lib.hid hll
  have HN := Lib.hid hn
  go_enter Try.func3, Try.ntmps3
  go_upto_region 4 with (first
    | (go_at_call 8; (with_reducible refine (CA.out _).mono ?_); rintro e w1 ⟨rfl, h1⟩; have H1 := Lib.hid h1; clear h1)
    | (go_at_call 9; (with_reducible refine (CR.out _).mono ?_); rintro e w2 ⟨Al, cl, rfl, hown1, hb1⟩; rw [HL.out] at hown1; rw [HL.out]; have H2 : Hid (Below W.heap.size W w2) := acc H1.out hb1; have HO2 : Hid (PtAt w2 Al l) := Lib.hid (PtAt.own hown1 HL.out); have HAT := Lib.hid (hA.below (acc H1.out hb1)); clear hb1 hown1))
  obtain ⟨b, hb⟩ : ∃ b, decide (0 ≤ own ∧ own < 4) = b := ⟨_, rfl⟩
  go_cut [40] (fun s40 wx => s40 = .bool b ∧ w2 = wx)
  case first =>
    have d1 : (decide (own ≥ 0) = false ∧ decide (0 ≤ own ∧ own < 4) = false) ∨ (decide (own ≥ 0) = true ∧ decide (own < 4) = false ∧ decide (0 ≤ own ∧ own < 4) = false) ∨ (decide (own ≥ 0) = true ∧ decide (own < 4) = true ∧ decide (0 ≤ own ∧ own < 4) = true) := by
      by_cases h : 0 ≤ own
      · by_cases h2 : own < 4
        · exact .inr (.inr ⟨decide_eq_true h, decide_eq_true h2, decide_eq_true ⟨h, h2⟩⟩)
        · exact .inr (.inl ⟨decide_eq_true h, decide_eq_false h2, decide_eq_false (by omega)⟩)
      · exact .inl ⟨decide_eq_false h, decide_eq_false (by omega)⟩
    rcases d1 with ⟨d1, d3⟩ | ⟨d1, d2, d3⟩ | ⟨d1, d2, d3⟩
    all_goals
      rw [hb] at d3
      subst d3
      go_wp2_with fail
      go_meet
      exact ⟨rfl, rfl⟩
  case rest =>
  obtain ⟨rfl, rfl⟩ := hcut
  go_upto_if 40 with fail
  go_cut [4] (fun s4 wx => ∃ A' c' n' ts', s4 = .slice A' n' c' ∧ ts'.length = n' ∧ n' ≤ 61 ∧ Hid (PtAt wx A' ts') ∧ Hid (Below w2.heap.size w2 wx))
  case first =>
    cases b with
    | true =>
      have hr := of_decide_eq_true hb
      obtain ⟨k, rfl⟩ := Int.eq_ofNat_of_zero_le hr.1
      have hk4 : k < 4 := by omega
      obtain ⟨bl, ol, hl2⟩ := HO2.out
      obtain ⟨rfl, hblt, e2⟩ := hl2 k (by rw [HL.out]; exact hk4)
      generalize l[k]'(by rw [HL.out]; exact hk4) = x at e2
      have HSS : Hid (∀ w', Below w2.heap.size w2 w' → w'.cell? ⟨bl, ol + k, none⟩ = some (.int .u64 x)) := fun w' h => (h.cell (p := ⟨bl, ol + k, none⟩) hblt).trans e2
      have HB0 : Hid (Below w2.heap.size w2 w2.drew) := (Below.refl _ _).drew
      clear hl2
      go_upto_region 5 with fail
      refine wp_region_till (fun w' => w'.cell? ⟨bl, ol + k, none⟩ = some (.int .u64 x)) 6 (by kernel_rfl) ?_ (fun hHeld => ?_)
      · (try dsimp only); exact HSS.out _ HB0.out
      refine wpAnyT_pure (i := 0) (oi := ⟨_, _, _, _, _, _⟩) (v := ?_) rfl (by kernel_rfl) (by kernel_rfl) (by kernel_rfl) (fun _ _ _ h => h) (by kernel_rfl) (Or.inl ⟨by rfl, ?_⟩) (by assumption) ?_
      rotate_left
      · (intro wS hSw; (try dsimp only at hSw); go_simp <;> with_reducible rfl)
      try simp only [Act.put, List.setIfInBounds_toArray, List.set_cons_zero, List.set_cons_succ]
      refine wpAnyT_pure (i := 2) (oi := ⟨_, _, _, _, _, _⟩) (v := ?_) rfl (by kernel_rfl) (by kernel_rfl) (by kernel_rfl) (fun _ _ _ h => h) (by kernel_rfl) (Or.inl ⟨by rfl, ?_⟩) (by assumption) ?_
      rotate_left
      · (intro wS hSw; (try dsimp only at hSw); go_simp <;> with_reducible rfl)
      try simp only [Act.put, List.setIfInBounds_toArray, List.set_cons_zero, List.set_cons_succ]
      refine wpAnyT_pure (i := 3) (oi := ⟨_, _, _, _, _, _⟩) (v := ?_) rfl (by kernel_rfl) (by kernel_rfl) (by kernel_rfl) (fun _ _ _ h => h) (by kernel_rfl) (Or.inl ⟨by rfl, ?_⟩) (by assumption) ?_
      rotate_left
      · (intro wS hSw; (try dsimp only at hSw); go_simp <;> with_reducible rfl)
      try simp only [Act.put, List.setIfInBounds_toArray, List.set_cons_zero, List.set_cons_succ]
      refine wpAnyT_pure (i := 4) (oi := ⟨_, _, _, _, _, _⟩) (v := ?_) rfl (by kernel_rfl) (by kernel_rfl) (by kernel_rfl) (fun _ _ _ h => h) (by kernel_rfl) (Or.inl ⟨by rfl, ?_⟩) (by assumption) ?_
      rotate_left
      · (intro wS hSw; (try dsimp only at hSw); go_simp <;> with_reducible rfl)
      try simp only [Act.put, List.setIfInBounds_toArray, List.set_cons_zero, List.set_cons_succ]
      refine wpAnyT_take (i := 5) (oi := ⟨_, _, _, _, _, _⟩) (v := ?_) rfl (by kernel_rfl) (by kernel_rfl) (by kernel_rfl) (fun _ _ _ h => h) (by kernel_rfl) (Or.inl ⟨by rfl, ?_⟩) (by assumption) ?_
      rotate_left
      · (intro wS hSw; (try dsimp only at hSw); go_simp <;> with_reducible rfl)
      try simp only [Act.put, List.setIfInBounds_toArray, List.set_cons_zero, List.set_cons_succ]
      refine wpAnyT_ready (rs := [1, 6]) (by kernel_rfl) (by simp) ?_
      refine (AllReadyT.cons (o := ⟨_, _, _, _, _, _⟩) rfl (fun K hK => ?_) (AllReadyT.cons (o := ⟨_, _, _, _, _, _⟩) rfl (fun K hK => ?_) AllReadyT.nil))
      · obtain ⟨A4, c4, w4, hr4, ho4, hb4⟩ := run_append_pts A c n ts w2.drew (HAT.out.below HB0.out) HN.out (by omega)
        have HO4 := Lib.hid ho4
        have HB4 : Hid (Below w2.heap.size w2 w4) := acc HB0.out hb4
        have K4 := Lib.hid hb4
        clear ho4 hb4
        refine step_append_ran rfl (.const (.slice none 0 0)) (.tmp 41) 23 rfl _ _ rfl rfl hr4 ?_
        refine hK.out _ _ (by (try dsimp only); (first | exact HSS.out _ HB0.out | exact HSS.out _ HB4.out)) (fun hHeld => ?_)
        clear hK K
        try simp only [Act.put, List.setIfInBounds_toArray, List.set_cons_zero, List.set_cons_succ]
        refine wpAnyT_ready (rs := [6]) (by kernel_rfl) (by simp) ?_
        refine (AllReadyT.past (o := ⟨_, _, _, _, _, _⟩) rfl (by kernel_rfl) (fun K hK => ?_) AllReadyT.nil)
        go_simp
        refine hK.out _ _ ?_
        clear hK K
        try simp only [Act.put, List.setIfInBounds_toArray, List.set_cons_zero, List.set_cons_succ]
        refine wpAnyT_ready (rs := [7]) (by kernel_rfl) (by simp) ?_
        refine (AllReadyT.past (o := ⟨_, _, _, _, _, _⟩) rfl (by kernel_rfl) (fun K hK => ?_) AllReadyT.nil)
        refine step_append_any rfl (.tmp 42) (.tmp 47) 23 rfl w2.heap.size 22 i0 z0 1 8 Try.underlying23 hi0 hz hsL hbL hzc (by decide) (.slice A4 n c4) n (ptC ts) rfl ((own_mono HO4.out (by simp)).alloc _) (.slice (some ⟨w4.heap.size, 0, none⟩) 1 1) 1 (ptC [x]) rfl (.inr ⟨_, _, rfl, rfl, (fun j u hu => pt_new w4 x j u hu)⟩) (pt_one _) (by unfold maxLen; omega) (by omega) (by have := HB4.out.size; simp <;> omega) ?_
        intro A5 c5 w5 ho5 hg5 _
        have HO5 := Lib.hid ho5
        have HB5 : Hid (Below w2.heap.size w2 w5) := (HB4.out.alloc HB4.out.size _).grown hg5 (by have := HB4.out.size; simp <;> omega) (own_lt (own_mono HO4.out (by simp)))
        clear ho5 hg5
        refine hK.out _ _ ?_
        clear hK K
        try simp only [Act.put, List.setIfInBounds_toArray, List.set_cons_zero, List.set_cons_succ]
        refine wpAnyT_ready (rs := [8]) (by kernel_rfl) (by simp) ?_
        refine (AllReadyT.past (o := ⟨_, _, _, _, _, _⟩) rfl (by kernel_rfl) (fun K hK => ?_) AllReadyT.nil)
        go_simp
        refine hK.out _ _ ?_
        clear hK K
        try simp only [Act.put, List.setIfInBounds_toArray, List.set_cons_zero, List.set_cons_succ]
        refine wpAnyT_done (by kernel_rfl) ?_ _
        go_wp2_with fail
        go_meet
        have h5 := HO5.out
        rw [← ptC_append] at h5
        exact ⟨A5, c5, n + 1, ts ++ [x], rfl, by rw [List.length_append, HN.out]; rfl, by omega, PtAt.own h5 (by rw [List.length_append, HN.out]; rfl), HB5.out⟩
      · go_simp
        refine hK.out _ _ (by (try dsimp only); exact HSS.out _ (HB0.out.alloc HB0.out.size _)) (fun hHeld => ?_)
        clear hK K
        try simp only [Act.put, List.setIfInBounds_toArray, List.set_cons_zero, List.set_cons_succ]
        refine wpAnyT_ready (rs := [1]) (by kernel_rfl) (by simp) ?_
        refine (AllReadyT.past (o := ⟨_, _, _, _, _, _⟩) rfl (by kernel_rfl) (fun K hK => ?_) AllReadyT.nil)
        obtain ⟨A4, c4, w4, hr4, ho4, hb4⟩ := run_append_pts A c n ts (w2.drew.alloc (.cells #[.int .u64 x] 22)) (HAT.out.below (HB0.out.alloc HB0.out.size (.cells #[.int .u64 x] 22))) HN.out (by omega)
        have HO4 := Lib.hid ho4
        have HB4 : Hid (Below w2.heap.size w2 w4) := acc (HB0.out.alloc HB0.out.size (.cells #[.int .u64 x] 22)) hb4
        have K4 := Lib.hid hb4
        clear ho4 hb4
        refine step_append_ran rfl (.const (.slice none 0 0)) (.tmp 41) 23 rfl _ _ rfl rfl hr4 ?_
        refine hK.out _ _ ?_
        clear hK K
        try simp only [Act.put, List.setIfInBounds_toArray, List.set_cons_zero, List.set_cons_succ]
        refine wpAnyT_ready (rs := [7]) (by kernel_rfl) (by simp) ?_
        refine (AllReadyT.past (o := ⟨_, _, _, _, _, _⟩) rfl (by kernel_rfl) (fun K hK => ?_) AllReadyT.nil)
        refine step_append_any rfl (.tmp 42) (.tmp 47) 23 rfl w2.heap.size 22 i0 z0 1 8 Try.underlying23 hi0 hz hsL hbL hzc (by decide) (.slice A4 n c4) n (ptC ts) rfl ((own_mono HO4.out (by simp))) (.slice (some ⟨w2.drew.heap.size, 0, none⟩) 1 1) 1 (ptC [x]) rfl (.inr ⟨_, _, rfl, rfl, (pt_old K4.out)⟩) (pt_one _) (by unfold maxLen; omega) (by omega) (by have := HB4.out.size; simp <;> omega) ?_
        intro A5 c5 w5 ho5 hg5 _
        have HO5 := Lib.hid ho5
        have HB5 : Hid (Below w2.heap.size w2 w5) := HB4.out.grown hg5 (by have := HB4.out.size; simp <;> omega) (own_lt (own_mono HO4.out (by simp)))
        clear ho5 hg5
        refine hK.out _ _ ?_
        clear hK K
        try simp only [Act.put, List.setIfInBounds_toArray, List.set_cons_zero, List.set_cons_succ]
        refine wpAnyT_ready (rs := [8]) (by kernel_rfl) (by simp) ?_
        refine (AllReadyT.past (o := ⟨_, _, _, _, _, _⟩) rfl (by kernel_rfl) (fun K hK => ?_) AllReadyT.nil)
        go_simp
        refine hK.out _ _ ?_
        clear hK K
        try simp only [Act.put, List.setIfInBounds_toArray, List.set_cons_zero, List.set_cons_succ]
        refine wpAnyT_done (by kernel_rfl) ?_ _
        go_wp2_with fail
        go_meet
        have h5 := HO5.out
        rw [← ptC_append] at h5
        exact ⟨A5, c5, n + 1, ts ++ [x], rfl, by rw [List.length_append, HN.out]; rfl, by omega, PtAt.own h5 (by rw [List.length_append, HN.out]; rfl), HB5.out⟩
    | false =>
      go_wp2_with fail
      go_meet
      exact ⟨A, c, n, ts, rfl, HN.out, by omega, HAT.out, Below.refl _ _⟩
  case rest =>
    clear hb HAT
    obtain ⟨A', c', n', ts', rfl, hn', hl', hp', hb'⟩ := hcut
    have HP := hp'
    have H3 : Hid (Below W.heap.size W wc) := acc H2.out hb'.out
    have HO3 := Lib.hid (HO2.out.below hb'.out)
    have HN' := Lib.hid hn'
    clear hp' hb' H2 HO2 hn' hA hn
    obtain ⟨wl, rfl⟩ : ∃ wl : World, wl = wc := ⟨_, rfl⟩
    have CL := Lib.hid (lentPts_any A' c' ts' n' wl HP.out HN'.out (by omega))
    have CS := Lib.hid (seatSeats_any id salt)
    rw [hs] at CS
    have CF : Hid (∀ W, Calls Try.prog 17 #[.int .u64 v, .int .u64 w] W fun e w' => e = .returned (.int .u64 (IntKind.u64.wrap (w - v))) ∧ W = w') := fun W => seatFar_any v w W
    have CM1 : Hid (∀ W, Calls Try.prog 15 #[.int .u64 v] W fun e w' => e = .returned (.int .u64 (mixI v)) ∧ W = w') := fun W => seatMix_any v W
    have CM2 : Hid (∀ W, Calls Try.prog 16 #[.int .u64 v] W fun e w' => e = .returned (.int .u64 (mixI v)) ∧ W = w') := fun W => refMix_any v W
    generalize mixI v = mv at *
    have CP : Hid (∀ W A c, PtAt W A ts' → Calls Try.prog 13 #[.int .i64 id, .int .i64 salt, .slice A n' c] W fun e w' => e = .returned (.tuple #[.int .u64 (pickI id salt ts').1, .bool (pickI id salt ts').2]) ∧ Below W.heap.size W w') :=
      fun W A c h => seatPick_any id salt A c n' ts' W h HN'.out (by omega)
    have CD : Hid (∀ W A c, PtAt W A ts' → Calls Try.prog 14 #[.int .i64 id, .int .i64 salt, .slice A n' c] W fun e w' => e = .returned (.tuple #[.int .u64 (pickI id salt ts').1, .bool (pickI id salt ts').2]) ∧ Below W.heap.size W w') :=
      fun W A c h => refPick_any id salt A c n' ts' W h HN'.out (by omega)
    generalize (pickI id salt ts').1 = px at *
    generalize (pickI id salt ts').2 = pb at *
    clear hs hll CA CR d6 h6
    go_upto_region 8 with (go_at_call 10; (with_reducible refine (CL.out).mono ?_); rintro e w3 ⟨A3, c3, rfl, hl3, hb3⟩; have HT3 := Lib.hid hl3; have HP3 := Lib.hid (HP.out.below hb3); have HO4 := Lib.hid (HO3.out.below hb3); have H4 : Hid (Below W.heap.size W w3) := acc H3.out hb3; clear hl3 hb3)
    have K0 : Hid (KB (w3.alloc (.cells #[.slice none 0 0, .slice none 0 0, .slice none 0 0, .slice none 0 0, .slice none 0 0, .slice none 0 0, .slice none 0 0, .slice none 0 0, .slice none 0 0, .slice none 0 0, .slice none 0 0, .slice none 0 0, .slice none 0 0, .slice none 0 0] 36)) (w3.alloc (.cells #[.slice none 0 0, .slice none 0 0, .slice none 0 0, .slice none 0 0, .slice none 0 0, .slice none 0 0, .slice none 0 0, .slice none 0 0, .slice none 0 0, .slice none 0 0, .slice none 0 0, .slice none 0 0, .slice none 0 0, .slice none 0 0] 36)) w3.heap.size [] [] []) := KB.start (Below.refl _ _)
    have H5 : Hid (Below w3.heap.size w3 (w3.alloc (.cells #[.slice none 0 0, .slice none 0 0, .slice none 0 0, .slice none 0 0, .slice none 0 0, .slice none 0 0, .slice none 0 0, .slice none 0 0, .slice none 0 0, .slice none 0 0, .slice none 0 0, .slice none 0 0, .slice none 0 0, .slice none 0 0] 36))) := (Below.refl _ _).alloc (Nat.le_refl _) _
    obtain ⟨w0, hw0⟩ : ∃ w0, w3.alloc (.cells #[.slice none 0 0, .slice none 0 0, .slice none 0 0, .slice none 0 0, .slice none 0 0, .slice none 0 0, .slice none 0 0, .slice none 0 0, .slice none 0 0, .slice none 0 0, .slice none 0 0, .slice none 0 0, .slice none 0 0, .slice none 0 0] 36) = w0 := ⟨_, rfl⟩
    rw [hw0] at K0 H5 ⊢
    obtain ⟨gb, hgb⟩ : ∃ gb, w3.heap.size = gb := ⟨_, rfl⟩
    rw [hgb] at K0 ⊢
    have HGB := Lib.hid hgb
    clear hw0 hgb CL HP HO3
    -- what lay ahead of the book lies as it lay
    have ST : Hid (∀ w, Touch [gb] w0 w → PtAt w A' ts' ∧ PtAt w Al l ∧ Lent wl.heap.size w A3 c3 n' ts') := fun w t =>
      have hG : ∀ q ∈ [gb], w3.heap.size ≤ q := fun q hq => by simp at hq; subst hq; rw [HGB.out]; exact Nat.le_refl _
      ⟨pt_touch HP3.out H5.out t hG, pt_touch HO4.out H5.out t hG, lent_touch HT3.out H5.out t hG⟩
    go_wp2_with (first
      | (go_at_call 11; (with_reducible refine (CS.out _).mono ?_); rintro e w5 ⟨Ab, cb, rfl, hown5, hb5⟩; have K5 : Hid (KB w0 w5 gb [] [(.slice Aa 4 ca, l), (.slice Ab 4 cb, l)] []) := K4.out.push (n := 4) hb5 HL.out hown5; rw [HL.out]; clear hb5 hown5)
      | (go_at_call 11; (with_reducible refine (CS.out _).mono ?_); rintro e w4 ⟨Aa, ca, rfl, hown4, hb4⟩; have K4 : Hid (KB w0 w4 gb [] [(.slice Aa 4 ca, l)] []) := K0.out.push (n := 4) hb4 HL.out hown4; rw [HL.out]; clear hb4 hown4)
      | (go_at_call 12; (with_reducible refine (K6.out.book HL.out (by simp) (by decide)).mono ?_); rintro e w7 ⟨rfl, h7, -⟩; have K7 : Hid (KB w0 w7 gb [(.slice Aa 4 ca, l), (.slice Ab 4 cb, l)] [] []) := h7; clear h7)
      | (go_at_call 12; (with_reducible refine (K5.out.book HL.out (by decide) (by decide)).mono ?_); rintro e w6 ⟨rfl, h6, -⟩; have K6 : Hid (KB w0 w6 gb [(.slice Aa 4 ca, l)] [(.slice Ab 4 cb, l)] []) := h6; clear h6)
      | (go_at_call 13; (with_reducible refine (CP.out _ _ _ (ST.out _ K7.out.touch).2.2.ptAt).mono ?_); rintro e w8 ⟨rfl, h8⟩; have K8 := Lib.hid (K7.out.below h8); clear h8)
      | (go_at_call 14; (with_reducible refine (CD.out _ _ _ (ST.out _ K8.out.touch).1).mono ?_); rintro e w9 ⟨rfl, h9⟩; have K9 := Lib.hid (K8.out.below h9); clear h9; have HAA : Hid (PtAt w9 Aa l) := kb_pts (c := ca) K9.out HL.out (by simp))
      | (go_at_call 15; (with_reducible refine (CM1.out _).mono ?_); rintro e w10 ⟨rfl, rfl⟩)
      | (go_at_call 16; (with_reducible refine (CM2.out _).mono ?_); rintro e w10 ⟨rfl, rfl⟩)
      | (go_at_call 17; (with_reducible refine (CF.out _).mono ?_); rintro e w10 ⟨rfl, rfl⟩)
      | (go_at_call 18; (with_reducible refine (samePts_any _ _ _ _ 4 l _ HAA.out (ST.out _ K9.out.touch).2.1 HL.out (by decide)).mono ?_); rintro e w11 ⟨rfl, h11⟩; have K11 := Lib.hid (K9.out.below h11); clear h11)
      | (go_at_call 19; (with_reducible refine (staysPts_any _ _ _ _ n' wl.heap.size ts' _ (ST.out _ K11.out.touch).2.2 (ST.out _ K11.out.touch).1 (by omega)).mono ?_); rintro e w12 ⟨rfl, h12⟩; have K12 := Lib.hid (K11.out.below h12); clear h12)
      | (go_at_call 20; (with_reducible refine (K12.out.apart (by simp) (fun x hx => by simp at hx; rcases hx with rfl | rfl <;> (show l.length ≤ 90000; rw [HL.out]; decide))).mono ?_); rintro e w13 ⟨rfl, t13⟩))
    go_ret
    exact ⟨rfl, Touch.acc (acc H4.out H5.out) t13 (fun q hq => by simp at hq; subst hq; rw [← HGB.out]; exact H4.out.size)⟩
end Go.Proofs.Ytpgolebikjjdlaa
