/-
  keep: a letter that is ahead is kept, if it is near enough. (Its regions by tools/genLKKeep.py.)
-/
import Derived.Test.YtfemdfidfomchaaLinkFind
namespace Go.Proofs.Ytfemdfidfomchaa
open Go.RowKit

theorem lk_infoE : ∃ i, Try.prog.info? 110 = some i ∧ i.zero = some (.agg lk_zk) ∧ i.size = 22 ∧ i.bytes = 248 := by
  have h : (Try.prog.info? 110).map (fun i => (i.zero, i.size, i.bytes)) = some (some (.agg lk_zk), 22, 248) := by kernel_rfl
  obtain ⟨i, hi, hx⟩ := Option.map_eq_some_iff.1 h
  simp only [Prod.mk.injEq] at hx
  exact ⟨i, hi, hx⟩
/-- is a letter of that number kept? -/
def LS.keeps (s : LS) (q : Nat) : Bool := decide (s.came < q) && (decide (q ≤ s.came + 64) && !hasSeq s.kept q)
abbrev LS.keep (s : LS) (q : Nat) (r : LR) : LS := {s with kept := s.kept ++ [(q, r)]}
theorem lstep_same {W w : World} {g : Nat} {s : LS} {V K : Value} {L : List Nat} (h : LNX W g s V K L) (hb : Below W.heap.size W w) : LStep W w g (fr g V K) L s [] :=
  ⟨Touch.ofBelow hb, V, K, L, h.below hb, fun _ hq => .inl hq, fun _ hq => .inl hq, by simp⟩
/-- what keep leaves -/
def KeepPost (W : World) (g : Nat) (V K : Value) (L : List Nat) (s : LS) (q : Nat) (r : LR) (b : Bool) (e : Ending) (w' : World) : Prop := e = .returned (.tuple #[]) ∧ ∃ r1, AlikeP r r1 ∧ LStep W w' g (fr g V K) L (if b then s.keep q r1 else s) []
set_option maxRecDepth 20000 in
set_option maxHeartbeats 8000000 in
theorem keep_any {W : World} {g : Nat} {s : LS} {V K : Value} {L : List Nat} (h : LNX W g s V K L) (hok : s.Ok) (q : Nat) (hq : q ≤ 9223372036854775807) (r : LR) (hl : SlAt W r.a r.l.ti ∧ SlAt W r.b r.l.li) (hbl : ∀ q ∈ r.blocks, q < W.heap.size ∧ q ∉ fr g V K) (hs : r.Sm) :
    Calls Try.prog 32 #[.pointer (some ⟨g, 0, none⟩), .int .i64 (q : Nat), .agg r.cells] W (KeepPost W g V K L s q r (s.keeps q)) := by
  have B2 : Below W.heap.size W ((W.alloc (.cells #[.int .i64 (q : Nat)] 3)).alloc (.cells r.cells 51)) := ((Below.refl _ _).alloc (Nat.le_refl _) _).alloc (by simp) _
  have b1 : ((W.alloc (.cells #[.int .i64 (q : Nat)] 3)).alloc (.cells r.cells 51)).heap[W.heap.size]? = some (.cells #[.int .i64 (q : Nat)] 3) := (Lib.alloc_old _ _ _ (by simp)).trans (heap_alloc_new W _)
  have b2 : ((W.alloc (.cells #[.int .i64 (q : Nat)] 3)).alloc (.cells r.cells 51)).heap[W.heap.size + 1]? = some (.cells r.cells 51) := by
    have := heap_alloc_new (W.alloc (.cells #[.int .i64 (q : Nat)] 3)) (.cells r.cells 51)
    simpa using this
  have h2 := h.below B2
  have l2 := letter_touch hl (Touch.ofBelow (F := []) B2) (by simp)
  obtain ⟨w2, hw2⟩ : ∃ w2, (W.alloc (.cells #[.int .i64 (q : Nat)] 3)).alloc (.cells r.cells 51) = w2 := ⟨_, rfl⟩
  rw [hw2] at B2 b1 b2 h2 l2
  have x0 : w2.cell? ⟨W.heap.size, 0, none⟩ = some (.int .i64 (q : Nat)) := bg_cell b1 rfl
  obtain ⟨m, hm⟩ : ∃ m : Nat, s.came = m := ⟨_, rfl⟩
  obtain ⟨A, c, hKs⟩ := own_slice h.k
  obtain ⟨n, hn⟩ : ∃ n, s.kept.length = n := ⟨_, rfl⟩
  have c5 := h2.c5
  have c6 := h2.c6
  rw [hm] at c5
  rw [hKs, hn] at c6
  have hm1 : m ≤ 1000000 := by have := hok.came; omega
  have hn1 : n ≤ 90000 := by have := hok.kept; omega
  have HK := Lib.hid (show s.keeps q = (decide (m < q) && (decide (q ≤ m + 64) && !hasSeq s.kept q)) by unfold LS.keeps; rw [hm])
  have hr2 := h2.k
  rw [hKs, hn] at hr2
  have hKs' : K = .slice A n c := by rw [hKs, hn]
  have H2 := Lib.hid h2
  have H := Lib.hid h
  have HR2 := Lib.hid hr2
  have HY1 := Lib.hid b1
  have HY2 := Lib.hid b2
  have HB2 := Lib.hid B2
  have HL2 := Lib.hid l2
  have HBL := Lib.hid hbl
  have HSM := Lib.hid hs
  have HKS := Lib.hid hKs'
  have HNN := Lib.hid hn
  clear h h2 hr2 b1 b2 B2 l2 hl hbl hs hKs hKs' hok hm hn
  by_cases t1 : q ≤ m
  · have d1 : decide ((q : Int) ≤ (m : Int)) = true := by simp; omega
    have hk : s.keeps q = false := by rw [HK.out, decide_eq_false (by omega)]; rfl
    rw [hk]
    go_enter Try.func32, Try.ntmps32
    go_upto_region 2 with fail
    clear hw2
    go_quiet (fail)
    go_wp2
    refine bodyPost_ret (v := .tuple #[]) (by simp [results, Try.results32, go_sem]) rfl ?_
    exact ⟨rfl, r, ⟨rfl, id, id⟩, lstep_same H.out (below_drewN HB2.out _)⟩
  · have d1 : decide ((q : Int) ≤ (m : Int)) = false := by simp; omega
    have hz : IntKind.i64.wrap ((q : Int) - (m : Int)) = (q : Int) - (m : Int) := by rw [IntKind.wrap_i64]; omega
    by_cases t2 : m + 64 < q
    · have d2 : decide ((64 : Int) < (q : Int) - (m : Int)) = true := by simp; omega
      have hk : s.keeps q = false := by rw [HK.out, decide_eq_false (show ¬ q ≤ m + 64 by omega), Bool.false_and, Bool.and_false]
      rw [hk]
      go_enter Try.func32, Try.ntmps32
      go_upto_region 2 with fail
      clear hw2
      go_quiet (fail)
      go_wp2
      refine bodyPost_ret (v := .tuple #[]) (by simp [results, Try.results32, go_sem]) rfl ?_
      exact ⟨rfl, r, ⟨rfl, id, id⟩, lstep_same H.out (below_drewN HB2.out _)⟩
    · have d2 : decide ((64 : Int) < (q : Int) - (m : Int)) = false := by simp; omega
      have HSS : Hid (∀ w', Below w2.heap.size w2 w' → Below w2.heap.size w2 w' ∧ w'.cell? ⟨g, 5, none⟩ = some (.int .i64 (m : Nat)) ∧ w'.cell? ⟨g, 6, none⟩ = some (.slice A n c) ∧ w'.cell? ⟨W.heap.size, 0, none⟩ = some (.int .i64 (q : Nat))) := fun w' hb =>
        ⟨hb, (hb.cell (p := ⟨g, 5, none⟩) H2.out.glt).trans c5, (hb.cell (p := ⟨g, 6, none⟩) H2.out.glt).trans c6, (hb.cell (p := ⟨W.heap.size, 0, none⟩) (bg_lt HY1.out)).trans x0⟩
      have CH0 : ∀ w, Below w2.heap.size w2 w → Calls Try.prog 68 #[.slice A n c, .func (.func 67) #[] #[.pointer (some ⟨W.heap.size, 0, none⟩)]] w fun e w' => e = .returned (.bool (hasSeq s.kept q)) ∧ Below w.heap.size w w' := fun w hb =>
        hasEarly_any s.kept q W.heap.size A c n w HNN.out (by omega) (lk_below HR2.out hb) ((hb.cell (p := ⟨W.heap.size, 0, none⟩) (bg_lt HY1.out)).trans x0)
      obtain ⟨b, hb⟩ : ∃ b, hasSeq s.kept q = b := ⟨_, rfl⟩
      rw [hb] at CH0 HK
      have CH := Lib.hid CH0
      clear CH0 hb
      cases b
      · have hk : s.keeps q = true := by rw [HK.out, decide_eq_true (show m < q by omega), decide_eq_true (show q ≤ m + 64 by omega)]; rfl
        rw [hk]
        go_enter Try.func32, Try.ntmps32
        go_upto_region 2 with fail
        clear hw2
        --REGION 2
        refine wp_region_held_drew (S := (fun w' => Below w2.heap.size w2 w' ∧ w'.cell? ⟨g, 5, none⟩ = some (.int .i64 (m : Nat)) ∧ w'.cell? ⟨g, 6, none⟩ = some (.slice A n c) ∧ w'.cell? ⟨W.heap.size, 0, none⟩ = some (.int .i64 (q : Nat)))) (by kernel_rfl) ?_ (fun hHeld => ?_)
        · (try dsimp only); exact HSS.out _ (Below.refl _ _).drew
        refine wpAnyH_take (i := 0) (oi := ⟨_, _, _, _, _, _⟩) (v := ?_) rfl (by kernel_rfl) (by kernel_rfl) (by kernel_rfl) (fun _ _ _ h => h) (Or.inl ⟨by rfl, ?_⟩) (by assumption) ?_
        rotate_left
        · (intro wS hSw; (try dsimp only at hSw); go_simp <;> with_reducible rfl)
        try simp only [Act.put, List.setIfInBounds_toArray, List.set_cons_zero, List.set_cons_succ]
        refine wpAnyH_take (i := 1) (oi := ⟨_, _, _, _, _, _⟩) (v := ?_) rfl (by kernel_rfl) (by kernel_rfl) (by kernel_rfl) (fun _ _ _ h => h) (Or.inl ⟨by rfl, ?_⟩) (by assumption) ?_
        rotate_left
        · (intro wS hSw; (try dsimp only at hSw); go_simp <;> with_reducible rfl)
        try simp only [Act.put, List.setIfInBounds_toArray, List.set_cons_zero, List.set_cons_succ]
        refine wpAnyH_take (i := 2) (oi := ⟨_, _, _, _, _, _⟩) (v := ?_) rfl (by kernel_rfl) (by kernel_rfl) (by kernel_rfl) (fun _ _ _ h => h) (Or.inl ⟨by rfl, ?_⟩) (by assumption) ?_
        rotate_left
        · (intro wS hSw; (try dsimp only at hSw); go_simp <;> with_reducible rfl)
        try simp only [Act.put, List.setIfInBounds_toArray, List.set_cons_zero, List.set_cons_succ]
        refine wpAnyH_take (i := 3) (oi := ⟨_, _, _, _, _, _⟩) (v := ?_) rfl (by kernel_rfl) (by kernel_rfl) (by kernel_rfl) (fun _ _ _ h => h) (Or.inl ⟨by rfl, ?_⟩) (by assumption) ?_
        rotate_left
        · (intro wS hSw; (try dsimp only at hSw); go_simp <;> with_reducible rfl)
        try simp only [Act.put, List.setIfInBounds_toArray, List.set_cons_zero, List.set_cons_succ]
        refine wpAnyH_take (i := 4) (oi := ⟨_, _, _, _, _, _⟩) (v := ?_) rfl (by kernel_rfl) (by kernel_rfl) (by kernel_rfl) (fun _ _ _ h => h) (Or.inl ⟨by rfl, ?_⟩) (by assumption) ?_
        rotate_left
        · (intro wS hSw; (try dsimp only at hSw); go_simp <;> with_reducible rfl)
        try simp only [Act.put, List.setIfInBounds_toArray, List.set_cons_zero, List.set_cons_succ]
        refine wpAnyH_take (i := 5) (oi := ⟨_, _, _, _, _, _⟩) (v := ?_) rfl (by kernel_rfl) (by kernel_rfl) (by kernel_rfl) (fun _ _ _ h => h) (Or.inl ⟨by rfl, ?_⟩) (by assumption) ?_
        rotate_left
        · (intro wS hSw; (try dsimp only at hSw); go_simp <;> with_reducible rfl)
        try simp only [Act.put, List.setIfInBounds_toArray, List.set_cons_zero, List.set_cons_succ]
        refine wpAnyH_take (i := 6) (oi := ⟨_, _, _, _, _, _⟩) (v := ?_) rfl (by kernel_rfl) (by kernel_rfl) (by kernel_rfl) (fun _ _ _ h => h) (Or.inl ⟨by rfl, ?_⟩) (by assumption) ?_
        rotate_left
        · (intro wS hSw; (try dsimp only at hSw); go_simp <;> with_reducible rfl)
        try simp only [Act.put, List.setIfInBounds_toArray, List.set_cons_zero, List.set_cons_succ]
        refine wpAnyH_take (i := 7) (oi := ⟨_, _, _, _, _, _⟩) (v := ?_) rfl (by kernel_rfl) (by kernel_rfl) (by kernel_rfl) (fun _ _ _ h => h) (Or.inl ⟨by rfl, ?_⟩) (by assumption) ?_
        rotate_left
        · (intro wS hSw; (try dsimp only at hSw); go_simp <;> with_reducible rfl)
        try simp only [Act.put, List.setIfInBounds_toArray, List.set_cons_zero, List.set_cons_succ]
        refine wpAnyH_take (i := 8) (oi := ⟨_, _, _, _, _, _⟩) (v := ?_) rfl (by kernel_rfl) (by kernel_rfl) (by kernel_rfl) (fun _ _ _ h => h) (Or.inl ⟨by rfl, ?_⟩) (by assumption) ?_
        rotate_left
        · (intro wS hSw; (try dsimp only at hSw); go_simp <;> with_reducible rfl)
        try simp only [Act.put, List.setIfInBounds_toArray, List.set_cons_zero, List.set_cons_succ]
        refine wpAnyH_take (i := 9) (oi := ⟨_, _, _, _, _, _⟩) (v := ?_) rfl (by kernel_rfl) (by kernel_rfl) (by kernel_rfl) (fun _ _ _ h => h) (Or.inl ⟨by rfl, ?_⟩) (by assumption) ?_
        rotate_left
        · (intro wS hSw; (try dsimp only at hSw); go_simp <;> with_reducible rfl)
        try simp only [Act.put, List.setIfInBounds_toArray, List.set_cons_zero, List.set_cons_succ]
        refine wpAnyH_take (i := 10) (oi := ⟨_, _, _, _, _, _⟩) (v := ?_) rfl (by kernel_rfl) (by kernel_rfl) (by kernel_rfl) (fun _ _ _ h => h) (Or.inl ⟨by rfl, ?_⟩) (by assumption) ?_
        rotate_left
        · (intro wS hSw; (try dsimp only at hSw); go_simp <;> with_reducible rfl)
        try simp only [Act.put, List.setIfInBounds_toArray, List.set_cons_zero, List.set_cons_succ]
        refine wpAnyH_take (i := 11) (oi := ⟨_, _, _, _, _, _⟩) (v := ?_) rfl (by kernel_rfl) (by kernel_rfl) (by kernel_rfl) (fun _ _ _ h => h) (Or.inl ⟨by rfl, ?_⟩) (by assumption) ?_
        rotate_left
        · (intro wS hSw; (try dsimp only at hSw); go_simp <;> with_reducible rfl)
        try simp only [Act.put, List.setIfInBounds_toArray, List.set_cons_zero, List.set_cons_succ]
        refine wpAnyH_take (i := 12) (oi := ⟨_, _, _, _, _, _⟩) (v := ?_) rfl (by kernel_rfl) (by kernel_rfl) (by kernel_rfl) (fun _ _ _ h => h) (Or.inl ⟨by rfl, ?_⟩) (by assumption) ?_
        rotate_left
        · (intro wS hSw; (try dsimp only at hSw); go_simp <;> with_reducible rfl)
        try simp only [Act.put, List.setIfInBounds_toArray, List.set_cons_zero, List.set_cons_succ]
        refine wpAnyH_take (i := 13) (oi := ⟨_, _, _, _, _, _⟩) (v := ?_) rfl (by kernel_rfl) (by kernel_rfl) (by kernel_rfl) (fun _ _ _ h => h) (Or.inl ⟨by rfl, ?_⟩) (by assumption) ?_
        rotate_left
        · (intro wS hSw; (try dsimp only at hSw); go_simp <;> with_reducible rfl)
        try simp only [Act.put, List.setIfInBounds_toArray, List.set_cons_zero, List.set_cons_succ]
        refine wpAnyH_take (i := 14) (oi := ⟨_, _, _, _, _, _⟩) (v := ?_) rfl (by kernel_rfl) (by kernel_rfl) (by kernel_rfl) (fun _ _ _ h => h) (Or.inl ⟨by rfl, ?_⟩) (by assumption) ?_
        rotate_left
        · (intro wS hSw; (try dsimp only at hSw); go_simp <;> with_reducible rfl)
        try simp only [Act.put, List.setIfInBounds_toArray, List.set_cons_zero, List.set_cons_succ]
        refine wpAnyH_take (i := 15) (oi := ⟨_, _, _, _, _, _⟩) (v := ?_) rfl (by kernel_rfl) (by kernel_rfl) (by kernel_rfl) (fun _ _ _ h => h) (Or.inl ⟨by rfl, ?_⟩) (by assumption) ?_
        rotate_left
        · (intro wS hSw; (try dsimp only at hSw); go_simp <;> with_reducible rfl)
        try simp only [Act.put, List.setIfInBounds_toArray, List.set_cons_zero, List.set_cons_succ]
        refine wpAnyH_take (i := 16) (oi := ⟨_, _, _, _, _, _⟩) (v := ?_) rfl (by kernel_rfl) (by kernel_rfl) (by kernel_rfl) (fun _ _ _ h => h) (Or.inl ⟨by rfl, ?_⟩) (by assumption) ?_
        rotate_left
        · (intro wS hSw; (try dsimp only at hSw); go_simp <;> with_reducible rfl)
        try simp only [Act.put, List.setIfInBounds_toArray, List.set_cons_zero, List.set_cons_succ]
        refine wpAnyH_take (i := 17) (oi := ⟨_, _, _, _, _, _⟩) (v := ?_) rfl (by kernel_rfl) (by kernel_rfl) (by kernel_rfl) (fun _ _ _ h => h) (Or.inl ⟨by rfl, ?_⟩) (by assumption) ?_
        rotate_left
        · (intro wS hSw; (try dsimp only at hSw); go_simp <;> with_reducible rfl)
        try simp only [Act.put, List.setIfInBounds_toArray, List.set_cons_zero, List.set_cons_succ]
        refine wpAnyH_take (i := 18) (oi := ⟨_, _, _, _, _, _⟩) (v := ?_) rfl (by kernel_rfl) (by kernel_rfl) (by kernel_rfl) (fun _ _ _ h => h) (Or.inl ⟨by rfl, ?_⟩) (by assumption) ?_
        rotate_left
        · (intro wS hSw; (try dsimp only at hSw); go_simp <;> with_reducible rfl)
        try simp only [Act.put, List.setIfInBounds_toArray, List.set_cons_zero, List.set_cons_succ]
        refine wpAnyH_take (i := 19) (oi := ⟨_, _, _, _, _, _⟩) (v := ?_) rfl (by kernel_rfl) (by kernel_rfl) (by kernel_rfl) (fun _ _ _ h => h) (Or.inl ⟨by rfl, ?_⟩) (by assumption) ?_
        rotate_left
        · (intro wS hSw; (try dsimp only at hSw); go_simp <;> with_reducible rfl)
        try simp only [Act.put, List.setIfInBounds_toArray, List.set_cons_zero, List.set_cons_succ]
        refine wpAnyH_take (i := 20) (oi := ⟨_, _, _, _, _, _⟩) (v := ?_) rfl (by kernel_rfl) (by kernel_rfl) (by kernel_rfl) (fun _ _ _ h => h) (Or.inl ⟨by rfl, ?_⟩) (by assumption) ?_
        rotate_left
        · (intro wS hSw; (try dsimp only at hSw); go_simp <;> with_reducible rfl)
        try simp only [Act.put, List.setIfInBounds_toArray, List.set_cons_zero, List.set_cons_succ]
        refine wpAnyH_ready (rs := [21]) (by kernel_rfl) (by simp) ?_
        refine AllReadyH.cons (o := ⟨_, _, _, _, _, _⟩) rfl (fun K hK => ?_) AllReadyH.nil
        go_simp
        (first | (go_at_call 68; (with_reducible refine (CH.out _ (Below.refl _ _).drew).mono ?_); rintro e w3 ⟨rfl, hb3⟩; have hb3 : Below w2.heap.size w2 w3 := (Below.refl _ w2).drew.trans hb3; have HB3 := Lib.hid hb3; have hS3 := HSS.out w3 hb3))
        go_wp2_with fail
        refine hK.out _ _ (by (try dsimp only); first | assumption | exact HSS.out _ (Below.refl _ _).drew) (fun hHeld => ?_)
        clear hK K
        try simp only [Act.put, List.setIfInBounds_toArray, List.set_cons_zero, List.set_cons_succ]
        refine wpAnyH_take (i := 22) (oi := ⟨_, _, _, _, _, _⟩) (v := ?_) rfl (by kernel_rfl) (by kernel_rfl) (by kernel_rfl) (fun _ _ _ h => h) (Or.inl ⟨by rfl, ?_⟩) (by assumption) ?_
        rotate_left
        · (intro wS hSw; (try dsimp only at hSw); go_simp <;> with_reducible rfl)
        try simp only [Act.put, List.setIfInBounds_toArray, List.set_cons_zero, List.set_cons_succ]
        refine wpAnyH_done (by kernel_rfl) ?_ _
        --END 2
        go_upto_region 3 with fail
        have h3 := H2.out.below HB3.out
        have l3 := letter_touch HL2.out (Touch.ofBelow (F := []) HB3.out) (by simp)
        have hgk : ∀ x ∈ (Value.slice A n c).ownBlock.toList, x < w2.heap.size ∧ x ≠ g ∧ x ∈ fr g V K := by
          intro x hx
          have hx' : K.ownBlock = some x := by rw [HKS.out]; simpa using hx
          exact ⟨(H2.out.k.lt x hx').2, H2.out.gk x hx', mem_fr.2 (.inr (.inr hx'))⟩
        have hWk : ∀ x ∈ (Value.slice A n c).ownBlock.toList, x < W.heap.size := fun x hx => H.out.flt x (hgk x hx).2.2
        have x3 := (HB3.out.cell (p := ⟨W.heap.size, 0, none⟩) (bg_lt HY1.out)).trans x0
        have lt3 : W.heap.size + 1 < w3.heap.size := Nat.lt_of_lt_of_le (bg_lt HY2.out) HB3.out.size
        have HST : Hid (∀ w', Touch (Value.slice A n c).ownBlock.toList w3 w' → Touch (Value.slice A n c).ownBlock.toList w3 w' ∧ w'.cell? ⟨g, 6, none⟩ = some (.slice A n c) ∧ w'.cell? ⟨W.heap.size, 0, none⟩ = some (.int .i64 (q : Nat))) := fun w' ht =>
          ⟨ht, (ht.cell (p := ⟨g, 6, none⟩) h3.glt (fun z => (hgk g z).2.1 rfl)).trans (by rw [← HKS.out]; exact h3.c6), (ht.cell (p := ⟨W.heap.size, 0, none⟩) (show W.heap.size < w3.heap.size by omega) (fun z => by have := hWk _ z; simp at this)).trans x3⟩
        have HFR : Hid (∀ w', Touch (Value.slice A n c).ownBlock.toList w3 w' → w'.frozen? ⟨g, 6, none⟩ = false) := fun w' ht => (ht.frozen (p := ⟨g, 6, none⟩) h3.glt (fun z => (hgk g z).2.1 rfl)).trans (h3.free 6)
        have CO : Hid (∀ w, Touch (Value.slice A n c).ownBlock.toList w3 w → Calls Try.prog 27 #[.agg r.cells] w fun e w' => ∃ r', e = .returned (.agg r'.cells) ∧ Below w.heap.size w w' ∧ Alike w w' r r') := fun w ht =>
          have l := letter_touch l3 ht (fun x hx z => (HBL.out x hx).2 (hgk x z).2.2)
          own_any r w l.1 l.2 HSM.out
        have HX3 := Lib.hid ((HB3.out.block _ (bg_lt HY2.out)).trans HY2.out)
        have HR3 := Lib.hid (lk_below HR2.out HB3.out)
        obtain ⟨i0, hi0, hz0, hs0, hb0⟩ := lk_infoE
        have H3 := Lib.hid h3
        have HGK := Lib.hid hgk
        clear h3 l3 x3 lt3 hgk CH HSS hS3 c5 c6 x0
        --REGION A
        refine wp_region_till (fun w' => Touch (Value.slice A n c).ownBlock.toList w3 w' ∧ w'.cell? ⟨g, 6, none⟩ = some (.slice A n c) ∧ w'.cell? ⟨W.heap.size, 0, none⟩ = some (.int .i64 (q : Nat))) 13 (by kernel_rfl) ?_ (fun hHeld => ?_)
        · (try dsimp only); exact HST.out _ (Touch.refl _ _).drew
        refine wpAnyT_pure (i := 0) (oi := ⟨_, _, _, _, _, _⟩) (v := ?_) rfl (by kernel_rfl) (by kernel_rfl) (by kernel_rfl) (fun _ _ _ h => h) (by kernel_rfl) (Or.inl ⟨by rfl, ?_⟩) (by assumption) ?_
        rotate_left
        · (intro wS hSw; (try dsimp only at hSw); go_simp <;> with_reducible rfl)
        try simp only [Act.put, List.setIfInBounds_toArray, List.set_cons_zero, List.set_cons_succ]
        refine wpAnyT_pure (i := 1) (oi := ⟨_, _, _, _, _, _⟩) (v := ?_) rfl (by kernel_rfl) (by kernel_rfl) (by kernel_rfl) (fun _ _ _ h => h) (by kernel_rfl) (Or.inl ⟨by rfl, ?_⟩) (by assumption) ?_
        rotate_left
        · (intro wS hSw; (try dsimp only at hSw); go_simp <;> with_reducible rfl)
        try simp only [Act.put, List.setIfInBounds_toArray, List.set_cons_zero, List.set_cons_succ]
        refine wpAnyT_pure (i := 2) (oi := ⟨_, _, _, _, _, _⟩) (v := ?_) rfl (by kernel_rfl) (by kernel_rfl) (by kernel_rfl) (fun _ _ _ h => h) (by kernel_rfl) (Or.inl ⟨by rfl, ?_⟩) (by assumption) ?_
        rotate_left
        · (intro wS hSw; (try dsimp only at hSw); go_simp <;> with_reducible rfl)
        try simp only [Act.put, List.setIfInBounds_toArray, List.set_cons_zero, List.set_cons_succ]
        refine wpAnyT_pure (i := 3) (oi := ⟨_, _, _, _, _, _⟩) (v := ?_) rfl (by kernel_rfl) (by kernel_rfl) (by kernel_rfl) (fun _ _ _ h => h) (by kernel_rfl) (Or.inl ⟨by rfl, ?_⟩) (by assumption) ?_
        rotate_left
        · (intro wS hSw; (try dsimp only at hSw); go_simp <;> with_reducible rfl)
        try simp only [Act.put, List.setIfInBounds_toArray, List.set_cons_zero, List.set_cons_succ]
        refine wpAnyT_take (i := 4) (oi := ⟨_, _, _, _, _, _⟩) (v := ?_) rfl (by kernel_rfl) (by kernel_rfl) (by kernel_rfl) (fun _ _ _ h => h) (by kernel_rfl) (Or.inl ⟨by rfl, ?_⟩) (by assumption) ?_
        rotate_left
        · (intro wS hSw; (try dsimp only at hSw); go_simp <;> with_reducible rfl)
        try simp only [Act.put, List.setIfInBounds_toArray, List.set_cons_zero, List.set_cons_succ]
        refine wpAnyT_take (i := 5) (oi := ⟨_, _, _, _, _, _⟩) (v := ?_) rfl (by kernel_rfl) (by kernel_rfl) (by kernel_rfl) (fun _ _ _ h => h) (by kernel_rfl) (Or.inl ⟨by rfl, ?_⟩) (by assumption) ?_
        rotate_left
        · (intro wS hSw; (try dsimp only at hSw); go_simp <;> with_reducible rfl)
        try simp only [Act.put, List.setIfInBounds_toArray, List.set_cons_zero, List.set_cons_succ]
        refine wpAnyT_ready (rs := [6]) (by kernel_rfl) (by simp) ?_
        refine AllReadyT.cons (o := ⟨_, _, _, _, _, _⟩) rfl (fun K hK => ?_) AllReadyT.nil
        refine lk_step_load_row rfl 51 (.tmp 5) rfl (W.heap.size + 1) rfl 51 r.cells (0, 0) _ HX3.out Try.underlying51 rfl lk_infoL ?_
        refine hK.out _ _ (by (try dsimp only); first | assumption | exact HST.out _ (Touch.refl _ _).drew) (fun hHeld => ?_)
        clear hK K
        try simp only [Act.put, List.setIfInBounds_toArray, List.set_cons_zero, List.set_cons_succ]
        refine wpAnyT_ready (rs := [7]) (by kernel_rfl) (by simp) ?_
        refine AllReadyT.cons (o := ⟨_, _, _, _, _, _⟩) rfl (fun K hK => ?_) AllReadyT.nil
        go_simp
        (first | (go_at_call 27; (with_reducible refine (CO.out _ (Touch.refl _ _).drew).mono ?_); rintro e w4 ⟨r1, rfl, hb4, ha4⟩; have ht4 : Touch (Value.slice A n c).ownBlock.toList w3 w4 := (Touch.refl _ w3).drew.trans (Touch.ofBelow (F := []) hb4) (by simp); have HB4 := Lib.hid (show Below w3.heap.size w3 w4 from (Below.refl _ w3).drew.trans hb4); have HA4 := Lib.hid ha4; have hS4 := HST.out w4 ht4; have hS5 := HST.out _ (ht4.alloc (.cells (kE (q, r1)) 110)); have HT4 := Lib.hid ht4; clear ha4 hb4 ht4))
        go_wp2_with fail
        refine hK.out _ _ (by (try dsimp only); first | assumption | exact HST.out _ (Touch.refl _ _).drew) (fun hHeld => ?_)
        clear hK K
        try simp only [Act.put, List.setIfInBounds_toArray, List.set_cons_zero, List.set_cons_succ]
        refine wpAnyT_ready (rs := [8]) (by kernel_rfl) (by simp) ?_
        refine AllReadyT.cons (o := ⟨_, _, _, _, _, _⟩) rfl (fun K hK => ?_) AllReadyT.nil
        go_simp
        refine hK.out _ _ (by (try dsimp only); first | assumption | exact HST.out _ (Touch.refl _ _).drew) (fun hHeld => ?_)
        clear hK K
        try simp only [Act.put, List.setIfInBounds_toArray, List.set_cons_zero, List.set_cons_succ]
        refine wpAnyT_ready (rs := [9]) (by kernel_rfl) (by simp) ?_
        refine AllReadyT.cons (o := ⟨_, _, _, _, _, _⟩) rfl (fun K hK => ?_) AllReadyT.nil
        go_simp
        refine hK.out _ _ (by (try dsimp only); first | assumption | exact HST.out _ (Touch.refl _ _).drew) (fun hHeld => ?_)
        clear hK K
        try simp only [Act.put, List.setIfInBounds_toArray, List.set_cons_zero, List.set_cons_succ]
        refine wpAnyT_ready (rs := [10]) (by kernel_rfl) (by simp) ?_
        refine AllReadyT.cons (o := ⟨_, _, _, _, _, _⟩) rfl (fun K hK => ?_) AllReadyT.nil
        refine step_append_any rfl (.tmp 35) (.tmp 40) 74 rfl 0 110 i0 (.agg lk_zk) 22 248 Try.underlying74 hi0 hz0 hs0 hb0 rfl (by decide) (.slice A n c) n (rowC kE s.kept) rfl ((lk_below HR3.out HB4.out).alloc _) (.slice (some ⟨w4.heap.size, 0, none⟩) 1 1) 1 (rowC kE [(q, r1)]) rfl (.inr ⟨⟨w4.heap.size, 0, none⟩, 1, rfl, rfl, lk_new_row w4 (kE (q, r1)) _⟩) (rowC_all (enc := kE) (l := [(q, r1)]) (fun x hx => by simp at hx; subst hx; exact kE_one HA4.out.at_.sl)) (by unfold maxLen; omega) (by omega) (Nat.zero_le _) ?_
        intro A5 c5 w5 ho5 hg5 hs5
        have ht5 : Touch (Value.slice A n c).ownBlock.toList w3 w5 := (HT4.out.alloc _).grown hg5 (fun q hq => .inl (by simp [hq]))
        have hS6 := HST.out w5 ht5
        have HO5 := Lib.hid ho5
        have HG5 := Lib.hid hg5
        have HN5 := Lib.hid hs5
        have HT5 := Lib.hid ht5
        clear ho5 hg5 hs5 ht5
        refine hK.out _ _ (by (try dsimp only); first | assumption | exact HST.out _ (Touch.refl _ _).drew) (fun hHeld => ?_)
        clear hK K
        try simp only [Act.put, List.setIfInBounds_toArray, List.set_cons_zero, List.set_cons_succ]
        refine wpAnyT_pure (i := 11) (oi := ⟨_, _, _, _, _, _⟩) (v := ?_) rfl (by kernel_rfl) (by kernel_rfl) (by kernel_rfl) (fun _ _ _ h => h) (by kernel_rfl) (Or.inl ⟨by rfl, ?_⟩) (by assumption) ?_
        rotate_left
        · (intro wS hSw; (try dsimp only at hSw); go_simp <;> with_reducible rfl)
        try simp only [Act.put, List.setIfInBounds_toArray, List.set_cons_zero, List.set_cons_succ]
        refine wpAnyT_pure (i := 12) (oi := ⟨_, _, _, _, _, _⟩) (v := ?_) rfl (by kernel_rfl) (by kernel_rfl) (by kernel_rfl) (fun _ _ _ h => h) (by kernel_rfl) (Or.inl ⟨by rfl, ?_⟩) (by assumption) ?_
        rotate_left
        · (intro wS hSw; (try dsimp only at hSw); go_simp <;> with_reducible rfl)
        try simp only [Act.put, List.setIfInBounds_toArray, List.set_cons_zero, List.set_cons_succ]
        refine wpAnyT_ready (rs := [13]) (by kernel_rfl) (by simp) ?_
        refine AllReadyT.past (o := ⟨_, _, _, _, _, _⟩) rfl (by kernel_rfl) (fun K hK => ?_) AllReadyT.nil
        have f4 : w5.frozen? ⟨g, 6, none⟩ = false := HFR.out w5 HT5.out
        go_simp
        refine hK.out _ _ ?_
        clear hK K
        try simp only [Act.put, List.setIfInBounds_toArray, List.set_cons_zero, List.set_cons_succ]
        refine wpAnyT_done (by kernel_rfl) ?_ _
        --END A
        go_wp2_with fail
        go_end0
        have r1lt : ∀ x ∈ r1.blocks, w3.heap.size ≤ x ∧ x < w4.heap.size := fun x hx => HA4.out.new x hx
        have sz5 : w4.heap.size + 1 ≤ w5.heap.size := by have := HG5.out.size; simpa using this
        have t45 : Touch (Value.slice A n c).ownBlock.toList w4 w5 := ((Touch.refl _ w4).alloc _).grown HG5.out (fun x hx => .inl (by simp [hx]))
        have r1at : r1.At w5 r1.blocks := HA4.out.at_.touch t45 (fun x hx z => by have := (HGK.out x z).1; have := (r1lt x hx).1; have := HB3.out.size; omega)
        have hKs := HKS.out
        subst hKs
        refine ⟨rfl, r1, HA4.out.p, ?_, V, .slice A5 (n + 1) c5, L ++ r1.blocks, lnx_setK (M := L ++ r1.blocks) (ks := s.kept ++ [(q, r1)]) H3.out HT5.out (by rw [List.length_append, HNN.out]) (by rw [rowC_append]; exact HO5.out) (fun x hx => ?_) (fun x hx => by simp [hx]) (fun x hx => ?_) (fun x hx z => ?_) (fun x hx => ?_), fun x hx => ?_, fun x hx => ?_, by simp⟩
        · exact ((Touch.ofBelow (F := fr g V (.slice A n c)) (acc HB2.out HB3.out)).trans HT5.out (fun x hx => .inl (HGK.out x hx).2.2)).set (.inl (by simp [fr])) _
        · rcases HN5.out x hx with z | z
          · exact .inl z
          · have := HB4.out.size; simp at z; exact .inr (by omega)
        · rcases List.mem_append.1 hx with z | z
          · exact .inl z
          · have := r1lt x z; exact .inr ⟨this.1, by omega⟩
        · rcases HN5.out x z with y | y
          · rcases List.mem_append.1 hx with u | u
            · exact (H3.out.lf x u).2.2 y
            · have := (r1lt x u).1; have := (H3.out.k.lt x y).2; omega
          · simp at y
            rcases List.mem_append.1 hx with u | u
            · have := H3.out.lt x u; have := HB4.out.size; omega
            · have := (r1lt x u).2; omega
        · rcases List.mem_append.1 hx with z | z
          · exact ((H3.out.lk x z).touch HT5.out (fun y hy u => (H3.out.lf y hy).2.2 (by simpa using u))).mono (fun y hy => by simp [hy])
          · simp at z; subst z; exact r1at.mono (fun y hy => by simp [hy])
        · rcases mem_fr.1 hx with rfl | z | z
          · exact .inl (by simp [fr])
          · exact .inl (mem_fr.2 (.inr (.inl z)))
          · rcases HN5.out x z with y | y
            · exact .inl (mem_fr.2 (.inr (.inr y)))
            · have := HB4.out.size; have := HB3.out.size; have := HB2.out.size; simp at y; exact .inr (by omega)
        · rcases List.mem_append.1 hx with z | z
          · exact .inl z
          · have := (r1lt x z).1; have := HB3.out.size; have := HB2.out.size; exact .inr (by omega)
      · have hk : s.keeps q = false := by rw [HK.out]; simp
        rw [hk]
        go_enter Try.func32, Try.ntmps32
        go_upto_region 2 with fail
        clear hw2
        --REGION 2
        refine wp_region_held_drew (S := (fun w' => Below w2.heap.size w2 w' ∧ w'.cell? ⟨g, 5, none⟩ = some (.int .i64 (m : Nat)) ∧ w'.cell? ⟨g, 6, none⟩ = some (.slice A n c) ∧ w'.cell? ⟨W.heap.size, 0, none⟩ = some (.int .i64 (q : Nat)))) (by kernel_rfl) ?_ (fun hHeld => ?_)
        · (try dsimp only); exact HSS.out _ (Below.refl _ _).drew
        refine wpAnyH_take (i := 0) (oi := ⟨_, _, _, _, _, _⟩) (v := ?_) rfl (by kernel_rfl) (by kernel_rfl) (by kernel_rfl) (fun _ _ _ h => h) (Or.inl ⟨by rfl, ?_⟩) (by assumption) ?_
        rotate_left
        · (intro wS hSw; (try dsimp only at hSw); go_simp <;> with_reducible rfl)
        try simp only [Act.put, List.setIfInBounds_toArray, List.set_cons_zero, List.set_cons_succ]
        refine wpAnyH_take (i := 1) (oi := ⟨_, _, _, _, _, _⟩) (v := ?_) rfl (by kernel_rfl) (by kernel_rfl) (by kernel_rfl) (fun _ _ _ h => h) (Or.inl ⟨by rfl, ?_⟩) (by assumption) ?_
        rotate_left
        · (intro wS hSw; (try dsimp only at hSw); go_simp <;> with_reducible rfl)
        try simp only [Act.put, List.setIfInBounds_toArray, List.set_cons_zero, List.set_cons_succ]
        refine wpAnyH_take (i := 2) (oi := ⟨_, _, _, _, _, _⟩) (v := ?_) rfl (by kernel_rfl) (by kernel_rfl) (by kernel_rfl) (fun _ _ _ h => h) (Or.inl ⟨by rfl, ?_⟩) (by assumption) ?_
        rotate_left
        · (intro wS hSw; (try dsimp only at hSw); go_simp <;> with_reducible rfl)
        try simp only [Act.put, List.setIfInBounds_toArray, List.set_cons_zero, List.set_cons_succ]
        refine wpAnyH_take (i := 3) (oi := ⟨_, _, _, _, _, _⟩) (v := ?_) rfl (by kernel_rfl) (by kernel_rfl) (by kernel_rfl) (fun _ _ _ h => h) (Or.inl ⟨by rfl, ?_⟩) (by assumption) ?_
        rotate_left
        · (intro wS hSw; (try dsimp only at hSw); go_simp <;> with_reducible rfl)
        try simp only [Act.put, List.setIfInBounds_toArray, List.set_cons_zero, List.set_cons_succ]
        refine wpAnyH_take (i := 4) (oi := ⟨_, _, _, _, _, _⟩) (v := ?_) rfl (by kernel_rfl) (by kernel_rfl) (by kernel_rfl) (fun _ _ _ h => h) (Or.inl ⟨by rfl, ?_⟩) (by assumption) ?_
        rotate_left
        · (intro wS hSw; (try dsimp only at hSw); go_simp <;> with_reducible rfl)
        try simp only [Act.put, List.setIfInBounds_toArray, List.set_cons_zero, List.set_cons_succ]
        refine wpAnyH_take (i := 5) (oi := ⟨_, _, _, _, _, _⟩) (v := ?_) rfl (by kernel_rfl) (by kernel_rfl) (by kernel_rfl) (fun _ _ _ h => h) (Or.inl ⟨by rfl, ?_⟩) (by assumption) ?_
        rotate_left
        · (intro wS hSw; (try dsimp only at hSw); go_simp <;> with_reducible rfl)
        try simp only [Act.put, List.setIfInBounds_toArray, List.set_cons_zero, List.set_cons_succ]
        refine wpAnyH_take (i := 6) (oi := ⟨_, _, _, _, _, _⟩) (v := ?_) rfl (by kernel_rfl) (by kernel_rfl) (by kernel_rfl) (fun _ _ _ h => h) (Or.inl ⟨by rfl, ?_⟩) (by assumption) ?_
        rotate_left
        · (intro wS hSw; (try dsimp only at hSw); go_simp <;> with_reducible rfl)
        try simp only [Act.put, List.setIfInBounds_toArray, List.set_cons_zero, List.set_cons_succ]
        refine wpAnyH_take (i := 7) (oi := ⟨_, _, _, _, _, _⟩) (v := ?_) rfl (by kernel_rfl) (by kernel_rfl) (by kernel_rfl) (fun _ _ _ h => h) (Or.inl ⟨by rfl, ?_⟩) (by assumption) ?_
        rotate_left
        · (intro wS hSw; (try dsimp only at hSw); go_simp <;> with_reducible rfl)
        try simp only [Act.put, List.setIfInBounds_toArray, List.set_cons_zero, List.set_cons_succ]
        refine wpAnyH_take (i := 8) (oi := ⟨_, _, _, _, _, _⟩) (v := ?_) rfl (by kernel_rfl) (by kernel_rfl) (by kernel_rfl) (fun _ _ _ h => h) (Or.inl ⟨by rfl, ?_⟩) (by assumption) ?_
        rotate_left
        · (intro wS hSw; (try dsimp only at hSw); go_simp <;> with_reducible rfl)
        try simp only [Act.put, List.setIfInBounds_toArray, List.set_cons_zero, List.set_cons_succ]
        refine wpAnyH_take (i := 9) (oi := ⟨_, _, _, _, _, _⟩) (v := ?_) rfl (by kernel_rfl) (by kernel_rfl) (by kernel_rfl) (fun _ _ _ h => h) (Or.inl ⟨by rfl, ?_⟩) (by assumption) ?_
        rotate_left
        · (intro wS hSw; (try dsimp only at hSw); go_simp <;> with_reducible rfl)
        try simp only [Act.put, List.setIfInBounds_toArray, List.set_cons_zero, List.set_cons_succ]
        refine wpAnyH_take (i := 10) (oi := ⟨_, _, _, _, _, _⟩) (v := ?_) rfl (by kernel_rfl) (by kernel_rfl) (by kernel_rfl) (fun _ _ _ h => h) (Or.inl ⟨by rfl, ?_⟩) (by assumption) ?_
        rotate_left
        · (intro wS hSw; (try dsimp only at hSw); go_simp <;> with_reducible rfl)
        try simp only [Act.put, List.setIfInBounds_toArray, List.set_cons_zero, List.set_cons_succ]
        refine wpAnyH_take (i := 11) (oi := ⟨_, _, _, _, _, _⟩) (v := ?_) rfl (by kernel_rfl) (by kernel_rfl) (by kernel_rfl) (fun _ _ _ h => h) (Or.inl ⟨by rfl, ?_⟩) (by assumption) ?_
        rotate_left
        · (intro wS hSw; (try dsimp only at hSw); go_simp <;> with_reducible rfl)
        try simp only [Act.put, List.setIfInBounds_toArray, List.set_cons_zero, List.set_cons_succ]
        refine wpAnyH_take (i := 12) (oi := ⟨_, _, _, _, _, _⟩) (v := ?_) rfl (by kernel_rfl) (by kernel_rfl) (by kernel_rfl) (fun _ _ _ h => h) (Or.inl ⟨by rfl, ?_⟩) (by assumption) ?_
        rotate_left
        · (intro wS hSw; (try dsimp only at hSw); go_simp <;> with_reducible rfl)
        try simp only [Act.put, List.setIfInBounds_toArray, List.set_cons_zero, List.set_cons_succ]
        refine wpAnyH_take (i := 13) (oi := ⟨_, _, _, _, _, _⟩) (v := ?_) rfl (by kernel_rfl) (by kernel_rfl) (by kernel_rfl) (fun _ _ _ h => h) (Or.inl ⟨by rfl, ?_⟩) (by assumption) ?_
        rotate_left
        · (intro wS hSw; (try dsimp only at hSw); go_simp <;> with_reducible rfl)
        try simp only [Act.put, List.setIfInBounds_toArray, List.set_cons_zero, List.set_cons_succ]
        refine wpAnyH_take (i := 14) (oi := ⟨_, _, _, _, _, _⟩) (v := ?_) rfl (by kernel_rfl) (by kernel_rfl) (by kernel_rfl) (fun _ _ _ h => h) (Or.inl ⟨by rfl, ?_⟩) (by assumption) ?_
        rotate_left
        · (intro wS hSw; (try dsimp only at hSw); go_simp <;> with_reducible rfl)
        try simp only [Act.put, List.setIfInBounds_toArray, List.set_cons_zero, List.set_cons_succ]
        refine wpAnyH_take (i := 15) (oi := ⟨_, _, _, _, _, _⟩) (v := ?_) rfl (by kernel_rfl) (by kernel_rfl) (by kernel_rfl) (fun _ _ _ h => h) (Or.inl ⟨by rfl, ?_⟩) (by assumption) ?_
        rotate_left
        · (intro wS hSw; (try dsimp only at hSw); go_simp <;> with_reducible rfl)
        try simp only [Act.put, List.setIfInBounds_toArray, List.set_cons_zero, List.set_cons_succ]
        refine wpAnyH_take (i := 16) (oi := ⟨_, _, _, _, _, _⟩) (v := ?_) rfl (by kernel_rfl) (by kernel_rfl) (by kernel_rfl) (fun _ _ _ h => h) (Or.inl ⟨by rfl, ?_⟩) (by assumption) ?_
        rotate_left
        · (intro wS hSw; (try dsimp only at hSw); go_simp <;> with_reducible rfl)
        try simp only [Act.put, List.setIfInBounds_toArray, List.set_cons_zero, List.set_cons_succ]
        refine wpAnyH_take (i := 17) (oi := ⟨_, _, _, _, _, _⟩) (v := ?_) rfl (by kernel_rfl) (by kernel_rfl) (by kernel_rfl) (fun _ _ _ h => h) (Or.inl ⟨by rfl, ?_⟩) (by assumption) ?_
        rotate_left
        · (intro wS hSw; (try dsimp only at hSw); go_simp <;> with_reducible rfl)
        try simp only [Act.put, List.setIfInBounds_toArray, List.set_cons_zero, List.set_cons_succ]
        refine wpAnyH_take (i := 18) (oi := ⟨_, _, _, _, _, _⟩) (v := ?_) rfl (by kernel_rfl) (by kernel_rfl) (by kernel_rfl) (fun _ _ _ h => h) (Or.inl ⟨by rfl, ?_⟩) (by assumption) ?_
        rotate_left
        · (intro wS hSw; (try dsimp only at hSw); go_simp <;> with_reducible rfl)
        try simp only [Act.put, List.setIfInBounds_toArray, List.set_cons_zero, List.set_cons_succ]
        refine wpAnyH_take (i := 19) (oi := ⟨_, _, _, _, _, _⟩) (v := ?_) rfl (by kernel_rfl) (by kernel_rfl) (by kernel_rfl) (fun _ _ _ h => h) (Or.inl ⟨by rfl, ?_⟩) (by assumption) ?_
        rotate_left
        · (intro wS hSw; (try dsimp only at hSw); go_simp <;> with_reducible rfl)
        try simp only [Act.put, List.setIfInBounds_toArray, List.set_cons_zero, List.set_cons_succ]
        refine wpAnyH_take (i := 20) (oi := ⟨_, _, _, _, _, _⟩) (v := ?_) rfl (by kernel_rfl) (by kernel_rfl) (by kernel_rfl) (fun _ _ _ h => h) (Or.inl ⟨by rfl, ?_⟩) (by assumption) ?_
        rotate_left
        · (intro wS hSw; (try dsimp only at hSw); go_simp <;> with_reducible rfl)
        try simp only [Act.put, List.setIfInBounds_toArray, List.set_cons_zero, List.set_cons_succ]
        refine wpAnyH_ready (rs := [21]) (by kernel_rfl) (by simp) ?_
        refine AllReadyH.cons (o := ⟨_, _, _, _, _, _⟩) rfl (fun K hK => ?_) AllReadyH.nil
        go_simp
        (first | (go_at_call 68; (with_reducible refine (CH.out _ (Below.refl _ _).drew).mono ?_); rintro e w3 ⟨rfl, hb3⟩; have hb3 : Below w2.heap.size w2 w3 := (Below.refl _ w2).drew.trans hb3; have HB3 := Lib.hid hb3; have hS3 := HSS.out w3 hb3))
        go_wp2_with fail
        refine hK.out _ _ (by (try dsimp only); first | assumption | exact HSS.out _ (Below.refl _ _).drew) (fun hHeld => ?_)
        clear hK K
        try simp only [Act.put, List.setIfInBounds_toArray, List.set_cons_zero, List.set_cons_succ]
        refine wpAnyH_take (i := 22) (oi := ⟨_, _, _, _, _, _⟩) (v := ?_) rfl (by kernel_rfl) (by kernel_rfl) (by kernel_rfl) (fun _ _ _ h => h) (Or.inl ⟨by rfl, ?_⟩) (by assumption) ?_
        rotate_left
        · (intro wS hSw; (try dsimp only at hSw); go_simp <;> with_reducible rfl)
        try simp only [Act.put, List.setIfInBounds_toArray, List.set_cons_zero, List.set_cons_succ]
        refine wpAnyH_done (by kernel_rfl) ?_ _
        --END 2
        go_wp2
        refine bodyPost_ret (v := .tuple #[]) (by simp [results, Try.results32, go_sem]) rfl ?_
        exact ⟨rfl, r, ⟨rfl, id, id⟩, lstep_same H.out (acc HB2.out HB3.out)⟩
end Go.Proofs.Ytfemdfidfomchaa
