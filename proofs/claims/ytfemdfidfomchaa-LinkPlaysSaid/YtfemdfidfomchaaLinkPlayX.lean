/-
  Got of a letter of which nothing is known but where its items lie: a list of nothing may point anywhere. (Written by tools/genLKLive.py.)
  The code's link, the document's link, the book of letters, side by side in memory: what each call makes of them.
  An argument that is a list of what is done at a link's end, opened; its letters' lists are no longer than memory is wide.
  LinkPlays: its beginning in memory; what holds of both links between two steps.
-/
import Derived.Test.YtfemdfidfomchaaLinkGot
import Derived.Test.YtfemdfidfomchaaLinkKeep
import Derived.Test.YtfemdfidfomchaaLinkRefG
import Derived.Test.YtfemdfidfomchaaLinkRefX
import Derived.Test.YtfemdfidfomchaaLbAll
import Derived.Test.YtfemdfidfomchaaLinkBegin
import Derived.Test.YtfemdfidfomchaaLinkPlain
import Derived.Test.YtfemdfidfomchaaLetHold
import Derived.Test.YtfemdfidfomchaaLinkAlikeX
import Derived.Test.YtfemdfidfomchaaLinkOwn
namespace Go.Proofs.Ytfemdfidfomchaa.Lv
open Go.RowKit Go.Proofs.Ytfemdfidfomchaa

/-- the blocks of its lists that have something -/
def live (r : LR) : List Nat := (if r.l.ti = [] then [] else r.a.ownBlock.toList) ++ (if r.l.li = [] then [] else r.b.ownBlock.toList)
theorem slAt_touch0 {W W1 : World} {S : Value} {zs : List Item} {G : List Nat} (h : SlAt W S zs) (t : Touch G W W1) (hn : zs ≠ [] → ∀ q, S.ownBlock = some q → q ∉ G) : SlAt W1 S zs := by
  by_cases hz : zs = []
  · subst hz
    obtain ⟨A, c, rfl, h2, h3, _⟩ := h
    exact ⟨A, c, rfl, h2, h3, 0, 0, fun i hi => by simp at hi⟩
  · exact slAt_touch h t (hn hz)
theorem letter_touchL {W W1 : World} {r : LR} {G : List Nat} (h : SlAt W r.a r.l.ti ∧ SlAt W r.b r.l.li) (t : Touch G W W1) (hn : ∀ q ∈ live r, q ∉ G) : SlAt W1 r.a r.l.ti ∧ SlAt W1 r.b r.l.li :=
  ⟨slAt_touch0 h.1 t fun hz q hq => hn q (by simp [live, hz, hq]), slAt_touch0 h.2 t fun hz q hq => hn q (by simp [live, hz, hq])⟩
theorem slAt_lt {W : World} {S : Value} {zs : List Item} (h : SlAt W S zs) (hz : zs ≠ []) : ∀ q, S.ownBlock = some q → q < W.heap.size := by
  obtain ⟨A, c, rfl, h2, h3, b, off, h⟩ := h
  obtain ⟨e, h4, _⟩ := h 0 (by cases zs with | nil => exact absurd rfl hz | cons => simp)
  intro q hq
  subst e
  injection hq with hq
  subst hq
  exact h4
theorem live_lt {W : World} {r : LR} (h1 : SlAt W r.a r.l.ti) (h2 : SlAt W r.b r.l.li) : ∀ q ∈ live r, q < W.heap.size := by
  intro q hq
  rcases List.mem_append.1 hq with z | z
  · split at z
    · simp at z
    · rename_i hz; exact slAt_lt h1 hz q (by simpa using z)
  · split at z
    · simp at z
    · rename_i hz; exact slAt_lt h2 hz q (by simpa using z)
structure OutL (W : World) (F : List Nat) (r : LR) : Prop where
  l : SlAt W r.a r.l.ti ∧ SlAt W r.b r.l.li
  b : ∀ q ∈ live r, q < W.heap.size ∧ q ∉ F
  s : r.Sm
theorem OutL.res {W w : World} {g : Nat} {F L : List Nat} {s : LS} {V K : Value} {L' : List Nat} {r : LR} (h : OutL W F r) (k : LRes W w g F L s V K L') : OutL w (fr g V K) r :=
  ⟨letter_touchL h.l k.t fun q hq => (h.b q hq).2, fun q hq => ⟨Nat.lt_of_lt_of_le (h.b q hq).1 k.t.size, fun z => by
    rcases k.f q z with y | y
    · exact (h.b q hq).2 y
    · have := (h.b q hq).1; omega⟩, h.s⟩
set_option maxRecDepth 20000 in
set_option maxHeartbeats 8000000 in
theorem keep_any {W : World} {g : Nat} {s : LS} {V K : Value} {L : List Nat} (h : LNX W g s V K L) (hok : s.Ok) (q : Nat) (hq : q ≤ 9223372036854775807) (r : LR) (hl : SlAt W r.a r.l.ti ∧ SlAt W r.b r.l.li) (hbl : ∀ q ∈ live r, q < W.heap.size ∧ q ∉ fr g V K) (hs : r.Sm) :
    Calls Try.prog 32 #[.pointer (some ⟨g, 0, none⟩), .int .i64 (q : Nat), .agg r.cells] W (KeepPost W g V K L s q r (s.keeps q)) := by
  have B2 : Below W.heap.size W ((W.alloc (.cells #[.int .i64 (q : Nat)] 3)).alloc (.cells r.cells 51)) := ((Below.refl _ _).alloc (Nat.le_refl _) _).alloc (by simp) _
  have b1 : ((W.alloc (.cells #[.int .i64 (q : Nat)] 3)).alloc (.cells r.cells 51)).heap[W.heap.size]? = some (.cells #[.int .i64 (q : Nat)] 3) := (Lib.alloc_old _ _ _ (by simp)).trans (heap_alloc_new W _)
  have b2 : ((W.alloc (.cells #[.int .i64 (q : Nat)] 3)).alloc (.cells r.cells 51)).heap[W.heap.size + 1]? = some (.cells r.cells 51) := by
    have := heap_alloc_new (W.alloc (.cells #[.int .i64 (q : Nat)] 3)) (.cells r.cells 51)
    simpa using this
  have h2 := h.below B2
  have l2 := letter_touch hl (Touch.ofBelow (F := []) B2) (by simp)
  obtain ⟨w2, hw2⟩ : ∃ w2, (W.alloc (.cells #[.int .i64 (q : Nat)] 3)).alloc (.cells r.cells 51) = w2 := ⟨_, rfl⟩
  rw [hw2] at B2 b1 b2 h2 l2
  have x0 : w2.cell? ⟨W.heap.size, 0, none⟩ = some (.int .i64 (q : Nat)) := bg_cell b1 rfl
  obtain ⟨m, hm⟩ : ∃ m : Nat, s.came = m := ⟨_, rfl⟩
  obtain ⟨A, c, hKs⟩ := own_slice h.k
  obtain ⟨n, hn⟩ : ∃ n, s.kept.length = n := ⟨_, rfl⟩
  have c5 := h2.c5
  have c6 := h2.c6
  rw [hm] at c5
  rw [hKs, hn] at c6
  have hm1 : m ≤ 1000000 := by have := hok.came; omega
  have hn1 : n ≤ 90000 := by have := hok.kept; omega
  have HK := Lib.hid (show s.keeps q = (decide (m < q) && (decide (q ≤ m + 64) && !hasSeq s.kept q)) by unfold LS.keeps; rw [hm])
  have hr2 := h2.k
  rw [hKs, hn] at hr2
  have hKs' : K = .slice A n c := by rw [hKs, hn]
  have H2 := Lib.hid h2
  have H := Lib.hid h
  have HR2 := Lib.hid hr2
  have HY1 := Lib.hid b1
  have HY2 := Lib.hid b2
  have HB2 := Lib.hid B2
  have HL2 := Lib.hid l2
  have HBL := Lib.hid hbl
  have HSM := Lib.hid hs
  have HKS := Lib.hid hKs'
  have HNN := Lib.hid hn
  clear h h2 hr2 b1 b2 B2 l2 hl hbl hs hKs hKs' hok hm hn
  by_cases t1 : q ≤ m
  · have d1 : decide ((q : Int) ≤ (m : Int)) = true := by simp; omega
    have hk : s.keeps q = false := by rw [HK.out, decide_eq_false (by omega)]; rfl
    rw [hk]
    go_enter Try.func32, Try.ntmps32
    go_upto_region 2 with fail
    clear hw2
    go_quiet (fail)
    go_wp2
    refine bodyPost_ret (v := .tuple #[]) (by simp [results, Try.results32, go_sem]) rfl ?_
    exact ⟨rfl, r, ⟨rfl, id, id⟩, lstep_same H.out (below_drewN HB2.out _)⟩
  · have d1 : decide ((q : Int) ≤ (m : Int)) = false := by simp; omega
    have hz : IntKind.i64.wrap ((q : Int) - (m : Int)) = (q : Int) - (m : Int) := by rw [IntKind.wrap_i64]; omega
    by_cases t2 : m + 64 < q
    · have d2 : decide ((64 : Int) < (q : Int) - (m : Int)) = true := by simp; omega
      have hk : s.keeps q = false := by rw [HK.out, decide_eq_false (show ¬ q ≤ m + 64 by omega), Bool.false_and, Bool.and_false]
      rw [hk]
      go_enter Try.func32, Try.ntmps32
      go_upto_region 2 with fail
      clear hw2
      go_quiet (fail)
      go_wp2
      refine bodyPost_ret (v := .tuple #[]) (by simp [results, Try.results32, go_sem]) rfl ?_
      exact ⟨rfl, r, ⟨rfl, id, id⟩, lstep_same H.out (below_drewN HB2.out _)⟩
    · have d2 : decide ((64 : Int) < (q : Int) - (m : Int)) = false := by simp; omega
      have HSS : Hid (∀ w', Below w2.heap.size w2 w' → Below w2.heap.size w2 w' ∧ w'.cell? ⟨g, 5, none⟩ = some (.int .i64 (m : Nat)) ∧ w'.cell? ⟨g, 6, none⟩ = some (.slice A n c) ∧ w'.cell? ⟨W.heap.size, 0, none⟩ = some (.int .i64 (q : Nat))) := fun w' hb =>
        ⟨hb, (hb.cell (p := ⟨g, 5, none⟩) H2.out.glt).trans c5, (hb.cell (p := ⟨g, 6, none⟩) H2.out.glt).trans c6, (hb.cell (p := ⟨W.heap.size, 0, none⟩) (bg_lt HY1.out)).trans x0⟩
      have CH0 : ∀ w, Below w2.heap.size w2 w → Calls Try.prog 68 #[.slice A n c, .func (.func 67) #[] #[.pointer (some ⟨W.heap.size, 0, none⟩)]] w fun e w' => e = .returned (.bool (hasSeq s.kept q)) ∧ Below w.heap.size w w' := fun w hb =>
        hasEarly_any s.kept q W.heap.size A c n w HNN.out (by omega) (lk_below HR2.out hb) ((hb.cell (p := ⟨W.heap.size, 0, none⟩) (bg_lt HY1.out)).trans x0)
      obtain ⟨b, hb⟩ : ∃ b, hasSeq s.kept q = b := ⟨_, rfl⟩
      rw [hb] at CH0 HK
      have CH := Lib.hid CH0
      clear CH0 hb
      cases b
      · have hk : s.keeps q = true := by rw [HK.out, decide_eq_true (show m < q by omega), decide_eq_true (show q ≤ m + 64 by omega)]; rfl
        rw [hk]
        go_enter Try.func32, Try.ntmps32
        go_upto_region 2 with fail
        clear hw2
        --REGION 2
        refine wp_region_held_drew (S := (fun w' => Below w2.heap.size w2 w' ∧ w'.cell? ⟨g, 5, none⟩ = some (.int .i64 (m : Nat)) ∧ w'.cell? ⟨g, 6, none⟩ = some (.slice A n c) ∧ w'.cell? ⟨W.heap.size, 0, none⟩ = some (.int .i64 (q : Nat)))) (by kernel_rfl) ?_ (fun hHeld => ?_)
        · (try dsimp only); exact HSS.out _ (Below.refl _ _).drew
        refine wpAnyH_take (i := 0) (oi := ⟨_, _, _, _, _, _⟩) (v := ?_) rfl (by kernel_rfl) (by kernel_rfl) (by kernel_rfl) (fun _ _ _ h => h) (Or.inl ⟨by rfl, ?_⟩) (by assumption) ?_
        rotate_left
        · (intro wS hSw; (try dsimp only at hSw); go_simp <;> with_reducible rfl)
        try simp only [Act.put, List.setIfInBounds_toArray, List.set_cons_zero, List.set_cons_succ]
        refine wpAnyH_take (i := 1) (oi := ⟨_, _, _, _, _, _⟩) (v := ?_) rfl (by kernel_rfl) (by kernel_rfl) (by kernel_rfl) (fun _ _ _ h => h) (Or.inl ⟨by rfl, ?_⟩) (by assumption) ?_
        rotate_left
        · (intro wS hSw; (try dsimp only at hSw); go_simp <;> with_reducible rfl)
        try simp only [Act.put, List.setIfInBounds_toArray, List.set_cons_zero, List.set_cons_succ]
        refine wpAnyH_take (i := 2) (oi := ⟨_, _, _, _, _, _⟩) (v := ?_) rfl (by kernel_rfl) (by kernel_rfl) (by kernel_rfl) (fun _ _ _ h => h) (Or.inl ⟨by rfl, ?_⟩) (by assumption) ?_
        rotate_left
        · (intro wS hSw; (try dsimp only at hSw); go_simp <;> with_reducible rfl)
        try simp only [Act.put, List.setIfInBounds_toArray, List.set_cons_zero, List.set_cons_succ]
        refine wpAnyH_take (i := 3) (oi := ⟨_, _, _, _, _, _⟩) (v := ?_) rfl (by kernel_rfl) (by kernel_rfl) (by kernel_rfl) (fun _ _ _ h => h) (Or.inl ⟨by rfl, ?_⟩) (by assumption) ?_
        rotate_left
        · (intro wS hSw; (try dsimp only at hSw); go_simp <;> with_reducible rfl)
        try simp only [Act.put, List.setIfInBounds_toArray, List.set_cons_zero, List.set_cons_succ]
        refine wpAnyH_take (i := 4) (oi := ⟨_, _, _, _, _, _⟩) (v := ?_) rfl (by kernel_rfl) (by kernel_rfl) (by kernel_rfl) (fun _ _ _ h => h) (Or.inl ⟨by rfl, ?_⟩) (by assumption) ?_
        rotate_left
        · (intro wS hSw; (try dsimp only at hSw); go_simp <;> with_reducible rfl)
        try simp only [Act.put, List.setIfInBounds_toArray, List.set_cons_zero, List.set_cons_succ]
        refine wpAnyH_take (i := 5) (oi := ⟨_, _, _, _, _, _⟩) (v := ?_) rfl (by kernel_rfl) (by kernel_rfl) (by kernel_rfl) (fun _ _ _ h => h) (Or.inl ⟨by rfl, ?_⟩) (by assumption) ?_
        rotate_left
        · (intro wS hSw; (try dsimp only at hSw); go_simp <;> with_reducible rfl)
        try simp only [Act.put, List.setIfInBounds_toArray, List.set_cons_zero, List.set_cons_succ]
        refine wpAnyH_take (i := 6) (oi := ⟨_, _, _, _, _, _⟩) (v := ?_) rfl (by kernel_rfl) (by kernel_rfl) (by kernel_rfl) (fun _ _ _ h => h) (Or.inl ⟨by rfl, ?_⟩) (by assumption) ?_
        rotate_left
        · (intro wS hSw; (try dsimp only at hSw); go_simp <;> with_reducible rfl)
        try simp only [Act.put, List.setIfInBounds_toArray, List.set_cons_zero, List.set_cons_succ]
        refine wpAnyH_take (i := 7) (oi := ⟨_, _, _, _, _, _⟩) (v := ?_) rfl (by kernel_rfl) (by kernel_rfl) (by kernel_rfl) (fun _ _ _ h => h) (Or.inl ⟨by rfl, ?_⟩) (by assumption) ?_
        rotate_left
        · (intro wS hSw; (try dsimp only at hSw); go_simp <;> with_reducible rfl)
        try simp only [Act.put, List.setIfInBounds_toArray, List.set_cons_zero, List.set_cons_succ]
        refine wpAnyH_take (i := 8) (oi := ⟨_, _, _, _, _, _⟩) (v := ?_) rfl (by kernel_rfl) (by kernel_rfl) (by kernel_rfl) (fun _ _ _ h => h) (Or.inl ⟨by rfl, ?_⟩) (by assumption) ?_
        rotate_left
        · (intro wS hSw; (try dsimp only at hSw); go_simp <;> with_reducible rfl)
        try simp only [Act.put, List.setIfInBounds_toArray, List.set_cons_zero, List.set_cons_succ]
        refine wpAnyH_take (i := 9) (oi := ⟨_, _, _, _, _, _⟩) (v := ?_) rfl (by kernel_rfl) (by kernel_rfl) (by kernel_rfl) (fun _ _ _ h => h) (Or.inl ⟨by rfl, ?_⟩) (by assumption) ?_
        rotate_left
        · (intro wS hSw; (try dsimp only at hSw); go_simp <;> with_reducible rfl)
        try simp only [Act.put, List.setIfInBounds_toArray, List.set_cons_zero, List.set_cons_succ]
        refine wpAnyH_take (i := 10) (oi := ⟨_, _, _, _, _, _⟩) (v := ?_) rfl (by kernel_rfl) (by kernel_rfl) (by kernel_rfl) (fun _ _ _ h => h) (Or.inl ⟨by rfl, ?_⟩) (by assumption) ?_
        rotate_left
        · (intro wS hSw; (try dsimp only at hSw); go_simp <;> with_reducible rfl)
        try simp only [Act.put, List.setIfInBounds_toArray, List.set_cons_zero, List.set_cons_succ]
        refine wpAnyH_take (i := 11) (oi := ⟨_, _, _, _, _, _⟩) (v := ?_) rfl (by kernel_rfl) (by kernel_rfl) (by kernel_rfl) (fun _ _ _ h => h) (Or.inl ⟨by rfl, ?_⟩) (by assumption) ?_
        rotate_left
        · (intro wS hSw; (try dsimp only at hSw); go_simp <;> with_reducible rfl)
        try simp only [Act.put, List.setIfInBounds_toArray, List.set_cons_zero, List.set_cons_succ]
        refine wpAnyH_take (i := 12) (oi := ⟨_, _, _, _, _, _⟩) (v := ?_) rfl (by kernel_rfl) (by kernel_rfl) (by kernel_rfl) (fun _ _ _ h => h) (Or.inl ⟨by rfl, ?_⟩) (by assumption) ?_
        rotate_left
        · (intro wS hSw; (try dsimp only at hSw); go_simp <;> with_reducible rfl)
        try simp only [Act.put, List.setIfInBounds_toArray, List.set_cons_zero, List.set_cons_succ]
        refine wpAnyH_take (i := 13) (oi := ⟨_, _, _, _, _, _⟩) (v := ?_) rfl (by kernel_rfl) (by kernel_rfl) (by kernel_rfl) (fun _ _ _ h => h) (Or.inl ⟨by rfl, ?_⟩) (by assumption) ?_
        rotate_left
        · (intro wS hSw; (try dsimp only at hSw); go_simp <;> with_reducible rfl)
        try simp only [Act.put, List.setIfInBounds_toArray, List.set_cons_zero, List.set_cons_succ]
        refine wpAnyH_take (i := 14) (oi := ⟨_, _, _, _, _, _⟩) (v := ?_) rfl (by kernel_rfl) (by kernel_rfl) (by kernel_rfl) (fun _ _ _ h => h) (Or.inl ⟨by rfl, ?_⟩) (by assumption) ?_
        rotate_left
        · (intro wS hSw; (try dsimp only at hSw); go_simp <;> with_reducible rfl)
        try simp only [Act.put, List.setIfInBounds_toArray, List.set_cons_zero, List.set_cons_succ]
        refine wpAnyH_take (i := 15) (oi := ⟨_, _, _, _, _, _⟩) (v := ?_) rfl (by kernel_rfl) (by kernel_rfl) (by kernel_rfl) (fun _ _ _ h => h) (Or.inl ⟨by rfl, ?_⟩) (by assumption) ?_
        rotate_left
        · (intro wS hSw; (try dsimp only at hSw); go_simp <;> with_reducible rfl)
        try simp only [Act.put, List.setIfInBounds_toArray, List.set_cons_zero, List.set_cons_succ]
        refine wpAnyH_take (i := 16) (oi := ⟨_, _, _, _, _, _⟩) (v := ?_) rfl (by kernel_rfl) (by kernel_rfl) (by kernel_rfl) (fun _ _ _ h => h) (Or.inl ⟨by rfl, ?_⟩) (by assumption) ?_
        rotate_left
        · (intro wS hSw; (try dsimp only at hSw); go_simp <;> with_reducible rfl)
        try simp only [Act.put, List.setIfInBounds_toArray, List.set_cons_zero, List.set_cons_succ]
        refine wpAnyH_take (i := 17) (oi := ⟨_, _, _, _, _, _⟩) (v := ?_) rfl (by kernel_rfl) (by kernel_rfl) (by kernel_rfl) (fun _ _ _ h => h) (Or.inl ⟨by rfl, ?_⟩) (by assumption) ?_
        rotate_left
        · (intro wS hSw; (try dsimp only at hSw); go_simp <;> with_reducible rfl)
        try simp only [Act.put, List.setIfInBounds_toArray, List.set_cons_zero, List.set_cons_succ]
        refine wpAnyH_take (i := 18) (oi := ⟨_, _, _, _, _, _⟩) (v := ?_) rfl (by kernel_rfl) (by kernel_rfl) (by kernel_rfl) (fun _ _ _ h => h) (Or.inl ⟨by rfl, ?_⟩) (by assumption) ?_
        rotate_left
        · (intro wS hSw; (try dsimp only at hSw); go_simp <;> with_reducible rfl)
        try simp only [Act.put, List.setIfInBounds_toArray, List.set_cons_zero, List.set_cons_succ]
        refine wpAnyH_take (i := 19) (oi := ⟨_, _, _, _, _, _⟩) (v := ?_) rfl (by kernel_rfl) (by kernel_rfl) (by kernel_rfl) (fun _ _ _ h => h) (Or.inl ⟨by rfl, ?_⟩) (by assumption) ?_
        rotate_left
        · (intro wS hSw; (try dsimp only at hSw); go_simp <;> with_reducible rfl)
        try simp only [Act.put, List.setIfInBounds_toArray, List.set_cons_zero, List.set_cons_succ]
        refine wpAnyH_take (i := 20) (oi := ⟨_, _, _, _, _, _⟩) (v := ?_) rfl (by kernel_rfl) (by kernel_rfl) (by kernel_rfl) (fun _ _ _ h => h) (Or.inl ⟨by rfl, ?_⟩) (by assumption) ?_
        rotate_left
        · (intro wS hSw; (try dsimp only at hSw); go_simp <;> with_reducible rfl)
        try simp only [Act.put, List.setIfInBounds_toArray, List.set_cons_zero, List.set_cons_succ]
        refine wpAnyH_ready (rs := [21]) (by kernel_rfl) (by simp) ?_
        refine AllReadyH.cons (o := ⟨_, _, _, _, _, _⟩) rfl (fun K hK => ?_) AllReadyH.nil
        go_simp
        (first | (go_at_call 68; (with_reducible refine (CH.out _ (Below.refl _ _).drew).mono ?_); rintro e w3 ⟨rfl, hb3⟩; have hb3 : Below w2.heap.size w2 w3 := (Below.refl _ w2).drew.trans hb3; have HB3 := Lib.hid hb3; have hS3 := HSS.out w3 hb3))
        go_wp2_with fail
        refine hK.out _ _ (by (try dsimp only); first | assumption | exact HSS.out _ (Below.refl _ _).drew) (fun hHeld => ?_)
        clear hK K
        try simp only [Act.put, List.setIfInBounds_toArray, List.set_cons_zero, List.set_cons_succ]
        refine wpAnyH_take (i := 22) (oi := ⟨_, _, _, _, _, _⟩) (v := ?_) rfl (by kernel_rfl) (by kernel_rfl) (by kernel_rfl) (fun _ _ _ h => h) (Or.inl ⟨by rfl, ?_⟩) (by assumption) ?_
        rotate_left
        · (intro wS hSw; (try dsimp only at hSw); go_simp <;> with_reducible rfl)
        try simp only [Act.put, List.setIfInBounds_toArray, List.set_cons_zero, List.set_cons_succ]
        refine wpAnyH_done (by kernel_rfl) ?_ _
        --END 2
        go_upto_region 3 with fail
        have h3 := H2.out.below HB3.out
        have l3 := letter_touch HL2.out (Touch.ofBelow (F := []) HB3.out) (by simp)
        have hgk : ∀ x ∈ (Value.slice A n c).ownBlock.toList, x < w2.heap.size ∧ x ≠ g ∧ x ∈ fr g V K := by
          intro x hx
          have hx' : K.ownBlock = some x := by rw [HKS.out]; simpa using hx
          exact ⟨(H2.out.k.lt x hx').2, H2.out.gk x hx', mem_fr.2 (.inr (.inr hx'))⟩
        have hWk : ∀ x ∈ (Value.slice A n c).ownBlock.toList, x < W.heap.size := fun x hx => H.out.flt x (hgk x hx).2.2
        have x3 := (HB3.out.cell (p := ⟨W.heap.size, 0, none⟩) (bg_lt HY1.out)).trans x0
        have lt3 : W.heap.size + 1 < w3.heap.size := Nat.lt_of_lt_of_le (bg_lt HY2.out) HB3.out.size
        have HST : Hid (∀ w', Touch (Value.slice A n c).ownBlock.toList w3 w' → Touch (Value.slice A n c).ownBlock.toList w3 w' ∧ w'.cell? ⟨g, 6, none⟩ = some (.slice A n c) ∧ w'.cell? ⟨W.heap.size, 0, none⟩ = some (.int .i64 (q : Nat))) := fun w' ht =>
          ⟨ht, (ht.cell (p := ⟨g, 6, none⟩) h3.glt (fun z => (hgk g z).2.1 rfl)).trans (by rw [← HKS.out]; exact h3.c6), (ht.cell (p := ⟨W.heap.size, 0, none⟩) (show W.heap.size < w3.heap.size by omega) (fun z => by have := hWk _ z; simp at this)).trans x3⟩
        have HFR : Hid (∀ w', Touch (Value.slice A n c).ownBlock.toList w3 w' → w'.frozen? ⟨g, 6, none⟩ = false) := fun w' ht => (ht.frozen (p := ⟨g, 6, none⟩) h3.glt (fun z => (hgk g z).2.1 rfl)).trans (h3.free 6)
        have CO : Hid (∀ w, Touch (Value.slice A n c).ownBlock.toList w3 w → Calls Try.prog 27 #[.agg r.cells] w fun e w' => ∃ r', e = .returned (.agg r'.cells) ∧ Below w.heap.size w w' ∧ Alike w w' r r') := fun w ht =>
          have l := letter_touchL l3 ht (fun x hx z => (HBL.out x hx).2 (hgk x z).2.2)
          own_any r w l.1 l.2 HSM.out
        have HX3 := Lib.hid ((HB3.out.block _ (bg_lt HY2.out)).trans HY2.out)
        have HR3 := Lib.hid (lk_below HR2.out HB3.out)
        obtain ⟨i0, hi0, hz0, hs0, hb0⟩ := lk_infoE
        have H3 := Lib.hid h3
        have HGK := Lib.hid hgk
        clear h3 l3 x3 lt3 hgk CH HSS hS3 c5 c6 x0
        --REGION A
        refine wp_region_till (fun w' => Touch (Value.slice A n c).ownBlock.toList w3 w' ∧ w'.cell? ⟨g, 6, none⟩ = some (.slice A n c) ∧ w'.cell? ⟨W.heap.size, 0, none⟩ = some (.int .i64 (q : Nat))) 13 (by kernel_rfl) ?_ (fun hHeld => ?_)
        · (try dsimp only); exact HST.out _ (Touch.refl _ _).drew
        refine wpAnyT_pure (i := 0) (oi := ⟨_, _, _, _, _, _⟩) (v := ?_) rfl (by kernel_rfl) (by kernel_rfl) (by kernel_rfl) (fun _ _ _ h => h) (by kernel_rfl) (Or.inl ⟨by rfl, ?_⟩) (by assumption) ?_
        rotate_left
        · (intro wS hSw; (try dsimp only at hSw); go_simp <;> with_reducible rfl)
        try simp only [Act.put, List.setIfInBounds_toArray, List.set_cons_zero, List.set_cons_succ]
        refine wpAnyT_pure (i := 1) (oi := ⟨_, _, _, _, _, _⟩) (v := ?_) rfl (by kernel_rfl) (by kernel_rfl) (by kernel_rfl) (fun _ _ _ h => h) (by kernel_rfl) (Or.inl ⟨by rfl, ?_⟩) (by assumption) ?_
        rotate_left
        · (intro wS hSw; (try dsimp only at hSw); go_simp <;> with_reducible rfl)
        try simp only [Act.put, List.setIfInBounds_toArray, List.set_cons_zero, List.set_cons_succ]
        refine wpAnyT_pure (i := 2) (oi := ⟨_, _, _, _, _, _⟩) (v := ?_) rfl (by kernel_rfl) (by kernel_rfl) (by kernel_rfl) (fun _ _ _ h => h) (by kernel_rfl) (Or.inl ⟨by rfl, ?_⟩) (by assumption) ?_
        rotate_left
        · (intro wS hSw; (try dsimp only at hSw); go_simp <;> with_reducible rfl)
        try simp only [Act.put, List.setIfInBounds_toArray, List.set_cons_zero, List.set_cons_succ]
        refine wpAnyT_pure (i := 3) (oi := ⟨_, _, _, _, _, _⟩) (v := ?_) rfl (by kernel_rfl) (by kernel_rfl) (by kernel_rfl) (fun _ _ _ h => h) (by kernel_rfl) (Or.inl ⟨by rfl, ?_⟩) (by assumption) ?_
        rotate_left
        · (intro wS hSw; (try dsimp only at hSw); go_simp <;> with_reducible rfl)
        try simp only [Act.put, List.setIfInBounds_toArray, List.set_cons_zero, List.set_cons_succ]
        refine wpAnyT_take (i := 4) (oi := ⟨_, _, _, _, _, _⟩) (v := ?_) rfl (by kernel_rfl) (by kernel_rfl) (by kernel_rfl) (fun _ _ _ h => h) (by kernel_rfl) (Or.inl ⟨by rfl, ?_⟩) (by assumption) ?_
        rotate_left
        · (intro wS hSw; (try dsimp only at hSw); go_simp <;> with_reducible rfl)
        try simp only [Act.put, List.setIfInBounds_toArray, List.set_cons_zero, List.set_cons_succ]
        refine wpAnyT_take (i := 5) (oi := ⟨_, _, _, _, _, _⟩) (v := ?_) rfl (by kernel_rfl) (by kernel_rfl) (by kernel_rfl) (fun _ _ _ h => h) (by kernel_rfl) (Or.inl ⟨by rfl, ?_⟩) (by assumption) ?_
        rotate_left
        · (intro wS hSw; (try dsimp only at hSw); go_simp <;> with_reducible rfl)
        try simp only [Act.put, List.setIfInBounds_toArray, List.set_cons_zero, List.set_cons_succ]
        refine wpAnyT_ready (rs := [6]) (by kernel_rfl) (by simp) ?_
        refine AllReadyT.cons (o := ⟨_, _, _, _, _, _⟩) rfl (fun K hK => ?_) AllReadyT.nil
        refine lk_step_load_row rfl 51 (.tmp 5) rfl (W.heap.size + 1) rfl 51 r.cells (0, 0) _ HX3.out Try.underlying51 rfl lk_infoL ?_
        refine hK.out _ _ (by (try dsimp only); first | assumption | exact HST.out _ (Touch.refl _ _).drew) (fun hHeld => ?_)
        clear hK K
        try simp only [Act.put, List.setIfInBounds_toArray, List.set_cons_zero, List.set_cons_succ]
        refine wpAnyT_ready (rs := [7]) (by kernel_rfl) (by simp) ?_
        refine AllReadyT.cons (o := ⟨_, _, _, _, _, _⟩) rfl (fun K hK => ?_) AllReadyT.nil
        go_simp
        (first | (go_at_call 27; (with_reducible refine (CO.out _ (Touch.refl _ _).drew).mono ?_); rintro e w4 ⟨r1, rfl, hb4, ha4⟩; have ht4 : Touch (Value.slice A n c).ownBlock.toList w3 w4 := (Touch.refl _ w3).drew.trans (Touch.ofBelow (F := []) hb4) (by simp); have HB4 := Lib.hid (show Below w3.heap.size w3 w4 from (Below.refl _ w3).drew.trans hb4); have HA4 := Lib.hid ha4; have hS4 := HST.out w4 ht4; have hS5 := HST.out _ (ht4.alloc (.cells (kE (q, r1)) 110)); have HT4 := Lib.hid ht4; clear ha4 hb4 ht4))
        go_wp2_with fail
        refine hK.out _ _ (by (try dsimp only); first | assumption | exact HST.out _ (Touch.refl _ _).drew) (fun hHeld => ?_)
        clear hK K
        try simp only [Act.put, List.setIfInBounds_toArray, List.set_cons_zero, List.set_cons_succ]
        refine wpAnyT_ready (rs := [8]) (by kernel_rfl) (by simp) ?_
        refine AllReadyT.cons (o := ⟨_, _, _, _, _, _⟩) rfl (fun K hK => ?_) AllReadyT.nil
        go_simp
        refine hK.out _ _ (by (try dsimp only); first | assumption | exact HST.out _ (Touch.refl _ _).drew) (fun hHeld => ?_)
        clear hK K
        try simp only [Act.put, List.setIfInBounds_toArray, List.set_cons_zero, List.set_cons_succ]
        refine wpAnyT_ready (rs := [9]) (by kernel_rfl) (by simp) ?_
        refine AllReadyT.cons (o := ⟨_, _, _, _, _, _⟩) rfl (fun K hK => ?_) AllReadyT.nil
        go_simp
        refine hK.out _ _ (by (try dsimp only); first | assumption | exact HST.out _ (Touch.refl _ _).drew) (fun hHeld => ?_)
        clear hK K
        try simp only [Act.put, List.setIfInBounds_toArray, List.set_cons_zero, List.set_cons_succ]
        refine wpAnyT_ready (rs := [10]) (by kernel_rfl) (by simp) ?_
        refine AllReadyT.cons (o := ⟨_, _, _, _, _, _⟩) rfl (fun K hK => ?_) AllReadyT.nil
        refine step_append_any rfl (.tmp 35) (.tmp 40) 74 rfl 0 110 i0 (.agg lk_zk) 22 248 Try.underlying74 hi0 hz0 hs0 hb0 rfl (by decide) (.slice A n c) n (rowC kE s.kept) rfl ((lk_below HR3.out HB4.out).alloc _) (.slice (some ⟨w4.heap.size, 0, none⟩) 1 1) 1 (rowC kE [(q, r1)]) rfl (.inr ⟨⟨w4.heap.size, 0, none⟩, 1, rfl, rfl, lk_new_row w4 (kE (q, r1)) _⟩) (rowC_all (enc := kE) (l := [(q, r1)]) (fun x hx => by simp at hx; subst hx; exact kE_one HA4.out.at_.sl)) (by unfold maxLen; omega) (by omega) (Nat.zero_le _) ?_
        intro A5 c5 w5 ho5 hg5 hs5
        have ht5 : Touch (Value.slice A n c).ownBlock.toList w3 w5 := (HT4.out.alloc _).grown hg5 (fun q hq => .inl (by simp [hq]))
        have hS6 := HST.out w5 ht5
        have HO5 := Lib.hid ho5
        have HG5 := Lib.hid hg5
        have HN5 := Lib.hid hs5
        have HT5 := Lib.hid ht5
        clear ho5 hg5 hs5 ht5
        refine hK.out _ _ (by (try dsimp only); first | assumption | exact HST.out _ (Touch.refl _ _).drew) (fun hHeld => ?_)
        clear hK K
        try simp only [Act.put, List.setIfInBounds_toArray, List.set_cons_zero, List.set_cons_succ]
        refine wpAnyT_pure (i := 11) (oi := ⟨_, _, _, _, _, _⟩) (v := ?_) rfl (by kernel_rfl) (by kernel_rfl) (by kernel_rfl) (fun _ _ _ h => h) (by kernel_rfl) (Or.inl ⟨by rfl, ?_⟩) (by assumption) ?_
        rotate_left
        · (intro wS hSw; (try dsimp only at hSw); go_simp <;> with_reducible rfl)
        try simp only [Act.put, List.setIfInBounds_toArray, List.set_cons_zero, List.set_cons_succ]
        refine wpAnyT_pure (i := 12) (oi := ⟨_, _, _, _, _, _⟩) (v := ?_) rfl (by kernel_rfl) (by kernel_rfl) (by kernel_rfl) (fun _ _ _ h => h) (by kernel_rfl) (Or.inl ⟨by rfl, ?_⟩) (by assumption) ?_
        rotate_left
        · (intro wS hSw; (try dsimp only at hSw); go_simp <;> with_reducible rfl)
        try simp only [Act.put, List.setIfInBounds_toArray, List.set_cons_zero, List.set_cons_succ]
        refine wpAnyT_ready (rs := [13]) (by kernel_rfl) (by simp) ?_
        refine AllReadyT.past (o := ⟨_, _, _, _, _, _⟩) rfl (by kernel_rfl) (fun K hK => ?_) AllReadyT.nil
        have f4 : w5.frozen? ⟨g, 6, none⟩ = false := HFR.out w5 HT5.out
        go_simp
        refine hK.out _ _ ?_
        clear hK K
        try simp only [Act.put, List.setIfInBounds_toArray, List.set_cons_zero, List.set_cons_succ]
        refine wpAnyT_done (by kernel_rfl) ?_ _
        --END A
        go_wp2_with fail
        go_end0
        have r1lt : ∀ x ∈ r1.blocks, w3.heap.size ≤ x ∧ x < w4.heap.size := fun x hx => HA4.out.new x hx
        have sz5 : w4.heap.size + 1 ≤ w5.heap.size := by have := HG5.out.size; simpa using this
        have t45 : Touch (Value.slice A n c).ownBlock.toList w4 w5 := ((Touch.refl _ w4).alloc _).grown HG5.out (fun x hx => .inl (by simp [hx]))
        have r1at : r1.At w5 r1.blocks := HA4.out.at_.touch t45 (fun x hx z => by have := (HGK.out x z).1; have := (r1lt x hx).1; have := HB3.out.size; omega)
        have hKs := HKS.out
        subst hKs
        refine ⟨rfl, r1, HA4.out.p, ?_, V, .slice A5 (n + 1) c5, L ++ r1.blocks, lnx_setK (M := L ++ r1.blocks) (ks := s.kept ++ [(q, r1)]) H3.out HT5.out (by rw [List.length_append, HNN.out]) (by rw [rowC_append]; exact HO5.out) (fun x hx => ?_) (fun x hx => by simp [hx]) (fun x hx => ?_) (fun x hx z => ?_) (fun x hx => ?_), fun x hx => ?_, fun x hx => ?_, by simp⟩
        · exact ((Touch.ofBelow (F := fr g V (.slice A n c)) (acc HB2.out HB3.out)).trans HT5.out (fun x hx => .inl (HGK.out x hx).2.2)).set (.inl (by simp [fr])) _
        · rcases HN5.out x hx with z | z
          · exact .inl z
          · have := HB4.out.size; simp at z; exact .inr (by omega)
        · rcases List.mem_append.1 hx with z | z
          · exact .inl z
          · have := r1lt x z; exact .inr ⟨this.1, by omega⟩
        · rcases HN5.out x z with y | y
          · rcases List.mem_append.1 hx with u | u
            · exact (H3.out.lf x u).2.2 y
            · have := (r1lt x u).1; have := (H3.out.k.lt x y).2; omega
          · simp at y
            rcases List.mem_append.1 hx with u | u
            · have := H3.out.lt x u; have := HB4.out.size; omega
            · have := (r1lt x u).2; omega
        · rcases List.mem_append.1 hx with z | z
          · exact ((H3.out.lk x z).touch HT5.out (fun y hy u => (H3.out.lf y hy).2.2 (by simpa using u))).mono (fun y hy => by simp [hy])
          · simp at z; subst z; exact r1at.mono (fun y hy => by simp [hy])
        · rcases mem_fr.1 hx with rfl | z | z
          · exact .inl (by simp [fr])
          · exact .inl (mem_fr.2 (.inr (.inl z)))
          · rcases HN5.out x z with y | y
            · exact .inl (mem_fr.2 (.inr (.inr y)))
            · have := HB4.out.size; have := HB3.out.size; have := HB2.out.size; simp at y; exact .inr (by omega)
        · rcases List.mem_append.1 hx with z | z
          · exact .inl z
          · have := (r1lt x z).1; have := HB3.out.size; have := HB2.out.size; exact .inr (by omega)
      · have hk : s.keeps q = false := by rw [HK.out]; simp
        rw [hk]
        go_enter Try.func32, Try.ntmps32
        go_upto_region 2 with fail
        clear hw2
        --REGION 2
        refine wp_region_held_drew (S := (fun w' => Below w2.heap.size w2 w' ∧ w'.cell? ⟨g, 5, none⟩ = some (.int .i64 (m : Nat)) ∧ w'.cell? ⟨g, 6, none⟩ = some (.slice A n c) ∧ w'.cell? ⟨W.heap.size, 0, none⟩ = some (.int .i64 (q : Nat)))) (by kernel_rfl) ?_ (fun hHeld => ?_)
        · (try dsimp only); exact HSS.out _ (Below.refl _ _).drew
        refine wpAnyH_take (i := 0) (oi := ⟨_, _, _, _, _, _⟩) (v := ?_) rfl (by kernel_rfl) (by kernel_rfl) (by kernel_rfl) (fun _ _ _ h => h) (Or.inl ⟨by rfl, ?_⟩) (by assumption) ?_
        rotate_left
        · (intro wS hSw; (try dsimp only at hSw); go_simp <;> with_reducible rfl)
        try simp only [Act.put, List.setIfInBounds_toArray, List.set_cons_zero, List.set_cons_succ]
        refine wpAnyH_take (i := 1) (oi := ⟨_, _, _, _, _, _⟩) (v := ?_) rfl (by kernel_rfl) (by kernel_rfl) (by kernel_rfl) (fun _ _ _ h => h) (Or.inl ⟨by rfl, ?_⟩) (by assumption) ?_
        rotate_left
        · (intro wS hSw; (try dsimp only at hSw); go_simp <;> with_reducible rfl)
        try simp only [Act.put, List.setIfInBounds_toArray, List.set_cons_zero, List.set_cons_succ]
        refine wpAnyH_take (i := 2) (oi := ⟨_, _, _, _, _, _⟩) (v := ?_) rfl (by kernel_rfl) (by kernel_rfl) (by kernel_rfl) (fun _ _ _ h => h) (Or.inl ⟨by rfl, ?_⟩) (by assumption) ?_
        rotate_left
        · (intro wS hSw; (try dsimp only at hSw); go_simp <;> with_reducible rfl)
        try simp only [Act.put, List.setIfInBounds_toArray, List.set_cons_zero, List.set_cons_succ]
        refine wpAnyH_take (i := 3) (oi := ⟨_, _, _, _, _, _⟩) (v := ?_) rfl (by kernel_rfl) (by kernel_rfl) (by kernel_rfl) (fun _ _ _ h => h) (Or.inl ⟨by rfl, ?_⟩) (by assumption) ?_
        rotate_left
        · (intro wS hSw; (try dsimp only at hSw); go_simp <;> with_reducible rfl)
        try simp only [Act.put, List.setIfInBounds_toArray, List.set_cons_zero, List.set_cons_succ]
        refine wpAnyH_take (i := 4) (oi := ⟨_, _, _, _, _, _⟩) (v := ?_) rfl (by kernel_rfl) (by kernel_rfl) (by kernel_rfl) (fun _ _ _ h => h) (Or.inl ⟨by rfl, ?_⟩) (by assumption) ?_
        rotate_left
        · (intro wS hSw; (try dsimp only at hSw); go_simp <;> with_reducible rfl)
        try simp only [Act.put, List.setIfInBounds_toArray, List.set_cons_zero, List.set_cons_succ]
        refine wpAnyH_take (i := 5) (oi := ⟨_, _, _, _, _, _⟩) (v := ?_) rfl (by kernel_rfl) (by kernel_rfl) (by kernel_rfl) (fun _ _ _ h => h) (Or.inl ⟨by rfl, ?_⟩) (by assumption) ?_
        rotate_left
        · (intro wS hSw; (try dsimp only at hSw); go_simp <;> with_reducible rfl)
        try simp only [Act.put, List.setIfInBounds_toArray, List.set_cons_zero, List.set_cons_succ]
        refine wpAnyH_take (i := 6) (oi := ⟨_, _, _, _, _, _⟩) (v := ?_) rfl (by kernel_rfl) (by kernel_rfl) (by kernel_rfl) (fun _ _ _ h => h) (Or.inl ⟨by rfl, ?_⟩) (by assumption) ?_
        rotate_left
        · (intro wS hSw; (try dsimp only at hSw); go_simp <;> with_reducible rfl)
        try simp only [Act.put, List.setIfInBounds_toArray, List.set_cons_zero, List.set_cons_succ]
        refine wpAnyH_take (i := 7) (oi := ⟨_, _, _, _, _, _⟩) (v := ?_) rfl (by kernel_rfl) (by kernel_rfl) (by kernel_rfl) (fun _ _ _ h => h) (Or.inl ⟨by rfl, ?_⟩) (by assumption) ?_
        rotate_left
        · (intro wS hSw; (try dsimp only at hSw); go_simp <;> with_reducible rfl)
        try simp only [Act.put, List.setIfInBounds_toArray, List.set_cons_zero, List.set_cons_succ]
        refine wpAnyH_take (i := 8) (oi := ⟨_, _, _, _, _, _⟩) (v := ?_) rfl (by kernel_rfl) (by kernel_rfl) (by kernel_rfl) (fun _ _ _ h => h) (Or.inl ⟨by rfl, ?_⟩) (by assumption) ?_
        rotate_left
        · (intro wS hSw; (try dsimp only at hSw); go_simp <;> with_reducible rfl)
        try simp only [Act.put, List.setIfInBounds_toArray, List.set_cons_zero, List.set_cons_succ]
        refine wpAnyH_take (i := 9) (oi := ⟨_, _, _, _, _, _⟩) (v := ?_) rfl (by kernel_rfl) (by kernel_rfl) (by kernel_rfl) (fun _ _ _ h => h) (Or.inl ⟨by rfl, ?_⟩) (by assumption) ?_
        rotate_left
        · (intro wS hSw; (try dsimp only at hSw); go_simp <;> with_reducible rfl)
        try simp only [Act.put, List.setIfInBounds_toArray, List.set_cons_zero, List.set_cons_succ]
        refine wpAnyH_take (i := 10) (oi := ⟨_, _, _, _, _, _⟩) (v := ?_) rfl (by kernel_rfl) (by kernel_rfl) (by kernel_rfl) (fun _ _ _ h => h) (Or.inl ⟨by rfl, ?_⟩) (by assumption) ?_
        rotate_left
        · (intro wS hSw; (try dsimp only at hSw); go_simp <;> with_reducible rfl)
        try simp only [Act.put, List.setIfInBounds_toArray, List.set_cons_zero, List.set_cons_succ]
        refine wpAnyH_take (i := 11) (oi := ⟨_, _, _, _, _, _⟩) (v := ?_) rfl (by kernel_rfl) (by kernel_rfl) (by kernel_rfl) (fun _ _ _ h => h) (Or.inl ⟨by rfl, ?_⟩) (by assumption) ?_
        rotate_left
        · (intro wS hSw; (try dsimp only at hSw); go_simp <;> with_reducible rfl)
        try simp only [Act.put, List.setIfInBounds_toArray, List.set_cons_zero, List.set_cons_succ]
        refine wpAnyH_take (i := 12) (oi := ⟨_, _, _, _, _, _⟩) (v := ?_) rfl (by kernel_rfl) (by kernel_rfl) (by kernel_rfl) (fun _ _ _ h => h) (Or.inl ⟨by rfl, ?_⟩) (by assumption) ?_
        rotate_left
        · (intro wS hSw; (try dsimp only at hSw); go_simp <;> with_reducible rfl)
        try simp only [Act.put, List.setIfInBounds_toArray, List.set_cons_zero, List.set_cons_succ]
        refine wpAnyH_take (i := 13) (oi := ⟨_, _, _, _, _, _⟩) (v := ?_) rfl (by kernel_rfl) (by kernel_rfl) (by kernel_rfl) (fun _ _ _ h => h) (Or.inl ⟨by rfl, ?_⟩) (by assumption) ?_
        rotate_left
        · (intro wS hSw; (try dsimp only at hSw); go_simp <;> with_reducible rfl)
        try simp only [Act.put, List.setIfInBounds_toArray, List.set_cons_zero, List.set_cons_succ]
        refine wpAnyH_take (i := 14) (oi := ⟨_, _, _, _, _, _⟩) (v := ?_) rfl (by kernel_rfl) (by kernel_rfl) (by kernel_rfl) (fun _ _ _ h => h) (Or.inl ⟨by rfl, ?_⟩) (by assumption) ?_
        rotate_left
        · (intro wS hSw; (try dsimp only at hSw); go_simp <;> with_reducible rfl)
        try simp only [Act.put, List.setIfInBounds_toArray, List.set_cons_zero, List.set_cons_succ]
        refine wpAnyH_take (i := 15) (oi := ⟨_, _, _, _, _, _⟩) (v := ?_) rfl (by kernel_rfl) (by kernel_rfl) (by kernel_rfl) (fun _ _ _ h => h) (Or.inl ⟨by rfl, ?_⟩) (by assumption) ?_
        rotate_left
        · (intro wS hSw; (try dsimp only at hSw); go_simp <;> with_reducible rfl)
        try simp only [Act.put, List.setIfInBounds_toArray, List.set_cons_zero, List.set_cons_succ]
        refine wpAnyH_take (i := 16) (oi := ⟨_, _, _, _, _, _⟩) (v := ?_) rfl (by kernel_rfl) (by kernel_rfl) (by kernel_rfl) (fun _ _ _ h => h) (Or.inl ⟨by rfl, ?_⟩) (by assumption) ?_
        rotate_left
        · (intro wS hSw; (try dsimp only at hSw); go_simp <;> with_reducible rfl)
        try simp only [Act.put, List.setIfInBounds_toArray, List.set_cons_zero, List.set_cons_succ]
        refine wpAnyH_take (i := 17) (oi := ⟨_, _, _, _, _, _⟩) (v := ?_) rfl (by kernel_rfl) (by kernel_rfl) (by kernel_rfl) (fun _ _ _ h => h) (Or.inl ⟨by rfl, ?_⟩) (by assumption) ?_
        rotate_left
        · (intro wS hSw; (try dsimp only at hSw); go_simp <;> with_reducible rfl)
        try simp only [Act.put, List.setIfInBounds_toArray, List.set_cons_zero, List.set_cons_succ]
        refine wpAnyH_take (i := 18) (oi := ⟨_, _, _, _, _, _⟩) (v := ?_) rfl (by kernel_rfl) (by kernel_rfl) (by kernel_rfl) (fun _ _ _ h => h) (Or.inl ⟨by rfl, ?_⟩) (by assumption) ?_
        rotate_left
        · (intro wS hSw; (try dsimp only at hSw); go_simp <;> with_reducible rfl)
        try simp only [Act.put, List.setIfInBounds_toArray, List.set_cons_zero, List.set_cons_succ]
        refine wpAnyH_take (i := 19) (oi := ⟨_, _, _, _, _, _⟩) (v := ?_) rfl (by kernel_rfl) (by kernel_rfl) (by kernel_rfl) (fun _ _ _ h => h) (Or.inl ⟨by rfl, ?_⟩) (by assumption) ?_
        rotate_left
        · (intro wS hSw; (try dsimp only at hSw); go_simp <;> with_reducible rfl)
        try simp only [Act.put, List.setIfInBounds_toArray, List.set_cons_zero, List.set_cons_succ]
        refine wpAnyH_take (i := 20) (oi := ⟨_, _, _, _, _, _⟩) (v := ?_) rfl (by kernel_rfl) (by kernel_rfl) (by kernel_rfl) (fun _ _ _ h => h) (Or.inl ⟨by rfl, ?_⟩) (by assumption) ?_
        rotate_left
        · (intro wS hSw; (try dsimp only at hSw); go_simp <;> with_reducible rfl)
        try simp only [Act.put, List.setIfInBounds_toArray, List.set_cons_zero, List.set_cons_succ]
        refine wpAnyH_ready (rs := [21]) (by kernel_rfl) (by simp) ?_
        refine AllReadyH.cons (o := ⟨_, _, _, _, _, _⟩) rfl (fun K hK => ?_) AllReadyH.nil
        go_simp
        (first | (go_at_call 68; (with_reducible refine (CH.out _ (Below.refl _ _).drew).mono ?_); rintro e w3 ⟨rfl, hb3⟩; have hb3 : Below w2.heap.size w2 w3 := (Below.refl _ w2).drew.trans hb3; have HB3 := Lib.hid hb3; have hS3 := HSS.out w3 hb3))
        go_wp2_with fail
        refine hK.out _ _ (by (try dsimp only); first | assumption | exact HSS.out _ (Below.refl _ _).drew) (fun hHeld => ?_)
        clear hK K
        try simp only [Act.put, List.setIfInBounds_toArray, List.set_cons_zero, List.set_cons_succ]
        refine wpAnyH_take (i := 22) (oi := ⟨_, _, _, _, _, _⟩) (v := ?_) rfl (by kernel_rfl) (by kernel_rfl) (by kernel_rfl) (fun _ _ _ h => h) (Or.inl ⟨by rfl, ?_⟩) (by assumption) ?_
        rotate_left
        · (intro wS hSw; (try dsimp only at hSw); go_simp <;> with_reducible rfl)
        try simp only [Act.put, List.setIfInBounds_toArray, List.set_cons_zero, List.set_cons_succ]
        refine wpAnyH_done (by kernel_rfl) ?_ _
        --END 2
        go_wp2
        refine bodyPost_ret (v := .tuple #[]) (by simp [results, Try.results32, go_sem]) rfl ?_
        exact ⟨rfl, r, ⟨rfl, id, id⟩, lstep_same H.out (acc HB2.out HB3.out)⟩
set_option maxRecDepth 20000 in
set_option maxHeartbeats 8000000 in
theorem gotNew_any {W : World} {g : Nat} {s : LS} {V K : Value} {L : List Nat} (h : LNX W g s V K L) (hok : s.Ok) (hkl : s.kept.length < 90000) (p : PR) (q : Nat) (hp : s.takes p) (hq : p.s = (q : Nat)) (hq0 : 0 < q) (hqm : q ≤ 9223372036854775807) (hr : OutL W (fr g V K) p.r) :
    Calls Try.prog 17 #[.pointer (some ⟨g, 0, none⟩), .agg p.cells] W (GotPost W g s V K L p q) := by
  have hgl := h.glt
  have B2 : Below W.heap.size W ((W.alloc (.cells p.cells 53)).alloc (.cells (lpCells 0 0 0 0 0 0) 53)) := ((Below.refl _ _).alloc (Nat.le_refl _) _).alloc (by simp) _
  have b1 : ((W.alloc (.cells p.cells 53)).alloc (.cells (lpCells 0 0 0 0 0 0) 53)).heap[W.heap.size]? = some (.cells p.cells 53) := (Lib.alloc_old _ _ _ (by simp)).trans (heap_alloc_new W _)
  have b2 : ((W.alloc (.cells p.cells 53)).alloc (.cells (lpCells 0 0 0 0 0 0) 53)).heap[W.heap.size + 1]? = some (.cells (lpCells 0 0 0 0 0 0) 53) := by
    have := heap_alloc_new (W.alloc (.cells p.cells 53)) (.cells (lpCells 0 0 0 0 0 0) 53)
    simpa using this
  have h2 := h.below B2
  obtain ⟨w2, hw2⟩ : ∃ w2, (W.alloc (.cells p.cells 53)).alloc (.cells (lpCells 0 0 0 0 0 0) 53) = w2 := ⟨_, rfl⟩
  rw [hw2] at B2 b1 b2 h2
  have CT := Lib.hid (takes_any h2 p true ⟨fun _ => rfl, fun _ => hp⟩)
  have HY1 := Lib.hid b1
  have HY2 := Lib.hid b2
  have HB2 := Lib.hid B2
  have hsz : (Try.prog.info? 53).map (·.size) = some p.cells.size := bg_infoP
  have hszz : (Try.prog.info? 53).map (·.size) = some (lpCells 0 0 0 0 0 0).size := bg_infoP
  have honez : (lpCells 0 0 0 0 0 0).all (·.oneCell') = true := by simp [Value.oneCell']
  have CK : Hid (∀ w, Below w2.heap.size w2 w → Calls Try.prog 31 #[.pointer (some ⟨g, 0, none⟩), .int .i64 p.a] w fun e w' => e = .returned (.tuple #[]) ∧ ∃ V' K' L', LRes w w' g (fr g V K) L (s.known p.a) V' K' L') := fun w hb => knownR_any (h2.below hb) hok p.a hp.2.2.2.1 hp.2.2.2.2
  have CP : Hid (∀ w V4 K4 L4, LRes W w g (fr g V K) L (s.known p.a) V4 K4 L4 → Calls Try.prog 32 #[.pointer (some ⟨g, 0, none⟩), .int .i64 (q : Nat), .agg p.r.cells] w fun e w' => e = .returned (.tuple #[]) ∧ ∃ r1 V' K' L', AlikeP p.r r1 ∧ LRes w w' g (fr g V4 K4) L4 (s.took p.a q r1) V' K' L') := fun w V4 K4 L4 hr4 => by
    have ho := hr.res hr4
    refine (Lv.keep_any hr4.x (known_ok hok _) q hqm p.r ho.l ho.b ho.s).mono fun e w' ⟨h1, r1, h3, h4, V', K', L', h5, h6, h7, _⟩ => ⟨h1, r1, V', K', L', h3, h4, ?_, h6, h7⟩
    unfold LS.took
    exact h5
  have CF : Hid (∀ w r1 V4 K4 L4, LNX w g (s.took p.a q r1) V4 K4 L4 → Calls Try.prog 33 #[.pointer (some ⟨g, 0, none⟩)] w (FollowPost w g (s.took p.a q r1) V4 K4 L4)) := fun w r1 V4 K4 L4 hx => follow_any hx (took_ok hok hkl _ _ _)
  have CQ : Hid (∀ w s' V4 K4 L4, LNX w g s' V4 K4 L4 → s'.me = s.me → s'.peer = s.peer → Calls Try.prog 28 #[.pointer (some ⟨g, 0, none⟩), .int .i64 0, .agg (ltCells 0 0)] w fun e w' => e = .returned (.agg (lpCells s.me s.peer 0 (s'.came : Nat) 0 0)) ∧ Below w.heap.size w w') := fun w s' V4 K4 L4 hx e1 e2 => by
    refine (packet_any hx 0 (LR.light 0 0) (SlAt.nil w) (SlAt.nil w) (light_sm 0 0)).mono fun e w' ⟨r', h1, h2, h3⟩ => ⟨?_, h2⟩
    have := h3.light
    subst this
    rw [h1, e1, e2]
    rfl
  have x3 : w2.cell? ⟨W.heap.size, 3, none⟩ = some (.int .i64 p.a) := bg_cell b1 rfl
  have x2 : w2.cell? ⟨W.heap.size, 2, none⟩ = some (.int .i64 (q : Nat)) := by rw [← hq]; exact bg_cell b1 rfl
  have dq : ((q : Int) == 0) = false := by simp; omega
  have hszl : (Try.prog.info? 51).map (·.size) = some p.r.cells.toList.length := lk_infoL
  have HF := Lib.hid h.flt
  have HLL := Lib.hid h.lt
  have HS2 := Lib.hid (LRes.start h B2)
  clear h h2 b1 b2 hp hq hok hr hkl hq0
  go_enter Try.func17, Try.ntmps17
  go_upto_region 1 with fail
  clear hw2
  go_upto_region 3 with (first
    | (with_reducible (show wpList _ _ _ (⟨some 9, Op.load _ _, _, _, _, _⟩ :: _) _ _); go_must (refine wpList_load_row rfl 53 (.tmp 3) rfl W.heap.size rfl 53 p.cells (0, 0) _ HY1.out Try.underlying53 rfl hsz ?_))
    | (go_at_call 30; (with_reducible refine CT.out.mono ?_); rintro e w3 ⟨rfl, hb3⟩; have x33 := (hb3.cell (p := ⟨W.heap.size, 3, none⟩) (bg_lt HY1.out)).trans x3; have x23 := (hb3.cell (p := ⟨W.heap.size, 2, none⟩) (bg_lt HY1.out)).trans x2; have HB3 := Lib.hid hb3; clear hb3))
  have hlt2 : W.heap.size + 1 < w2.heap.size := bg_lt HY2.out
  have hlt3 := HB3.out.size
  have HS3 := Lib.hid (HS2.out.below HB3.out)
  go_upto_region 6 with (go_at_call 31; (with_reducible refine (CK.out _ HB3.out).mono ?_); rintro e w4 ⟨rfl, V4, K4, L4, h4⟩; have y14 := (h4.t.block W.heap.size (Nat.lt_of_lt_of_le (bg_lt HY1.out) HB3.out.size) (fun z => by have := HF.out _ z; simp at this)).trans ((HB3.out.block _ (bg_lt HY1.out)).trans HY1.out); have x24 := (h4.t.cell (p := ⟨W.heap.size, 2, none⟩) (Nat.lt_of_lt_of_le (bg_lt HY1.out) HB3.out.size) (fun z => by have := HF.out _ z; simp at this)).trans x23; have y4 := (h4.t.block (W.heap.size + 1) (Nat.lt_of_lt_of_le (bg_lt HY2.out) HB3.out.size) (fun z => by have := HF.out _ z; omega)).trans ((HB3.out.block _ (bg_lt HY2.out)).trans HY2.out); have H4 := Lib.hid h4; clear h4)
  have R4 := HS3.out.trans H4.out
  have hs4 := H4.out.t.size
  have N4 : W.heap.size + 1 ∉ fr g V4 K4 ∧ W.heap.size + 1 ∉ L4 := ⟨fun z => by
      rcases H4.out.f _ z with y | y
      · have := HF.out _ y; omega
      · omega, fun z => by
      rcases H4.out.l _ z with y | y
      · have := HLL.out _ y; omega
      · omega⟩
  have hrl : w4.rangeAt W.heap.size 4 p.r.cells.toList := fun j v hj => by
    rw [Array.getElem?_toList] at hj
    refine bg_cell y14 ?_
    have hj' : j < 21 := (Array.getElem?_eq_some_iff.1 hj).1
    rw [← hj]
    rcases j with _ | _ | _ | _ | _ | _ | _ | _ | _ | _ | _ | _ | _ | _ | _ | _ | _ | _ | _ | _ | _ | j <;> first | rfl | omega
  have HRL := Lib.hid hrl
  have HR4 := Lib.hid R4
  have HY4 := Lib.hid y4
  have HN4 := Lib.hid N4
  clear y14 y4 hrl R4 N4 x23 x33 x2 x3 CT CK
  go_upto_region 7 with (first
    | (refine wpList_load_mid rfl 51 (.tmp 24) rfl W.heap.size 4 rfl p.r.cells.toList _ HRL.out Try.underlying51 rfl hszl ?_)
    | (go_at_call 32; (with_reducible refine (CP.out _ _ _ _ HR4.out).mono ?_); rintro e w5 ⟨rfl, r1, V5, K5, L5, ha5, h5⟩; have y5 := (h5.t.block (W.heap.size + 1) (by omega) HN4.out.1).trans HY4.out; have HA5 := Lib.hid ha5; have H5 := Lib.hid h5; clear h5 ha5))
  have R5 := HR4.out.trans H5.out
  have hs5 := H5.out.t.size
  have N5 : W.heap.size + 1 ∉ fr g V5 K5 ∧ W.heap.size + 1 ∉ L5 := ⟨fun z => by
      rcases H5.out.f _ z with y | y
      · exact HN4.out.1 y
      · omega, fun z => by
      rcases H5.out.l _ z with y | y
      · exact HN4.out.2 y
      · omega⟩
  have HR5 := Lib.hid R5
  have HY5 := Lib.hid y5
  have HN5 := Lib.hid N5
  clear y5 R5 N5 x24 HRL HY4 HN4 CP
  go_upto_region 8 with (go_at_call 33; (with_reducible refine (CF.out _ _ _ _ _ H5.out.x).mono ?_); rintro e w6 ⟨B6, c6, T6, ts, cc, kk, K6, rfl, rfl, hf6, hx6, hk6, ht6, hr6, ha6⟩; have y6 := (ht6.block (W.heap.size + 1) (by omega) HN5.out.1).trans HY5.out; have HFO := Lib.hid hf6; have HX6 := Lib.hid hx6; have HK6 := Lib.hid hk6; have HT6 := Lib.hid ht6; have HRO := Lib.hid hr6; have HA6 := Lib.hid ha6; clear hf6 hx6 hk6 ht6 hr6 ha6)
  have hme := took_me s p.a q r1
  have R6 : LRes W w6 g (fr g V K) L {(s.took p.a q r1) with came := cc, kept := kk} V5 K6 L5 := HR5.out.trans ⟨HT6.out, HX6.out, fun x hx => .inl (by
      rcases mem_fr.1 hx with z | z | z
      · exact mem_fr.2 (.inl z)
      · exact mem_fr.2 (.inr (.inl z))
      · exact mem_fr.2 (.inr (.inr (by rw [← HK6.out]; exact z)))), fun _ hx => .inl hx⟩
  have N6 : ∀ x ∈ fr g V5 K6, x ∈ fr g V5 K5 := fun x hx => by
      rcases mem_fr.1 hx with z | z | z
      · exact mem_fr.2 (.inl z)
      · exact mem_fr.2 (.inr (.inl z))
      · exact mem_fr.2 (.inr (.inr (by rw [← HK6.out]; exact z)))
  have HR6 := Lib.hid R6
  have HN6 := Lib.hid N6
  have HY6 := Lib.hid y6
  have cq := Lib.hid (CQ.out w6 _ V5 K6 L5 HX6.out hme.1 hme.2)
  obtain ⟨m, hm⟩ : ∃ m, ts.length = m := ⟨_, rfl⟩
  have HM := Lib.hid hm
  rw [hm]
  have hsz8 : (Try.prog.info? 53).map (·.size) = some (lpCells s.me s.peer 0 (cc : Nat) 0 0).size := bg_infoP
  have hold8 : (lpCells 0 0 0 0 0 0).size = (lpCells s.me s.peer 0 (cc : Nat) 0 0).size := rfl
  have hone8 : (lpCells s.me s.peer 0 (cc : Nat) 0 0).all (·.oneCell') = true := PR.one (p := ⟨s.me, s.peer, 0, (cc : Nat), LR.light 0 0⟩) (light_sl 0 0)
  clear R6 N6 y6 hm CF CQ hme
  go_wp2_with (first
    | (go_at_call 28; (with_reducible refine cq.out.mono ?_); rintro e w7 ⟨rfl, hb7⟩; have y7 := (hb7.block _ (bg_lt HY6.out)).trans HY6.out; have HB7 := Lib.hid hb7; clear hb7)
    | (with_reducible (show wpList _ _ _ (⟨none, Op.store _ (Operand.tmp 5) _, _, _, _, _⟩ :: _) _ _); go_must (refine wpList_store_row rfl 53 (.tmp 5) (.tmp 32) rfl (W.heap.size + 1) (lpCells s.me s.peer 0 (cc : Nat) 0 0) rfl rfl 53 (lpCells 0 0 0 0 0 0) y7 hsz8 hold8 hone8 ?_)))
  refine bodyPost_ret (bg_results3 rfl _ _ (W.heap.size + 1) (lpCells s.me s.peer 0 (cc : Nat) 0 0) (.bool true) (.slice B6 m c6) rfl rfl rfl (bg_loadVar _ _ _ rfl (bg_row _ y7))) rfl ?_
  have T8 := bg_touch w7 (W.heap.size + 1) (lpCells s.me s.peer 0 (cc : Nat) 0 0)
  have hm := HM.out
  subst hm
  have hro := HRO.out
  have hb5 : ∀ b, (Value.slice B6 ts.length c6).ownBlock = some b → w5.heap.size ≤ b := fun b hb => (hro.lt b hb).1
  have hF5 : ∀ x ∈ fr g V5 K5, x < w5.heap.size := H5.out.x.flt
  have hL5 : ∀ x ∈ L5, x < w5.heap.size := H5.out.x.lt
  refine ⟨r1, ts, cc, kk, B6, c6, V5, K6, L5, HA5.out, HFO.out, rfl, (HR6.out.below HB7.out).touch T8 (fun x hx => ?_), ?_, fun r hr => ((HA6.out r hr).below HB7.out).touch T8 (fun x hx z => ?_), fun b hb => ⟨fun z => ?_, fun z => ?_⟩⟩
  · simp at hx
    subst hx
    exact ⟨by omega, fun z => HN5.out.1 (HN6.out _ z), HN5.out.2⟩
  · have hro' : w6.ownsRow W.heap.size 51 21 (.slice B6 ts.length c6) ts.length (rowC LR.cells ts) := lk_base hro (by omega)
    exact T8.row (lk_below hro' HB7.out) (fun x hx z => by have := hb5 x hx; simp at z; omega)
  · simp at z; subst z; exact HN5.out.2 hx
  · have := hb5 b hb; have := hF5 b (HN6.out b z); omega
  · have := hb5 b hb; have := hL5 b z; omega
end Go.Proofs.Ytfemdfidfomchaa.Lv
namespace Go.Proofs.Ytfemdfidfomchaa
open Go.RowKit

/-- the two links and the book; B: blocks that none of them writes; tv, ts: letters that were told, and are not in the book yet -/
structure PY (W w : World) (B : List Nat) (ga : Nat) (s : LS) (V K : Value) (L : List Nat) (gr : Nat) (t : RL) (VR KR : Value) (gk : Nat) (va vb : Value) (es us : List (Value × List LR)) (P : List Nat) (tv : Value) (ts : List LR) : Prop where
  base : Below W.heap.size W w
  a : LNX w ga s V K L
  r : RLX w gr t VR KR
  k : Lb.BK w gk va vb es us P
  na : ∀ q ∈ fr ga V K, W.heap.size ≤ q ∧ q ∉ fr gr VR KR ∧ q ∉ Lb.BF gk va vb es us ∧ q ∉ B ∧ q ∉ P
  nr : ∀ q ∈ fr gr VR KR, W.heap.size ≤ q ∧ q ∉ Lb.BF gk va vb es us ∧ q ∉ B ∧ q ∉ P ∧ q ∉ L
  nk : ∀ q ∈ Lb.BF gk va vb es us, W.heap.size ≤ q ∧ q ∉ B ∧ q ∉ L
  bl : ∀ q ∈ B, q < w.heap.size
  tr : Lb.rowOk w (tv, ts)
  ta : ∀ r ∈ ts, r.At w L
  tn : ∀ q ∈ Lb.blk tv, W.heap.size ≤ q ∧ q ∉ fr ga V K ∧ q ∉ fr gr VR KR ∧ q ∉ Lb.BF gk va vb es us ∧ q ∉ B ∧ q ∉ L ∧ q ∉ P
abbrev nilV : Value := .slice none 0 0
theorem blk_nil : Lb.blk nilV = [] := by simp [Lb.blk, Value.ownBlock]
theorem rowOk_nil (w : World) : Lb.rowOk w (nilV, []) := ⟨none, 0, rfl, World.ownsRow_nil _ _ _ _⟩
section
variable {W w w1 : World} {B : List Nat} {ga : Nat} {s s' : LS} {V K V' K' : Value} {L L' : List Nat} {gr : Nat} {t t' : RL} {VR KR : Value} {gk : Nat} {va vb : Value} {es us : List (Value × List LR)} {P : List Nat} {tv : Value} {ts : List LR}
theorem PY.below (h : PY W w B ga s V K L gr t VR KR gk va vb es us P tv ts) (hb : Below w.heap.size w w1) : PY W w1 B ga s V K L gr t VR KR gk va vb es us P tv ts :=
  have tt : Touch [] w w1 := Touch.ofBelow hb
  ⟨acc h.base hb, h.a.below hb, h.r.below hb, h.k.touch tt (by simp) (by simp), h.na, h.nr, h.nk, fun q hq => Nat.lt_of_lt_of_le (h.bl q hq) hb.size, h.tr.touch tt (by simp), fun r hr => (h.ta r hr).below hb, h.tn⟩
theorem PY.less {B' : List Nat} (h : PY W w B ga s V K L gr t VR KR gk va vb es us P tv ts) (hB : ∀ q ∈ B', q ∈ B) : PY W w B' ga s V K L gr t VR KR gk va vb es us P tv ts :=
  ⟨h.base, h.a, h.r, h.k, fun q hq => have z := h.na q hq; ⟨z.1, z.2.1, z.2.2.1, fun y => z.2.2.2.1 (hB q y), z.2.2.2.2⟩, fun q hq => have z := h.nr q hq; ⟨z.1, z.2.1, fun y => z.2.2.1 (hB q y), z.2.2.2⟩, fun q hq => have z := h.nk q hq; ⟨z.1, fun y => z.2.1 (hB q y), z.2.2⟩, fun q hq => h.bl q (hB q hq), h.tr, h.ta, fun q hq => have z := h.tn q hq; ⟨z.1, z.2.1, z.2.2.1, z.2.2.2.1, fun y => z.2.2.2.2.1 (hB q y), z.2.2.2.2.2⟩⟩
/-- new blocks that are kept out -/
theorem PY.out {Q : List Nat} (h : PY W w B ga s V K L gr t VR KR gk va vb es us P tv ts) (hb : Below w.heap.size w w1) (hQ : ∀ q ∈ Q, w.heap.size ≤ q ∧ q < w1.heap.size) : PY W w1 (Q ++ B) ga s V K L gr t VR KR gk va vb es us P tv ts := by
  have h1 := h.below hb
  have l1 := h.a.flt
  have l2 := h.r.flt
  have l3 := h.k.ltF
  refine ⟨h1.base, h1.a, h1.r, h1.k, fun q hq => ?_, fun q hq => ?_, fun q hq => ?_, fun q hq => ?_, h1.tr, h1.ta, fun q hq => ?_⟩
  · have z := h.na q hq
    refine ⟨z.1, z.2.1, z.2.2.1, fun y => ?_, z.2.2.2.2⟩
    rcases List.mem_append.1 y with y | y
    · have := l1 q hq; have := hQ q y; omega
    · exact z.2.2.2.1 y
  · have z := h.nr q hq
    refine ⟨z.1, z.2.1, fun y => ?_, z.2.2.2⟩
    rcases List.mem_append.1 y with y | y
    · have := l2 q hq; have := hQ q y; omega
    · exact z.2.2.1 y
  · have z := h.nk q hq
    refine ⟨z.1, fun y => ?_, z.2.2⟩
    rcases List.mem_append.1 y with y | y
    · have := l3 q hq; have := hQ q y; omega
    · exact z.2.1 y
  · rcases List.mem_append.1 hq with y | y
    · exact (hQ q y).2
    · exact h1.bl q y
  · have z := h.tn q hq
    refine ⟨z.1, z.2.1, z.2.2.1, z.2.2.2.1, fun y => ?_, z.2.2.2.2.2⟩
    rcases List.mem_append.1 y with y | y
    · have := h.tr.lt hq; have := hQ q y; omega
    · exact z.2.2.2.2.1 y
/-- a call of the code's link -/
theorem PY.code (h : PY W w B ga s V K L gr t VR KR gk va vb es us P nilV []) (r : LRes w w1 ga (fr ga V K) L s' V' K' L') : PY W w1 B ga s' V' K' L' gr t VR KR gk va vb es us P nilV [] ∧ KeepsB B w w1 := by
  have l2 := h.r.flt
  have l3 := h.k.ltF
  refine ⟨⟨Touch.acc h.base r.t (fun q hq => (h.na q hq).1), r.x, h.r.touch r.t (fun q hq z => (h.na q z).2.1 hq), h.k.touch r.t (fun q hq z => (h.na q z).2.2.1 hq) (fun q hq z => (h.na q z).2.2.2.2 hq), fun q hq => ?_, fun q hq => ?_, fun q hq => ?_, fun q hq => Nat.lt_of_lt_of_le (h.bl q hq) r.t.size, rowOk_nil _, by simp, by rw [blk_nil]; simp⟩, _, r.t, fun q hq z => (h.na q z).2.2.2.1 hq⟩
  · rcases r.f q hq with z | z
    · exact h.na q z
    · have hb := h.base.size
      exact ⟨by omega, fun y => by have := l2 q y; omega, fun y => by have := l3 q y; omega, fun y => by have := h.bl q y; omega, fun y => by have := h.k.plt q y; omega⟩
  · have z := h.nr q hq
    refine ⟨z.1, z.2.1, z.2.2.1, z.2.2.2.1, fun y => ?_⟩
    rcases r.l q y with y | y
    · exact z.2.2.2.2 y
    · have := l2 q hq; omega
  · have z := h.nk q hq
    refine ⟨z.1, z.2.1, fun y => ?_⟩
    rcases r.l q y with y | y
    · exact z.2.2 y
    · have := l3 q hq; omega
/-- a call of the code's link that tells letters -/
theorem PY.tell {T : Option Addr} {c : Nat} (h : PY W w B ga s V K L gr t VR KR gk va vb es us P nilV []) (r : LRes w w1 ga (fr ga V K) L s' V' K' L') (row : w1.ownsRow w.heap.size 51 21 (.slice T ts.length c) ts.length (rowC LR.cells ts)) (hat : ∀ r ∈ ts, r.At w1 L')
    (hn : ∀ b, (Value.slice T ts.length c).ownBlock = some b → b ∉ fr ga V' K' ∧ b ∉ L') : PY W w1 B ga s' V' K' L' gr t VR KR gk va vb es us P (.slice T ts.length c) ts ∧ KeepsB B w w1 := by
  obtain ⟨h1, h2⟩ := h.code r
  have l2 := h.r.flt
  have l3 := h.k.ltF
  have hb := h.base.size
  refine ⟨⟨h1.base, h1.a, h1.r, h1.k, h1.na, h1.nr, h1.nk, h1.bl, ⟨T, c, rfl, lk_base row (Nat.zero_le _)⟩, hat, fun q hq => ?_⟩, h2⟩
  have hq := Lb.mem_blk.1 hq
  have y := (row.lt q hq).1
  exact ⟨by omega, (hn q hq).1, fun z => by have := l2 q z; omega, fun z => by have := l3 q z; omega, fun z => by have := h.bl q z; omega, (hn q hq).2, fun z => by have := h.k.plt q z; omega⟩
/-- a call of the document's link -/
theorem PY.ref (h : PY W w B ga s V K L gr t VR KR gk va vb es us P tv ts) (r : RStep w w1 gr VR KR t') : ∃ VR' KR', PY W w1 B ga s V K L gr t' VR' KR' gk va vb es us P tv ts ∧ KeepsB B w w1 := by
  obtain ⟨rt, VR', KR', rx, rf⟩ := r
  have l1 := h.a.flt
  have l3 := h.k.ltF
  have hb := h.base.size
  have gm : gr ∈ fr gr VR KR := by simp [fr]
  have g1 := h.nr gr gm
  have gt : gr ∉ Lb.blk tv := fun z => (h.tn gr z).2.2.1 gm
  refine ⟨VR', KR', ⟨Touch.acc h.base rt (fun q hq => by simp at hq; subst hq; exact g1.1), h.a.touch rt (fun q hq z => by simp at z; subst z; exact (h.na q hq).2.1 gm) (fun q hq z => by simp at z; subst z; exact g1.2.2.2.2 hq), rx, h.k.touch rt (fun q hq z => by simp at z; subst z; exact g1.2.1 hq) (fun q hq z => by simp at z; subst z; exact g1.2.2.2.1 hq), fun q hq => ?_, fun q hq => ?_, h.nk, fun q hq => Nat.lt_of_lt_of_le (h.bl q hq) rt.size, h.tr.touch rt (fun q hq z => by simp at z; subst z; exact gt hq), fun r hr => (h.ta r hr).touch rt (fun q hq z => by simp at z; subst z; exact g1.2.2.2.2 hq), fun q hq => ?_⟩, _, rt, fun q hq z => by simp at z; subst z; exact g1.2.2.1 hq⟩
  · have z := h.na q hq
    refine ⟨z.1, fun y => ?_, z.2.2⟩
    rcases rf q y with y | y
    · exact z.2.1 y
    · have := l1 q hq; omega
  · rcases rf q hq with z | z
    · exact h.nr q z
    · exact ⟨by omega, fun y => by have := l3 q y; omega, fun y => by have := h.bl q y; omega, fun y => by have := h.k.plt q y; omega, fun y => by have := h.a.lt q y; omega⟩
  · have z := h.tn q hq
    refine ⟨z.1, z.2.1, fun y => ?_, z.2.2.2⟩
    rcases rf q y with y | y
    · exact z.2.2.1 y
    · have := h.tr.lt hq; omega
/-- what was told goes into the book -/
theorem PY.book (h : PY W w B ga s V K L gr t VR KR gk va vb es us P tv ts) (hs : ∀ r ∈ ts, r.Sm) (he : es.length < 250) (hl : ts.length ≤ 100000) :
    Calls Try.prog 19 #[.pointer (some ⟨gk, 0, none⟩), tv] w fun e w' => e = .returned (.tuple #[]) ∧ ∃ va' vb' us' P', PY W w' B ga s V K L gr t VR KR gk va' vb' (es ++ [(tv, ts)]) us' P' nilV [] ∧ KeepsB B w w' := by
  have hkm : Lb.BK w gk va vb es us (P ++ L) := h.k.more (fun q hq => List.mem_append_left _ hq) (fun q hq => (List.mem_append.1 hq).elim (h.k.plt q) (h.a.lt q)) (fun q hq => (List.mem_append.1 hq).elim (h.k.pout q) (fun z y => (h.nk q y).2.2 z))
  obtain ⟨A, c, e1, hr⟩ := h.tr
  have e1 : tv = .slice A ts.length c := e1
  subst e1
  have hbf : ∀ q ∈ Lb.blk (.slice A ts.length c), q ≠ gk ∧ q ∉ Lb.blk va ∧ q ∉ Lb.blk vb ∧ q ∉ Lb.fps es := fun q hq => by
    have z := (h.tn q hq).2.2.2.1
    simp only [Lb.BF, List.mem_cons, List.mem_append, not_or] at z
    exact ⟨z.1, z.2.1, z.2.2.1, z.2.2.2.1⟩
  refine (Lb.bookLetters_any gk va vb es us A c ts (P ++ L) w hkm hr hbf (fun q hq z => ?_) (fun r hr => (h.ta r hr).mono (fun q hq => List.mem_append_right _ hq)) hs he hl).mono ?_
  · have y := (h.tn q hq).2.2.2.2.2
    exact (List.mem_append.1 z).elim y.2 y.1
  · rintro e w' ⟨rfl, va', vb', u, ms, Q, k1, k2, k3, k4⟩
    have inB : ∀ q ∈ gk :: (Lb.blk va ++ Lb.blk vb), q ∈ Lb.BF gk va vb es us := fun q hq => by
      simp only [Lb.BF, List.mem_cons, List.mem_append] at hq ⊢
      rcases hq with z | z | z
      · exact .inl z
      · exact .inr (.inl z)
      · exact .inr (.inr (.inl z))
    have l1 := h.a.flt
    have l2 := h.r.flt
    have hb := h.base.size
    refine ⟨rfl, va', vb', us ++ [(u, ms)], (P ++ L) ++ Q, ⟨Touch.acc h.base k2 (fun q hq => (h.nk q (inB q hq)).1), h.a.touch k2 (fun q hq z => (h.na q hq).2.2.1 (inB q z)) (fun q hq z => (h.nk q (inB q z)).2.2 hq), h.r.touch k2 (fun q hq z => (h.nr q hq).2.1 (inB q z)), k1, fun q hq => ?_, fun q hq => ?_, fun q hq => ?_, fun q hq => Nat.lt_of_lt_of_le (h.bl q hq) k2.size, rowOk_nil _, by simp, by rw [blk_nil]; simp⟩, _, k2, fun q hq z => (h.nk q (inB q z)).2.1 hq⟩
    · have z := h.na q hq
      refine ⟨z.1, z.2.1, fun y => ?_, z.2.2.2.1, fun y => ?_⟩
      · rcases k4 q y with y | y | y
        · exact z.2.2.1 y
        · exact (h.tn q y).2.1 hq
        · have := l1 q hq; omega
      · rcases List.mem_append.1 y with y | y
        · rcases List.mem_append.1 y with y | y
          · exact z.2.2.2.2 y
          · have h9 := h.a.lf q y
            rcases mem_fr.1 hq with e | e | e
            · exact h9.1 e
            · exact h9.2.1 e
            · exact h9.2.2 e
        · have := k3 q y; have := l1 q hq; omega
    · have z := h.nr q hq
      refine ⟨z.1, fun y => ?_, z.2.2.1, fun y => ?_, z.2.2.2.2⟩
      · rcases k4 q y with y | y | y
        · exact z.2.1 y
        · exact (h.tn q y).2.2.1 hq
        · have := l2 q hq; omega
      · rcases List.mem_append.1 y with y | y
        · rcases List.mem_append.1 y with y | y
          · exact z.2.2.2.1 y
          · exact z.2.2.2.2 y
        · have := k3 q y; have := l2 q hq; omega
    · rcases k4 q hq with y | y | y
      · exact h.nk q y
      · have z := h.tn q y
        exact ⟨z.1, z.2.2.2.2.1, z.2.2.2.2.2.1⟩
      · exact ⟨by omega, fun z => by have := h.bl q z; omega, fun z => by have := h.a.lt q z; omega⟩
end
def PX (W w : World) (B : List Nat) (ga gr gk : Nat) (s : LS) (t : RL) (es : List (Value × List LR)) (tv : Value) (ts : List LR) : Prop := ∃ V K L VR KR va vb us P, PY W w B ga s V K L gr t VR KR gk va vb es us P tv ts
section
variable {W w w1 : World} {B : List Nat} {ga gr gk : Nat} {s s' : LS} {t t' : RL} {es : List (Value × List LR)} {tv : Value} {ts : List LR}
theorem PX.below (h : PX W w B ga gr gk s t es tv ts) (hb : Below w.heap.size w w1) : PX W w1 B ga gr gk s t es tv ts := by
  obtain ⟨V, K, L, VR, KR, va, vb, us, P, y⟩ := h
  exact ⟨V, K, L, VR, KR, va, vb, us, P, y.below hb⟩
theorem PX.less {B' : List Nat} (h : PX W w B ga gr gk s t es tv ts) (hB : ∀ q ∈ B', q ∈ B) : PX W w B' ga gr gk s t es tv ts := by
  obtain ⟨V, K, L, VR, KR, va, vb, us, P, y⟩ := h
  exact ⟨V, K, L, VR, KR, va, vb, us, P, y.less hB⟩
theorem PX.out {Q : List Nat} (h : PX W w B ga gr gk s t es tv ts) (hb : Below w.heap.size w w1) (hQ : ∀ q ∈ Q, w.heap.size ≤ q ∧ q < w1.heap.size) : PX W w1 (Q ++ B) ga gr gk s t es tv ts := by
  obtain ⟨V, K, L, VR, KR, va, vb, us, P, y⟩ := h
  exact ⟨V, K, L, VR, KR, va, vb, us, P, y.out hb hQ⟩
theorem PX.box (h : PX W w B ga gr gk s t es tv ts) (old cs : Array Value) (T : TypeId) : PX W ((w.alloc (.cells old T)).setRow w.heap.size cs) (w.heap.size :: B) ga gr gk s t es tv ts ∧ ((w.alloc (.cells old T)).setRow w.heap.size cs).heap[w.heap.size]? = some (.cells cs T) := by
  have hr := bg_row cs (heap_alloc_new w (.cells old T))
  exact ⟨h.out (Q := [w.heap.size]) (bg_new w old cs T) (fun q hq => by simp at hq; subst hq; exact ⟨Nat.le_refl _, bg_lt hr⟩), hr⟩
theorem PX.base (h : PX W w B ga gr gk s t es tv ts) : Below W.heap.size W w := by
  obtain ⟨V, K, L, VR, KR, va, vb, us, P, y⟩ := h
  exact y.base
theorem PX.waits (h : PX W w B ga gr gk s t es tv ts) : Calls Try.prog 21 #[.pointer (some ⟨ga, 0, none⟩)] w fun e w' => e = .returned (.int .i64 (s.waits.length : Nat)) ∧ w' = w := by
  obtain ⟨V, K, L, VR, KR, va, vb, us, P, y⟩ := h
  exact waits_any y.a
theorem PX.came (h : PX W w B ga gr gk s t es tv ts) : Calls Try.prog 22 #[.pointer (some ⟨ga, 0, none⟩)] w fun e w' => e = .returned (.int .i64 (s.came : Nat)) ∧ w' = w := by
  obtain ⟨V, K, L, VR, KR, va, vb, us, P, y⟩ := h
  exact came_any y.a
theorem PX.rest (h : PX W w B ga gr gk s t es tv ts) : Calls Try.prog 23 #[.pointer (some ⟨ga, 0, none⟩)] w fun e w' => e = .returned (.bool s.rest) ∧ w' = w := by
  obtain ⟨V, K, L, VR, KR, va, vb, us, P, y⟩ := h
  exact rest_any y.a
/-- the document's link is read -/
theorem PX.reads (h : PX W w B ga gr gk s t es tv ts) : w.cell? ⟨gr, 2, none⟩ = some (.int .i64 (t.sent : Nat)) ∧ (∃ A c, w.cell? ⟨gr, 3, none⟩ = some (.slice A t.out.length c)) ∧ w.cell? ⟨gr, 4, none⟩ = some (.int .i64 (t.came : Nat)) ∧ ∃ A c, w.cell? ⟨gr, 5, none⟩ = some (.slice A t.kept.length c) := by
  obtain ⟨V, K, L, VR, KR, va, vb, us, P, y⟩ := h
  obtain ⟨A, c, e1⟩ := own_slice y.r.v
  obtain ⟨A2, c2, e2⟩ := own_slice y.r.k
  have hg := y.r.hg
  rw [e1, e2] at hg
  exact ⟨bg_cell hg rfl, ⟨A, c, bg_cell hg rfl⟩, bg_cell hg rfl, A2, c2, bg_cell hg rfl⟩
theorem PX.send (h : PX W w B ga gr gk s t es nilV []) (hok : s.Ok) (n : Int) :
    Calls Try.prog 13 #[.pointer (some ⟨ga, 0, none⟩), .agg (ltCells 1 n)] w fun e w' => e = .returned (.agg (lpCells s.me s.peer ((s.sent : Int) + 1) (s.came : Nat) 1 n)) ∧ PX W w' B ga gr gk (s.push (LR.light 1 n)) t es nilV [] ∧ KeepsB B w w' := by
  obtain ⟨V, K, L, VR, KR, va, vb, us, P, y⟩ := h
  refine (send_any y.a hok (LR.light 1 n) ⟨SlAt.nil w, SlAt.nil w⟩ (fun q hq => by simp [LR.blocks, Value.ownBlock] at hq) (light_sm 1 n)).mono ?_
  rintro e w' ⟨r1, r2, rfl, h1, h2, ht, V', K', L', h3, h4, h5, h6⟩
  obtain rfl := h1.light
  obtain rfl := h2.light
  obtain ⟨k1, k2⟩ := y.code ⟨ht, h3, h4, h5⟩
  exact ⟨rfl, ⟨_, _, _, _, _, _, _, _, _, k1⟩, k2⟩
/-- all that waits is light -/
def LtW (s : LS) : Prop := ∀ x ∈ s.waits, ∃ k i, x.1 = LR.light k i
theorem mk_numb (me peer : Int) (a : Nat) : ∀ (f : Nat) (ws : List (LR × Nat)), mkPs me peer (f : Nat) (a : Nat) (ws.map (·.1)) = (numb f ws).map fun x => (⟨me, peer, (x.1 : Nat), (a : Nat), x.2.2⟩ : PR) := by
  intro f ws
  apply List.ext_getElem?
  intro i
  rw [mkPs, List.getElem?_map, List.getElem?_zipIdx, List.getElem?_map, List.getElem?_map]
  cases hx : ws[i]? with
  | none =>
    have : (numb f ws)[i]? = none := by
      rw [List.getElem?_eq_none_iff, numb_length]
      exact List.getElem?_eq_none_iff.1 hx
    rw [this]
    rfl
  | some x =>
    rw [numb_get f ws i x hx]
    simp
theorem PX.tickNot (h : PX W w B ga gr gk s t es nilV []) (hok : s.Ok) (hd : s.due = false) :
    Calls Try.prog 15 #[.pointer (some ⟨ga, 0, none⟩)] w fun e w' => e = .returned (.slice none 0 0) ∧ PX W w' B ga gr gk s.tick t es nilV [] ∧ KeepsB B w w' := by
  obtain ⟨V, K, L, VR, KR, va, vb, us, P, y⟩ := h
  refine (tickNot_any y.a hok hd).mono ?_
  rintro e w' ⟨rfl, h1, h2⟩
  obtain ⟨k1, k2⟩ := y.code ⟨h2.mono (fun q hq => by simp at hq; subst hq; simp [fr]), h1, fun _ z => .inl z, fun _ z => .inl z⟩
  exact ⟨rfl, ⟨_, _, _, _, _, _, _, _, _, k1⟩, k2⟩
theorem PX.tickDue (h : PX W w B ga gr gk s t es nilV []) (hok : s.Ok) (hl : LtW s) (hd : s.due = true) :
    Calls Try.prog 15 #[.pointer (some ⟨ga, 0, none⟩)] w fun e w' => ∃ T c, e = .returned (.slice T s.waits.length c) ∧ PX W w' ((Value.slice T s.waits.length c).ownBlock.toList ++ B) ga gr gk s.again t es nilV [] ∧ KeepsB B w w' ∧
      w'.ownsRow w.heap.size 53 25 (.slice T s.waits.length c) s.waits.length (rowC PR.cells ((numb (s.sent - s.waits.length + 1) s.waits).map fun x => (⟨s.me, s.peer, (x.1 : Nat), (s.came : Nat), x.2.2⟩ : PR))) := by
  obtain ⟨V, K, L, VR, KR, va, vb, us, P, y⟩ := h
  refine (tickDue_any y.a hok (fun x hx => by obtain ⟨k, i, e⟩ := hl x hx; rw [e]; exact light_sm _ _) hd).mono ?_
  rintro e w' ⟨T, c, rs, rfl, h1, h2, h3, h4, h5, h6⟩
  obtain ⟨k1, k2⟩ := y.code ⟨h2, h1, fun _ z => .inl z, fun _ z => .inl z⟩
  have hrs : rs = s.waits.map (·.1) := by
    apply List.ext_getElem?
    intro i
    rw [List.getElem?_map]
    cases hx : s.waits[i]? with
    | none =>
      rw [List.getElem?_eq_none_iff] at hx
      rw [List.getElem?_eq_none_iff.2 (by omega)]
      rfl
    | some x =>
      have hi := (List.getElem?_eq_some_iff.1 hx).1
      have hr : rs[i]? = some (rs[i]'(by omega)) := List.getElem?_eq_getElem _
      have h9 := h5 i _ x hr hx
      obtain ⟨k, j, e⟩ := hl x (List.mem_of_getElem? hx)
      rw [e] at h9
      rw [hr, h9.light, ← e]
      rfl
  have hw := hok.waits
  rw [hrs, show (s.sent : Int) - (s.waits.length : Nat) + 1 = ((s.sent - s.waits.length + 1 : Nat) : Int) by omega, mk_numb] at h3
  refine ⟨T, c, rfl, ⟨V, K, L, VR, KR, va, vb, us, P, ?_⟩, k2, h3⟩
  have l1 := y.a.flt
  have l2 := y.r.flt
  have l3 := y.k.ltF
  have lo := h3.lt
  refine ⟨k1.base, k1.a, k1.r, k1.k, fun q hq => ?_, fun q hq => ?_, fun q hq => ?_, fun q hq => ?_, k1.tr, k1.ta, by rw [blk_nil]; simp⟩
  · have z := k1.na q hq
    refine ⟨z.1, z.2.1, z.2.2.1, fun u => ?_, z.2.2.2.2⟩
    rcases List.mem_append.1 u with u | u
    · have := lo q (by simpa using u); have := l1 q hq; omega
    · exact z.2.2.2.1 u
  · have z := k1.nr q hq
    refine ⟨z.1, z.2.1, fun u => ?_, z.2.2.2⟩
    rcases List.mem_append.1 u with u | u
    · have := lo q (by simpa using u); have := l2 q hq; omega
    · exact z.2.2.1 u
  · have z := k1.nk q hq
    refine ⟨z.1, fun u => ?_, z.2.2⟩
    rcases List.mem_append.1 u with u | u
    · have := lo q (by simpa using u); have := l3 q hq; omega
    · exact z.2.1 u
  · rcases List.mem_append.1 hq with u | u
    · exact (lo q (by simpa using u)).2
    · exact k1.bl q u
theorem PX.gotNot (h : PX W w B ga gr gk s t es nilV []) (p : PR) (hp : ¬ s.takes p) :
    Calls Try.prog 17 #[.pointer (some ⟨ga, 0, none⟩), .agg p.cells] w fun e w' => e = .returned (.tuple #[.slice none 0 0, .agg (lpCells 0 0 0 0 0 0), .bool false]) ∧ PX W w' B ga gr gk s t es nilV [] ∧ KeepsB B w w' := by
  obtain ⟨V, K, L, VR, KR, va, vb, us, P, y⟩ := h
  refine (gotNot_any y.a p hp).mono ?_
  rintro e w' ⟨rfl, hb⟩
  exact ⟨rfl, ⟨_, _, _, _, _, _, _, _, _, y.below hb⟩, .below hb⟩
theorem PX.gotAck (h : PX W w B ga gr gk s t es nilV []) (hok : s.Ok) (p : PR) (hp : s.takes p) (hq : p.s = 0) :
    Calls Try.prog 17 #[.pointer (some ⟨ga, 0, none⟩), .agg p.cells] w fun e w' => e = .returned (.tuple #[.slice none 0 0, .agg (lpCells 0 0 0 0 0 0), .bool true]) ∧ PX W w' B ga gr gk (s.known p.a) t es nilV [] ∧ KeepsB B w w' := by
  obtain ⟨V, K, L, VR, KR, va, vb, us, P, y⟩ := h
  refine (gotAck_any y.a hok p hp hq).mono ?_
  rintro e w' ⟨rfl, V', K', L', r⟩
  obtain ⟨k1, k2⟩ := y.code r
  exact ⟨rfl, ⟨_, _, _, _, _, _, _, _, _, k1⟩, k2⟩
theorem PX.gotNew (h : PX W w B ga gr gk s t es nilV []) (hok : s.Ok) (hkl : s.kept.length < 90000) (p : PR) (q : Nat) (hp : s.takes p) (hq : p.s = (q : Nat)) (hq0 : 0 < q) (hqm : q ≤ 9223372036854775807) (ha : SlAt W p.r.a p.r.l.ti) (hb : SlAt W p.r.b p.r.l.li) (hsm : p.r.Sm) :
    Calls Try.prog 17 #[.pointer (some ⟨ga, 0, none⟩), .agg p.cells] w fun e w' => ∃ r1 ts c' ks' T c, AlikeP p.r r1 ∧ Follows (s.took p.a q r1).came (s.took p.a q r1).kept ts c' ks' ∧ e = .returned (.tuple #[.slice T ts.length c, .agg (lpCells s.me s.peer 0 (c' : Nat) 0 0), .bool true]) ∧
      PX W w' B ga gr gk {(s.took p.a q r1) with came := c', kept := ks'} t es (.slice T ts.length c) ts ∧ KeepsB B w w' := by
  obtain ⟨V, K, L, VR, KR, va, vb, us, P, y⟩ := h
  have hz := y.base.size
  have hbl := Lv.live_lt ha hb
  refine (Lv.gotNew_any y.a hok hkl p q hp hq hq0 hqm ⟨⟨ha.below y.base, hb.below y.base⟩, fun z hz2 => ⟨by have := hbl z hz2; omega, fun u => by have := (y.na z u).1; have := hbl z hz2; omega⟩, hsm⟩).mono ?_
  rintro e w' ⟨r1, ts, c', ks', T, c, V', K', L', h1, h2, rfl, h3, h4, h5, h6⟩
  obtain ⟨k1, k2⟩ := y.tell h3 h4 h5 h6
  exact ⟨r1, ts, c', ks', T, c, h1, h2, rfl, ⟨_, _, _, _, _, _, _, _, _, k1⟩, k2⟩
theorem PX.rsend (h : PX W w B ga gr gk s t es tv ts) (hsent : t.sent ≤ 1000000) (hlen : t.out.length ≤ 1000000) (hlo : ∀ x ∈ t.out, x.2.2.sl) (n : Int) :
    Calls Try.prog 14 #[.pointer (some ⟨gr, 0, none⟩), .agg (ltCells 1 n)] w fun e w' => e = .returned (.agg (lpCells t.me t.peer ((t.sent : Int) + 1) (t.came : Nat) 1 n)) ∧ PX W w' B ga gr gk s {t with sent := t.sent + 1, out := t.out ++ [(t.sent + 1, t.now, LR.light 1 n)]} es tv ts ∧ KeepsB B w w' := by
  obtain ⟨V, K, L, VR, KR, va, vb, us, P, y⟩ := h
  refine (refSend_any y.r hsent hlen hlo (LR.light 1 n) (light_sl 1 n)).mono ?_
  rintro e w' ⟨V', rfl, h1, h2, h3⟩
  obtain ⟨VR', KR', k1, k2⟩ := y.ref ⟨h1, V', KR, h2, fun q hq => by
    rcases mem_fr.1 hq with e | e | e
    · exact .inl (mem_fr.2 (.inl e))
    · exact .inr (h3 q e)
    · exact .inl (mem_fr.2 (.inr (.inr e)))⟩
  exact ⟨rfl, ⟨_, _, _, _, _, _, _, _, _, k1⟩, k2⟩
theorem PX.rtickNot (h : PX W w B ga gr gk s t es tv ts) (hnow : t.now ≤ 1000000) (hat : ∀ x ∈ t.out, x.2.1 ≤ 1000000) (hlo : t.out.length ≤ 1000000) (hd : t.due = false) :
    Calls Try.prog 16 #[.pointer (some ⟨gr, 0, none⟩)] w fun e w' => e = .returned (.slice none 0 0) ∧ PX W w' B ga gr gk s {t with now := t.now + 1} es tv ts ∧ KeepsB B w w' := by
  obtain ⟨V, K, L, VR, KR, va, vb, us, P, y⟩ := h
  refine (refTickNot_any y.r hnow hat hlo hd).mono ?_
  rintro e w' ⟨rfl, h1, h2⟩
  obtain ⟨VR', KR', k1, k2⟩ := y.ref ⟨h2, _, _, h1, fun _ z => .inl z⟩
  exact ⟨rfl, ⟨_, _, _, _, _, _, _, _, _, k1⟩, k2⟩
theorem PX.rtickDue (h : PX W w B ga gr gk s t es tv ts) (hnow : t.now ≤ 1000000) (hat : ∀ x ∈ t.out, x.2.1 ≤ 1000000) (hlo : t.out.length ≤ 1000000) (hso : ∀ x ∈ t.out, x.2.2.sl) (hd : t.due = true) :
    Calls Try.prog 16 #[.pointer (some ⟨gr, 0, none⟩)] w fun e w' => ∃ T c, e = .returned (.slice T t.out.length c) ∧ PX W w' B ga gr gk s {t with now := t.now + 1, out := t.out.map fun x => (x.1, t.now + 1, x.2.2)} es tv ts ∧ KeepsB B w w' ∧
      w'.ownsRow w.heap.size 53 25 (.slice T t.out.length c) t.out.length (rowC PR.cells (rps t t.out)) := by
  obtain ⟨V, K, L, VR, KR, va, vb, us, P, y⟩ := h
  refine (refTickDue_any y.r hnow hat hlo hso hd).mono ?_
  rintro e w' ⟨T, c, rfl, h1, h2⟩
  obtain ⟨VR', KR', k1, k2⟩ := y.ref h1
  exact ⟨T, c, rfl, ⟨_, _, _, _, _, _, _, _, _, k1⟩, k2, h2⟩
theorem PX.rgotNot (h : PX W w B ga gr gk s t es tv ts) (p : PR) (hp : ¬ t.takes p) :
    Calls Try.prog 18 #[.pointer (some ⟨gr, 0, none⟩), .agg p.cells] w fun e w' => e = .returned (.tuple #[.slice none 0 0, .agg (lpCells 0 0 0 0 0 0), .bool false]) ∧ PX W w' B ga gr gk s t es tv ts ∧ KeepsB B w w' := by
  obtain ⟨V, K, L, VR, KR, va, vb, us, P, y⟩ := h
  refine (refGotNot_any y.r p hp).mono ?_
  rintro e w' ⟨rfl, hb⟩
  exact ⟨rfl, ⟨_, _, _, _, _, _, _, _, _, y.below hb⟩, .below hb⟩
theorem PX.rgotAck (h : PX W w B ga gr gk s t es tv ts) (hlo : t.out.length ≤ 1000000) (hso : ∀ x ∈ t.out, x.2.2.sl) (p : PR) (hp : t.takes p) (hq : p.s = 0) :
    Calls Try.prog 18 #[.pointer (some ⟨gr, 0, none⟩), .agg p.cells] w fun e w' => e = .returned (.tuple #[.slice none 0 0, .agg (lpCells 0 0 0 0 0 0), .bool true]) ∧ PX W w' B ga gr gk s (t.known p.a) es tv ts ∧ KeepsB B w w' := by
  obtain ⟨V, K, L, VR, KR, va, vb, us, P, y⟩ := h
  refine (refGotAck_any y.r hlo hso p hp hq).mono ?_
  rintro e w' ⟨rfl, r⟩
  obtain ⟨VR', KR', k1, k2⟩ := y.ref r
  exact ⟨rfl, ⟨_, _, _, _, _, _, _, _, _, k1⟩, k2⟩
theorem PX.rgotNew (h : PX W w B ga gr gk s t es tv ts) (hlo : t.out.length ≤ 1000000) (hso : ∀ x ∈ t.out, x.2.2.sl) (p : PR) (hp : t.takes p) (hq0 : 0 < p.s) (hqm : p.s ≤ 9223372036854775807) (hlk : t.kept.length ≤ 900000) (hsk : ∀ x ∈ t.kept, x.r.sl) (hps : p.r.sl) (hcb : t.came ≤ 1000000) :
    Calls Try.prog 18 #[.pointer (some ⟨gr, 0, none⟩), .agg p.cells] w fun e w' => ∃ T c rs c' ks', e = .returned (.tuple #[.slice T rs.length c, .agg (lpCells t.me t.peer 0 (c' : Nat) 0 0), .bool true]) ∧ RFol (t.took p).came (t.took p).kept rs c' ks' ∧
      PX W w' ((Value.slice T rs.length c).ownBlock.toList ++ B) ga gr gk s {t.took p with came := c', kept := ks'} es tv ts ∧ KeepsB B w w' ∧ w'.ownsRow w.heap.size 51 21 (.slice T rs.length c) rs.length (rowC LR.cells rs) := by
  obtain ⟨V, K, L, VR, KR, va, vb, us, P, y⟩ := h
  refine (refGotNew_any y.r hlo hso p hp hq0 hqm hlk hsk hps hcb).mono ?_
  rintro e w' ⟨T, c, rs, c', ks', VR', KR', rfl, h1, h2, h3, h4, h5, h6⟩
  have l1 := y.a.flt
  have l3 := y.k.ltF
  have hb := y.base.size
  have gm : gr ∈ fr gr VR KR := by simp [fr]
  have g1 := y.nr gr gm
  have gt : gr ∉ Lb.blk tv := fun z => (y.tn gr z).2.2.1 gm
  have lo := h5.lt
  refine ⟨T, c, rs, c', ks', rfl, h1, ⟨V, K, L, VR', KR', va, vb, us, P, ⟨Touch.acc y.base h2 (fun q hq => by simp at hq; subst hq; exact g1.1), y.a.touch h2 (fun q hq z => by simp at z; subst z; exact (y.na q hq).2.1 gm) (fun q hq z => by simp at z; subst z; exact g1.2.2.2.2 hq), h3, y.k.touch h2 (fun q hq z => by simp at z; subst z; exact g1.2.1 hq) (fun q hq z => by simp at z; subst z; exact g1.2.2.2.1 hq), fun q hq => ?_, fun q hq => ?_, fun q hq => ?_, fun q hq => ?_, y.tr.touch h2 (fun q hq z => by simp at z; subst z; exact gt hq), fun r hr => (y.ta r hr).touch h2 (fun q hq z => by simp at z; subst z; exact g1.2.2.2.2 hq), fun q hq => ?_⟩⟩, ⟨_, h2, fun q hq z => by simp at z; subst z; exact g1.2.2.1 hq⟩, h5⟩
  · have z := y.na q hq
    refine ⟨z.1, fun u => ?_, z.2.2.1, fun u => ?_, z.2.2.2.2⟩
    · rcases h4 q u with u | u
      · exact z.2.1 u
      · have := l1 q hq; omega
    · rcases List.mem_append.1 u with u | u
      · have := lo q (by simpa using u); have := l1 q hq; omega
      · exact z.2.2.2.1 u
  · have hB : q ∉ (Value.slice T rs.length c).ownBlock.toList := fun u => h6 q (by simpa using u) hq
    rcases h4 q hq with z | z
    · have z := y.nr q z
      exact ⟨z.1, z.2.1, fun u => (List.mem_append.1 u).elim hB z.2.2.1, z.2.2.2⟩
    · exact ⟨by omega, fun u => by have := l3 q u; omega, fun u => (List.mem_append.1 u).elim hB (fun u => by have := y.bl q u; omega), fun u => by have := y.k.plt q u; omega, fun u => by have := y.a.lt q u; omega⟩
  · have z := y.nk q hq
    refine ⟨z.1, fun u => ?_, z.2.2⟩
    rcases List.mem_append.1 u with u | u
    · have := lo q (by simpa using u); have := l3 q hq; omega
    · exact z.2.1 u
  · rcases List.mem_append.1 hq with u | u
    · exact (lo q (by simpa using u)).2
    · exact Nat.lt_of_lt_of_le (y.bl q u) h2.size
  · have z := y.tn q hq
    refine ⟨z.1, z.2.1, fun u => ?_, z.2.2.2.1, fun u => ?_, z.2.2.2.2.2⟩
    · rcases h4 q u with u | u
      · exact z.2.2.1 u
      · have := y.tr.lt hq; omega
    · rcases List.mem_append.1 u with u | u
      · have := lo q (by simpa using u); have := y.tr.lt hq; omega
      · exact z.2.2.2.2.1 u
theorem PX.book (h : PX W w B ga gr gk s t es tv ts) (hs : ∀ r ∈ ts, r.Sm) (he : es.length < 250) (hl : ts.length ≤ 100000) :
    Calls Try.prog 19 #[.pointer (some ⟨gk, 0, none⟩), tv] w fun e w' => e = .returned (.tuple #[]) ∧ PX W w' B ga gr gk s t (es ++ [(tv, ts)]) nilV [] ∧ KeepsB B w w' := by
  obtain ⟨V, K, L, VR, KR, va, vb, us, P, y⟩ := h
  refine (y.book hs he hl).mono ?_
  rintro e w' ⟨rfl, va', vb', us', P', k1, k2⟩
  exact ⟨rfl, ⟨_, _, _, _, _, _, _, _, _, k1⟩, k2⟩
/-- the list that was kept last lies as it lay -/
theorem PX.last {A : Option Addr} {n c : Nat} {l : List LR} (h : PX W w B ga gr gk s t (es ++ [(.slice A n c, l)]) tv ts) : LsAt w A l := by
  obtain ⟨V, K, L, VR, KR, va, vb, us, P, y⟩ := h
  have hm : ((.slice A n c : Value), l) ∈ es ++ [((.slice A n c : Value), l)] := by simp
  obtain ⟨A', c', e1, r1⟩ := Lb.lists_at (y.k.rows _ hm) (y.k.inner _ hm)
  have e1 : Value.slice A n c = .slice A' l.length c' := e1
  injection e1 with e1 _ _
  subst e1
  exact r1
theorem PX.apart (h : PX W w B ga gr gk s t es tv ts) (he : es.length ≤ 250) (hl : ∀ x ∈ es, x.2.length ≤ 90000) :
    Calls Try.prog 24 #[.pointer (some ⟨gk, 0, none⟩)] w fun e w' => e = .returned (.bool true) ∧ Below W.heap.size W w' := by
  obtain ⟨V, K, L, VR, KR, va, vb, us, P, y⟩ := h
  refine (Lb.apart_any gk va vb es us P w y.k he hl).mono ?_
  rintro e w' ⟨rfl, tt⟩
  exact ⟨rfl, Touch.acc y.base tt (fun q hq => (y.nk q (by simp only [Lb.BF, List.mem_cons, List.mem_append]; exact .inr (.inr (.inr (.inl hq))))).1)⟩
end
end Go.Proofs.Ytfemdfidfomchaa
namespace Go.Proofs.Ytfemdfidfomchaa
open Go.ChangeShapes Go.WideShapes Go.ChangeAt Go.RowKit Go.Deep

/-- every list, every text in what was read takes no more than there are addresses -/
def WOk {H : Type} (t : TypeId) (d : DataW H) : Prop := ∀ m ∈ d.weights Try.prog t, m ≤ reachBytes
theorem wAll_mem {H : Type} {e : TypeId} : ∀ {l : List (DataW H)} {d : DataW H} {m : Nat}, d ∈ l → m ∈ d.weights Try.prog e → m ∈ DataW.weightsAll Try.prog e l
  | x :: l, d, m, hd, hm => by
    rw [DataW.weightsAll, List.mem_append]
    rcases List.mem_cons.1 hd with rfl | h
    · exact .inl hm
    · exact .inr (wAll_mem h hm)
theorem wEach_mem {H : Type} : ∀ {ts : List TypeId} {ds : List (DataW H)} {i : Nat} {t : TypeId} {d : DataW H} {m : Nat}, ts[i]? = some t → ds[i]? = some d → m ∈ d.weights Try.prog t → m ∈ DataW.weightsEach Try.prog ts ds
  | t0 :: ts, d0 :: ds, 0, t, d, m, ht, hd, hm => by
    simp at ht hd
    subst ht hd
    rw [DataW.weightsEach, List.mem_append]
    exact .inl hm
  | t0 :: ts, d0 :: ds, i + 1, t, d, m, ht, hd, hm => by
    rw [DataW.weightsEach, List.mem_append]
    exact .inr (wEach_mem (i := i) (by simpa using ht) (by simpa using hd) hm)
  | [], _, _, _, _, _, ht, _, _ => by simp at ht
  | _ :: _, [], _, _, _, _, _, hd, _ => by simp at hd
theorem WOk.field {H : Type} {t : TypeId} {fs : Array Field} {ds : List (DataW H)} (h : WOk t (.agg ds)) (ht : Try.prog.underlying t = some (.struct fs)) {i : Nat} {f : Field} {d : DataW H} (hf : fs[i]? = some f) (hd : ds[i]? = some d) : WOk f.type d := fun m hm => by
  refine h m ?_
  rw [DataW.weights, ht]
  exact wEach_mem (i := i) (by simp [hf]) hd hm
theorem WOk.elem {H : Type} {t e : TypeId} {l s : List (DataW H)} (h : WOk t (.slice l s)) (ht : Try.prog.underlying t = some (.slice e)) {d : DataW H} (hd : d ∈ l) : WOk e d := fun m hm => by
  refine h m ?_
  rw [DataW.weights, ht]
  exact List.mem_cons_of_mem _ (List.mem_append_left _ (wAll_mem hd hm))
theorem WOk.len {H : Type} {t e : TypeId} {l s : List (DataW H)} (h : WOk t (.slice l s)) (ht : Try.prog.underlying t = some (.slice e)) : (l.length + s.length) * Try.prog.bytesOf e ≤ reachBytes := by
  refine h _ ?_
  rw [DataW.weights, ht]
  exact List.mem_cons_self
theorem its_size {H : Type} {enc : TypeId × Value → H} {W : World} {fuel n c : Nat} {A : Option Addr} {x : DataW H × List MemPlace}
    (hf : DataW.trod enc Try.prog W 0 (fun _ => true) true fuel 44 [.slice A n c] = some x) (hw : WOk 44 x.1) : n ≤ 4398046511104 := by
  rcases open_slice Try.underlying44 hf with ⟨hcs, _⟩ | ⟨a, len, cap, m, k, D, Pl, hcs, hb, hl, hm, hmm, hx, hall⟩
  · injection hcs with hcs _
    injection hcs with _ h1 _
    omega
  · injection hcs with hcs _
    injection hcs with _ h1 _
    subst h1
    rw [hx] at hw
    have h2 := hw.len Try.underlying44
    have h3 : Try.prog.bytesOf 108 = 32 := by kernel_rfl
    rw [h3, List.length_map, List.length_range] at h2
    unfold reachBytes at h2
    omega
theorem field_at2 {H : Type} {enc : TypeId × Value → H} {W : World} {n : Nat} {fs : Array Field} {cs : List Value} {xs : List (DataW H × List MemPlace)}
    (hf : ∀ (i : Nat) (f : Field), fs[i]? = some f → DataW.trod enc Try.prog W 0 (fun _ => true) true n f.type ((cs.drop f.offset).take (Try.prog.cellsOf f.type)) = xs[i]?)
    (i : Nat) (f : Field) (h : fs[i]? = some f) (hlt : i < xs.length) (T : TypeId) (off k : Nat) (hT : f.type = T) (ho : f.offset = off) (hk : Try.prog.cellsOf T = k) :
    ∃ y, xs[i]? = some y ∧ DataW.trod enc Try.prog W 0 (fun _ => true) true n T ((cs.drop off).take k) = some y := by
  have e := hf i f h
  rw [hT, ho, hk, List.getElem?_eq_getElem hlt] at e
  exact ⟨_, List.getElem?_eq_getElem hlt, e⟩
theorem WOk.at_ {H : Type} {t : TypeId} {fs : Array Field} {xs : List (DataW H × List MemPlace)} (h : WOk t (.agg (xs.map (·.1)))) (ht : Try.prog.underlying t = some (.struct fs)) (i : Nat) (f : Field) (hf : fs[i]? = some f) {y : DataW H × List MemPlace} (hy : xs[i]? = some y) (T : TypeId) (hT : f.type = T) : WOk T y.1 := by
  subst hT
  exact h.field ht hf (by rw [List.getElem?_map, hy]; rfl)
set_option maxRecDepth 100000 in
theorem told_size {H : Type} {enc : TypeId × Value → H} {W : World} {fuel n c : Nat} {A : Option Addr} {c0 c1 c3 c4 c5 : Value} {x : DataW H × List MemPlace}
    (h : DataW.trod enc Try.prog W 0 (fun _ => true) true fuel 46 [c0, c1, .slice A n c, c3, c4, c5] = some x) (hw : WOk 46 x.1) : n ≤ 4398046511104 := by
  obtain ⟨hxs, hn, -, hx, hl, hll, hf⟩ := DataW.trod_struct Try.underlying46 h
  have hxl : hxs.length = 6 := hll
  rw [hx] at hw
  clear hll h
  obtain ⟨y, hy, e⟩ := field_at2 hf 2 _ rfl (by simp only [hxl]; decide) 44 2 1 rfl rfl (by kernel_rfl)
  have e : DataW.trod enc Try.prog W 0 (fun _ => true) true hn 44 [.slice A n c] = some y := e
  exact its_size e (hw.at_ Try.underlying46 2 _ rfl hy 44 rfl)
set_option maxRecDepth 100000 in
theorem letter_size {H : Type} {enc : TypeId × Value → H} {W : World} {fuel : Nat} {l : LV} {S1 S2 : Value} {x : DataW H × List MemPlace} (h1 : SlAt W S1 l.ti) (h2 : SlAt W S2 l.li)
    (h : DataW.trod enc Try.prog W 0 (fun _ => true) true fuel 51 (l.cells S1 S2).toList = some x) (hw : WOk 51 x.1) : (LR.mk l S1 S2).Sm := by
  obtain ⟨hxs, hn, -, hx, hl, hll, hf⟩ := DataW.trod_struct Try.underlying51 h
  have hxl : hxs.length = 11 := hll
  rw [hx] at hw
  clear hll h
  obtain ⟨A, c, rfl, -, -, -⟩ := h1
  obtain ⟨B, d, rfl, -, -, -⟩ := h2
  obtain ⟨y5, hy5, e5⟩ := field_at2 hf 5 _ rfl (by simp only [hxl]; decide) 46 9 6 rfl rfl (by kernel_rfl)
  have e5 : DataW.trod enc Try.prog W 0 (fun _ => true) true hn 46 [.int .i64 l.er, .string l.tv, .slice A l.ti.length c, .bool l.more, .string l.nx, .int .i64 l.tn] = some y5 := e5
  obtain ⟨y8, hy8, e8⟩ := field_at2 hf 8 _ rfl (by simp only [hxl]; decide) 44 18 1 rfl rfl (by kernel_rfl)
  have e8 : DataW.trod enc Try.prog W 0 (fun _ => true) true hn 44 [.slice B l.li.length d] = some y8 := e8
  exact ⟨told_size e5 (hw.at_ Try.underlying51 5 _ rfl hy5 46 rfl), its_size e8 (hw.at_ Try.underlying51 8 _ rfl hy8 44 rfl)⟩
/-- something that is done at one end -/
structure OpV where
  k : Int
  n : Int
  p : PR
abbrev opE (x : OpV) : Array Value := #[.int .i64 x.k, .int .i64 x.n, .int .i64 x.p.f, .int .i64 x.p.t, .int .i64 x.p.s, .int .i64 x.p.a, .int .i64 x.p.r.l.k, .int .i64 x.p.r.l.f, .int .i64 x.p.r.l.t, .int .i64 x.p.r.l.i, .int .i64 x.p.r.l.op, .string x.p.r.l.key, .string x.p.r.l.val, .string x.p.r.l.kto, .int .i64 x.p.r.l.most, .int .i64 x.p.r.l.er, .string x.p.r.l.tv, x.p.r.a, .bool x.p.r.l.more, .string x.p.r.l.nx, .int .i64 x.p.r.l.tn, .int .u64 (x.p.r.l.af : Nat), .int .u64 (x.p.r.l.au : Nat), .int .i64 x.p.r.l.ep, x.p.r.b, .int .i64 x.p.r.l.n, .int .i64 x.p.r.l.nd]
structure OpV.Ok (W : World) (x : OpV) : Prop where
  k : i64B x.k
  n : i64B x.n
  f : i64B x.p.f
  t : i64B x.p.t
  s : i64B x.p.s
  a : i64B x.p.a
  sa : SlAt W x.p.r.a x.p.r.l.ti
  sb : SlAt W x.p.r.b x.p.r.l.li
  sm : x.p.r.Sm
instance : Inhabited OpV := ⟨⟨0, 0, PR.zero⟩⟩
/-- they lie one behind another -/
def OpsAt (W : World) (A : Option Addr) (os : List OpV) : Prop := ∃ q o, ∀ i x, os[i]? = some x → A = some ⟨q, o, none⟩ ∧ q < W.heap.size ∧ W.rangeAt q (o + i * 27) (opE x).toList ∧ x.Ok W
theorem len_op {cs : List Value} (h : cs.length = 27) : ∃ a b c, cs = a :: b :: c ∧ c.length = 25 := by
  match cs, h with
  | a :: b :: c, h => exact ⟨a, b, c, rfl, by simpa using h⟩
set_option maxRecDepth 100000 in
theorem open_op_cells {H : Type} {enc : TypeId × Value → H} {W : World} {fuel : Nat} {cs : List Value} {x : DataW H × List MemPlace}
    (h : DataW.trod enc Try.prog W 0 (fun _ => true) true fuel 55 cs = some x) (hw : WOk 55 x.1) : ∃ o : OpV, cs = (opE o).toList ∧ o.Ok W := by
  obtain ⟨hxs, hn, -, hx, hl, hll, hf⟩ := DataW.trod_struct Try.underlying55 h
  have hl : cs.length = 27 := hl.trans (by kernel_rfl)
  have hxl : hxs.length = 3 := hll
  rw [hx] at hw
  clear hll h
  obtain ⟨c0, c1, cs, rfl, hcl⟩ := len_op hl
  obtain ⟨y0, g0⟩ := field_at hf 0 _ rfl (by simp only [hxl]; decide) 3 0 1 rfl rfl (by kernel_rfl)
  have g0 : DataW.trod enc Try.prog W 0 (fun _ => true) true hn 3 [c0] = some y0 := g0
  obtain ⟨y1, g1⟩ := field_at hf 1 _ rfl (by simp only [hxl]; decide) 3 1 1 rfl rfl (by kernel_rfl)
  have g1 : DataW.trod enc Try.prog W 0 (fun _ => true) true hn 3 [c1] = some y1 := g1
  obtain ⟨y2, hy2, e20⟩ := field_at2 hf 2 _ rfl (by simp only [hxl]; decide) 53 2 25 rfl rfl (by kernel_rfl)
  have e2 : DataW.trod enc Try.prog W 0 (fun _ => true) true hn 53 cs = some y2 := by
    have e3 : DataW.trod enc Try.prog W 0 (fun _ => true) true hn 53 (cs.take 25) = some y2 := e20
    rw [List.take_of_length_le (by omega)] at e3
    exact e3
  clear e20
  obtain ⟨k, eq_k, -, wk⟩ := DataW.trod_int Try.underlying3 g0
  injection eq_k with eq_k _; subst eq_k
  obtain ⟨n, eq_n, -, wn⟩ := DataW.trod_int Try.underlying3 g1
  injection eq_n with eq_n _; subst eq_n
  obtain ⟨q, S1, S2, ec, hF, h1, h2⟩ := open_packet_cells e2
  have hwp : WOk 53 y2.1 := hw.at_ Try.underlying55 2 _ rfl hy2 53 rfl
  have hsm : (LR.mk q.lt S1 S2).Sm := by
    rw [ec] at e2
    obtain ⟨zxs, zn, -, zx, -, zll, zf⟩ := DataW.trod_struct Try.underlying53 e2
    have zxl : zxs.length = 5 := zll
    rw [zx] at hwp
    clear zll e2
    obtain ⟨y, hy, e⟩ := field_at2 zf 4 _ rfl (by simp only [zxl]; decide) 51 4 21 rfl rfl (by kernel_rfl)
    have e : DataW.trod enc Try.prog W 0 (fun _ => true) true zn 51 (q.lt.cells S1 S2).toList = some y := e
    exact letter_size h1 h2 e (hwp.at_ Try.underlying53 4 _ rfl hy 51 rfl)
  refine ⟨⟨k, n, ⟨q.pf, q.pt, q.sq, q.ak, ⟨q.lt, S1, S2⟩⟩⟩, by rw [ec], ⟨wf_i64 wk, wf_i64 wn, hF.pfB, hF.ptB, hF.sqB, hF.akB, h1, h2, hsm⟩⟩
set_option maxRecDepth 100000 in
theorem open_ops_arg {H : Type} {enc : TypeId × Value → H} {W : World} {base : Nat} {v : Value} {d : DataW H} {p : List MemPlace}
    (hok : Value.okWide Try.prog W .any base 22 v) (h : DataW.Trod enc Try.prog W 0 (fun _ => true) true 22 v d p) (hw : WOk 22 d) :
    ∃ (A : Option Addr) (c : Nat) (os : List OpV), v = .slice A os.length c ∧ os.length ≤ 9223372036854775807 ∧ OpsAt W A os := by
  obtain ⟨fuel, hf⟩ := h
  obtain ⟨A0, n0, c0, rfl⟩ := okWide_slice Try.underlying22 hok
  have hf : DataW.trod enc Try.prog W 0 (fun _ => true) true fuel 22 [.slice A0 n0 c0] = some (d, p) := hf
  rcases open_slice Try.underlying22 hf with ⟨hcs, _⟩ | ⟨a, len, cap, m, n, D, Pl, hcs, hb, hl, hm, hmm, hx, hall⟩
  · injection hcs with hcs _
    injection hcs with h1 h2 h3
    subst h1 h2 h3
    exact ⟨none, 0, [], rfl, by simp, 0, 0, fun i x hx => by simp at hx⟩
  · injection hcs with hcs _
    injection hcs with h1 h2 h3
    subst h1 h2 h3
    simp only [if_true] at hmm
    have ce : Try.prog.cellsOf 55 = 27 := by kernel_rfl
    have hd : d = .slice ((List.range n0).map D) ((List.range (m - n0)).map fun j => D (n0 + j)) := by injection hx
    rw [hd] at hw
    have each : ∀ i, i < n0 → ∃ o : OpV, o.Ok W ∧ ∀ j v, (opE o).toList[j]? = some v → W.cell? ((a.add (i * 27)).add j) = some v := by
      intro i hi
      obtain ⟨cs', h1, h2⟩ := hall i (by omega)
      rw [ce] at h1
      obtain ⟨_, hlen, hcell⟩ := World.cells?_some h1
      obtain ⟨o, e, ho⟩ := open_op_cells h2 (hw.elem Try.underlying22 (List.mem_map.2 ⟨i, List.mem_range.2 hi, rfl⟩))
      refine ⟨o, ho, fun j v hj => ?_⟩
      rw [← e] at hj
      have hj2 := (List.getElem?_eq_some_iff.1 hj).1
      rw [← hj]
      exact hcell j (by omega)
    obtain ⟨f, hf2⟩ := choose_lt each
    refine ⟨some a, c0, (List.range n0).map f, by simp, by simp; unfold maxLen at hm; omega, a.block, a.off, fun i x hx => ?_⟩
    have hi : i < n0 := by have := (List.getElem?_eq_some_iff.1 hx).1; simpa using this
    have hxe : x = f i := by
      rw [List.getElem?_map, List.getElem?_range hi] at hx
      injection hx with hx
      exact hx.symm
    subst hxe
    obtain ⟨o1, o2⟩ := hf2 i hi
    obtain ⟨b, off, spot⟩ := a
    have hc00 := (hf2 0 (by omega)).2 0 _ rfl
    have hspot : spot = none := by simpa [Addr.add] using World.cell?_spot hc00
    subst hspot
    have hc0 := o2 0 _ rfl
    rw [add_plain, add_plain] at hc0
    have hbl := block_lt_of_cell hc0
    refine ⟨rfl, hbl, fun j v hj => ?_, o1⟩
    have := o2 j v hj
    rw [add_plain, add_plain] at this
    exact this
theorem OpsAt.below {W w : World} {A : Option Addr} {os : List OpV} (h : OpsAt W A os) (hb : Below W.heap.size W w) : OpsAt w A os := by
  obtain ⟨q, o, h1⟩ := h
  refine ⟨q, o, fun i x hx => ?_⟩
  obtain ⟨a, b, c, d⟩ := h1 i x hx
  exact ⟨a, Nat.lt_of_lt_of_le b hb.size, range_below c b hb, ⟨d.k, d.n, d.f, d.t, d.s, d.a, d.sa.below hb, d.sb.below hb, d.sm⟩⟩
end Go.Proofs.Ytfemdfidfomchaa
namespace Go.Proofs.Ytfemdfidfomchaa
open Go.RowKit

theorem lbk_made (W : World) : Lb.BK (W.alloc (.cells #[.slice none 0 0, .slice none 0 0, .slice none 0 0, .slice none 0 0, .slice none 0 0, .slice none 0 0, .slice none 0 0, .slice none 0 0, .slice none 0 0, .slice none 0 0, .slice none 0 0, .slice none 0 0, .slice none 0 0, .slice none 0 0] 40)) W.heap.size nilV nilV [] [] [] where
  lt := by simp
  none j hj h6 h7 := by
    have h : j = 0 ∨ j = 1 ∨ j = 2 ∨ j = 3 ∨ j = 4 ∨ j = 5 ∨ j = 6 ∨ j = 7 ∨ j = 8 ∨ j = 9 ∨ j = 10 ∨ j = 11 := by omega
    rcases h with rfl | rfl | rfl | rfl | rfl | rfl | rfl | rfl | rfl | rfl | rfl | rfl <;> go_simp
  c6 := by go_simp
  c7 := by go_simp
  f6 := by go_simp
  f7 := by go_simp
  own6 := World.ownsRow_nil _ _ _ _
  own7 := World.ownsRow_nil _ _ _ _
  rows x hx := by cases hx
  copies x hx := by cases hx
  same := rfl
  apart := by simp [Lb.blk, Lb.fps, Value.ownBlock]
  beside q hq := by cases hq
  inner x hx := by cases hx
  innerU x hx := by cases hx
  plt q hq := by cases hq
  pout q hq := by cases hq
theorem PX.start {W w w1 : World} {me peer : Int} (hb : Below W.heap.size W w) (hN : LNX w1 w.heap.size (LS.new me peer) (.slice none 0 0) (.slice none 0 0) []) (h1 : Below w.heap.size w w1) :
    PX W ((w1.alloc (.cells (rlCells ⟨me, peer, 0, [], 0, [], 0⟩ nilV nilV) 30)).alloc (.cells #[.slice none 0 0, .slice none 0 0, .slice none 0 0, .slice none 0 0, .slice none 0 0, .slice none 0 0, .slice none 0 0, .slice none 0 0, .slice none 0 0, .slice none 0 0, .slice none 0 0, .slice none 0 0, .slice none 0 0, .slice none 0 0] 40)) [] w.heap.size w1.heap.size (w1.heap.size + 1) (LS.new me peer) ⟨me, peer, 0, [], 0, [], 0⟩ [] nilV [] := by
  have b2 : Below w1.heap.size w1 (w1.alloc (.cells (rlCells ⟨me, peer, 0, [], 0, [], 0⟩ nilV nilV) 30)) := (Below.refl _ _).alloc (Nat.le_refl _) _
  have e2 := heap_alloc_new w1 (.cells (rlCells ⟨me, peer, 0, [], 0, [], 0⟩ nilV nilV) 30)
  have hsz : (w1.alloc (.cells (rlCells ⟨me, peer, 0, [], 0, [], 0⟩ nilV nilV) 30)).heap.size = w1.heap.size + 1 := by simp
  obtain ⟨w2, hw2⟩ : ∃ w2, w1.alloc (.cells (rlCells ⟨me, peer, 0, [], 0, [], 0⟩ nilV nilV) 30) = w2 := ⟨_, rfl⟩
  rw [hw2] at b2 e2 hsz ⊢
  have hk := lbk_made w2
  have b3 : Below w2.heap.size w2 (w2.alloc (.cells #[.slice none 0 0, .slice none 0 0, .slice none 0 0, .slice none 0 0, .slice none 0 0, .slice none 0 0, .slice none 0 0, .slice none 0 0, .slice none 0 0, .slice none 0 0, .slice none 0 0, .slice none 0 0, .slice none 0 0, .slice none 0 0] 40)) := (Below.refl _ _).alloc (Nat.le_refl _) _
  obtain ⟨w3, hw3⟩ : ∃ w3, w2.alloc (.cells #[.slice none 0 0, .slice none 0 0, .slice none 0 0, .slice none 0 0, .slice none 0 0, .slice none 0 0, .slice none 0 0, .slice none 0 0, .slice none 0 0, .slice none 0 0, .slice none 0 0, .slice none 0 0, .slice none 0 0, .slice none 0 0] 40) = w3 := ⟨_, rfl⟩
  rw [hw3] at b3 hk ⊢
  have z1 := hb.size
  have z2 := hN.glt
  have hr : RLX w2 w1.heap.size ⟨me, peer, 0, [], 0, [], 0⟩ nilV nilV := ⟨e2, World.ownsRow_nil _ _ _ _, World.ownsRow_nil _ _ _ _, fun q hq => (by cases hq), fun q hq => (by cases hq), fun q hq => (by cases hq)⟩
  have f1 : ∀ (g q : Nat), q ∈ fr g nilV nilV ↔ q = g := fun g q => by simp [fr, Value.ownBlock]
  have f3 : ∀ q : Nat, q ∈ Lb.BF w2.heap.size nilV nilV [] [] ↔ q = w2.heap.size := fun q => by simp [Lb.BF, Lb.blk, Lb.fps, Value.ownBlock]
  rw [← hsz]
  refine ⟨nilV, nilV, [], nilV, nilV, nilV, nilV, [], [], acc (acc (acc hb h1) b2) b3, (hN.below b2).below b3, hr.below b3, hk, fun q hq => ?_, fun q hq => ?_, fun q hq => ?_, by simp, rowOk_nil _, by simp, by rw [blk_nil]; simp⟩
  · rw [f1] at hq
    subst hq
    refine ⟨z1, fun h => ?_, fun h => ?_, by simp, by simp⟩
    · rw [f1] at h; omega
    · rw [f3] at h; omega
  · rw [f1] at hq
    subst hq
    refine ⟨by omega, fun h => ?_, by simp, by simp, by simp⟩
    rw [f3] at h; omega
  · rw [f3] at hq
    subst hq
    exact ⟨by omega, by simp, by simp⟩
/-- what holds behind i steps -/
structure PInv (W : World) (me peer : Int) (s : LS) (t : RL) (es : List (Value × List LR)) (i : Nat) : Prop where
  rel : RelL s t
  m : s.me = me
  p : s.peer = peer
  sent : s.sent ≤ i
  came : s.came + s.kept.length ≤ i
  now : s.now ≤ i
  ats : ∀ x ∈ s.waits, x.2 ≤ i
  lt : LtW s
  kin : ∀ p ∈ t.kept, SlAt W p.r.a p.r.l.ti ∧ SlAt W p.r.b p.r.l.li
  ksm : ∀ x ∈ s.kept, x.2.Sm
  el : es.length ≤ i
  lens : ∀ x ∈ es, x.2.length ≤ 1000
theorem numb_mem : ∀ {f : Nat} {ws : List (LR × Nat)} {x : Nat × Nat × LR}, x ∈ numb f ws → ∃ y ∈ ws, y.2 = x.2.1 ∧ y.1 = x.2.2
  | f, [], x, h => by simp [numb] at h
  | f, y :: ws, x, h => by
    rw [numb] at h
    rcases List.mem_cons.1 h with rfl | h
    · exact ⟨y, by simp, rfl, rfl⟩
    · obtain ⟨z, h1, h2⟩ := numb_mem h
      exact ⟨z, by simp [h1], h2⟩
section
variable {W : World} {me peer : Int} {s : LS} {t : RL} {es : List (Value × List LR)} {i : Nat}
theorem PInv.new (W : World) (me peer : Int) : PInv W me peer (LS.new me peer) ⟨me, peer, 0, [], 0, [], 0⟩ [] 0 :=
  ⟨RelL.new me peer, rfl, rfl, Nat.le_refl _, Nat.le_refl _, Nat.le_refl _, by simp, (fun x hx => by cases hx), by simp, by simp, Nat.le_refl _, by simp⟩
theorem PInv.ok (h : PInv W me peer s t es i) (hi : i ≤ 1000) : s.Ok ∧ s.kept.length < 90000 :=
  ⟨⟨by have := h.sent; omega, h.rel.le, by have := h.came; omega, by have := h.now; omega, by have := h.came; omega, fun x hx => by have := h.ats x hx; omega⟩, by have := h.came; omega⟩
theorem PInv.outs (h : PInv W me peer s t es i) (hi : i ≤ 1000) : t.out.length ≤ 1000000 ∧ (∀ x ∈ t.out, x.2.2.sl) ∧ ∀ x ∈ t.out, x.2.1 ≤ 1000000 := by
  have h1 := h.rel.outLen
  have h2 := h.rel.le
  have h3 := h.sent
  refine ⟨by omega, fun x hx => ?_, fun x hx => ?_⟩
  · rw [h.rel.out] at hx
    obtain ⟨y, y1, y2, y3⟩ := numb_mem hx
    obtain ⟨k, j, e⟩ := h.lt y y1
    rw [← y3, e]
    exact light_sl _ _
  · rw [h.rel.out] at hx
    obtain ⟨y, y1, y2, y3⟩ := numb_mem hx
    have := h.ats y y1
    omega
theorem PInv.nums (h : PInv W me peer s t es i) (hi : i ≤ 1000) : t.sent ≤ 1000000 ∧ t.now ≤ 1000000 ∧ t.came ≤ 1000000 ∧ t.kept.length ≤ 900000 ∧ ∀ x ∈ t.kept, x.r.sl := by
  have h1 := h.rel.sent
  have h2 := h.rel.now
  have h3 := h.rel.came
  have h4 := h.rel.keptLen
  have h5 := h.sent
  have h6 := h.now
  have h7 := h.came
  refine ⟨by omega, by omega, by omega, by omega, fun x hx => ?_⟩
  obtain ⟨⟨A, c, e1, _⟩, B, d, e2, _⟩ := h.kin x hx
  exact ⟨⟨_, _, _, e1⟩, _, _, _, e2⟩
theorem PInv.push (h : PInv W me peer s t es i) (n : Int) : PInv W me peer (s.push (LR.light 1 n)) {t with sent := t.sent + 1, out := t.out ++ [(t.sent + 1, t.now, LR.light 1 n)]} es (i + 1) where
  rel := h.rel.push _
  m := h.m
  p := h.p
  sent := by have := h.sent; show s.sent + 1 ≤ _; omega
  came := by have := h.came; show s.came + s.kept.length ≤ _; omega
  now := by have := h.now; show s.now ≤ _; omega
  ats x hx := by
    rcases List.mem_append.1 hx with y | y
    · have := h.ats x y; omega
    · simp at y; subst y; have := h.now; show s.now ≤ _; omega
  lt x hx := by
    rcases List.mem_append.1 hx with y | y
    · exact h.lt x y
    · simp at y; subst y; exact ⟨_, _, rfl⟩
  kin := h.kin
  ksm := h.ksm
  el := by have := h.el; omega
  lens := h.lens
theorem PInv.tick (h : PInv W me peer s t es i) : PInv W me peer s.tick {t with now := t.now + 1} es (i + 1) where
  rel := h.rel.tick
  m := h.m
  p := h.p
  sent := by have := h.sent; show s.sent ≤ _; omega
  came := by have := h.came; show s.came + s.kept.length ≤ _; omega
  now := by have := h.now; show s.now + 1 ≤ _; omega
  ats x hx := by have := h.ats x hx; omega
  lt := h.lt
  kin := h.kin
  ksm := h.ksm
  el := by have := h.el; omega
  lens := h.lens
theorem PInv.again (h : PInv W me peer s t es i) : PInv W me peer s.again {t with now := t.now + 1, out := t.out.map fun x => (x.1, t.now + 1, x.2.2)} es (i + 1) where
  rel := h.rel.again
  m := h.m
  p := h.p
  sent := by have := h.sent; show s.sent ≤ _; omega
  came := by have := h.came; show s.came + s.kept.length ≤ _; omega
  now := by have := h.now; show s.now + 1 ≤ _; omega
  ats x hx := by
    obtain ⟨y, _, rfl⟩ := List.mem_map.1 hx
    have := h.now
    show s.now + 1 ≤ _
    omega
  lt x hx := by
    obtain ⟨y, hy, rfl⟩ := List.mem_map.1 hx
    exact h.lt y hy
  kin := h.kin
  ksm := h.ksm
  el := by have := h.el; omega
  lens := h.lens
/-- nothing was taken: an empty list goes into the book -/
theorem PInv.none (h : PInv W me peer s t es i) : PInv W me peer s t (es ++ [(nilV, [])]) (i + 1) where
  rel := h.rel
  m := h.m
  p := h.p
  sent := by have := h.sent; omega
  came := by have := h.came; omega
  now := by have := h.now; omega
  ats x hx := by have := h.ats x hx; omega
  lt := h.lt
  kin := h.kin
  ksm := h.ksm
  el := by have := h.el; simp; omega
  lens x hx := by
    rcases List.mem_append.1 hx with y | y
    · exact h.lens x y
    · simp at y; subst y; simp
theorem PInv.known (h : PInv W me peer s t es i) {a : Int} (ha : a ≤ (s.sent : Nat)) : PInv W me peer (s.known a) (t.known a) es i where
  rel := h.rel.known ha
  m := h.m
  p := h.p
  sent := h.sent
  came := h.came
  now := h.now
  ats x hx := h.ats x (List.mem_of_mem_drop hx)
  lt x hx := h.lt x (List.mem_of_mem_drop hx)
  kin := h.kin
  ksm := h.ksm
  el := h.el
  lens := h.lens
theorem PInv.got (h : PInv W me peer s t es i) (hi : i ≤ 900) {p : PR} (ha : p.a ≤ (s.sent : Nat)) {q : Nat} (hq : p.s = (q : Nat)) {r1 : LR} (hr : AlikeP p.r r1) (h1 : SlAt W p.r.a p.r.l.ti) (h2 : SlAt W p.r.b p.r.l.li) (hsm : p.r.Sm)
    {ts rs : List LR} {c' d : Nat} {ks' : List (Nat × LR)} {rks' : List PR} (hf : Follows (s.took p.a q r1).came (s.took p.a q r1).kept ts c' ks') (hg : RFol (t.took p).came (t.took p).kept rs d rks') (v : Value) :
    d = c' ∧ rs.map (·.l) = ts.map (·.l) ∧ (∀ r ∈ ts, r.Sm) ∧ ts.length ≤ 1000 ∧ (∀ r ∈ rs, SlAt W r.a r.l.ti ∧ SlAt W r.b r.l.li) ∧ PInv W me peer {(s.took p.a q r1) with came := c', kept := ks'} {t.took p with came := d, kept := rks'} (es ++ [(v, ts)]) (i + 1) := by
  have hl : p.r.l = r1.l := hr.l.symm
  have hrel := h.rel.took ha hq hl
  obtain ⟨e1, e2, e3⟩ := hrel.followed hf hg
  obtain ⟨k1, k2⟩ := hf.counts
  obtain ⟨t1, t2, t3, t4⟩ := took_came s p.a q r1
  obtain ⟨m1, m2⟩ := took_me s p.a q r1
  have hkl : (s.took p.a q r1).kept.length ≤ s.kept.length + 1 := by rw [took_kept]; split <;> simp
  have hc := h.came
  have hsr : r1.Sm := by unfold LR.Sm at hsm ⊢; rw [← hl]; exact hsm
  have hks : ∀ x ∈ (s.took p.a q r1).kept, x.2.Sm := fun x hx => by
    rw [took_kept] at hx
    split at hx
    · rcases List.mem_append.1 hx with y | y
      · exact h.ksm x y
      · simp at y; subst y; exact hsr
    · exact h.ksm x hx
  have htk : ∀ x ∈ (t.took p).kept, SlAt W x.r.a x.r.l.ti ∧ SlAt W x.r.b x.r.l.li := fun x hx => by
    unfold RL.took at hx
    split at hx
    · rcases List.mem_append.1 hx with y | y
      · exact h.kin x y
      · simp at y; subst y; exact ⟨h1, h2⟩
    · exact h.kin x hx
  have hwa : (s.took p.a q r1).waits = s.waits.drop (s.gone p.a) := t2
  refine ⟨e1, e2, fun r hr => ?_, by omega, fun r hr => ?_, ⟨e3, m1.trans h.m, m2.trans h.p, ?_, ?_, ?_, fun x hx => ?_, fun x hx => ?_, fun x hx => htk x (hg.left x hx), fun x hx => hks x (hf.left x hx), ?_, fun x hx => ?_⟩⟩
  · obtain ⟨x, hx, rfl⟩ := hf.told r hr
    exact hks x hx
  · obtain ⟨x, hx, rfl⟩ := hg.told r hr
    exact htk x hx
  · show (s.took p.a q r1).sent ≤ _; rw [t3]; have := h.sent; omega
  · show c' + ks'.length ≤ _; omega
  · show (s.took p.a q r1).now ≤ _; rw [t4]; have := h.now; omega
  · have hx : x ∈ (s.took p.a q r1).waits := hx
    rw [hwa] at hx
    have := h.ats x (List.mem_of_mem_drop hx); omega
  · have hx : x ∈ (s.took p.a q r1).waits := hx
    rw [hwa] at hx
    exact h.lt x (List.mem_of_mem_drop hx)
  · have := h.el; simp; omega
  · rcases List.mem_append.1 hx with y | y
    · exact h.lens x y
    · simp at y; subst y; show ts.length ≤ _; omega
end
theorem and_nat (x : Int) (m : Nat) (hm : m < 1000) : ∃ v : Nat, v ≤ m ∧ bits .and .i64 x (m : Nat) = (v : Nat) := by
  have h3 : (BitVec.ofInt 64 (m : Nat)).toNat = m := by
    simp
    omega
  have hle : (BitVec.ofInt 64 x &&& BitVec.ofInt 64 (m : Nat)).toNat ≤ m := by
    rw [BitVec.toNat_and, h3]
    exact Nat.and_le_right
  refine ⟨(BitVec.ofInt 64 x &&& BitVec.ofInt 64 (m : Nat)).toNat, hle, ?_⟩
  show IntKind.i64.wrap _ = _
  rw [IntKind.wrap_i64]
  have : ((BitVec.ofInt IntKind.i64.bits x &&& BitVec.ofInt IntKind.i64.bits (m : Nat)).toNat : Int) = ((BitVec.ofInt 64 x &&& BitVec.ofInt 64 (m : Nat)).toNat : Int) := rfl
  rw [this]
  omega
end Go.Proofs.Ytfemdfidfomchaa
