/-
  Parts put together, round the ring (the code's join). (Written by tools/genVJ.py.)
-/
import Derived.Test.YthjhfnbcfgkehaaViewCode
namespace Go.Proofs.Ythjhfnbcfgkehaa
open Go.RowKit

theorem pr_zero {w : World} {base g c : Nat} {p : PT} (h : PtRow w base (.slice (some ⟨g, 0, none⟩) 1 c) 1 [p]) : PtRow (w.setCell ⟨g, 0, none⟩ (.int .u64 0)) base (.slice (some ⟨g, 0, none⟩) 1 c) 1 [⟨0, p.n, p.e⟩] := (h.stored 0 (.int .u64 0)).1
theorem pr_del {w : World} {base g n c : Nat} {p : PT} {r : List PT} (h : PtRow w base (.slice (some ⟨g, 0, none⟩) n c) n (p :: r)) (hn : n ≤ 100000) :
    Calls Try.prog 34 #[.slice (some ⟨g, 0, none⟩) n c, .int .i64 0, .int .i64 1] w fun e w' => e = .returned (.slice (some ⟨g, 0, none⟩) (n - 1) c) ∧ PtRow w' base (.slice (some ⟨g, 0, none⟩) (n - 1) c) (n - 1) r ∧ Touch [g] w w' := by
  have hl := pr_len h
  simp only [List.length_cons] at hl
  refine (delParts_any g n c 0 1 base (partC (p :: r)) w h (by omega) (by omega) hn (partC_one _)).mono ?_
  rintro e w' ⟨rfl, h1, h2⟩
  rw [Nat.zero_add] at h1 ⊢
  exact ⟨rfl, h1, (Touch.refl _ _).grown h2 (fun k hk => .inl (by simp [Option.some.inj hk]))⟩
theorem last_at {p : PT} {r : List PT} {k : Nat} (hk : r.length = k) : (p :: r)[k]? = some (lastP (p :: r)) := by
  rw [lastP, List.getLastD_cons, List.getLastD_eq_getLast?]
  cases hr : r.getLast? with
  | none =>
    have : r = [] := List.getLast?_eq_none_iff.1 hr
    subst this
    simp at hk
    subst hk
    rfl
  | some q =>
    obtain ⟨l, rfl⟩ := List.getLast?_eq_some_iff.1 hr
    simp at hk
    subst hk
    simp
theorem join_one {P : List PT} {p : PT} (h : dd P = [p]) : joinP P = [⟨0, p.n, p.e⟩] := by unfold joinP; rw [h]
theorem join_keep {P r : List PT} {p q : PT} (h : dd P = p :: q :: r) (hv : (lastP (q :: r)).v ≠ p.v) : joinP P = p :: q :: r := by unfold joinP; rw [h]; exact if_neg hv
theorem join_drop1 {P : List PT} {p q : PT} (h : dd P = [p, q]) (hv : (lastP [q]).v = p.v) : joinP P = [⟨0, q.n, q.e⟩] := by unfold joinP; rw [h]; exact if_pos hv
theorem join_drop {P r : List PT} {p q s : PT} (h : dd P = p :: q :: s :: r) (hv : (lastP (q :: s :: r)).v = p.v) : joinP P = q :: s :: r := by unfold joinP; rw [h]; exact if_pos hv
def JoinPost (W : World) (base : Nat) (A : Option Addr) (n c : Nat) (P : List PT) (e : Ending) (w' : World) : Prop :=
  ∃ m, e = .returned (.slice A m c) ∧ PtRow w' base (.slice A m c) m (joinP P) ∧ Touch ((Value.slice A n c).ownBlock.toList) W w'
set_option maxRecDepth 100000 in
set_option maxHeartbeats 4000000 in
theorem join_any (P : List PT) (g : Nat) (c n base : Nat) (W : World) (hl : n ≤ 100000) (hr : PtRow W base (.slice (some ⟨g, 0, none⟩) n c) n P) (hne : P ≠ []) :
    Calls Try.prog 20 #[.slice (some ⟨g, 0, none⟩) n c] W (JoinPost W base (some ⟨g, 0, none⟩) n c P) := by
  have CC := Lib.hid (compact_any P (some ⟨g, 0, none⟩) c n base W (by omega) hr)
  have hn := pr_len hr
  have hnc : n ≤ c ∧ c ≤ 9223372036854775807 := by
    obtain ⟨_, _, a, b, _⟩ := own_raw hr
    exact ⟨a, Nat.le_trans b (by decide)⟩
  obtain ⟨hnc, hc9⟩ := hnc
  obtain ⟨D, hD⟩ : ∃ D, dd P = D := ⟨_, rfl⟩
  have hlD : D.length ≤ n := by rw [← hD, ← hn]; exact (dd_sub P).length_le
  have hDn : D ≠ [] := by
    rw [← hD]
    cases P with
    | nil => exact absurd rfl hne
    | cons p r => simp [dd]
  have HD := Lib.hid hD
  have HLD := Lib.hid hlD
  clear hr hn hD hlD
  go_enter Try.func20, Try.ntmps20
  go_upto_region 2 with (go_at_call 32; (with_reducible refine (CC.out).mono ?_); rintro e w1 ⟨m, rfl, hr1, ht1⟩; rw [HD.out] at hr1; have HR1 := Lib.hid hr1; have HT1 := Lib.hid ht1; clear hr1 ht1)
  clear CC
  match D, hDn with
  | [p], _ =>
    obtain rfl : m = 1 := by have := pr_len HR1.out; simpa using this.symm
    have d0 : decide (((1 : Nat) : Int) > 1) = false := by decide
    refine wp_region_held_drew (S := (fun w0 => Below w1.heap.size w1 w0)) (by kernel_rfl) ?_ (fun hHeld => ?_)
    · (try dsimp only); exact (Below.refl _ _).drew
    refine wpAnyH_take (i := 0) (oi := ⟨_, _, _, _, _, _⟩) (v := ?_) rfl (by kernel_rfl) (by kernel_rfl) (by kernel_rfl) (fun _ _ _ h => h) (Or.inl ⟨by rfl, ?_⟩) (by assumption) ?_
    rotate_left
    · (intro wS hSw; (try dsimp only at hSw); go_simp <;> with_reducible rfl)
    try simp only [Act.put, List.setIfInBounds_toArray, List.set_cons_zero, List.set_cons_succ]
    refine wpAnyH_take (i := 1) (oi := ⟨_, _, _, _, _, _⟩) (v := ?_) rfl (by kernel_rfl) (by kernel_rfl) (by kernel_rfl) (fun _ _ _ h => h) (Or.inl ⟨by rfl, ?_⟩) (by assumption) ?_
    rotate_left
    · (intro wS hSw; (try dsimp only at hSw); go_simp <;> with_reducible rfl)
    try simp only [Act.put, List.setIfInBounds_toArray, List.set_cons_zero, List.set_cons_succ]
    refine wpAnyH_take (i := 2) (oi := ⟨_, _, _, _, _, _⟩) (v := ?_) rfl (by kernel_rfl) (by kernel_rfl) (by kernel_rfl) (fun _ _ _ h => h) (Or.inl ⟨by rfl, ?_⟩) (by assumption) ?_
    rotate_left
    · (intro wS hSw; (try dsimp only at hSw); go_simp <;> with_reducible rfl)
    try simp only [Act.put, List.setIfInBounds_toArray, List.set_cons_zero, List.set_cons_succ]
    refine wpAnyH_take (i := 3) (oi := ⟨_, _, _, _, _, _⟩) (v := ?_) rfl (by kernel_rfl) (by kernel_rfl) (by kernel_rfl) (fun _ _ _ h => h) (Or.inl ⟨by rfl, ?_⟩) (by assumption) ?_
    rotate_left
    · (intro wS hSw; (try dsimp only at hSw); go_simp <;> with_reducible rfl)
    try simp only [Act.put, List.setIfInBounds_toArray, List.set_cons_zero, List.set_cons_succ]
    refine wpAnyH_take (i := 4) (oi := ⟨_, _, _, _, _, _⟩) (v := undef) rfl (by kernel_rfl) (by kernel_rfl) (by kernel_rfl) (fun _ _ _ h => h) (Or.inr ⟨by rfl, rfl⟩) (by assumption) ?_
    try simp only [Act.put, List.setIfInBounds_toArray, List.set_cons_zero, List.set_cons_succ]
    refine wpAnyH_take (i := 5) (oi := ⟨_, _, _, _, _, _⟩) (v := undef) rfl (by kernel_rfl) (by kernel_rfl) (by kernel_rfl) (fun _ _ _ h => h) (Or.inr ⟨by rfl, rfl⟩) (by assumption) ?_
    try simp only [Act.put, List.setIfInBounds_toArray, List.set_cons_zero, List.set_cons_succ]
    refine wpAnyH_take (i := 6) (oi := ⟨_, _, _, _, _, _⟩) (v := undef) rfl (by kernel_rfl) (by kernel_rfl) (by kernel_rfl) (fun _ _ _ h => h) (Or.inr ⟨by rfl, rfl⟩) (by assumption) ?_
    try simp only [Act.put, List.setIfInBounds_toArray, List.set_cons_zero, List.set_cons_succ]
    refine wpAnyH_take (i := 7) (oi := ⟨_, _, _, _, _, _⟩) (v := undef) rfl (by kernel_rfl) (by kernel_rfl) (by kernel_rfl) (fun _ _ _ h => h) (Or.inr ⟨by rfl, rfl⟩) (by assumption) ?_
    try simp only [Act.put, List.setIfInBounds_toArray, List.set_cons_zero, List.set_cons_succ]
    refine wpAnyH_take (i := 8) (oi := ⟨_, _, _, _, _, _⟩) (v := undef) rfl (by kernel_rfl) (by kernel_rfl) (by kernel_rfl) (fun _ _ _ h => h) (Or.inr ⟨by rfl, rfl⟩) (by assumption) ?_
    try simp only [Act.put, List.setIfInBounds_toArray, List.set_cons_zero, List.set_cons_succ]
    refine wpAnyH_take (i := 9) (oi := ⟨_, _, _, _, _, _⟩) (v := undef) rfl (by kernel_rfl) (by kernel_rfl) (by kernel_rfl) (fun _ _ _ h => h) (Or.inr ⟨by rfl, rfl⟩) (by assumption) ?_
    try simp only [Act.put, List.setIfInBounds_toArray, List.set_cons_zero, List.set_cons_succ]
    refine wpAnyH_take (i := 10) (oi := ⟨_, _, _, _, _, _⟩) (v := undef) rfl (by kernel_rfl) (by kernel_rfl) (by kernel_rfl) (fun _ _ _ h => h) (Or.inr ⟨by rfl, rfl⟩) (by assumption) ?_
    try simp only [Act.put, List.setIfInBounds_toArray, List.set_cons_zero, List.set_cons_succ]
    refine wpAnyH_take (i := 11) (oi := ⟨_, _, _, _, _, _⟩) (v := undef) rfl (by kernel_rfl) (by kernel_rfl) (by kernel_rfl) (fun _ _ _ h => h) (Or.inr ⟨by rfl, rfl⟩) (by assumption) ?_
    try simp only [Act.put, List.setIfInBounds_toArray, List.set_cons_zero, List.set_cons_succ]
    refine wpAnyH_take (i := 12) (oi := ⟨_, _, _, _, _, _⟩) (v := undef) rfl (by kernel_rfl) (by kernel_rfl) (by kernel_rfl) (fun _ _ _ h => h) (Or.inr ⟨by rfl, rfl⟩) (by assumption) ?_
    try simp only [Act.put, List.setIfInBounds_toArray, List.set_cons_zero, List.set_cons_succ]
    refine wpAnyH_take (i := 13) (oi := ⟨_, _, _, _, _, _⟩) (v := undef) rfl (by kernel_rfl) (by kernel_rfl) (by kernel_rfl) (fun _ _ _ h => h) (Or.inr ⟨by rfl, rfl⟩) (by assumption) ?_
    try simp only [Act.put, List.setIfInBounds_toArray, List.set_cons_zero, List.set_cons_succ]
    refine wpAnyH_take (i := 14) (oi := ⟨_, _, _, _, _, _⟩) (v := ?_) rfl (by kernel_rfl) (by kernel_rfl) (by kernel_rfl) (fun _ _ _ h => h) (Or.inl ⟨by rfl, ?_⟩) (by assumption) ?_
    rotate_left
    · (intro wS hSw; (try dsimp only at hSw); go_simp <;> with_reducible rfl)
    try simp only [Act.put, List.setIfInBounds_toArray, List.set_cons_zero, List.set_cons_succ]
    refine wpAnyH_done (by kernel_rfl) ?_ _
    have HR1a : Hid (PtRow w1.drew base (.slice (some ⟨g, 0, none⟩) 1 c) 1 [p]) := pr_below HR1.out (Below.refl _ _).drew
    have k0 : w1.drew.cell? ⟨g, 0, none⟩ = some (.int .u64 (p.x : Nat)) := (HR1a.out.cells (g := g) rfl) 0 _ rfl
    have f0 : w1.drew.frozen? ⟨g, 0, none⟩ = false := HR1a.out.frozenAt 0
    go_wp2
    go_ret
    refine ⟨1, rfl, ?_, (HT1.out.drew).set (.inl (by simp [Value.ownBlock])) _⟩
    rw [join_one HD.out]
    exact pr_zero HR1a.out
  | p :: q :: r, _ =>
    have hlr := pr_len HR1.out
    simp only [List.length_cons] at hlr
    obtain ⟨k, hk⟩ : ∃ k, m - 1 = k := ⟨_, rfl⟩
    have hkw : IntKind.i64.wrap ((m : Int) - 1) = (k : Nat) := by rw [IntKind.wrap_i64]; have := HLD.out; simp only [List.length_cons] at this; omega
    have d0 : decide ((1 : Int) < (m : Int)) = true := decide_eq_true (by omega)
    have hkm : (k : Int) < (m : Int) := by omega
    have hm0 : 0 < m := by omega
    obtain ⟨a, haa⟩ : ∃ a, lastP (p :: q :: r) = a := ⟨_, rfl⟩
    have ha : (p :: q :: r)[k]? = some a := by rw [← haa]; exact last_at (by simp only [List.length_cons]; omega)
    have hLA : lastP (q :: r) = a := by rw [← haa, lastP_cons2]
    have HSS : Hid (∀ w', Below w1.heap.size w1 w' → w'.rangeAt g (k * 3) a.cells.toList ∧ w'.rangeAt g 0 p.cells.toList) := fun w' h => by
      have r1 := pr_below HR1.out h
      refine ⟨pr_range r1 ha, ?_⟩
      have := pr_range (k := 0) (p := p) r1 rfl
      rwa [Nat.zero_mul] at this
    obtain ⟨bb, hbb⟩ : ∃ bb, likeB a p = bb := ⟨_, rfl⟩
    have HBB := Lib.hid hbb
    have HLA := Lib.hid hLA
    have hsz : (Try.prog.info? 50).map (·.size) = some 3 := pt_info
    clear ha haa hbb hLA
    refine wp_region_held_drew (S := (fun w0 => w0.rangeAt g (k * 3) a.cells.toList ∧ w0.rangeAt g 0 p.cells.toList)) (by kernel_rfl) ?_ (fun hHeld => ?_)
    · (try dsimp only); exact HSS.out _ (Below.refl _ _).drew
    refine wpAnyH_take (i := 0) (oi := ⟨_, _, _, _, _, _⟩) (v := ?_) rfl (by kernel_rfl) (by kernel_rfl) (by kernel_rfl) (fun _ _ _ h => h) (Or.inl ⟨by rfl, ?_⟩) (by assumption) ?_
    rotate_left
    · (intro wS hSw; (try dsimp only at hSw); go_simp <;> with_reducible rfl)
    try simp only [Act.put, List.setIfInBounds_toArray, List.set_cons_zero, List.set_cons_succ]
    refine wpAnyH_take (i := 1) (oi := ⟨_, _, _, _, _, _⟩) (v := ?_) rfl (by kernel_rfl) (by kernel_rfl) (by kernel_rfl) (fun _ _ _ h => h) (Or.inl ⟨by rfl, ?_⟩) (by assumption) ?_
    rotate_left
    · (intro wS hSw; (try dsimp only at hSw); go_simp <;> with_reducible rfl)
    try simp only [Act.put, List.setIfInBounds_toArray, List.set_cons_zero, List.set_cons_succ]
    refine wpAnyH_take (i := 2) (oi := ⟨_, _, _, _, _, _⟩) (v := ?_) rfl (by kernel_rfl) (by kernel_rfl) (by kernel_rfl) (fun _ _ _ h => h) (Or.inl ⟨by rfl, ?_⟩) (by assumption) ?_
    rotate_left
    · (intro wS hSw; (try dsimp only at hSw); go_simp <;> with_reducible rfl)
    try simp only [Act.put, List.setIfInBounds_toArray, List.set_cons_zero, List.set_cons_succ]
    refine wpAnyH_take (i := 3) (oi := ⟨_, _, _, _, _, _⟩) (v := ?_) rfl (by kernel_rfl) (by kernel_rfl) (by kernel_rfl) (fun _ _ _ h => h) (Or.inl ⟨by rfl, ?_⟩) (by assumption) ?_
    rotate_left
    · (intro wS hSw; (try dsimp only at hSw); go_simp <;> with_reducible rfl)
    try simp only [Act.put, List.setIfInBounds_toArray, List.set_cons_zero, List.set_cons_succ]
    refine wpAnyH_take (i := 4) (oi := ⟨_, _, _, _, _, _⟩) (v := ?_) rfl (by kernel_rfl) (by kernel_rfl) (by kernel_rfl) (fun _ _ _ h => h) (Or.inl ⟨by rfl, ?_⟩) (by assumption) ?_
    rotate_left
    · (intro wS hSw; (try dsimp only at hSw); go_simp <;> with_reducible rfl)
    try simp only [Act.put, List.setIfInBounds_toArray, List.set_cons_zero, List.set_cons_succ]
    refine wpAnyH_take (i := 5) (oi := ⟨_, _, _, _, _, _⟩) (v := ?_) rfl (by kernel_rfl) (by kernel_rfl) (by kernel_rfl) (fun _ _ _ h => h) (Or.inl ⟨by rfl, ?_⟩) (by assumption) ?_
    rotate_left
    · (intro wS hSw; (try dsimp only at hSw); go_simp <;> with_reducible rfl)
    try simp only [Act.put, List.setIfInBounds_toArray, List.set_cons_zero, List.set_cons_succ]
    refine wpAnyH_take (i := 6) (oi := ⟨_, _, _, _, _, _⟩) (v := ?_) rfl (by kernel_rfl) (by kernel_rfl) (by kernel_rfl) (fun _ _ _ h => h) (Or.inl ⟨by rfl, ?_⟩) (by assumption) ?_
    rotate_left
    · (intro wS hSw; (try dsimp only at hSw); go_simp <;> with_reducible rfl)
    try simp only [Act.put, List.setIfInBounds_toArray, List.set_cons_zero, List.set_cons_succ]
    refine wpAnyH_take (i := 7) (oi := ⟨_, _, _, _, _, _⟩) (v := ?_) rfl (by kernel_rfl) (by kernel_rfl) (by kernel_rfl) (fun _ _ _ h => h) (Or.inl ⟨by rfl, ?_⟩) (by assumption) ?_
    rotate_left
    · (intro wS hSw; (try dsimp only at hSw); go_simp <;> with_reducible rfl)
    try simp only [Act.put, List.setIfInBounds_toArray, List.set_cons_zero, List.set_cons_succ]
    refine wpAnyH_take (i := 8) (oi := ⟨_, _, _, _, _, _⟩) (v := ?_) rfl (by kernel_rfl) (by kernel_rfl) (by kernel_rfl) (fun _ _ _ h => h) (Or.inl ⟨by rfl, ?_⟩) (by assumption) ?_
    rotate_left
    · (intro wS hSw; (try dsimp only at hSw); go_simp <;> with_reducible rfl)
    try simp only [Act.put, List.setIfInBounds_toArray, List.set_cons_zero, List.set_cons_succ]
    refine wpAnyH_take (i := 9) (oi := ⟨_, _, _, _, _, _⟩) (v := .agg a.cells.toList.toArray) rfl (by kernel_rfl) (by kernel_rfl) (by kernel_rfl) (fun _ _ _ h => h) (yieldsIf_load_mid (by rfl) 50 (.tmp 13) rfl g (k * 3) rfl a.cells.toList _ (fun _ h => h.1) Try.underlying50 rfl hsz) (by assumption) ?_
    try simp only [Act.put, List.setIfInBounds_toArray, List.set_cons_zero, List.set_cons_succ]
    refine wpAnyH_take (i := 10) (oi := ⟨_, _, _, _, _, _⟩) (v := ?_) rfl (by kernel_rfl) (by kernel_rfl) (by kernel_rfl) (fun _ _ _ h => h) (Or.inl ⟨by rfl, ?_⟩) (by assumption) ?_
    rotate_left
    · (intro wS hSw; (try dsimp only at hSw); go_simp <;> with_reducible rfl)
    try simp only [Act.put, List.setIfInBounds_toArray, List.set_cons_zero, List.set_cons_succ]
    refine wpAnyH_take (i := 11) (oi := ⟨_, _, _, _, _, _⟩) (v := ?_) rfl (by kernel_rfl) (by kernel_rfl) (by kernel_rfl) (fun _ _ _ h => h) (Or.inl ⟨by rfl, ?_⟩) (by assumption) ?_
    rotate_left
    · (intro wS hSw; (try dsimp only at hSw); go_simp <;> with_reducible rfl)
    try simp only [Act.put, List.setIfInBounds_toArray, List.set_cons_zero, List.set_cons_succ]
    refine wpAnyH_take (i := 12) (oi := ⟨_, _, _, _, _, _⟩) (v := .agg p.cells.toList.toArray) rfl (by kernel_rfl) (by kernel_rfl) (by kernel_rfl) (fun _ _ _ h => h) (yieldsIf_load_mid (by rfl) 50 (.tmp 16) rfl g 0 rfl p.cells.toList _ (fun _ h => h.2) Try.underlying50 rfl hsz) (by assumption) ?_
    try simp only [Act.put, List.setIfInBounds_toArray, List.set_cons_zero, List.set_cons_succ]
    refine wpAnyH_ready (rs := [13]) (by kernel_rfl) (by simp) ?_
    refine AllReadyH.cons (o := ⟨_, _, _, _, _, _⟩) rfl (fun K hK => ?_) AllReadyH.nil
    go_simp
    (first | (go_at_call 33; (with_reducible refine (alike_any a p _).mono ?_); rintro e w2 ⟨rfl, hb2⟩; rw [HBB.out]; have HB2 : Hid (Below w1.heap.size w1 w2) := ((Below.refl w1.heap.size w1).drew).trans hb2; clear hb2))
    go_wp2_with fail
    refine hK.out _ _ (by (try dsimp only); exact HSS.out _ HB2.out) (fun hHeld => ?_)
    clear hK K
    try simp only [Act.put, List.setIfInBounds_toArray, List.set_cons_zero, List.set_cons_succ]
    refine wpAnyH_take (i := 14) (oi := ⟨_, _, _, _, _, _⟩) (v := ?_) rfl (by kernel_rfl) (by kernel_rfl) (by kernel_rfl) (fun _ _ _ h => h) (Or.inl ⟨by rfl, ?_⟩) (by assumption) ?_
    rotate_left
    · (intro wS hSw; (try dsimp only at hSw); go_simp <;> with_reducible rfl)
    try simp only [Act.put, List.setIfInBounds_toArray, List.set_cons_zero, List.set_cons_succ]
    refine wpAnyH_done (by kernel_rfl) ?_ _
    have HR2 := Lib.hid (pr_below HR1.out HB2.out)
    have HT2 := Lib.hid (HT1.out.trans (Touch.ofBelow (F := []) HB2.out) (by simp))
    clear HSS hHeld
    cases bb
    · have d3 : ((m : Int) == 1) = false := by simp; omega
      go_wp2
      go_ret
      refine ⟨m, rfl, ?_, HT2.out⟩
      rw [join_keep HD.out (fun z => by rw [HLA.out] at z; have h1 := HBB.out; rw [likeB_iff.2 z] at h1; cases h1)]
      exact HR2.out
    · have hv : (lastP (q :: r)).v = p.v := by rw [HLA.out]; exact likeB_iff.1 HBB.out
      have HV := Lib.hid hv
      have CD := Lib.hid (pr_del HR2.out (by have := HLD.out; simp only [List.length_cons] at this; omega))
      rw [hk] at CD
      clear hv
      go_upto_region 4 with (go_at_call 34; (with_reducible refine (CD.out).mono ?_); rintro e w3 ⟨rfl, hr3, ht3⟩; have HR3 := Lib.hid hr3; have HT3 := Lib.hid (HT2.out.trans ht3 (by simp [Value.ownBlock])); clear hr3 ht3)
      match r, hlr with
      | [], hlr =>
        obtain rfl : k = 1 := by simp at hlr; omega
        have k0 : w3.cell? ⟨g, 0, none⟩ = some (.int .u64 (q.x : Nat)) := (HR3.out.cells (g := g) rfl) 0 _ rfl
        have f0 : w3.frozen? ⟨g, 0, none⟩ = false := HR3.out.frozenAt 0
        go_wp2
        go_ret
        refine ⟨1, rfl, ?_, HT3.out.set (.inl (by simp [Value.ownBlock])) _⟩
        rw [join_drop1 HD.out HV.out]
        exact pr_zero HR3.out
      | s :: r', hlr =>
        have d3 : ((k : Int) == 1) = false := by simp only [List.length_cons] at hlr; simp; omega
        go_wp2
        go_ret
        refine ⟨k, rfl, ?_, HT3.out⟩
        rw [join_drop HD.out HV.out]
        exact HR3.out
end Go.Proofs.Ythjhfnbcfgkehaa
