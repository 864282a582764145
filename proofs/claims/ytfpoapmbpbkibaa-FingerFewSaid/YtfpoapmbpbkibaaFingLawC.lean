/-
  Each hop at least halves how far it is to where the way ends; so there are few (FingerHalves).
-/
import Derived.Test.YtfpoapmbpbkibaaFingLawB
namespace Go.Proofs.Ytfpoapmbpbkibaa
open Go.RowKit Pb

theorem pts_from {W : World} {A : Option Addr} {c n : Nat} {l : List Int} (h : PtAt W A l) (hn : l.length = n) (hc : A = none → c = 0) : From W 1 (.slice A n c) n (ptC l) := by
  subst hn
  cases A with
  | none =>
    obtain rfl := hc rfl
    cases l with
    | nil => exact .inl ⟨rfl, rfl, rfl⟩
    | cons x l =>
      obtain ⟨b, o, h⟩ := h
      have := (h 0 (by simp)).1
      cases this
  | some ad => exact PtAt.from_ h
/-- a way as a call tells it, with its length -/
def WayC (W : World) (tot : List Int) (m : Nat) (e : Ending) (w' : World) : Prop :=
  ∃ q c, e = .returned (.tuple #[.slice (some ⟨q, 0, none⟩) m c, .bool true]) ∧ (∀ i x, tot[i]? = some x → w'.cell? ⟨q, i, none⟩ = some (.int .u64 x)) ∧ Below W.heap.size W w'
theorem WayAt.to_c {W : World} {tot : List Int} {m : Nat} {e : Ending} {w' : World} (h : WayAt W tot e w') (hm : tot.length = m) : WayC W tot m e w' := by
  subst hm
  obtain ⟨q, c, h1, h2, h3⟩ := h
  refine ⟨q, c, h1, fun i x hx => ?_, h3⟩
  obtain ⟨hi, rfl⟩ := List.getElem?_eq_some_iff.1 hx
  exact h2 i hi
set_option maxRecDepth 20000 in
set_option maxHeartbeats 8000000 in
theorem fingerHalves_any (L : FingLaws) (me aim : Int) (A : Option Addr) (c n : Nat) (seats : List Int) (W : World) (hme : Pt me) (haim : Pt aim) (hp : ∀ s ∈ seats, Pt s) (hA : PtAt W A seats) (hn : seats.length = n) (hc : A = none → c = 0) :
    Calls Try.prog 7 #[.int .u64 me, .int .u64 aim, .slice A n c] W fun e w' => e = .returned (.bool true) ∧ Below W.heap.size W w' := by
  obtain ⟨i0, z0, hi0, hz, hsL, hbL, hzc⟩ := infoP_
  have CA := Lib.hid (fingAlive_any L)
  by_cases q0 : 40 < n
  · have d0 : decide (40 < (n : Int)) = true := decide_eq_true (by omega)
    go_enter Try.func7, Try.ntmps7
    go_wp2_with (go_at_call 9; (with_reducible refine (CA.out _).mono ?_); rintro e w1 ⟨rfl, h1⟩)
    go_ret
    exact ⟨rfl, h1⟩
  have d0 : decide (40 < (n : Int)) = false := decide_eq_false (by omega)
  have hp2 : ∀ s ∈ me :: seats, Pt s := fun s hs => by
    rcases List.mem_cons.1 hs with rfl | hs
    · exact hme
    · exact hp s hs
  obtain ⟨l, T, h1, -, h3, h4, -, h6⟩ := way_seat (aim := aim) (seats := me :: seats) (me := me) (by simp) hp2
  obtain ⟨m, hm⟩ : ∃ m, l.length = m := ⟨_, rfl⟩
  have hlen : (me :: l).length = m + 1 := by rw [List.length_cons, hm]
  have hT : (me :: l)[m]'(by omega) = T := by
    rw [List.getLast_eq_getElem] at h4
    simp only [List.length_cons, Nat.add_sub_cancel, hm] at h4
    exact h4
  obtain ⟨tot, ht⟩ : ∃ tot, me :: l = tot := ⟨_, rfl⟩
  have CW : Hid (∀ w B d, PtAt w B (me :: seats) → Calls Try.prog 12 #[.int .u64 me, .int .u64 aim, .slice B (1 + n) d] w (WayC w tot (m + 1))) := fun w B d h => by
    refine (way_call L hme haim hp2 h (by simp [hn]; omega) (by omega) (by simp) h1).mono ?_
    intro e w' z
    rw [ht] at z
    exact z.to_c (by rw [← ht]; exact hlen)
  unfold WayC at CW
  simp only [ht] at h6 hlen hT
  have HH : Hid (∀ i (hi : i + 1 < tot.length), 2 * farI (tot[i + 1]) T ≤ farI (tot[i]'(Nat.lt_of_succ_lt hi)) T) := fun i hi => (h6 i hi).2
  have HLN := Lib.hid hlen
  have HTT : Hid (tot[m]? = some T) := by show _ = _; rw [List.getElem?_eq_getElem (by omega), hT]
  rw [hm] at h3
  have HA := Lib.hid hA
  have HN := Lib.hid hn
  have HCC := Lib.hid hc
  clear hA hn hc hp hp2 h1 h4 h6 hT ht hm hlen
  go_enter Try.func7, Try.ntmps7
  have dm : decide ((m : Int) + 1 < 1) = false := decide_eq_false (by omega)
  have d65 : decide ((m : Int) + 1 ≤ 65) = true := decide_eq_true (by omega)
  go_wp2_with (first
    | (go_at_call 9; (with_reducible refine (CA.out _).mono ?_); rintro e w1 ⟨rfl, h1⟩; have H1 := Lib.hid h1; have H1a : Hid (Below W.heap.size W (w1.alloc (.cells #[.int .u64 me] 22))) := h1.alloc h1.size _; have HO1 : Hid ((w1.alloc (.cells #[.int .u64 me] 22)).ownsRow w1.heap.size 22 1 (.slice (some ⟨w1.heap.size, 0, none⟩) 1 1) 1 (ptC [me])) := World.ownsRow_lit (size := 1) w1 #[.int .u64 me] 1 (Nat.le_refl _) (by unfold maxLen; omega) rfl; clear h1)
    | (at_builtin; go_must (refine wpList_append_any rfl (.tmp 24) (.tmp 25) 23 rfl w1.heap.size 22 i0 z0 1 8 Try.underlying23 hi0 hz hsL hbL hzc (by decide) (.slice (some ⟨w1.heap.size, 0, none⟩) 1 1) 1 (ptC [me]) rfl HO1.out (.slice A n c) n (ptC seats) rfl (pts_from (HA.out.below H1a.out) HN.out HCC.out) (pt_one _) (by unfold maxLen; omega) (by omega) (by simp) ?_); intro A2 c2 w2 hown2 hg2 hsn2; have HP2 : Hid (PtAt w2 A2 (me :: seats)) := PtAt.own hown2 (by simp [HN.out]; omega); have H2 : Hid (Below W.heap.size W w2) := H1a.out.grown hg2 H1a.out.size (fun k hk => by have z := H1.out.size; simp [Value.ownBlock] at hk; omega); clear hown2 hg2 hsn2)
    | (go_at_call 12; (with_reducible refine (CW.out _ _ _ HP2.out).mono ?_); rintro e3 w3 ⟨q, d, rfl, hcl, h3w⟩; have HCL := Lib.hid hcl; have H3 : Hid (Below W.heap.size W w3) := acc H2.out h3w; clear hcl h3w))
  obtain ⟨ws, rfl⟩ : ∃ ws : World, ws = w3 := ⟨_, rfl⟩
  go_loopg [9, 10, 11] (m + 1) (fun gh s9 s10 s11 wx => ∃ (i : Nat), i + gh = m + 2 ∧ 1 ≤ i ∧ i ≤ m + 1 ∧ s9 = .int .i64 (i : Nat) ∧ Hid (Below ws.heap.size ws wx))
  case atStart => exact ⟨1, by omega, by omega, by omega, rfl, Below.refl _ _⟩
  case round =>
    obtain ⟨i, hig, hi1, hi, rfl, HB⟩ := hrel
    by_cases hlt : i < m + 1
    · obtain ⟨j, rfl⟩ : ∃ j, i = j + 1 := ⟨i - 1, by omega⟩
      have i1 : (j : Int) + 1 < (m : Int) + 1 := by omega
      have zi : IntKind.i64.wrap ((j : Int) + 1 + 1) = (j : Int) + 1 + 1 := by rw [IntKind.wrap_i64]; omega
      have hj : j < tot.length := by rw [HLN.out]; omega
      have hj1 : j + 1 < tot.length := by rw [HLN.out]; omega
      have c3 := HCL.out m _ HTT.out
      have lq : q < ws.heap.size := World.block_lt_of_cell? _ _ c3
      have e1 := (HB.out.cell (p := ⟨q, j, none⟩) lq).trans (HCL.out j _ (List.getElem?_eq_getElem hj))
      have e2 := (HB.out.cell (p := ⟨q, j + 1, none⟩) lq).trans (HCL.out (j + 1) _ (List.getElem?_eq_getElem hj1))
      have e3 := (HB.out.cell (p := ⟨q, m, none⟩) lq).trans c3
      clear c3
      have hh := HH.out j hj1
      generalize tot[j + 1] = x2 at e2 hh
      generalize tot[j] = x1 at e1 hh
      obtain ⟨f1, hf1⟩ : ∃ f, farI x1 T = f := ⟨_, rfl⟩
      obtain ⟨f2, hf2⟩ : ∃ f, farI x2 T = f := ⟨_, rfl⟩
      have z1 : IntKind.u64.wrap (T - x1) = f1 := hf1
      have z2 : IntKind.u64.wrap (T - x2) = f2 := hf2
      have r1 := farI_range x1 T
      rw [hf1, hf2] at hh
      rw [hf1] at r1
      have zm : IntKind.i64.wrap ((m : Int) + 1 - 1) = (m : Int) := by rw [IntKind.wrap_i64]; omega
      have zj : IntKind.i64.wrap ((j : Int) + 1 - 1) = (j : Int) := by rw [IntKind.wrap_i64]; omega
      clear hf1 hf2
      go_upto_region 9 with fail
      go_quiet (fail)
      go_wp2_with fail
      go_roundg (gk - 1)
      case measure => omega
      case rel => exact ⟨j + 1 + 1, by omega, by omega, by omega, by go_num, below_drewN HB.out _⟩
    · go_wp2_with fail
      go_ret
      exact ⟨rfl, acc H3.out HB.out⟩
end Go.Proofs.Ytfpoapmbpbkibaa
