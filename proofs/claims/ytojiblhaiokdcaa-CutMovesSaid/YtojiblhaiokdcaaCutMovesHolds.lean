/-
  What is taken out of one shelf and put into another one is all there, in the one or in the other.
  No condition: every input. It speaks of the commit of the project that COMMIT names.
-/
import Derived.Test.YtojiblhaiokdcaaCutLawC
import Derived.Test.YtojiblhaiokdcaaHoldItems
namespace Go.Proofs.Ytojiblhaiokdcaa
open Go.ChangeShapes Go.WideShapes Go.ChangeAt Go.RowKit Go.WideMaps Go.WideElems
open Go.ChangeMaps (open_string shut_string)

set_option maxRecDepth 100000 in
theorem cutMoves_lifted (os : Os) (started : os.Started) (H : Type) (enc : TypeId × Value → H) :
    ReturnsInHanded {} Try.checked os 3 .any (Rows.cutMovesSpec.pre6 enc Try.prog Try.f3 Rows.cutMovesRow.domain false) (Rows.cutMovesSpec.post enc Try.prog Try.f3 false true false false) := by
  refine returnsInHanded_of_change (C := Try.checked) Try.own started (by kernel_rfl) Try.func3
    (ChangeSpec.witness6 (enc := enc) (C := Try.checked) false ⟨#[], #[.slice none 0 0, .agg #[.int .u64 0, .int .u64 0], .int .i64 0], []⟩ 8 (by kernel_rfl) (by kernel_rfl) (by kernel_rfl) (by kernel_rfl)) ?_
  intro W base args ds gs before hval0 hW _ _
  have hval : ∀ (j : Nat) t v, Try.f3.params[j]? = some t → args[j]? = some v → Value.okWide Try.prog W .any base t v := hval0
  have hW' := hW
  obtain ⟨p, q, hA0, hV, rfl, hfz, hnd⟩ := hW
  have hA : DataW.TrodAll enc Try.prog W 0 (fun _ => true) true Try.f3.params.toList args.toList ds p := hA0
  rw [Try.params3] at hA hval
  obtain ⟨v0, vs0, d0, ds0, p0, q0, hargs, rfl, rfl, h0, r0⟩ := trodAll_cons hA
  obtain ⟨v1, vs1, d1, ds1, p1, q1, rfl, rfl, rfl, h1, r1⟩ := trodAll_cons r0
  obtain ⟨v2, vs2, d2, ds2, p2, q2, rfl, rfl, rfl, h2, r2⟩ := trodAll_cons r1
  obtain ⟨rfl, rfl, rfl⟩ := trodAll_nil r2
  obtain rfl : args = #[v0, v1, v2] := by cases args; simp_all
  obtain ⟨rfl, rfl⟩ := trodVars_none hV
  have hlt0 : ∀ x ∈ p0, x.block < W.heap.size := fun x hx => by simpa using hW'.lt x (by simp [hx])
  have h0k := h0
  obtain ⟨A0, c0, z0, rfl, m0, w0⟩ := open_items_arg Try.underlying22 Try.underlying39 (by kernel_rfl) rfl rfl (by kernel_rfl) (by kernel_rfl) Try.underlying9 Try.underlying9 (hval 0 22 v0 rfl rfl) h0
  obtain ⟨c1a, c1b, y1a, y1b, m1, rfl, rfl, rfl, hy1a, hy1b⟩ := Go.Joins.open_agg2 Try.underlying25 (by kernel_rfl) (show Try.prog.cellsOf 25 = 2 by kernel_rfl) (hval 1 25 v1 rfl rfl) h1
  obtain ⟨s1a, e1a, rfl, w1a⟩ := DataW.trod_int Try.underlying23 hy1a
  obtain ⟨s1b, e1b, rfl, w1b⟩ := DataW.trod_int Try.underlying23 hy1b
  simp at e1a e1b
  subst e1a e1b
  obtain ⟨s2, rfl, rfl, rfl, w2⟩ := open_int Try.underlying3 (hval 2 3 v2 rfl rfl) h2
  clear hA0 hval0
  simp only [List.append_nil] at hW'
  have b1a := wf_u64 w1a
  obtain ⟨n1a, rfl⟩ := Int.eq_ofNat_of_zero_le (show 0 ≤ s1a from b1a.1)
  have b1b := wf_u64 w1b
  obtain ⟨n1b, rfl⟩ := Int.eq_ofNat_of_zero_le (show 0 ≤ s1b from b1b.1)
  have b2 := wf_i64 w2
  have k1a : ∀ V : World, DataW.trod enc Try.prog V 0 (fun _ => true) true 1 23 [.int .u64 (n1a : Nat)] = some (.lit (.int .u64 (n1a : Nat)), []) := fun V => by simp [DataW.trod, Try.underlying23, w1a]
  have k1b : ∀ V : World, DataW.trod enc Try.prog V 0 (fun _ => true) true 1 23 [.int .u64 (n1b : Nat)] = some (.lit (.int .u64 (n1b : Nat)), []) := fun V => by simp [DataW.trod, Try.underlying23, w1b]
  refine (cutMoves_any A0 c0 z0 n1a n1b s2 W w0 m0 (by omega) (by omega) b2.1 b2.2).mono fun e W' ⟨he, hb⟩ => ?_
  subst he
  exact ⟨_, rfl, _, _, _, [], _, [], hW', trodAll_cons_mk (shut_bool Try.underlying4 _) trodAll_mk0, (trodAll_cons_mk (Below.trod Try.laidOut (by kernel_rfl) (of_decide_eq_true (by kernel_rfl)) h0k hb hlt0) (trodAll_cons_mk (Go.Joins.shut_agg2 (y0 := (.lit (.int .u64 _), [])) (y1 := (.lit (.int .u64 _), [])) Try.underlying25 (by kernel_rfl) (show Try.prog.cellsOf 25 = 2 by kernel_rfl) ⟨1, k1a W'⟩ ⟨1, k1b W'⟩) (trodAll_cons_mk (shut_int Try.underlying3 w2) trodAll_mk0))), rfl, hb.frame _, fun h => by cases h⟩

/-- CutMoves: for every input the call returns true, and each argument reads as it did. -/
theorem cutMoves_holds : Rows.CutMovesSaid :=
  OpenClaim.holds_of_wide 3 Try.f3 rfl rfl rfl rfl rfl rfl rfl ⟨rfl, rfl, rfl, rfl, rfl⟩ rfl rfl rfl rfl rfl (by kernel_rfl) Try.func3 (by kernel_rfl)
    (of_decide_eq_true (by kernel_rfl)) (by unfold Func.isWrapper; first | (rw [if_pos (by decide +kernel)]; kernel_rfl) | (rw [if_neg (by decide +kernel)]; exact ⟨rfl, rfl⟩))
    (fun os started H enc _ => cutMoves_lifted os started H enc)

end Go.Proofs.Ytojiblhaiokdcaa
