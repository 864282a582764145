/-
  A way that is told to end at its first item tells no more, whichever way it is.
  No condition: every input. It speaks of the commit of the project that COMMIT names.
-/
import Derived.Test.YtglinhcldgpphaaWalkLawG
import Derived.Test.YtglinhcldgpphaaWalkProved
import Derived.Test.YtglinhcldgpphaaHoldItems
namespace Go.Proofs.Ytglinhcldgpphaa
open Go.ChangeShapes Go.WideShapes Go.ChangeAt Go.RowKit Go.WideMaps Go.WideElems
open Go.ChangeMaps (open_string shut_string)

set_option maxRecDepth 100000 in
theorem walkStops_lifted (os : Os) (started : os.Started) (H : Type) (enc : TypeId × Value → H) :
    ReturnsInHanded {} Try.checked os 9 .any (Rows.walkStopsSpec.pre6 enc Try.prog Try.f9 Rows.walkStopsRow.domain false) (Rows.walkStopsSpec.post enc Try.prog Try.f9 false true false false) := by
  refine returnsInHanded_of_change (C := Try.checked) Try.own started (by kernel_rfl) Try.func9
    (ChangeSpec.witness6 (enc := enc) (C := Try.checked) false ⟨#[], #[.slice none 0 0, .string ByteArray.empty, .string ByteArray.empty, .agg #[.int .u64 0, .int .u64 0]], []⟩ 8 (by kernel_rfl) (by kernel_rfl) (by kernel_rfl) (by kernel_rfl)) ?_
  intro W base args ds gs before hval0 hW _ _
  have hval : ∀ (j : Nat) t v, Try.f9.params[j]? = some t → args[j]? = some v → Value.okWide Try.prog W .any base t v := hval0
  have hW' := hW
  obtain ⟨p, q, hA0, hV, rfl, hfz, hnd⟩ := hW
  have hA : DataW.TrodAll enc Try.prog W 0 (fun _ => true) true Try.f9.params.toList args.toList ds p := hA0
  rw [Try.params9] at hA hval
  obtain ⟨v0, vs0, d0, ds0, p0, q0, hargs, rfl, rfl, h0, r0⟩ := trodAll_cons hA
  obtain ⟨v1, vs1, d1, ds1, p1, q1, rfl, rfl, rfl, h1, r1⟩ := trodAll_cons r0
  obtain ⟨v2, vs2, d2, ds2, p2, q2, rfl, rfl, rfl, h2, r2⟩ := trodAll_cons r1
  obtain ⟨v3, vs3, d3, ds3, p3, q3, rfl, rfl, rfl, h3, r3⟩ := trodAll_cons r2
  obtain ⟨rfl, rfl, rfl⟩ := trodAll_nil r3
  obtain rfl : args = #[v0, v1, v2, v3] := by cases args; simp_all
  obtain ⟨rfl, rfl⟩ := trodVars_none hV
  have hlt0 : ∀ x ∈ p0, x.block < W.heap.size := fun x hx => by simpa using hW'.lt x (by simp [hx])
  have h0k := h0
  obtain ⟨A0, c0, z0, rfl, m0, w0⟩ := open_items_arg Try.underlying22 Try.underlying32 (by kernel_rfl) rfl rfl (by kernel_rfl) (by kernel_rfl) Try.underlying9 Try.underlying9 (hval 0 22 v0 rfl rfl) h0
  obtain ⟨s1, rfl, rfl, rfl, w1⟩ := open_string Try.underlying9 (hval 1 9 v1 rfl rfl) h1
  obtain ⟨s2, rfl, rfl, rfl, w2⟩ := open_string Try.underlying9 (hval 2 9 v2 rfl rfl) h2
  obtain ⟨c3a, c3b, y3a, y3b, m3, rfl, rfl, rfl, hy3a, hy3b⟩ := Go.Joins.open_agg2 Try.underlying25 (by kernel_rfl) (show Try.prog.cellsOf 25 = 2 by kernel_rfl) (hval 3 25 v3 rfl rfl) h3
  obtain ⟨s3a, e3a, rfl, w3a⟩ := DataW.trod_int Try.underlying23 hy3a
  obtain ⟨s3b, e3b, rfl, w3b⟩ := DataW.trod_int Try.underlying23 hy3b
  simp at e3a e3b
  subst e3a e3b
  clear hA0 hval0
  simp only [List.append_nil] at hW'
  have b1 : s1.size ≤ 9223372036854775807 := w1
  have b2 : s2.size ≤ 9223372036854775807 := w2
  have b3a := wf_u64 w3a
  obtain ⟨n3a, rfl⟩ := Int.eq_ofNat_of_zero_le (show 0 ≤ s3a from b3a.1)
  have b3b := wf_u64 w3b
  obtain ⟨n3b, rfl⟩ := Int.eq_ofNat_of_zero_le (show 0 ≤ s3b from b3b.1)
  have k3a : ∀ V : World, DataW.trod enc Try.prog V 0 (fun _ => true) true 1 23 [.int .u64 (n3a : Nat)] = some (.lit (.int .u64 (n3a : Nat)), []) := fun V => by simp [DataW.trod, Try.underlying23, w3a]
  have k3b : ∀ V : World, DataW.trod enc Try.prog V 0 (fun _ => true) true 1 23 [.int .u64 (n3b : Nat)] = some (.lit (.int .u64 (n3b : Nat)), []) := fun V => by simp [DataW.trod, Try.underlying23, w3b]
  refine (walkStops_any shelfLaws walkLaws A0 c0 z0 s1 s2 n3a n3b W w0 m0 (by unfold maxLen; omega) (by unfold maxLen; omega) (by omega) (by omega)).mono fun e W' ⟨he, hb⟩ => ?_
  subst he
  exact ⟨_, rfl, _, _, _, [], _, [], hW', trodAll_cons_mk (shut_bool Try.underlying4 _) trodAll_mk0, (trodAll_cons_mk (Below.trod Try.laidOut (by kernel_rfl) (of_decide_eq_true (by kernel_rfl)) h0k hb hlt0) (trodAll_cons_mk (shut_string Try.underlying9 w1) (trodAll_cons_mk (shut_string Try.underlying9 w2) (trodAll_cons_mk (Go.Joins.shut_agg2 (y0 := (.lit (.int .u64 _), [])) (y1 := (.lit (.int .u64 _), [])) Try.underlying25 (by kernel_rfl) (show Try.prog.cellsOf 25 = 2 by kernel_rfl) ⟨1, k3a W'⟩ ⟨1, k3b W'⟩) trodAll_mk0)))), rfl, hb.frame _, fun h => by cases h⟩

/-- WalkStops: for every input the call returns true, and each argument reads as it did. -/
theorem walkStops_holds : Rows.WalkStopsSaid :=
  OpenClaim.holds_of_wide 9 Try.f9 rfl rfl rfl rfl rfl rfl rfl ⟨rfl, rfl, rfl, rfl, rfl⟩ rfl rfl rfl rfl rfl (by kernel_rfl) Try.func9 (by kernel_rfl)
    (of_decide_eq_true (by kernel_rfl)) (by unfold Func.isWrapper; first | (rw [if_pos (by decide +kernel)]; kernel_rfl) | (rw [if_neg (by decide +kernel)]; exact ⟨rfl, rfl⟩))
    (fun os started H enc _ => walkStops_lifted os started H enc)

end Go.Proofs.Ytglinhcldgpphaa
