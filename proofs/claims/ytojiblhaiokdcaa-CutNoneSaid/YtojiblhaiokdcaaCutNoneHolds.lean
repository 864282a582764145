/-
  Of items of which one may not be put in none is.
  No condition: every input. It speaks of the commit of the project that COMMIT names.
-/
import Derived.Test.YtojiblhaiokdcaaCutLawB
import Derived.Test.YtojiblhaiokdcaaHoldItems
namespace Go.Proofs.Ytojiblhaiokdcaa
open Go.ChangeShapes Go.WideShapes Go.ChangeAt Go.RowKit Go.WideMaps Go.WideElems
open Go.ChangeMaps (open_string shut_string)

set_option maxRecDepth 100000 in
theorem cutNone_lifted (os : Os) (started : os.Started) (H : Type) (enc : TypeId × Value → H) :
    ReturnsInHanded {} Try.checked os 6 .any (Rows.cutNoneSpec.pre6 enc Try.prog Try.f6 Rows.cutNoneRow.domain false) (Rows.cutNoneSpec.post enc Try.prog Try.f6 false true false false) := by
  refine returnsInHanded_of_change (C := Try.checked) Try.own started (by kernel_rfl) Try.func6
    (ChangeSpec.witness6 (enc := enc) (C := Try.checked) false ⟨#[], #[.slice none 0 0, .slice none 0 0, .int .i64 0, .agg #[.string ByteArray.empty, .string ByteArray.empty]], []⟩ 8 (by kernel_rfl) (by kernel_rfl) (by kernel_rfl) (by kernel_rfl)) ?_
  intro W base args ds gs before hval0 hW _ _
  have hval : ∀ (j : Nat) t v, Try.f6.params[j]? = some t → args[j]? = some v → Value.okWide Try.prog W .any base t v := hval0
  have hW' := hW
  obtain ⟨p, q, hA0, hV, rfl, hfz, hnd⟩ := hW
  have hA : DataW.TrodAll enc Try.prog W 0 (fun _ => true) true Try.f6.params.toList args.toList ds p := hA0
  rw [Try.params6] at hA hval
  obtain ⟨v0, vs0, d0, ds0, p0, q0, hargs, rfl, rfl, h0, r0⟩ := trodAll_cons hA
  obtain ⟨v1, vs1, d1, ds1, p1, q1, rfl, rfl, rfl, h1, r1⟩ := trodAll_cons r0
  obtain ⟨v2, vs2, d2, ds2, p2, q2, rfl, rfl, rfl, h2, r2⟩ := trodAll_cons r1
  obtain ⟨v3, vs3, d3, ds3, p3, q3, rfl, rfl, rfl, h3, r3⟩ := trodAll_cons r2
  obtain ⟨rfl, rfl, rfl⟩ := trodAll_nil r3
  obtain rfl : args = #[v0, v1, v2, v3] := by cases args; simp_all
  obtain ⟨rfl, rfl⟩ := trodVars_none hV
  have hlt0 : ∀ x ∈ p0, x.block < W.heap.size := fun x hx => by simpa using hW'.lt x (by simp [hx])
  have hlt1 : ∀ x ∈ p1, x.block < W.heap.size := fun x hx => by simpa using hW'.lt x (by simp [hx])
  have h0k := h0
  obtain ⟨A0, c0, z0, rfl, m0, w0⟩ := open_items_arg Try.underlying22 Try.underlying39 (by kernel_rfl) rfl rfl (by kernel_rfl) (by kernel_rfl) Try.underlying9 Try.underlying9 (hval 0 22 v0 rfl rfl) h0
  have h1k := h1
  obtain ⟨A1, c1, z1, rfl, m1, n1, o1, w1⟩ := open_items_cap Try.underlying22 Try.underlying39 (by kernel_rfl) rfl rfl (by kernel_rfl) (by kernel_rfl) Try.underlying9 Try.underlying9 (hval 1 22 v1 rfl rfl) h1
  obtain ⟨s2, rfl, rfl, rfl, w2⟩ := open_int Try.underlying3 (hval 2 3 v2 rfl rfl) h2
  obtain ⟨c3a, c3b, y3a, y3b, m3, rfl, rfl, rfl, hy3a, hy3b⟩ := Go.Joins.open_agg2 Try.underlying39 (by kernel_rfl) (show Try.prog.cellsOf 39 = 2 by kernel_rfl) (hval 3 39 v3 rfl rfl) h3
  obtain ⟨s3a, e3a, rfl, w3a⟩ := DataW.trod_string Try.underlying9 hy3a
  obtain ⟨s3b, e3b, rfl, w3b⟩ := DataW.trod_string Try.underlying9 hy3b
  simp at e3a e3b
  subst e3a e3b
  clear hA0 hval0
  simp only [List.append_nil] at hW'
  have b2 := wf_i64 w2
  have b3a : s3a.size ≤ maxLen := w3a
  have b3b : s3b.size ≤ maxLen := w3b
  have k3a : ∀ V : World, DataW.trod enc Try.prog V 0 (fun _ => true) true 1 9 [.string s3a] = some (.lit (.string s3a.data.toList), []) := fun V => by simp [DataW.trod, Try.underlying9, w3a]
  have k3b : ∀ V : World, DataW.trod enc Try.prog V 0 (fun _ => true) true 1 9 [.string s3b] = some (.lit (.string s3b.data.toList), []) := fun V => by simp [DataW.trod, Try.underlying9, w3b]
  refine (cutNone_any A0 c0 z0 A1 c1 z1 s2 s3a s3b W w0 w1 m0 m1 n1 o1.1 o1.2 b3a b3b).mono fun e W' ⟨he, hb⟩ => ?_
  subst he
  exact ⟨_, rfl, _, _, _, [], _, [], hW', trodAll_cons_mk (shut_bool Try.underlying4 _) trodAll_mk0, (trodAll_cons_mk (Below.trod Try.laidOut (by kernel_rfl) (of_decide_eq_true (by kernel_rfl)) h0k hb hlt0) (trodAll_cons_mk (Below.trod Try.laidOut (by kernel_rfl) (of_decide_eq_true (by kernel_rfl)) h1k hb hlt1) (trodAll_cons_mk (shut_int Try.underlying3 w2) (trodAll_cons_mk (Go.Joins.shut_agg2 (y0 := (.lit (.string _), [])) (y1 := (.lit (.string _), [])) Try.underlying39 (by kernel_rfl) (show Try.prog.cellsOf 39 = 2 by kernel_rfl) ⟨1, k3a W'⟩ ⟨1, k3b W'⟩) trodAll_mk0)))), rfl, hb.frame _, fun h => by cases h⟩

/-- CutNone: for every input the call returns true, and each argument reads as it did. -/
theorem cutNone_holds : Rows.CutNoneSaid :=
  OpenClaim.holds_of_wide 6 Try.f6 rfl rfl rfl rfl rfl rfl rfl ⟨rfl, rfl, rfl, rfl, rfl⟩ rfl rfl rfl rfl rfl (by kernel_rfl) Try.func6 (by kernel_rfl)
    (of_decide_eq_true (by kernel_rfl)) (by unfold Func.isWrapper; first | (rw [if_pos (by decide +kernel)]; kernel_rfl) | (rw [if_neg (by decide +kernel)]; exact ⟨rfl, rfl⟩))
    (fun os started H enc _ => cutNone_lifted os started H enc)

end Go.Proofs.Ytojiblhaiokdcaa
