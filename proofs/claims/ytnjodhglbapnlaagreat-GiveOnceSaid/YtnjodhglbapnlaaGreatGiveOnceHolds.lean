import Derived.Test.YtnjodhglbapnlaaGreatGvLawA
import Derived.Test.YtnjodhglbapnlaaGreatArcHold
import Derived.Test.YtnjodhglbapnlaaGreatGg26
import Derived.Test.YtnjodhglbapnlaaGreatGg29
set_option maxRecDepth 100000
set_option maxHeartbeats 16000000
namespace Go.Proofs.YtnjodhglbapnlaaGreat
open Go.ChangeShapes Go.WideShapes Go.ChangeAt Go.RowKit Go.WideMaps Go.WideElems
open Go.ChangeMaps (open_string shut_string)
theorem giveOnce_lifted (os : Os) (started : os.Started) (H : Type) (enc : TypeId × Value → H) :
  ReturnsInHanded {} Tryz.checked os 6 .any (Rows.giveOnceSpec.pre6 enc Tryz.prog Tryz.f6 Rows.giveOnceRow.domain false) (Rows.giveOnceSpec.post enc Tryz.prog Tryz.f6 false true false false) := by
 refine returnsInHanded_of_change (C := Tryz.checked) Tryz.own started (by kernel_rfl) Tryz.func6
  (ChangeSpec.witness6 (enc := enc) (C := Tryz.checked) false ⟨#[], #[.agg #[.int .u64 0, .int .u64 0], .agg #[.int .u64 0, .int .u64 0], .agg #[.int .u64 0, .int .u64 0], .int .i64 0], []⟩ 8 (by kernel_rfl) (by kernel_rfl) (by kernel_rfl) (by kernel_rfl)) ?_
 intro W base args ds gs before hval0 hW _ _
 have hval : ∀ (j : Nat) t v, Tryz.f6.params[j]? = some t → args[j]? = some v → Value.okWide Tryz.prog W .any base t v := hval0
 have hW' := hW
 obtain ⟨p, q, hA0, hV, rfl, hfz, hnd⟩ := hW
 have hA : DataW.TrodAll enc Tryz.prog W 0 (fun _ => true) true Tryz.f6.params.toList args.toList ds p := hA0
 rw [Tryz.params6] at hA hval
 obtain ⟨v0, vs0, d0, ds0, p0, q0, hargs, rfl, rfl, h0, r0⟩ := trodAll_cons hA
 obtain ⟨v1, vs1, d1, ds1, p1, q1, rfl, rfl, rfl, h1, r1⟩ := trodAll_cons r0
 obtain ⟨v2, vs2, d2, ds2, p2, q2, rfl, rfl, rfl, h2, r2⟩ := trodAll_cons r1
 obtain ⟨v3, vs3, d3, ds3, p3, q3, rfl, rfl, rfl, h3, r3⟩ := trodAll_cons r2
 obtain ⟨rfl, rfl, rfl⟩ := trodAll_nil r3
 obtain rfl : args = #[v0, v1, v2, v3] := by cases args; simp_all
 obtain ⟨rfl, rfl⟩ := trodVars_none hV
 obtain ⟨c0a, c0b, y0a, y0b, m0, rfl, rfl, rfl, hy0a, hy0b⟩ := Go.Joins.open_agg2 Tryz.underlying25 (by kernel_rfl) (show Tryz.prog.cellsOf 25 = 2 by kernel_rfl) (hval 0 25 v0 rfl rfl) h0
 obtain ⟨s0a, e0a, rfl, w0a⟩ := DataW.trod_int Tryz.underlying23 hy0a
 obtain ⟨s0b, e0b, rfl, w0b⟩ := DataW.trod_int Tryz.underlying23 hy0b
 simp at e0a e0b
 subst e0a e0b
 obtain ⟨c1a, c1b, y1a, y1b, m1, rfl, rfl, rfl, hy1a, hy1b⟩ := Go.Joins.open_agg2 Tryz.underlying25 (by kernel_rfl) (show Tryz.prog.cellsOf 25 = 2 by kernel_rfl) (hval 1 25 v1 rfl rfl) h1
 obtain ⟨s1a, e1a, rfl, w1a⟩ := DataW.trod_int Tryz.underlying23 hy1a
 obtain ⟨s1b, e1b, rfl, w1b⟩ := DataW.trod_int Tryz.underlying23 hy1b
 simp at e1a e1b
 subst e1a e1b
 obtain ⟨c2a, c2b, y2a, y2b, m2, rfl, rfl, rfl, hy2a, hy2b⟩ := Go.Joins.open_agg2 Tryz.underlying25 (by kernel_rfl) (show Tryz.prog.cellsOf 25 = 2 by kernel_rfl) (hval 2 25 v2 rfl rfl) h2
 obtain ⟨s2a, e2a, rfl, w2a⟩ := DataW.trod_int Tryz.underlying23 hy2a
 obtain ⟨s2b, e2b, rfl, w2b⟩ := DataW.trod_int Tryz.underlying23 hy2b
 simp at e2a e2b
 subst e2a e2b
 obtain ⟨s3, rfl, rfl, rfl, w3⟩ := open_int Tryz.underlying3 (hval 3 3 v3 rfl rfl) h3
 clear hA0 hval0
 simp only [List.append_nil] at hW'
 have b0a := wf_u64 w0a
 obtain ⟨n0a, rfl⟩ := Int.eq_ofNat_of_zero_le (show 0 ≤ s0a from b0a.1)
 have b0b := wf_u64 w0b
 obtain ⟨n0b, rfl⟩ := Int.eq_ofNat_of_zero_le (show 0 ≤ s0b from b0b.1)
 have b1a := wf_u64 w1a
 obtain ⟨n1a, rfl⟩ := Int.eq_ofNat_of_zero_le (show 0 ≤ s1a from b1a.1)
 have b1b := wf_u64 w1b
 obtain ⟨n1b, rfl⟩ := Int.eq_ofNat_of_zero_le (show 0 ≤ s1b from b1b.1)
 have b2a := wf_u64 w2a
 obtain ⟨n2a, rfl⟩ := Int.eq_ofNat_of_zero_le (show 0 ≤ s2a from b2a.1)
 have b2b := wf_u64 w2b
 obtain ⟨n2b, rfl⟩ := Int.eq_ofNat_of_zero_le (show 0 ≤ s2b from b2b.1)
 have b3 := wf_i64 w3
 refine (ysm ybj ypy n0a n0b n1a n1b n2a n2b s3 W (by omega) (by omega) (by omega) (by omega) (by omega) (by omega)).mono fun e W' ⟨he, hb⟩ => ?_
 subst he
 exact ⟨_, rfl, _, _, _, [], [], [], hW', trodAll_cons_mk (shut_bool Tryz.underlying4 _) trodAll_mk0, (trodAll_cons_mk (Go.Joins.shut_agg2 (y0 := (.lit (.int .u64 _), [])) (y1 := (.lit (.int .u64 _), [])) Tryz.underlying25 (by kernel_rfl) (show Tryz.prog.cellsOf 25 = 2 by kernel_rfl) ⟨1, by simp [DataW.trod, Tryz.underlying23, w0a]⟩ ⟨1, by simp [DataW.trod, Tryz.underlying23, w0b]⟩) (trodAll_cons_mk (Go.Joins.shut_agg2 (y0 := (.lit (.int .u64 _), [])) (y1 := (.lit (.int .u64 _), [])) Tryz.underlying25 (by kernel_rfl) (show Tryz.prog.cellsOf 25 = 2 by kernel_rfl) ⟨1, by simp [DataW.trod, Tryz.underlying23, w1a]⟩ ⟨1, by simp [DataW.trod, Tryz.underlying23, w1b]⟩) (trodAll_cons_mk (Go.Joins.shut_agg2 (y0 := (.lit (.int .u64 _), [])) (y1 := (.lit (.int .u64 _), [])) Tryz.underlying25 (by kernel_rfl) (show Tryz.prog.cellsOf 25 = 2 by kernel_rfl) ⟨1, by simp [DataW.trod, Tryz.underlying23, w2a]⟩ ⟨1, by simp [DataW.trod, Tryz.underlying23, w2b]⟩) (trodAll_cons_mk (shut_int Tryz.underlying3 w3) trodAll_mk0)))), rfl, hb.frame _, fun h => by cases h⟩
theorem giveOnce_holds : Rows.GiveOnceSaid :=
 OpenClaim.holds_of_wide 6 Tryz.f6 rfl rfl rfl rfl rfl rfl rfl ⟨rfl, rfl, rfl, rfl, rfl⟩ rfl rfl rfl rfl rfl (by kernel_rfl) Tryz.func6 (by kernel_rfl)
  (of_decide_eq_true (by kernel_rfl)) (by unfold Func.isWrapper; first | (rw [if_pos (by decide +kernel)]; kernel_rfl) | (rw [if_neg (by decide +kernel)]; exact ⟨rfl, rfl⟩))
  (fun os started H enc _ => giveOnce_lifted os started H enc)
end Go.Proofs.YtnjodhglbapnlaaGreat
