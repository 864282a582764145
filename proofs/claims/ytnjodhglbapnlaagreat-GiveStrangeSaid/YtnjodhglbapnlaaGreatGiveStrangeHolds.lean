import Derived.Test.YtnjodhglbapnlaaGreatGvLawB
import Derived.Test.YtnjodhglbapnlaaGreatHoldItems
import Derived.Test.YtnjodhglbapnlaaGreatLetHold
import Derived.Test.YtnjodhglbapnlaaGreatGg26
import Derived.Test.YtnjodhglbapnlaaGreatGg29
set_option maxRecDepth 100000
set_option maxHeartbeats 16000000
namespace Go.Proofs.YtnjodhglbapnlaaGreat
open Go.ChangeShapes Go.WideShapes Go.ChangeAt Go.RowKit Go.WideMaps Go.WideElems
open Go.ChangeMaps (open_string shut_string)
theorem giveStrange_lifted (os : Os) (started : os.Started) (H : Type) (enc : TypeId × Value → H) :
  ReturnsInHanded {} Tryz.checked os 7 .any (Rows.giveStrangeSpec.pre6 enc Tryz.prog Tryz.f7 Rows.giveStrangeRow.domain false) (Rows.giveStrangeSpec.post enc Tryz.prog Tryz.f7 false true false false) := by
 refine returnsInHanded_of_change (C := Tryz.checked) Tryz.own started (by kernel_rfl) Tryz.func7
  (ChangeSpec.witness6 (enc := enc) (C := Tryz.checked) false ⟨#[], #[.slice none 0 0, .agg #[.int .u64 0, .int .u64 0], .agg #[.int .i64 0, .int .i64 0, .int .i64 0, .int .i64 0, .int .i64 0, .string ByteArray.empty, .string ByteArray.empty, .string ByteArray.empty, .int .i64 0, .int .i64 0, .string ByteArray.empty, .slice none 0 0, .bool false, .string ByteArray.empty, .int .i64 0, .int .u64 0, .int .u64 0, .int .i64 0, .slice none 0 0, .int .i64 0, .int .i64 0]], []⟩ 8 (by kernel_rfl) (by kernel_rfl) (by kernel_rfl) (by kernel_rfl)) ?_
 intro W base args ds gs before hval0 hW _ _
 have hval : ∀ (j : Nat) t v, Tryz.f7.params[j]? = some t → args[j]? = some v → Value.okWide Tryz.prog W .any base t v := hval0
 have hW' := hW
 obtain ⟨p, q, hA0, hV, rfl, hfz, hnd⟩ := hW
 have hA : DataW.TrodAll enc Tryz.prog W 0 (fun _ => true) true Tryz.f7.params.toList args.toList ds p := hA0
 rw [Tryz.params7] at hA hval
 obtain ⟨v0, vs0, d0, ds0, p0, q0, hargs, rfl, rfl, h0, r0⟩ := trodAll_cons hA
 obtain ⟨v1, vs1, d1, ds1, p1, q1, rfl, rfl, rfl, h1, r1⟩ := trodAll_cons r0
 obtain ⟨v2, vs2, d2, ds2, p2, q2, rfl, rfl, rfl, h2, r2⟩ := trodAll_cons r1
 obtain ⟨rfl, rfl, rfl⟩ := trodAll_nil r2
 obtain rfl : args = #[v0, v1, v2] := by cases args; simp_all
 obtain ⟨rfl, rfl⟩ := trodVars_none hV
 have hlt0 : ∀ x ∈ p0, x.block < W.heap.size := fun x hx => by simpa using hW'.lt x (by simp [hx])
 have hlt2 : ∀ x ∈ p2, x.block < W.heap.size := fun x hx => by simpa using hW'.lt x (by simp [hx])
 have h0k := h0
 obtain ⟨A0, c0, z0, rfl, m0, w0⟩ := yaa8 Tryz.underlying22 Tryz.underlying96 (by kernel_rfl) rfl rfl (by kernel_rfl) (by kernel_rfl) Tryz.underlying9 Tryz.underlying9 (hval 0 22 v0 rfl rfl) h0
 obtain ⟨c1a, c1b, y1a, y1b, m1, rfl, rfl, rfl, hy1a, hy1b⟩ := Go.Joins.open_agg2 Tryz.underlying25 (by kernel_rfl) (show Tryz.prog.cellsOf 25 = 2 by kernel_rfl) (hval 1 25 v1 rfl rfl) h1
 obtain ⟨s1a, e1a, rfl, w1a⟩ := DataW.trod_int Tryz.underlying23 hy1a
 obtain ⟨s1b, e1b, rfl, w1b⟩ := DataW.trod_int Tryz.underlying23 hy1b
 simp at e1a e1b
 subst e1a e1b
 have h2k := h2
 obtain ⟨l2, S2a, S2b, rfl, f2, a2, b2⟩ := yabh (hval 2 49 v2 rfl rfl) h2
 clear hA0 hval0
 simp only [List.append_nil] at hW'
 have b1a := wf_u64 w1a
 obtain ⟨n1a, rfl⟩ := Int.eq_ofNat_of_zero_le (show 0 ≤ s1a from b1a.1)
 have b1b := wf_u64 w1b
 obtain ⟨n1b, rfl⟩ := Int.eq_ofNat_of_zero_le (show 0 ≤ s1b from b1b.1)
 have k1a : ∀ V : World, DataW.trod enc Tryz.prog V 0 (fun _ => true) true 1 23 [.int .u64 (n1a : Nat)] = some (.lit (.int .u64 (n1a : Nat)), []) := fun V => by simp [DataW.trod, Tryz.underlying23, w1a]
 have k1b : ∀ V : World, DataW.trod enc Tryz.prog V 0 (fun _ => true) true 1 23 [.int .u64 (n1b : Nat)] = some (.lit (.int .u64 (n1b : Nat)), []) := fun V => by simp [DataW.trod, Tryz.underlying23, w1b]
 refine (yaa6 ybj ypy A0 c0 _ z0 n1a n1b l2 S2a S2b W w0 rfl (by omega) (by omega) a2 b2).mono fun e W' ⟨he, hb⟩ => ?_
 subst he
 exact ⟨_, rfl, _, _, _, [], _, [], hW', trodAll_cons_mk (shut_bool Tryz.underlying4 _) trodAll_mk0, (trodAll_cons_mk (Below.trod Tryz.laidOut (by kernel_rfl) (of_decide_eq_true (by kernel_rfl)) h0k hb hlt0) (trodAll_cons_mk (Go.Joins.shut_agg2 (y0 := (.lit (.int .u64 _), [])) (y1 := (.lit (.int .u64 _), [])) Tryz.underlying25 (by kernel_rfl) (show Tryz.prog.cellsOf 25 = 2 by kernel_rfl) ⟨1, k1a W'⟩ ⟨1, k1b W'⟩) (trodAll_cons_mk (Below.trod Tryz.laidOut (by kernel_rfl) (of_decide_eq_true (by kernel_rfl)) h2k hb hlt2) trodAll_mk0))), rfl, hb.frame _, fun h => by cases h⟩
theorem giveStrange_holds : Rows.GiveStrangeSaid :=
 OpenClaim.holds_of_wide 7 Tryz.f7 rfl rfl rfl rfl rfl rfl rfl ⟨rfl, rfl, rfl, rfl, rfl⟩ rfl rfl rfl rfl rfl (by kernel_rfl) Tryz.func7 (by kernel_rfl)
  (of_decide_eq_true (by kernel_rfl)) (by unfold Func.isWrapper; first | (rw [if_pos (by decide +kernel)]; kernel_rfl) | (rw [if_neg (by decide +kernel)]; exact ⟨rfl, rfl⟩))
  (fun os started H enc _ => giveStrange_lifted os started H enc)
end Go.Proofs.YtnjodhglbapnlaaGreat
