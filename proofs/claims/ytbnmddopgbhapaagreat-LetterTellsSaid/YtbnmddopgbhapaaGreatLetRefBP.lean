/-
  The document's Put, walked.
-/
import Derived.Test.YtbnmddopgbhapaaGreatLetRefB
namespace Go.Proofs.YtbnmddopgbhapaaGreat
open Go.RowKit

theorem numOk_num {hi v : Int} (h : (decide (0 ≤ v) && decide (v ≤ hi)) = true) (hh : hi ≤ 65535) : NumOk v := by
  rw [Bool.and_eq_true] at h
  exact ⟨of_decide_eq_true h.1, Int.le_trans (of_decide_eq_true h.2) hh⟩
structure PutOk (l : LV) : Prop where
  k : NumOk l.k
  f : NumOk l.f
  t : NumOk l.t
  nd : NumOk l.nd
  i : NumOk l.i
  ep : NumOk l.ep
  n : NumOk l.n
  li : linesB l.li = true
  op : NumOk l.op
  key : TxtOk l.key
  val : TxtOk l.val
  kto : TxtOk l.kto
  most : NumOk l.most
  er : NumOk l.er
  tv : TxtOk l.tv
  nx : TxtOk l.nx
  ti : linesB l.ti = true
  tn : NumOk l.tn
theorem putOk {l : LV} (h : mayB l = true) : PutOk l := by
  unfold mayB at h
  simp only [Bool.and_eq_true] at h
  obtain ⟨h1, h2, h3, h4, h5, h6, h7, h8, h9, h10, h11, h12, h13, h14, h15, h16, h17, h18, h19, h20⟩ := h
  have g1 := of_decide_eq_true h1
  have g2 := of_decide_eq_true h2
  have g15 := of_decide_eq_true h15
  have g16 := of_decide_eq_true h16
  exact ⟨⟨by omega, by omega⟩, numOk_num h3 (by omega), numOk_num h4 (by omega), numOk_num h5 (by omega), numOk_num h6 (by omega), numOk_num h7 (by omega), numOk_num h8 (by omega), h9, numOk_num h10 (by omega), okT h11, okT h12, okT h13, numOk_num h14 (by omega), ⟨by omega, by omega⟩, okT h17, okT h18, h19, numOk_num h20 (by omega)⟩
set_option maxRecDepth 20000 in
set_option maxHeartbeats 8000000 in
theorem dput_any (l : LV) (S1 S2 : Value) (b : ByteArray) (W : World) (hF : l.Fine) (h1 : SlAt W S1 l.ti) (h2 : SlAt W S2 l.li) (hp : putL l = some b) :
    Calls Tryz.prog 10 #[.agg (l.cells S1 S2)] W fun e w' => e = .returned (.string b) ∧ Below W.heap.size W w' := by
  have hm : mayB l = true := by rw [← putL_may, hp]; rfl
  have P := putOk hm
  have HT := Lib.hid (putT_is hp)
  have z1 := h1
  have z2 := h2
  obtain ⟨A1, k1, rfl, x1, x2, x3⟩ := h1
  obtain ⟨A2, k2, rfl, x4, x5, x6⟩ := h2
  obtain ⟨n1, hn1⟩ : ∃ n1, l.ti.length = n1 := ⟨_, rfl⟩
  obtain ⟨n2, hn2⟩ : ∃ n2, l.li.length = n2 := ⟨_, rfl⟩
  rw [hn1] at z1 x1
  rw [hn2] at z2 x4
  rw [hn1, hn2]
  have CI1 : Hid (∀ w, Below W.heap.size W w → Calls Tryz.prog 26 #[.slice A1 n1 k1] w fun e w' => e = .returned (.string (itemsT l.ti)) ∧ Below w.heap.size w w') := fun w hw => ditems_any l.ti _ w (z1.below hw) P.ti
  have CI2 : Hid (∀ w, Below W.heap.size W w → Calls Tryz.prog 26 #[.slice A2 n2 k2] w fun e w' => e = .returned (.string (itemsT l.li)) ∧ Below w.heap.size w w') := fun w hw => ditems_any l.li _ w (z2.below hw) P.li
  have hb0 : Below W.heap.size W (W.alloc (.cells (l.cells (.slice A1 n1 k1) (.slice A2 n2 k2)) 32)) := (Below.refl _ _).alloc (Nat.le_refl _) _
  have hrow : (W.alloc (.cells (l.cells (.slice A1 n1 k1) (.slice A2 n2 k2)) 32)).heap[W.heap.size]? = some (.cells (l.cells (.slice A1 n1 k1) (.slice A2 n2 k2)) 32) := heap_alloc_new W _
  have HS0 : Hid (∀ w', Below (W.alloc (.cells (l.cells (.slice A1 n1 k1) (.slice A2 n2 k2)) 32)).heap.size (W.alloc (.cells (l.cells (.slice A1 n1 k1) (.slice A2 n2 k2)) 32)) w' → Below (W.alloc (.cells (l.cells (.slice A1 n1 k1) (.slice A2 n2 k2)) 32)).heap.size (W.alloc (.cells (l.cells (.slice A1 n1 k1) (.slice A2 n2 k2)) 32)) w' ∧ (w'.cell? ⟨W.heap.size, 0, none⟩ = some (.int .i64 l.k) ∧ w'.cell? ⟨W.heap.size, 1, none⟩ = some (.int .i64 l.f) ∧ w'.cell? ⟨W.heap.size, 2, none⟩ = some (.int .i64 l.t) ∧ w'.cell? ⟨W.heap.size, 3, none⟩ = some (.int .i64 l.i) ∧ w'.cell? ⟨W.heap.size, 17, none⟩ = some (.int .i64 l.ep) ∧ w'.cell? ⟨W.heap.size, 19, none⟩ = some (.int .i64 l.n) ∧ w'.cell? ⟨W.heap.size, 20, none⟩ = some (.int .i64 l.nd) ∧ w'.cell? ⟨W.heap.size, 15, none⟩ = some (.int .u64 (l.af : Nat)) ∧ w'.cell? ⟨W.heap.size, 16, none⟩ = some (.int .u64 (l.au : Nat)) ∧ w'.cell? ⟨W.heap.size, 18, none⟩ = some ((.slice A2 n2 k2)))) := fun w' h => by
    have hr := (h.block _ (lt_of_heap hrow)).trans hrow
    exact ⟨h, cell_at hr rfl, cell_at hr rfl, cell_at hr rfl, cell_at hr rfl, cell_at hr rfl, cell_at hr rfl, cell_at hr rfl, cell_at hr rfl, cell_at hr rfl, cell_at hr rfl⟩
  have HS1 : Hid (∀ w', Below (W.alloc (.cells (l.cells (.slice A1 n1 k1) (.slice A2 n2 k2)) 32)).heap.size (W.alloc (.cells (l.cells (.slice A1 n1 k1) (.slice A2 n2 k2)) 32)) w' → Below (W.alloc (.cells (l.cells (.slice A1 n1 k1) (.slice A2 n2 k2)) 32)).heap.size (W.alloc (.cells (l.cells (.slice A1 n1 k1) (.slice A2 n2 k2)) 32)) w' ∧ (w'.cell? ⟨W.heap.size, 4, none⟩ = some (.int .i64 l.op) ∧ w'.cell? ⟨W.heap.size, 5, none⟩ = some (.string l.key) ∧ w'.cell? ⟨W.heap.size, 6, none⟩ = some (.string l.val) ∧ w'.cell? ⟨W.heap.size, 7, none⟩ = some (.string l.kto) ∧ w'.cell? ⟨W.heap.size, 8, none⟩ = some (.int .i64 l.most))) := fun w' h => by
    have hr := (h.block _ (lt_of_heap hrow)).trans hrow
    exact ⟨h, cell_at hr rfl, cell_at hr rfl, cell_at hr rfl, cell_at hr rfl, cell_at hr rfl⟩
  have HS2 : Hid (∀ w', Below (W.alloc (.cells (l.cells (.slice A1 n1 k1) (.slice A2 n2 k2)) 32)).heap.size (W.alloc (.cells (l.cells (.slice A1 n1 k1) (.slice A2 n2 k2)) 32)) w' → Below (W.alloc (.cells (l.cells (.slice A1 n1 k1) (.slice A2 n2 k2)) 32)).heap.size (W.alloc (.cells (l.cells (.slice A1 n1 k1) (.slice A2 n2 k2)) 32)) w' ∧ (w'.cell? ⟨W.heap.size, 9, none⟩ = some (.int .i64 l.er) ∧ w'.cell? ⟨W.heap.size, 10, none⟩ = some (.string l.tv) ∧ w'.cell? ⟨W.heap.size, 11, none⟩ = some ((.slice A1 n1 k1)) ∧ w'.cell? ⟨W.heap.size, 12, none⟩ = some (.bool l.more) ∧ w'.cell? ⟨W.heap.size, 13, none⟩ = some (.string l.nx) ∧ w'.cell? ⟨W.heap.size, 14, none⟩ = some (.int .i64 l.tn))) := fun w' h => by
    have hr := (h.block _ (lt_of_heap hrow)).trans hrow
    exact ⟨h, cell_at hr rfl, cell_at hr rfl, cell_at hr rfl, cell_at hr rfl, cell_at hr rfl, cell_at hr rfl⟩
  have C_k := Lib.hid (dnum_ok l.k P.k)
  have C_f := Lib.hid (dnum_ok l.f P.f)
  have C_t := Lib.hid (dnum_ok l.t P.t)
  have C_i := Lib.hid (dnum_ok l.i P.i)
  have C_op := Lib.hid (dnum_ok l.op P.op)
  have C_key := Lib.hid (dtxt_ok l.key P.key)
  have C_val := Lib.hid (dtxt_ok l.val P.val)
  have C_kto := Lib.hid (dtxt_ok l.kto P.kto)
  have C_most := Lib.hid (dnum_ok l.most P.most)
  have C_er := Lib.hid (dnum_ok l.er P.er)
  have C_tv := Lib.hid (dtxt_ok l.tv P.tv)
  have C_nx := Lib.hid (dtxt_ok l.nx P.nx)
  have C_tn := Lib.hid (dnum_ok l.tn P.tn)
  have C_af := Lib.hid (fun W => refWide_any l.af W hF.afB)
  have C_au := Lib.hid (fun W => refWide_any l.au W hF.auB)
  have C_ep := Lib.hid (dnum_ok l.ep P.ep)
  have C_n := Lib.hid (dnum_ok l.n P.n)
  have C_nd := Lib.hid (dnum_ok l.nd P.nd)
  have s_k := numT_sz l.k
  have s_f := numT_sz l.f
  have s_t := numT_sz l.t
  have s_i := numT_sz l.i
  have s_op := numT_sz l.op
  have s_key := textT_sz l.key
  have s_val := textT_sz l.val
  have s_kto := textT_sz l.kto
  have s_most := numT_sz l.most
  have s_er := numT_sz l.er
  have s_tv := textT_sz l.tv
  have s_ti := itemsT_sz l.ti P.ti
  have s_nx := textT_sz l.nx
  have s_tn := numT_sz l.tn
  have s_af := wideT_sz l.af
  have s_au := wideT_sz l.au
  have s_ep := numT_sz l.ep
  have s_li := itemsT_sz l.li P.li
  have s_n := numT_sz l.n
  have s_nd := numT_sz l.nd
  have CF := Lib.hid (flag_any l.more)
  have CM := Lib.hid (dnum_ok (if l.more then 1 else 0) (by cases l.more <;> exact ⟨by decide, by decide⟩))
  have HB0 := Lib.hid hb0
  have HT2 : Hid (putT l = b) := HT.out
  unfold putT at HT
  have s_more := numT_sz (if l.more then 1 else 0)
  generalize (if l.more = true then (1 : Int) else 0) = mv at *
  generalize hT_k : numT l.k = T_k at *
  generalize hT_f : numT l.f = T_f at *
  generalize hT_t : numT l.t = T_t at *
  generalize hT_i : numT l.i = T_i at *
  generalize hT_ep : numT l.ep = T_ep at *
  generalize hT_n : numT l.n = T_n at *
  generalize hT_nd : numT l.nd = T_nd at *
  generalize hT_af : txt (wideN 8 l.af) = T_af at *
  generalize hT_au : txt (wideN 8 l.au) = T_au at *
  generalize hT_li : itemsT l.li = T_li at *
  generalize hT_op : numT l.op = T_op at *
  generalize hT_key : textT l.key = T_key at *
  generalize hT_val : textT l.val = T_val at *
  generalize hT_kto : textT l.kto = T_kto at *
  generalize hT_most : numT l.most = T_most at *
  generalize hT_er : numT l.er = T_er at *
  generalize hT_tv : textT l.tv = T_tv at *
  generalize hT_ti : itemsT l.ti = T_ti at *
  generalize hT_more : numT mv = T_more at *
  generalize hT_nx : textT l.nx = T_nx at *
  generalize hT_tn : numT l.tn = T_tn at *
  have HP0 : Hid (¬ (9223372036854775807 < T_k.size + T_f.size) ∧ ¬ (9223372036854775807 < T_k.size + T_f.size + T_t.size) ∧ ¬ (9223372036854775807 < T_k.size + T_f.size + T_t.size + T_i.size) ∧ ¬ (9223372036854775807 < T_k.size + T_f.size + T_t.size + T_i.size + T_ep.size) ∧ ¬ (9223372036854775807 < T_k.size + T_f.size + T_t.size + T_i.size + T_ep.size + T_n.size) ∧ ¬ (9223372036854775807 < T_k.size + T_f.size + T_t.size + T_i.size + T_ep.size + T_n.size + T_nd.size) ∧ ¬ (9223372036854775807 < T_k.size + T_f.size + T_t.size + T_i.size + T_ep.size + T_n.size + T_nd.size + T_af.size) ∧ ¬ (9223372036854775807 < T_k.size + T_f.size + T_t.size + T_i.size + T_ep.size + T_n.size + T_nd.size + T_af.size + T_au.size) ∧ ¬ (9223372036854775807 < T_k.size + T_f.size + T_t.size + T_i.size + T_ep.size + T_n.size + T_nd.size + T_af.size + T_au.size + T_li.size)) := by
    show _ ∧ _
    refine ⟨by omega, by omega, by omega, by omega, by omega, by omega, by omega, by omega, by omega⟩
  obtain ⟨Q1, hQ1⟩ : ∃ q, T_k ++ T_f ++ T_t ++ T_i ++ T_ep ++ T_n ++ T_nd ++ T_af ++ T_au ++ T_li = q := ⟨_, rfl⟩
  have s_1 : Q1.size ≤ 30000 := by rw [← hQ1]; simp only [size_append]; omega
  have HP1 : Hid (¬ (9223372036854775807 < Q1.size + T_op.size) ∧ ¬ (9223372036854775807 < Q1.size + T_op.size + T_key.size) ∧ ¬ (9223372036854775807 < Q1.size + T_op.size + T_key.size + T_val.size) ∧ ¬ (9223372036854775807 < Q1.size + T_op.size + T_key.size + T_val.size + T_kto.size) ∧ ¬ (9223372036854775807 < Q1.size + T_op.size + T_key.size + T_val.size + T_kto.size + T_most.size)) := by
    show _ ∧ _
    refine ⟨by omega, by omega, by omega, by omega, by omega⟩
  obtain ⟨Q2, hQ2⟩ : ∃ q, Q1 ++ T_op ++ T_key ++ T_val ++ T_kto ++ T_most = q := ⟨_, rfl⟩
  have s_2 : Q2.size ≤ 60000 := by rw [← hQ2]; simp only [size_append]; omega
  have HP2 : Hid (¬ (9223372036854775807 < Q2.size + T_er.size) ∧ ¬ (9223372036854775807 < Q2.size + T_er.size + T_tv.size) ∧ ¬ (9223372036854775807 < Q2.size + T_er.size + T_tv.size + T_ti.size) ∧ ¬ (9223372036854775807 < Q2.size + T_er.size + T_tv.size + T_ti.size + T_more.size) ∧ ¬ (9223372036854775807 < Q2.size + T_er.size + T_tv.size + T_ti.size + T_more.size + T_nx.size) ∧ ¬ (9223372036854775807 < Q2.size + T_er.size + T_tv.size + T_ti.size + T_more.size + T_nx.size + T_tn.size)) := by
    show _ ∧ _
    refine ⟨by omega, by omega, by omega, by omega, by omega, by omega⟩
  have HQ1 := Lib.hid hQ1
  have HQ2 := Lib.hid hQ2
  clear s_1 s_2 hQ1 hQ2
  clear s_k s_f s_t s_i s_ep s_n s_nd s_af s_au s_li s_op s_key s_val s_kto s_most s_er s_tv s_ti s_more s_nx s_tn hT_k hT_f hT_t hT_i hT_ep hT_n hT_nd hT_af hT_au hT_li hT_op hT_key hT_val hT_kto hT_most hT_er hT_tv hT_ti hT_more hT_nx hT_tn
  clear P hb0 hrow hF hp hm x1 x2 x3 x4 x5 x6 z1 z2 hn1 hn2
  go_enter Tryz.func10, Tryz.ntmps10
  go_upto_region 1 with fail
  go_cut [3] (fun s3 wx => s3 = .string Q1 ∧ Hid (Below (W.alloc (.cells (l.cells (.slice A1 n1 k1) (.slice A2 n2 k2)) 32)).heap.size (W.alloc (.cells (l.cells (.slice A1 n1 k1) (.slice A2 n2 k2)) 32)) wx))
  case first =>
    obtain ⟨p_0, p_1, p_2, p_3, p_4, p_5, p_6, p_7, p_8⟩ := HP0.out
    go_region_held3 (fun w' => Below (W.alloc (.cells (l.cells (.slice A1 n1 k1) (.slice A2 n2 k2)) 32)).heap.size (W.alloc (.cells (l.cells (.slice A1 n1 k1) (.slice A2 n2 k2)) 32)) w' ∧ (w'.cell? ⟨W.heap.size, 0, none⟩ = some (.int .i64 l.k) ∧ w'.cell? ⟨W.heap.size, 1, none⟩ = some (.int .i64 l.f) ∧ w'.cell? ⟨W.heap.size, 2, none⟩ = some (.int .i64 l.t) ∧ w'.cell? ⟨W.heap.size, 3, none⟩ = some (.int .i64 l.i) ∧ w'.cell? ⟨W.heap.size, 17, none⟩ = some (.int .i64 l.ep) ∧ w'.cell? ⟨W.heap.size, 19, none⟩ = some (.int .i64 l.n) ∧ w'.cell? ⟨W.heap.size, 20, none⟩ = some (.int .i64 l.nd) ∧ w'.cell? ⟨W.heap.size, 15, none⟩ = some (.int .u64 (l.af : Nat)) ∧ w'.cell? ⟨W.heap.size, 16, none⟩ = some (.int .u64 (l.au : Nat)) ∧ w'.cell? ⟨W.heap.size, 18, none⟩ = some ((.slice A2 n2 k2)))) ((first | exact HS0.out _ ((Below.refl _ _).drew) | exact keepB HS0.out (by assumption) (by assumption) | exact keepE HS0.out (by assumption) (by assumption)))
      (first | (go_at_call 24; (with_reducible refine (C_k.out _).mono ?_); rintro e w9 ⟨rfl, hb9⟩) | (go_at_call 24; (with_reducible refine (C_f.out _).mono ?_); rintro e w9 ⟨rfl, hb9⟩) | (go_at_call 24; (with_reducible refine (C_t.out _).mono ?_); rintro e w9 ⟨rfl, hb9⟩) | (go_at_call 24; (with_reducible refine (C_i.out _).mono ?_); rintro e w9 ⟨rfl, hb9⟩) | (go_at_call 24; (with_reducible refine (C_ep.out _).mono ?_); rintro e w9 ⟨rfl, hb9⟩) | (go_at_call 24; (with_reducible refine (C_n.out _).mono ?_); rintro e w9 ⟨rfl, hb9⟩) | (go_at_call 24; (with_reducible refine (C_nd.out _).mono ?_); rintro e w9 ⟨rfl, hb9⟩) | (go_at_call 25; (with_reducible refine (C_af.out _).mono ?_); rintro e w9 ⟨rfl, hb9⟩) | (go_at_call 25; (with_reducible refine (C_au.out _).mono ?_); rintro e w9 ⟨rfl, hb9⟩) | (go_at_call 26; (with_reducible refine (CI2.out _ (inB HB0.out (by assumption))).mono ?_); rintro e w9 ⟨rfl, hb9⟩))
    all_goals
      go_wp2_with fail
      go_meet
      exact ⟨by rw [HQ1.out], finB (w := (W.alloc (.cells (l.cells (.slice A1 n1 k1) (.slice A2 n2 k2)) 32))) (wb := (W.alloc (.cells (l.cells (.slice A1 n1 k1) (.slice A2 n2 k2)) 32))) (Below.refl _ _) (by assumption)⟩
  case rest =>
    obtain ⟨rfl, HC1⟩ := hcut
    obtain ⟨w1, rfl⟩ : ∃ w1 : World, w1 = wc := ⟨_, rfl⟩
    go_upto_region 2 with fail
    go_cut [3] (fun s3 wx => s3 = .string Q2 ∧ Hid (Below (W.alloc (.cells (l.cells (.slice A1 n1 k1) (.slice A2 n2 k2)) 32)).heap.size (W.alloc (.cells (l.cells (.slice A1 n1 k1) (.slice A2 n2 k2)) 32)) wx))
    case first =>
      obtain ⟨p_0, p_1, p_2, p_3, p_4⟩ := HP1.out
      go_region_held3 (fun w' => Below (W.alloc (.cells (l.cells (.slice A1 n1 k1) (.slice A2 n2 k2)) 32)).heap.size (W.alloc (.cells (l.cells (.slice A1 n1 k1) (.slice A2 n2 k2)) 32)) w' ∧ (w'.cell? ⟨W.heap.size, 4, none⟩ = some (.int .i64 l.op) ∧ w'.cell? ⟨W.heap.size, 5, none⟩ = some (.string l.key) ∧ w'.cell? ⟨W.heap.size, 6, none⟩ = some (.string l.val) ∧ w'.cell? ⟨W.heap.size, 7, none⟩ = some (.string l.kto) ∧ w'.cell? ⟨W.heap.size, 8, none⟩ = some (.int .i64 l.most))) ((first | exact HS1.out _ HC1.out.drew | exact keepB HS1.out (by assumption) (by assumption) | exact keepE HS1.out (by assumption) (by assumption)))
        (first | (go_at_call 24; (with_reducible refine (C_op.out _).mono ?_); rintro e w9 ⟨rfl, hb9⟩) | (go_at_call 27; (with_reducible refine (C_key.out _).mono ?_); rintro e w9 ⟨rfl, hb9⟩) | (go_at_call 27; (with_reducible refine (C_val.out _).mono ?_); rintro e w9 ⟨rfl, hb9⟩) | (go_at_call 27; (with_reducible refine (C_kto.out _).mono ?_); rintro e w9 ⟨rfl, hb9⟩) | (go_at_call 24; (with_reducible refine (C_most.out _).mono ?_); rintro e w9 ⟨rfl, hb9⟩))
      all_goals
        go_wp2_with fail
        go_meet
        exact ⟨by rw [HQ2.out], finB (w := (W.alloc (.cells (l.cells (.slice A1 n1 k1) (.slice A2 n2 k2)) 32))) (wb := (W.alloc (.cells (l.cells (.slice A1 n1 k1) (.slice A2 n2 k2)) 32))) (Below.refl _ _) (by assumption)⟩
    case rest =>
      obtain ⟨rfl, HC2⟩ := hcut
      obtain ⟨w2, rfl⟩ : ∃ w2 : World, w2 = wc := ⟨_, rfl⟩
      obtain ⟨p_0, p_1, p_2, p_3, p_4, p_5⟩ := HP2.out
      go_upto_region 3 with fail
      go_region_held3 (fun w' => Below (W.alloc (.cells (l.cells (.slice A1 n1 k1) (.slice A2 n2 k2)) 32)).heap.size (W.alloc (.cells (l.cells (.slice A1 n1 k1) (.slice A2 n2 k2)) 32)) w' ∧ (w'.cell? ⟨W.heap.size, 9, none⟩ = some (.int .i64 l.er) ∧ w'.cell? ⟨W.heap.size, 10, none⟩ = some (.string l.tv) ∧ w'.cell? ⟨W.heap.size, 11, none⟩ = some ((.slice A1 n1 k1)) ∧ w'.cell? ⟨W.heap.size, 12, none⟩ = some (.bool l.more) ∧ w'.cell? ⟨W.heap.size, 13, none⟩ = some (.string l.nx) ∧ w'.cell? ⟨W.heap.size, 14, none⟩ = some (.int .i64 l.tn))) ((first | exact HS2.out _ HC2.out.drew | exact keepB HS2.out (by assumption) (by assumption) | exact keepE HS2.out (by assumption) (by assumption)))
          (first | (go_at_call 24; (with_reducible refine (C_er.out _).mono ?_); rintro e w9 ⟨rfl, hb9⟩) | (go_at_call 27; (with_reducible refine (C_tv.out _).mono ?_); rintro e w9 ⟨rfl, hb9⟩) | (go_at_call 26; (with_reducible refine (CI1.out _ (inB HB0.out (by assumption))).mono ?_); rintro e w9 ⟨rfl, hb9⟩) | (go_at_call 28; (with_reducible refine (CF.out _).mono ?_); rintro e w9 ⟨rfl, hb9⟩) | (go_at_call 24; (with_reducible refine (CM.out _).mono ?_); rintro e w9 ⟨rfl, hb9⟩) | (go_at_call 27; (with_reducible refine (C_nx.out _).mono ?_); rintro e w9 ⟨rfl, hb9⟩) | (go_at_call 24; (with_reducible refine (C_tn.out _).mono ?_); rintro e w9 ⟨rfl, hb9⟩))
      all_goals
        go_wp2_with fail
        go_ret
        exact ⟨by rw [← HT.out, HQ1.out, HQ2.out]; rfl, finB HB0.out (by assumption)⟩
end Go.Proofs.YtbnmddopgbhapaaGreat
