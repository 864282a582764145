/-
  Nodes: which nodes a view knows of, rising, each once.
-/
import Derived.Test.YthjhfnbcfgkehaaViewCallsB
import Derived.Test.YthjhfnbcfgkehaaIntSort
import Derived.Test.YthjhfnbcfgkehaaAppendAny
namespace Go.Proofs.Ythjhfnbcfgkehaa
open Go.RowKit

attribute [local go_sem] Oper.semAt_some

theorem wpListIn_append_in {F : Fence} {d : Nat} {P : Program} {w : World} {ops : Array Oper} {rest : List Oper} {o : Oper} {a : Act} {Q : Exit → Act → World → Prop} (hg : o.guard = none) (s x : Operand) (t : TypeId)
    (ho : o.op = .call { callee := .builtin .append, args := #[s, x], argTypes := #[t, t] })
    (base : Nat) (e : TypeId) (i : TypeInfo) (z : Value) (size bytes : Nat) (ht : P.underlying t = some (.slice e)) (hi : P.info? e = some i) (hz : i.zero = some z)
    (hsize : i.size = size) (hby : i.bytes = bytes) (hzs : z.cells.size = size) (hsz : 0 < size)
    (v : Value) (n : Nat) (xs : List Value) (hs : a.eval s = v) (hown : w.ownsRow base e size v n xs)
    (y : Value) (m : Nat) (news : List Value) (hx : a.eval x = y) (hsrc : From w size y m news) (h1 : ∀ u ∈ news, u.oneCell' = true)
    (h63 : n + m ≤ maxLen) (hbytes : (n + m) * bytes ≤ 140737488355328) (hbase : base ≤ w.heap.size)
    (h : ∀ A c w', w'.ownsRow base e size (.slice A (n + m) c) (n + m) (xs ++ news) → w.grownBy w' v.ownBlock → SameOrNew w v (.slice A (n + m) c) → wpListIn F d P ops Q rest (a.put o.dst (.slice A (n + m) c)) w') : wpListIn F d P ops Q (o :: rest) a w := by
  refine wpListIn_plain hg fun K hK => ?_
  obtain ⟨v', w', hr, h2, h3, h4⟩ := run_append_any (P := P) w base t o.type e i z size bytes ht hi hz hsize hby hzs hsz v n xs hown y m news hsrc h1 h63 hbytes hbase
  obtain ⟨A, c, rfl⟩ := own_slice h2
  refine ⟨by simp [Oper.about, ho, resolve, Target.leads, Sem.run_pure], ?_⟩
  rw [Oper.semAt_plain F _ _ (by rw [ho]; intro c hc; cases hc)]
  simp only [execOp, ho, resolve, invoke, builtin, Sem.run_bind, Sem.run_pure, Result.andThen_ok, List.map_toArray, List.map_cons, List.map_nil, hs, hx, hr]
  exact hK _ _ (h A c w' h2 h3 h4)
theorem infoN_ : ∃ i z, Try.prog.info? 3 = some i ∧ i.zero = some z ∧ i.size = 1 ∧ i.bytes = 8 ∧ z.cells.size = 1 := by
  have h : (Try.prog.info? 3).map (fun i => (i.zero.isSome, i.size, i.bytes, (i.zero.getD undef).cells.size)) = some (true, 1, 8, 1) := by kernel_rfl
  obtain ⟨i, hi, hx⟩ := Option.map_eq_some_iff.1 h
  simp only [Prod.mk.injEq] at hx
  obtain ⟨h1, h2, h3, h4⟩ := hx
  obtain ⟨z, hz⟩ := Option.isSome_iff_exists.1 h1
  exact ⟨i, z, hi, hz, h2, h3, by rw [hz] at h4; exact h4⟩
abbrev nodesC (l : List AO) : List Value := (l.map AO.n).map (Value.int .i64)
theorem node_new (w : World) (n : Int) : ∀ j u, ([.int .i64 n] : List Value)[j]? = some u → (w.alloc (.cells #[.int .i64 n] 3)).cell? ((⟨w.heap.size, 0, none⟩ : Addr).add j) = some u := by
  intro j u hj
  rw [Go.WideShapes.add_plain]
  match j, hj with
  | 0, hj => simp at hj; subst hj; go_simp
  | j + 1, hj => simp at hj
def NodesPost (W : World) (a : List AO) (e : Ending) (w' : World) : Prop :=
  ∃ (A : Option Addr) (c : Nat) (ns : List Int), e = .returned (.slice A ns.length c) ∧ w'.ownsRow W.heap.size 3 1 (.slice A ns.length c) ns.length (ns.map fun n : Int => .int .i64 n) ∧ ns.Pairwise (· < ·) ∧ (∀ n, n ∈ ns ↔ ∃ p ∈ a, p.n = n) ∧ Below W.heap.size W w'
set_option maxRecDepth 100000 in
set_option maxHeartbeats 4000000 in
theorem nodes_any {W : World} {g : Nat} {a : List AO} {F : List Nat} (h : VH W g a F) (ha : a.length ≤ 10000) :
    Calls Try.prog 17 #[.pointer (some ⟨g, 0, none⟩)] W (NodesPost W a) := by
  have HVH := Lib.hid h
  have HFS := Lib.hid h.mem.2
  clear h
  obtain ⟨i0, z0, hi0, hz0, hs0, hb0, hzc⟩ := infoN_
  refine (callsIn_wide (n := 0)).1 (callsIn_of_wp_marks Try.func17 rfl trivial ?_ rfl)
  simp only [Try.ntmps17, List.size_toArray, List.length_cons, List.length_nil, Nat.reduceAdd, Nat.reduceSub, Array.replicate_succ, Array.replicate_zero, List.push_toArray, List.append_toArray, List.nil_append, List.cons_append]
  gi_wp2_with (refine ⟨trivial, rfl, ?_⟩; gi_at_call 21; refine (callsIn_wide.2 (all_any _ _)).mono ?_; rintro e w' ⟨rfl, rfl⟩)
  obtain ⟨W2, hW2⟩ : ∃ W2, W2 = (W.alloc (.cells #[.slice none 0 0] 45)).alloc (.cells #[.pointer (some ⟨g, 0, none⟩)] 29) := ⟨_, rfl⟩
  rw [← hW2]
  have v1 : Var W2 W.heap.size (.slice none 0 0) := by rw [hW2]; exact ⟨by go_simp, by go_simp⟩
  have v3 : Var W2 (W.heap.size + 1) (.pointer (some ⟨g, 0, none⟩)) := by rw [hW2]; exact ⟨by go_simp, by go_simp⟩
  have b2 : Below W.heap.size W W2 := by rw [hW2]; exact ((Below.refl _ W).alloc (Nat.le_refl _) _).alloc (by simp) _
  have z2 : W2.heap.size = W.heap.size + 2 := by rw [hW2]; simp
  have HB := Lib.hid b2
  clear hW2 b2
  have hszo : (Try.prog.info? 27).map (·.size) = some 4 := ao_info4
  refine wp_seqA (α := AO) (enc := encO) (gf := 35) (lb := #[.pointer (some ⟨W.heap.size + 1, 0, none⟩)]) rfl (enters_of Try.func35 (by kernel_rfl) rfl) (xs := a) (B := F)
    (fun V hV => HVH.out.way (HB.out.trans (hV.mono (by omega))) (v3.below hV).val) (fun q hq => by have := HFS.out q hq; omega) (fun _ => rfl)
    (fun n V Y => ∃ A c, Y = W.heap.size :: (Value.slice A n c).ownBlock.toList ∧ Var V W.heap.size (.slice A n c) ∧ V.ownsRow W2.heap.size 3 1 (.slice A n c) n (nodesC (a.take n)))
    (fun _ _ _ => False)
    [W.heap.size] (by simp; omega) ⟨none, 0, rfl, v1, World.ownsRow_nil _ _ _ _⟩
    (by
      rintro n V V1 Y G ⟨A, c, rfl, h1, h2⟩ tt hn
      exact ⟨A, c, rfl, h1.touch tt (hn _ (by simp)), tt.row h2 (fun q hq => hn q (by simp [hq]))⟩)
    (fun _ _ _ _ _ h _ _ => h)
    (fun n W0 p a1 V => OBlk V W0.heap.size p ∧ a1 = { tmps := #[.pointer (some ⟨g, 0, none⟩), undef, .slice none 0 0, .pointer (some ⟨W.heap.size, 0, none⟩), .pointer (some ⟨W0.heap.size, 0, none⟩), .pointer (some ⟨g, 0, none⟩), .func (.func 35) #[] #[.pointer (some ⟨W.heap.size + 1, 0, none⟩)], .agg p.cells, undef, undef, undef, undef, undef, undef, undef, undef, undef], defers := [] })
    (by
      rintro n V x a1 V1 V2 G ⟨h1, h2⟩ tt hG
      exact ⟨h1.touch tt (fun z => Nat.lt_irrefl _ (hG _ z)), h2⟩)
    ?assign ?body ?done ?stop
  case assign =>
    rintro l n p V K hx hK
    have hold : ZO.cells.size = p.cells.size := rfl
    have hone := ao_one4 p
    have hszq : (Try.prog.info? 27).map (·.size) = some p.cells.size := hszo
    have HKK := Lib.hid (hK _ _ (bx_new V ZO.cells p.cells 27) ⟨bx_row _ (heap_alloc_new V _), rfl⟩)
    clear hK hx
    have ez : encO p = #[.agg p.cells] := rfl
    rw [ez]
    gi_wp2_with (with_reducible (show wpListIn _ _ _ _ _ (⟨none, Op.store _ (Operand.tmp 4) _, _, _, _, _⟩ :: _) _ _); go_must (refine wpListIn_store_row rfl 27 (.tmp 4) (.tmp 7) rfl V.heap.size p.cells rfl rfl 27 ZO.cells (heap_alloc_new V _) hszq hold hone ?_))
    exact HKK.out
  case body =>
    rintro lp n p W0 V a1 Y hW0 hV hx ⟨A, c, rfl, h1, h2⟩ hY ⟨h5, rfl⟩
    have hn : n < a.length := (List.getElem?_eq_some_iff.1 hx).1
    obtain ⟨d0, d1, d2, d3⟩ := h5.cells
    have hst : nodesC (a.take (n + 1)) = nodesC (a.take n) ++ [.int .i64 p.n] := by
      show ((a.take (n + 1)).map AO.n).map _ = _
      rw [List.take_add_one, hx]
      simp
    have hsv : W2.heap.size ≤ V.heap.size := by omega
    have H1 := Lib.hid h1
    have H2 := Lib.hid h2
    have HST := Lib.hid hst
    have HY := Lib.hid hY
    have c1 := h1.val
    have f1 := h1.free
    have hqw : ∀ q, (Value.slice A n c).ownBlock = some q → q ≠ W.heap.size := fun q hq => by have := (h2.lt q hq).1; omega
    have HQW := Lib.hid hqw
    clear h1 h2 h5 hx hY hst hqw
    gi_wp2_with (gi_at_builtin; refine wpListIn_append_in rfl (.tmp 8) (.tmp 11) 45 rfl W2.heap.size 3 i0 z0 1 8 Try.underlying45 hi0 hz0 hs0 hb0 hzc (by decide) (.slice A n c) n (nodesC (a.take n)) rfl (H2.out.alloc _) (.slice (some ⟨V.heap.size, 0, none⟩) 1 1) 1 [.int .i64 p.n] rfl (.inr ⟨_, _, rfl, rfl, node_new V p.n⟩) (by simp [Value.oneCell']) (by unfold maxLen; omega) (by omega) (by simp; omega) ?_; intro A2 c2 w2 hown2 hg2 hsn2; have t2 : Touch (Value.slice A n c).ownBlock.toList V w2 := ((Touch.refl _ _).alloc (.cells #[.int .i64 p.n] 3)).grown hg2 (fun k hk => .inl (by simpa using hk)); have k2 := (H1.out.touch t2 (fun z => HQW.out _ (by simpa using z) rfl)); have c2v := k2.val; have f2v := k2.free; have K2 := Lib.hid k2; have T2 := Lib.hid t2; have O2 := Lib.hid hown2; have N2 := Lib.hid hsn2; clear hown2 hg2 hsn2 t2 k2)
    have t3 : Touch (W.heap.size :: (Value.slice A n c).ownBlock.toList) V (w2.setCell ⟨W.heap.size, 0, none⟩ (.slice A2 (n + 1) c2)) := (T2.out.mono (G := W.heap.size :: (Value.slice A n c).ownBlock.toList) (by intro q hq; exact List.mem_cons_of_mem _ hq)).set (.inl (by simp)) _
    have hFW : ∀ q ∈ W.heap.size :: (Value.slice A n c).ownBlock.toList, q ∉ F := fun q hq z => by
      have h9 := HFS.out q z
      rcases List.mem_cons.1 hq with rfl | hq
      · omega
      · have := (H2.out.lt q (by simpa using hq)).1
        omega
    have h7 : (w2.setCell ⟨W.heap.size, 0, none⟩ (.slice A2 (n + 1) c2)).ownsRow W2.heap.size 3 1 (.slice A2 (n + 1) c2) (n + 1) (nodesC (a.take (n + 1))) := by
      rw [HST.out]
      exact ((Touch.refl [W.heap.size] w2).set (p := ⟨W.heap.size, 0, none⟩) (.inl (by simp)) _).row O2.out (fun q hq z => by have := (O2.out.lt q hq).1; simp at z; omega)
    refine ⟨W.heap.size :: (Value.slice A2 (n + 1) c2).ownBlock.toList, ⟨⟨_, t3, fun q hq => ⟨hq, hFW q hq⟩⟩, fun q hq => ?_⟩, A2, c2, rfl, K2.out.set _, h7⟩
    rcases List.mem_cons.1 hq with rfl | hq
    · exact ⟨by have := t3.size; have := H1.out.lt; omega, .inl (by simp)⟩
    · have hq : (Value.slice A2 (n + 1) c2).ownBlock = some q := by simpa using hq
      refine ⟨(h7.lt q hq).2, ?_⟩
      rcases N2.out q hq with z | z
      · exact .inl (by simp [z])
      · simp at z
        exact .inr (by omega)
  case done =>
    rintro D V Y hD hDn hL ⟨A, c, rfl, h1, h2⟩ hK
    have hB := Left.new HB.out hL (by simp)
    have c1 := h1.val
    rw [List.take_length] at h2
    have HK := Lib.hid hK
    have HBV := Lib.hid hB
    have hDlt : D < V.heap.size := (Array.getElem?_eq_some_iff.1 hK).1
    have hDA : ∀ q, (Value.slice A a.length c).ownBlock = some q → q ≠ D := fun q hq e => hDn (by rw [← e]; simp [hq])
    obtain ⟨zs, hzs⟩ : ∃ zs, a.map AO.n = zs := ⟨_, rfl⟩
    have hzl : zs.length = a.length := by rw [← hzs]; simp
    have hmem : ∀ n, n ∈ Lib.compact (sortI zs) ↔ ∃ p ∈ a, p.n = n := fun n => by
      rw [(compact_sorted (sortI_sorted zs)).2, sortI_mem, ← hzs, List.mem_map]
    have HM := Lib.hid hmem
    have hup := Lib.hid (compact_sorted (sortI_sorted zs)).1
    have h2 : V.ownsRow W2.heap.size 3 1 (.slice A a.length c) a.length (zs.map (Value.int .i64)) := by rw [← hzs]; exact h2
    obtain ⟨m, hm⟩ : ∃ m, a.length = m := ⟨_, rfl⟩
    rw [hm] at h2 c1 h1 ha hDA hzl
    have H1 := Lib.hid h1
    have H2 := Lib.hid h2
    have HDA := Lib.hid hDA
    have HZL := Lib.hid hzl
    clear hB hL h1 hK hDn hzs hmem hm hDA hzl h2
    by_cases hm0 : m = 0
    · subst hm0
      have hz0 : zs = [] := List.eq_nil_of_length_eq_zero HZL.out
      have e0 : Lib.compact (sortI zs) = [] := List.eq_nil_iff_forall_not_mem.2 fun x hx => by
        have h9 := (sortI_mem zs x).1 (((compact_sorted (sortI_sorted zs)).2 x).1 hx)
        rw [hz0] at h9
        cases h9
      have CS := Lib.hid (fun w => sort_nil w A c)
      have CC := Lib.hid (fun w => compact_nil w A c)
      gi_wp2_with (first
        | (refine ⟨trivial, rfl, ?_⟩; gi_at_call 25; refine (callsIn_wide.2 (CS.out _)).mono ?_; rintro e w3 ⟨rfl, rfl⟩)
        | (refine ⟨trivial, rfl, ?_⟩; gi_at_call 26; refine (callsIn_wide.2 (CC.out _)).mono ?_; rintro e w4 ⟨rfl, rfl⟩))
      have hp : Touch [D] w4 (w4.putObj D (.deferred none)) := (Touch.refl _ _).put (.inl (by simp)) _
      refine ⟨by simp, .inl ⟨_, _, rfl, run_takeDeferred HK.out, ?_⟩⟩
      refine ⟨_, results_tmp rfl _ _ _, A, c, Lib.compact (sortI zs), ?_, ?_, hup.out, HM.out, HBV.out.trans (belowK_b (w := W) (Nat.le_refl _) w4 D _ _ (by omega) HK.out rfl rfl)⟩
      · rw [e0]; rfl
      · rw [e0]
        have h9 := hp.row H2.out (fun q hq z => HDA.out q hq (by simpa using z))
        rw [hz0] at h9
        exact own_mono2 h9 (by omega)
    · obtain ⟨q, rfl⟩ := pr_at H2.out (by omega)
      have CS := Lib.hid (sort_own H2.out (by omega))
      gi_wp2_with (first
        | (refine ⟨trivial, rfl, ?_⟩; gi_at_call 25; refine (callsIn_wide.2 CS.out).mono ?_; rintro e w3 ⟨rfl, hr3, ht3⟩; have CC := Lib.hid (compact_own hr3 (by omega)); have hq3 := (hr3.lt q rfl).1; have k3 := (H1.out.touch ht3 (by simp; omega)).val; have T3 := Lib.hid ht3; clear hr3 ht3)
        | (refine ⟨trivial, rfl, ?_⟩; gi_at_call 26; refine (callsIn_wide.2 CC.out).mono ?_; rintro e w4 ⟨rfl, hr4, ht4⟩; have HR4 := Lib.hid hr4; have T4 := Lib.hid ht4; clear hr4 ht4))
      have t5 : Touch [q] V w4 := T3.out.trans T4.out (fun x hx => .inl hx)
      have hK4 : w4.heap[D]? = some (.deferred (some [])) := (t5.block D hDlt (by simp; exact fun e => HDA.out q rfl e.symm)).trans HK.out
      have hp : Touch [D] w4 (w4.putObj D (.deferred none)) := (Touch.refl _ _).put (.inl (by simp)) _
      refine ⟨by simp, .inl ⟨_, _, rfl, run_takeDeferred hK4, ?_⟩⟩
      refine ⟨_, results_tmp rfl _ _ _, some ⟨q, 0, none⟩, c, Lib.compact (sortI zs), rfl, own_mono2 (hp.row HR4.out (fun x hx z => HDA.out x (by rw [← hx]; rfl) (by simpa using z))) (by omega), hup.out, HM.out, ?_⟩
      exact (Touch.acc HBV.out t5 (by simp; omega)).trans (belowK_b (w := W) (Nat.le_refl _) w4 D _ _ (by omega) hK4 rfl rfl)
  case stop =>
    rintro D c V Y hD hDn hL h hK
    exact h.elim
end Go.Proofs.Ythjhfnbcfgkehaa
