/-
  slices.Values, AppendSeq, Collect, Sorted of numbers: a way through a row; what a way tells, in memory of its own, rising.
-/
import Derived.Test.YtfpoapmbpbkibaaUSortPdq
import Derived.Test.YtfpoapmbpbkibaaAppendIn
import Derived.Test.YtfpoapmbpbkibaaPbBook
namespace Go.Proofs.Ytfpoapmbpbkibaa
open Go.RowKit Pb

attribute [local go_sem] Oper.semAt_some

theorem own_lower {W : World} {base b0 e size n : Nat} {v : Value} {xs : List Value} (h : W.ownsRow base e size v n xs) (hb : b0 ≤ base) : W.ownsRow b0 e size v n xs := by
  refine ⟨h.1, ?_⟩
  rcases h.2 with h0 | ⟨g, cap, cur, hv, hg, r⟩
  · exact .inl h0
  · exact .inr ⟨g, cap, cur, hv, Nat.le_trans hb hg, r⟩
def blkOf (A : Option Addr) : List Nat := A.toList.map (·.block)
abbrev encU1 : Int → Array Value := fun x => #[.int .u64 x]
theorem pt_stay {W w : World} {A : Option Addr} {l : List Int} {G : List Nat} (h : PtAt W A l) (t : Touch G W w) (hG : ∀ q ∈ blkOf A, q ∉ G) : PtAt w A l := by
  obtain ⟨b, o, hh⟩ := h
  refine ⟨b, o, fun i hi => ?_⟩
  obtain ⟨rfl, h2, h3⟩ := hh i hi
  refine ⟨rfl, Nat.lt_of_lt_of_le h2 t.size, ?_⟩
  rw [t.cell (p := ⟨b, o + i, none⟩) h2 (hG b (by simp [blkOf]))]
  exact h3
theorem pt_left {B Y Y' : List Nat} {W w : World} {A : Option Addr} {l : List Int} (h : PtAt W A l) (t : Left B Y W w Y') (hB : ∀ q ∈ blkOf A, q ∈ B) : PtAt w A l := by
  obtain ⟨⟨G, tG, hG⟩, -⟩ := t
  exact pt_stay h tG fun q hq z => (hG q z).2 (hB q hq)
set_option maxRecDepth 100000 in
set_option maxHeartbeats 4000000 in
theorem valsWay {W : World} {b n c : Nat} {A : Option Addr} {l : List Int} (hv : W.cell? ⟨b, 0, none⟩ = some (.slice A n c)) (hA : PtAt W A l) (hn : l.length = n) (hl : n ≤ 100000) :
    WayY 57 #[.pointer (some ⟨b, 0, none⟩)] encU1 l (blkOf A) W := by
  intro lp J Q Y0 hY0 h0 hJ hQ hR
  have H0 := Lib.hid h0
  have HJ := Lib.hid hJ
  have HR := Lib.hid hR
  have HY0 := Lib.hid hY0
  have HA := Lib.hid hA
  have HN := Lib.hid hn
  clear h0 hJ hR hQ hY0 hA hn
  go_enter Try.func57, Try.ntmps57
  go_wp2
  go_loopg [7] (n + 1) (fun gh s7 wx => ∃ i Y, i + gh = n + 1 ∧ i ≤ n ∧ s7 = .int .i64 (i : Nat) ∧ Hid (J i wx Y) ∧ Hid (Left (blkOf A) Y0 W wx Y))
  case atStart => exact ⟨0, Y0, by omega, by omega, rfl, H0.out, Left.refl HY0.out⟩
  case round =>
    obtain ⟨i, Y, hig, hi, rfl, HJi, HL⟩ := hrel
    by_cases hlt : i < n
    · have i1 : (i : Int) < (n : Int) := by omega
      obtain ⟨b1, o1, h1⟩ := pt_left HA.out HL.out (fun q hq => hq)
      obtain ⟨rfl, -, e1⟩ := h1 i (by rw [HN.out]; exact hlt)
      have hx : l[i]? = some (l[i]'(by rw [HN.out]; exact hlt)) := List.getElem?_eq_getElem _
      generalize l[i]'(by rw [HN.out]; exact hlt) = x at e1 hx
      have hY1 := HR.out i x wr Y hx HJi.out (fun q hq => (HL.out.2 q hq).1)
      clear h1 hx
      go_upto_region 3 with fail
      obtain ⟨fn, tmps, assign, body, hy, hr⟩ := hY1
      have HRR := Lib.hid hr
      clear hr
      refine (wpIn_wide (n := 0)).1 ?_
      gi_wp2
      refine ⟨rfl, ?_⟩
      refine (RoundIn.deep HRR.out).mono ?_
      rintro e w2 ⟨Y2, hL2, (⟨rfl, hj⟩ | ⟨rfl, hq⟩)⟩
      · have HL3 := Lib.hid (HL.out.trans hL2)
        have HJ3 := Lib.hid hj
        clear hL2 hj hy
        gi_wp2
        go_wp2_with fail
        go_roundg (gk - 1)
        case measure => omega
        case rel => exact ⟨i + 1, Y2, by omega, by omega, by go_num, HJ3, HL3⟩
      · have HL3 := Lib.hid (HL.out.trans hL2)
        clear hL2 hy
        gi_wp2
        go_wp2_with fail
        refine bodyPost_ret (results_none rfl _ _ _) rfl ?_
        exact ⟨rfl, Y2, HL3.out, .inr hq⟩
    · obtain rfl : i = n := by omega
      go_wp2_with fail
      go_end0
      exact ⟨rfl, Y, HL.out, .inl (by rw [HN.out]; exact HJi.out)⟩
/-- the call that makes it -/
theorem vals_any (v : Value) (W : World) (hv : ∃ A n c, v = .slice A n c) : Calls Try.prog 23 #[v] W fun e w' =>
    e = .returned (.func (.func 57) #[] #[.pointer (some ⟨W.heap.size, 0, none⟩)]) ∧ w' = W.alloc (.cells #[v] 23) := by
  obtain ⟨A, n, c, rfl⟩ := hv
  go_enter Try.func23, Try.ntmps23
  go_wp2_with fail
  go_ret
  exact ⟨rfl, rfl⟩
set_option maxRecDepth 100000 in
set_option maxHeartbeats 4000000 in
/-- what a way tells, in a new list -/
theorem appendSeq_any {W : World} {gf : Nat} {lb : Array Value} {l : List Int} {F : List Nat} (eg : ∀ args w, (callFunc gf args).run Try.prog w = .ok (.enter gf args) w)
    (hw : ∀ V, Below W.heap.size W V → WayY gf lb encU1 l F V) (hF : ∀ q ∈ F, q < W.heap.size) (hl : l.length ≤ 100000) :
    Calls Try.prog 73 #[.slice none 0 0, .func (.func gf) #[] lb] W (NewPts W l) := by
  have HW := Lib.hid hw
  have HF := Lib.hid hF
  have EG := Lib.hid eg
  clear hw hF eg
  obtain ⟨i0, z0, hi0, hz0, hs0, hb0, hzc⟩ := infoP_
  refine (callsIn_wide (n := 0)).1 (callsIn_of_wp_marks Try.func73 rfl trivial ?_ rfl)
  simp only [Try.ntmps73, List.size_toArray, List.length_cons, List.length_nil, Nat.reduceAdd, Nat.reduceSub, Array.replicate_succ, Array.replicate_zero, List.push_toArray, List.append_toArray, List.nil_append, List.cons_append]
  gi_wp2
  obtain ⟨W2, hW2⟩ : ∃ W2, W2 = W.alloc (.cells #[.slice none 0 0] 23) := ⟨_, rfl⟩
  rw [← hW2]
  have v1 : Var W2 W.heap.size (.slice none 0 0) := by rw [hW2]; exact Var.new _ _ _
  have b2 : Below W.heap.size W W2 := by rw [hW2]; exact (Below.refl _ W).alloc (Nat.le_refl _) _
  have z2 : W2.heap.size = W.heap.size + 1 := by rw [hW2]; simp
  have HB := Lib.hid b2
  clear hW2 b2
  refine wp_seq (α := Int) (enc := encU1) (gf := gf) (lb := lb) rfl EG.out (xs := l) (B := F)
    (fun V hV => HW.out V (HB.out.trans (hV.mono (by omega)))) (fun q hq => by have := HF.out q hq; omega) (fun _ => rfl)
    (fun n V Y => ∃ A c, Y = W.heap.size :: (Value.slice A n c).ownBlock.toList ∧ Var V W.heap.size (.slice A n c) ∧ V.ownsRow W2.heap.size 22 1 (.slice A n c) n (ptC (l.take n)))
    (fun _ _ _ => False)
    [W.heap.size] (by simp; omega) ⟨none, 0, rfl, v1, World.ownsRow_nil _ _ _ _⟩
    (by
      rintro n V V1 Y G ⟨A, c, rfl, h1, h2⟩ tt hn
      exact ⟨A, c, rfl, h1.touch tt (hn _ (by simp)), tt.row h2 (fun q hq => hn q (by simp [hq]))⟩)
    (fun _ _ _ _ _ h _ _ => h)
    (fun x => { tmps := #[.slice none 0 0, .func (.func gf) #[] lb, .pointer (some ⟨W.heap.size, 0, none⟩), undef, .slice none 0 0, .int .u64 x, .func (.func gf) #[] lb, .int .u64 x, undef, undef, undef, undef, undef], defers := [] })
    ?assign ?body ?done ?stop
  case assign =>
    intro lp x V K hK
    gi_wp2
    exact hK
  case body =>
    rintro lp n x V Y hV hx ⟨A, c, rfl, h1, h2⟩ hY
    have hn : n < l.length := (List.getElem?_eq_some_iff.1 hx).1
    have hst : ptC (l.take (n + 1)) = ptC (l.take n) ++ ptC [x] := by
      rw [← ptC_append, List.take_add_one, hx]
      rfl
    have H1 := Lib.hid h1
    have H2 := Lib.hid h2
    have HST := Lib.hid hst
    have HY := Lib.hid hY
    have c1 := h1.val
    have f1 := h1.free
    have hqw : ∀ q, (Value.slice A n c).ownBlock = some q → q ≠ W.heap.size := fun q hq => by have := (h2.lt q hq).1; omega
    have HQW := Lib.hid hqw
    clear h1 h2 hx hY hst hqw
    gi_wp2_with (gi_at_builtin; refine wpListIn_append_in rfl (.tmp 8) (.tmp 10) 23 rfl W2.heap.size 22 i0 z0 1 8 Try.underlying23 hi0 hz0 hs0 hb0 hzc (by decide) (.slice A n c) n (ptC (l.take n)) rfl (H2.out.alloc _) (.slice (some ⟨V.heap.size, 0, none⟩) 1 1) 1 (ptC [x]) rfl (.inr ⟨_, _, rfl, rfl, pt_new V x⟩) (pt_one _) (by unfold maxLen; omega) (by omega) (by simp; omega) ?_; intro A2 c2 w2 hown2 hg2 hsn2; have t2 : Touch (Value.slice A n c).ownBlock.toList V w2 := ((Touch.refl _ _).alloc (.cells #[.int .u64 x] 22)).grown hg2 (fun k hk => .inl (by simpa using hk)); have k2 := (H1.out.touch t2 (fun z => HQW.out _ (by simpa using z) rfl)); have c2v := k2.val; have f2v := k2.free; have K2 := Lib.hid k2; have T2 := Lib.hid t2; have O2 := Lib.hid hown2; have N2 := Lib.hid hsn2; clear hown2 hg2 hsn2 t2 k2)
    have t3 : Touch (W.heap.size :: (Value.slice A n c).ownBlock.toList) V (w2.setCell ⟨W.heap.size, 0, none⟩ (.slice A2 (n + 1) c2)) := (T2.out.mono (G := W.heap.size :: (Value.slice A n c).ownBlock.toList) (by intro q hq; exact List.mem_cons_of_mem _ hq)).set (.inl (by simp)) _
    have hFW : ∀ q ∈ W.heap.size :: (Value.slice A n c).ownBlock.toList, q ∉ F := fun q hq z => by
      have h9 := HF.out q z
      rcases List.mem_cons.1 hq with rfl | hq
      · omega
      · have := (H2.out.lt q (by simpa using hq)).1
        omega
    have h7 : (w2.setCell ⟨W.heap.size, 0, none⟩ (.slice A2 (n + 1) c2)).ownsRow W2.heap.size 22 1 (.slice A2 (n + 1) c2) (n + 1) (ptC (l.take (n + 1))) := by
      rw [HST.out]
      exact ((Touch.refl [W.heap.size] w2).set (p := ⟨W.heap.size, 0, none⟩) (.inl (by simp)) _).row O2.out (fun q hq z => by have := (O2.out.lt q hq).1; simp at z; omega)
    refine ⟨W.heap.size :: (Value.slice A2 (n + 1) c2).ownBlock.toList, ⟨⟨_, t3, fun q hq => ⟨hq, hFW q hq⟩⟩, fun q hq => ?_⟩, A2, c2, rfl, K2.out.set _, h7⟩
    rcases List.mem_cons.1 hq with rfl | hq
    · exact ⟨by have := t3.size; have := H1.out.lt; omega, .inl (by simp)⟩
    · have hq : (Value.slice A2 (n + 1) c2).ownBlock = some q := by simpa using hq
      refine ⟨(h7.lt q hq).2, ?_⟩
      rcases N2.out q hq with z | z
      · exact .inl (by simp [z])
      · simp at z
        exact .inr (by omega)
  case done =>
    rintro D V Y hD hDn hL ⟨A, c, rfl, h1, h2⟩ hK
    have hB := Left.new HB.out hL (by simp)
    have c1 := h1.val
    rw [List.take_length] at h2
    have HK := Lib.hid hK
    have HBV := Lib.hid hB
    have hDlt : D < V.heap.size := (Array.getElem?_eq_some_iff.1 hK).1
    have hDA : ∀ q, (Value.slice A l.length c).ownBlock = some q → q ≠ D := fun q hq e => hDn (by rw [← e]; simp [hq])
    have H1 := Lib.hid h1
    have H2 := Lib.hid h2
    have HDA := Lib.hid hDA
    clear hB hL h1 hK hDn hDA h2
    gi_wp2
    have hp : Touch [D] V (V.putObj D (.deferred none)) := (Touch.refl _ _).put (.inl (by simp)) _
    refine ⟨by simp, .inl ⟨_, _, rfl, run_takeDeferred HK.out, ?_⟩⟩
    refine ⟨_, results_tmp rfl _ _ _, A, c, rfl, own_lower (hp.row H2.out (fun q hq z => HDA.out q hq (by simpa using z))) (by omega), HBV.out.trans (belowK_b (w := W) (Nat.le_refl _) V D _ _ (by omega) HK.out rfl rfl)⟩
  case stop =>
    rintro D c V Y hD hDn hL h hK
    exact h.elim
set_option maxHeartbeats 1000000 in
theorem collect_any {W : World} {gf : Nat} {lb : Array Value} {l : List Int} {F : List Nat} (eg : ∀ args w, (callFunc gf args).run Try.prog w = .ok (.enter gf args) w)
    (hw : ∀ V, Below W.heap.size W V → WayY gf lb encU1 l F V) (hF : ∀ q ∈ F, q < W.heap.size) (hl : l.length ≤ 100000) :
    Calls Try.prog 55 #[.func (.func gf) #[] lb] W (NewPts W l) := by
  have CA := Lib.hid (appendSeq_any eg hw hF hl)
  clear eg hw hF hl
  go_enter Try.func55, Try.ntmps55
  go_wp2_with (go_at_call 73; (with_reducible refine CA.out.mono ?_); rintro e w1 ⟨A, c, rfl, h1, h2⟩; have HO := Lib.hid h1; have HB := Lib.hid h2; clear h1 h2)
  go_ret
  exact ⟨A, c, rfl, HO.out, HB.out⟩
theorem u_at {W : World} {base n c : Nat} {A : Option Addr} {xs : List Value} (h : W.ownsRow base 22 1 (.slice A n c) n xs) (hn : 0 < n) : ∃ g, A = some ⟨g, 0, none⟩ := by
  rcases h.2 with ⟨h0, _⟩ | ⟨g, cap, cur, hv, _⟩
  · cases h0
    have := h.1
    simp at this
    omega
  · injection hv with h1
    exact ⟨g, h1⟩
set_option maxHeartbeats 1000000 in
theorem sorted_any {W : World} {gf : Nat} {lb : Array Value} {l : List Int} {F : List Nat} (eg : ∀ args w, (callFunc gf args).run Try.prog w = .ok (.enter gf args) w)
    (hw : ∀ V, Below W.heap.size W V → WayY gf lb encU1 l F V) (hF : ∀ q ∈ F, q < W.heap.size) (hl : l.length ≤ 100000) (h0 : 0 < l.length) :
    Calls Try.prog 22 #[.func (.func gf) #[] lb] W (NewPts W (sortU l)) := by
  have CA := Lib.hid (collect_any eg hw hF hl)
  have HL : Hid ((sortU l).length = l.length) := sortU_length l
  obtain ⟨n, hn⟩ : ∃ n, l.length = n := ⟨_, rfl⟩
  have CS : Hid (∀ w g c, w.ownsRow W.heap.size 22 1 (.slice (some ⟨g, 0, none⟩) n c) n (ptC l) → Calls Try.prog 56 #[.slice (some ⟨g, 0, none⟩) n c] w fun e w' => e = .returned (.tuple #[]) ∧ w'.ownsRow W.heap.size 22 1 (.slice (some ⟨g, 0, none⟩) n c) n (ptC (sortU l)) ∧ Touch [g] w w') := fun w g c h => uSort_any h (by omega)
  have HN := Lib.hid hn
  have h0' : 0 < n := by omega
  clear eg hw hF hl h0 hn
  go_enter Try.func22, Try.ntmps22
  go_wp2_with (first
    | (go_at_call 55; (with_reducible refine CA.out.mono ?_); rintro e w1 ⟨A, c, rfl, h1, h2⟩; rw [HN.out] at h1; rw [HN.out]; obtain ⟨g, rfl⟩ := u_at h1 h0'; have HO := Lib.hid h1; have HB := Lib.hid h2; clear h1 h2)
    | (go_at_call 56; (with_reducible refine (CS.out _ _ _ HO.out).mono ?_); rintro e w2 ⟨rfl, h3, h4⟩; have HO2 := Lib.hid h3; have HB2 := Lib.hid (Touch.acc HB.out h4 (by have := (HO.out.lt g rfl).1; simpa using this)); clear h3 h4))
  go_ret
  exact ⟨some ⟨g, 0, none⟩, c, by rw [HL.out, HN.out]; rfl, by rw [HL.out, HN.out]; exact HO2.out, HB2.out⟩
theorem enters_vals : ∀ args w, (callFunc 57 args).run Try.prog w = .ok (.enter 57 args) w := enters_of Try.func57 (by kernel_rfl) rfl
/-- slices.Sorted(slices.Values(s)) -/
theorem sortedVals_any {W : World} {A : Option Addr} {n c : Nat} {l : List Int} (hA : PtAt W A l) (hn : l.length = n) (hl : n ≤ 100000) (h0 : 0 < n) :
    Calls Try.prog 22 #[.func (.func 57) #[] #[.pointer (some ⟨W.heap.size, 0, none⟩)]] (W.alloc (.cells #[.slice A n c] 23)) (NewPts W (sortU l)) := by
  have hb : Below W.heap.size W (W.alloc (.cells #[.slice A n c] 23)) := (Below.refl _ _).alloc (Nat.le_refl _) _
  have hv : Var (W.alloc (.cells #[.slice A n c] 23)) W.heap.size (.slice A n c) := Var.new _ _ _
  have hsz : (W.alloc (.cells #[.slice A n c] 23)).heap.size = W.heap.size + 1 := by simp
  have hF : ∀ q ∈ blkOf A, q < (W.alloc (.cells #[.slice A n c] 23)).heap.size := fun q hq => by
    obtain ⟨b, o, hh⟩ := hA
    obtain ⟨rfl, h2, -⟩ := hh 0 (by omega)
    simp [blkOf] at hq
    rw [hsz]
    omega
  refine (sorted_any enters_vals (fun V hV => valsWay (hv.below hV).val (hA.below (hb.trans (hV.mono (by omega)))) hn hl) hF (by omega) (by omega)).mono ?_
  rintro e w' ⟨A2, c2, rfl, h1, h2⟩
  exact ⟨A2, c2, rfl, own_lower h1 (by omega), hb.trans (h2.mono (by omega))⟩
end Go.Proofs.Ytfpoapmbpbkibaa
