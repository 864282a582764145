/-
  The walk of take: an item taken away where a way ends, and the nodes above mended.
  The walk of Del.
-/
import Derived.Test.YtinkkdhlakfooaaShelfLow
namespace Go.Proofs.Ytinkkdhlakfooaa
open Go.RowKit

theorem low_any {W : World} {m : NMap} {F : List Nat} {top : Option Nat} {l : List Item} {k u : ByteArray} {st : List (Nat × Nat)} {g i q c : Nat} (hS : Sto W m F) (hR : WRow W 0 (.slice (some ⟨q, 0, none⟩) (st ++ [(g, i)]).length c) (st ++ [(g, i)])) (hq : q ∉ F) (hf : Found m top l k u st g i) (hlen : l.length ≤ 300) :
    Calls Try.prog 72 #[.slice (some ⟨q, 0, none⟩) (st.length + 1) c] W (LowPost W top (delN l k) q F) := by
  have hs := hf.short
  obtain ⟨its, ps, e1, e2, e3, e4, e5, e6⟩ := hf.lower
  have hd : (delN l k).length ≤ l.length := by
    have := delN_length l k
    split at this <;> omega
  rcases e4 with rfl | hp
  · exact low_leaf hS hR hq e1 (e5 rfl)
  · obtain ⟨r, hr⟩ : ∃ r, ps[i]? = some r := ⟨ps[i]'(by omega), List.getElem?_eq_getElem _⟩
    obtain ⟨h, hsp⟩ := e6 r hr
    exact low_above hS hR hq e1 (by omega) hr hsp (by omega) (by omega)
/-- what take leaves: as what turns the tree, but the way's own row may be written -/
def TakePost (W : World) (gs q : Nat) (F : List Nat) (n most : Int) (L : List Item) (e : Ending) (w : World) : Prop :=
  e = .returned (.tuple #[]) ∧ ∃ top m F', ShX w gs top n most ∧ Sto w m F' ∧ gs ∉ F' ∧ TreeIs m top L ∧ Touch (q :: gs :: F) W w ∧ ∀ z ∈ F', z ∈ F ∨ W.heap.size ≤ z
/-- take on its way up -/
def TakeSt (W : World) (gs q : Nat) (F1 : List Nat) (top : Option Nat) (n most : Int) (L : List Item) (qA c : Nat) (wx : World) (st : List (Nat × Nat)) : Prop :=
  ∃ m F g i, ShX wx gs top n most ∧ Sto wx m F ∧ gs ∉ F ∧ qA ∉ F ∧ qA ≠ gs ∧ Sunk m top L st ∧ WRow wx 0 (.slice (some ⟨qA, 0, none⟩) (st ++ [(g, i)]).length c) (st ++ [(g, i)]) ∧ Touch (q :: gs :: F1) W wx ∧ ∀ z ∈ F, z ∈ F1 ∨ W.heap.size ≤ z
theorem take_start {W V w1 w2 : World} {gs q qA cA g1 i1 : Nat} {F1 F2 F3 : List Nat} {top : Option Nat} {n most : Int} {L : List Item} {m2 : NMap} {o : Obj} {st : List (Nat × Nat)} (hT : Touch [gs] W V) (hX : ShX V gs top n most) (hg : gs ∉ F1) (hqg : q ≠ gs)
    (r1 : WRow w1 0 (.slice (some ⟨qA, 0, none⟩) (st ++ [(g1, i1)]).length cA) (st ++ [(g1, i1)])) (r2 : qA = q ∨ V.heap.size ≤ qA) (r3 : qA ∉ F2) (r6 : Touch (q :: F1) V w1) (r7 : ∀ z ∈ F2, z ∈ F1 ∨ V.heap.size ≤ z)
    (hS2 : Sto w2 m2 F3) (hP2 : Stp (w1.alloc o) F2 w2 F3) (hsk : Sunk m2 top L st) : TakeSt W gs q F1 top n most L qA cA w2 st := by
  have hgl := hX.lt
  have hVW := hT.size
  have h1V := r6.size
  have hz : (w1.alloc o).heap.size = w1.heap.size + 1 := by simp
  have hg2 : gs ∉ F2 := fun e => by
    rcases r7 gs e with z | z
    · exact hg z
    · omega
  have hqw : qA < w1.heap.size := (r1.lt qA rfl).2
  have x1 := (hX.touch r6 (by simp [hg]; exact fun e => hqg e.symm)).touch ((Touch.refl [] w1).alloc o) (by simp)
  refine ⟨m2, F3, g1, i1, x1.touch hP2.1 hg2, hS2, notin_step hP2 (by omega) hg2, notin_step hP2 (by omega) r3, ?_, hsk, hP2.1.row (r1.alloc o) (fun z e => by rw [← Option.some.inj e]; exact r3), ?_, fun z hz2 => ?_⟩
  · rcases r2 with z | z
    · rw [z]; exact hqg
    · omega
  · have a : Touch (q :: gs :: F1) W w1 := (hT.mono (by simp)).trans r6 (fun z hz => by
      rcases List.mem_cons.1 hz with e | e
      · exact .inl (by rw [e]; simp)
      · exact .inl (by simp [e]))
    exact (a.alloc o).trans hP2.1 (fun z hz => by
      rcases r7 z hz with e | e
      · exact .inl (by simp [e])
      · exact .inr (by omega))
  · rcases hP2.2 z hz2 with e | e
    · rcases r7 z e with e | e
      · exact .inl e
      · exact .inr (by omega)
    · exact .inr (by omega)
theorem take_step {W wx w2 : World} {gs q qA c g i : Nat} {F1 F F2 : List Nat} {top : Option Nat} {n most : Int} {L : List Item} {m2 : NMap} {o : Obj} {st : List (Nat × Nat)} (hX : ShX wx gs top n most) (hg : gs ∉ F) (hqA : qA ∉ F) (hqg : qA ≠ gs)
    (hR : WRow wx 0 (.slice (some ⟨qA, 0, none⟩) (st ++ [(g, i)]).length c) (st ++ [(g, i)])) (hT : Touch (q :: gs :: F1) W wx) (hF : ∀ z ∈ F, z ∈ F1 ∨ W.heap.size ≤ z)
    (hS2 : Sto w2 m2 F2) (hP2 : Stp (wx.alloc o) F w2 F2) (hsk : Sunk m2 top L st) : TakeSt W gs q F1 top n most L qA c w2 st := by
  have hgl := hX.lt
  have hVW := hT.size
  have hz : (wx.alloc o).heap.size = wx.heap.size + 1 := by simp
  have hqw : qA < wx.heap.size := (hR.lt qA rfl).2
  have x1 := hX.touch ((Touch.refl [] wx).alloc o) (by simp)
  refine ⟨m2, F2, g, i, x1.touch hP2.1 hg, hS2, notin_step hP2 (by omega) hg, notin_step hP2 (by omega) hqA, hqg, hsk, hP2.1.row (hR.alloc o) (fun z e => by rw [← Option.some.inj e]; exact hqA), ?_, fun z hz2 => ?_⟩
  · exact (hT.alloc o).trans hP2.1 (fun z hz => by
      rcases hF z hz with e | e
      · exact .inl (by simp [e])
      · exact .inr e)
  · rcases hP2.2 z hz2 with e | e
    · exact hF z e
    · exact .inr (by omega)
theorem take_set {W wx : World} {gs q : Nat} {F1 F : List Nat} {top top' : Option Nat} {n most : Int} {L : List Item} {m : NMap} (hX : ShX wx gs top n most) (hS : Sto wx m F) (hg : gs ∉ F) (hT : Touch (q :: gs :: F1) W wx) (hF : ∀ z ∈ F, z ∈ F1 ∨ W.heap.size ≤ z) (hTr : TreeIs m top' L) {v : Value} (hv : optPtr top' = v) :
    TakePost W gs q F1 n most L (.returned (.tuple #[])) (wx.setCell ⟨gs, 0, none⟩ v) := by
  subst hv
  exact ⟨rfl, top', m, F, hX.set0, hS.touch ((Touch.refl [gs] _).set (.inl (by simp)) _) (fun z hz e => hg (by simp at e; rw [← e]; exact hz)), hg, hTr, hT.set (.inl (by simp)) _, hF⟩
theorem mend_sunk {m : NMap} {F : List Nat} {top : Option Nat} {L : List Item} {st : List (Nat × Nat)} {g i : Nat} (H : Sunk m top L (st ++ [(g, i)])) : ∀ V, Sto V m F → Calls Try.prog 74 #[ptr g, .int .i64 (i : Nat)] V fun e w => e = .returned (.tuple #[]) ∧ ∃ m' F', Sto w m' F' ∧ Stp V F w F' ∧ Sunk m' top L st := by
  obtain ⟨f, c, h, rfl, rfl, hk, s, nd, h1, h6, hfin⟩ := H.mend
  exact fun V hV => (mend_tree V hV hk s nd h1 h6).mono (fun e w hw => hfin V F e w hV hw)
set_option maxRecDepth 100000 in
set_option maxHeartbeats 8000000 in
theorem take_any (W : World) {gs q c0 g i : Nat} {top : Option Nat} {n most : Int} {m : NMap} {F1 : List Nat} {l : List Item} {k u : ByteArray} {st : List (Nat × Nat)} (hX : ShX W gs top n most) (hS : Sto W m F1) (hgs : gs ∉ F1) (hn : 1 ≤ n) (hn2 : n ≤ 1000) (hf : Found m top l k u st g i) (hlen : l.length ≤ 300)
    (hR : WRow W 0 (.slice (some ⟨q, 0, none⟩) (st ++ [(g, i)]).length c0) (st ++ [(g, i)])) (hq : q ∉ F1) (hqg : q ≠ gs) :
    Calls Try.prog 35 #[.pointer (some ⟨gs, 0, none⟩), .slice (some ⟨q, 0, none⟩) (st.length + 1) c0] W (TakePost W gs q F1 (n - 1) most (delN l k)) := by
  have c1 := hX.c1
  have f1 := hX.f1
  have hg := hX.lt
  have hb1 : -9223372036854775808 ≤ n - 1 := by omega
  have hb2 : n - 1 ≤ 9223372036854775807 := by omega
  obtain ⟨V, hV⟩ : ∃ V, W.setCell ⟨gs, 1, none⟩ (.int .i64 (n - 1)) = V := ⟨_, rfl⟩
  have t1 : Touch [gs] W V := by rw [← hV]; exact (Touch.refl _ _).set (.inl (by simp)) _
  have hX1 : ShX V gs top (n - 1) most := by rw [← hV]; exact hX.set1
  have hS1 : Sto V m F1 := hS.touch t1 (fun z hz e => hgs (by simp at e; rw [← e]; exact hz))
  have hR1 : WRow V 0 (.slice (some ⟨q, 0, none⟩) (st ++ [(g, i)]).length c0) (st ++ [(g, i)]) := t1.row hR (fun z e => by rw [← Option.some.inj e]; simpa using hqg)
  have CL := Lib.hid (low_any hS1 hR1 hq hf hlen)
  have HX := Lib.hid hX1
  have HG := Lib.hid hgs
  have HT := Lib.hid t1
  have HR := Lib.hid hR1
  have HQG := Lib.hid hqg
  clear hX hX1 hS hS1 hgs hn hn2 hf hlen hR hR1 hq hqg t1
  go_enter Try.func35, Try.ntmps35
  go_wp2_with (first
    | (go_at_call 72; ((with_reducible refine (CL.out).mono ?_); rintro e w1 ⟨st1, g1, i1, qA, cA, m1, F2, rfl, r1, r2, r3, r4, r5, r6, r7⟩; obtain ⟨q', he, k1, k2, k3, k4, k5, k6⟩ := last_step r1; obtain rfl : qA = q' := congrArg Addr.block (Option.some.inj he); have R1 := Lib.hid r1; have R2 := Lib.hid r2; have R3 := Lib.hid r3; have R4 := Lib.hid r4; have R5 := Lib.hid r5; have R6 := Lib.hid r6; have R7 := Lib.hid r7; obtain ⟨its9, x1, x2, x3, x4⟩ := r5.gone; have CR : Hid (∀ V', Touch [] w1 V' → Calls Try.prog 73 #[.pointer (some ⟨g1, 0, none⟩), .int .i64 (i1 : Nat)] V' (StoPost V' F2 (upd m1 g1 ⟨remAt its9 i1, []⟩) (.tuple #[]))) := (fun V' hV' => remove_leaf g1 i1 V' (r4.new hV') x1 x2 (Nat.le_trans x3 (of_decide_eq_true rfl))); have HSK := Lib.hid (x4 _ (upd_same m1 g1 ⟨remAt its9 i1, []⟩) (fun z hz => upd_other m1 _ hz)); clear x1 x2 x3 x4 r1 r2 r3 r4 r5 r6 r7 he k3; have hcl : st1.length + 1 ≤ 9223372036854775807 := Nat.le_trans k5 (Nat.le_trans k6 (by unfold maxLen; omega)); obtain ⟨sl, hsl⟩ : ∃ sl, st1.length = sl := ⟨_, rfl⟩; have HSL := Lib.hid hsl; rw [hsl] at k1 k2 k5 hcl ⊢; clear hsl))
    | (go_at_call 73; ((with_reducible refine (CR.out _ ((Touch.refl _ _).alloc _)).mono ?_); rintro e w2 ⟨rfl, F3, hS2, hP2⟩; have HTS : Hid (TakeSt W gs q F1 top (n - 1) most (delN l k) qA cA w2 st1) := take_start HT.out HX.out HG.out HQG.out R1.out R2.out R3.out R6.out R7.out hS2 hP2 HSK.out; clear hS2 hP2)))
  go_loopg [1] (sl + 1) (fun gh s1 wx => ∃ st, s1 = .slice (some ⟨qA, 0, none⟩) (st.length + 1) cA ∧ Hid (TakeSt W gs q F1 top (n - 1) most (delN l k) qA cA wx st) ∧ gh = st.length + 1)
  case atStart => exact ⟨st1, by rw [HSL.out], HTS.out, by rw [HSL.out]⟩
  case round =>
    obtain ⟨st, rfl, HA, hgh⟩ := hrel
    obtain ⟨m', F, gz, iz, hX, hS, hgs, hqA, hqg, hsk, hR, hT, hF⟩ := HA.out
    rcases List.eq_nil_or_concat st with rfl | ⟨st', s', rfl⟩
    · obtain ⟨t, its, ps, rfl, e1, e2, e3, e4⟩ := hsk.end
      have HX' := Lib.hid hX
      have HS' := Lib.hid hS
      have HG' := Lib.hid hgs
      have HT' := Lib.hid hT
      have HF' := Lib.hid hF
      have c0 : wr.cell? ⟨gs, 0, none⟩ = some (.pointer (some ⟨t, 0, none⟩)) := hX.c0
      have f0 := hX.f0
      have hgw := hX.lt
      obtain ⟨C, e9, hC⟩ : ∃ C e, wr.cell? ⟨t, 0, none⟩ = some (.slice C its.length e) := by
        obtain ⟨v, u, hN, -, -⟩ := hS.at e1
        have hN : NdX wr t its ps v u := hN
        obtain ⟨C, e, rfl⟩ := own_slice hN.r0
        exact ⟨C, e, hN.c0⟩
      cases its with
      | cons x its =>
        have HTR := Lib.hid (e3 (by simp))
        obtain ⟨nn, hnn, hn1⟩ : ∃ nn, (x :: its).length = nn ∧ ((nn : Int) == 0) = false := ⟨_, rfl, by simp; omega⟩
        rw [hnn] at hC
        clear hX hS hgs hqA hqg hsk hR hT hF HA hgh e1 e2 e3 e4 hnn HTS HSK CR R1 R2 R3 R4 R5 R6 R7 CL HR
        go_wp2_with fail
        go_end0
        exact ⟨rfl, some t, _, F, HX'.out, HS'.out, HG'.out, HTR.out, HT'.out, HF'.out⟩
      | nil =>
        rcases e4 rfl with ⟨rfl, hTr⟩ | ⟨t2, rfl, hTr⟩
        · have HTR := Lib.hid hTr
          have CD : Hid (Calls Try.prog 37 #[.pointer (some ⟨t, 0, none⟩), .int .i64 0] wr fun e w => e = .returned (.pointer none) ∧ wr = w) := (down_sto0 wr hS e1 (by simp)).1 rfl
          clear hX hS hgs hqA hqg hsk hR hT hF HA hgh e1 e2 e3 e4 HTS HSK CR R1 R2 R3 R4 R5 R6 R7 CL HR hTr
          go_wp2_with (first
            | (go_at_call 37; ((with_reducible refine (CD.out).mono ?_); rintro e w5 ⟨rfl, rfl⟩)))
          go_end0
          exact take_set HX'.out HS'.out HG'.out HT'.out HF'.out HTR.out rfl
        · have HTR := Lib.hid hTr
          have CD : Hid (Calls Try.prog 37 #[.pointer (some ⟨t, 0, none⟩), .int .i64 0] wr fun e w => e = .returned (.pointer (some ⟨t2, 0, none⟩)) ∧ wr = w) := (down_sto0 wr hS e1 (by simp)).2 t2 rfl
          clear hX hS hgs hqA hqg hsk hR hT hF HA hgh e1 e2 e3 e4 HTS HSK CR R1 R2 R3 R4 R5 R6 R7 CL HR hTr
          go_wp2_with (first
            | (go_at_call 37; ((with_reducible refine (CD.out).mono ?_); rintro e w5 ⟨rfl, rfl⟩)))
          go_end0
          exact take_set HX'.out HS'.out HG'.out HT'.out HF'.out HTR.out rfl
    · rw [List.concat_eq_append] at *
      obtain ⟨g', i'⟩ := s'
      have hR' : WRow wr 0 (.slice (some ⟨qA, 0, none⟩) (st' ++ [(g', i')]).length cA) (st' ++ [(g', i')]) := own_short rfl hR
      obtain ⟨q', he, k1', k2', k3', k4', k5', k6'⟩ := last_step hR'
      obtain rfl : qA = q' := congrArg Addr.block (Option.some.inj he)
      have CM : Hid (∀ V, Touch [] wr V → Calls Try.prog 74 #[.pointer (some ⟨g', 0, none⟩), .int .i64 (i' : Nat)] V fun e w => e = .returned (.tuple #[]) ∧ ∃ m2 F2, Sto w m2 F2 ∧ Stp V F w F2 ∧ Sunk m2 top (delN l k) st') := fun V hV => mend_sunk hsk V (hS.new hV)
      have hlen1 : (st' ++ [(g', i')]).length = st'.length + 1 := by simp
      have hlen2 : ((st' ++ [(g', i')]) ++ [(gz, iz)]).length = st'.length + 1 + 1 := by simp
      have hcap : st'.length + 1 + 1 ≤ cA ∧ cA ≤ maxLen := by
        have h := last_step hR
        obtain ⟨_, _, _, _, _, _, a, b⟩ := h
        rw [hlen1] at a
        exact ⟨a, b⟩
      have hcl2 : st'.length + 1 + 1 ≤ 9223372036854775807 := Nat.le_trans hcap.1 (Nat.le_trans hcap.2 (by unfold maxLen; omega))
      have HX' := Lib.hid hX
      have HG' := Lib.hid hgs
      have HQ' := Lib.hid hqA
      have HT' := Lib.hid hT
      have HF' := Lib.hid hF
      have HR' := Lib.hid hR'
      have HQG' := Lib.hid hqg
      rw [hlen1] at hgh ⊢
      obtain ⟨sl2, hsl2⟩ : ∃ sl2, st'.length = sl2 := ⟨_, rfl⟩
      have HSL2 := Lib.hid hsl2
      rw [hsl2] at k1' k2' k5' hcl2 hgh hcap ⊢
      clear hX hS hgs hqA hqg hsk hR hT hF HA HTS HSK CR R1 R2 R3 R4 R5 R6 R7 CL HR hR' he k3' hlen1 hlen2 hsl2
      have hc1 := hcap.1
      go_wp2_with (first
        | (go_at_call 74; ((with_reducible refine (CM.out _ ((Touch.refl _ _).alloc _)).mono ?_); rintro e w2 ⟨rfl, m2, F4, hS2, hP2, hsk2⟩; have HTS : Hid (TakeSt W gs q F1 top (n - 1) most (delN l k) qA cA w2 st') := take_step HX'.out HG'.out HQ'.out HQG'.out HR'.out HT'.out HF'.out hS2 hP2 hsk2; clear hS2 hP2 hsk2)))
      go_roundg (sl2 + 1)
      case measure => omega
      case rel => exact ⟨st', by rw [HSL2.out], HTS.out, by rw [HSL2.out]⟩
end Go.Proofs.Ytinkkdhlakfooaa
namespace Go.Proofs.Ytinkkdhlakfooaa
open Go.RowKit

def DelPost (W : World) (gs : Nat) (most : Int) (l : List Item) (F : List Nat) (k : ByteArray) (e : Ending) (w' : World) : Prop :=
  e = .returned (.bool (hasN l k)) ∧ ∃ F', SH w' gs most (delN l k) F' ∧ Touch F W w' ∧ ∀ q ∈ F', q ∈ F ∨ W.heap.size ≤ q
theorem delN_none {l : List Item} {k : ByteArray} (h : hasN l k = false) : delN l k = l := by rw [delN, h]; rfl
theorem del_took {W w1 w : World} {gs q : Nat} {most n : Int} {l L : List Item} {F1 : List Nat} {k : ByteArray} (hd : delN l k = L) (hh : hasN l k = true) (hr : Rising l) (hl : (L.length : Int) = n) (hlm : n ≤ most) (hm2 : most ≤ 200) (hb : Below W.heap.size W w1) (hq : W.heap.size ≤ q) (h : TakePost w1 gs q F1 n most L (.returned (.tuple #[])) w) :
    DelPost W gs most l (gs :: F1) k (.returned (.bool true)) w := by
  obtain ⟨-, top, m, F', a, b, c, d, e1, e2⟩ := h
  subst hd
  subst hl
  refine ⟨by rw [hh], gs :: F', ⟨top, m, F', a, b, c, rfl, d, hr.del k, hlm, hm2⟩, (Touch.ofBelow (F := gs :: F1) hb).trans e1 (fun x hx => ?_), fun z hz => ?_⟩
  · rcases List.mem_cons.1 hx with e | e
    · exact .inr (by rw [e]; exact hq)
    · exact .inl e
  · rcases List.mem_cons.1 hz with e | e
    · exact .inl (by rw [e]; simp)
    · rcases e2 z e with e | e
      · exact .inl (by simp [e])
      · exact .inr (Nat.le_trans hb.size e)
set_option maxRecDepth 100000 in
set_option maxHeartbeats 4000000 in
theorem shDel_any {W : World} {gs : Nat} {most : Int} {l : List Item} {F : List Nat} (k : ByteArray) (h : SH W gs most l F) :
    Calls Try.prog 14 #[.pointer (some ⟨gs, 0, none⟩), .string k] W (DelPost W gs most l F k) := by
  have hH := h
  obtain ⟨top, m, F1, hX, hS, hgs, rfl, hT, hr, hlm, hm2⟩ := h
  have HH := Lib.hid hH
  clear hH
  cases hh : hasN l k
  · have CW := Lib.hid (way_not hX hS hT hr (by omega) hh)
    have HD : Hid (hasN l k = false) := hh
    clear hX hS hT hr hlm hm2 hh
    go_enter Try.func14, Try.ntmps14
    go_wp2_with (go_at_call 30; ((with_reducible refine (CW.out).mono ?_); rintro e w1 ⟨steps, A, c, rfl, hO, hB, hM⟩; have HB := Lib.hid hB; clear hO hB hM))
    go_ret
    exact ⟨by rw [HD.out]; rfl, _, by rw [delN_none HD.out]; exact HH.out.touch (Touch.ofBelow (F := []) HB.out) (by simp), Touch.ofBelow HB.out, fun q hq => .inl hq⟩
  · have CW := Lib.hid (way_has hX hS hT hr (by omega) hh)
    have HS := Lib.hid hS
    have HX := Lib.hid hX
    have HG := Lib.hid hgs
    have hll : ((delN l k).length : Int) = ((l.length : Nat) : Int) - 1 ∧ 1 ≤ l.length := by
      have z := delN_length l k
      rw [hh] at z
      have z2 : (delN l k).length = l.length - 1 := z
      have z3 : 1 ≤ l.length := by
        cases l with
        | nil => simp [hasN] at hh
        | cons _ _ => simp
      omega
    have HL := Lib.hid hll
    have HR := Lib.hid hr
    have HD : Hid (hasN l k = true) := hh
    have HLM : Hid (((l.length : Nat) : Int) ≤ most ∧ most ≤ 200) := ⟨hlm, hm2⟩
    clear hX hS hT hr hlm hm2 hh hgs hll
    go_enter Try.func14, Try.ntmps14
    go_wp2_with (first
      | (go_at_call 30; ((with_reducible refine (CW.out).mono ?_); rintro e w1 ⟨st, g, i, u, q, c, rfl, hO, hB, hF⟩; have HB := Lib.hid hB; have HQ := Lib.hid (hO.lt q rfl); have CT : Hid (Calls Try.prog 35 #[.pointer (some ⟨gs, 0, none⟩), .slice (some ⟨q, 0, none⟩) (st.length + 1) c] w1 (TakePost w1 gs q F1 (((l.length : Nat) : Int) - 1) most (delN l k))) := take_any w1 (HX.out.touch (Touch.ofBelow (F := []) hB) (by simp)) (HS.out.below hB) HG.out (by have := HL.out.2; omega) (by have := HLM.out; omega) hF (by have := HLM.out; omega) (own_mono hO (Nat.zero_le _)) (fun e => by have := HS.out.lt _ e; have := HQ.out.1; omega) (fun e => by have := HX.out.lt; have := HQ.out.1; omega); clear hO hB hF))
      | (go_at_call 35; ((with_reducible refine (CT.out).mono ?_); rintro e w2 hw; have HW := Lib.hid hw; obtain ⟨rfl, -⟩ := hw)))
    go_ret
    exact del_took rfl HD.out HR.out HL.out.1 (by have := HLM.out; omega) HLM.out.2 HB.out HQ.out.1 HW.out
end Go.Proofs.Ytinkkdhlakfooaa
