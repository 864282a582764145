/-
  follow: what was kept and is next is told, up to the first one that lacks.
-/
import Derived.Test.YtfemdfidfomchaaLinkDel
namespace Go.Proofs.Ytfemdfidfomchaa
open Go.RowKit

/-- those of ks that follow c, one behind the other: ts are told, c' came, ks' is left -/
inductive Follows : Nat → List (Nat × LR) → List LR → Nat → List (Nat × LR) → Prop
  | stop {c : Nat} {ks : List (Nat × LR)} (h : ∀ x ∈ ks, x.1 ≠ c + 1) : Follows c ks [] c ks
  | step {c c' : Nat} {ks ks' : List (Nat × LR)} {i : Nat} {x : Nat × LR} {ts : List LR} (hx : ks[i]? = some x) (he : x.1 = c + 1) (hf : ∀ j y, j < i → ks[j]? = some y → y.1 ≠ c + 1)
      (h : Follows (c + 1) (ks.take i ++ ks.drop (i + 1)) ts c' ks') : Follows c ks (x.2 :: ts) c' ks'
theorem mem_without {α : Type} {l : List α} {i : Nat} {x : α} (h : x ∈ l.take i ++ l.drop (i + 1)) : x ∈ l := by
  rcases List.mem_append.1 h with z | z
  · exact List.mem_of_mem_take z
  · exact List.mem_of_mem_drop z
theorem Follows.told {c c' : Nat} {ks ks' : List (Nat × LR)} {ts : List LR} (h : Follows c ks ts c' ks') : ∀ r ∈ ts, ∃ x ∈ ks, x.2 = r := by
  induction h with
  | stop h => simp
  | step hx he hf h ih =>
    intro r hr
    rcases List.mem_cons.1 hr with rfl | z
    · exact ⟨_, List.mem_of_getElem? hx, rfl⟩
    · obtain ⟨y, hy, e⟩ := ih r z
      exact ⟨y, mem_without hy, e⟩
theorem Follows.left {c c' : Nat} {ks ks' : List (Nat × LR)} {ts : List LR} (h : Follows c ks ts c' ks') : ∀ x ∈ ks', x ∈ ks := by
  induction h with
  | stop h => simp
  | step hx he hf h ih => exact fun x hx => mem_without (ih x hx)
theorem Follows.counts {c c' : Nat} {ks ks' : List (Nat × LR)} {ts : List LR} (h : Follows c ks ts c' ks') : c' = c + ts.length ∧ ks'.length + ts.length = ks.length := by
  induction h with
  | stop h => simp
  | step hx he hf h ih =>
    rename_i c c' ks ks' i x ts
    have hi := (List.getElem?_eq_some_iff.1 hx).1
    rw [List.length_append, List.length_take, List.length_drop] at ih
    simp only [List.length_cons]
    omega
theorem lk_infoLt : ∃ i, Try.prog.info? 51 = some i ∧ i.zero = some (.agg (ltCells 0 0)) ∧ i.size = 21 ∧ i.bytes = 240 := by
  have h : (Try.prog.info? 51).map (fun i => (i.zero, i.size, i.bytes)) = some (some (.agg (ltCells 0 0)), 21, 240) := by kernel_rfl
  obtain ⟨i, hi, hx⟩ := Option.map_eq_some_iff.1 h
  simp only [Prod.mk.injEq] at hx
  exact ⟨i, hi, hx⟩
/-- what follow has done so far: ts were told, and lie in the row T; the rest is as it would have been -/
structure Fol (W w : World) (g : Nat) (s : LS) (V K : Value) (L : List Nat) (A : Option Addr) (n cK : Nat) (c : Nat) (ks : List (Nat × LR)) (T : Value) (m : Nat) (ts : List LR) : Prop where
  x : LNX w g {s with came := c, kept := ks} V (.slice A n cK) L
  nk : ks.length = n
  mt : ts.length = m
  kb : (Value.slice A n cK).ownBlock = K.ownBlock
  t : Touch (fr g V K) W w
  row : w.ownsRow W.heap.size 51 21 T m (rowC LR.cells ts)
  go : ∀ us c' ks', Follows c ks us c' ks' → Follows s.came s.kept (ts ++ us) c' ks'
  cb : c + n ≤ 1100000
  mb : m + n ≤ 90000
theorem Fol.below {W w w1 : World} {g : Nat} {s : LS} {V K : Value} {L : List Nat} {A : Option Addr} {n cK c : Nat} {ks : List (Nat × LR)} {T : Value} {m : Nat} {ts : List LR} (h : Fol W w g s V K L A n cK c ks T m ts) (b : Below w.heap.size w w1) : Fol W w1 g s V K L A n cK c ks T m ts :=
  ⟨h.x.below b, h.nk, h.mt, h.kb, h.t.trans (Touch.ofBelow (F := []) b) (by simp), lk_below h.row b, h.go, h.cb, h.mb⟩
theorem Fol.k {W w : World} {g : Nat} {s : LS} {V K : Value} {L : List Nat} {A : Option Addr} {n cK c : Nat} {ks : List (Nat × LR)} {T : Value} {m : Nat} {ts : List LR} (h : Fol W w g s V K L A n cK c ks T m ts) : w.ownsRow 0 110 22 (.slice A n cK) n (rowC kE ks) := by
  obtain ⟨x, rfl, _⟩ := h
  exact x.k
theorem Fol.lk {W w : World} {g : Nat} {s : LS} {V K : Value} {L : List Nat} {A : Option Addr} {n cK c : Nat} {ks : List (Nat × LR)} {T : Value} {m : Nat} {ts : List LR} (h : Fol W w g s V K L A n cK c ks T m ts) {i : Nat} (hi : i < n) : ∃ x, ks[i]? = some x := ⟨_, List.getElem?_eq_getElem (by rw [h.nk]; exact hi)⟩
/-- what follow leaves -/
def FollowPost (W : World) (g : Nat) (s : LS) (V K : Value) (L : List Nat) (e : Ending) (w' : World) : Prop :=
  ∃ B c T ts c' ks' K', e = .returned T ∧ T = .slice B ts.length c ∧ Follows s.came s.kept ts c' ks' ∧ LNX w' g {s with came := c', kept := ks'} V K' L ∧ K'.ownBlock = K.ownBlock ∧ Touch (fr g V K) W w' ∧ w'.ownsRow W.heap.size 51 21 T ts.length (rowC LR.cells ts) ∧ ∀ r ∈ ts, r.At w' L
set_option maxRecDepth 20000 in
set_option maxHeartbeats 8000000 in
theorem follow_any {W : World} {g : Nat} {s : LS} {V K : Value} {L : List Nat} (h : LNX W g s V K L) (hok : s.Ok) :
    Calls Try.prog 33 #[.pointer (some ⟨g, 0, none⟩)] W (FollowPost W g s V K L) := by
  obtain ⟨A, cK, hKs⟩ := own_slice h.k
  have hF : Fol W W g s V K L A s.kept.length cK s.came s.kept (.slice none 0 0) 0 [] := ⟨by rw [← hKs]; exact h, rfl, rfl, by rw [← hKs], Touch.refl _ _, World.ownsRow_nil _ _ _ _, fun _ _ _ z => z, by have := hok.came; have := hok.kept; omega, by have := hok.kept; omega⟩
  have hend : Hid (∀ w n cK c ks B m cT ts, Fol W w g s V K L A n cK c ks (.slice B m cT) m ts → (∀ j x, j < n → ks[j]? = some x → x.1 ≠ c + 1) → FollowPost W g s V K L (.returned (.slice B m cT)) w) := fun w n cK c ks B m cT ts hf hn => by
    have hstop : Follows c ks [] c ks := .stop fun x hx => by
      obtain ⟨j, hj, rfl⟩ := List.getElem_of_mem hx
      exact hn j _ (by rw [← hf.nk]; exact hj) (List.getElem?_eq_getElem hj)
    have hfo := hf.go _ _ _ hstop
    rw [List.append_nil] at hfo
    have hm := hf.mt
    subst hm
    refine ⟨B, cT, _, ts, c, ks, _, rfl, rfl, hfo, hf.x, hf.kb, hf.t, hf.row, fun r hr => ?_⟩
    obtain ⟨x, hx, rfl⟩ := hfo.told r hr
    exact (h.lk x hx).touch hf.t (fun q hq z => by
      have := h.lf q hq
      rcases mem_fr.1 z with e | e | e
      · exact this.1 e
      · exact this.2.1 e
      · exact this.2.2 e)
  have HF := Lib.hid hF
  have HH := Lib.hid h
  obtain ⟨n0, hn0⟩ : ∃ n, s.kept.length = n := ⟨_, rfl⟩
  rw [hn0] at HF
  clear h hF hn0 hKs hok
  go_enter Try.func33, Try.ntmps33
  go_wp2
  go_step3
  go_wp2
  go_step3
  go_wp2
  go_loopg [2] (n0 + 1) (fun gh s2 wx => ∃ (n m c cT : Nat) (ks : List (Nat × LR)) (B : Option Addr) (ts : List LR), gh = n + 1 ∧ s2 = .slice B m cT ∧ Hid (Fol W wx g s V K L A n cK c ks (.slice B m cT) m ts))
  case atStart => exact ⟨n0, 0, s.came, 0, s.kept, none, [], rfl, rfl, HF⟩
  case round =>
    obtain ⟨n, m, c, cT, ks, B, ts, rfl, rfl, HX⟩ := hrel
    obtain ⟨wo, rfl⟩ : ∃ wo : World, wo = wr := ⟨_, rfl⟩
    have c6 := HX.out.x.c6
    have hnb : n ≤ 90000 := by have := HX.out.mb; omega
    have hcb := HX.out.cb
    go_wp2
    go_loopg [2, 10] (n + 1) (fun z s2 s10 wx => ∃ i : Nat, i + z = n + 1 ∧ i ≤ n ∧ s2 = .slice B m cT ∧ s10 = .int .i64 (i : Nat) ∧ Hid (Below wo.heap.size wo wx) ∧ Hid (∀ j x, j < i → ks[j]? = some x → x.1 ≠ c + 1))
    case atStart => exact ⟨0, by omega, by omega, rfl, rfl, Below.refl _ _, fun j x hj => by omega⟩
    case round =>
      obtain ⟨i, hiz, hin, rfl, rfl, HB, HN⟩ := hrel
      by_cases hlt : i < n
      · obtain ⟨x, hx⟩ := HX.out.lk hlt
        obtain ⟨qk, hA⟩ := lk_at HX.out.k (by omega)
        subst hA
        have hfx := HX.out.below HB.out
        have hra := early_range hfx.k hx
        have hxi := hx
        have hsz : (Try.prog.info? 110).map (·.size) = some (kE x).size := lk_infoK
        have hszl : (Try.prog.info? 51).map (·.size) = some x.2.cells.toList.length := lk_infoL
        have hsl : x.2.sl := (hfx.x.lk x (List.mem_of_getElem? hx)).sl
        have hone : (kE x).all (·.oneCell') = true := kE_one hsl
        have hold : lk_zk.size = (kE x).size := rfl
        have i1 : (i : Int) < (n : Int) := by omega
        have hb9 := bg_new wr lk_zk (kE x) 110
        have hfe := hfx.below hb9
        have he : ((wr.alloc (.cells lk_zk 110)).setRow wr.heap.size (kE x)).heap[wr.heap.size]? = some (.cells (kE x) 110) := bg_row _ (heap_alloc_new wr _)
        have HRA := Lib.hid hra
        have HFE := Lib.hid hfe
        have HE9 := Lib.hid he
        have HXI := Lib.hid hxi
        have HB9 := Lib.hid (acc HB.out hb9)
        clear hra hfe he hxi hx hfx hb9
        go_upto_region 4 with (first
          | (refine wpList_load_mid rfl 110 (.tmp 13) rfl qk (i * 22) rfl (kE x).toList _ HRA.out Try.underlying110 rfl hsz ?_)
          | (with_reducible (show wpList _ _ _ (⟨none, Op.store _ (Operand.tmp 4) _, _, _, _, _⟩ :: _) _ _); go_must (refine wpList_store_row rfl 110 (.tmp 4) (.tmp 14) rfl wr.heap.size (kE x) rfl rfl 110 lk_zk (heap_alloc_new wr _) hsz hold hone ?_)))
        obtain ⟨eb, heb⟩ : ∃ eb, wr.heap.size = eb := ⟨_, rfl⟩
        obtain ⟨w2, hw2⟩ : ∃ w2, (wr.alloc (.cells lk_zk 110)).setRow wr.heap.size (kE x) = w2 := ⟨_, rfl⟩
        rw [hw2] at HFE HE9 HB9 ⊢
        rw [heb] at HE9 ⊢
        have x0 : w2.cell? ⟨eb, 0, none⟩ = some (.int .i64 (x.1 : Nat)) := bg_cell HE9.out rfl
        have c5 := HFE.out.x.c5
        have hz1 : IntKind.i64.wrap ((c : Int) + 1) = (c : Int) + 1 := by rw [IntKind.wrap_i64]; omega
        by_cases hxe : x.1 = c + 1
        · have d1 : ((x.1 : Int) == (c : Int) + 1) = true := by simp; omega
          have f5 := HFE.out.x.free 5
          go_quiet (fail)
          go_upto_region 6 with fail
          clear hw2
          have h3 := HFE.out.below (below_drewN (Below.refl _ w2) nq)
          have h4 : LNX ((w2.drewN nq).setCell ⟨g, 5, none⟩ (.int .i64 ((c : Int) + 1))) g {s with came := c + 1, kept := ks} V (.slice (some ⟨qk, 0, none⟩) n cK) L := h3.x.setCame (c + 1)
          have T4 : Touch [g] (w2.drewN nq) ((w2.drewN nq).setCell ⟨g, 5, none⟩ (.int .i64 ((c : Int) + 1))) := (Touch.refl _ _).set (.inl (by simp)) _
          have hgW := HH.out.glt
          have heW : wo.heap.size ≤ eb := by rw [← heb]; exact HB.out.size
          have hWo := HX.out.t.size
          have he4 := (T4.block eb (bg_lt HE9.out) (by simp; omega)).trans HE9.out
          have r4 := T4.row h3.row (fun z hz y => by have := (h3.row.lt z hz).1; simp at y; omega)
          have TW4 := (h3.t.trans T4 (fun z hz => .inl (by simp at hz; simp [fr, hz])))
          obtain ⟨w4, hw4⟩ : ∃ w4, (w2.drewN nq).setCell ⟨g, 5, none⟩ (.int .i64 ((c : Int) + 1)) = w4 := ⟨_, rfl⟩
          rw [hw4] at h4 he4 r4 TW4 ⊢
          have hrl : w4.rangeAt eb 1 x.2.cells.toList := fun j v hj => by
            rw [Array.getElem?_toList] at hj
            refine bg_cell he4 ?_
            have hj' : j < 21 := (Array.getElem?_eq_some_iff.1 hj).1
            rw [← hj]
            rcases j with _ | _ | _ | _ | _ | _ | _ | _ | _ | _ | _ | _ | _ | _ | _ | _ | _ | _ | _ | _ | _ | j <;> first | rfl | omega
          obtain ⟨i0, hi0, hz0, hs0, hb0⟩ := lk_infoLt
          have hm9 : m ≤ 90000 := by have := HX.out.mb; omega
          have HRL := Lib.hid hrl
          have H4 := Lib.hid h4
          have HR4 := Lib.hid r4
          have HT4 := Lib.hid TW4
          clear hw4 T4 he4 r4 h3 h4 TW4 hrl c5 f5 x0 HRA
          go_upto_region 7 with (first
            | (refine wpList_load_mid rfl 51 (.tmp 31) rfl eb 1 rfl x.2.cells.toList _ HRL.out Try.underlying51 rfl hszl ?_)
            | (at_builtin; go_must (refine wpList_append_any rfl (.tmp 30) (.tmp 33) 59 rfl W.heap.size 51 i0 (.agg (ltCells 0 0)) 21 240 Try.underlying59 hi0 hz0 hs0 hb0 rfl (by decide) (.slice B m cT) m (rowC LR.cells ts) rfl (HR4.out.alloc _) (.slice (some ⟨w4.heap.size, 0, none⟩) 1 1) 1 (rowC LR.cells [x.2]) rfl (.inr ⟨⟨w4.heap.size, 0, none⟩, 1, rfl, rfl, lk_new_row w4 x.2.cells _⟩) (rowC_all (enc := LR.cells) (l := [x.2]) (fun y hy => by simp at hy; subst hy; exact LR.one hsl)) (by unfold maxLen; omega) (by omega) (by have := HT4.out.size; simp; omega) ?_); intro B5 c5 w5 ho5 hg5 hs5; have HO5 := Lib.hid ho5; have HG5 := Lib.hid hg5; have HS5 := Lib.hid hs5; clear ho5 hg5 hs5))
          have T5 : Touch (Value.slice B m cT).ownBlock.toList w4 w5 := ((Touch.refl _ w4).alloc _).grown HG5.out (fun z hz => .inl (by simp [hz]))
          have hTW : ∀ z ∈ (Value.slice B m cT).ownBlock.toList, W.heap.size ≤ z := fun z hz => (HR4.out.lt z (by simpa using hz)).1
          have hfW : ∀ z ∈ fr g V (.slice (some ⟨qk, 0, none⟩) n cK), z < W.heap.size := fun z hz => by
            refine HH.out.flt z ?_
            rcases mem_fr.1 hz with e | e | e
            · exact mem_fr.2 (.inl e)
            · exact mem_fr.2 (.inr (.inl e))
            · exact mem_fr.2 (.inr (.inr (by rw [← HX.out.kb]; exact e)))
          have h5 := H4.out.touch T5 (fun z hz y => by have := hfW z hz; have := hTW z y; omega) (fun z hz y => by have := HH.out.lt z hz; have := hTW z y; omega)
          have TW5 := HT4.out.trans T5 (fun z hz => .inr (hTW z hz))
          have hqf : qk ∈ fr g V K := mem_fr.2 (.inr (.inr (by rw [← HX.out.kb]; rfl)))
          have hqW : qk < W.heap.size := HH.out.flt qk hqf
          have hqg : qk ≠ g := h5.gk qk rfl
          have hk5 : w5.ownsRow 0 110 22 (.slice (some ⟨qk, 0, none⟩) n cK) n (rowC kE ks) := by
            have := h5.k
            rw [show ({s with came := c + 1, kept := ks} : LS).kept.length = n from HX.out.nk] at this
            exact this
          have c65 := h5.c6
          have f65 := h5.free 6
          have hz2 : IntKind.i64.wrap ((i : Int) + 1) = (i : Int) + 1 := by rw [IntKind.wrap_i64]; omega
          have hn1 : i + (n - (i + 1)) = n - 1 := by omega
          have CD : Hid (Calls Try.prog 69 #[.slice (some ⟨qk, 0, none⟩) n cK, .int .i64 (i : Nat), .int .i64 ((i : Int) + 1)] w5 fun e w' => e = .returned (.slice (some ⟨qk, 0, none⟩) (n - 1) cK) ∧
              w'.ownsRow 0 110 22 (.slice (some ⟨qk, 0, none⟩) (n - 1) cK) (n - 1) (rowC kE (ks.take i ++ ks.drop (i + 1))) ∧ w5.grownBy w' (some qk)) := by
            have hd := delEarly_any qk n cK i (i + 1) 0 (rowC kE ks) w5 hk5 (by omega) (by omega) (by omega) (rowC_all fun y hy => kE_one (h5.lk y hy).sl)
            rw [rowC_take kE_size, rowC_drop kE_size, ← rowC_append, hn1] at hd
            exact hd
          have H5 := Lib.hid h5
          have HT5 := Lib.hid TW5
          have HR5 := Lib.hid HO5.out
          clear h5 TW5 hk5 T5 HR4 HG5 HO5 H4 HT4 HRL
          go_wp2_with (go_at_call 69; (with_reducible refine CD.out.mono ?_); rintro e w6 ⟨rfl, ho6, hg6⟩; have t6 : Touch [qk] w5 w6 := (Touch.refl _ _).grown hg6 (fun z hz => .inl (by simp [Option.some.inj hz])); have c66 := (t6.cell (p := ⟨g, 6, none⟩) H5.out.glt (by simp; exact fun e => hqg e.symm)).trans c65; have f66 := (t6.frozen (p := ⟨g, 6, none⟩) H5.out.glt (by simp; exact fun e => hqg e.symm)).trans f65; have HO6 := Lib.hid ho6; have HT6 := Lib.hid t6; clear t6 ho6 hg6)
          go_roundg n
          case measure => omega
          case rel =>
            refine ⟨n - 1, m + 1, c + 1, c5, ks.take i ++ ks.drop (i + 1), B5, ts ++ [x.2], by omega, rfl, ?_⟩
            have hl9 : (ks.take i ++ ks.drop (i + 1)).length = n - 1 := by rw [List.length_append, List.length_take, List.length_drop, HX.out.nk]; omega
            have T7 : Touch [g] w6 (w6.setCell ⟨g, 6, none⟩ (.slice (some ⟨qk, 0, none⟩) (n - 1) cK)) := (Touch.refl _ _).set (.inl (by simp)) _
            refine ⟨lnx_setK (s := {s with came := c + 1, kept := ks}) H5.out (HT6.out.mono (by simp [Value.ownBlock])) hl9 HO6.out (fun z hz => .inl hz) (fun z hz => hz) (fun z hz => .inl hz) (fun z hz => (H5.out.lf z hz).2.2) (fun y hy => ((H5.out.lk y (mem_without hy)).touch HT6.out (fun z hz e => by simp at e; subst e; exact (H5.out.lf _ hz).2.2 rfl))), hl9, by rw [List.length_append, HX.out.mt]; rfl, HX.out.kb, ?_, ?_, fun us c' ks' hus => ?_, by omega, by have := HX.out.mb; omega⟩
            · exact (HT5.out.trans HT6.out (fun z hz => .inl (by simp at hz; subst hz; exact hqf))).trans T7 (fun z hz => .inl (by simp at hz; simp [fr, hz]))
            · have hr5 := HR5.out
              rw [← rowC_append] at hr5
              exact T7.row (HT6.out.row hr5 (fun z hz e => by have := (hr5.lt z hz).1; simp at e; omega)) (fun z hz e => by have := (hr5.lt z hz).1; simp at e; omega)
            · rw [List.append_assoc]
              exact HX.out.go _ _ _ (.step HXI.out hxe HN.out hus)
        · have d1 : ((x.1 : Int) == (c : Int) + 1) = false := by simp; omega
          clear HRA hw2
          go_quiet (fail)
          go_wp2
          go_roundg (gk - 1)
          case measure => omega
          case rel => exact ⟨i + 1, by omega, by omega, rfl, by go_num, below_drewN HB9.out _, fun j y hj hy => by
            rcases Nat.lt_succ_iff_lt_or_eq.1 hj with z | rfl
            · exact HN.out j y z hy
            · rw [HXI.out] at hy; injection hy with hy; subst hy; exact hxe⟩
      · obtain rfl : i = n := by omega
        have HE := Lib.hid (hend.out wr _ _ _ _ _ _ _ _ (HX.out.below HB.out) HN.out)
        clear hend HX HH
        go_wp2
        rw [Exit.noGoto_ret]
        go_ret
        exact HE.out
end Go.Proofs.Ytfemdfidfomchaa
