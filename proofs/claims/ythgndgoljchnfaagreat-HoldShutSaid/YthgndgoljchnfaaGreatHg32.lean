/-
  The code's hold: Win.
  Plain facts on holds: what Do answers, in each of its ways (no program is met here).
  Scans one behind the other at a hold: what they have told so far, and that they come to an end (HoldScans; no program is met here).
-/
import Derived.Test.YthgndgoljchnfaaGreatHg31
import Derived.Test.YthgndgoljchnfaaGreatHg12
import Derived.Test.YthgndgoljchnfaaGreatHg30
namespace Go.Proofs.YthgndgoljchnfaaGreat
open Go.RowKit

theorem lent_out {w : World} {S : Value} {n : Nat} {ms : List Item} {F : List Nat} (h : LentAt w S n ms) (hF : ∀ q, S.ownBlock = some q → q ∉ F) : ∃ A c, S = .slice A n c ∧ ms.length = n ∧ RowOut w F A ms := by
  obtain ⟨A, c, rfl, hn, _, _, hc⟩ := h
  refine ⟨A, c, rfl, hn, ?_⟩
  cases ms with
  | nil => exact ⟨0, 0, fun i hi => absurd hi (Nat.not_lt_zero _)⟩
  | cons x ms =>
    obtain ⟨p, hp, h0⟩ := hc 0 (.string x.1) rfl
    have e0 : p.add 0 = p := rfl
    rw [e0] at h0
    have hsp : p.spot = none := by
      unfold World.cell? at h0
      split at h0
      · split at h0
        · cases h0
        · rename_i z
          simpa using z
      · cases h0
    obtain ⟨b, off, sp⟩ := p
    simp only at hsp
    subst hsp
    subst hp
    have hb := World.block_lt_of_cell? w _ h0
    refine ⟨b, off, fun i hi => ⟨rfl, hb, hF b rfl, ?_, ?_⟩⟩
    · obtain ⟨p, hp, h1⟩ := hc (i * 2) _ (itemCells_get0 _ i hi)
      obtain rfl := Option.some.inj hp
      rw [Go.WideShapes.add_plain] at h1
      exact h1
    · obtain ⟨p, hp, h1⟩ := hc (i * 2 + 1) _ (itemCells_get1 _ i hi)
      obtain rfl := Option.some.inj hp
      rw [Go.WideShapes.add_plain] at h1
      exact h1
set_option maxRecDepth 100000 in
set_option maxHeartbeats 4000000 in
theorem allIn_any (f t : Nat) (A : Option Addr) (c n : Nat) (ms : List Item) (F : List Nat) (w : World) (hf : f < 18446744073709551616) (ht : t < 18446744073709551616) (hn : ms.length = n) (h9 : n ≤ 100000) (hA : RowOut w F A ms) (hs : ∀ x ∈ ms, x.1.size ≤ maxLen) :
    Calls Tryz.prog 47 #[.agg (a2 f t), .slice A n c] w fun e w' => ∃ b, e = .returned (.bool b) ∧ (b = true ↔ ∀ x ∈ ms, inB f t (adr x) = true) ∧ Below w.heap.size w w' := by
  have B0 : Below w.heap.size w (w.alloc (.cells (a2 f t) 25)) := (Below.refl _ _).alloc (Nat.le_refl _) _
  have hx := Bx.new w (a2 f t) 25
  have CI : Hid (∀ (W : World) (x : Nat), x < 18446744073709551616 → Calls Tryz.prog 21 #[.agg #[.int .u64 (f : Nat), .int .u64 (t : Nat)], .int .u64 (x : Nat)] W fun e w' => e = .returned (.bool (inB f t x)) ∧ Below W.heap.size W w') := fun W x hx => in_any f t x W hf ht hx
  have HN := Lib.hid hn
  have HA := Lib.hid hA
  have HSZ := Lib.hid hs
  clear hf ht hn hA hs
  go_enter Tryz.func47, Tryz.ntmps47
  go_wp2_with fail
  obtain ⟨b2, hb2⟩ : ∃ b2, w.heap.size = b2 := ⟨_, rfl⟩
  have HB2 := Lib.hid hb2
  obtain ⟨w0, hw0⟩ : ∃ w0, w.alloc (.cells (a2 f t) 25) = w0 := ⟨_, rfl⟩
  rw [hw0] at B0 hx ⊢
  rw [hb2] at hx
  simp only [hb2]
  clear hw0 hb2
  have HB0 := Lib.hid B0
  have HX := Lib.hid hx
  clear B0 hx
  go_loopg [9] (n + 1) (fun gh s9 wx => ∃ i : Nat, i + gh = n + 1 ∧ i ≤ n ∧ s9 = .int .i64 (i : Nat) ∧ Hid (∀ x ∈ ms.take i, inB f t (adr x) = true) ∧ Hid (Below w0.heap.size w0 wx))
  case atStart => exact ⟨0, by omega, by omega, rfl, (fun x hx => by cases hx), Below.refl _ _⟩
  case round =>
    obtain ⟨i, hig, hi, rfl, HE, HB⟩ := hrel
    by_cases hlt : i < n
    · have hiz : i < ms.length := by rw [HN.out]; exact hlt
      obtain ⟨b, off, hcell⟩ := HA.out
      obtain ⟨rfl, hbW, _, q0, q1⟩ := hcell i hiz
      obtain ⟨x, hx⟩ : ∃ x, ms[i] = x := ⟨_, rfl⟩
      rw [hx] at q0 q1
      have i1 : (i : Int) < (n : Int) := by omega
      have HTK : Hid (ms.take (i + 1) = ms.take i ++ [x]) := by show _ = _; rw [List.take_add_one, List.getElem?_eq_getElem hiz, hx]; rfl
      have hxm : x ∈ ms := hx ▸ List.getElem_mem hiz
      have hbb : Below w.heap.size w wr := acc HB0.out HB.out
      have c0 := (hbb.cell (p := ⟨b, off + i * 2, none⟩) hbW).trans q0
      have c1 := (hbb.cell (p := ⟨b, off + i * 2 + 1, none⟩) hbW).trans q1
      have CA := Lib.hid (fun W => addr_any x.1 W (HSZ.out x hxm))
      have CX := Lib.hid (fun W => CI.out W (addrN x.1) (adr_lt x))
      have HXM := Lib.hid hxm
      obtain ⟨k, v⟩ := x
      dsimp only at c0 c1 CA CX
      clear hcell hx hiz q0 q1 hbb hxm CI
      obtain ⟨bi, hbi⟩ : ∃ bi, inB f t (addrN k) = bi := ⟨_, rfl⟩
      rw [hbi] at CX
      have HBI : Hid (inB f t (adr (k, v)) = bi) := hbi
      clear hbi
      obtain ⟨ak, hak⟩ : ∃ ak, addrN k = ak := ⟨_, rfl⟩
      rw [hak] at CA CX
      clear hak
      go_upto_region 4 with fail
      have B6 : Below wr.heap.size wr (wr.alloc (.cells #[.string k, .string v] 31)) := (Below.refl _ _).alloc (Nat.le_refl _) _
      have hx6 := Bx.new wr #[.string k, .string v] 31
      obtain ⟨b6, hb6⟩ : ∃ b6, wr.heap.size = b6 := ⟨_, rfl⟩
      have HX2 := Lib.hid ((HX.out.below HB.out).below B6)
      have HB6 : Hid (Below w0.heap.size w0 (wr.alloc (.cells #[.string k, .string v] 31))) := acc HB.out B6
      rw [hb6] at hx6 ⊢
      obtain ⟨w6, hw6⟩ : ∃ w6, wr.alloc (.cells #[.string k, .string v] 31) = w6 := ⟨_, rfl⟩
      rw [hw6] at hx6 HX2 HB6 ⊢
      have HX6 := Lib.hid hx6
      clear hx6 B6 hw6 hb6
      have HSS : Hid (∀ w', Below w6.heap.size w6 w' → w'.cell? ⟨b2, 0, none⟩ = some (.int .u64 (f : Nat)) ∧ w'.cell? ⟨b2, 1, none⟩ = some (.int .u64 (t : Nat)) ∧ w'.cell? ⟨b6, 0, none⟩ = some (.string k)) := fun w' tt => ⟨(HX2.out.below tt).two.1, (HX2.out.below tt).two.2.1, (HX6.out.below tt).two.1⟩
      have S0 := Lib.hid (HSS.out _ (Below.refl w6.heap.size w6).drew)
      go_region_held3 (fun w' => w'.cell? ⟨b2, 0, none⟩ = some (.int .u64 (f : Nat)) ∧ w'.cell? ⟨b2, 1, none⟩ = some (.int .u64 (t : Nat)) ∧ w'.cell? ⟨b6, 0, none⟩ = some (.string k)) (first | exact S1.out | exact S0.out)
        (first
          | (go_at_call 38; (with_reducible refine (CA.out _).mono ?_); rintro e w7 ⟨rfl, rfl⟩)
          | (go_at_call 21; (with_reducible refine (CX.out _).mono ?_); rintro e w8 ⟨rfl, hb8⟩; have HB8 : Hid (Below w6.heap.size w6 w8) := ((Below.refl w6.heap.size w6).drew).trans hb8; have S1 := Lib.hid (HSS.out _ HB8.out); clear hb8))
      have HC8 : Hid (Below w0.heap.size w0 w8) := acc HB6.out HB8.out
      cases bi
      · go_wp2_with fail
        go_ret
        exact ⟨false, rfl, ⟨fun z => (by cases z), fun z => by have := z _ HXM.out; rw [HBI.out] at this; cases this⟩, acc HB0.out HC8.out⟩
      · go_wp2_with fail
        go_roundg (gk - 1)
        case measure => omega
        case rel => exact ⟨i + 1, by omega, by omega, by go_num, fun x hx => by
          rw [HTK.out] at hx
          rcases List.mem_append.1 hx with z | z
          · exact HE.out x z
          · rw [List.mem_singleton.1 z]; exact HBI.out, HC8.out⟩
    · obtain rfl : i = n := by omega
      have htk : ms.take i = ms := List.take_of_length_le (by rw [HN.out]; omega)
      rw [htk] at HE
      go_wp2_with fail
      go_ret
      exact ⟨true, rfl, ⟨fun _ => HE.out, fun _ => rfl⟩, acc HB0.out HB.out⟩
set_option maxRecDepth 100000 in
set_option maxHeartbeats 4000000 in
theorem hdWin_any {w : World} {g : Nat} {s : HO} {F : List Nat} (f t : Nat) (ep : Int) (S : Value) (n : Nat) (ms : List Item) (hf : f < 18446744073709551616) (ht : t < 18446744073709551616) (hw : Wide ep) (hn : n ≤ 1000) (hS : LentAt w S n ms) (hz : ∀ x ∈ ms, x.1.size ≤ maxLen ∧ x.2.size ≤ maxLen) (hSF : ∀ q, S.ownBlock = some q → q ∉ F) (hk : s.k ≤ 1000) (h : VD w g s F) :
    Calls Tryz.prog 17 #[.pointer (some ⟨g, 0, none⟩), .agg #[.int .u64 (f : Nat), .int .u64 (t : Nat)], .int .i64 ep, S] w fun e w' =>
      ((¬ s.may f t ep ∨ ∃ x ∈ ms, inB f t (adr x) = false) ∧ HdPost VD w g F (.int .i64 1) s e w') ∨
      (s.may f t ep ∧ (∀ x ∈ ms, inB f t (adr x) = true) ∧ ((putsEI s.most s.its ms ≠ 0 ∧ HdPost VD w g F (.int .i64 (putsEI s.most s.its ms)) s e w') ∨
        (putsEI s.most s.its ms = 0 ∧ HdPost VD w g F (.int .i64 0) ⟨s.nd, s.most, s.kept - n, (s.take f t ep).own, putsSI s.most s.its ms, s.g, s.k + 1⟩ e w'))) := by
  obtain ⟨l, S0, sp, Fs, Fg, h, rfl⟩ := h
  obtain ⟨A, c, rfl, hnm, hro⟩ := lent_out hS hSF
  have B0 : Below w.heap.size w (w.alloc (.cells (a2 f t) 25)) := (Below.refl _ _).alloc (Nat.le_refl _) _
  have hx := Bx.new w (a2 f t) 25
  obtain ⟨b5, hb5⟩ : ∃ b5, w.heap.size = b5 := ⟨_, rfl⟩
  have HB5 := Lib.hid hb5
  have h1 := h.below B0
  have C0 := Lib.hid (none_any g sp _ h1.c4)
  have C1 : Hid (∀ w', Below w.heap.size w w' → Calls Tryz.prog 34 #[.pointer (some ⟨g, 0, none⟩), .agg (a2 f t), .int .i64 ep] w' fun e w'' => ∃ b, e = .returned (.bool b) ∧ (b = true ↔ s.may f t ep) ∧ Below w'.heap.size w' w'') := fun w' hb => free_any f t ep hf ht hk (h.below hb)
  have hroT : ∀ w', Below w.heap.size w w' → RowOut w' (hF S0 Fs Fg) A ms := fun w' hb => hro.touch (Touch.ofBelow hb) (fun q hq => .inl hq)
  have C2 : Hid (∀ w', Below w.heap.size w w' → Calls Tryz.prog 47 #[.agg (a2 f t), .slice A n c] w' fun e w'' => ∃ b, e = .returned (.bool b) ∧ (b = true ↔ ∀ x ∈ ms, inB f t (adr x) = true) ∧ Below w'.heap.size w' w'') := fun w' hb => allIn_any f t A c n ms _ w' hf ht hnm (by omega) (hroT w' hb) (fun x hx => (hz x hx).1)
  have hsub : ∀ w', RowOut w' (hF S0 Fs Fg) A ms → RowOut w' Fs A ms := fun w' ⟨b, off, z⟩ => ⟨b, off, fun i hi => ⟨(z i hi).1, (z i hi).2.1, fun y => (z i hi).2.2.1 (mem_hF.2 (.inr (.inl y))), (z i hi).2.2.2⟩⟩
  have C3 : Hid (∀ w', Below w.heap.size w w' → Calls Tryz.prog 48 #[.pointer (some ⟨sp, 0, none⟩), .slice A n c] w' fun e w'' => e = .returned (.int .i64 (putsE s.most s.its ms)) ∧ CP SH w' w'' Fs sp s.most (inS s.most s.its ms)) := fun w' hb => by
    have z := cutIn_any shelfLaws (h.below hb).shelf A c ms (hsub _ (hroT w' hb)) (by omega) hz
    rw [hnm] at z
    exact z
  rw [putsEI_eq, putsSI_eq]
  have HPS := Lib.hid (putsS_right (m := s.most) ms (shelfLaws.rising h.shelf) h.right)
  have HH := Lib.hid h
  have HFT : Hid (f < 18446744073709551616 ∧ t < 18446744073709551616) := ⟨hf, ht⟩
  have HWE := Lib.hid hw
  have HK := Lib.hid hk
  have HNW : Hid (n ≤ 1000) := hn
  have HB0 := Lib.hid B0
  have c4 := h1.c4
  rw [hb5] at hx
  clear hS hz hSF h h1 hro hroT hsub hf ht hw hk hnm
  go_enter Tryz.func17, Tryz.ntmps17
  go_upto_region 1 with fail
  obtain ⟨w1, hw1⟩ : ∃ w1, w.alloc (.cells (a2 f t) 25) = w1 := ⟨_, rfl⟩
  rw [hw1] at B0 hx HB0 C0 c4 ⊢
  clear hw1
  try simp only [hb5]
  clear hb5 B0
  have HX1 := Lib.hid hx
  obtain ⟨u0, u1, _⟩ := hx.two
  clear hx
  go_upto_region 3 with (go_at_call 33; (with_reducible refine (C0.out).mono ?_); rintro e w2 ⟨rfl, rfl⟩)
  go_upto_region 5 with (first
    | (go_at_call 34; (with_reducible refine (C1.out _ HB0.out).mono ?_); rintro e w2 ⟨b, rfl, hbi, hb2⟩; have HBI := Lib.hid hbi; have HB2 := Lib.hid (acc HB0.out hb2); have HX2 := Lib.hid (HX1.out.below hb2); obtain ⟨u0, u1, _⟩ := HX2.out.two; clear hbi hb2; cases b)
    | (go_at_call 47; (with_reducible refine (C2.out _ HB2.out).mono ?_); rintro e w3 ⟨b, rfl, hbj, hb3⟩; have HBJ := Lib.hid hbj; have HB3 := Lib.hid (acc HB2.out hb3); have HX3 := Lib.hid (HX2.out.below hb3); clear hbj hb3; cases b))
  · go_ret
    exact .inl ⟨.inl (by simpa using HBI.out), HH.out.same HB2.out _⟩
  · go_ret
    refine .inl ⟨.inr ?_, HH.out.same HB3.out _⟩
    have z : ¬ ∀ x ∈ ms, inB f t (adr x) = true := by simpa using HBJ.out
    exact Classical.byContradiction fun y => z fun x hx => by
      by_cases hi : inB f t (adr x) = true
      · exact hi
      · exact absurd ⟨x, hx, bool_not hi⟩ y
  · have HMAY : Hid (s.may f t ep) := (by simpa using HBI.out : s.may f t ep)
    have HALL : Hid (∀ x ∈ ms, inB f t (adr x) = true) := (by simpa using HBJ.out : ∀ x ∈ ms, inB f t (adr x) = true)
    have c4 := (HH.out.below HB3.out).c4
    obtain ⟨er, her⟩ : ∃ er, putsE s.most s.its ms = er := ⟨_, rfl⟩
    have HER := Lib.hid her
    have C4 := Lib.hid (C3.out _ HB3.out)
    rw [her] at C4
    by_cases h0 : er = 0
    · subst h0
      clear her
      go_upto_region 8 with (go_at_call 48; (with_reducible refine (C4.out).mono ?_); rintro e w4 ⟨rfl, hcp⟩; have HCP := Lib.hid hcp; clear hcp)
      obtain ⟨ht4, Fs', hsh4, hn4⟩ := HCP.out
      have e4 : inS s.most s.its ms = putsS s.most s.its ms := if_pos HER.out
      rw [e4] at hsh4
      have h3 := HH.out.below HB3.out
      have h4 := h3.setShelf hsh4 ht4 hn4 HPS.out
      have hb5n : b5 ∉ Fs := fun z => by have := HH.out.shelf.ltF b5 z; have := HB5.out; omega
      have hx4 := HX3.out.touch ht4 hb5n
      obtain ⟨u0, u1, _⟩ := hx4.two
      have CO := Lib.hid ((own_any' (s := ⟨s.nd, s.most, s.kept, s.own, putsS s.most s.its ms, s.g, s.k⟩) f t ep HFT.out.1 HFT.out.2 HWE.out HK.out h4).mono (fun e w' z => z.resolve_right (fun y => y.1 HMAY.out)))
      have H4 := Lib.hid h4
      have HT4 := Lib.hid ht4
      have HN4 := Lib.hid hn4
      clear ht4 hsh4 hn4 e4 h3 h4 hb5n hx4 c4
      go_upto_region 9 with (go_at_call 13; (with_reducible refine (CO.out).mono ?_); rintro e w5 ⟨-, l2, S2, rfl, h5, ht5, hn5⟩)
      · have CR := Lib.hid (release_any (n : Nat) (by have := HNW.out; unfold Wide; omega) h5)
        have HT5 := Lib.hid ht5
        have HN5 := Lib.hid hn5
        have hn9 := HNW.out
        clear ht5 hn5 h5
        go_wp2_with (go_at_call 49; (with_reducible refine (CR.out).mono ?_); rintro e w6 ⟨rfl, h6, ht6⟩; have H6 := Lib.hid h6; have HT6 := Lib.hid ht6; clear h6 ht6)
        go_ret
        have z3 := HB3.out.size
        have z4 := HT4.out.size
        have z5 := HT5.out.size
        refine .inr ⟨HMAY.out, HALL.out, .inr ⟨HER.out, hF S2 Fs' Fg, rfl, ⟨l2, S2, sp, Fs', Fg, ?_, rfl⟩, ?_, fun q hq => ?_⟩⟩
        · have z := H6.out
          rw [Int.toNat_natCast] at z
          exact z
        · have t1 : Touch (hF S0 Fs Fg) w w4 := (Touch.ofBelow HB3.out).trans HT4.out (fun q hq => .inl (mem_hF.2 (.inr (.inl hq))))
          have t2 : Touch (hF S0 Fs Fg) w w5 := t1.trans HT5.out (fun q hq => by
            rcases List.mem_append.1 hq with y | y
            · exact .inl (mem_hF.2 (.inl (Option.mem_toList.1 y)))
            · exact .inl (mem_hF.2 (.inr (.inr y))))
          exact t2.trans HT6.out (fun q hq => .inl (mem_hF.2 (.inr (.inr hq))))
        · rcases mem_hF.1 hq with y | y | y
          · have := HN5.out q y
            exact .inr (by omega)
          · rcases HN4.out q y with x | x
            · exact .inl (mem_hF.2 (.inr (.inl x)))
            · exact .inr (by omega)
          · exact .inl (mem_hF.2 (.inr (.inr y)))
    · have hb : (er != 0) = true := by rw [bne_iff_ne]; exact h0
      have H0 := Lib.hid h0
      clear her h0
      go_wp2_with (go_at_call 48; (with_reducible refine (C4.out).mono ?_); rintro e w4 ⟨rfl, hcp⟩; have HCP := Lib.hid hcp; clear hcp)
      go_ret
      obtain ⟨ht4, Fs', hsh4, hn4⟩ := HCP.out
      have e4 : inS s.most s.its ms = s.its := if_neg (by rw [HER.out]; exact H0.out)
      rw [e4] at hsh4
      have h4 := (HH.out.below HB3.out).setShelf hsh4 ht4 hn4 HH.out.right
      have z3 := HB3.out.size
      refine .inr ⟨HMAY.out, HALL.out, .inl ⟨by rw [HER.out]; exact H0.out, hF S0 Fs' Fg, by rw [HER.out]; rfl, ⟨l, S0, sp, Fs', Fg, h4, rfl⟩, ?_, fun q hq => ?_⟩⟩
      · exact (Touch.ofBelow HB3.out).trans ht4 (fun q hq => .inl (mem_hF.2 (.inr (.inl hq))))
      · rcases mem_hF.1 hq with y | y | y
        · exact .inl (mem_hF.2 (.inl y))
        · rcases hn4 q y with x | x
          · exact .inl (mem_hF.2 (.inr (.inl x)))
          · exact .inr (by omega)
        · exact .inl (mem_hF.2 (.inr (.inr y)))
end Go.Proofs.YthgndgoljchnfaaGreat
namespace Go.Proofs.YthgndgoljchnfaaGreat
open Go.RowKit

theorem HO.bar_key {s : HO} {a : AK} (h1 : 1 ≤ a.op) (h2 : a.op ≤ 3) (h3 : a.key.size ≠ 0) (h4 : a.key.size ≤ 16) :
    s.bar a = if s.own (addrN a.key) = none then some ⟨8, ⟨#[]⟩, [], false, ⟨#[]⟩, (overL s.g.l (addrN a.key)).getD (-1)⟩ else if s.g.frozen (addrN a.key) = true then some (TL.err 7) else none := by
  unfold HO.bar
  rw [if_neg (by omega), if_neg (by omega)]
theorem Did.bar {s s1 : HO} {a : AK} {t b : TL} (h : Did s a t s1) (hb : s.bar a = some b) : t = b ∧ s1 = s := by
  unfold Did at h
  rw [hb] at h
  exact h
theorem Did.at_ {s s1 : HO} {a : AK} {t : TL} (h : Did s a t s1) (hb : s.bar a = none) :
    (a.op = 1 ∧ t = (if hasN s.its a.key = true then ⟨0, getI s.its a.key, [], false, ⟨#[]⟩, 0⟩ else TL.err 6) ∧ s1 = s) ∨
    (a.op = 2 ∧ t = TL.err (s.putE a.key a.val) ∧ s1 = if s.putE a.key a.val = 0 then s.with (putN s.its a.key a.val) else s) ∨
    (a.op = 3 ∧ t = TL.err (if hasN s.its a.key = true then 0 else 6) ∧ s1 = s.with (delN s.its a.key)) ∨
    (a.op = 4 ∧ (∃ stop, Upto s (addrN a.key) stop ∧ t = scanT s a stop) ∧ s1 = s) := by
  unfold Did at h
  rw [hb] at h
  exact h
/-- it is owned, and open: Get, Put, Del -/
theorem Did.get {s s1 : HO} {k v tt : ByteArray} {m e : Int} {t : TL} (h : Did s ⟨1, k, v, tt, m⟩ t s1) (h3 : k.size ≠ 0) (h4 : k.size ≤ 16) (ho : s.own (addrN k) = some e) (hf : s.g.frozen (addrN k) = false) :
    t = (if hasN s.its k = true then ⟨0, getI s.its k, [], false, ⟨#[]⟩, 0⟩ else TL.err 6) ∧ s1 = s := by
  have hb : s.bar ⟨1, k, v, tt, m⟩ = none := by
    rw [HO.bar_key (by simp) (by simp) h3 h4]
    show (if s.own (addrN k) = none then _ else if s.g.frozen (addrN k) = true then _ else _) = _
    rw [ho, hf, if_neg (by simp), if_neg (by simp)]
  rcases h.at_ hb with ⟨_, z⟩ | ⟨z, _⟩ | ⟨z, _⟩ | ⟨z, _⟩
  · exact z
  all_goals exact absurd z (by simp)
theorem Did.put {s s1 : HO} {k v tt : ByteArray} {m e : Int} {t : TL} (h : Did s ⟨2, k, v, tt, m⟩ t s1) (h3 : k.size ≠ 0) (h4 : k.size ≤ 16) (ho : s.own (addrN k) = some e) (hf : s.g.frozen (addrN k) = false) :
    t = TL.err (s.putE k v) ∧ s1 = if s.putE k v = 0 then s.with (putN s.its k v) else s := by
  have hb : s.bar ⟨2, k, v, tt, m⟩ = none := by
    rw [HO.bar_key (by simp) (by simp) h3 h4]
    show (if s.own (addrN k) = none then _ else if s.g.frozen (addrN k) = true then _ else _) = _
    rw [ho, hf, if_neg (by simp), if_neg (by simp)]
  rcases h.at_ hb with ⟨z, _⟩ | ⟨_, z⟩ | ⟨z, _⟩ | ⟨z, _⟩
  · exact absurd z (by simp)
  · exact z
  all_goals exact absurd z (by simp)
theorem Did.del {s s1 : HO} {k v tt : ByteArray} {m e : Int} {t : TL} (h : Did s ⟨3, k, v, tt, m⟩ t s1) (h3 : k.size ≠ 0) (h4 : k.size ≤ 16) (ho : s.own (addrN k) = some e) (hf : s.g.frozen (addrN k) = false) :
    t = TL.err (if hasN s.its k = true then 0 else 6) ∧ s1 = s.with (delN s.its k) := by
  have hb : s.bar ⟨3, k, v, tt, m⟩ = none := by
    rw [HO.bar_key (by simp) (by simp) h3 h4]
    show (if s.own (addrN k) = none then _ else if s.g.frozen (addrN k) = true then _ else _) = _
    rw [ho, hf, if_neg (by simp), if_neg (by simp)]
  rcases h.at_ hb with ⟨z, _⟩ | ⟨z, _⟩ | ⟨_, z⟩ | ⟨z, _⟩
  · exact absurd z (by simp)
  · exact absurd z (by simp)
  · exact z
  · exact absurd z (by simp)
/-- it is not owned -/
theorem Did.else_ {s s1 : HO} {k v tt : ByteArray} {m op : Int} {t : TL} (h : Did s ⟨op, k, v, tt, m⟩ t s1) (h1 : 1 ≤ op) (h2 : op ≤ 3) (h3 : k.size ≠ 0) (h4 : k.size ≤ 16) (ho : s.own (addrN k) = none) :
    t = ⟨8, ⟨#[]⟩, [], false, ⟨#[]⟩, (overL s.g.l (addrN k)).getD (-1)⟩ ∧ s1 = s := by
  refine h.bar ?_
  rw [HO.bar_key h1 h2 h3 h4]
  exact if_pos ho
/-- it is frozen -/
theorem Did.busy {s s1 : HO} {k v tt : ByteArray} {m op e : Int} {t : TL} (h : Did s ⟨op, k, v, tt, m⟩ t s1) (h1 : 1 ≤ op) (h2 : op ≤ 3) (h3 : k.size ≠ 0) (h4 : k.size ≤ 16) (ho : s.own (addrN k) = some e) (hf : s.g.frozen (addrN k) = true) : t = TL.err 7 ∧ s1 = s := by
  refine h.bar ?_
  rw [HO.bar_key h1 h2 h3 h4]
  show (if s.own (addrN k) = none then _ else if s.g.frozen (addrN k) = true then _ else _) = _
  rw [ho, hf, if_neg (by simp), if_pos rfl]
/-- what a new one may own: all that may be owned -/
theorem HO.may_new {nd most e : Int} {f t : Nat} (he : 0 ≤ e) : (HO.new nd most).may f t e := ⟨he, fun _ _ _ => rfl⟩
theorem HO.take_own {s : HO} {f t x : Nat} {e : Int} (h : inB f t x = true) : (s.take f t e).own x = some e := if_pos h
theorem HO.take_not {s : HO} {f t x : Nat} {e : Int} (h : inB f t x = false) : (s.take f t e).own x = s.own x := if_neg (by rw [h]; simp)
/-- may two arcs both be owned? -/
theorem may_take {s : HO} {f t f1 t1 : Nat} {e e1 : Int} (hf : f < 18446744073709551616) (ht : t < 18446744073709551616) (hf1 : f1 < 18446744073709551616) (ht1 : t1 < 18446744073709551616) (hs : ∀ x, s.own x = none) (he : 0 ≤ e1) :
    (s.take f t e).may f1 t1 e1 ↔ apartB f t f1 t1 = true := by
  constructor
  · rintro ⟨_, h⟩
    unfold apartB
    have h1 : inB f t f1 = false := bool_not fun z => by
      have := h f1 hf1 (in_first _ _ hf1 ht1)
      rw [HO.take_own z] at this
      cases this
    have h2 : inB f1 t1 f = false := bool_not fun z => by
      have := h f hf z
      rw [HO.take_own (in_first _ _ hf ht)] at this
      cases this
    rw [h1, h2]
    rfl
  · intro h
    refine ⟨he, fun x hx hi => ?_⟩
    cases hz : inB f t x with
    | false => rw [HO.take_not hz]; exact hs x
    | true =>
      have := apart_in hf ht hf1 ht1 hx h hz
      rw [this] at hi
      cases hi
end Go.Proofs.YthgndgoljchnfaaGreat
namespace Go.Proofs.YthgndgoljchnfaaGreat
open Go.RowKit
namespace Hd

theorem addrN_val (s : ByteArray) : addrN s = valN 8 s.toList := by rw [addrN, accN_val, Lib.toList_data]
theorem less_at {x : ByteArray} {p : Nat} (hp : p < 18446744073709551616) : lessB x (txt (firstN p)) = decide (addrN x < p) := by
  have e : (256 : Nat) ^ 8 = 18446744073709551616 := by decide
  have fl : (txt (firstN p)).toList = firstN p := txt_toList _
  unfold lessB
  rw [fl]
  by_cases h : addrN x < p
  · rw [decide_eq_true h]
    exact val_less 8 _ _ (by rw [firstN_val (by rw [e]; exact hp), ← addrN_val]; exact h)
  · rw [decide_eq_false h]
    exact bare_least 8 _ _ (firstN_length p) (firstN_bare p) (by rw [firstN_val (by rw [e]; exact hp), ← addrN_val]; omega)
theorem addr_at {p : Nat} (hp : p < 18446744073709551616) : addrN (txt (firstN p)) = p := by
  have e : (256 : Nat) ^ 8 = 18446744073709551616 := by decide
  rw [addrN_val, txt_toList, firstN_val (by rw [e]; exact hp)]
theorem first_size (p : Nat) : (txt (firstN p)).size ≤ 8 := by
  rw [txt_size]
  exact firstN_length p
theorem less_below {a b f : ByteArray} (h : lessB a f = true) (k : lessB b f = false) : lessB a b = true := by
  by_cases e : a = b
  · rw [e, k] at h; cases h
  · rcases lessB_total e with z | z
    · exact z
    · rw [lessB_trans z h] at k; cases k
/-- not below what is not below -/
theorem not_below {a b c : ByteArray} (h : lessB b a = false) (k : lessB c b = false) : lessB c a = false := by
  cases z : lessB c a with
  | false => rfl
  | true => rw [less_below z h] at k; cases k
/-- two parts of a rising list, the one all ahead of the other -/
theorem filter_two {l : List Item} (h : Rising l) (p q : Item → Bool) (hpq : ∀ x ∈ l, ∀ y ∈ l, p x = true → q y = true → lessB x.1 y.1 = true) : l.filter p ++ l.filter q = l.filter fun x => p x || q x := by
  refine rising_ext (rising_append.2 ⟨h.filter _, h.filter _, fun x hx y hy => ?_⟩) (h.filter _) fun x => ?_
  · obtain ⟨x1, x2⟩ := List.mem_filter.1 hx
    obtain ⟨y1, y2⟩ := List.mem_filter.1 hy
    exact hpq x x1 y y1 x2 y2
  · rw [List.mem_append, List.mem_filter, List.mem_filter, List.mem_filter, Bool.or_eq_true]
    constructor
    · rintro (⟨a, b⟩ | ⟨a, b⟩)
      · exact ⟨a, .inl b⟩
      · exact ⟨a, .inr b⟩
    · rintro ⟨a, b | b⟩
      · exact .inl ⟨a, b⟩
      · exact .inr ⟨a, b⟩
/-- the first m of a rising list are those below the next one -/
theorem take_below {l : List Item} (h : Rising l) {m : Nat} {y : Item} (hy : l[m]? = some y) : l.take m = l.filter fun x => lessB x.1 y.1 := by
  have e : l = l.take m ++ l.drop m := (List.take_append_drop m l).symm
  have hr := h
  rw [e] at hr
  obtain ⟨h1, h2, h3⟩ := rising_append.1 hr
  have hm : m < l.length := (List.getElem?_eq_some_iff.1 hy).1
  have hd : l.drop m = y :: l.drop (m + 1) := by
    rw [List.drop_eq_getElem_cons hm]
    rw [List.getElem?_eq_getElem hm] at hy
    rw [Option.some.inj hy]
  conv => rhs; rw [e, List.filter_append]
  have f1 : (l.take m).filter (fun x => lessB x.1 y.1) = l.take m := List.filter_eq_self.2 fun x hx => h3 x hx y (by rw [hd]; simp)
  have f2 : (l.drop m).filter (fun x => lessB x.1 y.1) = [] := List.filter_eq_nil_iff.2 fun x hx => by
    rw [hd] at hx h2
    rcases List.mem_cons.1 hx with rfl | hx
    · rw [lessB_irrefl]; simp
    · rw [lessB_asymm ((rising_cons.1 h2).1 x hx)]; simp
  rw [f1, f2, List.append_nil]
/-! ### What was told -/
/-- may a key be told, by its end? -/
def tillB (tt : ByteArray) (x : Item) : Bool := tt.size == 0 || lessB x.1 tt
/-- told so far: from the beginning up to where the next scan begins -/
def toldB (fr at_ tt : ByteArray) (x : Item) : Bool := (!lessB x.1 fr && lessB x.1 at_) && tillB tt x
theorem toldB_nil (l : List Item) (fr tt : ByteArray) : l.filter (toldB fr fr tt) = [] := List.filter_eq_nil_iff.2 fun x _ => by
  unfold toldB
  cases lessB x.1 fr <;> simp
/-- what the next one tells goes on -/
def nextB (at_ tt : ByteArray) (stop : Nat) (x : Item) : Bool := (!lessB x.1 at_ && tillB tt x) && decide (adr x < stop)
theorem next_eq (l : List Item) (at_ tt : ByteArray) (stop : Nat) : (rangeL l at_ tt).filter (fun x => decide (adr x < stop)) = l.filter (nextB at_ tt stop) := by
  unfold rangeL
  rw [List.filter_filter]
  refine List.filter_congr fun x _ => ?_
  unfold nextB tillB
  rw [Bool.and_comm]
/-- the state of the scans, one behind the other -/
structure Sc (l : List Item) (fr at_ tt : ByteArray) (got : List Item) : Prop where
  up : Rising l
  ord : lessB at_ fr = false
  told : got = l.filter (toldB fr at_ tt)
theorem Sc.start {l : List Item} (h : Rising l) (fr tt : ByteArray) : Sc l fr fr tt [] := ⟨h, lessB_irrefl fr, (toldB_nil l fr tt).symm⟩
/-- how many there are from there on -/
def left_ (l : List Item) (at_ tt : ByteArray) : Nat := (l.filter fun x => !lessB x.1 at_ && tillB tt x).length
section
variable {l got : List Item} {fr at_ tt : ByteArray} {stop : Nat}
/-- up to a point b that is not below where it began: told and more -/
theorem Sc.go (h : Sc l fr at_ tt got) {b : ByteArray} (hb : lessB b at_ = false) {q : Item → Bool} (hq : ∀ x ∈ l, q x = ((!lessB x.1 at_ && lessB x.1 b) && tillB tt x)) : Sc l fr b tt (got ++ l.filter q) := by
  refine ⟨h.up, not_below h.ord hb, ?_⟩
  rw [h.told, filter_two h.up]
  · refine List.filter_congr fun x hx => ?_
    rw [hq x hx]
    unfold toldB
    cases h1 : lessB x.1 fr with
    | true =>
      have : lessB x.1 at_ = true := less_below h1 h.ord
      rw [this]
      simp
    | false =>
      cases h2 : lessB x.1 at_ with
      | true =>
        have : lessB x.1 b = true := less_below h2 hb
        rw [this]
        simp
      | false => simp
  · intro x hx y hy px qy
    rw [hq y hy] at qy
    unfold toldB at px
    have p1 : lessB x.1 at_ = true := by
      cases z : lessB x.1 at_ with
      | true => rfl
      | false => rw [z] at px; simp at px
    have q1 : lessB y.1 at_ = false := by
      cases z : lessB y.1 at_ with
      | false => rfl
      | true => rw [z] at qy; simp at qy
    exact less_below p1 q1
/-- the next scan has told its most, and y is the first that was left -/
theorem Sc.page (h : Sc l fr at_ tt got) {m : Nat} {y : Item} (hm : 1 ≤ m) (hy : (l.filter (nextB at_ tt stop))[m]? = some y) :
    Sc l fr y.1 tt (got ++ (l.filter (nextB at_ tt stop)).take m) ∧ lessB at_ y.1 = true ∧ y ∈ l ∧ left_ l y.1 tt + m ≤ left_ l at_ tt := by
  have hr : Rising (l.filter (nextB at_ tt stop)) := h.up.filter _
  have hmem := List.mem_of_getElem? hy
  obtain ⟨y1, y2⟩ := List.mem_filter.1 hmem
  unfold nextB at y2
  rw [Bool.and_eq_true, Bool.and_eq_true] at y2
  have y3 : lessB y.1 at_ = false := by simpa using y2.1.1
  have hlen : m < (l.filter (nextB at_ tt stop)).length := (List.getElem?_eq_some_iff.1 hy).1
  obtain ⟨x, hx⟩ : ∃ x, (l.filter (nextB at_ tt stop))[0]? = some x := ⟨_, List.getElem?_eq_getElem (by omega)⟩
  have hxm := List.mem_of_getElem? hx
  obtain ⟨x1, x2⟩ := List.mem_filter.1 hxm
  unfold nextB at x2
  rw [Bool.and_eq_true, Bool.and_eq_true] at x2
  have x3 : lessB x.1 at_ = false := by simpa using x2.1.1
  have hxy : lessB x.1 y.1 = true := by
    rw [List.getElem?_eq_getElem (by omega)] at hx hy
    rw [← Option.some.inj hx, ← Option.some.inj hy]
    exact List.pairwise_iff_getElem.1 hr 0 m (by omega) hlen (by omega)
  have hlt : lessB at_ y.1 = true := by
    by_cases e : at_ = y.1
    · rw [← e, x3] at hxy; cases hxy
    · rcases lessB_total e with z | z
      · exact z
      · rw [z] at y3; cases y3
  have hb : lessB y.1 at_ = false := y3
  have htake : (l.filter (nextB at_ tt stop)).take m = l.filter fun z => nextB at_ tt stop z && lessB z.1 y.1 := by
    rw [take_below hr hy, List.filter_filter]
    exact List.filter_congr fun z _ => Bool.and_comm _ _
  have hq : ∀ z ∈ l, (nextB at_ tt stop z && lessB z.1 y.1) = ((!lessB z.1 at_ && lessB z.1 y.1) && tillB tt z) := fun z _ => by
    cases h1 : lessB z.1 y.1 with
    | false => simp
    | true =>
      have : adr z < stop := Nat.lt_of_le_of_lt (less_adr h1) (of_decide_eq_true y2.2)
      unfold nextB
      rw [decide_eq_true this]
      simp
  refine ⟨by rw [htake]; exact h.go hb hq, hlt, y1, ?_⟩
  have hsplit : (l.filter fun z => !lessB z.1 at_ && tillB tt z) = (l.filter fun z => (!lessB z.1 at_ && lessB z.1 y.1) && tillB tt z) ++ l.filter fun z => !lessB z.1 y.1 && tillB tt z := by
    rw [filter_two h.up]
    · refine List.filter_congr fun z _ => ?_
      cases h1 : lessB z.1 y.1 with
      | true => simp
      | false =>
        rw [not_below hb h1]
        simp
    · intro a _ b _ pa qb
      have p1 : lessB a.1 y.1 = true := by
        cases w : lessB a.1 y.1 with
        | true => rfl
        | false => rw [w] at pa; simp at pa
      have q1 : lessB b.1 y.1 = false := by
        cases w : lessB b.1 y.1 with
        | false => rfl
        | true => rw [w] at qb; simp at qb
      exact less_below p1 q1
  have hml : (l.filter fun z => (!lessB z.1 at_ && lessB z.1 y.1) && tillB tt z).length = m := by
    rw [← List.filter_congr hq, ← htake, List.length_take]
    omega
  unfold left_
  rw [hsplit, List.length_append, hml]
  omega
/-- the next scan has told all up to the point at which it stopped -/
theorem Sc.point (h : Sc l fr at_ tt got) (hs : stop < 18446744073709551616) (ha : addrN at_ < stop) : Sc l fr (txt (firstN stop)) tt (got ++ l.filter (nextB at_ tt stop)) ∧ lessB at_ (txt (firstN stop)) = true := by
  have h1 : lessB at_ (txt (firstN stop)) = true := by rw [less_at hs]; exact decide_eq_true ha
  refine ⟨h.go (lessB_asymm h1) fun x _ => ?_, h1⟩
  unfold nextB
  rw [less_at hs]
  show ((!lessB x.1 at_ && tillB tt x) && decide (adr x < stop)) = ((!lessB x.1 at_ && decide (adr x < stop)) && tillB tt x)
  rw [Bool.and_assoc, Bool.and_assoc, Bool.and_comm (tillB tt x)]
/-- at the end: what was told is just what some test lets by, and nothing that lies between was passed by -/
def Ended (l : List Item) (fr at_ tt : ByteArray) (got : List Item) : Prop := ∃ p : Item → Bool, got = l.filter p ∧ ∀ x ∈ l, toldB fr at_ tt x = true → p x = true
theorem Sc.ended (h : Sc l fr at_ tt got) : Ended l fr at_ tt got := ⟨_, h.told, fun _ _ z => z⟩
theorem Sc.last (h : Sc l fr at_ tt got) : Ended l fr at_ tt (got ++ l.filter (nextB at_ tt stop)) := by
  refine ⟨fun x => toldB fr at_ tt x || nextB at_ tt stop x, ?_, fun x _ z => by simp [z]⟩
  rw [h.told, filter_two h.up]
  intro x _ y _ px qy
  unfold toldB at px
  unfold nextB at qy
  have p1 : lessB x.1 at_ = true := by
    cases z : lessB x.1 at_ with
    | true => rfl
    | false => rw [z] at px; simp at px
  have q1 : lessB y.1 at_ = false := by
    cases z : lessB y.1 at_ with
    | false => rfl
    | true => rw [z] at qy; simp at qy
  exact less_below p1 q1
end
/-! ### At the hold -/
/-- a hold that owns one arc as of epoch 1 -/
def Os (f t : Nat) (its : List Item) : HO := ⟨1, 200, 0, fun x => if inB f t x = true then some 1 else none, its, G0, 1⟩
theorem putN_up (l : List Item) (k v : ByteArray) : (putN l k v).length ≤ l.length + 1 := by
  rw [putN_length]
  split <;> omega
theorem Os_do {f t0 : Nat} {its : List Item} {k v : ByteArray} {t : TL} {s1 : HO} (h : Did (Os f t0 its) ⟨2, k, v, ⟨#[]⟩, 0⟩ t s1) : ∃ its', s1 = Os f t0 its' ∧ its'.length ≤ its.length + 1 := by
  cases hb : (Os f t0 its).bar ⟨2, k, v, ⟨#[]⟩, 0⟩ with
  | some b => exact ⟨its, (h.bar hb).2, by omega⟩
  | none =>
    rcases h.at_ hb with ⟨z, _⟩ | ⟨_, _, z⟩ | ⟨z, _⟩ | ⟨z, _⟩
    · exact absurd z (by simp)
    · rw [z]
      split
      · exact ⟨putN its k v, rfl, putN_up _ _ _⟩
      · exact ⟨its, rfl, by omega⟩
    · exact absurd z (by simp)
    · exact absurd z (by simp)
/-- what a scan there may tell -/
def OutS (f t0 : Nat) (l : List Item) (fr at_ tt : ByteArray) (got : List Item) (m : Nat) (t : TL) : Prop :=
  (t.er = 8 ∧ t.its = []) ∨
  (t.er = 0 ∧ (Os f t0 l).own (addrN at_) ≠ none ∧ t.its.length ≤ m ∧ ((t.more = false ∧ Ended l fr at_ tt (got ++ t.its)) ∨
    (t.more = true ∧ lessB at_ t.nx = true ∧ t.nx.size ≤ 16 ∧ Sc l fr t.nx tt (got ++ t.its) ∧ (left_ l t.nx tt + 1 ≤ left_ l at_ tt ∨ (Os f t0 l).own (addrN t.nx) = none))))
theorem scan_out {f t0 : Nat} {l got : List Item} {fr at_ tt : ByteArray} {m : Nat} {t : TL} {s1 : HO} (h : Did (Os f t0 l) ⟨4, at_, ⟨#[]⟩, tt, (m : Nat)⟩ t s1) (hs : Sc l fr at_ tt got) (hk : ∀ x ∈ l, rightN x.1 = 0) (h16 : at_.size ≤ 16) (h1 : 1 ≤ m) (h40 : m ≤ 40) : OutS f t0 l fr at_ tt got m t ∧ s1 = Os f t0 l := by
  cases hb : (Os f t0 l).bar ⟨4, at_, ⟨#[]⟩, tt, (m : Nat)⟩ with
  | some b =>
    obtain ⟨rfl, rfl⟩ := h.bar hb
    refine ⟨?_, rfl⟩
    unfold HO.bar at hb
    rw [if_neg (by simp; omega), if_neg (by simp; omega)] at hb
    split at hb
    · obtain rfl := Option.some.inj hb
      exact .inl ⟨rfl, rfl⟩
    · split at hb
      · rename_i hz
        exact absurd hz (by show ¬ (G0.frozen _ = true); unfold GS.frozen G0; simp)
      · cases hb
  | none =>
    have hown : (Os f t0 l).own (addrN at_) ≠ none := by
      unfold HO.bar at hb
      rw [if_neg (by simp; omega), if_neg (by simp; omega)] at hb
      intro z
      rw [if_pos z] at hb
      cases hb
    rcases h.at_ hb with ⟨z, _⟩ | ⟨z, _⟩ | ⟨z, _⟩ | ⟨_, ⟨stop, hu, rfl⟩, rfl⟩
    · exact absurd z (by simp)
    · exact absurd z (by simp)
    · exact absurd z (by simp)
    refine ⟨.inr ?_, rfl⟩
    obtain ⟨u1, u2, u3, u4⟩ := hu
    unfold scanT
    by_cases hto : tt.size ≠ 0 ∧ lessB at_ tt = false
    · rw [if_pos hto]
      exact ⟨rfl, hown, Nat.zero_le _, .inl ⟨rfl, by rw [List.append_nil]; exact hs.ended⟩⟩
    · rw [if_neg hto]
      have hl : ((rangeL (Os f t0 l).its at_ tt).filter fun x => decide (adr x < stop)) = l.filter (nextB at_ tt stop) := next_eq l at_ tt stop
      simp only [hl]
      rw [show ((m : Nat) : Int).toNat = m from Int.toNat_natCast m]
      cases hy : (l.filter (nextB at_ tt stop))[m]? with
      | some y =>
        obtain ⟨s2, s3, s4, s5⟩ := hs.page h1 hy
        have := hk y s4
        rw [rightN] at this
        refine ⟨rfl, hown, by show (List.take m _).length ≤ m; rw [List.length_take]; omega, .inr ⟨rfl, s3, ?_, s2, .inl (by show left_ l y.1 tt + 1 ≤ _; omega)⟩⟩
        show y.1.size ≤ 16
        split at this
        · cases this
        · omega
      | none =>
        have hlen : (l.filter (nextB at_ tt stop)).length ≤ m := List.getElem?_eq_none_iff.1 hy
        by_cases hst : stop < 18446744073709551616 ∧ (tt.size = 0 ∨ lessB (txt (firstN stop)) tt = true)
        · simp only [if_pos hst]
          obtain ⟨s2, s3⟩ := hs.point (stop := stop) hst.1 u1
          refine ⟨by trivial, hown, hlen, .inr ⟨by trivial, s3, ?_, s2, .inr ?_⟩⟩
          · have := first_size stop
            show (txt (firstN stop)).size ≤ 16
            omega
          · show (Os f t0 l).own (addrN (txt (firstN stop))) = none
            rw [addr_at hst.1]
            rcases u4 hst.1 with z | z
            · exact z
            · exact absurd z (by show ¬ (G0.frozen _ = true); unfold GS.frozen G0; simp)
        · simp only [if_neg hst]
          exact ⟨by trivial, hown, hlen, .inl ⟨by trivial, hs.last⟩⟩
/-! ### What is told is held against all items -/
theorem match_at {l : List Item} (h : Rising l) (p : Item → Bool) {i : Nat} {x : Item} (hx : l[i]? = some x) :
    (p x = true → (l.filter p)[((l.take i).filter p).length]? = some x) ∧ (p x = false → ∀ y, (l.filter p)[((l.take i).filter p).length]? = some y → y.1 ≠ x.1) := by
  have hm : i < l.length := (List.getElem?_eq_some_iff.1 hx).1
  have hd : l = l.take i ++ x :: l.drop (i + 1) := by
    conv => lhs; rw [← List.take_append_drop i l, List.drop_eq_getElem_cons hm]
    rw [List.getElem?_eq_getElem hm] at hx
    rw [Option.some.inj hx]
  have hr := h
  rw [hd] at hr
  have h2 := rising_cons.1 (rising_append.1 hr).2.1
  have e : l.filter p = (l.take i).filter p ++ (x :: l.drop (i + 1)).filter p := by
    conv => lhs; rw [hd, List.filter_append]
  constructor
  · intro hp
    rw [e, List.getElem?_append_right (Nat.le_refl _), Nat.sub_self, List.filter_cons, if_pos hp]
    rfl
  · intro hp y hy
    rw [e, List.getElem?_append_right (Nat.le_refl _), Nat.sub_self, List.filter_cons, if_neg (by rw [hp]; simp)] at hy
    have hym := (List.mem_filter.1 (List.mem_of_getElem? hy)).1
    intro z
    have := h2.1 y hym
    rw [z, lessB_irrefl] at this
    cases this
theorem count_step {l : List Item} (p : Item → Bool) {i : Nat} {x : Item} (hx : l[i]? = some x) : ((l.take (i + 1)).filter p).length = if p x = true then ((l.take i).filter p).length + 1 else ((l.take i).filter p).length := by
  rw [List.take_add_one, hx, List.filter_append, List.length_append]
  by_cases hp : p x = true
  · simp [hp]
  · simp [hp]
theorem toldB_not {fr at_ tt : ByteArray} {x : Item} (h : toldB fr at_ tt x = false) : lessB x.1 fr = true ∨ (lessB x.1 fr = false ∧ lessB x.1 at_ = false) ∨ (lessB x.1 fr = false ∧ lessB x.1 at_ = true ∧ tt.size ≠ 0 ∧ lessB x.1 tt = false) := by
  unfold toldB tillB at h
  cases h1 : lessB x.1 fr
  · cases h2 : lessB x.1 at_
    · exact .inr (.inl ⟨rfl, rfl⟩)
    · rw [h1, h2] at h
      simp at h
      exact .inr (.inr ⟨rfl, rfl, by simpa using h.1, by simpa using h.2⟩)
  · exact .inl rfl
end Hd
end Go.Proofs.YthgndgoljchnfaaGreat
