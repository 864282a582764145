/-
  The walk of the statement PackCuts of chapter 3.
-/
import Derived.Test.YtalccnmbpohllaaPackCat
import Derived.Test.YtalccnmbpohllaaLists
import Derived.Deep.DeepCutAuto
namespace Go.Proofs.Ytalccnmbpohllaa
open Go.RowKit

theorem getD_mem {α : Type} (l : List α) (i : Nat) (d : α) (h : i < l.length) : l.getD i d ∈ l := by
  rw [List.getD_eq_getElem?_getD, List.getElem?_eq_getElem h]
  exact List.getElem_mem h
theorem cut_place (k : Int) (n : Nat) (h : 0 < n) (hn : n ≤ 100000) : ∃ K : Nat, K < n ∧ (wrap64 (k.tmod (n : Int) + (n : Int))).tmod (n : Int) = (K : Int) := by
  have h1 := Int.tmod_lt_of_pos k (show (0 : Int) < n by omega)
  have h2 := Int.lt_tmod_of_pos k (show (0 : Int) < n by omega)
  have h3 : 0 ≤ k.tmod (n : Int) + (n : Int) := by omega
  have hw : wrap64 (k.tmod (n : Int) + (n : Int)) = k.tmod (n : Int) + (n : Int) := by
    unfold wrap64; omega
  rw [hw]
  obtain ⟨m, hm⟩ := Int.eq_ofNat_of_zero_le h3
  rw [hm]
  refine ⟨m % n, Nat.mod_lt _ h, ?_⟩
  rw [Int.tmod_eq_emod_of_nonneg (by omega)]
  simp

set_option maxHeartbeats 1000000 in
theorem packCuts_many (A : Option Addr) (c : Nat) (zs : List ByteArray) (k : Int) (w : World) (h : 20 < zs.length) (hm : zs.length ≤ 9223372036854775807) :
    Calls Try.prog 5 #[.slice A zs.length c, .int .i64 k] w fun e w' => e = .returned (.bool true) ∧ Below w.heap.size w w' := by
  generalize zs.length = n at *
  go_enter Try.func5, Try.ntmps5
  go_wp2_with (go_at_call 9; ((with_reducible refine (alive_any _).mono ?_); rintro e w1 ⟨rfl, hb1⟩; have HB1 := Lib.hid hb1; clear hb1))
  go_ret
  exact ⟨rfl, HB1.out⟩

set_option maxHeartbeats 4000000 in
theorem packCuts_few (A : Option Addr) (c : Nat) (zs : List ByteArray) (k : Int) (w : World) (h : zs.length ≤ 20) (hz : ∀ s ∈ zs, s.size ≤ 9223372036854775807) (hA : TextsAt w A zs) (_hk0 : -9223372036854775808 ≤ k) (_hk1 : k ≤ 9223372036854775807) :
    Calls Try.prog 5 #[.slice A zs.length c, .int .i64 k] w fun e w' => e = .returned (.bool true) ∧ Below w.heap.size w w' := by
  have C0 := Lib.hid alive_any
  have HZ := Lib.hid hz
  obtain ⟨ab, ao, hT⟩ := hA
  have HT := Lib.hid hT
  obtain ⟨n, hn⟩ : ∃ n, zs.length = n := ⟨_, rfl⟩
  rw [hn] at HT ⊢
  rw [hn] at h
  have HN := Lib.hid hn
  clear hz hT hn
  go_enter Try.func5, Try.ntmps5
  go_wp2_with (go_at_call 9; ((with_reducible refine (C0.out _).mono ?_); rintro e w1 ⟨rfl, hb1⟩; have HB1 := Lib.hid hb1; clear hb1))
  go_loopg [5, 26] 21 (fun gh s5 s26 wx => ∃ (i : Nat) (B : ByteArray), i + gh = 21 ∧ i ≤ n ∧ s26 = .int .i64 i ∧ s5 = .string B ∧ B.size ≤ 256 * i ∧ Hid (B.data.toList = catL (zs.take i)) ∧ Hid (∀ j, j < i → okText (zs.getD j ByteArray.empty) = true) ∧ Hid (Below w.heap.size w wx))
  case atStart => exact ⟨0, ⟨#[]⟩, by omega, by omega, rfl, rfl, by show (0 : Nat) ≤ _; omega, by show ([] : List UInt8) = _; rfl, fun j hj => by omega, HB1⟩
  case round =>
    obtain ⟨i, B, hig, hi, rfl, rfl, hBs, HC, HO, HB⟩ := hrel
    by_cases hlt : i < n
    · obtain ⟨rfl, hbw, hc⟩ := HT.out i hlt
      have hc1 := (HB.out.cell (p := ⟨ab, ao + i, none⟩) hbw).trans hc
      have hsm := HZ.out _ (getD_mem zs i ByteArray.empty (by rw [HN.out]; exact hlt))
      have hsn := catL_snoc zs i (by rw [HN.out]; exact hlt)
      obtain ⟨s, hs⟩ : ∃ s, zs.getD i ByteArray.empty = s := ⟨_, rfl⟩
      rw [hs] at hc1 hsm hsn
      have HS := Lib.hid hs
      have HSN := Lib.hid hsn
      have CT := Lib.hid fun W => text_any s W hsm
      clear hs hsn hc
      by_cases ho : 255 < s.size
      · have e : okText s = false := by simp [okText]; omega
        rw [e] at CT
        clear e
        have hd : decide (255 < (s.size : Int)) = true := by simp; omega
        go_wp2_with (go_at_call 11; ((with_reducible refine (CT.out _).mono ?_); rintro e w2 ⟨rfl, hb2⟩; have HB2 := Lib.hid (acc HB.out hb2); clear hb2))
        go_ret
        exact ⟨rfl, HB2.out⟩
      · have e : okText s = true := by simp [okText]; omega
        have hTz := textT_size s e
        have hTz2 : (textT s).size ≤ 256 := by omega
        have hTz3 : (B ++ textT s).size ≤ 256 * i + 256 := by rw [size_append]; omega
        rw [e] at CT
        have HE := Lib.hid e
        clear e hTz
        generalize textT s = T at *
        go_wp2_with (go_at_call 11; ((with_reducible refine (CT.out _).mono ?_); rintro e w2 ⟨rfl, hb2⟩; have HB2 := Lib.hid (acc HB.out hb2); clear hb2))
        go_roundg (gk - 1)
        case measure => omega
        case rel =>
          refine ⟨i + 1, B ++ T, by omega, by omega, by go_num, rfl, by omega, ?_, ?_, HB2⟩
          · show _ = _
            rw [data_append, HC.out, HSN.out]
          · intro j hj
            rcases Nat.lt_succ_iff_lt_or_eq.1 hj with h | rfl
            · exact HO.out j h
            · rw [HS.out]; exact HE.out
    · obtain rfl : i = n := by omega
      cases hn0 : B.toList.isEmpty
      · have hB1 : B.size ≠ 0 := fun e => by
          have : B.toList = [] := List.eq_nil_of_length_eq_zero (by rw [toList_length]; exact e)
          rw [this] at hn0
          cases hn0
        have hB2 : (!B.toList.isEmpty) = true := by rw [hn0]; rfl
        obtain ⟨K, hKB, hK⟩ := cut_place k B.size (by omega) (by omega)
        have hBpos : 0 < B.size := by omega
        have hall : atN zs i = B.size := by
          have e := atN_all zs
          rw [HN.out] at e
          rw [e, ← data_length, HC.out, ← HN.out, List.take_length]
        have HK := Lib.hid (show K < atN zs i by omega)
        have hR0 := rdAt_zero zs K B (by rw [HC.out, ← HN.out, List.take_length])
        have CF : Hid (∀ W, Calls Try.prog 16 #[.string (B.extract 0 K)] W fun e w' => e = .returned (.pointer (some ⟨W.heap.size, 0, none⟩)) ∧ Below W.heap.size W w' ∧ RdO w' W.heap.size (rdAt zs K 0)) := fun W => by
          rw [hR0]; exact from_any _ W
        have hKb : K ≤ 5120 := by omega
        clear hR0 hall
        obtain ⟨wo, rfl⟩ : ∃ wo : World, wo = wr := ⟨_, rfl⟩
        obtain ⟨gz, rfl⟩ : ∃ gz : Nat, gz = gk := ⟨_, rfl⟩
        go_upto_region 16 with fail
        refine (CF.out _).mono ?_
        rintro e w2 ⟨rfl, hb2, hR2⟩
        have HB2 := Lib.hid (acc HB.out hb2)
        have HR2 := Lib.hid hR2
        have HZ2 := Lib.hid HB.out.size
        clear hb2 hR2
        go_wp2
        clear hK hB1 hB2 hn0
        go_loopg [11, 12, 67] 21 (fun gh s11 s12 s67 wx => ∃ (j : Nat), j + gh = 21 ∧ j ≤ i ∧ s67 = .int .i64 j ∧ s11 = .int .i64 (atN zs j : Nat) ∧ s12 = .bool (decide (K < atN zs j)) ∧ atN zs j ≤ 256 * j ∧ Hid (RdO wx wo.heap.size (rdAt zs K j)) ∧ Hid (Gr wo.heap.size w2 wx))
        case atStart => exact ⟨0, by omega, by omega, rfl, by rw [atN_zero]; rfl, by rw [atN_zero]; simp, by rw [atN_zero]; omega, HR2, Gr.refl _ _⟩
        case round =>
          obtain ⟨j, hjg, hj, rfl, rfl, rfl, hat, HR, HG⟩ := hrel
          by_cases hlt2 : j < i
          · obtain ⟨rfl, hbw, hc⟩ := HT.out j hlt2
            have hBx : Below w.heap.size w wr := Gr.acc HB2.out HG.out HZ2.out
            have hc1 := (hBx.cell (p := ⟨ab, ao + j, none⟩) hbw).trans hc
            have hok := HO.out j hlt2
            have hs1 := atN_succ zs j (by rw [HN.out]; exact hlt2) hok
            have hsz := okText_le hok
            have CR := Lib.hid (rtext_any wo.heap.size (rdAt zs K j) wr HR.out (Nat.le_trans (rdAt_size zs K j) (by omega)))
            obtain ⟨s, hs⟩ : ∃ s, zs.getD j ByteArray.empty = s := ⟨_, rfl⟩
            have RI := Lib.hid (fun a => rdAt_in zs K j (by rw [HN.out]; exact hlt2) hok a)
            have RC := Lib.hid (fun a b => rdAt_cut zs K j (by rw [HN.out]; exact hlt2) hok a b)
            have RN := Lib.hid (fun a => rdAt_none zs K j a)
            have RM := Lib.hid (fun a => rdAt_none zs K (j + 1) a)
            rw [hs] at hc1 hs1 hsz RI
            have HSU := Lib.hid hs1
            clear hc hBx hs hok
            generalize rdAt zs K j = o at *
            generalize hp : rdAt zs K (j + 1) = p at *
            have HP := Lib.hid hp
            clear hp
            generalize ha0 : atN zs j = a0 at *
            have HA0 := Lib.hid ha0
            have hs2 : atN zs (j + 1) = a0 + (s.size + 1) := hs1
            by_cases h1 : a0 + (s.size + 1) ≤ K
            · obtain ⟨r1, r2⟩ := RI.out (by omega)
              rw [r1, r2] at CR
              have hso : p.isSome = true := by rw [← HP.out, rdAt, if_pos (by omega)]; rfl
              have CB : Hid (∀ W, RdO W wo.heap.size p → Calls Try.prog 23 #[.pointer (some ⟨wo.heap.size, 0, none⟩)] W fun e w' => e = .returned (.bool false) ∧ W = w') := fun W h => by
                have := rbad_any wo.heap.size p W h
                rw [hso] at this
                exact this
              have d1 : decide (K < a0) = false := by simp; omega
              have d2 : decide (K < atN zs (j + 1)) = false := by simp; omega
              have D2 := Lib.hid d2
              clear r1 r2 hso d2 hs1 hs2 ha0
              go_wp2_with (first
                | (go_at_call 19; ((with_reducible refine (CR.out).mono ?_); rintro e w3 ⟨rfl, hR3, hG3⟩; have HR3 := Lib.hid hR3; have HG3 := Lib.hid (HG.out.trans hG3); clear hR3 hG3))
                | (go_at_call 23; ((with_reducible refine (CB.out _ HR3.out).mono ?_); rintro e w4 ⟨rfl, rfl⟩)))
              go_roundg (gk - 1)
              case measure => omega
              case rel => exact ⟨j + 1, by omega, by omega, by go_num, by rw [HSU.out]; go_num, by rw [D2.out], by rw [HSU.out]; omega, by rw [HP.out]; exact HR3, HG3⟩
            · have hX : textO o = ByteArray.empty ∧ restT o = p := by
                have hpn : p = none := RM.out (by omega)
                rw [hpn]
                by_cases h0 : a0 ≤ K
                · exact RC.out (by omega) (by omega)
                · rw [RN.out (by omega)]; exact ⟨rfl, rfl⟩
              have hpn : p = none := RM.out (by omega)
              rw [hX.1, hX.2] at CR
              have CB : Hid (∀ W, RdO W wo.heap.size p → Calls Try.prog 23 #[.pointer (some ⟨wo.heap.size, 0, none⟩)] W fun e w' => e = .returned (.bool true) ∧ W = w') := fun W h => by
                have := rbad_any wo.heap.size p W h
                rw [hpn] at this
                exact this
              have d2 : decide (K < atN zs (j + 1)) = true := by simp; omega
              have D2 := Lib.hid d2
              have d3 : decide (K < a0 + (s.size + 1)) = true := by simp; omega
              have CR' : Hid (Calls Try.prog 19 #[.pointer (some ⟨wo.heap.size, 0, none⟩)] wr fun e w' => e = .returned (.string ⟨#[]⟩) ∧ RdO w' wo.heap.size p ∧ Gr wo.heap.size wr w') := CR
              clear hX hpn d2 hs1 hs2 ha0 CR
              generalize decide (K < a0) = bb at *
              go_wp2_with (first
                | (go_at_call 19; ((with_reducible refine (CR'.out).mono ?_); rintro e w3 ⟨rfl, hR3, hG3⟩; have HR3 := Lib.hid hR3; have HG3 := Lib.hid (HG.out.trans hG3); clear hR3 hG3))
                | (go_at_call 23; ((with_reducible refine (CB.out _ HR3.out).mono ?_); rintro e w4 ⟨rfl, rfl⟩)))
              go_roundg (gk - 1)
              case measure => omega
              case rel => exact ⟨j + 1, by omega, by omega, by go_num, by rw [HSU.out]; go_num, by rw [D2.out], by rw [HSU.out]; omega, by rw [HP.out]; exact HR3, HG3⟩
          · obtain rfl : j = i := by omega
            have hn : rdAt zs K j = none := rdAt_none zs K j HK.out
            rw [hn] at HR
            have CN := Lib.hid (fun W (h : RdO W wo.heap.size none) => rnum_any wo.heap.size none W h (by decide))
            have CW := Lib.hid (fun W (h : RdO W wo.heap.size none) => rwide_any wo.heap.size none W h (by decide))
            have CE := Lib.hid (fun W (h : RdO W wo.heap.size none) => n_end wo.heap.size W h)
            have CN' : Hid (∀ W, RdO W wo.heap.size none → Calls Try.prog 17 #[.pointer (some ⟨wo.heap.size, 0, none⟩)] W fun e w' => e = .returned (.int .i64 0) ∧ RdO w' wo.heap.size none ∧ Gr wo.heap.size W w') := CN
            have CW' : Hid (∀ W, RdO W wo.heap.size none → Calls Try.prog 21 #[.pointer (some ⟨wo.heap.size, 0, none⟩)] W fun e w' => e = .returned (.int .u64 0) ∧ RdO w' wo.heap.size none ∧ Gr wo.heap.size W w') := CW
            clear hn CN CW
            go_wp2_with (first
              | (go_at_call 24; ((with_reducible refine (CE.out _ HR.out).mono ?_); rintro e w3 ⟨rfl, rfl⟩))
              | (go_at_call 17; ((with_reducible refine (CN'.out _ HR.out).mono ?_); rintro e w4 ⟨rfl, hR4, hG4⟩; have HR4 := Lib.hid hR4; have HG4 := Lib.hid (HG.out.trans hG4); clear hR4 hG4))
              | (go_at_call 21; ((with_reducible refine (CW'.out _ HR4.out).mono ?_); rintro e w5 ⟨rfl, hR5, hG5⟩; have HG5 := Lib.hid (HG4.out.trans hG5); clear hR5 hG5)))
            go_ret
            exact ⟨rfl, Gr.acc HB2.out HG5.out HZ2.out⟩
      · have hB0 : B.toList = [] := List.isEmpty_iff.1 hn0
        clear hn0
        go_wp2_with (go_at_call 16; ((with_reducible refine (from_any _ _).mono ?_); rintro e w2 ⟨rfl, hb2, hR2⟩; have HB2 := Lib.hid (acc HB.out hb2); clear hb2 hR2))
        go_ret
        exact ⟨rfl, HB2.out⟩

theorem packCuts_walk (A : Option Addr) (c : Nat) (zs : List ByteArray) (k : Int) (w : World) (hm : zs.length ≤ 9223372036854775807) (hz : ∀ s ∈ zs, s.size ≤ 9223372036854775807) (hA : TextsAt w A zs) (hk0 : -9223372036854775808 ≤ k) (hk1 : k ≤ 9223372036854775807) :
    Calls Try.prog 5 #[.slice A zs.length c, .int .i64 k] w fun e w' => e = .returned (.bool true) ∧ Below w.heap.size w w' := by
  by_cases h : zs.length ≤ 20
  · exact packCuts_few A c zs k w h hz hA hk0 hk1
  · exact packCuts_many A c zs k w (by omega) hm

end Go.Proofs.Ytalccnmbpohllaa
