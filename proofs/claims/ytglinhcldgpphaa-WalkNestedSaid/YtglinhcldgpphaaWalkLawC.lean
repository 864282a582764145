/-
  The walk of WalkPlaces over ShelfLaws and WalkLaws. (Written by tools/genWPla.py.)
-/
import Derived.Test.YtglinhcldgpphaaWalkLawA
namespace Go.Proofs.Ytglinhcldgpphaa
open Go.RowKit

theorem OSW.items {SH : ShP} {SQ : SqP} {W w : World} {gs gr : Nat} {l : List Item} {fs : List (Value × Way)} (L : ShelfLaws SH) (K : WalkLaws SH SQ) (h : OSW SH SQ W w gs gr l fs) {n : Nat} (hn : l.length = n) :
    Calls Try.prog 30 #[.pointer (some ⟨gs, 0, none⟩)] w fun e w' => ∃ A c, e = .returned (.slice A (n : Nat) c) ∧ Row w' (.slice A l.length c) l ∧ OSW SH SQ W w' gs gr l fs := by
  subst hn
  have hh := h
  obtain ⟨a, F, Fr, b, _⟩ := h
  refine (L.items b).mono ?_
  rintro e w' ⟨A, c, rfl, z1, z2⟩
  exact ⟨A, c, rfl, own_mono z1 (Nat.zero_le _), hh.below L K z2⟩
theorem OSW.len {SH : ShP} {SQ : SqP} {W w : World} {gs gr : Nat} {l : List Item} {fs : List (Value × Way)} (L : ShelfLaws SH) (K : WalkLaws SH SQ) (h : OSW SH SQ W w gs gr l fs) {n : Nat} (hn : l.length = n) :
    Calls Try.prog 31 #[.pointer (some ⟨gs, 0, none⟩)] w fun e w' => e = .returned (.int .i64 (n : Nat)) ∧ OSW SH SQ W w' gs gr l fs ∧ Below w.heap.size w w' := by
  subst hn
  have hh := h
  obtain ⟨a, F, Fr, b, _⟩ := h
  refine (L.len b).mono ?_
  rintro e w' ⟨rfl, z⟩
  exact ⟨rfl, hh.below L K z, z⟩
theorem OSW.alloc {SH : ShP} {SQ : SqP} {W w : World} {gs gr : Nat} {l : List Item} {fs : List (Value × Way)} (L : ShelfLaws SH) (K : WalkLaws SH SQ) (h : OSW SH SQ W w gs gr l fs) (o : Obj) : OSW SH SQ W (w.alloc o) gs gr l fs := h.below L K ((Below.refl _ _).alloc (Nat.le_refl _) _)
theorem atV_in {l : List Item} {i : Nat} (h : i < l.length) : atV l (i : Nat) = .tuple #[.agg #[.string (l[i]).1, .string (l[i]).2], .bool true] := by
  unfold atV
  rw [if_pos (by omega), Int.toNat_natCast, List.getElem?_eq_getElem h]
theorem atV_end {l : List Item} {n : Nat} (h : l.length = n) : atV l (n : Nat) = .tuple #[.agg #[.string ⟨#[]⟩, .string ⟨#[]⟩], .bool false] := by
  unfold atV
  rw [if_pos (by omega), Int.toNat_natCast, List.getElem?_eq_none (by omega)]
theorem atV_minus (l : List Item) : atV l (-1) = .tuple #[.agg #[.string ⟨#[]⟩, .string ⟨#[]⟩], .bool false] := rfl

set_option maxRecDepth 100000 in
set_option maxHeartbeats 8000000 in
theorem walkPlaces_any {SH : ShP} {SQ : SqP} (L : ShelfLaws SH) (K : WalkLaws SH SQ) (A : Option Addr) (cc : Nat) (zs : List Item) (k : ByteArray) (W : World) (hA : ItemsAt W A zs) (hz : zs.length ≤ 9223372036854775807) (sk : k.size ≤ maxLen) :
    Calls Try.prog 8 #[.slice A zs.length cc, .string k] W fun e w' => e = .returned (.bool true) ∧ Below W.heap.size W w' := by
  have CA : Hid (∀ w, Calls Try.prog 12 #[] w fun e w' => e = .returned (.bool true) ∧ Below w.heap.size w w') := fun w => walkAlive_any L K w w (Below.refl _ _)
  obtain ⟨l, hl⟩ : ∃ l, fillL zs = l := ⟨_, rfl⟩
  have hlen : l.length ≤ 60 := by rw [← hl]; exact fillL_length zs
  have hls : ∀ x ∈ l, x.1.size ≤ 16 := by rw [← hl]; exact fillL_small zs
  have hri : Rising l := by rw [← hl]; exact (fillL_fine zs).1
  obtain ⟨n, hn⟩ : ∃ n, zs.length = n := ⟨_, rfl⟩
  have CF : Hid (∀ w, Below W.heap.size W w → Calls Try.prog 13 #[.slice A n cc] w fun e w' => ∃ gs gr, e = .returned (.tuple #[.pointer (some ⟨gs, 0, none⟩), .pointer (some ⟨gr, 0, none⟩)]) ∧ OSW SH SQ w w' gs gr l []) := fun w h => by
    have z := filledW (SQ := SQ) L A cc zs W w h hA hz hn
    rwa [hl] at z
  have HLS := Lib.hid hls
  have HRI := Lib.hid hri
  obtain ⟨N, hN⟩ : ∃ N, l.length = N := ⟨_, rfl⟩
  have HN := Lib.hid hN
  rw [hn] at hz ⊢
  rw [hN] at hlen
  unfold maxLen at sk
  clear hA hl hls hri hn hN
  by_cases c0 : 60 < n
  · have d0 : decide ((60 : Int) < (n : Int)) = true := by simp; omega
    clear CF
    go_enter Try.func8, Try.ntmps8
    go_wp2_with (go_at_call 12; (with_reducible refine (CA.out _).mono ?_); rintro e w1 ⟨rfl, h1⟩)
    go_ret
    exact ⟨rfl, h1⟩
  have d0 : decide ((60 : Int) < (n : Int)) = false := by simp; omega
  by_cases c1 : 40 < k.size
  · have d1 : decide ((40 : Int) < (k.size : Int)) = true := by simp; omega
    clear CF
    go_enter Try.func8, Try.ntmps8
    go_wp2_with (go_at_call 12; (with_reducible refine (CA.out _).mono ?_); rintro e w1 ⟨rfl, h1⟩)
    go_ret
    exact ⟨rfl, h1⟩
  have d1 : decide ((40 : Int) < (k.size : Int)) = false := by simp; omega
  have sk : k.size ≤ maxLen := by unfold maxLen; omega
  obtain ⟨P, hP⟩ : ∃ P, placeN l k = P := ⟨_, rfl⟩
  have HP : Hid ((l.filter fun x => lessB x.1 k).length = P) := (placeN_count HRI.out k).trans hP
  have CI : Hid (∀ V w gs gr, OSW SH SQ V w gs gr l [] → Calls Try.prog 30 #[.pointer (some ⟨gs, 0, none⟩)] w fun e w' => ∃ A c, e = .returned (.slice A (N : Nat) c) ∧ Row w' (.slice A l.length c) l ∧ OSW SH SQ V w' gs gr l []) := fun V w gs gr h => h.items L K HN.out
  have CL : Hid (∀ V w gs gr, OSW SH SQ V w gs gr l [] → Calls Try.prog 31 #[.pointer (some ⟨gs, 0, none⟩)] w fun e w' => e = .returned (.int .i64 (N : Nat)) ∧ OSW SH SQ V w' gs gr l [] ∧ Below w.heap.size w w') := fun V w gs gr h => h.len L K HN.out
  have CT1 : Hid (∀ V w gs gr, OSW SH SQ V w gs gr l [] → Calls Try.prog 14 #[.pointer (some ⟨gs, 0, none⟩), .int .i64 (N : Nat)] w fun e w' => e = .returned (.tuple #[.agg #[.string ⟨#[]⟩, .string ⟨#[]⟩], .bool false]) ∧ OSW SH SQ V w' gs gr l [] ∧ Below w.heap.size w w') := fun V w gs gr h => h.at_ L K (N : Nat) (by omega) (by omega) (atV_end HN.out)
  have CT2 : Hid (∀ V w gs gr, OSW SH SQ V w gs gr l [] → Calls Try.prog 14 #[.pointer (some ⟨gs, 0, none⟩), .int .i64 (-1)] w fun e w' => e = .returned (.tuple #[.agg #[.string ⟨#[]⟩, .string ⟨#[]⟩], .bool false]) ∧ OSW SH SQ V w' gs gr l [] ∧ Below w.heap.size w w') := fun V w gs gr h => h.at_ L K (-1) (by omega) (by omega) (atV_minus l)
  have CK : Hid (∀ V w gs gr, OSW SH SQ V w gs gr l [] → Calls Try.prog 18 #[.pointer (some ⟨gs, 0, none⟩), .string k] w fun e w' => e = .returned (.int .i64 (P : Nat)) ∧ OSW SH SQ V w' gs gr l [] ∧ Below w.heap.size w w') := fun V w gs gr h => h.rank L K k sk hP
  clear hP
  go_enter Try.func8, Try.ntmps8
  go_wp2_with (first
    | (go_at_call 12; (with_reducible refine (CA.out _).mono ?_); rintro e w1 ⟨rfl, h1⟩; have HB1 := Lib.hid h1; clear h1)
    | (go_at_call 13; (with_reducible refine (CF.out _ HB1.out).mono ?_); rintro e w2 ⟨gs, gr, rfl, h2⟩; have H2 := Lib.hid h2; clear h2)
    | (go_at_call 30; (with_reducible refine (CI.out _ _ _ _ H2.out).mono ?_); rintro e w3 ⟨A3, c3, rfl, hr, h3⟩; have H3 := Lib.hid h3; have HR := Lib.hid hr; clear h3 hr))
  clear H2 CF CI d0 d1
  go_loopg [7, 40] (N + 1) (fun gh s7 s40 wx => ∃ j p : Nat, j + gh = N + 1 ∧ j ≤ N ∧ p ≤ j ∧ s40 = .int .i64 (j : Nat) ∧ s7 = .int .i64 (p : Nat) ∧ Hid (((l.take j).filter fun x => lessB x.1 k).length = p) ∧ Hid (Row wx (.slice A3 l.length c3) l) ∧ Hid (OSW SH SQ w1 wx gs gr l []))
  case atStart => exact ⟨0, 0, by omega, by omega, by omega, rfl, rfl, (by simp : ((l.take 0).filter fun x => lessB x.1 k).length = 0), HR, H3⟩
  case round =>
    clear HR H3
    obtain ⟨j, p, hjg, hj, hpj, rfl, rfl, HC, HR, HS⟩ := hrel
    by_cases hlt : j < N
    · have hjl : j < l.length := by rw [HN.out]; exact hlt
      obtain ⟨q, rfl⟩ := HR.out.atBlock (by omega)
      have ck := (HR.out.cellAt (j * 2) (by omega)).trans (itemCells_get0 l j hjl)
      have cv := (HR.out.cellAt (j * 2 + 1) (by omega)).trans (itemCells_get1 l j hjl)
      have htk : l.take (j + 1) = l.take j ++ [l[j]] := by rw [List.take_add_one, List.getElem?_eq_getElem hjl]; rfl
      obtain ⟨x, hx⟩ : ∃ x, l[j] = x := ⟨_, rfl⟩
      rw [hx] at ck cv htk
      obtain ⟨xk, xv⟩ := x
      have ck : wr.cell? ⟨q, j * 2, none⟩ = some (.string xk) := ck
      have cv : wr.cell? ⟨q, j * 2 + 1, none⟩ = some (.string xv) := cv
      have hT : ((l.take (j + 1)).filter fun x => lessB x.1 k).length = p + (if lessB xk k = true then 1 else 0) := by
        rw [htk, List.filter_append, List.length_append, HC.out]
        simp only [List.filter_cons, List.filter_nil]
        split <;> rfl
      have HT := Lib.hid hT
      have HS2 := Lib.hid (HS.out.alloc L K (.cells #[.string xk, .string xv] 32))
      have HR2 : Hid (Row (wr.alloc (.cells #[.string xk, .string xv] 32)) (.slice (some ⟨q, 0, none⟩) l.length c3) l) := ((Touch.refl [] wr).alloc _).row HR.out (by simp)
      clear htk hx hjl hT
      cases e1 : Op.bytesLess xk.toList k.toList
      · have HE : Hid (lessB xk k = false) := e1
        go_wp2_with fail
        go_roundg (gk - 1)
        case measure => omega
        case rel => exact ⟨j + 1, p, by omega, by omega, by omega, by go_num, rfl, (HT.out.trans (by rw [HE.out]; rfl)), HR2, HS2⟩
      · have HE : Hid (lessB xk k = true) := e1
        go_wp2_with fail
        go_roundg (gk - 1)
        case measure => omega
        case rel => exact ⟨j + 1, p + 1, by omega, by omega, by omega, by go_num, by go_num, (HT.out.trans (by rw [HE.out]; rfl)), HR2, HS2⟩
    · obtain rfl : j = N := by omega
      have hpP : p = P := by
        have z := HC.out
        rw [List.take_of_length_le (by rw [HN.out]; omega)] at z
        exact z.symm.trans HP.out
      subst hpP
      have HS0 := HS
      clear HC HR hjg hj hlt HS
      go_wp2_with fail
      go_loopg [10] (j + 1) (fun gh s10 wx => ∃ i : Nat, i + gh = j + 1 ∧ i ≤ j ∧ s10 = .int .i64 (i : Nat) ∧ Hid (OSW SH SQ w1 wx gs gr l []))
      case atStart => exact ⟨0, by omega, by omega, rfl, HS0⟩
      case round =>
        clear HS0
        obtain ⟨i, hig, hi, rfl, HS⟩ := hrel
        by_cases hlt : i < j
        · have hil : i < l.length := by rw [HN.out]; exact hlt
          have hat := atV_in hil
          have hpl := placeN_at HRI.out hil
          have hks := HLS.out _ (List.getElem_mem hil)
          obtain ⟨x, hx⟩ : ∃ x, l[i] = x := ⟨_, rfl⟩
          rw [hx] at hat hpl hks
          obtain ⟨xk, xv⟩ := x
          have hpl : placeN l xk = i := hpl
          have hks : xk.size ≤ 16 := hks
          have CT : Hid (∀ V w gs gr, OSW SH SQ V w gs gr l [] → Calls Try.prog 14 #[.pointer (some ⟨gs, 0, none⟩), .int .i64 (i : Nat)] w fun e w' => e = .returned (.tuple #[.agg #[.string xk, .string xv], .bool true]) ∧ OSW SH SQ V w' gs gr l [] ∧ Below w.heap.size w w') := fun V w gs gr h => h.at_ L K (i : Nat) (by omega) (by omega) hat
          have CR : Hid (∀ V w gs gr, OSW SH SQ V w gs gr l [] → Calls Try.prog 18 #[.pointer (some ⟨gs, 0, none⟩), .string xk] w fun e w' => e = .returned (.int .i64 (i : Nat)) ∧ OSW SH SQ V w' gs gr l [] ∧ Below w.heap.size w w') := fun V w gs gr h => h.rank L K xk (by unfold maxLen; omega) hpl
          clear hat hpl hks hx hil
          go_wp2_with (first
            | (go_at_call 31; (with_reducible refine (CL.out _ _ _ _ HS.out).mono ?_); rintro e w4 ⟨rfl, h4, -⟩; have H4 := Lib.hid h4; clear h4)
            | (go_at_call 14; (with_reducible refine (CT.out _ _ _ _ H4.out).mono ?_); rintro e w5 ⟨rfl, h5, -⟩; have H5 := Lib.hid (h5.alloc L K (.cells #[.string xk, .string xv] 32)); clear h5)
            | (go_at_call 18; (with_reducible refine (CR.out _ _ _ _ H5.out).mono ?_); rintro e w6 ⟨rfl, h6, -⟩; have H6 := Lib.hid h6; clear h6))
          go_roundg (gk - 1)
          case measure => omega
          case rel => exact ⟨i + 1, by omega, by omega, by go_num, H6⟩
        · obtain rfl : i = j := by omega
          go_wp2_with (first
            | (go_at_call 31; (with_reducible refine (CL.out _ _ _ _ H4.out).mono ?_); rintro e w5 ⟨rfl, h5, -⟩; have H5 := Lib.hid h5; clear h5)
            | (go_at_call 31; (with_reducible refine (CL.out _ _ _ _ HS.out).mono ?_); rintro e w4 ⟨rfl, h4, -⟩; have H4 := Lib.hid h4; clear h4)
            | (go_at_call 14; (with_reducible refine (CT1.out _ _ _ _ H5.out).mono ?_); rintro e w6 ⟨rfl, h6, -⟩; have H6 := Lib.hid (h6.alloc L K (.cells #[.string ⟨#[]⟩, .string ⟨#[]⟩] 32)); clear h6)
            | (go_at_call 14; (with_reducible refine (CT2.out _ _ _ _ H6.out).mono ?_); rintro e w7 ⟨rfl, h7, -⟩; have H7 := Lib.hid (h7.alloc L K (.cells #[.string ⟨#[]⟩, .string ⟨#[]⟩] 32)); clear h7)
            | (go_at_call 18; (with_reducible refine (CK.out _ _ _ _ H7.out).mono ?_); rintro e w8 ⟨rfl, h8, -⟩; have H8 := Lib.hid h8; clear h8))
          go_ret
          exact ⟨rfl, acc HB1.out H8.out.1⟩
end Go.Proofs.Ytglinhcldgpphaa
