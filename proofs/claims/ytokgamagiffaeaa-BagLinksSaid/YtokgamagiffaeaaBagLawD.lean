/-
  BagLinks, walked: all packets are on the links that there are.
-/
import Derived.Test.YtokgamagiffaeaaBagLawC
namespace Go.Proofs.Ytokgamagiffaeaa
open Go.RowKit

theorem and3 (x : Int) : ∃ v : Nat, v < 4 ∧ bits .and .i64 x 3 = (v : Nat) := by
  refine ⟨(BitVec.ofInt 64 x &&& BitVec.ofInt 64 3).toNat, ?_, ?_⟩
  · rw [BitVec.toNat_and]
    have h3 : (BitVec.ofInt 64 3).toNat = 3 := by decide
    rw [h3]
    have := @Nat.and_le_right (BitVec.ofInt 64 x).toNat 3
    omega
  · have hlt : (BitVec.ofInt 64 x &&& BitVec.ofInt 64 3).toNat < 4 := by
      rw [BitVec.toNat_and]
      have h3 : (BitVec.ofInt 64 3).toNat = 3 := by decide
      rw [h3]
      have := @Nat.and_le_right (BitVec.ofInt 64 x).toNat 3
      omega
    show IntKind.i64.wrap _ = _
    rw [IntKind.wrap_i64]
    have : ((BitVec.ofInt IntKind.i64.bits x &&& BitVec.ofInt IntKind.i64.bits 3).toNat : Int) = ((BitVec.ofInt 64 x &&& BitVec.ofInt 64 3).toNat : Int) := rfl
    rw [this]
    omega
/-- the packet of a number: the link that its four lowest bits name -/
abbrev pkX (x : Int) : Pk := ⟨bits .and .i64 x 3, bits .and .i64 (x / 4) 3, 0, 0⟩
def xPk (zs : List Int) : List Pk := zs.map pkX
theorem xPk_len (zs : List Int) : (xPk zs).length = zs.length := by simp [xPk]
theorem xPk_snoc {zs : List Int} {j : Nat} {x : Int} (h : zs[j]? = some x) : xPk (zs.take j) ++ [pkX x] = xPk (zs.take (j + 1)) := by
  rw [List.take_add_one, h, xPk, xPk, List.map_append]; rfl
/-- how many go on the first k of the sixteen links -/
def tot (ps : List Pk) (k : Nat) : Nat := ((List.range k).map fun r => onN ps ((r / 4 : Nat) : Int) ((r % 4 : Nat) : Int)).sum
theorem tot_zero (ps : List Pk) : tot ps 0 = 0 := rfl
theorem tot_step (ps : List Pk) (i j : Nat) (h : j < 4) : tot ps (i * 4 + j + 1) = tot ps (i * 4 + j) + onN ps (i : Int) (j : Int) := by
  rw [tot, List.range_succ, List.map_append, List.sum_append]
  simp only [List.map_cons, List.map_nil, List.sum_cons, List.sum_nil, Nat.add_zero, tot]
  rw [show (i * 4 + j) / 4 = i by omega, show (i * 4 + j) % 4 = j by omega]
theorem onN_cons (p : Pk) (ps : List Pk) (f t : Int) : onN (p :: ps) f t = (if onP f t p = true then 1 else 0) + onN ps f t := by
  rw [onN, List.filter_cons]
  split
  · rw [List.length_cons, onN]; omega
  · rw [onN]; omega
theorem tot16 (ps : List Pk) : tot ps 16 = onN ps 0 0 + onN ps 0 1 + onN ps 0 2 + onN ps 0 3 + (onN ps 1 0 + onN ps 1 1 + onN ps 1 2 + onN ps 1 3) + (onN ps 2 0 + onN ps 2 1 + onN ps 2 2 + onN ps 2 3) + (onN ps 3 0 + onN ps 3 1 + onN ps 3 2 + onN ps 3 3) := by
  have e : tot ps 16 = [onN ps 0 0, onN ps 0 1, onN ps 0 2, onN ps 0 3, onN ps 1 0, onN ps 1 1, onN ps 1 2, onN ps 1 3, onN ps 2 0, onN ps 2 1, onN ps 2 2, onN ps 2 3, onN ps 3 0, onN ps 3 1, onN ps 3 2, onN ps 3 3].sum := rfl
  rw [e]
  simp only [List.sum_cons, List.sum_nil]
  omega
theorem onP_nat (a b c d : Nat) (s t : Int) : onP (c : Int) (d : Int) ⟨(a : Int), (b : Int), s, t⟩ = (a == c && b == d) := by
  simp only [onP]
  congr 1
  · rw [Bool.eq_iff_iff]; simp; omega
  · rw [Bool.eq_iff_iff]; simp; omega
theorem tot_all (ps : List Pk) (h : ∀ p ∈ ps, ∃ a b : Nat, a < 4 ∧ b < 4 ∧ p.f = (a : Nat) ∧ p.t = (b : Nat)) : tot ps 16 = ps.length := by
  induction ps with
  | nil => rfl
  | cons p ps ih =>
    have ih := ih (fun x hx => h x (List.mem_cons_of_mem _ hx))
    obtain ⟨a, b, ha, hb, hf, ht⟩ := h p (by simp)
    rw [tot16] at ih ⊢
    simp only [onN_cons]
    have e : ∀ c d : Nat, onP (c : Int) (d : Int) p = (a == c && b == d) := fun c d => by
      obtain ⟨f, t, s, u⟩ := p
      simp only at hf ht
      subst hf ht
      exact onP_nat a b c d s u
    have e00 := e 0 0
    have e01 := e 0 1
    have e02 := e 0 2
    have e03 := e 0 3
    have e10 := e 1 0
    have e11 := e 1 1
    have e12 := e 1 2
    have e13 := e 1 3
    have e20 := e 2 0
    have e21 := e 2 1
    have e22 := e 2 2
    have e23 := e 2 3
    have e30 := e 3 0
    have e31 := e 3 1
    have e32 := e 3 2
    have e33 := e 3 3
    simp only [Int.cast_ofNat_Int] at e00 e01 e02 e03 e10 e11 e12 e13 e20 e21 e22 e23 e30 e31 e32 e33
    rw [e00, e01, e02, e03, e10, e11, e12, e13, e20, e21, e22, e23, e30, e31, e32, e33, List.length_cons]
    have ha' : a = 0 ∨ a = 1 ∨ a = 2 ∨ a = 3 := by omega
    have hb' : b = 0 ∨ b = 1 ∨ b = 2 ∨ b = 3 := by omega
    rcases ha' with rfl | rfl | rfl | rfl <;> rcases hb' with rfl | rfl | rfl | rfl <;> simp <;> omega
theorem xPk_links (zs : List Int) : ∀ p ∈ xPk zs, ∃ a b : Nat, a < 4 ∧ b < 4 ∧ p.f = (a : Nat) ∧ p.t = (b : Nat) := by
  intro p hp
  obtain ⟨x, _, rfl⟩ := List.mem_map.1 hp
  obtain ⟨a, ha, ea⟩ := and3 x
  obtain ⟨b, hb, eb⟩ := and3 (x / 4)
  exact ⟨a, b, ha, hb, ea, eb⟩
theorem on_none (zs : List Int) : onN (xPk zs) 9 9 = 0 := by
  rw [onN, List.length_eq_zero_iff, List.filter_eq_nil_iff]
  intro p hp
  obtain ⟨a, b, ha, hb, e1, e2⟩ := xPk_links zs p hp
  simp only [onP, e1, Bool.and_eq_true, beq_iff_eq, not_and]
  omega
theorem tot_le (ps : List Pk) : ∀ k, tot ps k ≤ k * ps.length
  | 0 => Nat.zero_le _
  | k + 1 => by
    have h := tot_le ps k
    have e : tot ps (k + 1) = tot ps k + onN ps ((k / 4 : Nat) : Int) ((k % 4 : Nat) : Int) := by
      rw [tot, List.range_succ, List.map_append, List.sum_append]
      simp [tot]
    rw [e, Nat.add_mul]
    have := onN_le ps ((k / 4 : Nat) : Int) ((k % 4 : Nat) : Int)
    omega

set_option maxRecDepth 20000 in
set_option maxHeartbeats 8000000 in
theorem bagLinksGo (LA : Option Addr) (lc : Nat) (zs : List Int) (W : World) (hz : zs.length ≤ 60) (hL : IntsAt W LA .i64 zs) (hzb : ∀ x ∈ zs, -9223372036854775808 ≤ x ∧ x ≤ 9223372036854775807) :
    Calls Try.prog 6 #[.slice LA zs.length lc] W fun e w' => e = .returned (.bool true) ∧ Below W.heap.size W w' := by
  have CA := Lib.hid aliveC
  have CN := Lib.hid (fun w h => new100 W w [] h (by simp))
  have CP : Hid (∀ w g (j : Nat) (x : Int), zs[j]? = some x → BX W w [] g 100 (xPk (zs.take j)) → Calls Try.prog 10 #[.pointer (some ⟨g, 0, none⟩), .agg (Pk.mk (bits .and .i64 x 3) (bits .and .i64 (x / 4) 3) 0 0).cells] w fun e w' => e = .returned (.bool true) ∧ BX W w' [] g 100 (xPk (zs.take (j + 1)))) := fun w g j x hx h =>
    (h.put (pkX x) (by have := (List.getElem?_eq_some_iff.1 hx).1; rw [xPk_len, List.length_take]; omega)).mono fun e w' ⟨h1, h2, _⟩ => ⟨h1, by rw [← xPk_snoc hx]; exact h2⟩
  have HT16 : Hid (tot (xPk zs) 16 = zs.length) := by show tot (xPk zs) 16 = zs.length; rw [tot_all _ (xPk_links zs), xPk_len]
  have HTLE : Hid (∀ k, k ≤ 16 → tot (xPk zs) k ≤ 960) := fun k hk => by
    have := tot_le (xPk zs) k
    rw [xPk_len] at this
    have h2 : k * zs.length ≤ 16 * 60 := Nat.mul_le_mul hk hz
    omega
  obtain ⟨m, hm⟩ : ∃ m, zs.length = m := ⟨_, rfl⟩
  have HM := Lib.hid hm
  rw [hm] at hz ⊢
  clear hm
  have HLI := Lib.hid hL
  have HZB := Lib.hid hzb
  clear hL hzb
  have d3 : decide (60 < (m : Int)) = false := by simp; omega
  go_enter Try.func6, Try.ntmps6
  go_wp2_with (first
    | (go_at_call 8; (with_reducible refine (CA.out _).mono ?_); rintro e w1 ⟨rfl, h1⟩; have H1 := Lib.hid h1; clear h1)
    | (go_at_call 9; (with_reducible refine (CN.out _ H1.out).mono ?_); rintro e w2 ⟨rfl, h2, _⟩; have H2 := Lib.hid h2; clear h2))
  obtain ⟨g, hg⟩ : ∃ g, w1.heap.size = g := ⟨_, rfl⟩
  rw [hg] at H2 ⊢
  clear hg H1
  go_loopg [22] (m + 1) (fun gh s22 wx => ∃ j : Nat, j + gh = m + 1 ∧ j ≤ m ∧ s22 = .int .i64 (j : Nat) ∧ Hid (BX W wx [] g 100 (xPk (zs.take j))))
  case atStart => exact ⟨0, by omega, by omega, rfl, H2.out⟩
  case round =>
    obtain ⟨j, hjg, hj, rfl, HX⟩ := hrel
    by_cases hlt : j < m
    · obtain ⟨lb, lo, hla⟩ := HLI.out.below HX.out.1
      obtain ⟨e1, e2, e3⟩ := hla j (by rw [HM.out]; exact hlt)
      obtain ⟨x, hx⟩ : ∃ x, zs.getD j 0 = x := ⟨_, rfl⟩
      have hx' : zs[j]? = some x := by rw [← hx, List.getD_eq_getElem?_getD, List.getElem?_eq_getElem (by rw [HM.out]; exact hlt)]; rfl
      have hxb := HZB.out x (List.mem_of_getElem? hx')
      rw [hx] at e3
      subst e1
      have cp := Lib.hid (CP.out wr g j x hx' HX.out)
      clear hla hx hx'
      go_wp2_with (go_at_call 10; (with_reducible refine (cp.out).mono ?_); rintro e w3 ⟨rfl, h3⟩; have H3 := Lib.hid h3; clear h3)
      go_roundg (gk - 1)
      case measure => omega
      case rel => exact ⟨j + 1, by omega, by omega, by go_num, H3⟩
    · obtain rfl : j = m := by omega
      have HX2 : Hid (BX W wr [] g 100 (xPk zs)) := by have h := HX.out; rw [List.take_of_length_le (by rw [HM.out]; exact Nat.le_refl _)] at h; exact h
      have HE := HT16.out
      rw [HM.out] at HE
      have HEE := Lib.hid HE
      clear HX HLI HZB CA CN CP H2 HE
      go_wp2_with fail
      go_loopg [6, 7, 8] 5 (fun gh s6 s7 s8 wx => ∃ i : Nat, i + gh = 5 ∧ i ≤ 4 ∧ s6 = .int .i64 (tot (xPk zs) (i * 4) : Nat) ∧ s7 = .int .i64 (i : Nat) ∧ Hid (BX W wx [] g 100 (xPk zs)))
      case atStart => exact ⟨0, by omega, by omega, rfl, rfl, HX2.out⟩
      case round =>
        clear hjg hj hlt HX2
        obtain ⟨i, hig, hi, rfl, rfl, HX⟩ := hrel
        by_cases hlt : i < 4
        · have d4 : decide ((i : Int) < 4) = true := by simp; omega
          go_wp2_with fail
          obtain ⟨wo, rfl⟩ : ∃ wo : World, wo = wr := ⟨_, rfl⟩
          go_loopg [6, 8] 5 (fun gh s6 s8 wx => ∃ j : Nat, j + gh = 5 ∧ j ≤ 4 ∧ s6 = .int .i64 (tot (xPk zs) (i * 4 + j) : Nat) ∧ s8 = .int .i64 (j : Nat) ∧ Hid (BX W wx [] g 100 (xPk zs)))
          case atStart => exact ⟨0, by omega, by omega, rfl, rfl, HX.out⟩
          case round =>
            clear HX
            obtain ⟨j, hjg, hj, rfl, rfl, HX⟩ := hrel
            by_cases hlt2 : j < 4
            · have hst := tot_step (xPk zs) i j hlt2
              have hb := HTLE.out (i * 4 + j + 1) (by omega)
              have co := Lib.hid (HX.out.on (i : Int) (j : Int))
              obtain ⟨T, hT⟩ : ∃ T, tot (xPk zs) (i * 4 + j) = T := ⟨_, rfl⟩
              obtain ⟨O, hO⟩ : ∃ O, onN (xPk zs) (i : Int) (j : Int) = O := ⟨_, rfl⟩
              rw [hT, hO] at hst
              rw [hst] at hb
              rw [hO] at co
              rw [hT]
              have HST := Lib.hid hst
              clear hT hO hst
              have hz1 : IntKind.i64.wrap ((T : Int) + (O : Int)) = (T : Int) + (O : Int) := by rw [IntKind.wrap_i64]; omega
              go_wp2_with (go_at_call 17; (with_reducible refine (co.out).mono ?_); rintro e w5 ⟨rfl, h5, _⟩; have H5 := Lib.hid h5; clear h5)
              go_roundg (4 - j)
              case measure => omega
              case rel => exact ⟨j + 1, by omega, by omega, by rw [← Nat.add_assoc, HST.out]; rfl, by go_num, H5⟩
            · obtain rfl : j = 4 := by omega
              have HX3 := HX
              clear HX
              go_wp2_with fail
              go_roundg (4 - i)
              case measure => omega
              case rel => exact ⟨i + 1, by omega, by omega, by rw [Nat.add_mul], by go_num, HX3⟩
        · obtain rfl : i = 4 := by omega
          have he : tot (xPk zs) (4 * 4) = j := HEE.out
          rw [he]
          have cl : Hid (Calls Try.prog 11 #[.pointer (some ⟨g, 0, none⟩)] wr fun e w' => e = .returned (.int .i64 (j : Nat)) ∧ w' = wr) := HX.out.len (by rw [xPk_len, HM.out])
          have co : Hid (Calls Try.prog 17 #[.pointer (some ⟨g, 0, none⟩), .int .i64 9, .int .i64 9] wr fun e w' => e = .returned (.int .i64 0) ∧ Below W.heap.size W w') := (HX.out.on 9 9).mono fun e w' ⟨h1, h2, _⟩ => ⟨by rw [h1, on_none]; rfl, h2.1⟩
          clear HX he
          go_wp2_with (first
            | (go_at_call 11; (with_reducible refine (cl.out).mono ?_); rintro e w6 ⟨rfl, rfl⟩)
            | (go_at_call 17; (with_reducible refine (co.out).mono ?_); rintro e w7 ⟨rfl, h7⟩; have H7 := Lib.hid h7; clear h7))
          go_ret
          exact ⟨rfl, H7.out⟩
theorem bagLinks_any (LA : Option Addr) (lc : Nat) (zs : List Int) (W : World) (hm : zs.length ≤ 9223372036854775807) (hL : IntsAt W LA .i64 zs) (hzb : ∀ x ∈ zs, -9223372036854775808 ≤ x ∧ x ≤ 9223372036854775807) :
    Calls Try.prog 6 #[.slice LA zs.length lc] W fun e w' => e = .returned (.bool true) ∧ Below W.heap.size W w' := by
  by_cases bad : 60 < zs.length
  · have CA := Lib.hid aliveC
    obtain ⟨m, hm'⟩ : ∃ m, zs.length = m := ⟨_, rfl⟩
    rw [hm'] at bad hm ⊢
    clear hL hzb hm'
    have d2 : decide (60 < (m : Int)) = true := by simp; omega
    go_enter Try.func6, Try.ntmps6
    go_wp2_with (go_at_call 8; (with_reducible refine (CA.out _).mono ?_); rintro e w1 ⟨rfl, h1⟩)
    go_ret
    exact ⟨rfl, h1⟩
  · exact bagLinksGo LA lc zs W (by omega) hL hzb
end Go.Proofs.Ytokgamagiffaeaa
