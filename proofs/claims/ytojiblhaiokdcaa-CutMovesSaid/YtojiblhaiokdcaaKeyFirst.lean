/-
  The walks of key.First and of the document's own answers Addr, Wide, First.
-/
import Derived.Test.YtojiblhaiokdcaaKeyWalks
namespace Go.Proofs.Ytojiblhaiokdcaa
open Go.RowKit


/-- one byte more comes up -/
theorem first_step {x k v : Nat} {out : List UInt8} (h8 : k ≤ 8) (hne : v ≠ 0) (h : v = x * 256 ^ k % 256 ^ 8 ∧ out ++ stripN (wideN (8 - k) x) = firstN x) :
    k < 8 ∧ v * 256 % 256 ^ 8 = x * 256 ^ (k + 1) % 256 ^ 8 ∧ (out ++ [UInt8.ofNat (v / 256 ^ 7)]) ++ stripN (wideN (8 - (k + 1)) x) = firstN x := by
  obtain ⟨hv, ho⟩ := h
  have hk : k < 8 := by
    rcases Nat.lt_or_ge k 8 with h | h
    · exact h
    · obtain rfl : k = 8 := by omega
      rw [Nat.mul_mod_left] at hv
      exact absurd hv hne
  obtain ⟨m, hm⟩ : ∃ m, k + m = 7 := ⟨7 - k, by omega⟩
  have e1 : 8 - k = m + 1 := by omega
  have e2 : 8 - (k + 1) = m := by omega
  have e3 : (256 : Nat) ^ 8 = 256 ^ (m + 1) * 256 ^ k := by rw [← Nat.pow_add]; congr 1; omega
  have e4 : (256 : Nat) ^ 7 = 256 ^ m * 256 ^ k := by rw [← Nat.pow_add]; congr 1; omega
  have hp : 0 < (256 : Nat) ^ k := Nat.pow_pos (by omega)
  have hv' : v = x % 256 ^ (m + 1) * 256 ^ k := by rw [hv, e3, Nat.mul_mod_mul_right]
  refine ⟨hk, ?_, ?_⟩
  · rw [hv, Nat.mod_mul_mod, Nat.mul_assoc, ← Nat.pow_succ]
  · rw [e1, stripN_wide_pos m x (fun e => hne (by rw [hv', e, Nat.zero_mul]))] at ho
    rw [e2, ← ho, List.append_assoc]
    congr 2
    have e5 : v / 256 ^ 7 = x / 256 ^ m % 256 := by
      rw [hv', e4, Nat.mul_div_mul_right _ _ hp, Nat.pow_succ, Nat.mod_mul_right_div_self]
    rw [e5]
    show UInt8.ofNat (x / 256 ^ m % 256) :: _ = _
    congr 1
    apply UInt8.toNat_inj.1
    simp
theorem first_none {x k : Nat} {out : List UInt8} (h8 : k ≤ 8) (h : 0 = x * 256 ^ k % 256 ^ 8 ∧ out ++ stripN (wideN (8 - k) x) = firstN x) : out = firstN x := by
  obtain ⟨hv, ho⟩ := h
  obtain ⟨m, hm⟩ : ∃ m, m + k = 8 := ⟨8 - k, by omega⟩
  have e1 : 8 - k = m := by omega
  have e3 : (256 : Nat) ^ 8 = 256 ^ m * 256 ^ k := by rw [← Nat.pow_add]; congr 1; omega
  have hp : 0 < (256 : Nat) ^ k := Nat.pow_pos (by omega)
  rw [e3, Nat.mul_mod_mul_right] at hv
  have h0 : x % 256 ^ m = 0 := by
    rcases Nat.mul_eq_zero.1 hv.symm with h | h
    · exact h
    · omega
  rw [e1, stripN_wide_zero m x h0, List.append_nil] at ho
  exact ho
theorem cell_of_nat {v : Nat} (h : v < 256) : Value.int .u8 (v : Int) = cell8 (UInt8.ofNat v) := by
  unfold cell8
  rw [show (UInt8.ofNat v).toNat = v by simp; omega]

set_option maxHeartbeats 400000 in
theorem first_any (x : Nat) (w : World) (hx : x < 18446744073709551616) :
    Calls Try.prog 47 #[.int .u64 x] w fun e w' => e = .returned (.string (txt (firstN x))) ∧ Below w.heap.size w w' := by
  obtain ⟨i0, hi, hz0, hz1, hz2⟩ := infoByte
  go_enter Try.func47, Try.ntmps47
  go_wp2
  go_loopg [0, 3] 9 (fun g s0 s3 wx => ∃ (k v : Nat) (out : List UInt8), k + g = 9 ∧ k ≤ 8 ∧ s0 = .int .u64 (v : Nat) ∧ Hid (v = x * 256 ^ k % 256 ^ 8 ∧ out ++ stripN (wideN (8 - k) x) = firstN x) ∧ Hid (out.length = k) ∧ wx.ownsRow w.heap.size 5 1 s3 k (out.map cell8) ∧ Below w.heap.size w wx)
  case atStart => exact ⟨0, x, [], by omega, by omega, rfl, ⟨by rw [Nat.pow_zero, Nat.mul_one, Nat.mod_eq_of_lt hx], rfl⟩, rfl, World.ownsRow_nil _ _ _ _, Below.refl _ _⟩
  case round =>
    obtain ⟨k, v, out, hkg, h8, rfl, HI, HL, hown, hbel⟩ := hrel
    have hv : v < 18446744073709551616 := by have := HI.out.1; omega
    by_cases h0 : v = 0
    · subst h0
      have ho := first_none h8 HI.out
      subst ho
      obtain ⟨A, c, rfl⟩ := own_slice hown
      have hstr := run_own_string (P := Try.prog) 57 9 hown Try.underlying57 Try.underlying5 Try.underlying9
      have HB := Lib.hid hbel
      clear hbel hown
      go_wp2
      go_ret
      exact ⟨rfl, HB.out⟩
    · have b0 : ((v : Int) != 0) = true := by rw [bne_iff_ne]; omega
      obtain ⟨hk, hv2, hout⟩ := first_step h8 h0 HI.out
      have HV := Lib.hid hv2
      have HO := Lib.hid hout
      have HK := Lib.hid hk
      clear h0 hv2 hout hk
      go_wp2_with (at_builtin; go_must (refine wpList_append_own _ rfl _ _ 57 rfl w.heap.size 5 i0 (.int .u8 0) 1 1 Try.underlying57 hi hz0 hz1 hz2 rfl (by decide) _ _ _ rfl (hown.alloc _) ⟨wr.heap.size, 0, none⟩ 1 1 [.int .u8 ((v : Int) / 72057594037927936)] rfl rfl (cell_one_new _ _ _) (fun x hx => by simp at hx; subst hx; rfl) (by unfold maxLen; omega) (by omega) (by have := hbel.size; simp; omega) ?_); intro v' w1 hown' hgrow hnil)
      go_roundg (gk - 1)
      case measure => omega
      case rel =>
        have hlt : v / 72057594037927936 < 256 := by omega
        refine ⟨k + 1, v * 256 % 256 ^ 8, out ++ [UInt8.ofNat (v / 256 ^ 7)], by have := HK.out; omega, HK.out, ?_, ⟨HV.out, HO.out⟩, by show _ = _; rw [List.length_append, HL.out]; rfl, ?_, (own_below (hown.alloc _) (hbel.alloc hbel.size _) (by have := hbel.size; simp; omega) hgrow)⟩
        · rw [IntKind.wrap_u64]; congr 1
        · rw [List.map_append, List.map_singleton, ← cell_of_nat (v := v / 256 ^ 7) hlt]; exact hown'

set_option maxHeartbeats 400000 in
theorem refAddr_any (s : ByteArray) (w : World) (_hs : s.size ≤ maxLen) :
    Calls Try.prog 17 #[.string s] w fun e w' => e = .returned (.int .u64 (addrN s : Nat)) ∧ w = w' := by
  unfold maxLen at _hs
  go_enter Try.func17, Try.ntmps17
  go_wp2
  go_loopg [3, 4] 9 (fun g s3 s4 wx => ∃ (k v : Nat), k + g = 9 ∧ k ≤ 8 ∧ s4 = .int .i64 k ∧ s3 = .int .u64 (v : Nat) ∧ Hid (v = accN s.data.toList k) ∧ w = wx)
  case atStart => exact ⟨0, 0, by omega, by omega, rfl, rfl, rfl, rfl⟩
  case round =>
    obtain ⟨k, v, hkg, h8, rfl, rfl, HV, rfl⟩ := hrel
    by_cases h2 : k < 8
    · have b2 : decide ((k : Int) < 8) = true := by simp; omega
      have hv : v < 72057594037927936 := by
        have h1 := accN_lt s.data.toList k
        have h3 : (256 : Nat) ^ k ≤ 256 ^ 7 := Nat.pow_le_pow_right (by omega) (by omega)
        have := HV.out
        omega
      by_cases h1 : k < s.size
      · have hb : s[k].toNat < 256 := s[k].toNat_lt
        have HS : Hid (v * 256 + s[k].toNat = accN s.data.toList (k + 1)) := by show _ = _; rw [accN, HV.out, byteAt_get (by rw [data_length]; exact h1)]; rfl
        go_wp2
        go_roundg (gk - 1)
        case measure => omega
        case rel => exact ⟨k + 1, _, by omega, by omega, by go_num, by go_num, HS.out, rfl⟩
      · have HS : Hid (v * 256 = accN s.data.toList (k + 1)) := by show _ = _; rw [accN, HV.out, byteAt_end (by rw [data_length]; omega), Nat.add_zero]
        go_wp2
        go_roundg (gk - 1)
        case measure => omega
        case rel => exact ⟨k + 1, _, by omega, by omega, by go_num, by go_num, HS.out, rfl⟩
    · have b2 : decide ((k : Int) < 8) = false := by simp; omega
      have e : v = addrN s := by
        obtain rfl : k = 8 := by omega
        exact HV.out
      rw [e]
      go_wp2
      go_ret
      exact ⟨rfl, rfl⟩

theorem wide_set (x m d : Nat) (h8 : m + 1 ≤ 8) (hd : d = x / 256 ^ (8 - (m + 1)) % 256) :
    List.replicate m (0 : UInt8) ++ wideN (8 - m) x = (List.replicate (m + 1) (0 : UInt8) ++ wideN (8 - (m + 1)) x).set m (UInt8.ofNat d) := by
  obtain ⟨k, hk⟩ : ∃ k, 8 - (m + 1) = k := ⟨_, rfl⟩
  have e : 8 - m = k + 1 := by omega
  rw [hk] at hd
  rw [hk, e, List.replicate_succ', List.append_assoc, List.set_append_right _ _ (by simp)]
  simp only [List.length_replicate, Nat.sub_self, List.singleton_append, List.set_cons_zero, wideN]
  congr 2
  apply UInt8.toNat_inj.1
  rw [hd]
  simp



end Go.Proofs.Ytojiblhaiokdcaa
