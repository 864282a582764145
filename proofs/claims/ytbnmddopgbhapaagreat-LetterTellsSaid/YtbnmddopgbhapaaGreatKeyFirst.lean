/-
  The walks of key.First and of the document's own answers Addr, Wide, First.
-/
import Derived.Test.YtbnmddopgbhapaaGreatKeyWalks
namespace Go.Proofs.YtbnmddopgbhapaaGreat
open Go.RowKit


/-- one byte more comes up -/
theorem first_step {x k v : Nat} {out : List UInt8} (h8 : k ≤ 8) (hne : v ≠ 0) (h : v = x * 256 ^ k % 256 ^ 8 ∧ out ++ stripN (wideN (8 - k) x) = firstN x) :
    k < 8 ∧ v * 256 % 256 ^ 8 = x * 256 ^ (k + 1) % 256 ^ 8 ∧ (out ++ [UInt8.ofNat (v / 256 ^ 7)]) ++ stripN (wideN (8 - (k + 1)) x) = firstN x := by
  obtain ⟨hv, ho⟩ := h
  have hk : k < 8 := by
    rcases Nat.lt_or_ge k 8 with h | h
    · exact h
    · obtain rfl : k = 8 := by omega
      rw [Nat.mul_mod_left] at hv
      exact absurd hv hne
  obtain ⟨m, hm⟩ : ∃ m, k + m = 7 := ⟨7 - k, by omega⟩
  have e1 : 8 - k = m + 1 := by omega
  have e2 : 8 - (k + 1) = m := by omega
  have e3 : (256 : Nat) ^ 8 = 256 ^ (m + 1) * 256 ^ k := by rw [← Nat.pow_add]; congr 1; omega
  have e4 : (256 : Nat) ^ 7 = 256 ^ m * 256 ^ k := by rw [← Nat.pow_add]; congr 1; omega
  have hp : 0 < (256 : Nat) ^ k := Nat.pow_pos (by omega)
  have hv' : v = x % 256 ^ (m + 1) * 256 ^ k := by rw [hv, e3, Nat.mul_mod_mul_right]
  refine ⟨hk, ?_, ?_⟩
  · rw [hv, Nat.mod_mul_mod, Nat.mul_assoc, ← Nat.pow_succ]
  · rw [e1, stripN_wide_pos m x (fun e => hne (by rw [hv', e, Nat.zero_mul]))] at ho
    rw [e2, ← ho, List.append_assoc]
    congr 2
    have e5 : v / 256 ^ 7 = x / 256 ^ m % 256 := by
      rw [hv', e4, Nat.mul_div_mul_right _ _ hp, Nat.pow_succ, Nat.mod_mul_right_div_self]
    rw [e5]
    show UInt8.ofNat (x / 256 ^ m % 256) :: _ = _
    congr 1
    apply UInt8.toNat_inj.1
    simp
theorem first_none {x k : Nat} {out : List UInt8} (h8 : k ≤ 8) (h : 0 = x * 256 ^ k % 256 ^ 8 ∧ out ++ stripN (wideN (8 - k) x) = firstN x) : out = firstN x := by
  obtain ⟨hv, ho⟩ := h
  obtain ⟨m, hm⟩ : ∃ m, m + k = 8 := ⟨8 - k, by omega⟩
  have e1 : 8 - k = m := by omega
  have e3 : (256 : Nat) ^ 8 = 256 ^ m * 256 ^ k := by rw [← Nat.pow_add]; congr 1; omega
  have hp : 0 < (256 : Nat) ^ k := Nat.pow_pos (by omega)
  rw [e3, Nat.mul_mod_mul_right] at hv
  have h0 : x % 256 ^ m = 0 := by
    rcases Nat.mul_eq_zero.1 hv.symm with h | h
    · exact h
    · omega
  rw [e1, stripN_wide_zero m x h0, List.append_nil] at ho
  exact ho
theorem cell_of_nat {v : Nat} (h : v < 256) : Value.int .u8 (v : Int) = cell8 (UInt8.ofNat v) := by
  unfold cell8
  rw [show (UInt8.ofNat v).toNat = v by simp; omega]


set_option maxHeartbeats 400000 in
theorem refAddr_any (s : ByteArray) (w : World) (_hs : s.size ≤ maxLen) :
    Calls Tryz.prog 88 #[.string s] w fun e w' => e = .returned (.int .u64 (addrN s : Nat)) ∧ w = w' := by
  unfold maxLen at _hs
  go_enter Tryz.func88, Tryz.ntmps88
  go_wp2
  go_loopg [3, 4] 9 (fun g s3 s4 wx => ∃ (k v : Nat), k + g = 9 ∧ k ≤ 8 ∧ s4 = .int .i64 k ∧ s3 = .int .u64 (v : Nat) ∧ Hid (v = accN s.data.toList k) ∧ w = wx)
  case atStart => exact ⟨0, 0, by omega, by omega, rfl, rfl, rfl, rfl⟩
  case round =>
    obtain ⟨k, v, hkg, h8, rfl, rfl, HV, rfl⟩ := hrel
    by_cases h2 : k < 8
    · have b2 : decide ((k : Int) < 8) = true := by simp; omega
      have hv : v < 72057594037927936 := by
        have h1 := accN_lt s.data.toList k
        have h3 : (256 : Nat) ^ k ≤ 256 ^ 7 := Nat.pow_le_pow_right (by omega) (by omega)
        have := HV.out
        omega
      by_cases h1 : k < s.size
      · have hb : s[k].toNat < 256 := s[k].toNat_lt
        have HS : Hid (v * 256 + s[k].toNat = accN s.data.toList (k + 1)) := by show _ = _; rw [accN, HV.out, byteAt_get (by rw [data_length]; exact h1)]; rfl
        go_wp2
        go_roundg (gk - 1)
        case measure => omega
        case rel => exact ⟨k + 1, _, by omega, by omega, by go_num, by go_num, HS.out, rfl⟩
      · have HS : Hid (v * 256 = accN s.data.toList (k + 1)) := by show _ = _; rw [accN, HV.out, byteAt_end (by rw [data_length]; omega), Nat.add_zero]
        go_wp2
        go_roundg (gk - 1)
        case measure => omega
        case rel => exact ⟨k + 1, _, by omega, by omega, by go_num, by go_num, HS.out, rfl⟩
    · have b2 : decide ((k : Int) < 8) = false := by simp; omega
      have e : v = addrN s := by
        obtain rfl : k = 8 := by omega
        exact HV.out
      rw [e]
      go_wp2
      go_ret
      exact ⟨rfl, rfl⟩

theorem wide_set (x m d : Nat) (h8 : m + 1 ≤ 8) (hd : d = x / 256 ^ (8 - (m + 1)) % 256) :
    List.replicate m (0 : UInt8) ++ wideN (8 - m) x = (List.replicate (m + 1) (0 : UInt8) ++ wideN (8 - (m + 1)) x).set m (UInt8.ofNat d) := by
  obtain ⟨k, hk⟩ : ∃ k, 8 - (m + 1) = k := ⟨_, rfl⟩
  have e : 8 - m = k + 1 := by omega
  rw [hk] at hd
  rw [hk, e, List.replicate_succ', List.append_assoc, List.set_append_right _ _ (by simp)]
  simp only [List.length_replicate, Nat.sub_self, List.singleton_append, List.set_cons_zero, wideN]
  congr 2
  apply UInt8.toNat_inj.1
  rw [hd]
  simp

set_option maxRecDepth 20000 in
set_option maxHeartbeats 400000 in
theorem refWide_any (x : Nat) (w : World) (hx : x < 18446744073709551616) :
    Calls Tryz.prog 25 #[.int .u64 x] w fun e w' => e = .returned (.string (txt (wideN 8 x))) ∧ Below w.heap.size w w' := by
  obtain ⟨i0, hi, hz0, hz1, hz2⟩ := infoByte
  obtain ⟨w1, hmk, hown0, hg0⟩ := run_make_full (P := Tryz.prog) (w := w) w.heap.size 91 5 i0 (.int .u8 0) 1 Tryz.underlying91 hi hz0 hz1 .i64 .i64 8 (by rw [hz2]; omega) (by unfold maxLen; omega) (Nat.le_refl _)
  have hb0 := (Below.refl w.heap.size w).grown hg0 (Nat.le_refl _) (by simp)
  have hl0 : (madeCells (Value.int .u8 0).cells (8 * 1)).toList = (List.replicate 8 (0 : UInt8)).map cell8 := by
    rw [show (Value.int .u8 0).cells = #[.int .u8 0] from rfl, toList_madeCells_one]
    simp [cell8]
  rw [hl0] at hown0
  clear hl0
  have hmk8 : (Instr.makeSlice 91 (.int .i64 8) (.int .i64 8)).run Tryz.prog w = .ok (.slice (some ⟨w.heap.size, 0, none⟩) 8 8) w1 := hmk
  clear hmk
  go_enter Tryz.func25, Tryz.ntmps25
  go_wp2
  clear hmk8
  go_loopg [0, 4] 9 (fun g s0 s4 wx => ∃ (j v : Nat), j + 1 = g ∧ j ≤ 8 ∧ s4 = .int .i64 ((j : Int) - 1) ∧ s0 = .int .u64 (v : Nat) ∧ Hid (v = x / 256 ^ (8 - j)) ∧ wx.ownsRow w.heap.size 5 1 (.slice (some ⟨w.heap.size, 0, none⟩) 8 8) 8 ((List.replicate j 0 ++ wideN (8 - j) x).map cell8) ∧ Below w.heap.size w wx)
  case atStart => exact ⟨8, x, by omega, by omega, rfl, rfl, by show _ = _; simp, by simpa [wideN] using hown0, hb0⟩
  case round =>
    obtain ⟨j, v, rfl, h8, rfl, rfl, HV, hown, hbel⟩ := hrel
    have hv : v < 18446744073709551616 := by
      have := HV.out
      have := Nat.div_le_self x (256 ^ (8 - j))
      omega
    cases j with
    | zero =>
      have hstr := run_own_string (P := Tryz.prog) 91 9 hown Tryz.underlying91 Tryz.underlying5 Tryz.underlying9
      have HB := Lib.hid hbel
      clear hbel hown
      go_wp2
      go_ret
      exact ⟨rfl, HB.out⟩
    | succ m =>
      have e1 : (((m + 1 : Nat) : Int) - 1) = (m : Int) := by omega
      rw [e1]
      have hlen : (List.replicate (m + 1) (0 : UInt8) ++ wideN (8 - (m + 1)) x).length = 8 := by rw [List.length_append, List.length_replicate, wideN_length]; omega
      have hc := hown.cellAt m (by omega)
      have hf := hown.frozenAt m
      have hg : ((List.replicate (m + 1) (0 : UInt8) ++ wideN (8 - (m + 1)) x).map cell8)[m]? = some (.int .u8 0) := by
        rw [List.getElem?_map, List.getElem?_append_left (by simp), List.getElem?_replicate, if_pos (by omega)]; rfl
      rw [hg] at hc
      obtain ⟨d, hd, hd2, HD⟩ : ∃ d : Nat, bits .and .u64 (v : Int) 255 = (d : Int) ∧ d < 256 ∧ Hid (d = v % 256) := by
        refine ⟨v % 256, ?_, Nat.mod_lt _ (by omega), rfl⟩
        rw [show (255 : Int) = ((255 : Nat) : Int) from rfl, u64_and_nat v 255 hv (by omega)]
        congr 1
        exact Nat.and_two_pow_sub_one_eq_mod v 8
      have hst := hown.stored m (cell8 (UInt8.ofNat d))
      have HL := Lib.hid hlen
      clear hlen hg
      go_wp2
      go_roundg (m + 1)
      case measure => omega
      case rel =>
        refine ⟨m, v / 256, by omega, by omega, rfl, by go_num, ?_, ?_, ?_⟩
        · show _ = _
          have := HV.out
          rw [this, Nat.div_div_eq_div_mul, ← Nat.pow_succ]
          congr 2
          omega
        · have e2 := wide_set x m d (by omega) (by rw [HD.out, HV.out])
          rw [e2, cell_of_nat hd2, List.map_set]
          exact hst.1
        · exact hbel.setCell (Nat.le_refl _) _


end Go.Proofs.YtbnmddopgbhapaaGreat
