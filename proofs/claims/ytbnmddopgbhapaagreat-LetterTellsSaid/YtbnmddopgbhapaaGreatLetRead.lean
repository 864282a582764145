/-
  Package letter's read, walked: fields, whatever they are, read one behind the other, up to the first one that is not right, or not all there.
-/
import Derived.Test.YtbnmddopgbhapaaGreatLetItemsPut
namespace Go.Proofs.YtbnmddopgbhapaaGreat
open Go.RowKit

/-- the field f, asked in w to read from the Reader in block g -/
def GetsTo (w : World) (g : Nat) (f : Value) (Yes No : World → Prop) : Prop :=
  ∃ (T : TypeId) (x : Value) (i : FuncId), f = .iface T x ∧ (∀ w, (nilAhead 282 T x "rosary/letter.get").run Tryz.prog w = .ok (some false) w) ∧ (∀ w, (method 282 T x "rosary/letter.get").run Tryz.prog w = .ok (i, x) w) ∧ (∀ a w, (callFunc i a).run Tryz.prog w = .ok (.enter i a) w) ∧
    Calls Tryz.prog i #[x, .pointer (some ⟨g, 0, none⟩)] w fun e w' => ∃ (ok : Bool) (o : Option ByteArray), e = .returned (.bool ok) ∧ RdO w' g o ∧ (ok = true → o.isSome = true → Yes w') ∧ ((ok && o.isSome) = false → No w')
/-- what a round of it leaves -/
def ReadPost (Yes No : World → Prop) (e : Ending) (w' : World) : Prop := (e = .returned (.bool true) ∧ Yes w') ∨ (e = .returned (.bool false) ∧ No w')

set_option maxRecDepth 20000 in
set_option maxHeartbeats 1000000 in
theorem read_any (g : Nat) (A : Option Addr) (c : Nat) (fs : List Value) (I : Nat → World → Prop) (No : World → Prop) (W : World) (hn : fs.length ≤ 1000) (hfs : ∀ j w, I j w → FieldsAt w A fs)
    (step : ∀ j (h : j < fs.length) w, I j w → GetsTo w g (fs[j]) (I (j + 1)) No) (h0 : I 0 W) :
    Calls Tryz.prog 66 #[.pointer (some ⟨g, 0, none⟩), .slice A fs.length c] W (ReadPost (I fs.length) No) := by
  have H0 := Lib.hid h0
  have HF := Lib.hid hfs
  have HS := Lib.hid step
  obtain ⟨n, hl⟩ : ∃ n, fs.length = n := ⟨_, rfl⟩
  have HL := Lib.hid hl
  rw [hl] at hn
  rw [hl]
  clear h0 hfs step hl
  go_enter Tryz.func66, Tryz.ntmps66
  go_wp2
  go_step3
  go_wp2
  go_step3
  go_wp2
  go_loopg [5, 10] (n + 1) (fun gh s5 s10 wx => ∃ (k : Nat), k + gh = n + 1 ∧ k ≤ n ∧ s5 = .int .i64 (k : Nat) ∧ s10 = .int .i64 (k : Nat) ∧ Hid (I k wx))
  case atStart => exact ⟨0, by omega, by omega, rfl, rfl, H0⟩
  case round =>
    obtain ⟨k, hkg, hk, rfl, rfl, HI⟩ := hrel
    by_cases hlt : k < n
    · have hkl : k < fs.length := by rw [HL.out]; exact hlt
      obtain ⟨b, off, hAt⟩ := HF.out k wr HI.out
      obtain ⟨e1, e2, e3⟩ := hAt k hkl
      cases e1
      obtain ⟨T, x, i, hf, hm1, hm2, hm3, hcall⟩ := HS.out k hkl wr HI.out
      rw [hf] at e3
      have C := Lib.hid hcall
      have bk : ((k : Int) == (n : Int)) = false := by rw [beq_eq_false_iff_ne]; omega
      clear hcall hf hAt
      go_wp2_with (first
        | (go_at_call 86; fail)
        | (with_reducible refine (C.out).mono ?_; rintro e w1 ⟨ok, o, rfl, hr, hy, hno⟩; cases ok <;> cases o))
      · rw [Exit.noGoto_ret]
        go_ret
        exact .inr ⟨rfl, hno rfl⟩
      · rw [Exit.noGoto_ret]
        go_ret
        exact .inr ⟨rfl, hno rfl⟩
      · have CB : Hid (Calls Tryz.prog 86 #[.pointer (some ⟨g, 0, none⟩)] w1 fun e w' => e = .returned (.bool true) ∧ w1 = w') := rbad_any g _ w1 hr
        have HNO := Lib.hid hno
        clear hy hno hr C
        go_wp2_with (first
          | (go_at_call 86; ((with_reducible refine (CB.out).mono ?_); rintro e w2 ⟨rfl, rfl⟩)))
        rw [Exit.noGoto_ret]
        go_ret
        exact .inr ⟨rfl, HNO.out rfl⟩
      · have CB : Hid (Calls Tryz.prog 86 #[.pointer (some ⟨g, 0, none⟩)] w1 fun e w' => e = .returned (.bool false) ∧ w1 = w') := rbad_any g _ w1 hr
        have HY := Lib.hid hy
        clear hy hno hr C
        go_wp2_with (first
          | (go_at_call 86; ((with_reducible refine (CB.out).mono ?_); rintro e w2 ⟨rfl, rfl⟩)))
        go_roundg (gk - 1)
        case measure => omega
        case rel => exact ⟨k + 1, by omega, by omega, by go_num, by go_num, HY.out (by trivial) rfl⟩
    · obtain rfl : k = n := by omega
      have bk : ((k : Int) == (k : Int)) = true := by rw [beq_iff_eq]
      go_wp2
      rw [Exit.noGoto_ret]
      go_ret
      exact .inl ⟨rfl, HI.out⟩
end Go.Proofs.YtbnmddopgbhapaaGreat
