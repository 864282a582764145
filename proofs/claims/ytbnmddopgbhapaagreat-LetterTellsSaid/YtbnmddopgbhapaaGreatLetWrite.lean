/-
  Package letter's write, walked: the bytes of fields, whatever they are, one behind the other.
-/
import Derived.Test.YtbnmddopgbhapaaGreatBuild
import Derived.Test.YtbnmddopgbhapaaGreatLetPure
namespace Go.Proofs.YtbnmddopgbhapaaGreat
open Go.RowKit

theorem catO_append : ∀ (xs ys : List (Option ByteArray)), catO (xs ++ ys) = match catO xs with
    | none => none
    | some a => (catO ys).map (a ++ ·)
  | [], ys => by
    simp only [List.nil_append, catO]
    cases catO ys with
    | none => rfl
    | some c => simp
  | none :: r, ys => rfl
  | some a :: r, ys => by
    rw [List.cons_append, catO, catO_append r ys, catO]
    cases catO r with
    | none => rfl
    | some c =>
      simp only [Option.map_some]
      cases catO ys with
      | none => rfl
      | some d => simp [append_assoc]
theorem catO_take {os : List (Option ByteArray)} {k : Nat} (h : k < os.length) {a b : ByteArray} (hk : catO (os.take k) = some a) (hb : os[k] = some b) : catO (os.take (k + 1)) = some (a ++ b) := by
  rw [List.take_add_one, List.getElem?_eq_getElem h, catO_append, hk]
  simp only [Option.toList, hb, catO, Option.map_some, append_empty]
theorem catO_none {os : List (Option ByteArray)} {k : Nat} (h : k < os.length) (hb : os[k] = none) : catO os = none := by
  have e : os = os.take k ++ (none :: os.drop (k + 1)) := by
    rw [← hb, ← List.drop_eq_getElem_cons h, List.take_append_drop]
  rw [e, catO_append]
  cases catO (os.take k) with
  | none => rfl
  | some a => rfl
/-- a slice of fields -/
def FieldsAt (W : World) (A : Option Addr) (fs : List Value) : Prop :=
  ∃ b off, ∀ i (h : i < fs.length), A = some ⟨b, off, none⟩ ∧ b < W.heap.size ∧ W.cell? ⟨b, off + i, none⟩ = some (fs[i])
theorem FieldsAt.below {W W1 : World} {A : Option Addr} {fs : List Value} (h : FieldsAt W A fs) (hb : Below W.heap.size W W1) : FieldsAt W1 A fs := by
  obtain ⟨b, off, h⟩ := h
  refine ⟨b, off, fun i hi => ?_⟩
  obtain ⟨h1, h2, h3⟩ := h i hi
  exact ⟨h1, Nat.lt_of_lt_of_le h2 hb.size, (hb.cell (p := ⟨b, off + i, none⟩) h2).trans h3⟩
/-- the field f, asked for its bytes in W or a world behind it, tells o -/
def PutsTo (W : World) (f : Value) (o : Option ByteArray) : Prop :=
  ∃ (T : TypeId) (x : Value) (i : FuncId), f = .iface T x ∧ (∀ w, (nilAhead 282 T x "rosary/letter.put").run Tryz.prog w = .ok (some false) w) ∧ (∀ w, (method 282 T x "rosary/letter.put").run Tryz.prog w = .ok (i, x) w) ∧ (∀ a w, (callFunc i a).run Tryz.prog w = .ok (.enter i a) w) ∧
    ∀ w, Below W.heap.size W w → Calls Tryz.prog i #[x] w fun e w' => e = .returned (.tuple #[.string (o.getD ByteArray.empty), .bool o.isSome]) ∧ Below w.heap.size w w'
theorem PutsTo.below {W W1 : World} {f : Value} {o : Option ByteArray} (h : PutsTo W f o) (hb : Below W.heap.size W W1) : PutsTo W1 f o := by
  obtain ⟨T, x, i, h1, h2, h3, h5, h4⟩ := h
  exact ⟨T, x, i, h1, h2, h3, h5, fun w hw => h4 w (hb.trans (hw.mono hb.size))⟩

theorem Bld.below_ {B b : Nat} {l : List UInt8} {w w1 : World} (h : Bld B b l w) (hb : Below w.heap.size w w1) : Bld B b l w1 := by
  have key : ∀ p, BldAt B b p l w → BldAt B b p l w1 := by
    intro p h
    have hlt := Lib.BuilderAt.lt h
    obtain ⟨h1, v, h2, h3, h4⟩ := h
    exact ⟨h1, v, (hb.block b hlt).trans h2, own_step h3 hb, h4⟩
  rcases h with h | h
  · exact .inl (key _ h)
  · exact .inr (key _ h)
set_option maxRecDepth 20000 in
set_option maxHeartbeats 1000000 in
theorem write_any (A : Option Addr) (c : Nat) (fs : List Value) (os : List (Option ByteArray)) (W : World) (hA : FieldsAt W A fs) (hn : fs.length ≤ 1000) (ho : os.length = fs.length)
    (hp : ∀ k (h : k < fs.length) (h2 : k < os.length), PutsTo W (fs[k]) (os[k])) (hz : ∀ o ∈ os, (o.getD ByteArray.empty).size ≤ 1000000) :
    Calls Tryz.prog 19 #[.slice A fs.length c] W fun e w' => e = .returned (.tuple #[.string ((catO os).getD ByteArray.empty), .bool (catO os).isSome]) ∧ Below W.heap.size W w' := by
  obtain ⟨b, off, hAt⟩ := hA
  go_enter Tryz.func19, Tryz.ntmps19
  go_wp2
  go_loopg [11] (fs.length + 1) (fun gh s11 wx => ∃ (k : Nat) (ac : ByteArray), k + gh = fs.length + 1 ∧ k ≤ fs.length ∧ s11 = .int .i64 (k : Nat) ∧ Hid (catO (os.take k) = some ac ∧ ac.size ≤ k * 1000000) ∧ Bld W.heap.size W.heap.size ac.data.toList wx ∧ Below W.heap.size W wx)
  case atStart => exact ⟨0, ByteArray.empty, by omega, by omega, rfl, ⟨rfl, by decide⟩, Lib.fresh_isBuilder _ _ W, (Below.refl _ _).alloc (Nat.le_refl _) _⟩
  case round =>
    obtain ⟨k, ac, hkg, hk, rfl, HA, hB, hb⟩ := hrel
    by_cases hlt : k < fs.length
    · obtain ⟨hA1, hA2, hA3⟩ := hAt k hlt
      subst hA1
      have hc := (hb.cell (p := ⟨b, off + k, none⟩) hA2).trans hA3
      obtain ⟨T, x, i, hf, hm1, hm2, hm3, hcall⟩ := hp k hlt (by omega)
      rw [hf] at hc
      have hcw := hcall wr hb
      clear hcall
      generalize ho1 : os[k] = o1 at hcw
      cases o1 with
      | none =>
        have hcat := catO_none (by omega) ho1
        simp only [Option.getD, Option.isSome] at hcw
        have C := Lib.hid hcw
        have HB := Lib.hid hb
        clear hcw hp hz hb
        have hcat := Lib.hid hcat
        go_wp2_with (first
          | (with_reducible refine (C.out).mono ?_; rintro e w1 ⟨rfl, hb1⟩))
        go_ret2
        exact ⟨by rw [hcat.out]; rfl, acc HB.out hb1⟩
      | some s =>
        simp only [Option.getD, Option.isSome] at hcw
        have hs : s.size ≤ 1000000 := by have := hz (os[k]'(by omega)) (List.getElem_mem _); rw [ho1] at this; exact this
        have hb0 := hb.size
        have C := Lib.hid hcw
        have HB := Lib.hid hb
        have HBl := Lib.hid hB
        clear hcw hp hz hb hB
        have HO := Lib.hid ho1
        clear ho1
        go_wp2_with (first
          | (go_at_call 61; ((with_reducible refine (CW.out).mono ?_); rintro e w2 ⟨rfl, hB2, hb2⟩))
          | (with_reducible refine (C.out).mono ?_; rintro e w1 ⟨rfl, hb1⟩; have CW := Lib.hid (writeString_any W.heap.size W.heap.size ac.data.toList s w1 (Bld.below_ HBl.out hb1) (by have := HA.out.2; rw [data_length]; omega) (by have := hb1.size; omega))))
        go_roundg (gk - 1)
        case measure => omega
        case rel =>
          exact ⟨k + 1, ac ++ s, by omega, by omega, rfl, ⟨catO_take (by omega) HA.out.1 HO.out, by have := HA.out.2; rw [size_append]; omega⟩, by rw [data_append]; exact hB2, (acc HB.out hb1).trans hb2⟩
    · obtain rfl : k = fs.length := by omega
      have HB := Lib.hid hb
      have hsz := hb.size
      have C := Lib.hid (bstring_any W.heap.size W.heap.size ac.data.toList wr hB hsz)
      clear hb hB
      go_wp2_with (first
        | (go_at_call 62; ((with_reducible refine (C.out).mono ?_); rintro e w2 ⟨rfl, hb2⟩)))
      go_ret2
      have e1 := HA.out.1
      rw [List.take_of_length_le (by omega)] at e1
      exact ⟨by rw [e1]; simp [txt_of], HB.out.trans hb2⟩
end Go.Proofs.YtbnmddopgbhapaaGreat
