/-
  Two letters have the same bytes just if they are the same: the walk.
-/
import Derived.Test.YtbnmddopgbhapaaGreatLetLight
namespace Go.Proofs.YtbnmddopgbhapaaGreat
open Go.RowKit

theorem toList_inj {a b : ByteArray} (h : a.toList = b.toList) : a = b := by
  rw [Lib.toList_data, Lib.toList_data] at h
  exact ba_ext h
theorem sameLB_iff (l m : LV) : sameLB l m = true ↔ l = m := by
  constructor
  · intro h
    simp only [sameLB, sameTB, Bool.and_eq_true, beq_iff_eq, sameL_iff] at h
    obtain ⟨h1, h2, h3, h4, ⟨h5, h6, h7, h8, h9⟩, ⟨h10, h11, h12, h13, h14, h15⟩, ⟨h16, h17⟩, h18, h19, h20, h21⟩ := h
    have h6 := toList_inj h6
    have h7 := toList_inj h7
    have h8 := toList_inj h8
    have h11 := toList_inj h11
    have h14 := toList_inj h14
    cases l; cases m
    simp only at *
    subst h1 h2 h3 h4 h5 h6 h7 h8 h9 h10 h11 h12 h13 h14 h15 h18 h19 h20 h21
    have h16 := Int.ofNat.inj h16
    have h17 := Int.ofNat.inj h17
    subst h16 h17
    rfl
  · rintro rfl
    simp [sameLB, sameTB, sameL_iff]
theorem two_eq {l m : LV} {a b : ByteArray} (hF : l.Fine) (hG : m.Fine) (h : putL l = some a) (g : putL m = some b) : (a.toList == b.toList) = sameLB l m := by
  cases e : sameLB l m with
  | true =>
    obtain rfl := (sameLB_iff l m).1 e
    rw [h] at g
    obtain rfl := Option.some.inj g
    simp
  | false =>
    rw [beq_eq_false_iff_ne]
    intro hab
    obtain rfl := toList_inj hab
    rw [(sameLB_iff l m).2 (putL_inj hF.afB hF.auB hG.afB hG.auB h g)] at e
    cases e
end Go.Proofs.YtbnmddopgbhapaaGreat
