/-
  A packet's bytes, cut anywhere, or longer, are none: the walk.
-/
import Derived.Test.YtbnmddopgbhapaaLetPackGet
namespace Go.Proofs.Ytbnmddopgbhapaa
open Go.RowKit

theorem putP_size {q : PV} {b : ByteArray} (h : putP q = some b) : b.size ≤ 435464 ∧ 8 ≤ b.size := by
  obtain ⟨hd, t, hi, h8, rfl⟩ := putP_parts h
  have := inP_le q
  rw [hi] at this
  have h3 : t.size ≤ 435456 := this
  rw [size_append]
  omega
theorem getP_cut {q : PV} {b : ByteArray} {K : Nat} (hF : q.Fine) (h : putP q = some b) (hK : K < b.size) : getP (b.extract 0 K) = none :=
  getP_short (c := b.extract K b.size) hF.ltF.afB hF.ltF.auB (by rw [← cut_parts]; exact h) (by rw [extract_size b K (by omega)]; omega)
end Go.Proofs.Ytbnmddopgbhapaa
