/-
  A packet without a letter has eight bytes; one with one has its bytes behind: the walk.
-/
import Derived.Test.YtbnmddopgbhapaaLetPackPut
namespace Go.Proofs.Ytbnmddopgbhapaa
open Go.RowKit

theorem numP_two {lo hi v : Int} {s : ByteArray} (h0 : 0 ≤ lo) (h1 : hi ≤ 65535) (h : numP lo hi v = some s) : s.size = 2 := by
  unfold numP at h
  by_cases g : lo ≤ v ∧ v ≤ hi
  · rw [if_pos g] at h
    obtain rfl := Option.some.inj h
    unfold numT
    rw [if_pos (show okNum v = true by simp [okNum]; omega), txt_size, wideN_length]
  · rw [if_neg g] at h; cases h
theorem putP_parts {q : PV} {b : ByteArray} (h : putP q = some b) : ∃ hd t, inP q = some t ∧ hd.size = 8 ∧ b = hd ++ t := by
  unfold putP packetOs at h
  cases h1 : numP 0 255 q.pf with
  | none => rw [h1] at h; cases h
  | some a1 =>
    cases h2 : numP 0 255 q.pt with
    | none => rw [h1, h2] at h; cases h
    | some a2 =>
      cases h3 : numP 0 65535 q.sq with
      | none => rw [h1, h2, h3] at h; cases h
      | some a3 =>
        cases h4 : numP 0 65535 q.ak with
        | none => rw [h1, h2, h3, h4] at h; cases h
        | some a4 =>
          cases h5 : inP q with
          | none => rw [h1, h2, h3, h4, h5] at h; cases h
          | some t =>
            rw [h1, h2, h3, h4, h5] at h
            have s1 := numP_two (by decide) (by decide) h1
            have s2 := numP_two (by decide) (by decide) h2
            have s3 := numP_two (by decide) (by decide) h3
            have s4 := numP_two (by decide) (by decide) h4
            refine ⟨a1 ++ (a2 ++ (a3 ++ a4)), t, rfl, by simp only [size_append]; omega, ?_⟩
            have e : a1 ++ (a2 ++ (a3 ++ (a4 ++ (t ++ ByteArray.empty)))) = b := Option.some.inj h
            rw [append_empty] at e
            rw [← e]
            simp only [append_assoc]
end Go.Proofs.Ytbnmddopgbhapaa
