import Derived.Test.YtnjodhglbapnlaaGreatGg06
import Derived.Test.YtnjodhglbapnlaaGreatGg04
set_option maxRecDepth 100000
set_option maxHeartbeats 16000000
namespace Go.Proofs.YtnjodhglbapnlaaGreat
open Go.RowKit
theorem ypz {W : World} {base b0 e size n : Nat} {v : Value} {xs : List Value} (h : W.ownsRow base e size v n xs) (hb : b0 ≤ base) : W.ownsRow b0 e size v n xs := by
 refine ⟨h.1, ?_⟩
 rcases h.2 with h1 | ⟨g, cap, cur, h0, h2, h3⟩
 ·exact .inl h1
 ·exact .inr ⟨g, cap, cur, h0, Nat.le_trans hb h2, h3⟩
theorem yaa3 (A B : Option Addr) (c d n b1 b2 : Nat) (l : List Item) (W : World) (hn : l.length = n) (hA : W.ownsRow b1 96 2 (.slice A n c) n (yaa l)) (hB : W.ownsRow b2 96 2 (.slice B n d) n (yaa l)) :
  Calls Tryz.prog 26 #[.slice A n c, .slice B n d] W fun e w' => e = .returned (.bool true) ∧ Below W.heap.size W w' := by
 subst hn
 have z := yrf A B c d l l W (ypz hA (Nat.zero_le _)) (ypz hB (Nat.zero_le _))
 rw [(ygf l l).2 rfl] at z
 refine z.mono ?_
 rintro e w' ⟨rfl, m, rfl⟩
 exact ⟨rfl, below_drewN (Below.refl _ _) m⟩
theorem yaa4 {wb W W1 : World} {A : World → Prop} (HS : ∀ w', Below wb.heap.size wb w' → Below wb.heap.size wb w' ∧ A w') (h : Below wb.heap.size wb W ∧ A W) (hb : Below W.heap.size W W1) : Below wb.heap.size wb W1 ∧ A W1 :=
 HS _ (h.1.trans (hb.mono h.1.size))
section
variable {VD : World → Nat → HO → List Nat → Prop} {VV : World → Nat → GV → List Nat → Prop} {V w w1 : World} {P : List Nat} {g r p : Nat} {s s1 s2 s3 : HO} {v v1 : GV}
theorem LX.refItems (h : LX VD V w P g s r s2) : ∃ rs A c, r < w.heap.size ∧ rs < w.heap.size ∧ w.cell? ⟨r, 4, none⟩ = some (.pointer (some ⟨rs, 0, none⟩)) ∧ w.cell? ⟨rs, 1, none⟩ = some (.slice A s2.its.length c) ∧ w.ownsRow 0 96 2 (.slice A s2.its.length c) s2.its.length (yaa s2.its) := by
 obtain ⟨Fy, _, ⟨rs, Fs, l, Vo, Pt, f, t, h, _⟩, _⟩ := h
 obtain ⟨A, c, ⟨h1, _, h2, _⟩, h3, _⟩ := h.sh
 exact ⟨rs, A, c, h.lt, h1, ya4 h.hr rfl, h2, h3⟩
theorem DX.items (L : ybg VD) (h : DX VD V w P g s) : Calls Tryz.prog 28 #[.pointer (some ⟨g, 0, none⟩)] w fun e w' => ∃ A c, e = .returned (.slice A s.its.length c) ∧ w'.ownsRow w.heap.size 96 2 (.slice A s.its.length c) s.its.length (yaa s.its) ∧ Below w.heap.size w w' := by
 obtain ⟨_, ⟨F, b, _⟩, _⟩ := h
 refine (L.items b).mono ?_
 rintro e w' ⟨S, rfl, ho, hb⟩
 obtain ⟨A, c, rfl⟩ := yav ho
 exact ⟨A, c, rfl, ho, hb⟩
end
end Go.Proofs.YtnjodhglbapnlaaGreat
