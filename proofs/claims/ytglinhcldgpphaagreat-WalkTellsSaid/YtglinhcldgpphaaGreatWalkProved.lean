/-
  The code's own ways are as the statements' walks want them (walkLaws).
-/
import Derived.Test.YtglinhcldgpphaaGreatWalkLaws
import Derived.Test.YtglinhcldgpphaaGreatWayCalls
import Derived.Test.YtglinhcldgpphaaGreatShelfTwin
namespace Go.Proofs.YtglinhcldgpphaaGreat
open Go.RowKit

/-- the function value goes that way through the shelf at block g; B: the blocks that it has captured -/
def SQ (W : World) (fv : Value) (k : Way) (g : Nat) (B : List Nat) : Prop := match k with
  | .all => ∃ b, fv = .func (.func 24) #[] #[.pointer (some ⟨b, 0, none⟩)] ∧ B = [b] ∧ W.cell? ⟨b, 0, none⟩ = some (.pointer (some ⟨g, 0, none⟩))
  | .range f t => ∃ b0 b1 b2, fv = .func (.func 27) #[] #[.pointer (some ⟨b0, 0, none⟩), .pointer (some ⟨b1, 0, none⟩), .pointer (some ⟨b2, 0, none⟩)] ∧ B = [b0, b1, b2] ∧
      W.cell? ⟨b0, 0, none⟩ = some (.pointer (some ⟨g, 0, none⟩)) ∧ W.cell? ⟨b1, 0, none⟩ = some (.string f) ∧ W.cell? ⟨b2, 0, none⟩ = some (.string t)
  | .arc f t => f < 18446744073709551616 ∧ t < 18446744073709551616 ∧ ∃ b0 b1, fv = .func (.func 29) #[] #[.pointer (some ⟨b0, 0, none⟩), .pointer (some ⟨b1, 0, none⟩)] ∧ B = [b0, b1] ∧
      W.cell? ⟨b0, 0, none⟩ = some (.pointer (some ⟨g, 0, none⟩)) ∧ W.cell? ⟨b1, 0, none⟩ = some (.int .u64 (f : Nat)) ∧ W.cell? ⟨b1, 1, none⟩ = some (.int .u64 (t : Nat))
theorem cell_keep {W W1 : World} {G : List Nat} {p : Addr} {v : Value} (h : W.cell? p = some v) (t : Touch G W W1) (hn : p.block ∉ G) : W1.cell? p = some v := (t.cell (World.block_lt_of_cell? W _ h) hn).trans h
theorem SQ.touch {W W1 : World} {fv : Value} {k : Way} {g : Nat} {B G : List Nat} (h : SQ W fv k g B) (t : Touch G W W1) (hn : ∀ q ∈ B, q ∉ G) : SQ W1 fv k g B := by
  cases k with
  | all =>
    obtain ⟨b, h1, rfl, h2⟩ := h
    exact ⟨b, h1, rfl, cell_keep h2 t (hn _ (by simp))⟩
  | range f u =>
    obtain ⟨b0, b1, b2, h1, rfl, h2, h3, h4⟩ := h
    exact ⟨b0, b1, b2, h1, rfl, cell_keep h2 t (hn _ (by simp)), cell_keep h3 t (hn _ (by simp)), cell_keep h4 t (hn _ (by simp))⟩
  | arc f u =>
    obtain ⟨hf, hu, b0, b1, h1, rfl, h2, h3, h4⟩ := h
    exact ⟨hf, hu, b0, b1, h1, rfl, cell_keep h2 t (hn _ (by simp)), cell_keep h3 t (hn _ (by simp)), cell_keep h4 t (hn _ (by simp))⟩
theorem SQ.lt {W : World} {fv : Value} {k : Way} {g : Nat} {B : List Nat} (h : SQ W fv k g B) : ∀ q ∈ B, q < W.heap.size := by
  cases k with
  | all =>
    obtain ⟨b, h1, rfl, h2⟩ := h
    have := World.block_lt_of_cell? W _ h2
    simpa using this
  | range f u =>
    obtain ⟨b0, b1, b2, h1, rfl, h2, h3, h4⟩ := h
    have x2 : b0 < _ := World.block_lt_of_cell? W _ h2
    have x3 : b1 < _ := World.block_lt_of_cell? W _ h3
    have x4 : b2 < _ := World.block_lt_of_cell? W _ h4
    simp
    omega
  | arc f u =>
    obtain ⟨hf, hu, b0, b1, h1, rfl, h2, h3, h4⟩ := h
    have x2 : b0 < _ := World.block_lt_of_cell? W _ h2
    have x3 : b1 < _ := World.block_lt_of_cell? W _ h3
    simp
    omega
/-- a shelf of the code's own is such a source -/
theorem srcOf {W : World} {g : Nat} {l : List Item} {F : List Nat} (h : SH W g 200 l F) : Src W (some ⟨g, 0, none⟩) l where
  rising := shelfLaws.rising h
  len := by
    obtain ⟨_, _, _, _, _, _, _, _, _, a, b⟩ := h
    omega
  items w hw := shelfLaws.items (h.touch (Touch.ofBelow (F := []) hw) (by simp))
  copy w hw := by
    refine (shelfLaws.copy (h.touch (Touch.ofBelow (F := []) hw) (by simp))).mono ?_
    rintro e w' ⟨g', F', rfl, h1, h2, h3⟩
    exact ⟨_, F', rfl, h3, fun q hq => ⟨h2 q hq, h1.ltF q hq⟩, fun V G t hn => shelfLaws.items (h1.touch t hn)⟩
/-- and so is nil -/
theorem srcNil (W : World) : Src W none [] where
  rising := Rising.nil
  len := by simp
  items w _ := by
    refine (nilItems_any w).mono ?_
    rintro e w' ⟨rfl, rfl⟩
    exact ⟨none, 0, rfl, World.ownsRow_nil _ _ _ _, Below.refl _ _⟩
  copy w _ := by
    refine (nilCopy_any w).mono ?_
    rintro e w' ⟨rfl, rfl⟩
    refine ⟨none, [], rfl, Below.refl _ _, by simp, fun V G _ _ => (nilItems_any V).mono ?_⟩
    rintro e w' ⟨rfl, rfl⟩
    exact ⟨none, 0, rfl, World.ownsRow_nil _ _ _ _, Below.refl _ _⟩
theorem wayOf {W : World} {fv : Value} {k : Way} {g : Nat} {B : List Nat} {l : List Item} {F : List Nat} (h : SQ W fv k g B) (hs : SH W g 200 l F) :
    ∃ i cap, fv = .func (.func i) #[] cap ∧ (∀ a w, (callFunc i a).run Tryz.prog w = .ok (.enter i a) w) ∧ ∀ V, Below W.heap.size W V → WayIn i cap (wayL k l) B V := by
  have hsrc := srcOf hs
  have hlt := h.lt
  cases k with
  | all =>
    obtain ⟨b, rfl, rfl, h2⟩ := h
    exact ⟨_, _, rfl, enters_of Tryz.func24 (by kernel_rfl) rfl, fun V hV => allWay (hsrc.items V hV) (cell_keep h2 (Touch.ofBelow (F := []) hV) (by simp)) _⟩
  | range f u =>
    obtain ⟨b0, b1, b2, rfl, rfl, h2, h3, h4⟩ := h
    refine ⟨_, _, rfl, enters_of Tryz.func27 (by kernel_rfl) rfl, fun V hV => ?_⟩
    have t : Touch [] W V := Touch.ofBelow hV
    exact rangeWay hsrc.rising (hsrc.later hV).items (cell_keep h2 t (by simp)) (cell_keep h3 t (by simp)) (cell_keep h4 t (by simp)) _ (by simp) (by simp) (fun q hq => Nat.lt_of_lt_of_le (hlt q hq) hV.size)
  | arc f u =>
    obtain ⟨hf, hu, b0, b1, rfl, rfl, h2, h3, h4⟩ := h
    refine ⟨_, _, rfl, enters_of Tryz.func29 (by kernel_rfl) rfl, fun V hV => ?_⟩
    have t : Touch [] W V := Touch.ofBelow hV
    exact arcWay hsrc.rising (hsrc.later hV).copy hf hu (cell_keep h2 t (by simp)) (cell_keep h3 t (by simp)) (cell_keep h4 t (by simp)) _ (fun q hq => Nat.lt_of_lt_of_le (hlt q hq) hV.size)
theorem wayL_length (k : Way) {l : List Item} (h : l.length ≤ 200) : (wayL k l).length ≤ 400 := by
  cases k with
  | all => show l.length ≤ 400; omega
  | range f t =>
    have := List.length_filter_le (fun x : Item => !lessB x.1 f && (t.size == 0 || lessB x.1 t)) l
    show (l.filter _).length ≤ 400
    omega
  | arc f t =>
    have := arcL_length_le l f t
    show (arcL l f t).length ≤ 400
    omega
theorem walkLaws : WalkLaws SH SQ where
  touch h t hn := h.touch t hn
  ltB h := h.lt
  some_ h := by
    rename_i W fv k g B
    cases k with
    | all =>
      obtain ⟨b, rfl, -, -⟩ := h
      exact ⟨_, _, _, rfl, enters_of Tryz.func24 (by kernel_rfl) rfl⟩
    | range f t =>
      obtain ⟨b0, b1, b2, rfl, -⟩ := h
      exact ⟨_, _, _, rfl, enters_of Tryz.func27 (by kernel_rfl) rfl⟩
    | arc f t =>
      obtain ⟨-, -, b0, b1, rfl, -⟩ := h
      exact ⟨_, _, _, rfl, enters_of Tryz.func29 (by kernel_rfl) rfl⟩
  all h := by
    refine (all_any _ _).mono ?_
    rintro e w' ⟨rfl, rfl⟩
    exact ⟨_, _, rfl, ⟨_, rfl, rfl, by go_simp⟩, by simp, (Below.refl _ _).alloc (Nat.le_refl _) _⟩
  range f t h _ _ := by
    refine (range_any _ f t _).mono ?_
    rintro e w' ⟨rfl, rfl⟩
    exact ⟨_, _, rfl, ⟨_, _, _, rfl, rfl, by go_simp, by go_simp, by go_simp⟩, by simp, (((Below.refl _ _).alloc (Nat.le_refl _) _).alloc (by simp) _).alloc (by simp; omega) _⟩
  arc f t h hf ht := by
    refine (arc_any _ f t _).mono ?_
    rintro e w' ⟨rfl, rfl⟩
    exact ⟨_, _, rfl, ⟨hf, ht, _, _, rfl, rfl, by go_simp, by go_simp, by go_simp⟩, by simp, ((Below.refl _ _).alloc (Nat.le_refl _) _).alloc (by simp) _⟩
  collect n h hs _ _ h0 h1 := by
    obtain ⟨i, cap, rfl, hi, hw⟩ := wayOf h hs
    exact collect_way hi h.lt hw (wayL_length _ (srcOf hs).len) n h0 h1
  go h hs := by
    obtain ⟨i, cap, rfl, hi, hw⟩ := wayOf h hs
    exact ⟨i, cap, rfl, hi, hw _ (Below.refl _ _)⟩
  rank k h _ := rank_src (srcOf h) k
  at_ n h _ _ := at_src (srcOf h) n
  count f t h _ hf ht := count_src (srcOf h) f t hf ht
  middle f t h hk hf ht := middle_src (srcOf h) hk f t hf ht
  rank0 W k := rank_src (srcNil W) k
  at0 W n := at_src (srcNil W) n
  count0 W f t hf ht := count_src (srcNil W) f t hf ht
  middle0 W f t hf ht := by
    have z := middle_src (srcNil W) (by simp) f t hf ht
    have e : midL (arcL [] f t) = none := by simp [arcL, midL]
    rwa [e] at z
end Go.Proofs.YtglinhcldgpphaaGreat
