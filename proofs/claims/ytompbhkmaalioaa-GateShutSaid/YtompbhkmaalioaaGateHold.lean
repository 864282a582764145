/-
  Arguments of stage 13's statements, opened.
-/
import Derived.Test.YtompbhkmaalioaaHoldLists
import Derived.Test.YtompbhkmaalioaaGateOps
import Derived.Deep.Slices
import Derived.Lib.SmallJoins
namespace Go.Proofs.Ytompbhkmaalioaa
open Go.ChangeShapes Go.WideShapes Go.ChangeAt Go.RowKit Go.Deep

theorem gfield_of {H : Type} {enc : TypeId × Value → H} {W : World} {n : Nat} {fs : Array Field} {cs : List Value} {xs : List (DataW H × List MemPlace)}
    (hf : ∀ (i : Nat) (f : Field), fs[i]? = some f → DataW.trod enc Try.prog W 0 (fun _ => true) true n f.type ((cs.drop f.offset).take (Try.prog.cellsOf f.type)) = xs[i]?)
    (i : Nat) (f : Field) (h : fs[i]? = some f) (hlt : i < xs.length) (T : TypeId) (off k : Nat) (hT : f.type = T) (ho : f.offset = off) (hk : Try.prog.cellsOf T = k) :
    ∃ y, DataW.trod enc Try.prog W 0 (fun _ => true) true n T ((cs.drop off).take k) = some y := by
  have e := hf i f h
  rw [hT, ho, hk, List.getElem?_eq_getElem hlt] at e
  exact ⟨_, e⟩
theorem len_five {cs : List Value} (h : cs.length = 5) : ∃ a b c d e, cs = [a, b, c, d, e] := by
  match cs, h with
  | [a, b, c, d, e], _ => exact ⟨a, b, c, d, e, rfl⟩
set_option maxRecDepth 100000 in
theorem open_gop_cells {H : Type} {enc : TypeId × Value → H} {W : World} {fuel : Nat} {cs : List Value} {x : DataW H × List MemPlace}
    (h : DataW.trod enc Try.prog W 0 (fun _ => true) true fuel 37 cs = some x) : ∃ o : GOp, cs = o.cells.toList ∧ o.Fit := by
  obtain ⟨hxs, hn, -, -, hl, hll, hf⟩ := DataW.trod_struct Try.underlying37 h
  have hl : cs.length = 5 := hl.trans (by kernel_rfl)
  have hxl : hxs.length = 4 := hll
  clear hll h
  obtain ⟨c0, c1, c2, c3, c4, rfl⟩ := len_five hl
  obtain ⟨y0, g0⟩ := gfield_of hf 0 _ rfl (by simp only [hxl]; decide) 3 0 1 rfl rfl (by kernel_rfl)
  have g0 : DataW.trod enc Try.prog W 0 (fun _ => true) true hn 3 [c0] = some y0 := g0
  obtain ⟨y1, g1⟩ := gfield_of hf 1 _ rfl (by simp only [hxl]; decide) 3 1 1 rfl rfl (by kernel_rfl)
  have g1 : DataW.trod enc Try.prog W 0 (fun _ => true) true hn 3 [c1] = some y1 := g1
  obtain ⟨y2, g2⟩ := gfield_of hf 2 _ rfl (by simp only [hxl]; decide) 3 2 1 rfl rfl (by kernel_rfl)
  have g2 : DataW.trod enc Try.prog W 0 (fun _ => true) true hn 3 [c2] = some y2 := g2
  obtain ⟨y5, g5⟩ := gfield_of hf 3 _ rfl (by simp only [hxl]; decide) 27 3 2 rfl rfl (by kernel_rfl)
  have g5 : DataW.trod enc Try.prog W 0 (fun _ => true) true hn 27 [c3, c4] = some y5 := g5
  obtain ⟨zxs, zn, -, -, -, zll, zf⟩ := DataW.trod_struct Try.underlying27 g5
  have zxl : zxs.length = 2 := zll
  clear zll g5
  obtain ⟨y3, g3⟩ := gfield_of zf 0 _ rfl (by simp only [zxl]; decide) 23 0 1 rfl rfl (by kernel_rfl)
  have g3 : DataW.trod enc Try.prog W 0 (fun _ => true) true zn 23 [c3] = some y3 := g3
  obtain ⟨y4, g4⟩ := gfield_of zf 1 _ rfl (by simp only [zxl]; decide) 23 1 1 rfl rfl (by kernel_rfl)
  have g4 : DataW.trod enc Try.prog W 0 (fun _ => true) true zn 23 [c4] = some y4 := g4
  obtain ⟨k, eq_k, -, wk⟩ := DataW.trod_int Try.underlying3 g0
  injection eq_k with eq_k _; subst eq_k
  obtain ⟨d, eq_d, -, wd⟩ := DataW.trod_int Try.underlying3 g1
  injection eq_d with eq_d _; subst eq_d
  obtain ⟨n, eq_n, -, wn⟩ := DataW.trod_int Try.underlying3 g2
  injection eq_n with eq_n _; subst eq_n
  obtain ⟨f, eq_f, -, wf⟩ := DataW.trod_int Try.underlying23 g3
  injection eq_f with eq_f _; subst eq_f
  obtain ⟨t, eq_t, -, wt⟩ := DataW.trod_int Try.underlying23 g4
  injection eq_t with eq_t _; subst eq_t
  have bf := wf_u64 wf
  have bt := wf_u64 wt
  obtain ⟨f, rfl⟩ := Int.eq_ofNat_of_zero_le bf.1
  obtain ⟨t, rfl⟩ := Int.eq_ofNat_of_zero_le bt.1
  exact ⟨⟨k, d, n, f, t⟩, rfl, ⟨by show f < _; omega, by show t < _; omega, wf_i64 wd⟩⟩
set_option maxRecDepth 100000 in
theorem open_gops_arg {H : Type} {enc : TypeId × Value → H} {W : World} {base : Nat} {v : Value} {d : DataW H} {p : List MemPlace}
    (hok : Value.okWide Try.prog W .any base 22 v) (h : DataW.Trod enc Try.prog W 0 (fun _ => true) true 22 v d p) :
    ∃ (A : Option Addr) (c : Nat) (os : List GOp), v = .slice A os.length c ∧ os.length ≤ 9223372036854775807 ∧ GOpsAt W A os := by
  obtain ⟨fuel, hf⟩ := h
  obtain ⟨A0, n0, c0, rfl⟩ := okWide_slice Try.underlying22 hok
  have hf : DataW.trod enc Try.prog W 0 (fun _ => true) true fuel 22 [.slice A0 n0 c0] = some (d, p) := hf
  rcases open_slice Try.underlying22 hf with ⟨hcs, _⟩ | ⟨a, len, cap, m, n, D, Pl, hcs, hb, hl, hm, hmm, hx, hall⟩
  · injection hcs with hcs _
    injection hcs with h1 h2 h3
    subst h1 h2 h3
    exact ⟨none, 0, [], rfl, by simp, 0, 0, fun i x hx => by simp at hx⟩
  · injection hcs with hcs _
    injection hcs with h1 h2 h3
    subst h1 h2 h3
    simp only [if_true] at hmm
    have ce : Try.prog.cellsOf 37 = 5 := by kernel_rfl
    have each : ∀ i, i < n0 → ∃ o : GOp, o.Fit ∧ ∀ j v, o.cells.toList[j]? = some v → W.cell? ((a.add (i * 5)).add j) = some v := by
      intro i hi
      obtain ⟨cs', h1, h2⟩ := hall i (by omega)
      rw [ce] at h1
      obtain ⟨_, hlen, hcell⟩ := World.cells?_some h1
      obtain ⟨o, e, ho⟩ := open_gop_cells h2
      refine ⟨o, ho, fun j v hj => ?_⟩
      rw [← e] at hj
      have hj2 := (List.getElem?_eq_some_iff.1 hj).1
      rw [← hj]
      exact hcell j (by omega)
    have : Inhabited GOp := ⟨⟨0, 0, 0, 0, 0⟩⟩
    obtain ⟨f, hf2⟩ := choose_lt each
    refine ⟨some a, c0, (List.range n0).map f, by simp, by simp; unfold maxLen at hm; omega, a.block, a.off, fun i x hx => ?_⟩
    have hi : i < n0 := by have := (List.getElem?_eq_some_iff.1 hx).1; simpa using this
    have hxe : x = f i := by
      rw [List.getElem?_map, List.getElem?_range hi] at hx
      injection hx with hx
      exact hx.symm
    subst hxe
    obtain ⟨o1, o2⟩ := hf2 i hi
    obtain ⟨b, off, spot⟩ := a
    have hc00 := (hf2 0 (by omega)).2 0 _ rfl
    have hspot : spot = none := by simpa [Addr.add] using World.cell?_spot hc00
    subst hspot
    have hc0 := o2 0 _ rfl
    rw [add_plain, add_plain] at hc0
    have hbl := World.block_lt_of_cell? W _ hc0
    refine ⟨rfl, hbl, fun j v hj => ?_, o1⟩
    have := o2 j v hj
    rw [add_plain, add_plain] at this
    exact this
end Go.Proofs.Ytompbhkmaalioaa
