/-
  A list of what is asked as an argument, opened.
-/
import Derived.Test.YthgndgoljchnfaaGreatHoldLists
import Derived.Test.YthgndgoljchnfaaGreatHg12
import Derived.Deep.Slices
import Derived.Lib.SmallJoins
namespace Go.Proofs.YthgndgoljchnfaaGreat
open Go.ChangeShapes Go.WideShapes Go.ChangeAt Go.RowKit Go.Deep

theorem afield_of {H : Type} {enc : TypeId × Value → H} {W : World} {n : Nat} {fs : Array Field} {cs : List Value} {xs : List (DataW H × List MemPlace)}
    (hf : ∀ (i : Nat) (f : Field), fs[i]? = some f → DataW.trod enc Tryz.prog W 0 (fun _ => true) true n f.type ((cs.drop f.offset).take (Tryz.prog.cellsOf f.type)) = xs[i]?)
    (i : Nat) (f : Field) (h : fs[i]? = some f) (hlt : i < xs.length) (T : TypeId) (off k : Nat) (hT : f.type = T) (ho : f.offset = off) (hk : Tryz.prog.cellsOf T = k) :
    ∃ y, DataW.trod enc Tryz.prog W 0 (fun _ => true) true n T ((cs.drop off).take k) = some y := by
  have e := hf i f h
  rw [hT, ho, hk, List.getElem?_eq_getElem hlt] at e
  exact ⟨_, e⟩
theorem len_fiveA {cs : List Value} (h : cs.length = 5) : ∃ a b c d e, cs = [a, b, c, d, e] := by
  match cs, h with
  | [a, b, c, d, e], _ => exact ⟨a, b, c, d, e, rfl⟩
def AsksAt (W : World) (A0 : Option Addr) (zs : List AK) : Prop := ∃ b off, ∀ i (h : i < zs.length), A0 = some ⟨b, off, none⟩ ∧ b < W.heap.size ∧ W.cell? ⟨b, off + i * 5, none⟩ = some (.int .i64 (zs[i]).op) ∧ W.cell? ⟨b, off + i * 5 + 1, none⟩ = some (.string (zs[i]).key) ∧ W.cell? ⟨b, off + i * 5 + 2, none⟩ = some (.string (zs[i]).val) ∧ W.cell? ⟨b, off + i * 5 + 3, none⟩ = some (.string (zs[i]).tt) ∧ W.cell? ⟨b, off + i * 5 + 4, none⟩ = some (.int .i64 (zs[i]).most)
set_option maxRecDepth 100000 in
theorem open_ask_cells {H : Type} {enc : TypeId × Value → H} {W : World} {fuel : Nat} {cs : List Value} {x : DataW H × List MemPlace}
    (h : DataW.trod enc Tryz.prog W 0 (fun _ => true) true fuel 37 cs = some x) : ∃ o : AK, cs = o.cells.toList ∧ o.Fit := by
  obtain ⟨hxs, hn, -, -, hl, hll, hf⟩ := DataW.trod_struct Tryz.underlying37 h
  have hl : cs.length = 5 := hl.trans (by kernel_rfl)
  have hxl : hxs.length = 5 := hll
  clear hll h
  obtain ⟨c0, c1, c2, c3, c4, rfl⟩ := len_fiveA hl
  obtain ⟨y0, g0⟩ := afield_of hf 0 _ rfl (by simp only [hxl]; decide) 3 0 1 rfl rfl (by kernel_rfl)
  have g0 : DataW.trod enc Tryz.prog W 0 (fun _ => true) true hn 3 [c0] = some y0 := g0
  obtain ⟨y1, g1⟩ := afield_of hf 1 _ rfl (by simp only [hxl]; decide) 9 1 1 rfl rfl (by kernel_rfl)
  have g1 : DataW.trod enc Tryz.prog W 0 (fun _ => true) true hn 9 [c1] = some y1 := g1
  obtain ⟨y2, g2⟩ := afield_of hf 2 _ rfl (by simp only [hxl]; decide) 9 2 1 rfl rfl (by kernel_rfl)
  have g2 : DataW.trod enc Tryz.prog W 0 (fun _ => true) true hn 9 [c2] = some y2 := g2
  obtain ⟨y3, g3⟩ := afield_of hf 3 _ rfl (by simp only [hxl]; decide) 9 3 1 rfl rfl (by kernel_rfl)
  have g3 : DataW.trod enc Tryz.prog W 0 (fun _ => true) true hn 9 [c3] = some y3 := g3
  obtain ⟨y4, g4⟩ := afield_of hf 4 _ rfl (by simp only [hxl]; decide) 3 4 1 rfl rfl (by kernel_rfl)
  have g4 : DataW.trod enc Tryz.prog W 0 (fun _ => true) true hn 3 [c4] = some y4 := g4
  obtain ⟨op, eq0, -, w0⟩ := DataW.trod_int Tryz.underlying3 g0
  injection eq0 with eq0 _; subst eq0
  obtain ⟨key, eq1, -, w1⟩ := DataW.trod_string Tryz.underlying9 g1
  injection eq1 with eq1 _; subst eq1
  obtain ⟨val, eq2, -, w2⟩ := DataW.trod_string Tryz.underlying9 g2
  injection eq2 with eq2 _; subst eq2
  obtain ⟨tt, eq3, -, w3⟩ := DataW.trod_string Tryz.underlying9 g3
  injection eq3 with eq3 _; subst eq3
  obtain ⟨mo, eq4, -, w4⟩ := DataW.trod_int Tryz.underlying3 g4
  injection eq4 with eq4 _; subst eq4
  have b0 := wf_i64 w0
  have b4 := wf_i64 w4
  exact ⟨⟨op, key, val, tt, mo⟩, rfl, ⟨⟨b0.1, by show op ≤ _; omega⟩, w1, w2, w3, ⟨b4.1, by show mo ≤ _; omega⟩⟩⟩
set_option maxRecDepth 100000 in
theorem open_asks_arg {H : Type} {enc : TypeId × Value → H} {W : World} {base : Nat} {v : Value} {d : DataW H} {p : List MemPlace}
    (hok : Value.okWide Tryz.prog W .any base 62 v) (h : DataW.Trod enc Tryz.prog W 0 (fun _ => true) true 62 v d p) :
    ∃ (A : Option Addr) (c : Nat) (os : List AK), v = .slice A os.length c ∧ os.length ≤ 9223372036854775807 ∧ AsksAt W A os ∧ ∀ x ∈ os, x.Fit := by
  obtain ⟨fuel, hf⟩ := h
  obtain ⟨A0, n0, c0, rfl⟩ := okWide_slice Tryz.underlying62 hok
  have hf : DataW.trod enc Tryz.prog W 0 (fun _ => true) true fuel 62 [.slice A0 n0 c0] = some (d, p) := hf
  rcases open_slice Tryz.underlying62 hf with ⟨hcs, _⟩ | ⟨a, len, cap, m, n, D, Pl, hcs, hb, hl, hm, hmm, hx, hall⟩
  · injection hcs with hcs _
    injection hcs with h1 h2 h3
    subst h1 h2 h3
    exact ⟨none, 0, [], rfl, by simp, ⟨0, 0, fun i hi => by simp at hi⟩, fun x hx => by cases hx⟩
  · injection hcs with hcs _
    injection hcs with h1 h2 h3
    subst h1 h2 h3
    simp only [if_true] at hmm
    have ce : Tryz.prog.cellsOf 37 = 5 := by kernel_rfl
    have each : ∀ i, i < n0 → ∃ o : AK, o.Fit ∧ ∀ j v, o.cells.toList[j]? = some v → W.cell? ((a.add (i * 5)).add j) = some v := by
      intro i hi
      obtain ⟨cs', h1, h2⟩ := hall i (by omega)
      rw [ce] at h1
      obtain ⟨_, hlen, hcell⟩ := World.cells?_some h1
      obtain ⟨o, e, ho⟩ := open_ask_cells h2
      refine ⟨o, ho, fun j v hj => ?_⟩
      rw [← e] at hj
      have hj2 := (List.getElem?_eq_some_iff.1 hj).1
      rw [← hj]
      exact hcell j (by omega)
    have : Inhabited AK := ⟨⟨0, ByteArray.empty, ByteArray.empty, ByteArray.empty, 0⟩⟩
    obtain ⟨f, hf2⟩ := choose_lt each
    refine ⟨some a, c0, (List.range n0).map f, by simp, by simp; unfold maxLen at hm; omega, ⟨a.block, a.off, fun i hi => ?_⟩, fun x hx => ?_⟩
    · have hi : i < n0 := by simpa using hi
      obtain ⟨o1, o2⟩ := hf2 i hi
      obtain ⟨b, off, spot⟩ := a
      have hc00 := (hf2 0 (by omega)).2 0 _ rfl
      have hspot : spot = none := by simpa [Addr.add] using World.cell?_spot hc00
      subst hspot
      have hc0 := o2 0 _ rfl
      have hc1 := o2 1 _ rfl
      have hc2 := o2 2 _ rfl
      have hc3 := o2 3 _ rfl
      have hc4 := o2 4 _ rfl
      simp only [add_plain, Nat.add_zero] at hc0 hc1 hc2 hc3 hc4
      have hbl := World.block_lt_of_cell? W _ hc0
      have e : ((List.range n0).map f)[i]'(by simpa using hi) = f i := by simp
      rw [e]
      exact ⟨rfl, hbl, hc0, hc1, hc2, hc3, hc4⟩
    · obtain ⟨i, hi, rfl⟩ := List.mem_map.1 hx
      exact (hf2 i (by simpa using hi)).1
end Go.Proofs.YthgndgoljchnfaaGreat
