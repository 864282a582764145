import Derived.Test.YtnjodhglbapnlaaGreatGc07
import Derived.Test.YtnjodhglbapnlaaGreatGc05
import Derived.Test.YtnjodhglbapnlaaGreatGc03
import Derived.Test.YtnjodhglbapnlaaGreatGc02
import Derived.Carry
import Derived.Deep.Slices
import Derived.Lib.SmallJoins
import Derived.ChangeSlices
import Derived.SliceStrings
set_option maxRecDepth 100000
set_option maxHeartbeats 16000000
namespace Go.Proofs.YtnjodhglbapnlaaGreat
open Go.RowKit
section
variable {SH : World → Nat → Int → List Item → List Nat → Prop} {W w w1 : World} {P : List Nat} {gs gr : Nat} {l lr : List Item}
end
def yhx (W : World) (A : Option Addr) (zs : List Item) : Prop :=
 ∃ b off, ∀ i (h : i < zs.length), A = some ⟨b, off, none⟩ ∧ b < W.heap.size ∧ W.cell? ⟨b, off + i * 2, none⟩ = some (.string (zs[i]).1) ∧ W.cell? ⟨b, off + i * 2 + 1, none⟩ = some (.string (zs[i]).2)
open Go.ChangeShapes Go.WideShapes Go.ChangeAt Go.RowKit Go.Deep
theorem Tryz.laidOut : laidOutB Tryz.prog = true := by kernel_rfl
theorem ysg {H : Type} {enc : TypeId × Value → H} {W : World} {base : Nat} {t e : TypeId} {f0 f1 : Field} {v : Value} {d : DataW H} {p : List MemPlace}
  (ht : Tryz.prog.underlying t = some (.slice e)) (he : Tryz.prog.underlying e = some (.struct #[f0, f1])) (ce : Tryz.prog.cellsOf e = 2) (o0 : f0.offset = 0) (o1 : f1.offset = 1)
  (c0 : Tryz.prog.cellsOf f0.type = 1) (c1 : Tryz.prog.cellsOf f1.type = 1) (u0 : Tryz.prog.underlying f0.type = some .string) (u1 : Tryz.prog.underlying f1.type = some .string)
  (hok : Value.okWide Tryz.prog W .any base t v) (h : DataW.Trod enc Tryz.prog W 0 (fun _ => true) true t v d p) :
  ∃ (A : Option Addr) (cap : Nat) (zs : List Item), v = .slice A zs.length cap ∧ zs.length ≤ 9223372036854775807 ∧ zs.length ≤ cap ∧ (cap ≤ maxLen ∧ (A = none → cap = 0)) ∧ yhx W A zs := by
 obtain ⟨a0, len, cap, rfl⟩ := okWide_slice ht hok
 obtain ⟨fuel, hf⟩ := h
 rcases open_slice ht hf with ⟨hcs, _⟩ | ⟨a, len', cap', m, n, D, Pl, hcs, hb, hl, hm, hmm, hx, hall⟩
 ·have hcs : [Value.slice a0 len cap] = [.slice none 0 0] := hcs
  injection hcs with hcs _
  injection hcs with e1 e2 e3
  subst e1 e2 e3
  exact ⟨_, _, [], rfl, by simp, by simp, ⟨by unfold maxLen; omega, fun _ => rfl⟩, 0, 0, fun i hi => by simp at hi⟩
 ·have hcs : [Value.slice a0 len cap] = [.slice (some a) len' cap'] := hcs
  injection hcs with hcs _
  injection hcs with e1 e2 e3
  subst e1 e2 e3
  simp only [if_true] at hmm
  have each : ∀ i, i < len → ∃ q : Item, W.cell? (a.add (i * 2)) = some (.string q.1) ∧ W.cell? (a.add (i * 2 + 1)) = some (.string q.2) := by
   intro i hi
   obtain ⟨cs', h1, h2⟩ := hall i (by omega)
   rw [ce] at h1
   obtain ⟨_, hlen, hcell⟩ := World.cells?_some h1
   obtain ⟨xs, k, hk, hxy, _, hxl, hfs⟩ := DataW.trod_struct he h2
   match xs, hxl, cs', hlen with
   | [y0, y1], _, [v0, v1], _ =>
    have g0 := hfs 0 f0 rfl
    have g1 := hfs 1 f1 rfl
    simp [o0, o1, c0, c1] at g0 g1
    have z0 := hcell 0 (by omega)
    have z1 := hcell 1 (by omega)
    rw [add_add] at z0 z1
    obtain ⟨x0, q0, _⟩ := DataW.trod_string u0 g0
    obtain ⟨x1, q1, _⟩ := DataW.trod_string u1 g1
    injection q0 with q0 _
    injection q1 with q1 _
    subst q0 q1
    exact ⟨(x0, x1), by simpa using z0, by simpa using z1⟩
  obtain ⟨q, hq⟩ := choose_lt each
  refine ⟨some a, cap, (List.range len).map q, by simp, by simp; unfold maxLen at hm; omega, by simpa using hl, ⟨hm, fun z => by cases z⟩, a.block, a.off, fun i hi => ?_⟩
  have hi' : i < len := by simpa using hi
  obtain ⟨e0, e1⟩ := hq i hi'
  obtain ⟨b, off, spot⟩ := a
  have hspot : spot = none := by simpa [Addr.add] using World.cell?_spot (hq 0 (by omega)).1
  subst hspot
  rw [add_plain] at e0 e1
  have hbl : b < W.heap.size := block_lt_of_cell e0
  refine ⟨rfl, hbl, ?_, ?_⟩
  ·simpa using e0
  ·simpa [Nat.add_assoc] using e1
theorem ysh {H : Type} {enc : TypeId × Value → H} {W : World} {base : Nat} {t e : TypeId} {f0 f1 : Field} {v : Value} {d : DataW H} {p : List MemPlace}
  (ht : Tryz.prog.underlying t = some (.slice e)) (he : Tryz.prog.underlying e = some (.struct #[f0, f1])) (ce : Tryz.prog.cellsOf e = 2) (o0 : f0.offset = 0) (o1 : f1.offset = 1)
  (c0 : Tryz.prog.cellsOf f0.type = 1) (c1 : Tryz.prog.cellsOf f1.type = 1) (u0 : Tryz.prog.underlying f0.type = some .string) (u1 : Tryz.prog.underlying f1.type = some .string)
  (hok : Value.okWide Tryz.prog W .any base t v) (h : DataW.Trod enc Tryz.prog W 0 (fun _ => true) true t v d p) :
  ∃ (A : Option Addr) (cap : Nat) (zs : List Item), v = .slice A zs.length cap ∧ zs.length ≤ 9223372036854775807 ∧ yhx W A zs := by
 obtain ⟨A, cap, zs, h1, h2, _, _, h3⟩ := ysg ht he ce o0 o1 c0 c1 u0 u1 hok h
 exact ⟨A, cap, zs, h1, h2, h3⟩
open Go.ChangeShapes Go.WideShapes Go.ChangeAt Go.RowKit
theorem yge {H : Type} {enc : TypeId × Value → H} {W : World} {n : Nat} {fs : Array Field} {cs : List Value} {xs : List (DataW H × List MemPlace)}
  (hf : ∀ (i : Nat) (f : Field), fs[i]? = some f → DataW.trod enc Tryz.prog W 0 (fun _ => true) true n f.type ((cs.drop f.offset).take (Tryz.prog.cellsOf f.type)) = xs[i]?)
  (i : Nat) (f : Field) (h : fs[i]? = some f) (hlt : i < xs.length) (T : TypeId) (off k : Nat) (hT : f.type = T) (ho : f.offset = off) (hk : Tryz.prog.cellsOf T = k) :
  ∃ y, DataW.trod enc Tryz.prog W 0 (fun _ => true) true n T ((cs.drop off).take k) = some y := by
 have e := hf i f h
 rw [hT, ho, hk, List.getElem?_eq_getElem hlt] at e
 exact ⟨_, e⟩
theorem ysi {cs : List Value} (h : cs.length = 5) : ∃ a b c d e, cs = [a, b, c, d, e] := by
 match cs, h with
 | [a, b, c, d, e], _ => exact ⟨a, b, c, d, e, rfl⟩
def ysj (W : World) (A0 : Option Addr) (zs : List AK) : Prop := ∃ b off, ∀ i (h : i < zs.length), A0 = some ⟨b, off, none⟩ ∧ b < W.heap.size ∧ W.cell? ⟨b, off + i * 5, none⟩ = some (.int .i64 (zs[i]).op) ∧ W.cell? ⟨b, off + i * 5 + 1, none⟩ = some (.string (zs[i]).key) ∧ W.cell? ⟨b, off + i * 5 + 2, none⟩ = some (.string (zs[i]).val) ∧ W.cell? ⟨b, off + i * 5 + 3, none⟩ = some (.string (zs[i]).tt) ∧ W.cell? ⟨b, off + i * 5 + 4, none⟩ = some (.int .i64 (zs[i]).most)
theorem ysk {H : Type} {enc : TypeId × Value → H} {W : World} {fuel : Nat} {cs : List Value} {x : DataW H × List MemPlace}
  (h : DataW.trod enc Tryz.prog W 0 (fun _ => true) true fuel 45 cs = some x) : ∃ o : AK, cs = o.cells.toList ∧ o.Fit := by
 obtain ⟨hxs, hn, -, -, hl, hll, hf⟩ := DataW.trod_struct Tryz.underlying45 h
 have hl : cs.length = 5 := hl.trans (by kernel_rfl)
 have hxl : hxs.length = 5 := hll
 clear hll h
 obtain ⟨c0, c1, c2, c3, c4, rfl⟩ := ysi hl
 obtain ⟨y0, g0⟩ := yge hf 0 _ rfl (by simp only [hxl]; decide) 3 0 1 rfl rfl (by kernel_rfl)
 have g0 : DataW.trod enc Tryz.prog W 0 (fun _ => true) true hn 3 [c0] = some y0 := g0
 obtain ⟨y1, g1⟩ := yge hf 1 _ rfl (by simp only [hxl]; decide) 9 1 1 rfl rfl (by kernel_rfl)
 have g1 : DataW.trod enc Tryz.prog W 0 (fun _ => true) true hn 9 [c1] = some y1 := g1
 obtain ⟨y2, g2⟩ := yge hf 2 _ rfl (by simp only [hxl]; decide) 9 2 1 rfl rfl (by kernel_rfl)
 have g2 : DataW.trod enc Tryz.prog W 0 (fun _ => true) true hn 9 [c2] = some y2 := g2
 obtain ⟨y3, g3⟩ := yge hf 3 _ rfl (by simp only [hxl]; decide) 9 3 1 rfl rfl (by kernel_rfl)
 have g3 : DataW.trod enc Tryz.prog W 0 (fun _ => true) true hn 9 [c3] = some y3 := g3
 obtain ⟨y4, g4⟩ := yge hf 4 _ rfl (by simp only [hxl]; decide) 3 4 1 rfl rfl (by kernel_rfl)
 have g4 : DataW.trod enc Tryz.prog W 0 (fun _ => true) true hn 3 [c4] = some y4 := g4
 obtain ⟨op, eq0, -, w0⟩ := DataW.trod_int Tryz.underlying3 g0
 injection eq0 with eq0 _; subst eq0
 obtain ⟨key, eq1, -, w1⟩ := DataW.trod_string Tryz.underlying9 g1
 injection eq1 with eq1 _; subst eq1
 obtain ⟨val, eq2, -, w2⟩ := DataW.trod_string Tryz.underlying9 g2
 injection eq2 with eq2 _; subst eq2
 obtain ⟨tt, eq3, -, w3⟩ := DataW.trod_string Tryz.underlying9 g3
 injection eq3 with eq3 _; subst eq3
 obtain ⟨mo, eq4, -, w4⟩ := DataW.trod_int Tryz.underlying3 g4
 injection eq4 with eq4 _; subst eq4
 have b0 := wf_i64 w0
 have b4 := wf_i64 w4
 exact ⟨⟨op, key, val, tt, mo⟩, rfl, ⟨⟨b0.1, by show op ≤ _; omega⟩, w1, w2, w3, ⟨b4.1, by show mo ≤ _; omega⟩⟩⟩
theorem ysl {H : Type} {enc : TypeId × Value → H} {W : World} {base : Nat} {v : Value} {d : DataW H} {p : List MemPlace}
  (hok : Value.okWide Tryz.prog W .any base 71 v) (h : DataW.Trod enc Tryz.prog W 0 (fun _ => true) true 71 v d p) :
  ∃ (A : Option Addr) (c : Nat) (os : List AK), v = .slice A os.length c ∧ os.length ≤ 9223372036854775807 ∧ ysj W A os ∧ ∀ x ∈ os, x.Fit := by
 obtain ⟨fuel, hf⟩ := h
 obtain ⟨A0, n0, c0, rfl⟩ := okWide_slice Tryz.underlying71 hok
 have hf : DataW.trod enc Tryz.prog W 0 (fun _ => true) true fuel 71 [.slice A0 n0 c0] = some (d, p) := hf
 rcases open_slice Tryz.underlying71 hf with ⟨hcs, _⟩ | ⟨a, len, cap, m, n, D, Pl, hcs, hb, hl, hm, hmm, hx, hall⟩
 ·injection hcs with hcs _
  injection hcs with h1 h2 h3
  subst h1 h2 h3
  exact ⟨none, 0, [], rfl, by simp, ⟨0, 0, fun i hi => by simp at hi⟩, fun x hx => by cases hx⟩
 ·injection hcs with hcs _
  injection hcs with h1 h2 h3
  subst h1 h2 h3
  simp only [if_true] at hmm
  have ce : Tryz.prog.cellsOf 45 = 5 := by kernel_rfl
  have each : ∀ i, i < n0 → ∃ o : AK, o.Fit ∧ ∀ j v, o.cells.toList[j]? = some v → W.cell? ((a.add (i * 5)).add j) = some v := by
   intro i hi
   obtain ⟨cs', h1, h2⟩ := hall i (by omega)
   rw [ce] at h1
   obtain ⟨_, hlen, hcell⟩ := World.cells?_some h1
   obtain ⟨o, e, ho⟩ := ysk h2
   refine ⟨o, ho, fun j v hj => ?_⟩
   rw [← e] at hj
   have hj2 := (List.getElem?_eq_some_iff.1 hj).1
   rw [← hj]
   exact hcell j (by omega)
  have : Inhabited AK := ⟨⟨0, ByteArray.empty, ByteArray.empty, ByteArray.empty, 0⟩⟩
  obtain ⟨f, hf2⟩ := choose_lt each
  refine ⟨some a, c0, (List.range n0).map f, by simp, by simp; unfold maxLen at hm; omega, ⟨a.block, a.off, fun i hi => ?_⟩, fun x hx => ?_⟩
  ·have hi : i < n0 := by simpa using hi
   obtain ⟨o1, o2⟩ := hf2 i hi
   obtain ⟨b, off, spot⟩ := a
   have hc00 := (hf2 0 (by omega)).2 0 _ rfl
   have hspot : spot = none := by simpa [Addr.add] using World.cell?_spot hc00
   subst hspot
   have hc0 := o2 0 _ rfl
   have hc1 := o2 1 _ rfl
   have hc2 := o2 2 _ rfl
   have hc3 := o2 3 _ rfl
   have hc4 := o2 4 _ rfl
   simp only [add_plain, Nat.add_zero] at hc0 hc1 hc2 hc3 hc4
   have hbl := World.block_lt_of_cell? W _ hc0
   have e : ((List.range n0).map f)[i]'(by simpa using hi) = f i := by simp
   rw [e]
   exact ⟨rfl, hbl, hc0, hc1, hc2, hc3, hc4⟩
  ·obtain ⟨i, hi, rfl⟩ := List.mem_map.1 hx
   exact (hf2 i (by simpa using hi)).1
def keyJ (b : Bool) (p : AO) : Int := if b then 0 else p.e
def mayJ (b : Bool) (p q : AO) : Bool := b || p.e == q.e
def yap (p q : AO) : AO := ⟨p.f, q.t, p.n, max p.e q.e⟩
def okJ (b : Bool) (p q : AO) : Bool := ((p.t == q.f) && yat p.f p.t q.f q.t) && mayJ b p q
theorem yjo {b : Bool} {p q : AO} : mayJ b p q = true ↔ keyJ b p = keyJ b q := by
 unfold mayJ keyJ
 cases b <;> simp
theorem ysm {b : Bool} {p q : AO} : mayJ b p q = false ↔ keyJ b p ≠ keyJ b q := by
 rw [← Bool.not_eq_true, yjo]
def mgJ (b : Bool) : List AO → List AO → List AO
 | M, [] => M
 | M, o :: K => match M.getLast? with
  | some p => if okJ b p o = true then mgJ b (M.dropLast ++ [yap p o]) K else mgJ b (M ++ [o]) K
  | none => mgJ b (M ++ [o]) K
def yd5 (b : Bool) (M : List AO) : List AO := match M with
 | [] => []
 | p :: A => match A.getLast? with
  | some q => if okJ b q p = true then A.dropLast ++ [yap q p] else p :: A
  | none => p :: A
def yde : List AO → List AO
 | [p] => if p.f = p.t then [⟨0, 0, p.n, p.e⟩] else [p]
 | M => M
theorem ysn (b : Bool) (p : AO) : yd5 b [p] = [p] := rfl
theorem yjp (b : Bool) (p q : AO) (A : List AO) : yd5 b (p :: (A ++ [q])) = if okJ b q p = true then A ++ [yap q p] else p :: (A ++ [q]) := by
 unfold yd5
 simp
theorem ygf (p : AO) : yde [p] = if p.f = p.t then [⟨0, 0, p.n, p.e⟩] else [p] := rfl
def ya1 (b : Bool) (D : List AO) : List AO := yde (yd5 b (mgJ b [] D))
def Ln (p q : AO) : Prop := p.f < p.t ∧ p.t ≤ q.f ∧ (q.f < q.t ∨ q.t ≤ p.f)
abbrev AO.lt (p : AO) : Prop := p.f < 18446744073709551616 ∧ p.t < 18446744073709551616
theorem yso {p q : AO} (hp : p.lt) (hq : q.lt) (h : p.f < q.f) (ha : yat p.f p.t q.f q.t = true) : Ln p q := by
 rw [yc9, ya3, ya3] at ha
 have h1 := yaf hq.1 hp.1
 have h2 := yaf hp.2 hp.1
 have h3 := yaf hp.1 hq.1
 have h4 := yaf hq.2 hq.1
 obtain ⟨a, b⟩ := hp
 obtain ⟨c, d⟩ := hq
 unfold Ln
 omega
theorem yhy {p q : AO} (hp : p.lt) (hq : q.lt) (h : Ln p q) : yat p.f p.t q.f q.t = true := by
 rw [yc9, ya3, ya3]
 have h1 := yaf hq.1 hp.1
 have h2 := yaf hp.2 hp.1
 have h3 := yaf hp.1 hq.1
 have h4 := yaf hq.2 hq.1
 obtain ⟨a, b⟩ := hp
 obtain ⟨c, d⟩ := hq
 unfold Ln at h
 omega
theorem ymf {p q : AO} (hp : p.lt) (hq : q.lt) (h : p.t = q.f) (ha : yat p.f p.t q.f q.t = true) {x : Nat} (hx : x < 18446744073709551616) : (yap p q).has x = (p.has x || q.has x) := by
 obtain ⟨pf, pt, pn, pe⟩ := p
 obtain ⟨qf, qt, qn, qe⟩ := q
 simp only at h
 subst h
 rw [yc9, ya3, ya3] at ha
 show inB pf qt x = (inB pf pt x || inB pt qt x)
 rw [Bool.eq_iff_iff, Bool.or_eq_true, ya3, ya3, ya3]
 simp only [AO.lt] at hp hq ha
 have h1 := yaf hq.1 hp.1
 have h2 := yaf hp.1 hq.1
 have h3 := yaf hq.2 hq.1
 have h4 := yaf hq.2 hp.1
 have h5 := yaf hx hp.1
 have h6 := yaf hx hq.1
 have h7 := yaf hq.1 hq.1
 have h8 := yaf hp.1 hp.1
 omega
structure CovJ (b : Bool) (D M : List AO) : Prop where
 c1 : ∀ o ∈ D, ∃ p ∈ M, keyJ b p = keyJ b o ∧ o.e ≤ p.e ∧ ∀ x, x < 18446744073709551616 → o.has x = true → p.has x = true
 c2 : ∀ p ∈ M, ∀ x, x < 18446744073709551616 → p.has x = true → ∃ o ∈ D, o.has x = true ∧ keyJ b o = keyJ b p
 c3 : ∀ p ∈ M, ∃ o ∈ D, o.e = p.e ∧ ∀ x, x < 18446744073709551616 → o.has x = true → p.has x = true
 lt : (∀ o ∈ D, o.lt) → ∀ p ∈ M, p.lt
 nd : (∀ o ∈ D, o.n = 0) → ∀ p ∈ M, p.n = 0
 len : M.length ≤ D.length
theorem CovJ.refl (b : Bool) (D : List AO) : CovJ b D D := ⟨fun o h => ⟨o, h, rfl, Int.le_refl _, fun _ _ z => z⟩, fun p h _ _ z => ⟨p, h, z, rfl⟩, fun p h => ⟨p, h, rfl, fun _ _ z => z⟩, fun h => h, fun h => h, Nat.le_refl _⟩
theorem CovJ.trans {b : Bool} {D M N : List AO} (h : CovJ b D M) (k : CovJ b M N) : CovJ b D N where
 c1 o ho := by
  obtain ⟨p, hp, h1, h2, h3⟩ := h.c1 o ho
  obtain ⟨q, hq, k1, k2, k3⟩ := k.c1 p hp
  exact ⟨q, hq, k1.trans h1, by omega, fun x y z => k3 x y (h3 x y z)⟩
 c2 q hq x hx z := by
  obtain ⟨p, hp, k1, k2⟩ := k.c2 q hq x hx z
  obtain ⟨o, ho, h1, h2⟩ := h.c2 p hp x hx k1
  exact ⟨o, ho, h1, h2.trans k2⟩
 c3 q hq := by
  obtain ⟨p, hp, k1, k2⟩ := k.c3 q hq
  obtain ⟨o, ho, h1, h2⟩ := h.c3 p hp
  exact ⟨o, ho, h1.trans k1, fun x hx z => k2 x hx (h2 x hx z)⟩
 lt z := k.lt (h.lt z)
 nd z := k.nd (h.nd z)
 len := Nat.le_trans k.len h.len
theorem CovJ.both {b : Bool} {D M : List AO} {p q : AO} (hp : p ∈ D) (hq : q ∈ D) (ok : okJ b p q = true) (lp : p.lt) (lq : q.lt) (hl : M.length ≤ D.length) (h1 : ∀ o ∈ D, o = p ∨ o = q ∨ o ∈ M) (h2 : ∀ o ∈ M, o = yap p q ∨ o ∈ D) (h3 : yap p q ∈ M) : CovJ b D M := by
 unfold okJ at ok
 simp only [Bool.and_eq_true, beq_iff_eq] at ok
 obtain ⟨⟨e, ha⟩, hm⟩ := ok
 rw [yjo] at hm
 have hk : keyJ b (yap p q) = keyJ b p := by
  unfold keyJ at hm ⊢
  cases b
  ·simp only [Bool.false_eq_true, if_false] at hm ⊢
   show max p.e q.e = p.e
   omega
  ·rfl
 have hx : ∀ x, x < 18446744073709551616 → (yap p q).has x = (p.has x || q.has x) := fun x hx => ymf lp lq e ha hx
 refine ⟨fun o ho => ?_, fun r hr x hx' z => ?_, fun r hr => ?_, fun hD r hr => ?_, fun hD r hr => ?_, hl⟩
 ·rcases h1 o ho with rfl | rfl | z
  ·exact ⟨_, h3, hk, by show o.e ≤ max o.e q.e; omega, fun x y z => by rw [hx x y, z]; rfl⟩
  ·exact ⟨_, h3, hk.trans hm, by show o.e ≤ max p.e o.e; omega, fun x y z => by rw [hx x y, z]; simp⟩
  ·exact ⟨o, z, rfl, Int.le_refl _, fun _ _ y => y⟩
 ·rcases h2 r hr with rfl | y
  ·rw [hx x hx', Bool.or_eq_true] at z
   rcases z with z | z
   ·exact ⟨p, hp, z, hk.symm⟩
   ·exact ⟨q, hq, z, by rw [hk, hm]⟩
  ·exact ⟨r, y, z, rfl⟩
 ·rcases h2 r hr with rfl | y
  ·by_cases c : q.e ≤ p.e
   ·exact ⟨p, hp, by show p.e = max p.e q.e; omega, fun x y z => by rw [hx x y, z]; rfl⟩
   ·exact ⟨q, hq, by show q.e = max p.e q.e; omega, fun x y z => by rw [hx x y, z]; simp⟩
  ·exact ⟨r, y, rfl, fun _ _ z => z⟩
 ·rcases h2 r hr with rfl | y
  ·exact ⟨lp.1, lq.2⟩
  ·exact hD r y
 ·rcases h2 r hr with rfl | y
  ·exact hD p hp
  ·exact hD r y
def NJr (b : Bool) (p q : AO) : Prop := p.t = q.f → keyJ b p ≠ keyJ b q
abbrev NJ (b : Bool) (M : List AO) : Prop := M.Pairwise (NJr b)
theorem ymg {b : Bool} {p q : AO} (ok : okJ b p q = true) : p.t = q.f ∧ keyJ b p = keyJ b q ∧ keyJ b (yap p q) = keyJ b p := by
 unfold okJ at ok
 simp only [Bool.and_eq_true, beq_iff_eq] at ok
 obtain ⟨⟨e, ha⟩, hm⟩ := ok
 rw [yjo] at hm
 refine ⟨e, hm, ?_⟩
 unfold keyJ at hm ⊢
 cases b
 ·simp only [Bool.false_eq_true, if_false] at hm ⊢
  show max p.e q.e = p.e
  omega
 ·rfl
theorem ymh {b : Bool} {p q : AO} (ha : yat p.f p.t q.f q.t = true) (no : ¬ okJ b p q = true) (e : p.t = q.f) : keyJ b p ≠ keyJ b q := by
 rw [← ysm]
 unfold okJ at no
 rw [ha, e] at no
 simpa using no
theorem ymi {R : AO → AO → Prop} {A K : List AO} {p : AO} (h : (A ++ [p] ++ K).Pairwise R) : (∀ a ∈ A, R a p) ∧ (∀ k ∈ K, R p k) ∧ (∀ a ∈ A, ∀ k ∈ K, R a k) ∧ A.Pairwise R ∧ K.Pairwise R := by
 rw [List.append_assoc, List.pairwise_append] at h
 obtain ⟨h1, h2, h3⟩ := h
 rw [List.singleton_append, List.pairwise_cons] at h2
 exact ⟨fun a ha => h3 a ha p (by simp), h2.1, fun a ha k hk => h3 a ha k (by simp [hk]), h1, h2.2⟩
theorem yjq {R : AO → AO → Prop} {A K : List AO} {p : AO} (h1 : ∀ a ∈ A, R a p) (h2 : ∀ k ∈ K, R p k) (h3 : ∀ a ∈ A, ∀ k ∈ K, R a k) (h4 : A.Pairwise R) (h5 : K.Pairwise R) : (A ++ [p] ++ K).Pairwise R := by
 rw [List.append_assoc, List.pairwise_append, List.singleton_append]
 refine ⟨h4, List.pairwise_cons.2 ⟨h2, h5⟩, fun a ha x hx => ?_⟩
 rcases List.mem_cons.1 hx with rfl | z
 ·exact h1 a ha
 ·exact h3 a ha x z
theorem yhz (b : Bool) : ∀ (K M : List AO), (M ++ K).Pairwise Ln → (∀ o ∈ M ++ K, o.lt) → NJ b M → (mgJ b M K).Pairwise Ln ∧ NJ b (mgJ b M K) ∧ CovJ b (M ++ K) (mgJ b M K)
 | [], M, h, hl, hn => by
  rw [List.append_nil] at h ⊢
  exact ⟨h, hn, CovJ.refl _ _⟩
 | o :: K, M, h, hl, hn => by
  rcases List.eq_nil_or_concat M with rfl | ⟨A, p, rfl⟩
  ·show (mgJ b ([] ++ [o]) K).Pairwise Ln ∧ NJ b (mgJ b ([] ++ [o]) K) ∧ CovJ b ([] ++ o :: K) (mgJ b ([] ++ [o]) K)
   exact yhz b K ([] ++ [o]) h hl (by simp [NJ])
  ·rw [List.concat_eq_append] at h hl hn ⊢
   have hlp : p.lt := hl p (by simp)
   have hlo : o.lt := hl o (by simp)
   unfold mgJ
   rw [List.getLast?_append, List.getLast?_singleton]
   simp only [Option.some_or, List.dropLast_concat]
   obtain ⟨a1, a2, a3, a4, a5⟩ := ymi h
   have hpo := a2 o (by simp)
   obtain ⟨b2, b5⟩ := List.pairwise_cons.1 a5
   obtain ⟨n1, _, _, n4, _⟩ := ymi (K := []) ((List.append_nil (A ++ [p])).symm ▸ hn)
   by_cases ok : okJ b p o = true
   ·rw [if_pos ok]
    obtain ⟨e, k1, k2⟩ := ymg ok
    have hln : (A ++ [yap p o] ++ K).Pairwise Ln := yjq
     (fun a ha => by
      have z1 := a1 a ha
      have z2 := a3 a ha o (by simp)
      unfold Ln at hpo z1 z2 ⊢
      simp only [yap]
      omega)
     (fun k hk => by
      have z1 := a2 k (by simp [hk])
      have z2 := b2 k hk
      unfold Ln at hpo z1 z2 ⊢
      simp only [yap]
      omega) (fun a ha k hk => a3 a ha k (by simp [hk])) a4 b5
    obtain ⟨r1, r2, r3⟩ := yhz b K (A ++ [yap p o]) hln
     (fun x hx => by
      simp only [List.mem_append, List.mem_singleton] at hx
      rcases hx with (hx | rfl) | hx
      ·exact hl x (by simp [hx])
      ·exact ⟨hlp.1, hlo.2⟩
      ·exact hl x (by simp [hx]))
     (by
      have := yjq (K := []) (p := yap p o) (R := NJr b) (fun a ha z => by rw [k2]; exact n1 a ha z) (by simp) (by simp) n4 List.Pairwise.nil
      rwa [List.append_nil] at this)
    refine ⟨r1, r2, CovJ.trans ?_ r3⟩
    refine CovJ.both (p := p) (q := o) (by simp) (by simp) ok hlp hlo (by simp) (fun x hx => ?_) (fun x hx => ?_) (by simp)
    ·rcases List.mem_append.1 hx with hx | hx
     ·rcases List.mem_append.1 hx with hx | hx
      ·exact .inr (.inr (by simp [hx]))
      ·exact .inl (List.mem_singleton.1 hx)
     ·rcases List.mem_cons.1 hx with hx | hx
      ·exact .inr (.inl hx)
      ·exact .inr (.inr (by simp [hx]))
    ·rcases List.mem_append.1 hx with hx | hx
     ·rcases List.mem_append.1 hx with hx | hx
      ·exact .inr (by simp [hx])
      ·exact .inl (List.mem_singleton.1 hx)
     ·exact .inr (by simp [hx])
   ·rw [if_neg ok]
    have e : A ++ [p] ++ o :: K = A ++ [p] ++ [o] ++ K := by simp
    rw [e] at h hl ⊢
    refine yhz b K (A ++ [p] ++ [o]) h hl ?_
    have := yjq (K := []) (p := o) (A := A ++ [p]) (R := NJr b) (fun a ha z => by
     rcases List.mem_append.1 ha with ha | ha
     ·have z1 := a1 a ha
      unfold Ln at hpo z1
      omega
     ·rw [List.mem_singleton.1 ha] at z ⊢
      exact ymh (yhy hlp hlo hpo) ok z) (by simp) (by simp) hn List.Pairwise.nil
    rwa [List.append_nil] at this
def FC (b : Bool) (r : List AO) : Prop := ∀ p ∈ r, ∀ q ∈ r, p.f ≠ p.t → p.t = q.f → keyJ b p ≠ keyJ b q
theorem yjr {R : AO → AO → Prop} : ∀ {l : List AO}, l.Pairwise R → ∀ {a c : AO}, a ∈ l → c ∈ l → a = c ∨ R a c ∨ R c a
 | [], _, _, _, h, _ => by cases h
 | x :: l, h, a, c, ha, hc => by
  obtain ⟨h1, h2⟩ := List.pairwise_cons.1 h
  rcases List.mem_cons.1 ha with rfl | ha
  ·rcases List.mem_cons.1 hc with e | hc
   ·exact .inl e.symm
   ·exact .inr (.inl (h1 c hc))
  ·rcases List.mem_cons.1 hc with e | hc
   ·exact .inr (.inr (by rw [e]; exact h1 a ha))
   ·exact yjr h2 ha hc
theorem yjs {b : Bool} {r : List AO} (h : r.Pairwise Ln) (hn : NJ b r) (hw : ∀ p A q, r = p :: (A ++ [q]) → q.t = p.f → keyJ b q ≠ keyJ b p) : FC b r := by
 intro x hx y hy hne e
 have hh : r.Pairwise fun p q => Ln p q ∧ (p.t = q.f → keyJ b p ≠ keyJ b q) := List.pairwise_and_iff.2 ⟨h, hn⟩
 rcases yjr hh hx hy with rfl | z | z
 ·exact absurd e.symm hne
 ·exact z.2 e
 ·have z := z.1
  cases r with
  | nil => cases hx
  | cons p B =>
   obtain ⟨h1, h2⟩ := List.pairwise_cons.1 h
   rcases List.eq_nil_or_concat B with rfl | ⟨A, q, rfl⟩
   ·simp only [List.mem_singleton] at hx hy
    subst hx hy
    exact absurd e.symm hne
   ·rw [List.concat_eq_append] at *
    have hyp : y = p := by
     rcases List.mem_cons.1 hy with w | w
     ·exact w
     ·have c1 := h1 y w
      rcases List.mem_cons.1 hx with w' | w'
      ·subst w'
       unfold Ln at c1 z
       omega
      ·have c2 := h1 x w'
       unfold Ln at c1 c2 z
       omega
    have hxq : x = q := by
     rcases List.mem_cons.1 hx with w | w
     ·subst w
      rw [hyp] at z
      unfold Ln at z
      omega
     ·rcases List.mem_append.1 w with w | w
      ·have c := (List.pairwise_append.1 h2).2.2 x w q (by simp)
       unfold Ln at c z
       omega
      ·exact List.mem_singleton.1 w
    subst hyp hxq
    exact hw _ _ _ rfl e
theorem ysp {b : Bool} {M : List AO} (h : M.Pairwise Ln) (hl : ∀ o ∈ M, o.lt) (hn : NJ b M) : (yd5 b M).Pairwise Ln ∧ FC b (yd5 b M) ∧ CovJ b M (yd5 b M) := by
 cases M with
 | nil => exact ⟨List.Pairwise.nil, (fun p hp => by cases hp), CovJ.refl _ _⟩
 | cons p B =>
  rcases List.eq_nil_or_concat B with rfl | ⟨A, q, rfl⟩
  ·rw [ysn]
   refine ⟨h, yjs h hn (fun p' A q e => ?_), CovJ.refl _ _⟩
   have := congrArg List.length e
   simp at this
  ·rw [List.concat_eq_append] at *
   rw [yjp]
   have hlp : p.lt := hl p (by simp)
   have hlq : q.lt := hl q (by simp)
   obtain ⟨h1, h2⟩ := List.pairwise_cons.1 h
   obtain ⟨h3, _, h4⟩ := List.pairwise_append.1 h2
   have hpq := h1 q (by simp)
   obtain ⟨n1, n2⟩ := List.pairwise_cons.1 hn
   obtain ⟨n3, _, n4⟩ := List.pairwise_append.1 n2
   by_cases ok : okJ b q p = true
   ·rw [if_pos ok]
    obtain ⟨e, k1, k2⟩ := ymg ok
    have hln : (A ++ [yap q p]).Pairwise Ln := by
     refine List.pairwise_append.2 ⟨h3, by simp, fun a ha x hx => ?_⟩
     rw [List.mem_singleton.1 hx]
     have z1 := h1 a (by simp [ha])
     have z2 := h4 a ha q (by simp)
     unfold Ln at hpq z1 z2 ⊢
     simp only [yap]
     omega
    have hnj : NJ b (A ++ [yap q p]) := by
     refine List.pairwise_append.2 ⟨n3, by simp, fun a ha x hx => ?_⟩
     rw [List.mem_singleton.1 hx]
     intro z
     rw [k2]
     exact n4 a ha q (by simp) z
    refine ⟨hln, yjs hln hnj (fun p' A' q' e' w => ?_), ?_⟩
    ·cases A with
     | nil =>
      have := congrArg List.length e'
      simp at this
     | cons a A =>
      rw [List.cons_append] at e'
      obtain ⟨ea, e1⟩ := List.cons.inj e'
      have e2 := List.singleton_inj.1 (List.append_inj' e1 rfl).2
      rw [← e2, ← ea] at w
      rw [← e2, ← ea, k2, k1]
      exact n1 a (by simp) w
    ·refine CovJ.both (p := q) (q := p) (by simp) (by simp) ok hlq hlp (by simp) (fun x hx => ?_) (fun x hx => ?_) (by simp)
     ·rcases List.mem_cons.1 hx with hx | hx
      ·exact .inr (.inl hx)
      ·rcases List.mem_append.1 hx with hx | hx
       ·exact .inr (.inr (by simp [hx]))
       ·exact .inl (List.mem_singleton.1 hx)
     ·rcases List.mem_append.1 hx with hx | hx
      ·exact .inr (by simp [hx])
      ·exact .inl (List.mem_singleton.1 hx)
   ·rw [if_neg ok]
    refine ⟨h, yjs h hn (fun p' A' q' e' w => ?_), CovJ.refl _ _⟩
    obtain ⟨ea, e1⟩ := List.cons.inj e'
    have e2 := List.singleton_inj.1 (List.append_inj' e1 rfl).2
    rw [← e2, ← ea] at w ⊢
    exact ymh (by rw [yfx]; exact yhy hlp hlq hpq) ok w
theorem ysq {b : Bool} {M : List AO} (h : M.Pairwise Ln) (hf : FC b M) : (yde M).Pairwise Ln ∧ FC b (yde M) ∧ CovJ b M (yde M) ∧ ∀ p ∈ yde M, p.f = p.t → p.f = 0 := by
 match M with
 | [] => exact ⟨h, hf, CovJ.refl _ _, (fun p hp => by cases hp)⟩
 | [p] =>
  rw [ygf]
  by_cases e : p.f = p.t
  ·rw [if_pos e]
   have hx : ∀ x, p.has x = true := fun x => by show inB p.f p.t x = true; rw [e]; exact yfw _ _
   have hk : keyJ b ⟨0, 0, p.n, p.e⟩ = keyJ b p := rfl
   refine ⟨by simp, fun x hx y hy => ?_, ⟨fun o ho => ⟨_, List.mem_singleton.2 rfl, ?_, ?_, fun x _ _ => yfw _ _⟩, fun q hq x _ _ => ⟨p, by simp, hx x, ?_⟩, fun q hq => ⟨p, by simp, ?_, fun x _ _ => ?_⟩, fun _ q hq => ?_, fun z q hq => ?_, by simp⟩, fun q hq _ => ?_⟩
   ·rw [List.mem_singleton.1 hx]
    exact fun z => absurd rfl z
   ·rw [List.mem_singleton.1 ho, hk]
   ·rw [List.mem_singleton.1 ho]
    exact Int.le_refl _
   ·rw [List.mem_singleton.1 hq, hk]
   ·rw [List.mem_singleton.1 hq]
   ·rw [List.mem_singleton.1 hq]
    exact yfw _ _
   ·rw [List.mem_singleton.1 hq]
    exact ⟨Nat.zero_lt_succ _, Nat.zero_lt_succ _⟩
   ·rw [List.mem_singleton.1 hq]
    exact z p (by simp)
   ·rw [List.mem_singleton.1 hq]
  ·rw [if_neg e]
   exact ⟨h, hf, CovJ.refl _ _, fun q hq z => by rw [List.mem_singleton.1 hq] at z; exact absurd z e⟩
 | p :: q :: A =>
  refine ⟨h, hf, CovJ.refl _ _, fun x hx z => ?_⟩
  exfalso
  have hpq := (List.pairwise_cons.1 h).1 q (by simp)
  rcases List.mem_cons.1 hx with rfl | hx
  ·unfold Ln at hpq
   omega
  ·have := (List.pairwise_cons.1 h).1 x hx
   unfold Ln at this
   omega
theorem yjt {b : Bool} {D : List AO} (h : D.Pairwise Ln) (hl : ∀ o ∈ D, o.lt) : (ya1 b D).Pairwise Ln ∧ FC b (ya1 b D) ∧ CovJ b D (ya1 b D) ∧ ∀ p ∈ ya1 b D, p.f = p.t → p.f = 0 := by
 obtain ⟨a1, a2, a3⟩ := yhz b D [] h hl List.Pairwise.nil
 rw [List.nil_append] at a3
 obtain ⟨b1, b2, b3⟩ := ysp a1 (a3.lt hl) a2
 obtain ⟨c1, c2, c3, c4⟩ := ysq b1 b2
 exact ⟨c1, c2, (a3.trans b3).trans c3, c4⟩
def Ow (own : Nat → Option Int) (l : List AO) : Prop := ∀ x, x < 18446744073709551616 → ∀ e, own x = some e ↔ ∃ o ∈ l, o.has x = true ∧ o.e = e
structure OwnL (l : List AO) (own : Nat → Option Int) : Prop where
 arcs : Arcs l
 nd : ∀ p ∈ l, p.n = 0
 ow : Ow own l
theorem OwnL.nil : OwnL [] (fun _ => none) := ⟨Arcs.nil, by simp, fun x _ e => by simp⟩
theorem OwnL.kn {l : List AO} {own : Nat → Option Int} (h : OwnL l own) {x : Nat} (hx : x < 18446744073709551616) : Go.Proofs.YtnjodhglbapnlaaGreat.kn l x = (own x).map fun e => (0, e) := by
 cases ho : own x with
 | none =>
  cases hk : Go.Proofs.YtnjodhglbapnlaaGreat.kn l x with
  | none => rfl
  | some v =>
   obtain ⟨p, hp, h1, h2⟩ := yln hk
   have := (h.ow x hx p.e).2 ⟨p, hp, h1, rfl⟩
   rw [ho] at this
   cases this
 | some e =>
  obtain ⟨p, hp, h1, rfl⟩ := (h.ow x hx e).1 ho
  rw [h.arcs.known hp hx h1]
  show some (p.n, p.e) = _
  rw [h.nd p hp]
  rfl
theorem yju {D : List AO} (hl : ∀ o ∈ D, o.lt) (hs : D.Pairwise fun p q => p.f ≤ q.f) (ha : D.Pairwise fun p q => yat p.f p.t q.f q.t = true) : D.Pairwise Ln := by
 have hh := List.pairwise_and_iff.2 ⟨hs, ha⟩
 refine hh.imp_of_mem ?_
 intro p q hp hq ⟨h1, h2⟩
 refine yso (hl p hp) (hl q hq) ?_ h2
 rcases Nat.lt_or_eq_of_le h1 with z | z
 ·exact z
 ·rw [yc9, z] at h2
  exact absurd (yds _ _ (hl q hq).1 (hl q hq).2) h2.2
theorem ymj {D : List AO} (h : D.Pairwise Ln) : D.Pairwise fun p q => p.f < q.f := h.imp fun {p q} z => by unfold Ln at z; omega
section
variable {D : List AO} {own : Nat → Option Int}
theorem ymk (h : D.Pairwise Ln) (hl : ∀ o ∈ D, o.lt) (hn : ∀ o ∈ D, o.n = 0) (he : ∀ o ∈ D, 0 ≤ o.e ∧ o.e ≤ 9223372036854775807) (ho : Ow own D) : OwnL (ya1 false D) own ∧ (ya1 false D).length ≤ D.length := by
 obtain ⟨h1, h2, h3, h4⟩ := yjt (b := false) h hl
 have l3 := h3.lt hl
 refine ⟨⟨⟨l3, fun p hp => ?_, ymj h1, h4, h1.imp_of_mem fun {p q} hp hq z => yhy (l3 p hp) (l3 q hq) z, fun p hp q hq hne e => ?_⟩, h3.nd hn, fun x hx e => ?_⟩, h3.len⟩
 ·obtain ⟨o, ho', e, _⟩ := h3.c3 p hp
  rw [h3.nd hn p hp, ← e]
  have := he o ho'
  omega
 ·intro z
  exact h2 p hp q hq hne e (congrArg Prod.snd z)
 ·rw [ho x hx e]
  constructor
  ·rintro ⟨o, ho', a, rfl⟩
   obtain ⟨p, hp, b, _, c⟩ := h3.c1 o ho'
   exact ⟨p, hp, c x hx a, b⟩
  ·rintro ⟨p, hp, a, rfl⟩
   obtain ⟨o, ho', b, c⟩ := h3.c2 p hp x hx a
   exact ⟨o, ho', b, c⟩
abbrev AO.zero (p : AO) : AO := ⟨p.f, p.t, 0, 0⟩
theorem ysr (h : D.Pairwise Ln) (hl : ∀ o ∈ D, o.lt) (hn : ∀ o ∈ D, o.n = 0) (ho : Ow own D) :
  Arcs ((ya1 true D).map AO.zero) ∧ (∀ x, x < 18446744073709551616 → kn ((ya1 true D).map AO.zero) x = (own x).map fun _ => (0, 0)) ∧ (∀ p ∈ ya1 true D, p.n = 0 ∧ (∀ x y, x < 18446744073709551616 → inB p.f p.t x = true → own x = some y → y ≤ p.e) ∧ ∃ x, x < 18446744073709551616 ∧ inB p.f p.t x = true ∧ own x = some p.e) ∧ (ya1 true D).length ≤ D.length := by
 obtain ⟨h1, h2, h3, h4⟩ := yjt (b := true) h hl
 have l3 := h3.lt hl
 have hA : Arcs ((ya1 true D).map AO.zero) := by
  refine ⟨fun p hp => ?_, fun p hp => ?_, ?_, fun p hp => ?_, ?_, fun p hp q hq hne e => ?_⟩
  ·obtain ⟨q, hq, rfl⟩ := List.mem_map.1 hp
   exact l3 q hq
  ·obtain ⟨q, hq, rfl⟩ := List.mem_map.1 hp
   simp
  ·exact List.pairwise_map.2 (ymj h1)
  ·obtain ⟨q, hq, rfl⟩ := List.mem_map.1 hp
   exact h4 q hq
  ·exact List.pairwise_map.2 (h1.imp_of_mem fun {p q} hp hq z => yhy (l3 p hp) (l3 q hq) z)
  ·obtain ⟨p', hp', rfl⟩ := List.mem_map.1 hp
   obtain ⟨q', hq', rfl⟩ := List.mem_map.1 hq
   exact fun _ => h2 p' hp' q' hq' hne e rfl
 refine ⟨hA, fun x hx => ?_, fun p hp => ⟨h3.nd hn p hp, fun x y hx hp1 hy => ?_, ?_⟩, h3.len⟩
 ·cases hx2 : own x with
  | none =>
   cases hk : kn ((ya1 true D).map AO.zero) x with
   | none => rfl
   | some v =>
    obtain ⟨p, hp, a, _⟩ := yln hk
    obtain ⟨q, hq, rfl⟩ := List.mem_map.1 hp
    obtain ⟨o, ho', b, _⟩ := h3.c2 q hq x hx a
    have := (ho x hx o.e).2 ⟨o, ho', b, rfl⟩
    rw [hx2] at this
    cases this
  | some e =>
   obtain ⟨o, ho', a, rfl⟩ := (ho x hx e).1 hx2
   obtain ⟨p, hp, _, _, c⟩ := h3.c1 o ho'
   rw [hA.known (List.mem_map_of_mem hp) hx (c x hx a)]
   rfl
 ·obtain ⟨o, ho', a, rfl⟩ := (ho x hx y).1 hy
  obtain ⟨q, hq, _, b, c⟩ := h3.c1 o ho'
  have hz : p.zero = q.zero := hA.one (List.mem_map_of_mem hp) (List.mem_map_of_mem hq) hx hp1 (c x hx a)
  have hpq : p = q := by
   rcases yjr h1 hp hq with z | z | z
   ·exact z
   ·exfalso
    have e : p.zero.f = q.zero.f := congrArg AO.f hz
    simp only at e
    unfold Ln at z
    omega
   ·exfalso
    have e : p.zero.f = q.zero.f := congrArg AO.f hz
    simp only at e
    unfold Ln at z
    omega
  rw [hpq]
  exact b
 ·obtain ⟨o, ho', a, c⟩ := h3.c3 p hp
  have hf := yds o.f o.t (hl o ho').1 (hl o ho').2
  exact ⟨o.f, (hl o ho').1, c _ (hl o ho').1 hf, (ho _ (hl o ho').1 _).2 ⟨o, ho', hf, a⟩⟩
end
theorem yeq {l : List AO} {own : Nat → Option Int} (h : Ow own l) {x : Nat} (hx : x < 18446744073709551616) : own x = none ↔ ∀ o ∈ l, o.has x = false := by
 constructor
 ·intro hn o ho
  by_cases z : o.has x = true
  ·have := (h x hx o.e).2 ⟨o, ho, z, rfl⟩
   rw [hn] at this
   cases this
  ·exact yc8 z
 ·intro hn
  cases ho : own x with
  | none => rfl
  | some e =>
   obtain ⟨o, h1, h2, _⟩ := (h x hx e).1 ho
   rw [hn o h1] at h2
   cases h2
theorem may_iff {l : List AO} {own : Nat → Option Int} (h : OwnL l own) {f t : Nat} (hf : f < 18446744073709551616) (ht : t < 18446744073709551616) : (∀ o ∈ l, yat o.f o.t f t = true) ↔ ∀ x, x < 18446744073709551616 → inB f t x = true → own x = none := by
 constructor
 ·intro ha x hx hi
  rw [yeq h.ow hx]
  intro o ho
  have hl := h.arcs.lt o ho
  have := ha o ho
  rw [yfx] at this
  exact yfy hf ht hl.1 hl.2 hx this hi
 ·intro hn o ho
  have hl := h.arcs.lt o ho
  rw [yc9]
  refine ⟨fun z => ?_, fun z => ?_⟩
  ·have := (yeq h.ow hf).1 (hn f hf (yds f t hf ht)) o ho
   rw [show o.has f = true from z] at this
   cases this
  ·have := (yeq h.ow hl.1).1 (hn o.f hl.1 z) o ho
   rw [h.arcs.first ho] at this
   cases this
theorem yjv {D L : List AO} (h : D.Perm L) (ha : L.Pairwise fun p q => yat p.f p.t q.f q.t = true) : D.Pairwise fun p q => yat p.f p.t q.f q.t = true :=
 (List.Perm.pairwise_iff (R := fun p q : AO => yat p.f p.t q.f q.t = true) (fun {x y} z => by rw [yfx]; exact z) h).2 ha
theorem yss {l D : List AO} {own : Nat → Option Int} (h : OwnL l own) {f t : Nat} {ep : Int} (hf : f < 18446744073709551616) (ht : t < 18446744073709551616) (h0 : 0 ≤ ep) (h9 : ep ≤ 9223372036854775807) (hm : ∀ o ∈ l, yat o.f o.t f t = true)
  (hp : D.Perm (l ++ [⟨f, t, 0, ep⟩])) (hs : D.Pairwise fun p q => p.f ≤ q.f) : OwnL (ya1 false D) (fun x => if inB f t x = true then some ep else own x) ∧ (ya1 false D).length ≤ l.length + 1 := by
 have hm2 : ∀ o, o ∈ D ↔ o ∈ l ∨ o = ⟨f, t, 0, ep⟩ := fun o => by rw [hp.mem_iff]; simp
 have hl : ∀ o ∈ D, o.lt := fun o ho => by
  rcases (hm2 o).1 ho with z | rfl
  ·exact h.arcs.lt o z
  ·exact ⟨hf, ht⟩
 have hap : (l ++ [(⟨f, t, 0, ep⟩ : AO)]).Pairwise fun p q : AO => yat p.f p.t q.f q.t = true := by
  exact List.pairwise_append.2 ⟨h.arcs.apart, List.pairwise_singleton _ _, fun a ha b hb => by rw [List.mem_singleton.1 hb]; exact hm a ha⟩
 have hln := yju hl hs (yjv hp hap)
 have hlen : D.length = l.length + 1 := by rw [hp.length_eq]; simp
 have hown := (may_iff h hf ht).1 hm
 rw [← hlen]
 refine ymk hln hl (fun o ho => ?_) (fun o ho => ?_) (fun x hx e => ?_)
 ·rcases (hm2 o).1 ho with z | rfl
  ·exact h.nd o z
  ·rfl
 ·rcases (hm2 o).1 ho with z | rfl
  ·exact (h.arcs.rng o z).2.2
  ·exact ⟨h0, h9⟩
 ·by_cases hi : inB f t x = true
  ·rw [if_pos hi]
   constructor
   ·intro z
    exact ⟨⟨f, t, 0, ep⟩, (hm2 _).2 (.inr rfl), hi, Option.some.inj z⟩
   ·rintro ⟨o, ho, a, rfl⟩
    rcases (hm2 o).1 ho with z | rfl
    ·have := (yeq h.ow hx).1 (hown x hx hi) o z
     rw [a] at this
     cases this
    ·rfl
  ·rw [if_neg hi, h.ow x hx e]
   constructor
   ·rintro ⟨o, ho, a, b⟩
    exact ⟨o, (hm2 o).2 (.inl ho), a, b⟩
   ·rintro ⟨o, ho, a, b⟩
    rcases (hm2 o).1 ho with z | rfl
    ·exact ⟨o, z, a, b⟩
    ·exact absurd a hi
def mayC (f t x : Nat) : Bool := !(x == f) && inB f t x
def yb7 (x : Nat) (o : AO) : List AO := if mayC o.f o.t x = true then [⟨o.f, x, o.n, o.e⟩, ⟨x, o.t, o.n, o.e⟩] else [o]
def yar (l : List AO) (x : Nat) : List AO := l.flatMap (yb7 x)
theorem ycc {f t x : Nat} : mayC f t x = true ↔ x ≠ f ∧ inB f t x = true := by simp [mayC]
structure yst (o : AO) (l : List AO) : Prop where
 lt : o.lt → ∀ p ∈ l, p.lt
 e : ∀ p ∈ l, p.e = o.e ∧ p.n = o.n
 sub : o.lt → ∀ p ∈ l, ∀ y, y < 18446744073709551616 → p.has y = true → o.has y = true
 all : o.lt → ∀ y, y < 18446744073709551616 → o.has y = true → ∃ p ∈ l, p.has y = true
 ap : o.lt → l.Pairwise fun p q => yat p.f p.t q.f q.t = true
theorem ybl (x : Nat) (o : AO) (hx : x < 18446744073709551616) : yst o (yb7 x o) := by
 unfold yb7
 by_cases h : mayC o.f o.t x = true
 ·rw [if_pos h]
  obtain ⟨h1, h2⟩ := ycc.1 h
  have hb : o.lt → ∀ y, y < 18446744073709551616 → o.has y = ((⟨o.f, x, o.n, o.e⟩ : AO).has y || (⟨x, o.t, o.n, o.e⟩ : AO).has y) := fun hl y hy =>
   ymf (p := ⟨o.f, x, o.n, o.e⟩) (q := ⟨x, o.t, o.n, o.e⟩) ⟨hl.1, hx⟩ ⟨hx, hl.2⟩ rfl (yip hl.1 hl.2 hx h1 h2).1 hy
  refine ⟨fun hl p hp => ?_, fun p hp => ?_, fun hl p hp y hy z => ?_, fun hl y hy z => ?_, fun hl => ?_⟩
  ·simp only [List.mem_cons, List.not_mem_nil, or_false] at hp
   rcases hp with rfl | rfl
   ·exact ⟨hl.1, hx⟩
   ·exact ⟨hx, hl.2⟩
  ·simp only [List.mem_cons, List.not_mem_nil, or_false] at hp
   rcases hp with rfl | rfl <;> exact ⟨rfl, rfl⟩
  ·rw [hb hl y hy]
   simp only [List.mem_cons, List.not_mem_nil, or_false] at hp
   rcases hp with rfl | rfl
   ·rw [z]; rfl
   ·rw [z]; simp
  ·rw [hb hl y hy, Bool.or_eq_true] at z
   rcases z with z | z
   ·exact ⟨_, by simp, z⟩
   ·exact ⟨_, List.mem_cons_of_mem _ (by simp), z⟩
  ·refine List.pairwise_cons.2 ⟨fun q hq => ?_, by simp⟩
   rw [List.mem_singleton.1 hq]
   exact (yip hl.1 hl.2 hx h1 h2).1
 ·rw [if_neg h]
  exact ⟨fun hl p hp => by rw [List.mem_singleton.1 hp]; exact hl, fun p hp => by rw [List.mem_singleton.1 hp]; exact ⟨rfl, rfl⟩, fun _ p hp y _ z => by rw [List.mem_singleton.1 hp] at z; exact z, fun _ y _ z => ⟨o, by simp, z⟩, fun _ => by simp⟩
theorem yml {x : Nat} {o : AO} : ∀ p ∈ yb7 x o, mayC p.f p.t x = false := by
 unfold yb7
 by_cases h : mayC o.f o.t x = true
 ·rw [if_pos h]
  obtain ⟨h1, h2⟩ := ycc.1 h
  intro p hp
  simp only [List.mem_cons, List.not_mem_nil, or_false] at hp
  apply yc8
  rw [ycc]
  rintro ⟨a, b⟩
  rcases hp with rfl | rfl
  ·rw [show inB o.f x x = false from ypu (Ne.symm h1)] at b
   cases b
  ·exact a rfl
 ·rw [if_neg h]
  intro p hp
  rw [List.mem_singleton.1 hp]
  exact yc8 h
theorem ysu {x z : Nat} {o : AO} (hx : x < 18446744073709551616) (hz : z < 18446744073709551616) (hl : o.lt) (hc : mayC o.f o.t z = false) : ∀ p ∈ yb7 x o, mayC p.f p.t z = false := by
 intro p hp
 apply yc8
 rw [ycc]
 rintro ⟨a, b⟩
 have hs := (ybl x o hx).sub hl p hp z hz b
 have ho : z = o.f := by
  by_cases e : z = o.f
  ·exact e
  ·have := ycc.2 ⟨e, hs⟩
   rw [hc] at this
   cases this
 unfold yb7 at hp
 by_cases h : mayC o.f o.t x = true
 ·rw [if_pos h] at hp
  obtain ⟨h1, h2⟩ := ycc.1 h
  simp only [List.mem_cons, List.not_mem_nil, or_false] at hp
  rcases hp with rfl | rfl
  ·exact a ho
  ·have ca := (yip hl.1 hl.2 hx h1 h2).1
   rw [yc9] at ca
   rw [ho] at b
   exact ca.2 b
 ·rw [if_neg h] at hp
  rw [List.mem_singleton.1 hp] at a
  exact a ho
theorem ymm {o p : AO} {a b : AO} (ho : o.lt) (hp : p.lt) (ha : a.lt) (hb : b.lt) (h : yat o.f o.t p.f p.t = true) (h1 : ∀ y, y < 18446744073709551616 → a.has y = true → o.has y = true) (h2 : ∀ y, y < 18446744073709551616 → b.has y = true → p.has y = true) : yat a.f a.t b.f b.t = true := by
 have key : ∀ y, y < 18446744073709551616 → o.has y = true → p.has y = true → False := fun y hy z1 z2 => by
  have := yfy ho.1 ho.2 hp.1 hp.2 hy h z1
  rw [show inB p.f p.t y = true from z2] at this
  cases this
 rw [yc9]
 exact ⟨fun z => key b.f hb.1 (h1 _ hb.1 z) (h2 _ hb.1 (yds _ _ hb.1 hb.2)), fun z => key a.f ha.1 (h1 _ ha.1 (yds _ _ ha.1 ha.2)) (h2 _ ha.1 z)⟩
structure RawL (l : List AO) (own : Nat → Option Int) : Prop where
 lt : ∀ p ∈ l, p.lt
 nd : ∀ p ∈ l, p.n = 0
 e : ∀ p ∈ l, 0 ≤ p.e ∧ p.e ≤ 9223372036854775807
 ap : l.Pairwise fun p q => yat p.f p.t q.f q.t = true
 ow : Ow own l
theorem OwnL.raw {l : List AO} {own : Nat → Option Int} (h : OwnL l own) : RawL l own := ⟨h.arcs.lt, h.nd, fun p hp => (h.arcs.rng p hp).2.2, h.arcs.apart, h.ow⟩
theorem ygg {x : Nat} (hx : x < 18446744073709551616) : ∀ {l : List AO}, (∀ p ∈ l, p.lt) → l.Pairwise (fun p q => yat p.f p.t q.f q.t = true) → (yar l x).length ≤ l.length + 1 ∧ ((∀ p ∈ l, p.has x = false) → (yar l x).length = l.length)
 | [], _, _ => ⟨by simp [yar], fun _ => rfl⟩
 | o :: l, hl, h => by
  obtain ⟨h1, h2⟩ := List.pairwise_cons.1 h
  obtain ⟨i1, i2⟩ := ygg hx (fun p hp => hl p (List.mem_cons_of_mem _ hp)) h2
  have e : yar (o :: l) x = yb7 x o ++ yar l x := rfl
  rw [e, List.length_append]
  have ho := hl o (by simp)
  constructor
  ·by_cases c : mayC o.f o.t x = true
   ·have hx2 := (ycc.1 c).2
    rw [i2 (fun p hp => yfy ho.1 ho.2 (hl p (by simp [hp])).1 (hl p (by simp [hp])).2 hx (h1 p hp) hx2)]
    rw [yb7, if_pos c, List.length_cons]
    simp only [List.length_cons, List.length_nil]
    omega
   ·rw [yb7, if_neg c]
    simp only [List.length_cons, List.length_nil]
    omega
  ·intro hn
   have c : ¬ mayC o.f o.t x = true := fun z => by
    have := hn o (by simp)
    rw [show o.has x = true from (ycc.1 z).2] at this
    cases this
   rw [i2 (fun p hp => hn p (by simp [hp]))]
   rw [yb7, if_neg c]
   simp only [List.length_cons, List.length_nil]
   omega
theorem ymn {x : Nat} (hx : x < 18446744073709551616) {l : List AO} {own : Nat → Option Int} (h : RawL l own) : RawL (yar l x) own := by
 have hm : ∀ p, p ∈ yar l x ↔ ∃ o ∈ l, p ∈ yb7 x o := fun p => List.mem_flatMap
 refine ⟨fun p hp => ?_, fun p hp => ?_, fun p hp => ?_, ?_, fun y hy e => ?_⟩
 ·obtain ⟨o, ho, hp⟩ := (hm p).1 hp
  exact (ybl x o hx).lt (h.lt o ho) p hp
 ·obtain ⟨o, ho, hp⟩ := (hm p).1 hp
  rw [((ybl x o hx).e p hp).2]
  exact h.nd o ho
 ·obtain ⟨o, ho, hp⟩ := (hm p).1 hp
  rw [((ybl x o hx).e p hp).1]
  exact h.e o ho
 ·refine List.pairwise_flatMap.2 ⟨fun o ho => (ybl x o hx).ap (h.lt o ho), ?_⟩
  refine h.ap.imp_of_mem ?_
  intro o q ho hq z a ha b hb
  exact ymm (h.lt o ho) (h.lt q hq) ((ybl x o hx).lt (h.lt o ho) a ha) ((ybl x q hx).lt (h.lt q hq) b hb) z ((ybl x o hx).sub (h.lt o ho) a ha) ((ybl x q hx).sub (h.lt q hq) b hb)
 ·rw [h.ow y hy e]
  constructor
  ·rintro ⟨o, ho, a, rfl⟩
   obtain ⟨p, hp, b⟩ := (ybl x o hx).all (h.lt o ho) y hy a
   exact ⟨p, (hm p).2 ⟨o, ho, hp⟩, b, ((ybl x o hx).e p hp).1⟩
  ·rintro ⟨p, hp, a, rfl⟩
   obtain ⟨o, ho, hp⟩ := (hm p).1 hp
   exact ⟨o, ho, (ybl x o hx).sub (h.lt o ho) p hp y hy a, (((ybl x o hx).e p hp).1).symm⟩
def outL (l : List AO) (f t : Nat) : List AO := (yar (yar l f) t).filter fun p => !inB f t p.f
theorem ymo {p : AO} {f t y : Nat} (hp : p.lt) (hf : f < 18446744073709551616) (ht : t < 18446744073709551616) (hy : y < 18446744073709551616) (c1 : mayC p.f p.t f = false) (c2 : mayC p.f p.t t = false) (h : p.has y = true) : inB f t y = inB f t p.f := by
 have c1' : ¬ (f ≠ p.f ∧ inB p.f p.t f = true) := fun z => by have := ycc.2 z; rw [c1] at this; cases this
 have c2' : ¬ (t ≠ p.f ∧ inB p.f p.t t = true) := fun z => by have := ycc.2 z; rw [c2] at this; cases this
 have h' : inB p.f p.t y = true := h
 clear c1 c2 h
 rw [ya3] at c1' c2' h'
 rw [Bool.eq_iff_iff, ya3, ya3]
 obtain ⟨a, b⟩ := hp
 have h1 := yaf hf a
 have h2 := yaf ht a
 have h3 := yaf b a
 have h4 := yaf hy a
 have h5 := yaf hy hf
 have h6 := yaf ht hf
 have h7 := yaf a hf
 omega
theorem ysv {l D : List AO} {own : Nat → Option Int} (h : OwnL l own) {f t : Nat} (hf : f < 18446744073709551616) (ht : t < 18446744073709551616) (hp : D.Perm (outL l f t)) (hs : D.Pairwise fun p q => p.f ≤ q.f) :
  OwnL (ya1 false D) (fun x => if inB f t x = true then none else own x) ∧ (ya1 false D).length ≤ l.length + 2 := by
 have r1 := ymn hf h.raw
 have r2 := ymn ht r1
 have hm : ∀ o, o ∈ D ↔ o ∈ yar (yar l f) t ∧ inB f t o.f = false := fun o => by rw [hp.mem_iff, outL, List.mem_filter]; simp
 have hcut : ∀ o ∈ yar (yar l f) t, mayC o.f o.t f = false ∧ mayC o.f o.t t = false := fun o ho => by
  obtain ⟨q, hq, ho⟩ := List.mem_flatMap.1 ho
  obtain ⟨r, hr, hq'⟩ := List.mem_flatMap.1 hq
  exact ⟨ysu ht hf (r1.lt q hq) (yml q hq') o ho, yml o ho⟩
 have hl : ∀ o ∈ D, o.lt := fun o ho => r2.lt o ((hm o).1 ho).1
 have hlen : D.length ≤ l.length + 2 := by
  rw [hp.length_eq]
  have a := (ygg hf h.arcs.lt h.arcs.apart).1
  have b := (ygg ht r1.lt r1.ap).1
  have c := List.length_filter_le (fun p : AO => !inB f t p.f) (yar (yar l f) t)
  show ((yar (yar l f) t).filter fun p => !inB f t p.f).length ≤ _
  omega
 have hln := yju hl hs (yjv hp (r2.ap.filter _))
 refine ⟨?_, Nat.le_trans (yjt (b := false) hln hl).2.2.1.len hlen⟩
 refine (ymk hln hl (fun o ho => r2.nd o ((hm o).1 ho).1) (fun o ho => r2.e o ((hm o).1 ho).1) (fun x hx e => ?_)).1
 by_cases hi : inB f t x = true
 ·rw [if_pos hi]
  constructor
  ·intro z
   cases z
  ·rintro ⟨o, ho, a, _⟩
   obtain ⟨k1, k2⟩ := (hm o).1 ho
   have := ymo (r2.lt o k1) hf ht hx (hcut o k1).1 (hcut o k1).2 a
   rw [hi, k2] at this
   cases this
 ·rw [if_neg hi, r2.ow x hx e]
  constructor
  ·rintro ⟨o, ho, a, b⟩
   refine ⟨o, (hm o).2 ⟨ho, ?_⟩, a, b⟩
   rw [← ymo (r2.lt o ho) hf ht hx (hcut o ho).1 (hcut o ho).2 a]
   exact yc8 hi
  ·rintro ⟨o, ho, a, b⟩
   exact ⟨o, ((hm o).1 ho).1, a, b⟩
def szN (f t : Nat) : Nat := if f = t then 18446744073709551616 else yag t f
theorem yh0 {f t : Nat} (hf : f < 18446744073709551616) (ht : t < 18446744073709551616) : 0 < szN f t ∧ szN f t ≤ 18446744073709551616 := by
 unfold szN
 split
 ·omega
 ·have := yaf ht hf
  omega
abbrev ptN (f i : Nat) : Nat := yin f i
theorem yc3 (f i : Nat) : ptN f i < 18446744073709551616 := Nat.mod_lt _ (by omega)
theorem yd6 {a b : Nat} (ha : a < 18446744073709551616) (hb : b < 18446744073709551616) : (a + b < 18446744073709551616 ∧ ptN a b = a + b) ∨ (18446744073709551616 ≤ a + b ∧ ptN a b = a + b - 18446744073709551616) := by
 unfold ptN yin
 omega
theorem ymp {f : Nat} (hf : f < 18446744073709551616) : ptN f 0 = f := by unfold ptN yin; omega
structure Went (own : Nat → Option Int) (f c : Nat) (e : Int) : Prop where
 up : ∀ i, i < c → ∃ y, own (ptN f i) = some y ∧ y ≤ e
 at0 : c = 0 → e = 0
 is : 0 < c → ∃ i, i < c ∧ own (ptN f i) = some e
theorem Went.start (own : Nat → Option Int) (f : Nat) : Went own f 0 0 := ⟨fun _ hi => absurd hi (Nat.not_lt_zero _), fun _ => rfl, fun h => absurd h (Nat.lt_irrefl _)⟩
theorem Went.step {own : Nat → Option Int} {f c d : Nat} {e oe : Int} (h : Went own f c e) (h0 : 0 ≤ oe) (hd : c < d) (hp : ∀ i, c ≤ i → i < d → own (ptN f i) = some oe) : Went own f d (max e oe) := by
 refine ⟨fun i hi => ?_, fun z => by omega, fun _ => ?_⟩
 ·by_cases k : i < c
  ·obtain ⟨y, a, b⟩ := h.up i k
   exact ⟨y, a, by omega⟩
  ·exact ⟨oe, hp i (by omega) hi, by omega⟩
 ·by_cases k : oe ≤ e
  ·by_cases k0 : 0 < c
   ·obtain ⟨i, a, b⟩ := h.is k0
    exact ⟨i, by omega, by rw [b]; congr 1; omega⟩
   ·have := h.at0 (by omega)
    exact ⟨c, hd, by rw [hp c (Nat.le_refl _) hd]; congr 1; omega⟩
  ·exact ⟨c, hd, by rw [hp c (Nat.le_refl _) hd]; congr 1; omega⟩
theorem ysw {o : AO} {f t c i : Nat} (ho : o.lt) (hf : f < 18446744073709551616) (ht : t < 18446744073709551616) (hc : c < szN f t) (h : o.has (ptN f c) = true) (hm : mayC (ptN f c) t o.t = false) (h1 : c ≤ i) (h2 : i < szN f t) : o.has (ptN f i) = true := by
 have hm' : ¬ (o.t ≠ ptN f c ∧ inB (ptN f c) t o.t = true) := fun z => by have := ycc.2 z; rw [hm] at this; cases this
 have h' : inB o.f o.t (ptN f c) = true := h
 show inB o.f o.t (ptN f i) = true
 clear h hm
 have hn := (yh0 hf ht).2
 have a1 := yd6 hf (show c < 18446744073709551616 by omega)
 have a2 := yd6 hf (show i < 18446744073709551616 by omega)
 have l1 := yc3 f c
 have l2 := yc3 f i
 generalize ptN f c = y at *
 generalize ptN f i = z at *
 unfold szN at hc h2 hn
 rw [ya3] at h' hm' ⊢
 obtain ⟨b1, b2⟩ := ho
 have s1 := yaf l1 b1
 have s2 := yaf l2 b1
 have s3 := yaf b2 b1
 have s4 := yaf b2 l1
 have s5 := yaf ht l1
 have s6 := yaf ht hf
 split at hc <;> rename_i hft <;> simp only [hft, if_true, if_false] at h2 hn <;> omega
theorem ysx {o : AO} {f t c : Nat} (ho : o.lt) (hf : f < 18446744073709551616) (ht : t < 18446744073709551616) (hc : c < szN f t) (h : o.has (ptN f c) = true) (hm : mayC (ptN f c) t o.t = true) :
  ∃ d, c < d ∧ d < szN f t ∧ o.t = ptN f d ∧ ∀ i, c ≤ i → i < d → o.has (ptN f i) = true := by
 obtain ⟨m1, m2⟩ := ycc.1 hm
 have h' : inB o.f o.t (ptN f c) = true := h
 clear h hm
 have hn := (yh0 hf ht).2
 have l1 := yc3 f c
 obtain ⟨b1, b2⟩ := ho
 have a1 := yd6 hf (show c < 18446744073709551616 by omega)
 have s4 := yaf b2 l1
 have s5 := yaf ht l1
 have s6 := yaf ht hf
 have s1 := yaf l1 b1
 have s3 := yaf b2 b1
 have hd : c + yag o.t (ptN f c) < szN f t := by
  generalize ptN f c = y at *
  rw [ya3] at h' m2
  unfold szN at hc ⊢
  split at hc <;> rename_i hft <;> simp only [hft, if_true, if_false] <;> omega
 have a3 := yd6 hf (show c + yag o.t (ptN f c) < 18446744073709551616 by omega)
 refine ⟨c + yag o.t (ptN f c), by omega, hd, ?_, fun i h1 h2 => ?_⟩
 ·show o.t = ptN f (c + yag o.t (ptN f c))
  generalize ptN f c = y at *
  omega
 ·show inB o.f o.t (ptN f i) = true
  have a2 := yd6 hf (show i < 18446744073709551616 by omega)
  have l2 := yc3 f i
  have s2 := yaf l2 b1
  generalize ptN f c = y at *
  generalize ptN f i = z at *
  rw [ya3] at h' m2 ⊢
  omega
def Followed (own : Nat → Option Int) (f t to_ : Nat) (e : Int) (all : Bool) : Prop :=
 (all = true ∧ to_ = t ∧ Went own f (szN f t) e) ∨ (all = false ∧ ∃ c, c < szN f t ∧ to_ = ptN f c ∧ own (ptN f c) = none ∧ Went own f c e)
theorem yh1 {f t x : Nat} (hf : f < 18446744073709551616) (ht : t < 18446744073709551616) (hx : x < 18446744073709551616) : inB f t x = true ↔ ∃ i, i < szN f t ∧ x = ptN f i := by
 rw [ya3]
 unfold szN
 have s1 := yaf hx hf
 have s2 := yaf ht hf
 constructor
 ·intro h
  refine ⟨yag x f, ?_, ?_⟩
  ·split <;> omega
  ·have := yd6 hf (ydj x f)
   show x = ptN f (yag x f)
   omega
 ·rintro ⟨i, hi, he⟩
  have hi2 : i < 18446744073709551616 := by split at hi <;> omega
  have := yd6 hf hi2
  have he' : x = ptN f i := he
  split at hi <;> omega
theorem Followed.yes {own : Nat → Option Int} {f t to_ : Nat} {e : Int} (hf : f < 18446744073709551616) (ht : t < 18446744073709551616) (h : Followed own f t to_ e true) : (∀ x, x < 18446744073709551616 → inB f t x = true → own x ≠ none) ∧ ydb own (fun x => inB f t x = true) e := by
 rcases h with ⟨_, _, h⟩ | ⟨h, _⟩
 ·refine ⟨fun x hx hi => ?_, fun x y hx hi hy => ?_, ?_⟩
  ·obtain ⟨i, a, rfl⟩ := (yh1 hf ht hx).1 hi
   obtain ⟨y, b, _⟩ := h.up i a
   rw [b]
   simp
  ·obtain ⟨i, a, rfl⟩ := (yh1 hf ht hx).1 hi
   obtain ⟨y', b, c⟩ := h.up i a
   rw [hy] at b
   obtain rfl := Option.some.inj b
   exact c
  ·obtain ⟨i, a, b⟩ := h.is (yh0 hf ht).1
   exact ⟨ptN f i, yc3 _ _, (yh1 hf ht (yc3 _ _)).2 ⟨i, a, rfl⟩, b⟩
 ·cases h
theorem Followed.no {own : Nat → Option Int} {f t to_ : Nat} {e : Int} (hf : f < 18446744073709551616) (ht : t < 18446744073709551616) (h : Followed own f t to_ e false) : ∃ x, x < 18446744073709551616 ∧ inB f t x = true ∧ own x = none := by
 rcases h with ⟨h, _⟩ | ⟨_, c, a, _, b, _⟩
 ·cases h
 ·exact ⟨ptN f c, yc3 _ _, (yh1 hf ht (yc3 _ _)).2 ⟨c, a, rfl⟩, b⟩
end Go.Proofs.YtnjodhglbapnlaaGreat
