/-
  A letter, plainly: its fields in the order of its bytes; letters as bytes and back. No program is named here.
-/
import Derived.Test.YtfemdfidfomchaaLetPure
namespace Go.Proofs.Ytfemdfidfomchaa
open Go.RowKit

/-- what is in a letter, in the order of its cells -/
structure LV where
  k : Int
  f : Int
  t : Int
  i : Int
  op : Int
  key : ByteArray
  val : ByteArray
  kto : ByteArray
  most : Int
  er : Int
  tv : ByteArray
  ti : List Item
  more : Bool
  nx : ByteArray
  tn : Int
  af : Nat
  au : Nat
  ep : Int
  li : List Item
  n : Int
  nd : Int
def nv (n : Int) : FV := ⟨n, ByteArray.empty, []⟩
def sv (s : ByteArray) : FV := ⟨0, s, []⟩
def iv (l : List Item) : FV := ⟨0, ByteArray.empty, l⟩
/-- its fields, in the order of the bytes -/
def LV.xs (l : LV) : List FV := [nv l.k, nv l.f, nv l.t, nv l.i, nv l.ep, nv l.n, nv l.nd, nv l.af, nv l.au, iv l.li, nv l.op, sv l.key, sv l.val, sv l.kto, nv l.most, nv l.er, sv l.tv, iv l.ti, nv (if l.more then 1 else 0), sv l.nx, nv l.tn]
def LK : List FK := [.num false 1 16, .num false 0 255, .num false 0 255, .num false 0 65535, .num false 0 65535, .num false 0 65535, .num false 0 255, .wide, .wide, .items, .num false 0 255, .text, .text, .text, .num false 0 65535, .num true 0 255, .text, .items, .flag, .text, .num false 0 255]
def LOff : List Nat := [0, 1, 2, 3, 17, 19, 20, 15, 16, 18, 4, 5, 6, 7, 8, 9, 10, 11, 12, 13, 14]
def LV.of (xs : List FV) : LV := {k := (xs.getD 0 (nv 0)).n, f := (xs.getD 1 (nv 0)).n, t := (xs.getD 2 (nv 0)).n, i := (xs.getD 3 (nv 0)).n, op := (xs.getD 10 (nv 0)).n, key := (xs.getD 11 (nv 0)).s, val := (xs.getD 12 (nv 0)).s, kto := (xs.getD 13 (nv 0)).s, most := (xs.getD 14 (nv 0)).n, er := (xs.getD 15 (nv 0)).n, tv := (xs.getD 16 (nv 0)).s, ti := (xs.getD 17 (nv 0)).l, more := (xs.getD 18 (nv 0)).n == 1, nx := (xs.getD 19 (nv 0)).s, tn := (xs.getD 20 (nv 0)).n, af := (xs.getD 7 (nv 0)).n.toNat, au := (xs.getD 8 (nv 0)).n.toNat, ep := (xs.getD 4 (nv 0)).n, li := (xs.getD 9 (nv 0)).l, n := (xs.getD 5 (nv 0)).n, nd := (xs.getD 6 (nv 0)).n}
abbrev LV.cells (l : LV) (S1 S2 : Value) : Array Value := #[.int .i64 l.k, .int .i64 l.f, .int .i64 l.t, .int .i64 l.i, .int .i64 l.op, .string l.key, .string l.val, .string l.kto, .int .i64 l.most, .int .i64 l.er, .string l.tv, S1, .bool l.more, .string l.nx, .int .i64 l.tn, .int .u64 (l.af : Nat), .int .u64 (l.au : Nat), .int .i64 l.ep, S2, .int .i64 l.n, .int .i64 l.nd]
def letterOs (l : LV) : List (Option ByteArray) := List.zipWith putK LK l.xs
def putL (l : LV) : Option ByteArray := catO (letterOs l)
def getL (b : ByteArray) : Option LV := match getF LK b with
  | some (xs, r) => if r.size = 0 then some (LV.of xs) else none
  | none => none
def i64B (v : Int) : Prop := -9223372036854775808 ≤ v ∧ v ≤ 9223372036854775807
def itemsB (l : List Item) : Prop := l.length ≤ 9223372036854775807 ∧ ∀ x ∈ l, x.1.size ≤ 9223372036854775807 ∧ x.2.size ≤ 9223372036854775807
/-- every field is one that a machine can hold -/
structure LV.Fine (l : LV) : Prop where
  kB : i64B l.k
  fB : i64B l.f
  tB : i64B l.t
  iB : i64B l.i
  opB : i64B l.op
  keyB : l.key.size ≤ 9223372036854775807
  valB : l.val.size ≤ 9223372036854775807
  ktoB : l.kto.size ≤ 9223372036854775807
  mostB : i64B l.most
  erB : i64B l.er
  tvB : l.tv.size ≤ 9223372036854775807
  tiB : itemsB l.ti
  nxB : l.nx.size ≤ 9223372036854775807
  tnB : i64B l.tn
  afB : l.af < 18446744073709551616
  auB : l.au < 18446744073709551616
  epB : i64B l.ep
  liB : itemsB l.li
  nB : i64B l.n
  ndB : i64B l.nd
theorem of_xs (l : LV) : LV.of l.xs = l := by
  obtain ⟨k, f, t, i, op, key, val, kto, most, er, tv, ti, more, nx, tn, af, au, ep, li, n, nd⟩ := l
  cases more <;> rfl
theorem canon_xs (l : LV) (h1 : l.af < 18446744073709551616) (h2 : l.au < 18446744073709551616) : ∀ j (_ : j < LK.length) (_ : j < l.xs.length), Canon LK[j] l.xs[j] := by
  intro j hj hx
  have hj' : j < 21 := hj
  have hc : j = 0 ∨ j = 1 ∨ j = 2 ∨ j = 3 ∨ j = 4 ∨ j = 5 ∨ j = 6 ∨ j = 7 ∨ j = 8 ∨ j = 9 ∨ j = 10 ∨ j = 11 ∨ j = 12 ∨ j = 13 ∨ j = 14 ∨ j = 15 ∨ j = 16 ∨ j = 17 ∨ j = 18 ∨ j = 19 ∨ j = 20 := by omega
  have w1 : (0 : Int) ≤ ((l.af : Nat) : Int) ∧ ((l.af : Nat) : Int) < 18446744073709551616 := ⟨by omega, by omega⟩
  have w2 : (0 : Int) ≤ ((l.au : Nat) : Int) ∧ ((l.au : Nat) : Int) < 18446744073709551616 := ⟨by omega, by omega⟩
  have w3 : (if l.more = true then (1 : Int) else 0) = 0 ∨ (if l.more = true then (1 : Int) else 0) = 1 := by cases l.more <;> simp
  rcases hc with rfl | rfl | rfl | rfl | rfl | rfl | rfl | rfl | rfl | rfl | rfl | rfl | rfl | rfl | rfl | rfl | rfl | rfl | rfl | rfl | rfl <;> first | exact ⟨rfl, rfl⟩ | exact ⟨w1, rfl, rfl⟩ | exact ⟨w2, rfl, rfl⟩ | exact ⟨w3, rfl, rfl⟩
theorem okK_LK : ∀ k ∈ LK, OkK k := by
  intro k hk
  simp only [LK, List.mem_cons, List.not_mem_nil, or_false] at hk
  rcases hk with rfl | rfl | rfl | rfl | rfl | rfl | rfl | rfl | rfl | rfl | rfl | rfl | rfl | rfl | rfl | rfl | rfl | rfl | rfl | rfl | rfl <;> first | trivial | exact ⟨by decide, by decide⟩
theorem nv_eq {x : FV} (h : x.s = ByteArray.empty ∧ x.l = []) : nv x.n = x := FV.ext' rfl h.1.symm h.2.symm
theorem sv_eq {x : FV} (h : x.n = 0 ∧ x.l = []) : sv x.s = x := FV.ext' h.1.symm rfl h.2.symm
theorem iv_eq {x : FV} (h : x.n = 0 ∧ x.s = ByteArray.empty) : iv x.l = x := FV.ext' h.1.symm h.2.symm rfl
theorem wv_eq {x : FV} (h : (0 ≤ x.n ∧ x.n < 18446744073709551616) ∧ x.s = ByteArray.empty ∧ x.l = []) : nv ((x.n.toNat : Nat) : Int) = x := FV.ext' (by show ((x.n.toNat : Nat) : Int) = _; omega) h.2.1.symm h.2.2.symm
theorem fv_eq {x : FV} (h : (x.n = 0 ∨ x.n = 1) ∧ x.s = ByteArray.empty ∧ x.l = []) : nv (if (x.n == 1) = true then 1 else 0) = x := by
  refine FV.ext' ?_ h.2.1.symm h.2.2.symm
  show (if (x.n == 1) = true then (1 : Int) else 0) = x.n
  rcases h.1 with e | e <;> rw [e] <;> rfl
set_option maxRecDepth 20000 in
theorem xs_of : ∀ (xs : List FV), xs.length = 21 → (∀ j (_ : j < LK.length) (_ : j < xs.length), Canon LK[j] xs[j]) → (LV.of xs).xs = xs
  | [x0, x1, x2, x3, x4, x5, x6, x7, x8, x9, x10, x11, x12, x13, x14, x15, x16, x17, x18, x19, x20], _, hc => by
    have e0 := nv_eq (hc 0 (by decide) (by simp))
    have e1 := nv_eq (hc 1 (by decide) (by simp))
    have e2 := nv_eq (hc 2 (by decide) (by simp))
    have e3 := nv_eq (hc 3 (by decide) (by simp))
    have e4 := nv_eq (hc 4 (by decide) (by simp))
    have e5 := nv_eq (hc 5 (by decide) (by simp))
    have e6 := nv_eq (hc 6 (by decide) (by simp))
    have e7 := wv_eq (hc 7 (by decide) (by simp))
    have e8 := wv_eq (hc 8 (by decide) (by simp))
    have e9 := iv_eq (hc 9 (by decide) (by simp))
    have e10 := nv_eq (hc 10 (by decide) (by simp))
    have e11 := sv_eq (hc 11 (by decide) (by simp))
    have e12 := sv_eq (hc 12 (by decide) (by simp))
    have e13 := sv_eq (hc 13 (by decide) (by simp))
    have e14 := nv_eq (hc 14 (by decide) (by simp))
    have e15 := nv_eq (hc 15 (by decide) (by simp))
    have e16 := sv_eq (hc 16 (by decide) (by simp))
    have e17 := iv_eq (hc 17 (by decide) (by simp))
    have e18 := fv_eq (hc 18 (by decide) (by simp))
    have e19 := sv_eq (hc 19 (by decide) (by simp))
    have e20 := nv_eq (hc 20 (by decide) (by simp))
    simp only [List.getElem_cons_zero, List.getElem_cons_succ] at e0 e1 e2 e3 e4 e5 e6 e7 e8 e9 e10 e11 e12 e13 e14 e15 e16 e17 e18 e19 e20
    show [nv x0.n, nv x1.n, nv x2.n, nv x3.n, nv x4.n, nv x5.n, nv x6.n, nv ((x7.n.toNat : Nat) : Int), nv ((x8.n.toNat : Nat) : Int), iv x9.l, nv x10.n, sv x11.s, sv x12.s, sv x13.s, nv x14.n, nv x15.n, sv x16.s, iv x17.l, nv (if (x18.n == 1) = true then 1 else 0), sv x19.s, nv x20.n] = _
    rw [e0, e1, e2, e3, e4, e5, e6, e7, e8, e9, e10, e11, e12, e13, e14, e15, e16, e17, e18, e19, e20]
theorem getL_of {l : LV} {b : ByteArray} (h1 : l.af < 18446744073709551616) (h2 : l.au < 18446744073709551616) (h : putL l = some b) : getL b = some l := by
  have g := getF_back LK l.xs b ByteArray.empty rfl okK_LK (canon_xs l h1 h2) h
  rw [append_empty] at g
  unfold getL
  rw [g]
  simp only
  rw [if_pos (by rfl), of_xs]
theorem getL_put {l : LV} {b : ByteArray} (h : getL b = some l) : putL l = some b ∧ l.af < 18446744073709551616 ∧ l.au < 18446744073709551616 := by
  unfold getL at h
  cases g : getF LK b with
  | none => rw [g] at h; cases h
  | some p =>
    obtain ⟨xs, r⟩ := p
    rw [g] at h
    simp only at h
    by_cases hr : r.size = 0
    · rw [if_pos hr] at h
      obtain ⟨hl, hc, b', hp, hb⟩ := getF_canon LK b xs r g
      have hr0 : r = ByteArray.empty := ba_ext (by rw [empty_data]; exact List.eq_nil_of_length_eq_zero hr)
      subst hr0
      rw [append_empty] at hb
      subst hb
      have e := xs_of xs hl hc
      have el : l = LV.of xs := (Option.some.inj h).symm
      subst el
      refine ⟨by unfold putL letterOs; rw [e]; exact hp, ?_, ?_⟩
      · have c7 := hc 7 (by decide) (by rw [hl]; decide)
        have : (xs.getD 7 (nv 0)).n < 18446744073709551616 := by rw [List.getD_eq_getElem?_getD, List.getElem?_eq_getElem (by rw [hl]; decide)]; exact c7.1.2
        show (xs.getD 7 (nv 0)).n.toNat < _
        omega
      · have c8 := hc 8 (by decide) (by rw [hl]; decide)
        have : (xs.getD 8 (nv 0)).n < 18446744073709551616 := by rw [List.getD_eq_getElem?_getD, List.getElem?_eq_getElem (by rw [hl]; decide)]; exact c8.1.2
        show (xs.getD 8 (nv 0)).n.toNat < _
        omega
    · rw [if_neg hr] at h; cases h
/-- two letters with the same bytes are the same -/
theorem putL_inj {l m : LV} {b : ByteArray} (h1 : l.af < 18446744073709551616) (h2 : l.au < 18446744073709551616) (g1 : m.af < 18446744073709551616) (g2 : m.au < 18446744073709551616) (h : putL l = some b) (g : putL m = some b) : l = m :=
  Option.some.inj ((getL_of h1 h2 h).symm.trans (getL_of g1 g2 g))
/-- what is shorter, or longer, than a letter's bytes is none -/
theorem getL_not {l : LV} {b c : ByteArray} (h1 : l.af < 18446744073709551616) (h2 : l.au < 18446744073709551616) (h : putL l = some b) (hc : c.size ≠ 0) : getL (b ++ c) = none := by
  have g := getF_back LK l.xs b c rfl okK_LK (canon_xs l h1 h2) h
  unfold getL
  rw [g]
  simp only
  rw [if_neg hc]
theorem getL_short {l : LV} {a c : ByteArray} (h1 : l.af < 18446744073709551616) (h2 : l.au < 18446744073709551616) (h : putL l = some (a ++ c)) (hc : c.size ≠ 0) : getL a = none := by
  cases g : getL a with
  | none => rfl
  | some m =>
    obtain ⟨p1, p2, p3⟩ := getL_put g
    have e1 := getL_not p2 p3 p1 hc
    rw [getL_of h1 h2 h] at e1
    cases e1
/-- a row of items that a slice has -/
def ItsAt (W : World) (A : Option Addr) (zs : List Item) : Prop :=
  ∃ b off, ∀ i (h : i < zs.length), A = some ⟨b, off, none⟩ ∧ b < W.heap.size ∧ W.cell? ⟨b, off + i * 2, none⟩ = some (.string (zs[i]).1) ∧ W.cell? ⟨b, off + i * 2 + 1, none⟩ = some (.string (zs[i]).2)
theorem ItsAt.below {W W1 : World} {A : Option Addr} {zs : List Item} (h : ItsAt W A zs) (hb : Below W.heap.size W W1) : ItsAt W1 A zs := by
  obtain ⟨b, off, h⟩ := h
  refine ⟨b, off, fun i hi => ?_⟩
  obtain ⟨h1, h2, h3, h4⟩ := h i hi
  exact ⟨h1, Nat.lt_of_lt_of_le h2 hb.size, (hb.cell (p := ⟨b, off + i * 2, none⟩) h2).trans h3, (hb.cell (p := ⟨b, off + i * 2 + 1, none⟩) h2).trans h4⟩
/-- a slice of items -/
def SlAt (W : World) (S : Value) (zs : List Item) : Prop := ∃ A c, S = .slice A zs.length c ∧ zs.length ≤ c ∧ c ≤ maxLen ∧ ItsAt W A zs
theorem SlAt.below {W W1 : World} {S : Value} {zs : List Item} (h : SlAt W S zs) (hb : Below W.heap.size W W1) : SlAt W1 S zs := by
  obtain ⟨A, c, h1, h3, h4, h2⟩ := h
  exact ⟨A, c, h1, h3, h4, h2.below hb⟩
theorem SlAt.nil (W : World) : SlAt W (.slice none 0 0) [] := ⟨none, 0, rfl, Nat.le_refl _, by unfold maxLen; omega, 0, 0, fun i h => by simp at h⟩
end Go.Proofs.Ytfemdfidfomchaa
