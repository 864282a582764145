/-
  Packets, plainly: bytes as a packet, and back.
-/
import Derived.Test.YtbnmddopgbhapaaLetReadG
namespace Go.Proofs.Ytbnmddopgbhapaa
open Go.RowKit

theorem getF_append : ∀ (ks ls : List FK) (s : ByteArray), getF (ks ++ ls) s = match getF ks s with
    | none => none
    | some (xs, r) => (getF ls r).map fun p => (xs ++ p.1, p.2)
  | [], ls, s => by
    show getF ls s = (getF ls s).map _
    cases getF ls s with
    | none => rfl
    | some p => rfl
  | k0 :: ks, ls, s => by
    rw [List.cons_append, getF, getF]
    cases getK k0 s with
    | none => rfl
    | some p =>
      obtain ⟨x, r⟩ := p
      simp only
      rw [getF_append ks ls r]
      cases getF ks r with
      | none => rfl
      | some q =>
        obtain ⟨ys, r2⟩ := q
        simp only [Option.map_some]
        cases getF ls r2 with
        | none => rfl
        | some z => rfl
def K4 : List FK := [.num false 0 255, .num false 0 255, .num false 0 65535, .num false 0 65535]
def K25 : List FK := K4 ++ LK
def x4 (q : PV) : List FV := [nv q.pf, nv q.pt, nv q.sq, nv q.ak]
def PV.of (xs : List FV) : PV := ⟨(xs.getD 0 (nv 0)).n, (xs.getD 1 (nv 0)).n, (xs.getD 2 (nv 0)).n, (xs.getD 3 (nv 0)).n, LV.of (xs.drop 4)⟩
/-- bytes as a packet -/
def getP (s : ByteArray) : Option PV := match getF K4 s with
  | none => none
  | some (xs, r) => if (xs.getD 2 (nv 0)).n = 0 then (if r.size = 0 then some (PV.of xs) else none) else match getF LK r with
    | some (ys, r2) => if r2.size = 0 then some (PV.of (xs ++ ys)) else none
    | none => none
theorem okK_K4 : ∀ k ∈ K4, OkK k := by
  intro k hk
  simp only [K4, List.mem_cons, List.not_mem_nil, or_false] at hk
  rcases hk with rfl | rfl | rfl | rfl <;> exact ⟨by decide, by decide⟩
theorem canon_x4 (q : PV) : ∀ j (_ : j < K4.length) (_ : j < (x4 q).length), Canon K4[j] (x4 q)[j] := by
  intro j hj hx
  have hj' : j < 4 := hj
  have hc : j = 0 ∨ j = 1 ∨ j = 2 ∨ j = 3 := by omega
  rcases hc with rfl | rfl | rfl | rfl <;> exact ⟨rfl, rfl⟩
theorem putP_split {q : PV} {b : ByteArray} (h : putP q = some b) : ∃ hd t, putF K4 (x4 q) = some hd ∧ inP q = some t ∧ b = hd ++ t := by
  have e : putP q = catO (List.zipWith putK K4 (x4 q) ++ [inP q]) := rfl
  rw [e, catO_append] at h
  have e2 : putF K4 (x4 q) = catO (List.zipWith putK K4 (x4 q)) := rfl
  rw [e2]
  cases h1 : catO (List.zipWith putK K4 (x4 q)) with
  | none => rw [h1] at h; cases h
  | some hd =>
    rw [h1] at h
    simp only at h
    cases h2 : inP q with
    | none => rw [h2] at h; cases h
    | some t =>
      rw [h2] at h
      have e3 : hd ++ (t ++ ByteArray.empty) = b := Option.some.inj h
      rw [append_empty] at e3
      exact ⟨hd, t, rfl, rfl, e3.symm⟩
theorem putP_join {q : PV} {hd t : ByteArray} (h1 : putF K4 (x4 q) = some hd) (h2 : inP q = some t) : putP q = some (hd ++ t) := by
  have e : putP q = catO (List.zipWith putK K4 (x4 q) ++ [inP q]) := rfl
  have e2 : catO (List.zipWith putK K4 (x4 q)) = some hd := h1
  rw [e, catO_append, e2, h2]
  show some (hd ++ (t ++ ByteArray.empty)) = _
  rw [append_empty]
theorem getP_put4 {q : PV} {hd r : ByteArray} (h : putF K4 (x4 q) = some hd) : getF K4 (hd ++ r) = some (x4 q, r) :=
  getF_back K4 (x4 q) hd r rfl okK_K4 (canon_x4 q) h
theorem inP_zero {q : PV} {t : ByteArray} (h : inP q = some t) (h0 : q.sq = 0) : t = ByteArray.empty ∧ someB q.lt = false := by
  unfold inP at h
  rw [if_pos h0] at h
  cases hs : someB q.lt with
  | true => rw [hs] at h; cases h
  | false => rw [hs] at h; exact ⟨(Option.some.inj h).symm, rfl⟩
theorem inP_more {q : PV} {t : ByteArray} (h : inP q = some t) (h0 : q.sq ≠ 0) : putL q.lt = some t := by
  unfold inP at h
  rwa [if_neg h0] at h
theorem getP_not {q : PV} {b c : ByteArray} (h1 : q.lt.af < 18446744073709551616) (h2 : q.lt.au < 18446744073709551616) (h : putP q = some b) (hc : c.size ≠ 0) : getP (b ++ c) = none := by
  obtain ⟨hd, t, e1, e2, rfl⟩ := putP_split h
  unfold getP
  rw [append_assoc, getP_put4 e1]
  simp only
  have e3 : ((x4 q).getD 2 (nv 0)).n = q.sq := rfl
  rw [e3]
  by_cases h0 : q.sq = 0
  · obtain ⟨rfl, -⟩ := inP_zero e2 h0
    rw [if_pos h0, empty_append, if_neg hc]
  · have e4 := inP_more e2 h0
    have g := getF_back LK q.lt.xs t c rfl okK_LK (canon_xs q.lt h1 h2) e4
    rw [if_neg h0, g]
    simp only
    rw [if_neg hc]
theorem getP_some {q : PV} {b : ByteArray} (h1 : q.lt.af < 18446744073709551616) (h2 : q.lt.au < 18446744073709551616) (h : putP q = some b) : getP b = some (if q.sq = 0 then PV.of (x4 q) else q) := by
  obtain ⟨hd, t, e1, e2, rfl⟩ := putP_split h
  unfold getP
  rw [getP_put4 e1]
  simp only
  have e3 : ((x4 q).getD 2 (nv 0)).n = q.sq := rfl
  rw [e3]
  by_cases h0 : q.sq = 0
  · obtain ⟨rfl, -⟩ := inP_zero e2 h0
    rw [if_pos h0, if_pos h0, if_pos (by rfl)]
  · have e4 := inP_more e2 h0
    have g := getF_back LK q.lt.xs t ByteArray.empty rfl okK_LK (canon_xs q.lt h1 h2) e4
    rw [append_empty] at g
    rw [if_neg h0, if_neg h0, g]
    simp only
    rw [if_pos (by rfl)]
    have e5 : PV.of (x4 q ++ q.lt.xs) = ⟨q.pf, q.pt, q.sq, q.ak, LV.of q.lt.xs⟩ := rfl
    rw [e5, of_xs]
theorem x4_of : ∀ (xs ys : List FV), xs.length = 4 → (∀ j (_ : j < K4.length) (_ : j < xs.length), Canon K4[j] xs[j]) → x4 (PV.of (xs ++ ys)) = xs ∧ (PV.of (xs ++ ys)).lt = LV.of ys ∧ (PV.of (xs ++ ys)).sq = (xs.getD 2 (nv 0)).n
  | [a0, a1, a2, a3], ys, _, hc => by
    have e0 := nv_eq (hc 0 (by decide) (by simp))
    have e1 := nv_eq (hc 1 (by decide) (by simp))
    have e2 := nv_eq (hc 2 (by decide) (by simp))
    have e3 := nv_eq (hc 3 (by decide) (by simp))
    simp only [List.getElem_cons_zero, List.getElem_cons_succ] at e0 e1 e2 e3
    refine ⟨?_, rfl, rfl⟩
    show [nv a0.n, nv a1.n, nv a2.n, nv a3.n] = _
    rw [e0, e1, e2, e3]
theorem someB_nil : someB (LV.of []) = false := by kernel_rfl
theorem getP_put {m : PV} {a : ByteArray} (h : getP a = some m) : putP m = some a ∧ m.lt.af < 18446744073709551616 ∧ m.lt.au < 18446744073709551616 := by
  unfold getP at h
  cases g : getF K4 a with
  | none => rw [g] at h; cases h
  | some p =>
    obtain ⟨xs, r⟩ := p
    rw [g] at h
    simp only at h
    obtain ⟨hl, hc, hd, hp, rfl⟩ := getF_canon K4 a xs r g
    by_cases h0 : (xs.getD 2 (nv 0)).n = 0
    · rw [if_pos h0] at h
      by_cases hr : r.size = 0
      · rw [if_pos hr] at h
        obtain rfl := size_zero hr
        obtain ⟨e1, e2, e3⟩ := x4_of xs [] hl hc
        rw [List.append_nil] at e1 e2 e3
        obtain rfl : PV.of xs = m := Option.some.inj h
        refine ⟨putP_join (by rw [e1]; exact hp) ?_, by rw [e2]; decide, by rw [e2]; decide⟩
        unfold inP
        rw [if_pos (e3.trans h0), e2, someB_nil, if_neg (by decide)]
      · rw [if_neg hr] at h; cases h
    · rw [if_neg h0] at h
      cases g2 : getF LK r with
      | none => rw [g2] at h; cases h
      | some p2 =>
        obtain ⟨ys, r2⟩ := p2
        rw [g2] at h
        simp only at h
        by_cases hr : r2.size = 0
        · rw [if_pos hr] at h
          obtain rfl := size_zero hr
          obtain ⟨e1, e2, e3⟩ := x4_of xs ys hl hc
          obtain rfl : PV.of (xs ++ ys) = m := Option.some.inj h
          have hgl : getL r = some (LV.of ys) := by
            unfold getL
            rw [g2]
            simp only
            rw [if_pos (by rfl)]
          obtain ⟨u1, u2, u3⟩ := getL_put hgl
          refine ⟨putP_join (by rw [e1]; exact hp) ?_, by rw [e2]; exact u2, by rw [e2]; exact u3⟩
          unfold inP
          rw [if_neg (fun e => h0 (e3.symm.trans e)), e2]
          exact u1
        · rw [if_neg hr] at h; cases h
theorem getP_short {q : PV} {a c : ByteArray} (h1 : q.lt.af < 18446744073709551616) (h2 : q.lt.au < 18446744073709551616) (h : putP q = some (a ++ c)) (hc : c.size ≠ 0) : getP a = none := by
  cases g : getP a with
  | none => rfl
  | some m =>
    obtain ⟨p1, p2, p3⟩ := getP_put g
    have e1 := getP_not p2 p3 p1 hc
    rw [getP_some h1 h2 h] at e1
    cases e1
end Go.Proofs.Ytbnmddopgbhapaa
