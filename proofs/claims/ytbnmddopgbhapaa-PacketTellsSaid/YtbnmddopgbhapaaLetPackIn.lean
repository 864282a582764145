/-
  Packets, plainly: bytes as a packet, and back.
  The letter in a packet, read, walked.
  GetPacket, walked.
  GetPacket, walked: what it tells.
  A packet's bytes, cut anywhere, or longer, are none: the walk.
-/
import Derived.Test.YtbnmddopgbhapaaLetReadG
namespace Go.Proofs.Ytbnmddopgbhapaa
open Go.RowKit

theorem getF_append : ∀ (ks ls : List FK) (s : ByteArray), getF (ks ++ ls) s = match getF ks s with
    | none => none
    | some (xs, r) => (getF ls r).map fun p => (xs ++ p.1, p.2)
  | [], ls, s => by
    show getF ls s = (getF ls s).map _
    cases getF ls s with
    | none => rfl
    | some p => rfl
  | k0 :: ks, ls, s => by
    rw [List.cons_append, getF, getF]
    cases getK k0 s with
    | none => rfl
    | some p =>
      obtain ⟨x, r⟩ := p
      simp only
      rw [getF_append ks ls r]
      cases getF ks r with
      | none => rfl
      | some q =>
        obtain ⟨ys, r2⟩ := q
        simp only [Option.map_some]
        cases getF ls r2 with
        | none => rfl
        | some z => rfl
def K4 : List FK := [.num false 0 255, .num false 0 255, .num false 0 65535, .num false 0 65535]
def K25 : List FK := K4 ++ LK
def x4 (q : PV) : List FV := [nv q.pf, nv q.pt, nv q.sq, nv q.ak]
def PV.of (xs : List FV) : PV := ⟨(xs.getD 0 (nv 0)).n, (xs.getD 1 (nv 0)).n, (xs.getD 2 (nv 0)).n, (xs.getD 3 (nv 0)).n, LV.of (xs.drop 4)⟩
/-- bytes as a packet -/
def getP (s : ByteArray) : Option PV := match getF K4 s with
  | none => none
  | some (xs, r) => if (xs.getD 2 (nv 0)).n = 0 then (if r.size = 0 then some (PV.of xs) else none) else match getF LK r with
    | some (ys, r2) => if r2.size = 0 then some (PV.of (xs ++ ys)) else none
    | none => none
theorem okK_K4 : ∀ k ∈ K4, OkK k := by
  intro k hk
  simp only [K4, List.mem_cons, List.not_mem_nil, or_false] at hk
  rcases hk with rfl | rfl | rfl | rfl <;> exact ⟨by decide, by decide⟩
theorem canon_x4 (q : PV) : ∀ j (_ : j < K4.length) (_ : j < (x4 q).length), Canon K4[j] (x4 q)[j] := by
  intro j hj hx
  have hj' : j < 4 := hj
  have hc : j = 0 ∨ j = 1 ∨ j = 2 ∨ j = 3 := by omega
  rcases hc with rfl | rfl | rfl | rfl <;> exact ⟨rfl, rfl⟩
theorem putP_split {q : PV} {b : ByteArray} (h : putP q = some b) : ∃ hd t, putF K4 (x4 q) = some hd ∧ inP q = some t ∧ b = hd ++ t := by
  have e : putP q = catO (List.zipWith putK K4 (x4 q) ++ [inP q]) := rfl
  rw [e, catO_append] at h
  have e2 : putF K4 (x4 q) = catO (List.zipWith putK K4 (x4 q)) := rfl
  rw [e2]
  cases h1 : catO (List.zipWith putK K4 (x4 q)) with
  | none => rw [h1] at h; cases h
  | some hd =>
    rw [h1] at h
    simp only at h
    cases h2 : inP q with
    | none => rw [h2] at h; cases h
    | some t =>
      rw [h2] at h
      have e3 : hd ++ (t ++ ByteArray.empty) = b := Option.some.inj h
      rw [append_empty] at e3
      exact ⟨hd, t, rfl, rfl, e3.symm⟩
theorem putP_join {q : PV} {hd t : ByteArray} (h1 : putF K4 (x4 q) = some hd) (h2 : inP q = some t) : putP q = some (hd ++ t) := by
  have e : putP q = catO (List.zipWith putK K4 (x4 q) ++ [inP q]) := rfl
  have e2 : catO (List.zipWith putK K4 (x4 q)) = some hd := h1
  rw [e, catO_append, e2, h2]
  show some (hd ++ (t ++ ByteArray.empty)) = _
  rw [append_empty]
theorem getP_put4 {q : PV} {hd r : ByteArray} (h : putF K4 (x4 q) = some hd) : getF K4 (hd ++ r) = some (x4 q, r) :=
  getF_back K4 (x4 q) hd r rfl okK_K4 (canon_x4 q) h
theorem inP_zero {q : PV} {t : ByteArray} (h : inP q = some t) (h0 : q.sq = 0) : t = ByteArray.empty ∧ someB q.lt = false := by
  unfold inP at h
  rw [if_pos h0] at h
  cases hs : someB q.lt with
  | true => rw [hs] at h; cases h
  | false => rw [hs] at h; exact ⟨(Option.some.inj h).symm, rfl⟩
theorem inP_more {q : PV} {t : ByteArray} (h : inP q = some t) (h0 : q.sq ≠ 0) : putL q.lt = some t := by
  unfold inP at h
  rwa [if_neg h0] at h
theorem getP_not {q : PV} {b c : ByteArray} (h1 : q.lt.af < 18446744073709551616) (h2 : q.lt.au < 18446744073709551616) (h : putP q = some b) (hc : c.size ≠ 0) : getP (b ++ c) = none := by
  obtain ⟨hd, t, e1, e2, rfl⟩ := putP_split h
  unfold getP
  rw [append_assoc, getP_put4 e1]
  simp only
  have e3 : ((x4 q).getD 2 (nv 0)).n = q.sq := rfl
  rw [e3]
  by_cases h0 : q.sq = 0
  · obtain ⟨rfl, -⟩ := inP_zero e2 h0
    rw [if_pos h0, empty_append, if_neg hc]
  · have e4 := inP_more e2 h0
    have g := getF_back LK q.lt.xs t c rfl okK_LK (canon_xs q.lt h1 h2) e4
    rw [if_neg h0, g]
    simp only
    rw [if_neg hc]
theorem getP_some {q : PV} {b : ByteArray} (h1 : q.lt.af < 18446744073709551616) (h2 : q.lt.au < 18446744073709551616) (h : putP q = some b) : getP b = some (if q.sq = 0 then PV.of (x4 q) else q) := by
  obtain ⟨hd, t, e1, e2, rfl⟩ := putP_split h
  unfold getP
  rw [getP_put4 e1]
  simp only
  have e3 : ((x4 q).getD 2 (nv 0)).n = q.sq := rfl
  rw [e3]
  by_cases h0 : q.sq = 0
  · obtain ⟨rfl, -⟩ := inP_zero e2 h0
    rw [if_pos h0, if_pos h0, if_pos (by rfl)]
  · have e4 := inP_more e2 h0
    have g := getF_back LK q.lt.xs t ByteArray.empty rfl okK_LK (canon_xs q.lt h1 h2) e4
    rw [append_empty] at g
    rw [if_neg h0, if_neg h0, g]
    simp only
    rw [if_pos (by rfl)]
    have e5 : PV.of (x4 q ++ q.lt.xs) = ⟨q.pf, q.pt, q.sq, q.ak, LV.of q.lt.xs⟩ := rfl
    rw [e5, of_xs]
theorem x4_of : ∀ (xs ys : List FV), xs.length = 4 → (∀ j (_ : j < K4.length) (_ : j < xs.length), Canon K4[j] xs[j]) → x4 (PV.of (xs ++ ys)) = xs ∧ (PV.of (xs ++ ys)).lt = LV.of ys ∧ (PV.of (xs ++ ys)).sq = (xs.getD 2 (nv 0)).n
  | [a0, a1, a2, a3], ys, _, hc => by
    have e0 := nv_eq (hc 0 (by decide) (by simp))
    have e1 := nv_eq (hc 1 (by decide) (by simp))
    have e2 := nv_eq (hc 2 (by decide) (by simp))
    have e3 := nv_eq (hc 3 (by decide) (by simp))
    simp only [List.getElem_cons_zero, List.getElem_cons_succ] at e0 e1 e2 e3
    refine ⟨?_, rfl, rfl⟩
    show [nv a0.n, nv a1.n, nv a2.n, nv a3.n] = _
    rw [e0, e1, e2, e3]
theorem someB_nil : someB (LV.of []) = false := by kernel_rfl
theorem getP_put {m : PV} {a : ByteArray} (h : getP a = some m) : putP m = some a ∧ m.lt.af < 18446744073709551616 ∧ m.lt.au < 18446744073709551616 := by
  unfold getP at h
  cases g : getF K4 a with
  | none => rw [g] at h; cases h
  | some p =>
    obtain ⟨xs, r⟩ := p
    rw [g] at h
    simp only at h
    obtain ⟨hl, hc, hd, hp, rfl⟩ := getF_canon K4 a xs r g
    by_cases h0 : (xs.getD 2 (nv 0)).n = 0
    · rw [if_pos h0] at h
      by_cases hr : r.size = 0
      · rw [if_pos hr] at h
        obtain rfl := size_zero hr
        obtain ⟨e1, e2, e3⟩ := x4_of xs [] hl hc
        rw [List.append_nil] at e1 e2 e3
        obtain rfl : PV.of xs = m := Option.some.inj h
        refine ⟨putP_join (by rw [e1]; exact hp) ?_, by rw [e2]; decide, by rw [e2]; decide⟩
        unfold inP
        rw [if_pos (e3.trans h0), e2, someB_nil, if_neg (by decide)]
      · rw [if_neg hr] at h; cases h
    · rw [if_neg h0] at h
      cases g2 : getF LK r with
      | none => rw [g2] at h; cases h
      | some p2 =>
        obtain ⟨ys, r2⟩ := p2
        rw [g2] at h
        simp only at h
        by_cases hr : r2.size = 0
        · rw [if_pos hr] at h
          obtain rfl := size_zero hr
          obtain ⟨e1, e2, e3⟩ := x4_of xs ys hl hc
          obtain rfl : PV.of (xs ++ ys) = m := Option.some.inj h
          have hgl : getL r = some (LV.of ys) := by
            unfold getL
            rw [g2]
            simp only
            rw [if_pos (by rfl)]
          obtain ⟨u1, u2, u3⟩ := getL_put hgl
          refine ⟨putP_join (by rw [e1]; exact hp) ?_, by rw [e2]; exact u2, by rw [e2]; exact u3⟩
          unfold inP
          rw [if_neg (fun e => h0 (e3.symm.trans e)), e2]
          exact u1
        · rw [if_neg hr] at h; cases h
theorem getP_short {q : PV} {a c : ByteArray} (h1 : q.lt.af < 18446744073709551616) (h2 : q.lt.au < 18446744073709551616) (h : putP q = some (a ++ c)) (hc : c.size ≠ 0) : getP a = none := by
  cases g : getP a with
  | none => rfl
  | some m =>
    obtain ⟨p1, p2, p3⟩ := getP_put g
    have e1 := getP_not p2 p3 p1 hc
    rw [getP_some h1 h2 h] at e1
    cases e1
end Go.Proofs.Ytbnmddopgbhapaa
namespace Go.Proofs.Ytbnmddopgbhapaa
open Go.RowKit

/-- a packet's fields, and where each lies -/
def LF25 : List (FK × Nat) := List.zip K25 ([0, 1, 2, 3] ++ LOff.map (· + 4))
theorem lf25_len : LF25.length = 25 := rfl
theorem lf25_fst : LF25.map (·.1) = K25 := rfl
theorem lf25_four : (LF25.take 4).map (·.1) = K4 := rfl
theorem lf25_drop (b : Nat) : (LF25.drop 4).map (fieldV b) = innerFs b := rfl
theorem lf25_take (b j : Nat) (h : j < 4) (h2 : j < (packetFs b).length) (h3 : j < LF25.length) : (packetFs b)[j] = fieldV b (LF25[j]) := by
  have hc : j = 0 ∨ j = 1 ∨ j = 2 ∨ j = 3 := by omega
  rcases hc with rfl | rfl | rfl | rfl <;> rfl
theorem lf25_off : ∀ i i' (h : i < LF25.length) (h' : i' < LF25.length), i ≠ i' → (LF25[i]).2 ≠ (LF25[i']).2 := by
  have key : ∀ i i' : Fin 25, i ≠ i' → (LF25[i.1]'i.2).2 ≠ (LF25[i'.1]'i'.2).2 := by decide
  intro i i' h h' hne
  exact key ⟨i, h⟩ ⟨i', h'⟩ (fun e => hne (Fin.mk.inj e))
/-- what the letter in a packet leaves -/
def InYes (W : World) (b g : Nat) (s : ByteArray) (w' : World) : Prop :=
  ∃ cs xs vs r, ((xs.getD 2 (nv 0)).n = 0 ∧ RdSt W w' b g 34 25 LF25 4 s cs xs vs r) ∨ ((xs.getD 2 (nv 0)).n ≠ 0 ∧ RdSt W w' b g 34 25 LF25 25 s cs xs vs r)
def InNo (s : ByteArray) : Prop := getF K4 s = none ∨ ∃ xs r, getF K4 s = some (xs, r) ∧ (xs.getD 2 (nv 0)).n ≠ 0 ∧ getF K25 s = none
theorem getD_of {xs : List FV} {j : Nat} (h : j < xs.length) : xs.getD j (nv 0) = xs[j] := by rw [List.getD_eq_getElem?_getD, List.getElem?_eq_getElem h]; rfl
theorem first_of {s r r4 : ByteArray} {xs ys : List FV} (h4 : getF K4 s = some (xs, r4)) (h : getF K25 s = some (ys, r)) : ys.getD 2 (nv 0) = xs.getD 2 (nv 0) := by
  rw [K25, getF_append, h4] at h
  simp only at h
  cases g : getF LK r4 with
  | none => rw [g] at h; cases h
  | some p =>
    rw [g] at h
    have e := Option.some.inj h
    have e1 : xs ++ p.1 = ys := congrArg Prod.fst e
    have hl : xs.length = 4 := getF_len _ _ _ _ h4
    rw [← e1, List.getD_eq_getElem?_getD, List.getD_eq_getElem?_getD, List.getElem?_append_left (by omega)]
set_option maxRecDepth 20000 in
set_option maxHeartbeats 2000000 in
theorem inget_any {W w : World} {b g : Nat} {s : ByteArray} {cs : Array Value} {xs : List FV} {vs : List Value} {r : ByteArray} (h : RdSt W w b g 34 25 LF25 4 s cs xs vs r)
    (hne : b ≠ g) (hs : s.size ≤ 9223372036854775807) (hbl : b < W.heap.size) (hgl : g < W.heap.size) :
    Calls Try.prog 76 #[.agg #[.pointer (some ⟨b, 0, none⟩)], .pointer (some ⟨g, 0, none⟩)] w fun e w' => ∃ (ok : Bool) (o : Option ByteArray), e = .returned (.bool ok) ∧ RdO w' g o ∧ (ok = true → o.isSome = true → InYes W b g s w' ∧ Touch [b, g] W w') ∧ ((ok && o.isSome) = false → InNo s ∧ Touch [b, g] W w') := by
  have BW : Below w.heap.size w (w.alloc (.cells #[.pointer (some ⟨b, 0, none⟩)] 89)) := (Below.refl _ _).alloc (Nat.le_refl _) _
  have hK4 : getF K4 s = some (xs, r) := h.got
  have hl : xs.length = 4 := getF_len _ _ _ _ hK4
  have hv2 : 2 < vs.length := by rw [h.lens]; decide
  obtain ⟨d1, d2⟩ := h.done 2 (by decide) hv2 (by omega)
  have d3 : vs[2] = .int .i64 (xs[2]).n := d2
  have e2 := getD_of (xs := xs) (j := 2) (by omega)
  have hb1 := (BW.block _ (lt_of_heap h.blk)).trans h.blk
  have hsq : (w.alloc (.cells #[.pointer (some ⟨b, 0, none⟩)] 89)).cell? ⟨b, 2, none⟩ = some (.int .i64 (xs.getD 2 (nv 0)).n) := by
    rw [Lib.cell_of_heap hb1, e2, ← d3]
    exact d1
  have HH := Lib.hid h
  have HBW := Lib.hid BW
  have HK := Lib.hid hK4
  have hbw : b < w.heap.size := lt_of_heap h.blk
  clear d3 d2 d1 e2 hb1 hv2 hl h BW hK4
  generalize hz : (xs.getD 2 (nv 0)).n = z at *
  have HZ := Lib.hid hz
  clear hz
  by_cases h0 : z = 0
  · have b0 : (z == 0) = true := by rw [beq_iff_eq]; exact h0
    have HZ0 := Lib.hid h0
    clear h0
    go_enter Try.func76, Try.ntmps76
    go_wp2
    go_ret
    have h1 := HH.out.below HBW.out hbl hgl
    exact ⟨true, some r, rfl, h1.rd, fun _ _ => ⟨⟨cs, xs, vs, r, .inl ⟨HZ.out.trans HZ0.out, h1⟩⟩, h1.touch⟩, fun hh => by cases hh⟩
  · have b0 : (z == 0) = false := by rw [beq_eq_false_iff_ne]; exact h0
    have CO := Lib.hid of_inner21
    have CR : Hid (∀ w1 A c, Below (w.alloc (.cells #[.pointer (some ⟨b, 0, none⟩)] 89)).heap.size (w.alloc (.cells #[.pointer (some ⟨b, 0, none⟩)] 89)) w1 → FieldsAt w1 A (innerFs b) → (∀ q o, A = some ⟨q, o, none⟩ → q ≠ b ∧ q ≠ g) → Calls Try.prog 48 #[.pointer (some ⟨g, 0, none⟩), .slice A 21 c] w1 (ReadPost (fun w' => ∃ cs xs vs r, RdSt W w' b g 34 25 LF25 25 s cs xs vs r) (fun w' => getF K25 s = none ∧ Touch [b, g] W w' ∧ ∃ o, RdO w' g o))) := fun w1 A c hb1 hA hAb =>
      readOn_any (LF := LF25) ((HH.out.below HBW.out hbl hgl).below hb1 hbl hgl) (n := 21) (by rfl) (by decide) hne hs hbl hgl lf25_off A c (by rw [lf25_drop]; exact hA) hAb
    have HZ0 := Lib.hid h0
    have hwz : (w.alloc (.cells #[.pointer (some ⟨b, 0, none⟩)] 89)).heap.size = w.heap.size + 1 := by simp
    have HWZ := Lib.hid hwz
    have HG : Hid (b < w.heap.size ∧ g < w.heap.size) := ⟨hbw, Nat.lt_of_lt_of_le hgl HH.out.touch.size⟩
    clear h0 hwz
    go_enter Try.func76, Try.ntmps76
    go_wp2_with (first
      | (go_at_call 36; ((with_reducible refine (CO.out _ _).mono ?_); rintro e w1 ⟨c1, rfl, hf1, hb1, hs1⟩; have CR1 := Lib.hid (CR.out w1 (some ⟨w.heap.size + 1, 0, none⟩) c1 hb1 (HWZ.out ▸ hf1) (fun q o hq => by injection hq with hq; injection hq with hq _ _; have := HG.out; omega)); clear hf1 hb1 hs1))
      | (go_at_call 48; ((with_reducible refine (CR1.out).mono ?_); rintro e w2 (⟨rfl, hyes⟩ | ⟨rfl, hno⟩))))
    · go_ret
      obtain ⟨cs2, xs2, vs2, r2, h2⟩ := hyes
      have h25 : getF K25 s = some (xs2, r2) := h2.got
      have ez : (xs2.getD 2 (nv 0)).n ≠ 0 := by rw [first_of HK.out h25, HZ.out]; exact HZ0.out
      exact ⟨true, some r2, rfl, h2.rd, fun _ _ => ⟨⟨cs2, xs2, vs2, r2, .inr ⟨ez, h2⟩⟩, h2.touch⟩, fun hh => by cases hh⟩
    · go_ret
      obtain ⟨n1, n2, o, n3⟩ := hno
      exact ⟨false, o, rfl, n3, (fun hh => by cases hh), fun _ => ⟨.inr ⟨xs, r, HK.out, by rw [HZ.out]; exact HZ0.out, n1⟩, n2⟩⟩
end Go.Proofs.Ytbnmddopgbhapaa
namespace Go.Proofs.Ytbnmddopgbhapaa
open Go.RowKit

abbrev PZ : Array Value := #[.int .i64 0, .int .i64 0, .int .i64 0, .int .i64 0, .int .i64 0, .int .i64 0, .int .i64 0, .int .i64 0, .int .i64 0, .string ⟨#[]⟩, .string ⟨#[]⟩, .string ⟨#[]⟩, .int .i64 0, .int .i64 0, .string ⟨#[]⟩, .slice none 0 0, .bool false, .string ⟨#[]⟩, .int .i64 0, .int .u64 0, .int .u64 0, .int .i64 0, .slice none 0 0, .int .i64 0, .int .i64 0]
theorem cells25 {cs ds : Array Value} (h : cs.size = 25) (hd : ds.size = 25) (hh : ∀ i, i < 25 → cs[i]? = ds[i]?) : cs = ds := by
  apply Array.ext_getElem?
  intro i
  rcases Nat.lt_or_ge i 25 with h' | h'
  · exact hh i h'
  · rw [Array.getElem?_eq_none (by omega), Array.getElem?_eq_none (by omega)]
theorem lf25_zero : ∀ i (h : i < LF25.length), PZ[(LF25[i]).2]? = some (zeroK (LF25[i]).1) := by
  intro i h
  have h' : i < 25 := h
  have hc : i = 0 ∨ i = 1 ∨ i = 2 ∨ i = 3 ∨ i = 4 ∨ i = 5 ∨ i = 6 ∨ i = 7 ∨ i = 8 ∨ i = 9 ∨ i = 10 ∨ i = 11 ∨ i = 12 ∨ i = 13 ∨ i = 14 ∨ i = 15 ∨ i = 16 ∨ i = 17 ∨ i = 18 ∨ i = 19 ∨ i = 20 ∨ i = 21 ∨ i = 22 ∨ i = 23 ∨ i = 24 := by omega
  rcases hc with rfl | rfl | rfl | rfl | rfl | rfl | rfl | rfl | rfl | rfl | rfl | rfl | rfl | rfl | rfl | rfl | rfl | rfl | rfl | rfl | rfl | rfl | rfl | rfl | rfl <;> rfl
set_option maxRecDepth 20000 in
theorem got25 {w : World} {B : Nat} {cs : Array Value} : ∀ {xs : List FV} {vs : List Value}, xs.length = 25 → vs.length = 25 → cs.size = 25 → (∀ i (h : i < LF25.length) (h2 : i < vs.length) (h3 : i < xs.length), cs[(LF25[i]).2]? = some vs[i] ∧ FvAt w B (LF25[i]).1 vs[i] xs[i]) → (∀ i i' (h : i < vs.length) (h2 : i' < vs.length), i ≠ i' → ∀ q, (vs[i]).ownBlock = some q → (vs[i']).ownBlock ≠ some q) → (∀ i (h : i < xs.length), i = 11 ∨ i = 12 → 0 ≤ (xs[i]).n) →
    ∃ S1 S2, cs = (PV.of xs).cells S1 S2 ∧ w.ownsRow B 56 2 S1 (PV.of xs).lt.ti.length (itemCells (PV.of xs).lt.ti) ∧ w.ownsRow B 56 2 S2 (PV.of xs).lt.li.length (itemCells (PV.of xs).lt.li) ∧ ∀ q, S1.ownBlock = some q → S2.ownBlock ≠ some q
  | [x0, x1, x2, x3, x4, x5, x6, x7, x8, x9, x10, x11, x12, x13, x14, x15, x16, x17, x18, x19, x20, x21, x22, x23, x24], [v0, v1, v2, v3, v4, v5, v6, v7, v8, v9, v10, v11, v12, v13, v14, v15, v16, v17, v18, v19, v20, v21, v22, v23, v24], _, _, hs, hd, hap, hnn => by
    have n7 : 0 ≤ x11.n := hnn 11 (by simp) (.inl rfl)
    have n8 : 0 ≤ x12.n := hnn 12 (by simp) (.inr rfl)
    have e11 : Value.int .u64 x11.n = .int .u64 ((x11.n.toNat : Nat) : Int) := by rw [Int.toNat_of_nonneg n7]
    have e12 : Value.int .u64 x12.n = .int .u64 ((x12.n.toNat : Nat) : Int) := by rw [Int.toNat_of_nonneg n8]
    obtain ⟨a0, b0⟩ := hd 0 (by decide) (by simp) (by simp)
    obtain ⟨a1, b1⟩ := hd 1 (by decide) (by simp) (by simp)
    obtain ⟨a2, b2⟩ := hd 2 (by decide) (by simp) (by simp)
    obtain ⟨a3, b3⟩ := hd 3 (by decide) (by simp) (by simp)
    obtain ⟨a4, b4⟩ := hd 4 (by decide) (by simp) (by simp)
    obtain ⟨a5, b5⟩ := hd 5 (by decide) (by simp) (by simp)
    obtain ⟨a6, b6⟩ := hd 6 (by decide) (by simp) (by simp)
    obtain ⟨a7, b7⟩ := hd 7 (by decide) (by simp) (by simp)
    obtain ⟨a8, b8⟩ := hd 8 (by decide) (by simp) (by simp)
    obtain ⟨a9, b9⟩ := hd 9 (by decide) (by simp) (by simp)
    obtain ⟨a10, b10⟩ := hd 10 (by decide) (by simp) (by simp)
    obtain ⟨a11, b11⟩ := hd 11 (by decide) (by simp) (by simp)
    obtain ⟨a12, b12⟩ := hd 12 (by decide) (by simp) (by simp)
    obtain ⟨a13, b13⟩ := hd 13 (by decide) (by simp) (by simp)
    obtain ⟨a14, b14⟩ := hd 14 (by decide) (by simp) (by simp)
    obtain ⟨a15, b15⟩ := hd 15 (by decide) (by simp) (by simp)
    obtain ⟨a16, b16⟩ := hd 16 (by decide) (by simp) (by simp)
    obtain ⟨a17, b17⟩ := hd 17 (by decide) (by simp) (by simp)
    obtain ⟨a18, b18⟩ := hd 18 (by decide) (by simp) (by simp)
    obtain ⟨a19, b19⟩ := hd 19 (by decide) (by simp) (by simp)
    obtain ⟨a20, b20⟩ := hd 20 (by decide) (by simp) (by simp)
    obtain ⟨a21, b21⟩ := hd 21 (by decide) (by simp) (by simp)
    obtain ⟨a22, b22⟩ := hd 22 (by decide) (by simp) (by simp)
    obtain ⟨a23, b23⟩ := hd 23 (by decide) (by simp) (by simp)
    obtain ⟨a24, b24⟩ := hd 24 (by decide) (by simp) (by simp)
    refine ⟨v21, v13, cells25 hs rfl fun i hi => ?_, b21, b13, fun q hq => hap 21 13 (by simp) (by simp) (by decide) q hq⟩
    have hc : i = 0 ∨ i = 1 ∨ i = 2 ∨ i = 3 ∨ i = 4 ∨ i = 5 ∨ i = 6 ∨ i = 7 ∨ i = 8 ∨ i = 9 ∨ i = 10 ∨ i = 11 ∨ i = 12 ∨ i = 13 ∨ i = 14 ∨ i = 15 ∨ i = 16 ∨ i = 17 ∨ i = 18 ∨ i = 19 ∨ i = 20 ∨ i = 21 ∨ i = 22 ∨ i = 23 ∨ i = 24 := by omega
    rcases hc with rfl | rfl | rfl | rfl | rfl | rfl | rfl | rfl | rfl | rfl | rfl | rfl | rfl | rfl | rfl | rfl | rfl | rfl | rfl | rfl | rfl | rfl | rfl | rfl | rfl
    · exact a0.trans (congrArg some b0)
    · exact a1.trans (congrArg some b1)
    · exact a2.trans (congrArg some b2)
    · exact a3.trans (congrArg some b3)
    · exact a4.trans (congrArg some b4)
    · exact a5.trans (congrArg some b5)
    · exact a6.trans (congrArg some b6)
    · exact a7.trans (congrArg some b7)
    · exact a14.trans (congrArg some b14)
    · exact a15.trans (congrArg some b15)
    · exact a16.trans (congrArg some b16)
    · exact a17.trans (congrArg some b17)
    · exact a18.trans (congrArg some b18)
    · exact a19.trans (congrArg some b19)
    · exact a20.trans (congrArg some b20)
    · exact a21
    · exact a22.trans (congrArg some b22)
    · exact a23.trans (congrArg some b23)
    · exact a24.trans (congrArg some b24)
    · exact a11.trans (congrArg some (Eq.trans b11 e11))
    · exact a12.trans (congrArg some (Eq.trans b12 e12))
    · exact a8.trans (congrArg some b8)
    · exact a13
    · exact a9.trans (congrArg some b9)
    · exact a10.trans (congrArg some b10)
set_option maxRecDepth 20000 in
theorem got4 {w : World} {B : Nat} {cs : Array Value} : ∀ {xs : List FV} {vs : List Value}, xs.length = 4 → vs.length = 4 → cs.size = 25 → (∀ i (h : i < LF25.length) (h2 : i < vs.length) (h3 : i < xs.length), cs[(LF25[i]).2]? = some vs[i] ∧ FvAt w B (LF25[i]).1 vs[i] xs[i]) → (∀ i (h : i < LF25.length), 4 ≤ i → cs[(LF25[i]).2]? = some (zeroK (LF25[i]).1)) →
    cs = (PV.of xs).cells (.slice none 0 0) (.slice none 0 0)
  | [x0, x1, x2, x3], [v0, v1, v2, v3], _, _, hs, hd, ht => by
    obtain ⟨a0, b0⟩ := hd 0 (by decide) (by simp) (by simp)
    obtain ⟨a1, b1⟩ := hd 1 (by decide) (by simp) (by simp)
    obtain ⟨a2, b2⟩ := hd 2 (by decide) (by simp) (by simp)
    obtain ⟨a3, b3⟩ := hd 3 (by decide) (by simp) (by simp)
    refine cells25 hs rfl fun i hi => ?_
    have hc : i = 0 ∨ i = 1 ∨ i = 2 ∨ i = 3 ∨ i = 4 ∨ i = 5 ∨ i = 6 ∨ i = 7 ∨ i = 8 ∨ i = 9 ∨ i = 10 ∨ i = 11 ∨ i = 12 ∨ i = 13 ∨ i = 14 ∨ i = 15 ∨ i = 16 ∨ i = 17 ∨ i = 18 ∨ i = 19 ∨ i = 20 ∨ i = 21 ∨ i = 22 ∨ i = 23 ∨ i = 24 := by omega
    rcases hc with rfl | rfl | rfl | rfl | rfl | rfl | rfl | rfl | rfl | rfl | rfl | rfl | rfl | rfl | rfl | rfl | rfl | rfl | rfl | rfl | rfl | rfl | rfl | rfl | rfl
    · exact a0.trans (congrArg some b0)
    · exact a1.trans (congrArg some b1)
    · exact a2.trans (congrArg some b2)
    · exact a3.trans (congrArg some b3)
    · exact ht 4 (by decide) (by decide)
    · exact ht 5 (by decide) (by decide)
    · exact ht 6 (by decide) (by decide)
    · exact ht 7 (by decide) (by decide)
    · exact ht 14 (by decide) (by decide)
    · exact ht 15 (by decide) (by decide)
    · exact ht 16 (by decide) (by decide)
    · exact ht 17 (by decide) (by decide)
    · exact ht 18 (by decide) (by decide)
    · exact ht 19 (by decide) (by decide)
    · exact ht 20 (by decide) (by decide)
    · exact ht 21 (by decide) (by decide)
    · exact ht 22 (by decide) (by decide)
    · exact ht 23 (by decide) (by decide)
    · exact ht 24 (by decide) (by decide)
    · exact ht 11 (by decide) (by decide)
    · exact ht 12 (by decide) (by decide)
    · exact ht 8 (by decide) (by decide)
    · exact ht 13 (by decide) (by decide)
    · exact ht 9 (by decide) (by decide)
    · exact ht 10 (by decide) (by decide)
/-- the packet that was read -/
def GotP (w : World) (b B : Nat) (s : ByteArray) : Prop := ∃ q S1 S2, getP s = some q ∧ w.heap[b]? = some (.cells (q.cells S1 S2) 34) ∧ w.ownsRow B 56 2 S1 q.lt.ti.length (itemCells q.lt.ti) ∧ w.ownsRow B 56 2 S2 q.lt.li.length (itemCells q.lt.li) ∧ ∀ q, S1.ownBlock = some q → S2.ownBlock ≠ some q
theorem parts25 {s r : ByteArray} {xs : List FV} (h : getF K25 s = some (xs, r)) : ∃ ys zs r4, getF K4 s = some (ys, r4) ∧ getF LK r4 = some (zs, r) ∧ xs = ys ++ zs := by
  rw [K25, getF_append] at h
  cases g4 : getF K4 s with
  | none => rw [g4] at h; cases h
  | some p =>
    obtain ⟨ys, r4⟩ := p
    rw [g4] at h
    simp only at h
    cases g : getF LK r4 with
    | none => rw [g] at h; cases h
    | some p2 =>
      obtain ⟨zs, r5⟩ := p2
      rw [g] at h
      have e := Option.some.inj h
      have e1 : ys ++ zs = xs := congrArg Prod.fst e
      have e2 : r5 = r := congrArg Prod.snd e
      subst e1 e2
      exact ⟨ys, zs, r4, rfl, g, rfl⟩
theorem inyes_end {W w : World} {b g : Nat} {s : ByteArray} (h : InYes W b g s w) : ∃ r, RdO w g (some r) ∧ (r.size = 0 → GotP w b W.heap.size s) ∧ (r.size ≠ 0 → getP s = none) := by
  obtain ⟨cs, xs, vs, r, ⟨h0, h⟩ | ⟨h0, h⟩⟩ := h
  · have h4 : getF K4 s = some (xs, r) := h.got
    refine ⟨r, h.rd, fun hr => ?_, fun hr => ?_⟩
    · have hl : xs.length = 4 := getF_len _ _ _ _ h4
      have hg : getP s = some (PV.of xs) := by
        unfold getP
        rw [h4]
        simp only
        rw [if_pos h0, if_pos hr]
      have e := got4 hl h.lens h.size h.done h.todo
      have ez : (PV.of xs).lt = LV.of [] := by
        have := (x4_of xs [] hl (getF_canon _ _ _ _ h4).2.1).2.1
        rwa [List.append_nil] at this
      refine ⟨PV.of xs, _, _, hg, e ▸ h.blk, ?_, ?_, fun q hq => by cases hq⟩
      · rw [ez]; exact World.ownsRow_nil _ _ _ _
      · rw [ez]; exact World.ownsRow_nil _ _ _ _
    · unfold getP
      rw [h4]
      simp only
      rw [if_pos h0, if_neg hr]
  · have h25 : getF K25 s = some (xs, r) := h.got
    obtain ⟨ys, zs, r4, g4, gl, e⟩ := parts25 h25
    have hn0 : (ys.getD 2 (nv 0)).n ≠ 0 := by rw [← first_of g4 h25]; exact h0
    refine ⟨r, h.rd, fun hr => ?_, fun hr => ?_⟩
    · have hl : xs.length = 25 := getF_len _ _ _ _ h25
      have hc := (getF_canon _ _ _ _ h25).2.1
      have hg : getP s = some (PV.of xs) := by
        unfold getP
        rw [g4]
        simp only
        rw [if_neg hn0, gl]
        simp only
        rw [if_pos hr, e]
      obtain ⟨S1, S2, e1, e2, e3, e4⟩ := got25 hl h.lens h.size h.done h.apart (fun i hi hh => by
        rcases hh with rfl | rfl
        · exact (hc 11 (by decide) hi).1.1
        · exact (hc 12 (by decide) hi).1.1)
      exact ⟨PV.of xs, S1, S2, hg, e1 ▸ h.blk, e2, e3, e4⟩
    · unfold getP
      rw [g4]
      simp only
      rw [if_neg hn0, gl]
      simp only
      rw [if_neg hr]
theorem inno_end {s : ByteArray} (h : InNo s) : getP s = none := by
  unfold getP
  rcases h with h | ⟨xs, r, h4, hn, h25⟩
  · rw [h]
  · rw [h4]
    simp only
    rw [if_neg hn]
    rw [K25, getF_append, h4] at h25
    simp only at h25
    cases g : getF LK r with
    | none => rfl
    | some p => rw [g] at h25; cases h25
theorem k4_none {s : ByteArray} {j : Nat} (hj : j < 4) (h : getF ((LF25.take (j + 1)).map (·.1)) s = none) : getF K4 s = none := by
  have e : (LF25.take (j + 1)).map (·.1) ++ K4.drop (j + 1) = K4 := by
    have hc : j = 0 ∨ j = 1 ∨ j = 2 ∨ j = 3 := by omega
    rcases hc with rfl | rfl | rfl | rfl <;> rfl
  have := getF_none_append _ (K4.drop (j + 1)) s h
  rwa [e] at this
/-- a packet's fields, read -/
theorem readP_any (W : World) (b g : Nat) (s : ByteArray) (A : Option Addr) (c : Nat) (hb : W.heap[b]? = some (.cells PZ 34)) (hR : RdO W g (some s)) (hne : b ≠ g) (hs : s.size ≤ 9223372036854775807)
    (hA : FieldsAt W A (packetFs b)) (hAb : ∀ q o, A = some ⟨q, o, none⟩ → q ≠ b ∧ q ≠ g) :
    Calls Try.prog 48 #[.pointer (some ⟨g, 0, none⟩), .slice A 5 c] W (ReadPost (fun w' => InYes W b g s w' ∧ Touch [b, g] W w') (fun w' => InNo s ∧ Touch [b, g] W w')) := by
  have hbl := lt_of_heap hb
  have hgl : g < W.heap.size := hR.1
  have key := read_any g A c (packetFs b) (fun j w' => Touch [b, g] W w' ∧ ((j ≤ 4 ∧ ∃ cs xs vs r, RdSt W w' b g 34 25 LF25 j s cs xs vs r) ∨ (j = 5 ∧ InYes W b g s w'))) (fun w' => InNo s ∧ Touch [b, g] W w') W (show 5 ≤ 1000 by decide) ?_ ?_ ?_
  · refine key.mono fun e w' hp => ?_
    rcases hp with ⟨he, ht, h1⟩ | hp
    · rcases h1 with ⟨h5, _⟩ | ⟨_, h1⟩
      · exact absurd h5 (show ¬ 5 ≤ 4 by decide)
      · exact .inl ⟨he, h1, ht⟩
    · exact .inr hp
  · rintro k w' ⟨ht, -⟩
    obtain ⟨q, off, hf⟩ := hA
    refine ⟨q, off, fun i hi => ?_⟩
    obtain ⟨h1, h2, h3⟩ := hf i hi
    obtain ⟨n1, n2⟩ := hAb q off h1
    exact ⟨h1, Nat.lt_of_lt_of_le h2 ht.size, (ht.cell (p := ⟨q, off + i, none⟩) h2 (by simp only [List.mem_cons, List.not_mem_nil, or_false]; omega)).trans h3⟩
  · rintro k hk w' ⟨ht, ⟨hk4, cs, xs, vs, r, h⟩ | ⟨rfl, _⟩⟩
    · rcases Nat.lt_or_ge k 4 with h4 | h4
      · rw [lf25_take b k h4 hk (by rw [lf25_len]; omega)]
        obtain ⟨U, x, i, hf, hm1, hm2, hm3, hcall⟩ := rdSt_step h (by rw [lf25_len]; omega) hne hs hbl hgl lf25_off
        refine ⟨U, x, i, hf, hm1, hm2, hm3, hcall.mono fun e w2 hp => ?_⟩
        obtain ⟨ok, o', he, hr, hy, hno⟩ := hp
        refine ⟨ok, o', he, hr, fun h1 h2 => ?_, fun h1 => ?_⟩
        · obtain ⟨h3, h5⟩ := hy h1 h2
          exact ⟨ht.trans h5 (fun x hx => .inl hx), .inl ⟨by omega, h3⟩⟩
        · obtain ⟨h3, h5, _⟩ := hno h1
          exact ⟨.inl (k4_none h4 h3), h5⟩
      · obtain rfl : k = 4 := by omega
        refine ⟨89, _, 76, rfl, fun _ => by kernel_rfl, fun _ => by kernel_rfl, fun _ _ => by kernel_rfl, (inget_any h hne hs hbl hgl).mono fun e w2 hp => ?_⟩
        obtain ⟨ok, o', he, hr, hy, hno⟩ := hp
        exact ⟨ok, o', he, hr, fun h1 h2 => ⟨(hy h1 h2).2, .inr ⟨rfl, (hy h1 h2).1⟩⟩, hno⟩
    · exact absurd hk (show ¬ 5 < 5 by decide)
  · exact ⟨Touch.refl _ _, .inl ⟨by decide, PZ, [], [], s, hb, rfl, hR, Nat.le_refl _, Touch.refl _ _, rfl, rfl, fun i hi h2 => absurd h2 (Nat.not_lt_zero _), fun i hi _ => lf25_zero i hi, fun i i' h => absurd h (Nat.not_lt_zero _)⟩⟩
def AllP (W : World) (b : Nat) (s : ByteArray) (e : Ending) (w' : World) : Prop :=
  Touch [b] W w' ∧ ((e = .returned (.bool false) ∧ getP s = none) ∨ (e = .returned (.bool true) ∧ GotP w' b W.heap.size s))
set_option maxRecDepth 20000 in
set_option maxHeartbeats 2000000 in
theorem readAllP_any (W : World) (b : Nat) (s : ByteArray) (A : Option Addr) (c : Nat) (hb : W.heap[b]? = some (.cells PZ 34)) (hs : s.size ≤ 9223372036854775807)
    (hA : FieldsAt W A (packetFs b)) (hAb : ∀ q o, A = some ⟨q, o, none⟩ → q ≠ b ∧ q < W.heap.size) :
    Calls Try.prog 33 #[.string s, .slice A 5 c] W (AllP W b s) := by
  have hbl := lt_of_heap hb
  have CF := Lib.hid (from_any s W)
  have CR : Hid (∀ w1, Below W.heap.size W w1 → Rq w1 W.heap.size s true → Calls Try.prog 48 #[.pointer (some ⟨W.heap.size, 0, none⟩), .slice A 5 c] w1 (ReadPost (fun w' => InYes w1 b W.heap.size s w' ∧ Touch [b, W.heap.size] w1 w') (fun w' => InNo s ∧ Touch [b, W.heap.size] w1 w'))) := fun w1 h1 h2 =>
    readP_any w1 b W.heap.size s A c ((h1.block b hbl).trans hb) h2 (by omega) hs (hA.below h1) (fun q o hq => by have := hAb q o hq; exact ⟨this.1, by omega⟩)
  have HBL := Lib.hid hbl
  clear hb hs hA hAb hbl
  go_enter Try.func33, Try.ntmps33
  go_wp2_with (first
    | (go_at_call 47; ((with_reducible refine (CF.out).mono ?_); rintro e w1 ⟨rfl, hb1, hr1⟩; have CR1 := Lib.hid (CR.out w1 hb1 hr1); have HB1 := Lib.hid hb1; clear hb1 hr1))
    | (go_at_call 48; ((with_reducible refine (CR1.out).mono ?_); rintro e w2 (⟨rfl, hyes⟩ | ⟨rfl, hno⟩)))
    | (go_at_call 49; fail))
  · obtain ⟨hy, ht⟩ := hyes
    obtain ⟨r, hrd, hz0, hz1⟩ := inyes_end hy
    have HT : Hid (Touch [b] W w2) := (Touch.ofBelow (F := [b]) HB1.out).trans ht (fun x hx => by simp only [List.mem_cons, List.not_mem_nil, or_false] at hx ⊢; rcases hx with rfl | rfl; exact .inl rfl; exact .inr (Nat.le_refl _))
    have CE : Hid (Calls Try.prog 49 #[.pointer (some ⟨W.heap.size, 0, none⟩)] w2 fun e w' => e = .returned (.bool (noneB r)) ∧ w2 = w') := rend_any W.heap.size (some r) w2 hrd
    have H0 := Lib.hid hz0
    have H1 := Lib.hid hz1
    clear hy ht hrd hz0 hz1
    generalize hz : noneB r = z at CE
    have HZ := Lib.hid hz
    clear hz
    go_wp2_with (first
      | (go_at_call 49; ((with_reducible refine (CE.out).mono ?_); rintro e w3 ⟨rfl, rfl⟩)))
    go_ret
    have hz := HZ.out
    rw [noneB_size] at hz
    refine ⟨HT.out, ?_⟩
    cases z with
    | true =>
      obtain ⟨q, S1, S2, g1, g2, g3, g4, g5⟩ := H0.out (of_decide_eq_true hz)
      exact .inr ⟨rfl, q, S1, S2, g1, g2, own_mono g3 HB1.out.size, own_mono g4 HB1.out.size, g5⟩
    | false => exact .inl ⟨rfl, H1.out (of_decide_eq_false hz)⟩
  · have HNO := Lib.hid hno
    clear hno
    go_wp2_with fail
    go_ret
    exact ⟨(Touch.ofBelow (F := [b]) HB1.out).trans HNO.out.2 (fun x hx => by simp only [List.mem_cons, List.not_mem_nil, or_false] at hx ⊢; rcases hx with rfl | rfl; exact .inl rfl; exact .inr (Nat.le_refl _)), .inl ⟨rfl, inno_end HNO.out.1⟩⟩
end Go.Proofs.Ytbnmddopgbhapaa
namespace Go.Proofs.Ytbnmddopgbhapaa
open Go.RowKit

theorem loadVar_packet (w : World) (b : Nat) (cs : Array Value) (hs : cs.size = 25) (hb : w.heap[b]? = some (.cells cs 34)) : (loadVar 34 ⟨b, 0, none⟩).run Try.prog w = .ok (.agg cs) w := by
  have hi : (Try.prog.info? 34).map (·.size) = some 25 := by kernel_rfl
  exact run_loadVar_row w b 34 34 cs (0, 0) _ hb Try.underlying34 rfl (hi.trans (congrArg some hs.symm))
/-- what GetPacket tells -/
def PGetPost (W : World) (b : ByteArray) (e : Ending) (w' : World) : Prop :=
  Below W.heap.size W w' ∧ ((getP b = none ∧ e = .returned (.tuple #[.agg PZ, .bool false])) ∨
    ∃ q S1 S2, getP b = some q ∧ e = .returned (.tuple #[.agg (q.cells S1 S2), .bool true]) ∧ w'.ownsRow W.heap.size 56 2 S1 q.lt.ti.length (itemCells q.lt.ti) ∧ w'.ownsRow W.heap.size 56 2 S2 q.lt.li.length (itemCells q.lt.li) ∧ ∀ q, S1.ownBlock = some q → S2.ownBlock ≠ some q)
def PAll (W : World) (R B : Nat) (b : ByteArray) (e : Ending) (w' : World) : Prop :=
  w'.heap[R]? = some (.cells PZ 34) ∧ Touch [B] W w' ∧ ((e = .returned (.bool false) ∧ getP b = none) ∨ ∃ q A1 c1 A2 c2, e = .returned (.bool true) ∧ getP b = some q ∧ w'.heap[B]? = some (.cells (q.cells (.slice A1 q.lt.ti.length c1) (.slice A2 q.lt.li.length c2)) 34) ∧
    w'.ownsRow W.heap.size 56 2 (.slice A1 q.lt.ti.length c1) q.lt.ti.length (itemCells q.lt.ti) ∧ w'.ownsRow W.heap.size 56 2 (.slice A2 q.lt.li.length c2) q.lt.li.length (itemCells q.lt.li) ∧ ∀ q1, (Value.slice A1 q.lt.ti.length c1).ownBlock = some q1 → (Value.slice A2 q.lt.li.length c2).ownBlock ≠ some q1)
theorem pall {W w' : World} {R B : Nat} {b : ByteArray} {e : Ending} (hR : W.heap[R]? = some (.cells PZ 34)) (hne : R ≠ B) (h : AllP W B b e w') : PAll W R B b e w' := by
  obtain ⟨ht, h⟩ := h
  refine ⟨(ht.block R (lt_of_heap hR) (by simpa using hne)).trans hR, ht, ?_⟩
  rcases h with h | ⟨rfl, q, S1, S2, g1, g2, g3, g4, g5⟩
  · exact .inl h
  · obtain ⟨A1, k1, rfl⟩ := own_slice g3
    obtain ⟨A2, k2, rfl⟩ := own_slice g4
    exact .inr ⟨q, A1, k1, A2, k2, rfl, g1, g2, g3, g4, g5⟩
set_option maxRecDepth 20000 in
set_option maxHeartbeats 2000000 in
theorem pget_any (b : ByteArray) (W : World) (hs : b.size ≤ 9223372036854775807) : Calls Try.prog 14 #[.string b] W (PGetPost W b) := by
  have CO := Lib.hid of_packet5
  have CA : Hid (∀ w A c, w.heap[W.heap.size]? = some (.cells PZ 34) → w.heap[W.heap.size + 1]? = some (.cells PZ 34) → FieldsAt w A (packetFs (W.heap.size + 1)) → (∀ q o, A = some ⟨q, o, none⟩ → q ≠ W.heap.size + 1 ∧ q < w.heap.size) → Calls Try.prog 33 #[.string b, .slice A 5 c] w (PAll w W.heap.size (W.heap.size + 1) b)) := fun w A c h0 h1 h2 h3 =>
    (readAllP_any w (W.heap.size + 1) b A c h1 hs h2 h3).mono fun _ _ h => pall h0 (by omega) h
  clear hs
  have W0 : Below W.heap.size W ((W.alloc (.cells PZ 34)).alloc (.cells PZ 34)) := ((Below.refl _ _).alloc (Nat.le_refl _) _).alloc (by simp) _
  have r0 : ((W.alloc (.cells PZ 34)).alloc (.cells PZ 34)).heap[W.heap.size]? = some (.cells PZ 34) := (Lib.alloc_old _ _ _ (by simp)).trans (heap_alloc_new W _)
  have b0 : ((W.alloc (.cells PZ 34)).alloc (.cells PZ 34)).heap[W.heap.size + 1]? = some (.cells PZ 34) := by
    have := heap_alloc_new (W.alloc (.cells PZ 34)) (.cells PZ 34)
    simpa using this
  have hsz : (Try.prog.info? 34).map (·.size) = some 25 := by kernel_rfl
  have H0 : Hid (Below W.heap.size W ((W.alloc (.cells PZ 34)).alloc (.cells PZ 34)) ∧ ((W.alloc (.cells PZ 34)).alloc (.cells PZ 34)).heap[W.heap.size]? = some (.cells PZ 34) ∧ ((W.alloc (.cells PZ 34)).alloc (.cells PZ 34)).heap[W.heap.size + 1]? = some (.cells PZ 34) ∧ ((W.alloc (.cells PZ 34)).alloc (.cells PZ 34)).heap.size = W.heap.size + 1 + 1) := ⟨W0, r0, b0, by simp⟩
  clear W0 r0 b0
  go_enter Try.func14, Try.ntmps14
  go_wp2_with (first
    | (go_at_call 26; ((with_reducible refine (CO.out _ _).mono ?_); rintro e w1 ⟨c1, rfl, hf1, hb1, hs1⟩; have hs2 : W.heap.size + 1 + 1 < w1.heap.size := (by simpa using hs1); have CR := Lib.hid (CA.out w1 (some ⟨W.heap.size + 1 + 1, 0, none⟩) c1 ((hb1.block _ (by simp; omega)).trans H0.out.2.1) ((hb1.block _ (by simp)).trans H0.out.2.2.1) (H0.out.2.2.2 ▸ hf1) (fun q o hq => by injection hq with hq; injection hq with hq _ _; exact ⟨by omega, by omega⟩)); have HB1 : Hid (Below W.heap.size W w1 ∧ w1.heap[W.heap.size]? = some (.cells PZ 34)) := ⟨acc H0.out.1 hb1, (hb1.block _ (by simp; omega)).trans H0.out.2.1⟩; clear hf1 hb1 hs1 hs2))
    | (go_at_call 33; fail))
  go_at_call 33
  with_reducible refine (CR.out).mono ?_
  rintro e w2 ⟨hr2, ht, (⟨rfl, hno⟩ | ⟨q, A1, k1, A2, k2, rfl, hgl, hB2, ho1, ho2, hap⟩)⟩
  · have hszC : (Try.prog.info? 34).map (·.size) = some PZ.size := hsz
    have honeZ : PZ.all (·.oneCell') = true := by first | decide | simp [PZ, Value.oneCell']
    go_wp2_with (with_reducible (show wpList _ _ _ (⟨none, Op.store _ _ _, _, _, _, _⟩ :: _) _ _); go_must (refine wpList_store_row rfl 34 (.tmp 2) (.tmp 9) rfl W.heap.size PZ rfl rfl 34 PZ hr2 hszC rfl honeZ ?_))
    refine bodyPost_ret (results_row_tmp rfl _ _ W.heap.size PZ (.bool false) rfl rfl (loadVar_packet _ _ _ rfl (setRow_at _ hr2))) rfl ?_
    exact ⟨(HB1.out.1.trans (ht.below HB1.out.1.size (fun x hx => by simp only [List.mem_cons, List.not_mem_nil, or_false] at hx; omega))).trans (below_setRow _ (Nat.le_refl _)), .inl ⟨hno, rfl⟩⟩
  · have hszC : (Try.prog.info? 34).map (·.size) = some (q.cells (.slice A1 q.lt.ti.length k1) (.slice A2 q.lt.li.length k2)).size := hsz
    have hone : (q.cells (.slice A1 q.lt.ti.length k1) (.slice A2 q.lt.li.length k2)).all (·.oneCell') = true := by first | kernel_rfl | simp [PV.cells, Value.oneCell']
    have hold : PZ.size = (q.cells (.slice A1 q.lt.ti.length k1) (.slice A2 q.lt.li.length k2)).size := rfl
    go_wp2_with (first
      | (with_reducible (show wpList _ _ _ (⟨some _, Op.load _ _, _, _, _, _⟩ :: _) _ _); go_must (refine wpList_load_row rfl 34 (.tmp 4) rfl (W.heap.size + 1) rfl 34 (q.cells (.slice A1 q.lt.ti.length k1) (.slice A2 q.lt.li.length k2)) (0, 0) _ hB2 Try.underlying34 rfl hszC ?_))
      | (with_reducible (show wpList _ _ _ (⟨none, Op.store _ _ _, _, _, _, _⟩ :: _) _ _); go_must (refine wpList_store_row rfl 34 (.tmp 2) (.tmp 10) rfl W.heap.size (q.cells (.slice A1 q.lt.ti.length k1) (.slice A2 q.lt.li.length k2)) rfl rfl 34 PZ hr2 hszC hold hone ?_)))
    refine bodyPost_ret (results_row_tmp rfl _ _ W.heap.size (q.cells (.slice A1 q.lt.ti.length k1) (.slice A2 q.lt.li.length k2)) (.bool true) rfl rfl (loadVar_packet _ _ _ rfl (setRow_at _ hr2))) rfl ?_
    have hz := HB1.out.1.size
    refine ⟨(HB1.out.1.trans (ht.below HB1.out.1.size (fun x hx => by simp only [List.mem_cons, List.not_mem_nil, or_false] at hx; omega))).trans (below_setRow _ (Nat.le_refl _)), .inr ⟨q, _, _, hgl, rfl, own_mono (setRow_row _ ho1 (by have := lt_of_heap HB1.out.2; omega)) hz, own_mono (setRow_row _ ho2 (by have := lt_of_heap HB1.out.2; omega)) hz, hap⟩⟩
end Go.Proofs.Ytbnmddopgbhapaa
namespace Go.Proofs.Ytbnmddopgbhapaa
open Go.RowKit

theorem putP_size {q : PV} {b : ByteArray} (h : putP q = some b) : b.size ≤ 435464 ∧ 8 ≤ b.size := by
  obtain ⟨hd, t, hi, h8, rfl⟩ := putP_parts h
  have := inP_le q
  rw [hi] at this
  have h3 : t.size ≤ 435456 := this
  rw [size_append]
  omega
theorem getP_cut {q : PV} {b : ByteArray} {K : Nat} (hF : q.Fine) (h : putP q = some b) (hK : K < b.size) : getP (b.extract 0 K) = none :=
  getP_short (c := b.extract K b.size) hF.ltF.afB hF.ltF.auB (by rw [← cut_parts]; exact h) (by rw [extract_size b K (by omega)]; omega)
set_option maxRecDepth 20000 in
set_option maxHeartbeats 8000000 in
theorem packetCuts_any (q : PV) (S1 S2 : Value) (k : Int) (W : World) (hF : q.Fine) (h1 : SlAt W S1 q.lt.ti) (h2 : SlAt W S2 q.lt.li) (_hk0 : -9223372036854775808 ≤ k) (_hk1 : k ≤ 9223372036854775807) :
    Calls Try.prog 9 #[.agg (q.cells S1 S2), .int .i64 k] W fun e w' => e = .returned (.bool true) ∧ Below W.heap.size W w' := by
  have hszZ : (Try.prog.info? 34).map (·.size) = some PZ.size := by kernel_rfl
  have honeZ : PZ.all (·.oneCell') = true := by first | decide | simp [PZ, Value.oneCell']
  have bw : Below W.heap.size W (W.alloc (.cells (q.cells S1 S2) 34)) := (Below.refl W.heap.size W).alloc (Nat.le_refl _) _
  have BW := Lib.hid bw
  have HB0 : Hid (Below (W.alloc (.cells (q.cells S1 S2) 34)).heap.size (W.alloc (.cells (q.cells S1 S2) 34)) (W.alloc (.cells (q.cells S1 S2) 34))) := Below.refl _ _
  have up : ∀ w, Below (W.alloc (.cells (q.cells S1 S2) 34)).heap.size (W.alloc (.cells (q.cells S1 S2) 34)) w → Below W.heap.size W w := fun w hb => bw.trans (hb.mono (by simp))
  have hszp : (Try.prog.info? 34).map (·.size) = some (q.cells S1 S2).size := by kernel_rfl
  have hszl : (Try.prog.info? 32).map (·.size) = some (q.lt.cellsL S1 S2).length := by kernel_rfl
  have HR : Hid (∀ w, Below (W.alloc (.cells (q.cells S1 S2) 34)).heap.size (W.alloc (.cells (q.cells S1 S2) 34)) w → w.heap[W.heap.size]? = some (.cells (q.cells S1 S2) 34) ∧ w.rangeAt W.heap.size 4 (q.lt.cellsL S1 S2) ∧ w.cell? ⟨W.heap.size, 2, none⟩ = some (.int .i64 q.sq)) := fun w hb => by
    have e := (hb.block _ (by simp)).trans (heap_alloc_new W (.cells (q.cells S1 S2) 34))
    exact ⟨e, inner_range e, cell_at e rfl⟩
  have CA : Hid (∀ w, Below (W.alloc (.cells (q.cells S1 S2) 34)).heap.size (W.alloc (.cells (q.cells S1 S2) 34)) w → Calls Try.prog 11 #[] w fun e w' => e = .returned (.bool true) ∧ Below w.heap.size w w') := fun w _ => alive_any w
  have cl : ∀ w, Below (W.alloc (.cells (q.cells S1 S2) 34)).heap.size (W.alloc (.cells (q.cells S1 S2) 34)) w → Calls Try.prog 10 #[.agg (q.lt.cells S1 S2)] w fun e w' => e = .returned (.bool (lightB q.lt)) ∧ Below w.heap.size w w' := fun w hb => light_any q.lt S1 S2 w hF.ltF (h1.below (up w hb)) (h2.below (up w hb))
  have pp : ∀ w, Below (W.alloc (.cells (q.cells S1 S2) 34)).heap.size (W.alloc (.cells (q.cells S1 S2) 34)) w → Calls Try.prog 12 #[.agg (q.cells S1 S2)] w (PutPPost w q) := fun w hb => pput_any q S1 S2 w hF (h1.below (up w hb)) (h2.below (up w hb))
  unfold PutPPost at pp
  generalize lightB q.lt = q1 at *
  have CL := Lib.hid cl
  clear cl h1 h2 up bw
  cases q1 with
  | false =>
    clear pp hF
    go_enter Try.func9, Try.ntmps9
    go_wp2_with (first
      | (refine wpList_load_row rfl 34 (.tmp 2) rfl W.heap.size rfl 34 (q.cells S1 S2) (0, 0) _ (HR.out _ (by first | exact HB6.out | exact HB5.out | exact HB4.out | exact HB3.out | exact HB2.out | exact HB1.out | exact HB0.out)).1 Try.underlying34 rfl hszp ?_)
      | (refine wpList_load_mid rfl 32 (.tmp 11) rfl W.heap.size 4 rfl (q.lt.cellsL S1 S2) _ (HR.out _ (by first | exact HB6.out | exact HB5.out | exact HB4.out | exact HB3.out | exact HB2.out | exact HB1.out | exact HB0.out)).2.1 Try.underlying32 rfl hszl ?_)
      | (go_at_call 10; ((with_reducible refine (CL.out _ HB0.out).mono ?_); rintro e w1 ⟨rfl, hb⟩; have HB1 : Hid (Below (W.alloc (.cells (q.cells S1 S2) 34)).heap.size (W.alloc (.cells (q.cells S1 S2) 34)) w1) := acc HB0.out hb; clear hb))
      | (go_at_call 11; ((with_reducible refine (CA.out _ HB1.out).mono ?_); rintro e w2 ⟨rfl, hb⟩; have HB2 : Hid (Below (W.alloc (.cells (q.cells S1 S2) 34)).heap.size (W.alloc (.cells (q.cells S1 S2) 34)) w2) := acc HB1.out hb; clear hb)))
    go_ret
    exact ⟨rfl, BW.out.trans (HB2.out.mono (by simp))⟩
  | true =>
    cases hp : putP q with
    | none =>
      rw [hp] at pp
      have PQ : Hid (∀ w, Below (W.alloc (.cells (q.cells S1 S2) 34)).heap.size (W.alloc (.cells (q.cells S1 S2) 34)) w → Calls Try.prog 12 #[.agg (q.cells S1 S2)] w fun e w' => e = .returned (.tuple #[.string ⟨#[]⟩, .bool false]) ∧ Below w.heap.size w w') := pp
      clear pp hF hp
      go_enter Try.func9, Try.ntmps9
      go_wp2_with (first
        | (refine wpList_load_row rfl 34 (.tmp 2) rfl W.heap.size rfl 34 (q.cells S1 S2) (0, 0) _ (HR.out _ (by first | exact HB6.out | exact HB5.out | exact HB4.out | exact HB3.out | exact HB2.out | exact HB1.out | exact HB0.out)).1 Try.underlying34 rfl hszp ?_)
        | (refine wpList_load_mid rfl 32 (.tmp 11) rfl W.heap.size 4 rfl (q.lt.cellsL S1 S2) _ (HR.out _ (by first | exact HB6.out | exact HB5.out | exact HB4.out | exact HB3.out | exact HB2.out | exact HB1.out | exact HB0.out)).2.1 Try.underlying32 rfl hszl ?_)
        | (go_at_call 10; ((with_reducible refine (CL.out _ HB0.out).mono ?_); rintro e w1 ⟨rfl, hb⟩; have HB1 : Hid (Below (W.alloc (.cells (q.cells S1 S2) 34)).heap.size (W.alloc (.cells (q.cells S1 S2) 34)) w1) := acc HB0.out hb; clear hb))
        | (go_at_call 11; ((with_reducible refine (CA.out _ HB1.out).mono ?_); rintro e w2 ⟨rfl, hb⟩; have HB2 : Hid (Below (W.alloc (.cells (q.cells S1 S2) 34)).heap.size (W.alloc (.cells (q.cells S1 S2) 34)) w2) := acc HB1.out hb; clear hb))
        | (go_at_call 12; ((with_reducible refine (PQ.out _ HB2.out).mono ?_); rintro e w3 ⟨rfl, hb⟩; have HB3 : Hid (Below (W.alloc (.cells (q.cells S1 S2) 34)).heap.size (W.alloc (.cells (q.cells S1 S2) 34)) w3) := acc HB2.out hb; clear hb)))
      go_ret
      exact ⟨rfl, BW.out.trans (HB3.out.mono (by simp))⟩
    | some b =>
      rw [hp] at pp
      have PQ : Hid (∀ w, Below (W.alloc (.cells (q.cells S1 S2) 34)).heap.size (W.alloc (.cells (q.cells S1 S2) 34)) w → Calls Try.prog 12 #[.agg (q.cells S1 S2)] w fun e w' => e = .returned (.tuple #[.string b, .bool true]) ∧ Below w.heap.size w w') := pp
      obtain ⟨hbs, hb0⟩ := putP_size hp
      obtain ⟨K, hKB, hK⟩ := cut_spot k b.size (by omega) (by omega)
      have hz0 : ((b.size : Int) == 0) = false := by rw [beq_eq_false_iff_ne]; omega
      have n1 := getP_cut hF hp hKB
      have n2 : getP (b ++ ⟨#[120]⟩) = none := getP_not hF.ltF.afB hF.ltF.auB hp (by decide)
      have CG : Hid (∀ w, Calls Try.prog 14 #[.string (b.extract 0 K)] w fun e w' => e = .returned (.tuple #[.agg PZ, .bool false]) ∧ Below w.heap.size w w') := fun w => (pget_any _ w (extract_le b K (by omega))).mono fun e w' h => by
        obtain ⟨hb, ⟨_, e1⟩ | ⟨l, S1, S2, h1, _⟩⟩ := h
        · exact ⟨e1, hb⟩
        · rw [n1] at h1; cases h1
      have CH : Hid (∀ w, Calls Try.prog 14 #[.string (b ++ ⟨#[120]⟩)] w fun e w' => e = .returned (.tuple #[.agg PZ, .bool false]) ∧ Below w.heap.size w w') := fun w => (pget_any _ w (by rw [ByteArray.size_append]; show b.size + 1 ≤ _; omega)).mono fun e w' h => by
        obtain ⟨hb, ⟨_, e1⟩ | ⟨l, S1, S2, h1, _⟩⟩ := h
        · exact ⟨e1, hb⟩
        · rw [n2] at h1; cases h1
      clear pp hF hp n1 n2
      go_enter Try.func9, Try.ntmps9
      go_wp2_with (first
        | (refine wpList_load_row rfl 34 (.tmp 2) rfl W.heap.size rfl 34 (q.cells S1 S2) (0, 0) _ (HR.out _ (by first | exact HB6.out | exact HB5.out | exact HB4.out | exact HB3.out | exact HB2.out | exact HB1.out | exact HB0.out)).1 Try.underlying34 rfl hszp ?_)
        | (refine wpList_load_mid rfl 32 (.tmp 11) rfl W.heap.size 4 rfl (q.lt.cellsL S1 S2) _ (HR.out _ (by first | exact HB6.out | exact HB5.out | exact HB4.out | exact HB3.out | exact HB2.out | exact HB1.out | exact HB0.out)).2.1 Try.underlying32 rfl hszl ?_)
        | (go_at_call 10; ((with_reducible refine (CL.out _ HB0.out).mono ?_); rintro e w1 ⟨rfl, hb⟩; have HB1 : Hid (Below (W.alloc (.cells (q.cells S1 S2) 34)).heap.size (W.alloc (.cells (q.cells S1 S2) 34)) w1) := acc HB0.out hb; clear hb))
        | (go_at_call 11; ((with_reducible refine (CA.out _ HB1.out).mono ?_); rintro e w2 ⟨rfl, hb⟩; have HB2 : Hid (Below (W.alloc (.cells (q.cells S1 S2) 34)).heap.size (W.alloc (.cells (q.cells S1 S2) 34)) w2) := acc HB1.out hb; clear hb))
        | (go_at_call 12; ((with_reducible refine (PQ.out _ HB2.out).mono ?_); rintro e w3 ⟨rfl, hb⟩; have HB3 : Hid (Below (W.alloc (.cells (q.cells S1 S2) 34)).heap.size (W.alloc (.cells (q.cells S1 S2) 34)) w3) := acc HB2.out hb; clear hb))
        | (go_at_call 14; ((with_reducible refine (CG.out _).mono ?_); rintro e w4 ⟨rfl, hb⟩; have HB4 : Hid (Below (W.alloc (.cells (q.cells S1 S2) 34)).heap.size (W.alloc (.cells (q.cells S1 S2) 34)) w4) := acc HB3.out hb; clear hb; have B45 : Hid (Below (W.alloc (.cells (q.cells S1 S2) 34)).heap.size (W.alloc (.cells (q.cells S1 S2) 34)) ((w4.alloc (.cells PZ 34)).setRow w4.heap.size PZ)) := acc HB4.out (((Below.refl _ _).alloc (Nat.le_refl _) _).trans (below_setRow _ (Nat.le_refl _)))))
        | (with_reducible (show wpList _ _ _ (⟨none, Op.store _ (Operand.tmp 7) _, _, _, _, _⟩ :: _) _ _); go_must (refine wpList_store_row rfl 34 (.tmp 7) (.tmp 52) rfl w4.heap.size PZ rfl rfl 34 PZ (heap_alloc_new w4 _) hszZ rfl honeZ ?_))
        | (go_at_call 14; ((with_reducible refine (CH.out _).mono ?_); rintro e w5 ⟨rfl, hb⟩; have HB5 : Hid (Below (W.alloc (.cells (q.cells S1 S2) 34)).heap.size (W.alloc (.cells (q.cells S1 S2) 34)) w5) := acc B45.out hb; clear hb; have HB6 : Hid (Below (W.alloc (.cells (q.cells S1 S2) 34)).heap.size (W.alloc (.cells (q.cells S1 S2) 34)) ((w5.alloc (.cells PZ 34)).setRow w5.heap.size PZ)) := acc HB5.out (((Below.refl _ _).alloc (Nat.le_refl _) _).trans (below_setRow _ (Nat.le_refl _)))))
        | (with_reducible (show wpList _ _ _ (⟨none, Op.store _ (Operand.tmp 9) _, _, _, _, _⟩ :: _) _ _); go_must (refine wpList_store_row rfl 34 (.tmp 9) (.tmp 58) rfl w5.heap.size PZ rfl rfl 34 PZ (heap_alloc_new w5 _) hszZ rfl honeZ ?_)))
      go_ret
      exact ⟨rfl, BW.out.trans (HB6.out.mono (by simp))⟩
end Go.Proofs.Ytbnmddopgbhapaa
