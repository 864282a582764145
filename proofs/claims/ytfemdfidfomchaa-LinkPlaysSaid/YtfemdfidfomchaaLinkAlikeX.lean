/-
  As LetSame, without the texts of stage 7 (whose names LinkGot has too): two letters, two lists, compared.
  Two packets, two lists of letters: alike, where their values are. (Written by tools/genLKSame.py.)
  The book of letters: its marks. (Written by tools/genLKBook.py.)
-/
import Derived.Test.YtfemdfidfomchaaLinkFind
import Derived.Test.YtfemdfidfomchaaLinkAlive
import Derived.Test.YtfemdfidfomchaaBookItems
import Derived.Test.YtfemdfidfomchaaLinkSend
import Derived.Deep.MidRow
namespace Go.Proofs.Ytfemdfidfomchaa
open Go.RowKit

theorem lk_lt_of_heap {W : World} {q : Nat} {o : Obj} (h : W.heap[q]? = some o) : q < W.heap.size := bg_lt h
theorem lk_belowN {B : Nat} {a b : World} (h : Below B a b) (n : Nat) : Below B a (b.drewN n) := ⟨h.os, h.tape, h.output, h.size, h.block⟩
theorem lk_cell_at {w : World} {b o : Nat} {cs : Array Value} {T : TypeId} {v : Value} (hb : w.heap[b]? = some (.cells cs T)) (hv : cs[o]? = some v) : w.cell? ⟨b, o, none⟩ = some v := by rw [Lib.cell_of_heap hb, hv]

set_option maxHeartbeats 2000000 in
theorem sameIts_any (A B : Option Addr) (c d : Nat) (a b : List Item) (W : World) (hA : ItsAt W A a) (hB : ItsAt W B b) (hla : a.length ≤ 9223372036854775807) (hlb : b.length ≤ 9223372036854775807) :
    Calls Try.prog 65 #[.slice A a.length c, .slice B b.length d] W fun e w' => e = .returned (.bool (sameL a b)) ∧ ∃ n, w' = W.drewN n := by
  have HA := Lib.hid hA
  have HB := Lib.hid hB
  obtain ⟨n, hn⟩ : ∃ n, a.length = n := ⟨_, rfl⟩
  obtain ⟨m, hm⟩ : ∃ m, b.length = m := ⟨_, rfl⟩
  have HN := Lib.hid hn
  have HM := Lib.hid hm
  rw [hn] at hla ⊢
  rw [hm] at hlb ⊢
  clear hA hB hn hm
  by_cases hnm : n = m
  · subst hnm
    go_enter Try.func65, Try.ntmps65
    go_wp2
    go_loopg [5] (n + 1) (fun gh s5 wx => ∃ (i k : Nat), i + gh = n + 1 ∧ i ≤ n ∧ s5 = .int .i64 i ∧ Hid (∀ j (h : j < a.length) (h' : j < b.length), j < i → sameI (a[j]) (b[j]) = true) ∧ wx = W.drewN k)
    case atStart => exact ⟨0, 0, by omega, by omega, rfl, fun j _ _ h => by omega, rfl⟩
    case round =>
      obtain ⟨i, k, hig, hi, rfl, HS, rfl⟩ := hrel
      by_cases hlt : i < n
      · have ha' : i < a.length := by rw [HN.out]; exact hlt
        have hb' : i < b.length := by rw [HM.out]; exact hlt
        obtain ⟨q, o1, hq⟩ := HA.out
        obtain ⟨eA, -, p0, p1⟩ := hq i ha'
        obtain ⟨r, o2, hr⟩ := HB.out
        obtain ⟨eB, -, r0, r1⟩ := hr i hb'
        subst eA eB
        clear hq hr
        have hx9 : sameI (a[i]) (b[i]) = ((a[i]).1.toList == (b[i]).1.toList && (a[i]).2.toList == (b[i]).2.toList) := by rw [sameI]
        have HX := Lib.hid hx9
        clear hx9
        generalize (a[i]).1 = x1 at *
        generalize (a[i]).2 = x2 at *
        generalize (b[i]).1 = y1 at *
        generalize (b[i]).2 = y2 at *
        go_upto_region 6 with fail
        cases hb1 : (x1.toList == y1.toList) <;> cases hb2 : (x2.toList == y2.toList)
        all_goals
          go_quiet (fail)
        · go_wp2
          go_ret
          exact ⟨by rw [sameL_not a b i ha' hb' (by rw [HX.out, hb1]; rfl)]; rfl, k + nq, drewN_two _ _ _⟩
        · go_wp2
          go_ret
          exact ⟨by rw [sameL_not a b i ha' hb' (by rw [HX.out, hb1]; rfl)]; rfl, k + nq, drewN_two _ _ _⟩
        · go_wp2
          go_ret
          exact ⟨by rw [sameL_not a b i ha' hb' (by rw [HX.out, hb1, hb2]; rfl)]; rfl, k + nq, drewN_two _ _ _⟩
        · go_wp2
          go_roundg (gk - 1)
          case measure => omega
          case rel =>
            refine ⟨i + 1, k + nq, by omega, by omega, by go_num, fun j h1 h2 hj => ?_, rfl⟩
            rcases Nat.lt_succ_iff_lt_or_eq.1 hj with h | rfl
            · exact HS.out j h1 h2 h
            · rw [HX.out, hb1, hb2]; rfl
      · obtain rfl : i = n := by omega
        go_wp2
        go_ret
        exact ⟨by rw [sameL_all a b (by rw [HN.out, HM.out]) (fun j h1 h2 => HS.out j h1 h2 (by rw [HN.out] at h1; exact h1))]; rfl, k, rfl⟩
  · have hd : ((n : Int) != (m : Int)) = true := by rw [bne_iff_ne]; omega
    have HF := Lib.hid (sameL_lens a b (by rw [HN.out, HM.out]; exact hnm))
    go_enter Try.func65, Try.ntmps65
    go_wp2
    go_ret
    exact ⟨by rw [HF.out]; rfl, 0, rfl⟩


theorem its_own {w : World} {base n c : Nat} {A : Option Addr} {l : List Item} (h : w.ownsRow base 108 2 (.slice A n c) n (itemCells l)) (hn : l.length = n) : ItsAt w A l := by
  subst hn
  rcases h.2 with ⟨h0, h1⟩ | ⟨g, cap, cur, h0, hg, hh, _⟩
  · exact ⟨0, 0, fun i hi => by omega⟩
  · injection h0 with h1 _ _
    subst h1
    refine ⟨g, 0, fun i hi => ⟨rfl, lk_lt_of_heap hh, ?_, ?_⟩⟩
    · rw [Nat.zero_add]; exact (h.cellAt (i * 2) (by omega)).trans (itemCells_get0 l i hi)
    · rw [Nat.zero_add]; exact (h.cellAt (i * 2 + 1) (by omega)).trans (itemCells_get1 l i hi)
theorem own_caps {w : World} {base n c : Nat} {A : Option Addr} {l : List Item} (h : w.ownsRow base 108 2 (.slice A n c) n (itemCells l)) : n ≤ c ∧ c ≤ maxLen := by
  rcases h.2 with ⟨h0, h1⟩ | ⟨g, cap, cur, h0, hg, hh, h1, h2, _⟩
  · injection h0 with _ e1 e2
    subst e1 e2
    exact ⟨Nat.le_refl _, by unfold maxLen; omega⟩
  · injection h0 with _ _ e2
    subst e2
    exact ⟨h1, h2⟩
theorem slAt_own {w : World} {base : Nat} {S : Value} {l : List Item} (h : w.ownsRow base 108 2 S l.length (itemCells l)) : SlAt w S l := by
  obtain ⟨A, c, rfl⟩ := own_slice h
  obtain ⟨h1, h2⟩ := own_caps h
  exact ⟨A, c, rfl, h1, h2, its_own h rfl⟩
theorem sameSl_any (S1 S2 : Value) (a b : List Item) (W : World) (hA : SlAt W S1 a) (hB : SlAt W S2 b) :
    Calls Try.prog 65 #[S1, S2] W fun e w' => e = .returned (.bool (sameL a b)) ∧ Below W.heap.size W w' := by
  obtain ⟨A, c, rfl, h1, h2, h3⟩ := hA
  obtain ⟨B, d, rfl, k1, k2, k3⟩ := hB
  unfold maxLen at h2 k2
  refine (sameIts_any A B c d a b W h3 k3 (by omega) (by omega)).mono ?_
  rintro e w' ⟨rfl, n, rfl⟩
  exact ⟨rfl, lk_belowN (Below.refl _ _) n⟩
def sameTB (l m : LV) : Bool := l.er == m.er && (l.tv.toList == m.tv.toList && (sameL l.ti m.ti && ((l.more == m.more) && (l.nx.toList == m.nx.toList && l.tn == m.tn))))
abbrev LV.told (l : LV) (S : Value) : Value := .agg #[.int .i64 l.er, .string l.tv, S, .bool l.more, .string l.nx, .int .i64 l.tn]
set_option maxRecDepth 20000 in
set_option maxHeartbeats 2000000 in
theorem sameTold_any (l m : LV) (S1 S2 : Value) (W : World) (h1 : SlAt W S1 l.ti) (h2 : SlAt W S2 m.ti) :
    Calls Try.prog 64 #[l.told S1, m.told S2] W fun e w' => e = .returned (.bool (sameTB l m)) ∧ Below W.heap.size W w' := by
  obtain ⟨A1, k1, rfl, x1, x2, x3⟩ := id h1
  obtain ⟨A2, k2, rfl, y1, y2, y3⟩ := id h2
  have CS : Hid (∀ w, Below W.heap.size W w → Calls Try.prog 65 #[.slice A1 l.ti.length k1, .slice A2 m.ti.length k2] w fun e w' => e = .returned (.bool (sameL l.ti m.ti)) ∧ Below w.heap.size w w') := fun w hb => sameSl_any _ _ _ _ w (h1.below hb) (h2.below hb)
  clear h1 h2 x1 x2 x3 y1 y2 y3
  unfold sameTB
  generalize sameL l.ti m.ti = b3 at *
  generalize l.ti.length = n1 at *
  generalize m.ti.length = n2 at *
  generalize hb1 : (l.er == m.er) = b1
  generalize hb2 : (l.tv.toList == m.tv.toList) = b2
  generalize hb4 : (l.more == m.more) = b4
  generalize hb5 : (l.nx.toList == m.nx.toList) = b5
  generalize hb6 : (l.tn == m.tn) = b6
  have HC : Hid (∀ w, Below (W.heap.size + 2) ((W.alloc (.cells #[.int .i64 l.er, .string l.tv, .slice A1 n1 k1, .bool l.more, .string l.nx, .int .i64 l.tn] 46)).alloc (.cells #[.int .i64 m.er, .string m.tv, .slice A2 n2 k2, .bool m.more, .string m.nx, .int .i64 m.tn] 46)) w → w.cell? ⟨W.heap.size, 3, none⟩ = some (.bool l.more) ∧ w.cell? ⟨W.heap.size, 4, none⟩ = some (.string l.nx) ∧ w.cell? ⟨W.heap.size, 5, none⟩ = some (.int .i64 l.tn) ∧ w.cell? ⟨W.heap.size + 1, 3, none⟩ = some (.bool m.more) ∧ w.cell? ⟨W.heap.size + 1, 4, none⟩ = some (.string m.nx) ∧ w.cell? ⟨W.heap.size + 1, 5, none⟩ = some (.int .i64 m.tn)) := fun w hb => by
    have q1 : w.heap[W.heap.size]? = some (.cells #[.int .i64 l.er, .string l.tv, .slice A1 n1 k1, .bool l.more, .string l.nx, .int .i64 l.tn] 46) := (hb.block _ (by omega)).trans ((Lib.alloc_old _ _ _ (by simp)).trans (heap_alloc_new W _))
    have q2 : w.heap[W.heap.size + 1]? = some (.cells #[.int .i64 m.er, .string m.tv, .slice A2 n2 k2, .bool m.more, .string m.nx, .int .i64 m.tn] 46) := (hb.block _ (by omega)).trans (by have := heap_alloc_new (W.alloc (.cells #[.int .i64 l.er, .string l.tv, .slice A1 n1 k1, .bool l.more, .string l.nx, .int .i64 l.tn] 46)) (.cells #[.int .i64 m.er, .string m.tv, .slice A2 n2 k2, .bool m.more, .string m.nx, .int .i64 m.tn] 46); simpa using this)
    exact ⟨lk_cell_at q1 rfl, lk_cell_at q1 rfl, lk_cell_at q1 rfl, lk_cell_at q2 rfl, lk_cell_at q2 rfl, lk_cell_at q2 rfl⟩
  go_enter Try.func64, Try.ntmps64
  go_wp2_with (go_at_call 65; ((with_reducible refine (CS.out _ (((Below.refl W.heap.size W).alloc (Nat.le_refl _) _).alloc (by simp) _)).mono ?_); rintro e w1 ⟨rfl, hb⟩; obtain ⟨c1, c2, c3, c4, c5, c6⟩ := HC.out w1 (by simpa using hb); have HB : Hid (Below W.heap.size W w1) := acc (((Below.refl W.heap.size W).alloc (Nat.le_refl _) _).alloc (by simp) _) hb; clear hb))
  all_goals (first
    | (go_ret; exact ⟨by simp_all, HB.out⟩)
    | (go_ret; exact ⟨by simp_all, ((Below.refl W.heap.size W).alloc (Nat.le_refl _) _).alloc (by simp) _⟩))
def sameLB (l m : LV) : Bool := l.k == m.k && (l.f == m.f && (l.t == m.t && (l.i == m.i && ((l.op == m.op && (l.key.toList == m.key.toList && (l.val.toList == m.val.toList && (l.kto.toList == m.kto.toList && l.most == m.most)))) && (sameTB l m && (((l.af : Int) == m.af && (l.au : Int) == m.au) && (l.ep == m.ep && (sameL l.li m.li && (l.n == m.n && l.nd == m.nd)))))))))
set_option maxRecDepth 20000 in
set_option maxHeartbeats 4000000 in
theorem sameLetter_any (l m : LV) (S1 S2 R1 R2 : Value) (W : World) (h1 : SlAt W S1 l.ti) (h2 : SlAt W S2 l.li) (h3 : SlAt W R1 m.ti) (h4 : SlAt W R2 m.li) :
    Calls Try.prog 25 #[.agg (l.cells S1 S2), .agg (m.cells R1 R2)] W fun e w' => e = .returned (.bool (sameLB l m)) ∧ Below W.heap.size W w' := by
  obtain ⟨A1, k1, rfl, x1, x2, x3⟩ := id h1
  obtain ⟨A2, k2, rfl, x4, x5, x6⟩ := id h2
  obtain ⟨A3, k3, rfl, x7, x8, x9⟩ := id h3
  obtain ⟨A4, k4, rfl, y1, y2, y3⟩ := id h4
  have CT : Hid (∀ w, Below W.heap.size W w → Calls Try.prog 64 #[.agg #[.int .i64 l.er, .string l.tv, .slice A1 l.ti.length k1, .bool l.more, .string l.nx, .int .i64 l.tn], .agg #[.int .i64 m.er, .string m.tv, .slice A3 m.ti.length k3, .bool m.more, .string m.nx, .int .i64 m.tn]] w fun e w' => e = .returned (.bool (sameTB l m)) ∧ Below w.heap.size w w') := fun w hb => sameTold_any l m _ _ w (h1.below hb) (h3.below hb)
  have CS : Hid (∀ w, Below W.heap.size W w → Calls Try.prog 65 #[.slice A2 l.li.length k2, .slice A4 m.li.length k4] w fun e w' => e = .returned (.bool (sameL l.li m.li)) ∧ Below w.heap.size w w') := fun w hb => sameSl_any _ _ _ _ w (h2.below hb) (h4.below hb)
  clear h1 h2 h3 h4 x1 x2 x3 x4 x5 x6 x7 x8 x9 y1 y2 y3
  have BW : Below W.heap.size W ((W.alloc (.cells (l.cells (.slice A1 l.ti.length k1) (.slice A2 l.li.length k2)) 51)).alloc (.cells (m.cells (.slice A3 m.ti.length k3) (.slice A4 m.li.length k4)) 51)) := ((Below.refl W.heap.size W).alloc (Nat.le_refl _) _).alloc (by simp) _
  have HBW := Lib.hid BW
  have HC : Hid (∀ w, Below (W.heap.size + 2) ((W.alloc (.cells (l.cells (.slice A1 l.ti.length k1) (.slice A2 l.li.length k2)) 51)).alloc (.cells (m.cells (.slice A3 m.ti.length k3) (.slice A4 m.li.length k4)) 51)) w → (w.cell? ⟨W.heap.size, 15, none⟩ = some (.int .u64 (l.af : Nat)) ∧ w.cell? ⟨W.heap.size, 16, none⟩ = some (.int .u64 (l.au : Nat)) ∧ w.cell? ⟨W.heap.size, 17, none⟩ = some (.int .i64 l.ep) ∧ w.cell? ⟨W.heap.size, 18, none⟩ = some (.slice A2 l.li.length k2) ∧ w.cell? ⟨W.heap.size, 19, none⟩ = some (.int .i64 l.n) ∧ w.cell? ⟨W.heap.size, 20, none⟩ = some (.int .i64 l.nd)) ∧
      (w.cell? ⟨W.heap.size + 1, 15, none⟩ = some (.int .u64 (m.af : Nat)) ∧ w.cell? ⟨W.heap.size + 1, 16, none⟩ = some (.int .u64 (m.au : Nat)) ∧ w.cell? ⟨W.heap.size + 1, 17, none⟩ = some (.int .i64 m.ep) ∧ w.cell? ⟨W.heap.size + 1, 18, none⟩ = some (.slice A4 m.li.length k4) ∧ w.cell? ⟨W.heap.size + 1, 19, none⟩ = some (.int .i64 m.n) ∧ w.cell? ⟨W.heap.size + 1, 20, none⟩ = some (.int .i64 m.nd))) := fun w hb => by
    have q1 : w.heap[W.heap.size]? = some (.cells (l.cells (.slice A1 l.ti.length k1) (.slice A2 l.li.length k2)) 51) := (hb.block _ (by omega)).trans ((Lib.alloc_old _ _ _ (by simp)).trans (heap_alloc_new W _))
    have q2 : w.heap[W.heap.size + 1]? = some (.cells (m.cells (.slice A3 m.ti.length k3) (.slice A4 m.li.length k4)) 51) := (hb.block _ (by omega)).trans (by have := heap_alloc_new (W.alloc (.cells (l.cells (.slice A1 l.ti.length k1) (.slice A2 l.li.length k2)) 51)) (.cells (m.cells (.slice A3 m.ti.length k3) (.slice A4 m.li.length k4)) 51); simpa using this)
    exact ⟨⟨lk_cell_at q1 rfl, lk_cell_at q1 rfl, lk_cell_at q1 rfl, lk_cell_at q1 rfl, lk_cell_at q1 rfl, lk_cell_at q1 rfl⟩, lk_cell_at q2 rfl, lk_cell_at q2 rfl, lk_cell_at q2 rfl, lk_cell_at q2 rfl, lk_cell_at q2 rfl, lk_cell_at q2 rfl⟩
  unfold sameLB
  generalize hT : sameTB l m = bT at *
  generalize hL : sameL l.li m.li = bL at *
  generalize l.ti.length = n1 at *
  generalize l.li.length = n2 at *
  generalize m.ti.length = n3 at *
  generalize m.li.length = n4 at *
  generalize hb1 : (l.k == m.k) = b1
  generalize hb2 : (l.f == m.f) = b2
  generalize hb3 : (l.t == m.t) = b3
  generalize hb4 : (l.i == m.i) = b4
  generalize ha1 : (l.op == m.op) = d1
  generalize ha2 : (l.key.toList == m.key.toList) = d2
  generalize ha3 : (l.val.toList == m.val.toList) = d3
  generalize ha4 : (l.kto.toList == m.kto.toList) = d4
  generalize ha5 : (l.most == m.most) = d5
  generalize hc1 : ((l.af : Int) == m.af) = e1
  generalize hc2 : ((l.au : Int) == m.au) = e2
  generalize hb6 : (l.ep == m.ep) = b6
  generalize hb7 : (l.n == m.n) = b7
  generalize hb8 : (l.nd == m.nd) = b8
  clear BW hT hL
  dsimp only [LV.cells] at HC HBW ⊢
  go_enter Try.func25, Try.ntmps25
  go_wp2_with (first
    | (go_at_call 64; ((with_reducible refine (CT.out _ HBW.out).mono ?_); rintro e w1 ⟨rfl, hb⟩; obtain ⟨⟨c1, c2, c3, c4, c5, c6⟩, p1, p2, p3, p4, p5, p6⟩ := HC.out w1 (by simpa using hb); have HB : Hid (Below (W.heap.size + 2) _ w1 ∧ Below W.heap.size W w1) := ⟨(by simpa using hb), acc HBW.out hb⟩; clear hb))
    | (go_at_call 65; ((with_reducible refine (CS.out _ HB.out.2).mono ?_); rintro e w2 ⟨rfl, hb⟩; obtain ⟨⟨r1, r2, r3, r4, r5, r6⟩, s1, s2, s3, s4, s5, s6⟩ := HC.out w2 (HB.out.1.trans (hb.mono (by have := HB.out.1.size; simp at this; omega))); have HB2 : Hid (Below W.heap.size W w2) := acc HB.out.2 hb; clear hb)))
  all_goals (first
    | (go_ret; exact ⟨by simp_all, HB2.out⟩)
    | (go_ret; exact ⟨by simp_all, HB.out.2⟩)
    | (go_ret; exact ⟨by simp_all, HBW.out⟩))
end Go.Proofs.Ytfemdfidfomchaa
namespace Go.Proofs.Ytfemdfidfomchaa
open Go.RowKit

theorem sameLB_self (l : LV) : sameLB l l = true := by simp [sameLB, sameTB, sameL_iff]
theorem range_below {W w : World} {q o : Nat} {xs : List Value} (h : W.rangeAt q o xs) (hq : q < W.heap.size) (hb : Below W.heap.size W w) : w.rangeAt q o xs := fun j v hj => (hb.cell (p := ⟨q, o + j, none⟩) hq).trans (h j v hj)
theorem sameLetter_eq (r s : LR) (h : s.l = r.l) (w : World) (h1 : SlAt w r.a r.l.ti) (h2 : SlAt w r.b r.l.li) (h3 : SlAt w s.a s.l.ti) (h4 : SlAt w s.b s.l.li) : Calls Try.prog 25 #[.agg r.cells, .agg s.cells] w fun e w' => e = .returned (.bool true) ∧ Below w.heap.size w w' := by
  obtain ⟨l, a, b⟩ := r
  obtain ⟨m, c, d⟩ := s
  obtain rfl : m = l := h
  have := sameLetter_any m m a b c d w h1 h2 h3 h4
  rw [sameLB_self] at this
  exact this
/-- letters that lie one behind another -/
def LsAt (W : World) (A : Option Addr) (ls : List LR) : Prop := ∃ q o, (0 < ls.length → A = some ⟨q, o, none⟩) ∧ ∀ i r, ls[i]? = some r → q < W.heap.size ∧ W.rangeAt q (o + i * 21) r.cells.toList ∧ SlAt W r.a r.l.ti ∧ SlAt W r.b r.l.li
theorem LsAt.below {W w : World} {A : Option Addr} {ls : List LR} (h : LsAt W A ls) (hb : Below W.heap.size W w) : LsAt w A ls := by
  obtain ⟨q, o, h1, h2⟩ := h
  refine ⟨q, o, h1, fun i r hr => ?_⟩
  obtain ⟨a, b, c, d⟩ := h2 i r hr
  exact ⟨Nat.lt_of_lt_of_le a hb.size, range_below b a hb, c.below hb, d.below hb⟩
theorem LsAt.own {W : World} {base n c : Nat} {A : Option Addr} {ls : List LR} {L : List Nat} (h : W.ownsRow base 51 21 (.slice A n c) n (rowC LR.cells ls)) (hn : ls.length = n) (hl : ∀ r ∈ ls, r.At W L) : LsAt W A ls := by
  by_cases h0 : 0 < n
  · obtain ⟨q, rfl⟩ := lk_at h h0
    refine ⟨q, 0, fun _ => rfl, fun i r hr => ?_⟩
    have hm := hl r (List.mem_of_getElem? hr)
    refine ⟨(h.lt q rfl).2, fun j v hj => ?_, hm.a, hm.b⟩
    have hj21 : j < 21 := (List.getElem?_eq_some_iff.1 hj).1
    have hi : i < n := by rw [← hn]; exact (List.getElem?_eq_some_iff.1 hr).1
    have hlen := h.1
    rw [Nat.zero_add, h.cellAt (i * 21 + j) (by omega), rowC_get lE_size _ i j r hr hj21, ← Array.getElem?_toList]
    exact hj
  · refine ⟨0, 0, fun z => absurd z (by omega), fun i r hr => ?_⟩
    have hi := (List.getElem?_eq_some_iff.1 hr).1
    omega
set_option maxRecDepth 20000 in
set_option maxHeartbeats 1000000 in
theorem sameLs_any (A B : Option Addr) (c d n : Nat) (ls ms : List LR) (W : World) (hA : LsAt W A ls) (hB : LsAt W B ms) (he : ms.map (·.l) = ls.map (·.l)) (hl : ls.length = n) (hn : n ≤ 9223372036854775807) :
    Calls Try.prog 20 #[.slice A n c, .slice B n d] W fun e w' => e = .returned (.bool true) ∧ Below W.heap.size W w' := by
  have hm : ms.length = n := by have := congrArg List.length he; simp at this; omega
  have hss : ∀ (i : Nat) (r s : LR), ls[i]? = some r → ms[i]? = some s → s.l = r.l := fun i r s h1 h2 => by
    have := congrArg (fun l => l[i]?) he
    simp only [List.getElem?_map, h1, h2, Option.map_some, Option.some.injEq] at this
    exact this
  have HA := Lib.hid hA
  have HB := Lib.hid hB
  have HL := Lib.hid hl
  have HM := Lib.hid hm
  have HSS := Lib.hid hss
  have HE : Hid (Below W.heap.size W W) := Below.refl _ _
  clear hA hB he hl hm hss
  go_enter Try.func20, Try.ntmps20
  go_wp2
  go_loopg [5] (n + 1) (fun gh s5 wx => ∃ i : Nat, i + gh = n + 1 ∧ i ≤ n ∧ s5 = .int .i64 (i : Nat) ∧ Hid (Below W.heap.size W wx))
  case atStart => exact ⟨0, by omega, by omega, rfl, HE⟩
  case round =>
    obtain ⟨i, hig, hi, rfl, HW⟩ := hrel
    by_cases hlt : i < n
    · have ii : (i : Int) < (n : Int) := by omega
      obtain ⟨r, hr⟩ : ∃ r, ls[i]? = some r := ⟨ls[i]'(by rw [HL.out]; exact hlt), List.getElem?_eq_getElem _⟩
      obtain ⟨s, hs⟩ : ∃ s, ms[i]? = some s := ⟨ms[i]'(by rw [HM.out]; exact hlt), List.getElem?_eq_getElem _⟩
      have hsr := HSS.out i r s hr hs
      obtain ⟨q1, o1, a1, b1⟩ := HA.out.below HW.out
      obtain ⟨q2, o2, a2, b2⟩ := HB.out.below HW.out
      obtain rfl := a1 (by rw [HL.out]; omega)
      obtain rfl := a2 (by rw [HM.out]; omega)
      obtain ⟨x1, x2, x3, x4⟩ := b1 i r hr
      obtain ⟨y1, y2, y3, y4⟩ := b2 i s hs
      have hst : ∀ w', Below wr.heap.size wr w' → w'.rangeAt q1 (o1 + i * 21) r.cells.toList ∧ w'.rangeAt q2 (o2 + i * 21) s.cells.toList := fun w' hb => ⟨range_below x2 x1 hb, range_below y2 y1 hb⟩
      have cs : ∀ w', Below wr.heap.size wr w' → Calls Try.prog 25 #[.agg r.cells, .agg s.cells] w' fun e w'' => e = .returned (.bool true) ∧ Below w'.heap.size w' w'' := fun w' hb => sameLetter_eq r s hsr w' (x3.below hb) (x4.below hb) (y3.below hb) (y4.below hb)
      have h21 : (Try.prog.info? 51).map (·.size) = some r.cells.toList.length := by kernel_rfl
      have h22 : (Try.prog.info? 51).map (·.size) = some s.cells.toList.length := by kernel_rfl
      have HST := Lib.hid hst
      have CS := Lib.hid cs
      clear b1 b2 a1 a2 x1 x2 x3 x4 y1 y2 y3 y4 hst cs hr hs hsr
      obtain ⟨cr, hcr⟩ : ∃ cr, r.cells = cr := ⟨_, rfl⟩
      obtain ⟨cs, hcs⟩ : ∃ cs, s.cells = cs := ⟨_, rfl⟩
      rw [hcr] at HST CS h21
      rw [hcs] at HST CS h22
      clear hcr hcs
      go_upto_region 6 with fail
      refine wp_region_held_drew (S := fun w' => w'.rangeAt q1 (o1 + i * 21) cr.toList ∧ w'.rangeAt q2 (o2 + i * 21) cs.toList) (by kernel_rfl) ?_ (fun hHeld => ?_)
      · exact HST.out _ (Below.refl _ _).drew
      refine wpAnyH_take (i := 0) (oi := ⟨_, _, _, _, _, _⟩) (v := ?_) rfl (by kernel_rfl) (by kernel_rfl) (by kernel_rfl) (fun _ _ _ h => h) (Or.inl ⟨by rfl, ?_⟩) (by assumption) ?_
      rotate_left
      · (intro wS hSw; (try dsimp only at hSw); go_simp <;> with_reducible rfl)
      try simp only [Act.put, List.setIfInBounds_toArray, List.set_cons_zero, List.set_cons_succ]
      refine wpAnyH_take (i := 1) (oi := ⟨_, _, _, _, _, _⟩) (v := ?_) rfl (by kernel_rfl) (by kernel_rfl) (by kernel_rfl) (fun _ _ _ h => h) (Or.inl ⟨by rfl, ?_⟩) (by assumption) ?_
      rotate_left
      · (intro wS hSw; (try dsimp only at hSw); go_simp <;> with_reducible rfl)
      try simp only [Act.put, List.setIfInBounds_toArray, List.set_cons_zero, List.set_cons_succ]
      refine wpAnyH_take (i := 2) (oi := ⟨_, _, _, _, _, _⟩) (v := ?_) rfl (by kernel_rfl) (by kernel_rfl) (by kernel_rfl) (fun _ _ _ h => h) (Or.inl ⟨by rfl, ?_⟩) (by assumption) ?_
      rotate_left
      · (intro wS hSw; (try dsimp only at hSw); go_simp <;> with_reducible rfl)
      try simp only [Act.put, List.setIfInBounds_toArray, List.set_cons_zero, List.set_cons_succ]
      refine wpAnyH_take (i := 3) (oi := ⟨_, _, _, _, _, _⟩) (v := .agg (cr.toList).toArray) rfl (by kernel_rfl) (by kernel_rfl) (by kernel_rfl) (fun _ _ _ h => h) (yieldsIf_load_mid (by rfl) 51 (.tmp 19) rfl q1 (o1 + i * 21) rfl (cr.toList) _ (fun _ h => h.1) Try.underlying51 rfl h21) (by assumption) ?_
      try simp only [Act.put, List.setIfInBounds_toArray, List.set_cons_zero, List.set_cons_succ]
      refine wpAnyH_take (i := 4) (oi := ⟨_, _, _, _, _, _⟩) (v := ?_) rfl (by kernel_rfl) (by kernel_rfl) (by kernel_rfl) (fun _ _ _ h => h) (Or.inl ⟨by rfl, ?_⟩) (by assumption) ?_
      rotate_left
      · (intro wS hSw; (try dsimp only at hSw); go_simp <;> with_reducible rfl)
      try simp only [Act.put, List.setIfInBounds_toArray, List.set_cons_zero, List.set_cons_succ]
      refine wpAnyH_take (i := 5) (oi := ⟨_, _, _, _, _, _⟩) (v := ?_) rfl (by kernel_rfl) (by kernel_rfl) (by kernel_rfl) (fun _ _ _ h => h) (Or.inl ⟨by rfl, ?_⟩) (by assumption) ?_
      rotate_left
      · (intro wS hSw; (try dsimp only at hSw); go_simp <;> with_reducible rfl)
      try simp only [Act.put, List.setIfInBounds_toArray, List.set_cons_zero, List.set_cons_succ]
      refine wpAnyH_take (i := 6) (oi := ⟨_, _, _, _, _, _⟩) (v := ?_) rfl (by kernel_rfl) (by kernel_rfl) (by kernel_rfl) (fun _ _ _ h => h) (Or.inl ⟨by rfl, ?_⟩) (by assumption) ?_
      rotate_left
      · (intro wS hSw; (try dsimp only at hSw); go_simp <;> with_reducible rfl)
      try simp only [Act.put, List.setIfInBounds_toArray, List.set_cons_zero, List.set_cons_succ]
      refine wpAnyH_take (i := 7) (oi := ⟨_, _, _, _, _, _⟩) (v := .agg (cs.toList).toArray) rfl (by kernel_rfl) (by kernel_rfl) (by kernel_rfl) (fun _ _ _ h => h) (yieldsIf_load_mid (by rfl) 51 (.tmp 23) rfl q2 (o2 + i * 21) rfl (cs.toList) _ (fun _ h => h.2) Try.underlying51 rfl h22) (by assumption) ?_
      try simp only [Act.put, List.setIfInBounds_toArray, List.set_cons_zero, List.set_cons_succ]
      simp only [Array.toArray_toList]
      refine wpAnyH_ready (rs := [8]) (by kernel_rfl) (by simp) ?_
      refine AllReadyH.cons (o := ⟨_, _, _, _, _, _⟩) rfl (fun K hK => ?_) AllReadyH.nil
      go_simp
      (first | (go_at_call 25; (with_reducible refine (CS.out _ (Below.refl _ _).drew).mono ?_); rintro e w2 ⟨rfl, hb2⟩; have HB2 : Hid (Below wr.heap.size wr w2) := ((Below.refl wr.heap.size wr).drew).trans hb2; clear hb2))
      go_wp2_with fail
      refine hK.out _ _ (by (try dsimp only); exact HST.out _ HB2.out) (fun hHeld => ?_)
      clear hK K
      try simp only [Act.put, List.setIfInBounds_toArray, List.set_cons_zero, List.set_cons_succ]
      refine wpAnyH_take (i := 9) (oi := ⟨_, _, _, _, _, _⟩) (v := ?_) rfl (by kernel_rfl) (by kernel_rfl) (by kernel_rfl) (fun _ _ _ h => h) (Or.inl ⟨by rfl, ?_⟩) (by assumption) ?_
      rotate_left
      · (intro wS hSw; (try dsimp only at hSw); go_simp <;> with_reducible rfl)
      try simp only [Act.put, List.setIfInBounds_toArray, List.set_cons_zero, List.set_cons_succ]
      refine wpAnyH_done (by kernel_rfl) ?_ _
      go_wp2_with fail
      go_roundg (gk - 1)
      case measure => omega
      case rel => exact ⟨i + 1, by omega, by omega, by go_num, acc HW.out HB2.out⟩
    · obtain rfl : n = i := by omega
      go_wp2_with fail
      go_ret
      exact ⟨rfl, HW.out⟩
theorem lk_load_midH {P : Program} {ops : Array Oper} {rest : List Oper} {op : Oper} {a : Act} {w : World} {Q : Exit → Act → World → Prop} (hw : Region.wanted op (yielded ops a.tmps) = true) (ty : TypeId) (x : Operand) (ho : op.op = .load ty x)
    (b o : Nat) (hx : a.eval x = .pointer (some ⟨b, o, none⟩)) (cs : List Value) (d : TypeDesc) (hc : w.rangeAt b o cs)
    (hu : P.underlying ty = some d) (hd : d.isRow = true) (hi : (P.info? ty).map (·.size) = some cs.length)
    (h : wpList P ops Q rest (a.put op.dst (.agg cs.toArray)) w) : wpList P ops Q (op :: rest) a w := by
  unfold wpList
  rw [if_pos hw]
  exact .inl (wp_load_mid ty x ho b o hx cs d hc hu hd hi h)
theorem pk_inner {w : World} {B : Nat} {p : PR} {T : TypeId} (hb : w.heap[B]? = some (.cells p.cells T)) : w.rangeAt B 4 p.r.cells.toList := by
  intro j v hj
  rw [Lib.cell_of_heap hb, Nat.add_comm 4 j, ← Array.getElem?_toList]
  exact hj
set_option maxRecDepth 20000 in
set_option maxHeartbeats 4000000 in
theorem samePk_any (p q : PR) (W : World) (hf : q.f = p.f) (ht : q.t = p.t) (hs : q.s = p.s) (ha : q.a = p.a) (hl : q.r.l = p.r.l) (h1 : SlAt W p.r.a p.r.l.ti) (h2 : SlAt W p.r.b p.r.l.li) (h3 : SlAt W q.r.a q.r.l.ti) (h4 : SlAt W q.r.b q.r.l.li) :
    Calls Try.prog 12 #[.agg p.cells, .agg q.cells] W fun e w' => e = .returned (.bool true) ∧ Below W.heap.size W w' := by
  obtain ⟨f, t, s, a, r⟩ := p
  obtain ⟨f', t', s', a', u⟩ := q
  dsimp only at hf ht hs ha hl h1 h2 h3 h4
  subst hf ht hs ha
  have bw : Below W.heap.size W ((W.alloc (.cells (PR.mk f' t' s' a' r).cells 53)).alloc (.cells (PR.mk f' t' s' a' u).cells 53)) := ((Below.refl W.heap.size W).alloc (Nat.le_refl _) _).alloc (by simp) _
  have b1 : ((W.alloc (.cells (PR.mk f' t' s' a' r).cells 53)).alloc (.cells (PR.mk f' t' s' a' u).cells 53)).heap[W.heap.size]? = some (.cells (PR.mk f' t' s' a' r).cells 53) := (Lib.alloc_old _ _ _ (by simp)).trans (heap_alloc_new W _)
  have b2 : ((W.alloc (.cells (PR.mk f' t' s' a' r).cells 53)).alloc (.cells (PR.mk f' t' s' a' u).cells 53)).heap[W.heap.size + 1]? = some (.cells (PR.mk f' t' s' a' u).cells 53) := by
    have := heap_alloc_new (W.alloc (.cells (PR.mk f' t' s' a' r).cells 53)) (.cells (PR.mk f' t' s' a' u).cells 53)
    simpa using this
  have HR1 := Lib.hid (pk_inner (p := ⟨f', t', s', a', r⟩) b1)
  have HR2 := Lib.hid (pk_inner (p := ⟨f', t', s', a', u⟩) b2)
  have CS := Lib.hid (sameLetter_eq r u hl _ (h1.below bw) (h2.below bw) (h3.below bw) (h4.below bw))
  have x0 := lk_cell_at (o := 0) b1 rfl
  have x1 := lk_cell_at (o := 1) b1 rfl
  have x2 := lk_cell_at (o := 2) b1 rfl
  have x3 := lk_cell_at (o := 3) b1 rfl
  have y0 := lk_cell_at (o := 0) b2 rfl
  have y1 := lk_cell_at (o := 1) b2 rfl
  have y2 := lk_cell_at (o := 2) b2 rfl
  have y3 := lk_cell_at (o := 3) b2 rfl
  have BW := Lib.hid bw
  have hl1 : (Try.prog.info? 51).map (·.size) = some r.cells.toList.length := by kernel_rfl
  have hl2 : (Try.prog.info? 51).map (·.size) = some u.cells.toList.length := by kernel_rfl
  clear h1 h2 h3 h4 bw b1 b2 hl
  obtain ⟨w2, hw2⟩ : ∃ w2, (W.alloc (.cells (PR.mk f' t' s' a' r).cells 53)).alloc (.cells (PR.mk f' t' s' a' u).cells 53) = w2 := ⟨_, rfl⟩
  rw [hw2] at HR1 HR2 CS BW x0 x1 x2 x3 y0 y1 y2 y3
  go_enter Try.func12, Try.ntmps12
  go_upto_region 1 with fail
  clear hw2
  go_wp2_with (first
    | (with_reducible (show wpList _ _ _ (⟨some _, Op.load _ (Operand.tmp 32), _, _, _, _⟩ :: _) _ _); go_must (refine lk_load_midH (by kernel_rfl) 51 (.tmp 32) rfl W.heap.size 4 rfl r.cells.toList _ HR1.out Try.underlying51 rfl hl1 ?_))
    | (with_reducible (show wpList _ _ _ (⟨some _, Op.load _ (Operand.tmp 34), _, _, _, _⟩ :: _) _ _); go_must (refine lk_load_midH (by kernel_rfl) 51 (.tmp 34) rfl (W.heap.size + 1) 4 rfl u.cells.toList _ HR2.out Try.underlying51 rfl hl2 ?_))
    | (go_at_call 25; ((with_reducible refine (CS.out).mono ?_); rintro e w1 ⟨rfl, hb⟩; have HB := Lib.hid hb; clear hb)))
  go_ret
  exact ⟨rfl, acc BW.out HB.out⟩
theorem samePkZ_any (W : World) : Calls Try.prog 12 #[.agg (lpCells 0 0 0 0 0 0), .agg (lpCells 0 0 0 0 0 0)] W fun e w' => e = .returned (.bool true) ∧ Below W.heap.size W w' :=
  samePk_any ⟨0, 0, 0, 0, LR.light 0 0⟩ ⟨0, 0, 0, 0, LR.light 0 0⟩ W rfl rfl rfl rfl rfl (SlAt.nil _) (SlAt.nil _) (SlAt.nil _) (SlAt.nil _)
end Go.Proofs.Ytfemdfidfomchaa
namespace Go.Proofs.Ytfemdfidfomchaa
open Go.RowKit

/-- a mark: a light letter -/
abbrev mkK (i k : Nat) : Int := -1000 * (i : Int) - (k : Int) - 1
abbrev markLs (i f n : Nat) : List LR := (List.range' f n).map fun k => LR.light (mkK i k) 0
theorem markLs_length (i f n : Nat) : (markLs i f n).length = n := by simp [markLs]
theorem markLs_snoc (i f n : Nat) : rowC LR.cells (markLs i f n) ++ rowC LR.cells [LR.light (mkK i (f + n)) 0] = rowC LR.cells (markLs i f (n + 1)) := by
  rw [← rowC_append, markLs, markLs, List.range'_concat, List.map_append, Nat.mul_comm 1 n, Nat.mul_one]
  rfl
/-- a row of the call's own, new -/
def NewLs (W : World) (ls : List LR) (e : Ending) (w' : World) : Prop :=
  ∃ A c, e = .returned (.slice A ls.length c) ∧ w'.ownsRow W.heap.size 51 21 (.slice A ls.length c) ls.length (rowC LR.cells ls) ∧ Below W.heap.size W w'
set_option maxRecDepth 20000 in
set_option maxHeartbeats 1000000 in
theorem markLs_any (i f n : Nat) (W : World) (hi : i ≤ 100000) (hf : f ≤ 1000000) (hn : n ≤ 1000000) :
    Calls Try.prog 77 #[.int .i64 (i : Nat), .int .i64 (f : Nat), .int .i64 (n : Nat)] W (NewLs W (markLs i f n)) := by
  obtain ⟨iL, hiL, hzL, hsL, hbL⟩ := lk_infoLt
  have z1 : IntKind.i64.wrap (-1000 * (i : Int)) = -1000 * (i : Int) := by rw [IntKind.wrap_i64]; omega
  have z4 : IntKind.i64.wrap ((f : Int) + (n : Int)) = (f : Int) + (n : Int) := by rw [IntKind.wrap_i64]; omega
  go_enter Try.func77, Try.ntmps77
  go_wp2
  go_loopg [7, 8] (n + 1) (fun gh s7 s8 wx => ∃ (j c : Nat) (A : Option Addr), j + gh = n + 1 ∧ j ≤ n ∧ s7 = .slice A j c ∧ s8 = .int .i64 ((f + j : Nat) : Int) ∧ Hid (wx.ownsRow W.heap.size 51 21 (.slice A j c) j (rowC LR.cells (markLs i f j))) ∧ Hid (Below W.heap.size W wx))
  case atStart => exact ⟨0, 0, none, by omega, by omega, rfl, by go_num, World.ownsRow_nil _ _ _ _, Below.refl _ _⟩
  case round =>
    obtain ⟨j, c, A, hjg, hj, rfl, rfl, HO, HB⟩ := hrel
    by_cases hlt : j < n
    · have i1 : (f : Int) + (j : Int) < (f : Int) + (n : Int) := by omega
      have z2 : IntKind.i64.wrap (-1000 * (i : Int) - ((f : Int) + (j : Int))) = -1000 * (i : Int) - ((f : Int) + (j : Int)) := by rw [IntKind.wrap_i64]; omega
      have z3 : IntKind.i64.wrap (-1000 * (i : Int) - ((f : Int) + (j : Int)) - 1) = mkK i (f + j) := by rw [IntKind.wrap_i64]; unfold mkK; omega
      have z5 : IntKind.i64.wrap ((f : Int) + (j : Int) + 1) = (f : Int) + (j : Int) + 1 := by rw [IntKind.wrap_i64]; omega
      obtain ⟨kk, hkk⟩ : ∃ kk, mkK i (f + j) = kk := ⟨_, rfl⟩
      rw [hkk] at z3
      have HKK := Lib.hid hkk
      clear hkk
      go_wp2_with (at_builtin; go_must (refine wpList_append_any rfl (.tmp 17) (.tmp 24) 59 rfl W.heap.size 51 iL (.agg (ltCells 0 0)) 21 240 Try.underlying59 hiL hzL hsL hbL rfl (by decide) (.slice A j c) j (rowC LR.cells (markLs i f j)) rfl (HO.out.alloc _) (.slice (some ⟨wr.heap.size, 0, none⟩) 1 1) 1 (rowC LR.cells [LR.light kk 0]) rfl (.inr ⟨⟨wr.heap.size, 0, none⟩, 1, rfl, rfl, lk_new_row wr (LR.light kk 0).cells _⟩) (rowC_all (enc := LR.cells) (l := [LR.light kk 0]) (fun y hy => by simp at hy; subst hy; exact LR.one (light_sl _ _))) (by unfold maxLen; omega) (by omega) (by have := HB.out.size; simp; omega) ?_); intro A5 c5 w5 ho5 hg5 hs5; have HO5 := Lib.hid ho5; have HB5 : Hid (Below W.heap.size W w5) := ((HB.out.alloc (by have := HB.out.size; omega) _).grown hg5 (by have := HB.out.size; simp; omega) (fun z hz => by have := (HO.out.lt z hz).1; omega)); clear ho5 hg5 hs5)
      go_roundg (gk - 1)
      case measure => omega
      case rel =>
        have h5 := HO5.out
        rw [← HKK.out, markLs_snoc] at h5
        exact ⟨j + 1, c5, A5, by omega, by omega, rfl, by go_num, h5, HB5⟩
    · obtain rfl : n = j := by omega
      go_wp2_with fail
      go_ret
      exact ⟨A, c, by rw [markLs_length]; rfl, by rw [markLs_length]; exact HO.out, HB.out⟩
end Go.Proofs.Ytfemdfidfomchaa
