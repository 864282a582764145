/-
  Two letters, two lists, compared; a slice of items that a call owns.
-/
import Derived.Test.YtbnmddopgbhapaaGreatLetLetter
namespace Go.Proofs.YtbnmddopgbhapaaGreat
open Go.RowKit

set_option maxHeartbeats 2000000 in
theorem sameIts_any (A B : Option Addr) (c d : Nat) (a b : List Item) (W : World) (hA : ItsAt W A a) (hB : ItsAt W B b) (hla : a.length ≤ 9223372036854775807) (hlb : b.length ≤ 9223372036854775807) :
    Calls Tryz.prog 29 #[.slice A a.length c, .slice B b.length d] W fun e w' => e = .returned (.bool (sameL a b)) ∧ ∃ n, w' = W.drewN n := by
  have HA := Lib.hid hA
  have HB := Lib.hid hB
  obtain ⟨n, hn⟩ : ∃ n, a.length = n := ⟨_, rfl⟩
  obtain ⟨m, hm⟩ : ∃ m, b.length = m := ⟨_, rfl⟩
  have HN := Lib.hid hn
  have HM := Lib.hid hm
  rw [hn] at hla ⊢
  rw [hm] at hlb ⊢
  clear hA hB hn hm
  by_cases hnm : n = m
  · subst hnm
    go_enter Tryz.func29, Tryz.ntmps29
    go_wp2
    go_loopg [5] (n + 1) (fun gh s5 wx => ∃ (i k : Nat), i + gh = n + 1 ∧ i ≤ n ∧ s5 = .int .i64 i ∧ Hid (∀ j (h : j < a.length) (h' : j < b.length), j < i → sameI (a[j]) (b[j]) = true) ∧ wx = W.drewN k)
    case atStart => exact ⟨0, 0, by omega, by omega, rfl, fun j _ _ h => by omega, rfl⟩
    case round =>
      obtain ⟨i, k, hig, hi, rfl, HS, rfl⟩ := hrel
      by_cases hlt : i < n
      · have ha' : i < a.length := by rw [HN.out]; exact hlt
        have hb' : i < b.length := by rw [HM.out]; exact hlt
        obtain ⟨q, o1, hq⟩ := HA.out
        obtain ⟨eA, -, p0, p1⟩ := hq i ha'
        obtain ⟨r, o2, hr⟩ := HB.out
        obtain ⟨eB, -, r0, r1⟩ := hr i hb'
        subst eA eB
        clear hq hr
        have hx9 : sameI (a[i]) (b[i]) = ((a[i]).1.toList == (b[i]).1.toList && (a[i]).2.toList == (b[i]).2.toList) := by rw [sameI]
        have HX := Lib.hid hx9
        clear hx9
        generalize (a[i]).1 = x1 at *
        generalize (a[i]).2 = x2 at *
        generalize (b[i]).1 = y1 at *
        generalize (b[i]).2 = y2 at *
        go_upto_region 6 with fail
        cases hb1 : (x1.toList == y1.toList) <;> cases hb2 : (x2.toList == y2.toList)
        all_goals
          go_quiet (fail)
        · go_wp2
          go_ret
          exact ⟨by rw [sameL_not a b i ha' hb' (by rw [HX.out, hb1]; rfl)]; rfl, k + nq, drewN_two _ _ _⟩
        · go_wp2
          go_ret
          exact ⟨by rw [sameL_not a b i ha' hb' (by rw [HX.out, hb1]; rfl)]; rfl, k + nq, drewN_two _ _ _⟩
        · go_wp2
          go_ret
          exact ⟨by rw [sameL_not a b i ha' hb' (by rw [HX.out, hb1, hb2]; rfl)]; rfl, k + nq, drewN_two _ _ _⟩
        · go_wp2
          go_roundg (gk - 1)
          case measure => omega
          case rel =>
            refine ⟨i + 1, k + nq, by omega, by omega, by go_num, fun j h1 h2 hj => ?_, rfl⟩
            rcases Nat.lt_succ_iff_lt_or_eq.1 hj with h | rfl
            · exact HS.out j h1 h2 h
            · rw [HX.out, hb1, hb2]; rfl
      · obtain rfl : i = n := by omega
        go_wp2
        go_ret
        exact ⟨by rw [sameL_all a b (by rw [HN.out, HM.out]) (fun j h1 h2 => HS.out j h1 h2 (by rw [HN.out] at h1; exact h1))]; rfl, k, rfl⟩
  · have hd : ((n : Int) != (m : Int)) = true := by rw [bne_iff_ne]; omega
    have HF := Lib.hid (sameL_lens a b (by rw [HN.out, HM.out]; exact hnm))
    go_enter Tryz.func29, Tryz.ntmps29
    go_wp2
    go_ret
    exact ⟨by rw [HF.out]; rfl, 0, rfl⟩


theorem its_own {w : World} {base n c : Nat} {A : Option Addr} {l : List Item} (h : w.ownsRow base 58 2 (.slice A n c) n (itemCells l)) (hn : l.length = n) : ItsAt w A l := by
  subst hn
  rcases h.2 with ⟨h0, h1⟩ | ⟨g, cap, cur, h0, hg, hh, _⟩
  · exact ⟨0, 0, fun i hi => by omega⟩
  · injection h0 with h1 _ _
    subst h1
    refine ⟨g, 0, fun i hi => ⟨rfl, lt_of_heap hh, ?_, ?_⟩⟩
    · rw [Nat.zero_add]; exact (h.cellAt (i * 2) (by omega)).trans (itemCells_get0 l i hi)
    · rw [Nat.zero_add]; exact (h.cellAt (i * 2 + 1) (by omega)).trans (itemCells_get1 l i hi)
theorem own_caps {w : World} {base n c : Nat} {A : Option Addr} {l : List Item} (h : w.ownsRow base 58 2 (.slice A n c) n (itemCells l)) : n ≤ c ∧ c ≤ maxLen := by
  rcases h.2 with ⟨h0, h1⟩ | ⟨g, cap, cur, h0, hg, hh, h1, h2, _⟩
  · injection h0 with _ e1 e2
    subst e1 e2
    exact ⟨Nat.le_refl _, by unfold maxLen; omega⟩
  · injection h0 with _ _ e2
    subst e2
    exact ⟨h1, h2⟩
theorem slAt_own {w : World} {base : Nat} {S : Value} {l : List Item} (h : w.ownsRow base 58 2 S l.length (itemCells l)) : SlAt w S l := by
  obtain ⟨A, c, rfl⟩ := own_slice h
  obtain ⟨h1, h2⟩ := own_caps h
  exact ⟨A, c, rfl, h1, h2, its_own h rfl⟩
theorem sameSl_any (S1 S2 : Value) (a b : List Item) (W : World) (hA : SlAt W S1 a) (hB : SlAt W S2 b) :
    Calls Tryz.prog 29 #[S1, S2] W fun e w' => e = .returned (.bool (sameL a b)) ∧ Below W.heap.size W w' := by
  obtain ⟨A, c, rfl, h1, h2, h3⟩ := hA
  obtain ⟨B, d, rfl, k1, k2, k3⟩ := hB
  unfold maxLen at h2 k2
  refine (sameIts_any A B c d a b W h3 k3 (by omega) (by omega)).mono ?_
  rintro e w' ⟨rfl, n, rfl⟩
  exact ⟨rfl, belowN (Below.refl _ _) n⟩
def sameTB (l m : LV) : Bool := l.er == m.er && (l.tv.toList == m.tv.toList && (sameL l.ti m.ti && ((l.more == m.more) && (l.nx.toList == m.nx.toList && l.tn == m.tn))))
abbrev LV.told (l : LV) (S : Value) : Value := .agg #[.int .i64 l.er, .string l.tv, S, .bool l.more, .string l.nx, .int .i64 l.tn]
set_option maxRecDepth 20000 in
set_option maxHeartbeats 2000000 in
theorem sameTold_any (l m : LV) (S1 S2 : Value) (W : World) (h1 : SlAt W S1 l.ti) (h2 : SlAt W S2 m.ti) :
    Calls Tryz.prog 32 #[l.told S1, m.told S2] W fun e w' => e = .returned (.bool (sameTB l m)) ∧ Below W.heap.size W w' := by
  obtain ⟨A1, k1, rfl, x1, x2, x3⟩ := id h1
  obtain ⟨A2, k2, rfl, y1, y2, y3⟩ := id h2
  have CS : Hid (∀ w, Below W.heap.size W w → Calls Tryz.prog 29 #[.slice A1 l.ti.length k1, .slice A2 m.ti.length k2] w fun e w' => e = .returned (.bool (sameL l.ti m.ti)) ∧ Below w.heap.size w w') := fun w hb => sameSl_any _ _ _ _ w (h1.below hb) (h2.below hb)
  clear h1 h2 x1 x2 x3 y1 y2 y3
  unfold sameTB
  generalize sameL l.ti m.ti = b3 at *
  generalize l.ti.length = n1 at *
  generalize m.ti.length = n2 at *
  generalize hb1 : (l.er == m.er) = b1
  generalize hb2 : (l.tv.toList == m.tv.toList) = b2
  generalize hb4 : (l.more == m.more) = b4
  generalize hb5 : (l.nx.toList == m.nx.toList) = b5
  generalize hb6 : (l.tn == m.tn) = b6
  have HC : Hid (∀ w, Below (W.heap.size + 2) ((W.alloc (.cells #[.int .i64 l.er, .string l.tv, .slice A1 n1 k1, .bool l.more, .string l.nx, .int .i64 l.tn] 27)).alloc (.cells #[.int .i64 m.er, .string m.tv, .slice A2 n2 k2, .bool m.more, .string m.nx, .int .i64 m.tn] 27)) w → w.cell? ⟨W.heap.size, 3, none⟩ = some (.bool l.more) ∧ w.cell? ⟨W.heap.size, 4, none⟩ = some (.string l.nx) ∧ w.cell? ⟨W.heap.size, 5, none⟩ = some (.int .i64 l.tn) ∧ w.cell? ⟨W.heap.size + 1, 3, none⟩ = some (.bool m.more) ∧ w.cell? ⟨W.heap.size + 1, 4, none⟩ = some (.string m.nx) ∧ w.cell? ⟨W.heap.size + 1, 5, none⟩ = some (.int .i64 m.tn)) := fun w hb => by
    have q1 : w.heap[W.heap.size]? = some (.cells #[.int .i64 l.er, .string l.tv, .slice A1 n1 k1, .bool l.more, .string l.nx, .int .i64 l.tn] 27) := (hb.block _ (by omega)).trans ((Lib.alloc_old _ _ _ (by simp)).trans (heap_alloc_new W _))
    have q2 : w.heap[W.heap.size + 1]? = some (.cells #[.int .i64 m.er, .string m.tv, .slice A2 n2 k2, .bool m.more, .string m.nx, .int .i64 m.tn] 27) := (hb.block _ (by omega)).trans (by have := heap_alloc_new (W.alloc (.cells #[.int .i64 l.er, .string l.tv, .slice A1 n1 k1, .bool l.more, .string l.nx, .int .i64 l.tn] 27)) (.cells #[.int .i64 m.er, .string m.tv, .slice A2 n2 k2, .bool m.more, .string m.nx, .int .i64 m.tn] 27); simpa using this)
    exact ⟨cell_at q1 rfl, cell_at q1 rfl, cell_at q1 rfl, cell_at q2 rfl, cell_at q2 rfl, cell_at q2 rfl⟩
  go_enter Tryz.func32, Tryz.ntmps32
  go_wp2_with (go_at_call 29; ((with_reducible refine (CS.out _ (((Below.refl W.heap.size W).alloc (Nat.le_refl _) _).alloc (by simp) _)).mono ?_); rintro e w1 ⟨rfl, hb⟩; obtain ⟨c1, c2, c3, c4, c5, c6⟩ := HC.out w1 (by simpa using hb); have HB : Hid (Below W.heap.size W w1) := acc (((Below.refl W.heap.size W).alloc (Nat.le_refl _) _).alloc (by simp) _) hb; clear hb))
  all_goals (first
    | (go_ret; exact ⟨by simp_all, HB.out⟩)
    | (go_ret; exact ⟨by simp_all, ((Below.refl W.heap.size W).alloc (Nat.le_refl _) _).alloc (by simp) _⟩))
def sameLB (l m : LV) : Bool := l.k == m.k && (l.f == m.f && (l.t == m.t && (l.i == m.i && ((l.op == m.op && (l.key.toList == m.key.toList && (l.val.toList == m.val.toList && (l.kto.toList == m.kto.toList && l.most == m.most)))) && (sameTB l m && (((l.af : Int) == m.af && (l.au : Int) == m.au) && (l.ep == m.ep && (sameL l.li m.li && (l.n == m.n && l.nd == m.nd)))))))))
set_option maxRecDepth 20000 in
set_option maxHeartbeats 4000000 in
theorem sameLetter_any (l m : LV) (S1 S2 R1 R2 : Value) (W : World) (h1 : SlAt W S1 l.ti) (h2 : SlAt W S2 l.li) (h3 : SlAt W R1 m.ti) (h4 : SlAt W R2 m.li) :
    Calls Tryz.prog 15 #[.agg (l.cells S1 S2), .agg (m.cells R1 R2)] W fun e w' => e = .returned (.bool (sameLB l m)) ∧ Below W.heap.size W w' := by
  obtain ⟨A1, k1, rfl, x1, x2, x3⟩ := id h1
  obtain ⟨A2, k2, rfl, x4, x5, x6⟩ := id h2
  obtain ⟨A3, k3, rfl, x7, x8, x9⟩ := id h3
  obtain ⟨A4, k4, rfl, y1, y2, y3⟩ := id h4
  have CT : Hid (∀ w, Below W.heap.size W w → Calls Tryz.prog 32 #[.agg #[.int .i64 l.er, .string l.tv, .slice A1 l.ti.length k1, .bool l.more, .string l.nx, .int .i64 l.tn], .agg #[.int .i64 m.er, .string m.tv, .slice A3 m.ti.length k3, .bool m.more, .string m.nx, .int .i64 m.tn]] w fun e w' => e = .returned (.bool (sameTB l m)) ∧ Below w.heap.size w w') := fun w hb => sameTold_any l m _ _ w (h1.below hb) (h3.below hb)
  have CS : Hid (∀ w, Below W.heap.size W w → Calls Tryz.prog 29 #[.slice A2 l.li.length k2, .slice A4 m.li.length k4] w fun e w' => e = .returned (.bool (sameL l.li m.li)) ∧ Below w.heap.size w w') := fun w hb => sameSl_any _ _ _ _ w (h2.below hb) (h4.below hb)
  clear h1 h2 h3 h4 x1 x2 x3 x4 x5 x6 x7 x8 x9 y1 y2 y3
  have BW : Below W.heap.size W ((W.alloc (.cells (l.cells (.slice A1 l.ti.length k1) (.slice A2 l.li.length k2)) 32)).alloc (.cells (m.cells (.slice A3 m.ti.length k3) (.slice A4 m.li.length k4)) 32)) := ((Below.refl W.heap.size W).alloc (Nat.le_refl _) _).alloc (by simp) _
  have HBW := Lib.hid BW
  have HC : Hid (∀ w, Below (W.heap.size + 2) ((W.alloc (.cells (l.cells (.slice A1 l.ti.length k1) (.slice A2 l.li.length k2)) 32)).alloc (.cells (m.cells (.slice A3 m.ti.length k3) (.slice A4 m.li.length k4)) 32)) w → (w.cell? ⟨W.heap.size, 15, none⟩ = some (.int .u64 (l.af : Nat)) ∧ w.cell? ⟨W.heap.size, 16, none⟩ = some (.int .u64 (l.au : Nat)) ∧ w.cell? ⟨W.heap.size, 17, none⟩ = some (.int .i64 l.ep) ∧ w.cell? ⟨W.heap.size, 18, none⟩ = some (.slice A2 l.li.length k2) ∧ w.cell? ⟨W.heap.size, 19, none⟩ = some (.int .i64 l.n) ∧ w.cell? ⟨W.heap.size, 20, none⟩ = some (.int .i64 l.nd)) ∧
      (w.cell? ⟨W.heap.size + 1, 15, none⟩ = some (.int .u64 (m.af : Nat)) ∧ w.cell? ⟨W.heap.size + 1, 16, none⟩ = some (.int .u64 (m.au : Nat)) ∧ w.cell? ⟨W.heap.size + 1, 17, none⟩ = some (.int .i64 m.ep) ∧ w.cell? ⟨W.heap.size + 1, 18, none⟩ = some (.slice A4 m.li.length k4) ∧ w.cell? ⟨W.heap.size + 1, 19, none⟩ = some (.int .i64 m.n) ∧ w.cell? ⟨W.heap.size + 1, 20, none⟩ = some (.int .i64 m.nd))) := fun w hb => by
    have q1 : w.heap[W.heap.size]? = some (.cells (l.cells (.slice A1 l.ti.length k1) (.slice A2 l.li.length k2)) 32) := (hb.block _ (by omega)).trans ((Lib.alloc_old _ _ _ (by simp)).trans (heap_alloc_new W _))
    have q2 : w.heap[W.heap.size + 1]? = some (.cells (m.cells (.slice A3 m.ti.length k3) (.slice A4 m.li.length k4)) 32) := (hb.block _ (by omega)).trans (by have := heap_alloc_new (W.alloc (.cells (l.cells (.slice A1 l.ti.length k1) (.slice A2 l.li.length k2)) 32)) (.cells (m.cells (.slice A3 m.ti.length k3) (.slice A4 m.li.length k4)) 32); simpa using this)
    exact ⟨⟨cell_at q1 rfl, cell_at q1 rfl, cell_at q1 rfl, cell_at q1 rfl, cell_at q1 rfl, cell_at q1 rfl⟩, cell_at q2 rfl, cell_at q2 rfl, cell_at q2 rfl, cell_at q2 rfl, cell_at q2 rfl, cell_at q2 rfl⟩
  unfold sameLB
  generalize hT : sameTB l m = bT at *
  generalize hL : sameL l.li m.li = bL at *
  generalize l.ti.length = n1 at *
  generalize l.li.length = n2 at *
  generalize m.ti.length = n3 at *
  generalize m.li.length = n4 at *
  generalize hb1 : (l.k == m.k) = b1
  generalize hb2 : (l.f == m.f) = b2
  generalize hb3 : (l.t == m.t) = b3
  generalize hb4 : (l.i == m.i) = b4
  generalize ha1 : (l.op == m.op) = d1
  generalize ha2 : (l.key.toList == m.key.toList) = d2
  generalize ha3 : (l.val.toList == m.val.toList) = d3
  generalize ha4 : (l.kto.toList == m.kto.toList) = d4
  generalize ha5 : (l.most == m.most) = d5
  generalize hc1 : ((l.af : Int) == m.af) = e1
  generalize hc2 : ((l.au : Int) == m.au) = e2
  generalize hb6 : (l.ep == m.ep) = b6
  generalize hb7 : (l.n == m.n) = b7
  generalize hb8 : (l.nd == m.nd) = b8
  clear BW hT hL
  dsimp only [LV.cells] at HC HBW ⊢
  go_enter Tryz.func15, Tryz.ntmps15
  go_wp2_with (first
    | (go_at_call 32; ((with_reducible refine (CT.out _ HBW.out).mono ?_); rintro e w1 ⟨rfl, hb⟩; obtain ⟨⟨c1, c2, c3, c4, c5, c6⟩, p1, p2, p3, p4, p5, p6⟩ := HC.out w1 (by simpa using hb); have HB : Hid (Below (W.heap.size + 2) _ w1 ∧ Below W.heap.size W w1) := ⟨(by simpa using hb), acc HBW.out hb⟩; clear hb))
    | (go_at_call 29; ((with_reducible refine (CS.out _ HB.out.2).mono ?_); rintro e w2 ⟨rfl, hb⟩; obtain ⟨⟨r1, r2, r3, r4, r5, r6⟩, s1, s2, s3, s4, s5, s6⟩ := HC.out w2 (HB.out.1.trans (hb.mono (by have := HB.out.1.size; simp at this; omega))); have HB2 : Hid (Below W.heap.size W w2) := acc HB.out.2 hb; clear hb)))
  all_goals (first
    | (go_ret; exact ⟨by simp_all, HB2.out⟩)
    | (go_ret; exact ⟨by simp_all, HB.out.2⟩)
    | (go_ret; exact ⟨by simp_all, HBW.out⟩))
end Go.Proofs.YtbnmddopgbhapaaGreat
