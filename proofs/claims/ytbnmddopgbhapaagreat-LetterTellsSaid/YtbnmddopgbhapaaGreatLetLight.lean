/-
  Light, walked: is a letter small enough?
-/
import Derived.Test.YtbnmddopgbhapaaGreatLetAlive
namespace Go.Proofs.YtbnmddopgbhapaaGreat
open Go.RowKit

def lightI (x : Item) : Bool := !(decide (300 < x.1.size) || decide (300 < x.2.size))
def lightL (l : List Item) : Bool := decide (l.length ≤ 60) && l.all lightI
def lightB (l : LV) : Bool := lightL l.li && (lightL l.ti && (decide (l.key.size ≤ 300) && (decide (l.val.size ≤ 300) && (decide (l.kto.size ≤ 300) && (decide (l.tv.size ≤ 300) && decide (l.nx.size ≤ 300))))))
theorem all_not {l : List Item} {j : Nat} (h : j < l.length) (hx : lightI (l[j]) = false) : l.all lightI = false := by
  cases ha : l.all lightI with
  | false => rfl
  | true => rw [List.all_eq_true.1 ha _ (List.getElem_mem h)] at hx; cases hx
theorem all_yes {l : List Item} (h : ∀ j (hj : j < l.length), lightI (l[j]) = true) : l.all lightI = true :=
  List.all_eq_true.2 fun x hx => by obtain ⟨j, hj, rfl⟩ := List.getElem_of_mem hx; exact h j hj
theorem light_false {l : LV} {i : Nat} (hi : i < 2) (h : lightL (if i = 0 then l.li else l.ti) = false) : lightB l = false := by
  have hc : i = 0 ∨ i = 1 := by omega
  rcases hc with rfl | rfl
  · rw [if_pos rfl] at h
    rw [lightB, h]; rfl
  · rw [if_neg (by decide)] at h
    rw [lightB, h, Bool.false_and, Bool.and_false]
set_option maxRecDepth 20000 in
set_option maxHeartbeats 4000000 in
theorem light_any (l : LV) (S1 S2 : Value) (W : World) (hF : l.Fine) (h1 : SlAt W S1 l.ti) (h2 : SlAt W S2 l.li) :
    Calls Tryz.prog 4 #[.agg (l.cells S1 S2)] W fun e w' => e = .returned (.bool (lightB l)) ∧ Below W.heap.size W w' := by
  obtain ⟨A1, k1, rfl, x1, x2, x3⟩ := h1
  obtain ⟨A2, k2, rfl, x4, x5, x6⟩ := h2
  have BW : Below W.heap.size W ((W.alloc (.cells (l.cells (.slice A1 l.ti.length k1) (.slice A2 l.li.length k2)) 32)).alloc (.cells #[.slice A2 l.li.length k2, .slice A1 l.ti.length k1] 25)) := ((Below.refl _ _).alloc (Nat.le_refl _) _).alloc (by simp) _
  have hrow : ((W.alloc (.cells (l.cells (.slice A1 l.ti.length k1) (.slice A2 l.li.length k2)) 32)).alloc (.cells #[.slice A2 l.li.length k2, .slice A1 l.ti.length k1] 25)).heap[W.heap.size + 1]? = some (.cells #[.slice A2 l.li.length k2, .slice A1 l.ti.length k1] 25) := by
    have := heap_alloc_new (W.alloc (.cells (l.cells (.slice A1 l.ti.length k1) (.slice A2 l.li.length k2)) 32)) (.cells #[.slice A2 l.li.length k2, .slice A1 l.ti.length k1] 25)
    simpa using this
  have hlet : ((W.alloc (.cells (l.cells (.slice A1 l.ti.length k1) (.slice A2 l.li.length k2)) 32)).alloc (.cells #[.slice A2 l.li.length k2, .slice A1 l.ti.length k1] 25)).heap[W.heap.size]? = some (.cells (l.cells (.slice A1 l.ti.length k1) (.slice A2 l.li.length k2)) 32) := (Lib.alloc_old _ _ _ (by simp)).trans (heap_alloc_new W _)
  have HL : Hid (∀ w, w = ((W.alloc (.cells (l.cells (.slice A1 l.ti.length k1) (.slice A2 l.li.length k2)) 32)).alloc (.cells #[.slice A2 l.li.length k2, .slice A1 l.ti.length k1] 25)) → Below W.heap.size W w ∧ (∀ i, i < 2 → ∃ A c ls, w.cell? ⟨W.heap.size + 1, i, none⟩ = some (.slice A ls.length c) ∧ ItsAt w A ls ∧ itemsB ls ∧ ls = (if i = 0 then l.li else l.ti)) ∧
      (w.cell? ⟨W.heap.size, 5, none⟩ = some (.string l.key) ∧ w.cell? ⟨W.heap.size, 6, none⟩ = some (.string l.val) ∧ w.cell? ⟨W.heap.size, 7, none⟩ = some (.string l.kto) ∧ w.cell? ⟨W.heap.size, 10, none⟩ = some (.string l.tv) ∧ w.cell? ⟨W.heap.size, 13, none⟩ = some (.string l.nx))) := fun w hw => by
    subst hw
    refine ⟨BW, fun i hi => ?_, cell_at hlet rfl, cell_at hlet rfl, cell_at hlet rfl, cell_at hlet rfl, cell_at hlet rfl⟩
    have hc : i = 0 ∨ i = 1 := by omega
    rcases hc with rfl | rfl
    · exact ⟨A2, k2, l.li, cell_at hrow rfl, x6.below BW, hF.liB, rfl⟩
    · exact ⟨A1, k1, l.ti, cell_at hrow rfl, x3.below BW, hF.tiB, rfl⟩
  have HFF : Hid (l.key.size ≤ 9223372036854775807 ∧ l.val.size ≤ 9223372036854775807 ∧ l.kto.size ≤ 9223372036854775807 ∧ l.tv.size ≤ 9223372036854775807 ∧ l.nx.size ≤ 9223372036854775807) := ⟨hF.keyB, hF.valB, hF.ktoB, hF.tvB, hF.nxB⟩
  clear BW hrow hlet hF x1 x2 x3 x4 x5 x6
  go_enter Tryz.func4, Tryz.ntmps4
  go_wp2
  go_loopg [13] 3 (fun z s13 wx => ∃ (i : Nat), i + z = 3 ∧ i ≤ 2 ∧ s13 = .int .i64 (i : Nat) ∧ Hid (∀ q, q < i → lightL (if q = 0 then l.li else l.ti) = true) ∧ wx = ((W.alloc (.cells (l.cells (.slice A1 l.ti.length k1) (.slice A2 l.li.length k2)) 32)).alloc (.cells #[.slice A2 l.li.length k2, .slice A1 l.ti.length k1] 25)))
  case atStart => exact ⟨0, by omega, by omega, rfl, fun q hq => absurd hq (Nat.not_lt_zero _), rfl⟩
  case round =>
    obtain ⟨i, hiz, hi2, rfl, HS, hwx⟩ := hrel
    obtain ⟨hbel, hsl, c1, c2, c3, c4, c5⟩ := HL.out wr hwx
    have HB := Lib.hid hbel
    have HWX := Lib.hid hwx
    obtain ⟨wo, rfl⟩ : ∃ wo : World, wo = wr := ⟨_, rfl⟩
    obtain ⟨go, rfl⟩ : ∃ go : Nat, go = gk := ⟨_, rfl⟩
    clear hwx hbel
    by_cases hi : i < 2
    · obtain ⟨A, c, ls, hc, hA, hlb, hls⟩ := hsl i hi
      have b0 : decide ((i : Int) < 2) = true := by simp; omega
      have HA := Lib.hid hA
      have HLB := Lib.hid hlb
      have HLS := Lib.hid hls
      obtain ⟨n, hn⟩ : ∃ n, ls.length = n := ⟨_, rfl⟩
      have HN := Lib.hid hn
      have hn0 := hlb.1
      rw [hn] at hc hn0
      clear hsl hA hlb hls hn c1 c2 c3 c4 c5
      by_cases h60 : n ≤ 60
      · have b1 : decide ((60 : Int) < (n : Int)) = false := by simp; omega
        go_wp2
        go_loopg [5] (n + 1) (fun z s5 wx => ∃ (j : Nat), j + z = n + 1 ∧ j ≤ n ∧ s5 = .int .i64 (j : Nat) ∧ Hid (∀ q (h : q < ls.length), q < j → lightI (ls[q]) = true) ∧ wx = wo)
        case atStart => exact ⟨0, by omega, by omega, rfl, fun q _ hq => absurd hq (Nat.not_lt_zero _), rfl⟩
        case round =>
          obtain ⟨j, hjz, hjn, rfl, HT, rfl⟩ := hrel
          by_cases hlt : j < n
          · obtain ⟨b, off, hAt⟩ := HA.out
            have hjl : j < ls.length := by rw [HN.out]; exact hlt
            obtain ⟨eA, -, y0, y1⟩ := hAt j hjl
            subst eA
            have hx := HLB.out.2 (ls[j]) (List.getElem_mem _)
            have HX : Hid (lightI (ls[j]) = !(decide (300 < (ls[j]).1.size) || decide (300 < (ls[j]).2.size))) := rfl
            generalize (ls[j]).1 = u at *
            generalize (ls[j]).2 = v at *
            have hu := hx.1
            have hv := hx.2
            have bj : decide ((j : Int) < (n : Int)) = true := by simp; omega
            clear hAt hx
            by_cases hu3 : 300 < u.size
            · have d1 : decide ((300 : Int) < (u.size : Int)) = true := by simp; omega
              have HF0 : Hid (lightL ls = false) := by
                show _ = _
                rw [lightL, all_not hjl (by rw [HX.out, decide_eq_true hu3]; rfl), Bool.and_false]
              clear hu hv
              go_wp2
              go_ret
              exact ⟨by rw [light_false hi (by rw [← HLS.out]; exact HF0.out)]; rfl, HB.out⟩
            · have d1 : decide ((300 : Int) < (u.size : Int)) = false := by simp; omega
              by_cases hv3 : 300 < v.size
              · have d2 : decide ((300 : Int) < (v.size : Int)) = true := by simp; omega
                have HF0 : Hid (lightL ls = false) := by
                  show _ = _
                  rw [lightL, all_not hjl (by rw [HX.out, decide_eq_true hv3, Bool.or_true]; rfl), Bool.and_false]
                clear hu hv
                go_wp2
                go_ret
                exact ⟨by rw [light_false hi (by rw [← HLS.out]; exact HF0.out)]; rfl, HB.out⟩
              · have d2 : decide ((300 : Int) < (v.size : Int)) = false := by simp; omega
                have HY : Hid (lightI (ls[j]) = true) := by
                  show _ = _
                  rw [HX.out, decide_eq_false hu3, decide_eq_false hv3]; rfl
                clear hu hv
                go_wp2
                go_roundg (gk - 1)
                case measure => omega
                case rel =>
                  refine ⟨j + 1, by omega, by omega, by go_num, fun q h hq => ?_, rfl⟩
                  rcases Nat.lt_succ_iff_lt_or_eq.1 hq with hq | rfl
                  · exact HT.out q h hq
                  · exact HY.out
          · have bj : decide ((j : Int) < (n : Int)) = false := by simp; omega
            have HY : Hid (lightL ls = true) := by
              show _ = _
              have hN := HN.out
              rw [lightL, all_yes (fun q hq => HT.out q hq (by omega)), decide_eq_true (by omega)]; rfl
            go_wp2
            go_roundg (go - 1)
            case measure => omega
            case rel =>
              refine ⟨i + 1, by omega, by omega, by go_num, fun q hq => ?_, HWX.out⟩
              rcases Nat.lt_succ_iff_lt_or_eq.1 hq with hq | rfl
              · exact HS.out q hq
              · rw [← HLS.out]; exact HY.out
      · have b1 : decide ((60 : Int) < (n : Int)) = true := by simp; omega
        have HF0 : Hid (lightL ls = false) := by
          show _ = _
          rw [lightL, HN.out, decide_eq_false h60]; rfl
        go_wp2
        go_ret
        exact ⟨by rw [light_false hi (by rw [← HLS.out]; exact HF0.out)]; rfl, HB.out⟩
    · obtain rfl : i = 2 := by omega
      have e0 := HS.out 0 (by decide)
      have e1 := HS.out 1 (by decide)
      rw [if_pos rfl] at e0
      rw [if_neg (by decide)] at e1
      obtain ⟨q1, hq1⟩ : ∃ q, decide (l.key.size ≤ 300) = q := ⟨_, rfl⟩
      obtain ⟨q2, hq2⟩ : ∃ q, decide (l.val.size ≤ 300) = q := ⟨_, rfl⟩
      obtain ⟨q3, hq3⟩ : ∃ q, decide (l.kto.size ≤ 300) = q := ⟨_, rfl⟩
      obtain ⟨q4, hq4⟩ : ∃ q, decide (l.tv.size ≤ 300) = q := ⟨_, rfl⟩
      obtain ⟨q5, hq5⟩ : ∃ q, decide (l.nx.size ≤ 300) = q := ⟨_, rfl⟩
      have HE : Hid (lightB l = (q1 && (q2 && (q3 && (q4 && q5))))) := by
        show _ = _
        rw [lightB, e0, e1, hq1, hq2, hq3, hq4, hq5]; rfl
      obtain ⟨m1, m2, m3, m4, m5⟩ := HFF.out
      clear e0 e1 hsl
      have f1 : decide ((l.key.size : Int) ≤ 300) = q1 := by rw [← hq1]; exact decide_eq_decide.2 (by omega)
      have f2 : decide ((l.val.size : Int) ≤ 300) = q2 := by rw [← hq2]; exact decide_eq_decide.2 (by omega)
      have f3 : decide ((l.kto.size : Int) ≤ 300) = q3 := by rw [← hq3]; exact decide_eq_decide.2 (by omega)
      have f4 : decide ((l.tv.size : Int) ≤ 300) = q4 := by rw [← hq4]; exact decide_eq_decide.2 (by omega)
      have f5 : decide ((l.nx.size : Int) ≤ 300) = q5 := by rw [← hq5]; exact decide_eq_decide.2 (by omega)
      clear hq1 hq2 hq3 hq4 hq5
      have b2 : decide (((2 : Nat) : Int) < 2) = false := by decide
      go_wp2
      all_goals (go_ret; exact ⟨by rw [HE.out]; simp_all, HB.out⟩)
end Go.Proofs.YtbnmddopgbhapaaGreat
