/-
  The walks of the book of lists: putItems.
-/
import Derived.Test.YtinkkdhlakfooaaBook
import Derived.RegionTactic
namespace Go.Proofs.Ytinkkdhlakfooaa
open Go.RowKit

/-- the lists that the book at block g keeps, without the copies -/
structure BL (W : World) (g : Nat) (va : Value) (es : List (Value × List Item)) : Prop where
  lt : g < W.heap.size
  none : ∀ j, j < 14 → j ≠ 6 → j ≠ 7 → W.cell? ⟨g, j, .none⟩ = some (.slice .none 0 0)
  c6 : W.cell? ⟨g, 6, .none⟩ = some va
  own6 : W.ownsRow 0 49 1 va es.length (es.map (·.1))
  rows : ∀ x ∈ es, rowOk W x
  apart : (g :: (blk va ++ fps es)).Nodup
theorem BK.lists {W : World} {g : Nat} {va vb : Value} {es us : List (Value × List Item)} (h : BK W g va vb es us) : BL W g va es :=
  ⟨h.lt, h.none, h.c6, h.own6, h.rows, List.nodup_cons.2 ⟨fun hq => by rcases List.mem_append.1 hq with h1 | h1; exact h.ga h1; exact h.ge h1,
    List.nodup_append.2 ⟨blk_nodup _, (List.nodup_append.1 (List.nodup_append.1 (List.nodup_cons.1 h.apart).2).2.1).2.1, fun a ha b hb e => (h.ab a ha).2 (e ▸ hb)⟩⟩⟩
theorem BL.ga {W : World} {g : Nat} {va : Value} {es : List (Value × List Item)} (h : BL W g va es) : g ∉ blk va := fun hq => (List.nodup_cons.1 h.apart).1 (by simp [hq])
theorem BL.ge {W : World} {g : Nat} {va : Value} {es : List (Value × List Item)} (h : BL W g va es) : g ∉ fps es := fun hq => (List.nodup_cons.1 h.apart).1 (by simp [hq])
theorem BL.ae {W : World} {g : Nat} {va : Value} {es : List (Value × List Item)} (h : BL W g va es) : ∀ q, q ∈ blk va → q ∉ fps es := fun q hq hb => (List.nodup_append.1 (List.nodup_cons.1 h.apart).2).2.2 q hq q hb rfl
/-- the same slices, whatever is in them -/
theorem fps_congr {es fs : List (Value × List Item)} (h : fs.map (·.1) = es.map (·.1)) : fps fs = fps es := by
  have e : ∀ l : List (Value × List Item), fps l = (l.map (·.1)).flatMap blk := fun l => by simp [fps, List.flatMap_map]
  rw [e, e, h]
theorem fps_at {es : List (Value × List Item)} {i : Nat} (h : i < es.length) {q : Nat} (hq : q ∈ blk (es[i]).1) : q ∈ fps es := mem_fps.2 ⟨_, List.getElem_mem h, hq⟩
/-- two lists of the book lie apart -/
theorem fps_apart : ∀ {es : List (Value × List Item)} (_ : (fps es).Nodup) {i j : Nat} (hi : i < es.length) (hj : j < es.length) (_ : i ≠ j) {q : Nat}, q ∈ blk (es[i]).1 → q ∉ blk (es[j]).1
  | x :: es, hd, 0, 0, _, _, hne, _, _ => absurd rfl hne
  | x :: es, hd, 0, j + 1, _, hj, _, q, hq => fun h => by
    have := (List.nodup_append.1 (show (blk x.1 ++ fps es).Nodup from hd)).2.2 q hq q (fps_at (es := es) (by simpa using hj) h) rfl
    exact this
  | x :: es, hd, i + 1, 0, hi, _, _, q, hq => fun h => by
    have := (List.nodup_append.1 (show (blk x.1 ++ fps es).Nodup from hd)).2.2 q h q (fps_at (es := es) (by simpa using hi) hq) rfl
    exact this
  | x :: es, hd, i + 1, j + 1, hi, hj, hne, q, hq => fps_apart (es := es) (List.nodup_append.1 (show (blk x.1 ++ fps es).Nodup from hd)).2.1 (by simpa using hi) (by simpa using hj) (by omega) hq
/-- list i has turned, nothing else -/
theorem BL.turn {W W1 : World} {g : Nat} {va : Value} {es : List (Value × List Item)} {i : Nat} (h : BL W g va es) (hi : i < es.length) (ht : Touch (blk (es[i]).1) W W1) {l : List Item} (hr : rowOk W1 ((es[i]).1, l)) :
    BL W1 g va (es.set i ((es[i]).1, l)) := by
  have hm : (es.set i ((es[i]).1, l)).map (·.1) = es.map (·.1) := by
    rw [List.map_set]
    apply List.ext_getElem?
    intro j
    rw [List.getElem?_set]
    split
    · rename_i e; subst e; simp [hi]
    · rfl
  have hn : ∀ q ∈ blk (es[i]).1, q ∈ fps es := fun q hq => fps_at hi hq
  have hg : g ∉ blk (es[i]).1 := fun hq => h.ge (hn g hq)
  refine ⟨Nat.lt_of_lt_of_le h.lt ht.size, fun j a b c => (ht.cell (p := ⟨g, j, .none⟩) h.lt hg).trans (h.none j a b c), (ht.cell (p := ⟨g, 6, .none⟩) h.lt hg).trans h.c6, ?_, ?_, by rw [fps_congr hm]; exact h.apart⟩
  · rw [hm, List.length_set]
    exact ht.row h.own6 (fun q hq hb => h.ae q (mem_blk.2 hq) (hn q hb))
  · intro x hx
    obtain ⟨j, hj, e⟩ := List.getElem_of_mem hx
    rw [List.getElem_set] at e
    split at e
    · rw [← e]; exact hr
    · rename_i hne
      have hj' : j < es.length := by simpa using hj
      rw [← e]
      refine (h.rows _ (List.getElem_mem hj')).touch ht (fun q hq hb => ?_)
      exact fps_apart (List.nodup_append.1 (List.nodup_cons.1 h.apart).2).2.1 hj' hi (by omega) hq hb
theorem itemCells_set : ∀ (l : List Item) (k : Nat) (a b : ByteArray), k < l.length → ((itemCells l).set (k * 2) (.string a)).set (k * 2 + 1) (.string b) = itemCells (l.set k (a, b))
  | x :: l, 0, a, b, _ => rfl
  | x :: l, k + 1, a, b, h => by
    rw [show (k + 1) * 2 = k * 2 + 1 + 1 by omega, itemCells_cons, List.set_cons_succ, List.set_cons_succ, List.set_cons_succ, List.set_cons_succ, itemCells_set l k a b (by simpa using h), List.set_cons_succ, itemCells_cons]

def markTo (i : Nat) (es : List (Value × List Item)) : List (Value × List Item) := es.mapIdx fun j x => if j < i then (x.1, markL j 0 x.2.length) else x
theorem markTo_length (i : Nat) (es : List (Value × List Item)) : (markTo i es).length = es.length := by simp [markTo]
theorem markTo_zero (es : List (Value × List Item)) : markTo 0 es = es := by
  apply List.ext_getElem (by simp [markTo])
  intro j h1 h2
  simp [markTo]
theorem markTo_at (i : Nat) (es : List (Value × List Item)) (j : Nat) (h : j < (markTo i es).length) (h2 : j < es.length) : (markTo i es)[j] = if j < i then ((es[j]).1, markL j 0 (es[j]).2.length) else es[j] := by simp [markTo]
theorem markTo_succ (i : Nat) (es : List (Value × List Item)) (h : i < es.length) : markTo (i + 1) es = (markTo i es).set i ((es[i]).1, markL i 0 (es[i]).2.length) := by
  apply List.ext_getElem (by simp [markTo])
  intro j h1 h2
  have h3 : j < es.length := by simpa [markTo] using h1
  rw [markTo_at _ _ _ _ h3, List.getElem_set]
  by_cases e : i = j
  · subst e; rw [if_pos (by omega), if_pos rfl]
  · rw [if_neg e, markTo_at _ _ _ _ h3]
    by_cases h4 : j < i
    · rw [if_pos (by omega), if_pos h4]
    · rw [if_neg (by omega), if_neg h4]
theorem markTo_fps (i : Nat) (es : List (Value × List Item)) : fps (markTo i es) = fps es := by
  apply fps_congr
  apply List.ext_getElem (by simp [markTo])
  intro j h1 h2
  have h3 : j < es.length := by simpa using h2
  rw [List.getElem_map, List.getElem_map, markTo_at _ _ _ _ h3]
  split <;> rfl
/-- the first k of the marks, the rest as it was -/
def mixL (a l : List Item) (k : Nat) : List Item := a.take k ++ l.drop k
theorem mixL_zero (a l : List Item) : mixL a l 0 = l := by simp [mixL]
theorem mixL_all (a l : List Item) (h : a.length = l.length) : mixL a l l.length = a := by
  rw [mixL, List.drop_length, List.append_nil, ← h, List.take_length]
theorem mixL_length (a l : List Item) (h : a.length = l.length) (k : Nat) (hk : k ≤ l.length) : (mixL a l k).length = l.length := by simp [mixL]; omega
theorem mixL_set (a l : List Item) (h : a.length = l.length) (k : Nat) (hk : k < l.length) : (mixL a l k).set k (a[k]'(by omega)) = mixL a l (k + 1) := by
  rw [mixL, mixL, List.set_append_right _ _ (by rw [List.length_take]; omega), List.length_take, Nat.min_eq_left (by omega), Nat.sub_self, List.drop_eq_getElem_cons hk, List.set_cons_zero,
    List.take_succ_eq_append_getElem (show k < a.length by omega), List.append_assoc]
  rfl

theorem own_at {W : World} {base e size c n : Nat} {A : Option Addr} {xs : List Value} (h : W.ownsRow base e size (.slice A n c) n xs) (hn : 1 ≤ n) : ∃ q, A = some ⟨q, 0, none⟩ := by
  rcases h.2 with ⟨_, h1⟩ | ⟨g, cap, cur, h0, _⟩
  · omega
  · injection h0 with h1 _ _
    exact ⟨g, h1⟩
def NewMarks (W : World) (i m : Nat) (e : Ending) (w' : World) : Prop :=
  ∃ A c, e = .returned (.slice A m c) ∧ w'.ownsRow W.heap.size 53 2 (.slice A m c) m (itemCells (markL i 0 m)) ∧ Below W.heap.size W w'
theorem NewItems.marks {W w' : World} {i m : Nat} {e : Ending} (h : NewItems W (markL i 0 m) e w') : NewMarks W i m e w' := by
  obtain ⟨A, c, h1, h2, h3⟩ := h
  rw [markL_length] at h1 h2
  exact ⟨A, c, h1, h2, h3⟩

set_option maxRecDepth 100000 in
set_option maxHeartbeats 4000000 in
theorem putItems_any (g : Nat) (va : Value) (es : List (Value × List Item)) (W : World) (hB : BL W g va es) (he : es.length ≤ 250) (hl : ∀ x ∈ es, x.2.length ≤ 100000) :
    Calls Try.prog 52 #[.pointer (some ⟨g, 0, none⟩)] W fun e w' => e = .returned (.tuple #[]) ∧ BL w' g va (markTo es.length es) ∧ Touch (fps es) W w' := by
  obtain ⟨A6, d6, rfl⟩ := own_slice hB.own6
  have HB := Lib.hid hB
  have HL := Lib.hid hl
  obtain ⟨n, hn⟩ : ∃ n, es.length = n := ⟨_, rfl⟩
  have HN := Lib.hid hn
  rw [hn] at he
  clear hB hn hl
  go_enter Try.func52, Try.ntmps52
  go_wp2
  go_loopg [2] (n + 1) (fun gh s2 wx => ∃ (i : Nat), i + gh = n + 1 ∧ i ≤ n ∧ s2 = .int .i64 i ∧ Hid (BL wx g (.slice A6 es.length d6) (markTo i es)) ∧ Hid (Touch (fps es) W wx))
  case atStart => exact ⟨0, by omega, by omega, rfl, by rw [markTo_zero]; exact HB, Touch.refl _ _⟩
  case round =>
    obtain ⟨i, hig, hi, rfl, HBi, HT⟩ := hrel
    have c6 := HBi.out.c6
    rw [HN.out] at c6
    by_cases hlt : i < n
    · have h1 : i < es.length := by rw [HN.out]; exact hlt
      have h2 : i < (markTo i es).length := by rw [markTo_length]; exact h1
      have hx : (markTo i es)[i] = es[i] := by rw [markTo_at _ _ _ h2 h1, if_neg (by omega)]
      have hrow := HBi.out.rows _ (List.getElem_mem h2)
      have o6 := HBi.out.own6
      obtain ⟨q6, rfl⟩ := own_block HB.out.own6 (by omega)
      have p6 : wr.cell? ⟨q6, i, none⟩ = some (es[i]).1 := by
        rw [markTo_length] at o6
        exact (o6.cellAt i (by omega)).trans ((fst_at (markTo i es) i h2).trans (by rw [hx]))
      have hlen := HL.out _ (List.getElem_mem h1)
      rw [hx] at hrow
      obtain ⟨A, c, e1, r1⟩ := hrow
      have HE := Lib.hid e1
      rw [e1] at p6 r1
      have HR := Lib.hid r1
      obtain ⟨m, hm⟩ : ∃ m, (es[i]).2.length = m := ⟨_, rfl⟩
      have HM := Lib.hid hm
      rw [hm] at p6 hlen
      have CM : Hid (∀ W1, Calls Try.prog 87 #[.int .i64 (i : Nat), .int .i64 0, .int .i64 (m : Nat)] W1 (NewMarks W1 i m)) := fun W1 => (markItems_any i 0 m W1 (by omega) (by omega) hlen).mono fun _ _ h => h.marks
      clear o6 hx e1 r1 hm
      go_wp2_with (go_at_call 87; (with_reducible refine (CM.out _).mono ?_); rintro e w1 ⟨Am, cm, rfl, hown1, hb1⟩; have HB1 := Lib.hid hb1; have HO1 := Lib.hid hown1; clear hb1 hown1)
      obtain ⟨gz, rfl⟩ : ∃ gz : Nat, gz = gk := ⟨_, rfl⟩
      obtain ⟨wo, rfl⟩ : ∃ wo : World, wo = wr := ⟨_, rfl⟩
      have hgi : g ∉ blk (.slice A m c) := by
        have h := fun hq => HBi.out.ge (fps_at h2 hq)
        rw [markTo_at _ _ _ h2 h1, if_neg (by omega), HE.out, HM.out] at h
        exact h
      have h6i : q6 ∉ blk (.slice A m c) := by
        have h := fun hq => HBi.out.ae q6 (by simp [blk, Value.ownBlock]) (fps_at h2 hq)
        rw [markTo_at _ _ _ h2 h1, if_neg (by omega), HE.out, HM.out] at h
        exact h
      have HR' : Hid (wo.ownsRow 0 53 2 (.slice A m c) m (itemCells (es[i]).2)) := by
        have h := HR.out
        rw [Row, HM.out] at h
        exact h
      have HP := Lib.hid (And.intro c6 p6)
      have HgW := Lib.hid HBi.out.lt
      have Hq6 : Hid (q6 < wo.heap.size) := row_lt HBi.out.own6 (by simp [blk, Value.ownBlock])
      clear c6 p6
      go_loopg [4] (m + 1) (fun gh s4 wx => ∃ (k : Nat), k + gh = m + 1 ∧ k ≤ m ∧ s4 = .int .i64 k ∧ Hid (wx.ownsRow 0 53 2 (.slice A m c) m (itemCells (mixL (markL i 0 m) (es[i]).2 k))) ∧ Hid (Touch (blk (.slice A m c)) w1 wx))
      case atStart => exact ⟨0, by omega, by omega, rfl, by rw [mixL_zero]; exact (Touch.ofBelow (F := []) HB1.out).row HR'.out (by simp), Touch.refl _ _⟩
      case round =>
        obtain ⟨k, hkg, hk, rfl, HX, HTk⟩ := hrel
        have HTo : Hid (Touch (blk (.slice A m c)) wo wr) := (Touch.ofBelow HB1.out).trans HTk.out (fun x hx => .inl hx)
        by_cases hkm : k < m
        · obtain ⟨qi, rfl⟩ := own_at HX.out (by omega)
          obtain ⟨qm, rfl⟩ := own_at HO1.out (by omega)
          have c6 := (HTo.out.cell (p := ⟨g, 6, none⟩) HgW.out hgi).trans HP.out.1
          have p6 := (HTo.out.cell (p := ⟨q6, i, none⟩) Hq6.out h6i).trans HP.out.2
          have hqm : ∀ q, Value.ownBlock (.slice (some ⟨qm, 0, none⟩) m cm) = some q → q ∉ blk (.slice (some ⟨qi, 0, none⟩) m c) := fun q hq hb => by
            have z1 := (HO1.out.lt q hq).1
            have z2 := row_lt HR'.out hb
            omega
          have om := HTk.out.row HO1.out hqm
          have hml : k < (markL i 0 m).length := by rw [markL_length]; exact hkm
          have m0 := (om.cellAt (k * 2) (by omega)).trans (itemCells_get0 (markL i 0 m) k hml)
          have m1 := (om.cellAt (k * 2 + 1) (by omega)).trans (itemCells_get1 (markL i 0 m) k hml)
          have hmx : (mixL (markL i 0 m) (es[i]).2 k).length = m := by rw [mixL_length _ _ (by rw [markL_length, HM.out]) k (by rw [HM.out]; exact hk), HM.out]
          have hkx : k < (mixL (markL i 0 m) (es[i]).2 k).length := by rw [hmx]; exact hkm
          have d0 := (HX.out.cellAt (k * 2) (by omega)).trans (itemCells_get0 _ k hkx)
          have d1 := (HX.out.cellAt (k * 2 + 1) (by omega)).trans (itemCells_get1 _ k hkx)
          have z0 := HX.out.frozenAt (k * 2)
          have z1 := HX.out.frozenAt (k * 2 + 1)
          have hset := mixL_set (markL i 0 m) (es[i]).2 (by rw [markL_length, HM.out]) k (by rw [HM.out]; exact hkm)
          generalize (markL i 0 m)[k] = xy at *
          generalize (mixL (markL i 0 m) (es[i]).2 k)[k] = uv at *
          obtain ⟨x, y⟩ := xy
          obtain ⟨u, v⟩ := uv
          have HST := Lib.hid hset
          have HKX := Lib.hid hkx
          clear hset hqm om hml hmx hkx
          go_upto_region 7 with fail
          go_region
          all_goals
            go_wp2
            go_roundg (gk - 1)
            case measure => omega
            case rel =>
              refine ⟨k + 1, by omega, by omega, by go_num, ?_, ((HTk.out.set (.inl (by simp [blk, Value.ownBlock])) _).set (.inl (by simp [blk, Value.ownBlock])) _).drew⟩
              have h9 := ((HX.out.stored (k * 2) (.string x)).1.stored (k * 2 + 1) (.string y)).1
              rw [itemCells_set _ k x y HKX.out, HST.out] at h9
              exact h9
        · obtain rfl : k = m := by omega
          have hmix : mixL (markL i 0 k) (es[i]).2 k = markL i 0 k := by
            have h := mixL_all (markL i 0 k) (es[i]).2 (by rw [markL_length, HM.out])
            rw [HM.out] at h
            exact h
          have hXf := HX.out
          rw [hmix] at hXf
          have hxi : (markTo i es)[i] = es[i] := by rw [markTo_at _ _ _ h2 h1, if_neg (by omega)]
          have HF := Lib.hid (HBi.out.turn (i := i) h2 (W1 := wr) (by rw [hxi, HE.out, HM.out]; exact HTo.out) (l := markL i 0 k) (by
            rw [hxi, HE.out, HM.out]
            exact ⟨A, c, by rw [markL_length], by rw [Row, markL_length]; exact hXf⟩))
          have HTT : Hid (Touch (fps es) W wr) := HT.out.trans HTo.out (fun x hx => by
            refine .inl (fps_at h1 ?_)
            rw [HE.out, HM.out]
            exact hx)
          have HMS := Lib.hid (markTo_succ i es h1)
          have HX0 := Lib.hid hxi
          clear hmix hXf hxi
          go_wp2
          go_roundg (gz - 1)
          case measure => omega
          case rel =>
            refine ⟨i + 1, by omega, by omega, by go_num, ?_, HTT⟩
            have h9 := HF.out
            rw [HX0.out] at h9
            show BL _ _ _ _
            rw [HMS.out, HM.out]
            exact h9
    · obtain rfl : i = n := by omega
      go_wp2
      go_end0
      exact ⟨rfl, by have h := HBi.out; rw [← HN.out] at h; exact h, HT.out⟩
end Go.Proofs.Ytinkkdhlakfooaa
