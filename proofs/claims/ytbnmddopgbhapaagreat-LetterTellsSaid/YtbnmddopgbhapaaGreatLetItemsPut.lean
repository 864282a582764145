/-
  Package letter's lists of items, walked: what such a field tells of its bytes.
-/
import Derived.Test.YtbnmddopgbhapaaGreatLetFormsA
import Derived.Test.YtbnmddopgbhapaaGreatLetLV
import Derived.Test.YtbnmddopgbhapaaGreatBookItems
namespace Go.Proofs.YtbnmddopgbhapaaGreat
open Go.RowKit

def PutsAll (W : World) : List Value → List (Option ByteArray) → Prop
  | [], [] => True
  | f :: fs, o :: os => PutsTo W f o ∧ PutsAll W fs os
  | _, _ => False
theorem PutsAll.below {W W1 : World} (hb : Below W.heap.size W W1) : ∀ {fs : List Value} {os : List (Option ByteArray)}, PutsAll W fs os → PutsAll W1 fs os
  | [], [], _ => trivial
  | [], _ :: _, h => h.elim
  | _ :: _, [], h => h.elim
  | _ :: _, _ :: _, h => ⟨h.1.below hb, PutsAll.below hb h.2⟩
theorem PutsAll.append {W : World} {gs : List Value} {ps : List (Option ByteArray)} (hg : PutsAll W gs ps) : ∀ {fs : List Value} {os : List (Option ByteArray)}, PutsAll W fs os → PutsAll W (fs ++ gs) (os ++ ps)
  | [], [], _ => hg
  | [], _ :: _, h => h.elim
  | _ :: _, [], h => h.elim
  | _ :: _, _ :: _, h => ⟨h.1, PutsAll.append hg h.2⟩
theorem PutsAll.len {W : World} : ∀ {fs : List Value} {os : List (Option ByteArray)}, PutsAll W fs os → os.length = fs.length
  | [], [], _ => rfl
  | [], _ :: _, h => h.elim
  | _ :: _, [], h => h.elim
  | _ :: _, _ :: _, h => by simp [PutsAll.len h.2]
theorem PutsAll.at_ {W : World} : ∀ {fs : List Value} {os : List (Option ByteArray)}, PutsAll W fs os → ∀ k (h : k < fs.length) (h2 : k < os.length), PutsTo W (fs[k]) (os[k])
  | [], [], _, k, h, _ => absurd h (Nat.not_lt_zero _)
  | [], _ :: _, h, _, _, _ => h.elim
  | _ :: _, [], h, _, _, _ => h.elim
  | _ :: _, _ :: _, h, 0, _, _ => h.1
  | _ :: fs, _ :: os, h, k + 1, h1, h2 => PutsAll.at_ h.2 k (by simpa using h1) (by simpa using h2)
theorem fieldsAt_own {W : World} {base n c : Nat} {A : Option Addr} {fs : List Value} (h : W.ownsRow base 95 1 (.slice A n c) n fs) : FieldsAt W A fs ∧ fs.length = n := by
  have hl : fs.length = n := by have := h.1; simpa using this
  refine ⟨?_, hl⟩
  rcases h.2 with ⟨h0, h1⟩ | ⟨g, cap, cur, h0, hg, hh, _⟩
  · exact ⟨0, 0, fun i hi => by omega⟩
  · injection h0 with h1 _ _
    subst h1
    have hlt : g < W.heap.size := by
      rcases Nat.lt_or_ge g W.heap.size with h' | h'
      · exact h'
      · simp [Array.getElem?_eq_none h'] at hh
    exact ⟨g, 0, fun i hi => ⟨rfl, hlt, by rw [Nat.zero_add]; exact (h.cellAt i (by omega)).trans (List.getElem?_eq_getElem hi)⟩⟩
theorem infoField : ∃ i z, Tryz.prog.info? 95 = some i ∧ i.zero = some z ∧ i.size = 1 ∧ i.bytes = 16 ∧ z.cells.size = 1 := by
  have h : (Tryz.prog.info? 95).map (fun i => (i.zero.isSome, i.size, i.bytes, (i.zero.getD undef).cells.size)) = some (true, 1, 16, 1) := by kernel_rfl
  obtain ⟨i, hi, hx⟩ := Option.map_eq_some_iff.1 h
  simp only [Prod.mk.injEq] at hx
  obtain ⟨h1, h2, h3, h4⟩ := hx
  obtain ⟨z, hz⟩ := Option.isSome_iff_exists.1 h1
  exact ⟨i, z, hi, hz, h2, h3, by rw [hz] at h4; exact h4⟩
theorem itemPs_snoc (l : List Item) (k : Nat) (h : k < l.length) : itemPs (l.take (k + 1)) = itemPs (l.take k) ++ [textP (l[k]).1, textP (l[k]).2] := by
  rw [List.take_add_one, List.getElem?_eq_getElem h, itemPs, itemPs, List.flatMap_append]
  rfl
theorem itemPs_length : ∀ l : List Item, (itemPs l).length = l.length * 2
  | [] => rfl
  | x :: l => by
    have := itemPs_length l
    show (itemPs l).length + 1 + 1 = _
    rw [this, List.length_cons]; omega
theorem textP_le (s : ByteArray) : ((textP s).getD ByteArray.empty).size ≤ 256 := by
  unfold textP
  by_cases h : okText s = true
  · rw [if_pos h]
    have := textT_size s h
    have h2 : s.size ≤ 255 := by simpa [okText] using h
    show (textT s).size ≤ _
    omega
  · rw [if_neg h]; show (0 : Nat) ≤ _; omega
theorem numP_le (lo hi v : Int) : ((numP lo hi v).getD ByteArray.empty).size ≤ 2 := by
  unfold numP
  by_cases h : lo ≤ v ∧ v ≤ hi
  · rw [if_pos h]
    show (numT v).size ≤ 2
    unfold numT
    by_cases h : okNum v = true
    · rw [if_pos h, txt_size, wideN_length]; exact Nat.le_refl _
    · rw [if_neg h]; show (0 : Nat) ≤ 2; omega
  · rw [if_neg h]; show (0 : Nat) ≤ 2; omega
theorem itemPs_le (l : List Item) : ∀ o ∈ itemPs l, (o.getD ByteArray.empty).size ≤ 256 := by
  intro o ho
  obtain ⟨x, _, hx⟩ := List.mem_flatMap.1 ho
  simp only [List.mem_cons, List.not_mem_nil, or_false] at hx
  rcases hx with rfl | rfl
  · exact textP_le _
  · exact textP_le _
theorem addr_add (b o j : Nat) : (⟨b, o, none⟩ : Addr).add j = ⟨b, o + j, none⟩ := by
  unfold Addr.add
  split <;> simp_all
def NewItem (W : World) (b : Nat) (e : Ending) (w' : World) : Prop :=
  ∃ c, e = .returned (.slice (some ⟨W.heap.size, 0, none⟩) 2 c) ∧ (∀ j u, (itemFs b)[j]? = some u → w'.cell? ((⟨W.heap.size, 0, none⟩ : Addr).add j) = some u) ∧ Below W.heap.size W w' ∧ W.heap.size < w'.heap.size
theorem ofItem_new (b : Nat) (W : World) : Calls Tryz.prog 119 #[.pointer (some ⟨b, 0, none⟩)] W (NewItem W b) := by
  refine (ofItem_any b W).mono ?_
  rintro e w1 ⟨c, rfl, ⟨q, off, hf⟩, hb, hs⟩
  refine ⟨c, rfl, fun j u hj => ?_, hb, hs⟩
  have hlt : j < (itemFs b).length := by
    rcases Nat.lt_or_ge j (itemFs b).length with h | h
    · exact h
    · rw [List.getElem?_eq_none h] at hj; cases hj
  obtain ⟨h1, _, h3⟩ := hf j hlt
  rw [List.getElem?_eq_getElem hlt] at hj
  injection h1 with h1
  injection h1 with h1 h4
  subst h1 h4
  rw [← Option.some.inj hj, addr_add]
  exact h3
theorem itemFs_one (b : Nat) : ∀ u ∈ itemFs b, u.oneCell' = true := by
  intro u hu
  simp only [itemFs, List.mem_cons, List.not_mem_nil, or_false] at hu
  rcases hu with rfl | rfl <;> rfl
/-- the fields of the first k items, ahead of them the number of all -/
def ItsF (W : World) : List Item → List Value → Prop
  | [], [] => True
  | x :: l, f1 :: f2 :: fs => (∃ q, f1 = textF ⟨q, 0, none⟩ ∧ f2 = textF ⟨q, 1, none⟩ ∧ W.heap[q]? = some (.cells #[.string x.1, .string x.2] 58)) ∧ ItsF W l fs
  | _, _ => False
/-- what is no row of fields stays -/
def KeptTy (W W1 : World) : Prop := ∀ (q : Nat) (cs : Array Value) (T : TypeId), T ≠ 95 → W.heap[q]? = some (.cells cs T) → W1.heap[q]? = some (.cells cs T)
theorem lt_of_heap {W : World} {q : Nat} {o : Obj} (h : W.heap[q]? = some o) : q < W.heap.size := by
  rcases Nat.lt_or_ge q W.heap.size with h' | h'
  · exact h'
  · simp [Array.getElem?_eq_none h'] at h
theorem KeptTy.below {W W1 : World} (hb : Below W.heap.size W W1) : KeptTy W W1 := fun q _ _ _ h => (hb.block q (lt_of_heap h)).trans h
theorem KeptTy.trans {a b c : World} (h : KeptTy a b) (k : KeptTy b c) : KeptTy a c := fun q cs T hT hh => k q cs T hT (h q cs T hT hh)
theorem KeptTy.grown {W W1 : World} {base n : Nat} {v : Value} {xs : List Value} (hown : W.ownsRow base 95 1 v n xs) (hg : W.grownBy W1 v.ownBlock) : KeptTy W W1 :=
  fun q _ _ hT h => (hg.block q (lt_of_heap h) (fun e => Lib.ownBlock_ne hown h hT e.symm)).trans h
theorem ItsF.kept {W W1 : World} (hk : KeptTy W W1) : ∀ {l : List Item} {fs : List Value}, ItsF W l fs → ItsF W1 l fs
  | [], [], _ => trivial
  | [], _ :: _, h => h.elim
  | _ :: _, [], h => h.elim
  | _ :: _, [_], h => h.elim
  | _ :: _, _ :: _ :: _, ⟨⟨q, h1, h2, h3⟩, h⟩ => ⟨⟨q, h1, h2, hk q _ _ (by decide) h3⟩, ItsF.kept hk h⟩
theorem ItsF.snoc {W : World} {x : Item} {q : Nat} (hq : W.heap[q]? = some (.cells #[.string x.1, .string x.2] 58)) : ∀ {l : List Item} {fs : List Value}, ItsF W l fs → ItsF W (l ++ [x]) (fs ++ itemFs q)
  | [], [], _ => ⟨⟨q, rfl, rfl, hq⟩, trivial⟩
  | [], _ :: _, h => h.elim
  | _ :: _, [], h => h.elim
  | _ :: _, [_], h => h.elim
  | _ :: _, _ :: _ :: _, h => ⟨h.1, ItsF.snoc hq h.2⟩
theorem ItsF.puts {W : World} : ∀ {l : List Item} {fs : List Value}, ItsF W l fs → (∀ x ∈ l, x.1.size ≤ 9223372036854775807 ∧ x.2.size ≤ 9223372036854775807) → PutsAll W fs (itemPs l)
  | [], [], _, _ => trivial
  | [], _ :: _, h, _ => h.elim
  | _ :: _, [], h, _ => h.elim
  | _ :: _, [_], h, _ => h.elim
  | x :: l, _ :: _ :: _, ⟨⟨q, h1, h2, h3⟩, h⟩, hx => by
    subst h1 h2
    have hs := hx x List.mem_cons_self
    exact ⟨puts_text ⟨q, 0, none⟩ x.1 hs.1 W ⟨lt_of_heap h3, by rw [Lib.cell_of_heap h3]; rfl⟩, puts_text ⟨q, 1, none⟩ x.2 hs.2 W ⟨lt_of_heap h3, by rw [Lib.cell_of_heap h3]; rfl⟩, ItsF.puts h (fun y hy => hx y (List.mem_cons_of_mem _ hy))⟩
def RowK (W : World) (cb n : Nat) (l : List Item) (fs : List Value) (k : Nat) : Prop := ∃ r, fs = numF ⟨cb, 0, none⟩ 0 40 :: r ∧ W.heap[cb]? = some (.cells #[.int .i64 (n : Nat)] 3) ∧ ItsF W (l.take k) r
theorem RowK.kept {W W1 : World} {cb n : Nat} {l : List Item} {fs : List Value} {k : Nat} (h : RowK W cb n l fs k) (hk : KeptTy W W1) : RowK W1 cb n l fs k := by
  obtain ⟨r, h1, h2, h3⟩ := h
  exact ⟨r, h1, hk _ _ _ (by decide) h2, h3.kept hk⟩
theorem RowK.puts {W : World} {cb n : Nat} {l : List Item} {fs : List Value} {k : Nat} (h : RowK W cb n l fs k) (hn : n ≤ 9223372036854775807) (hl : ∀ x ∈ l, x.1.size ≤ 9223372036854775807 ∧ x.2.size ≤ 9223372036854775807) : PutsAll W fs (numP 0 40 n :: itemPs (l.take k)) := by
  obtain ⟨r, rfl, h2, h3⟩ := h
  exact ⟨puts_num ⟨cb, 0, none⟩ 0 40 n W ⟨lt_of_heap h2, by rw [Lib.cell_of_heap h2]; rfl⟩ (by omega) (by omega) (by omega) (by omega), h3.puts (fun x hx => hl x (List.mem_of_mem_take hx))⟩

set_option maxRecDepth 20000 in
set_option maxHeartbeats 2000000 in
theorem itemsput_any (p : Addr) (A : Option Addr) (c : Nat) (l : List Item) (W : World) (hc : At W p (.slice A l.length c)) (hcap : l.length ≤ c) (hA : ItsAt W A l) (hl : itemsB l) :
    Calls Tryz.prog 117 #[.agg #[.pointer (some p)]] W fun e w' => e = .returned (.tuple #[.string ((itemsP l).getD ByteArray.empty), .bool (itemsP l).isSome]) ∧ Below W.heap.size W w' := by
  obtain ⟨i0, z0, hi, hz, hz1, hz2, hzc⟩ := infoField
  obtain ⟨n, hn⟩ : ∃ n, l.length = n := ⟨_, rfl⟩
  obtain ⟨m, hm⟩ : ∃ m, min n 40 = m := ⟨_, rfl⟩
  have hn0 := hl.1
  rw [hn] at hc hcap hn0
  have hmn : m ≤ n := by omega
  have hm40 : m ≤ 40 := by omega
  have hmin : min (n : Int) 40 = (m : Int) := by omega
  have b1 := (Below.refl W.heap.size W).alloc (Nat.le_refl _) (.cells #[.pointer (some p)] 111)
  have CN := Lib.hid mknum_any
  have CI := Lib.hid ofItem_new
  have hc1 := hc.alloc (.cells #[.pointer (some p)] 111)
  have q0 := hc.1
  have z1 := hc1.2
  have HC := Lib.hid hc
  have HA := Lib.hid hA
  have HN := Lib.hid hn
  have HL := Lib.hid hl
  clear hA hl hn hc1 hc
  go_enter Tryz.func117, Tryz.ntmps117
  go_wp2_with (first
    | (go_at_call 63; ((with_reducible refine (CN.out _ _ _ _).mono ?_); rintro e w1 ⟨rfl, rfl⟩)))
  have bS : Below W.heap.size W ((((W.alloc (.cells #[.pointer (some p)] 111)).alloc (.cells #[.int .i64 n] 3)).alloc (.cells #[numF ⟨W.heap.size + 1, 0, none⟩ 0 40] 95))) :=
    (((Below.refl _ _).alloc (Nat.le_refl _) _).alloc (by simp) _).alloc (by simp; omega) _
  have z2 := (HC.out.below bS).2
  generalize hws : (((W.alloc (.cells #[.pointer (some p)] 111)).alloc (.cells #[.int .i64 n] 3)).alloc (.cells #[numF ⟨W.heap.size + 1, 0, none⟩ 0 40] 95)) = ws at *
  have c0 : ws.cell? ⟨W.heap.size, 0, none⟩ = some (.pointer (some p)) := by subst hws; go_simp
  have c1 : ws.cell? ⟨W.heap.size + 1, 0, none⟩ = some (.int .i64 n) := by subst hws; go_simp
  have h1 : ws.heap[W.heap.size + 1]? = some (.cells #[.int .i64 n] 3) := by
    subst hws
    rw [Lib.alloc_old _ _ _ (by simp)]
    have := heap_alloc_new (W.alloc (.cells #[.pointer (some p)] 111)) (.cells #[.int .i64 n] 3)
    simpa using this
  have o1 : ws.ownsRow W.heap.size 95 1 (.slice (some ⟨W.heap.size + 1 + 1, 0, none⟩) 1 1) 1 [numF ⟨W.heap.size + 1, 0, none⟩ 0 40] := by
    subst hws
    have := World.ownsRow_lit (e := 95) (size := 1) (base := W.heap.size) ((W.alloc (.cells #[.pointer (some p)] 111)).alloc (.cells #[.int .i64 n] 3)) #[numF ⟨W.heap.size + 1, 0, none⟩ 0 40] 1 (by simp; omega) (by unfold maxLen; omega) rfl
    simpa using this
  have HWS := Lib.hid hws
  clear hws z1 b1
  have hmc : m ≤ c := by omega
  have P0 : Hid (RowK ws (W.heap.size + 1) n l [numF ⟨W.heap.size + 1, 0, none⟩ 0 40] 0) := ⟨[], rfl, h1, trivial⟩
  have CW := Lib.hid write_any
  have BS := Lib.hid bS
  have ZS := bS.size
  clear h1 bS HWS
  cases A with
  | none =>
    go_quiet (fail)
    clear z2
    go_wp2
    go_loopg [5, 23] (m + 1) (fun gh s5 s23 wx => ∃ (k : Nat) (fs : List Value) (A5 : Option Addr) (c5 : Nat), k + gh = m + 1 ∧ k ≤ m ∧ s23 = .int .i64 (k : Nat) ∧ s5 = .slice A5 (1 + k * 2) c5 ∧ wx.ownsRow W.heap.size 95 1 (.slice A5 (1 + k * 2) c5) (1 + k * 2) fs ∧ Hid (RowK wx (W.heap.size + 1) n l fs k) ∧ Hid (Below W.heap.size W wx))
    case atStart => exact ⟨0, _, _, _, by omega, by omega, rfl, rfl, o1, P0.out.kept (KeptTy.below (belowN (Below.refl _ _) nq)), belowN BS.out nq⟩
    case round =>
      obtain ⟨k, fs, A5, c5, hkg, hk, rfl, rfl, hown, HP, HB⟩ := hrel
      by_cases hlt : k < m
      · exfalso
        obtain ⟨b, off, hAt⟩ := HA.out
        obtain ⟨e1, _, _, _⟩ := hAt k (by rw [HN.out]; omega)
        cases e1
      · obtain rfl : k = m := by omega
        have hbs := HB.out.size
        obtain ⟨hfa, hfl⟩ := fieldsAt_own hown
        have hpa := HP.out.puts hn0 HL.out.2
        have hos := PutsAll.len hpa
        have hto := PutsAll.at_ hpa
        clear hpa
        have hsz : ∀ o ∈ (numP 0 40 (n : Int) :: itemPs (l.take k)), (o.getD ByteArray.empty).size ≤ 1000000 := by
          intro o ho
          rcases List.mem_cons.1 ho with rfl | ho
          · have := numP_le 0 40 (n : Int); omega
          · have := itemPs_le _ o ho; omega
        have hcall := CW.out A5 c5 fs (numP 0 40 (n : Int) :: itemPs (l.take k)) wr hfa (by omega) hos hto hsz
        have htake : l.take k = l.take 40 := by
          have := HN.out
          rcases Nat.lt_or_ge n 40 with h | h
          · rw [List.take_of_length_le (by omega), List.take_of_length_le (by omega)]
          · rw [show k = 40 by omega]
        have hres : catO (numP 0 40 (n : Int) :: itemPs (l.take k)) = itemsP l := by
          rw [htake, itemsP, HN.out]
        rw [hres, hfl] at hcall
        have C := Lib.hid hcall
        have HOWN := Lib.hid hown
        clear hcall hres htake hsz hto hos hfa hown CW
        go_wp2_with (first
          | (go_at_call 19; ((with_reducible refine (C.out).mono ?_); rintro e w2 ⟨rfl, hb2⟩)))
        go_ret2
        exact ⟨rfl, acc HB.out hb2⟩
  | some a =>
    go_quiet (fail)
    clear z2
    go_wp2
    go_loopg [5, 23] (m + 1) (fun gh s5 s23 wx => ∃ (k : Nat) (fs : List Value) (A5 : Option Addr) (c5 : Nat), k + gh = m + 1 ∧ k ≤ m ∧ s23 = .int .i64 (k : Nat) ∧ s5 = .slice A5 (1 + k * 2) c5 ∧ wx.ownsRow W.heap.size 95 1 (.slice A5 (1 + k * 2) c5) (1 + k * 2) fs ∧ Hid (RowK wx (W.heap.size + 1) n l fs k) ∧ Hid (Below W.heap.size W wx))
    case atStart => exact ⟨0, _, _, _, by omega, by omega, rfl, rfl, o1, P0.out.kept (KeptTy.below (belowN (Below.refl _ _) nq)), belowN BS.out nq⟩
    case round =>
      obtain ⟨k, fs, A5, c5, hkg, hk, rfl, rfl, hown, HP, HB⟩ := hrel
      by_cases hlt : k < m
      · obtain ⟨b, off, hAt⟩ := HA.out
        have hkl : k < l.length := by rw [HN.out]; omega
        obtain ⟨e1, e2, e3, e4⟩ := hAt k hkl
        cases e1
        have hb := HB.out
        have y3 := (hb.cell (p := ⟨b, off + k * 2, none⟩) e2).trans e3
        have y4 := (hb.cell (p := ⟨b, off + k * 2 + 1, none⟩) e2).trans e4
        have hbs := hb.size
        have hxs := HL.out.2 (l[k]) (List.getElem_mem _)
        generalize hx1 : (l[k]).1 = xk at y3 hxs
        generalize hx2 : (l[k]).2 = xv at y4 hxs
        have HX1 := Lib.hid hx1
        have HX2 := Lib.hid hx2
        have HXS := Lib.hid hxs
        clear hx1 hx2 hxs hAt e2 e3 e4 hb CW
        go_wp2_with (first
          | (go_at_call 119; ((with_reducible refine (CI.out _ _).mono ?_); rintro e w2 ⟨c2, rfl, hf2, hb2, hs2⟩; have hown2 := own_step (hown.alloc (.cells #[.string xk, .string xv] 58)) hb2))
          | (at_builtin; go_must (refine wpList_append_own _ rfl _ _ 60 rfl W.heap.size 95 i0 z0 1 16 Tryz.underlying60 hi hz hz1 hz2 hzc (by decide) _ _ _ rfl hown2 ⟨wr.heap.size + 1, 0, none⟩ 2 c2 (itemFs wr.heap.size) rfl rfl (by simpa using hf2) (itemFs_one _) (by unfold maxLen; omega) (by omega) (by have := hb2.size; simp at this; omega) ?_); intro v' w3 hown' hgrow hnil; clear hnil))
        go_roundg (gk - 1)
        case measure => omega
        case rel =>
          have hlen : (1 + k * 2 + 2 : Nat) = 1 + (k + 1) * 2 := by omega
          rw [hlen] at hown'
          obtain ⟨A', c', rfl⟩ := own_slice hown'
          have hb2' : Below wr.heap.size wr w2 := ((Below.refl wr.heap.size wr).alloc (Nat.le_refl _) (.cells #[.string xk, .string xv] 58)).trans (hb2.mono (by simp))
          have hz2' : w2.heap[wr.heap.size]? = some (.cells #[.string xk, .string xv] 58) := (hb2.block wr.heap.size (by simp)).trans (heap_alloc_new wr _)
          have hkg2 := KeptTy.grown hown2 hgrow
          refine ⟨k + 1, _, A', c', by omega, by omega, by go_num, rfl, hown', ?_, (acc HB.out hb2').grown hgrow (acc HB.out hb2').size (fun q hq => (hown2.lt q hq).1)⟩
          obtain ⟨r, g1, g2, g3⟩ := (HP.out.kept (KeptTy.below hb2')).kept hkg2
          subst g1
          refine ⟨r ++ itemFs wr.heap.size, rfl, g2, ?_⟩
          rw [List.take_add_one, List.getElem?_eq_getElem hkl]
          refine ItsF.snoc ?_ g3
          rw [HX1.out, HX2.out]
          exact hkg2 _ _ _ (by decide) hz2'
      · obtain rfl : k = m := by omega
        have hbs := HB.out.size
        obtain ⟨hfa, hfl⟩ := fieldsAt_own hown
        have hpa := HP.out.puts hn0 HL.out.2
        have hos := PutsAll.len hpa
        have hto := PutsAll.at_ hpa
        clear hpa
        have hsz : ∀ o ∈ (numP 0 40 (n : Int) :: itemPs (l.take k)), (o.getD ByteArray.empty).size ≤ 1000000 := by
          intro o ho
          rcases List.mem_cons.1 ho with rfl | ho
          · have := numP_le 0 40 (n : Int); omega
          · have := itemPs_le _ o ho; omega
        have hcall := CW.out A5 c5 fs (numP 0 40 (n : Int) :: itemPs (l.take k)) wr hfa (by omega) hos hto hsz
        have htake : l.take k = l.take 40 := by
          have := HN.out
          rcases Nat.lt_or_ge n 40 with h | h
          · rw [List.take_of_length_le (by omega), List.take_of_length_le (by omega)]
          · rw [show k = 40 by omega]
        have hres : catO (numP 0 40 (n : Int) :: itemPs (l.take k)) = itemsP l := by
          rw [htake, itemsP, HN.out]
        rw [hres, hfl] at hcall
        have C := Lib.hid hcall
        have HOWN := Lib.hid hown
        clear hcall hres htake hsz hto hos hfa hown CW
        go_wp2_with (first
          | (go_at_call 19; ((with_reducible refine (C.out).mono ?_); rintro e w2 ⟨rfl, hb2⟩)))
        go_ret2
        exact ⟨rfl, acc HB.out hb2⟩
theorem puts_items (p : Addr) (l : List Item) (S : Value) (W : World) (hc : At W p S) (hS : SlAt W S l) (hl : itemsB l) : PutsTo W (itemsF p) (itemsP l) := by
  obtain ⟨A, c, rfl, h1, _, h2⟩ := hS
  exact ⟨111, _, 117, rfl, fun _ => by kernel_rfl, fun _ => by kernel_rfl, fun _ _ => by kernel_rfl, fun w hw => itemsput_any p A c l w (hc.below hw) h1 (h2.below hw) hl⟩
end Go.Proofs.YtbnmddopgbhapaaGreat
