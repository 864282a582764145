/-
  What is frozen is neither read nor written, all else is; behind a Thaw all is as it was (HoldShut). (Written by tools/genHS.py over hdshut.head.)
-/
import Derived.Test.YthgndgoljchnfaaGreatHdAlive
import Derived.Test.YthgndgoljchnfaaGreatHg30
import Derived.Test.YthgndgoljchnfaaGreatHg12
import Derived.Test.YthgndgoljchnfaaGreatHg06
import Derived.Test.YthgndgoljchnfaaGreatHg02
import Derived.Test.YthgndgoljchnfaaGreatHg13
import Derived.Deep.RegionHeld3
namespace Go.Proofs.YthgndgoljchnfaaGreat
open Go.RowKit

/-- its states -/
def Sh (its : List Item) : HO := ⟨1, 200, 0, fun _ => some 3, its, G0, 1⟩
def ShF (its : List Item) (f t : Nat) : HO := ⟨1, 200, 0, fun _ => some 3, its, ⟨true, f, t, [], 0⟩, 1⟩
theorem Sh_start : (HO.new 1 200).take 0 0 3 = Sh [] := by
  have e : ((HO.new 1 200).take 0 0 3).own = fun _ => some 3 := funext fun x => HO.take_own (in_whole 0 x)
  show (⟨1, min (max 200 0) 200, 0, ((HO.new 1 200).take 0 0 3).own, [], G0, 0 + 1⟩ : HO) = _
  rw [e]
  rfl
theorem putN_more (l : List Item) (k v : ByteArray) : (putN l k v).length ≤ l.length + 1 := by
  rw [putN_length]
  split <;> omega
theorem Sh_do {its : List Item} {k v : ByteArray} {t : TL} {s1 : HO} (h : Did (Sh its) ⟨2, k, v, ⟨#[]⟩, 0⟩ t s1) : ∃ its', s1 = Sh its' ∧ its'.length ≤ its.length + 1 := by
  cases hb : (Sh its).bar ⟨2, k, v, ⟨#[]⟩, 0⟩ with
  | some b => exact ⟨its, (h.bar hb).2, by omega⟩
  | none =>
    rcases h.at_ hb with ⟨z, _⟩ | ⟨_, _, z⟩ | ⟨z, _⟩ | ⟨z, _⟩
    · exact absurd z (by simp)
    · rw [z]
      split
      · exact ⟨putN its k v, rfl, putN_more _ _ _⟩
      · exact ⟨its, rfl, by omega⟩
    · exact absurd z (by simp)
    · exact absurd z (by simp)
theorem room_put {s : HO} {k v : ByteArray} (h1 : s.most = 200) (h2 : s.kept = 0) (hl : s.its.length ≤ 41) (hv : v.size ≤ 16) : s.putE k v = 0 := by
  have hv0 : valueN v = 0 := by rw [valueN, if_neg (by omega)]
  rw [HO.putE, if_neg (by rw [hv0]; simp), if_neg (fun h => by have h2 := h.2; omega)]
theorem Sh_put {its : List Item} {k v : ByteArray} {t : TL} {s1 : HO} (h : Did (Sh its) ⟨2, k, v, ⟨#[]⟩, 0⟩ t s1) (h3 : k.size ≠ 0) (h4 : k.size ≤ 16) (hl : its.length ≤ 41) (hv : v.size ≤ 16) : t = TL.err 0 ∧ s1 = Sh (putN its k v) := by
  have z := h.put h3 h4 (e := 3) rfl rfl
  have e : (Sh its).putE k v = 0 := room_put rfl rfl hl hv
  rw [e] at z
  exact z
theorem ShF_put {its : List Item} {f t0 : Nat} {k v : ByteArray} {t : TL} {s1 : HO} (h : Did (ShF its f t0) ⟨2, k, v, ⟨#[]⟩, 0⟩ t s1) (h3 : k.size ≠ 0) (h4 : k.size ≤ 16) (hl : its.length ≤ 41) (hv : v.size ≤ 16) (hi : inB f t0 (addrN k) = false) : t = TL.err 0 ∧ s1 = ShF (putN its k v) f t0 := by
  have z := h.put h3 h4 (e := 3) rfl (by show (true && inB f t0 (addrN k)) = false; rw [hi]; rfl)
  have e : (ShF its f t0).putE k v = 0 := room_put rfl rfl hl hv
  rw [e] at z
  exact z
theorem ShF_busy {its : List Item} {f t0 : Nat} {k v : ByteArray} {t : TL} {s1 : HO} (h : Did (ShF its f t0) ⟨2, k, v, ⟨#[]⟩, 0⟩ t s1) (h3 : k.size ≠ 0) (h4 : k.size ≤ 16) (hi : inB f t0 (addrN k) = true) : t = TL.err 7 ∧ s1 = ShF its f t0 :=
  h.busy (by decide) (by decide) h3 h4 (e := 3) rfl (by show (true && inB f t0 (addrN k)) = true; rw [hi]; rfl)
theorem Sh_get {its : List Item} {k v : ByteArray} {t : TL} {s1 : HO} (h : Did (Sh (putN its k v)) ⟨1, k, ⟨#[]⟩, ⟨#[]⟩, 0⟩ t s1) (h3 : k.size ≠ 0) (h4 : k.size ≤ 16) (hr : Rising its) : t = ⟨0, v, [], false, ⟨#[]⟩, 0⟩ := by
  have z := (h.get h3 h4 (e := 3) rfl rfl).1
  have e1 : hasN (putN its k v) k = true := by rw [Hd.hasN_put hr]; simp
  have e2 : getI (putN its k v) k = v := Hd.getI_put_same hr k v
  have z : t = (if hasN (putN its k v) k = true then ⟨0, getI (putN its k v) k, [], false, ⟨#[]⟩, 0⟩ else TL.err 6) := z
  rw [e1, if_pos rfl, e2] at z
  exact z
theorem hd_mem_arc {l : List Item} {f t : Nat} {x : Item} (h : x ∈ arcL l f t) : x ∈ l ∧ inB f t (adr x) = true := by
  rw [arcL_rot] at h
  obtain ⟨h1, h2⟩ := List.mem_filter.1 h
  refine ⟨?_, h2⟩
  unfold rot at h1
  simp only [List.mem_append, List.mem_filter] at h1
  rcases h1 with h1 | h1
  · exact h1.1
  · exact h1.1
theorem two_new0 (w : World) (a b : Value) (T : TypeId) : (w.alloc (.cells #[a, b] T)).cell? ⟨w.heap.size, 0, none⟩ = some a := by go_simp
theorem two_new1 (w : World) (a b : Value) (T : TypeId) : (w.alloc (.cells #[a, b] T)).cell? ⟨w.heap.size, 1, none⟩ = some b := by go_simp
theorem told_new0 (w : World) (a b c d e f : Value) (T : TypeId) : (w.alloc (.cells #[a, b, c, d, e, f] T)).cell? ⟨w.heap.size, 0, none⟩ = some a := by go_simp
theorem own_mem {W : World} {base e size c n : Nat} {A : Option Addr} {xs : List Value} (h : W.ownsRow base e size (.slice A n c) n xs) (hn : 1 ≤ n) : ∃ q, A = some ⟨q, 0, none⟩ := by
  rcases h.2 with ⟨_, h1⟩ | ⟨g, cap, cur, h0, _⟩
  · omega
  · injection h0 with h1 _ _
    exact ⟨g, h1⟩
theorem own_lower {W : World} {base b0 e size n : Nat} {v : Value} {xs : List Value} (h : W.ownsRow base e size v n xs) (hb : b0 ≤ base) : W.ownsRow b0 e size v n xs := by
  refine ⟨h.1, ?_⟩
  rcases h.2 with h1 | ⟨g, cap, cur, h0, h2, h3⟩
  · exact .inl h1
  · exact .inr ⟨g, cap, cur, h0, Nat.le_trans hb h2, h3⟩
section
variable {VD : World → Nat → HO → List Nat → Prop}
set_option maxRecDepth 20000 in
set_option maxHeartbeats 8000000 in
theorem holdShut_any (L : HoldLaws VD) (A0 : Option Addr) (c0 n : Nat) (zs : List Item) (f t : Nat) (k v : ByteArray) (W : World) (hA : ∃ b off, ∀ i (h : i < zs.length), A0 = some ⟨b, off, none⟩ ∧ b < W.heap.size ∧ W.cell? ⟨b, off + i * 2, none⟩ = some (.string (zs[i]).1) ∧ W.cell? ⟨b, off + i * 2 + 1, none⟩ = some (.string (zs[i]).2)) (hn : zs.length = n)
    (hf : f < 18446744073709551616) (ht : t < 18446744073709551616) (hkm : k.size ≤ maxLen) (_hvm : v.size ≤ maxLen) :
    Calls Tryz.prog 5 #[.slice A0 n c0, .agg #[.int .u64 (f : Nat), .int .u64 (t : Nat)], .string k, .string v] W fun e w' => e = .returned (.bool true) ∧ Below W.heap.size W w' := by
  have CA := Lib.hid (holdAlive_any L)
  obtain ⟨V, hV⟩ : ∃ V, W.alloc (.cells #[.int .u64 (f : Nat), .int .u64 (t : Nat)] 25) = V := ⟨_, rfl⟩
  have HBV : Hid (Below W.heap.size W V) := by rw [← hV]; exact (Below.refl _ _).alloc (Nat.le_refl _) _
  have HSS : Hid (∀ w, Below V.heap.size V w → w.cell? ⟨W.heap.size, 0, none⟩ = some (.int .u64 (f : Nat)) ∧ w.cell? ⟨W.heap.size, 1, none⟩ = some (.int .u64 (t : Nat))) := fun w hw => by
    have hlt : W.heap.size < V.heap.size := by rw [← hV]; simp
    have g0 : V.cell? ⟨W.heap.size, 0, none⟩ = some (.int .u64 (f : Nat)) := by rw [← hV]; exact two_new0 _ _ _ _
    have g1 : V.cell? ⟨W.heap.size, 1, none⟩ = some (.int .u64 (t : Nat)) := by rw [← hV]; exact two_new1 _ _ _ _
    exact ⟨(hw.cell (p := ⟨W.heap.size, 0, none⟩) hlt).trans g0, (hw.cell (p := ⟨W.heap.size, 1, none⟩) hlt).trans g1⟩
  have HAI : Hid (∃ b off, ∀ w, Below V.heap.size V w → ∀ i (h : i < zs.length), A0 = some ⟨b, off, none⟩ ∧ w.cell? ⟨b, off + i * 2, none⟩ = some (.string (zs[i]).1) ∧ w.cell? ⟨b, off + i * 2 + 1, none⟩ = some (.string (zs[i]).2)) := by
    obtain ⟨b, off, h⟩ := hA
    refine ⟨b, off, fun w hw i hi => ?_⟩
    obtain ⟨h1, h2, h3, h4⟩ := h i hi
    have hB := acc HBV.out hw
    exact ⟨h1, (hB.cell (p := ⟨b, off + i * 2, none⟩) h2).trans h3, (hB.cell (p := ⟨b, off + i * 2 + 1, none⟩) h2).trans h4⟩
  have HV := Lib.hid hV
  have HN := Lib.hid hn
  clear hA hV hn
  by_cases q0 : 40 < n
  · have d0 : decide (40 < (n : Int)) = true := decide_eq_true (by omega)
    go_enter Tryz.func5, Tryz.ntmps5
    go_upto_region 1 with fail
    rw [HV.out]
    go_wp2_with (go_at_call 11; (with_reducible refine (CA.out _).mono ?_); rintro e w1 ⟨rfl, h1⟩)
    go_ret
    exact ⟨rfl, acc HBV.out h1⟩
  have d0 : decide (40 < (n : Int)) = false := decide_eq_false (by omega)
  by_cases q1 : k.size < 1
  · have d1 : decide ((k.size : Int) < 1) = true := decide_eq_true (by omega)
    go_enter Tryz.func5, Tryz.ntmps5
    go_upto_region 1 with fail
    rw [HV.out]
    go_wp2_with (go_at_call 11; (with_reducible refine (CA.out _).mono ?_); rintro e w1 ⟨rfl, h1⟩)
    go_ret
    exact ⟨rfl, acc HBV.out h1⟩
  have d1 : decide ((k.size : Int) < 1) = false := decide_eq_false (by omega)
  by_cases q2 : 16 < k.size
  · have d2 : decide (16 < (k.size : Int)) = true := decide_eq_true (by omega)
    go_enter Tryz.func5, Tryz.ntmps5
    go_upto_region 1 with fail
    rw [HV.out]
    go_wp2_with (go_at_call 11; (with_reducible refine (CA.out _).mono ?_); rintro e w1 ⟨rfl, h1⟩)
    go_ret
    exact ⟨rfl, acc HBV.out h1⟩
  have d2 : decide (16 < (k.size : Int)) = false := decide_eq_false (by omega)
  by_cases q3 : 16 < v.size
  · have d3 : decide (16 < (v.size : Int)) = true := decide_eq_true (by omega)
    go_enter Tryz.func5, Tryz.ntmps5
    go_upto_region 1 with fail
    rw [HV.out]
    go_wp2_with (go_at_call 11; (with_reducible refine (CA.out _).mono ?_); rintro e w1 ⟨rfl, h1⟩)
    go_ret
    exact ⟨rfl, acc HBV.out h1⟩
  have d3 : decide (16 < (v.size : Int)) = false := decide_eq_false (by omega)
  have h3 : k.size ≠ 0 := by omega
  have h4 : k.size ≤ 16 := by omega
  have h5 : v.size ≤ 16 := by omega
  have C0 : Hid (∀ w, Below V.heap.size V w → Calls Tryz.prog 12 #[.int .i64 1, .int .i64 200] w fun e w' => ∃ g, e = .returned (.pointer (some ⟨g, 0, none⟩)) ∧ DX VD V w' [] g (HO.new 1 200)) := fun w hw => by
    refine (DX.new (P := []) L 1 200 hw (by simp) ⟨by decide, by decide⟩ ⟨by decide, by decide⟩).mono ?_
    rintro e w' ⟨g, rfl, h, -⟩
    exact ⟨g, rfl, h⟩
  have C1 : Hid (∀ w g, DX VD V w [] g (HO.new 1 200) → Calls Tryz.prog 13 #[.pointer (some ⟨g, 0, none⟩), .agg #[.int .u64 0, .int .u64 0], .int .i64 3] w fun e w' => e = .returned (.bool true) ∧ DX VD V w' [] g (Sh [])) := fun w g h => by
    refine (h.own L 0 0 3 (by decide) (by decide) ⟨by decide, by decide⟩ (by decide)).mono ?_
    rintro e w' (⟨-, rfl, h1, -⟩ | ⟨h1, -⟩)
    · rw [Sh_start] at h1
      exact ⟨rfl, h1⟩
    · exact absurd (HO.may_new (by decide)) h1
  have CD : Hid (∀ w g its x y, x.size ≤ 40 → y.size ≤ 40 → DX VD V w [] g (Sh its) → Calls Tryz.prog 14 #[.pointer (some ⟨g, 0, none⟩), .agg #[.int .i64 2, .string x, .string y, .string ⟨#[]⟩, .int .i64 0]] w fun e w' => ∃ r its', e = .returned r ∧ its'.length ≤ its.length + 1 ∧ DX VD V w' [] g (Sh its')) := fun w g its x y hx hy h => by
    refine (h.do_ L ⟨2, x, y, ⟨#[]⟩, 0⟩ ⟨⟨by simp, by simp⟩, by show x.size ≤ maxLen; unfold maxLen; omega, by show y.size ≤ maxLen; unfold maxLen; omega, Nat.zero_le _, ⟨by simp, by simp⟩⟩ (by show 1 ≤ 1000; decide) (by show 0 ≤ 1000; decide)).mono ?_
    rintro e w' ⟨t, s1, S, hd, rfl, ho, hx, -⟩
    obtain ⟨its', rfl, hl⟩ := Sh_do hd
    exact ⟨_, its', rfl, hl, hx.less (by simp)⟩
  go_enter Tryz.func5, Tryz.ntmps5
  go_upto_region 1 with fail
  rw [HV.out]
  clear HV
  go_wp2_with (first
    | (go_at_call 11; (with_reducible refine (CA.out _).mono ?_); rintro e w1 ⟨rfl, h1⟩; have H1 := Lib.hid h1; clear h1)
    | (go_at_call 12; (with_reducible refine (C0.out _ H1.out).mono ?_); rintro e w2 ⟨g, rfl, x2⟩; have X2 := Lib.hid x2; clear x2)
    | (go_at_call 13; (with_reducible refine (C1.out _ _ X2.out).mono ?_); rintro e w3 ⟨rfl, x3⟩; have X3 := Lib.hid x3; clear x3))
  clear CA C0 C1
  go_loopg [11, 53] (n + 1) (fun gh s11 s53 wx => ∃ (i : Nat) (its : List Item), i + gh = n + 1 ∧ i ≤ n ∧ its.length ≤ i ∧ s53 = .int .i64 (i : Nat) ∧ Hid (DX VD V wx [] g (Sh its)))
  case atStart => exact ⟨0, [], by omega, by omega, Nat.le_refl _, rfl, X3⟩
  case round =>
    clear X3 X2 H1
    obtain ⟨i, its, hig, hi, hli, rfl, HX⟩ := hrel
    by_cases hlt : i < n
    · have i1 : (i : Int) < (n : Int) := by omega
      have zi : IntKind.i64.wrap ((i : Int) + 1) = (i : Int) + 1 := by rw [IntKind.wrap_i64]; omega
      obtain ⟨b, o, ha⟩ := HAI.out
      obtain ⟨rfl, e1, e2⟩ := ha _ HX.out.base i (by rw [HN.out]; exact hlt)
      generalize zs[i]'(by rw [HN.out]; exact hlt) = x at e1 e2
      obtain ⟨xk, xv⟩ := x
      dsimp only at e1 e2
      clear ha
      have HX1 := Lib.hid (HX.out.below L ((Below.refl _ _).alloc (Nat.le_refl _) (.cells #[.string xk, .string xv] 31)))
      by_cases p1 : 40 < xk.size
      · have p2 : decide (40 < (xk.size : Int)) = true := decide_eq_true (by omega)
        go_wp2_with fail
        go_ret
        exact ⟨rfl, acc HBV.out HX1.out.base⟩
      · have p2 : decide (40 < (xk.size : Int)) = false := decide_eq_false (by omega)
        by_cases p3 : 40 < xv.size
        · have p4 : decide (40 < (xv.size : Int)) = true := decide_eq_true (by omega)
          go_wp2_with fail
          go_ret
          exact ⟨rfl, acc HBV.out HX1.out.base⟩
        · have p4 : decide (40 < (xv.size : Int)) = false := decide_eq_false (by omega)
          go_wp2_with (go_at_call 14; (with_reducible refine (CD.out _ _ its xk xv (by omega) (by omega) HX1.out).mono ?_); rintro e w4 ⟨r4, its4, rfl, l4, x4⟩; have X4 := Lib.hid x4; clear x4)
          go_roundg (gk - 1)
          case measure => omega
          case rel => exact ⟨i + 1, its4, by omega, by omega, by omega, by go_num, X4⟩
    · have i1 : ¬ (i : Int) < (n : Int) := by omega
      have hm40 : its.length ≤ 40 := by omega
      clear hig hi hlt CD HAI HN
      have hris : Rising its ∧ ∀ x ∈ its, rightN x.1 = 0 ∧ valueN x.2 = 0 := by
        obtain ⟨_, ⟨F, b, _⟩, _⟩ := HX.out
        exact L.rising b
      obtain ⟨m, hm⟩ : ∃ m, its.length = m := ⟨_, rfl⟩
      have CI : Hid (∀ w P s, s.its = its → DX VD V w P g s → Calls Tryz.prog 15 #[.pointer (some ⟨g, 0, none⟩)] w fun e w' => ∃ A c, e = .returned (.slice A m c) ∧ w'.ownsRow w.heap.size 31 2 (.slice A m c) m (itemCells its) ∧ Below w.heap.size w w') := fun w P s hs h => by
        obtain ⟨_, ⟨F, b, _⟩, _⟩ := h
        refine (L.items b).mono ?_
        rintro e w' ⟨S, rfl, ho, hb⟩
        rw [hs, hm] at ho
        obtain ⟨A, c, rfl⟩ := own_slice ho
        exact ⟨A, c, rfl, ho, hb⟩
      have CF : Hid (∀ w P, DX VD V w P g (Sh its) → Calls Tryz.prog 20 #[.pointer (some ⟨g, 0, none⟩), .agg #[.int .u64 (f : Nat), .int .u64 (t : Nat)]] w fun e w' => ∃ A c l o, e = .returned (.tuple #[.slice A o c, .int .i64 3, .int .i64 0]) ∧ (∀ x ∈ l, inB f t (adr x) = true ∧ x.1.size ≤ maxLen) ∧ l.length = o ∧ o ≤ 80 ∧ w'.ownsRow 0 31 2 (.slice A o c) o (itemCells l) ∧ DX VD V w' ((Value.slice A o c).ownBlock.toList ++ P) g (ShF its f t) ∧ Kept P w w') := fun w P h => by
        refine (h.freeze L f t hf ht (by show 1 ≤ 1000; decide)).mono ?_
        rintro e w' ⟨l, ep, er, s1, S, rfl, ho, hx, hk, (⟨z, _⟩ | ⟨_, ⟨x, _, _, z⟩, _⟩ | ⟨_, _, rfl, rfl, hg, rfl⟩)⟩
        · cases (show false = true from z)
        · cases z
        · obtain ⟨-, x, -, -, hx2⟩ := hg
          have e3 : (3 : Int) = ep := Option.some.inj hx2
          subst e3
          obtain ⟨A, c, rfl⟩ := own_slice ho
          refine ⟨A, c, _, _, rfl, fun x hx => ?_, rfl, ?_, own_lower ho (Nat.zero_le _), hx, hk⟩
          · obtain ⟨y1, y2⟩ := hd_mem_arc hx
            have := (hris.2 x y1).1
            rw [rightN] at this
            refine ⟨y2, ?_⟩
            unfold maxLen
            split at this
            · cases this
            · omega
          · unfold arcL
            rw [List.length_append]
            have y1 := List.length_filter_le (inA f t false) (Sh its).its
            have y2 := List.length_filter_le (inA f t true) (Sh its).its
            have y3 : (Sh its).its.length ≤ 40 := hm40
            omega
      have CT : Hid (∀ w its, DX VD V w [] g (ShF its f t) → Calls Tryz.prog 24 #[.pointer (some ⟨g, 0, none⟩)] w fun e w' => e = .returned (.tuple #[]) ∧ DX VD V w' [] g (Sh its)) := fun w its h => by
        refine (h.thaw L).mono ?_
        rintro e w' ⟨rfl, h1, -⟩
        exact ⟨rfl, h1⟩
      have ck1 : ∀ o : Int, 1 ≤ o ∧ o ≤ 2 → ∀ y : ByteArray, y.size ≤ 16 → AK.Fit ⟨o, k, y, ⟨#[]⟩, 0⟩ := fun o ho y hy => ⟨⟨by show _ ≤ o; omega, by show o ≤ _; omega⟩, hkm, by show y.size ≤ maxLen; unfold maxLen; omega, Nat.zero_le _, ⟨by simp, by simp⟩⟩
      have CP2 : Hid (∀ w its, its.length ≤ 41 → DX VD V w [] g (Sh its) → Calls Tryz.prog 14 #[.pointer (some ⟨g, 0, none⟩), .agg #[.int .i64 2, .string k, .string v, .string ⟨#[]⟩, .int .i64 0]] w fun e w' => ∃ A c, e = .returned (.agg #[.int .i64 0, .string ⟨#[]⟩, .slice A 0 c, .bool false, .string ⟨#[]⟩, .int .i64 0]) ∧ DX VD V w' [] g (Sh (putN its k v))) := fun w its hl h => by
        refine (h.do_ L ⟨2, k, v, ⟨#[]⟩, 0⟩ (ck1 2 (by omega) v h5) (by show 1 ≤ 1000; decide) (by show 0 ≤ 1000; decide)).mono ?_
        rintro e w' ⟨t, s1, S, hd, rfl, ho, hx, -⟩
        obtain ⟨rfl, rfl⟩ := Sh_put hd h3 h4 hl h5
        obtain ⟨A, b, rfl⟩ := own_slice ho
        exact ⟨A, b, rfl, hx.less (by simp)⟩
      have CG2 : Hid (∀ w its, Rising its → DX VD V w [] g (Sh (putN its k v)) → Calls Tryz.prog 14 #[.pointer (some ⟨g, 0, none⟩), .agg #[.int .i64 1, .string k, .string ⟨#[]⟩, .string ⟨#[]⟩, .int .i64 0]] w fun e w' => ∃ A c, e = .returned (.agg #[.int .i64 0, .string v, .slice A 0 c, .bool false, .string ⟨#[]⟩, .int .i64 0]) ∧ Below V.heap.size V w') := fun w its hr h => by
        refine (h.do_ L ⟨1, k, ⟨#[]⟩, ⟨#[]⟩, 0⟩ (ck1 1 (by omega) ⟨#[]⟩ (Nat.zero_le _)) (by show 1 ≤ 1000; decide) (by show 0 ≤ 1000; decide)).mono ?_
        rintro e w' ⟨t, s1, S, hd, rfl, ho, hx, -⟩
        obtain rfl := Sh_get hd h3 h4 hr
        obtain ⟨A, b, rfl⟩ := own_slice ho
        exact ⟨A, b, rfl, hx.base⟩
      have CSA : Hid (∀ w A B c d, w.ownsRow 0 31 2 (.slice A m c) m (itemCells its) → w.ownsRow 0 31 2 (.slice B m d) m (itemCells its) → Calls Tryz.prog 23 #[.slice A m c, .slice B m d] w fun e w' => e = .returned (.bool true) ∧ ∃ n, w' = w.drewN n) := fun w A B c d h1 h2 => by
        have e : sameL its its = true := (sameL_iff its its).2 rfl
        rw [← hm] at h1 h2 ⊢
        have z := sameItems_any A B c d its its w h1 h2
        rwa [e] at z
      have HRI := Lib.hid hris.1
      clear hris
      go_upto_region 17 with (first
        | (go_at_call 15; (with_reducible refine (CI.out _ _ _ rfl HX.out).mono ?_); rintro e w5 ⟨A5, c5, rfl, r5, h5'⟩; have X5 : Hid (DX VD V w5 (Value.slice A5 m c5).ownBlock.toList g (Sh its)) := (HX.out.more L h5' (Q := (Value.slice A5 m c5).ownBlock.toList) (fun q hq => r5.lt q (by simpa using hq))).less (fun q hq => List.mem_append_left _ hq); have R5 := Lib.hid (own_lower r5 (Nat.zero_le _)); obtain ⟨a0, a1⟩ := HSS.out _ X5.out.base; clear r5 h5')
        | (go_at_call 20; (with_reducible refine (CF.out _ _ X5.out).mono ?_); rintro e w6 ⟨A6, c6, l, o, rfl, hl6, hlo, ho80, r6, x6, k6⟩; have X6 := Lib.hid x6; have R6 := Lib.hid r6; have K6 := Lib.hid (k6.row R5.out (fun q hq => by simp [hq])); have HL := Lib.hid hl6; have HLO := Lib.hid hlo; clear x6 r6 k6 hl6 hlo))
      clear a0 a1 X5 R5 HX CF
      go_wp2_with fail
      go_loopg [17, 92] (o + 1) (fun gh s17 s92 wx => ∃ j : Nat, j + gh = o + 1 ∧ j ≤ o ∧ s92 = .int .i64 (j : Nat) ∧ Hid (Below w6.heap.size w6 wx))
      case atStart => exact ⟨0, by omega, by omega, rfl, Below.refl _ _⟩
      case round =>
        obtain ⟨j, hjg, hj, rfl, HB⟩ := hrel
        by_cases hlt : j < o
        · have j1 : (j : Int) < (o : Int) := by omega
          have zj : IntKind.i64.wrap ((j : Int) + 1) = (j : Int) + 1 := by rw [IntKind.wrap_i64]; omega
          have hjl : j < l.length := by rw [HLO.out]; exact hlt
          obtain ⟨q, rfl⟩ := own_mem R6.out (by omega)
          have hr := (Touch.ofBelow (F := []) HB.out).row R6.out (by simp)
          have ck := (hr.cellAt (j * 2) (by omega)).trans (itemCells_get0 l j hjl)
          have cv := (hr.cellAt (j * 2 + 1) (by omega)).trans (itemCells_get1 l j hjl)
          have hin := HL.out _ (List.getElem_mem hjl)
          generalize l[j] = x at ck cv hin
          obtain ⟨xk, xv⟩ := x
          dsimp only at ck cv hin
          have CAD : Hid (∀ w, Calls Tryz.prog 22 #[.string xk] w fun e w' => e = .returned (.int .u64 (addrN xk : Nat)) ∧ w = w') := fun w => refAddr_any xk w hin.2
          have CIN : Hid (∀ w, Calls Tryz.prog 21 #[.agg #[.int .u64 (f : Nat), .int .u64 (t : Nat)], .int .u64 (addrN xk : Nat)] w fun e w' => e = .returned (.bool true) ∧ Below w.heap.size w w') := fun w => by
            have z := in_any f t (addrN xk) w hf ht (addrN_lt _)
            rwa [show inB f t (addrN xk) = true from hin.1] at z
          generalize addrN xk = ad at CAD CIN
          clear hin hr hjl
          go_upto_region 20 with fail
          obtain ⟨wa, hwa⟩ : ∃ w, wr.alloc (.cells #[.string xk, .string xv] 31) = w := ⟨_, rfl⟩
          have BA : Hid (Below w6.heap.size w6 wa) := by rw [← hwa]; exact HB.out.alloc (HB.out.size) _
          have cx : wa.cell? ⟨wr.heap.size, 0, none⟩ = some (.string xk) := by rw [← hwa]; exact two_new0 _ _ _ _
          have hlz : wr.heap.size < wa.heap.size := by rw [← hwa]; simp
          have HS : Hid (∀ w', Below wa.heap.size wa w' → w'.cell? ⟨W.heap.size, 0, none⟩ = some (.int .u64 (f : Nat)) ∧ w'.cell? ⟨W.heap.size, 1, none⟩ = some (.int .u64 (t : Nat)) ∧ w'.cell? ⟨wr.heap.size, 0, none⟩ = some (.string xk)) := fun w' hw => by
            have z := HSS.out _ (acc (acc X6.out.base BA.out) hw)
            exact ⟨z.1, z.2, (hw.cell (p := ⟨wr.heap.size, 0, none⟩) hlz).trans cx⟩
          rw [hwa]
          obtain ⟨qx, hqx⟩ : ∃ q, wr.heap.size = q := ⟨_, rfl⟩
          rw [hqx] at HS ⊢
          clear hwa cx hlz hqx ck cv
          have B9 := Lib.hid ((Below.refl wa.heap.size wa).drew)
          go_region_held3 (fun w' => w'.cell? ⟨W.heap.size, 0, none⟩ = some (.int .u64 (f : Nat)) ∧ w'.cell? ⟨W.heap.size, 1, none⟩ = some (.int .u64 (t : Nat)) ∧ w'.cell? ⟨qx, 0, none⟩ = some (.string xk)) (first | exact HS.out _ B10.out | exact HS.out _ B9.out)
            (first
              | (go_at_call 22; (with_reducible refine (CAD.out _).mono ?_); rintro e w8 ⟨rfl, rfl⟩)
              | (go_at_call 21; (with_reducible refine (CIN.out _).mono ?_); rintro e w8 ⟨rfl, h8⟩; have B10 := Lib.hid (acc B9.out h8); clear h8))
          go_wp2_with fail
          go_roundg (gk - 1)
          case measure => omega
          case rel => exact ⟨j + 1, by omega, by omega, by go_num, acc BA.out B10.out⟩
        · have j1 : ¬ (j : Int) < (o : Int) := by omega
          have X7 := Lib.hid (X6.out.below L HB.out)
          have K7 := Lib.hid ((Touch.ofBelow (F := []) HB.out).row K6.out (by simp))
          clear X6 K6 R6 HL HLO HB hjg hj hlt
          have CAK : Hid (∀ w, Calls Tryz.prog 22 #[.string k] w fun e w' => e = .returned (.int .u64 (addrN k : Nat)) ∧ w = w') := fun w => refAddr_any k w hkm
          have f0 := told_er
          have f1 := told_val
          cases hib : inB f t (addrN k) with
          | true =>
            have CDB : Hid (∀ w P, DX VD V w P g (ShF its f t) → Calls Tryz.prog 14 #[.pointer (some ⟨g, 0, none⟩), .agg #[.int .i64 2, .string k, .string v, .string ⟨#[]⟩, .int .i64 0]] w fun e w' => ∃ A c, e = .returned (.agg #[.int .i64 7, .string ⟨#[]⟩, .slice A 0 c, .bool false, .string ⟨#[]⟩, .int .i64 0]) ∧ DX VD V w' P g (ShF its f t) ∧ Kept P w w') := fun w P h => by
              refine (h.do_ L ⟨2, k, v, ⟨#[]⟩, 0⟩ (ck1 2 (by omega) v h5) (by show 1 ≤ 1000; decide) (by show 0 ≤ 1000; decide)).mono ?_
              rintro e w' ⟨t0, s1, S, hd, rfl, ho, hx, hk⟩
              obtain ⟨rfl, rfl⟩ := ShF_busy hd h3 h4 hib
              obtain ⟨A, b, rfl⟩ := own_slice ho
              exact ⟨A, b, rfl, hx.less (fun q hq => List.mem_append_right _ hq), hk⟩
            have CIK : Hid (∀ w, Calls Tryz.prog 21 #[.agg #[.int .u64 (f : Nat), .int .u64 (t : Nat)], .int .u64 (addrN k : Nat)] w fun e w' => e = .returned (.bool true) ∧ Below w.heap.size w w') := fun w => by
              have z := in_any f t (addrN k) w hf ht (addrN_lt _)
              rwa [hib] at z
            have HIB := Lib.hid hib
            clear hib
            generalize addrN k = ad at CAK CIK
            go_upto_region 24 with (go_at_call 14; (with_reducible refine (CDB.out _ _ X7.out).mono ?_); rintro e w8 ⟨A8, c8, rfl, x8, k8⟩; have X8 := Lib.hid x8; have K8 := Lib.hid (k8.row K7.out (fun q hq => List.mem_append_right _ (by simp [hq]))); clear x8 k8)
            obtain ⟨wa, hwa⟩ : ∃ w, w8.alloc (.cells #[.int .i64 7, .string ⟨#[]⟩, .slice A8 0 c8, .bool false, .string ⟨#[]⟩, .int .i64 0] 34) = w := ⟨_, rfl⟩
            have BA : Hid (Below w8.heap.size w8 wa) := by rw [← hwa]; exact (Below.refl _ _).alloc (Nat.le_refl _) _
            have cx : wa.cell? ⟨w8.heap.size, 0, none⟩ = some (.int .i64 7) := by rw [← hwa]; exact told_new0 _ _ _ _ _ _ _ _
            have hlz : w8.heap.size < wa.heap.size := by rw [← hwa]; simp
            have X9 := Lib.hid (X8.out.below L BA.out)
            have K9 := Lib.hid ((Touch.ofBelow (F := []) BA.out).row K8.out (by simp))
            have HS : Hid (∀ w', Below wa.heap.size wa w' → w'.cell? ⟨W.heap.size, 0, none⟩ = some (.int .u64 (f : Nat)) ∧ w'.cell? ⟨W.heap.size, 1, none⟩ = some (.int .u64 (t : Nat)) ∧ w'.cell? ⟨w8.heap.size, 0, none⟩ = some (.int .i64 7)) := fun w' hw => by
              have z := HSS.out _ (acc X9.out.base hw)
              exact ⟨z.1, z.2, (hw.cell (p := ⟨w8.heap.size, 0, none⟩) hlz).trans cx⟩
            rw [hwa]
            obtain ⟨qx, hqx⟩ : ∃ q, w8.heap.size = q := ⟨_, rfl⟩
            rw [hqx] at HS ⊢
            clear hwa cx hlz hqx
            have B9 := Lib.hid ((Below.refl wa.heap.size wa).drew)
            go_region_held3 (fun w' => w'.cell? ⟨W.heap.size, 0, none⟩ = some (.int .u64 (f : Nat)) ∧ w'.cell? ⟨W.heap.size, 1, none⟩ = some (.int .u64 (t : Nat)) ∧ w'.cell? ⟨qx, 0, none⟩ = some (.int .i64 7)) (first | exact HS.out _ B10.out | exact HS.out _ B9.out)
              (first
                | (go_at_call 22; (with_reducible refine (CAK.out _).mono ?_); rintro e w9 ⟨rfl, rfl⟩)
                | (go_at_call 21; (with_reducible refine (CIK.out _).mono ?_); rintro e w9 ⟨rfl, h9⟩; have B10 := Lib.hid (acc B9.out h9); clear h9))
            have X10 := Lib.hid (X9.out.below L B10.out)
            have K10 := Lib.hid ((Touch.ofBelow (F := []) B10.out).row K9.out (by simp))
            obtain ⟨-, -, cz⟩ := HS.out _ B10.out
            clear HS X9 K9 X8 K8 B10 B9 BA CDB CIK CAK
            go_upto_region 28 with (first
              | (go_at_call 15; (with_reducible refine (CI.out _ _ _ rfl X10.out).mono ?_); rintro e w11 ⟨A11, c11, rfl, r11, h11⟩; have X11 := Lib.hid (X10.out.below L h11); have K11 := Lib.hid ((Touch.ofBelow (F := []) h11).row K10.out (by simp)); have R11 := Lib.hid (own_lower r11 (Nat.zero_le _)); clear r11 h11)
              | (go_at_call 23; (with_reducible refine (CSA.out _ _ _ _ _ R11.out K11.out).mono ?_); rintro e w12 ⟨rfl, nq, rfl⟩; have X12 : Hid (DX VD V (w11.drewN nq) _ g (ShF its f t)) := X11.out.below L ⟨rfl, rfl, rfl, Nat.le_refl _, fun _ _ => rfl⟩))
            have X13 : Hid (DX VD V _ [] g (ShF its f t)) := X12.out.less (by simp)
            go_wp2_with (first
              | (go_at_call 24; (with_reducible refine (CT.out _ _ X13.out).mono ?_); rintro e w14 ⟨rfl, x14⟩; have X14 := Lib.hid x14; clear x14)
              | (go_at_call 14; (with_reducible refine (CP2.out _ its (by omega) X14.out).mono ?_); rintro e w15 ⟨A15, c15, rfl, x15⟩; have X15 := Lib.hid x15; clear x15)
              | (go_at_call 14; (with_reducible refine (CG2.out _ _ HRI.out X15.out).mono ?_); rintro e w16 ⟨A16, c16, rfl, x16⟩))
            go_ret
            exact ⟨by first | rfl | simp, acc HBV.out x16⟩
          | false =>
            have CDB : Hid (∀ w P, DX VD V w P g (ShF its f t) → Calls Tryz.prog 14 #[.pointer (some ⟨g, 0, none⟩), .agg #[.int .i64 2, .string k, .string v, .string ⟨#[]⟩, .int .i64 0]] w fun e w' => ∃ A c, e = .returned (.agg #[.int .i64 0, .string ⟨#[]⟩, .slice A 0 c, .bool false, .string ⟨#[]⟩, .int .i64 0]) ∧ DX VD V w' P g (ShF (putN its k v) f t) ∧ Kept P w w') := fun w P h => by
              refine (h.do_ L ⟨2, k, v, ⟨#[]⟩, 0⟩ (ck1 2 (by omega) v h5) (by show 1 ≤ 1000; decide) (by show 0 ≤ 1000; decide)).mono ?_
              rintro e w' ⟨t0, s1, S, hd, rfl, ho, hx, hk⟩
              obtain ⟨rfl, rfl⟩ := ShF_put hd h3 h4 (by omega) h5 hib
              obtain ⟨A, b, rfl⟩ := own_slice ho
              exact ⟨A, b, rfl, hx.less (fun q hq => List.mem_append_right _ hq), hk⟩
            have CIK : Hid (∀ w, Calls Tryz.prog 21 #[.agg #[.int .u64 (f : Nat), .int .u64 (t : Nat)], .int .u64 (addrN k : Nat)] w fun e w' => e = .returned (.bool false) ∧ Below w.heap.size w w') := fun w => by
              have z := in_any f t (addrN k) w hf ht (addrN_lt _)
              rwa [hib] at z
            have HIB := Lib.hid hib
            clear hib
            generalize addrN k = ad at CAK CIK
            go_upto_region 24 with (go_at_call 14; (with_reducible refine (CDB.out _ _ X7.out).mono ?_); rintro e w8 ⟨A8, c8, rfl, x8, k8⟩; have X8 := Lib.hid x8; have K8 := Lib.hid (k8.row K7.out (fun q hq => List.mem_append_right _ (by simp [hq]))); clear x8 k8)
            obtain ⟨wa, hwa⟩ : ∃ w, w8.alloc (.cells #[.int .i64 0, .string ⟨#[]⟩, .slice A8 0 c8, .bool false, .string ⟨#[]⟩, .int .i64 0] 34) = w := ⟨_, rfl⟩
            have BA : Hid (Below w8.heap.size w8 wa) := by rw [← hwa]; exact (Below.refl _ _).alloc (Nat.le_refl _) _
            have cx : wa.cell? ⟨w8.heap.size, 0, none⟩ = some (.int .i64 0) := by rw [← hwa]; exact told_new0 _ _ _ _ _ _ _ _
            have hlz : w8.heap.size < wa.heap.size := by rw [← hwa]; simp
            have X9 := Lib.hid (X8.out.below L BA.out)
            have K9 := Lib.hid ((Touch.ofBelow (F := []) BA.out).row K8.out (by simp))
            have HS : Hid (∀ w', Below wa.heap.size wa w' → w'.cell? ⟨W.heap.size, 0, none⟩ = some (.int .u64 (f : Nat)) ∧ w'.cell? ⟨W.heap.size, 1, none⟩ = some (.int .u64 (t : Nat)) ∧ w'.cell? ⟨w8.heap.size, 0, none⟩ = some (.int .i64 0)) := fun w' hw => by
              have z := HSS.out _ (acc X9.out.base hw)
              exact ⟨z.1, z.2, (hw.cell (p := ⟨w8.heap.size, 0, none⟩) hlz).trans cx⟩
            rw [hwa]
            obtain ⟨qx, hqx⟩ : ∃ q, w8.heap.size = q := ⟨_, rfl⟩
            rw [hqx] at HS ⊢
            clear hwa cx hlz hqx
            have B9 := Lib.hid ((Below.refl wa.heap.size wa).drew)
            go_region_held3 (fun w' => w'.cell? ⟨W.heap.size, 0, none⟩ = some (.int .u64 (f : Nat)) ∧ w'.cell? ⟨W.heap.size, 1, none⟩ = some (.int .u64 (t : Nat)) ∧ w'.cell? ⟨qx, 0, none⟩ = some (.int .i64 0)) (first | exact HS.out _ B10.out | exact HS.out _ B9.out)
              (first
                | (go_at_call 22; (with_reducible refine (CAK.out _).mono ?_); rintro e w9 ⟨rfl, rfl⟩)
                | (go_at_call 21; (with_reducible refine (CIK.out _).mono ?_); rintro e w9 ⟨rfl, h9⟩; have B10 := Lib.hid (acc B9.out h9); clear h9))
            have X10 := Lib.hid (X9.out.below L B10.out)
            have K10 := Lib.hid ((Touch.ofBelow (F := []) B10.out).row K9.out (by simp))
            obtain ⟨-, -, cz⟩ := HS.out _ B10.out
            clear HS X9 K9 X8 K8 B10 B9 BA CDB CIK CAK
            go_upto_region 28 with fail
            have X13 : Hid (DX VD V _ [] g (ShF (putN its k v) f t)) := X10.out.less (by simp)
            go_wp2_with (first
              | (go_at_call 24; (with_reducible refine (CT.out _ _ X13.out).mono ?_); rintro e w14 ⟨rfl, x14⟩; have X14 := Lib.hid x14; clear x14)
              | (go_at_call 14; (with_reducible refine (CP2.out _ (putN its k v) (by have := putN_more its k v; omega) X14.out).mono ?_); rintro e w15 ⟨A15, c15, rfl, x15⟩; have X15 := Lib.hid x15; clear x15)
              | (go_at_call 14; (with_reducible refine (CG2.out _ _ (HRI.out.put k v) X15.out).mono ?_); rintro e w16 ⟨A16, c16, rfl, x16⟩))
            go_ret
            exact ⟨by first | rfl | simp, acc HBV.out x16⟩
end
end Go.Proofs.YthgndgoljchnfaaGreat
