import Derived.Test.YtnjodhglbapnlaaGreatGg03
import Derived.Test.YtnjodhglbapnlaaGreatGg01
import Derived.Test.YtnjodhglbapnlaaGreatGg02
import Derived.Laws.AppendOwnNone
import Derived.Deep.RegionHeld3
import Derived.Deep.DeepCutAuto
import Derived.Laws.Rows
import Derived.Handy
set_option maxRecDepth 100000
set_option maxHeartbeats 16000000
namespace Go.Proofs.YtnjodhglbapnlaaGreat
open Go.RowKit
theorem yq8 {n : Int} (h : n < 0) : min (max n 0) 200 = 0 := by
 rw [Int.max_eq_right (by omega)]; rfl
theorem yq9 {n : Int} (h : 0 ≤ n) (h2 : n ≤ 200) : min (max n 0) 200 = n := by
 rw [Int.max_eq_left h, Int.min_eq_left h2]
theorem yra {n : Int} (h : 200 < n) : min (max n 0) 200 = 200 := by
 rw [Int.max_eq_left (by omega), Int.min_eq_right (by omega)]
theorem yjn (W : World) (k n : Nat) : (W.drewN k).drewN n = W.drewN (k + n) := by simp [World.drewN, Nat.add_assoc]
theorem yrb (most : Int) (W : World) (_h0 : -9223372036854775808 ≤ most) (_h1 : most ≤ 9223372036854775807) :
  Calls Tryz.prog 115 #[.int .i64 most] W fun e w' => e = .returned (.pointer (some ⟨W.heap.size, 0, none⟩)) ∧ Below W.heap.size W w' ∧ RS w' W.heap.size [] (min (max most 0) 200) [] := by
 clear _h0 _h1
 rcases (by omega : most < 0 ∨ (0 ≤ most ∧ most ≤ 200) ∨ 200 < most) with h | ⟨h, h'⟩ | h
 ·go_enter Tryz.func115, Tryz.ntmps115
  go_wp2
  go_ret
  exact ⟨rfl, (Below.refl _ _).alloc (Nat.le_refl _) _, none, 0, ⟨by simp, by rw [World.cell?_alloc_new, yq8 h]; rfl, by go_simp, by go_simp, by go_simp⟩, World.ownsRow_nil _ _ _ _, (fun q hq => by cases hq), (fun q hq => by cases hq)⟩
 ·go_enter Tryz.func115, Tryz.ntmps115
  go_wp2
  go_ret
  exact ⟨rfl, (Below.refl _ _).alloc (Nat.le_refl _) _, none, 0, ⟨by simp, by rw [World.cell?_alloc_new, yq9 h h']; rfl, by go_simp, by go_simp, by go_simp⟩, World.ownsRow_nil _ _ _ _, (fun q hq => by cases hq), (fun q hq => by cases hq)⟩
 ·go_enter Tryz.func115, Tryz.ntmps115
  go_wp2
  go_ret
  exact ⟨rfl, (Below.refl _ _).alloc (Nat.le_refl _) _, none, 0, ⟨by simp, by rw [World.cell?_alloc_new, yra h]; rfl, by go_simp, by go_simp, by go_simp⟩, World.ownsRow_nil _ _ _ _, (fun q hq => by cases hq), (fun q hq => by cases hq)⟩
def yds (x y : Item) : Bool := x.1.toList == y.1.toList && x.2.toList == y.2.toList
def ycl : List Item → List Item → Bool
 | [], [] => true
 | x :: a, y :: b => yds x y && ycl a b
 | _, _ => false
theorem yjo (x y : Item) : yds x y = true ↔ x = y := by
 unfold yds
 rw [Bool.and_eq_true, beq_iff_eq, beq_iff_eq]
 constructor
 ·intro ⟨h1, h2⟩
  have e1 : x.1 = y.1 := by rw [Lib.toList_data, Lib.toList_data] at h1; rw [← yhf x.1, ← yhf y.1, h1]
  have e2 : x.2 = y.2 := by rw [Lib.toList_data, Lib.toList_data] at h2; rw [← yhf x.2, ← yhf y.2, h2]
  exact Prod.ext e1 e2
 ·intro h; rw [h]; exact ⟨rfl, rfl⟩
theorem ygf : ∀ a b : List Item, ycl a b = true ↔ a = b
 | [], [] => by simp [ycl]
 | [], _ :: _ => by simp [ycl]
 | _ :: _, [] => by simp [ycl]
 | x :: a, y :: b => by rw [ycl, Bool.and_eq_true, yjo, ygf a b, List.cons.injEq]
theorem yrc : ∀ a b : List Item, ycl a b = true → a.length = b.length := fun a b h => by rw [(ygf a b).1 h]
theorem yrd (a b : List Item) (h : a.length = b.length) (hs : ∀ j (h1 : j < a.length) (h2 : j < b.length), yds (a[j]) (b[j]) = true) : ycl a b = true := by
 rw [ygf]
 exact List.ext_getElem h (fun j h1 h2 => (yjo _ _).1 (hs j h1 h2))
theorem yjp (a b : List Item) (j : Nat) (h1 : j < a.length) (h2 : j < b.length) (hs : yds (a[j]) (b[j]) = false) : ycl a b = false := by
 cases h : ycl a b with
 | false => rfl
 | true =>
  have e := (ygf a b).1 h
  subst e
  have : yds (a[j]) (a[j]) = true := (yjo _ _).2 rfl
  rw [this] at hs
  cases hs
theorem yre (a b : List Item) (h : a.length ≠ b.length) : ycl a b = false := by
 cases h1 : ycl a b with
 | false => rfl
 | true => exact absurd (yrc a b h1) h
theorem yrf (A B : Option Addr) (c d : Nat) (a b : List Item) (W : World) (hA : Row W (.slice A a.length c) a) (hB : Row W (.slice B b.length d) b) :
  Calls Tryz.prog 26 #[.slice A a.length c, .slice B b.length d] W fun e w' => e = .returned (.bool (ycl a b)) ∧ ∃ n, w' = W.drewN n := by
 have hla := hA.len
 have hlb := hB.len
 have HA := Lib.hid hA
 have HB := Lib.hid hB
 obtain ⟨n, hn⟩ : ∃ n, a.length = n := ⟨_, rfl⟩
 obtain ⟨m, hm⟩ : ∃ m, b.length = m := ⟨_, rfl⟩
 have HN := Lib.hid hn
 have HM := Lib.hid hm
 rw [hn] at hla ⊢
 rw [hm] at hlb ⊢
 clear hA hB hn hm
 by_cases hnm : n = m
 ·subst hnm
  go_enter Tryz.func26, Tryz.ntmps26
  go_wp2
  go_loopg [5] (n + 1) (fun gh s5 wx => ∃ (i k : Nat), i + gh = n + 1 ∧ i ≤ n ∧ s5 = .int .i64 i ∧ Hid (∀ j (h : j < a.length) (h' : j < b.length), j < i → yds (a[j]) (b[j]) = true) ∧ wx = W.drewN k)
  case atStart => exact ⟨0, 0, by omega, by omega, rfl, fun j _ _ h => by omega, rfl⟩
  case round =>
   obtain ⟨i, k, hig, hi, rfl, HS, rfl⟩ := hrel
   by_cases hlt : i < n
   ·have ha' : i < a.length := by rw [HN.out]; exact hlt
    have hb' : i < b.length := by rw [HM.out]; exact hlt
    obtain ⟨q, rfl⟩ := HA.out.atBlock (by omega)
    obtain ⟨r, rfl⟩ := HB.out.atBlock (by omega)
    have p0 := (HA.out.cellAt (i * 2) (by omega)).trans (ycc a i ha')
    have p1 := (HA.out.cellAt (i * 2 + 1) (by omega)).trans (yci a i ha')
    have r0 := (HB.out.cellAt (i * 2) (by omega)).trans (ycc b i hb')
    have r1 := (HB.out.cellAt (i * 2 + 1) (by omega)).trans (yci b i hb')
    have hx9 : yds (a[i]) (b[i]) = ((a[i]).1.toList == (b[i]).1.toList && (a[i]).2.toList == (b[i]).2.toList) := by rw [yds]
    have HX := Lib.hid hx9
    clear hx9
    generalize (a[i]).1 = x1 at *
    generalize (a[i]).2 = x2 at *
    generalize (b[i]).1 = y1 at *
    generalize (b[i]).2 = y2 at *
    go_upto_region 6 with fail
    cases hb1 : (x1.toList == y1.toList) <;> cases hb2 : (x2.toList == y2.toList)
    all_goals
     go_quiet (fail)
    ·go_wp2
     go_ret
     exact ⟨by rw [yjp a b i ha' hb' (by rw [HX.out, hb1]; rfl)]; rfl, k + nq, yjn _ _ _⟩
    ·go_wp2
     go_ret
     exact ⟨by rw [yjp a b i ha' hb' (by rw [HX.out, hb1]; rfl)]; rfl, k + nq, yjn _ _ _⟩
    ·go_wp2
     go_ret
     exact ⟨by rw [yjp a b i ha' hb' (by rw [HX.out, hb1, hb2]; rfl)]; rfl, k + nq, yjn _ _ _⟩
    ·go_wp2
     go_roundg (gk - 1)
     case measure => omega
     case rel =>
      refine ⟨i + 1, k + nq, by omega, by omega, by go_num, fun j h1 h2 hj => ?_, rfl⟩
      rcases Nat.lt_succ_iff_lt_or_eq.1 hj with h | rfl
      ·exact HS.out j h1 h2 h
      ·rw [HX.out, hb1, hb2]; rfl
   ·obtain rfl : i = n := by omega
    go_wp2
    go_ret
    exact ⟨by rw [yrd a b (by rw [HN.out, HM.out]) (fun j h1 h2 => HS.out j h1 h2 (by rw [HN.out] at h1; exact h1))]; rfl, k, rfl⟩
 ·have hd : ((n : Int) != (m : Int)) = true := by rw [bne_iff_ne]; omega
  have HF := Lib.hid (yre a b (by rw [HN.out, HM.out]; exact hnm))
  go_enter Tryz.func26, Tryz.ntmps26
  go_wp2
  go_ret
  exact ⟨by rw [HF.out]; rfl, 0, rfl⟩
def yep (W : World) (l : List Item) (e : Ending) (w' : World) : Prop :=
 ∃ A c, e = .returned (.slice A l.length c) ∧ w'.ownsRow W.heap.size 96 2 (.slice A l.length c) l.length (yaa l) ∧ Below W.heap.size W w'
abbrev ohC (nd : Int) (p : AO) : Array Value := #[.int .u64 (p.f : Nat), .int .u64 (p.t : Nat), .int .i64 nd, .int .i64 p.e]
theorem yl7 (nd : Int) (p : AO) : (ohC nd p).size = 4 := rfl
def ownL (l : List AO) (x : Nat) : Option Int := (l.find? fun p => inB p.f p.t x).map (·.e)
theorem yjq (x : Nat) : ownL [] x = none := rfl
theorem yfn (p : AO) (l : List AO) (x : Nat) : ownL (p :: l) x = if inB p.f p.t x = true then some p.e else ownL l x := by
 unfold ownL
 rw [List.find?_cons]
 cases inB p.f p.t x <;> rfl
theorem yrg (l : List AO) (p : AO) (x : Nat) : ownL (l ++ [p]) x = match ownL l x with | some e => some e | none => if inB p.f p.t x = true then some p.e else none := by
 induction l with
 | nil => rw [List.nil_append, yfn, yjq]
 | cons q l ih =>
  rw [List.cons_append, yfn, yfn, ih]
  split <;> rfl
theorem yrh {l : List AO} {x : Nat} {e : Int} (h : ownL l x = some e) : ∃ p ∈ l, inB p.f p.t x = true ∧ p.e = e := by
 induction l with
 | nil => cases h
 | cons q l ih =>
  rw [yfn] at h
  split at h
  ·rename_i hq
   exact ⟨q, by simp, hq, Option.some.inj h⟩
  ·obtain ⟨p, h1, h2⟩ := ih h
   exact ⟨p, by simp [h1], h2⟩
theorem yjr {l : List AO} {x : Nat} : ownL l x = none ↔ ∀ p ∈ l, inB p.f p.t x = false := by
 induction l with
 | nil => simp [yjq]
 | cons q l ih =>
  rw [yfn]
  cases hq : inB q.f q.t x with
  | true => simp [hq]
  | false => simp [hq, ih]
structure RH (w : World) (r rs : Nat) (Fs : List Nat) (s : HO) (l : List AO) (V P : Value) (f t : Nat) : Prop where
 hr : w.heap[r]? = some (.cells #[.int .i64 s.nd, .int .i64 s.most, .int .i64 (s.kept : Nat), V, .pointer (some ⟨rs, 0, none⟩), .bool s.g.shut, .int .u64 (f : Nat), .int .u64 (t : Nat), P] 78)
 vl : w.ownsRow 0 152 4 V l.length (rowC (ohC s.nd) l)
 vp : w.ownsRow 0 181 4 P s.g.l.length (gpC s.g.l)
 sh : RS w rs Fs s.most s.its
 shut : s.g.shut = true → f = s.g.f ∧ t = s.g.t
 own : ∀ x, x < 18446744073709551616 → s.own x = ownL l x
 fl : ∀ p ∈ l, p.f < 18446744073709551616 ∧ p.t < 18446744073709551616 ∧ 0 ≤ p.e ∧ p.e ≤ 9223372036854775807
 fg : ∀ p ∈ s.g.l, p.Fit
 ft : f < 18446744073709551616 ∧ t < 18446744073709551616
 ap : r ≠ rs ∧ r ∉ Fs ∧ (∀ q, V.ownBlock = some q → q ≠ r ∧ q ≠ rs ∧ q ∉ Fs) ∧ (∀ q, P.ownBlock = some q → q ≠ r ∧ q ≠ rs ∧ q ∉ Fs)
 few : l.length ≤ s.k
 fm : 0 ≤ s.most ∧ s.most ≤ 200 ∧ (s.its.length : Int) ≤ s.most ∧ (s.kept : Int) ≤ s.most
abbrev RH.blocks (r rs : Nat) (Fs : List Nat) (V P : Value) : List Nat := r :: rs :: (Fs ++ (V.ownBlock.toList ++ P.ownBlock.toList))
section
variable {w w' : World} {r rs f t : Nat} {Fs : List Nat} {s : HO} {l : List AO} {V P : Value}
theorem RH.lt (h : RH w r rs Fs s l V P f t) : r < w.heap.size := yjm h.hr
theorem RH.touch {G : List Nat} (h : RH w r rs Fs s l V P f t) (k : Touch G w w') (hG : ∀ q ∈ RH.blocks r rs Fs V P, q ∉ G) : RH w' r rs Fs s l V P f t :=
 ⟨(k.block r h.lt (hG r (by simp))).trans h.hr, k.row h.vl (fun q hq => hG q (by simp [hq])), k.row h.vp (fun q hq => hG q (by simp [hq])), h.sh.touch k (hG rs (by simp)) (fun q hq => hG q (by simp [hq])), h.shut, h.own, h.fl, h.fg, h.ft, h.ap, h.few, h.fm⟩
theorem RH.below (h : RH w r rs Fs s l V P f t) (k : Below w.heap.size w w') : RH w' r rs Fs s l V P f t := h.touch (Touch.ofBelow (F := []) k) (by simp)
theorem RH.all_lt (h : RH w r rs Fs s l V P f t) : ∀ q ∈ RH.blocks r rs Fs V P, q < w.heap.size := by
 intro q hq
 simp only [RH.blocks, List.mem_cons, List.mem_append] at hq
 obtain ⟨A, c, ⟨h1, _⟩, _, _, h8⟩ := h.sh
 rcases hq with rfl | rfl | hq | hq | hq
 ·exact h.lt
 ·exact h1
 ·exact (h8 q hq).1
 ·exact (h.vl.lt q (by simpa using hq)).2
 ·exact (h.vp.lt q (by simpa using hq)).2
end
theorem yjs {W : World} {base e size c n : Nat} {A : Option Addr} {xs : List Value} (h : W.ownsRow base e size (.slice A n c) n xs) (hn : 1 ≤ n) : ∃ q, A = some ⟨q, 0, none⟩ := by
 rcases h.2 with ⟨_, h1⟩ | ⟨g, cap, cur, h0, _⟩
 ·omega
 ·injection h0 with h1 _ _
  exact ⟨g, h1⟩
theorem yri {W : World} {r rs f t : Nat} {Fs : List Nat} {s : HO} {l : List AO} {V P : Value} (h : RH W r rs Fs s l V P f t) (hl : l.length ≤ 100000) (x : Nat) (hx : x < 18446744073709551616) :
  Calls Tryz.prog 144 #[.pointer (some ⟨r, 0, none⟩), .int .u64 (x : Nat)] W fun e w' => e = .returned (.int .i64 ((ownL l x).getD (-1))) ∧ Below W.heap.size W w' := by
 obtain ⟨n, hn⟩ : ∃ n, l.length = n := ⟨_, rfl⟩
 have C : Hid (∀ p ∈ l, ∀ W, Calls Tryz.prog 102 #[.agg #[.int .u64 (p.f : Nat), .int .u64 (p.t : Nat)], .int .u64 (x : Nat)] W fun e w' => e = .returned (.bool (inB p.f p.t x)) ∧ Below W.heap.size W w') := fun p hpl W => yf3 p.f p.t x W (h.fl p hpl).1 (h.fl p hpl).2.1 hx
 have hv := h.vl
 rw [hn] at hv
 obtain ⟨A, c, rfl⟩ := yav hv
 have c3 : Hid (∀ w, Below W.heap.size W w → w.cell? ⟨r, 3, none⟩ = some (.slice A n c)) := fun w hb => (hb.cell (p := ⟨r, 3, none⟩) h.lt).trans (ya4 h.hr rfl)
 have HO_ := Lib.hid hv
 have HN := Lib.hid hn
 rw [hn] at hl
 obtain ⟨o, ho⟩ : ∃ o, ownL l x = o := ⟨_, rfl⟩
 rw [ho]
 have HOV := Lib.hid ho
 have b3 := c3.out W (Below.refl _ _)
 clear h hv hn hx ho
 go_enter Tryz.func144, Tryz.ntmps144
 go_wp2
 clear b3
 go_loopg [5] (n + 1) (fun gh s5 wx => ∃ i : Nat, i + gh = n + 1 ∧ i ≤ n ∧ s5 = .int .i64 (i : Nat) ∧ Hid (ownL (l.drop i) x = o) ∧ Hid (Below W.heap.size W wx))
 case atStart => exact ⟨0, by omega, by omega, rfl, HOV, Below.refl _ _⟩
 case round =>
  obtain ⟨i, hig, hi, rfl, HV, HB⟩ := hrel
  have b3 := c3.out wr HB.out
  by_cases hlt : i < n
  ·have i1 : (i : Int) < (n : Int) := by omega
   have zi : IntKind.i64.wrap ((i : Int) + 1) = (i : Int) + 1 := by rw [IntKind.wrap_i64]; omega
   have hj : i < l.length := by rw [HN.out]; exact hlt
   obtain ⟨q, rfl⟩ := yjs HO_.out (by omega)
   have hst : ownL (l.drop i) x = (if inB l[i].f l[i].t x = true then some l[i].e else ownL (l.drop (i + 1)) x) := by rw [List.drop_eq_getElem_cons hj, yfn]
   rw [HV.out] at hst
   have hm := List.getElem_mem hj
   have CC := Lib.hid (C.out _ hm)
   have cell : ∀ k v, k < 4 → (ohC s.nd l[i])[k]? = some v → wr.cell? ⟨q, i * 4 + k, none⟩ = some v := fun k v hk hv => by
    have z := HO_.out.cells (g := q) rfl (i * 4 + k) v (by rw [yeo (yl7 s.nd) l i k l[i] (List.getElem?_eq_getElem hj) hk]; exact hv)
    rw [Go.WideShapes.add_plain, Nat.zero_add] at z
    exact (HB.out.cell (p := ⟨q, i * 4 + k, none⟩) (HO_.out.lt q rfl).2).trans z
   generalize l[i] = p at *
   have e0 := cell 0 _ (by decide) rfl
   have e1 := cell 1 _ (by decide) rfl
   have e2 := cell 3 _ (by decide) rfl
   rw [Nat.add_zero] at e0
   clear cell hm
   cases hin : inB p.f p.t x with
   | true =>
    rw [hin] at CC hst
    rw [if_pos rfl] at hst
    subst hst
    go_wp2_with (go_at_call 102; (with_reducible refine (CC.out _).mono ?_); rintro e w1 ⟨rfl, h1⟩; have b4 := c3.out w1 (acc HB.out h1); have e3 := (h1.cell (p := ⟨q, i * 4 + 3, none⟩) (World.block_lt_of_cell? _ _ e2)).trans e2; have HB1 := Lib.hid (acc HB.out h1); clear h1)
    go_ret
    exact ⟨rfl, HB1.out⟩
   | false =>
    rw [hin] at CC hst
    have HST : Hid (ownL (l.drop (i + 1)) x = o) := (if_neg (by decide)).symm.trans hst.symm
    clear hst
    go_wp2_with (go_at_call 102; (with_reducible refine (CC.out _).mono ?_); rintro e w1 ⟨rfl, h1⟩; have HB1 := Lib.hid (acc HB.out h1); clear h1)
    go_roundg (gk - 1)
    case measure => omega
    case rel => exact ⟨i + 1, by omega, by omega, by go_num, HST, HB1⟩
  ·have i1 : ¬ (i : Int) < (n : Int) := by omega
   have hv := HV.out
   rw [List.drop_eq_nil_of_le (by rw [HN.out]; omega), yjq] at hv
   subst hv
   go_wp2_with fail
   go_ret
   exact ⟨rfl, HB.out⟩
theorem yrj {l : List AO} (h : ∀ p ∈ l, 0 ≤ p.e) {x : Nat} {e : Int} (he : ownL l x = some e) : 0 ≤ e := by
 obtain ⟨p, h1, -, rfl⟩ := yrh he
 exact h p h1
theorem yrk {W : World} {r rs f t : Nat} {Fs : List Nat} {s : HO} {l : List AO} {V P : Value} (h : RH W r rs Fs s l V P f t) (hl : l.length ≤ 100000) (x : Nat) (hx : x < 18446744073709551616) :
  Calls Tryz.prog 64 #[.pointer (some ⟨r, 0, none⟩), .int .u64 (x : Nat)] W fun e w' => e = .returned (.bool (s.own x).isSome) ∧ Below W.heap.size W w' := by
 have C := Lib.hid (yri h hl x hx)
 rw [h.own x hx]
 have hp : ∀ e, ownL l x = some e → 0 ≤ e := fun e he => yrj (fun p hp => (h.fl p hp).2.2.1) he
 clear h hx
 generalize ownL l x = o at *
 go_enter Tryz.func64, Tryz.ntmps64
 cases o with
 | none =>
  have d0 : ¬ ((-1 : Int) ≥ 0) := by omega
  go_wp2_with (go_at_call 144; (with_reducible refine C.out.mono ?_); rintro e w1 ⟨rfl, h1⟩)
  go_ret
  exact ⟨rfl, h1⟩
 | some e =>
  have d0 : e ≥ 0 := hp e rfl
  have d1 : decide (e ≥ 0) = true := decide_eq_true d0
  go_wp2_with (go_at_call 144; (with_reducible refine C.out.mono ?_); rintro e w1 ⟨rfl, h1⟩)
  go_ret
  exact ⟨by simp, h1⟩
def yb1 (l : List AO) (f t : Nat) : Bool := l.all fun p => yat p.f p.t f t
theorem yrl (p : AO) (l : List AO) (f t : Nat) : yb1 (p :: l) f t = (yat p.f p.t f t && yb1 l f t) := by simp [yb1]
theorem yl8 {l : List AO} (h : ∀ p ∈ l, p.f < 18446744073709551616 ∧ p.t < 18446744073709551616) {f t : Nat} (hf : f < 18446744073709551616) (ht : t < 18446744073709551616) : yb1 l f t = true ↔ ∀ x, x < 18446744073709551616 → inB f t x = true → ownL l x = none := by
 unfold yb1
 rw [List.all_eq_true]
 constructor
 ·intro hA x hx hi
  rw [yjr]
  intro p hp
  have z := hA p hp
  rw [yf1] at z
  exact yf2 hf ht (h p hp).1 (h p hp).2 hx z hi
 ·intro hA p hp
  rw [ydd]
  obtain ⟨p1, p2⟩ := h p hp
  refine ⟨fun z => ?_, fun z => ?_⟩
  ·have := yjr.1 (hA f hf (ydo f t hf ht)) p hp
   rw [z] at this
   cases this
  ·have := yjr.1 (hA p.f p1 z) p hp
   rw [ydo p.f p.t p1 p2] at this
   cases this
theorem yrm {W : World} {r rs f t : Nat} {Fs : List Nat} {s : HO} {l : List AO} {V P : Value} (h : RH W r rs Fs s l V P f t) (hl : l.length ≤ 100000) (a b : Nat) (ha : a < 18446744073709551616) (hb : b < 18446744073709551616) :
  Calls Tryz.prog 119 #[.pointer (some ⟨r, 0, none⟩), .agg #[.int .u64 (a : Nat), .int .u64 (b : Nat)]] W fun e w' => e = .returned (.bool (yb1 l a b)) ∧ Below W.heap.size W w' := by
 obtain ⟨n, hn⟩ : ∃ n, l.length = n := ⟨_, rfl⟩
 obtain ⟨W0, hW0⟩ : ∃ w, W.alloc (.cells #[.int .u64 (a : Nat), .int .u64 (b : Nat)] 25) = w := ⟨_, rfl⟩
 obtain ⟨qb, hqb⟩ : ∃ q, W.heap.size = q := ⟨_, rfl⟩
 have HB0 : Hid (Below W.heap.size W W0) := by rw [← hW0]; exact (Below.refl _ _).alloc (Nat.le_refl _) _
 have HBX : Hid (∀ w, Below W0.heap.size W0 w → w.cell? ⟨qb, 0, none⟩ = some (.int .u64 (a : Nat)) ∧ w.cell? ⟨qb, 1, none⟩ = some (.int .u64 (b : Nat))) := by
  have BA := yfm W a b
  rw [hW0, hqb] at BA
  exact fun w hw => ⟨(BA.below hw).1, (BA.below hw).2⟩
 have C : Hid (∀ p ∈ l, ∀ W, Calls Tryz.prog 176 #[.agg #[.int .u64 (p.f : Nat), .int .u64 (p.t : Nat)], .agg #[.int .u64 (a : Nat), .int .u64 (b : Nat)]] W fun e w' => e = .returned (.bool (yat p.f p.t a b)) ∧ Below W.heap.size W w') := fun p hpl W => yp1 p.f p.t a b W (h.fl p hpl).1 (h.fl p hpl).2.1 ha hb
 have hv := h.vl
 rw [hn] at hv
 obtain ⟨A, c, rfl⟩ := yav hv
 have c3 : Hid (∀ w, Below W.heap.size W w → w.cell? ⟨r, 3, none⟩ = some (.slice A n c)) := fun w hb => (hb.cell (p := ⟨r, 3, none⟩) h.lt).trans (ya4 h.hr rfl)
 have HO_ := Lib.hid hv
 have HN := Lib.hid hn
 rw [hn] at hl
 obtain ⟨o, ho⟩ : ∃ o, yb1 l a b = o := ⟨_, rfl⟩
 rw [ho]
 have HOV := Lib.hid ho
 have b3 := c3.out W0 HB0.out
 clear h hv hn ha hb ho
 go_enter Tryz.func119, Tryz.ntmps119
 go_upto_region 1 with fail
 (try rw [hW0])
 (try rw [hqb])
 clear hW0 hqb
 go_wp2
 clear b3
 go_loopg [5] (n + 1) (fun gh s5 wx => ∃ i : Nat, i + gh = n + 1 ∧ i ≤ n ∧ s5 = .int .i64 (i : Nat) ∧ Hid (yb1 (l.drop i) a b = o) ∧ Hid (Below W0.heap.size W0 wx))
 case atStart => exact ⟨0, by omega, by omega, rfl, HOV, Below.refl _ _⟩
 case round =>
  obtain ⟨i, hig, hi, rfl, HV, HB2⟩ := hrel
  have HB := Lib.hid (acc HB0.out HB2.out)
  have b3 := c3.out wr HB.out
  by_cases hlt : i < n
  ·have i1 : (i : Int) < (n : Int) := by omega
   have zi : IntKind.i64.wrap ((i : Int) + 1) = (i : Int) + 1 := by rw [IntKind.wrap_i64]; omega
   have hj : i < l.length := by rw [HN.out]; exact hlt
   obtain ⟨q, rfl⟩ := yjs HO_.out (by omega)
   have hst : yb1 (l.drop i) a b = (yat l[i].f l[i].t a b && yb1 (l.drop (i + 1)) a b) := by rw [List.drop_eq_getElem_cons hj, yrl]
   rw [HV.out] at hst
   have hm := List.getElem_mem hj
   have CC := Lib.hid (C.out _ hm)
   have cell : ∀ w, Below W0.heap.size W0 w → ∀ k v, k < 4 → (ohC s.nd l[i])[k]? = some v → w.cell? ⟨q, i * 4 + k, none⟩ = some v := fun w hw k v hk hv => by
    have z := HO_.out.cells (g := q) rfl (i * 4 + k) v (by rw [yeo (yl7 s.nd) l i k l[i] (List.getElem?_eq_getElem hj) hk]; exact hv)
    rw [Go.WideShapes.add_plain, Nat.zero_add] at z
    exact ((acc HB0.out hw).cell (p := ⟨q, i * 4 + k, none⟩) (HO_.out.lt q rfl).2).trans z
   generalize l[i] = p at *
   have HS : Hid (∀ w, Below W0.heap.size W0 w → w.cell? ⟨r, 3, none⟩ = some (.slice (some ⟨q, 0, none⟩) n c) ∧ w.cell? ⟨q, i * 4, none⟩ = some (.int .u64 (p.f : Nat)) ∧ w.cell? ⟨q, i * 4 + 1, none⟩ = some (.int .u64 (p.t : Nat)) ∧ w.cell? ⟨qb, 0, none⟩ = some (.int .u64 (a : Nat)) ∧ w.cell? ⟨qb, 1, none⟩ = some (.int .u64 (b : Nat))) := fun w hw => ⟨c3.out w (acc HB0.out hw), (by have e0 := cell w hw 0 _ (by decide) rfl; rwa [Nat.add_zero] at e0), cell w hw 1 _ (by decide) rfl, HBX.out w hw⟩
   clear cell hm
   go_upto_region 4 with fail
   have B9 := Lib.hid (HB2.out.drew)
   cases hin : yat p.f p.t a b with
   | false =>
    rw [hin] at CC hst
    obtain rfl : o = false := hst
    go_region_held3 (fun w' => w'.cell? ⟨r, 3, none⟩ = some (.slice (some ⟨q, 0, none⟩) n c) ∧ w'.cell? ⟨q, i * 4, none⟩ = some (.int .u64 (p.f : Nat)) ∧ w'.cell? ⟨q, i * 4 + 1, none⟩ = some (.int .u64 (p.t : Nat)) ∧ w'.cell? ⟨qb, 0, none⟩ = some (.int .u64 (a : Nat)) ∧ w'.cell? ⟨qb, 1, none⟩ = some (.int .u64 (b : Nat))) (first | exact HS.out _ B10.out | exact HS.out _ B9.out)
     (first | (go_at_call 176; (with_reducible refine (CC.out _).mono ?_); rintro e w1 ⟨rfl, h1⟩; have B10 := Lib.hid (acc B9.out h1); clear h1))
    go_wp2_with fail
    go_ret
    exact ⟨rfl, acc HB0.out B10.out⟩
   | true =>
    rw [hin] at CC hst
    have HST : Hid (yb1 (l.drop (i + 1)) a b = o) := hst.symm
    clear hst
    go_region_held3 (fun w' => w'.cell? ⟨r, 3, none⟩ = some (.slice (some ⟨q, 0, none⟩) n c) ∧ w'.cell? ⟨q, i * 4, none⟩ = some (.int .u64 (p.f : Nat)) ∧ w'.cell? ⟨q, i * 4 + 1, none⟩ = some (.int .u64 (p.t : Nat)) ∧ w'.cell? ⟨qb, 0, none⟩ = some (.int .u64 (a : Nat)) ∧ w'.cell? ⟨qb, 1, none⟩ = some (.int .u64 (b : Nat))) (first | exact HS.out _ B10.out | exact HS.out _ B9.out)
     (first | (go_at_call 176; (with_reducible refine (CC.out _).mono ?_); rintro e w1 ⟨rfl, h1⟩; have B10 := Lib.hid (acc B9.out h1); clear h1))
    go_wp2_with fail
    go_roundg (gk - 1)
    case measure => omega
    case rel => exact ⟨i + 1, by omega, by omega, by go_num, HST, B10⟩
  ·have i1 : ¬ (i : Int) < (n : Int) := by omega
   have hv := HV.out
   rw [List.drop_eq_nil_of_le (by rw [HN.out]; omega)] at hv
   obtain rfl : o = true := hv.symm
   go_wp2_with fail
   go_ret
   exact ⟨rfl, HB.out⟩
theorem yh2 (nd : Int) (l : List AO) : ∀ u ∈ rowC (ohC nd) l, u.oneCell' = true := yjk fun p _ => by simp [ohC, Value.oneCell']
theorem yjt (w : World) (nd : Int) (p : AO) : ∀ j u, (rowC (ohC nd) [p])[j]? = some u → (w.alloc (.cells (ohC nd p) 152)).cell? ((⟨w.heap.size, 0, none⟩ : Addr).add j) = some u := by
 intro j u hj
 have hj : ((ohC nd p).toList)[j]? = some u := by rw [← hj]; simp [rowC]
 have : j = 0 ∨ j = 1 ∨ j = 2 ∨ j = 3 := by have := (List.getElem?_eq_some_iff.1 hj).1; simp at this; omega
 rw [Go.WideShapes.add_plain]
 rcases this with rfl | rfl | rfl | rfl <;> (simp at hj; subst hj; go_simp)
theorem yrn {w w1 : World} {nd : Int} {p : AO} (hb : Below (w.alloc (.cells (ohC nd p) 152)).heap.size (w.alloc (.cells (ohC nd p) 152)) w1) :
  ∀ j u, (rowC (ohC nd) [p])[j]? = some u → w1.cell? ((⟨w.heap.size, 0, none⟩ : Addr).add j) = some u := by
 intro j u hj
 refine Eq.trans ?_ (yjt w nd p j u hj)
 rw [Go.WideShapes.add_plain]
 exact hb.cell (by simp)
theorem yl9 : ∃ i z, Tryz.prog.info? 152 = some i ∧ i.zero = some z ∧ i.size = 4 ∧ i.bytes = 32 ∧ z.cells.size = 4 := by
 have h : (Tryz.prog.info? 152).map (fun i => (i.zero.isSome, i.size, i.bytes, (i.zero.getD undef).cells.size)) = some (true, 4, 32, 4) := by kernel_rfl
 obtain ⟨i, hi, hx⟩ := Option.map_eq_some_iff.1 h
 simp only [Prod.mk.injEq] at hx
 obtain ⟨h1, h2, h3, h4⟩ := hx
 obtain ⟨z, hz⟩ := Option.isSome_iff_exists.1 h1
 exact ⟨i, z, hi, hz, h2, h3, by rw [hz] at h4; exact h4⟩
theorem yeq {W : World} {base b0 e size n : Nat} {v : Value} {xs : List Value} (h : W.ownsRow base e size v n xs) (hb : b0 ≤ base) : W.ownsRow b0 e size v n xs := by
 refine ⟨h.1, ?_⟩
 rcases h.2 with h1 | ⟨g, cap, cur, h0, h2, h3⟩
 ·exact .inl h1
 ·exact .inr ⟨g, cap, cur, h0, Nat.le_trans hb h2, h3⟩
theorem yju {w : World} {base : Nat} {A : Option Addr} {c n : Nat} {nd : Int} {l : List AO} (h : w.ownsRow base 152 4 (.slice A n c) n (rowC (ohC nd) l)) (hl : n ≤ 100000) :
  ∃ A4 c4 w4, (Builtin.append_ #[72, 72] 72 #[.slice none 0 0, .slice A n c]).run Tryz.prog w = .ok (.slice A4 n c4) w4 ∧ w4.ownsRow w.heap.size 152 4 (.slice A4 n c4) n (rowC (ohC nd) l) ∧ Below w.heap.size w w4 := by
 obtain ⟨i0, z0, hi, hz, hsL, hbL, hzc⟩ := yl9
 obtain ⟨v', w', hr, h2, h3, h4⟩ := yhx (P := Tryz.prog) w w.heap.size 72 72 152 i0 z0 4 32 Tryz.underlying72 hi hz hsL hbL hzc (by decide) (.slice none 0 0) 0 [] (World.ownsRow_nil _ _ _ _) _ n (rowC (ohC nd) l) (From.own h) (yh2 _ _) (by unfold maxLen; omega) (by omega) (Nat.le_refl _)
 simp only [Nat.zero_add, List.nil_append] at h2
 obtain ⟨A4, c4, rfl⟩ := yav h2
 exact ⟨A4, c4, w', hr, h2, (Below.refl w.heap.size w).grown h3 (Nat.le_refl _) (fun z hz => by cases hz)⟩
theorem RH.owned {w w' : World} {r rs f t a b : Nat} {ep : Int} {Fs : List Nat} {s : HO} {l : List AO} {V P V' : Value} (h : RH w r rs Fs s l V P f t) (k : Below w.heap.size w w') (ho : w'.ownsRow w.heap.size 152 4 V' (l.length + 1) (rowC (ohC s.nd) (l ++ [⟨a, b, 0, ep⟩])))
  (ha : a < 18446744073709551616) (hb : b < 18446744073709551616) (h0 : 0 ≤ ep) (h1 : ep ≤ 9223372036854775807) (hap : yb1 l a b = true) :
  RH (w'.setCell ⟨r, 3, none⟩ V') r rs Fs (s.take a b ep) (l ++ [⟨a, b, 0, ep⟩]) V' P f t ∧ Touch [r] w (w'.setCell ⟨r, 3, none⟩ V') ∧ ∀ q, V'.ownBlock = some q → w.heap.size ≤ q := by
 have hb0 := (k.block r h.lt).trans h.hr
 have hnew : ∀ q, V'.ownBlock = some q → w.heap.size ≤ q := fun q hq => (ho.lt q hq).1
 have hall := h.all_lt
 have hn : ∀ q ∈ RH.blocks r rs Fs V P, ∀ k, V'.ownBlock = some k → k ≠ q := fun q hq k hk e => by have := hnew k hk; have := hall q hq; omega
 have t2 : Touch [r] w' (w'.setCell ⟨r, 3, none⟩ V') := (Touch.refl _ _).set (.inl (by simp)) _
 have t3 : Touch [r] w (w'.setCell ⟨r, 3, none⟩ V') := (Touch.ofBelow (F := [r]) k).trans t2 (fun x hx => .inl hx)
 have hap' := yl8 (fun p hp => ⟨(h.fl p hp).1, (h.fl p hp).2.1⟩) ha hb
 refine ⟨⟨by simp [World.setCell, Array.getElem?_modify, hb0, HO.take], ?_, t3.row h.vp (fun q hq z => (h.ap.2.2.2 q hq).1 (by simpa using z)), h.sh.touch t3 (by simp; exact fun e => h.ap.1 e.symm) (fun q hq z => h.ap.2.1 (by simp at z; rwa [← z])), h.shut, fun x hx => ?_, fun p hp => ?_, h.fg, h.ft, ⟨h.ap.1, h.ap.2.1, fun q hq => ⟨hn r (by simp) q hq, hn rs (by simp) q hq, fun z => hn q (by simp [z]) q hq rfl⟩, h.ap.2.2.2⟩, ?_, h.fm⟩, t3, hnew⟩
 ·rw [List.length_append]
  exact t2.row (yeq ho (Nat.zero_le _)) (fun q hq z => hn r (by simp) q hq (by simpa using z))
 ·show (if inB a b x = true then some ep else s.own x) = _
  rw [yrg, h.own x hx]
  by_cases hi : inB a b x = true
  ·rw [if_pos hi, hap'.1 hap x hx hi]
   simp [hi]
  ·rw [if_neg hi]
   cases ownL l x <;> simp [hi]
 ·rcases List.mem_append.1 hp with z | z
  ·exact h.fl p z
  ·simp at z
   subst z
   exact ⟨ha, hb, h0, h1⟩
 ·rw [List.length_append]
  exact Nat.succ_le_succ h.few
theorem yro {W : World} {r rs f t : Nat} {Fs : List Nat} {s : HO} {l : List AO} {V P : Value} (h : RH W r rs Fs s l V P f t) (hl : l.length ≤ 100000) (a b : Nat) (ep : Int) (ha : a < 18446744073709551616) (hb : b < 18446744073709551616) (h1 : ep ≤ 9223372036854775807) :
  Calls Tryz.prog 34 #[.pointer (some ⟨r, 0, none⟩), .agg #[.int .u64 (a : Nat), .int .u64 (b : Nat)], .int .i64 ep] W fun e w' =>
   (0 ≤ ep ∧ yb1 l a b = true ∧ e = .returned (.bool true) ∧ ∃ V', RH w' r rs Fs (s.take a b ep) (l ++ [⟨a, b, 0, ep⟩]) V' P f t ∧ Touch [r] W w' ∧ ∀ q, V'.ownBlock = some q → W.heap.size ≤ q) ∨
   (¬ (0 ≤ ep ∧ yb1 l a b = true) ∧ e = .returned (.bool false) ∧ Below W.heap.size W w') := by
 obtain ⟨i0, z0, hi0, hz, hsL, hbL, hzc⟩ := yl9
 obtain ⟨n, hn⟩ : ∃ n, l.length = n := ⟨_, rfl⟩
 obtain ⟨W0, hW0⟩ : ∃ w, W.alloc (.cells #[.int .u64 (a : Nat), .int .u64 (b : Nat)] 25) = w := ⟨_, rfl⟩
 obtain ⟨qa, hqa⟩ : ∃ q, W.heap.size = q := ⟨_, rfl⟩
 have HB00 : Hid (Below W.heap.size W W0) := by rw [← hW0]; exact (Below.refl _ _).alloc (Nat.le_refl _) _
 have BA := yfm W a b
 rw [hW0, hqa] at BA
 have HBX := Lib.hid BA
 have c0 : W0.cell? ⟨qa, 0, none⟩ = some (.int .u64 (a : Nat)) := BA.1
 have c1 : W0.cell? ⟨qa, 1, none⟩ = some (.int .u64 (b : Nat)) := BA.2
 have CAP : Hid (Calls Tryz.prog 119 #[.pointer (some ⟨r, 0, none⟩), .agg #[.int .u64 (a : Nat), .int .u64 (b : Nat)]] W0 fun e w' => e = .returned (.bool (yb1 l a b)) ∧ Below W0.heap.size W0 w') := yrm (h.below HB00.out) hl a b ha hb
 obtain ⟨ap, hap⟩ : ∃ ap, yb1 l a b = ap := ⟨_, rfl⟩
 rw [hap] at CAP ⊢
 have HAP0 := Lib.hid hap
 have HH := Lib.hid h
 have hv := h.vl
 rw [hn] at hv hl
 obtain ⟨A, c, rfl⟩ := yav hv
 have HV0 := Lib.hid hv
 have HN := Lib.hid hn
 have HAB0 : Hid (a < 18446744073709551616 ∧ b < 18446744073709551616 ∧ ep ≤ 9223372036854775807) := ⟨ha, hb, h1⟩
 clear h hv hn ha hb h1 hap BA
 go_enter Tryz.func34, Tryz.ntmps34
 go_upto_region 1 with fail
 (try rw [hW0])
 (try rw [hqa])
 clear hW0 hqa
 by_cases hep : ep < 0
 ·have d0 : decide (ep < 0) = true := decide_eq_true hep
  go_wp2_with fail
  go_ret
  exact .inr ⟨fun z => by omega, rfl, HB00.out⟩
 have d0 : decide (ep < 0) = false := decide_eq_false hep
 cases ap with
 | false =>
  go_wp2_with (go_at_call 119; (with_reducible refine CAP.out.mono ?_); rintro e w1 ⟨rfl, h1⟩)
  go_ret
  exact .inr ⟨fun z => by simp at z, rfl, acc HB00.out h1⟩
 | true =>
 go_upto_region 3 with (go_at_call 119; (with_reducible refine CAP.out.mono ?_); rintro e w1 ⟨rfl, h1⟩; have HB1 := Lib.hid h1; clear h1)
 have H1 : Hid (Below W.heap.size W w1) := acc HB00.out HB1.out
 have HR := Lib.hid (HH.out.below H1.out)
 have HSS : Hid (∀ w', Below w1.heap.size w1 w' → w'.cell? ⟨r, 3, none⟩ = some (.slice A n c) ∧ w'.cell? ⟨r, 0, none⟩ = some (.int .i64 s.nd) ∧ w'.cell? ⟨qa, 0, none⟩ = some (.int .u64 (a : Nat)) ∧ w'.cell? ⟨qa, 1, none⟩ = some (.int .u64 (b : Nat))) := fun w' hb =>
  ⟨(hb.cell (p := ⟨r, 3, none⟩) HR.out.lt).trans (ya4 HR.out.hr rfl), (hb.cell (p := ⟨r, 0, none⟩) HR.out.lt).trans (ya4 HR.out.hr rfl), (HBX.out.below (acc HB1.out hb)).1, (HBX.out.below (acc HB1.out hb)).2⟩
 have HFR : Hid (∀ w', Below w1.heap.size w1 w' → w'.frozen? ⟨r, 3, none⟩ = false) := fun w' hb => Lib.frozen_of_heap ((hb.block r HR.out.lt).trans HR.out.hr) 3
 have HROW : Hid (∀ w', Below w1.heap.size w1 w' → w'.ownsRow 0 152 4 (.slice A n c) n (rowC (ohC s.nd) l)) := fun w' hb => yhi (yhi HV0.out H1.out) hb
 have HB0 : Hid (Below w1.heap.size w1 w1.drew) := (Below.refl _ _).drew
 have HAB : Hid (a < 18446744073709551616 ∧ b < 18446744073709551616 ∧ 0 ≤ ep ∧ ep ≤ 9223372036854775807) := ⟨HAB0.out.1, HAB0.out.2.1, by omega, HAB0.out.2.2⟩
 have HAP := Lib.hid HAP0.out
 clear c0 c1 CAP HH HV0 HBX HB00 HAB0 HAP0 d0 hep
 refine ybe (fun w' => w'.cell? ⟨r, 3, none⟩ = some (.slice A n c) ∧ w'.cell? ⟨r, 0, none⟩ = some (.int .i64 s.nd) ∧ w'.cell? ⟨qa, 0, none⟩ = some (.int .u64 (a : Nat)) ∧ w'.cell? ⟨qa, 1, none⟩ = some (.int .u64 (b : Nat))) 17 (by kernel_rfl) ?_ (fun hHeld => ?_)
 ·(try dsimp only); exact HSS.out _ HB0.out
 refine wtP 0 ?_
 try simp only [Act.put, wsA, wsB, wsC]
 refine wtP 1 ?_
 try simp only [Act.put, wsA, wsB, wsC]
 refine wtP 2 ?_
 try simp only [Act.put, wsA, wsB, wsC]
 refine wtP 3 ?_
 try simp only [Act.put, wsA, wsB, wsC]
 refine wtP 7 ?_
 try simp only [Act.put, wsA, wsB, wsC]
 refine wtP 8 ?_
 try simp only [Act.put, wsA, wsB, wsC]
 refine wtP 9 ?_
 try simp only [Act.put, wsA, wsB, wsC]
 refine wtP 11 ?_
 try simp only [Act.put, wsA, wsB, wsC]
 refine wtT 4 ?_
 try simp only [Act.put, wsA, wsB, wsC]
 refine wtT 6 ?_
 try simp only [Act.put, wsA, wsB, wsC]
 refine wtT 10 ?_
 try simp only [Act.put, wsA, wsB, wsC]
 refine yd7 (rs := [5, 12]) (by kernel_rfl) (by simp) ?_
 refine (ya6.cons (o := ⟨_, _, _, _, _, _⟩) rfl (fun K hK => ?_) (ya6.cons (o := ⟨_, _, _, _, _, _⟩) rfl (fun K hK => ?_) ya6.nil))
 ·obtain ⟨A4, c4, w4, hr4, ho4, hb4⟩ := yju (HROW.out w1.drew HB0.out) hl
  have HO4 := Lib.hid ho4
  have HB4 : Hid (Below w1.heap.size w1 w4) := acc HB0.out hb4
  have K4 := Lib.hid hb4
  clear ho4 hb4
  refine yd5 rfl (.const (.slice none 0 0)) (.tmp 19) 72 72 rfl _ _ rfl rfl hr4 ?_
  refine hK.out _ _ (by (try dsimp only); (first | exact HSS.out _ HB5.out | exact HSS.out _ (HB4.out.alloc HB4.out.size _) | exact HSS.out _ HB4.out | exact HSS.out _ (HB0.out.alloc HB0.out.size _) | exact HSS.out _ HB0.out)) (fun hHeld => ?_)
  clear hK K
  try simp only [Act.put, wsA, wsB, wsC]
  refine wtC 12 fun K hK => ?_
  go_simp
  refine hK.out _ _ (by (try dsimp only); (first | exact HSS.out _ HB5.out | exact HSS.out _ (HB4.out.alloc HB4.out.size _) | exact HSS.out _ HB4.out | exact HSS.out _ (HB0.out.alloc HB0.out.size _) | exact HSS.out _ HB0.out)) (fun hHeld => ?_)
  clear hK K
  try simp only [Act.put, wsA, wsB, wsC]
  refine wtC 13 fun K hK => ?_
  go_simp
  refine hK.out _ _ (by (try dsimp only); (first | exact HSS.out _ HB5.out | exact HSS.out _ (HB4.out.alloc HB4.out.size _) | exact HSS.out _ HB4.out | exact HSS.out _ (HB0.out.alloc HB0.out.size _) | exact HSS.out _ HB0.out)) (fun hHeld => ?_)
  clear hK K
  try simp only [Act.put, wsA, wsB, wsC]
  refine wtC 14 fun K hK => ?_
  refine yc3 rfl (.tmp 20) (.tmp 28) 72 rfl w1.heap.size 152 i0 z0 4 32 Tryz.underlying72 hi0 hz hsL hbL hzc (by decide) (.slice A4 n c4) n (rowC (ohC s.nd) l) rfl ((yeq HO4.out (by simp)).alloc _) (.slice (some ⟨w4.heap.size, 0, none⟩) 1 1) 1 (rowC (ohC s.nd) [⟨a, b, 0, ep⟩]) rfl (.inr ⟨_, _, rfl, rfl, (fun j u hu => yjt w4 s.nd ⟨a, b, 0, ep⟩ j u hu)⟩) (yh2 _ _) (by unfold maxLen; omega) (by omega) (by have := HB4.out.size; simp <;> omega) ?_
  intro A5 c5 w5 ho5 hg5 _
  have HO5 := Lib.hid ho5
  have HB5 : Hid (Below w1.heap.size w1 w5) := (HB4.out.alloc HB4.out.size _).grown hg5 (by have := HB4.out.size; simp <;> omega) (ycz (yeq HO4.out (by simp)))
  have ff := HFR.out _ HB5.out
  clear ho5 hg5
  refine hK.out _ _ (by (try dsimp only); (first | exact HSS.out _ HB5.out | exact HSS.out _ (HB4.out.alloc HB4.out.size _) | exact HSS.out _ HB4.out | exact HSS.out _ (HB0.out.alloc HB0.out.size _) | exact HSS.out _ HB0.out)) (fun hHeld => ?_)
  clear hK K
  try simp only [Act.put, wsA, wsB, wsC]
  refine wtP 15 ?_
  try simp only [Act.put, wsA, wsB, wsC]
  refine wtP 16 ?_
  try simp only [Act.put, wsA, wsB, wsC]
  refine wtD 17 fun K hK => ?_
  go_simp
  refine hK.out _ _ ?_
  clear hK K
  try simp only [Act.put, wsA, wsB, wsC]
  refine ya8 (by kernel_rfl) ?_ _
  go_wp2_with fail
  go_ret
  have h5 := HO5.out
  rw [← yc2] at h5
  obtain ⟨k1, k2, k3⟩ := HR.out.owned (a := a) (b := b) (ep := ep) (V' := .slice A5 (n + 1) c5) HB5.out (by rw [HN.out]; exact h5) HAB.out.1 HAB.out.2.1 HAB.out.2.2.1 HAB.out.2.2.2 HAP.out
  exact .inl ⟨HAB.out.2.2.1, rfl, _, k1, (Touch.ofBelow (F := [r]) H1.out).trans k2 (fun x hx => .inl hx), fun q hq => Nat.le_trans H1.out.size (k3 q hq)⟩
 ·go_simp
  refine hK.out _ _ (by (try dsimp only); (first | exact HSS.out _ HB5.out | exact HSS.out _ (HB4.out.alloc HB4.out.size _) | exact HSS.out _ HB4.out | exact HSS.out _ (HB0.out.alloc HB0.out.size _) | exact HSS.out _ HB0.out)) (fun hHeld => ?_)
  clear hK K
  try simp only [Act.put, wsA, wsB, wsC]
  refine yd7 (rs := [5, 13]) (by kernel_rfl) (by simp) ?_
  refine (ya6.cons (o := ⟨_, _, _, _, _, _⟩) rfl (fun K hK => ?_) (ya6.cons (o := ⟨_, _, _, _, _, _⟩) rfl (fun K hK => ?_) ya6.nil))
  ·obtain ⟨A4, c4, w4, hr4, ho4, hb4⟩ := yju (HROW.out w1.drew HB0.out) hl
   have HO4 := Lib.hid ho4
   have HB4 : Hid (Below w1.heap.size w1 w4) := acc HB0.out hb4
   have K4 := Lib.hid hb4
   clear ho4 hb4
   refine yd5 rfl (.const (.slice none 0 0)) (.tmp 19) 72 72 rfl _ _ rfl rfl hr4 ?_
   refine hK.out _ _ (by (try dsimp only); (first | exact HSS.out _ HB5.out | exact HSS.out _ (HB4.out.alloc HB4.out.size _) | exact HSS.out _ HB4.out | exact HSS.out _ (HB0.out.alloc HB0.out.size _) | exact HSS.out _ HB0.out)) (fun hHeld => ?_)
   clear hK K
   try simp only [Act.put, wsA, wsB, wsC]
   refine wtC 13 fun K hK => ?_
   go_simp
   refine hK.out _ _ (by (try dsimp only); (first | exact HSS.out _ HB5.out | exact HSS.out _ (HB4.out.alloc HB4.out.size _) | exact HSS.out _ HB4.out | exact HSS.out _ (HB0.out.alloc HB0.out.size _) | exact HSS.out _ HB0.out)) (fun hHeld => ?_)
   clear hK K
   try simp only [Act.put, wsA, wsB, wsC]
   refine wtC 14 fun K hK => ?_
   refine yc3 rfl (.tmp 20) (.tmp 28) 72 rfl w1.heap.size 152 i0 z0 4 32 Tryz.underlying72 hi0 hz hsL hbL hzc (by decide) (.slice A4 n c4) n (rowC (ohC s.nd) l) rfl ((yeq HO4.out (by simp)).alloc _) (.slice (some ⟨w4.heap.size, 0, none⟩) 1 1) 1 (rowC (ohC s.nd) [⟨a, b, 0, ep⟩]) rfl (.inr ⟨_, _, rfl, rfl, (fun j u hu => yjt w4 s.nd ⟨a, b, 0, ep⟩ j u hu)⟩) (yh2 _ _) (by unfold maxLen; omega) (by omega) (by have := HB4.out.size; simp <;> omega) ?_
   intro A5 c5 w5 ho5 hg5 _
   have HO5 := Lib.hid ho5
   have HB5 : Hid (Below w1.heap.size w1 w5) := (HB4.out.alloc HB4.out.size _).grown hg5 (by have := HB4.out.size; simp <;> omega) (ycz (yeq HO4.out (by simp)))
   have ff := HFR.out _ HB5.out
   clear ho5 hg5
   refine hK.out _ _ (by (try dsimp only); (first | exact HSS.out _ HB5.out | exact HSS.out _ (HB4.out.alloc HB4.out.size _) | exact HSS.out _ HB4.out | exact HSS.out _ (HB0.out.alloc HB0.out.size _) | exact HSS.out _ HB0.out)) (fun hHeld => ?_)
   clear hK K
   try simp only [Act.put, wsA, wsB, wsC]
   refine wtP 15 ?_
   try simp only [Act.put, wsA, wsB, wsC]
   refine wtP 16 ?_
   try simp only [Act.put, wsA, wsB, wsC]
   refine wtD 17 fun K hK => ?_
   go_simp
   refine hK.out _ _ ?_
   clear hK K
   try simp only [Act.put, wsA, wsB, wsC]
   refine ya8 (by kernel_rfl) ?_ _
   go_wp2_with fail
   go_ret
   have h5 := HO5.out
   rw [← yc2] at h5
   obtain ⟨k1, k2, k3⟩ := HR.out.owned (a := a) (b := b) (ep := ep) (V' := .slice A5 (n + 1) c5) HB5.out (by rw [HN.out]; exact h5) HAB.out.1 HAB.out.2.1 HAB.out.2.2.1 HAB.out.2.2.2 HAP.out
   exact .inl ⟨HAB.out.2.2.1, rfl, _, k1, (Touch.ofBelow (F := [r]) H1.out).trans k2 (fun x hx => .inl hx), fun q hq => Nat.le_trans H1.out.size (k3 q hq)⟩
  ·go_simp
   refine hK.out _ _ (by (try dsimp only); (first | exact HSS.out _ HB5.out | exact HSS.out _ (HB4.out.alloc HB4.out.size _) | exact HSS.out _ HB4.out | exact HSS.out _ (HB0.out.alloc HB0.out.size _) | exact HSS.out _ HB0.out)) (fun hHeld => ?_)
   clear hK K
   try simp only [Act.put, wsA, wsB, wsC]
   refine wtC 5 fun K hK => ?_
   obtain ⟨A4, c4, w4, hr4, ho4, hb4⟩ := yju (HROW.out (w1.drew.alloc (.cells #[.int .u64 (a : Nat), .int .u64 (b : Nat), .int .i64 s.nd, .int .i64 ep] 152)) (HB0.out.alloc HB0.out.size (.cells #[.int .u64 (a : Nat), .int .u64 (b : Nat), .int .i64 s.nd, .int .i64 ep] 152))) hl
   have HO4 := Lib.hid ho4
   have HB4 : Hid (Below w1.heap.size w1 w4) := acc (HB0.out.alloc HB0.out.size (.cells #[.int .u64 (a : Nat), .int .u64 (b : Nat), .int .i64 s.nd, .int .i64 ep] 152)) hb4
   have K4 := Lib.hid hb4
   clear ho4 hb4
   refine yd5 rfl (.const (.slice none 0 0)) (.tmp 19) 72 72 rfl _ _ rfl rfl hr4 ?_
   refine hK.out _ _ (by (try dsimp only); (first | exact HSS.out _ HB5.out | exact HSS.out _ (HB4.out.alloc HB4.out.size _) | exact HSS.out _ HB4.out | exact HSS.out _ (HB0.out.alloc HB0.out.size _) | exact HSS.out _ HB0.out)) (fun hHeld => ?_)
   clear hK K
   try simp only [Act.put, wsA, wsB, wsC]
   refine wtC 14 fun K hK => ?_
   refine yc3 rfl (.tmp 20) (.tmp 28) 72 rfl w1.heap.size 152 i0 z0 4 32 Tryz.underlying72 hi0 hz hsL hbL hzc (by decide) (.slice A4 n c4) n (rowC (ohC s.nd) l) rfl ((yeq HO4.out (by simp))) (.slice (some ⟨w1.drew.heap.size, 0, none⟩) 1 1) 1 (rowC (ohC s.nd) [⟨a, b, 0, ep⟩]) rfl (.inr ⟨_, _, rfl, rfl, (yrn (nd := s.nd) (p := ⟨a, b, 0, ep⟩) K4.out)⟩) (yh2 _ _) (by unfold maxLen; omega) (by omega) (by have := HB4.out.size; simp <;> omega) ?_
   intro A5 c5 w5 ho5 hg5 _
   have HO5 := Lib.hid ho5
   have HB5 : Hid (Below w1.heap.size w1 w5) := HB4.out.grown hg5 (by have := HB4.out.size; simp <;> omega) (ycz (yeq HO4.out (by simp)))
   have ff := HFR.out _ HB5.out
   clear ho5 hg5
   refine hK.out _ _ (by (try dsimp only); (first | exact HSS.out _ HB5.out | exact HSS.out _ (HB4.out.alloc HB4.out.size _) | exact HSS.out _ HB4.out | exact HSS.out _ (HB0.out.alloc HB0.out.size _) | exact HSS.out _ HB0.out)) (fun hHeld => ?_)
   clear hK K
   try simp only [Act.put, wsA, wsB, wsC]
   refine wtP 15 ?_
   try simp only [Act.put, wsA, wsB, wsC]
   refine wtP 16 ?_
   try simp only [Act.put, wsA, wsB, wsC]
   refine wtD 17 fun K hK => ?_
   go_simp
   refine hK.out _ _ ?_
   clear hK K
   try simp only [Act.put, wsA, wsB, wsC]
   refine ya8 (by kernel_rfl) ?_ _
   go_wp2_with fail
   go_ret
   have h5 := HO5.out
   rw [← yc2] at h5
   obtain ⟨k1, k2, k3⟩ := HR.out.owned (a := a) (b := b) (ep := ep) (V' := .slice A5 (n + 1) c5) HB5.out (by rw [HN.out]; exact h5) HAB.out.1 HAB.out.2.1 HAB.out.2.2.1 HAB.out.2.2.2 HAP.out
   exact .inl ⟨HAB.out.2.2.1, rfl, _, k1, (Touch.ofBelow (F := [r]) H1.out).trans k2 (fun x hx => .inl hx), fun q hq => Nat.le_trans H1.out.size (k3 q hq)⟩
theorem yrp (nd most : Int) (W : World) (hm : -9223372036854775808 ≤ most ∧ most ≤ 9223372036854775807) :
  Calls Tryz.prog 32 #[.int .i64 nd, .int .i64 most] W fun e w' => ∃ r rs, e = .returned (.pointer (some ⟨r, 0, none⟩)) ∧ RH w' r rs [] (HO.new nd most) [] (.slice none 0 0) (.slice none 0 0) 0 0 ∧ W.heap.size ≤ r ∧ W.heap.size ≤ rs ∧ Below W.heap.size W w' := by
 have C : Hid (Calls Tryz.prog 115 #[.int .i64 most] W fun e w' => e = .returned (.pointer (some ⟨W.heap.size, 0, none⟩)) ∧ Below W.heap.size W w' ∧ RS w' W.heap.size [] (min (max most 0) 200) [] ∧ w'.cell? ⟨W.heap.size, 0, none⟩ = some (.int .i64 (min (max most 0) 200))) := by
  refine (yrb most W hm.1 hm.2).mono ?_
  rintro e w' ⟨rfl, h1, h2⟩
  refine ⟨rfl, h1, h2, ?_⟩
  obtain ⟨A, c, ⟨_, h3, _⟩, _⟩ := h2
  exact h3
 have hr2 : 0 ≤ min (max most 0) 200 ∧ min (max most 0) 200 ≤ 200 := by omega
 obtain ⟨m, hme⟩ : ∃ m, min (max most 0) 200 = m := ⟨_, rfl⟩
 have e1 : HO.new nd most = ⟨nd, m, 0, fun _ => none, [], G0, 0⟩ := by rw [HO.new, hme]
 rw [e1]
 rw [hme] at C hr2
 clear hm hme e1
 go_enter Tryz.func32, Tryz.ntmps32
 go_wp2_with (go_at_call 115; (with_reducible refine C.out.mono ?_); rintro e w1 ⟨rfl, h1, h2, h3⟩; have H1 := Lib.hid h1; have H2 := Lib.hid h2; clear h1 h2)
 go_ret
 have hlt : W.heap.size < w1.heap.size := by
  obtain ⟨A, c, ⟨h4, _⟩, _⟩ := H2.out
  exact h4
 obtain ⟨w2, hw2⟩ : ∃ w, w1.alloc (.cells #[.int .i64 nd, .int .i64 m, .int .i64 0, .slice none 0 0, .pointer (some ⟨W.heap.size, 0, none⟩), .bool false, .int .u64 0, .int .u64 0, .slice none 0 0] 78) = w := ⟨_, rfl⟩
 have hb : w2.heap[w1.heap.size]? = some (.cells #[.int .i64 nd, .int .i64 m, .int .i64 0, .slice none 0 0, .pointer (some ⟨W.heap.size, 0, none⟩), .bool false, .int .u64 0, .int .u64 0, .slice none 0 0] 78) := by rw [← hw2]; exact heap_alloc_new w1 _
 have B2 : Below w1.heap.size w1 w2 := by rw [← hw2]; exact (Below.refl _ _).alloc (Nat.le_refl _) _
 rw [hw2]
 refine ⟨w1.heap.size, W.heap.size, rfl, ?_, H1.out.size, Nat.le_refl _, ?_⟩
 ·exact ⟨hb, World.ownsRow_nil _ _ _ _, World.ownsRow_nil _ _ _ _, H2.out.touch (Touch.ofBelow (F := []) B2) (by simp) (by simp), (fun z => by cases z), fun x _ => rfl, by simp, by simp, ⟨by decide, by decide⟩, ⟨Nat.ne_of_gt hlt, by simp, (fun q hq => by cases hq), (fun q hq => by cases hq)⟩, Nat.le_refl _, ⟨hr2.1, hr2.2, hr2.1, hr2.1⟩⟩
 ·exact acc H1.out B2
theorem yrq {W : World} {r rs f t : Nat} {Fs : List Nat} {s : HO} {lo : List AO} {V0 V : Value} (h : RH W r rs Fs s lo V0 V f t) (x : Nat) (hx : x < 18446744073709551616) :
  Calls Tryz.prog 66 #[.pointer (some ⟨r, 5, none⟩), .int .u64 (x : Nat)] W fun e w' => e = .returned (.bool (s.g.frozen x)) ∧ Below W.heap.size W w' := by
 have efr : s.g.frozen x = (s.g.shut && inB f t x) := by
  unfold GS.frozen
  cases hs : s.g.shut with
  | false => rw [Bool.false_and, Bool.false_and]
  | true => rw [(h.shut hs).1, (h.shut hs).2]
 have hf := h.ft.1
 have ht := h.ft.2
 have C : Hid (∀ W, Calls Tryz.prog 102 #[.agg #[.int .u64 (f : Nat), .int .u64 (t : Nat)], .int .u64 (x : Nat)] W fun e w' => e = .returned (.bool (inB f t x)) ∧ Below W.heap.size W w') := fun W => yf3 f t x W hf ht hx
 have c0 : W.cell? ⟨r, 5, none⟩ = some (.bool s.g.shut) := ya4 h.hr rfl
 have c1 : W.cell? ⟨r, 6, none⟩ = some (.int .u64 (f : Nat)) := ya4 h.hr rfl
 have c2 : W.cell? ⟨r, 7, none⟩ = some (.int .u64 (t : Nat)) := ya4 h.hr rfl
 rw [efr]
 clear efr
 generalize s.g.shut = b at *
 generalize inB f t x = ans at *
 clear h hf ht hx
 go_enter Tryz.func66, Tryz.ntmps66
 cases b
 all_goals
  go_wp2_with (go_at_call 102; (with_reducible refine (C.out _).mono ?_); rintro e w1 ⟨rfl, h1⟩)
  go_ret
  first
   | exact ⟨rfl, h1⟩
   | exact ⟨rfl, Below.refl _ _⟩
theorem yrr {W : World} {r rs f t : Nat} {Fs : List Nat} {s : HO} {lo : List AO} {V0 V : Value} (h : RH W r rs Fs s lo V0 V f t) (hl : s.g.l.length ≤ 100000) (x : Nat) (hx : x < 18446744073709551616) :
  Calls Tryz.prog 65 #[.pointer (some ⟨r, 5, none⟩), .int .u64 (x : Nat)] W fun e w' => e = .returned (yd0 (yao s.g.l x)) ∧ Below W.heap.size W w' := by
 have hp := h.fg
 have hv := h.vp
 have c3' : ∀ w, Below W.heap.size W w → w.cell? ⟨r, 8, none⟩ = some V := fun w hb => (hb.cell (p := ⟨r, 8, none⟩) h.lt).trans (ya4 h.hr rfl)
 clear h
 generalize s.g.l = l at *
 obtain ⟨n, hn⟩ : ∃ n, l.length = n := ⟨_, rfl⟩
 have C : Hid (∀ p ∈ l, ∀ W, Calls Tryz.prog 102 #[.agg #[.int .u64 (p.f : Nat), .int .u64 (p.t : Nat)], .int .u64 (x : Nat)] W fun e w' => e = .returned (.bool (inB p.f p.t x)) ∧ Below W.heap.size W w') := fun p hpl W => yf3 p.f p.t x W (hp p hpl).1 (hp p hpl).2.1 hx
 rw [hn] at hv
 obtain ⟨A, c, rfl⟩ := yav hv
 have c3 := Lib.hid c3'
 have hts : Hid (∀ j (hj : j < l.length), yao (l.take (j + 1)) x = if inB l[j].f l[j].t x then some l[j].n else yao (l.take j) x) := fun j hj => by
  rw [List.take_succ_eq_append_getElem hj, yp7]
 have HO := Lib.hid hv
 have HN := Lib.hid hn
 rw [hn] at hl
 have z0 : IntKind.i64.wrap ((n : Int) - 1) = (n : Int) - 1 := by rw [IntKind.wrap_i64]; omega
 have b3 := c3.out W (Below.refl _ _)
 unfold yd0
 obtain ⟨o, ho⟩ : ∃ o, yao l x = o := ⟨_, rfl⟩
 have HOV := Lib.hid ho
 rw [ho]
 clear c3' hv hn hp hx ho
 go_enter Tryz.func65, Tryz.ntmps65
 go_wp2
 clear b3
 go_loopg [6] (n + 1) (fun gh s6 wx => ∃ (k : Nat) (z : Int), gh = k + 1 ∧ k ≤ n ∧ z = (k : Int) - 1 ∧ s6 = .int .i64 z ∧ Hid (yao (l.take k) x = o) ∧ Hid (Below W.heap.size W wx))
 case atStart => exact ⟨n, _, rfl, by omega, rfl, rfl, by rw [List.take_of_length_le (by rw [HN.out]; exact Nat.le_refl _)]; exact HOV, Below.refl _ _⟩
 case round =>
  obtain ⟨k, z, hgk, hk, hz, rfl, HV, HB⟩ := hrel
  by_cases h0 : z ≥ 0
  ·obtain ⟨j, rfl⟩ : ∃ j, k = j + 1 := ⟨k - 1, by omega⟩
   obtain rfl : z = (j : Int) := by omega
   have d0 : decide ((j : Int) ≥ 0) = true := decide_eq_true h0
   have zj : IntKind.i64.wrap ((j : Int) - 1) = (j : Int) - 1 := by rw [IntKind.wrap_i64]; omega
   have hj : j < l.length := by rw [HN.out]; omega
   have i1 : (j : Int) < (n : Int) := by omega
   obtain ⟨q, hq⟩ := yq3 HO.out (by omega)
   obtain rfl := hq
   have hst := hts.out j hj
   have hm := List.getElem_mem hj
   have CC := Lib.hid (C.out _ hm)
   have cell : ∀ i v, i < 4 → (l[j]).cells[i]? = some v → wr.cell? ⟨q, j * 4 + i, none⟩ = some v := fun i v hi hv => by
    have z := HO.out.cells (g := q) rfl (j * 4 + i) v (by rw [yeo yq4 l j i l[j] (List.getElem?_eq_getElem hj) hi]; exact hv)
    rw [Go.WideShapes.add_plain, Nat.zero_add] at z
    exact (HB.out.cell (p := ⟨q, j * 4 + i, none⟩) (HO.out.lt q rfl).2).trans z
   generalize l[j] = p at *
   have e0 := cell 0 _ (by decide) rfl
   have e1 := cell 1 _ (by decide) rfl
   have e2 := cell 2 _ (by decide) rfl
   rw [Nat.add_zero] at e0
   have b3 := c3.out wr HB.out
   clear cell hm h0 hz
   rw [HV.out] at hst
   cases hin : inB p.f p.t x with
   | true =>
    rw [hin] at CC hst
    rw [if_pos rfl] at hst
    subst hst
    go_wp2_with (go_at_call 102; (with_reducible refine (CC.out _).mono ?_); rintro e w1 ⟨rfl, h1⟩; have b4 := c3.out w1 (acc HB.out h1); have e3 := (h1.cell (p := ⟨q, j * 4 + 2, none⟩) (World.block_lt_of_cell? _ _ e2)).trans e2; have HB1 := Lib.hid (acc HB.out h1); clear h1)
    go_ret2
    exact ⟨rfl, HB1.out⟩
   | false =>
    rw [hin] at CC hst
    have HST : Hid (yao (l.take j) x = o) := (if_neg (by decide)).symm.trans hst.symm
    clear hst
    go_wp2_with (go_at_call 102; (with_reducible refine (CC.out _).mono ?_); rintro e w1 ⟨rfl, h1⟩; have HB1 := Lib.hid (acc HB.out h1); clear h1)
    go_roundg (gk - 1)
    case measure => omega
    case rel => exact ⟨j, _, by omega, by omega, rfl, by go_num, HST, HB1⟩
  ·have d0 : decide (z ≥ 0) = false := decide_eq_false h0
   obtain rfl : k = 0 := by omega
   have hv := HV.out
   rw [List.take_zero, yp8] at hv
   subst hv
   clear hz
   go_wp2_with fail
   go_ret2
   exact ⟨rfl, HB.out⟩
end Go.Proofs.YtnjodhglbapnlaaGreat
namespace Go.Proofs.YtnjodhglbapnlaaGreat.Hd
open Go.RowKit Go.Proofs.YtnjodhglbapnlaaGreat
end Go.Proofs.YtnjodhglbapnlaaGreat.Hd
namespace Go.Proofs.YtnjodhglbapnlaaGreat
open Go.RowKit
section
variable {VD : World → Nat → HO → List Nat → Prop}
abbrev ka : ByteArray := ⟨#[97]⟩
abbrev v1_ : ByteArray := ⟨#[49]⟩
def A1 : HO := (HO.new 3 9).take 0 0 2
def A2 : HO := A1.with [(ka, v1_)]
def A3 : HO := ⟨A2.nd, A2.most, A2.kept, A2.own, A2.its, ⟨true, 0, 9223372036854775808, A2.g.l, A2.g.k⟩, A2.k⟩
theorem yrs {s : HO} {n : Int} {x : Nat} (h : inB s.g.f s.g.t x = true) : (s.lose n).own x = none := if_pos h
end
section
variable {VD : World → Nat → HO → List Nat → Prop} {V w w1 : World} {P : List Nat} {g gx gy : Nat} {s sx sy s1 : HO}
end
def Six (w : World) (q : Nat) (a b c d e f : Value) : Prop := w.cell? ⟨q, 0, none⟩ = some a ∧ w.cell? ⟨q, 1, none⟩ = some b ∧ w.cell? ⟨q, 2, none⟩ = some c ∧ w.cell? ⟨q, 3, none⟩ = some d ∧ w.cell? ⟨q, 4, none⟩ = some e ∧ w.cell? ⟨q, 5, none⟩ = some f
theorem Six.lt {w : World} {q : Nat} {a b c d e f : Value} (h : Six w q a b c d e f) : q < w.heap.size := World.block_lt_of_cell? w _ h.1
theorem Six.kept {w w1 : World} {q : Nat} {a b c d e f : Value} {P : List Nat} (h : Six w q a b c d e f) (hk : Kept P w w1) (hq : q ∈ P) : Six w1 q a b c d e f := by
 have hl := h.lt
 obtain ⟨h0, h1, h2, h3, h4, h5⟩ := h
 exact ⟨(hk.cell (p := ⟨q, 0, none⟩) hq hl).trans h0, (hk.cell (p := ⟨q, 1, none⟩) hq hl).trans h1, (hk.cell (p := ⟨q, 2, none⟩) hq hl).trans h2, (hk.cell (p := ⟨q, 3, none⟩) hq hl).trans h3, (hk.cell (p := ⟨q, 4, none⟩) hq hl).trans h4, (hk.cell (p := ⟨q, 5, none⟩) hq hl).trans h5⟩
theorem yrt (w : World) (a b c d e : Value) (T : TypeId) : (w.alloc (.cells #[a, b, c, d, e] T)).cell? ⟨w.heap.size, 0, none⟩ = some a ∧ (w.alloc (.cells #[a, b, c, d, e] T)).cell? ⟨w.heap.size, 1, none⟩ = some b ∧ (w.alloc (.cells #[a, b, c, d, e] T)).cell? ⟨w.heap.size, 2, none⟩ = some c ∧ (w.alloc (.cells #[a, b, c, d, e] T)).cell? ⟨w.heap.size, 3, none⟩ = some d ∧ (w.alloc (.cells #[a, b, c, d, e] T)).cell? ⟨w.heap.size, 4, none⟩ = some e := by
 refine ⟨?_, ?_, ?_, ?_, ?_⟩ <;> go_simp
theorem yru (w : World) (q : Nat) (a b c d e f : Value) : Touch [q] w ((((((w.setCell ⟨q, 0, none⟩ a).setCell ⟨q, 1, none⟩ b).setCell ⟨q, 2, none⟩ c).setCell ⟨q, 3, none⟩ d).setCell ⟨q, 4, none⟩ e).setCell ⟨q, 5, none⟩ f) :=
 ((((((Touch.refl [q] w).set (.inl (by simp)) _).set (.inl (by simp)) _).set (.inl (by simp)) _).set (.inl (by simp)) _).set (.inl (by simp)) _).set (.inl (by simp)) _
structure TZ (w : World) (q : Nat) : Prop where
 c : Six w q (.int .i64 0) (.string ⟨#[]⟩) (.slice none 0 0) (.bool false) (.string ⟨#[]⟩) (.int .i64 0)
 f0 : w.frozen? ⟨q, 0, none⟩ = false
 f1 : w.frozen? ⟨q, 1, none⟩ = false
 f2 : w.frozen? ⟨q, 2, none⟩ = false
 f3 : w.frozen? ⟨q, 3, none⟩ = false
 f4 : w.frozen? ⟨q, 4, none⟩ = false
 f5 : w.frozen? ⟨q, 5, none⟩ = false
theorem TZ.of {w : World} {q : Nat} {T : TypeId} (h : w.heap[q]? = some (.cells #[.int .i64 0, .string ⟨#[]⟩, .slice none 0 0, .bool false, .string ⟨#[]⟩, .int .i64 0] T)) : TZ w q :=
 ⟨⟨ya4 h rfl, ya4 h rfl, ya4 h rfl, ya4 h rfl, ya4 h rfl, ya4 h rfl⟩, Lib.frozen_of_heap h 0, Lib.frozen_of_heap h 1, Lib.frozen_of_heap h 2, Lib.frozen_of_heap h 3, Lib.frozen_of_heap h 4, Lib.frozen_of_heap h 5⟩
theorem yd9 {w : World} {q : Nat} (h : TZ w q) (a b c d e f : Value) : ∃ w9, ((((((w.setCell ⟨q, 0, none⟩ a).setCell ⟨q, 1, none⟩ b).setCell ⟨q, 2, none⟩ c).setCell ⟨q, 3, none⟩ d).setCell ⟨q, 4, none⟩ e).setCell ⟨q, 5, none⟩ f) = w9 ∧ Six w9 q a b c d e f ∧ Touch [q] w w9 := by
 obtain ⟨⟨h0, h1, h2, h3, h4, h5⟩, -, -, -, -, -, -⟩ := h
 refine ⟨_, rfl, ⟨?_, ?_, ?_, ?_, ?_, ?_⟩, yru w q a b c d e f⟩ <;> go_simp
end Go.Proofs.YtnjodhglbapnlaaGreat
