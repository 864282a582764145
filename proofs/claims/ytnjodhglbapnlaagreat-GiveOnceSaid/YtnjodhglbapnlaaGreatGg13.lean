import Derived.Test.YtnjodhglbapnlaaGreatGg08
import Derived.Test.YtnjodhglbapnlaaGreatGg01
import Derived.Test.YtnjodhglbapnlaaGreatGg12
import Derived.Test.YtnjodhglbapnlaaGreatGg03
import Derived.Test.YtnjodhglbapnlaaGreatGg02
import Derived.RangeFuncBound
import Derived.Shelf.Abstract
import Derived.Shelf.RegionOpen
import Derived.WalkKit
import Derived.OwnWalkIn
import Derived.TacticsInMore
import Derived.LoopNIn
import Derived.LoopIn
set_option maxRecDepth 100000
set_option maxHeartbeats 16000000
namespace Go.Proofs.YtnjodhglbapnlaaGreat
open Go.RowKit
attribute [local go_sem] Oper.semAt_some
theorem yuk (y : Nat) (yf yc : Array Value) (hi : ∀ a w, (callFunc y a).run Tryz.prog w = .ok (.enter y a) w) (k v : ByteArray) (w : World) (R : Ending → World → Prop)
  (h : Calls Tryz.prog y (yf ++ #[.string k, .string v] ++ yc) w R) (hR : ∀ e w', R e w' → ∃ b, e = .returned (.bool b)) :
  Calls Tryz.prog 166 #[.func (.func y) yf yc, .string k, .string v] w R := by
 have hne : ∀ w, (binOp .neq 175 (.func (.func y) yf yc) .nilFunc).run Tryz.prog w = .ok (.bool true) w := fun w => ymt w _ _ _ _ Tryz.underlying175
 have H := Lib.hid h
 have HR := Lib.hid hR
 clear h hR
 go_enter Tryz.func166, Tryz.ntmps166
 go_wp2
 rw [← Array.append_assoc]
 refine H.out.mono ?_
 intro e w' r
 obtain ⟨b, rfl⟩ := HR.out e w' r
 go_wp2
 exact r
theorem yul (l : Nat) (k v : ByteArray) (w : World) (R : Ending → World → Prop)
  (h : YieldAt Fence.wide 0 Tryz.prog l #[.string k, .string v] w R) (hR : ∀ e w', R e w' → ∃ b, e = .returned (.bool b)) :
  Calls Tryz.prog 166 #[.func (.yield l) #[] #[], .string k, .string v] w R := by
 obtain ⟨fn, tmps, assign, body, hy, hr⟩ := h
 have hne : ∀ w, (binOp .neq 175 (.func (.yield l) #[] #[]) .nilFunc).run Tryz.prog w = .ok (.bool true) w := fun w => ymt w _ _ _ _ Tryz.underlying175
 have H := Lib.hid hr
 have HR := Lib.hid hR
 clear hr hR
 refine (callsIn_wide (n := 0)).1 (callsIn_of_wp Tryz.func166 rfl trivial ?_ rfl)
 simp only [Tryz.ntmps166, List.size_toArray, List.length_cons, List.length_nil, Nat.reduceAdd, Nat.reduceSub, Array.replicate_succ, Array.replicate_zero, List.push_toArray, List.append_toArray, List.nil_append, List.cons_append]
 gi_wp2
 refine ⟨rfl, ?_⟩
 refine (RoundIn.deep H.out).mono ?_
 intro e w' r
 obtain ⟨b, rfl⟩ := HR.out e w' r
 gi_wp2
 exact r
theorem yig (yv : Value) (k v : ByteArray) (w : World) (R : Ending → World → Prop) (h : YV yv #[.string k, .string v] w R) (hR : ∀ e w', R e w' → ∃ b, e = .returned (.bool b)) :
  Calls Tryz.prog 166 #[yv, .string k, .string v] w R := by
 rcases h with ⟨y, yf, yc, rfl, h2, h3⟩ | ⟨l, rfl, h2⟩
 ·exact yuk y yf yc h2 k v w R h3 hR
 ·exact yul l k v w R h2 hR
end Go.Proofs.YtnjodhglbapnlaaGreat
namespace Go.Proofs.YtnjodhglbapnlaaGreat
open Go.RowKit
theorem yum {W : World} {p : Option Addr} {l : List Item} (hit : Calls Tryz.prog 107 #[.pointer p] W (yep W l)) {b : Nat} (hc : W.cell? ⟨b, 0, none⟩ = some (.pointer p)) (B : List Nat) :
  yib 207 #[.pointer (some ⟨b, 0, none⟩)] l B W := by
 intro fn yf yc J Q Y0 hY0 h0 hJ hQ hR
 obtain ⟨yv, hyv⟩ : ∃ yv, yv = Value.func fn yf yc := ⟨_, rfl⟩
 rw [← hyv] at hR ⊢
 clear hyv
 have H0 := Lib.hid h0
 have HJ := Lib.hid hJ
 have HR := Lib.hid hR
 have HY0 := Lib.hid hY0
 clear h0 hJ hR hQ hY0
 go_enter Tryz.func207, Tryz.ntmps207
 go_wp2_with (go_at_call 107; refine hit.mono ?_; rintro e w1 ⟨A, c, rfl, ho, hb⟩)
 obtain ⟨n, hn⟩ : ∃ n, l.length = n := ⟨_, rfl⟩
 have HN := Lib.hid hn
 have HO := Lib.hid ho
 have HB := Lib.hid hb
 have hmax : n ≤ maxLen := by
  rcases ho.2 with ⟨_, z⟩ | ⟨_, cap, _, _, _, _, z1, z2, _⟩
  ·rw [hn] at z; omega
  ·rw [hn] at z1; omega
 have hm : n ≤ 9223372036854775807 := by unfold maxLen at hmax; omega
 clear hn ho hb hit hmax
 rw [HN.out]
 go_loopg [8] (n + 1) (fun gh s8 wx => ∃ i Y, i + gh = n + 1 ∧ i ≤ n ∧ s8 = .int .i64 (i : Nat) ∧ Hid (J i wx Y) ∧ Hid (Left B Y0 W wx Y) ∧ Hid (Row wx (.slice A l.length c) l) ∧ Hid (∀ q, (Value.slice A l.length c).ownBlock = some q → q ∉ Y))
 case atStart =>
  refine ⟨0, Y0, by omega, by omega, rfl, HJ.out 0 W w1 Y0 [] H0.out (Touch.ofBelow HB.out) (by simp), ⟨⟨[], Touch.ofBelow HB.out, by simp⟩, fun q hq => ⟨Nat.lt_of_lt_of_le (HY0.out q hq) HB.out.size, .inl hq⟩⟩, ybp HO.out (Nat.zero_le _), fun q hq z => ?_⟩
  have := (HO.out.lt q hq).1
  have := HY0.out q z
  omega
 case round =>
  obtain ⟨i, Y, hig, hi, rfl, HJi, HL, HO', HA⟩ := hrel
  by_cases hlt : i < n
  ·have hil : i < l.length := by rw [HN.out]; exact hlt
   obtain ⟨q, rfl⟩ := HO'.out.atBlock (by omega)
   have ck := (HO'.out.cellAt (i * 2) (by omega)).trans (ycc l i hil)
   have cv := (HO'.out.cellAt (i * 2 + 1) (by omega)).trans (yci l i hil)
   have hx : l[i]? = some (l[i]) := List.getElem?_eq_getElem hil
   obtain ⟨x, hx'⟩ : ∃ x, l[i] = x := ⟨_, rfl⟩
   rw [hx'] at ck cv hx
   obtain ⟨xk, xv⟩ := x
   have ck : wr.cell? ⟨q, i * 2, none⟩ = some (.string xk) := ck
   have cv : wr.cell? ⟨q, i * 2 + 1, none⟩ = some (.string xv) := cv
   have hcall : ∀ o, Calls Tryz.prog 166 #[yv, .string xk, .string xv] (wr.alloc o) _ := fun o => yig yv xk xv (wr.alloc o) _ (HR.out i (xk, xv) (wr.alloc o) Y hx (HJ.out i wr (wr.alloc o) Y [] HJi.out ((Touch.refl _ _).alloc o) (by simp)) (fun q hq => by have := (HL.out.2 q hq).1; simp; omega)) (by
    rintro e w' ⟨Y', _, (⟨rfl, _⟩ | ⟨rfl, _⟩)⟩ <;> exact ⟨_, rfl⟩)
   have HC := Lib.hid hcall
   clear hcall hx' hx hil
   go_wp2_with (go_at_call 166; refine (HC.out _).mono ?_; clear HC; rintro e w2 ⟨Y2, hL2, (⟨rfl, hj⟩ | ⟨rfl, hq⟩)⟩)
   ·have hL3 : Left B Y wr w2 Y2 := Left.after ((Below.refl _ _).alloc (Nat.le_refl _) _) hL2
    obtain ⟨hr3, hn3⟩ := hL3.row HO'.out HA.out
    have HL3 := Lib.hid (HL.out.trans hL3)
    have HR3 := Lib.hid hr3
    have HN3 := Lib.hid hn3
    have HJ3 := Lib.hid hj
    clear hL2 hL3 hr3 hn3 hj
    go_roundg (gk - 1)
    case measure => omega
    case rel => exact ⟨i + 1, Y2, by omega, by omega, by go_num, HJ3, HL3, HR3, HN3⟩
   ·have hL3 : Left B Y wr w2 Y2 := Left.after ((Below.refl _ _).alloc (Nat.le_refl _) _) hL2
    refine bodyPost_ret (results_none rfl _ _ _) rfl ?_
    exact ⟨rfl, Y2, HL.out.trans hL3, .inr hq⟩
  ·obtain rfl : i = n := by omega
   go_wp2_with fail
   go_end0
   exact ⟨rfl, Y, HL.out, .inl (by rw [HN.out]; exact HJi.out)⟩
theorem yun (p : Option Addr) (W : World) : Calls Tryz.prog 191 #[.pointer p] W fun e w' =>
  e = .returned (.func (.func 207) #[] #[.pointer (some ⟨W.heap.size, 0, none⟩)]) ∧ w' = W.alloc (.cells #[.pointer p] 109) := by
 go_enter Tryz.func191, Tryz.ntmps191
 go_wp2_with fail
 go_ret
 exact ⟨rfl, rfl⟩
attribute [local go_sem] Oper.semAt_some
theorem yuo {α : Type} (p : α → Bool) {l : List α} {n : Nat} {x : α} (h : l[n]? = some x) : (l.take (n + 1)).filter p = (l.take n).filter p ++ (if p x = true then [x] else []) := by
 rw [List.take_add_one, h, List.filter_append]
 congr 1
 simp only [Option.toList_some, List.filter_cons, List.filter_nil]
theorem yup {α : Type} (p : α → Bool) {l : List α} {n : Nat} {x : α} (h : l[n]? = some x) (hp : p x = true) : (l.filter p)[((l.take n).filter p).length]? = some x := by
 obtain ⟨hn, rfl⟩ := List.getElem?_eq_some_iff.1 h
 have e : l = l.take n ++ l[n] :: l.drop (n + 1) := by rw [List.getElem_cons_drop, List.take_append_drop]
 have e2 : l.filter p = (l.take n).filter p ++ l[n] :: (l.drop (n + 1)).filter p := by
  conv => lhs; rw [e]
  rw [List.filter_append, List.filter_cons_of_pos hp]
 rw [e2]
 simp
theorem yuq {α : Type} (p : α → Bool) {l : List α} {n : Nat} (h : ∀ y ∈ l.drop n, p y = false) : (l.take n).filter p = l.filter p := by
 have e : l.filter p = (l.take n).filter p ++ (l.drop n).filter p := by rw [← List.filter_append, List.take_append_drop]
 rw [e, (List.filter_eq_nil_iff (l := l.drop n)).2 (fun y hy => by rw [h y hy]; simp), List.append_nil]
theorem yur {l : List Item} (h : yah l) {n : Nat} {x : Item} (hx : l[n]? = some x) : ∀ y ∈ l.drop n, y = x ∨ yad x.1 y.1 = true := by
 obtain ⟨hn, rfl⟩ := List.getElem?_eq_some_iff.1 hx
 have e : l = l.take n ++ l[n] :: l.drop (n + 1) := by rw [List.getElem_cons_drop, List.take_append_drop]
 rw [e, ycj, ycq] at h
 rw [← List.getElem_cons_drop hn]
 intro y hy
 rcases List.mem_cons.1 hy with z | z
 ·exact .inl z
 ·exact .inr (h.2.1.1 y z)
abbrev ycm (l : List Item) (f t : ByteArray) (n : Nat) : Nat := (yae (l.take n) f t).length
theorem yng {W : World} {p : Option Addr} {l : List Item} (hr : yah l) (hit : ∀ w, Below W.heap.size W w → Calls Tryz.prog 107 #[.pointer p] w (yep w l)) {b0 b1 b2' : Nat} {f t : ByteArray}
  (hc0 : W.cell? ⟨b0, 0, none⟩ = some (.pointer p)) (hc1 : W.cell? ⟨b1, 0, none⟩ = some (.string f)) (hc2 : W.cell? ⟨b2', 0, none⟩ = some (.string t)) (B : List Nat) (hB1 : b1 ∈ B) (hB2 : b2' ∈ B) (hBW : ∀ q ∈ B, q < W.heap.size) :
  yib 190 #[.pointer (some ⟨b0, 0, none⟩), .pointer (some ⟨b1, 0, none⟩), .pointer (some ⟨b2', 0, none⟩)] (yae l f t) B W := by
 intro fn yf yc J Q Y0 hY0 h0 hJ hQ hR
 have H0 := Lib.hid h0
 have HJ := Lib.hid hJ
 have HR := Lib.hid hR
 have HY0 := Lib.hid hY0
 have HQ := Lib.hid hQ
 have HIT := Lib.hid hit
 have HBW := Lib.hid hBW
 have HRI := Lib.hid hr
 clear h0 hJ hR hQ hY0 hit hBW hr
 have c0 : ∀ o, (W.alloc o).cell? ⟨b0, 0, none⟩ = some (.pointer p) := fun o => (((Below.refl W.heap.size W).alloc (Nat.le_refl _) o).cell (p := ⟨b0, 0, none⟩) (World.block_lt_of_cell? W _ hc0)).trans hc0
 refine (callsIn_wide (n := 0)).1 (callsIn_of_wp_marks Tryz.func190 rfl trivial ?_ rfl)
 simp only [Tryz.ntmps190, List.size_toArray, List.length_cons, List.length_nil, Nat.reduceAdd, Nat.reduceSub, Array.replicate_succ, Array.replicate_zero, List.push_toArray, List.append_toArray, List.nil_append, List.cons_append]
 gi_wp2_with (refine ⟨trivial, rfl, ?_⟩; gi_at_call 191; refine (callsIn_wide.2 (yun p _)).mono ?_; rintro e w' ⟨rfl, rfl⟩)
 have cy : ((W.alloc (.cells #[.func fn yf yc] 175)).alloc (.cells #[.pointer p] 109)).cell? ⟨W.heap.size, 0, none⟩ = some (.func fn yf yc) := by go_simp
 have ca : ((W.alloc (.cells #[.func fn yf yc] 175)).alloc (.cells #[.pointer p] 109)).cell? ⟨W.heap.size + 1, 0, none⟩ = some (.pointer p) := by go_simp
 obtain ⟨W2, hW2⟩ : ∃ W2, (W.alloc (.cells #[.func fn yf yc] 175)).alloc (.cells #[.pointer p] 109) = W2 := ⟨_, rfl⟩
 have b2 : Below W.heap.size W W2 := by
  rw [← hW2]; exact ((Below.refl _ W).alloc (Nat.le_refl _) _).alloc (by simp) _
 have z2 : W2.heap.size = W.heap.size + 2 := by rw [← hW2]; simp
 have cf : W2.cell? ⟨b1, 0, none⟩ = some (.string f) := (b2.cell (p := ⟨b1, 0, none⟩) (HBW.out _ hB1)).trans hc1
 have ct : W2.cell? ⟨b2', 0, none⟩ = some (.string t) := (b2.cell (p := ⟨b2', 0, none⟩) (HBW.out _ hB2)).trans hc2
 rw [hW2] at cy ca ⊢
 clear hW2
 obtain ⟨y0, hy0⟩ : ∃ y0, y0 = W.heap.size := ⟨_, rfl⟩
 have hlt : ∀ {q}, q ∈ [y0, b1, b2'] → q < W2.heap.size := by
  intro q hq
  have h1 := HBW.out _ hB1
  have h2 := HBW.out _ hB2
  simp at hq
  rcases hq with rfl | rfl | rfl <;> omega
 refine ygm (gf := 207) (lb := #[.pointer (some ⟨W.heap.size + 1, 0, none⟩)]) rfl (enters_of Tryz.func207 (by kernel_rfl) rfl) (xs := l) (B := B)
  (fun V hV => yum (HIT.out V (b2.trans (hV.mono (by omega)))) ((hV.cell (p := ⟨W.heap.size + 1, 0, none⟩) (by simp [z2])).trans ca) B)
  (fun q hq => by have := HBW.out q hq; omega) rfl
  (fun n V Y => ∃ Yo, Y = [y0, b1, b2'] ++ Yo ∧ (∀ q ∈ Yo, (q ∈ Y0 ∨ W.heap.size ≤ q) ∧ q ≠ y0) ∧ J (ycm l f t n) V Yo ∧ V.cell? ⟨y0, 0, none⟩ = some (.func fn yf yc) ∧ V.cell? ⟨b1, 0, none⟩ = some (.string f) ∧ V.cell? ⟨b2', 0, none⟩ = some (.string t))
  (fun c V Y => ∃ Yo, Y = [y0, b1, b2'] ++ Yo ∧ (∀ q ∈ Yo, q ∈ Y0 ∨ W.heap.size ≤ q) ∧ c = .ret ∧ (J (yae l f t).length V Yo ∨ Q V Yo))
  ([y0, b1, b2'] ++ Y0)
  (fun q hq => by
   rcases List.mem_append.1 hq with z | z
   ·exact hlt z
   ·have := HY0.out q z; omega)
  ⟨Y0, rfl, fun q hq => ⟨.inl hq, by have := HY0.out q hq; omega⟩, by rw [ycm, List.take_zero]; exact HJ.out 0 W W2 Y0 [] H0.out (Touch.ofBelow b2) (by simp), by rw [hy0]; exact cy, cf, ct⟩
  (by
   rintro n V V1 Y G ⟨Yo, rfl, h1, h2, h3, h4, h5⟩ tt hn
   refine ⟨Yo, rfl, h1, HJ.out _ V V1 Yo G h2 tt (fun q hq => hn q (List.mem_append_right _ hq)), ?_, ?_, ?_⟩
   ·exact (tt.cell (World.block_lt_of_cell? V _ h3) (hn _ (by simp))).trans h3
   ·exact (tt.cell (World.block_lt_of_cell? V _ h4) (hn _ (by simp))).trans h4
   ·exact (tt.cell (World.block_lt_of_cell? V _ h5) (hn _ (by simp))).trans h5)
  (by
   rintro c V V1 Y G ⟨Yo, rfl, h1, h2, h3⟩ tt hn
   exact ⟨Yo, rfl, h1, h2, h3.imp (fun h => HJ.out _ V V1 Yo G h tt (fun q hq => hn q (List.mem_append_right _ hq))) (fun h => HQ.out V V1 Yo G h tt (fun q hq => hn q (List.mem_append_right _ hq)))⟩)
  (fun x => { tmps := #[.func fn yf yc, .pointer (some ⟨b0, 0, none⟩), .pointer (some ⟨b1, 0, none⟩), .pointer (some ⟨b2', 0, none⟩), .pointer (some ⟨W.heap.size, 0, none⟩), .string x.1, .string x.2, .pointer p, .func (.func 207) #[] #[.pointer (some ⟨W.heap.size + 1, 0, none⟩)], .string x.1, .string x.2, undef, undef, undef, undef, undef, undef, undef, undef, undef, undef, undef, undef, undef, undef, undef, undef, undef, undef], defers := [] })
  ?assign ?body ?done ?stop
 case assign =>
  intro l x V K hK
  gi_wp2
  exact hK
 case body =>
  rintro lp n ⟨xk, xv⟩ V Y hV hx ⟨Yo, rfl, h1, h2, h3, h4, h5⟩ hY
  have hlZ : ∀ q ∈ [y0, b1, b2'], q < V.heap.size := fun q hq => hY q (List.mem_append_left _ hq)
  have hlY : ∀ q ∈ Yo, q < V.heap.size := fun q hq => hY q (List.mem_append_right _ hq)
  have hsn := yuo (fun x : Item => !yad x.1 f && (t.size == 0 || yad x.1 t)) hx
  have hat := yup (fun x : Item => !yad x.1 f && (t.size == 0 || yad x.1 t)) hx
  have hstay : Left B ([y0, b1, b2'] ++ Yo) V V ([y0, b1, b2'] ++ Yo) := Left.refl hY
  have HST := Lib.hid hstay
  have HSN := Lib.hid hsn
  have HAT := Lib.hid hat
  have H1 := Lib.hid h1
  have H2 := Lib.hid h2
  have HLZ := Lib.hid hlZ
  have HLY := Lib.hid hlY
  have HHX := Lib.hid hx
  clear hstay hsn hat h1 h2 hlZ hlY hx hY
  rw [hy0] at h3
  cases a1 : Op.bytesLess xk.toList f.toList
  ·by_cases ht : t = ⟨#[]⟩
   ·have e0 : (t.toList == ([] : List UInt8)) = true := by rw [ht, Lib.toList_data]; rfl
    have e1 : (t.size == 0) = true := by rw [ht]; rfl
    have E1 := Lib.hid e1
    have HHT := Lib.hid ht
    clear ht e1
    have hin : (!yad xk f && (t.size == 0 || yad xk t)) = true := by rw [show yad xk f = false from a1, E1.out]; simp
    have hcall : Calls Tryz.prog 166 #[.func fn yf yc, .string xk, .string xv] V _ := yig (.func fn yf yc) xk xv V _ (HR.out (ycm l f t n) (xk, xv) V Yo (HAT.out hin) H2.out HLY.out) (by
     rintro e w' ⟨Y', _, (⟨rfl, _⟩ | ⟨rfl, _⟩)⟩ <;> exact ⟨_, rfl⟩)
    have HC := Lib.hid hcall
    have HT : Hid (ycm l f t (n + 1) = ycm l f t n + 1) := by
     have z := HSN.out
     rw [if_pos hin] at z
     show (yae (l.take (n + 1)) f t).length = _
     rw [yae, z, List.length_append]
     rfl
    clear hcall hin
    gi_wp2_with (first | (refine ⟨trivial, rfl, ?_⟩; gi_at_call 166; refine (CallsIn.inRound lp (callsIn_wide.2 HC.out)).mono ?_; clear HC; rintro e V2 ⟨Yo2, hL2, (⟨rfl, hj⟩ | ⟨rfl, hq⟩)⟩) | (refine ⟨trivial, rfl, ?_⟩; gi_at_call 142; refine (CallsIn.inRound lp (callsIn_wide.2 (yfi _ _ _))).mono ?_; rintro e w' ⟨rfl, rfl⟩) | (refine ⟨trivial, ?_⟩))
    ·have hM := hL2.more HLZ.out
     refine ⟨_, hM, Yo2, rfl, fun q hq => ?_, by rw [HT.out]; exact hj, ?_, ?_, ?_⟩
     ·rcases (hL2.2 q hq).2 with z | z
      ·exact H1.out q z
      ·exact ⟨.inr (by omega), by omega⟩
     ·rw [hy0]; exact (hL2.cell (p := ⟨W.heap.size, 0, none⟩) h3 (fun z => (H1.out _ z).2 hy0.symm)).1
     ·exact hL2.cellB h4 hB1
     ·exact hL2.cellB h5 hB2
    ·exact ⟨_, hL2.more HLZ.out, Yo2, rfl, fun q hq => (hL2.2 q hq).2.elim (fun z => (H1.out q z).1) (fun z => .inr (by omega)), rfl, .inr hq⟩
   ·have e0 : (t.toList == ([] : List UInt8)) = false := by
     rw [beq_eq_false_iff_ne]
     exact fun e => ht (yhm (e.trans (by rw [Lib.toList_data])))
    have e1 : (t.size == 0) = false := by
     rw [beq_eq_false_iff_ne]
     exact fun e => ht (ByteArray.ext (Array.eq_empty_of_size_eq_zero e))
    cases a2 : Op.bytesLess xk.toList t.toList
    ·have HE : Hid (ycm l f t n = (yae l f t).length) := by
      show ((l.take n).filter _).length = _
      rw [yuq _ (fun y hy => ?_)]
      ·rfl
      ·have z : yad y.1 t = false := by
        rcases yur HRI.out HHX.out y hy with rfl | z
        ·exact a2
        ·cases c : yad y.1 t with
         | false => rfl
         | true => exact absurd (ydr z c) (by rw [show yad xk t = false from a2]; simp)
       rw [z, e1]; simp
     have E1 := Lib.hid e1
     clear e1
     gi_wp2_with (first | (refine ⟨trivial, rfl, ?_⟩; gi_at_call 142; refine (CallsIn.inRound lp (callsIn_wide.2 (yfi _ _ _))).mono ?_; rintro e w' ⟨rfl, rfl⟩) | (refine ⟨trivial, ?_⟩))
     exact ⟨_, HST.out, Yo, rfl, fun q hq => (H1.out q hq).1, rfl, .inl (by rw [← HE.out]; exact H2.out)⟩
    ·have E1 := Lib.hid e1
     clear e1
     have hin : (!yad xk f && (t.size == 0 || yad xk t)) = true := by rw [show yad xk f = false from a1, show yad xk t = true from a2]; simp
     have hcall : Calls Tryz.prog 166 #[.func fn yf yc, .string xk, .string xv] V _ := yig (.func fn yf yc) xk xv V _ (HR.out (ycm l f t n) (xk, xv) V Yo (HAT.out hin) H2.out HLY.out) (by
      rintro e w' ⟨Y', _, (⟨rfl, _⟩ | ⟨rfl, _⟩)⟩ <;> exact ⟨_, rfl⟩)
     have HC := Lib.hid hcall
     have HT : Hid (ycm l f t (n + 1) = ycm l f t n + 1) := by
      have z := HSN.out
      rw [if_pos hin] at z
      show (yae (l.take (n + 1)) f t).length = _
      rw [yae, z, List.length_append]
      rfl
     clear hcall hin
     gi_wp2_with (first | (refine ⟨trivial, rfl, ?_⟩; gi_at_call 166; refine (CallsIn.inRound lp (callsIn_wide.2 HC.out)).mono ?_; clear HC; rintro e V2 ⟨Yo2, hL2, (⟨rfl, hj⟩ | ⟨rfl, hq⟩)⟩) | (refine ⟨trivial, rfl, ?_⟩; gi_at_call 142; refine (CallsIn.inRound lp (callsIn_wide.2 (yfi _ _ _))).mono ?_; rintro e w' ⟨rfl, rfl⟩) | (refine ⟨trivial, ?_⟩))
     ·have hM := hL2.more HLZ.out
      refine ⟨_, hM, Yo2, rfl, fun q hq => ?_, by rw [HT.out]; exact hj, ?_, ?_, ?_⟩
      ·rcases (hL2.2 q hq).2 with z | z
       ·exact H1.out q z
       ·exact ⟨.inr (by omega), by omega⟩
      ·rw [hy0]; exact (hL2.cell (p := ⟨W.heap.size, 0, none⟩) h3 (fun z => (H1.out _ z).2 hy0.symm)).1
      ·exact hL2.cellB h4 hB1
      ·exact hL2.cellB h5 hB2
     ·exact ⟨_, hL2.more HLZ.out, Yo2, rfl, fun q hq => (hL2.2 q hq).2.elim (fun z => (H1.out q z).1) (fun z => .inr (by omega)), rfl, .inr hq⟩
  ·have HT : Hid (ycm l f t (n + 1) = ycm l f t n) := by
    have z := HSN.out
    rw [if_neg (by rw [show yad xk f = true from a1]; simp)] at z
    show (yae (l.take (n + 1)) f t).length = _
    rw [yae, z, List.append_nil]
    rfl
   gi_wp2_with (first | (refine ⟨trivial, rfl, ?_⟩; gi_at_call 142; refine (CallsIn.inRound lp (callsIn_wide.2 (yfi _ _ _))).mono ?_; rintro e w' ⟨rfl, rfl⟩) | (refine ⟨trivial, ?_⟩))
   exact ⟨_, HST.out, Yo, rfl, H1.out, by rw [HT.out]; exact H2.out, by rw [hy0]; exact h3, h4, h5⟩
 case done =>
  rintro D V Y hD hDn hL ⟨Yo, rfl, h1, h2, _, _, _⟩ hK
  have e : ycm l f t l.length = (yae l f t).length := by rw [ycm, List.take_length]
  rw [e] at h2
  have hD0 : D ∉ Yo := fun z => hDn (List.mem_append_right _ z)
  have hp : Touch [D] V (V.putObj D (.deferred none)) := (Touch.refl _ _).put (.inl (by simp)) _
  have hz := hL.size
  have H2 := Lib.hid (HJ.out _ _ _ _ _ h2 hp (fun q hq z => by simp at z; exact hD0 (z ▸ hq)))
  have HL := Lib.hid (Left.put (Left.less b2 hL (fun q hq => by simp at hq; rcases hq with rfl | rfl | rfl; exact .inr (by omega); exact .inl hB1; exact .inl hB2) (fun q hq => (h1 q hq).1)) (l := D) (.deferred none) (by omega))
  clear h2 hL h1 hp
  gi_wp2
  refine ⟨by simp, .inl ⟨_, _, rfl, run_takeDeferred hK, ?_⟩⟩
  exact ⟨_, results_none rfl _ _ _, rfl, Yo, HL.out, .inl H2.out⟩
 case stop =>
  rintro D c V Y hD hDn hL ⟨Yo, rfl, h1, rfl, h2⟩ hK
  have hD0 : D ∉ Yo := fun z => hDn (List.mem_append_right _ z)
  have hp : Touch [D] V (V.putObj D (.deferred none)) := (Touch.refl _ _).put (.inl (by simp)) _
  have hz := hL.size
  have h3 : J (yae l f t).length (V.putObj D (.deferred none)) Yo ∨ Q (V.putObj D (.deferred none)) Yo := by
   refine h2.imp (fun h => HJ.out _ _ _ _ _ h hp ?_) (fun h => HQ.out _ _ _ _ h hp ?_) <;> exact fun q hq z => by simp at z; exact hD0 (z ▸ hq)
  have H2 := Lib.hid h3
  have HL := Lib.hid (Left.put (Left.less b2 hL (fun q hq => by simp at hq; rcases hq with rfl | rfl | rfl; exact .inr (by omega); exact .inl hB1; exact .inl hB2) h1) (l := D) (.deferred none) (by omega))
  clear h2 hL h1 hp h3
  gi_wp2
  refine ⟨by simp, .inl ⟨_, _, rfl, run_takeDeferred hK, ?_⟩⟩
  exact ⟨_, results_none rfl _ _ _, rfl, Yo, HL.out, H2.out⟩
theorem yus (p : Option Addr) (f t : ByteArray) (W : World) : Calls Tryz.prog 165 #[.pointer p, .string f, .string t] W fun e w' =>
  e = .returned (.func (.func 190) #[] #[.pointer (some ⟨W.heap.size, 0, none⟩), .pointer (some ⟨W.heap.size + 1, 0, none⟩), .pointer (some ⟨W.heap.size + 2, 0, none⟩)]) ∧
  w' = ((W.alloc (.cells #[.pointer p] 109)).alloc (.cells #[.string f] 9)).alloc (.cells #[.string t] 9) := by
 go_enter Tryz.func165, Tryz.ntmps165
 go_wp2_with fail
 go_ret
 exact ⟨rfl, rfl⟩
end Go.Proofs.YtnjodhglbapnlaaGreat
namespace Go.Proofs.YtnjodhglbapnlaaGreat
open Go.RowKit
def ynh (l : List Item) (F T : Nat) : List Item := yae l (txt (yaz F)) (txt (yaz T))
theorem yut : yaz 0 = [] := by
 have h := yi8 0
 have v := yd1 (x := 0) (by omega)
 cases e : yaz 0 with
 | nil => rfl
 | cons a m =>
  have z := yi4 8 [] (a :: m)
  rw [e] at v
  cases hb : Op.bytesLess (yaz 0) [] with
  | true => rw [yfg] at hb; cases hb
  | false =>
   have y := yhe 8 [] (yaz 0) (yi7 0) h (by rw [yd1 (by omega)]; exact Nat.zero_le _)
   rw [e] at y
   simp [Op.bytesLess] at y
theorem yuu {T : Nat} (hT : T < 18446744073709551616) : ((txt (yaz T)).size == 0) = (T == 0) := by
 rw [ylm, Bool.eq_iff_iff, beq_iff_eq, beq_iff_eq]
 constructor
 ·intro h
  have v := yd1 (x := T) (by omega)
  rw [List.eq_nil_of_length_eq_zero h] at v
  rw [← v]
  rfl
 ·rintro rfl
  rw [yut]
  rfl
theorem yni (x : Item) {F : Nat} (hF : F < 18446744073709551616) : yad x.1 (txt (yaz F)) = decide (adr x < F) := by
 unfold yad
 rw [yi9]
 by_cases h : adr x < F
 ·rw [decide_eq_true h]
  exact yi4 8 _ _ (by rw [yd1 (by omega), ← ylu]; exact h)
 ·rw [decide_eq_false h]
  exact yhe 8 _ _ (yi7 F) (yi8 F) (by rw [yd1 (by omega), ← ylu]; omega)
theorem ykd (l : List Item) {F T : Nat} (hF : F < 18446744073709551616) (hT : T < 18446744073709551616) : ynh l F T = l.filter fun x => ybo F T (adr x) := by
 refine List.filter_congr fun x _ => ?_
 rw [yni x hF, yni x hT, yuu hT, ybo]
 congr 1
 by_cases h : adr x < F
 ·simp [h, Nat.not_le.2 h]
 ·simp [h, Nat.le_of_not_lt h]
def yc9 (l : List Item) (f t k : Nat) : List Item := ynh l (pF f t k) (pT f t k)
def offA (l : List Item) (f t : Nat) : Nat → Nat
 | 0 => 0
 | k + 1 => offA l f t k + (yc9 l f t k).length
theorem yuv {f t k : Nat} (hf : f < 18446744073709551616) : pF f t k < 18446744073709551616 := by unfold pF; split <;> omega
theorem yuw {f t k : Nat} (ht : t < 18446744073709551616) : pT f t k < 18446744073709551616 := by unfold pT; split <;> (try split) <;> omega
theorem ynj (l : List Item) {f t : Nat} (hf : f < 18446744073709551616) (ht : t < 18446744073709551616) (h : oneB f t = true) : arcL l f t = yc9 l f t 0 := by
 have e0 : pF f t 0 = f := by simp [pF]
 have e1 : pT f t 0 = t := by simp [pT, h]
 rw [yc9, e0, e1, ykd l hf ht, arcL]
 have h' : t = 0 ∨ f < t := by simpa [oneB] using h
 have z : l.filter (inA f t true) = [] := yql fun x _ => by
  have hx := ygc x
  by_cases q : f ≤ adr x
  ·simp [inA, q]
  ·have : inB f t (adr x) = false := by
    rw [← Bool.not_eq_true, yay]
    rintro (r | r)
    ·omega
    ·rw [yag, yag] at r; omega
   rw [inA, this]; rfl
 rw [z, List.append_nil]
 refine List.filter_congr fun x _ => ?_
 have hx := ygc x
 rw [Bool.eq_iff_iff]
 simp only [inA, ybo, Bool.and_eq_true, yay, decide_eq_true_eq, Bool.or_eq_true, beq_iff_eq, bne_iff_ne, ne_eq, Bool.not_eq_false, yag]
 omega
theorem ynk (l : List Item) {f t : Nat} (hf : f < 18446744073709551616) (ht : t < 18446744073709551616) (h : oneB f t = false) : arcL l f t = yc9 l f t 0 ++ yc9 l f t 1 := by
 have e0 : pF f t 0 = f := by simp [pF]
 have e1 : pT f t 0 = 0 := by simp [pT, h]
 have e2 : pF f t 1 = 0 := by simp [pF]
 have e3 : pT f t 1 = t := by simp [pT]
 rw [yc9, yc9, e0, e1, e2, e3, ykd l hf (by omega), ykd l (by omega) ht, arcL]
 have h' : ¬ t = 0 ∧ ¬ f < t := by simpa [oneB] using h
 congr 1
 ·refine List.filter_congr fun x _ => ?_
  have hx := ygc x
  rw [Bool.eq_iff_iff]
  simp only [inA, ybo, Bool.and_eq_true, yay, decide_eq_true_eq, Bool.or_eq_true, beq_iff_eq, bne_iff_ne, ne_eq, Bool.not_eq_false, yag, true_or, and_true]
  omega
 ·refine List.filter_congr fun x _ => ?_
  have hx := ygc x
  rw [Bool.eq_iff_iff]
  simp only [inA, ybo, Bool.and_eq_true, yay, decide_eq_true_eq, Bool.or_eq_true, beq_iff_eq, bne_iff_ne, ne_eq, yag]
  omega
theorem yux (l : List Item) {f t : Nat} (hf : f < 18446744073709551616) (ht : t < 18446744073709551616) : offA l f t (pN f t) = (arcL l f t).length := by
 cases h : oneB f t with
 | true => rw [ynj l hf ht h, pN, h]; simp [offA]
 | false => rw [ynk l hf ht h, pN, h, List.length_append]; simp [offA]
theorem yuy (l : List Item) {f t k n : Nat} {x : Item} (hf : f < 18446744073709551616) (ht : t < 18446744073709551616) (hk : k < pN f t) (hx : (yc9 l f t k)[n]? = some x) : (arcL l f t)[offA l f t k + n]? = some x := by
 have hn := (List.getElem?_eq_some_iff.1 hx).1
 cases h : oneB f t with
 | true =>
  have : k = 0 := by rw [pN, h] at hk; simp at hk; exact hk
  subst this
  rw [ynj l hf ht h]
  simpa [offA] using hx
 | false =>
  rw [ynk l hf ht h]
  have hk2 : k < 2 := by rw [pN, h] at hk; simpa using hk
  rcases Nat.eq_zero_or_pos k with rfl | h1
  ·rw [List.getElem?_append_left (by simp [offA]; exact hn)]
   simpa [offA] using hx
  ·obtain rfl : k = 1 := by omega
   rw [List.getElem?_append_right (by simp [offA])]
   simpa [offA] using hx
attribute [local go_sem] Oper.semAt_some
def ynl (w : World) (l : List Item) (e : Ending) (w' : World) : Prop :=
 ∃ (p' : Option Addr) (F' : List Nat), e = .returned (.pointer p') ∧ Below w.heap.size w w' ∧ (∀ q ∈ F', w.heap.size ≤ q ∧ q < w'.heap.size) ∧ ∀ V G, Touch G w' V → (∀ q ∈ F', q ∉ G) → Calls Tryz.prog 107 #[.pointer p'] V (yep V l)
def yuz (w : World) (p : Option Addr) (f t : ByteArray) (e : Ending) (w' : World) : Prop :=
 ∃ a0 a1 a2 : Nat, e = .returned (.func (.func 190) #[] #[.pointer (some ⟨a0, 0, none⟩), .pointer (some ⟨a1, 0, none⟩), .pointer (some ⟨a2, 0, none⟩)]) ∧
  w'.cell? ⟨a0, 0, none⟩ = some (.pointer p) ∧ w'.cell? ⟨a1, 0, none⟩ = some (.string f) ∧ w'.cell? ⟨a2, 0, none⟩ = some (.string t) ∧ w.heap.size ≤ a1 ∧ w.heap.size ≤ a2 ∧ Below w.heap.size w w'
theorem ynm (p : Option Addr) (f t : ByteArray) (w : World) : Calls Tryz.prog 165 #[.pointer p, .string f, .string t] w (yuz w p f t) := by
 refine (yus p f t w).mono ?_
 rintro e w' ⟨rfl, rfl⟩
 exact ⟨_, _, _, rfl, by go_simp, by go_simp, by go_simp, by omega, by omega, (((Below.refl _ w).alloc (Nat.le_refl _) _).alloc (by simp) _).alloc (by simp; omega) _⟩
theorem yu0 (w : World) (a b : Value) (T : TypeId) : (w.alloc (.cells #[a, b] T)).cell? ⟨w.heap.size, 0, none⟩ = some a := by go_simp
theorem yu1 (w : World) (a b : Value) (T : TypeId) : (w.alloc (.cells #[a, b] T)).cell? ⟨w.heap.size, 1, none⟩ = some b := by go_simp
theorem yu2 {wb W W1 : World} {A : World → Prop} (HS : ∀ w', Below wb.heap.size wb w' → Below wb.heap.size wb w' ∧ A w') (h : Below wb.heap.size wb W ∧ A W) (hb : Below W.heap.size W W1) : Below wb.heap.size wb W1 ∧ A W1 :=
 HS _ (h.1.trans (hb.mono h.1.size))
theorem ynn {W : World} {p : Option Addr} {l : List Item} (hr : yah l) (hcp : ∀ w, Below W.heap.size W w → Calls Tryz.prog 164 #[.pointer p] w (ynl w l)) {b0 b1 f t : Nat} (hf : f < 18446744073709551616) (ht : t < 18446744073709551616)
  (hc0 : W.cell? ⟨b0, 0, none⟩ = some (.pointer p)) (hc1 : W.cell? ⟨b1, 0, none⟩ = some (.int .u64 (f : Nat))) (hc2 : W.cell? ⟨b1, 1, none⟩ = some (.int .u64 (t : Nat))) (B : List Nat) (hBW : ∀ q ∈ B, q < W.heap.size) :
  yib 163 #[.pointer (some ⟨b0, 0, none⟩), .pointer (some ⟨b1, 0, none⟩)] (arcL l f t) B W := by
 intro fn yf yc J Q Y0 hY0 h0 hJ hQ hR
 have H0 := Lib.hid h0
 have HJ := Lib.hid hJ
 have HR := Lib.hid hR
 have HY0 := Lib.hid hY0
 have HQ := Lib.hid hQ
 have HBW := Lib.hid hBW
 have HRI := Lib.hid hr
 have HCP := Lib.hid hcp
 have HF := Lib.hid hf
 have HT := Lib.hid ht
 clear h0 hJ hR hQ hY0 hcp hBW hr hf ht
 have lt0 := World.block_lt_of_cell? W _ hc0
 have lt1 := World.block_lt_of_cell? W _ hc1
 have c0 : ∀ o, (W.alloc o).cell? ⟨b0, 0, none⟩ = some (.pointer p) := fun o => (((Below.refl W.heap.size W).alloc (Nat.le_refl _) o).cell (p := ⟨b0, 0, none⟩) lt0).trans hc0
 refine (callsIn_wide (n := 0)).1 (callsIn_of_wp_marks Tryz.func163 rfl trivial ?_ rfl)
 simp only [Tryz.ntmps163, List.size_toArray, List.length_cons, List.length_nil, Nat.reduceAdd, Nat.reduceSub, Array.replicate_succ, Array.replicate_zero, List.push_toArray, List.append_toArray, List.nil_append, List.cons_append]
 have hc := HCP.out (W.alloc (.cells #[.func fn yf yc] 175)) ((Below.refl _ W).alloc (Nat.le_refl _) _)
 gi_wp2
 refine wpIn_wide.2 (wp_scope_straight ((wpIn_wide (n := 0)).1 ?_))
 gi_wp2_with (refine ⟨trivial, rfl, ?_⟩; gi_at_call 164; refine (callsIn_wide.2 hc).mono ?_; rintro e w1 ⟨p', F', rfl, hb1, hF', hI'⟩)
 have b1W : Below W.heap.size W w1 := ((Below.refl _ W).alloc (Nat.le_refl _) _).trans (hb1.mono (by simp))
 have d1 : w1.cell? ⟨b1, 0, none⟩ = some (.int .u64 (f : Nat)) := (b1W.cell (p := ⟨b1, 0, none⟩) lt1).trans hc1
 have d2 : w1.cell? ⟨b1, 1, none⟩ = some (.int .u64 (t : Nat)) := (b1W.cell (p := ⟨b1, 1, none⟩) lt1).trans hc2
 have cy : w1.cell? ⟨W.heap.size, 0, none⟩ = some (.func fn yf yc) := (hb1.cell (p := ⟨W.heap.size, 0, none⟩) (by simp)).trans (by go_simp)
 have HI := Lib.hid hI'
 have HF' := Lib.hid hF'
 have HB1 := Lib.hid b1W
 have s1 : W.heap.size + 1 ≤ w1.heap.size := by have := hb1.size; simpa using this
 clear hI' hF' b1W hb1 hc c0
 refine wpIn_label ?_
 gi_wp2_with (refine ⟨trivial, rfl, ?_⟩; gi_at_call 109; refine (callsIn_wide.2 (yha f t _)).mono ?_; rintro e w2 ⟨g, hg0, hg1, rfl, hcell, hb2⟩)
 have HCE := Lib.hid hcell
 have HB2 := Lib.hid (HB1.out.trans (hb2.mono HB1.out.size))
 have hz2 : w1.heap.size ≤ w2.heap.size := hb2.size
 have cy2 : w2.cell? ⟨W.heap.size, 0, none⟩ = some (.func fn yf yc) := (hb2.cell (p := ⟨W.heap.size, 0, none⟩) (by show W.heap.size < _; omega)).trans cy
 have HT2 := Lib.hid hb2
 clear hcell hb2 d1 d2 cy
 have hpn := yhb f t
 obtain ⟨n, hn⟩ : ∃ n, pN f t = n := ⟨_, rfl⟩
 have HN := Lib.hid hn
 rw [hn] at HCE hpn ⊢
 clear hn
 refine wpIn_loop (fun a V => ∃ (k : Nat) (Yo Ds : List Nat) (u6 u15 u16 u17 u18 u19 u20 u21 u22 u23 u24 u25 u26 u27 u28 u29 u30 u31 u32 u33 : Value),
   a = { tmps := #[.func fn yf yc, .pointer (some ⟨b0, 0, none⟩), .pointer (some ⟨b1, 0, none⟩), .pointer (some ⟨W.heap.size, 0, none⟩), .pointer p', undef, u6, undef, undef, .pointer p, .pointer p', .agg #[.int .u64 (f : Nat), .int .u64 (t : Nat)], .slice (some ⟨g, 0, none⟩) (n) (n), .int .i64 (n : Nat), .int .i64 (k : Nat), u15, u16, u17, u18, u19, u20, u21, u22, u23, u24, u25, u26, u27, u28, u29, u30, u31, u32, u33], defers := Ds.map mark } ∧
   k ≤ n ∧ w2.heap.size ≤ V.heap.size ∧ Hid (J (offA l f t k) V Yo) ∧ Hid (Left B Y0 W V Yo) ∧ Hid (∀ q ∈ Yo, q ∈ Y0 ∨ w2.heap.size ≤ q) ∧ V.cell? ⟨W.heap.size, 0, none⟩ = some (.func fn yf yc) ∧
   Hid (∀ q, W.heap.size < q → q < w2.heap.size → V.heap[q]? = w2.heap[q]?) ∧ Hid (Ds.Nodup ∧ ∀ D ∈ Ds, w2.heap.size ≤ D ∧ D ∉ Yo ∧ V.heap[D]? = some (.deferred (some []))))
  (fun a _ => n - (intOf (a.tmps.getD 14 undef)).toNat) ?_ ?_
 ·exact ⟨0, Y0, [], undef, undef, undef, undef, undef, undef, undef, undef, undef, undef, undef, undef, undef, undef, undef, undef, undef, undef, undef, undef, rfl, Nat.zero_le _, Nat.le_refl _, HJ.out 0 W w2 Y0 [] H0.out (Touch.ofBelow HB2.out) (by simp), ⟨⟨[], Touch.ofBelow HB2.out, by simp⟩, fun q hq => ⟨Nat.lt_of_lt_of_le (HY0.out q hq) HB2.out.size, .inl hq⟩⟩, fun q hq => .inl hq, cy2, fun q _ _ => rfl, List.nodup_nil, fun D hD => by cases hD⟩
 ·rintro a V ⟨k, Yo, Ds, u6, u15, u16, u17, u18, u19, u20, u21, u22, u23, u24, u25, u26, u27, u28, u29, u30, u31, u32, u33, rfl, hk, hV, HJk, HL, HYo, cyV, HOW, HDS⟩
  by_cases hlt : k < n
  ·have gc : V.heap[g]? = w2.heap[g]? := HOW.out g (by omega) hg1
   obtain ⟨e1, e2⟩ := HCE.out k hlt
   have hc1' : V.cell? ⟨g, k * 2, none⟩ = some (.int .u64 (pF f t k : Nat)) := (World.cell?_of_block gc).trans e1
   have hc2' : V.cell? ⟨g, k * 2 + 1, none⟩ = some (.int .u64 (pT f t k : Nat)) := (World.cell?_of_block gc).trans e2
   clear e1 e2 gc
   have hFl : pF f t k < 18446744073709551616 := yuv HF.out
   have hTl : pT f t k < 18446744073709551616 := yuw HT.out
   obtain ⟨F, hF⟩ : ∃ F, pF f t k = F := ⟨_, rfl⟩
   obtain ⟨T, hT⟩ : ∃ T, pT f t k = T := ⟨_, rfl⟩
   have HFF := Lib.hid hF
   have HTT := Lib.hid hT
   rw [hF] at hFl hc1'
   rw [hT] at hTl hc2'
   clear hF hT
   have HC1 := Lib.hid (fun w => yji F w hFl)
   have HC2 := Lib.hid (fun w => yji T w hTl)
   have HC3 := Lib.hid (fun w => ynm p' (txt (yaz F)) (txt (yaz T)) w)
   have t1 : decide (k < n) = true := by simp; omega
   gi_wp2
   obtain ⟨wb, hwb⟩ : ∃ wb, V.alloc (.cells #[.int .u64 (F : Nat), .int .u64 (T : Nat)] 25) = wb := ⟨_, rfl⟩
   have g0 : wb.cell? ⟨V.heap.size, 0, none⟩ = some (.int .u64 (F : Nat)) := by rw [← hwb]; exact yu0 _ _ _ _
   have g1 : wb.cell? ⟨V.heap.size, 1, none⟩ = some (.int .u64 (T : Nat)) := by rw [← hwb]; exact yu1 _ _ _ _
   have HVB : Hid (Below V.heap.size V wb) := by rw [← hwb]; exact (Below.refl _ _).alloc (Nat.le_refl _) _
   have zb : V.heap.size < wb.heap.size := by rw [← hwb]; simp
   have HSS : Hid (∀ w', Below wb.heap.size wb w' → Below wb.heap.size wb w' ∧ (w'.cell? ⟨V.heap.size, 0, none⟩ = some (.int .u64 (F : Nat)) ∧ w'.cell? ⟨V.heap.size, 1, none⟩ = some (.int .u64 (T : Nat)))) :=
    fun w' h => ⟨h, (h.cell (p := ⟨V.heap.size, 0, none⟩) zb).trans g0, (h.cell (p := ⟨V.heap.size, 1, none⟩) zb).trans g1⟩
   rw [hwb]
   clear g0 g1 hwb hc1' hc2'
   refine wpIn_wide.2 ?_
   go_region_held3 (fun w' => Below wb.heap.size wb w' ∧ (w'.cell? ⟨V.heap.size, 0, none⟩ = some (.int .u64 (F : Nat)) ∧ w'.cell? ⟨V.heap.size, 1, none⟩ = some (.int .u64 (T : Nat)))) ((first | exact HSS.out _ ((Below.refl _ _).drew) | exact yu2 HSS.out (by assumption) (by assumption)))
    (first | (go_at_call 140; (with_reducible refine (HC1.out _).mono ?_); rintro e w9 ⟨rfl, hb9⟩) | (go_at_call 140; (with_reducible refine (HC2.out _).mono ?_); rintro e w9 ⟨rfl, hb9⟩) | (go_at_call 165; (with_reducible refine (HC3.out _).mono ?_); rintro e w9 ⟨a0, a1, a2, rfl, ca0, ca1, ca2, za1, za2, hb9⟩))
   rename_i v1 hv1 v2 hv2 hH
   have hz9 : V.heap.size < a1 ∧ V.heap.size < a2 ∧ a1 < w9.heap.size ∧ a2 < w9.heap.size := by
    have x1 := hv1.size
    have x2 := hv2.size
    have x3 : wb.drew.heap.size = wb.heap.size := rfl
    have x4 : a1 < w9.heap.size := World.block_lt_of_cell? w9 _ ca1
    have x5 : a2 < w9.heap.size := World.block_lt_of_cell? w9 _ ca2
    omega
   have HV9 : Hid (Below V.heap.size V w9) := HVB.out.trans (hH.1.mono HVB.out.size)
   have hle9 := HV9.out.size
   clear hv1 hv2 hb9 hH za1 za2
   have cy9 : w9.cell? ⟨W.heap.size, 0, none⟩ = some (.func fn yf yc) := (HV9.out.cell (p := ⟨W.heap.size, 0, none⟩) (by show W.heap.size < _; omega)).trans cyV
   gi_wp2
   have HL9 : Hid (Left B Y0 W w9 ([W.heap.size] ++ Yo)) := by
    have z := HL.out.trans (Left.after HV9.out (Left.refl (B := B) (fun q hq => by have := (HL.out.2 q hq).1; omega)))
    exact ⟨z.1, fun q hq => by
     rcases List.mem_append.1 hq with y | y
     ·simp at y; subst y; exact ⟨by omega, .inr (Nat.le_refl _)⟩
     ·exact z.2 q y⟩
   have hYV : ∀ q ∈ Yo, q < V.heap.size := fun q hq => (HL.out.2 q hq).1
   have HYV := Lib.hid hYV
   clear hYV
   refine ygm (gf := 190) (lb := #[.pointer (some ⟨a0, 0, none⟩), .pointer (some ⟨a1, 0, none⟩), .pointer (some ⟨a2, 0, none⟩)]) rfl (enters_of Tryz.func190 (by kernel_rfl) rfl) (xs := yc9 l f t k) (B := [a1, a2] ++ B)
    (fun V1 hV1 => ?way) (fun q hq => ?bs) rfl
    (fun m V1 Y => ∃ Yi, Y = [W.heap.size] ++ Yi ∧ (∀ q ∈ Yi, q ∈ Yo ∨ w9.heap.size ≤ q) ∧ J (offA l f t k + m) V1 Yi ∧ V1.cell? ⟨W.heap.size, 0, none⟩ = some (.func fn yf yc))
    (fun c V1 Y => ∃ Yi, Y = [W.heap.size] ++ Yi ∧ (∀ q ∈ Yi, q ∈ Yo ∨ w9.heap.size ≤ q) ∧ c = .exit 0 ∧ Q V1 Yi)
    ([W.heap.size] ++ Yo)
    (fun q hq => (HL9.out.2 q hq).1)
    ⟨Yo, rfl, fun q hq => .inl hq, HJ.out _ V w9 Yo [] HJk.out (Touch.ofBelow HV9.out) (by simp), cy9⟩
    (by
     rintro m V1 V2 Y G ⟨Yi, rfl, h1, h2, h3⟩ tt hnn
     exact ⟨Yi, rfl, h1, HJ.out _ V1 V2 Yi G h2 tt (fun q hq => hnn q (List.mem_append_right _ hq)), (tt.cell (World.block_lt_of_cell? V1 _ h3) (hnn _ (by simp))).trans h3⟩)
    (by
     rintro c V1 V2 Y G ⟨Yi, rfl, h1, h2, h3⟩ tt hnn
     exact ⟨Yi, rfl, h1, h2, HQ.out V1 V2 Yi G h3 tt (fun q hq => hnn q (List.mem_append_right _ hq))⟩)
    (fun x => { tmps := #[.func fn yf yc, .pointer (some ⟨b0, 0, none⟩), .pointer (some ⟨b1, 0, none⟩), .pointer (some ⟨W.heap.size, 0, none⟩), .pointer p', undef, .pointer (some ⟨V.heap.size, 0, none⟩), .string x.1, .string x.2, .pointer p, .pointer p', .agg #[.int .u64 (f : Nat), .int .u64 (t : Nat)], .slice (some ⟨g, 0, none⟩) n n, .int .i64 (n : Nat), .int .i64 (k : Nat), .bool true, .pointer (some ⟨g, k * 2, none⟩), .agg #[.int .u64 (F : Nat), .int .u64 (T : Nat)], .pointer p', .pointer (some ⟨V.heap.size, 0, none⟩), .int .u64 (F : Nat), .string (txt (yaz F)), .pointer (some ⟨V.heap.size, 1, none⟩), .int .u64 (T : Nat), .string (txt (yaz T)), .func (.func 190) #[] #[.pointer (some ⟨a0, 0, none⟩), .pointer (some ⟨a1, 0, none⟩), .pointer (some ⟨a2, 0, none⟩)], .string x.1, .string x.2, u28, u29, u30, u31, u32, u33], defers := [] })
    ?assign ?body ?done ?stop
   case way =>
    have e : yc9 l f t k = yae l (txt (yaz F)) (txt (yaz T)) := by rw [yc9, HFF.out, HTT.out]; rfl
    rw [e]
    have hVW : Below V.heap.size V V1 := HV9.out.trans (hV1.mono HV9.out.size)
    refine yng HRI.out (fun w hw => HI.out w ((List.range w1.heap.size).filter fun q => decide (q ∉ F')) ?_ ?_) ((hV1.cell (p := ⟨a0, 0, none⟩) (World.block_lt_of_cell? w9 _ ca0)).trans ca0) ((hV1.cell (p := ⟨a1, 0, none⟩) hz9.2.2.1).trans ca1) ((hV1.cell (p := ⟨a2, 0, none⟩) hz9.2.2.2).trans ca2) _ (by simp) (by simp) (fun q hq => ?_)
    ·obtain ⟨⟨G, tG, _⟩, _⟩ := HL.out
     refine ⟨?_, ?_, ?_, ?_, fun q hq hn => ?_⟩
     ·rw [hw.os, hVW.os, tG.os, HB1.out.os]
     ·rw [hw.tape, hVW.tape, tG.tape, HB1.out.tape]
     ·rw [hw.output, hVW.output, tG.output, HB1.out.output]
     ·have := hw.size
      have := hVW.size
      omega
     ·have hF : q ∈ F' := by
       by_cases z : q ∈ F'
       ·exact z
       ·exact absurd (List.mem_filter.2 ⟨List.mem_range.2 hq, by simpa using z⟩) hn
      have h1 := (HF'.out q hF).1
      simp at h1
      have h2 := hVW.size
      rw [hw.block q (by omega), hVW.block q (by omega), HOW.out q (by omega) (by omega), HT2.out.block q hq]
    ·intro q hq hn
     have := (List.mem_filter.1 hn).2
     simp at this
     exact this hq
    ·have := hV1.size
     rcases List.mem_append.1 hq with y | y
     ·simp at y
      rcases y with rfl | rfl <;> omega
     ·have := HBW.out q y
      omega
   case bs =>
    rcases List.mem_append.1 hq with y | y
    ·simp at y
     rcases y with rfl | rfl
     ·exact hz9.2.2.1
     ·exact hz9.2.2.2
    ·have := HBW.out q y
     omega
   case assign =>
    intro lp x V1 K hK
    gi_wp2
    exact hK
   case body =>
    rintro lp m ⟨xk, xv⟩ V1 Y hV1 hx ⟨Yi, rfl, h1, h2, h3⟩ hY
    have hlZ : ∀ q ∈ [W.heap.size], q < V1.heap.size := fun q hq => hY q (List.mem_append_left _ hq)
    have hlY : ∀ q ∈ Yi, q < V1.heap.size := fun q hq => hY q (List.mem_append_right _ hq)
    have hat := yuy l (f := f) (t := t) (k := k) HF.out HT.out (by rw [HN.out]; exact hlt) hx
    have hcall : Calls Tryz.prog 166 #[.func fn yf yc, .string xk, .string xv] V1 _ := yig (.func fn yf yc) xk xv V1 _ (HR.out (offA l f t k + m) (xk, xv) V1 Yi hat h2 hlY) (by
     rintro e w' ⟨Y', _, (⟨rfl, _⟩ | ⟨rfl, _⟩)⟩ <;> exact ⟨_, rfl⟩)
    have HC := Lib.hid hcall
    have HY1 : Hid (∀ q ∈ [a1, a2], q ∉ Yi) := by
     intro q hq hy
     have hq' : V.heap.size < q ∧ q < w9.heap.size := by
      simp at hq
      rcases hq with rfl | rfl
      ·exact ⟨hz9.1, hz9.2.2.1⟩
      ·exact ⟨hz9.2.1, hz9.2.2.2⟩
     rcases h1 q hy with z | z
     ·have := HYV.out q z
      omega
     ·omega
    have HYY : Hid (W.heap.size ∉ Yi) := fun z => by
     rcases h1 _ z with y | y
     ·rcases HYo.out _ y with x | x
      ·have := HY0.out _ x; omega
      ·omega
     ·omega
    have H1 := Lib.hid h1
    have HLZ := Lib.hid hlZ
    clear hcall hat h1 h2 hlZ hlY hx hY
    gi_wp2_with (refine ⟨trivial, rfl, ?_⟩; gi_at_call 166; refine (CallsIn.inRound lp (callsIn_wide.2 HC.out)).mono ?_; clear HC; rintro e V2 ⟨Yo2, hL2, (⟨rfl, hj⟩ | ⟨rfl, hq⟩)⟩)
    ·have hM := (hL2.more HLZ.out).guard (C := [a1, a2]) (by
      intro q hq hy
      rcases List.mem_append.1 hy with z | z
      ·simp at z hq
       have := hz9.1
       have := hz9.2.1
       omega
      ·exact HY1.out q hq z)
     refine ⟨_, hM, Yo2, rfl, fun q hq => ?_, hj, (hL2.cell (p := ⟨W.heap.size, 0, none⟩) h3 HYY.out).1⟩
     rcases (hL2.2 q hq).2 with z | z
     ·exact H1.out q z
     ·exact .inr (by omega)
    ·have hM := (hL2.more HLZ.out).guard (C := [a1, a2]) (by
      intro q hq hy
      rcases List.mem_append.1 hy with z | z
      ·simp at z hq
       have := hz9.1
       have := hz9.2.1
       omega
      ·exact HY1.out q hq z)
     refine ⟨_, hM, Yo2, rfl, fun q hq => ?_, rfl, hq⟩
     rcases (hL2.2 q hq).2 with z | z
     ·exact H1.out q z
     ·exact .inr (by omega)
   case done =>
    rintro D V1 Y hD hDn hL1 ⟨Yi, rfl, h1, h2, h3⟩ hK
    have HN1 : Hid (Left B Y0 W V1 Yi) := ((HL9.out.trans hL1.unguard).sub (fun q hq => List.mem_append_right _ hq))
    have hsz := hL1.size
    have HJ1 : Hid (J (offA l f t (k + 1)) V1 Yi) := h2
    have HY2 : Hid (∀ q ∈ Yi, q ∈ Y0 ∨ w2.heap.size ≤ q) := fun q hq => by
     rcases h1 q hq with z | z
     ·exact HYo.out q z
     ·exact .inr (by omega)
    have hkeep : ∀ q, q < w9.heap.size → q ≠ W.heap.size → q ∉ Yo → V1.heap[q]? = w9.heap[q]? := fun q hq hne hn => by
     obtain ⟨⟨G, tG, hG⟩, _⟩ := hL1
     refine tG.block q hq (fun z => ?_)
     rcases List.mem_append.1 (hG q z).1 with y | y
     ·simp at y; exact hne y
     ·exact hn y
    have HO2 : Hid (∀ q, W.heap.size < q → q < w2.heap.size → V1.heap[q]? = w2.heap[q]?) := fun q ha hb => by
     have hn : q ∉ Yo := fun z => by
      rcases HYo.out q z with y | y
      ·have := HY0.out q y; omega
      ·omega
     rw [hkeep q (by omega) (by omega) hn, HV9.out.block q (by omega), HOW.out q ha hb]
    have HD2 : Hid ((D :: Ds).Nodup ∧ ∀ E ∈ D :: Ds, w2.heap.size ≤ E ∧ E ∉ Yi ∧ V1.heap[E]? = some (.deferred (some []))) := by
     refine ⟨List.nodup_cons.2 ⟨fun z => ?_, HDS.out.1⟩, fun E hE => ?_⟩
     ·have := (Array.getElem?_eq_some_iff.1 (HDS.out.2 D z).2.2).1
      omega
     ·rcases List.mem_cons.1 hE with rfl | hE
      ·exact ⟨by omega, fun z => hDn (List.mem_append_right _ z), hK⟩
      ·obtain ⟨x1, x2, x3⟩ := HDS.out.2 E hE
       have hlt' := (Array.getElem?_eq_some_iff.1 x3).1
       refine ⟨x1, fun z => ?_, ?_⟩
       ·rcases h1 E z with y | y
        ·exact x2 y
        ·omega
       ·rw [hkeep E (by omega) (by omega) x2, HV9.out.block E hlt']; exact x3
    clear hkeep h1 h2 hL1 hDn hK
    gi_wp2
    refine ⟨⟨k + 1, Yi, D :: Ds, _, _, _, _, _, _, _, _, _, _, _, _, _, _, _, _, _, _, _, _, rfl, by omega, by omega, HJ1, HN1, HY2, h3, HO2, HD2⟩, ?_⟩
    simp [intOf]
    omega
   case stop =>
    rintro D c V1 Y hD hDn hL1 ⟨Yi, rfl, h1, rfl, h2⟩ hK
    have HN1 : Hid (Left B Y0 W V1 Yi) := ((HL9.out.trans hL1.unguard).sub (fun q hq => List.mem_append_right _ hq))
    have hsz := hL1.size
    have HQ1 := Lib.hid h2
    have HD2 : Hid ((D :: Ds).Nodup ∧ ∀ E ∈ D :: Ds, w2.heap.size ≤ E ∧ E ∉ Yi ∧ V1.heap[E]? = some (.deferred (some []))) := by
     refine ⟨List.nodup_cons.2 ⟨fun z => ?_, HDS.out.1⟩, fun E hE => ?_⟩
     ·have := (Array.getElem?_eq_some_iff.1 (HDS.out.2 D z).2.2).1
      omega
     ·rcases List.mem_cons.1 hE with rfl | hE
      ·exact ⟨by omega, fun z => hDn (List.mem_append_right _ z), hK⟩
      ·obtain ⟨x1, x2, x3⟩ := HDS.out.2 E hE
       have hlt' := (Array.getElem?_eq_some_iff.1 x3).1
       refine ⟨x1, fun z => ?_, ?_⟩
       ·rcases h1 E z with y | y
        ·exact x2 y
        ·omega
       ·obtain ⟨⟨G, tG, hG⟩, _⟩ := hL1
        refine ((tG.block E (by omega) (fun z => ?_)).trans (HV9.out.block E hlt')).trans x3
        rcases List.mem_append.1 (hG E z).1 with y | y
        ·simp at y; omega
        ·exact x2 y
    clear h1 h2 hL1 hDn hK
    gi_wp2
    exact ygn (D :: Ds) V1 HD2.out.1 (fun E hE => (HD2.out.2 E hE).2.2) (fun V' tt => ⟨_, results_none rfl _ _ _, rfl, Yi, HN1.out.turn tt (fun E hE => by have := (HD2.out.2 E hE).1; omega), .inr (HQ.out V1 V' Yi _ HQ1.out tt (fun q hq hE => (HD2.out.2 q hE).2.1 hq))⟩)
  ·obtain rfl : k = n := by omega
   have t1 : decide ((k : Nat) < k) = false := by simp
   have HE : Hid (offA l f t k = (arcL l f t).length) := by rw [← HN.out]; exact yux l HF.out HT.out
   gi_wp2
   exact ygn Ds V HDS.out.1 (fun E hE => (HDS.out.2 E hE).2.2) (fun V' tt => ⟨_, results_none rfl _ _ _, rfl, Yo, HL.out.turn tt (fun E hE => by have := (HDS.out.2 E hE).1; omega), .inl (by rw [← HE.out]; exact HJ.out _ V V' Yo _ HJk.out tt (fun q hq hE => (HDS.out.2 q hE).2.1 hq))⟩)
theorem yu3 (p : Option Addr) (f t : Nat) (W : World) : Calls Tryz.prog 106 #[.pointer p, .agg #[.int .u64 (f : Nat), .int .u64 (t : Nat)]] W fun e w' =>
  e = .returned (.func (.func 163) #[] #[.pointer (some ⟨W.heap.size, 0, none⟩), .pointer (some ⟨W.heap.size + 1, 0, none⟩)]) ∧
  w' = (W.alloc (.cells #[.pointer p] 109)).alloc (.cells #[.int .u64 (f : Nat), .int .u64 (t : Nat)] 25) := by
 go_enter Tryz.func106, Tryz.ntmps106
 go_wp2_with fail
 go_ret
 exact ⟨rfl, rfl⟩
end Go.Proofs.YtnjodhglbapnlaaGreat
namespace Go.Proofs.YtnjodhglbapnlaaGreat
open Go.RowKit
theorem yno {l : List Item} (h : yah l) (k : ByteArray) (x : Item) : x ∈ delN l k ↔ x ∈ l ∧ x.1 ≠ k := by
 have nu : ∀ {a : List Item}, ya7 a k → ∀ {x}, x ∈ a → x.1 ≠ k := fun ha x hx e => by
  have := ha x hx; rw [e, yc1] at this; cases this
 have no : ∀ {b : List Item}, (∀ y ∈ b, yad k y.1 = true) → ∀ {x}, x ∈ b → x.1 ≠ k := fun hb x hx e => by
  have := hb x hx; rw [e, yc1] at this; cases this
 rcases yhq h k with ⟨a, u, b, rfl, ha, hb⟩ | ⟨a, b, rfl, ha, hb⟩
 ·rw [show delN (a ++ (k, u) :: b) k = a ++ b from yf9 (x := (k, u)) ha b]
  simp only [List.mem_append, List.mem_cons]
  constructor
  ·rintro (z | z)
   ·exact ⟨.inl z, nu ha z⟩
   ·exact ⟨.inr (.inr z), no hb z⟩
  ·rintro ⟨z | z | z, hn⟩
   ·exact .inl z
   ·exact absurd (by rw [z]) hn
   ·exact .inr z
 ·rw [yjg ha, (ygb hb).2.2]
  simp only [List.mem_append]
  constructor
  ·rintro (z | z)
   ·exact ⟨.inl z, nu ha z⟩
   ·exact ⟨.inr z, no hb z⟩
  ·rintro ⟨z, _⟩
   exact z
theorem yu4 {l : List Item} {k : ByteArray} (h : hasN l k = false) : getN l k = ByteArray.empty := by
 unfold hasN at h
 unfold getN
 split
 ·rename_i x e
  rw [e] at h
  rw [if_neg (by simpa using h)]
 ·rfl
theorem yu5 {l : List Item} {f t : Nat} {x : Item} (h : x ∈ arcL l f t) : x ∈ l ∧ inB f t (adr x) = true := by
 rw [arcL, List.mem_append, List.mem_filter, List.mem_filter] at h
 rcases h with ⟨a, b⟩ | ⟨a, b⟩ <;> (unfold inA at b; rw [Bool.and_eq_true] at b; exact ⟨a, b.1⟩)
end Go.Proofs.YtnjodhglbapnlaaGreat
