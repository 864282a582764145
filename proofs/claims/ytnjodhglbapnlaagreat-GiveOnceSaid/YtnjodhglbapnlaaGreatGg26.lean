import Derived.Test.YtnjodhglbapnlaaGreatGg25
import Derived.Test.YtnjodhglbapnlaaGreatGg03
import Derived.Test.YtnjodhglbapnlaaGreatGg08
import Derived.Deep.CutBlock
import Derived.Deep.DeepCutAuto
import Derived.Deep.RegionHeld3
import Derived.Deep.LoopGhost
import Derived.BigQuiet
set_option maxRecDepth 100000
set_option maxHeartbeats 16000000
namespace Go.Proofs.YtnjodhglbapnlaaGreat
open Go.RowKit
attribute [local go_sem] Oper.semAt_some
abbrev QM (fn : Func) (R : Ending → World → Prop) : Exit → Act → World → Prop
 | .normal, a, w | .ret, a, w => LeavesInM Fence.wide 0 Tryz.prog fn a.tmps R a.defers .returning w
 | .outgrown, _, w => R .outgrown w
 | _, _, _ => False
theorem ypj {fn : Func} {R : Ending → World → Prop} : ∀ e a w, QM fn R e a w → bodyPostM Fence.wide 0 Tryz.prog fn R e a w := by
 intro e a w h
 cases e with
 | normal => exact h
 | ret => exact h
 | outgrown => exact h
 | panic _ => exact h.elim
 | exit _ => exact h.elim
 | goto _ => exact h.elim
theorem ypk {w w1 : World} {g sp : Nat} {s : HO} {l : List AO} {S : Value} {Fs Fg : List Nat} {f t : Nat} {er : Int} (h : HM w g s l S sp Fs Fg) (hb : Below w.heap.size w w1) (hc : (s.g.shut = true ∧ er = 7) ∨ (s.g.shut = false ∧ (∃ x, x < 18446744073709551616 ∧ inB f t x = true ∧ s.own x = none) ∧ er = 1)) : yhz VD w g s (hF S Fs Fg) f t (.returned (.tuple #[.slice none 0 0, .int .i64 0, .int .i64 er])) w1 := by
 refine ⟨[], 0, er, s, .slice none 0 0, hF S Fs Fg, rfl, World.ownsRow_nil _ _ _ _, fun q hq => (by cases hq), ⟨l, S, sp, Fs, Fg, h.below hb, rfl⟩, Touch.ofBelow hb, fun q hq => .inl hq, ?_⟩
 rcases hc with ⟨x, y⟩ | ⟨x, y, z⟩
 ·exact .inl ⟨x, y, rfl, rfl, rfl⟩
 ·exact .inr (.inl ⟨x, y, z, rfl, rfl, rfl⟩)
theorem yzm {V w3 : World} {z n0 : Nat} {A A3 : Option Addr} {c c3 m k : Nat} {xs ys : List Value} {o : Obj} (hn : z < n0) (h2 : Var V z (.slice A m c)) (hr : V.ownsRow n0 96 2 (.slice A m c) m xs)
  (tt : Touch (Value.slice A m c).ownBlock.toList V w3) (ho : w3.ownsRow n0 96 2 (.slice A3 k c3) k ys) (hs : yax (V.alloc o) (.slice A m c) (.slice A3 k c3)) :
  Left [] ([z] ++ (Value.slice A m c).ownBlock.toList) V (w3.setCell ⟨z, 0, none⟩ (.slice A3 k c3)) ([z] ++ (Value.slice A3 k c3).ownBlock.toList) ∧ Var (w3.setCell ⟨z, 0, none⟩ (.slice A3 k c3)) z (.slice A3 k c3) ∧ (w3.setCell ⟨z, 0, none⟩ (.slice A3 k c3)).ownsRow n0 96 2 (.slice A3 k c3) k ys := by
 have l2 := h2.lt
 have hown : ∀ q, q ∈ (Value.slice A m c).ownBlock.toList → n0 ≤ q ∧ q < V.heap.size := fun q hq => hr.lt q (by simpa using hq)
 have e4 : (w3.setCell ⟨z, 0, none⟩ (.slice A3 k c3)).heap.size = w3.heap.size := by simp [World.setCell]
 have s3 := tt.size
 have own3 : ∀ q, (Value.slice A3 k c3).ownBlock = some q → n0 ≤ q ∧ q < w3.heap.size := fun q hq => ho.lt q hq
 have no : z ∉ (Value.slice A m c).ownBlock.toList := fun y => by have := hown z y; omega
 refine ⟨⟨⟨z :: (Value.slice A m c).ownBlock.toList, (tt.mono (fun x hx => by simp [hx])).set (.inl (by simp)) _, fun q hq => ⟨by simpa using hq, by simp⟩⟩, fun q hq => ?_⟩, (h2.touch tt no).set _, ?_⟩
 ·rw [e4]
  rcases List.mem_append.1 hq with y | y
  ·have e := List.mem_singleton.1 y
   exact ⟨by omega, .inl (by simp [e])⟩
  ·have y' : (Value.slice A3 k c3).ownBlock = some q := by simpa using y
   refine ⟨(own3 q y').2, ?_⟩
   rcases hs q y' with u | u
   ·exact .inl (List.mem_append_right _ (by simp [u]))
   ·simp at u
    exact .inr (by omega)
 ·exact ((Touch.refl [z] _).set (.inl (by simp)) _).row ho (fun q hq y => by
   have := own3 q hq
   have e := List.mem_singleton.1 y
   omega)
theorem yzn {w w3 w5 w6 w7 V : World} {g sp : Nat} {s : HO} {l : List AO} {S : Value} {Fs Fg Fg5 Y : List Nat} {f t b12 D : Nat} {ep : Int} {A8 : Option Addr} {c8 : Nat} (hb3 : Below w.heap.size w w3) (ht5 : Touch Fg w3 w5) (hn5 : ∀ q ∈ Fg5, q ∈ Fg ∨ w3.heap.size ≤ q)
  (h5 : HM w5 g ⟨s.nd, s.most, s.kept, s.own, s.its, s.g.freeze f t, s.k⟩ l S sp Fs Fg5) (h12 : w5.heap.size = b12) (hb6 : Below w5.heap.size w5 w6) (hb7 : Below w6.heap.size w6 w7) (hL : Left [] [b12] w7 V Y) (hD : w7.heap.size ≤ D) (hDn : D ∉ (Value.slice A8 (arcL s.its f t).length c8).ownBlock.toList)
  (hr : V.ownsRow w7.heap.size 96 2 (.slice A8 (arcL s.its f t).length c8) (arcL s.its f t).length (yaa (arcL s.its f t))) (hs : s.g.shut = false) (hy : (∀ x, x < 18446744073709551616 → inB f t x = true → s.own x ≠ none) ∧ ydf s.own (fun x => inB f t x = true) ep) :
  yhz VD w g s (hF S Fs Fg) f t (.returned (.tuple #[.slice A8 (arcL s.its f t).length c8, .int .i64 ep, .int .i64 0])) (V.putObj D (.deferred none)) := by
 obtain ⟨⟨G, tg, hG⟩, _⟩ := hL
 have hp : Touch [D] V (V.putObj D (.deferred none)) := (Touch.refl _ _).put (.inl (by simp)) _
 have z3 := hb3.size
 have z5 := ht5.size
 have z6 := hb6.size
 have z7 := hb7.size
 have l5 := h5.all_lt
 have h7 := (h5.below hb6).below hb7
 have hg12 : ∀ q ∈ G, q = b12 := fun q hq => List.mem_singleton.1 (hG q hq).1
 have hV := h7.touch tg (fun q hq z => by have := l5 q hq; have := hg12 q z; omega)
 have hE := hV.touch hp (fun q hq z => by have := l5 q hq; have e := List.mem_singleton.1 z; omega)
 have hfz : s.g.freeze f t = ⟨true, f, t, s.g.l, s.g.k⟩ := by unfold GS.freeze; rw [hs]; rfl
 rw [hfz] at hE
 refine ⟨arcL s.its f t, ep, 0, _, .slice A8 (arcL s.its f t).length c8, hF S Fs Fg5, rfl, ybp (hp.row hr (fun q hq z => hDn (by have e := List.mem_singleton.1 z; simp [← e, hq]))) (by omega), fun q hq z => ?_, ⟨l, S, sp, Fs, Fg5, hE, rfl⟩, ?_, fun q hq => ?_, .inr (.inr ⟨hs, hy.1, rfl, rfl, hy.2, rfl⟩)⟩
 ·have := (hr.lt q hq).1
  have := l5 q z
  omega
 ·have t1 : Touch (hF S Fs Fg) w w5 := (Touch.ofBelow hb3).trans ht5 (fun q hq => .inl (yau.2 (.inr (.inr hq))))
  have t2 : Touch (hF S Fs Fg) w w7 := (t1.trans (Touch.ofBelow (F := []) hb6) (by simp)).trans (Touch.ofBelow (F := []) hb7) (by simp)
  exact (t2.trans tg (fun q hq => .inr (by have := hg12 q hq; omega))).trans hp (fun q hq => .inr (by have e := List.mem_singleton.1 hq; omega))
 ·rcases yau.1 hq with y | y | y
  ·exact .inl (yau.2 (.inl y))
  ·exact .inl (yau.2 (.inr (.inl y)))
  ·rcases hn5 q y with u | u
   ·exact .inl (yau.2 (.inr (.inr u)))
   ·exact .inr (by omega)
theorem yzo {w : World} {g : Nat} {s : HO} {F : List Nat} (f t : Nat) (hf : f < 18446744073709551616) (ht : t < 18446744073709551616) (hk : s.k ≤ 1000) (hv : VD w g s F) : Calls Tryz.prog 27 #[.pointer (some ⟨g, 0, none⟩), .agg #[.int .u64 (f : Nat), .int .u64 (t : Nat)]] w (yhz VD w g s F f t) := by
 obtain ⟨l, S, sp, Fs, Fg, h, rfl⟩ := hv
 obtain ⟨A, c, rfl, hq1, hq2⟩ := h.row.shape
 clear hq1 hq2
 have B0 : Below w.heap.size w (w.alloc (.cells (a2 f t) 25)) := (Below.refl _ _).alloc (Nat.le_refl _) _
 have hx := Bx.new w (a2 f t) 25
 have h1 := h.below B0
 have CN := Lib.hid (ydb g sp _ h1.c4)
 have C1 := Lib.hid (Gi.gateArc_any h1.gate)
 have HH := Lib.hid h
 have CF : Hid (∀ (w' : World), HM w' g s l (.slice A l.length c) sp Fs Fg → Calls Tryz.prog 104 #[.pointer (some ⟨g, 0, none⟩), .agg (a2 f t)] w' (yfu w' s.own f t)) := fun w' h' =>
  ym8 l s.nd s.own f t g A c l.length w' h'.row h'.c3 (by have := h'.few; omega) h'.ol hf ht
 have HF := Lib.hid hf
 have HT := Lib.hid ht
 obtain ⟨gf, hgf⟩ : ∃ gf, s.g.f = gf := ⟨_, rfl⟩
 obtain ⟨gt, hgt⟩ : ∃ gt, s.g.t = gt := ⟨_, rfl⟩
 obtain ⟨b, hb⟩ : ∃ b, s.g.shut = b := ⟨_, rfl⟩
 rw [hgf, hgt, hb] at C1
 have HSH : Hid (s.g.shut = b) := hb
 clear h hf ht hk hgf hgt hb
 refine (callsIn_wide (n := 0)).1 (callsIn_of_wp_marks Tryz.func27 rfl trivial ?_ rfl)
 simp only [Tryz.ntmps27, List.size_toArray, List.length_cons, List.length_nil, Nat.reduceAdd, Nat.reduceSub, Array.replicate_succ, Array.replicate_zero, List.push_toArray, List.append_toArray, List.nil_append, List.cons_append]
 refine wpIn_wide.2 (Code.wp_mono (fun e a w => ypj e a w) ?_)
 go_upto_region 1 with fail
 obtain ⟨b3, hb3⟩ : ∃ b3, w.heap.size = b3 := ⟨_, rfl⟩
 have HBb : Hid (w.heap.size ≤ b3) := Nat.le_of_eq hb3
 rw [hb3] at hx
 obtain ⟨w0, hw0⟩ : ∃ w0, w.alloc (.cells #[.int .u64 (f : Nat), .int .u64 (t : Nat)] 25) = w0 := ⟨_, rfl⟩
 rw [hw0] at B0 hx h1 C1 CN ⊢
 try rw [hb3]
 clear hw0 hb3
 have HB0 := Lib.hid B0
 have HX0 := Lib.hid hx
 have H0 := Lib.hid h1
 clear B0 hx h1
 go_upto_region 4 with (first | (go_at_call 53; (with_reducible refine (CN.out).mono ?_); rintro e wn ⟨rfl, rfl⟩) | (go_at_call 103; (with_reducible refine (C1.out).mono ?_); rintro e w1 ⟨rfl, hb1⟩; have HB1 := Lib.hid (acc HB0.out hb1); have HX1 := Lib.hid (HX0.out.below hb1); have H1 := Lib.hid (H0.out.below hb1); obtain ⟨x0, x1, xl⟩ := HX1.out.two; clear hb1))
 clear x0 x1 xl
 have HB2 := Lib.hid (HB1.out.alloc HB1.out.size (.cells (a2 gf gt) 25))
 have HX2 := Lib.hid (HX1.out.old (.cells (a2 gf gt) 25))
 have H2 := Lib.hid (H1.out.below ((Below.refl w1.heap.size w1).alloc (Nat.le_refl _) (.cells (a2 gf gt) 25)))
 obtain ⟨b7, hb7⟩ : ∃ b7, w1.heap.size = b7 := ⟨_, rfl⟩
 obtain ⟨w2, hw2⟩ : ∃ w2, w1.alloc (.cells #[.int .u64 (gf : Nat), .int .u64 (gt : Nat)] 25) = w2 := ⟨_, rfl⟩
 rw [hw2] at HB2 HX2 H2 ⊢
 try rw [hb7]
 clear hw2 hb7
 obtain ⟨x0, x1, xl⟩ := HX2.out.two
 cases b
 case true =>
  go_wp2_with fail
  refine ⟨.tuple #[.slice none 0 0, .int .i64 0, .int .i64 7], by simp [results, Tryz.results27, go_sem], ?_⟩
  exact ypk HH.out HB2.out (.inl ⟨HSH.out, rfl⟩)
 case false =>
  go_upto_region 7 with (go_at_call 104; (with_reducible refine (CF.out _ H2.out).mono ?_); rintro e w3 ⟨to_, ep, all, rfl, hF, hb3⟩; have HFO := Lib.hid hF; have HB3 := Lib.hid (acc HB2.out hb3); have HX3 := Lib.hid (HX2.out.below hb3); have H3 := Lib.hid (H2.out.below hb3); clear hF hb3)
  clear x0 x1 xl
  cases all
  case false =>
   go_wp2_with fail
   refine ⟨.tuple #[.slice none 0 0, .int .i64 0, .int .i64 1], by simp [results, Tryz.results27, go_sem], ?_⟩
   exact ypk HH.out HB3.out (.inr ⟨HSH.out, HFO.out.no HF.out HT.out, rfl⟩)
  case true =>
   go_upto_region 9 with fail
   have HSS : Hid (∀ w', Below w3.heap.size w3 w' → w'.cell? ⟨b3, 0, none⟩ = some (.int .u64 (f : Nat)) ∧ w'.cell? ⟨b3, 1, none⟩ = some (.int .u64 (t : Nat))) := fun w' tt => ⟨(HX3.out.below tt).two.1, (HX3.out.below tt).two.2.1⟩
   have CZ : Hid (∀ w', Below w3.heap.size w3 w' → Calls Tryz.prog 105 #[.pointer (some ⟨g, 5, none⟩), .agg (a2 f t)] w' fun e w'' => ∃ F1, e = .returned (.bool !s.g.shut) ∧ Gi.VG w'' g (hcOf s (.slice A l.length c) sp) (s.g.freeze f t) F1 ∧ Touch Fg w' w'' ∧ ∀ q ∈ F1, q ∈ Fg ∨ w'.heap.size ≤ q) := fun w' tt => Gi.gateFreeze_any f t HF.out HT.out (H3.out.below tt).gate
   have LG := H3.out.lt
   refine ybe (fun w' => w'.cell? ⟨b3, 0, none⟩ = some (.int .u64 (f : Nat)) ∧ w'.cell? ⟨b3, 1, none⟩ = some (.int .u64 (t : Nat))) 4 (by kernel_rfl) ?_ (fun hHeld => ?_)
   ·(try dsimp only); exact HSS.out _ (Below.refl _ _).drew
   refine wtP 0 ?_
   try simp only [Act.put, wsA, wsB, wsC]
   refine wtP 1 ?_
   try simp only [Act.put, wsA, wsB, wsC]
   refine wtP 2 ?_
   try simp only [Act.put, wsA, wsB, wsC]
   refine wtT 3 ?_
   try simp only [Act.put, wsA, wsB, wsC]
   refine wtD 4 fun K hK => ?_
   go_simp
   (first | (go_at_call 105; (with_reducible refine (CZ.out _ (Below.refl w3.heap.size w3).drew).mono ?_); rintro e w5 ⟨Fg5, rfl, hg5, ht5, hn5⟩))
   have HT5 : Hid (Touch Fg w3 w5) := ((Touch.refl _ _).drew).trans ht5 (fun q hq => .inl hq)
   have HN5 : Hid (∀ q ∈ Fg5, q ∈ Fg ∨ w3.heap.size ≤ q) := hn5
   have H5 := Lib.hid (H3.out.setGate hg5 HT5.out HN5.out)
   have HX5 := Lib.hid (HX3.out.touch HT5.out (fun z => by have := HH.out.all_lt b3 (yau.2 (.inr (.inr z))); have := HBb.out; omega))
   clear hg5 ht5 hn5
   go_wp2_with fail
   refine hK.out _ _ ?_
   clear hK K
   try simp only [Act.put, wsA, wsB, wsC]
   refine ya8 (by kernel_rfl) ?_ _
   go_upto_region 11 with fail
   obtain ⟨s5, hs5⟩ : ∃ s5 : HO, s5 = ⟨s.nd, s.most, s.kept, s.own, s.its, s.g.freeze f t, s.k⟩ := ⟨_, rfl⟩
   have HS5 := Lib.hid hs5
   have h5 := H5.out
   rw [← hs5] at h5
   have HTS : Hid (s5.its = s.its ∧ s5.most = s.most) := by rw [hs5]; exact ⟨rfl, rfl⟩
   clear hs5
   have hb6 : Below w5.heap.size w5 (w5.alloc (.cells #[.slice none 0 0] 22)) := (Below.refl _ _).alloc (Nat.le_refl _) _
   have HB6 := Lib.hid hb6
   have HX6 := Lib.hid (HX5.out.below hb6)
   have H6 := Lib.hid (h5.below hb6)
   have HV6 := Lib.hid (Var.new w5 (.slice none 0 0) 22)
   have hz6 : (w5.alloc (.cells #[.slice none 0 0] 22)).heap.size = w5.heap.size + 1 := by simp
   clear hb6 h5
   obtain ⟨b12, hb12⟩ : ∃ b12, w5.heap.size = b12 := ⟨_, rfl⟩
   have HQ5 := Lib.hid hb12
   rw [hb12] at HV6 hz6
   obtain ⟨w6, hw6⟩ : ∃ w6, w5.alloc (.cells #[.slice none 0 0] 22) = w6 := ⟨_, rfl⟩
   rw [hw6] at HB6 HX6 H6 HV6 hz6 ⊢
   try rw [hb12]
   clear hw6 hb12
   have HZ6 := Lib.hid hz6
   clear hz6
   have HSS11 : Hid (∀ w', Below w6.heap.size w6 w' → w'.cell? ⟨g, 4, none⟩ = some (.pointer (some ⟨sp, 0, none⟩)) ∧ w'.cell? ⟨b3, 0, none⟩ = some (.int .u64 (f : Nat)) ∧ w'.cell? ⟨b3, 1, none⟩ = some (.int .u64 (t : Nat))) := fun w' tt => ⟨(H6.out.below tt).c4, (HX6.out.below tt).two.1, (HX6.out.below tt).two.2.1⟩
   refine ybe (fun w' => w'.cell? ⟨g, 4, none⟩ = some (.pointer (some ⟨sp, 0, none⟩)) ∧ w'.cell? ⟨b3, 0, none⟩ = some (.int .u64 (f : Nat)) ∧ w'.cell? ⟨b3, 1, none⟩ = some (.int .u64 (t : Nat))) 5 (by kernel_rfl) ?_ (fun hHeld => ?_)
   ·(try dsimp only); exact HSS11.out _ (Below.refl _ _).drew
   refine wtP 0 ?_
   try simp only [Act.put, wsA, wsB, wsC]
   refine wtP 1 ?_
   try simp only [Act.put, wsA, wsB, wsC]
   refine wtP 2 ?_
   try simp only [Act.put, wsA, wsB, wsC]
   refine wtT 3 ?_
   try simp only [Act.put, wsA, wsB, wsC]
   refine wtT 4 ?_
   try simp only [Act.put, wsA, wsB, wsC]
   refine wtD 5 fun K hK => ?_
   go_simp
   (first | (go_at_call 106; (with_reducible refine (yor _ f t _).mono ?_); rintro e w7 ⟨a0, a1, rfl, ca0, ca1, ca2, hb7⟩))
   have HB7 : Hid (Below w6.heap.size w6 w7) := ((Below.refl w6.heap.size w6).drew).trans hb7
   clear hb7
   go_wp2_with fail
   refine hK.out _ _ ?_
   clear hK K
   try simp only [Act.put, wsA, wsB, wsC]
   refine ya8 (by kernel_rfl) ?_ _
   go_wp2_with fail
   refine (wpIn_wide (n := 0)).1 ?_
   gi_wp2
   have h7 := H6.out.below HB7.out
   have hsrc : Src w7 (some ⟨sp, 0, none⟩) s.its := by
    have := ykt h7.shelf
    rw [HTS.out.1] at this
    exact this
   have HS := Lib.hid hsrc
   have hxs : (arcL s.its f t).length ≤ 400 := by
    have h2 := ykn s.its f t
    have h3 := HS.out.len
    omega
   have HX := Lib.hid hxs
   have hz7 : b12 + 1 ≤ w7.heap.size := by have := HB7.out.size; rw [HZ6.out] at this; exact this
   have v2 := HV6.out.below HB7.out
   obtain ⟨i0, hi0, hz0, hs0, hb0⟩ := ydk
   clear hxs hsrc h7 hHeld
   refine ygm (gf := 163) (lb := #[.pointer (some ⟨a0, 0, none⟩), .pointer (some ⟨a1, 0, none⟩)]) rfl (enters_of Tryz.func163 (by kernel_rfl) rfl) (xs := arcL s.its f t) (B := [])
    (fun V hV => ynn HS.out.rising (fun w hw => HS.out.copy w (acc hV hw)) HF.out HT.out ((hV.cell (p := ⟨a0, 0, none⟩) (World.block_lt_of_cell? w7 _ ca0)).trans ca0) ((hV.cell (p := ⟨a1, 0, none⟩) (World.block_lt_of_cell? w7 _ ca1)).trans ca1) ((hV.cell (p := ⟨a1, 1, none⟩) (World.block_lt_of_cell? w7 _ ca2)).trans ca2) [] (by simp)) (by simp) rfl
    (fun m V Y => ∃ A c, Y = [b12] ++ (Value.slice A m c).ownBlock.toList ∧ Var V b12 (.slice A m c) ∧ V.ownsRow w7.heap.size 96 2 (.slice A m c) m (yaa ((arcL s.its f t).take m)))
    (fun _ _ _ => False)
    [b12] (fun q hq => by have e := List.mem_singleton.1 hq; omega)
    ⟨none, 0, rfl, v2, World.ownsRow_nil _ _ _ _⟩
    (by
     rintro m V V1 Y G ⟨A, c, rfl, h2, h3⟩ tt hn
     exact ⟨A, c, rfl, h2.touch tt (hn _ (by simp)), tt.row h3 (fun q hq => hn q (by simp [hq]))⟩)
    (fun _ _ _ _ _ h _ _ => h)
    (fun x => { tmps := #[.pointer (some ⟨g, 0, none⟩), .agg #[.int .u64 (f : Nat), .int .u64 (t : Nat)], undef, .pointer (some ⟨b3, 0, none⟩), .slice none 0 0, .int .i64 0, .int .i64 0, .pointer (some ⟨b7, 0, none⟩), .bool false, .int .u64 (to_ : Nat), .int .i64 ep, .bool true, .pointer (some ⟨b12, 0, none⟩), .string x.1, .string x.2, .pointer (some ⟨g, 0, none⟩), .bool false,
     .tuple #[.agg #[.int .u64 (gf : Nat), .int .u64 (gt : Nat)], .bool false], .pointer (some ⟨g, 0, none⟩), .pointer (some ⟨g, 0, none⟩), .pointer (some ⟨g, 5, none⟩), .tuple #[.agg #[.int .u64 (gf : Nat), .int .u64 (gt : Nat)], .bool false], .agg #[.int .u64 (gf : Nat), .int .u64 (gt : Nat)], .bool false, .bool false, .tuple #[.int .u64 (to_ : Nat), .int .i64 ep, .bool true], .pointer (some ⟨g, 0, none⟩), .agg #[.int .u64 (f : Nat), .int .u64 (t : Nat)], .tuple #[.int .u64 (to_ : Nat), .int .i64 ep, .bool true],
     .int .u64 (to_ : Nat), .int .i64 ep, .bool true, .bool true, .bool false, .pointer (some ⟨g, 0, none⟩), .pointer (some ⟨g, 0, none⟩), .pointer (some ⟨g, 5, none⟩), .agg #[.int .u64 (f : Nat), .int .u64 (t : Nat)], .bool !s.g.shut, .pointer (some ⟨g, 0, none⟩), .pointer (some ⟨g, 0, none⟩), .pointer (some ⟨g, 4, none⟩), .pointer (some ⟨sp, 0, none⟩), .agg #[.int .u64 (f : Nat), .int .u64 (t : Nat)],
     .func (.func 163) #[] #[.pointer (some ⟨a0, 0, none⟩), .pointer (some ⟨a1, 0, none⟩)], .string x.1, .string x.2, undef, undef, undef, undef, undef, undef, undef, undef], defers := [] })
    ?assign ?body ?done ?stop
   case assign =>
    intro lp x V K hK
    gi_wp2
    exact hK
   case body =>
    rintro lp m ⟨xk, xv⟩ V Y hV hx ⟨A, c, rfl, h2, h3⟩ hY
    have hm : m < 400 := by
     have := (List.getElem?_eq_some_iff.1 hx).1
     have := HX.out
     omega
    have htk : (arcL s.its f t).take (m + 1) = (arcL s.its f t).take m ++ [(xk, xv)] := by rw [List.take_add_one, hx]; rfl
    have c2 := h2.val
    have f2 := h2.free
    have H2 := Lib.hid h2
    have HR := Lib.hid h3
    have HTK := Lib.hid htk
    have hsz : w7.heap.size ≤ V.heap.size := hV
    have HN : Hid (∀ q, q < w7.heap.size → q ∉ (Value.slice A m c).ownBlock.toList) := fun q hq z => by
     have := (HR.out.lt q (by simpa using z)).1
     omega
    clear h2 h3 htk hY hx
    gi_wp2_with (gi_at_builtin; refine yko rfl (.tmp 47) (.tmp 51) 22 rfl w7.heap.size 96 i0 (.agg #[.string ⟨#[]⟩, .string ⟨#[]⟩]) 2 32 Tryz.underlying22 hi0 hz0 hs0 hb0 rfl (by decide) (.slice A m c) m (yaa ((arcL s.its f t).take m)) rfl (HR.out.alloc _) (.slice (some ⟨V.heap.size, 0, none⟩) 1 1) 1 (yaa [(xk, xv)]) rfl (yg0 _ _ xk xv (heap_alloc_new _ _)) (ybc _) (by unfold maxLen; omega) (by omega) (by simp; omega) ?_; intro A3 c3 w8 ho3 hg3 hs3; have tt : Touch (Value.slice A m c).ownBlock.toList V w8 := ((Touch.refl _ V).alloc _).grown hg3 (fun k hk => .inl (by simp [hk])); have HTT := Lib.hid tt; have c2 := (H2.out.touch tt (HN.out _ (by omega))).val; have f2 := (H2.out.touch tt (HN.out _ (by omega))).free; have HO3 := Lib.hid ho3; have HS3 := Lib.hid hs3; clear tt ho3 hg3 hs3)
    obtain ⟨z1, z2, z3⟩ := yzm (by omega) H2.out HR.out HTT.out HO3.out HS3.out
    exact ⟨_, z1, A3, c3, rfl, z2, by rw [HTK.out, yc0]; exact z3⟩
   case done =>
    rintro D V Y hD hDn hL ⟨A8, c8, rfl, h2, h3⟩ hK
    have htk : (arcL s.its f t).take (arcL s.its f t).length = arcL s.its f t := List.take_length
    rw [htk] at h3
    have c2 := h2.val
    have HK := Lib.hid hK
    have HR8 := Lib.hid h3
    have HLL := Lib.hid hL
    have HDD : Hid (w7.heap.size ≤ D ∧ D ∉ (Value.slice A8 (arcL s.its f t).length c8).ownBlock.toList) := ⟨hD, fun z => hDn (List.mem_append_right _ z)⟩
    clear hL h2 h3 hK hD hDn htk
    go_wp2_with fail
    refine ⟨by simp, .inl ⟨_, _, rfl, run_takeDeferred HK.out, ?_⟩⟩
    refine ⟨.tuple #[.slice A8 (arcL s.its f t).length c8, .int .i64 ep, .int .i64 0], by simp [results, Tryz.results27, go_sem], ?_⟩
    exact yzn HB3.out HT5.out HN5.out H5.out (HQ5.out) HB6.out HB7.out HLL.out HDD.out.1 HDD.out.2 HR8.out HSH.out (HFO.out.yes HF.out HT.out)
   case stop =>
    rintro D k V Y hD hDn hL h hK
    exact h.elim
end Go.Proofs.YtnjodhglbapnlaaGreat
namespace Go.Proofs.YtnjodhglbapnlaaGreat
open Go.RowKit
theorem yzp {w : World} {g : Nat} {s : HO} {F : List Nat} (f t : Nat) (ep : Int) (hf : f < 18446744073709551616) (ht : t < 18446744073709551616) (he : Wide ep) (hk : s.k ≤ 1000) (h : VD w g s F) : Calls Tryz.prog 33 #[.pointer (some ⟨g, 0, none⟩), .agg #[.int .u64 (f : Nat), .int .u64 (t : Nat)], .int .i64 ep] w fun e w' =>
  (s.may f t ep ∧ ybz VD w g F (.bool true) (s.take f t ep) e w') ∨ (¬ s.may f t ep ∧ ybz VD w g F (.bool false) s e w') := by
 obtain ⟨l, S, sp, Fs, Fg, h, rfl⟩ := h
 refine (yy0 f t ep hf ht he hk h).mono ?_
 rintro e w' (⟨hm, l2, S2, rfl, h2, tt, hn⟩ | ⟨hm, rfl, hb⟩)
 ·refine .inl ⟨hm, hF S2 Fs Fg, rfl, ⟨l2, S2, sp, Fs, Fg, h2, rfl⟩, tt.mono (fun q hq => ?_), fun q hq => ?_⟩
  ·rcases List.mem_append.1 hq with y | y
   ·exact yau.2 (.inl (by simpa using y))
   ·exact yau.2 (.inr (.inr y))
  ·rcases yau.1 hq with y | y | y
   ·exact .inr (hn q y)
   ·exact .inl (yau.2 (.inr (.inl y)))
   ·exact .inl (yau.2 (.inr (.inr y)))
 ·exact .inr ⟨hm, h.same hb _⟩
theorem ybj : ybg VD where
 has_ := yyj
 rising := yyk
 touch := yyl
 new := yyx
 own := yzp
 do_ a ha hk _ h := yzl a ha hk h
 len := yym
 has := ypf
 epoch := yyv
 items := yyn
 freeze := yzo
 thaw := yyw
 lose := yy3
 arcs := yyt
 pieces := yyu
abbrev gvC (v : GV) (S : Value) : Array Value := #[.pointer (some ⟨v.h, 0, none⟩), .int .u64 (v.f : Nat), .int .u64 (v.t : Nat), .int .i64 v.ep, .int .i64 v.me, .int .i64 v.to_, .int .i64 v.id, S, .int .i64 (v.ch : Nat), .int .i64 (v.st : Nat)]
def yzq (w : World) (v : GV) (S : Value) : Prop := (v.st ≤ 2 ∧ ∃ A c, S = .slice A v.its.length c ∧ w.ownsRow 0 96 2 (.slice A v.its.length c) v.its.length (yaa v.its)) ∨ (3 ≤ v.st ∧ S = .slice none 0 0)
structure VM (w : World) (p : Nat) (v : GV) (S : Value) : Prop where
 hp : w.heap[p]? = some (.cells (gvC v S) 98)
 its : yzq w v S
 own : ∀ q, S.ownBlock = some q → q ≠ p
 few : v.its.length ≤ 400
 arc : v.f < 18446744073709551616 ∧ v.t < 18446744073709551616
 wide : Wide v.me ∧ Wide v.to_ ∧ Wide v.id ∧ Wide v.ep
 st : 1 ≤ v.st ∧ v.st ≤ 5
abbrev vF (p : Nat) (S : Value) : List Nat := p :: S.ownBlock.toList
def VV (w : World) (p : Nat) (v : GV) (F : List Nat) : Prop := ∃ S, VM w p v S ∧ F = vF p S
section
variable {w w1 : World} {p : Nat} {v : GV} {S : Value}
theorem VM.lt (h : VM w p v S) : p < w.heap.size := (Array.getElem?_eq_some_iff.1 h.hp).1
theorem VM.slt (h : VM w p v S) : ∀ q, S.ownBlock = some q → q < w.heap.size := by
 intro q hq
 rcases h.its with ⟨_, A, c, rfl, r⟩ | ⟨_, rfl⟩
 ·exact (r.lt q hq).2
 ·cases hq
theorem VM.all_lt (h : VM w p v S) : ∀ q ∈ vF p S, q < w.heap.size := by
 intro q hq
 rcases List.mem_cons.1 hq with rfl | z
 ·exact h.lt
 ·exact h.slt q (by simpa using z)
theorem VM.touch {G : List Nat} (h : VM w p v S) (t : Touch G w w1) (hn : ∀ q ∈ vF p S, q ∉ G) : VM w1 p v S :=
 {h with
  hp := (t.block p h.lt (hn p (by simp))).trans h.hp
  its := by
   rcases h.its with ⟨a, A, c, rfl, r⟩ | ⟨a, rfl⟩
   ·exact .inl ⟨a, A, c, rfl, t.row r fun q hq => hn q (by simp [hq])⟩
   ·exact .inr ⟨a, rfl⟩ }
theorem VM.below (h : VM w p v S) (t : Below w.heap.size w w1) : VM w1 p v S := h.touch (Touch.ofBelow (F := []) t) (by simp)
theorem VM.cell (h : VM w p v S) {i : Nat} {u : Value} (hu : (gvC v S)[i]? = some u) : w.cell? ⟨p, i, none⟩ = some u := yaw h.hp hu
theorem VM.free (h : VM w p v S) (i : Nat) : w.frozen? ⟨p, i, none⟩ = false := by
 simp [World.frozen?, h.hp]
end
theorem yzr {w : World} {p : Nat} {v : GV} {F : List Nat} (h : VV w p v F) : p ∈ F ∧ ∀ q ∈ F, q < w.heap.size := by
 obtain ⟨S, h, rfl⟩ := h
 exact ⟨by simp, h.all_lt⟩
theorem yzs {w w' : World} {p : Nat} {v : GV} {F G : List Nat} (h : VV w p v F) (t : Touch G w w') (hn : ∀ q ∈ F, q ∉ G) : VV w' p v F := by
 obtain ⟨S, h, rfl⟩ := h
 exact ⟨S, h.touch t hn, rfl⟩
attribute [local go_sem] Oper.semAt_some
theorem yel : (Tryz.prog.info? 49).map (·.size) = some 21 := by kernel_rfl
theorem ypl {fn : Func} {p : Tmp} (h : fn.results = #[.cell p 49]) (tmps : Array Value) (w : World) (g : Nat) (cs : Array Value) (hs : cs.size = 21) (hp : tmps.getD p undef = .pointer (some ⟨g, 0, none⟩)) (hb : w.heap[g]? = some (.cells cs 49)) :
  (results fn tmps).run Tryz.prog w = .ok (.agg cs) w :=
 results_cell_row h tmps w g 49 cs (0, 0) _ hp hb Tryz.underlying49 rfl (yel.trans (congrArg some hs.symm))
theorem yzt {P : Program} {ops : Array Oper} {o : Oper} {a : Act} {w : World} {K : Act → World → Prop} {Q : Exit → Act → World → Prop} {E : Prop} (hgd : o.guard = none) (ty : TypeId) (x y : Operand) (ho : o.op = .store ty x y)
  (g : Nat) (cells : Array Value) (hx : a.eval x = .pointer (some ⟨g, 0, none⟩)) (hy : a.eval y = .agg cells)
  (t : TypeId) (old : Array Value) (hg : w.heap[g]? = some (.cells old t (0, 0))) (hi : (P.info? ty).map (·.size) = some cells.size)
  (hold : old.size = cells.size) (h1 : cells.all (·.oneCell') = true)
  (h : K (a.put o.dst undef) (w.setRow g cells)) : if Region.wanted o (yielded ops a.tmps) = true then Oper.wp P o a w K Q else E := by
 rw [if_pos (by simp [Region.wanted, hgd])]
 exact wp_store_row ty x y ho g cells hx hy t old hg hi hold h1 h
abbrev yak (l : LV) : Array Value := LR.cells ⟨l, .slice none 0 0, .slice none 0 0⟩
theorem yfz (l : LV) : (yak l).all (·.oneCell') = true := LR.one ⟨⟨_, _, _, rfl⟩, _, _, _, rfl⟩
abbrev ya5 : Array Value := #[.int .i64 0, .int .i64 0, .int .i64 0, .int .i64 0, .int .i64 0, .string ⟨#[]⟩, .string ⟨#[]⟩, .string ⟨#[]⟩, .int .i64 0, .int .i64 0, .string ⟨#[]⟩, .slice none 0 0, .bool false, .string ⟨#[]⟩, .int .i64 0, .int .u64 0, .int .u64 0, .int .i64 0, .slice none 0 0, .int .i64 0, .int .i64 0]
section
variable {w : World} {p : Nat} {v : GV} {S : Value}
theorem yzu (h : VM w p v S) : Calls Tryz.prog 16 #[.pointer (some ⟨p, 0, none⟩)] w fun e w' => e = .returned (.int .i64 (v.st : Nat)) ∧ Below w.heap.size w w' := by
 have c9 := h.cell (i := 9) rfl
 clear h
 go_enter Tryz.func16, Tryz.ntmps16
 go_wp2
 go_ret
 exact ⟨rfl, Below.refl _ _⟩
theorem yzv (h : VM w p v S) : Calls Tryz.prog 17 #[.pointer (some ⟨p, 0, none⟩)] w fun e w' => e = .returned (.int .i64 v.id) ∧ Below w.heap.size w w' := by
 have c6 := h.cell (i := 6) rfl
 clear h
 go_enter Tryz.func17, Tryz.ntmps17
 go_wp2
 go_ret
 exact ⟨rfl, Below.refl _ _⟩
theorem ykx (k : Int) (h : VM w p v S) : Calls Tryz.prog 50 #[.pointer (some ⟨p, 0, none⟩), .int .i64 k] w fun e w' => e = .returned (.agg (yak (LV.bare k v.me v.to_ v.id))) ∧ Below w.heap.size w w' := by
 have hL : p < w.heap.size := h.lt
 have HY : Hid ((w.alloc (.cells ya5 49)).heap[w.heap.size]? = some (.cells ya5 49)) := heap_alloc_new w _
 have HB := Lib.hid ((Below.refl w.heap.size w).alloc (Nat.le_refl _) (.cells ya5 49))
 have h1 := h.below HB.out
 have HSS : Hid (∀ w', Below (w.alloc (.cells ya5 49)).heap.size (w.alloc (.cells ya5 49)) w' → w'.cell? ⟨p, 4, none⟩ = some (.int .i64 v.me) ∧ w'.cell? ⟨p, 5, none⟩ = some (.int .i64 v.to_) ∧ w'.cell? ⟨p, 6, none⟩ = some (.int .i64 v.id)) :=
  fun w' t => ⟨(h1.below t).cell rfl, (h1.below t).cell rfl, (h1.below t).cell rfl⟩
 clear h h1
 go_enter Tryz.func50, Tryz.ntmps50
 go_upto_region 1 with fail
 refine ybe (fun w' => w'.cell? ⟨p, 4, none⟩ = some (.int .i64 v.me) ∧ w'.cell? ⟨p, 5, none⟩ = some (.int .i64 v.to_) ∧ w'.cell? ⟨p, 6, none⟩ = some (.int .i64 v.id)) 14 (by kernel_rfl) ?_ (fun hHeld => ?_)
 ·(try dsimp only); exact HSS.out _ (Below.refl _ _).drew
 refine wtP 0 ?_
 try simp only [Act.put, wsA, wsB, wsC]
 refine wtP 1 ?_
 try simp only [Act.put, wsA, wsB, wsC]
 refine wtP 2 ?_
 try simp only [Act.put, wsA, wsB, wsC]
 refine wtP 3 ?_
 try simp only [Act.put, wsA, wsB, wsC]
 refine wtP 5 ?_
 try simp only [Act.put, wsA, wsB, wsC]
 refine wtP 6 ?_
 try simp only [Act.put, wsA, wsB, wsC]
 refine wtP 7 ?_
 try simp only [Act.put, wsA, wsB, wsC]
 refine wtP 9 ?_
 try simp only [Act.put, wsA, wsB, wsC]
 refine wtP 10 ?_
 try simp only [Act.put, wsA, wsB, wsC]
 refine wtP 11 ?_
 try simp only [Act.put, wsA, wsB, wsC]
 refine wtT 4 ?_
 try simp only [Act.put, wsA, wsB, wsC]
 refine wtT 8 ?_
 try simp only [Act.put, wsA, wsB, wsC]
 refine wtT 12 ?_
 try simp only [Act.put, wsA, wsB, wsC]
 refine wtC 13 fun K hK => ?_
 go_simp
 refine hK.out _ _ (by (try dsimp only); first | assumption | exact HSS.out _ (Below.refl _ _).drew) (fun hHeld => ?_)
 clear hK K
 try simp only [Act.put, wsA, wsB, wsC]
 refine wtD 14 fun K hK => ?_
 refine yzt rfl 49 (.tmp 4) (.tmp 18) rfl w.heap.size (yak (LV.bare k v.me v.to_ v.id)) rfl rfl 49 ya5 HY.out yel rfl (yfz _) ?_
 refine hK.out _ _ ?_
 clear hK K
 try simp only [Act.put]
 refine ya8 (by kernel_rfl) ?_ _
 go_wp2_with fail
 refine bodyPost_ret (ypl rfl _ _ w.heap.size (yak (LV.bare k v.me v.to_ v.id)) rfl rfl (ygo _ HY.out)) rfl ?_
 exact ⟨rfl, HB.out.drew.trans (yj9 _ (Nat.le_refl _))⟩
end
end Go.Proofs.YtnjodhglbapnlaaGreat
namespace Go.Proofs.YtnjodhglbapnlaaGreat
end Go.Proofs.YtnjodhglbapnlaaGreat
