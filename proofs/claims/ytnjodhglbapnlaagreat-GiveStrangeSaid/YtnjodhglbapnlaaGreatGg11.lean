import Derived.Test.YtnjodhglbapnlaaGreatGg10
import Derived.Test.YtnjodhglbapnlaaGreatGg01
import Derived.Test.YtnjodhglbapnlaaGreatGg02
import Derived.WalkMore
import Derived.Deep.MidRow
set_option maxRecDepth 100000
set_option maxHeartbeats 16000000
namespace Go.Proofs.YtnjodhglbapnlaaGreat
open Go.RowKit
theorem ytp (w : World) (nd : Int) (p q : AO) : ∀ j u, (rowC (oC nd) [p, q])[j]? = some u → (w.alloc (.cells (#[.int .u64 (p.f : Nat), .int .u64 (p.t : Nat), .int .i64 nd, .int .i64 p.e, .int .u64 (q.f : Nat), .int .u64 (q.t : Nat), .int .i64 nd, .int .i64 q.e]) 152)).cell? ((⟨w.heap.size, 0, none⟩ : Addr).add j) = some u := by
 intro j u hj
 rw [Go.WideShapes.add_plain]
 refine yaw (heap_alloc_new w _) ?_
 rw [Nat.zero_add, ← Array.getElem?_toList]
 exact hj
def SpS (w : World) (b7 b8 b9 : Nat) (nd : Int) (y : AO) (x : Nat) : Prop := w.cell? ⟨b7, 0, none⟩ = some (.int .u64 (y.f : Nat)) ∧ w.cell? ⟨b7, 1, none⟩ = some (.int .u64 (y.t : Nat)) ∧ w.cell? ⟨b7, 2, none⟩ = some (.int .i64 nd) ∧ w.cell? ⟨b7, 3, none⟩ = some (.int .i64 y.e) ∧
 w.cell? ⟨b8, 0, none⟩ = some (.int .u64 (y.f : Nat)) ∧ w.cell? ⟨b8, 1, none⟩ = some (.int .u64 (x : Nat)) ∧ w.cell? ⟨b9, 0, none⟩ = some (.int .u64 (x : Nat)) ∧ w.cell? ⟨b9, 1, none⟩ = some (.int .u64 (y.t : Nat))
theorem Bx.touch {w w1 : World} {b : Nat} {cs : Array Value} {T : TypeId} {G : List Nat} (h : Bx w b cs T) (t : Touch G w w1) (hn : b ∉ G) : Bx w1 b cs T := (t.block b (yca h) hn).trans h
theorem ytq {l : List AO} {i : Nat} {y : AO} (h : l[i]? = some y) (x : Nat) : yar (l.take (i + 1)) x = yar (l.take i) x ++ yb9 x y := by
 unfold yar
 rw [List.take_add_one, h]
 simp
theorem ym6 (l : List AO) (nd : Int) (x : Nat) (A : Option Addr) (c n : Nat) (W : World) (hr : ya9 W (.slice A n c) n nd l) (hl : n ≤ 40000) (hlt : ∀ p ∈ l, p.lt) (hx : x < 18446744073709551616) :
  Calls Tryz.prog 180 #[.slice A n c, .int .u64 (x : Nat)] W fun e w' => ∃ S, e = .returned S ∧ ycr w' W.heap.size S (yar l x).length nd (yar l x) ∧ Below W.heap.size W w' := by
 have HR1 := Lib.hid hr
 have HD : Hid (l.length = n) := yc8 hr
 have CS : Hid (∀ (W : World) (p : AO), p.lt → Calls Tryz.prog 162 #[.agg #[.int .u64 (p.f : Nat), .int .u64 (p.t : Nat)], .int .u64 (x : Nat)] W fun e w' => e = .returned (.tuple #[ydt (mayB p.f p.t x) p.f x, ydt (mayB p.f p.t x) x p.t, .bool (mayB p.f p.t x)]) ∧ Below W.heap.size W w') := fun W p hp => yjx p.f p.t x W hp.1 hp.2 hx
 have HLT := Lib.hid hlt
 clear hr hlt hx
 go_enter Tryz.func180, Tryz.ntmps180
 go_wp2_with fail
 go_loopg [5, 13] (n + 1) (fun gh s5 s13 wx => ∃ (i m : Nat) (A5 : Option Addr) (c5 : Nat) (M : List AO), i + gh = n + 1 ∧ i ≤ n ∧ m ≤ 2 * i ∧ s13 = .int .i64 (i : Nat) ∧ s5 = .slice A5 m c5 ∧ Hid (yar (l.take i) x = M) ∧ Hid (ycr wx W.heap.size (.slice A5 m c5) m nd M) ∧ Hid (Below W.heap.size W wx))
 case atStart => exact ⟨0, 0, none, 0, [], by omega, by omega, by omega, rfl, rfl, rfl, World.ownsRow_nil _ _ _ _, Below.refl _ _⟩
 case round =>
  obtain ⟨i, m, A5, c5, M, hig, hin, hmi, rfl, rfl, HM, HRM, HB⟩ := hrel
  by_cases hlt : i < n
  ·obtain ⟨y, hy⟩ : ∃ y, l[i]? = some y := ⟨_, List.getElem?_eq_getElem (by rw [HD.out]; exact hlt)⟩
   have i1 : (i : Int) < (n : Int) := by omega
   obtain ⟨g, o, rfl⟩ := HR1.out.at_ (show 0 < n by omega)
   obtain ⟨x0, x1, x2, x3⟩ := ydj (HR1.out.below HB.out) hy
   have HTK := Lib.hid (ytq hy x)
   have CA := Lib.hid (fun W => CS.out W y (HLT.out y (List.mem_of_getElem? hy)))
   obtain ⟨i0, z0, hi0, hz0, hs0, hb0, hzc⟩ := ygr
   clear hy CS
   go_upto_region 5 with fail
   have hbx := Bx.new wr (oC nd y) 152
   have hbn : Below wr.heap.size wr (wr.alloc (.cells (oC nd y) 152)) := (Below.refl _ _).alloc (Nat.le_refl _) _
   have HRN := Lib.hid (yb7 HRM.out hbn)
   have HBN : Hid (Below W.heap.size W (wr.alloc (.cells (oC nd y) 152))) := acc HB.out hbn
   have hz2 : W.heap.size ≤ wr.heap.size := HB.out.size
   clear x0 x1 x2 x3
   obtain ⟨b7, hb7⟩ : ∃ b7, wr.heap.size = b7 := ⟨_, rfl⟩
   have HQ7 : Hid (∀ q, (Value.slice A5 m c5).ownBlock = some q → q < b7) := fun q hq => hb7 ▸ (HRM.out.lt q hq).2
   rw [hb7] at hbx hz2 ⊢
   obtain ⟨w2, hw2⟩ : ∃ w2, wr.alloc (.cells (oC nd y) 152) = w2 := ⟨_, rfl⟩
   rw [hw2] at hbx HRN HBN ⊢
   have HBX := Lib.hid hbx
   obtain ⟨x0, x1, x2, x3, lx⟩ := hbx.four
   clear hbx hbn hw2 hb7
   obtain ⟨ok, hok⟩ : ∃ ok, mayB y.f y.t x = ok := ⟨_, rfl⟩
   have HOK : Hid (mayC y.f y.t x = ok) := hok
   rw [hok] at CA
   clear hok
   cases ok
   ·simp only [yh6] at CA
    go_upto_region 6 with (go_at_call 162; (with_reducible refine (CA.out _).mono ?_); rintro e w3 ⟨rfl, hb3⟩; have HB3 := Lib.hid hb3; have hs3 := hb3.size; clear hb3)
    clear x0 x1 x2 x3
    have HX7 := Lib.hid (((HBX.out.below HB3.out).old (.cells z2 25)).old (.cells z2 25))
    have HX8 := Lib.hid ((Bx.new w3 z2 25).old (.cells z2 25))
    have HX9 := Lib.hid (Bx.new (w3.alloc (.cells z2 25)) z2 25)
    have HC4 : Hid (Below W.heap.size W ((w3.alloc (.cells z2 25)).alloc (.cells z2 25))) := ((acc HBN.out HB3.out).alloc (acc HBN.out HB3.out).size _).alloc (by have := (acc HBN.out HB3.out).size; simp; omega) _
    have HR4 := Lib.hid (yb7 HRN.out ((HB3.out.alloc HB3.out.size (.cells z2 25)).alloc (by have := HB3.out.size; simp; omega) (.cells z2 25)))
    simp only [World.size_alloc] at HX9
    have h97 : b7 < w3.heap.size := by omega
    obtain ⟨b8, hb8⟩ : ∃ b8, w3.heap.size = b8 := ⟨_, rfl⟩
    rw [hb8] at HX8 HX9 h97 ⊢
    obtain ⟨w4, hw4⟩ : ∃ w4, (w3.alloc (.cells z2 25)).alloc (.cells z2 25) = w4 := ⟨_, rfl⟩
    rw [hw4] at HX7 HX8 HX9 HC4 HR4 ⊢
    clear hw4 hb8 hs3
    obtain ⟨x0, x1, x2, x3, _⟩ := HX7.out.four
    go_wp2_with (at_builtin; ((refine yc4 rfl (.tmp 27) (.tmp 29) 72 rfl W.heap.size 152 i0 z0 4 32 Tryz.underlying72 hi0 hz0 hs0 hb0 hzc (by decide) (.slice A5 m c5) m (rowC (oC nd) M) rfl (yb7 HR4.out ((Below.refl _ _).alloc (Nat.le_refl _) _)) (.slice (some ⟨w4.heap.size, 0, none⟩) 1 1) 1 (rowC (oC nd) [y]) rfl (.inr ⟨_, _, rfl, rfl, ygt w4 nd y⟩) (yev _ _) (by unfold maxLen; omega) (by omega) (by have := HC4.out.size; simp; omega) ?_); intro A6 c6 w6 ho6 hg6 hs6; have HO6 := Lib.hid ho6; have HG6 := Lib.hid hg6; clear ho6 hg6 hs6))
    go_roundg (gk - 1)
    case measure => omega
    case rel =>
     refine ⟨i + 1, m + 1, A6, c6, M ++ [y], by omega, by omega, by omega, by go_num, rfl, ?_, ?_, ?_⟩
     ·show _ = _
      rw [HTK.out, HM.out, yb9, if_neg (by rw [HOK.out]; exact Bool.false_ne_true)]
     ·unfold ycr
      rw [yc2]
      exact HO6.out
     ·exact (acc HC4.out ((Below.refl _ _).alloc (Nat.le_refl _) _)).grown HG6.out (by have := HC4.out.size; simp; omega) (fun j hj => (HR4.out.lt j hj).1)
   ·simp only [yh5] at CA
    go_upto_region 6 with (go_at_call 162; (with_reducible refine (CA.out _).mono ?_); rintro e w3 ⟨rfl, hb3⟩; have HB3 := Lib.hid hb3; have hs3 := hb3.size; clear hb3)
    clear x0 x1 x2 x3
    have HX7 := Lib.hid (((HBX.out.below HB3.out).old (.cells (a2 y.f x) 25)).old (.cells (a2 x y.t) 25))
    have HX8 := Lib.hid ((Bx.new w3 (a2 y.f x) 25).old (.cells (a2 x y.t) 25))
    have HX9 := Lib.hid (Bx.new (w3.alloc (.cells (a2 y.f x) 25)) (a2 x y.t) 25)
    have HC4 : Hid (Below W.heap.size W ((w3.alloc (.cells (a2 y.f x) 25)).alloc (.cells (a2 x y.t) 25))) := ((acc HBN.out HB3.out).alloc (acc HBN.out HB3.out).size _).alloc (by have := (acc HBN.out HB3.out).size; simp; omega) _
    have HR4 := Lib.hid (yb7 HRN.out ((HB3.out.alloc HB3.out.size (.cells (a2 y.f x) 25)).alloc (by have := HB3.out.size; simp; omega) (.cells (a2 x y.t) 25)))
    simp only [World.size_alloc] at HX9
    have h97 : b7 < w3.heap.size := by omega
    obtain ⟨b8, hb8⟩ : ∃ b8, w3.heap.size = b8 := ⟨_, rfl⟩
    rw [hb8] at HX8 HX9 h97 ⊢
    obtain ⟨w4, hw4⟩ : ∃ w4, (w3.alloc (.cells (a2 y.f x) 25)).alloc (.cells (a2 x y.t) 25) = w4 := ⟨_, rfl⟩
    rw [hw4] at HX7 HX8 HX9 HC4 HR4 ⊢
    clear hw4 hb8 hs3
    have HSS : Hid (∀ w', Touch ((Value.slice A5 m c5).ownBlock.toList) w4 w' → SpS w' b7 b8 (b8 + 1) nd y x) := fun w' t => by
     have hn : ∀ b, b7 ≤ b → b ∉ (Value.slice A5 m c5).ownBlock.toList := fun b hb z => by have := HQ7.out b (Option.mem_toList.1 z); omega
     obtain ⟨y0, y1, y2, y3, _⟩ := (HX7.out.touch t (hn _ (Nat.le_refl _))).four
     obtain ⟨u0, u1, _⟩ := (HX8.out.touch t (hn _ (by omega))).two
     obtain ⟨v0, v1, _⟩ := (HX9.out.touch t (hn _ (by omega))).two
     exact ⟨y0, y1, y2, y3, u0, u1, v0, v1⟩
    obtain ⟨b9, hb9⟩ : ∃ b9, b8 + 1 = b9 := ⟨_, rfl⟩
    rw [hb9] at HSS ⊢
    clear hb9
    unfold SpS at HSS
    go_upto_region 8 with fail
    refine ybe (fun w' => w'.cell? ⟨b7, 0, none⟩ = some (.int .u64 (y.f : Nat)) ∧ w'.cell? ⟨b7, 1, none⟩ = some (.int .u64 (y.t : Nat)) ∧ w'.cell? ⟨b7, 2, none⟩ = some (.int .i64 nd) ∧ w'.cell? ⟨b7, 3, none⟩ = some (.int .i64 y.e) ∧ w'.cell? ⟨b8, 0, none⟩ = some (.int .u64 (y.f : Nat)) ∧ w'.cell? ⟨b8, 1, none⟩ = some (.int .u64 (x : Nat)) ∧ w'.cell? ⟨b9, 0, none⟩ = some (.int .u64 (x : Nat)) ∧ w'.cell? ⟨b9, 1, none⟩ = some (.int .u64 (y.t : Nat))) 9 (by kernel_rfl) ?_ (fun hHeld => ?_)
    ·(try dsimp only); exact HSS.out _ (Touch.ofBelow (Below.refl _ _).drew)
    refine wtP 0 ?_
    try simp only [Act.put, wsA, wsB, wsC]
    refine wtT 1 ?_
    try simp only [Act.put, wsA, wsB, wsC]
    refine wtT 2 ?_
    try simp only [Act.put, wsA, wsB, wsC]
    refine wtT 4 ?_
    try simp only [Act.put, wsA, wsB, wsC]
    refine wtT 5 ?_
    try simp only [Act.put, wsA, wsB, wsC]
    refine wtC 3 fun K hK => ?_
    go_simp
    (first | (go_at_call 197; (with_reducible refine (yid nd y y.f x _).mono ?_); rintro e v1 ⟨rfl, hb1⟩))
    have HV1 : Hid (Below w4.heap.size w4 v1) := (by exact ((Below.refl w4.heap.size w4).drew).trans (hb1.mono (by simp)))
    clear hb1
    go_wp2_with fail
    refine hK.out _ _ (by (try dsimp only); (first | exact HSS.out _ HT6.out | exact HSS.out _ (Touch.ofBelow (HV2.out.alloc HV2.out.size _)) | exact HSS.out _ (Touch.ofBelow HV2.out) | exact HSS.out _ (Touch.ofBelow HV1.out) | exact HSS.out _ (Touch.ofBelow (Below.refl _ _).drew))) (fun hHeld => ?_)
    clear hK K
    try simp only [Act.put, wsA, wsB, wsC]
    refine wtC 6 fun K hK => ?_
    go_simp
    (first | (go_at_call 197; (with_reducible refine (yid nd y x y.t _).mono ?_); rintro e v2 ⟨rfl, hb2⟩))
    have HV2 : Hid (Below w4.heap.size w4 v2) := (by exact (HV1.out).trans (hb2.mono (HV1.out.size)))
    clear hb2
    go_wp2_with fail
    refine hK.out _ _ (by (try dsimp only); (first | exact HSS.out _ HT6.out | exact HSS.out _ (Touch.ofBelow (HV2.out.alloc HV2.out.size _)) | exact HSS.out _ (Touch.ofBelow HV2.out) | exact HSS.out _ (Touch.ofBelow HV1.out) | exact HSS.out _ (Touch.ofBelow (Below.refl _ _).drew))) (fun hHeld => ?_)
    clear hK K
    try simp only [Act.put, wsA, wsB, wsC]
    refine wtC 7 fun K hK => ?_
    go_simp
    refine hK.out _ _ (by (try dsimp only); (first | exact HSS.out _ HT6.out | exact HSS.out _ (Touch.ofBelow (HV2.out.alloc HV2.out.size _)) | exact HSS.out _ (Touch.ofBelow HV2.out) | exact HSS.out _ (Touch.ofBelow HV1.out) | exact HSS.out _ (Touch.ofBelow (Below.refl _ _).drew))) (fun hHeld => ?_)
    clear hK K
    try simp only [Act.put, wsA, wsB, wsC]
    refine wtC 8 fun K hK => ?_
    refine yc3 rfl (.tmp 31) (.tmp 38) 72 rfl W.heap.size 152 i0 z0 4 32 Tryz.underlying72 hi0 hz0 hs0 hb0 hzc (by decide) (.slice A5 m c5) m (rowC (oC nd) M) rfl (yb7 HR4.out (HV2.out.alloc HV2.out.size _)) (.slice (some ⟨v2.heap.size, 0, none⟩) 2 2) 2 (rowC (oC nd) [⟨y.f, x, y.n, y.e⟩, ⟨x, y.t, y.n, y.e⟩]) rfl (.inr ⟨_, _, rfl, rfl, ytp v2 nd _ _⟩) (yev _ _) (by unfold maxLen; omega) (by omega) (by have := HC4.out.size; have := HV2.out.size; simp; omega) ?_
    intro A6 c6 w6 ho6 hg6 hs6
    have HO6 := Lib.hid ho6
    have HT6 : Hid (Touch ((Value.slice A5 m c5).ownBlock.toList) w4 w6) := ((Touch.ofBelow (HV2.out.alloc HV2.out.size _)).grown hg6 (fun k hk => .inl (Option.mem_toList.2 hk)))
    clear ho6 hg6 hs6
    refine hK.out _ _ (by (try dsimp only); (first | exact HSS.out _ HT6.out | exact HSS.out _ (Touch.ofBelow (HV2.out.alloc HV2.out.size _)) | exact HSS.out _ (Touch.ofBelow HV2.out) | exact HSS.out _ (Touch.ofBelow HV1.out) | exact HSS.out _ (Touch.ofBelow (Below.refl _ _).drew))) (fun hHeld => ?_)
    clear hK K
    try simp only [Act.put, wsA, wsB, wsC]
    refine wtD 9 fun K hK => ?_
    go_simp
    refine hK.out _ _ ?_
    clear hK K
    try simp only [Act.put, wsA, wsB, wsC]
    refine ya8 (by kernel_rfl) ?_ _
    go_wp2_with fail
    go_roundg (gk - 1)
    case measure => omega
    case rel =>
     refine ⟨i + 1, m + 2, A6, c6, M ++ [⟨y.f, x, y.n, y.e⟩, ⟨x, y.t, y.n, y.e⟩], by omega, by omega, by omega, by go_num, rfl, ?_, ?_, ?_⟩
     ·show _ = _
      rw [HTK.out, HM.out, yb9, if_pos HOK.out]
     ·unfold ycr
      rw [yc2]
      exact HO6.out
     ·exact Touch.acc HC4.out HT6.out (fun q hq => (HR4.out.lt q (Option.mem_toList.1 hq)).1)
  ·obtain rfl : i = n := by omega
   go_wp2_with fail
   go_ret
   have hM := HM.out
   rw [List.take_of_length_le (by rw [HD.out]; exact Nat.le_refl _)] at hM
   have hlm := ygs HRM.out
   rw [hM]
   exact ⟨_, rfl, by rw [hlm]; exact HRM.out, HB.out⟩
def ym7 (W : World) (nd : Int) (l : List AO) (f t : Nat) (e : Ending) (w' : World) : Prop :=
 ∃ (D : List AO) (S : Value), D.Perm (outL l f t) ∧ (D.Pairwise fun p q => p.f ≤ q.f) ∧ e = .returned S ∧ ya9 w' S (ya2 false D).length nd (ya2 false D) ∧ (∀ q, S.ownBlock = some q → W.heap.size ≤ q) ∧ Below W.heap.size W w'
theorem ytr {P : List AO} {i : Nat} {y : AO} (h : P[i]? = some y) (f t : Nat) : (P.take (i + 1)).filter (fun p => !inB f t p.f) = (P.take i).filter (fun p => !inB f t p.f) ++ if inB f t y.f then [] else [y] := by
 rw [List.take_add_one, h, List.filter_append]
 cases hi : inB f t y.f <;> simp [hi]
theorem yts (l : List AO) (nd : Int) (f t : Nat) (A : Option Addr) (c n : Nat) (W : World) (hr : ya9 W (.slice A n c) n nd l) (hl : n ≤ 10000) (hlt : ∀ p ∈ l, p.lt) (hap : l.Pairwise fun p q => yat p.f p.t q.f q.t = true) (hf : f < 18446744073709551616) (ht : t < 18446744073709551616) :
  Calls Tryz.prog 128 #[.slice A n c, .agg (a2 f t)] W (ym7 W nd l f t) := by
 have hn := yc8 hr
 have B0 : Below W.heap.size W (W.alloc (.cells (a2 f t) 25)) := (Below.refl _ _).alloc (Nat.le_refl _) _
 have hbx := Bx.new W (a2 f t) 25
 have CI : Hid (∀ (W : World) (x : Nat), x < 18446744073709551616 → Calls Tryz.prog 113 #[.agg #[.int .u64 (f : Nat), .int .u64 (t : Nat)], .int .u64 (x : Nat)] W fun e w' => e = .returned (.bool (inB f t x)) ∧ Below W.heap.size W w') := fun W x hx => ydz f t x W hf ht hx
 have e1 := ygl hf hlt hap
 have r1 : (∀ p ∈ yar l f, p.lt) ∧ (yar l f).Pairwise fun p q => yat p.f p.t q.f q.t = true := by
  refine ⟨fun p hp => ?_, ?_⟩
  ·obtain ⟨o, ho, hp⟩ := List.mem_flatMap.1 hp
   exact (ybm f o hf).lt (hlt o ho) p hp
  ·refine List.pairwise_flatMap.2 ⟨fun o ho => (ybm f o hf).ap (hlt o ho), ?_⟩
   refine hap.imp_of_mem ?_
   intro o q ho hq z a ha b hb
   exact ymp (hlt o ho) (hlt q hq) ((ybm f o hf).lt (hlt o ho) a ha) ((ybm f q hf).lt (hlt q hq) b hb) z ((ybm f o hf).sub (hlt o ho) a ha) ((ybm f q hf).sub (hlt q hq) b hb)
 have e2 := ygl ht r1.1 r1.2
 have r2 : ∀ p ∈ yar (yar l f) t, p.lt := fun p hp => by
  obtain ⟨o, ho, hp⟩ := List.mem_flatMap.1 hp
  exact (ybm t o ht).lt (r1.1 o ho) p hp
 have HR2 := Lib.hid r2
 have C1 : Hid (∀ W1, Below W.heap.size W W1 → Calls Tryz.prog 180 #[.slice A n c, .int .u64 (f : Nat)] W1 fun e w' => ∃ S, e = .returned S ∧ ycr w' W1.heap.size S (yar l f).length nd (yar l f) ∧ Below W1.heap.size W1 w') := fun W1 hb => ym6 l nd f A c n W1 (hr.below hb) (by omega) hlt hf
 have C2 : Hid (∀ (W1 : World) (A1 : Option Addr) (c1 : Nat), ya9 W1 (.slice A1 (yar l f).length c1) (yar l f).length nd (yar l f) → Calls Tryz.prog 180 #[.slice A1 (yar l f).length c1, .int .u64 (t : Nat)] W1 fun e w' => ∃ S, e = .returned S ∧ ycr w' W1.heap.size S (yar (yar l f) t).length nd (yar (yar l f) t) ∧ Below W1.heap.size W1 w') := fun W1 A1 c1 h => ym6 (yar l f) nd t A1 c1 _ W1 h (by have := e1.1; omega) r1.1 ht
 have hk : (yar (yar l f) t).length ≤ 10002 := by have := e1.1; have := e2.1; omega
 have HOU : Hid (∀ P, P = yar (yar l f) t → P.filter (fun p => !inB f t p.f) = outL l f t) := fun P h => by rw [h]; rfl
 obtain ⟨Q, hQ⟩ : ∃ Q, yar l f = Q := ⟨_, rfl⟩
 obtain ⟨P, hP⟩ : ∃ P, yar (yar l f) t = P := ⟨_, rfl⟩
 have HOUT := Lib.hid (HOU.out P hP.symm)
 rw [hP] at hk HR2
 rw [hQ] at C1 C2 hP
 rw [hP] at C2
 obtain ⟨nq, hnq⟩ : ∃ nq, Q.length = nq := ⟨_, rfl⟩
 obtain ⟨k, hk2⟩ : ∃ k, P.length = k := ⟨_, rfl⟩
 rw [hnq] at C1 C2
 rw [hk2] at C2 hk
 have HK := Lib.hid hk2
 clear hr hlt hap hf ht e1 e2 r1 r2 hQ hP HOU hnq hk2 hn
 go_enter Tryz.func128, Tryz.ntmps128
 go_upto_region 2 with fail
 obtain ⟨b3, hb3⟩ : ∃ b3, W.heap.size = b3 := ⟨_, rfl⟩
 have HWB := Lib.hid hb3
 rw [hb3] at hbx
 obtain ⟨w0, hw0⟩ : ∃ w0, W.alloc (.cells (a2 f t) 25) = w0 := ⟨_, rfl⟩
 rw [hw0] at B0 hbx ⊢
 rw [hb3]
 clear hw0 hb3
 have HB0 := Lib.hid B0
 have HBX := Lib.hid hbx
 have l3 : b3 < w0.heap.size := hbx.two.2.2
 have HSS : Hid (∀ w', Below w0.heap.size w0 w' → w'.cell? ⟨b3, 0, none⟩ = some (.int .u64 (f : Nat)) ∧ w'.cell? ⟨b3, 1, none⟩ = some (.int .u64 (t : Nat))) := fun w' hb => ⟨(HBX.out.below hb).two.1, (HBX.out.below hb).two.2.1⟩
 clear B0 hbx
 have S0 := Lib.hid (HSS.out _ (Below.refl w0.heap.size w0).drew)
 go_region_held3 (fun w' => w'.cell? ⟨b3, 0, none⟩ = some (.int .u64 (f : Nat)) ∧ w'.cell? ⟨b3, 1, none⟩ = some (.int .u64 (t : Nat))) (first | exact S2.out | exact S1.out | exact S0.out)
  (first
   | (go_at_call 180; (with_reducible refine (C2.out _ A1 c1 (yd8 HQ1.out)).mono ?_); rintro e w2 ⟨S, rfl, h2, hb2⟩; obtain ⟨A2, c2, rfl⟩ := yav h2; have HP2 := Lib.hid h2; have HB2 : Hid (Below w0.heap.size w0 w2) := (acc HB1.out hb2); have S2 := Lib.hid (HSS.out _ HB2.out); have HS2 := Lib.hid hb2.size; clear h2 hb2)
   | (go_at_call 180; (with_reducible refine (C1.out _ (by first | exact acc HB0.out ((Below.refl w0.heap.size w0).drew) | exact HB0.out)).mono ?_); rintro e w1 ⟨S, rfl, h1, hb1⟩; obtain ⟨A1, c1, rfl⟩ := yav h1; have HQ1 := Lib.hid h1; have HB1 : Hid (Below w0.heap.size w0 w1) := ((Below.refl w0.heap.size w0).drew).trans hb1; have S1 := Lib.hid (HSS.out _ HB1.out); clear h1 hb1))
 clear S0 S1 S2 C1 C2 HQ1
 have HC2 : Hid (Below W.heap.size W w2) := acc HB0.out HB2.out
 have HWL : Hid (∀ q, (Value.slice A2 k c2).ownBlock = some q → q < w2.heap.size) := fun q hq => (HP2.out.lt q hq).2
 go_wp2_with fail
 go_loopg [5, 16] (k + 1) (fun gh s5 s16 wx => ∃ (i m : Nat) (A5 : Option Addr) (c5 : Nat) (M : List AO), i + gh = k + 1 ∧ i ≤ k ∧ m ≤ i ∧ s16 = .int .i64 (i : Nat) ∧ s5 = .slice A5 m c5 ∧ Hid ((P.take i).filter (fun p => !inB f t p.f) = M) ∧ Hid (ycr wx w2.heap.size (.slice A5 m c5) m nd M) ∧ Hid (Below w2.heap.size w2 wx))
 case atStart => exact ⟨0, 0, none, 0, [], by omega, by omega, by omega, rfl, rfl, rfl, World.ownsRow_nil _ _ _ _, Below.refl _ _⟩
 case round =>
  obtain ⟨i, m, A5, c5, M, hig, hin, hmi, rfl, rfl, HM, HRM, HB⟩ := hrel
  by_cases hlt : i < k
  ·obtain ⟨y, hy⟩ : ∃ y, P[i]? = some y := ⟨_, List.getElem?_eq_getElem (by rw [HK.out]; exact hlt)⟩
   have i1 : (i : Int) < (k : Int) := by omega
   obtain ⟨g, rfl⟩ := yie HP2.out (show 0 < k by omega)
   obtain ⟨x0, x1, x2, x3⟩ := ydj ((yd8 HP2.out).below HB.out) hy
   simp only [Nat.zero_add] at x0 x1 x2 x3
   have HTK := Lib.hid (ytr hy f t)
   have CY := Lib.hid (fun W => CI.out W y.f (HR2.out y (List.mem_of_getElem? hy)).1)
   obtain ⟨i0, z0, hi0, hz0, hs0, hb0, hzc⟩ := ygr
   clear hy CI
   go_upto_region 5 with fail
   have hbx := Bx.new wr (oC nd y) 152
   have hbn : Below wr.heap.size wr (wr.alloc (.cells (oC nd y) 152)) := (Below.refl _ _).alloc (Nat.le_refl _) _
   have HRN := Lib.hid (yb7 HRM.out hbn)
   have HBN : Hid (Below w2.heap.size w2 (wr.alloc (.cells (oC nd y) 152))) := acc HB.out hbn
   clear x0 x1 x2 x3
   obtain ⟨b7, hb7⟩ : ∃ b7, wr.heap.size = b7 := ⟨_, rfl⟩
   rw [hb7] at hbx ⊢
   obtain ⟨w5, hw5⟩ : ∃ w5, wr.alloc (.cells (oC nd y) 152) = w5 := ⟨_, rfl⟩
   rw [hw5] at hbx HRN HBN ⊢
   have HBX7 := Lib.hid hbx
   obtain ⟨x0, x1, x2, x3, lx⟩ := hbx.four
   obtain ⟨y0, y1⟩ := HSS.out _ (acc HB2.out HBN.out)
   clear hbx hbn hw5 hb7
   obtain ⟨b, hb⟩ : ∃ b, inB f t y.f = b := ⟨_, rfl⟩
   rw [hb] at CY HTK
   clear hb
   cases b
   ·go_wp2_with (first
     | (go_at_call 113; (with_reducible refine (CY.out _).mono ?_); rintro e w6 ⟨rfl, hb6⟩; have HB6 := Lib.hid hb6; obtain ⟨x0, x1, x2, x3, _⟩ := (HBX7.out.below hb6).four; have HR6 := Lib.hid (yb7 HRN.out hb6); have HC6 : Hid (Below w2.heap.size w2 w6) := (acc HBN.out hb6); clear hb6)
     | (at_builtin; ((refine yc4 rfl (.tmp 26) (.tmp 28) 72 rfl w2.heap.size 152 i0 z0 4 32 Tryz.underlying72 hi0 hz0 hs0 hb0 hzc (by decide) (.slice A5 m c5) m (rowC (oC nd) M) rfl (yb7 HR6.out ((Below.refl _ _).alloc (Nat.le_refl _) _)) (.slice (some ⟨w6.heap.size, 0, none⟩) 1 1) 1 (rowC (oC nd) [y]) rfl (.inr ⟨_, _, rfl, rfl, ygt w6 nd y⟩) (yev _ _) (by unfold maxLen; omega) (by omega) (by have := HC6.out.size; simp; omega) ?_); intro A6 c6 w7 ho6 hg6 hs6; have HO6 := Lib.hid ho6; have HG6 := Lib.hid hg6; clear ho6 hg6 hs6)))
    go_roundg (gk - 1)
    case measure => omega
    case rel =>
     refine ⟨i + 1, m + 1, A6, c6, M ++ [y], by omega, by omega, by omega, by go_num, rfl, ?_, ?_, ?_⟩
     ·show _ = _
      rw [HTK.out, HM.out]
      simp
     ·unfold ycr
      rw [yc2]
      exact HO6.out
     ·exact (acc HC6.out ((Below.refl _ _).alloc (Nat.le_refl _) _)).grown HG6.out (by have := HC6.out.size; simp; omega) (fun j hj => (HR6.out.lt j hj).1)
   ·go_wp2_with (go_at_call 113; (with_reducible refine (CY.out _).mono ?_); rintro e w6 ⟨rfl, hb6⟩; have HB6 := Lib.hid hb6; have HR6 := Lib.hid (yb7 HRN.out hb6); have HC6 : Hid (Below w2.heap.size w2 w6) := (acc HBN.out hb6); clear hb6)
    go_roundg (gk - 1)
    case measure => omega
    case rel =>
     refine ⟨i + 1, m, A5, c5, M, by omega, by omega, by omega, by go_num, rfl, ?_, HR6.out, HC6.out⟩
     show _ = _
     rw [HTK.out, HM.out]
     simp
  ·obtain rfl : i = k := by omega
   have hM := HM.out
   rw [List.take_of_length_le (by rw [HK.out]; exact Nat.le_refl _), HOUT.out] at hM
   have HML : Hid (∀ p ∈ M, p.lt) := fun p hp => HR2.out p (by rw [← hM, ← HOUT.out] at hp; exact (List.mem_filter.1 hp).1)
   have CJ := Lib.hid (ym5 M nd A5 c5 m wr (yd8 HRM.out) (by omega) HML.out)
   have HMM := Lib.hid hM
   clear hM CI
   go_wp2_with (go_at_call 117; (with_reducible refine (CJ.out).mono ?_); rintro e w8 ⟨D, S, hp, hs, rfl, ho, hn8, ht8⟩; have HP8 := Lib.hid hp; have HS8 := Lib.hid hs; have HO8 := Lib.hid ho; have HN8 := Lib.hid hn8; have HT8 := Lib.hid ht8; clear hp hs ho hn8 ht8)
   go_ret
   have hc : Below W.heap.size W wr := acc HC2.out HB.out
   refine ⟨D, S, ?_, HS8.out, rfl, HO8.out, fun q hq => Nat.le_trans hc.size (HN8.out q hq), Touch.acc hc HT8.out (fun q hq => ?_)⟩
   ·rw [HMM.out]
    exact HP8.out
   ·exact Nat.le_trans HC2.out.size (HRM.out.lt q (Option.mem_toList.1 hq)).1
def yfu (W : World) (own : Nat → Option Int) (f t : Nat) (e : Ending) (w' : World) : Prop :=
 ∃ (to_ : Nat) (ep : Int) (all : Bool), e = .returned (.tuple #[.int .u64 (to_ : Nat), .int .i64 ep, .bool all]) ∧ Followed own f t to_ ep all ∧ Below W.heap.size W w'
theorem ym8 (l : List AO) (nd : Int) (own : Nat → Option Int) (f t g : Nat) (A : Option Addr) (c n : Nat) (W : World) (hr : ya9 W (.slice A n c) n nd l) (hg : W.cell? ⟨g, 3, none⟩ = some (.slice A n c)) (hl : n ≤ 10000) (ho : OwnL l own) (hf : f < 18446744073709551616) (ht : t < 18446744073709551616) :
  Calls Tryz.prog 104 #[.pointer (some ⟨g, 0, none⟩), .agg (a2 f t)] W (yfu W own f t) := by
 have hn := yc8 hr
 have lg := World.block_lt_of_cell? W _ hg
 have HG : Hid (∀ w', Below W.heap.size W w' → w'.cell? ⟨g, 3, none⟩ = some (.slice A n c)) := fun w' hb => (hb.cell (p := ⟨g, 3, none⟩) lg).trans hg
 have HRW : Hid (∀ w', Below W.heap.size W w' → ya9 w' (.slice A n c) n nd l) := fun w' hb => hr.below hb
 have CI : Hid (∀ (W : World) (o : AO) (y : Nat), o ∈ l → y < 18446744073709551616 → Calls Tryz.prog 113 #[.agg #[.int .u64 (o.f : Nat), .int .u64 (o.t : Nat)], .int .u64 (y : Nat)] W fun e w' => e = .returned (.bool (inB o.f o.t y)) ∧ Below W.heap.size W w') := fun W o y ho' hy => ydz o.f o.t y W (ho.arcs.lt o ho').1 (ho.arcs.lt o ho').2 hy
 have CS : Hid (∀ (W : World) (o : AO) (y : Nat), o ∈ l → y < 18446744073709551616 → Calls Tryz.prog 162 #[.agg #[.int .u64 (y : Nat), .int .u64 (t : Nat)], .int .u64 (o.t : Nat)] W fun e w' => e = .returned (.tuple #[ydt (mayB y t o.t) y o.t, ydt (mayB y t o.t) o.t t, .bool (mayB y t o.t)]) ∧ Below W.heap.size W w') := fun W o y ho' hy => yjx y t o.t W hy ht (ho.arcs.lt o ho').2
 obtain ⟨nn, hnn⟩ : ∃ nn, szN f t = nn := ⟨_, rfl⟩
 have HNN := Lib.hid hnn
 have hpos : 0 < nn := hnn ▸ (yh9 hf ht).1
 have HO := Lib.hid ho
 have HF := Lib.hid hf
 have HT := Lib.hid ht
 have HN := Lib.hid hn
 have HP0 := Lib.hid (yms hf)
 clear hr ho hf ht hn hnn
 have B0 : Below W.heap.size W ((W.alloc (.cells (a2 f t) 25)).alloc (.cells (a2 f t) 25)) := ((Below.refl _ _).alloc (Nat.le_refl _) _).alloc (by simp) _
 have b1 := (Bx.new W (a2 f t) 25).old (.cells (a2 f t) 25)
 have b2 := Bx.new (W.alloc (.cells (a2 f t) 25)) (a2 f t) 25
 simp only [World.size_alloc] at b2
 have c3 := HG.out _ B0
 go_enter Tryz.func104, Tryz.ntmps104
 go_wp2
 go_step3
 go_wp2
 go_step3
 go_wp2_with fail
 obtain ⟨b3, hb3⟩ : ∃ b3, W.heap.size = b3 := ⟨_, rfl⟩
 have HWB := Lib.hid hb3
 obtain ⟨w0, hw0⟩ : ∃ w0, (W.alloc (.cells (a2 f t) 25)).alloc (.cells (a2 f t) 25) = w0 := ⟨_, rfl⟩
 rw [hw0] at B0 b1 b2 c3 ⊢
 clear hw0
 rw [hb3] at b1 b2
 simp only [hb3]
 clear hb3
 have HB0 := Lib.hid B0
 have HX3 := Lib.hid b1
 have HX7 : Hid (Bx w0 (b3 + 1) (a2 (ptN f 0) t) 25) := by rw [HP0.out]; exact b2
 have l3 := b1.two.2.2
 obtain ⟨b7, hb7⟩ : ∃ b7, b3 + 1 = b7 := ⟨_, rfl⟩
 rw [hb7] at HX7 ⊢
 have hb37 : b3 ≠ b7 := by omega
 have HQ7 : Hid (W.heap.size ≤ b7) := by rw [HWB.out]; show b3 ≤ b7; omega
 clear B0 b1 b2 c3 hb7
 go_loopg [5] nn (fun gh s5 wx => ∃ (c' : Nat) (ep : Int), c' + gh = nn ∧ c' < nn ∧ s5 = .int .i64 ep ∧ Hid (Bx wx b7 (a2 (ptN f c') t) 25) ∧ Hid (Bx wx b3 (a2 f t) 25) ∧ Hid (Below W.heap.size W wx) ∧ Hid (Went own f c' ep) ∧ Hid (0 ≤ ep))
 case atStart => exact ⟨0, 0, by omega, hpos, rfl, HX7.out, HX3.out, HB0.out, Went.start own f, Int.le_refl _⟩
 case round =>
  obtain ⟨c', ep, hcg, hcn, rfl, H7, H3, HB, HW, HE⟩ := hrel
  have c3 := HG.out _ HB.out
  have HPL : Hid (ptN f c' < 18446744073709551616) := yc7 f c'
  obtain ⟨y, hy⟩ : ∃ y, ptN f c' = y := ⟨_, rfl⟩
  rw [hy] at H7 HPL
  have HY := Lib.hid hy
  clear hy
  go_wp2_with fail
  obtain ⟨gz, rfl⟩ : ∃ gz : Nat, gz = gk := ⟨_, rfl⟩
  obtain ⟨wo, rfl⟩ : ∃ wo : World, wo = wr := ⟨_, rfl⟩
  go_loopg [5, 19] (n + 1) (fun gh s5 s19 wx => ∃ (i : Nat), i + gh = n + 1 ∧ i ≤ n ∧ s5 = .int .i64 ep ∧ s19 = .int .i64 (i : Nat) ∧ Hid (∀ j x, j < i → l[j]? = some x → inB x.f x.t y = false) ∧ Hid (Bx wx b7 (a2 y t) 25) ∧ Hid (Bx wx b3 (a2 f t) 25) ∧ Hid (Below W.heap.size W wx))
  case atStart => exact ⟨0, by omega, by omega, rfl, rfl, fun j x hj => by omega, H7, H3, HB⟩
  case round =>
   clear c3
   obtain ⟨i, hig, hin, rfl, rfl, HNO, K7, K3, KB⟩ := hrel
   by_cases hlt : i < n
   ·obtain ⟨o, ho⟩ : ∃ o, l[i]? = some o := ⟨_, List.getElem?_eq_getElem (by rw [HN.out]; exact hlt)⟩
    have i1 : (i : Int) < (n : Int) := by omega
    obtain ⟨g5, o5, rfl⟩ := (HRW.out _ KB.out).at_ (show 0 < n by omega)
    obtain ⟨x0, x1, x2, x3⟩ := ydj (HRW.out _ KB.out) ho
    have hom := List.mem_of_getElem? ho
    have CI1 := Lib.hid (fun W => CI.out W o y hom HPL.out)
    have CS1 := Lib.hid (fun W => CS.out W o y hom HPL.out)
    have HOM := Lib.hid hom
    have HOI := Lib.hid ho
    clear hom ho
    go_upto_region 5 with fail
    have hbx := Bx.new wr (oC nd o) 152
    have hbn : Below wr.heap.size wr (wr.alloc (.cells (oC nd o) 152)) := (Below.refl _ _).alloc (Nat.le_refl _) _
    have HBN : Hid (Below W.heap.size W (wr.alloc (.cells (oC nd o) 152))) := acc KB.out hbn
    have M7 := Lib.hid (K7.out.below hbn)
    have M3 := Lib.hid (K3.out.below hbn)
    clear x0 x1 x2 x3
    obtain ⟨b9, hb9⟩ : ∃ b9, wr.heap.size = b9 := ⟨_, rfl⟩
    have HQ9 : Hid (b7 < b9) := hb9 ▸ K7.out.two.2.2
    rw [hb9] at hbx ⊢
    obtain ⟨w2, hw2⟩ : ∃ w2, wr.alloc (.cells (oC nd o) 152) = w2 := ⟨_, rfl⟩
    rw [hw2] at hbx HBN M7 M3 ⊢
    have HBX := Lib.hid hbx
    obtain ⟨x0, x1, x2, x3, lx⟩ := hbx.four
    obtain ⟨y0, y1, _⟩ := M7.out.two
    clear hbx hbn hw2 hb9
    obtain ⟨bi, hbi⟩ : ∃ bi, inB o.f o.t y = bi := ⟨_, rfl⟩
    rw [hbi] at CI1
    have HBI := Lib.hid hbi
    clear hbi
    cases bi
    ·go_wp2_with (go_at_call 113; (with_reducible refine (CI1.out _).mono ?_); rintro e w3 ⟨rfl, hb3⟩; have HB3 := Lib.hid hb3; clear hb3)
     go_roundg (gk - 1)
     case measure => omega
     case rel => exact ⟨i + 1, by omega, by omega, rfl, by go_num, fun j x hj hx => by
      rcases Nat.lt_succ_iff_lt_or_eq.1 hj with z | rfl
      ·exact HNO.out j x z hx
      ·rw [HOI.out] at hx; injection hx with hx; subst hx; exact HBI.out, M7.out.below HB3.out, M3.out.below HB3.out, acc HBN.out HB3.out⟩
    ·obtain ⟨m, hm⟩ : ∃ m, max ep o.e = m := ⟨_, rfl⟩
     have HMX := Lib.hid hm
     obtain ⟨ok, hok⟩ : ∃ ok, mayB y t o.t = ok := ⟨_, rfl⟩
     have HOK : Hid (mayC y t o.t = ok) := hok
     rw [hok] at CS1
     clear hok
     cases ok
     ·simp only [yh6] at CS1
      go_upto_region 7 with (go_at_call 113; (with_reducible refine (CI1.out _).mono ?_); rintro e w3 ⟨rfl, hb3⟩; have HB3 := Lib.hid hb3; obtain ⟨x0, x1, x2, x3, _⟩ := (HBX.out.below hb3).four; obtain ⟨y0, y1, _⟩ := (M7.out.below hb3).two; clear hb3)
      have N3 := Lib.hid (M3.out.below HB3.out)
      have HBN3 : Hid (Below W.heap.size W w3) := acc HBN.out HB3.out
      go_upto_region 8 with (go_at_call 162; (with_reducible refine (CS1.out _).mono ?_); rintro e w4 ⟨rfl, hb4⟩; have HB4 := Lib.hid hb4; have N4 := Lib.hid (N3.out.below hb4); have HBN4 : Hid (Below W.heap.size W w4) := (acc HBN3.out hb4); clear hb4)
      obtain ⟨v0, v1, lv⟩ := N4.out.two
      go_wp2_with fail
      (try rw [Exit.noGoto_ret])
      refine bodyPost_ret (v := .tuple #[.int .u64 (t : Nat), .int .i64 m, .bool true]) (by simp [results, Tryz.results104, go_sem]) rfl ⟨t, m, true, rfl, .inl ⟨rfl, rfl, ?_⟩, ?_⟩
      ·rw [HNN.out, ← HMX.out]
       have ho := HO.out.arcs.lt o HOM.out
       have he := (HO.out.arcs.rng o HOM.out).2.2
       refine HW.out.step he.1 hcn (fun i' h1 h2 => ?_)
       refine (HO.out.ow _ (yc7 _ _) o.e).2 ⟨o, HOM.out, ?_, rfl⟩
       exact ysx ho HF.out HT.out (by rw [HNN.out]; exact hcn) (by rw [HY.out]; exact HBI.out) (by rw [HY.out]; exact HOK.out) h1 (by rw [HNN.out]; exact h2)
      ·repeat (first | with_reducible exact HBN4.out | with_reducible refine Below.alloc ?_ (by first | exact HBN4.out.size | (have := HBN4.out.size; simp; omega)) _)
     ·simp only [yh5] at CS1
      go_upto_region 7 with (go_at_call 113; (with_reducible refine (CI1.out _).mono ?_); rintro e w3 ⟨rfl, hb3⟩; have HB3 := Lib.hid hb3; obtain ⟨x0, x1, x2, x3, _⟩ := (HBX.out.below hb3).four; obtain ⟨y0, y1, _⟩ := (M7.out.below hb3).two; clear hb3)
      have N3 := Lib.hid (M3.out.below HB3.out)
      have N7 := Lib.hid (M7.out.below HB3.out)
      have HBN3 : Hid (Below W.heap.size W w3) := acc HBN.out HB3.out
      go_upto_region 8 with (go_at_call 162; (with_reducible refine (CS1.out _).mono ?_); rintro e w4 ⟨rfl, hb4⟩; have HB4 := Lib.hid hb4; have P3 := Lib.hid (N3.out.below hb4); have P7 := Lib.hid (N7.out.below hb4); have HBN4 : Hid (Below W.heap.size W w4) := (acc HBN3.out hb4); clear hb4)
      have hq7 := P7.out.two.2.2
      have hq3 := P3.out.two.2.2
      have R7 := Lib.hid ((P7.out.old (.cells (a2 y o.t) 25)).old (.cells (a2 o.t t) 25))
      have R3 := Lib.hid ((P3.out.old (.cells (a2 y o.t) 25)).old (.cells (a2 o.t t) 25))
      have R11 := Lib.hid (Bx.new (w4.alloc (.cells (a2 y o.t) 25)) (a2 o.t t) 25)
      have HBR : Hid (Below W.heap.size W ((w4.alloc (.cells (a2 y o.t) 25)).alloc (.cells (a2 o.t t) 25))) := (HBN4.out.alloc HBN4.out.size _).alloc (by have := HBN4.out.size; simp; omega) _
      simp only [World.size_alloc] at R11
      obtain ⟨w5, hw5⟩ : ∃ w5, (w4.alloc (.cells (a2 y o.t) 25)).alloc (.cells (a2 o.t t) 25) = w5 := ⟨_, rfl⟩
      rw [hw5] at R7 R3 R11 HBR ⊢
      clear hw5
      obtain ⟨b11, hb11⟩ : ∃ b11, w4.heap.size + 1 = b11 := ⟨_, rfl⟩
      rw [hb11] at R11 ⊢
      have hb711 : b7 ≠ b11 := by omega
      have hb311 : b3 ≠ b11 := by omega
      obtain ⟨v0, v1, lv⟩ := R11.out.two
      obtain ⟨r0, r1, lr⟩ := R7.out.two
      have f0 := R7.out.free 0
      have f1 := R7.out.free 1
      have ho := HO.out.arcs.lt o HOM.out
      obtain ⟨d, d1, d2, d3, d4⟩ := ysy ho HF.out HT.out (by rw [HNN.out]; exact hcn) (by rw [HY.out]; exact HBI.out) (by rw [HY.out]; exact HOK.out)
      rw [HNN.out] at d2
      have HD3 := Lib.hid d3
      have HD4 := Lib.hid d4
      clear d3 d4 hm ho
      go_wp2_with fail
      go_roundg (nn - d)
      case measure => omega
      case rel =>
       refine ⟨d, m, by omega, d2, rfl, ?_, ?_, ?_, ?_, ?_⟩
       ·rw [← HD3.out]
        exact R7.out.put2 _ _
       ·exact (R3.out.other 0 _ hb37).other 1 _ hb37
       ·exact yan (yan HBR.out HQ7.out _ _) HQ7.out _ _
       ·rw [← HMX.out]
        have he := (HO.out.arcs.rng o HOM.out).2.2
        exact HW.out.step he.1 d1 (fun i' h1 h2 => (HO.out.ow _ (yc7 _ _) o.e).2 ⟨o, HOM.out, HD4.out i' h1 h2, rfl⟩)
       ·show 0 ≤ m
        rw [← HMX.out]
        have := HE.out
        omega
   ·obtain rfl : i = n := by omega
    obtain ⟨y0, y1, _⟩ := K7.out.two
    go_wp2_with fail
    (try rw [Exit.noGoto_ret])
    refine bodyPost_ret (v := .tuple #[.int .u64 (y : Nat), .int .i64 ep, .bool false]) (by simp [results, Tryz.results104, go_sem]) rfl ⟨y, ep, false, rfl, .inr ⟨rfl, c', by rw [HNN.out]; exact hcn, HY.out.symm, ?_, HW.out⟩, KB.out⟩
    rw [HY.out, yeu HO.out.ow HPL.out]
    intro o ho
    obtain ⟨j, hj, rfl⟩ := List.getElem_of_mem ho
    exact HNO.out j _ (by rw [← HN.out]; exact hj) (List.getElem?_eq_getElem hj)
end Go.Proofs.YtnjodhglbapnlaaGreat
namespace Go.Proofs.YtnjodhglbapnlaaGreat.Gi
open Go.RowKit
abbrev gE (p : GP) : Array Value := #[.int .u64 (p.f : Nat), .int .u64 (p.t : Nat), .int .i64 p.n]
theorem ytt (p : GP) : (gE p).size = 3 := rfl
theorem ytu (l : List GP) : ∀ u ∈ rowC gE l, u.oneCell' = true := yjk fun p _ => by simp [gE, Value.oneCell']
abbrev GRow := Value × List GP
def ycs : Nat → List GRow → List GP
 | _, [] => []
 | d, x :: R => ycs (d + 1) R ++ x.2.map fun p => ⟨p.f, p.t, p.n, d⟩
theorem ygv (d : Nat) (x : GRow) (R : List GRow) : ycs d (x :: R) = ycs (d + 1) R ++ x.2.map fun p => ⟨p.f, p.t, p.n, d⟩ := rfl
theorem ym9 : ∀ (R : List GRow) (d : Nat), (ycs d R).length = (R.map fun x => x.2.length).sum
 | [], _ => rfl
 | x :: R, d => by rw [ygv, List.length_append, ym9 R, List.length_map, List.map_cons, List.sum_cons, Nat.add_comm]
theorem ytv (a b : List GP) (x : Nat) : yao (a ++ b) x = (yao b x).or (yao a x) := by
 unfold yao
 rw [List.reverse_append, List.find?_append]
 cases b.reverse.find? fun p => inB p.f p.t x <;> rfl
theorem ytw (l : List GP) (d x : Nat) : yao (l.map fun p => (⟨p.f, p.t, p.n, d⟩ : GP)) x = yao l x := by
 unfold yao
 rw [← List.map_reverse, List.find?_map]
 show ((l.reverse.find? fun p => inB p.f p.t x).map _).map _ = _
 cases l.reverse.find? fun p => inB p.f p.t x <;> rfl
theorem ytx (d : Nat) (y : GRow) (R : List GRow) (x : Nat) : yao (ycs d (y :: R)) x = (yao y.2 x).or (yao (ycs (d + 1) R) x) := by
 rw [ygv, ytv, ytw]
structure HC where
 a : Value
 b : Value
 c : Value
 d : Value
 e : Value
abbrev hC (H : HC) (s : GS) (S : List GRow) : List Value := H.a :: H.b :: H.c :: H.d :: H.e :: .bool s.shut :: .int .u64 (s.f : Nat) :: .int .u64 (s.t : Nat) :: S.map (·.1)
structure GM (w : World) (g : Nat) (H : HC) (s : GS) (x : GRow) (R : List GRow) : Prop where
 hl : R.length = 39
 l : s.l = ycs 0 (x :: R)
 few : s.l.length ≤ 1001
 hg : w.heap[g]? = some (.cells (hC H s (x :: R)).toArray 115)
 rows : ∀ y ∈ x :: R, w.ownsRow 0 223 3 y.1 y.2.length (rowC gE y.2)
 own : ∀ q, x.1.ownBlock = some q → ∀ y ∈ R, y.1.ownBlock ≠ some q
 gn : ∀ y ∈ x :: R, y.1.ownBlock ≠ some g
 b : s.f < 18446744073709551616 ∧ s.t < 18446744073709551616 ∧ (s.shut = false → s.f = 0 ∧ s.t = 0)
 pts : ∀ y ∈ x :: R, ∀ p ∈ y.2, p.f < 18446744073709551616 ∧ p.t < 18446744073709551616
def gF (g : Nat) (S : List GRow) : List Nat := g :: S.flatMap fun y => y.1.ownBlock.toList
def VG (w : World) (g : Nat) (H : HC) (s : GS) (F : List Nat) : Prop := ∃ x R, GM w g H s x R ∧ F = gF g (x :: R)
theorem ykc {w : World} {q : Nat} {o : Obj} (h : w.heap[q]? = some o) : q < w.heap.size := (Array.getElem?_eq_some_iff.1 h).1
theorem gm_cell {w : World} {b o : Nat} {cs : Array Value} {T : TypeId} {v : Value} (hb : w.heap[b]? = some (.cells cs T)) (hv : cs[o]? = some v) : w.cell? ⟨b, o, none⟩ = some v := by rw [Lib.cell_of_heap hb, hv]
theorem gm_set {w : World} {g : Nat} {cs : Array Value} {T : TypeId} (h : w.heap[g]? = some (.cells cs T)) (i : Nat) (u : Value) : (w.setCell ⟨g, i, none⟩ u).heap[g]? = some (.cells (cs.setIfInBounds i u) T) := by
 simp [World.setCell, Array.getElem?_modify, h]
section
variable {w w1 : World} {g : Nat} {H : HC} {s s1 : GS} {x : GRow} {R : List GRow}
theorem GM.lt (h : GM w g H s x R) : g < w.heap.size := ykc h.hg
theorem GM.ltF (h : GM w g H s x R) : ∀ q ∈ gF g (x :: R), q < w.heap.size := by
 intro q hq
 rcases List.mem_cons.1 hq with rfl | z
 ·exact h.lt
 ·obtain ⟨y, hy, hyq⟩ := List.mem_flatMap.1 z
  exact ((h.rows y hy).lt q (Option.mem_toList.1 hyq)).2
theorem mem_gF {S : List GRow} {q : Nat} : q ∈ gF g S ↔ q = g ∨ ∃ y ∈ S, y.1.ownBlock = some q := by
 unfold gF
 rw [List.mem_cons, List.mem_flatMap]
 constructor
 ·rintro (h | ⟨y, h1, h2⟩)
  ·exact .inl h
  ·exact .inr ⟨y, h1, Option.mem_toList.1 h2⟩
 ·rintro (h | ⟨y, h1, h2⟩)
  ·exact .inl h
  ·exact .inr ⟨y, h1, Option.mem_toList.2 h2⟩
theorem GM.touch {G : List Nat} (h : GM w g H s x R) (t : Touch G w w1) (hn : ∀ q ∈ gF g (x :: R), q ∉ G) : GM w1 g H s x R :=
 {h with
  hg := (t.block g h.lt (hn g (mem_gF.2 (.inl rfl)))).trans h.hg
  rows := fun y hy => t.row (h.rows y hy) fun q hq => hn q (mem_gF.2 (.inr ⟨y, hy, hq⟩)) }
theorem GM.below (h : GM w g H s x R) (t : Below w.heap.size w w1) : GM w1 g H s x R := h.touch (Touch.ofBelow (F := []) t) (by simp)
theorem GM.head (h : GM w g H s x R) (t : Touch [g] w w1) (hg : w1.heap[g]? = some (.cells (hC H s1 (x :: R)).toArray 115)) (hl : s1.l = s.l) (hb : s1.f < 18446744073709551616 ∧ s1.t < 18446744073709551616 ∧ (s1.shut = false → s1.f = 0 ∧ s1.t = 0)) : GM w1 g H s1 x R :=
 {h with
  l := hl.trans h.l
  few := by rw [hl]; exact h.few
  hg := hg
  rows := fun y hy => t.row (h.rows y hy) fun q hq z => h.gn y hy (by rw [hq, List.mem_singleton.1 z])
  b := hb }
theorem GM.c0 (h : GM w g H s x R) : w.cell? ⟨g, 5, none⟩ = some (.bool s.shut) := gm_cell h.hg rfl
theorem GM.c1 (h : GM w g H s x R) : w.cell? ⟨g, 6, none⟩ = some (.int .u64 (s.f : Nat)) := gm_cell h.hg rfl
theorem GM.c2 (h : GM w g H s x R) : w.cell? ⟨g, 7, none⟩ = some (.int .u64 (s.t : Nat)) := gm_cell h.hg rfl
theorem GM.c3 (h : GM w g H s x R) : w.cell? ⟨g, 8, none⟩ = some x.1 := gm_cell h.hg rfl
theorem GM.free (h : GM w g H s x R) (i : Nat) : w.frozen? ⟨g, i, none⟩ = false := by simp [World.frozen?, h.hg]
end
theorem vg_has {w : World} {g : Nat} {H : HC} {s : GS} {F : List Nat} (h : VG w g H s F) : g ∈ F ∧ ∀ q ∈ F, q < w.heap.size := by
 obtain ⟨x, R, h, rfl⟩ := h
 exact ⟨mem_gF.2 (.inl rfl), h.ltF⟩
theorem vg_touch {w w' : World} {g : Nat} {H : HC} {s : GS} {F G : List Nat} (h : VG w g H s F) (t : Touch G w w') (hn : ∀ q ∈ F, q ∉ G) : VG w' g H s F := by
 obtain ⟨x, R, h, rfl⟩ := h
 exact ⟨x, R, h.touch t hn, rfl⟩
abbrev gNil : GRow := (.slice none 0 0, [])
theorem vg_zero {w1 : World} {g : Nat} {H : HC} (hg : w1.heap[g]? = some (.cells (hC H G0 (gNil :: List.replicate 39 gNil)).toArray 115)) : VG w1 g H G0 [g] := by
 have hm : ∀ y ∈ gNil :: List.replicate 39 gNil, y = gNil := fun y hy => by
  rcases List.mem_cons.1 hy with h | h
  ·exact h
  ·exact List.eq_of_mem_replicate h
 refine ⟨gNil, List.replicate 39 gNil, ⟨by simp, by rfl, by simp, hg, ?_, ?_, ?_, ⟨by decide, by decide, fun _ => ⟨rfl, rfl⟩⟩, ?_⟩, by rfl⟩
 ·intro y hy
  rw [hm y hy]
  exact World.ownsRow_nil _ _ _ _
 ·intro q hq
  cases hq
 ·intro y hy
  rw [hm y hy]
  exact fun h => by cases h
 ·intro y hy p hp
  rw [hm y hy] at hp
  cases hp
end Go.Proofs.YtnjodhglbapnlaaGreat.Gi
namespace Go.Proofs.YtnjodhglbapnlaaGreat.Gi
open Go.RowKit
theorem yty {w w' : World} {g : Nat} {H : HC} {s s1 : GS} {x : GRow} {R : List GRow} (h : GM w g H s x R) (t : Touch [g] w w') (hg : w'.heap[g]? = some (.cells (hC H s1 (x :: R)).toArray 115)) (hl : s1.l = s.l) (hb : s1.f < 18446744073709551616 ∧ s1.t < 18446744073709551616 ∧ (s1.shut = false → s1.f = 0 ∧ s1.t = 0)) :
  ∃ F1, VG w' g H s1 F1 ∧ Touch (gF g (x :: R)) w w' ∧ ∀ q ∈ F1, q ∈ gF g (x :: R) ∨ w.heap.size ≤ q :=
 ⟨_, ⟨x, R, h.head t hg hl hb, rfl⟩, t.mono (fun q hq => mem_gF.2 (.inl (by simpa using hq))), fun q hq => .inl hq⟩
theorem yna {w w' : World} {g : Nat} {H : HC} {s : GS} {x : GRow} {R : List GRow} (h : GM w g H s x R) (b : Below w.heap.size w w') :
  ∃ F1, VG w' g H s F1 ∧ Touch (gF g (x :: R)) w w' ∧ ∀ q ∈ F1, q ∈ gF g (x :: R) ∨ w.heap.size ≤ q :=
 ⟨_, ⟨x, R, h.below b, rfl⟩, Touch.ofBelow b, fun _ hq => .inl hq⟩
theorem ytz {w : World} {g : Nat} {cs : Array Value} {T : TypeId} (h : w.heap[g]? = some (.cells cs T)) (a b c : Value) :
  Touch [g] w (((w.setCell ⟨g, 5, none⟩ a).setCell ⟨g, 6, none⟩ b).setCell ⟨g, 7, none⟩ c) ∧ (((w.setCell ⟨g, 5, none⟩ a).setCell ⟨g, 6, none⟩ b).setCell ⟨g, 7, none⟩ c).heap[g]? = some (.cells (((cs.setIfInBounds 5 a).setIfInBounds 6 b).setIfInBounds 7 c) T) :=
 ⟨(((Touch.refl _ _).set (.inl (by simp)) _).set (.inl (by simp)) _).set (.inl (by simp)) _, gm_set (gm_set (gm_set h 5 a) 6 b) 7 c⟩
theorem ynb {w w' : World} {g : Nat} {H : HC} {s s1 : GS} {x : GRow} {R : List GRow} (h : GM w g H s x R) (hl : s1.l = s.l) (hb : s1.f < 18446744073709551616 ∧ s1.t < 18446744073709551616 ∧ (s1.shut = false → s1.f = 0 ∧ s1.t = 0))
  (b : Below w.heap.size (((w.setCell ⟨g, 5, none⟩ (.bool s1.shut)).setCell ⟨g, 6, none⟩ (.int .u64 (s1.f : Nat))).setCell ⟨g, 7, none⟩ (.int .u64 (s1.t : Nat))) w') :
  ∃ F1, VG w' g H s1 F1 ∧ Touch (gF g (x :: R)) w w' ∧ ∀ q ∈ F1, q ∈ gF g (x :: R) ∨ w.heap.size ≤ q := by
 obtain ⟨t, k⟩ := ytz h.hg (.bool s1.shut) (.int .u64 (s1.f : Nat)) (.int .u64 (s1.t : Nat))
 have hz : (((w.setCell ⟨g, 5, none⟩ (.bool s1.shut)).setCell ⟨g, 6, none⟩ (.int .u64 (s1.f : Nat))).setCell ⟨g, 7, none⟩ (.int .u64 (s1.t : Nat))).heap.size = w.heap.size := by simp [World.setCell]
 refine yty h (t.trans (Touch.ofBelow (F := [g]) (hz ▸ b)) fun q hq => .inl hq) ?_ hl hb
 rw [b.block g h.lt, k]
 simp [hC]
theorem gateFreeze_any {w : World} {g : Nat} {H : HC} {s : GS} {F : List Nat} (f t : Nat) (hf : f < 18446744073709551616) (ht : t < 18446744073709551616) (h : VG w g H s F) :
  Calls Tryz.prog 105 #[.pointer (some ⟨g, 5, none⟩), .agg #[.int .u64 (f : Nat), .int .u64 (t : Nat)]] w fun e w' =>
  ∃ F1, e = .returned (.bool !s.shut) ∧ VG w' g H (s.freeze f t) F1 ∧ Touch F w w' ∧ ∀ q ∈ F1, q ∈ F ∨ w.heap.size ≤ q := by
 obtain ⟨x, R, h, rfl⟩ := h
 have c0 := h.c0
 have c1 := h.c1
 have c2 := h.c2
 have z0 := h.free 5
 have z1 := h.free 6
 have z2 := h.free 7
 have hlt := h.lt
 have HG := Lib.hid h
 cases hs : s.shut with
 | true =>
  rw [hs] at c0
  have HF : Hid (s.freeze f t = s) := by show s.freeze f t = s; unfold GS.freeze; rw [hs]; rfl
  have HS := Lib.hid hs
  clear h hs
  go_enter Tryz.func105, Tryz.ntmps105
  go_wp2
  go_ret
  rw [HF.out]
  obtain ⟨F1, z⟩ := yna HG.out ((Below.refl _ _).alloc (Nat.le_refl _) _)
  exact ⟨F1, rfl, z⟩
 | false =>
  rw [hs] at c0
  have HS := Lib.hid hs
  clear h hs
  go_enter Tryz.func105, Tryz.ntmps105
  go_wp2
  go_region
  go_wp2
  go_ret
  have HF : s.freeze f t = ⟨true, f, t, s.l, s.k⟩ := by unfold GS.freeze; rw [HS.out]; rfl
  rw [HF]
  obtain ⟨F1, z⟩ := ynb (s1 := ⟨true, f, t, s.l, s.k⟩) HG.out rfl ⟨hf, ht, fun z => by cases z⟩ (((Below.refl w.heap.size _).alloc (by simp [World.setCell]) _).drew)
  exact ⟨F1, rfl, z⟩
theorem gateThaw_any {w : World} {g : Nat} {H : HC} {s : GS} {F : List Nat} (h : VG w g H s F) : Calls Tryz.prog 131 #[.pointer (some ⟨g, 5, none⟩)] w fun e w' =>
  ∃ F1, e = .returned (.bool s.shut) ∧ VG w' g H s.thaw F1 ∧ Touch F w w' ∧ ∀ q ∈ F1, q ∈ F ∨ w.heap.size ≤ q := by
 obtain ⟨x, R, h, rfl⟩ := h
 have c0 := h.c0
 have c1 := h.c1
 have c2 := h.c2
 have z0 := h.free 5
 have z1 := h.free 6
 have z2 := h.free 7
 have hlt := h.lt
 have HG := Lib.hid h
 cases hs : s.shut with
 | false =>
  rw [hs] at c0
  have HF : Hid (s.thaw = s) := by
   show s.thaw = s
   obtain ⟨h1, h2⟩ := h.b.2.2 hs
   obtain ⟨a, b, c, d, k⟩ := s
   simp only at hs h1 h2
   subst hs h1 h2
   rfl
  clear h hs
  go_enter Tryz.func131, Tryz.ntmps131
  go_wp2
  go_ret
  rw [HF.out]
  obtain ⟨F1, z⟩ := yna HG.out (Below.refl _ _)
  exact ⟨F1, rfl, z⟩
 | true =>
  rw [hs] at c0
  clear h hs
  go_enter Tryz.func131, Tryz.ntmps131
  go_wp2
  go_ret
  obtain ⟨F1, z⟩ := ynb (s1 := s.thaw) HG.out rfl ⟨Nat.zero_lt_succ _, Nat.zero_lt_succ _, fun _ => ⟨rfl, rfl⟩⟩ (Below.refl w.heap.size _)
  exact ⟨F1, rfl, z⟩
theorem gateArc_any {w : World} {g : Nat} {H : HC} {s : GS} {F : List Nat} (h : VG w g H s F) : Calls Tryz.prog 103 #[.pointer (some ⟨g, 5, none⟩)] w fun e w' => e = .returned (.tuple #[.agg #[.int .u64 (s.f : Nat), .int .u64 (s.t : Nat)], .bool s.shut]) ∧ Below w.heap.size w w' := by
 obtain ⟨x, R, h, rfl⟩ := h
 have c0 := h.c0
 have c1 := h.c1
 have c2 := h.c2
 have hlt := h.lt
 clear h
 go_enter Tryz.func103, Tryz.ntmps103
 go_wp2
 go_region
 go_wp2
 exact bodyPost_ret (v := .tuple #[.agg #[.int .u64 (s.f : Nat), .int .u64 (s.t : Nat)], .bool s.shut]) (by simp [results, Tryz.results103, go_sem]) rfl ⟨rfl, ((Below.refl _ _).alloc (Nat.le_refl _) _).drew⟩
theorem gateFrozen_any {w : World} {g : Nat} {H : HC} {s : GS} {F : List Nat} (x : Nat) (hx : x < 18446744073709551616) (h : VG w g H s F) : Calls Tryz.prog 57 #[.pointer (some ⟨g, 5, none⟩), .int .u64 (x : Nat)] w fun e w' => e = .returned (.bool (s.frozen x)) ∧ Below w.heap.size w w' := by
 have CA := Lib.hid (gateArc_any h)
 have CI : Hid (∀ W, Calls Tryz.prog 113 #[.agg #[.int .u64 (s.f : Nat), .int .u64 (s.t : Nat)], .int .u64 (x : Nat)] W fun e w' => e = .returned (.bool (inB s.f s.t x)) ∧ Below W.heap.size W w') := by
  obtain ⟨_, _, h, _⟩ := h
  exact fun W => ydz s.f s.t x W h.b.1 h.b.2.1 hx
 unfold GS.frozen
 generalize inB s.f s.t x = ans at *
 generalize s.shut = sh at *
 clear h hx
 go_enter Tryz.func57, Tryz.ntmps57
 cases sh
 all_goals
  go_wp2_with (first
   | (go_at_call 103; (with_reducible refine (CA.out).mono ?_); rintro e w1 ⟨rfl, h1⟩; have HB1 := Lib.hid h1; clear h1)
   | (go_at_call 113; (with_reducible refine (CI.out _).mono ?_); rintro e w2 ⟨rfl, h2⟩; have HB2 := Lib.hid h2; clear h2))
  go_ret
  first
   | exact ⟨rfl, HB1.out.alloc HB1.out.size _⟩
   | exact ⟨rfl, acc (HB1.out.alloc HB1.out.size _) HB2.out⟩
section
variable (w : World)
end
end Go.Proofs.YtnjodhglbapnlaaGreat.Gi
