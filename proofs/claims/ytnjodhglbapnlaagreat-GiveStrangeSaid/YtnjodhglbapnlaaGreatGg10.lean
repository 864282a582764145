import Derived.Test.YtnjodhglbapnlaaGreatGg09
set_option maxRecDepth 100000
set_option maxHeartbeats 16000000
namespace Go.Proofs.YtnjodhglbapnlaaGreat
open Go.RowKit
theorem ydj {W : World} {q o c n k : Nat} {nd : Int} {l : List AO} (h : ya9 W (.slice (some ⟨q, o, none⟩) n c) n nd l) {x : AO} (hk : l[k]? = some x) :
  W.cell? ⟨q, o + k * 4, none⟩ = some (.int .u64 (x.f : Nat)) ∧ W.cell? ⟨q, o + k * 4 + 1, none⟩ = some (.int .u64 (x.t : Nat)) ∧ W.cell? ⟨q, o + k * 4 + 2, none⟩ = some (.int .i64 nd) ∧ W.cell? ⟨q, o + k * 4 + 3, none⟩ = some (.int .i64 x.e) := by
 have hr := ykb h hk
 exact ⟨hr 0 _ rfl, hr 1 _ rfl, hr 2 _ rfl, hr 3 _ rfl⟩
theorem ygr : ∃ i z, Tryz.prog.info? 152 = some i ∧ i.zero = some z ∧ i.size = 4 ∧ i.bytes = 32 ∧ z.cells.size = 4 := by
 have h : (Tryz.prog.info? 152).map (fun i => (i.zero.isSome, i.size, i.bytes, (i.zero.getD undef).cells.size)) = some (true, 4, 32, 4) := by kernel_rfl
 obtain ⟨i, hi, hx⟩ := Option.map_eq_some_iff.1 h
 simp only [Prod.mk.injEq] at hx
 obtain ⟨h1, h2, h3, h4⟩ := hx
 obtain ⟨z, hz⟩ := Option.isSome_iff_exists.1 h1
 exact ⟨i, z, hi, hz, h2, h3, by rw [hz] at h4; exact h4⟩
theorem yb7 {V w1 : World} {base e size n : Nat} {v : Value} {xs : List Value} (h : V.ownsRow base e size v n xs) (b : Below V.heap.size V w1) : w1.ownsRow base e size v n xs := Touch.row (Touch.ofBelow (F := []) b) h (by simp)
theorem ygs {W : World} {base n : Nat} {S : Value} {nd : Int} {l : List AO} (h : W.ownsRow base 152 4 S n (rowC (oC nd) l)) : l.length = n := by
 have := h.1
 rw [ydh (ycf nd)] at this
 omega
theorem yie {W : World} {A : Option Addr} {n c : Nat} {xs : List Value} {base e size : Nat} (h : W.ownsRow base e size (.slice A n c) n xs) (hn : 0 < n) : ∃ q, A = some ⟨q, 0, none⟩ := by
 rcases h.2 with ⟨h0, _⟩ | ⟨g, cap, cur, h0, _⟩
 ·injection h0 with _ h1 _; omega
 ·injection h0 with h1 _ _; exact ⟨g, h1⟩
abbrev ycr (W : World) (base : Nat) (S : Value) (n : Nat) (nd : Int) (l : List AO) : Prop := W.ownsRow base 152 4 S n (rowC (oC nd) l)
theorem ygt (w : World) (nd : Int) (p : AO) : ∀ j u, (rowC (oC nd) [p])[j]? = some u → (w.alloc (.cells (oC nd p) 152)).cell? ((⟨w.heap.size, 0, none⟩ : Addr).add j) = some u := by
 intro j u hj
 have hj : ((oC nd p).toList)[j]? = some u := by rw [← hj]; simp [rowC]
 rw [Go.WideShapes.add_plain]
 refine yaw (heap_alloc_new w _) ?_
 rw [Nat.zero_add, ← Array.getElem?_toList]
 exact hj
theorem ytm {b : Bool} {P K : List AO} {p x : AO} (h : okJ b p x = true) : mgJ b (P ++ [p]) (x :: K) = mgJ b (P ++ [yap p x]) K := by
 rw [mgJ, List.getLast?_append, List.getLast?_singleton]
 simp [h]
theorem ytn {b : Bool} {P K : List AO} {p x : AO} (h : okJ b p x = false) : mgJ b (P ++ [p]) (x :: K) = mgJ b (P ++ [p] ++ [x]) K := by
 rw [mgJ, List.getLast?_append, List.getLast?_singleton]
 simp [h]
def ygu (b : Bool) (W : World) (A : Option Addr) (n c : Nat) (nd : Int) (l : List AO) (e : Ending) (w' : World) : Prop :=
 ∃ (D : List AO) (S : Value), D.Perm l ∧ (D.Pairwise fun p q => p.f ≤ q.f) ∧ e = .returned S ∧ ya9 w' S (ya2 b D).length nd (ya2 b D) ∧ (∀ q, S.ownBlock = some q → W.heap.size ≤ q) ∧ Touch ((Value.slice A n c).ownBlock.toList) W w'
theorem yex {b : Bool} {W w1 wx : World} {A : Option Addr} {n c m : Nat} {nd : Int} {l D R : List AO} {S : Value} (hp : D.Perm l) (hs : D.Pairwise fun p q => p.f ≤ q.f) (hT : Touch ((Value.slice A n c).ownBlock.toList) W w1) (hB : Below w1.heap.size w1 wx) (hR : ya9 wx S m nd R) (hj : ya2 b D = R) (hS : ∀ q, S.ownBlock = some q → w1.heap.size ≤ q) : ygu b W A n c nd l (.returned S) wx := by
 have := yc8 hR
 subst this
 subst hj
 exact ⟨D, S, hp, hs, rfl, hR, fun q hq => Nat.le_trans hT.size (hS q hq), hT.trans (Touch.ofBelow hB) (fun _ hx => .inl hx)⟩
theorem ym4 (jb : Bool) (jf : Nat) (l : List AO) (nd : Int) (A : Option Addr) (c n : Nat) (W : World) (hr : ya9 W (.slice A n c) n nd l) (hl : n ≤ 100000) (hlt : ∀ p ∈ l, p.lt) (hjoin : ∀ (nd : Int) (p q : AO) (W : World), p.lt → q.lt → Calls Tryz.prog 175 #[.agg (oC nd p), .agg (oC nd q), .func (.func jf) #[] #[]] W (yee jb nd p q W)) :
  Calls Tryz.prog 117 #[.slice A n c, .func (.func jf) #[] #[]] W (ygu jb W A n c nd l) := by
 have CS := Lib.hid (yth l nd A c n W hr hl)
 have HLT := Lib.hid hlt
 clear hr hlt
 go_enter Tryz.func117, Tryz.ntmps117
 go_upto_region 2 with (go_at_call 172; (with_reducible refine (CS.out).mono ?_); rintro e w1 ⟨rfl, D, hp, hs, hr1, ht1⟩; have HP := Lib.hid hp; have HS := Lib.hid hs; have HR1 := Lib.hid hr1; have HT1 := Lib.hid ht1; clear hp hs hr1 ht1)
 clear CS
 have HD : Hid (D.length = n) := yc8 HR1.out
 have CJ : Hid (∀ (W : World) (p q : AO), p.lt → q.lt → Calls Tryz.prog 175 #[.agg (oC nd p), .agg (oC nd q), .func (.func jf) #[] #[]] W (yee jb nd p q W)) := fun W p q hp hq => hjoin nd p q W hp hq
 clear hjoin
 have HDL : Hid (∀ p ∈ D, p.lt) := fun p hp => HLT.out p (HP.out.mem_iff.1 hp)
 go_wp2_with fail
 go_loopg [5, 18] (n + 1) (fun gh s5 s18 wx => ∃ (i m : Nat) (A5 : Option Addr) (c5 : Nat) (M : List AO), i + gh = n + 1 ∧ i ≤ n ∧ m ≤ i ∧ s18 = .int .i64 (i : Nat) ∧ s5 = .slice A5 m c5 ∧ Hid (mgJ jb M (D.drop i) = mgJ jb [] D) ∧ Hid (∀ p ∈ M, p.lt) ∧ Hid (ycr wx w1.heap.size (.slice A5 m c5) m nd M) ∧ Hid (Below w1.heap.size w1 wx))
 case atStart => exact ⟨0, 0, none, 0, [], by omega, by omega, by omega, rfl, rfl, rfl, (fun p hp => by cases hp), World.ownsRow_nil _ _ _ _, Below.refl _ _⟩
 case round =>
  obtain ⟨i, m, A5, c5, M, hig, hin, hmi, rfl, rfl, HM, HML, HRM, HB⟩ := hrel
  by_cases hlt : i < n
  ·obtain ⟨x, hx⟩ : ∃ x, D[i]? = some x := ⟨_, List.getElem?_eq_getElem (by rw [HD.out]; exact hlt)⟩
   have i1 : (i : Int) < (n : Int) := by omega
   obtain ⟨g, o, rfl⟩ := HR1.out.at_ (show 0 < n by omega)
   have HRD := Lib.hid (HR1.out.below HB.out)
   obtain ⟨x0, x1, x2, x3⟩ := ydj HRD.out hx
   have hdrop : D.drop i = x :: D.drop (i + 1) := by
    rw [List.drop_eq_getElem_cons (by rw [HD.out]; exact hlt)]
    rw [List.getElem?_eq_getElem (by rw [HD.out]; exact hlt)] at hx
    rw [Option.some.inj hx]
   have HXL : Hid (x.lt) := HDL.out x (List.mem_of_getElem? hx)
   have hM := HM.out
   rw [hdrop] at hM
   have HM1 := Lib.hid hM
   clear hM hdrop hx
   go_upto_region 6 with fail
   have hbx := Bx.new wr (oC nd x) 152
   have hbn : Below wr.heap.size wr (wr.alloc (.cells (oC nd x) 152)) := (Below.refl _ _).alloc (Nat.le_refl _) _
   have HRN := Lib.hid (yb7 HRM.out hbn)
   have HBN : Hid (Below w1.heap.size w1 (wr.alloc (.cells (oC nd x) 152))) := acc HB.out hbn
   have hz2 : (wr.alloc (.cells (oC nd x) 152)).heap.size = wr.heap.size + 1 := by simp
   clear x0 x1 x2 x3
   obtain ⟨w2, hw2⟩ : ∃ w2, wr.alloc (.cells (oC nd x) 152) = w2 := ⟨_, rfl⟩
   rw [hw2] at hbx HRN HBN hz2 ⊢
   have HBX := Lib.hid hbx
   obtain ⟨x0, x1, x2, x3, lx⟩ := hbx.four
   have HZ2 := Lib.hid hz2
   clear hbx hbn hw2 hz2
   rcases List.eq_nil_or_concat M with rfl | ⟨P, p, rfl⟩
   ·obtain rfl : m = 0 := by simpa using (ygs HRM.out).symm
    obtain ⟨i0, z0, hi0, hz0, hs0, hb0, hzc⟩ := ygr
    go_wp2_with (at_builtin; ((refine yc4 rfl (.tmp 43) (.tmp 45) 72 rfl w1.heap.size 152 i0 z0 4 32 Tryz.underlying72 hi0 hz0 hs0 hb0 hzc (by decide) (.slice A5 0 c5) 0 (rowC (oC nd) []) rfl (yb7 HRN.out ((Below.refl _ _).alloc (Nat.le_refl _) _)) (.slice (some ⟨w2.heap.size, 0, none⟩) 1 1) 1 (rowC (oC nd) [x]) rfl (.inr ⟨_, _, rfl, rfl, ygt w2 nd x⟩) (yev _ _) (by decide) (by decide) (by have := HBN.out.size; simp; omega) ?_); intro A3 c3 w3 ho3 hg3 hs3; have HO3 := Lib.hid ho3; have HG3 := Lib.hid hg3; have HS3 := Lib.hid hs3; clear ho3 hg3 hs3))
    go_roundg (gk - 1)
    case measure => omega
    case rel =>
     refine ⟨i + 1, 1, A3, c3, [x], by omega, by omega, by omega, by go_num, rfl, HM1.out, ?_, HO3.out, ?_⟩
     ·intro q hq
      rw [List.mem_singleton.1 hq]
      exact HXL.out
     ·exact (acc HBN.out ((Below.refl _ _).alloc (Nat.le_refl _) _)).grown HG3.out (by have := HBN.out.size; simp; omega) (fun j hj => (HRN.out.lt j hj).1)
   ·rw [List.concat_eq_append] at *
    obtain ⟨k, hkm⟩ : ∃ k, m = k + 1 := ⟨m - 1, by have := ygs HRM.out; simp at this; omega⟩
    have hk : P.length = k := by have := ygs HRM.out; simp at this; omega
    obtain ⟨q5, rfl⟩ := yie HRN.out (by omega)
    have hpk : (P ++ [p])[k]? = some p := by rw [← hk]; simp
    obtain ⟨p0, p1, p2, p3⟩ := ydj (yd8 HRN.out) hpk
    simp only [Nat.zero_add] at p0 p1 p2 p3
    have CX := Lib.hid (fun W => CJ.out W p x (HML.out p (by simp)) HXL.out)
    have k0 : decide ((m : Int) > 0) = true := decide_eq_true (by omega)
    have k00 : decide ((0 : Int) < (m : Int)) = true := decide_eq_true (by omega)
    have kw : IntKind.i64.wrap ((m : Int) - 1) = (k : Nat) := by rw [IntKind.wrap_i64]; omega
    have kl : (k : Int) < (m : Int) := by omega
    have HKK := Lib.hid hk
    have HKM := Lib.hid hkm
    clear hk hpk CJ hkm
    have lq := (HRN.out.lt q5 rfl)
    have HSS : Hid (∀ w', Below w2.heap.size w2 w' → w'.cell? ⟨q5, k * 4, none⟩ = some (.int .u64 (p.f : Nat)) ∧ w'.cell? ⟨q5, k * 4 + 1, none⟩ = some (.int .u64 (p.t : Nat)) ∧ w'.cell? ⟨q5, k * 4 + 2, none⟩ = some (.int .i64 nd) ∧ w'.cell? ⟨q5, k * 4 + 3, none⟩ = some (.int .i64 p.e) ∧
      w'.cell? ⟨wr.heap.size, 0, none⟩ = some (.int .u64 (x.f : Nat)) ∧ w'.cell? ⟨wr.heap.size, 1, none⟩ = some (.int .u64 (x.t : Nat)) ∧ w'.cell? ⟨wr.heap.size, 2, none⟩ = some (.int .i64 nd) ∧ w'.cell? ⟨wr.heap.size, 3, none⟩ = some (.int .i64 x.e)) := fun w' hb =>
     ⟨(hb.cell (p := ⟨q5, _, none⟩) lq.2).trans p0, (hb.cell (p := ⟨q5, _, none⟩) lq.2).trans p1, (hb.cell (p := ⟨q5, _, none⟩) lq.2).trans p2, (hb.cell (p := ⟨q5, _, none⟩) lq.2).trans p3, (hb.cell (p := ⟨wr.heap.size, 0, none⟩) lx).trans x0, (hb.cell (p := ⟨wr.heap.size, 1, none⟩) lx).trans x1, (hb.cell (p := ⟨wr.heap.size, 2, none⟩) lx).trans x2, (hb.cell (p := ⟨wr.heap.size, 3, none⟩) lx).trans x3⟩
    clear p0 p1 p2 p3 x0 x1 x2 x3
    unfold yee at CX
    cases hok : okJ jb p x
    ·rw [hok] at CX
     simp only [Bool.false_eq_true, if_false] at CX
     have HOK := Lib.hid hok
     clear hok
     go_upto_region 8 with fail
     go_cut [9, 10] (fun s9 s10 wx => ∃ z, s9 = .pointer (some ⟨z, 0, none⟩) ∧ s10 = .bool false ∧ Hid (Bx wx z o0 152) ∧ Hid (Below w2.heap.size w2 wx) ∧ w2.heap.size ≤ z)
     case first =>
      refine ybe (fun w' => w'.cell? ⟨q5, k * 4, none⟩ = some (.int .u64 (p.f : Nat)) ∧ w'.cell? ⟨q5, k * 4 + 1, none⟩ = some (.int .u64 (p.t : Nat)) ∧ w'.cell? ⟨q5, k * 4 + 2, none⟩ = some (.int .i64 nd) ∧ w'.cell? ⟨q5, k * 4 + 3, none⟩ = some (.int .i64 p.e) ∧ w'.cell? ⟨wr.heap.size, 0, none⟩ = some (.int .u64 (x.f : Nat)) ∧ w'.cell? ⟨wr.heap.size, 1, none⟩ = some (.int .u64 (x.t : Nat)) ∧ w'.cell? ⟨wr.heap.size, 2, none⟩ = some (.int .i64 nd) ∧ w'.cell? ⟨wr.heap.size, 3, none⟩ = some (.int .i64 x.e)) 12 (by kernel_rfl) ?_ (fun hHeld => ?_)
      ·(try dsimp only); exact HSS.out _ ((Below.refl _ _).drew)
      refine wtP 0 ?_
      try simp only [Act.put, wsA, wsB, wsC]
      refine wtP 1 ?_
      try simp only [Act.put, wsA, wsB, wsC]
      refine wtP 2 ?_
      try simp only [Act.put, wsA, wsB, wsC]
      refine wtP 3 ?_
      try simp only [Act.put, wsA, wsB, wsC]
      refine wtP 6 ?_
      try simp only [Act.put, wsA, wsB, wsC]
      refine wtT 4 ?_
      try simp only [Act.put, wsA, wsB, wsC]
      refine wtT 5 ?_
      try simp only [Act.put, wsA, wsB, wsC]
      refine yd7 (rs := [7, 11]) (by kernel_rfl) (by simp) ?_
      refine (ya6.cons (o := ⟨_, _, _, _, _, _⟩) rfl (fun K hK => ?_) (ya6.cons (o := ⟨_, _, _, _, _, _⟩) rfl (fun K hK => ?_) ya6.nil))
      ·go_simp
       (first | (go_at_call 175; (with_reducible refine (CX.out _).mono ?_); rintro e w3 ⟨rfl, hb3⟩))
       have HB3 : Hid (Below w2.heap.size w2 w3) := (by exact ((Below.refl w2.heap.size w2).drew).trans hb3)
       clear hb3
       go_wp2_with fail
       refine hK.out _ _ (by (try dsimp only); (first | exact HSS.out _ HB3.out | exact HSS.out _ (HB3.out.alloc HB3.out.size _) | exact HSS.out _ (((Below.refl _ _).drew).alloc (by simp) _) | exact HSS.out _ ((Below.refl _ _).drew))) (fun hHeld => ?_)
       clear hK K
       try simp only [Act.put, wsA, wsB, wsC]
       refine wtP 8 ?_
       try simp only [Act.put, wsA, wsB, wsC]
       refine wtP 9 ?_
       try simp only [Act.put, wsA, wsB, wsC]
       refine wtP 10 ?_
       try simp only [Act.put, wsA, wsB, wsC]
       refine wtC 11 fun K hK => ?_
       go_simp
       refine hK.out _ _ (by (try dsimp only); (first | exact HSS.out _ HB3.out | exact HSS.out _ (HB3.out.alloc HB3.out.size _) | exact HSS.out _ (((Below.refl _ _).drew).alloc (by simp) _) | exact HSS.out _ ((Below.refl _ _).drew))) (fun hHeld => ?_)
       clear hK K
       try simp only [Act.put, wsA, wsB, wsC]
       refine wtD 12 fun K hK => ?_
       go_simp
       refine hK.out _ _ ?_
       clear hK K
       try simp only [Act.put, wsA, wsB, wsC]
       refine wtD 13 fun K hK => ?_
       go_simp
       refine hK.out _ _ ?_
       clear hK K
       try simp only [Act.put, wsA, wsB, wsC]
       refine ya8 (by kernel_rfl) ?_ _
       go_wp2_with fail
       go_meet
       exact ⟨w3.heap.size, rfl, rfl, Bx.new w3 o0 152, HB3.out.alloc HB3.out.size _, HB3.out.size⟩
      ·go_simp
       refine hK.out _ _ (by (try dsimp only); (first | exact HSS.out _ HB3.out | exact HSS.out _ (HB3.out.alloc HB3.out.size _) | exact HSS.out _ (((Below.refl _ _).drew).alloc (by simp) _) | exact HSS.out _ ((Below.refl _ _).drew))) (fun hHeld => ?_)
       clear hK K
       try simp only [Act.put, wsA, wsB, wsC]
       refine wtC 7 fun K hK => ?_
       go_simp
       (first | (go_at_call 175; (with_reducible refine (CX.out _).mono ?_); rintro e w3 ⟨rfl, hb3⟩))
       have HB3 : Hid (Below w2.heap.size w2 w3) := (by exact (((Below.refl w2.heap.size w2).drew).alloc (by simp) _).trans (hb3.mono (by simp)))
       have HZB : Hid (Bx w3 w2.heap.size o0 152) := (Bx.new w2.drew o0 152).below hb3
       obtain ⟨z0, z1, z2, z3, _⟩ := HZB.out.four
       have y0 := HZB.out.free 0
       have y1 := HZB.out.free 1
       have y2 := HZB.out.free 2
       have y3 := HZB.out.free 3
       clear hb3
       go_wp2_with fail
       refine hK.out _ _ (by (try dsimp only); (first | exact HSS.out _ HB3.out | exact HSS.out _ (HB3.out.alloc HB3.out.size _) | exact HSS.out _ (((Below.refl _ _).drew).alloc (by simp) _) | exact HSS.out _ ((Below.refl _ _).drew))) (fun hHeld => ?_)
       clear hK K
       try simp only [Act.put, wsA, wsB, wsC]
       refine wtP 8 ?_
       try simp only [Act.put, wsA, wsB, wsC]
       refine wtP 9 ?_
       try simp only [Act.put, wsA, wsB, wsC]
       refine wtP 10 ?_
       try simp only [Act.put, wsA, wsB, wsC]
       refine wtD 12 fun K hK => ?_
       go_simp
       refine hK.out _ _ ?_
       clear hK K
       try simp only [Act.put, wsA, wsB, wsC]
       refine wtD 13 fun K hK => ?_
       go_simp
       refine hK.out _ _ ?_
       clear hK K
       try simp only [Act.put, wsA, wsB, wsC]
       refine ya8 (by kernel_rfl) ?_ _
       go_wp2_with fail
       go_meet
       exact ⟨w2.heap.size, rfl, rfl, HZB.out.put4 (.int .u64 0) (.int .u64 0) (.int .i64 0) (.int .i64 0), yan (yan (yan (yan HB3.out (Nat.le_refl _) _ _) (Nat.le_refl _) _ _) (Nat.le_refl _) _ _) (Nat.le_refl _) _ _, Nat.le_refl _⟩
     case rest =>
      obtain ⟨z9, rfl, rfl, HB9, HBW, hz9⟩ := hcut
      obtain ⟨w4, hw4⟩ : ∃ w4 : World, w4 = wc := ⟨_, rfl⟩
      rw [← hw4] at HB9 HBW ⊢
      clear hw4
      have HC4 : Hid (Below w1.heap.size w1 w4) := acc HBN.out HBW.out
      have HR4 := Lib.hid (yb7 HRN.out HBW.out)
      have HBX4 := Lib.hid (HBX.out.below HBW.out)
      obtain ⟨x0, x1, x2, x3, _⟩ := HBX4.out.four
      obtain ⟨i0, z0, hi0, hz0, hs0, hb0, hzc⟩ := ygr
      go_wp2_with (at_builtin; ((refine yc4 rfl (.tmp 43) (.tmp 45) 72 rfl w1.heap.size 152 i0 z0 4 32 Tryz.underlying72 hi0 hz0 hs0 hb0 hzc (by decide) (.slice (some ⟨q5, 0, none⟩) m c5) m (rowC (oC nd) (P ++ [p])) rfl (yb7 HR4.out ((Below.refl _ _).alloc (Nat.le_refl _) _)) (.slice (some ⟨w4.heap.size, 0, none⟩) 1 1) 1 (rowC (oC nd) [x]) rfl (.inr ⟨_, _, rfl, rfl, ygt w4 nd x⟩) (yev _ _) (by unfold maxLen; omega) (by omega) (by have := HC4.out.size; simp; omega) ?_); intro A3 c3 w5 ho3 hg3 hs3; have HO3 := Lib.hid ho3; have HG3 := Lib.hid hg3; clear ho3 hg3 hs3))
      go_roundg (gk - 1)
      case measure => omega
      case rel =>
       refine ⟨i + 1, m + 1, A3, c3, P ++ [p] ++ [x], by omega, by omega, by omega, by go_num, rfl, ?_, ?_, ?_, ?_⟩
       ·exact (ytn HOK.out).symm.trans HM1.out
       ·intro q hq
        rcases List.mem_append.1 hq with z | z
        ·exact HML.out q z
        ·rw [List.mem_singleton.1 z]
         exact HXL.out
       ·unfold ycr
        rw [yc2]
        exact HO3.out
       ·exact (acc HC4.out ((Below.refl _ _).alloc (Nat.le_refl _) _)).grown HG3.out (by have := HC4.out.size; simp; omega) (fun j hj => (HR4.out.lt j hj).1)
    ·rw [hok] at CX
     simp only [if_true] at CX
     have HOK := Lib.hid hok
     clear hok
     go_upto_region 8 with fail
     go_cut [9, 10] (fun s9 s10 wx => ∃ z, s9 = .pointer (some ⟨z, 0, none⟩) ∧ s10 = .bool true ∧ Hid (Bx wx z (oC nd (yap p x)) 152) ∧ Hid (Below w2.heap.size w2 wx) ∧ w2.heap.size ≤ z)
     case first =>
      refine ybe (fun w' => w'.cell? ⟨q5, k * 4, none⟩ = some (.int .u64 (p.f : Nat)) ∧ w'.cell? ⟨q5, k * 4 + 1, none⟩ = some (.int .u64 (p.t : Nat)) ∧ w'.cell? ⟨q5, k * 4 + 2, none⟩ = some (.int .i64 nd) ∧ w'.cell? ⟨q5, k * 4 + 3, none⟩ = some (.int .i64 p.e) ∧ w'.cell? ⟨wr.heap.size, 0, none⟩ = some (.int .u64 (x.f : Nat)) ∧ w'.cell? ⟨wr.heap.size, 1, none⟩ = some (.int .u64 (x.t : Nat)) ∧ w'.cell? ⟨wr.heap.size, 2, none⟩ = some (.int .i64 nd) ∧ w'.cell? ⟨wr.heap.size, 3, none⟩ = some (.int .i64 x.e)) 12 (by kernel_rfl) ?_ (fun hHeld => ?_)
      ·(try dsimp only); exact HSS.out _ ((Below.refl _ _).drew)
      refine wtP 0 ?_
      try simp only [Act.put, wsA, wsB, wsC]
      refine wtP 1 ?_
      try simp only [Act.put, wsA, wsB, wsC]
      refine wtP 2 ?_
      try simp only [Act.put, wsA, wsB, wsC]
      refine wtP 3 ?_
      try simp only [Act.put, wsA, wsB, wsC]
      refine wtP 6 ?_
      try simp only [Act.put, wsA, wsB, wsC]
      refine wtT 4 ?_
      try simp only [Act.put, wsA, wsB, wsC]
      refine wtT 5 ?_
      try simp only [Act.put, wsA, wsB, wsC]
      refine yd7 (rs := [7, 11]) (by kernel_rfl) (by simp) ?_
      refine (ya6.cons (o := ⟨_, _, _, _, _, _⟩) rfl (fun K hK => ?_) (ya6.cons (o := ⟨_, _, _, _, _, _⟩) rfl (fun K hK => ?_) ya6.nil))
      ·go_simp
       (first | (go_at_call 175; (with_reducible refine (CX.out _).mono ?_); rintro e w3 ⟨rfl, hb3⟩))
       have HB3 : Hid (Below w2.heap.size w2 w3) := (by exact ((Below.refl w2.heap.size w2).drew).trans hb3)
       clear hb3
       go_wp2_with fail
       refine hK.out _ _ (by (try dsimp only); (first | exact HSS.out _ HB3.out | exact HSS.out _ (HB3.out.alloc HB3.out.size _) | exact HSS.out _ (((Below.refl _ _).drew).alloc (by simp) _) | exact HSS.out _ ((Below.refl _ _).drew))) (fun hHeld => ?_)
       clear hK K
       try simp only [Act.put, wsA, wsB, wsC]
       refine wtP 8 ?_
       try simp only [Act.put, wsA, wsB, wsC]
       refine wtP 9 ?_
       try simp only [Act.put, wsA, wsB, wsC]
       refine wtP 10 ?_
       try simp only [Act.put, wsA, wsB, wsC]
       refine wtC 11 fun K hK => ?_
       go_simp
       refine hK.out _ _ (by (try dsimp only); (first | exact HSS.out _ HB3.out | exact HSS.out _ (HB3.out.alloc HB3.out.size _) | exact HSS.out _ (((Below.refl _ _).drew).alloc (by simp) _) | exact HSS.out _ ((Below.refl _ _).drew))) (fun hHeld => ?_)
       clear hK K
       try simp only [Act.put, wsA, wsB, wsC]
       refine wtD 12 fun K hK => ?_
       go_simp
       refine hK.out _ _ ?_
       clear hK K
       try simp only [Act.put, wsA, wsB, wsC]
       refine wtD 13 fun K hK => ?_
       go_simp
       refine hK.out _ _ ?_
       clear hK K
       try simp only [Act.put, wsA, wsB, wsC]
       refine ya8 (by kernel_rfl) ?_ _
       go_wp2_with fail
       go_meet
       exact ⟨w3.heap.size, rfl, rfl, Bx.new w3 (oC nd (yap p x)) 152, HB3.out.alloc HB3.out.size _, HB3.out.size⟩
      ·go_simp
       refine hK.out _ _ (by (try dsimp only); (first | exact HSS.out _ HB3.out | exact HSS.out _ (HB3.out.alloc HB3.out.size _) | exact HSS.out _ (((Below.refl _ _).drew).alloc (by simp) _) | exact HSS.out _ ((Below.refl _ _).drew))) (fun hHeld => ?_)
       clear hK K
       try simp only [Act.put, wsA, wsB, wsC]
       refine wtC 7 fun K hK => ?_
       go_simp
       (first | (go_at_call 175; (with_reducible refine (CX.out _).mono ?_); rintro e w3 ⟨rfl, hb3⟩))
       have HB3 : Hid (Below w2.heap.size w2 w3) := (by exact (((Below.refl w2.heap.size w2).drew).alloc (by simp) _).trans (hb3.mono (by simp)))
       have HZB : Hid (Bx w3 w2.heap.size o0 152) := (Bx.new w2.drew o0 152).below hb3
       obtain ⟨z0, z1, z2, z3, _⟩ := HZB.out.four
       have y0 := HZB.out.free 0
       have y1 := HZB.out.free 1
       have y2 := HZB.out.free 2
       have y3 := HZB.out.free 3
       clear hb3
       go_wp2_with fail
       refine hK.out _ _ (by (try dsimp only); (first | exact HSS.out _ HB3.out | exact HSS.out _ (HB3.out.alloc HB3.out.size _) | exact HSS.out _ (((Below.refl _ _).drew).alloc (by simp) _) | exact HSS.out _ ((Below.refl _ _).drew))) (fun hHeld => ?_)
       clear hK K
       try simp only [Act.put, wsA, wsB, wsC]
       refine wtP 8 ?_
       try simp only [Act.put, wsA, wsB, wsC]
       refine wtP 9 ?_
       try simp only [Act.put, wsA, wsB, wsC]
       refine wtP 10 ?_
       try simp only [Act.put, wsA, wsB, wsC]
       refine wtD 12 fun K hK => ?_
       go_simp
       refine hK.out _ _ ?_
       clear hK K
       try simp only [Act.put, wsA, wsB, wsC]
       refine wtD 13 fun K hK => ?_
       go_simp
       refine hK.out _ _ ?_
       clear hK K
       try simp only [Act.put, wsA, wsB, wsC]
       refine ya8 (by kernel_rfl) ?_ _
       go_wp2_with fail
       go_meet
       exact ⟨w2.heap.size, rfl, rfl, HZB.out.put4 (.int .u64 (p.f : Nat)) (.int .u64 (x.t : Nat)) (.int .i64 nd) (.int .i64 (max p.e x.e)), yan (yan (yan (yan HB3.out (Nat.le_refl _) _ _) (Nat.le_refl _) _ _) (Nat.le_refl _) _ _) (Nat.le_refl _) _ _, Nat.le_refl _⟩
     case rest =>
      obtain ⟨z9, rfl, rfl, HB9, HBW, hz9⟩ := hcut
      obtain ⟨w4, hw4⟩ : ∃ w4 : World, w4 = wc := ⟨_, rfl⟩
      rw [← hw4] at HB9 HBW ⊢
      clear hw4
      have HC4 : Hid (Below w1.heap.size w1 w4) := acc HBN.out HBW.out
      have HR4 := Lib.hid (yb7 HRN.out HBW.out)
      obtain ⟨b0, b1, b2, b3, _⟩ := HB9.out.four
      obtain ⟨p0, p1, p2, p3, _⟩ := HSS.out _ HBW.out
      have f0 := HR4.out.frozenAt (k * 4)
      have f1 := HR4.out.frozenAt (k * 4 + 1)
      have f2 := HR4.out.frozenAt (k * 4 + 2)
      have f3 := HR4.out.frozenAt (k * 4 + 3)
      simp only [yap] at b0 b1 b2 b3
      go_wp2_with fail
      go_roundg (gk - 1)
      case measure => omega
      case rel =>
       refine ⟨i + 1, m, _, c5, P ++ [yap p x], by omega, by omega, by omega, by go_num, rfl, ?_, ?_, ?_, ?_⟩
       ·exact (ytm HOK.out).symm.trans HM1.out
       ·intro q hq
        rcases List.mem_append.1 hq with z | z
        ·exact HML.out q (by simp [z])
        ·rw [List.mem_singleton.1 z]
         exact ⟨(HML.out p (by simp)).1, HXL.out.2⟩
       ·have hpk : k < (P ++ [p]).length := by simp [HKK.out]
        have z := yj8 (oC nd (yap p x)).toList w4 (k * 4) _ HR4.out (by rw [ydh (ycf nd)]; have h4 : (k + 1) * 4 ≤ (P ++ [p]).length * 4 := Nat.mul_le_mul_right 4 hpk; rw [Nat.add_mul] at h4; exact h4)
        rw [ymw (ycf nd) _ _ _ hpk] at z
        have e : (P ++ [p]).set k (yap p x) = P ++ [yap p x] := by rw [← HKK.out]; simp
        rw [e] at z
        exact z
       ·exact yan (yan (yan (yan HC4.out lq.1 _ _) lq.1 _ _) lq.1 _ _) lq.1 _ _
  ·skip
   obtain rfl : i = n := by omega
   have hM := HM.out
   rw [List.drop_eq_nil_of_le (by rw [HD.out]; exact Nat.le_refl _)] at hM
   have HJ : Hid (ya2 jb D = ydi (yec jb M)) := by
    show _ = _
    rw [ya2, ← hM]
    rfl
   have hlM := ygs HRM.out
   clear hM HM
   have HNB : Hid (∀ q, (Value.slice A5 m c5).ownBlock = some q → w1.heap.size ≤ q) := fun q hq => (HRM.out.lt q hq).1
   have HRA := Lib.hid (yd8 HRM.out)
   match M, hlM with
   | [], hlM =>
    obtain rfl : m = 0 := by simpa using hlM.symm
    go_wp2_with fail
    go_ret
    exact yex HP.out HS.out HT1.out HB.out HRA.out HJ.out HNB.out
   | [p], hlM =>
    obtain rfl : m = 1 := by simpa using hlM.symm
    obtain ⟨q5, rfl⟩ := yie HRM.out (by omega)
    have HQ5 : Hid (w1.heap.size ≤ q5) := (HRM.out.lt q5 rfl).1
    have lq := (HRM.out.lt q5 rfl).2
    obtain ⟨c0, c1, _, _⟩ := ydj HRA.out (k := 0) (x := p) rfl
    have HJ1 : Hid (ya2 jb D = ydi [p]) := HJ.out
    simp only [Nat.zero_mul, Nat.zero_add] at c0 c1
    have CW := Lib.hid fun W => yg9 p.f p.t W
    obtain ⟨bw, hbw⟩ : ∃ bw, (p.f == p.t) = bw := ⟨_, rfl⟩
    rw [hbw] at CW
    have HBW2 := Lib.hid hbw
    clear hbw
    cases bw
    ·go_wp2_with (go_at_call 108; (with_reducible refine (CW.out _).mono ?_); rintro e w7 ⟨rfl, hb7⟩; have HB7 := Lib.hid hb7; clear hb7)
     go_ret
     have hne : ¬ p.f = p.t := (by simpa using HBW2.out : ¬ p.f = p.t)
     exact yex HP.out HS.out HT1.out (acc HB.out HB7.out) (HRA.out.below HB7.out) (HJ1.out.trans ((ygk _).trans (if_neg hne))) HNB.out
    ·have f0 := ygp HRA.out 0
     have f1 := ygp HRA.out (1)
     go_wp2_with (go_at_call 108; (with_reducible refine (CW.out _).mono ?_); rintro e w7 ⟨rfl, hb7⟩; have HB7 := Lib.hid hb7; have y0 := (hb7.cell (p := ⟨q5, 0, none⟩) lq).trans c0; have y1 := (hb7.cell (p := ⟨q5, 1, none⟩) lq).trans c1; have g0 := (hb7.frozen (p := ⟨q5, 0, none⟩) lq).trans f0; have g1 := (hb7.frozen (p := ⟨q5, 1, none⟩) lq).trans f1; clear hb7)
     go_ret
     have hne : p.f = p.t := (by simpa using HBW2.out : p.f = p.t)
     refine yex (m := 1) HP.out HS.out HT1.out (yan (yan (acc HB.out HB7.out) HQ5.out _ _) HQ5.out _ _) ?_ (HJ1.out.trans ((ygk _).trans (if_pos hne))) HNB.out
     exact ((HRA.out.below HB7.out).set 0 (.int .u64 0)).set 1 (.int .u64 0)
   | p :: r :: rs, hlM =>
    obtain ⟨A, q, hAq⟩ : ∃ A q, r :: rs = A ++ [q] := ⟨(r :: rs).dropLast, (r :: rs).getLast (by simp), (List.dropLast_concat_getLast (by simp)).symm⟩
    rw [hAq] at hlM HRM HML HJ HRA
    clear hAq
    obtain ⟨q5, rfl⟩ := yie HRM.out (by simp at hlM; omega)
    have HQ5 : Hid (w1.heap.size ≤ q5) := (HRM.out.lt q5 rfl).1
    have lq := (HRM.out.lt q5 rfl).2
    obtain ⟨k, hk⟩ : ∃ k, A.length + 1 = k := ⟨_, rfl⟩
    have hmk : m = k + 1 := by simp at hlM; omega
    have hcm : m ≤ c5 ∧ c5 ≤ maxLen := by
     obtain ⟨_, _, e, h1, h2⟩ := HRA.out.shape
     injection e with _ _ e
     subst e
     exact ⟨h1, h2⟩
    obtain ⟨p0, p1, p2, p3⟩ := ydj HRA.out (k := 0) (x := p) rfl
    obtain ⟨x0, x1, x2, x3⟩ := ydj HRA.out (k := k) (x := q) (by rw [← hk]; simp)
    simp only [Nat.zero_mul, Nat.zero_add] at p0 p1 p2 p3 x0 x1 x2 x3
    have CX := Lib.hid (fun W => CJ.out W q p (HML.out q (by simp)) (HML.out p (by simp)))
    have k0 : decide ((m : Int) > 1) = true := decide_eq_true (by omega)
    have k00 : decide ((1 : Int) < (m : Int)) = true := decide_eq_true (by omega)
    have kw : IntKind.i64.wrap ((m : Int) - 1) = (k : Nat) := by rw [IntKind.wrap_i64]; omega
    have kl : (k : Int) < (m : Int) := by omega
    have k1 : (0 : Int) < (m : Int) := by omega
    have k2 : 0 < m := by omega
    have HSS : Hid (∀ w', Below wr.heap.size wr w' → w'.cell? ⟨q5, k * 4, none⟩ = some (.int .u64 (q.f : Nat)) ∧ w'.cell? ⟨q5, k * 4 + 1, none⟩ = some (.int .u64 (q.t : Nat)) ∧ w'.cell? ⟨q5, k * 4 + 2, none⟩ = some (.int .i64 nd) ∧ w'.cell? ⟨q5, k * 4 + 3, none⟩ = some (.int .i64 q.e) ∧ w'.cell? ⟨q5, 0, none⟩ = some (.int .u64 (p.f : Nat)) ∧ w'.cell? ⟨q5, 1, none⟩ = some (.int .u64 (p.t : Nat)) ∧ w'.cell? ⟨q5, 2, none⟩ = some (.int .i64 nd) ∧ w'.cell? ⟨q5, 3, none⟩ = some (.int .i64 p.e)) := fun w' hb =>
     ⟨(hb.cell (p := ⟨q5, _, none⟩) lq).trans x0, (hb.cell (p := ⟨q5, _, none⟩) lq).trans x1, (hb.cell (p := ⟨q5, _, none⟩) lq).trans x2, (hb.cell (p := ⟨q5, _, none⟩) lq).trans x3, (hb.cell (p := ⟨q5, _, none⟩) lq).trans p0, (hb.cell (p := ⟨q5, _, none⟩) lq).trans p1, (hb.cell (p := ⟨q5, _, none⟩) lq).trans p2, (hb.cell (p := ⟨q5, _, none⟩) lq).trans p3⟩
    clear p0 p1 p2 p3 x0 x1 x2 x3 CJ
    unfold yee at CX
    have HKK := Lib.hid hk
    have HMK := Lib.hid hmk
    have HCM := Lib.hid hcm
    clear hk hmk hcm hlM
    cases hok : okJ jb q p
    ·rw [hok] at CX
     simp only [Bool.false_eq_true, if_false] at CX
     have HOK := Lib.hid hok
     clear hok
     go_upto_region 15 with fail
     go_cut [12, 13] (fun s12 s13 wx => ∃ z, s12 = .pointer (some ⟨z, 0, none⟩) ∧ s13 = .bool false ∧ Hid (Bx wx z o0 152) ∧ Hid (Below wr.heap.size wr wx) ∧ wr.heap.size ≤ z)
     case first =>
      refine ybe (fun w' => w'.cell? ⟨q5, k * 4, none⟩ = some (.int .u64 (q.f : Nat)) ∧ w'.cell? ⟨q5, k * 4 + 1, none⟩ = some (.int .u64 (q.t : Nat)) ∧ w'.cell? ⟨q5, k * 4 + 2, none⟩ = some (.int .i64 nd) ∧ w'.cell? ⟨q5, k * 4 + 3, none⟩ = some (.int .i64 q.e) ∧ w'.cell? ⟨q5, 0, none⟩ = some (.int .u64 (p.f : Nat)) ∧ w'.cell? ⟨q5, 1, none⟩ = some (.int .u64 (p.t : Nat)) ∧ w'.cell? ⟨q5, 2, none⟩ = some (.int .i64 nd) ∧ w'.cell? ⟨q5, 3, none⟩ = some (.int .i64 p.e)) 14 (by kernel_rfl) ?_ (fun hHeld => ?_)
      ·(try dsimp only); exact HSS.out _ ((Below.refl _ _).drew)
      refine wtP 0 ?_
      try simp only [Act.put, wsA, wsB, wsC]
      refine wtP 1 ?_
      try simp only [Act.put, wsA, wsB, wsC]
      refine wtP 2 ?_
      try simp only [Act.put, wsA, wsB, wsC]
      refine wtP 3 ?_
      try simp only [Act.put, wsA, wsB, wsC]
      refine wtP 5 ?_
      try simp only [Act.put, wsA, wsB, wsC]
      refine wtP 6 ?_
      try simp only [Act.put, wsA, wsB, wsC]
      refine wtP 8 ?_
      try simp only [Act.put, wsA, wsB, wsC]
      refine wtT 4 ?_
      try simp only [Act.put, wsA, wsB, wsC]
      refine wtT 7 ?_
      try simp only [Act.put, wsA, wsB, wsC]
      refine yd7 (rs := [9, 13]) (by kernel_rfl) (by simp) ?_
      refine (ya6.cons (o := ⟨_, _, _, _, _, _⟩) rfl (fun K hK => ?_) (ya6.cons (o := ⟨_, _, _, _, _, _⟩) rfl (fun K hK => ?_) ya6.nil))
      ·go_simp
       (first | (go_at_call 175; (with_reducible refine (CX.out _).mono ?_); rintro e w3 ⟨rfl, hb3⟩))
       have HB3 : Hid (Below wr.heap.size wr w3) := (by exact ((Below.refl wr.heap.size wr).drew).trans hb3)
       clear hb3
       go_wp2_with fail
       refine hK.out _ _ (by (try dsimp only); (first | exact HSS.out _ HB3.out | exact HSS.out _ (HB3.out.alloc HB3.out.size _) | exact HSS.out _ (((Below.refl _ _).drew).alloc (by simp) _) | exact HSS.out _ ((Below.refl _ _).drew))) (fun hHeld => ?_)
       clear hK K
       try simp only [Act.put, wsA, wsB, wsC]
       refine wtP 10 ?_
       try simp only [Act.put, wsA, wsB, wsC]
       refine wtP 11 ?_
       try simp only [Act.put, wsA, wsB, wsC]
       refine wtP 12 ?_
       try simp only [Act.put, wsA, wsB, wsC]
       refine wtC 13 fun K hK => ?_
       go_simp
       refine hK.out _ _ (by (try dsimp only); (first | exact HSS.out _ HB3.out | exact HSS.out _ (HB3.out.alloc HB3.out.size _) | exact HSS.out _ (((Below.refl _ _).drew).alloc (by simp) _) | exact HSS.out _ ((Below.refl _ _).drew))) (fun hHeld => ?_)
       clear hK K
       try simp only [Act.put, wsA, wsB, wsC]
       refine wtD 14 fun K hK => ?_
       go_simp
       refine hK.out _ _ ?_
       clear hK K
       try simp only [Act.put, wsA, wsB, wsC]
       refine wtD 15 fun K hK => ?_
       go_simp
       refine hK.out _ _ ?_
       clear hK K
       try simp only [Act.put, wsA, wsB, wsC]
       refine ya8 (by kernel_rfl) ?_ _
       go_wp2_with fail
       go_meet
       exact ⟨w3.heap.size, rfl, rfl, Bx.new w3 o0 152, HB3.out.alloc HB3.out.size _, HB3.out.size⟩
      ·go_simp
       refine hK.out _ _ (by (try dsimp only); (first | exact HSS.out _ HB3.out | exact HSS.out _ (HB3.out.alloc HB3.out.size _) | exact HSS.out _ (((Below.refl _ _).drew).alloc (by simp) _) | exact HSS.out _ ((Below.refl _ _).drew))) (fun hHeld => ?_)
       clear hK K
       try simp only [Act.put, wsA, wsB, wsC]
       refine wtC 9 fun K hK => ?_
       go_simp
       (first | (go_at_call 175; (with_reducible refine (CX.out _).mono ?_); rintro e w3 ⟨rfl, hb3⟩))
       have HB3 : Hid (Below wr.heap.size wr w3) := (by exact (((Below.refl wr.heap.size wr).drew).alloc (by simp) _).trans (hb3.mono (by simp)))
       have HZB : Hid (Bx w3 wr.heap.size o0 152) := (Bx.new wr.drew o0 152).below hb3
       obtain ⟨z0, z1, z2, z3, _⟩ := HZB.out.four
       have y0 := HZB.out.free 0
       have y1 := HZB.out.free 1
       have y2 := HZB.out.free 2
       have y3 := HZB.out.free 3
       clear hb3
       go_wp2_with fail
       refine hK.out _ _ (by (try dsimp only); (first | exact HSS.out _ HB3.out | exact HSS.out _ (HB3.out.alloc HB3.out.size _) | exact HSS.out _ (((Below.refl _ _).drew).alloc (by simp) _) | exact HSS.out _ ((Below.refl _ _).drew))) (fun hHeld => ?_)
       clear hK K
       try simp only [Act.put, wsA, wsB, wsC]
       refine wtP 10 ?_
       try simp only [Act.put, wsA, wsB, wsC]
       refine wtP 11 ?_
       try simp only [Act.put, wsA, wsB, wsC]
       refine wtP 12 ?_
       try simp only [Act.put, wsA, wsB, wsC]
       refine wtD 14 fun K hK => ?_
       go_simp
       refine hK.out _ _ ?_
       clear hK K
       try simp only [Act.put, wsA, wsB, wsC]
       refine wtD 15 fun K hK => ?_
       go_simp
       refine hK.out _ _ ?_
       clear hK K
       try simp only [Act.put, wsA, wsB, wsC]
       refine ya8 (by kernel_rfl) ?_ _
       go_wp2_with fail
       go_meet
       exact ⟨wr.heap.size, rfl, rfl, HZB.out.put4 (.int .u64 0) (.int .u64 0) (.int .i64 0) (.int .i64 0), yan (yan (yan (yan HB3.out (Nat.le_refl _) _ _) (Nat.le_refl _) _ _) (Nat.le_refl _) _ _) (Nat.le_refl _) _ _, Nat.le_refl _⟩
     case rest =>
      obtain ⟨z9, rfl, rfl, HB9, HBW, hz9⟩ := hcut
      obtain ⟨w4, hw4⟩ : ∃ w4 : World, w4 = wc := ⟨_, rfl⟩
      rw [← hw4] at HB9 HBW ⊢
      clear hw4
      have HC4 : Hid (Below w1.heap.size w1 w4) := acc HB.out HBW.out
      have HR4 := Lib.hid (yb7 HRM.out HBW.out)
      have hcn := HCM.out
      have HW4 := Lib.hid (HBW.out.size)
      have d3 : ((m : Int) == 1) = false := by have := HMK.out; have := HKK.out; simp; omega
      go_wp2_with fail
      go_ret
      exact yex HP.out HS.out HT1.out HC4.out (yd8 HR4.out) (HJ.out.trans (by
       rw [yj1, if_neg (by rw [HOK.out]; exact Bool.false_ne_true)]
       cases A <;> rfl)) HNB.out
    ·rw [hok] at CX
     simp only [if_true] at CX
     have HOK := Lib.hid hok
     clear hok
     go_upto_region 15 with fail
     go_cut [12, 13] (fun s12 s13 wx => ∃ z, s12 = .pointer (some ⟨z, 0, none⟩) ∧ s13 = .bool true ∧ Hid (Bx wx z (oC nd (yap q p)) 152) ∧ Hid (Below wr.heap.size wr wx) ∧ wr.heap.size ≤ z)
     case first =>
      refine ybe (fun w' => w'.cell? ⟨q5, k * 4, none⟩ = some (.int .u64 (q.f : Nat)) ∧ w'.cell? ⟨q5, k * 4 + 1, none⟩ = some (.int .u64 (q.t : Nat)) ∧ w'.cell? ⟨q5, k * 4 + 2, none⟩ = some (.int .i64 nd) ∧ w'.cell? ⟨q5, k * 4 + 3, none⟩ = some (.int .i64 q.e) ∧ w'.cell? ⟨q5, 0, none⟩ = some (.int .u64 (p.f : Nat)) ∧ w'.cell? ⟨q5, 1, none⟩ = some (.int .u64 (p.t : Nat)) ∧ w'.cell? ⟨q5, 2, none⟩ = some (.int .i64 nd) ∧ w'.cell? ⟨q5, 3, none⟩ = some (.int .i64 p.e)) 14 (by kernel_rfl) ?_ (fun hHeld => ?_)
      ·(try dsimp only); exact HSS.out _ ((Below.refl _ _).drew)
      refine wtP 0 ?_
      try simp only [Act.put, wsA, wsB, wsC]
      refine wtP 1 ?_
      try simp only [Act.put, wsA, wsB, wsC]
      refine wtP 2 ?_
      try simp only [Act.put, wsA, wsB, wsC]
      refine wtP 3 ?_
      try simp only [Act.put, wsA, wsB, wsC]
      refine wtP 5 ?_
      try simp only [Act.put, wsA, wsB, wsC]
      refine wtP 6 ?_
      try simp only [Act.put, wsA, wsB, wsC]
      refine wtP 8 ?_
      try simp only [Act.put, wsA, wsB, wsC]
      refine wtT 4 ?_
      try simp only [Act.put, wsA, wsB, wsC]
      refine wtT 7 ?_
      try simp only [Act.put, wsA, wsB, wsC]
      refine yd7 (rs := [9, 13]) (by kernel_rfl) (by simp) ?_
      refine (ya6.cons (o := ⟨_, _, _, _, _, _⟩) rfl (fun K hK => ?_) (ya6.cons (o := ⟨_, _, _, _, _, _⟩) rfl (fun K hK => ?_) ya6.nil))
      ·go_simp
       (first | (go_at_call 175; (with_reducible refine (CX.out _).mono ?_); rintro e w3 ⟨rfl, hb3⟩))
       have HB3 : Hid (Below wr.heap.size wr w3) := (by exact ((Below.refl wr.heap.size wr).drew).trans hb3)
       clear hb3
       go_wp2_with fail
       refine hK.out _ _ (by (try dsimp only); (first | exact HSS.out _ HB3.out | exact HSS.out _ (HB3.out.alloc HB3.out.size _) | exact HSS.out _ (((Below.refl _ _).drew).alloc (by simp) _) | exact HSS.out _ ((Below.refl _ _).drew))) (fun hHeld => ?_)
       clear hK K
       try simp only [Act.put, wsA, wsB, wsC]
       refine wtP 10 ?_
       try simp only [Act.put, wsA, wsB, wsC]
       refine wtP 11 ?_
       try simp only [Act.put, wsA, wsB, wsC]
       refine wtP 12 ?_
       try simp only [Act.put, wsA, wsB, wsC]
       refine wtC 13 fun K hK => ?_
       go_simp
       refine hK.out _ _ (by (try dsimp only); (first | exact HSS.out _ HB3.out | exact HSS.out _ (HB3.out.alloc HB3.out.size _) | exact HSS.out _ (((Below.refl _ _).drew).alloc (by simp) _) | exact HSS.out _ ((Below.refl _ _).drew))) (fun hHeld => ?_)
       clear hK K
       try simp only [Act.put, wsA, wsB, wsC]
       refine wtD 14 fun K hK => ?_
       go_simp
       refine hK.out _ _ ?_
       clear hK K
       try simp only [Act.put, wsA, wsB, wsC]
       refine wtD 15 fun K hK => ?_
       go_simp
       refine hK.out _ _ ?_
       clear hK K
       try simp only [Act.put, wsA, wsB, wsC]
       refine ya8 (by kernel_rfl) ?_ _
       go_wp2_with fail
       go_meet
       exact ⟨w3.heap.size, rfl, rfl, Bx.new w3 (oC nd (yap q p)) 152, HB3.out.alloc HB3.out.size _, HB3.out.size⟩
      ·go_simp
       refine hK.out _ _ (by (try dsimp only); (first | exact HSS.out _ HB3.out | exact HSS.out _ (HB3.out.alloc HB3.out.size _) | exact HSS.out _ (((Below.refl _ _).drew).alloc (by simp) _) | exact HSS.out _ ((Below.refl _ _).drew))) (fun hHeld => ?_)
       clear hK K
       try simp only [Act.put, wsA, wsB, wsC]
       refine wtC 9 fun K hK => ?_
       go_simp
       (first | (go_at_call 175; (with_reducible refine (CX.out _).mono ?_); rintro e w3 ⟨rfl, hb3⟩))
       have HB3 : Hid (Below wr.heap.size wr w3) := (by exact (((Below.refl wr.heap.size wr).drew).alloc (by simp) _).trans (hb3.mono (by simp)))
       have HZB : Hid (Bx w3 wr.heap.size o0 152) := (Bx.new wr.drew o0 152).below hb3
       obtain ⟨z0, z1, z2, z3, _⟩ := HZB.out.four
       have y0 := HZB.out.free 0
       have y1 := HZB.out.free 1
       have y2 := HZB.out.free 2
       have y3 := HZB.out.free 3
       clear hb3
       go_wp2_with fail
       refine hK.out _ _ (by (try dsimp only); (first | exact HSS.out _ HB3.out | exact HSS.out _ (HB3.out.alloc HB3.out.size _) | exact HSS.out _ (((Below.refl _ _).drew).alloc (by simp) _) | exact HSS.out _ ((Below.refl _ _).drew))) (fun hHeld => ?_)
       clear hK K
       try simp only [Act.put, wsA, wsB, wsC]
       refine wtP 10 ?_
       try simp only [Act.put, wsA, wsB, wsC]
       refine wtP 11 ?_
       try simp only [Act.put, wsA, wsB, wsC]
       refine wtP 12 ?_
       try simp only [Act.put, wsA, wsB, wsC]
       refine wtD 14 fun K hK => ?_
       go_simp
       refine hK.out _ _ ?_
       clear hK K
       try simp only [Act.put, wsA, wsB, wsC]
       refine wtD 15 fun K hK => ?_
       go_simp
       refine hK.out _ _ ?_
       clear hK K
       try simp only [Act.put, wsA, wsB, wsC]
       refine ya8 (by kernel_rfl) ?_ _
       go_wp2_with fail
       go_meet
       exact ⟨wr.heap.size, rfl, rfl, HZB.out.put4 (.int .u64 (q.f : Nat)) (.int .u64 (p.t : Nat)) (.int .i64 nd) (.int .i64 (max q.e p.e)), yan (yan (yan (yan HB3.out (Nat.le_refl _) _ _) (Nat.le_refl _) _ _) (Nat.le_refl _) _ _) (Nat.le_refl _) _ _, Nat.le_refl _⟩
     case rest =>
      obtain ⟨z9, rfl, rfl, HB9, HBW, hz9⟩ := hcut
      obtain ⟨w4, hw4⟩ : ∃ w4 : World, w4 = wc := ⟨_, rfl⟩
      rw [← hw4] at HB9 HBW ⊢
      clear hw4
      have HC4 : Hid (Below w1.heap.size w1 w4) := acc HB.out HBW.out
      have HR4 := Lib.hid (yb7 HRM.out HBW.out)
      have hcn := HCM.out
      have HW4 := Lib.hid (HBW.out.size)
      obtain ⟨b0, b1, b2, b3, _⟩ := HB9.out.four
      obtain ⟨p0, p1, p2, p3, _⟩ := HSS.out _ HBW.out
      have f0 := HR4.out.frozenAt (k * 4)
      have f1 := HR4.out.frozenAt (k * 4 + 1)
      have f2 := HR4.out.frozenAt (k * 4 + 2)
      have f3 := HR4.out.frozenAt (k * 4 + 3)
      simp only [yap] at b0 b1 b2 b3
      go_upto_region 18 with fail
      have hpk : k < (p :: (A ++ [q])).length := by have := HKK.out; simp; omega
      have hz : ycr ((((w4.setCell ⟨q5, k * 4, none⟩ (.int .u64 (q.f : Nat))).setCell ⟨q5, k * 4 + 1, none⟩ (.int .u64 (p.t : Nat))).setCell ⟨q5, k * 4 + 2, none⟩ (.int .i64 nd)).setCell ⟨q5, k * 4 + 3, none⟩ (.int .i64 (max q.e p.e))) w1.heap.size (.slice (some ⟨q5, 0, none⟩) m c5) m nd (p :: (A ++ [yap q p])) := by
       have z := yj8 (oC nd (yap q p)).toList w4 (k * 4) _ HR4.out (by rw [ydh (ycf nd)]; have h4 : (k + 1) * 4 ≤ (p :: (A ++ [q])).length * 4 := Nat.mul_le_mul_right 4 hpk; rw [Nat.add_mul] at h4; exact h4)
       rw [ymw (ycf nd) _ _ _ hpk] at z
       have e : (p :: (A ++ [q])).set k (yap q p) = p :: (A ++ [yap q p]) := by rw [← HKK.out]; simp
       rw [e] at z
       exact z
      have HB5 : Hid (Below w1.heap.size w1 ((((w4.setCell ⟨q5, k * 4, none⟩ (.int .u64 (q.f : Nat))).setCell ⟨q5, k * 4 + 1, none⟩ (.int .u64 (p.t : Nat))).setCell ⟨q5, k * 4 + 2, none⟩ (.int .i64 nd)).setCell ⟨q5, k * 4 + 3, none⟩ (.int .i64 (max q.e p.e)))) := yan (yan (yan (yan HC4.out HQ5.out _ _) HQ5.out _ _) HQ5.out _ _) HQ5.out _ _
      have HZ := Lib.hid hz
      clear hz hpk p0 p1 p2 p3 b0 b1 b2 b3 f0 f1 f2 f3
      obtain ⟨w5, hw5⟩ : ∃ w5, ((((w4.setCell ⟨q5, k * 4, none⟩ (.int .u64 (q.f : Nat))).setCell ⟨q5, k * 4 + 1, none⟩ (.int .u64 (p.t : Nat))).setCell ⟨q5, k * 4 + 2, none⟩ (.int .i64 nd)).setCell ⟨q5, k * 4 + 3, none⟩ (.int .i64 (max q.e p.e))) = w5 := ⟨_, rfl⟩
      rw [hw5] at HZ HB5 ⊢
      clear hw5
      have hc0 : ¬ c5 - 1 = 0 := by have := HMK.out; have := HKK.out; omega
      have hm1 : 1 ≤ m := by omega
      go_upto_region 19 with fail
      have hmk : m - 1 = k := by have := HMK.out; omega
      have hR : ya9 w5 (.slice (some ⟨q5, 4, none⟩) (m - 1) (c5 - 1)) (m - 1) nd (A ++ [yap q p]) := by
       have z := (yd8 HZ.out).drop (k := 1) hm1
       rw [yl1 (ycf nd)] at z
       exact z
      have HNQ : Hid (∀ x, (Value.slice (some ⟨q5, 4, none⟩) k (c5 - 1)).ownBlock = some x → w1.heap.size ≤ x) := fun x hx => by
       injection hx with hx
       rw [← hx]
       exact HQ5.out
      rw [hmk] at hR ⊢
      have HRB := Lib.hid hR
      have lq5 : q5 < w5.heap.size := (HZ.out.lt q5 rfl).2
      have HJ2 : Hid (ya2 jb D = ydi (A ++ [yap q p])) := HJ.out.trans (by rw [yj1, if_pos HOK.out])
      clear hR hmk hc0 hm1 kl kw k0 k00 k1 k2
      cases A with
      | nil =>
       obtain rfl : k = 1 := HKK.out.symm
       have HJ3 : Hid (ya2 jb D = ydi [yap q p]) := HJ2.out
       obtain ⟨c0, c1, _, _⟩ := ydj HRB.out (k := 0) (x := yap q p) rfl
       simp only [Nat.zero_mul, Nat.add_zero, yap, Nat.reduceAdd] at c0 c1
       clear lq
       have lq := lq5
       have CW := Lib.hid fun W => yg9 q.f p.t W
       obtain ⟨bw, hbw⟩ : ∃ bw, (q.f == p.t) = bw := ⟨_, rfl⟩
       rw [hbw] at CW
       have HBW2 := Lib.hid hbw
       clear hbw
       cases bw
       ·go_wp2_with (go_at_call 108; (with_reducible refine (CW.out _).mono ?_); rintro e w7 ⟨rfl, hb7⟩; have HB7 := Lib.hid hb7; clear hb7)
        go_ret
        have hne : ¬ (yap q p).f = (yap q p).t := (by simpa using HBW2.out : ¬ q.f = p.t)
        exact yex HP.out HS.out HT1.out (acc HB5.out HB7.out) (HRB.out.below HB7.out) (HJ3.out.trans ((ygk _).trans (if_neg hne))) HNQ.out
       ·have f0 := ygp HRB.out 4
        have f1 := ygp HRB.out (5)
        go_wp2_with (go_at_call 108; (with_reducible refine (CW.out _).mono ?_); rintro e w7 ⟨rfl, hb7⟩; have HB7 := Lib.hid hb7; have y0 := (hb7.cell (p := ⟨q5, 4, none⟩) lq).trans c0; have y1 := (hb7.cell (p := ⟨q5, 5, none⟩) lq).trans c1; have g0 := (hb7.frozen (p := ⟨q5, 4, none⟩) lq).trans f0; have g1 := (hb7.frozen (p := ⟨q5, 5, none⟩) lq).trans f1; clear hb7)
        go_ret
        have hne : (yap q p).f = (yap q p).t := (by simpa using HBW2.out : q.f = p.t)
        refine yex (m := 1) HP.out HS.out HT1.out (yan (yan (acc HB5.out HB7.out) HQ5.out _ _) HQ5.out _ _) ?_ (HJ3.out.trans ((ygk _).trans (if_pos hne))) HNQ.out
        exact ((HRB.out.below HB7.out).set 0 (.int .u64 0)).set 1 (.int .u64 0)
      | cons a A' =>
       have d3 : ((k : Int) == 1) = false := by have := HKK.out; simp at this; simp; omega
       go_wp2_with fail
       go_ret
       exact yex HP.out HS.out HT1.out HB5.out HRB.out (HJ2.out.trans (by cases A' <;> rfl)) HNQ.out
theorem ym5 (l : List AO) (nd : Int) (A : Option Addr) (c n : Nat) (W : World) (hr : ya9 W (.slice A n c) n nd l) (hl : n ≤ 100000) (hlt : ∀ p ∈ l, p.lt) : Calls Tryz.prog 117 #[.slice A n c, .func (.func 118) #[] #[]] W (ygu false W A n c nd l) :=
 ym4 false 118 l nd A c n W hr hl hlt (fun nd p q W hp hq => ytk nd p q W hp hq)
theorem yto (l : List AO) (nd : Int) (A : Option Addr) (c n : Nat) (W : World) (hr : ya9 W (.slice A n c) n nd l) (hl : n ≤ 100000) (hlt : ∀ p ∈ l, p.lt) : Calls Tryz.prog 117 #[.slice A n c, .func (.func 124) #[] #[]] W (ygu true W A n c nd l) :=
 ym4 true 124 l nd A c n W hr hl hlt (fun nd p q W hp hq => ytl nd p q W hp hq)
end Go.Proofs.YtnjodhglbapnlaaGreat
