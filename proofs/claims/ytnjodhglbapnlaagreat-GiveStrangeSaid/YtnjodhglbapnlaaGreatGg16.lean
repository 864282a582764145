import Derived.Test.YtnjodhglbapnlaaGreatGg15
import Derived.Test.YtnjodhglbapnlaaGreatGg02
set_option maxRecDepth 100000
set_option maxHeartbeats 16000000
namespace Go.Proofs.YtnjodhglbapnlaaGreat
open Go.RowKit
theorem yvx {a b : World} (h : Below a.heap.size a b) (row : Option Nat) : a.grownBy b row := ⟨h.os, h.tape, h.output, h.size, fun k hk _ => h.block k hk⟩
theorem NdX.apart {W : World} {g b o : Nat} {its : List Item} {ps : List Nat} {v u x : Value} (h : NdX W g its ps v u) (hb : b ∉ g :: blocks v u) : NdX (W.setCell ⟨b, o, none⟩ x) g its ps v u :=
 h.touch ((Touch.refl [b] _).set (.inl (by simp)) _) (by simp only [List.mem_singleton]; exact fun e => hb (by rw [e]; simp)) (fun y hy e => hb (by rw [List.mem_singleton] at e; rw [← e]; exact List.mem_cons_of_mem _ hy))
theorem yvy {W Wc w1 w2 w3 w4 w5 : World} {m : NMap} {F : List Nat} {g q c mid n k n1 q2 d n2 n3 k2 : Nat} {its : List Item} {ps : List Nat} {vc uc : Value} {r : Value} {T : TypeId}
  (hS : Sto W m F) (hT : ye1 W m F g (.slice (some ⟨q, 0, none⟩) n c) (.slice (some ⟨q2, 0, none⟩) n2 d)) (hN : NdX W g its ps (.slice (some ⟨q, 0, none⟩) n c) (.slice (some ⟨q2, 0, none⟩) n2 d))
  (hc : Touch [] W Wc) (ho : w1.ownsRow Wc.heap.size 96 2 vc k (yaa (its.drop (mid + 1)))) (hk : (its.drop (mid + 1)).length = k) (hb : Below Wc.heap.size Wc w1)
  (h2 : Set0 (w1.alloc (.cells #[vc, .slice none 0 0] T)).drew w2 g (its.take mid ++ its.drop n) ps (.slice (some ⟨q, 0, none⟩) n c) (.slice (some ⟨q2, 0, none⟩) n2 d) (.slice (some ⟨q, 0, none⟩) n1 c)) (hn : its.length = n)
  (ho3 : w3.ownsRow (w2.setCell ⟨g, 0, none⟩ (.slice (some ⟨q, 0, none⟩) n1 c)).heap.size 209 1 uc k2 (yaq (ps.drop (mid + 1)))) (hk2 : (ps.drop (mid + 1)).length = k2)
  (hb3 : Below (w2.setCell ⟨g, 0, none⟩ (.slice (some ⟨q, 0, none⟩) n1 c)).heap.size (w2.setCell ⟨g, 0, none⟩ (.slice (some ⟨q, 0, none⟩) n1 c)) w3)
  (h4 : Set1 (w3.setCell ⟨w1.heap.size, 1, none⟩ uc).drew w4 g (its.take mid ++ its.drop n) (ps.take (mid + 1) ++ ps.drop n2) (.slice (some ⟨q, 0, none⟩) n1 c) (.slice (some ⟨q2, 0, none⟩) n2 d) (.slice (some ⟨q2, 0, none⟩) n3 d)) (hn2 : ps.length = n2)
  {z : Nat} (hz : W.heap.size ≤ z) (hz2 : z < Wc.heap.size) (h5 : Touch [z] (w4.setCell ⟨g, 1, none⟩ (.slice (some ⟨q2, 0, none⟩) n3 d)) w5) :
  W.heap.size ≤ w1.heap.size ∧ ybt W F (upd (upd m g ⟨its.take mid, ps.take (mid + 1)⟩) w1.heap.size ⟨its.drop (mid + 1), ps.drop (mid + 1)⟩) r (.returned r) w5 := by
 have e : its.take mid ++ its.drop n = its.take mid := by rw [List.drop_of_length_le (by omega), List.append_nil]
 have e' : ps.take (mid + 1) ++ ps.drop n2 = ps.take (mid + 1) := by rw [List.drop_of_length_le (by omega), List.append_nil]
 rw [e] at h2
 rw [e, e'] at h4
 have hg := hN.lt
 have hbl : ∀ x, x ∈ blocks (.slice (some ⟨q, 0, none⟩) n c) (.slice (some ⟨q2, 0, none⟩) n2 d) → x < W.heap.size := fun x hx => (hN.ltb x hx).1
 have t1 : Touch [] W w1 := hc.trans (Touch.ofBelow (F := []) hb) (by simp)
 have t2 : Touch [] W (w1.alloc (.cells #[vc, .slice none 0 0] T)).drew := (t1.alloc _).drew
 have hgb : ∀ x, x ∈ g :: blocks (.slice (some ⟨q, 0, none⟩) n c) (.slice (some ⟨q2, 0, none⟩) n2 d) → x < W.heap.size := fun x hx => by
  rcases List.mem_cons.1 hx with e | e
  ·omega
  ·exact hbl x e
 have hvc : ∀ x, x ∈ blocks vc (.slice none 0 0) → Wc.heap.size ≤ x ∧ x < w1.heap.size := fun x hx => by
  rcases ybb.1 hx with e | e
  ·exact ho.lt x e
  ·cases e
 have s1 : W.heap.size ≤ Wc.heap.size := hc.size
 have s2 : Wc.heap.size ≤ w1.heap.size := hb.size
 have s3 : w1.heap.size < (w2.setCell ⟨g, 0, none⟩ (.slice (some ⟨q, 0, none⟩) n1 c)).heap.size := Nat.lt_of_lt_of_le (by show w1.heap.size < (w1.alloc _).heap.size; simp) h2.t.size
 generalize hV : w2.setCell ⟨g, 0, none⟩ (.slice (some ⟨q, 0, none⟩) n1 c) = V at *
 have f1 : NdX (w1.alloc (.cells #[vc, .slice none 0 0] T)).drew w1.heap.size (its.drop (mid + 1)) [] vc (.slice none 0 0) :=
  (NdX.fresh T ho hk rfl (World.ownsRow_nil _ 0 _ _) rfl rfl (fun q _ e => by cases e)).drew
 have h2t : Touch (g :: blocks (.slice (some ⟨q, 0, none⟩) n c) (.slice (some ⟨q2, 0, none⟩) n2 d)) (w1.alloc (.cells #[vc, .slice none 0 0] T)).drew V := by rw [← hV]; exact h2.t
 have g2 : NdX V g (its.take mid) ps (.slice (some ⟨q, 0, none⟩) n1 c) (.slice (some ⟨q2, 0, none⟩) n2 d) := by rw [← hV]; exact h2.nd
 have f2 := f1.touch h2t (fun e => by have := hgb _ e; omega) (fun x hx e => by have := hgb _ e; have := (hvc x hx).1; omega)
 obtain ⟨f3, t3, b3⟩ := f2.set1 (ps' := ps.drop (mid + 1)) (yvx hb3 _) (by rw [hk2]; exact ybp ho3 (Nat.zero_le _)) (fun x hx => .inr (ho3.lt x hx).1)
 have hbc : ∀ x, x ∈ w1.heap.size :: blocks vc (.slice none 0 0) → Wc.heap.size ≤ x := fun x hx => by
  rcases List.mem_cons.1 hx with e | e
  ·omega
  ·exact (hvc x e).1
 have hb4 : ∀ x, x ∈ g :: blocks (.slice (some ⟨q, 0, none⟩) n1 c) (.slice (some ⟨q2, 0, none⟩) n2 d) → x < W.heap.size := fun x hx => hgb x hx
 have hvu : ∀ x, x ∈ blocks vc uc → Wc.heap.size ≤ x := fun x hx => by
  rcases b3 x hx with e | e
  ·exact (hvc x e).1
  ·omega
 have f4 := f3.drew.touch h4.t (fun e => by have := hb4 _ e; omega) (fun x hx e => by have := hb4 _ e; have := hvu x hx; omega)
 have hvz : ∀ x, x ∈ blocks vc uc → x ≠ z := fun x hx => by
  have := hvu x hx
  omega
 have f5 := f4.touch h5 (by simp; omega) (fun x hx => by simpa using hvz x hx)
 have g5 := h4.nd.touch h5 (by simp; omega) (fun x hx => by
  have e3 : x < W.heap.size := hbl x hx
  simp; omega)
 have tf : Touch (g :: blocks (.slice (some ⟨q, 0, none⟩) n c) (.slice (some ⟨q2, 0, none⟩) n2 d)) W w5 :=
  ((((t2.mono (by simp)).trans h2t (fun x hx => .inl hx)).trans t3.drew (fun x hx => .inr (Nat.le_trans s1 (hbc x hx)))).trans h4.t (fun x hx => .inl hx)).trans h5 (fun x hx => .inr (by simp at hx; omega))
 obtain ⟨a, b⟩ := ye1.two hS hT g5 f5 tf (fun x hx => ⟨hbl x hx, hx⟩) (by omega) (fun x hx => by have := hvu x hx; omega)
 exact ⟨by omega, rfl, _, a, b⟩
theorem yvz (g : Nat) {its : List Item} {ps : List Nat} {m : NMap} {F : List Nat} (W : World) (h : Sto W m F) (hm : m g = some ⟨its, ps⟩) (mid : Nat) (hmid : its.length / 2 = mid) (hlo : mid + 1 < its.length) (hn : its.length ≤ 1000) (hp : mid + 1 < ps.length) (hpn : ps.length ≤ 1000) (x : Item) (hx : its[mid]? = some x) :
  Calls Tryz.prog 202 #[ptr g] W fun e w => ∃ b, W.heap.size ≤ b ∧ ybt W F (upd (upd m g ⟨its.take mid, ps.take (mid + 1)⟩) b ⟨its.drop (mid + 1), ps.drop (mid + 1)⟩) (.tuple #[.agg #[.string x.1, .string x.2], ptr b]) e w := by
 obtain ⟨v0, u0, hN, hF, hfin⟩ := h.at hm
 have hN : NdX W g its ps v0 u0 := hN
 obtain ⟨q, c, rfl, hq1, hq2⟩ := ybs hN.r0 (by omega)
 obtain ⟨q2, d, rfl, hq3, hq4⟩ := ybs hN.r1 (by omega)
 have hmn : mid < its.length := by omega
 have CD : Hid (∀ V, NdX V g its ps (.slice (some ⟨q, 0, none⟩) its.length c) (.slice (some ⟨q2, 0, none⟩) ps.length d) → Calls Tryz.prog 221 #[.slice (some ⟨q, 0, none⟩) its.length c, .int .i64 (mid : Nat), .int .i64 (its.length : Nat)] V fun e w1 => ∃ n, e = .returned (.slice (some ⟨q, 0, none⟩) n c) ∧ Set0 V w1 g (its.take mid ++ its.drop its.length) ps (.slice (some ⟨q, 0, none⟩) its.length c) (.slice (some ⟨q2, 0, none⟩) ps.length d) (.slice (some ⟨q, 0, none⟩) n c)) :=
  fun V hV => yik g mid its.length q c V hV (by omega) (Nat.le_refl _) hn
 have CN : Hid (∀ V v1 its1, NdX V g its1 ps v1 (.slice (some ⟨q2, 0, none⟩) ps.length d) → Calls Tryz.prog 223 #[.slice (some ⟨q2, 0, none⟩) ps.length d, .int .i64 ((mid : Int) + 1), .int .i64 (ps.length : Nat)] V fun e w1 => ∃ n, e = .returned (.slice (some ⟨q2, 0, none⟩) n d) ∧ Set1 V w1 g its1 (ps.take (mid + 1) ++ ps.drop ps.length) v1 (.slice (some ⟨q2, 0, none⟩) ps.length d) (.slice (some ⟨q2, 0, none⟩) n d)) :=
  fun V v1 its1 hV => ynw g (mid + 1) ps.length q2 d V hV (by omega) (Nat.le_refl _) hpn
 have CC : Hid (∀ Wc, Touch [] W Wc → Calls Tryz.prog 199 #[.slice (some ⟨q, (mid + 1) * 2, none⟩) (its.length - (mid + 1)) (c - (mid + 1))] Wc fun e w1 => ∃ A' c', e = .returned (.slice A' (its.length - (mid + 1)) c') ∧ w1.ownsRow Wc.heap.size 96 2 (.slice A' (its.length - (mid + 1)) c') (its.length - (mid + 1)) (yaa (its.drop (mid + 1))) ∧ Below Wc.heap.size Wc w1) := by
  intro Wc ht
  have hr : Row Wc (.slice (some ⟨q, 0, none⟩) its.length c) its := (hN.new ht).r0
  refine (yij q ((mid + 1) * 2) (its.length - (mid + 1)) (c - (mid + 1)) (yaa (its.drop (mid + 1))) Wc (by rw [yb8, List.length_drop]) (by omega) (hr.cellsDrop (mid + 1)) (ybc _)).mono ?_
  rintro e w1 ⟨v', rfl, ho, hb⟩
  obtain ⟨A', c', rfl⟩ := yav ho
  exact ⟨A', c', rfl, ho, hb⟩
 have CE : Hid (∀ V v1 its1, NdX V g its1 ps v1 (.slice (some ⟨q2, 0, none⟩) ps.length d) → Calls Tryz.prog 222 #[.slice (some ⟨q2, mid + 1, none⟩) (ps.length - (mid + 1)) (d - (mid + 1))] V fun e w1 => ∃ A' c', e = .returned (.slice A' (ps.length - (mid + 1)) c') ∧ w1.ownsRow V.heap.size 209 1 (.slice A' (ps.length - (mid + 1)) c') (ps.length - (mid + 1)) (yaq (ps.drop (mid + 1))) ∧ Below V.heap.size V w1) := by
  intro V v1 its1 hV
  refine (yvk q2 (mid + 1) (ps.length - (mid + 1)) (d - (mid + 1)) (yaq (ps.drop (mid + 1))) V (by rw [ynr, List.length_drop, Nat.mul_one]) (by omega) (fun j y hj => ?_) (ygw _)).mono ?_
  ·have hlt : j < (yaq (ps.drop (mid + 1))).length := (List.getElem?_eq_some_iff.1 hj).1
   rw [ynr, List.length_drop] at hlt
   rw [Go.WideShapes.add_plain, hV.r1.cellAt (mid + 1 + j) (by omega), ← hj, yaq, yaq, List.getElem?_map, List.getElem?_map, List.getElem?_drop]
  ·rintro e w1 ⟨v', rfl, ho, hb⟩
   obtain ⟨A', c', rfl⟩ := yav ho
   exact ⟨A', c', rfl, ho, hb⟩
 have hg := hN.lt
 have hq : q < W.heap.size := (hN.r0.lt q rfl).2
 have c0 := hN.c0
 have c1 := hN.c1
 have hk := (hN.r0.cellAt (mid * 2) (by omega)).trans (ycc its mid hmn)
 have hv := (hN.r0.cellAt (mid * 2 + 1) (by omega)).trans (yci its mid hmn)
 have hx' : its[mid] = x := by rw [List.getElem?_eq_getElem hmn] at hx; exact Option.some.inj hx
 rw [hx'] at hk hv
 obtain ⟨xk, xv⟩ := x
 have HF := Lib.hid hfin
 have HN := Lib.hid hN
 have HS := Lib.hid h
 obtain ⟨n, hl⟩ : ∃ n, its.length = n := ⟨_, rfl⟩
 obtain ⟨n', hl'⟩ : ∃ n', ps.length = n' := ⟨_, rfl⟩
 have HL := Lib.hid hl
 have HL' := Lib.hid hl'
 have HB : Hid (∀ x, W.heap.size ≤ x → x ∉ g :: blocks (.slice (some ⟨q, 0, none⟩) n c) (.slice (some ⟨q2, 0, none⟩) n' d)) := fun x hle hx => by
  rcases List.mem_cons.1 hx with e | e
  ·omega
  ·have := (hN.ltb x e).1; omega
 rw [hl] at CD CC HN HF c0 hmid hlo hmn hq1 hn
 rw [hl'] at CD CN CE HN HF c1 hp hpn hq3
 have hmi : (n : Int) / 2 = (mid : Int) := by omega
 have b1 : (mid : Int) < 1000 := by omega
 have b2 : (mid : Int) < (n : Int) := by omega
 have b3 : (mid : Int) + 1 ≤ (n : Int) := by omega
 have b4 : ¬ c = mid + 1 := by omega
 have b5 : IntKind.i64.wrap ((mid : Int) + 1) = (mid : Int) + 1 := by rw [IntKind.wrap_i64]; omega
 have b6 : (0 : Int) ≤ (mid : Int) + 1 := by omega
 have b7 : ((mid : Int) + 1).toNat = mid + 1 := by omega
 have b8 : (0 : Int) < (n' : Int) := by omega
 have b9 : (mid : Int) + 1 ≤ (n' : Int) := by omega
 have b10 : ¬ d = mid + 1 := by omega
 clear hN hfin hF h hm hmid hn hq1 hq2 hq3 hq4 hp hpn hl hl' hx hx' hlo
 unfold ptr at *
 go_enter Tryz.func202, Tryz.ntmps202
 go_wp2_with (go_at_call 199; ((with_reducible refine (CC.out _ (((Touch.refl _ _).alloc _).alloc _)).mono ?_); rintro e w1 ⟨A', c', rfl, ho, hb1⟩; have HO := Lib.hid ho; have HB1 := Lib.hid hb1; have HT1 : Hid (Touch [] W w1) := (((Touch.refl _ _).alloc _).alloc _).trans (Touch.ofBelow (F := []) hb1) (by simp); have hz1 : W.heap.size + 1 < w1.heap.size := Nat.lt_of_lt_of_le (by simp) hb1.size; have r0 := ((Box2.fresh W (.string ⟨#[]⟩) (.string ⟨#[]⟩) 96).touch ((Touch.refl [] _).alloc (.cells #[.string xk, .string xv] 96)) (by simp)).touch (Touch.ofBelow (F := []) hb1) (by simp); have r1 : Box2 w1 (W.heap.size + 1) _ _ := (Box2.freshAt (W.alloc (.cells #[.string ⟨#[]⟩, .string ⟨#[]⟩] 96)) (.string xk) (.string xv) 96 (by simp)).touch (Touch.ofBelow (F := []) hb1) (by simp); have rg := (HN.out.new (((Touch.refl _ _).alloc _).alloc _)).box.touch (Touch.ofBelow (F := []) hb1) (by simp); have HR0 := Lib.hid r0; have HR1 := Lib.hid r1; obtain ⟨g1, g2, g3, g4, g5⟩ := rg; clear ho hb1 r0 r1))
 go_region_with (go_at_call 221; ((with_reducible refine (CD.out _ (HN.out.new ((HT1.out.alloc _).drew))).mono ?_); rintro e w2 ⟨n1, rfl, hS2⟩; have sc := hS2.c; have sf := hS2.f; obtain ⟨sc1, sf1⟩ := hS2.other; have HX := Lib.hid ((HR0.out.touch ((Touch.refl [] _).alloc _).drew (by simp)).touch hS2.t (HB.out _ (Nat.le_refl _))); have HY := Lib.hid ((HR1.out.touch ((Touch.refl [] _).alloc _).drew (by simp)).touch hS2.t (HB.out _ (by omega))); have HZ := Lib.hid (((Box2.fresh w1 _ _ _).touch (Touch.refl [] _).drew (by simp)).touch hS2.t (HB.out _ (by omega))); have HS2 := Lib.hid hS2; clear hS2))
 all_goals
  go_wp2_with (go_at_call 222; ((with_reducible refine (CE.out _ _ _ HS2.out.nd).mono ?_); rintro e w3 ⟨A3, c3, rfl, ho3, hb3⟩; have tb3 := Touch.ofBelow (F := []) hb3; obtain ⟨k1, k2, k3, k4, k5⟩ := HZ.out.touch tb3 (by simp); obtain ⟨m1, m2, m3, m4, m5⟩ := HS2.out.nd.box.touch tb3 (by simp); have HX3 := Lib.hid (HX.out.touch tb3 (by simp)); have HY3 := Lib.hid (HY.out.touch tb3 (by simp)); have HN3 := Lib.hid (HS2.out.nd.new tb3); have HO3 := Lib.hid ho3; have HB3 := Lib.hid hb3; clear ho3 hb3 tb3))
  go_region_with (go_at_call 223; ((with_reducible refine (CN.out _ _ _ ((HN3.out.apart (HB.out _ (by omega))).drew)).mono ?_); rintro e w4 ⟨n4, rfl, hS4⟩; have sc4 := hS4.c; have sf4 := hS4.f; obtain ⟨x1, x2, x3, x4, x5⟩ := hS4.box ((HX3.out.touch ((Touch.refl [w1.heap.size] _).set (.inl (by simp)) _) (by simp; omega)).touch (Touch.refl [] _).drew (by simp)) (HB.out _ (Nat.le_refl _)); obtain ⟨y1, y2, y3, y4, y5⟩ := hS4.box ((HY3.out.touch ((Touch.refl [w1.heap.size] _).set (.inl (by simp)) _) (by simp; omega)).touch (Touch.refl [] _).drew (by simp)) (HB.out _ (by omega)); have HS4 := Lib.hid hS4; clear hS4))
  all_goals
   go_wp2
   exact bodyPost_ret (v := .tuple #[.agg #[.string xk, .string xv], .pointer (some ⟨w1.heap.size, 0, none⟩)]) (by simp [results, Tryz.results202, go_sem, x2, x3]) rfl
    ⟨w1.heap.size, yvy HS.out HF.out HN.out (((Touch.refl _ _).alloc _).alloc _) HO.out (by rw [List.length_drop, HL.out]) HB1.out HS2.out HL.out HO3.out (by rw [List.length_drop, HL'.out]) HB3.out HS4.out HL'.out (Nat.le_refl _) (by simp; omega) (((Touch.refl _ _).set (.inl (by simp)) _).set (.inl (by simp)) _)⟩
theorem NdX.eq {W : World} {g : Nat} {its its' : List Item} {ps ps' : List Nat} {v u v' u' : Value} (h : NdX W g its ps v u) (k : NdX W g its' ps' v' u') : v = v' ∧ u = u' :=
 ⟨Option.some.inj (h.c0.symm.trans k.c0), Option.some.inj (h.c1.symm.trans k.c1)⟩
theorem Sto.apart {W : World} {m : NMap} {F : List Nat} (h : Sto W m F) {g g' : Nat} {nd nd' : Nd} (hm : m g = some nd) (hm' : m g' = some nd') (hne : g ≠ g') {v u v' u' : Value} (hn : NdX W g nd.its nd.ps v u) (hn' : NdX W g' nd'.its nd'.ps v' u') :
  g' ∉ blocks v u ∧ ∀ q, q ∈ blocks v u → q ∉ blocks v' u' := by
 obtain ⟨vs, us, h1, h2, h3⟩ := h
 obtain ⟨rfl, rfl⟩ := hn.eq (h1 g nd hm).1
 obtain ⟨rfl, rfl⟩ := hn'.eq (h1 g' nd' hm').1
 exact h2 g nd g' nd' hm hm' hne
theorem yv0 {a b c : World} {v v' : Value} (h : a.grownBy b v.ownBlock) (hs : yax a v v') (k : b.grownBy c v'.ownBlock) : a.grownBy c v.ownBlock :=
 ⟨k.os.trans h.os, k.tape.trans h.tape, k.output.trans h.output, Nat.le_trans h.size k.size, fun i hi hn => (k.block i (Nat.lt_of_lt_of_le hi h.size) (fun e => by
  rcases hs i e.symm with e2 | e2
  ·exact hn e2.symm
  ·omega)).trans (h.block i hi hn)⟩
theorem yax.trans {a b : World} {v v' v'' : Value} (h : yax a v v') (hs : a.heap.size ≤ b.heap.size) (k : yax b v' v'') : yax a v v'' := fun q hq => by
 rcases k q hq with e | e
 ·exact h q e
 ·exact .inr (Nat.le_trans hs e)
theorem yv1 (ia ib : List Item) (x : Item) : (yaa ia ++ yaa [x]) ++ yaa ib = yaa (ia ++ x :: ib) := by
 rw [← yc0, ← yc0, List.append_assoc]; rfl
theorem yv2 {W V w1 w2 : World} {a : Nat} {ia ib : List Item} {pa : List Nat} {va ua v1 v2 : Value} {x : Item} (hN : NdX W a ia pa va ua) (T : Touch [] W V) (hg1 : V.grownBy w1 va.ownBlock) (hs1 : yax V va v1) (hg2 : w1.grownBy w2 v1.ownBlock) (hs2 : yax w1 v1 v2)
  (ho2 : w2.ownsRow 0 96 2 v2 (ia.length + 1 + ib.length) ((yaa ia ++ yaa [x]) ++ yaa ib)) : Set0 W w2 a (ia ++ x :: ib) pa va ua v2 := by
 rw [yv1] at ho2
 have e : (ia ++ x :: ib).length = ia.length + 1 + ib.length := by rw [List.length_append, List.length_cons]; omega
 exact (Set0.of (hN.new T) (yv0 hg1 hs1 hg2) (by rw [e]; exact ho2) (hs1.trans hg1.size hs2)).from T
def Mid (W wx : World) (a : Nat) (its : List Item) (ps : List Nat) (va ua : Value) : Prop :=
 ∃ A c n, NdX wx a its ps (.slice A n c) ua ∧ Touch (a :: blocks va ua) W wx ∧ ∀ q, q ∈ blocks (.slice A n c) ua → q ∈ blocks va ua ∨ W.heap.size ≤ q
theorem Set0.mid {W w1 : World} {g n c : Nat} {A : Option Addr} {its' : List Item} {ps : List Nat} {v0 u0 : Value} (h : Set0 W w1 g its' ps v0 u0 (.slice A n c)) : Mid W (w1.setCell ⟨g, 0, none⟩ (.slice A n c)) g its' ps v0 u0 := ⟨A, c, n, h.nd, h.t, h.b⟩
theorem Mid.then {W V w2 : World} {g : Nat} {its : List Item} {ps' : List Nat} {v0 u0 v' u' : Value} (h : Touch (g :: blocks v0 u0) W V) (hb : ∀ q, q ∈ blocks v' u0 → q ∈ blocks v0 u0 ∨ W.heap.size ≤ q) (k : Set1 V w2 g its ps' v' u0 u') :
  Touch (g :: blocks v0 u0) W (w2.setCell ⟨g, 1, none⟩ u') ∧ ∀ q, q ∈ blocks v' u' → q ∈ blocks v0 u0 ∨ W.heap.size ≤ q := by
 refine ⟨h.trans k.t (fun x hx => ?_), fun q hq => ?_⟩
 ·rcases List.mem_cons.1 hx with e | e
  ·exact .inl (by rw [e]; simp)
  ·rcases hb x e with e2 | e2
   ·exact .inl (List.mem_cons_of_mem _ e2)
   ·exact .inr e2
 ·rcases k.b q hq with e | e
  ·exact hb q e
  ·exact .inr (Nat.le_trans h.size e)
theorem yv3 (g i a b : Nat) {its ia ib : List Item} {ps pa pb : List Nat} {m : NMap} {F : List Nat} (x : Item) (W : World) (h : Sto W m F) (hg : m g = some ⟨its, ps⟩) (ha : m a = some ⟨ia, pa⟩) (hb : m b = some ⟨ib, pb⟩) (hab : a ≠ b) (hag : a ≠ g)
  (hi : i < its.length) (hp : i + 1 < ps.length) (hpa : ps[i]? = some a) (hpb : ps[i + 1]? = some b) (hx : its[i]? = some x) (l1 : its.length ≤ 300) (l2 : ps.length ≤ 300) (l3 : ia.length ≤ 300) (l4 : pa.length ≤ 300) (l5 : ib.length ≤ 300) (l6 : pb.length ≤ 300) :
  Calls Tryz.prog 224 #[ptr g, .int .i64 (i : Nat)] W (ybt W F (upd (upd m a ⟨ia ++ x :: ib, pa ++ pb⟩) g ⟨yaj its i, yaj ps (i + 1)⟩) (.tuple #[])) := by
 have HSW := Lib.hid h
 have HM : Hid (m g = some ⟨its, ps⟩ ∧ m a = some ⟨ia, pa⟩ ∧ m b = some ⟨ib, pb⟩) := ⟨hg, ha, hb⟩
 obtain ⟨vg, ug, hNg, -, -⟩ := h.at hg
 have hNg : NdX W g its ps vg ug := hNg
 obtain ⟨q2, dg, rfl, hq3, hq4⟩ := ybs hNg.r1 (by omega)
 have g1 := hNg.c1
 have ca : W.cell? ⟨q2, i, none⟩ = some (.pointer (some ⟨a, 0, none⟩)) := by
  rw [hNg.r1.cellAt i (by omega), yaq, List.getElem?_map, hpa]; rfl
 have cb : W.cell? ⟨q2, i + 1, none⟩ = some (.pointer (some ⟨b, 0, none⟩)) := by
  rw [hNg.r1.cellAt (i + 1) (by omega), yaq, List.getElem?_map, hpb]; rfl
 obtain ⟨n2, hl2⟩ : ∃ n, ps.length = n := ⟨_, rfl⟩
 rw [hl2] at g1
 have i2 : (i : Int) < (n2 : Int) := by omega
 have i3 : (i : Int) + 1 < (n2 : Int) := by omega
 have i4 : IntKind.i64.wrap ((i : Int) + 1) = (i : Int) + 1 := by rw [IntKind.wrap_i64]; omega
 have i5 : (0 : Int) ≤ (i : Int) + 1 := by omega
 have i6 : ((i : Int) + 1).toNat = i + 1 := by omega
 clear hNg h hq3 hq4 hg ha hb hl2
 unfold ptr at *
 go_enter Tryz.func224, Tryz.ntmps224
 go_upto_region 0 with fail
 go_cut [4, 5] (fun s4 s5 wx => s4 = .pointer (some ⟨a, 0, none⟩) ∧ s5 = .pointer (some ⟨b, 0, none⟩) ∧ Hid (∃ n, wx = W.drewN n))
 case first =>
  go_wp2
  go_quiet (fail)
  go_wp2
  go_meet
  exact ⟨rfl, rfl, _, rfl⟩
 case rest =>
  obtain ⟨rfl, rfl, HW⟩ := hcut
  obtain ⟨V, rfl⟩ : ∃ V : World, V = wc := ⟨_, rfl⟩
  have HVW : Hid (Touch [] W V ∧ Sto V m F) := by
   obtain ⟨k, rfl⟩ := HW.out
   exact ⟨(Touch.refl _ _).drewN _, HSW.out.drewN _⟩
  clear g1 ca cb i2 i3 i4 i5 i6 HW HSW
  have h := HVW.out.2
  obtain ⟨hg, ha, hb⟩ := HM.out
  obtain ⟨vg, ug, hNg, -, -⟩ := h.at hg
  obtain ⟨va, ua, hNa, -, hT⟩ := h.at ha
  obtain ⟨vb, ub, hNb, -, -⟩ := h.at hb
  have hNg : NdX V g its ps vg ug := hNg
  have hNa : NdX V a ia pa va ua := hNa
  have hNb : NdX V b ib pb vb ub := hNb
  have d1 := h.apart ha hb hab hNa hNb
  have d2 := h.apart ha hg hag hNa hNg
  have d1' : ∀ q, q ∈ blocks vb ub → q ≠ a := fun q hq e => (h.apart hb ha (fun e => hab e.symm) hNb hNa).1 (e ▸ hq)
  obtain ⟨q, cg, rfl, hq1, hq2⟩ := ybs hNg.r0 (by omega)
  have g0 := hNg.c0
  have hga := hNg.lt
  have hq5 : q < V.heap.size := (hNg.r0.lt q rfl).2
  have a0 := hNa.c0
  have b0 := hNb.c0
  have hal := hNa.lt
  have hbl := hNb.lt
  have hx' : its[i] = x := by rw [List.getElem?_eq_getElem hi] at hx; exact Option.some.inj hx
  have ck := (hNg.r0.cellAt (i * 2) (by omega)).trans (ycc its i hi)
  have cv := (hNg.r0.cellAt (i * 2 + 1) (by omega)).trans (yci its i hi)
  rw [hx'] at ck cv
  obtain ⟨xk, xv⟩ := x
  obtain ⟨n, hl⟩ : ∃ n, its.length = n := ⟨_, rfl⟩
  rw [hl] at g0 hq1
  have i1 : (i : Int) < (n : Int) := by omega
  obtain ⟨i0, hi0, hz0, hs0, hb0⟩ := ydk
  obtain ⟨j0, hj0, kz0, ks0, kb0⟩ := yez
  have HA := Lib.hid hNa
  have HB := Lib.hid hNb
  have HT := Lib.hid hT
  have HD : Hid (b ∉ blocks va ua ∧ (∀ q, q ∈ blocks vb ub → q ∉ blocks va ua) ∧ b ∉ a :: blocks va ua) := ⟨d1.1, fun q h1 h2 => d1.2 q h2 h1, by
   rw [List.mem_cons]; rintro (e | e)
   ·exact hab e.symm
   ·exact d1.1 e⟩
  have HONE : Hid (∀ Wc : World, Wc.heap[V.heap.size]? = some (.cells #[.string xk, .string xv] 96 (0, 0)) → From Wc 2 (.slice (some ⟨V.heap.size, 0, none⟩) 1 1) 1 (yaa [(xk, xv)])) := fun Wc hh =>
   .inr ⟨_, _, rfl, rfl, fun j u hj => by rw [Go.WideShapes.add_plain, Nat.zero_add, cell_of_row Wc V.heap.size j _ 96 (0, 0) hh]; simpa [yaa] using hj⟩
  have HI : Hid (i < its.length ∧ i + 1 < ps.length ∧ ps[i]? = some a ∧ ps[i + 1]? = some b) := ⟨hi, hp, hpa, hpb⟩
  clear hNg hNa hNb hT h hg ha hb hpa hpb hx hx' d1 d2 hq1 hq2 hi hp hl
  go_upto_region 1 with fail
  go_cut [21] (fun s21 wx => s21 = .pointer (some ⟨a, 0, none⟩) ∧ Hid (Mid V wx a (ia ++ (xk, xv) :: ib) pa va ua))
  case first =>
   go_region_law (first
    | (refine yc3 rfl (.tmp 25) (.tmp 33) 22 rfl 0 96 i0 (.agg #[.string ⟨#[]⟩, .string ⟨#[]⟩]) 2 32 Tryz.underlying22 hi0 hz0 hs0 hb0 rfl (by decide) va ia.length (yaa ia) (by simp [Act.eval]) (HA.out.new (((Touch.refl _ _).alloc _).drew)).r0 (.slice (some ⟨V.heap.size, 0, none⟩) 1 1) 1 (yaa [(xk, xv)]) (by simp [Act.eval]) (HONE.out _ (yny _ _)) (ybc _) (by unfold maxLen; omega) (by omega) (Nat.zero_le _) ?_; intro A1 c1 w1 ho1 hg1 hs1; have hT1 : Touch (blocks va ua) V w1 := ((((Touch.refl [] V).alloc _).drew).mono (by simp)).grown hg1 (fun k hk => .inl (ybb.2 (.inl hk))); have b0' := (hT1.cell (p := ⟨b, 0, none⟩) hbl HD.out.1).trans b0; have HB1 := Lib.hid (HB.out.touch hT1 HD.out.1 HD.out.2.1); have HG1 := Lib.hid hg1; have HO1 := Lib.hid ho1; have HS1 := Lib.hid hs1; clear hg1 ho1 hs1 hT1)
    | (refine yc3 rfl (.tmp 34) (.tmp 38) 22 rfl 0 96 i0 (.agg #[.string ⟨#[]⟩, .string ⟨#[]⟩]) 2 32 Tryz.underlying22 hi0 hz0 hs0 hb0 rfl (by decide) (.slice A1 (ia.length + 1) c1) (ia.length + 1) (yaa ia ++ yaa [(xk, xv)]) (by simp [Act.eval]) HO1.out vb ib.length (yaa ib) (by simp [Act.eval]) (From.own HB1.out.r0) (ybc _) (by unfold maxLen; omega) (by omega) (Nat.zero_le _) ?_; intro A2 c2 w2 ho2 hg2 hs2; have hS := yv2 HA.out (((Touch.refl _ _).alloc _).drew) HG1.out HS1.out hg2 hs2 ho2; have sc := hS.c; have sf := hS.f; have HS0 := Lib.hid hS; clear ho2 hg2 hs2 hS))
   all_goals
    go_wp2_with fail
    go_meet
    exact ⟨rfl, HS0.out.mid⟩
  case rest =>
   obtain ⟨rfl, HMid⟩ := hcut
   obtain ⟨wd, rfl⟩ : ∃ wd : World, wd = wc := ⟨_, rfl⟩
   obtain ⟨A1, c1, n1, hMN, hMT, hMB⟩ := HMid.out
   have hB2 := HB.out.touch hMT HD.out.2.2 (fun q hq e => by
    rcases List.mem_cons.1 e with e2 | e2
    ·exact d1' q hq e2
    ·exact HD.out.2.1 q hq e2)
   have a1 := hMN.c1
   have fa1 := hMN.f1
   have b1 := hB2.c1
   have HMN := Lib.hid hMN
   have HMT := Lib.hid hMT
   have HMB := Lib.hid hMB
   have HB2 := Lib.hid hB2
   have CR : Hid (∀ V2 F2, Sto V2 (upd m a ⟨ia ++ (xk, xv) :: ib, pa ++ pb⟩) F2 → Calls Tryz.prog 205 #[.pointer (some ⟨g, 0, none⟩), .int .i64 (i : Nat)] V2 (ybt V2 F2 (upd (upd m a ⟨ia ++ (xk, xv) :: ib, pa ++ pb⟩) g ⟨yaj its i, yaj ps (i + 1)⟩) (.tuple #[]))) :=
    fun V2 F2 hS2 => yvu g i V2 hS2 (by rw [ya3 _ _ (fun e => hag e.symm)]; exact HM.out.1) HI.out.1 (by omega) HI.out.2.1 (by omega)
   clear hMN hMT hMB hB2 HMid g0 a0 b0 ck cv i1 HA HB hq5 hga
   go_upto_region 2 with fail
   go_region_law (refine yc3 rfl (.tmp 46) (.tmp 50) 242 rfl 0 209 j0 (.pointer none) 1 8 Tryz.underlying242 hj0 kz0 ks0 kb0 rfl (by decide) ua pa.length (yaq pa) (by simp [Act.eval]) HMN.out.drew.r1 ub pb.length (yaq pb) (by simp [Act.eval]) (From.own HB2.out.drew.r1) (ygw _) (by unfold maxLen; omega) (by omega) (Nat.zero_le _) ?_; intro A2 c2 w2 ho2 hg2 hs2; have hS := Set1.of (ps' := pa ++ pb) HMN.out.drew hg2 (by rw [List.length_append, yaq, List.map_append]; exact ho2) hs2; have sc := hS.c; have sf := hS.f; have HSt := Lib.hid (HT.out _ _ _ _ _ hS.nd (Mid.then HMT.out.drew HMB.out hS).1 (Mid.then HMT.out.drew HMB.out hS).2); clear ho2 hg2 hs2 hS)
   all_goals
    go_wp2_with (go_at_call 205; ((with_reducible refine (CR.out _ _ HSt.out.1).mono ?_); rintro e w5 ⟨rfl, F3, hS3, hP3⟩; have HS3 := Lib.hid hS3; have HP3 := Lib.hid hP3; clear hS3 hP3))
    go_end0
    exact ⟨rfl, F3, HS3.out, ((Stp.same (HVW.out.1.mono (by simp))).trans HSt.out.2).trans HP3.out⟩
theorem yn0 (g : Nat) {its : List Item} {ps : List Nat} {m : NMap} {F : List Nat} (W : World) (h : Sto W m F) (hm : m g = some ⟨its, ps⟩) (mid : Nat) (hmid : its.length / 2 = mid) (hlo : mid + 1 < its.length) (hn : its.length ≤ 1000) (hp : ps = [] ∨ mid + 1 < ps.length) (hpn : ps.length ≤ 1000) (x : Item) (hx : its[mid]? = some x) :
  Calls Tryz.prog 202 #[ptr g] W fun e w => ∃ b, W.heap.size ≤ b ∧ ybt W F (upd (upd m g ⟨its.take mid, ps.take (mid + 1)⟩) b ⟨its.drop (mid + 1), ps.drop (mid + 1)⟩) (.tuple #[.agg #[.string x.1, .string x.2], ptr b]) e w := by
 rcases hp with rfl | hp
 ·exact yvw g W h hm mid hmid hlo hn x hx
 ·exact yvz g W h hm mid hmid hlo hn hp hpn x hx
theorem Sto.child {W : World} {m : NMap} {F : List Nat} (h : Sto W m F) {g c j n nc : Nat} {its ic : List Item} {ps pc : List Nat} (hg : m g = some ⟨its, ps⟩) (hj : ps[j]? = some c) (hc : m c = some ⟨ic, pc⟩) (hn : ps.length = n) (hnc : ic.length = nc) :
  ∃ q d C e, W.cell? ⟨g, 1, none⟩ = some (.slice (some ⟨q, 0, none⟩) n d) ∧ W.cell? ⟨q, j, none⟩ = some (.pointer (some ⟨c, 0, none⟩)) ∧ W.cell? ⟨c, 0, none⟩ = some (.slice C nc e) := by
 subst hn hnc
 have hjl : j < ps.length := (List.getElem?_eq_some_iff.1 hj).1
 obtain ⟨vg, ug, hNg, -, -⟩ := h.at hg
 obtain ⟨vc, uc, hNc, -, -⟩ := h.at hc
 have hNg : NdX W g its ps vg ug := hNg
 have hNc : NdX W c ic pc vc uc := hNc
 obtain ⟨q2, dg, rfl, -, -⟩ := ybs hNg.r1 (by omega)
 obtain ⟨C, dc, rfl⟩ := yav hNc.r0
 refine ⟨q2, dg, C, dc, hNg.c1, ?_, hNc.c0⟩
 rw [hNg.r1.cellAt j (by omega), yaq, List.getElem?_map, hj]; rfl
def yn1 (W : World) (F : List Nat) (m : NMap) (g a i : Nat) (its J : List Item) (ps P : List Nat) (e : Ending) (w : World) : Prop :=
 e = .returned (.tuple #[]) ∧ ∃ m' F', Sto w m' F' ∧ Stp W F w F' ∧
  ((J.length ≤ 6 ∧ m' = upd (upd m a ⟨J, P⟩) g ⟨yaj its i, yaj ps (i + 1)⟩) ∨
   (6 < J.length ∧ ∃ b y, J[J.length / 2]? = some y ∧ W.heap.size ≤ b ∧
    m' = upd (upd (upd (upd (upd m a ⟨J, P⟩) g ⟨yaj its i, yaj ps (i + 1)⟩) a ⟨J.take (J.length / 2), P.take (J.length / 2 + 1)⟩) b ⟨J.drop (J.length / 2 + 1), P.drop (J.length / 2 + 1)⟩) g ⟨ya0 (yaj its i) i y, ya0 (yaj ps (i + 1)) (i + 1) b⟩))
theorem yv4 (g a b j i : Nat) {its ia ib ic : List Item} {ps pa pb pc : List Nat} {m : NMap} {F : List Nat} (x : Item) (c : Nat) (W : World) (h : Sto W m F) (hg : m g = some ⟨its, ps⟩) (ha : m a = some ⟨ia, pa⟩) (hb : m b = some ⟨ib, pb⟩) (hc : m c = some ⟨ic, pc⟩) (hab : a ≠ b) (hag : a ≠ g)
  (hi : i < its.length) (hp : i + 1 < ps.length) (hj : j < ps.length) (hji : j = i + 1 ∨ (j = 0 ∧ i = 0)) (hpa : ps[i]? = some a) (hpb : ps[i + 1]? = some b) (hpc : ps[j]? = some c) (hx : its[i]? = some x) (hic : ic.length < 3) (l1 : its.length ≤ 300) (l2 : ps.length ≤ 300) (l3 : ia.length ≤ 300) (l4 : pa.length ≤ 300) (l5 : ib.length ≤ 300) (l6 : pb.length ≤ 300)
  (hleaf : pa ++ pb = [] ∨ (pa ++ pb).length = (ia ++ x :: ib).length + 1) :
  Calls Tryz.prog 206 #[ptr g, .int .i64 (j : Nat)] W (yn1 W F m g a i its (ia ++ x :: ib) ps (pa ++ pb)) := by
 obtain ⟨J, hJ⟩ : ∃ J, ia ++ x :: ib = J := ⟨_, rfl⟩
 obtain ⟨P, hP⟩ : ∃ P, pa ++ pb = P := ⟨_, rfl⟩
 have CJ : Hid (Calls Tryz.prog 224 #[.pointer (some ⟨g, 0, none⟩), .int .i64 (i : Nat)] W (ybt W F (upd (upd m a ⟨J, P⟩) g ⟨yaj its i, yaj ps (i + 1)⟩) (.tuple #[]))) := by
  have z := yv3 g i a b x W h hg ha hb hab hag hi hp hpa hpb hx l1 l2 l3 l4 l5 l6
  rw [hJ, hP] at z
  exact z
 have lJ : J.length ≤ 601 := by rw [← hJ]; simp; omega
 have lP : P.length ≤ 600 := by rw [← hP]; simp; omega
 rw [hJ, hP] at hleaf ⊢
 have rl : (yaj its i).length = its.length - 1 := yns _ _ hi
 have rp : (yaj ps (i + 1)).length = ps.length - 1 := yns _ _ hp
 have ra : (yaj ps (i + 1))[i]? = some a := by
  rw [yaj, List.getElem?_append_left (by rw [List.length_take]; omega), List.getElem?_take_of_lt (by omega)]; exact hpa
 obtain ⟨m1, hm1⟩ : ∃ m1, upd (upd m a ⟨J, P⟩) g ⟨yaj its i, yaj ps (i + 1)⟩ = m1 := ⟨_, rfl⟩
 have m1g : m1 g = some ⟨yaj its i, yaj ps (i + 1)⟩ := by rw [← hm1]; exact upd_same _ _ _
 have m1a : m1 a = some ⟨J, P⟩ := by rw [← hm1, ya3 _ _ hag, upd_same]
 unfold yn1
 rw [hm1] at CJ ⊢
 obtain ⟨n3, hn3⟩ : ∃ n, (yaj ps (i + 1)).length = n := ⟨_, rfl⟩
 obtain ⟨nJ, hnJ⟩ : ∃ n, J.length = n := ⟨_, rfl⟩
 have CC : Hid (∀ V F1, Sto V m1 F1 → ∃ q d C e, V.cell? ⟨g, 1, none⟩ = some (.slice (some ⟨q, 0, none⟩) n3 d) ∧ V.cell? ⟨q, i, none⟩ = some (.pointer (some ⟨a, 0, none⟩)) ∧ V.cell? ⟨a, 0, none⟩ = some (.slice C nJ e)) :=
  fun V F1 hS1 => hS1.child m1g ra m1a hn3 hnJ
 have CS : Hid (∀ V F1, Sto V m1 F1 → 6 < nJ → ∃ y : Item, J[nJ / 2]? = some y ∧ Calls Tryz.prog 202 #[.pointer (some ⟨a, 0, none⟩)] V fun e w => ∃ b, V.heap.size ≤ b ∧ ybt V F1 (upd (upd m1 a ⟨J.take (nJ / 2), P.take (nJ / 2 + 1)⟩) b ⟨J.drop (nJ / 2 + 1), P.drop (nJ / 2 + 1)⟩) (.tuple #[.agg #[.string y.1, .string y.2], .pointer (some ⟨b, 0, none⟩)]) e w) := by
  intro V F1 hS1 h6
  obtain ⟨y, hy⟩ : ∃ y, J[nJ / 2]? = some y := ⟨J[nJ / 2]'(by omega), List.getElem?_eq_getElem _⟩
  refine ⟨y, hy, yn0 a V hS1 m1a (nJ / 2) (by rw [hnJ]) (by omega) (by omega) ?_ (by omega) y hy⟩
  rcases hleaf with z | z
  ·exact .inl z
  ·exact .inr (by omega)
 have CI : Hid (∀ V F1 m2 k v b', Sto V m2 F1 → m2 g = some ⟨yaj its i, yaj ps (i + 1)⟩ → Calls Tryz.prog 201 #[.pointer (some ⟨g, 0, none⟩), .int .i64 (i : Nat), .agg #[.string k, .string v], .pointer (some ⟨b', 0, none⟩)] V (ybt V F1 (upd m2 g ⟨ya0 (yaj its i) i (k, v), ya0 (yaj ps (i + 1)) (i + 1) b'⟩) (.tuple #[]))) :=
  fun V F1 m2 k v b' hS1 hm2 => ynz g i b' k v V hS1 hm2 (by omega) (by omega) (by omega) (by omega)
 have HAG : Hid (∀ V F1 N1 N2 b', Sto V m1 F1 → V.heap.size ≤ b' → upd (upd m1 a N1) b' N2 g = some ⟨yaj its i, yaj ps (i + 1)⟩) := fun V F1 N1 N2 b' hS1 hb' => by
  have hlt := hS1.lt g (hS1.mem m1g)
  rw [ya3 _ _ (by omega), ya3 _ _ (fun e => hag e.symm)]
  exact m1g
 obtain ⟨n, hl⟩ : ∃ n, ic.length = n := ⟨_, rfl⟩
 obtain ⟨n2, hl2⟩ : ∃ n, ps.length = n := ⟨_, rfl⟩
 obtain ⟨q2, dg, C, dc, g1, cj, c0⟩ := h.child hg hpc hc hl2 hl
 have i1 : (j : Int) < (n2 : Int) := by omega
 have i2 : decide (3 ≤ (n : Int)) = false := by simp; omega
 have i3 : (i : Int) < (n3 : Int) := by omega
 have i4 : (nJ : Int) ≤ 601 := by omega
 have i5 : (j : Int) ≤ 300 := by omega
 have HG : Hid (m1 g = some ⟨yaj its i, yaj ps (i + 1)⟩ ∧ J.length = nJ) := ⟨m1g, hnJ⟩
 have HS := Lib.hid h
 clear h hg ha hb hc hab hag hi hp hj hpa hpb hpc hx hic l1 l2 l3 l4 l5 l6 hleaf hJ hP lJ lP rl rp ra hm1 m1g m1a hn3 hnJ hl hl2
 unfold ptr at *
 go_enter Tryz.func206, Tryz.ntmps206
 go_upto_region 1 with fail
 go_cut [4] (fun s4 wx => s4 = .int .i64 (i : Nat) ∧ W = wx)
 case first =>
  go_wp2_with fail
  all_goals
   go_meet
   exact ⟨by congr 1; omega, rfl⟩
 case rest =>
  obtain ⟨rfl, rfl⟩ := hcut
  clear i1 i2 g1 c0 cj hji
  by_cases h6 : 6 < nJ
  ·have h6' : (6 : Int) < (nJ : Int) := by omega
   have H6 := Lib.hid h6
   clear h6
   go_wp2_with (first
    | (go_at_call 224; ((with_reducible refine (CJ.out).mono ?_); rintro e w1 ⟨rfl, F1, hS1, hP1⟩; obtain ⟨q1, d1, C1, e1, f1, f2, f3⟩ := CC.out _ _ hS1; have HS1 := Lib.hid hS1; have HP1 := Lib.hid hP1; obtain ⟨y, hy, cs⟩ := CS.out _ _ hS1 H6.out; have HY := Lib.hid hy; have CSP := Lib.hid cs; clear hS1 hP1 hy cs))
    | (go_at_call 202; ((with_reducible refine (CSP.out).mono ?_); rintro e w2 ⟨b', hb', rfl, F2, hS2, hP2⟩; have HS2 := Lib.hid hS2; have HP2 := Lib.hid hP2; have HB2 := Lib.hid hb'; have HM2 := Lib.hid (fun N1 N2 => HAG.out _ _ N1 N2 _ HS1.out hb'); clear hS2 hP2 hb'))
    | (go_at_call 201; ((with_reducible refine (CI.out _ _ _ _ _ _ (HS2.out.new ((Touch.refl _ _).alloc _)) (HM2.out _ _)).mono ?_); rintro e w3 ⟨rfl, F3, hS3, hP3⟩; have HS3 := Lib.hid hS3; have HP3 := Lib.hid hP3; clear hS3 hP3)))
   go_end0
   exact ⟨rfl, _, F3, HS3.out, (HP1.out.trans HP2.out).trans ((Stp.same ((Touch.refl _ _).alloc _)).trans HP3.out), .inr ⟨by rw [HG.out.2]; exact H6.out, b', y, by rw [HG.out.2]; exact HY.out, Nat.le_trans HP1.out.1.size HB2.out, by rw [HG.out.2]⟩⟩
  ·have h6' : (nJ : Int) ≤ 6 := by omega
   have H6 := Lib.hid h6
   clear h6
   go_wp2_with (first
    | (go_at_call 224; ((with_reducible refine (CJ.out).mono ?_); rintro e w1 ⟨rfl, F1, hS1, hP1⟩; obtain ⟨q1, d1, C1, e1, f1, f2, f3⟩ := CC.out _ _ hS1; have HS1 := Lib.hid hS1; have HP1 := Lib.hid hP1; clear hS1 hP1)))
   go_end0
   exact ⟨rfl, m1, F1, HS1.out, HP1.out, .inl ⟨by rw [HG.out.2]; have := H6.out; omega, rfl⟩⟩
end Go.Proofs.YtnjodhglbapnlaaGreat
