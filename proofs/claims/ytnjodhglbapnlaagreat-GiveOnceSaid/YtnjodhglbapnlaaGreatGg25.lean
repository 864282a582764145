import Derived.Test.YtnjodhglbapnlaaGreatGg24
set_option maxRecDepth 100000
set_option maxHeartbeats 16000000
namespace Go.Proofs.YtnjodhglbapnlaaGreat
open Go.RowKit
theorem yzd (xs : List Item) (n : Nat) : yfy xs n = ycb xs n := rfl
theorem ypi {s : HO} {a : AK} {st : ByteArray} (hB : ybv a st = true) (hm : decide (a.most.toNat < (yae s.its a.key st).length) = false) : ydw s a st = ⟨0, ⟨#[]⟩, (yae s.its a.key st).take a.most.toNat, true, st, 0⟩ := by
 unfold ydw
 simp only [hB, if_true, hm, Bool.not_false, Bool.and_self]
theorem yis {s : HO} {a : AK} {st T : ByteArray} {m : Bool} (hT : (if ybv a st = true then st else a.tt) = T) (hm : decide (a.most.toNat < (yae s.its a.key T).length) = m) (hc : (ybv a st && !m) = false) : ydw s a st = ⟨0, ⟨#[]⟩, (yae s.its a.key T).take a.most.toNat, m, ycb (yae s.its a.key T) a.most.toNat, 0⟩ := by
 unfold ydw
 simp only [hT, hm, hc, Bool.false_eq_true, if_false, yzd]
def ydx (w : World) (s : HO) (a : AK) (e : Ending) (w' : World) : Prop :=
 ∃ stop A c, Upto s (yac a.key) stop ∧ e = .returned (.agg ((yby s a stop).cells (.slice A (yby s a stop).its.length c))) ∧ w'.ownsRow w.heap.size 96 2 (.slice A (yby s a stop).its.length c) (yby s a stop).its.length (yaa (yby s a stop).its) ∧ Below w.heap.size w w'
theorem ydx.of {w w2 w5 w6 : World} {s : HO} {a : AK} {stop : Nat} {T : TL} {A : Option Addr} {c b4 : Nat} (hu : Upto s (yac a.key) stop) (he : ydw s a (ybr stop) = T) (ho : w5.ownsRow w2.heap.size 96 2 (.slice A T.its.length c) T.its.length (yaa T.its)) (h2 : w.heap.size ≤ w2.heap.size) (h4 : b4 < w2.heap.size) (t : Touch [b4] w5 w6) (hb : Below w.heap.size w w6) :
  ydx w s a (.returned (.agg (T.cells (.slice A T.its.length c)))) w6 := by
 rw [yy6 hu] at he
 subst he
 exact ⟨stop, A, c, hu, rfl, ybp (t.row ho (fun q hq z => by have := (ho.lt q hq).1; have e := List.mem_singleton.1 z; omega)) h2, hb⟩
theorem yze {w : World} {g sp : Nat} {s : HO} {l : List AO} {S : Value} {Fs Fg : List Nat} (a : AK) (ha : a.Fit) (hox : s.own (yac a.key) ≠ none) (hnf : s.g.frozen (yac a.key) = false) (hk : s.k ≤ 1000) (h : HM w g s l S sp Fs Fg) : Calls Tryz.prog 61 #[.pointer (some ⟨g, 0, none⟩), .agg a.cells] w (ydx w s a) := by
 have B0 : Below w.heap.size w ((w.alloc (.cells a.cells 45)).alloc (.cells tz 47)) := ((Below.refl _ _).alloc (Nat.le_refl _) _).alloc (by simp) _
 have hxa := (Bx.new w a.cells 45).old (.cells tz 47)
 have hx := Bx.new (w.alloc (.cells a.cells 45)) tz 47
 simp only [World.size_alloc] at hx
 have h1 := h.below B0
 have CA := Lib.hid (fun W => ylp a.key W ha.key)
 have CS : Hid (∀ (W : World), HM W g s l S sp Fs Fg → Calls Tryz.prog 141 #[.pointer (some ⟨g, 0, none⟩), .int .u64 (yac a.key : Nat)] W fun e w' => ∃ stop n : Nat, Upto s (yac a.key) stop ∧ stop % 18446744073709551616 = n ∧ e = .returned (.int .u64 (n : Nat)) ∧ Below W.heap.size W w') := fun W h' => (yzc _ (yhh a.key) hox hnf hk h').mono (by
  rintro e w' ⟨⟨stop, hu, rfl⟩, hb⟩
  exact ⟨stop, _, hu, rfl, rfl, hb⟩)
 have CF : Hid (∀ (W : World) (n : Nat), n < 18446744073709551616 → Calls Tryz.prog 140 #[.int .u64 (n : Nat)] W fun e w' => e = .returned (.string (txt (yaz n))) ∧ Below W.heap.size W w') := fun W n hn => yji n W hn
 have CP : Hid (∀ (W : World) (T : ByteArray), HM W g s l S sp Fs Fg → Calls Tryz.prog 143 #[.pointer (some ⟨sp, 0, none⟩), .string a.key, .string T, .int .i64 a.most] W fun e w' => ∃ A c k m nx, e = .returned (.tuple #[.slice A k c, .bool m, .string nx]) ∧ decide (a.most.toNat < (yae s.its a.key T).length) = m ∧ ycb (yae s.its a.key T) a.most.toNat = nx ∧ k = ((yae s.its a.key T).take a.most.toNat).length ∧ w'.ownsRow W.heap.size 96 2 (.slice A k c) k (yaa ((yae s.its a.key T).take a.most.toNat)) ∧ Below W.heap.size W w') := fun W T h' => (yyi (ykt h'.shelf) a.key T a.most ha.most.1 ha.most.2).mono (by
  rintro e w' ⟨A, c, rfl, ho, hb⟩
  exact ⟨A, c, _, _, _, rfl, rfl, rfl, rfl, ho, hb⟩)
 have CL := Lib.hid (fun (p q : ByteArray) (W : World) => yfi p q W)
 obtain ⟨op, key, val, tt, most⟩ := a
 obtain ⟨x, hxk⟩ : ∃ x, yac key = x := ⟨_, rfl⟩
 have HXK := Lib.hid hxk
 dsimp only at CA CS CP
 rw [hxk] at CA CS
 clear hxk
 clear ha hox hnf hk h
 go_enter Tryz.func61, Tryz.ntmps61
 go_upto_region 1 with fail
 obtain ⟨b3, hb3⟩ : ∃ b3, w.heap.size = b3 := ⟨_, rfl⟩
 have HB3 : Hid (w.heap.size ≤ b3) := Nat.le_of_eq hb3
 rw [hb3] at hx hxa
 obtain ⟨w0, hw0⟩ : ∃ w0, (w.alloc (.cells #[.int .i64 op, .string key, .string val, .string tt, .int .i64 most] 45)).alloc (.cells tz 47) = w0 := ⟨_, rfl⟩
 dsimp only [AK.cells] at B0 hx hxa h1
 rw [hw0] at B0 hx hxa h1 ⊢
 try rw [hb3]
 clear hw0 hb3
 have HB0 := Lib.hid B0
 have HA0 := Lib.hid hxa
 have HX0 := Lib.hid hx
 have H0 := Lib.hid h1
 obtain ⟨b4, hb4⟩ : ∃ b4, b3 + 1 = b4 := ⟨_, rfl⟩
 have HB4 : Hid (w.heap.size ≤ b4) := by have := HB3.out; show _ ≤ _; omega
 rw [hb4] at hx HX0 ⊢
 clear hb4
 obtain ⟨x0, x1, x2, x3, x4, xl⟩ := hxa.five
 clear B0 hx hxa h1
 go_upto_region 3 with (first
  | (go_at_call 55; (with_reducible refine (CA.out _).mono ?_); rintro e wa ⟨rfl, rfl⟩)
  | (go_at_call 141; (with_reducible refine (CS.out _ H0.out).mono ?_); rintro e w1 ⟨stop, sn, hu, hsn, rfl, hb1⟩; have HSN : Hid (stop % 18446744073709551616 = sn ∧ sn < 18446744073709551616) := ⟨hsn, hsn ▸ Nat.mod_lt _ (by decide)⟩; have HU := Lib.hid hu; have HB1 := Lib.hid (acc HB0.out hb1); have HA1 := Lib.hid (HA0.out.below hb1); have HX1 := Lib.hid (HX0.out.below hb1); have H1 := Lib.hid (H0.out.below hb1); clear hu hsn hb1)
  | (go_at_call 140; (with_reducible refine (CF.out _ _ HSN.out.2).mono ?_); rintro e w2 ⟨rfl, hb2⟩; have HB2 := Lib.hid (acc HB1.out hb2); have HA2 := Lib.hid (HA1.out.below hb2); have HX2 := Lib.hid (HX1.out.below hb2); have H2 := Lib.hid (H1.out.below hb2); clear hb2))
 clear x0 x1 x2 x3 x4 xl
 obtain ⟨st, hst⟩ : ∃ st, txt (yaz sn) = st := ⟨_, rfl⟩
 have HST : Hid (ybr stop = st) := by show ybr stop = st; unfold ybr; rw [HSN.out.1]; exact hst
 rw [hst]
 clear hst
 obtain ⟨x0, x1, x2, x3, x4, xl⟩ := HA2.out.five
 have c42 := H2.out.c4
 have HSS : Hid (∀ w', Below w2.heap.size w2 w' → w'.cell? ⟨g, 4, none⟩ = some (.pointer (some ⟨sp, 0, none⟩)) ∧ w'.cell? ⟨b3, 1, none⟩ = some (.string key) ∧ w'.cell? ⟨b3, 4, none⟩ = some (.int .i64 most)) := fun w' t => ⟨(H2.out.below t).c4, (HA2.out.below t).five.2.1, (HA2.out.below t).five.2.2.2.2.1⟩
 clear x0 x1 x2 x3 x4 xl c42
 have LG := H2.out.lt
 by_cases h1 : st.size = 0
 ·have d1 : st.toList.isEmpty = true := by rw [List.isEmpty_iff]; exact List.length_eq_zero_iff.1 (by rw [Lib.toList_data]; exact h1)
  have d1' : st.toList = [] := List.isEmpty_iff.1 d1
  have HBB : Hid (ybv ⟨op, key, val, tt, most⟩ st = false) := by show ybv _ _ = _; unfold ybv; simp [h1]
  clear h1
  go_upto_region 6 with fail
  refine ybe (fun w' => w'.cell? ⟨g, 4, none⟩ = some (.pointer (some ⟨sp, 0, none⟩)) ∧ w'.cell? ⟨b3, 1, none⟩ = some (.string key) ∧ w'.cell? ⟨b3, 4, none⟩ = some (.int .i64 most)) 16 (by kernel_rfl) ?_ (fun hHeld => ?_)
  ·(try dsimp only); exact HSS.out _ (Below.refl _ _).drew
  refine wtP 0 ?_
  try simp only [Act.put, wsA, wsB, wsC]
  refine wtP 1 ?_
  try simp only [Act.put, wsA, wsB, wsC]
  refine wtP 2 ?_
  try simp only [Act.put, wsA, wsB, wsC]
  refine wtP 4 ?_
  try simp only [Act.put, wsA, wsB, wsC]
  refine wtP 6 ?_
  try simp only [Act.put, wsA, wsB, wsC]
  refine wtP 7 ?_
  try simp only [Act.put, wsA, wsB, wsC]
  refine wtT 3 ?_
  try simp only [Act.put, wsA, wsB, wsC]
  refine wtT 5 ?_
  try simp only [Act.put, wsA, wsB, wsC]
  refine wtT 8 ?_
  try simp only [Act.put, wsA, wsB, wsC]
  refine wtC 9 fun K hK => ?_
  go_simp
  (first | (go_at_call 143; (with_reducible refine (CP.out _ _ (H2.out.below (Below.refl w2.heap.size w2).drew)).mono ?_); rintro e w5 ⟨A5, c5, k5, m5, nx5, rfl, hm, hnx, hk5, ho, hb5⟩))
  have HB5 : Hid (Below w2.heap.size w2 w5) := ((Below.refl w2.heap.size w2).drew).trans hb5
  have HO5 : Hid (w5.ownsRow w2.heap.size 96 2 (.slice A5 k5 c5) k5 (yaa ((yae s.its key tt).take most.toNat))) := ho
  have HM5 := Lib.hid hm
  have HN5 := Lib.hid hnx
  have HK5 := Lib.hid hk5
  clear hm hnx hk5 ho hb5
  go_wp2_with fail
  refine hK.out _ _ (by (try dsimp only); (first | exact HSS.out _ HB5.out | exact HSS.out _ (Below.refl _ _).drew)) (fun hHeld => ?_)
  clear hK K
  try simp only [Act.put, wsA, wsB, wsC]
  refine wtP 10 ?_
  try simp only [Act.put, wsA, wsB, wsC]
  refine wtP 11 ?_
  try simp only [Act.put, wsA, wsB, wsC]
  refine wtP 12 ?_
  try simp only [Act.put, wsA, wsB, wsC]
  refine wtP 13 ?_
  try simp only [Act.put, wsA, wsB, wsC]
  refine wtP 14 ?_
  try simp only [Act.put, wsA, wsB, wsC]
  refine wtP 15 ?_
  try simp only [Act.put, wsA, wsB, wsC]
  refine wtD 16 fun K hK => ?_
  go_simp
  refine hK.out _ _ ?_
  clear hK K
  try simp only [Act.put, wsA, wsB, wsC]
  refine ya8 (by kernel_rfl) ?_ _
  have HX5 := Lib.hid (HX2.out.below HB5.out)
  obtain ⟨z0, z1, z2, z3, z4, z5, zl⟩ := HX5.out.six
  obtain ⟨f0, f1, f2, f3, f4, f5⟩ := HX5.out.free6
  go_wp2_with fail
  refine bodyPost_ret (v := .agg #[.int .i64 0, .string ⟨#[]⟩, .slice A5 k5 c5, .bool m5, .string nx5, .int .i64 0]) ?_ rfl ?_
  ·obtain ⟨s0, s1, s2, s3, s4, s5, _⟩ := (HX5.out.put6 (.int .i64 0) (.string ⟨#[]⟩) (.slice A5 k5 c5) (.bool m5) (.string nx5) (.int .i64 0)).six
   simp [results, Tryz.results61, go_sem, s0, s1, s2, s3, s4, s5]
  ·have hm := HM5.out
   have hn := HN5.out
   subst hm hn
   have hk := HK5.out
   subst hk
   exact ydx.of (T := ⟨0, ⟨#[]⟩, (yae s.its key tt).take most.toNat, decide (most.toNat < (yae s.its key tt).length), ycb (yae s.its key tt) most.toNat, 0⟩) (by show Upto s (yac key) stop; rw [HXK.out]; exact HU.out) (by rw [HST.out]; exact yis (by rw [HBB.out]; rfl) rfl (by rw [HBB.out]; rfl)) HO5.out HB2.out.size HX2.out.six.2.2.2.2.2.2 (yb3 (Touch.refl _ _) (by simp) _ _ _ _ _ _) (ycu (acc HB2.out HB5.out) HB4.out _ _ _ _ _ _)
 ·have d1 : ¬ st.toList = [] := fun z => h1 (by
   have e := congrArg List.length z
   rw [Lib.toList_data] at e
   exact e)
  have d1' : st.toList.isEmpty = false := by rw [Bool.eq_false_iff]; exact fun z => d1 (List.isEmpty_iff.1 z)
  by_cases h2 : tt.size = 0
  ·have d2 : tt.toList.isEmpty = true := by rw [List.isEmpty_iff]; exact List.length_eq_zero_iff.1 (by rw [Lib.toList_data]; exact h2)
   have d2' : tt.toList = [] := List.isEmpty_iff.1 d2
   have HBB : Hid (ybv ⟨op, key, val, tt, most⟩ st = true) := by show ybv _ _ = _; unfold ybv; simp [h1, h2]
   clear h1 h2
   go_upto_region 6 with fail
   refine ybe (fun w' => w'.cell? ⟨g, 4, none⟩ = some (.pointer (some ⟨sp, 0, none⟩)) ∧ w'.cell? ⟨b3, 1, none⟩ = some (.string key) ∧ w'.cell? ⟨b3, 4, none⟩ = some (.int .i64 most)) 16 (by kernel_rfl) ?_ (fun hHeld => ?_)
   ·(try dsimp only); exact HSS.out _ (Below.refl _ _).drew
   refine wtP 0 ?_
   try simp only [Act.put, wsA, wsB, wsC]
   refine wtP 1 ?_
   try simp only [Act.put, wsA, wsB, wsC]
   refine wtP 2 ?_
   try simp only [Act.put, wsA, wsB, wsC]
   refine wtP 4 ?_
   try simp only [Act.put, wsA, wsB, wsC]
   refine wtP 6 ?_
   try simp only [Act.put, wsA, wsB, wsC]
   refine wtP 7 ?_
   try simp only [Act.put, wsA, wsB, wsC]
   refine wtT 3 ?_
   try simp only [Act.put, wsA, wsB, wsC]
   refine wtT 5 ?_
   try simp only [Act.put, wsA, wsB, wsC]
   refine wtT 8 ?_
   try simp only [Act.put, wsA, wsB, wsC]
   refine wtC 9 fun K hK => ?_
   go_simp
   (first | (go_at_call 143; (with_reducible refine (CP.out _ _ (H2.out.below (Below.refl w2.heap.size w2).drew)).mono ?_); rintro e w5 ⟨A5, c5, k5, m5, nx5, rfl, hm, hnx, hk5, ho, hb5⟩))
   have HB5 : Hid (Below w2.heap.size w2 w5) := ((Below.refl w2.heap.size w2).drew).trans hb5
   have HO5 : Hid (w5.ownsRow w2.heap.size 96 2 (.slice A5 k5 c5) k5 (yaa ((yae s.its key st).take most.toNat))) := ho
   have HM5 := Lib.hid hm
   have HN5 := Lib.hid hnx
   have HK5 := Lib.hid hk5
   clear hm hnx hk5 ho hb5
   go_wp2_with fail
   refine hK.out _ _ (by (try dsimp only); (first | exact HSS.out _ HB5.out | exact HSS.out _ (Below.refl _ _).drew)) (fun hHeld => ?_)
   clear hK K
   try simp only [Act.put, wsA, wsB, wsC]
   refine wtP 10 ?_
   try simp only [Act.put, wsA, wsB, wsC]
   refine wtP 11 ?_
   try simp only [Act.put, wsA, wsB, wsC]
   refine wtP 12 ?_
   try simp only [Act.put, wsA, wsB, wsC]
   refine wtP 13 ?_
   try simp only [Act.put, wsA, wsB, wsC]
   refine wtP 14 ?_
   try simp only [Act.put, wsA, wsB, wsC]
   refine wtP 15 ?_
   try simp only [Act.put, wsA, wsB, wsC]
   refine wtD 16 fun K hK => ?_
   go_simp
   refine hK.out _ _ ?_
   clear hK K
   try simp only [Act.put, wsA, wsB, wsC]
   refine ya8 (by kernel_rfl) ?_ _
   have HX5 := Lib.hid (HX2.out.below HB5.out)
   obtain ⟨z0, z1, z2, z3, z4, z5, zl⟩ := HX5.out.six
   obtain ⟨f0, f1, f2, f3, f4, f5⟩ := HX5.out.free6
   cases m5
   ·go_wp2_with fail
    refine bodyPost_ret (v := .agg #[.int .i64 0, .string ⟨#[]⟩, .slice A5 k5 c5, .bool true, .string st, .int .i64 0]) ?_ rfl ?_
    ·obtain ⟨s0, s1, s2, s3, s4, s5, _⟩ := (HX5.out.put6 (.int .i64 0) (.string ⟨#[]⟩) (.slice A5 k5 c5) (.bool true) (.string st) (.int .i64 0)).six
     simp [results, Tryz.results61, go_sem, s0, s1, s2, s3, s4, s5]
    ·have hk := HK5.out
     subst hk
     exact ydx.of (T := ⟨0, ⟨#[]⟩, (yae s.its key st).take most.toNat, true, st, 0⟩) (by show Upto s (yac key) stop; rw [HXK.out]; exact HU.out) (by rw [HST.out]; exact ypi HBB.out HM5.out) HO5.out HB2.out.size HX2.out.six.2.2.2.2.2.2 (yb3 (Touch.refl _ _) (by simp) _ _ _ _ _ _) (ycu (acc HB2.out HB5.out) HB4.out _ _ _ _ _ _)
   ·go_wp2_with fail
    refine bodyPost_ret (v := .agg #[.int .i64 0, .string ⟨#[]⟩, .slice A5 k5 c5, .bool true, .string nx5, .int .i64 0]) ?_ rfl ?_
    ·obtain ⟨s0, s1, s2, s3, s4, s5, _⟩ := (HX5.out.put6 (.int .i64 0) (.string ⟨#[]⟩) (.slice A5 k5 c5) (.bool true) (.string nx5) (.int .i64 0)).six
     simp [results, Tryz.results61, go_sem, s0, s1, s2, s3, s4, s5]
    ·have hn := HN5.out
     subst hn
     have hk := HK5.out
     subst hk
     exact ydx.of (T := ⟨0, ⟨#[]⟩, (yae s.its key st).take most.toNat, true, ycb (yae s.its key st) most.toNat, 0⟩) (by show Upto s (yac key) stop; rw [HXK.out]; exact HU.out) (by rw [HST.out]; exact yis (by rw [HBB.out]; rfl) HM5.out (by rw [HBB.out]; rfl)) HO5.out HB2.out.size HX2.out.six.2.2.2.2.2.2 (yb3 (Touch.refl _ _) (by simp) _ _ _ _ _ _) (ycu (acc HB2.out HB5.out) HB4.out _ _ _ _ _ _)
  ·have d2 : ¬ tt.toList = [] := fun z => h2 (by
    have e := congrArg List.length z
    rw [Lib.toList_data] at e
    exact e)
   have d2' : tt.toList.isEmpty = false := by rw [Bool.eq_false_iff]; exact fun z => d2 (List.isEmpty_iff.1 z)
   have hll : yad st tt = Op.bytesLess st.toList tt.toList := rfl
   obtain ⟨lb, hlb⟩ : ∃ lb, yad st tt = lb := ⟨_, rfl⟩
   have HBB0 : Hid (ybv ⟨op, key, val, tt, most⟩ st = lb) := by show ybv _ _ = _; unfold ybv; simp [h1, h2, hlb]
   rw [hlb] at hll
   have CLE : Hid (∀ W, Calls Tryz.prog 142 #[.string st, .string tt] W fun e w' => e = .returned (.bool lb) ∧ W = w') := fun W => by
    have := CL.out st tt W
    rw [← hll] at this
    exact this
   clear h1 h2 hll hlb
   cases lb
   ·have HBB := HBB0
    go_upto_region 6 with (go_at_call 142; (with_reducible refine (CLE.out _).mono ?_); rintro e wl ⟨rfl, rfl⟩)
    refine ybe (fun w' => w'.cell? ⟨g, 4, none⟩ = some (.pointer (some ⟨sp, 0, none⟩)) ∧ w'.cell? ⟨b3, 1, none⟩ = some (.string key) ∧ w'.cell? ⟨b3, 4, none⟩ = some (.int .i64 most)) 16 (by kernel_rfl) ?_ (fun hHeld => ?_)
    ·(try dsimp only); exact HSS.out _ (Below.refl _ _).drew
    refine wtP 0 ?_
    try simp only [Act.put, wsA, wsB, wsC]
    refine wtP 1 ?_
    try simp only [Act.put, wsA, wsB, wsC]
    refine wtP 2 ?_
    try simp only [Act.put, wsA, wsB, wsC]
    refine wtP 4 ?_
    try simp only [Act.put, wsA, wsB, wsC]
    refine wtP 6 ?_
    try simp only [Act.put, wsA, wsB, wsC]
    refine wtP 7 ?_
    try simp only [Act.put, wsA, wsB, wsC]
    refine wtT 3 ?_
    try simp only [Act.put, wsA, wsB, wsC]
    refine wtT 5 ?_
    try simp only [Act.put, wsA, wsB, wsC]
    refine wtT 8 ?_
    try simp only [Act.put, wsA, wsB, wsC]
    refine wtC 9 fun K hK => ?_
    go_simp
    (first | (go_at_call 143; (with_reducible refine (CP.out _ _ (H2.out.below (Below.refl w2.heap.size w2).drew)).mono ?_); rintro e w5 ⟨A5, c5, k5, m5, nx5, rfl, hm, hnx, hk5, ho, hb5⟩))
    have HB5 : Hid (Below w2.heap.size w2 w5) := ((Below.refl w2.heap.size w2).drew).trans hb5
    have HO5 : Hid (w5.ownsRow w2.heap.size 96 2 (.slice A5 k5 c5) k5 (yaa ((yae s.its key tt).take most.toNat))) := ho
    have HM5 := Lib.hid hm
    have HN5 := Lib.hid hnx
    have HK5 := Lib.hid hk5
    clear hm hnx hk5 ho hb5
    go_wp2_with fail
    refine hK.out _ _ (by (try dsimp only); (first | exact HSS.out _ HB5.out | exact HSS.out _ (Below.refl _ _).drew)) (fun hHeld => ?_)
    clear hK K
    try simp only [Act.put, wsA, wsB, wsC]
    refine wtP 10 ?_
    try simp only [Act.put, wsA, wsB, wsC]
    refine wtP 11 ?_
    try simp only [Act.put, wsA, wsB, wsC]
    refine wtP 12 ?_
    try simp only [Act.put, wsA, wsB, wsC]
    refine wtP 13 ?_
    try simp only [Act.put, wsA, wsB, wsC]
    refine wtP 14 ?_
    try simp only [Act.put, wsA, wsB, wsC]
    refine wtP 15 ?_
    try simp only [Act.put, wsA, wsB, wsC]
    refine wtD 16 fun K hK => ?_
    go_simp
    refine hK.out _ _ ?_
    clear hK K
    try simp only [Act.put, wsA, wsB, wsC]
    refine ya8 (by kernel_rfl) ?_ _
    have HX5 := Lib.hid (HX2.out.below HB5.out)
    obtain ⟨z0, z1, z2, z3, z4, z5, zl⟩ := HX5.out.six
    obtain ⟨f0, f1, f2, f3, f4, f5⟩ := HX5.out.free6
    go_wp2_with fail
    refine bodyPost_ret (v := .agg #[.int .i64 0, .string ⟨#[]⟩, .slice A5 k5 c5, .bool m5, .string nx5, .int .i64 0]) ?_ rfl ?_
    ·obtain ⟨s0, s1, s2, s3, s4, s5, _⟩ := (HX5.out.put6 (.int .i64 0) (.string ⟨#[]⟩) (.slice A5 k5 c5) (.bool m5) (.string nx5) (.int .i64 0)).six
     simp [results, Tryz.results61, go_sem, s0, s1, s2, s3, s4, s5]
    ·have hm := HM5.out
     have hn := HN5.out
     subst hm hn
     have hk := HK5.out
     subst hk
     exact ydx.of (T := ⟨0, ⟨#[]⟩, (yae s.its key tt).take most.toNat, decide (most.toNat < (yae s.its key tt).length), ycb (yae s.its key tt) most.toNat, 0⟩) (by show Upto s (yac key) stop; rw [HXK.out]; exact HU.out) (by rw [HST.out]; exact yis (by rw [HBB.out]; rfl) rfl (by rw [HBB.out]; rfl)) HO5.out HB2.out.size HX2.out.six.2.2.2.2.2.2 (yb3 (Touch.refl _ _) (by simp) _ _ _ _ _ _) (ycu (acc HB2.out HB5.out) HB4.out _ _ _ _ _ _)
   ·have HBB := HBB0
    go_upto_region 6 with (go_at_call 142; (with_reducible refine (CLE.out _).mono ?_); rintro e wl ⟨rfl, rfl⟩)
    refine ybe (fun w' => w'.cell? ⟨g, 4, none⟩ = some (.pointer (some ⟨sp, 0, none⟩)) ∧ w'.cell? ⟨b3, 1, none⟩ = some (.string key) ∧ w'.cell? ⟨b3, 4, none⟩ = some (.int .i64 most)) 16 (by kernel_rfl) ?_ (fun hHeld => ?_)
    ·(try dsimp only); exact HSS.out _ (Below.refl _ _).drew
    refine wtP 0 ?_
    try simp only [Act.put, wsA, wsB, wsC]
    refine wtP 1 ?_
    try simp only [Act.put, wsA, wsB, wsC]
    refine wtP 2 ?_
    try simp only [Act.put, wsA, wsB, wsC]
    refine wtP 4 ?_
    try simp only [Act.put, wsA, wsB, wsC]
    refine wtP 6 ?_
    try simp only [Act.put, wsA, wsB, wsC]
    refine wtP 7 ?_
    try simp only [Act.put, wsA, wsB, wsC]
    refine wtT 3 ?_
    try simp only [Act.put, wsA, wsB, wsC]
    refine wtT 5 ?_
    try simp only [Act.put, wsA, wsB, wsC]
    refine wtT 8 ?_
    try simp only [Act.put, wsA, wsB, wsC]
    refine wtC 9 fun K hK => ?_
    go_simp
    (first | (go_at_call 143; (with_reducible refine (CP.out _ _ (H2.out.below (Below.refl w2.heap.size w2).drew)).mono ?_); rintro e w5 ⟨A5, c5, k5, m5, nx5, rfl, hm, hnx, hk5, ho, hb5⟩))
    have HB5 : Hid (Below w2.heap.size w2 w5) := ((Below.refl w2.heap.size w2).drew).trans hb5
    have HO5 : Hid (w5.ownsRow w2.heap.size 96 2 (.slice A5 k5 c5) k5 (yaa ((yae s.its key st).take most.toNat))) := ho
    have HM5 := Lib.hid hm
    have HN5 := Lib.hid hnx
    have HK5 := Lib.hid hk5
    clear hm hnx hk5 ho hb5
    go_wp2_with fail
    refine hK.out _ _ (by (try dsimp only); (first | exact HSS.out _ HB5.out | exact HSS.out _ (Below.refl _ _).drew)) (fun hHeld => ?_)
    clear hK K
    try simp only [Act.put, wsA, wsB, wsC]
    refine wtP 10 ?_
    try simp only [Act.put, wsA, wsB, wsC]
    refine wtP 11 ?_
    try simp only [Act.put, wsA, wsB, wsC]
    refine wtP 12 ?_
    try simp only [Act.put, wsA, wsB, wsC]
    refine wtP 13 ?_
    try simp only [Act.put, wsA, wsB, wsC]
    refine wtP 14 ?_
    try simp only [Act.put, wsA, wsB, wsC]
    refine wtP 15 ?_
    try simp only [Act.put, wsA, wsB, wsC]
    refine wtD 16 fun K hK => ?_
    go_simp
    refine hK.out _ _ ?_
    clear hK K
    try simp only [Act.put, wsA, wsB, wsC]
    refine ya8 (by kernel_rfl) ?_ _
    have HX5 := Lib.hid (HX2.out.below HB5.out)
    obtain ⟨z0, z1, z2, z3, z4, z5, zl⟩ := HX5.out.six
    obtain ⟨f0, f1, f2, f3, f4, f5⟩ := HX5.out.free6
    cases m5
    ·go_wp2_with fail
     refine bodyPost_ret (v := .agg #[.int .i64 0, .string ⟨#[]⟩, .slice A5 k5 c5, .bool true, .string st, .int .i64 0]) ?_ rfl ?_
     ·obtain ⟨s0, s1, s2, s3, s4, s5, _⟩ := (HX5.out.put6 (.int .i64 0) (.string ⟨#[]⟩) (.slice A5 k5 c5) (.bool true) (.string st) (.int .i64 0)).six
      simp [results, Tryz.results61, go_sem, s0, s1, s2, s3, s4, s5]
     ·have hk := HK5.out
      subst hk
      exact ydx.of (T := ⟨0, ⟨#[]⟩, (yae s.its key st).take most.toNat, true, st, 0⟩) (by show Upto s (yac key) stop; rw [HXK.out]; exact HU.out) (by rw [HST.out]; exact ypi HBB.out HM5.out) HO5.out HB2.out.size HX2.out.six.2.2.2.2.2.2 (yb3 (Touch.refl _ _) (by simp) _ _ _ _ _ _) (ycu (acc HB2.out HB5.out) HB4.out _ _ _ _ _ _)
    ·go_wp2_with fail
     refine bodyPost_ret (v := .agg #[.int .i64 0, .string ⟨#[]⟩, .slice A5 k5 c5, .bool true, .string nx5, .int .i64 0]) ?_ rfl ?_
     ·obtain ⟨s0, s1, s2, s3, s4, s5, _⟩ := (HX5.out.put6 (.int .i64 0) (.string ⟨#[]⟩) (.slice A5 k5 c5) (.bool true) (.string nx5) (.int .i64 0)).six
      simp [results, Tryz.results61, go_sem, s0, s1, s2, s3, s4, s5]
     ·have hn := HN5.out
      subst hn
      have hk := HK5.out
      subst hk
      exact ydx.of (T := ⟨0, ⟨#[]⟩, (yae s.its key st).take most.toNat, true, ycb (yae s.its key st) most.toNat, 0⟩) (by show Upto s (yac key) stop; rw [HXK.out]; exact HU.out) (by rw [HST.out]; exact yis (by rw [HBB.out]; rfl) HM5.out (by rw [HBB.out]; rfl)) HO5.out HB2.out.size HX2.out.six.2.2.2.2.2.2 (yb3 (Touch.refl _ _) (by simp) _ _ _ _ _ _) (ycu (acc HB2.out HB5.out) HB4.out _ _ _ _ _ _)
theorem yzf {s : HO} {a : AK} (h : ycv a ≠ 0) : s.bar a = some (TL.err (ycv a)) := by
 unfold HO.bar
 unfold ycv at h ⊢
 by_cases h1 : a.op < 1 ∨ 4 < a.op ∨ (a.op = 4 ∧ (a.most < 0 ∨ 40 < a.most))
 ·rw [if_pos h1, if_pos h1]
 ·rw [if_neg h1] at h ⊢
  rw [if_neg h1]
  by_cases h2 : 16 < a.key.size ∨ (a.key.size = 0 ∧ a.op ≠ 4)
  ·rw [if_pos h2, if_pos h2]
  ·rw [if_neg h2] at h
   exact absurd rfl h
theorem ykw {a : AK} (h : ycv a = 0) : (1 ≤ a.op ∧ a.op ≤ 4) ∧ ¬ (a.op < 1 ∨ 4 < a.op ∨ (a.op = 4 ∧ (a.most < 0 ∨ 40 < a.most))) ∧ ¬ (16 < a.key.size ∨ (a.key.size = 0 ∧ a.op ≠ 4)) := by
 unfold ycv at h
 by_cases h1 : a.op < 1 ∨ 4 < a.op ∨ (a.op = 4 ∧ (a.most < 0 ∨ 40 < a.most))
 ·rw [if_pos h1] at h
  exact absurd h (by decide)
 ·rw [if_neg h1] at h
  by_cases h2 : 16 < a.key.size ∨ (a.key.size = 0 ∧ a.op ≠ 4)
  ·rw [if_pos h2] at h
   exact absurd h (by decide)
  ·exact ⟨by omega, h1, h2⟩
theorem yzg {s : HO} {a : AK} (h : ycv a = 0) : s.bar a = if s.own (yac a.key) = none then some ⟨8, ⟨#[]⟩, [], false, ⟨#[]⟩, (yao s.g.l (yac a.key)).getD (-1)⟩ else if s.g.frozen (yac a.key) = true then some (TL.err 7) else none := by
 obtain ⟨_, h1, h2⟩ := ykw h
 unfold HO.bar
 rw [if_neg h1, if_neg h2]
def yek (w : World) (g sp : Nat) (s : HO) (l : List AO) (S : Value) (Fs Fg : List Nat) (a : AK) (e : Ending) (w' : World) : Prop :=
 ∃ (er : Int) (val : ByteArray) (its : List Item) (more : Bool) (nx : ByteArray) (nd : Int) (s1 : HO) (A : Option Addr) (c : Nat) (Fs' : List Nat), Did s a ⟨er, val, its, more, nx, nd⟩ s1 ∧ e = .returned (.agg #[.int .i64 er, .string val, .slice A its.length c, .bool more, .string nx, .int .i64 nd]) ∧
  w'.ownsRow w.heap.size 96 2 (.slice A its.length c) its.length (yaa its) ∧ (∀ q, (Value.slice A its.length c).ownBlock = some q → q ∉ Fs') ∧ HM w' g s1 l S sp Fs' Fg ∧ Touch Fs w w' ∧ ∀ q ∈ Fs', q ∈ Fs ∨ w.heap.size ≤ q
section
variable {w : World} {g sp : Nat} {s : HO} {l : List AO} {S : Value} {Fs Fg : List Nat} {a : AK}
theorem yzh (h : HM w g s l S sp Fs Fg) (hb : s.bar a = none) (ho : a.op = 1) : Calls Tryz.prog 58 #[.pointer (some ⟨g, 0, none⟩), .string a.key] w (yek w g sp s l S Fs Fg a) := by
 refine (yy9 a.key h).mono ?_
 rintro e w' ⟨rfl, hw⟩
 by_cases hh : hasN s.its a.key = true
 ·rw [if_pos hh]
  exact ⟨0, getI s.its a.key, [], false, ⟨#[]⟩, 0, s, none, 0, Fs, by unfold Did; rw [hb]; exact .inl ⟨ho, by rw [if_pos hh], rfl⟩, rfl, World.ownsRow_nil _ _ _ _, fun q hq => (by cases hq), h.below hw, Touch.ofBelow hw, fun _ hq => .inl hq⟩
 ·rw [if_neg hh]
  exact ⟨6, ⟨#[]⟩, [], false, ⟨#[]⟩, 0, s, none, 0, Fs, by unfold Did; rw [hb]; exact .inl ⟨ho, by rw [if_neg hh], rfl⟩, rfl, World.ownsRow_nil _ _ _ _, fun q hq => (by cases hq), h.below hw, Touch.ofBelow hw, fun _ hq => .inl hq⟩
theorem yzi (h : HM w g s l S sp Fs Fg) (ha : a.Fit) (hr : ycv a = 0) (hb : s.bar a = none) (ho : a.op = 2) : Calls Tryz.prog 59 #[.pointer (some ⟨g, 0, none⟩), .string a.key, .string a.val] w (yek w g sp s l S Fs Fg a) := by
 have hk : yal a.key = 0 := by
  have h2 := (ykw hr).2.2
  unfold yal
  rw [if_neg (fun z => h2 (by rcases z with z | z; exact .inr ⟨z, by omega⟩; exact .inl z))]
 refine (yzb a.key a.val hk ha.key ha.val h).mono ?_
 rintro e w' ⟨rfl, Fs', hm, ht, hn⟩
 refine ⟨s.putE a.key a.val, ⟨#[]⟩, [], false, ⟨#[]⟩, 0, _, none, 0, Fs', ?_, rfl, World.ownsRow_nil _ _ _ _, fun q hq => (by cases hq), hm, ht, hn⟩
 unfold Did
 rw [hb]
 refine .inr (.inl ⟨ho, rfl, ?_⟩)
 by_cases z : s.putE a.key a.val = 0
 ·rw [if_pos z, if_pos z]
 ·rw [if_neg z, if_neg z]
  rfl
theorem yzj (h : HM w g s l S sp Fs Fg) (hb : s.bar a = none) (ho : a.op = 3) : Calls Tryz.prog 60 #[.pointer (some ⟨g, 0, none⟩), .string a.key] w (yek w g sp s l S Fs Fg a) := by
 refine (yza a.key h).mono ?_
 rintro e w' ⟨rfl, Fs', hm, ht, hn⟩
 refine ⟨if hasN s.its a.key = true then 0 else 6, ⟨#[]⟩, [], false, ⟨#[]⟩, 0, _, none, 0, Fs', ?_, rfl, World.ownsRow_nil _ _ _ _, fun q hq => (by cases hq), hm, ht, hn⟩
 unfold Did
 rw [hb]
 exact .inr (.inr (.inl ⟨ho, rfl, rfl⟩))
theorem yzk (h : HM w g s l S sp Fs Fg) (ha : a.Fit) (hb : s.bar a = none) (ho : a.op = 4) (hox : s.own (yac a.key) ≠ none) (hnf : s.g.frozen (yac a.key) = false) (hk : s.k ≤ 1000) : Calls Tryz.prog 61 #[.pointer (some ⟨g, 0, none⟩), .agg a.cells] w (yek w g sp s l S Fs Fg a) := by
 refine (yze a ha hox hnf hk h).mono ?_
 rintro e w' ⟨stop, A, c, hu, rfl, hr, hw⟩
 refine ⟨(yby s a stop).er, (yby s a stop).val, (yby s a stop).its, (yby s a stop).more, (yby s a stop).nx, (yby s a stop).nd, s, A, c, Fs, ?_, rfl, hr, fun q hq z => ?_, h.below hw, Touch.ofBelow hw, fun _ hq => .inl hq⟩
 ·unfold Did
  rw [hb]
  exact .inr (.inr (.inr ⟨ho, ⟨stop, hu, rfl⟩, rfl⟩))
 ·have := (hr.lt q hq).1
  have := h.shelf.ltF q z
  omega
theorem ycd.of {w3 w4 w6 : World} {b4 : Nat} {er : Int} {val : ByteArray} {its : List Item} {more : Bool} {nx : ByteArray} {nd : Int} {s1 : HO} {A : Option Addr} {c : Nat} {Fs' : List Nat} (h : HM w g s l S sp Fs Fg) (hb : Below w.heap.size w w3) (h4 : b4 < w3.heap.size) (h4' : w.heap.size ≤ b4)
  (hd : Did s a ⟨er, val, its, more, nx, nd⟩ s1) (ho : w4.ownsRow w3.heap.size 96 2 (.slice A its.length c) its.length (yaa its)) (hq : ∀ q, (Value.slice A its.length c).ownBlock = some q → q ∉ Fs') (hm : HM w4 g s1 l S sp Fs' Fg) (ht : Touch Fs w3 w4) (hn : ∀ q ∈ Fs', q ∈ Fs ∨ w3.heap.size ≤ q) (t6 : Touch [b4] w4 w6) :
  ycd VD w g s (hF S Fs Fg) a (.returned (.agg #[.int .i64 er, .string val, .slice A its.length c, .bool more, .string nx, .int .i64 nd])) w6 := by
 have hz := hb.size
 have hl := h.all_lt
 have hlf : ∀ q ∈ Fs, q < w.heap.size := fun q y => hl q (yau.2 (.inr (.inl y)))
 refine ⟨⟨er, val, its, more, nx, nd⟩, s1, .slice A its.length c, hF S Fs' Fg, hd, rfl, ybp (t6.row ho (fun q y z => ?_)) hz, fun q y z => ?_, ⟨l, S, sp, Fs', Fg, hm.touch t6 (fun q y z => ?_), rfl⟩, ?_, fun q y => ?_⟩
 ·have := (ho.lt q y).1
  have e := List.mem_singleton.1 z
  omega
 ·have := (ho.lt q y).1
  rcases yau.1 z with x | x | x
  ·have := hl q (yau.2 (.inl x)); omega
  ·exact hq q y x
  ·have := hl q (yau.2 (.inr (.inr x))); omega
 ·have e := List.mem_singleton.1 z
  rcases yau.1 y with x | x | x
  ·have := hl q (yau.2 (.inl x)); omega
  ·rcases hn q x with u | u
   ·have := hlf q u; omega
   ·omega
  ·have := hl q (yau.2 (.inr (.inr x))); omega
 ·exact (((Touch.ofBelow hb).trans ht (fun q y => .inl (yau.2 (.inr (.inl y))))).trans t6 (fun q y => .inr (by rw [List.mem_singleton.1 y]; exact h4')))
 ·rcases yau.1 y with x | x | x
  ·exact .inl (yau.2 (.inl x))
  ·rcases hn q x with u | u
   ·exact .inl (yau.2 (.inr (.inl u)))
   ·exact .inr (by omega)
  ·exact .inl (yau.2 (.inr (.inr x)))
theorem ycd.out {w3 w6 : World} {b4 : Nat} {er nd : Int} (h : HM w g s l S sp Fs Fg) (hb : Below w.heap.size w w3) (h4 : b4 < w3.heap.size) (h4' : w.heap.size ≤ b4) (hd : s.bar a = some ⟨er, ⟨#[]⟩, [], false, ⟨#[]⟩, nd⟩) (t6 : Touch [b4] w3 w6) : ycd VD w g s (hF S Fs Fg) a (.returned (.agg #[.int .i64 er, .string ⟨#[]⟩, .slice none 0 0, .bool false, .string ⟨#[]⟩, .int .i64 nd])) w6 :=
 ycd.of (its := []) (A := none) (c := 0) (Fs' := Fs) h hb h4 h4' (by unfold Did; rw [hd]; exact ⟨rfl, rfl⟩) (World.ownsRow_nil _ _ _ _) (fun q hq => (by cases hq)) (h.below hb) (Touch.refl _ _) (fun _ hq => .inl hq) t6
end
theorem yzl {w : World} {g : Nat} {s : HO} {F : List Nat} (a : AK) (ha : a.Fit) (hk : s.k ≤ 1000) (hv : VD w g s F) : Calls Tryz.prog 21 #[.pointer (some ⟨g, 0, none⟩), .agg a.cells] w (ycd VD w g s F a) := by
 obtain ⟨l, S, sp, Fs, Fg, h, rfl⟩ := hv
 have B0 : Below w.heap.size w ((w.alloc (.cells a.cells 45)).alloc (.cells tz 47)) := ((Below.refl _ _).alloc (Nat.le_refl _) _).alloc (by simp) _
 have hxa := (Bx.new w a.cells 45).old (.cells tz 47)
 have hx := Bx.new (w.alloc (.cells a.cells 45)) tz 47
 simp only [World.size_alloc] at hx
 have h1 := h.below B0
 have CN := Lib.hid (ydb g sp _ h1.c4)
 have HH := Lib.hid h
 have CR := Lib.hid (fun W => yy7 a ha W)
 have CA := Lib.hid (fun W => ylp a.key W ha.key)
 have hx9 := yhh a.key
 have CH : Hid (∀ W, HM W g s l S sp Fs Fg → Calls Tryz.prog 30 #[.pointer (some ⟨g, 0, none⟩), .int .u64 (yac a.key : Nat)] W fun e w' => e = .returned (.bool (s.own (yac a.key)).isSome) ∧ Below W.heap.size W w') := fun W h' => ypf _ hx9 hk ⟨l, S, sp, Fs, Fg, h', rfl⟩
 have CE0 : Hid (∀ W, HM W g s l S sp Fs Fg → Calls Tryz.prog 56 #[.pointer (some ⟨g, 0, none⟩), .int .u64 (yac a.key : Nat)] W fun e w' => e = .returned (.agg #[.int .i64 8, .string ⟨#[]⟩, .slice none 0 0, .bool false, .string ⟨#[]⟩, .int .i64 ((yao s.g.l (yac a.key)).getD (-1))]) ∧ Below W.heap.size W w') := fun W h' => yy8 _ hx9 h'
 have CZ : Hid (∀ W, HM W g s l S sp Fs Fg → Calls Tryz.prog 57 #[.pointer (some ⟨g, 5, none⟩), .int .u64 (yac a.key : Nat)] W fun e w' => e = .returned (.bool (s.g.frozen (yac a.key))) ∧ Below W.heap.size W w') := fun W h' => Gi.gateFrozen_any _ hx9 h'.gate
 have HFL : Hid (∀ q ∈ Fs, q < w.heap.size) := fun q y => h.shelf.ltF q y
 have HAF := Lib.hid ha
 have HKK := Lib.hid hk
 clear h ha hk hx9
 by_cases hr : ycv a = 0
 case neg =>
  have HBR := Lib.hid (yzf (s := s) hr)
  have r1 : (ycv a != 0) = true := by rw [bne_iff_ne]; exact hr
  generalize ycv a = r at *
  clear hr
  obtain ⟨op, key, val, tt, most⟩ := a
  dsimp only [AK.cells] at *
  go_enter Tryz.func21, Tryz.ntmps21
  go_upto_region 1 with fail
  obtain ⟨b3, hb3⟩ : ∃ b3, w.heap.size = b3 := ⟨_, rfl⟩
  have HB3b : Hid (w.heap.size ≤ b3) := Nat.le_of_eq hb3
  rw [hb3] at hx hxa
  obtain ⟨w0, hw0⟩ : ∃ w0, (w.alloc (.cells #[.int .i64 op, .string key, .string val, .string tt, .int .i64 most] 45)).alloc (.cells tz 47) = w0 := ⟨_, rfl⟩
  rw [hw0] at B0 hx hxa h1 CN ⊢
  try rw [hb3]
  clear hw0 hb3
  have HB0 := Lib.hid B0
  have HA0 := Lib.hid hxa
  have HX0 := Lib.hid hx
  have H0 := Lib.hid h1
  obtain ⟨b4, hb4⟩ : ∃ b4, b3 + 1 = b4 := ⟨_, rfl⟩
  have HB4 : Hid (w.heap.size ≤ b4) := by have := HB3b.out; show _ ≤ _; omega
  rw [hb4] at hx HX0 ⊢
  clear hb4
  obtain ⟨x0, x1, x2, x3, x4, xl⟩ := hxa.five
  clear B0 hx hxa h1
  go_wp2_with (first | (go_at_call 53; (with_reducible refine (CN.out).mono ?_); rintro e wn ⟨rfl, rfl⟩) | (go_at_call 54; (with_reducible refine (CR.out _).mono ?_); rintro e w1 ⟨rfl, hb1⟩; have HB1 := Lib.hid (acc HB0.out hb1); have HA1 := Lib.hid (HA0.out.below hb1); have HX1 := Lib.hid (HX0.out.below hb1); have H1 := Lib.hid (H0.out.below hb1); obtain ⟨x0, x1, x2, x3, x4, xl⟩ := HA1.out.five; obtain ⟨z0, z1, z2, z3, z4, z5, zl⟩ := HX1.out.six; obtain ⟨f0, f1, f2, f3, f4, f5⟩ := HX1.out.free6; clear hb1))
  refine bodyPost_ret (v := .agg #[.int .i64 r, .string ⟨#[]⟩, .slice none 0 0, .bool false, .string ⟨#[]⟩, .int .i64 0]) ?_ rfl ?_
  ·obtain ⟨s0, s1', s2, s3, s4, s5, _⟩ := (HX1.out.put6 (.int .i64 r) (.string ⟨#[]⟩) (.slice none 0 0) (.bool false) (.string ⟨#[]⟩) (.int .i64 0)).six
   simp [results, Tryz.results21, go_sem, s0, s1', s2, s3, s4, s5]
  ·exact ycd.out HH.out HB1.out HX1.out.six.2.2.2.2.2.2 HB4.out HBR.out (yb3 (Touch.refl _ _) (by simp) _ _ _ _ _ _)
 case pos =>
  have HBE := Lib.hid (yzg (s := s) hr)
  have HRZ := Lib.hid hr
  rw [hr] at CR
  obtain ⟨b, hb⟩ : ∃ b, (s.own (yac a.key)).isSome = b := ⟨_, rfl⟩
  rw [hb] at CH
  cases b
  ·have HBR : Hid (s.bar a = some ⟨8, ⟨#[]⟩, [], false, ⟨#[]⟩, (yao s.g.l (yac a.key)).getD (-1)⟩) := by
    show _ = _
    rw [HBE.out, if_pos (by cases z : s.own (yac a.key) with | none => rfl | some v => rw [z] at hb; cases hb)]
   have CE := CE0
   generalize (yao s.g.l (yac a.key)).getD (-1) = en at *
   obtain ⟨x, hxk⟩ : ∃ x, yac a.key = x := ⟨_, rfl⟩
   rw [hxk] at CA CH CE
   clear hr hb hxk
   obtain ⟨op, key, val, tt, most⟩ := a
   dsimp only [AK.cells] at *
   go_enter Tryz.func21, Tryz.ntmps21
   go_upto_region 1 with fail
   obtain ⟨b3, hb3⟩ : ∃ b3, w.heap.size = b3 := ⟨_, rfl⟩
   have HB3b : Hid (w.heap.size ≤ b3) := Nat.le_of_eq hb3
   rw [hb3] at hx hxa
   obtain ⟨w0, hw0⟩ : ∃ w0, (w.alloc (.cells #[.int .i64 op, .string key, .string val, .string tt, .int .i64 most] 45)).alloc (.cells tz 47) = w0 := ⟨_, rfl⟩
   rw [hw0] at B0 hx hxa h1 CN ⊢
   try rw [hb3]
   clear hw0 hb3
   have HB0 := Lib.hid B0
   have HA0 := Lib.hid hxa
   have HX0 := Lib.hid hx
   have H0 := Lib.hid h1
   obtain ⟨b4, hb4⟩ : ∃ b4, b3 + 1 = b4 := ⟨_, rfl⟩
   have HB4 : Hid (w.heap.size ≤ b4) := by have := HB3b.out; show _ ≤ _; omega
   rw [hb4] at hx HX0 ⊢
   clear hb4
   obtain ⟨x0, x1, x2, x3, x4, xl⟩ := hxa.five
   clear B0 hx hxa h1
   go_wp2_with (first | (go_at_call 53; (with_reducible refine (CN.out).mono ?_); rintro e wn ⟨rfl, rfl⟩) | (go_at_call 54; (with_reducible refine (CR.out _).mono ?_); rintro e w1 ⟨rfl, hb1⟩; have HB1 := Lib.hid (acc HB0.out hb1); have HA1 := Lib.hid (HA0.out.below hb1); have HX1 := Lib.hid (HX0.out.below hb1); have H1 := Lib.hid (H0.out.below hb1); obtain ⟨x0, x1, x2, x3, x4, xl⟩ := HA1.out.five; obtain ⟨z0, z1, z2, z3, z4, z5, zl⟩ := HX1.out.six; obtain ⟨f0, f1, f2, f3, f4, f5⟩ := HX1.out.free6; clear hb1) | (go_at_call 55; (with_reducible refine (CA.out _).mono ?_); rintro e wa ⟨rfl, rfl⟩) | (go_at_call 30; (with_reducible refine (CH.out _ H1.out).mono ?_); rintro e w2 ⟨rfl, hb2⟩; have HB2 := Lib.hid (acc HB1.out hb2); have HA2 := Lib.hid (HA1.out.below hb2); have HX2 := Lib.hid (HX1.out.below hb2); have H2 := Lib.hid (H1.out.below hb2); obtain ⟨x0, x1, x2, x3, x4, xl⟩ := HA2.out.five; obtain ⟨z0, z1, z2, z3, z4, z5, zl⟩ := HX2.out.six; obtain ⟨f0, f1, f2, f3, f4, f5⟩ := HX2.out.free6; clear hb2) | (go_at_call 56; (with_reducible refine (CE.out _ H2.out).mono ?_); rintro e w3 ⟨rfl, hb3⟩; have HB3 := Lib.hid (acc HB2.out hb3); have HA3 := Lib.hid (HA2.out.below hb3); have HX3 := Lib.hid (HX2.out.below hb3); have H3 := Lib.hid (H2.out.below hb3); obtain ⟨x0, x1, x2, x3, x4, xl⟩ := HA3.out.five; obtain ⟨z0, z1, z2, z3, z4, z5, zl⟩ := HX3.out.six; obtain ⟨f0, f1, f2, f3, f4, f5⟩ := HX3.out.free6; clear hb3))
   refine bodyPost_ret (v := .agg #[.int .i64 8, .string ⟨#[]⟩, .slice none 0 0, .bool false, .string ⟨#[]⟩, .int .i64 en]) ?_ rfl ?_
   ·obtain ⟨s0, s1', s2, s3, s4, s5, _⟩ := (HX3.out.put6 (.int .i64 8) (.string ⟨#[]⟩) (.slice none 0 0) (.bool false) (.string ⟨#[]⟩) (.int .i64 en)).six
    simp [results, Tryz.results21, go_sem, s0, s1', s2, s3, s4, s5]
   ·exact ycd.out HH.out HB3.out HX3.out.six.2.2.2.2.2.2 HB4.out HBR.out (yb3 (Touch.refl _ _) (by simp) _ _ _ _ _ _)
  ·have HOX : Hid (s.own (yac a.key) ≠ none) := fun z => by rw [z] at hb; cases hb
   obtain ⟨fz, hfz⟩ : ∃ fz, s.g.frozen (yac a.key) = fz := ⟨_, rfl⟩
   rw [hfz] at CZ
   cases fz
   case true =>
    have HBR : Hid (s.bar a = some (TL.err 7)) := by
     show _ = _
     rw [HBE.out, if_neg HOX.out, if_pos hfz]
    obtain ⟨x, hxk⟩ : ∃ x, yac a.key = x := ⟨_, rfl⟩
    rw [hxk] at CA CH CZ
    clear hr hb hxk hfz
    obtain ⟨op, key, val, tt, most⟩ := a
    dsimp only [AK.cells] at *
    go_enter Tryz.func21, Tryz.ntmps21
    go_upto_region 1 with fail
    obtain ⟨b3, hb3⟩ : ∃ b3, w.heap.size = b3 := ⟨_, rfl⟩
    have HB3b : Hid (w.heap.size ≤ b3) := Nat.le_of_eq hb3
    rw [hb3] at hx hxa
    obtain ⟨w0, hw0⟩ : ∃ w0, (w.alloc (.cells #[.int .i64 op, .string key, .string val, .string tt, .int .i64 most] 45)).alloc (.cells tz 47) = w0 := ⟨_, rfl⟩
    rw [hw0] at B0 hx hxa h1 CN ⊢
    try rw [hb3]
    clear hw0 hb3
    have HB0 := Lib.hid B0
    have HA0 := Lib.hid hxa
    have HX0 := Lib.hid hx
    have H0 := Lib.hid h1
    obtain ⟨b4, hb4⟩ : ∃ b4, b3 + 1 = b4 := ⟨_, rfl⟩
    have HB4 : Hid (w.heap.size ≤ b4) := by have := HB3b.out; show _ ≤ _; omega
    rw [hb4] at hx HX0 ⊢
    clear hb4
    obtain ⟨x0, x1, x2, x3, x4, xl⟩ := hxa.five
    clear B0 hx hxa h1
    go_wp2_with (first | (go_at_call 53; (with_reducible refine (CN.out).mono ?_); rintro e wn ⟨rfl, rfl⟩) | (go_at_call 54; (with_reducible refine (CR.out _).mono ?_); rintro e w1 ⟨rfl, hb1⟩; have HB1 := Lib.hid (acc HB0.out hb1); have HA1 := Lib.hid (HA0.out.below hb1); have HX1 := Lib.hid (HX0.out.below hb1); have H1 := Lib.hid (H0.out.below hb1); obtain ⟨x0, x1, x2, x3, x4, xl⟩ := HA1.out.five; obtain ⟨z0, z1, z2, z3, z4, z5, zl⟩ := HX1.out.six; obtain ⟨f0, f1, f2, f3, f4, f5⟩ := HX1.out.free6; clear hb1) | (go_at_call 55; (with_reducible refine (CA.out _).mono ?_); rintro e wa ⟨rfl, rfl⟩) | (go_at_call 30; (with_reducible refine (CH.out _ H1.out).mono ?_); rintro e w2 ⟨rfl, hb2⟩; have HB2 := Lib.hid (acc HB1.out hb2); have HA2 := Lib.hid (HA1.out.below hb2); have HX2 := Lib.hid (HX1.out.below hb2); have H2 := Lib.hid (H1.out.below hb2); obtain ⟨x0, x1, x2, x3, x4, xl⟩ := HA2.out.five; obtain ⟨z0, z1, z2, z3, z4, z5, zl⟩ := HX2.out.six; obtain ⟨f0, f1, f2, f3, f4, f5⟩ := HX2.out.free6; clear hb2) | (go_at_call 57; (with_reducible refine (CZ.out _ H2.out).mono ?_); rintro e w3 ⟨rfl, hb3⟩; have HB3 := Lib.hid (acc HB2.out hb3); have HA3 := Lib.hid (HA2.out.below hb3); have HX3 := Lib.hid (HX2.out.below hb3); have H3 := Lib.hid (H2.out.below hb3); obtain ⟨x0, x1, x2, x3, x4, xl⟩ := HA3.out.five; obtain ⟨z0, z1, z2, z3, z4, z5, zl⟩ := HX3.out.six; obtain ⟨f0, f1, f2, f3, f4, f5⟩ := HX3.out.free6; clear hb3))
    refine bodyPost_ret (v := .agg #[.int .i64 7, .string ⟨#[]⟩, .slice none 0 0, .bool false, .string ⟨#[]⟩, .int .i64 0]) ?_ rfl ?_
    ·obtain ⟨s0, s1', s2, s3, s4, s5, _⟩ := (HX3.out.put6 (.int .i64 7) (.string ⟨#[]⟩) (.slice none 0 0) (.bool false) (.string ⟨#[]⟩) (.int .i64 0)).six
     simp [results, Tryz.results21, go_sem, s0, s1', s2, s3, s4, s5]
    ·exact ycd.out HH.out HB3.out HX3.out.six.2.2.2.2.2.2 HB4.out HBR.out (yb3 (Touch.refl _ _) (by simp) _ _ _ _ _ _)
   case false =>
    have HBN : Hid (s.bar a = none) := by
     show _ = _
     rw [HBE.out, if_neg HOX.out, if_neg (by rw [hfz]; exact Bool.false_ne_true)]
    have HFZ := Lib.hid hfz
    have HNF : Hid (∀ n, w.heap.size ≤ n → w.heap.size ∉ Fs) := fun n hn z => absurd (HFL.out _ z) (Nat.lt_irrefl _)
    have hop := (ykw hr).1
    rcases (show a.op = 1 ∨ a.op = 2 ∨ a.op = 3 ∨ a.op = 4 by omega) with ho | ho | ho | ho
    ·have CO : Hid (∀ W, HM W g s l S sp Fs Fg → Calls Tryz.prog 58 #[.pointer (some ⟨g, 0, none⟩), .string a.key] W (yek W g sp s l S Fs Fg a)) := fun W h' => yzh h' HBN.out ho
     obtain ⟨x, hxk⟩ : ∃ x, yac a.key = x := ⟨_, rfl⟩
     rw [hxk] at CA CH CZ
     clear hr hb hxk hfz hop HNF
     obtain ⟨op, key, val, tt, most⟩ := a
     dsimp only [AK.cells] at *
     subst ho
     go_enter Tryz.func21, Tryz.ntmps21
     go_upto_region 1 with fail
     obtain ⟨b3, hb3⟩ : ∃ b3, w.heap.size = b3 := ⟨_, rfl⟩
     have HB3b : Hid (w.heap.size ≤ b3) := Nat.le_of_eq hb3
     rw [hb3] at hx hxa
     obtain ⟨w0, hw0⟩ : ∃ w0, (w.alloc (.cells #[.int .i64 1, .string key, .string val, .string tt, .int .i64 most] 45)).alloc (.cells tz 47) = w0 := ⟨_, rfl⟩
     rw [hw0] at B0 hx hxa h1 CN ⊢
     try rw [hb3]
     clear hw0 hb3
     have HB0 := Lib.hid B0
     have HA0 := Lib.hid hxa
     have HX0 := Lib.hid hx
     have H0 := Lib.hid h1
     obtain ⟨b4, hb4⟩ : ∃ b4, b3 + 1 = b4 := ⟨_, rfl⟩
     have HB4 : Hid (w.heap.size ≤ b4) := by have := HB3b.out; show _ ≤ _; omega
     rw [hb4] at hx HX0 ⊢
     clear hb4
     obtain ⟨x0, x1, x2, x3, x4, xl⟩ := hxa.five
     clear B0 hx hxa h1
     have HNF : Hid (∀ n, w.heap.size ≤ n → b4 ∉ Fs) := fun n _ z => by have := HFL.out _ z; have := HB4.out; omega
     go_wp2_with (first | (go_at_call 53; (with_reducible refine (CN.out).mono ?_); rintro e wn ⟨rfl, rfl⟩) | (go_at_call 54; (with_reducible refine (CR.out _).mono ?_); rintro e w1 ⟨rfl, hb1⟩; have HB1 := Lib.hid (acc HB0.out hb1); have HA1 := Lib.hid (HA0.out.below hb1); have HX1 := Lib.hid (HX0.out.below hb1); have H1 := Lib.hid (H0.out.below hb1); obtain ⟨x0, x1, x2, x3, x4, xl⟩ := HA1.out.five; obtain ⟨z0, z1, z2, z3, z4, z5, zl⟩ := HX1.out.six; obtain ⟨f0, f1, f2, f3, f4, f5⟩ := HX1.out.free6; clear hb1) | (go_at_call 55; (with_reducible refine (CA.out _).mono ?_); rintro e wa ⟨rfl, rfl⟩) | (go_at_call 30; (with_reducible refine (CH.out _ H1.out).mono ?_); rintro e w2 ⟨rfl, hb2⟩; have HB2 := Lib.hid (acc HB1.out hb2); have HA2 := Lib.hid (HA1.out.below hb2); have HX2 := Lib.hid (HX1.out.below hb2); have H2 := Lib.hid (H1.out.below hb2); obtain ⟨x0, x1, x2, x3, x4, xl⟩ := HA2.out.five; obtain ⟨z0, z1, z2, z3, z4, z5, zl⟩ := HX2.out.six; obtain ⟨f0, f1, f2, f3, f4, f5⟩ := HX2.out.free6; clear hb2) | (go_at_call 57; (with_reducible refine (CZ.out _ H2.out).mono ?_); rintro e w3 ⟨rfl, hb3⟩; have HB3 := Lib.hid (acc HB2.out hb3); have HA3 := Lib.hid (HA2.out.below hb3); have HX3 := Lib.hid (HX2.out.below hb3); have H3 := Lib.hid (H2.out.below hb3); obtain ⟨x0, x1, x2, x3, x4, xl⟩ := HA3.out.five; obtain ⟨z0, z1, z2, z3, z4, z5, zl⟩ := HX3.out.six; obtain ⟨f0, f1, f2, f3, f4, f5⟩ := HX3.out.free6; clear hb3) | (go_at_call 58; (with_reducible refine (CO.out _ H3.out).mono ?_); rintro e w4 ⟨er, val', its, more, nx, nd, s1, A, c, Fs', hd, rfl, ho, hq, hm, ht, hn⟩; have HD4 := Lib.hid hd; have HO4 := Lib.hid ho; have HQ4 := Lib.hid hq; have H4 := Lib.hid hm; have HT4 := Lib.hid ht; have HN4 := Lib.hid hn; have HX4 := Lib.hid (HX3.out.touch ht (HNF.out _ (Nat.le_refl _))); obtain ⟨z0, z1, z2, z3, z4, z5, zl⟩ := HX4.out.six; obtain ⟨f0, f1, f2, f3, f4, f5⟩ := HX4.out.free6; clear hd ho hq hm ht hn))
     refine bodyPost_ret (v := .agg #[.int .i64 er, .string val', .slice A its.length c, .bool more, .string nx, .int .i64 nd]) ?_ rfl ?_
     ·obtain ⟨s0, s1', s2, s3, s4, s5, _⟩ := (HX4.out.put6 (.int .i64 er) (.string val') (.slice A its.length c) (.bool more) (.string nx) (.int .i64 nd)).six
      simp [results, Tryz.results21, go_sem, s0, s1', s2, s3, s4, s5]
     ·exact ycd.of HH.out HB3.out HX3.out.six.2.2.2.2.2.2 HB4.out HD4.out HO4.out HQ4.out H4.out HT4.out HN4.out (yb3 (Touch.refl _ _) (by simp) _ _ _ _ _ _)
    ·have CO : Hid (∀ W, HM W g s l S sp Fs Fg → Calls Tryz.prog 59 #[.pointer (some ⟨g, 0, none⟩), .string a.key, .string a.val] W (yek W g sp s l S Fs Fg a)) := fun W h' => yzi h' HAF.out HRZ.out HBN.out ho
     obtain ⟨x, hxk⟩ : ∃ x, yac a.key = x := ⟨_, rfl⟩
     rw [hxk] at CA CH CZ
     clear hr hb hxk hfz hop HNF
     obtain ⟨op, key, val, tt, most⟩ := a
     dsimp only [AK.cells] at *
     subst ho
     go_enter Tryz.func21, Tryz.ntmps21
     go_upto_region 1 with fail
     obtain ⟨b3, hb3⟩ : ∃ b3, w.heap.size = b3 := ⟨_, rfl⟩
     have HB3b : Hid (w.heap.size ≤ b3) := Nat.le_of_eq hb3
     rw [hb3] at hx hxa
     obtain ⟨w0, hw0⟩ : ∃ w0, (w.alloc (.cells #[.int .i64 2, .string key, .string val, .string tt, .int .i64 most] 45)).alloc (.cells tz 47) = w0 := ⟨_, rfl⟩
     rw [hw0] at B0 hx hxa h1 CN ⊢
     try rw [hb3]
     clear hw0 hb3
     have HB0 := Lib.hid B0
     have HA0 := Lib.hid hxa
     have HX0 := Lib.hid hx
     have H0 := Lib.hid h1
     obtain ⟨b4, hb4⟩ : ∃ b4, b3 + 1 = b4 := ⟨_, rfl⟩
     have HB4 : Hid (w.heap.size ≤ b4) := by have := HB3b.out; show _ ≤ _; omega
     rw [hb4] at hx HX0 ⊢
     clear hb4
     obtain ⟨x0, x1, x2, x3, x4, xl⟩ := hxa.five
     clear B0 hx hxa h1
     have HNF : Hid (∀ n, w.heap.size ≤ n → b4 ∉ Fs) := fun n _ z => by have := HFL.out _ z; have := HB4.out; omega
     go_wp2_with (first | (go_at_call 53; (with_reducible refine (CN.out).mono ?_); rintro e wn ⟨rfl, rfl⟩) | (go_at_call 54; (with_reducible refine (CR.out _).mono ?_); rintro e w1 ⟨rfl, hb1⟩; have HB1 := Lib.hid (acc HB0.out hb1); have HA1 := Lib.hid (HA0.out.below hb1); have HX1 := Lib.hid (HX0.out.below hb1); have H1 := Lib.hid (H0.out.below hb1); obtain ⟨x0, x1, x2, x3, x4, xl⟩ := HA1.out.five; obtain ⟨z0, z1, z2, z3, z4, z5, zl⟩ := HX1.out.six; obtain ⟨f0, f1, f2, f3, f4, f5⟩ := HX1.out.free6; clear hb1) | (go_at_call 55; (with_reducible refine (CA.out _).mono ?_); rintro e wa ⟨rfl, rfl⟩) | (go_at_call 30; (with_reducible refine (CH.out _ H1.out).mono ?_); rintro e w2 ⟨rfl, hb2⟩; have HB2 := Lib.hid (acc HB1.out hb2); have HA2 := Lib.hid (HA1.out.below hb2); have HX2 := Lib.hid (HX1.out.below hb2); have H2 := Lib.hid (H1.out.below hb2); obtain ⟨x0, x1, x2, x3, x4, xl⟩ := HA2.out.five; obtain ⟨z0, z1, z2, z3, z4, z5, zl⟩ := HX2.out.six; obtain ⟨f0, f1, f2, f3, f4, f5⟩ := HX2.out.free6; clear hb2) | (go_at_call 57; (with_reducible refine (CZ.out _ H2.out).mono ?_); rintro e w3 ⟨rfl, hb3⟩; have HB3 := Lib.hid (acc HB2.out hb3); have HA3 := Lib.hid (HA2.out.below hb3); have HX3 := Lib.hid (HX2.out.below hb3); have H3 := Lib.hid (H2.out.below hb3); obtain ⟨x0, x1, x2, x3, x4, xl⟩ := HA3.out.five; obtain ⟨z0, z1, z2, z3, z4, z5, zl⟩ := HX3.out.six; obtain ⟨f0, f1, f2, f3, f4, f5⟩ := HX3.out.free6; clear hb3) | (go_at_call 59; (with_reducible refine (CO.out _ H3.out).mono ?_); rintro e w4 ⟨er, val', its, more, nx, nd, s1, A, c, Fs', hd, rfl, ho, hq, hm, ht, hn⟩; have HD4 := Lib.hid hd; have HO4 := Lib.hid ho; have HQ4 := Lib.hid hq; have H4 := Lib.hid hm; have HT4 := Lib.hid ht; have HN4 := Lib.hid hn; have HX4 := Lib.hid (HX3.out.touch ht (HNF.out _ (Nat.le_refl _))); obtain ⟨z0, z1, z2, z3, z4, z5, zl⟩ := HX4.out.six; obtain ⟨f0, f1, f2, f3, f4, f5⟩ := HX4.out.free6; clear hd ho hq hm ht hn))
     refine bodyPost_ret (v := .agg #[.int .i64 er, .string val', .slice A its.length c, .bool more, .string nx, .int .i64 nd]) ?_ rfl ?_
     ·obtain ⟨s0, s1', s2, s3, s4, s5, _⟩ := (HX4.out.put6 (.int .i64 er) (.string val') (.slice A its.length c) (.bool more) (.string nx) (.int .i64 nd)).six
      simp [results, Tryz.results21, go_sem, s0, s1', s2, s3, s4, s5]
     ·exact ycd.of HH.out HB3.out HX3.out.six.2.2.2.2.2.2 HB4.out HD4.out HO4.out HQ4.out H4.out HT4.out HN4.out (yb3 (Touch.refl _ _) (by simp) _ _ _ _ _ _)
    ·have CO : Hid (∀ W, HM W g s l S sp Fs Fg → Calls Tryz.prog 60 #[.pointer (some ⟨g, 0, none⟩), .string a.key] W (yek W g sp s l S Fs Fg a)) := fun W h' => yzj h' HBN.out ho
     obtain ⟨x, hxk⟩ : ∃ x, yac a.key = x := ⟨_, rfl⟩
     rw [hxk] at CA CH CZ
     clear hr hb hxk hfz hop HNF
     obtain ⟨op, key, val, tt, most⟩ := a
     dsimp only [AK.cells] at *
     subst ho
     go_enter Tryz.func21, Tryz.ntmps21
     go_upto_region 1 with fail
     obtain ⟨b3, hb3⟩ : ∃ b3, w.heap.size = b3 := ⟨_, rfl⟩
     have HB3b : Hid (w.heap.size ≤ b3) := Nat.le_of_eq hb3
     rw [hb3] at hx hxa
     obtain ⟨w0, hw0⟩ : ∃ w0, (w.alloc (.cells #[.int .i64 3, .string key, .string val, .string tt, .int .i64 most] 45)).alloc (.cells tz 47) = w0 := ⟨_, rfl⟩
     rw [hw0] at B0 hx hxa h1 CN ⊢
     try rw [hb3]
     clear hw0 hb3
     have HB0 := Lib.hid B0
     have HA0 := Lib.hid hxa
     have HX0 := Lib.hid hx
     have H0 := Lib.hid h1
     obtain ⟨b4, hb4⟩ : ∃ b4, b3 + 1 = b4 := ⟨_, rfl⟩
     have HB4 : Hid (w.heap.size ≤ b4) := by have := HB3b.out; show _ ≤ _; omega
     rw [hb4] at hx HX0 ⊢
     clear hb4
     obtain ⟨x0, x1, x2, x3, x4, xl⟩ := hxa.five
     clear B0 hx hxa h1
     have HNF : Hid (∀ n, w.heap.size ≤ n → b4 ∉ Fs) := fun n _ z => by have := HFL.out _ z; have := HB4.out; omega
     go_wp2_with (first | (go_at_call 53; (with_reducible refine (CN.out).mono ?_); rintro e wn ⟨rfl, rfl⟩) | (go_at_call 54; (with_reducible refine (CR.out _).mono ?_); rintro e w1 ⟨rfl, hb1⟩; have HB1 := Lib.hid (acc HB0.out hb1); have HA1 := Lib.hid (HA0.out.below hb1); have HX1 := Lib.hid (HX0.out.below hb1); have H1 := Lib.hid (H0.out.below hb1); obtain ⟨x0, x1, x2, x3, x4, xl⟩ := HA1.out.five; obtain ⟨z0, z1, z2, z3, z4, z5, zl⟩ := HX1.out.six; obtain ⟨f0, f1, f2, f3, f4, f5⟩ := HX1.out.free6; clear hb1) | (go_at_call 55; (with_reducible refine (CA.out _).mono ?_); rintro e wa ⟨rfl, rfl⟩) | (go_at_call 30; (with_reducible refine (CH.out _ H1.out).mono ?_); rintro e w2 ⟨rfl, hb2⟩; have HB2 := Lib.hid (acc HB1.out hb2); have HA2 := Lib.hid (HA1.out.below hb2); have HX2 := Lib.hid (HX1.out.below hb2); have H2 := Lib.hid (H1.out.below hb2); obtain ⟨x0, x1, x2, x3, x4, xl⟩ := HA2.out.five; obtain ⟨z0, z1, z2, z3, z4, z5, zl⟩ := HX2.out.six; obtain ⟨f0, f1, f2, f3, f4, f5⟩ := HX2.out.free6; clear hb2) | (go_at_call 57; (with_reducible refine (CZ.out _ H2.out).mono ?_); rintro e w3 ⟨rfl, hb3⟩; have HB3 := Lib.hid (acc HB2.out hb3); have HA3 := Lib.hid (HA2.out.below hb3); have HX3 := Lib.hid (HX2.out.below hb3); have H3 := Lib.hid (H2.out.below hb3); obtain ⟨x0, x1, x2, x3, x4, xl⟩ := HA3.out.five; obtain ⟨z0, z1, z2, z3, z4, z5, zl⟩ := HX3.out.six; obtain ⟨f0, f1, f2, f3, f4, f5⟩ := HX3.out.free6; clear hb3) | (go_at_call 60; (with_reducible refine (CO.out _ H3.out).mono ?_); rintro e w4 ⟨er, val', its, more, nx, nd, s1, A, c, Fs', hd, rfl, ho, hq, hm, ht, hn⟩; have HD4 := Lib.hid hd; have HO4 := Lib.hid ho; have HQ4 := Lib.hid hq; have H4 := Lib.hid hm; have HT4 := Lib.hid ht; have HN4 := Lib.hid hn; have HX4 := Lib.hid (HX3.out.touch ht (HNF.out _ (Nat.le_refl _))); obtain ⟨z0, z1, z2, z3, z4, z5, zl⟩ := HX4.out.six; obtain ⟨f0, f1, f2, f3, f4, f5⟩ := HX4.out.free6; clear hd ho hq hm ht hn))
     refine bodyPost_ret (v := .agg #[.int .i64 er, .string val', .slice A its.length c, .bool more, .string nx, .int .i64 nd]) ?_ rfl ?_
     ·obtain ⟨s0, s1', s2, s3, s4, s5, _⟩ := (HX4.out.put6 (.int .i64 er) (.string val') (.slice A its.length c) (.bool more) (.string nx) (.int .i64 nd)).six
      simp [results, Tryz.results21, go_sem, s0, s1', s2, s3, s4, s5]
     ·exact ycd.of HH.out HB3.out HX3.out.six.2.2.2.2.2.2 HB4.out HD4.out HO4.out HQ4.out H4.out HT4.out HN4.out (yb3 (Touch.refl _ _) (by simp) _ _ _ _ _ _)
    ·have CO : Hid (∀ W, HM W g s l S sp Fs Fg → Calls Tryz.prog 61 #[.pointer (some ⟨g, 0, none⟩), .agg a.cells] W (yek W g sp s l S Fs Fg a)) := fun W h' => yzk h' HAF.out HBN.out ho HOX.out HFZ.out HKK.out
     obtain ⟨x, hxk⟩ : ∃ x, yac a.key = x := ⟨_, rfl⟩
     rw [hxk] at CA CH CZ
     clear hr hb hxk hfz hop HNF
     obtain ⟨op, key, val, tt, most⟩ := a
     dsimp only [AK.cells] at *
     subst ho
     go_enter Tryz.func21, Tryz.ntmps21
     go_upto_region 1 with fail
     obtain ⟨b3, hb3⟩ : ∃ b3, w.heap.size = b3 := ⟨_, rfl⟩
     have HB3b : Hid (w.heap.size ≤ b3) := Nat.le_of_eq hb3
     rw [hb3] at hx hxa
     obtain ⟨w0, hw0⟩ : ∃ w0, (w.alloc (.cells #[.int .i64 4, .string key, .string val, .string tt, .int .i64 most] 45)).alloc (.cells tz 47) = w0 := ⟨_, rfl⟩
     rw [hw0] at B0 hx hxa h1 CN ⊢
     try rw [hb3]
     clear hw0 hb3
     have HB0 := Lib.hid B0
     have HA0 := Lib.hid hxa
     have HX0 := Lib.hid hx
     have H0 := Lib.hid h1
     obtain ⟨b4, hb4⟩ : ∃ b4, b3 + 1 = b4 := ⟨_, rfl⟩
     have HB4 : Hid (w.heap.size ≤ b4) := by have := HB3b.out; show _ ≤ _; omega
     rw [hb4] at hx HX0 ⊢
     clear hb4
     obtain ⟨x0, x1, x2, x3, x4, xl⟩ := hxa.five
     clear B0 hx hxa h1
     have HNF : Hid (∀ n, w.heap.size ≤ n → b4 ∉ Fs) := fun n _ z => by have := HFL.out _ z; have := HB4.out; omega
     go_wp2_with (first | (go_at_call 53; (with_reducible refine (CN.out).mono ?_); rintro e wn ⟨rfl, rfl⟩) | (go_at_call 54; (with_reducible refine (CR.out _).mono ?_); rintro e w1 ⟨rfl, hb1⟩; have HB1 := Lib.hid (acc HB0.out hb1); have HA1 := Lib.hid (HA0.out.below hb1); have HX1 := Lib.hid (HX0.out.below hb1); have H1 := Lib.hid (H0.out.below hb1); obtain ⟨x0, x1, x2, x3, x4, xl⟩ := HA1.out.five; obtain ⟨z0, z1, z2, z3, z4, z5, zl⟩ := HX1.out.six; obtain ⟨f0, f1, f2, f3, f4, f5⟩ := HX1.out.free6; clear hb1) | (go_at_call 55; (with_reducible refine (CA.out _).mono ?_); rintro e wa ⟨rfl, rfl⟩) | (go_at_call 30; (with_reducible refine (CH.out _ H1.out).mono ?_); rintro e w2 ⟨rfl, hb2⟩; have HB2 := Lib.hid (acc HB1.out hb2); have HA2 := Lib.hid (HA1.out.below hb2); have HX2 := Lib.hid (HX1.out.below hb2); have H2 := Lib.hid (H1.out.below hb2); obtain ⟨x0, x1, x2, x3, x4, xl⟩ := HA2.out.five; obtain ⟨z0, z1, z2, z3, z4, z5, zl⟩ := HX2.out.six; obtain ⟨f0, f1, f2, f3, f4, f5⟩ := HX2.out.free6; clear hb2) | (go_at_call 57; (with_reducible refine (CZ.out _ H2.out).mono ?_); rintro e w3 ⟨rfl, hb3⟩; have HB3 := Lib.hid (acc HB2.out hb3); have HA3 := Lib.hid (HA2.out.below hb3); have HX3 := Lib.hid (HX2.out.below hb3); have H3 := Lib.hid (H2.out.below hb3); obtain ⟨x0, x1, x2, x3, x4, xl⟩ := HA3.out.five; obtain ⟨z0, z1, z2, z3, z4, z5, zl⟩ := HX3.out.six; obtain ⟨f0, f1, f2, f3, f4, f5⟩ := HX3.out.free6; clear hb3) | (go_at_call 61; (with_reducible refine (CO.out _ H3.out).mono ?_); rintro e w4 ⟨er, val', its, more, nx, nd, s1, A, c, Fs', hd, rfl, ho, hq, hm, ht, hn⟩; have HD4 := Lib.hid hd; have HO4 := Lib.hid ho; have HQ4 := Lib.hid hq; have H4 := Lib.hid hm; have HT4 := Lib.hid ht; have HN4 := Lib.hid hn; have HX4 := Lib.hid (HX3.out.touch ht (HNF.out _ (Nat.le_refl _))); obtain ⟨z0, z1, z2, z3, z4, z5, zl⟩ := HX4.out.six; obtain ⟨f0, f1, f2, f3, f4, f5⟩ := HX4.out.free6; clear hd ho hq hm ht hn))
     refine bodyPost_ret (v := .agg #[.int .i64 er, .string val', .slice A its.length c, .bool more, .string nx, .int .i64 nd]) ?_ rfl ?_
     ·obtain ⟨s0, s1', s2, s3, s4, s5, _⟩ := (HX4.out.put6 (.int .i64 er) (.string val') (.slice A its.length c) (.bool more) (.string nx) (.int .i64 nd)).six
      simp [results, Tryz.results21, go_sem, s0, s1', s2, s3, s4, s5]
     ·exact ycd.of HH.out HB3.out HX3.out.six.2.2.2.2.2.2 HB4.out HD4.out HO4.out HQ4.out H4.out HT4.out HN4.out (yb3 (Touch.refl _ _) (by simp) _ _ _ _ _ _)
end Go.Proofs.YtnjodhglbapnlaaGreat
