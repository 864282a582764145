import Derived.Test.YtnjodhglbapnlaaGreatGg05
import Derived.Test.YtnjodhglbapnlaaGreatGg04
import Derived.Test.YtnjodhglbapnlaaGreatGg03
import Derived.Test.YtnjodhglbapnlaaGreatGg01
import Derived.Deep.CutBlock
import Derived.Deep.RegionHeld3
import Derived.BigQuiet
import Derived.RegionTactic
import Derived.ChangeAlike
set_option maxRecDepth 100000
set_option maxHeartbeats 16000000
namespace Go.Proofs.YtnjodhglbapnlaaGreat
open Go.RowKit
def VE (w : World) (r : Nat) (s : HO) (F : List Nat) : Prop := ∃ rs Fs l V Pt f t, RH w r rs Fs s l V Pt f t ∧ F = RH.blocks r rs Fs V Pt
theorem ygi {w : World} {r : Nat} {s : HO} {F : List Nat} (h : VE w r s F) : r ∈ F ∧ ∀ q ∈ F, q < w.heap.size := by
 obtain ⟨rs, Fs, l, V, Pt, f, t, h, rfl⟩ := h
 exact ⟨by simp, h.all_lt⟩
theorem yfp {w w1 : World} {r : Nat} {s : HO} {F G : List Nat} (h : VE w r s F) (t : Touch G w w1) (hG : ∀ q ∈ F, q ∉ G) : VE w1 r s F := by
 obtain ⟨rs, Fs, l, V, Pt, f, t', h, rfl⟩ := h
 exact ⟨rs, Fs, l, V, Pt, f, t', h.touch t hG, rfl⟩
def yr0 (w : World) (r : Nat) (F : List Nat) (v : Value) (s1 : HO) (e : Ending) (w' : World) : Prop :=
 ∃ F1, e = .returned v ∧ VE w' r s1 F1 ∧ Touch F w w' ∧ ∀ q ∈ F1, q ∈ F ∨ w.heap.size ≤ q
def LX (VD : World → Nat → HO → List Nat → Prop) (V w : World) (P : List Nat) (g : Nat) (s : HO) (r : Nat) (s2 : HO) : Prop :=
 ∃ Fy, DX VD V w (Fy ++ P) g s ∧ VE w r s2 Fy ∧ ∀ q ∈ Fy, V.heap.size ≤ q ∧ q ∉ P
section
variable {VD : World → Nat → HO → List Nat → Prop} {V w w1 : World} {P : List Nat} {g r : Nat} {s s1 s2 s3 : HO}
theorem LX.base (h : LX VD V w P g s r s2) : Below V.heap.size V w := by
 obtain ⟨Fy, h1, -, -⟩ := h
 exact h1.base
theorem LX.code (h : LX VD V w P g s r s2) : DX VD V w P g s := by
 obtain ⟨Fy, h1, -, -⟩ := h
 exact h1.less (fun q hq => List.mem_append_right _ hq)
theorem LX.below (L : ybg VD) (h : LX VD V w P g s r s2) (hb : Below w.heap.size w w1) : LX VD V w1 P g s r s2 := by
 obtain ⟨Fy, h1, h2, h3⟩ := h
 exact ⟨Fy, h1.below L hb, yfp h2 (Touch.ofBelow (F := []) hb) (by simp), h3⟩
theorem LX.less {Q : List Nat} (h : LX VD V w P g s r s2) (hQ : ∀ q ∈ Q, q ∈ P) : LX VD V w Q g s r s2 := by
 obtain ⟨Fy, h1, h2, h3⟩ := h
 refine ⟨Fy, h1.less (fun q hq => ?_), h2, fun q hq => ⟨(h3 q hq).1, fun z => (h3 q hq).2 (hQ q z)⟩⟩
 rcases List.mem_append.1 hq with z | z
 ·exact List.mem_append_left _ z
 ·exact List.mem_append_right _ (hQ q z)
theorem LX.more (L : ybg VD) (h : LX VD V w P g s r s2) (hb : Below w.heap.size w w1) {Q : List Nat} (hQ : ∀ q ∈ Q, w.heap.size ≤ q ∧ q < w1.heap.size) : LX VD V w1 (Q ++ P) g s r s2 := by
 obtain ⟨Fy, h1, h2, h3⟩ := h
 have z := h1.more L hb hQ
 refine ⟨Fy, z.less (fun q hq => ?_), yfp h2 (Touch.ofBelow (F := []) hb) (by simp), fun q hq => ⟨(h3 q hq).1, fun y => ?_⟩⟩
 ·simp only [List.mem_append] at hq ⊢
  rcases hq with y | y | y
  ·exact .inr (.inl y)
  ·exact .inl y
  ·exact .inr (.inr y)
 ·rcases List.mem_append.1 y with y | y
  ·have := (hQ q y).1
   have := (ygi h2).2 q hq
   omega
  ·exact (h3 q hq).2 y
theorem LX.back {B Fy : List Nat} (hx : DX VD V w1 (B ++ (Fy ++ P)) g s1) (hk : Kept (Fy ++ P) w w1) (hy : VE w r s2 Fy) (h3 : ∀ q ∈ Fy, V.heap.size ≤ q ∧ q ∉ P) (hB : ∀ q ∈ B, w.heap.size ≤ q) : LX VD V w1 (B ++ P) g s1 r s2 := by
 obtain ⟨G, tG, hG⟩ := hk
 refine ⟨Fy, hx.less (fun q hq => ?_), yfp hy tG (fun q hq => hG q (List.mem_append_left _ hq)), fun q hq => ⟨(h3 q hq).1, fun z => ?_⟩⟩
 ·simp only [List.mem_append] at hq ⊢
  rcases hq with y | y | y
  ·exact .inr (.inl y)
  ·exact .inl y
  ·exact .inr (.inr y)
 ·rcases List.mem_append.1 z with y | y
  ·have := hB q y
   have := (ygi hy).2 q hq
   omega
  ·exact (h3 q hq).2 y
theorem LX.back0 {Fy : List Nat} (hx : DX VD V w1 (Fy ++ P) g s1) (hk : Kept (Fy ++ P) w w1) (hy : VE w r s2 Fy) (h3 : ∀ q ∈ Fy, V.heap.size ≤ q ∧ q ∉ P) : LX VD V w1 P g s1 r s2 := LX.back (B := []) hx hk hy h3 (by simp)
theorem LX.ref (L : ybg VD) {Fy F1 : List Nat} (hx : DX VD V w (Fy ++ P) g s) (h3 : ∀ q ∈ Fy, V.heap.size ≤ q ∧ q ∉ P) (h1 : VE w1 r s3 F1) (t : Touch Fy w w1) (h2 : ∀ q ∈ F1, q ∈ Fy ∨ w.heap.size ≤ q) : LX VD V w1 P g s r s3 ∧ Kept P w w1 := by
 obtain ⟨b, ⟨F, hF, c⟩, d⟩ := hx
 have hF1 : ∀ q ∈ F1, V.heap.size ≤ q ∧ q ∉ P := fun q hq => by
  rcases h2 q hq with z | z
  ·exact h3 q z
  ·exact ⟨Nat.le_trans b.size z, fun y => by have := d q (List.mem_append_right _ y); omega⟩
 refine ⟨⟨F1, ⟨Touch.acc b t (fun q hq => (h3 q hq).1), ⟨F, L.touch hF t (fun q hq z => (c q hq).2 (List.mem_append_left _ z)), fun q hq => ⟨(c q hq).1, fun z => ?_⟩⟩, fun q hq => ?_⟩, h1, hF1⟩, ⟨Fy, t, fun q hq z => (h3 q z).2 hq⟩⟩
 ·rcases List.mem_append.1 z with y | y
  ·rcases h2 q y with x | x
   ·exact (c q hq).2 (List.mem_append_left _ x)
   ·have := (L.has_ hF).2 q hq
    omega
  ·exact (c q hq).2 (List.mem_append_right _ y)
 ·rcases List.mem_append.1 hq with y | y
  ·exact (ygi h1).2 q y
  ·exact Nat.lt_of_lt_of_le (d q (List.mem_append_right _ y)) t.size
def yer (VD : World → Nat → HO → List Nat → Prop) (V w : World) (P : List Nat) (g : Nat) (v : Value) (s1 : HO) (r : Nat) (s3 : HO) (e : Ending) (w' : World) : Prop :=
 e = .returned v ∧ LX VD V w' P g s1 r s3 ∧ Kept P w w'
theorem LX.ofDX {v : Value} {e : Ending} {Fy : List Nat} (hp : yh1 VD V w (Fy ++ P) g v s1 e w1) (hy : VE w r s2 Fy) (h3 : ∀ q ∈ Fy, V.heap.size ≤ q ∧ q ∉ P) : yer VD V w P g v s1 r s2 e w1 := by
 obtain ⟨h1, h2, h4⟩ := hp
 exact ⟨h1, LX.back0 h2 h4 hy h3, h4.less (fun q hq => List.mem_append_right _ hq)⟩
theorem LX.ofE (L : ybg VD) {v : Value} {e : Ending} {Fy : List Nat} (hx : DX VD V w (Fy ++ P) g s) (h3 : ∀ q ∈ Fy, V.heap.size ≤ q ∧ q ∉ P) (hp : yr0 w r Fy v s3 e w1) : yer VD V w P g v s r s3 e w1 := by
 obtain ⟨F1, h1, h2, t, h4⟩ := hp
 obtain ⟨k1, k2⟩ := LX.ref L hx h3 h2 t h4
 exact ⟨h1, k1, k2⟩
end
theorem Upto.uniq {s : HO} {x a b : Nat} (h : Upto s x a) (k : Upto s x b) : a = b := by
 have aux : ∀ {a b : Nat}, Upto s x a → Upto s x b → ¬ a < b := by
  intro a b h k hab
  have h4 := h.2.2.2 (by have := k.2.1; omega)
  have k3 := k.2.2.1 a (by have := h.1; omega) hab
  rcases h4 with z | z
  ·exact k3.1 z
  ·rw [k3.2] at z
   cases z
 have h1 := aux h k
 have h2 := aux k h
 omega
theorem Did.same {s s1 s2 : HO} {a : AK} {t u : TL} (h : Did s a t s1) (k : Did s a u s2) : t = u ∧ s1 = s2 := by
 cases hb : s.bar a with
 | some b =>
  obtain ⟨h1, h2⟩ := h.bar hb
  obtain ⟨k1, k2⟩ := k.bar hb
  exact ⟨h1.trans k1.symm, h2.trans k2.symm⟩
 | none =>
  rcases h.at_ hb with ⟨h0, h1, h2⟩ | ⟨h0, h1, h2⟩ | ⟨h0, h1, h2⟩ | ⟨h0, ⟨p, h3, h1⟩, h2⟩ <;> rcases k.at_ hb with ⟨k0, k1, k2⟩ | ⟨k0, k1, k2⟩ | ⟨k0, k1, k2⟩ | ⟨k0, ⟨q, k3, k1⟩, k2⟩
  case inr.inr.inr.inr.inr.inr =>
   obtain rfl := h3.uniq k3
   exact ⟨h1.trans k1.symm, h2.trans k2.symm⟩
  all_goals first
   | exact ⟨h1.trans k1.symm, h2.trans k2.symm⟩
   | (rw [h0] at k0; exact absurd k0 (by decide))
section
variable {VD : World → Nat → HO → List Nat → Prop} {V w w1 : World} {P : List Nat} {g r : Nat} {s s1 s2 s3 : HO}
theorem LX.did (L : ybg VD) (h : LX VD V w P g s r s2) (a : AK) (ha : a.Fit) (hk : s.k ≤ 1000) (h1 : s.g.l.length ≤ 1000) : Calls Tryz.prog 21 #[.pointer (some ⟨g, 0, none⟩), .agg a.cells] w fun e w' =>
  ∃ t s1 S, Did s a t s1 ∧ e = .returned (.agg (t.cells S)) ∧ w'.ownsRow w.heap.size 96 2 S t.its.length (yaa t.its) ∧ LX VD V w' (S.ownBlock.toList ++ P) g s1 r s2 ∧ Kept P w w' := by
 obtain ⟨Fy, hx, hy, h3⟩ := h
 refine (hx.do_ L a ha hk h1).mono ?_
 rintro e w' ⟨t, s1, S, k1, rfl, k2, k3, k4⟩
 exact ⟨t, s1, S, k1, rfl, k2, LX.back k3 k4 hy h3 (fun q hq => (k2.lt q (by simpa using hq)).1), k4.less (fun q hq => List.mem_append_right _ hq)⟩
theorem LX.own (L : ybg VD) (h : LX VD V w P g s r s2) (f t : Nat) (ep : Int) (hf : f < 18446744073709551616) (ht : t < 18446744073709551616) (hw : Wide ep) (hk : s.k ≤ 1000) :
  Calls Tryz.prog 33 #[.pointer (some ⟨g, 0, none⟩), .agg #[.int .u64 (f : Nat), .int .u64 (t : Nat)], .int .i64 ep] w fun e w' => (s.may f t ep ∧ yer VD V w P g (.bool true) (s.take f t ep) r s2 e w') ∨ (¬ s.may f t ep ∧ yer VD V w P g (.bool false) s r s2 e w') := by
 obtain ⟨Fy, hx, hy, h3⟩ := h
 refine (hx.own L f t ep hf ht hw hk).mono ?_
 rintro e w' (⟨k1, k2⟩ | ⟨k1, k2⟩)
 ·exact .inl ⟨k1, LX.ofDX k2 hy h3⟩
 ·exact .inr ⟨k1, LX.ofDX k2 hy h3⟩
theorem RH.may_iff {w : World} {r rs f t : Nat} {Fs : List Nat} {s : HO} {l : List AO} {V P : Value} (h : RH w r rs Fs s l V P f t) {a b : Nat} {ep : Int} (ha : a < 18446744073709551616) (hb : b < 18446744073709551616) : (0 ≤ ep ∧ yb1 l a b = true) ↔ s.may a b ep := by
 unfold HO.may
 rw [yl8 (fun p hp => ⟨(h.fl p hp).1, (h.fl p hp).2.1⟩) ha hb]
 constructor
 ·rintro ⟨h1, h2⟩
  exact ⟨h1, fun x hx hi => (h.own x hx).trans (h2 x hx hi)⟩
 ·rintro ⟨h1, h2⟩
  exact ⟨h1, fun x hx hi => (h.own x hx).symm.trans (h2 x hx hi)⟩
theorem LX.refOwn (L : ybg VD) (h : LX VD V w P g s r s2) (f t : Nat) (ep : Int) (hf : f < 18446744073709551616) (ht : t < 18446744073709551616) (hw : Wide ep) (hk : s2.k ≤ 1000) :
  Calls Tryz.prog 34 #[.pointer (some ⟨r, 0, none⟩), .agg #[.int .u64 (f : Nat), .int .u64 (t : Nat)], .int .i64 ep] w fun e w' => (s2.may f t ep ∧ yer VD V w P g (.bool true) s r (s2.take f t ep) e w') ∨ (¬ s2.may f t ep ∧ yer VD V w P g (.bool false) s r s2 e w') := by
 obtain ⟨Fy, hx, hy, h3⟩ := h
 have hy0 := hy
 obtain ⟨rs, Fs, l, Vo, Pt, f', t', h, rfl⟩ := hy
 have hfew := h.few
 refine (yro h (by omega) f t ep hf ht hw.2).mono ?_
 rintro e w' (⟨k1, k2, rfl, V', k3, k4, k5⟩ | ⟨k1, rfl, k2⟩)
 ·refine .inl ⟨(h.may_iff hf ht).1 ⟨k1, k2⟩, LX.ofE L hx h3 ⟨_, rfl, ⟨rs, Fs, _, V', Pt, f', t', k3, rfl⟩, k4.mono (by simp), fun q hq => ?_⟩⟩
  simp only [RH.blocks, List.mem_cons, List.mem_append] at hq ⊢
  rcases hq with z | z | z | z | z
  ·exact .inl (.inl z)
  ·exact .inl (.inr (.inl z))
  ·exact .inl (.inr (.inr (.inl z)))
  ·exact .inr (k5 q (by simpa using z))
  ·exact .inl (.inr (.inr (.inr (.inr z))))
 ·exact .inr ⟨fun z => k1 ((h.may_iff hf ht).2 z), LX.ofE L hx h3 ⟨_, rfl, yfp hy0 (Touch.ofBelow (F := []) k2) (by simp), Touch.ofBelow k2, fun q hq => .inl hq⟩⟩
theorem LX.refPut (L : ybg VD) (h : LX VD V w P g s r s2) (key val tt : ByteArray) (mm : Nat) (hk : key.size ≤ maxLen) (hv : val.size ≤ maxLen) (hsk : s2.k ≤ 1000) (hg : s2.g.l.length ≤ 1000) :
  Calls Tryz.prog 22 #[.pointer (some ⟨r, 0, none⟩), .agg #[.int .i64 2, .string key, .string val, .string tt, .int .i64 (mm : Nat)]] w fun e w' => ∃ tl s3, Did s2 ⟨2, key, val, tt, (mm : Nat)⟩ tl s3 ∧ tl.its = [] ∧ yer VD V w P g (.agg (tl.cells (.slice none 0 0))) s r s3 e w' := by
 obtain ⟨Fy, hx, hy, h3⟩ := h
 obtain ⟨rs, Fs, l, Vo, Pt, f', t', h, rfl⟩ := hy
 have hfew := h.few
 refine (yrz h (by omega) hg key val tt mm hk hv).mono ?_
 rintro e w' ⟨tl, s1, Fs', k1, k2, rfl, k3, k4, k5⟩
 refine ⟨tl, s1, k1, k2, LX.ofE L hx h3 ⟨_, rfl, ⟨rs, Fs', l, Vo, Pt, f', t', k3, rfl⟩, k5.mono (by simp), fun q hq => ?_⟩⟩
 simp only [RH.blocks, List.mem_cons, List.mem_append] at hq ⊢
 rcases hq with z | z | z | z | z
 ·exact .inl (.inl z)
 ·exact .inl (.inr (.inl z))
 ·exact (k4 q z).imp (fun y => .inr (.inr (.inl y))) id
 ·exact .inl (.inr (.inr (.inr (.inl z))))
 ·exact .inl (.inr (.inr (.inr (.inr z))))
theorem LX.made (L : ybg VD) (nd most : Int) (hx : DX VD V w P g s) (hP : ∀ q ∈ P, q < w.heap.size) (hm : Wide most) :
  Calls Tryz.prog 32 #[.int .i64 nd, .int .i64 most] w fun e w' => ∃ r, e = .returned (.pointer (some ⟨r, 0, none⟩)) ∧ LX VD V w' P g s r (HO.new nd most) ∧ Below w.heap.size w w' := by
 refine (yrp nd most w hm).mono ?_
 rintro e w' ⟨r, rs, rfl, k1, k2, k3, k4⟩
 have hb : ∀ q ∈ RH.blocks r rs [] (.slice none 0 0) (.slice none 0 0), q = r ∨ q = rs := fun q hq => by
  simp only [RH.blocks, List.mem_cons, List.nil_append] at hq
  rcases hq with z | z | z
  ·exact .inl z
  ·exact .inr z
  ·exact absurd z (by show ¬ q ∈ ([] : List Nat) ++ []; simp)
 have hbase := hx.base.size
 refine ⟨r, rfl, ⟨_, (hx.more L k4 (Q := RH.blocks r rs [] (.slice none 0 0) (.slice none 0 0)) (fun q hq => ⟨?_, k1.all_lt q hq⟩)), ⟨rs, [], [], _, _, 0, 0, k1, rfl⟩, fun q hq => ⟨?_, fun z => ?_⟩⟩, k4⟩
 ·rcases hb q hq with rfl | rfl
  ·exact k2
  ·exact k3
 ·rcases hb q hq with rfl | rfl <;> omega
 ·have := hP q z
  rcases hb q hq with rfl | rfl <;> omega
end
def LoS (nd : Int) (f t : Nat) (ep : Int) : HO := if 0 ≤ ep then (HO.new nd 200).take f t ep else HO.new nd 200
theorem LoS.k (nd : Int) (f t : Nat) (ep : Int) : (LoS nd f t ep).k ≤ 1 := by
 unfold LoS
 split
 ·exact Nat.le_refl _
 ·exact Nat.zero_le _
theorem LoS.g (nd : Int) (f t : Nat) (ep : Int) : (LoS nd f t ep).g = G0 := by
 unfold LoS
 split <;> rfl
theorem LoS.own (nd : Int) (f t : Nat) (ep : Int) (x : Nat) : (LoS nd f t ep).own x = if 0 ≤ ep ∧ inB f t x = true then some ep else none := by
 unfold LoS
 by_cases h : 0 ≤ ep
 ·rw [if_pos h]
  show (if inB f t x = true then some ep else none) = _
  by_cases hi : inB f t x = true
  ·rw [if_pos hi, if_pos ⟨h, hi⟩]
  ·rw [if_neg hi, if_neg (fun z => hi z.2)]
 ·rw [if_neg h, if_neg (fun z => h z.1)]
  rfl
theorem yr1 {s s1 : HO} {k v tt : ByteArray} {m : Int} {t : TL} {its : List Item} (h : Did (s.with its) ⟨2, k, v, tt, m⟩ t s1) : ∃ its', s1 = s.with its' ∧ its'.length ≤ its.length + 1 := by
 cases hb : (s.with its).bar ⟨2, k, v, tt, m⟩ with
 | some b => exact ⟨its, (h.bar hb).2, Nat.le_succ _⟩
 | none =>
  rcases h.at_ hb with ⟨z, _⟩ | ⟨_, _, z⟩ | ⟨z, _⟩ | ⟨z, _⟩
  ·exact absurd z (by simp)
  ·split at z
   ·exact ⟨putN its k v, z, by rw [yga]; split <;> omega⟩
   ·exact ⟨its, z, Nat.le_succ _⟩
  ·exact absurd z (by simp)
  ·exact absurd z (by simp)
section
variable {VD : World → Nat → HO → List Nat → Prop}
theorem DX.rebase {W V w : World} {P : List Nat} {g : Nat} {s : HO} (h : DX VD V w P g s) (hb : Below W.heap.size W V) : DX VD W w P g s := by
 obtain ⟨b, ⟨F, h1, c⟩, d⟩ := h
 exact ⟨acc hb b, ⟨F, h1, fun q hq => ⟨Nat.le_trans hb.size (c q hq).1, (c q hq).2⟩⟩, d⟩
theorem LX.rebase {W V w : World} {P : List Nat} {g r : Nat} {s s2 : HO} (h : LX VD V w P g s r s2) (hb : Below W.heap.size W V) : LX VD W w P g s r s2 := by
 obtain ⟨Fy, h1, h2, h3⟩ := h
 exact ⟨Fy, h1.rebase hb, h2, fun q hq => ⟨Nat.le_trans hb.size (h3 q hq).1, (h3 q hq).2⟩⟩
theorem yr2 (w : World) (a b : Value) (T : TypeId) : (w.alloc (.cells #[a, b] T)).cell? ⟨w.heap.size, 0, none⟩ = some a := by go_simp
theorem yr3 (w : World) (a b : Value) (T : TypeId) : (w.alloc (.cells #[a, b] T)).cell? ⟨w.heap.size, 1, none⟩ = some b := by go_simp
theorem yjv (L : ybg VD) (nd ep : Int) (f t : Nat) (A0 : Option Addr) (c0 n : Nat) (zs : List Item) (W : World) (hA : ∃ b off, ∀ i (h : i < zs.length), A0 = some ⟨b, off, none⟩ ∧ b < W.heap.size ∧ W.cell? ⟨b, off + i * 2, none⟩ = some (.string (zs[i]).1) ∧ W.cell? ⟨b, off + i * 2 + 1, none⟩ = some (.string (zs[i]).2)) (hn : zs.length = n)
  (hnd : Wide nd) (hep : Wide ep) (hf : f < 18446744073709551616) (ht : t < 18446744073709551616) :
  Calls Tryz.prog 9 #[.int .i64 nd, .agg #[.int .u64 (f : Nat), .int .u64 (t : Nat)], .int .i64 ep, .slice A0 n c0] W fun e w' => ∃ g r its, e = .returned (.tuple #[.pointer (some ⟨g, 0, none⟩), .pointer (some ⟨r, 0, none⟩)]) ∧ LX VD W w' [] g ((LoS nd f t ep).with its) r ((LoS nd f t ep).with its) ∧ its.length ≤ 40 ∧ its.length ≤ n := by
 obtain ⟨V, hV⟩ : ∃ V, W.alloc (.cells #[.int .u64 (f : Nat), .int .u64 (t : Nat)] 25) = V := ⟨_, rfl⟩
 have HBV : Hid (Below W.heap.size W V) := by rw [← hV]; exact (Below.refl _ _).alloc (Nat.le_refl _) _
 have HSS : Hid (∀ w, Below V.heap.size V w → w.cell? ⟨W.heap.size, 0, none⟩ = some (.int .u64 (f : Nat)) ∧ w.cell? ⟨W.heap.size, 1, none⟩ = some (.int .u64 (t : Nat))) := fun w hw => by
  have hlt : W.heap.size < V.heap.size := by rw [← hV]; simp
  have g0 : V.cell? ⟨W.heap.size, 0, none⟩ = some (.int .u64 (f : Nat)) := by rw [← hV]; exact yr2 _ _ _ _
  have g1 : V.cell? ⟨W.heap.size, 1, none⟩ = some (.int .u64 (t : Nat)) := by rw [← hV]; exact yr3 _ _ _ _
  exact ⟨(hw.cell (p := ⟨W.heap.size, 0, none⟩) hlt).trans g0, (hw.cell (p := ⟨W.heap.size, 1, none⟩) hlt).trans g1⟩
 have HAI : Hid (∃ b off, ∀ w, Below V.heap.size V w → ∀ i (h : i < zs.length), A0 = some ⟨b, off, none⟩ ∧ w.cell? ⟨b, off + i * 2, none⟩ = some (.string (zs[i]).1) ∧ w.cell? ⟨b, off + i * 2 + 1, none⟩ = some (.string (zs[i]).2)) := by
  obtain ⟨b, off, h⟩ := hA
  refine ⟨b, off, fun w hw i hi => ?_⟩
  obtain ⟨h1, h2, h3, h4⟩ := h i hi
  have hB := acc HBV.out hw
  exact ⟨h1, (hB.cell (p := ⟨b, off + i * 2, none⟩) h2).trans h3, (hB.cell (p := ⟨b, off + i * 2 + 1, none⟩) h2).trans h4⟩
 have HV := Lib.hid hV
 have HN := Lib.hid hn
 clear hA hV hn
 have C0 : Hid (∀ w, Below V.heap.size V w → Calls Tryz.prog 31 #[.int .i64 nd, .int .i64 200] w fun e w' => ∃ g, e = .returned (.pointer (some ⟨g, 0, none⟩)) ∧ DX VD V w' [] g (HO.new nd 200)) := fun w hw => by
  refine (DX.new (P := []) L nd 200 hw (by simp) hnd ⟨by decide, by decide⟩).mono ?_
  rintro e w' ⟨g, rfl, h, -⟩
  exact ⟨g, rfl, h⟩
 have C1 : Hid (∀ w g, DX VD V w [] g (HO.new nd 200) → Calls Tryz.prog 32 #[.int .i64 nd, .int .i64 200] w fun e w' => ∃ r, e = .returned (.pointer (some ⟨r, 0, none⟩)) ∧ LX VD V w' [] g (HO.new nd 200) r (HO.new nd 200)) := fun w g h => by
  refine (LX.made (P := []) L nd 200 h (by simp) ⟨by decide, by decide⟩).mono ?_
  rintro e w' ⟨r, rfl, h, -⟩
  exact ⟨r, rfl, h⟩
 have hmay : (HO.new nd 200).may f t ep ↔ 0 ≤ ep := ⟨fun z => z.1, fun z => ⟨z, fun _ _ _ => rfl⟩⟩
 have C2 : Hid (∀ w g r, LX VD V w [] g (HO.new nd 200) r (HO.new nd 200) → Calls Tryz.prog 33 #[.pointer (some ⟨g, 0, none⟩), .agg #[.int .u64 (f : Nat), .int .u64 (t : Nat)], .int .i64 ep] w fun e w' => ∃ b, e = .returned (.bool b) ∧ LX VD V w' [] g (LoS nd f t ep) r (HO.new nd 200)) := fun w g r h => by
  refine (h.own L f t ep hf ht hep (by show 0 ≤ 1000; decide)).mono ?_
  rintro e w' (⟨h1, rfl, h2, -⟩ | ⟨h1, rfl, h2, -⟩)
  ·exact ⟨true, rfl, by unfold LoS; rw [if_pos (hmay.1 h1)]; exact h2⟩
  ·exact ⟨false, rfl, by unfold LoS; rw [if_neg (fun z => h1 (hmay.2 z))]; exact h2⟩
 have C3 : Hid (∀ w g r, LX VD V w [] g (LoS nd f t ep) r (HO.new nd 200) → Calls Tryz.prog 34 #[.pointer (some ⟨r, 0, none⟩), .agg #[.int .u64 (f : Nat), .int .u64 (t : Nat)], .int .i64 ep] w fun e w' => ∃ b, e = .returned (.bool b) ∧ LX VD V w' [] g (LoS nd f t ep) r (LoS nd f t ep)) := fun w g r h => by
  refine (h.refOwn L f t ep hf ht hep (by show 0 ≤ 1000; decide)).mono ?_
  rintro e w' (⟨h1, rfl, h2, -⟩ | ⟨h1, rfl, h2, -⟩)
  ·exact ⟨true, rfl, by rw [show LoS nd f t ep = (HO.new nd 200).take f t ep from if_pos (hmay.1 h1)] at h2 ⊢; exact h2⟩
  ·exact ⟨false, rfl, by rw [show LoS nd f t ep = HO.new nd 200 from if_neg (fun z => h1 (hmay.2 z))] at h2 ⊢; exact h2⟩
 obtain ⟨S, hS⟩ : ∃ S, LoS nd f t ep = S := ⟨_, rfl⟩
 have hk1 : S.k ≤ 1 := hS ▸ LoS.k nd f t ep
 have hg0 : S.g = G0 := hS ▸ LoS.g nd f t ep
 have hw0 : S = S.with [] := by rw [← hS]; unfold LoS; split <;> rfl
 have CD : Hid (∀ w P g r its x y, x.size ≤ 40 → y.size ≤ 40 → LX VD V w P g (S.with its) r (S.with its) → Calls Tryz.prog 21 #[.pointer (some ⟨g, 0, none⟩), .agg #[.int .i64 2, .string x, .string y, .string ⟨#[]⟩, .int .i64 0]] w fun e w' => ∃ v its' tl, e = .returned v ∧ its'.length ≤ its.length + 1 ∧ Did (S.with its) ⟨2, x, y, ⟨#[]⟩, 0⟩ tl (S.with its') ∧ LX VD V w' P g (S.with its') r (S.with its) ∧ Kept P w w') := fun w P g r its x y hx hy h => by
  refine (h.did L ⟨2, x, y, ⟨#[]⟩, 0⟩ ⟨⟨by simp, by simp⟩, by show x.size ≤ maxLen; unfold maxLen; omega, by show y.size ≤ maxLen; unfold maxLen; omega, Nat.zero_le _, ⟨by simp, by simp⟩⟩ (by show S.k ≤ 1000; omega) (by show S.g.l.length ≤ 1000; rw [hg0]; decide)).mono ?_
  rintro e w' ⟨tl, s1, S1, hd, rfl, -, k1, k2⟩
  obtain ⟨its', rfl, hl⟩ := yr1 hd
  exact ⟨_, its', tl, rfl, hl, hd, k1.less (fun q hq => List.mem_append_right _ hq), k2⟩
 have CR : Hid (∀ w P g r its its' tl x y, x.size ≤ 40 → y.size ≤ 40 → Did (S.with its) ⟨2, x, y, ⟨#[]⟩, 0⟩ tl (S.with its') → LX VD V w P g (S.with its') r (S.with its) → Calls Tryz.prog 22 #[.pointer (some ⟨r, 0, none⟩), .agg #[.int .i64 2, .string x, .string y, .string ⟨#[]⟩, .int .i64 0]] w fun e w' => ∃ v, e = .returned v ∧ LX VD V w' P g (S.with its') r (S.with its')) := fun w P g r its its' tl x y hx hy hd h => by
  refine (h.refPut L x y ⟨#[]⟩ 0 (by unfold maxLen; omega) (by unfold maxLen; omega) (by show S.k ≤ 1000; omega) (by show S.g.l.length ≤ 1000; rw [hg0]; decide)).mono ?_
  rintro e w' ⟨tl2, s3, hd2, -, rfl, k1, -⟩
  obtain ⟨-, rfl⟩ := hd2.same hd
  exact ⟨_, rfl, k1⟩
 rw [hS] at C2 C3 ⊢
 have HW0 := Lib.hid hw0
 clear hk1 hg0 hS hw0 hmay
 go_enter Tryz.func9, Tryz.ntmps9
 go_upto_region 1 with fail
 rw [HV.out]
 clear HV
 have a0' := HSS.out V (Below.refl _ _)
 go_wp2_with (first
  | (go_at_call 31; (with_reducible refine (C0.out _ (Below.refl _ _)).mono ?_); rintro e w2 ⟨g, rfl, x2⟩; have X2 := Lib.hid x2; clear x2)
  | (go_at_call 32; (with_reducible refine (C1.out _ _ X2.out).mono ?_); rintro e w3 ⟨r, rfl, x3⟩; have X3 := Lib.hid x3; clear x3; obtain ⟨a0, a1⟩ := HSS.out _ X3.out.base)
  | (go_at_call 33; (with_reducible refine (C2.out _ _ _ X3.out).mono ?_); rintro e w4 ⟨b4, rfl, x4⟩; have X4 := Lib.hid x4; clear x4 a0 a1; obtain ⟨a0, a1⟩ := HSS.out _ X4.out.base)
  | (go_at_call 34; (with_reducible refine (C3.out _ _ _ X4.out).mono ?_); rintro e w5 ⟨b5, rfl, x5⟩; have X5 := Lib.hid x5; clear x5 a0 a1))
 clear C0 C1 C2 C3
 go_loopg [12] (n + 1) (fun gh s12 wx => ∃ (i : Nat) (its : List Item), i + gh = n + 1 ∧ i ≤ n ∧ its.length ≤ i ∧ its.length ≤ 40 ∧ s12 = .int .i64 (i : Nat) ∧ Hid (LX VD V wx [] g (S.with its) r (S.with its)))
 case atStart => exact ⟨0, [], by omega, by omega, Nat.le_refl _, by decide, rfl, by rw [← HW0.out]; exact X5.out⟩
 case round =>
  clear X5 X4 X3 X2
  obtain ⟨i, its, hig, hi, hli, hl4, rfl, HX⟩ := hrel
  by_cases hlt : i < n
  ·have i1 : (i : Int) < (n : Int) := by omega
   have d1 : decide ((i : Int) < (n : Int)) = true := decide_eq_true i1
   have i0 : (0 : Int) ≤ (i : Int) := by omega
   by_cases h40 : i < 40
   ·have d2 : decide ((i : Int) < 40) = true := decide_eq_true (by omega)
    have zi : IntKind.i64.wrap ((i : Int) + 1) = (i : Int) + 1 := by rw [IntKind.wrap_i64]; omega
    obtain ⟨b, o, ha⟩ := HAI.out
    obtain ⟨rfl, e1, e2⟩ := ha _ HX.out.base i (by rw [HN.out]; exact hlt)
    generalize zs[i]'(by rw [HN.out]; exact hlt) = x at e1 e2
    obtain ⟨xk, xv⟩ := x
    dsimp only at e1 e2
    have hbl : b < wr.heap.size := World.block_lt_of_cell? _ _ e1
    clear ha
    by_cases p1 : xk.size ≤ 40
    ·have p2 : decide ((xk.size : Int) ≤ 40) = true := decide_eq_true (by omega)
     by_cases p3 : xv.size ≤ 40
     ·have p4 : decide ((xv.size : Int) ≤ 40) = true := decide_eq_true (by omega)
      go_upto_region 10 with fail
      go_region
      have HB6 : Hid (Below wr.heap.size wr (wr.alloc (.cells #[.int .i64 2, .string xk, .string xv, .string ⟨#[]⟩, .int .i64 0] 45)).drew) := ((Below.refl _ _).alloc (Nat.le_refl _) _).drew
      have h6 : (wr.alloc (.cells #[.int .i64 2, .string xk, .string xv, .string ⟨#[]⟩, .int .i64 0] 45)).drew.heap[wr.heap.size]? = some (.cells #[.int .i64 2, .string xk, .string xv, .string ⟨#[]⟩, .int .i64 0] 45) := heap_alloc_new _ _
      generalize (wr.alloc (.cells #[.int .i64 2, .string xk, .string xv, .string ⟨#[]⟩, .int .i64 0] 45)).drew = w6 at *
      obtain ⟨qx, hqx⟩ : ∃ q, wr.heap.size = q := ⟨_, rfl⟩
      have hq6 : qx < w6.heap.size := by rw [← hqx]; exact yjm h6
      have X6 := Lib.hid (HX.out.more L HB6.out (Q := [qx]) (fun q hq => by rw [List.mem_singleton.1 hq]; exact ⟨Nat.le_of_eq hqx, hq6⟩))
      rw [hqx] at h6 ⊢
      have H6 := Lib.hid h6
      have b0 := ya4 h6 (o := 0) rfl
      have b1 := ya4 h6 (o := 1) rfl
      have b2 := ya4 h6 (o := 2) rfl
      have b3 := ya4 h6 (o := 3) rfl
      have b4 := ya4 h6 (o := 4) rfl
      clear h6 hqx e1 e2 hbl
      go_wp2_with (first
       | (go_at_call 21; (with_reducible refine (CD.out _ _ _ _ _ _ _ p1 p3 X6.out).mono ?_); rintro e w7 ⟨v7, its', tl, rfl, l7, d7, x7, k7⟩; have X7 := Lib.hid x7; have D7 := Lib.hid d7; have h7 := (k7.block (q := qx) (by simp) hq6).trans H6.out; have c0 := ya4 h7 (o := 0) rfl; have c1 := ya4 h7 (o := 1) rfl; have c2 := ya4 h7 (o := 2) rfl; have c3 := ya4 h7 (o := 3) rfl; have c4 := ya4 h7 (o := 4) rfl; clear h7 x7 d7 k7)
       | (go_at_call 22; (with_reducible refine (CR.out _ _ _ _ _ _ _ _ _ p1 p3 D7.out X7.out).mono ?_); rintro e w8 ⟨v8, rfl, x8⟩; have X8 := Lib.hid x8; clear x8))
      go_roundg (gk - 1)
      case measure => omega
      case rel => exact ⟨i + 1, its', by omega, by omega, by omega, by omega, by go_num, X8.out.less (by simp)⟩
     ·have p4 : decide ((xv.size : Int) ≤ 40) = false := decide_eq_false (by omega)
      go_wp2_with fail
      go_roundg (gk - 1)
      case measure => omega
      case rel => exact ⟨i + 1, its, by omega, by omega, by omega, hl4, by go_num, HX⟩
    ·have p2 : decide ((xk.size : Int) ≤ 40) = false := decide_eq_false (by omega)
     go_wp2_with fail
     go_roundg (gk - 1)
     case measure => omega
     case rel => exact ⟨i + 1, its, by omega, by omega, by omega, hl4, by go_num, HX⟩
   ·have d2 : decide ((i : Int) < 40) = false := decide_eq_false (by omega)
    go_wp2_with fail
    refine bodyPost_ret (results_tmp2 rfl _ _ _) rfl ?_
    exact ⟨g, r, its, rfl, HX.out.rebase HBV.out, hl4, by omega⟩
  ·have d1 : decide ((i : Int) < (n : Int)) = false := decide_eq_false (by omega)
   go_wp2_with fail
   refine bodyPost_ret (results_tmp2 rfl _ _ _) rfl ?_
   exact ⟨g, r, its, rfl, HX.out.rebase HBV.out, hl4, by omega⟩
end
theorem Mail.empty {W : World} {B : Nat} {S : Value} {M : List Nat} (h : Mail W B S [] M) : ∃ A c, S = .slice A 0 c := by
 obtain ⟨rs, _, h2, _⟩ := h
 exact yav h2
theorem Mail.one {W : World} {B : Nat} {S : Value} {l : LV} {M : List Nat} (h : Mail W B S [l] M) : ∃ q c a b, S = .slice (some ⟨q, 0, none⟩) 1 c ∧ B ≤ q ∧ q < W.heap.size ∧ q ∈ M ∧ LR.At W M ⟨l, a, b⟩ ∧ ∀ j v, (l.cells a b)[j]? = some v → W.cell? ⟨q, j, none⟩ = some v := by
 obtain ⟨rs, h1, h2, h3, h4, h5⟩ := h
 obtain ⟨r, rfl⟩ : ∃ r, rs = [r] := by
  cases rs with
  | nil => cases h1
  | cons r rs =>
   cases rs with
   | nil => exact ⟨r, rfl⟩
   | cons _ _ => cases h1
 obtain ⟨rl, a, b⟩ := r
 obtain rfl : rl = l := by simpa using h1
 obtain ⟨A, c, rfl⟩ := yav h2
 obtain ⟨q, rfl⟩ := yjs h2 (Nat.le_refl _)
 have hq := h2.lt q rfl
 refine ⟨q, c, a, b, rfl, hq.1, hq.2, h4 q rfl, h3 _ (by simp), fun j v hj => ?_⟩
 have z := h2.cells (g := q) rfl j v (by
  rw [yjj]
  rw [Array.getElem?_toList]
  exact hj)
 rw [Go.WideShapes.add_plain, Nat.zero_add] at z
 exact z
def HX (VD : World → Nat → HO → List Nat → Prop) (VV : World → Nat → GV → List Nat → Prop) (V w : World) (P : List Nat) (g : Nat) (s : HO) (r : Nat) (s2 : HO) (p : Nat) (v : GV) : Prop :=
 ∃ Fv, LX VD V w (Fv ++ P) g s r s2 ∧ VV w p v Fv ∧ ∀ q ∈ Fv, V.heap.size ≤ q ∧ q ∉ P
section
variable {VD : World → Nat → HO → List Nat → Prop} {VV : World → Nat → GV → List Nat → Prop} {V w w1 : World} {P : List Nat} {g r p : Nat} {s s1 s2 s3 : HO} {v v1 : GV}
theorem LX.build {F1 Fy Q : List Nat} (hb : Below V.heap.size V w1) (hv : VD w1 g s1 F1) (c : ∀ q ∈ F1, V.heap.size ≤ q ∧ q ∉ Fy ++ P) (hy : VE w1 r s2 Fy) (h3 : ∀ q ∈ Fy, V.heap.size ≤ q ∧ q ∉ P) (hP : ∀ q ∈ P, q < w1.heap.size) (hQ : ∀ q ∈ Q, q < w1.heap.size ∧ q ∉ F1 ∧ q ∉ Fy) : LX VD V w1 (Q ++ P) g s1 r s2 := by
 refine ⟨Fy, ⟨hb, ⟨F1, hv, fun q hq => ⟨(c q hq).1, fun z => ?_⟩⟩, fun q hq => ?_⟩, hy, fun q hq => ⟨(h3 q hq).1, fun z => ?_⟩⟩
 ·rcases List.mem_append.1 z with y | y
  ·exact (c q hq).2 (List.mem_append_left _ y)
  ·rcases List.mem_append.1 y with y | y
   ·exact (hQ q y).2.1 hq
   ·exact (c q hq).2 (List.mem_append_right _ y)
 ·rcases List.mem_append.1 hq with y | y
  ·exact (ygi hy).2 q y
  ·rcases List.mem_append.1 y with y | y
   ·exact (hQ q y).1
   ·exact hP q y
 ·rcases List.mem_append.1 z with y | y
  ·exact (hQ q y).2.2 hq
  ·exact (h3 q hq).2 y
theorem HX.base (h : HX VD VV V w P g s r s2 p v) : Below V.heap.size V w := by
 obtain ⟨Fv, h1, -, -⟩ := h
 exact h1.base
theorem HX.both (h : HX VD VV V w P g s r s2 p v) : LX VD V w P g s r s2 := by
 obtain ⟨Fv, h1, -, -⟩ := h
 exact h1.less (fun q hq => List.mem_append_right _ hq)
theorem HX.below (L : ybg VD) (G : yc6 VD VV) (h : HX VD VV V w P g s r s2 p v) (hb : Below w.heap.size w w1) : HX VD VV V w1 P g s r s2 p v := by
 obtain ⟨Fv, h1, h2, h3⟩ := h
 exact ⟨Fv, h1.below L hb, G.touch h2 (Touch.ofBelow (F := []) hb) (by simp), h3⟩
theorem HX.less {Q : List Nat} (h : HX VD VV V w P g s r s2 p v) (hQ : ∀ q ∈ Q, q ∈ P) : HX VD VV V w Q g s r s2 p v := by
 obtain ⟨Fv, h1, h2, h3⟩ := h
 refine ⟨Fv, h1.less (fun q hq => ?_), h2, fun q hq => ⟨(h3 q hq).1, fun z => (h3 q hq).2 (hQ q z)⟩⟩
 rcases List.mem_append.1 hq with z | z
 ·exact List.mem_append_left _ z
 ·exact List.mem_append_right _ (hQ q z)
theorem HX.more (L : ybg VD) (G : yc6 VD VV) (h : HX VD VV V w P g s r s2 p v) (hb : Below w.heap.size w w1) {Q : List Nat} (hQ : ∀ q ∈ Q, w.heap.size ≤ q ∧ q < w1.heap.size) : HX VD VV V w1 (Q ++ P) g s r s2 p v := by
 obtain ⟨Fv, h1, h2, h3⟩ := h
 refine ⟨Fv, (h1.more L hb hQ).less (fun q hq => ?_), G.touch h2 (Touch.ofBelow (F := []) hb) (by simp), fun q hq => ⟨(h3 q hq).1, fun y => ?_⟩⟩
 ·simp only [List.mem_append] at hq ⊢
  rcases hq with y | y | y
  ·exact .inr (.inl y)
  ·exact .inl y
  ·exact .inr (.inr y)
 ·rcases List.mem_append.1 y with y | y
  ·have := (hQ q y).1
   have := (G.has h2).2 q hq
   omega
  ·exact (h3 q hq).2 y
def yjw (VD : World → Nat → HO → List Nat → Prop) (V w : World) (P : List Nat) (g : Nat) (s : HO) (r : Nat) (s2 : HO) (er : Int) (e : Ending) (w' : World) : Prop :=
 (∃ A c, e = .returned (.tuple #[.pointer none, .slice A 0 c, .int .i64 er])) ∧ LX VD V w' P g s r s2 ∧ Kept P w w'
def yr4 (VD : World → Nat → HO → List Nat → Prop) (VV : World → Nat → GV → List Nat → Prop) (V w : World) (P : List Nat) (g : Nat) (s : HO) (r : Nat) (s2 : HO) (f t : Nat) (me to_ id : Int) (e : Ending) (w' : World) : Prop :=
 ∃ p S M ep v, e = .returned (.tuple #[.pointer (some ⟨p, 0, none⟩), S, .int .i64 0]) ∧ v = ⟨me, to_, id, f, t, IntKind.i64.wrap (ep + 1), 1, arcL s.its f t, 0, g⟩ ∧ Mail w' w.heap.size S [v.offer] M ∧ ydf s.own (fun x => inB f t x = true) ep ∧ HX VD VV V w' (M ++ P) g (s.froze f t) r s2 p v ∧ Kept P w w'
theorem LX.start (G : yc6 VD VV) (h : LX VD V w P g s r s2) (f t : Nat) (me to_ id : Int) (hf : f < 18446744073709551616) (ht : t < 18446744073709551616) (hm : Wide me) (hto : Wide to_) (hid : Wide id) (hk : s.k ≤ 1000) :
  Calls Tryz.prog 10 #[.pointer (some ⟨g, 0, none⟩), .agg #[.int .u64 (f : Nat), .int .u64 (t : Nat)], .int .i64 me, .int .i64 to_, .int .i64 id] w fun e w' =>
   ((me = to_ ∧ yjw VD V w P g s r s2 1 e w') ∨ (me ≠ to_ ∧ s.g.shut = true ∧ yjw VD V w P g s r s2 7 e w') ∨
    (me ≠ to_ ∧ s.g.shut = false ∧ (∃ x, x < 18446744073709551616 ∧ inB f t x = true ∧ s.own x = none) ∧ yjw VD V w P g s r s2 1 e w') ∨
    (me ≠ to_ ∧ s.g.shut = false ∧ (∀ x, x < 18446744073709551616 → inB f t x = true → s.own x ≠ none) ∧ yr4 VD VV V w P g s r s2 f t me to_ id e w')) := by
 obtain ⟨Fy, ⟨hb, ⟨F, hF, c⟩, d⟩, hy, h3⟩ := h
 refine (G.start f t me to_ id hf ht hm hto hid hk hF).mono ?_
 rintro e w' ⟨F1, k1, k2, k3⟩
 have hbase : Below V.heap.size V w' := Touch.acc hb k1 (fun q hq => (c q hq).1)
 have hy1 : VE w' r s2 Fy := yfp hy k1 (fun q hq z => (c q z).2 (List.mem_append_left _ hq))
 have hkP : Kept P w w' := ⟨F, k1, fun q hq z => (c q z).2 (List.mem_append_right _ hq)⟩
 have c1 : ∀ q ∈ F1, V.heap.size ≤ q ∧ q ∉ Fy ++ P := fun q hq => by
  rcases k2 q hq with z | z
  ·exact c q z
  ·exact ⟨Nat.le_trans hb.size z, fun y => by have := d q y; omega⟩
 have hP1 : ∀ q ∈ P, q < w'.heap.size := fun q hq => Nat.lt_of_lt_of_le (d q (List.mem_append_right _ hq)) k1.size
 have same : ∀ {s1 : HO}, VD w' g s1 F1 → LX VD V w' P g s1 r s2 := fun hv => LX.build (Q := []) hbase hv c1 hy1 h3 hP1 (by simp)
 rcases k3 with ⟨⟨e1, S, rfl, hM⟩, hv⟩ | ⟨⟨e1, e2, S, rfl, hM⟩, hv⟩ | ⟨⟨e1, e2, e3, S, rfl, hM⟩, hv⟩ | ⟨e1, e2, e3, p, S, M, ep, Fv, v, rfl, rfl, hM, hg, hv, hvv, hFv, hMF⟩
 ·obtain ⟨A, c0, rfl⟩ := hM.empty
  exact .inl ⟨e1, ⟨_, _, rfl⟩, same hv, hkP⟩
 ·obtain ⟨A, c0, rfl⟩ := hM.empty
  exact .inr (.inl ⟨e1, e2, ⟨_, _, rfl⟩, same hv, hkP⟩)
 ·obtain ⟨A, c0, rfl⟩ := hM.empty
  exact .inr (.inr (.inl ⟨e1, e2, e3, ⟨_, _, rfl⟩, same hv, hkP⟩))
 ·obtain ⟨rs, m1, m2, m3, m4, m5⟩ := hM
  have hold : ∀ q ∈ Fy, q < w.heap.size := (ygi hy).2
  refine .inr (.inr (.inr ⟨e1, e2, e3, p, S, M, ep, _, rfl, rfl, ⟨rs, m1, m2, m3, m4, m5⟩, hg, ⟨Fv, ?_, hvv, fun q hq => ⟨Nat.le_trans hb.size (hFv q hq).1, fun z => ?_⟩⟩, hkP⟩))
  ·rw [← List.append_assoc]
   refine LX.build hbase hv c1 hy1 h3 hP1 (fun q hq => ?_)
   rcases List.mem_append.1 hq with z | z
   ·exact ⟨(G.has hvv).2 q z, (hFv q z).2, fun y => by have := hold q y; have := (hFv q z).1; omega⟩
   ·exact ⟨(m5 q z).2, (hMF q z).1, fun y => by have := hold q y; have := (m5 q z).1; omega⟩
  ·rcases List.mem_append.1 z with y | y
   ·exact (hMF q y).2 hq
   ·have := d q (List.mem_append_right _ y)
    have := (hFv q hq).1
    omega
def ymb (VD : World → Nat → HO → List Nat → Prop) (VV : World → Nat → GV → List Nat → Prop) (V w : World) (P : List Nat) (g : Nat) (s1 : HO) (r : Nat) (s2 : HO) (p : Nat) (v1 : GV) (ls : List LV) (b : Bool) (e : Ending) (w' : World) : Prop :=
 ∃ S M, e = .returned (.tuple #[S, .bool b]) ∧ Mail w' w.heap.size S ls M ∧ HX VD VV V w' (M ++ P) g s1 r s2 p v1 ∧ Kept P w w'
theorem HX.post (G : yc6 VD VV) {Fv Fy F : List Nat} {ls : List LV} {b : Bool} {e : Ending} (hb : Below V.heap.size V w) (c : ∀ q ∈ F, V.heap.size ≤ q ∧ q ∉ Fy ++ (Fv ++ P)) (d : ∀ q ∈ Fy ++ (Fv ++ P), q < w.heap.size) (hy : VE w r s2 Fy) (h3 : ∀ q ∈ Fy, V.heap.size ≤ q ∧ q ∉ Fv ++ P) (h4 : ∀ q ∈ Fv, V.heap.size ≤ q ∧ q ∉ P)
  (hp : yc5 VD VV w g s1 F p v1 Fv ls b e w1) : ymb VD VV V w P g s1 r s2 p v1 ls b e w1 := by
 obtain ⟨F1, Fv1, S, M, rfl, hM, hv, hvv, k1, k2, k3, k4⟩ := hp
 have hin : ∀ q ∈ F ++ Fv, V.heap.size ≤ q ∧ q ∉ Fy ∧ q ∉ P := fun q hq => by
  rcases List.mem_append.1 hq with z | z
  ·exact ⟨(c q z).1, fun y => (c q z).2 (List.mem_append_left _ y), fun y => (c q z).2 (List.mem_append_right _ (List.mem_append_right _ y))⟩
  ·exact ⟨(h4 q z).1, fun y => (h3 q y).2 (List.mem_append_left _ z), (h4 q z).2⟩
 have hbase : Below V.heap.size V w1 := Touch.acc hb k1 (fun q hq => (hin q hq).1)
 have hy1 : VE w1 r s2 Fy := yfp hy k1 (fun q hq z => (hin q z).2.1 hq)
 have hkP : Kept P w w1 := ⟨_, k1, fun q hq z => (hin q z).2.2 hq⟩
 have hP : ∀ q ∈ P, q < w.heap.size := fun q hq => d q (List.mem_append_right _ (List.mem_append_right _ hq))
 have hY : ∀ q ∈ Fy, q < w.heap.size := fun q hq => d q (List.mem_append_left _ hq)
 have hM0 := hM
 obtain ⟨rs, m1, m2, m3, m4, m5⟩ := hM
 refine ⟨S, M, rfl, hM0, ⟨Fv1, ?_, hvv, fun q hq => ⟨?_, fun z => ?_⟩⟩, hkP⟩
 ·rw [← List.append_assoc]
  refine LX.build hbase hv (fun q hq => ?_) hy1 (fun q hq => ⟨(h3 q hq).1, fun z => (h3 q hq).2 (List.mem_append_right _ z)⟩) (fun q hq => Nat.lt_of_lt_of_le (hP q hq) k1.size) (fun q hq => ?_)
  ·rcases k2 q hq with z | z
   ·refine ⟨(c q z).1, fun y => (c q z).2 ?_⟩
    rcases List.mem_append.1 y with y | y
    ·exact List.mem_append_left _ y
    ·exact List.mem_append_right _ (List.mem_append_right _ y)
   ·refine ⟨Nat.le_trans hb.size z, fun y => ?_⟩
    rcases List.mem_append.1 y with y | y
    ·have := hY q y; omega
    ·have := hP q y; omega
  ·rcases List.mem_append.1 hq with z | z
   ·refine ⟨(G.has hvv).2 q z, (k3 q z).2, fun y => ?_⟩
    rcases (k3 q z).1 with x | x
    ·exact (hin q (List.mem_append_right _ x)).2.1 y
    ·have := hY q y; omega
   ·exact ⟨(m5 q z).2, (k4 q z).1, fun y => by have := hY q y; have := (m5 q z).1; omega⟩
 ·rcases (k3 q hq).1 with x | x
  ·exact (h4 q x).1
  ·exact Nat.le_trans hb.size x
 ·rcases List.mem_append.1 z with y | y
  ·exact (k4 q y).2 hq
  ·rcases (k3 q hq).1 with x | x
   ·exact (h4 q x).2 y
   ·have := hP q y; omega
theorem HX.got (G : yc6 VD VV) (h : HX VD VV V w P g s r s2 p v) (x : LV) (S1 S2 : Value) (hh : v.h = g) (h3 : v.st = 3 → s.g.shut = true) (hk : s.k ≤ 1000) (hl : s.g.l.length ≤ 1000) (hc : v.ch ≤ 1000) :
  Calls Tryz.prog 14 #[.pointer (some ⟨p, 0, none⟩), .agg (x.cells S1 S2)] w (ymb VD VV V w P g (v.did x s) r s2 p (v.got x).1 (v.got x).2 (v.over x)) := by
 obtain ⟨Fv, ⟨Fy, ⟨hb, ⟨F, hF, c⟩, d⟩, hy, k3⟩, hv, k4⟩ := h
 exact (G.got x S1 S2 hF hv (fun q hq z => (c q z).2 (List.mem_append_right _ (List.mem_append_left _ hq))) hh h3 hk hl hc).mono fun e w' z => HX.post G hb c d hy k3 k4 z
theorem HX.step (G : yc6 VD VV) (h : HX VD VV V w P g s r s2 p v) : Calls Tryz.prog 16 #[.pointer (some ⟨p, 0, none⟩)] w fun e w' => e = .returned (.int .i64 (v.st : Nat)) ∧ Below w.heap.size w w' := by
 obtain ⟨Fv, _, hv, _⟩ := h
 exact G.step hv
end
abbrev ltC (k f t i n : Int) : Array Value := #[.int .i64 k, .int .i64 f, .int .i64 t, .int .i64 i, .int .i64 0, .string ⟨#[]⟩, .string ⟨#[]⟩, .string ⟨#[]⟩, .int .i64 0, .int .i64 0, .string ⟨#[]⟩, .slice none 0 0, .bool false, .string ⟨#[]⟩, .int .i64 0, .int .u64 0, .int .u64 0, .int .i64 0, .slice none 0 0, .int .i64 n, .int .i64 0]
abbrev LV.lt (k f t i n : Int) : LV := ⟨k, f, t, i, 0, ⟨#[]⟩, ⟨#[]⟩, ⟨#[]⟩, 0, 0, ⟨#[]⟩, [], false, ⟨#[]⟩, 0, 0, 0, 0, [], n, 0⟩
abbrev LoI (nd : Int) (f t : Nat) (ep : Int) (its : List Item) : HO := (LoS nd f t ep).with its
theorem LoI.own (nd : Int) (f t : Nat) (ep : Int) (its : List Item) (x : Nat) : (LoI nd f t ep its).own x = if 0 ≤ ep ∧ inB f t x = true then some ep else none := LoS.own nd f t ep x
theorem LoI.g (nd : Int) (f t : Nat) (ep : Int) (its : List Item) : (LoI nd f t ep its).g = G0 := LoS.g nd f t ep
theorem LoI.k (nd : Int) (f t : Nat) (ep : Int) (its : List Item) : (LoI nd f t ep its).k ≤ 1 := LoS.k nd f t ep
theorem LoI.ring (nd : Int) (its : List Item) (x : Nat) : (LoI nd 0 0 0 its).own x = some 0 := by
 rw [LoI.own, if_pos ⟨Int.le_refl _, yf0 0 x⟩]
theorem LoI.great {nd : Int} {its : List Item} {q : Nat → Prop} {e : Int} (h : ydf (LoI nd 0 0 0 its).own q e) : e = 0 := by
 obtain ⟨_, x, _, _, h2⟩ := h
 rw [LoI.ring] at h2
 exact (Option.some.inj h2).symm
abbrev gv1 (f t : Nat) (to_ id : Int) (its : List Item) (g : Nat) : GV := ⟨1, to_, id, f, t, 1, 1, arcL its f t, 0, g⟩
section
variable {VD : World → Nat → HO → List Nat → Prop} {VV : World → Nat → GV → List Nat → Prop}
theorem ymc {W : World} : ∃ b off, ∀ i (h : i < ([] : List Item).length), (none : Option Addr) = some ⟨b, off, none⟩ ∧ b < W.heap.size ∧ W.cell? ⟨b, off + i * 2, none⟩ = some (.string (([] : List Item)[i]).1) ∧ W.cell? ⟨b, off + i * 2 + 1, none⟩ = some (.string (([] : List Item)[i]).2) := ⟨0, 0, fun i h => by simp at h⟩
theorem ymd (G : yc6 VD VV) {V w : World} {P : List Nat} {g r : Nat} {its : List Item} {s2 : HO} (h : LX VD V w P g (LoI 1 0 0 0 its) r s2) (f t : Nat) (to_ id : Int) (hf : f < 18446744073709551616) (ht : t < 18446744073709551616) (hto : Wide to_) (hid : Wide id) (h1 : to_ ≠ 1) :
  Calls Tryz.prog 10 #[.pointer (some ⟨g, 0, none⟩), .agg #[.int .u64 (f : Nat), .int .u64 (t : Nat)], .int .i64 1, .int .i64 to_, .int .i64 id] w fun e w' =>
   ∃ p q c a b M, e = .returned (.tuple #[.pointer (some ⟨p, 0, none⟩), .slice (some ⟨q, 0, none⟩) 1 c, .int .i64 0]) ∧ w.heap.size ≤ q ∧ q < w'.heap.size ∧ q ∈ M ∧ LR.At w' M ⟨(gv1 f t to_ id its g).offer, a, b⟩ ∧ (∀ j v, ((gv1 f t to_ id its g).offer.cells a b)[j]? = some v → w'.cell? ⟨q, j, none⟩ = some v) ∧
    HX VD VV V w' (M ++ P) g ((LoI 1 0 0 0 its).froze f t) r s2 p (gv1 f t to_ id its g) ∧ Kept P w w' := by
 refine (h.start G f t 1 to_ id hf ht ⟨by decide, by decide⟩ hto hid (by have := LoI.k 1 0 0 0 its; omega)).mono ?_
 rintro e w' (⟨h2, _⟩ | ⟨_, h2, _⟩ | ⟨_, _, ⟨x, _, _, h2⟩, _⟩ | ⟨_, _, _, p, S, M, ep, v, rfl, rfl, hM, hg, hx, hk⟩)
 ·exact absurd h2.symm h1
 ·rw [LoI.g] at h2
  cases h2
 ·rw [LoI.ring] at h2
  cases h2
 ·obtain rfl := LoI.great hg
  obtain ⟨q, c, a, b, rfl, k1, k2, k3, k4, k5⟩ := hM.one
  exact ⟨p, q, c, a, b, M, rfl, k1, k2, k3, k4, k5, hx, hk⟩
theorem yme (L : ybg VD) (G : yc6 VD VV) (W : World) : Calls Tryz.prog 8 #[] W fun e w' => e = .returned (.bool true) ∧ Below W.heap.size W w' := by
 have C0 : Hid (Calls Tryz.prog 9 #[.int .i64 1, .agg #[.int .u64 0, .int .u64 0], .int .i64 0, .slice none 0 0] W fun e w' => ∃ g r, e = .returned (.tuple #[.pointer (some ⟨g, 0, none⟩), .pointer (some ⟨r, 0, none⟩)]) ∧ LX VD W w' [] g (LoI 1 0 0 0 []) r (LoI 1 0 0 0 [])) := by
  refine (yjv L 1 0 0 0 none 0 0 [] W ymc rfl ⟨by decide, by decide⟩ ⟨by decide, by decide⟩ (by decide) (by decide)).mono ?_
  rintro e w' ⟨g, r, its, rfl, h, -, hn⟩
  obtain rfl := List.eq_nil_of_length_eq_zero (Nat.le_zero.1 hn)
  exact ⟨g, r, rfl, h⟩
 have C1 : Hid (∀ w g r, LX VD W w [] g (LoI 1 0 0 0 []) r (LoI 1 0 0 0 []) → Calls Tryz.prog 10 #[.pointer (some ⟨g, 0, none⟩), .agg #[.int .u64 0, .int .u64 0], .int .i64 1, .int .i64 2, .int .i64 5] w fun e w' =>
   ∃ p q c, e = .returned (.tuple #[.pointer (some ⟨p, 0, none⟩), .slice (some ⟨q, 0, none⟩) 1 c, .int .i64 0]) ∧ w'.cell? ⟨q, 0, none⟩ = some (.int .i64 10) ∧ w'.cell? ⟨q, 17, none⟩ = some (.int .i64 1) ∧ HX VD VV W w' [] g ((LoI 1 0 0 0 []).froze 0 0) r (LoI 1 0 0 0 []) p (gv1 0 0 2 5 [] g)) := fun w g r h => by
  refine (ymd G h 0 0 2 5 (by decide) (by decide) ⟨by decide, by decide⟩ ⟨by decide, by decide⟩ (by decide)).mono ?_
  rintro e w' ⟨p, q, c, a, b, M, rfl, -, -, -, -, k5, hx, -⟩
  exact ⟨p, q, c, rfl, k5 0 _ rfl, k5 17 _ rfl, hx.less (by simp)⟩
 have C2 : Hid (∀ w g r p, HX VD VV W w [] g ((LoI 1 0 0 0 []).froze 0 0) r (LoI 1 0 0 0 []) p (gv1 0 0 2 5 [] g) → Calls Tryz.prog 14 #[.pointer (some ⟨p, 0, none⟩), .agg (ltC 11 2 1 5 1)] w fun e w' =>
   ∃ q c, e = .returned (.tuple #[.slice (some ⟨q, 0, none⟩) 1 c, .bool false]) ∧ q ∈ [q] ∧ q < w'.heap.size ∧ w'.cell? ⟨q, 0, none⟩ = some (.int .i64 14) ∧ HX VD VV W w' [q] g ((LoI 1 0 0 0 []).froze 0 0) r (LoI 1 0 0 0 []) p ((gv1 0 0 2 5 [] g).at_ 3)) := fun w g r p h => by
  refine (h.got G (LV.lt 11 2 1 5 1) (.slice none 0 0) (.slice none 0 0) rfl (fun z => by cases z) (by have := LoI.k 1 0 0 0 []; show (LoI 1 0 0 0 []).k ≤ 1000; omega) (by show (LoI 1 0 0 0 []).g.l.length ≤ 1000; rw [LoI.g]; decide) (by show 0 ≤ 1000; decide)).mono ?_
  rintro e w' ⟨S, M, rfl, hM, hx, -⟩
  obtain ⟨q, c, a, b, rfl, k1, k2, k3, k4, k5⟩ := hM.one (l := (gv1 0 0 2 5 [] g).commit)
  exact ⟨q, c, rfl, by simp, k2, k5 0 _ rfl, hx.less (fun z hz => by rw [List.mem_singleton.1 hz]; exact List.mem_append_left _ k3)⟩
 have C3 : Hid (∀ w g r p q, HX VD VV W w [q] g ((LoI 1 0 0 0 []).froze 0 0) r (LoI 1 0 0 0 []) p ((gv1 0 0 2 5 [] g).at_ 3) → Calls Tryz.prog 14 #[.pointer (some ⟨p, 0, none⟩), .agg (ltC 15 2 1 5 0)] w fun e w' =>
   ∃ A c, e = .returned (.tuple #[.slice A 0 c, .bool true]) ∧ HX VD VV W w' [q] g (((LoI 1 0 0 0 []).froze 0 0).lose 2) r (LoI 1 0 0 0 []) p ((gv1 0 0 2 5 [] g).at_ 4) ∧ Kept [q] w w') := fun w g r p q h => by
  refine (h.got G (LV.lt 15 2 1 5 0) (.slice none 0 0) (.slice none 0 0) rfl (fun _ => rfl) (by have := LoI.k 1 0 0 0 []; show (LoI 1 0 0 0 []).k ≤ 1000; omega) (by show (LoI 1 0 0 0 []).g.l.length ≤ 1000; rw [LoI.g]; decide) (by show 0 ≤ 1000; decide)).mono ?_
  rintro e w' ⟨S, M, rfl, hM, hx, hk⟩
  obtain ⟨A, c, rfl⟩ := hM.empty
  exact ⟨A, c, rfl, hx.less (fun z hz => List.mem_append_right _ hz), hk⟩
 have C4 : Hid (∀ w g r p q, HX VD VV W w [q] g (((LoI 1 0 0 0 []).froze 0 0).lose 2) r (LoI 1 0 0 0 []) p ((gv1 0 0 2 5 [] g).at_ 4) → Calls Tryz.prog 16 #[.pointer (some ⟨p, 0, none⟩)] w fun e w' => e = .returned (.int .i64 4) ∧ Below w.heap.size w w') := fun w g r p q h => h.step G
 have C5 : Hid (∀ w g r p q, HX VD VV W w [q] g (((LoI 1 0 0 0 []).froze 0 0).lose 2) r (LoI 1 0 0 0 []) p ((gv1 0 0 2 5 [] g).at_ 4) → Calls Tryz.prog 30 #[.pointer (some ⟨g, 0, none⟩), .int .u64 7] w fun e w' => e = .returned (.bool false) ∧ Below w.heap.size w w') := fun w g r p q h => by
  have e7 : (((LoI 1 0 0 0 []).froze 0 0).lose 2).own 7 = none := yrs (yf0 0 7)
  have z := h.both.code.has L 7 (by decide) (by have := LoI.k 1 0 0 0 []; show (LoI 1 0 0 0 []).k + 1 ≤ 1000; omega)
  rw [e7] at z
  exact z
 go_enter Tryz.func8, Tryz.ntmps8
 go_wp2_with (first
  | (go_at_call 9; (with_reducible refine (C0.out).mono ?_); rintro e w1 ⟨g, r, rfl, x1⟩; have X1 := Lib.hid x1; clear x1)
  | (go_at_call 10; (with_reducible refine (C1.out _ _ _ X1.out).mono ?_); rintro e w2 ⟨p, q2, c2, rfl, a0, a17, x2⟩; have X2 := Lib.hid x2; clear x2)
  | (go_at_call 14; (with_reducible refine (C2.out _ _ _ _ X2.out).mono ?_); rintro e w3 ⟨q3, c3, rfl, -, l3, b0, x3⟩; have X3 := Lib.hid x3; have B0 := Lib.hid b0; clear x3 a0 a17)
  | (go_at_call 14; (with_reducible refine (C3.out _ _ _ _ _ X3.out).mono ?_); rintro e w4 ⟨A4, c4, rfl, x4, k4⟩; have X4 := Lib.hid x4; have b4 := (k4.cell (p := ⟨q3, 0, none⟩) (by simp) l3).trans B0.out; clear x4 k4 b0)
  | (go_at_call 16; (with_reducible refine (C4.out _ _ _ _ _ X4.out).mono ?_); rintro e w5 ⟨rfl, h5⟩; have X5 := Lib.hid (X4.out.below L G h5); clear h5)
  | (go_at_call 30; (with_reducible refine (C5.out _ _ _ _ _ X5.out).mono ?_); rintro e w6 ⟨rfl, h6⟩; have H6 := Lib.hid (acc X5.out.base h6); clear h6))
 go_ret
 exact ⟨rfl, H6.out⟩
end
theorem ymf (f t g u : Nat) (w : World) (hf : f < 18446744073709551616) (ht : t < 18446744073709551616) (hg : g < 18446744073709551616) (hu : u < 18446744073709551616) :
  Calls Tryz.prog 171 #[.agg #[.int .u64 f, .int .u64 t], .agg #[.int .u64 g, .int .u64 u]] w fun e w' => e = .returned (.bool (yat f t g u)) ∧ Below w.heap.size w w' := by
 have C1 := Lib.hid fun W => ydz f t g W hf ht hg
 have C2 := Lib.hid fun W => ydz g u f W hg hu hf
 clear hf ht hg hu
 unfold yat
 generalize inB f t g = p at *
 generalize inB g u f = q at *
 go_enter Tryz.func171, Tryz.ntmps171
 cases p
 all_goals
  go_wp2_with (first
   | (go_at_call 113; ((with_reducible refine (C1.out _).mono ?_); rintro e w1 ⟨rfl, hb1⟩; obtain ⟨hc1, hf1⟩ := ycx hb1))
   | (go_at_call 113; ((with_reducible refine (C2.out _).mono ?_); rintro e w2 ⟨rfl, hb2⟩)))
 ·go_ret
  exact ⟨by simp, (ydp w _ _).trans ((hb1.mono (by simp; omega)).trans (hb2.mono (by have := hb1.size; simp at this; omega)))⟩
 ·go_ret
  exact ⟨by simp, (ydp w _ _).trans (hb1.mono (by simp; omega))⟩
theorem yfq (w : World) (o1 o2 o3 : Obj) : Below w.heap.size w (((w.alloc o1).alloc o2).alloc o3) := (ydp w o1 o2).alloc (by simp; omega) o3
def mayB (f t x : Nat) : Bool := !(x == f) && inB f t x
def ydt (b : Bool) (f t : Nat) : Value := .agg #[.int .u64 ((if b then f else 0 : Nat)), .int .u64 ((if b then t else 0 : Nat))]
theorem yh5 (f t : Nat) : ydt true f t = .agg #[.int .u64 f, .int .u64 t] := rfl
theorem yh6 (f t : Nat) : ydt false f t = .agg #[.int .u64 0, .int .u64 0] := rfl
theorem yjx (f t x : Nat) (w : World) (hf : f < 18446744073709551616) (ht : t < 18446744073709551616) (hx : x < 18446744073709551616) :
  Calls Tryz.prog 162 #[.agg #[.int .u64 f, .int .u64 t], .int .u64 x] w fun e w' => e = .returned (.tuple #[ydt (mayB f t x) f x, ydt (mayB f t x) x t, .bool (mayB f t x)]) ∧ Below w.heap.size w w' := by
 have C1 := Lib.hid fun W => ydz f t x W hf ht hx
 clear hf ht hx
 unfold mayB
 generalize inB f t x = p at *
 have b1 := yg8 x f
 generalize (x == f) = q at *
 cases q
 ·cases p
  ·go_enter Tryz.func162, Tryz.ntmps162
   go_wp2_with (go_at_call 113; ((with_reducible refine (C1.out _).mono ?_); rintro e w1 ⟨rfl, hb1⟩; obtain ⟨hc1, hf1⟩ := ycx hb1))
   exact bodyPost_ret (v := .tuple #[.agg #[.int .u64 0, .int .u64 0], .agg #[.int .u64 0, .int .u64 0], .bool false]) (by simp [results, Tryz.results162, go_sem, hc1]) rfl ⟨rfl, by have hb := (yfq w _ _ _).trans (hb1.mono (by simp; omega)); exact (((hb.setCell (by simp) _).setCell (by simp) _).setCell (by simp; omega) _).setCell (by simp; omega) _⟩
  ·go_enter Tryz.func162, Tryz.ntmps162
   go_wp2_with (go_at_call 113; ((with_reducible refine (C1.out _).mono ?_); rintro e w1 ⟨rfl, hb1⟩; obtain ⟨hc1, hf1⟩ := ycx hb1))
   have hs0 := hb1.size
   simp at hs0
   go_region
   go_wp2
   refine bodyPost_ret (v := .tuple #[.agg #[.int .u64 f, .int .u64 x], .agg #[.int .u64 x, .int .u64 t], .bool true]) (by simp [results, Tryz.results162, go_sem, hc1]) rfl ⟨rfl, ?_⟩
   have hb := (yfq w _ _ _).trans (hb1.mono (by simp; omega))
   exact ((((hb.setCell (by simp) _).setCell (by simp) _).setCell (by simp; omega) _).setCell (by simp; omega) _).drew
 ·go_enter Tryz.func162, Tryz.ntmps162
  go_wp2
  exact bodyPost_ret (v := .tuple #[.agg #[.int .u64 0, .int .u64 0], .agg #[.int .u64 0, .int .u64 0], .bool false]) (by simp [results, Tryz.results162, go_sem]) rfl ⟨rfl, yfq w _ _ _⟩
def yet (f t g u : Nat) : Bool := (t == g) && yat f t g u
theorem ymg (f t g u : Nat) (w : World) (hf : f < 18446744073709551616) (ht : t < 18446744073709551616) (hg : g < 18446744073709551616) (hu : u < 18446744073709551616) :
  Calls Tryz.prog 196 #[.agg #[.int .u64 f, .int .u64 t], .agg #[.int .u64 g, .int .u64 u]] w fun e w' => e = .returned (.tuple #[ydt (yet f t g u) f u, .bool (yet f t g u)]) ∧ Below w.heap.size w w' := by
 have C1 := Lib.hid fun W => ymf f t g u W hf ht hg hu
 clear hf ht hg hu
 unfold yet
 generalize yat f t g u = p at *
 have b1 := yg8 t g
 have b2 : ((t : Int) != (g : Int)) = !(t == g) := by rw [← b1]; rfl
 generalize (t == g) = q at *
 cases q
 ·go_enter Tryz.func196, Tryz.ntmps196
  go_wp2
  exact bodyPost_ret (v := .tuple #[.agg #[.int .u64 0, .int .u64 0], .bool false]) (by simp [results, Tryz.results196, go_sem]) rfl ⟨rfl, yfq w _ _ _⟩
 ·cases p
  ·go_enter Tryz.func196, Tryz.ntmps196
   go_wp2_with (go_at_call 171; ((with_reducible refine (C1.out _).mono ?_); rintro e w1 ⟨rfl, hb1⟩; obtain ⟨hc1, hf1⟩ := ycx hb1))
   exact bodyPost_ret (v := .tuple #[.agg #[.int .u64 0, .int .u64 0], .bool false]) (by simp [results, Tryz.results196, go_sem, hc1]) rfl ⟨rfl, by have hb := (yfq w _ _ _).trans (hb1.mono (by simp; omega)); exact (hb.setCell (by simp; omega) _).setCell (by simp; omega) _⟩
  ·go_enter Tryz.func196, Tryz.ntmps196
   go_wp2_with (go_at_call 171; ((with_reducible refine (C1.out _).mono ?_); rintro e w1 ⟨rfl, hb1⟩; obtain ⟨hc1, hf1⟩ := ycx hb1))
   have hs0 := hb1.size
   simp at hs0
   refine bodyPost_ret (v := .tuple #[.agg #[.int .u64 f, .int .u64 u], .bool true]) (by simp [results, Tryz.results196, go_sem, hc1]) rfl ⟨rfl, ?_⟩
   have hb := (yfq w _ _ _).trans (hb1.mono (by simp; omega))
   exact (hb.setCell (by simp; omega) _).setCell (by simp; omega) _
end Go.Proofs.YtnjodhglbapnlaaGreat
