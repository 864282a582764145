import Derived.Test.YtnjodhglbapnlaaGreatGc06
import Derived.Test.YtnjodhglbapnlaaGreatGc02
import Derived.Test.YtnjodhglbapnlaaGreatGc04
import Derived.Test.YtnjodhglbapnlaaGreatGc01
import Derived.Test.YtnjodhglbapnlaaGreatGc05
import Derived.Deep.CutBlock
import Derived.Deep.RegionHeld3
import Derived.BigQuiet
import Derived.ProofKit
import Derived.OpenShut
import Derived.Deep.RegionLaw
import Derived.Deep.QuietTactic
import Derived.Deep.DeepCutAuto
import Derived.RegionTactic
set_option maxRecDepth 100000
set_option maxHeartbeats 16000000
namespace Go.Proofs.YtnjodhglbapnlaaGreat
open Go.RowKit
def gvN (f t : Nat) (its : List Item) (g n : Nat) : GV := if n = 0 then gv1 f t 2 9 its g else (gv1 f t 2 9 its g).sent 2 n
def inK (n : Nat) : Int := if n = 0 then 11 else 13
def inV (n : Nat) : Int := if n = 0 then 1 else (n : Nat)
theorem ygd (f t : Nat) (its : List Item) (g n : Nat) : (gvN f t its g n).ch = n := by
 unfold gvN
 split
 ·rename_i h
  exact h.symm
 ·rfl
theorem yl8 (f t : Nat) (its : List Item) (g n : Nat) : (gvN f t its g n).h = g := by
 unfold gvN
 split <;> rfl
theorem yl9 (f t : Nat) (its : List Item) (g n : Nat) : (gvN f t its g n).st ≠ 3 := by
 unfold gvN
 split
 ·show 1 ≠ 3
  decide
 ·show 2 ≠ 3
  decide
theorem yma (f t : Nat) (its : List Item) (g n : Nat) : (gvN f t its g n).got (LV.lt (inK n) 2 1 9 (inV n)) = (gvN f t its g n).next := by
 unfold gvN inK inV GV.got
 by_cases h : n = 0
 ·simp [h]
 ·simp [h, GV.sent]
theorem yr2 {f t : Nat} {its : List Item} {g n : Nat} (h : (arcL its f t).length ≤ n * 4) :
  (gvN f t its g n).got (LV.lt (inK n) 2 1 9 (inV n)) = ((gvN f t its g n).at_ 3, [(gv1 f t 2 9 its g).commit]) ∧ (gvN f t its g n).over (LV.lt (inK n) 2 1 9 (inV n)) = false ∧ ∀ s, (gvN f t its g n).did (LV.lt (inK n) 2 1 9 (inV n)) s = s := by
 have e : (gvN f t its g n).got (LV.lt (inK n) 2 1 9 (inV n)) = ((gvN f t its g n).at_ 3, [(gv1 f t 2 9 its g).commit]) := by
  rw [yma]
  unfold GV.next
  rw [if_pos (by rw [ygd]; unfold gvN; split <;> exact h)]
  unfold gvN
  split <;> rfl
 refine ⟨e, ?_, fun s => ?_⟩
 ·rw [GV.over_eq (by unfold gvN; split <;> rfl) (by unfold gvN; split <;> rfl), e]
  rfl
 ·unfold gvN inK inV GV.did
  by_cases h0 : n = 0
  ·simp [h0]
  ·simp [h0, GV.sent]
theorem yr3 {f t : Nat} {its : List Item} {g n : Nat} (h : ¬ (arcL its f t).length ≤ n * 4) :
  (gvN f t its g n).got (LV.lt (inK n) 2 1 9 (inV n)) = (gvN f t its g (n + 1), [(gv1 f t 2 9 its g).chunk (n + 1) (((arcL its f t).drop (n * 4)).take 4)]) ∧ (gvN f t its g n).over (LV.lt (inK n) 2 1 9 (inV n)) = false ∧ ∀ s, (gvN f t its g n).did (LV.lt (inK n) 2 1 9 (inV n)) s = s := by
 have e : (gvN f t its g n).got (LV.lt (inK n) 2 1 9 (inV n)) = (gvN f t its g (n + 1), [(gv1 f t 2 9 its g).chunk (n + 1) (((arcL its f t).drop (n * 4)).take 4)]) := by
  rw [yma]
  unfold GV.next
  rw [if_neg (by rw [ygd]; unfold gvN; split <;> exact h), ygd]
  unfold gvN
  rw [if_neg (Nat.succ_ne_zero n)]
  by_cases h0 : n = 0
  ·rw [if_pos h0]
  ·rw [if_neg h0]; rfl
 refine ⟨e, ?_, fun s => ?_⟩
 ·rw [GV.over_eq (by unfold gvN; split <;> rfl) (by unfold gvN; split <;> rfl), e]
  show decide (4 ≤ (gvN f t its g (n + 1)).st) = false
  unfold gvN
  rw [if_neg (Nat.succ_ne_zero n)]
  rfl
 ·unfold gvN inK inV GV.did
  by_cases h0 : n = 0
  ·simp [h0]
  ·simp [h0, GV.sent]
theorem From.ofSl {W : World} {S : Value} {zs : List Item} (h : SlAt W S zs) (h0 : 0 < zs.length) : From W 2 S zs.length (yaa zs) := by
 obtain ⟨A, c, rfl, _, _, b, off, h⟩ := h
 obtain ⟨rfl, -⟩ := h 0 h0
 refine .inr ⟨_, c, rfl, by rw [ybp], fun j u hj => ?_⟩
 have hlt := (List.getElem?_eq_some_iff.1 hj).1
 rw [ybp] at hlt
 rw [Go.WideShapes.add_plain]
 rcases (by omega : j = j / 2 * 2 ∨ j = j / 2 * 2 + 1) with e | e
 ·obtain ⟨_, _, k1, _⟩ := h (j / 2) (by omega)
  rw [e, ybw zs (j / 2) (by omega)] at hj
  rw [e, ← hj]
  exact k1
 ·obtain ⟨_, _, _, k2⟩ := h (j / 2) (by omega)
  rw [e, yb4 zs (j / 2) (by omega)] at hj
  rw [e, ← hj, ← Nat.add_assoc]
  exact k2
theorem yr4 {w : World} {g : Nat} {old : Array Value} {T : TypeId} (cs : Array Value) (h : w.heap[g]? = some (.cells old T)) : (w.setRow g cs).heap[g]? = some (.cells cs T) := by
 simp [World.setRow, Array.getElem?_modify, h]
theorem yr5 (w : World) (g : Nat) (cs : Array Value) : Touch [g] w (w.setRow g cs) :=
 ⟨rfl, rfl, rfl, by simp [World.setRow], fun k _ hn => setRow_other w g k cs (fun e => hn (by simp [e]))⟩
section
variable {VD : World → Nat → HO → List Nat → Prop} {VV : World → Nat → GV → List Nat → Prop} {V w w1 : World} {P : List Nat} {g r p : Nat} {s s1 s2 s3 : HO} {v v1 : GV}
theorem HX.touch (L : ybd VD) (G : ybz VD VV) {T : List Nat} (h : HX VD VV V w P g s r s2 p v) (t : Touch T w w1) (hT : ∀ q ∈ T, V.heap.size ≤ q ∧ q ∈ P) : HX VD VV V w1 P g s r s2 p v := by
 obtain ⟨Fv, ⟨Fy, ⟨b, ⟨F, h1, c⟩, d⟩, hy, h3⟩, hv, h4⟩ := h
 refine ⟨Fv, ⟨Fy, ⟨Touch.acc b t (fun q hq => (hT q hq).1), ⟨F, L.touch h1 t (fun q hq z => (c q hq).2 (List.mem_append_right _ (List.mem_append_right _ (hT q z).2))), c⟩, fun q hq => Nat.lt_of_lt_of_le (d q hq) t.size⟩, yd4 hy t (fun q hq z => (h3 q hq).2 (List.mem_append_right _ (hT q z).2)), h3⟩, G.touch hv t (fun q hq z => (h4 q hq).2 (hT q z).2), h4⟩
theorem HX.did (L : ybd VD) (G : ybz VD VV) (h : HX VD VV V w P g s r s2 p v) (a : AK) (ha : a.Fit) (hk : s.k ≤ 1000) (h1 : s.g.l.length ≤ 1000) : Calls Tryz.prog 21 #[.pointer (some ⟨g, 0, none⟩), .agg a.cells] w fun e w' =>
  ∃ t s1 S, Did s a t s1 ∧ e = .returned (.agg (t.cells S)) ∧ w'.ownsRow w.heap.size 96 2 S t.its.length (yaa t.its) ∧ HX VD VV V w' (S.ownBlock.toList ++ P) g s1 r s2 p v ∧ Kept P w w' := by
 obtain ⟨Fv, hx, hv, h3⟩ := h
 refine (hx.did L a ha hk h1).mono ?_
 rintro e w' ⟨t, s1, S, k1, rfl, k2, k3, k4⟩
 exact ⟨t, s1, S, k1, rfl, k2, HX.back G k3 k4 hv h3 (fun q hq => (k2.lt q (by simpa using hq)).1), k4.less (fun q hq => List.mem_append_right _ hq)⟩
theorem yr6 {s s1 : HO} {a : AK} {t : TL} {its : List Item} (h : Did (s.with its) a t s1) : ∃ its', s1 = s.with its' := by
 cases hb : (s.with its).bar a with
 | some b => exact ⟨its, (h.bar hb).2⟩
 | none =>
  rcases h.at_ hb with ⟨_, _, z⟩ | ⟨_, _, z⟩ | ⟨_, _, z⟩ | ⟨_, _, z⟩
  ·exact ⟨its, z⟩
  ·split at z
   ·exact ⟨_, z⟩
   ·exact ⟨its, z⟩
  ·exact ⟨_, z⟩
  ·exact ⟨its, z⟩
structure ChX (VD : World → Nat → HO → List Nat → Prop) (VV : World → Nat → GV → List Nat → Prop) (V w : World) (g : Nat) (s : HO) (r : Nat) (s2 : HO) (p : Nat) (v : GV) (qi : Nat) (X : Array Value) (wv : Value) (want : List Item) (gv : Value) (got : List Item) (m : Nat) : Prop where
 hx : HX VD VV V w (qi :: (wv.ownBlock.toList ++ gv.ownBlock.toList)) g s r s2 p v
 bx : w.heap[qi]? = some (.cells X 49)
 wt : w.ownsRow V.heap.size 96 2 wv want.length (yaa want)
 gt : w.ownsRow V.heap.size 96 2 gv m (yaa got)
 lo : V.heap.size ≤ qi
 ap : wv.ownBlock ≠ some qi ∧ gv.ownBlock ≠ some qi ∧ ∀ q, wv.ownBlock = some q → gv.ownBlock ≠ some q
variable {qi m : Nat} {X : Array Value} {wv gv : Value} {want got : List Item}
theorem ChX.kept (h : ChX VD VV V w g s r s2 p v qi X wv want gv got m) (k : Kept (qi :: (wv.ownBlock.toList ++ gv.ownBlock.toList)) w w1) (hx : HX VD VV V w1 (qi :: (wv.ownBlock.toList ++ gv.ownBlock.toList)) g s1 r s3 p v1) : ChX VD VV V w1 g s1 r s3 p v1 qi X wv want gv got m :=
 ⟨hx, (k.block (by simp) (yhs h.bx)).trans h.bx, k.row h.wt (fun q hq => by simp [hq]), k.row h.gt (fun q hq => by simp [hq]), h.lo, h.ap⟩
theorem ChX.did (L : ybd VD) (G : ybz VD VV) (h : ChX VD VV V w g s r s2 p v qi X wv want gv got m) (a : AK) (ha : a.Fit) (hk : s.k ≤ 1000) (h1 : s.g.l.length ≤ 1000) : Calls Tryz.prog 21 #[.pointer (some ⟨g, 0, none⟩), .agg a.cells] w fun e w' =>
  ∃ t s1 u, Did s a t s1 ∧ e = .returned u ∧ ChX VD VV V w' g s1 r s2 p v qi X wv want gv got m := by
 refine (h.hx.did L G a ha hk h1).mono ?_
 rintro e w' ⟨t, s1, S, k1, rfl, -, k3, k4⟩
 exact ⟨t, s1, _, k1, rfl, h.kept k4 (k3.less (fun q hq => List.mem_append_right _ hq))⟩
theorem ChX.answer (G : ybz VD VV) (h : ChX VD VV V w g s r s2 p v qi X wv want gv got m) (x : LV) (S1 S2 : Value) (hh : v.h = g) (h3 : v.st ≠ 3) (hk : s.k ≤ 1000) (hl : s.g.l.length ≤ 1000) (hc : v.ch ≤ 1000) {l : LV} (hv : v.got x = (v1, [l])) (hd : v.did x s = s) (ho : v.over x = false) :
  Calls Tryz.prog 14 #[.pointer (some ⟨p, 0, none⟩), .agg (x.cells S1 S2)] w fun e w' =>
   ∃ q c a b M, e = .returned (.tuple #[.slice (some ⟨q, 0, none⟩) 1 c, .bool false]) ∧ q < w'.heap.size ∧ LR.At w' M ⟨l, a, b⟩ ∧ (∀ j u, (l.cells a b)[j]? = some u → w'.cell? ⟨q, j, none⟩ = some u) ∧ ChX VD VV V w' g s r s2 p v1 qi X wv want gv got m := by
 have z := h.hx.got G x S1 S2 hh (fun e => absurd e h3) hk hl hc
 rw [hv, hd, ho] at z
 refine z.mono ?_
 rintro e w' ⟨S, M, rfl, hM, hx, hk⟩
 obtain ⟨q, c, a, b, rfl, -, k2, -, k4, k5⟩ := hM.one
 exact ⟨q, c, a, b, M, rfl, k2, k4, k5, h.kept hk (hx.less (fun z hz => List.mem_append_right _ hz))⟩
theorem ChX.grow (L : ybd VD) (G : ybz VD VV) {gv1 : Value} {got1 : List Item} {m1 : Nat} (h : ChX VD VV V w g s r s2 p v qi X wv want gv got m) (hg : w.grownBy w1 gv.ownBlock) (hs : yaw w gv gv1) (hr : w1.ownsRow V.heap.size 96 2 gv1 m1 (yaa got1)) : ChX VD VV V w1 g s r s2 p v qi X wv want gv1 got1 m1 := by
 have t : Touch gv.ownBlock.toList w w1 := (Touch.refl _ _).grown hg (fun k hk => .inl (by simp [hk]))
 have hlt := yhs h.bx
 have x0 := h.hx.touch L G t (fun q hq => ⟨(h.gt.lt q (by simpa using hq)).1, by simp at hq ⊢; exact .inr (.inr hq)⟩)
 obtain ⟨a1, a2, a3⟩ := h.ap
 have hn : ∀ q, gv1.ownBlock = some q → gv.ownBlock = some q ∨ w.heap.size ≤ q := hs
 refine ⟨?_, (t.block qi hlt (fun z => a2 (by simpa using z))).trans h.bx, t.row h.wt (fun q hq z => a3 q hq (by simpa using z)), hr, h.lo, a1, fun z => ?_, fun q hq z => ?_⟩
 ·
  obtain ⟨Fv, ⟨Fy, ⟨b, ⟨F, h1, c⟩, d⟩, hy, h3⟩, hv, h4⟩ := h.hx
  have hbase := x0.base
  have hd : ∀ q, (qi :: (wv.ownBlock.toList ++ gv1.ownBlock.toList)).contains q = true → q ∈ qi :: (wv.ownBlock.toList ++ gv.ownBlock.toList) ∨ w.heap.size ≤ q := fun q hq => by
   rw [List.contains_iff_mem] at hq
   simp only [List.mem_cons, List.mem_append, Option.mem_toList] at hq ⊢
   rcases hq with z | z | z
   ·exact .inl (.inl z)
   ·exact .inl (.inr (.inl z))
   ·exact (hn q z).imp (fun y => .inr (.inr y)) id
  have hd' : ∀ q, q ∈ qi :: (wv.ownBlock.toList ++ gv1.ownBlock.toList) → q ∈ qi :: (wv.ownBlock.toList ++ gv.ownBlock.toList) ∨ w.heap.size ≤ q := fun q hq => hd q (List.contains_iff_mem.2 hq)
  have out : ∀ q, q < w.heap.size → q ∉ qi :: (wv.ownBlock.toList ++ gv.ownBlock.toList) → q ∉ qi :: (wv.ownBlock.toList ++ gv1.ownBlock.toList) := fun q hq hn z => by
   rcases hd' q z with y | y
   ·exact hn y
   ·omega
  have htg : ∀ q, q ∈ gv.ownBlock.toList → q ∈ qi :: (wv.ownBlock.toList ++ gv.ownBlock.toList) := fun q hq => List.mem_cons_of_mem _ (List.mem_append_right _ hq)
  refine ⟨Fv, ⟨Fy, ⟨hbase, ⟨F, L.touch h1 t (fun q hq z => (c q hq).2 (List.mem_append_right _ (List.mem_append_right _ (htg q z)))), fun q hq => ⟨(c q hq).1, fun z => ?_⟩⟩, fun q hq => ?_⟩, yd4 hy t (fun q hq z => (h3 q hq).2 (List.mem_append_right _ (htg q z))), fun q hq => ⟨(h3 q hq).1, fun z => ?_⟩⟩, G.touch hv t (fun q hq z => (h4 q hq).2 (htg q z)), fun q hq => ⟨(h4 q hq).1, out q ((G.has hv).2 q hq) (h4 q hq).2⟩⟩
  ·rcases List.mem_append.1 z with y | y
   ·exact (c q hq).2 (List.mem_append_left _ y)
   ·rcases List.mem_append.1 y with y | y
    ·exact (c q hq).2 (List.mem_append_right _ (List.mem_append_left _ y))
    ·exact out q ((L.has_ h1).2 q hq) (fun x => (c q hq).2 (List.mem_append_right _ (List.mem_append_right _ x))) y
  ·have hsz := t.size
   rcases List.mem_append.1 hq with y | y
   ·exact Nat.lt_of_lt_of_le ((yeo hy).2 q y) hsz
   ·rcases List.mem_append.1 y with y | y
    ·exact Nat.lt_of_lt_of_le ((G.has hv).2 q y) hsz
    ·simp only [List.mem_cons, List.mem_append, Option.mem_toList] at y
     rcases y with y | y | y
     ·rw [y]; omega
     ·have := (h.wt.lt q y).2; omega
     ·exact (hr.lt q y).2
  ·rcases List.mem_append.1 z with y | y
   ·exact (h3 q hq).2 (List.mem_append_left _ y)
   ·exact out q ((yeo hy).2 q hq) (fun x => (h3 q hq).2 (List.mem_append_right _ x)) y
 ·rcases hn qi z with y | y
  ·exact a2 y
  ·omega
 ·rcases hn q z with y | y
  ·exact a3 q hq y
  ·have := (h.wt.lt q hq).2; omega
theorem ChX.put (L : ybd VD) (G : ybz VD VV) (Y : Array Value) (h : ChX VD VV V w g s r s2 p v qi X wv want gv got m) : ChX VD VV V (w.setRow qi Y) g s r s2 p v qi Y wv want gv got m := by
 have t := yr5 w qi Y
 obtain ⟨a1, a2, a3⟩ := h.ap
 exact ⟨h.hx.touch L G t (fun q hq => by rw [List.mem_singleton.1 hq]; exact ⟨h.lo, by simp⟩), yr4 Y h.bx, t.row h.wt (fun q hq z => a1 (by rw [hq, List.mem_singleton.1 z])), t.row h.gt (fun q hq z => a2 (by rw [hq, List.mem_singleton.1 z])), h.lo, a1, a2, a3⟩
end
def ymb (W : World) (l : List Item) (e : Ending) (w' : World) : Prop := ∃ A c, e = .returned (.slice A l.length c) ∧ w'.ownsRow W.heap.size 96 2 (.slice A l.length c) l.length (yaa l) ∧ Below W.heap.size W w'
theorem yr7 (g : Nat) (F : List Nat) (most : Int) (l : List Item) (f t : Nat) (W : World) (hR : RS W g F most l) (hl : l.length ≤ 100000) (hks : ∀ x ∈ l, x.1.size ≤ 16) (hf : f < 18446744073709551616) (ht : t < 18446744073709551616) :
  Calls Tryz.prog 25 #[.pointer (some ⟨g, 0, none⟩), .agg #[.int .u64 (f : Nat), .int .u64 (t : Nat)]] W (ymb W (arcL l f t)) := by
 obtain ⟨i0, hi0, hz0, hs0, hb0⟩ := yl1
 have hR1 := hR.laterH ((Below.refl W.heap.size W).alloc (Nat.le_refl _) (.cells #[.int .u64 (f : Nat), .int .u64 (t : Nat)] 25))
 have hx0 : (W.alloc (.cells #[.int .u64 (f : Nat), .int .u64 (t : Nat)] 25)).cell? ⟨W.heap.size, 0, none⟩ = some (.int .u64 (f : Nat)) := by go_simp
 have hx1 : (W.alloc (.cells #[.int .u64 (f : Nat), .int .u64 (t : Nat)] 25)).cell? ⟨W.heap.size, 1, none⟩ = some (.int .u64 (t : Nat)) := by go_simp
 have hB1 : W.heap.size < (W.alloc (.cells #[.int .u64 (f : Nat), .int .u64 (t : Nat)] 25)).heap.size := by simp
 have HBW : Hid (Below W.heap.size W (W.alloc (.cells #[.int .u64 (f : Nat), .int .u64 (t : Nat)] 25))) := (Below.refl _ _).alloc (Nat.le_refl _) _
 have HKS := Lib.hid hks
 clear hR hks
 go_enter Tryz.func25, Tryz.ntmps25
 go_wp2_with fail
 obtain ⟨W1, hW1⟩ : ∃ W1, W.alloc (.cells #[.int .u64 (f : Nat), .int .u64 (t : Nat)] 25) = W1 := ⟨_, rfl⟩
 rw [hW1] at hR1 hx0 hx1 hB1 HBW ⊢
 obtain ⟨A0, c0, ⟨hg1, -, hg3, -, -⟩, h6, -, -⟩ := hR1
 have HRow := Lib.hid h6
 obtain ⟨n, hn⟩ : ∃ n, l.length = n := ⟨_, rfl⟩
 have HN := Lib.hid hn
 rw [hn] at hg3 hl
 clear h6 hn hW1
 go_loopg [5, 6] 3 (fun gh s5 s6 wx => ∃ (r : Int) (A : Option Addr) (c : Nat) (cur : List Item), s5 = .slice A cur.length c ∧ s6 = .int .i64 r ∧ ((r = 0 ∧ gh = 3 ∧ cur = []) ∨ (r = 1 ∧ gh = 2 ∧ cur = l.filter (inA f t false)) ∨ (r = 2 ∧ gh = 1 ∧ cur = arcL l f t)) ∧ Hid (yco W1 wx A c cur))
 case atStart => exact ⟨0, none, 0, [], rfl, rfl, .inl ⟨rfl, rfl, rfl⟩, yco.nil W1⟩
 case round =>
  obtain ⟨r, A, c, cur, rfl, rfl, hcase, HO⟩ := hrel
  rcases hcase with ⟨rfl, hgk, hcur⟩ | ⟨rfl, hgk, hcur⟩ | ⟨rfl, hgk, hcur⟩
  ·
   obtain ⟨wq, rfl⟩ : ∃ wq : World, wq = wr := ⟨_, rfl⟩
   obtain ⟨go, rfl⟩ : ∃ go : Nat, go = gk := ⟨_, rfl⟩
   have hcl : cur.length ≤ n := by rw [hcur]; simp
   go_wp2_with fail
   go_loopg [5, 7] (n + 1) (fun gj s5 s7 wy => ∃ i A2 c2 cur2, i + gj = n + 1 ∧ i ≤ n ∧ s5 = .slice A2 cur2.length c2 ∧ s7 = .int .i64 (i : Nat) ∧ cur2.length ≤ cur.length + i ∧ Hid (cur2 = cur ++ (l.take i).filter (inA f t false)) ∧ Hid (yco W1 wy A2 c2 cur2))
   case atStart => exact ⟨0, A, c, cur, by omega, by omega, rfl, rfl, by omega, (show cur = cur ++ (l.take 0).filter (inA f t false) by rw [List.take_zero]; simp), HO⟩
   case round =>
    obtain ⟨i, A2, c2, cur2, hig, hi, rfl, rfl, hcl2, HC2, HO2'⟩ := hrel
    have hb := HO2'.out.2
    have h3' := (hb.cell (p := ⟨g, 1, none⟩) hg1).trans hg3
    have hbx0 := (hb.cell (p := ⟨W.heap.size, 0, none⟩) hB1).trans hx0
    have hbx1 := (hb.cell (p := ⟨W.heap.size, 1, none⟩) hB1).trans hx1
    by_cases hlt : i < n
    ·have hil : i < l.length := by rw [HN.out]; exact hlt
     obtain ⟨q, rfl⟩ := HRow.out.atBlock (by omega)
     have hq := (HRow.out.lt q rfl).2
     have ck := (hb.cell (p := ⟨q, i * 2, none⟩) hq).trans ((HRow.out.cellAt (i * 2) (by omega)).trans (ybw l i hil))
     have cv := (hb.cell (p := ⟨q, i * 2 + 1, none⟩) hq).trans ((HRow.out.cellAt (i * 2 + 1) (by omega)).trans (yb4 l i hil))
     have htk : l.take (i + 1) = l.take i ++ [l[i]] := by rw [List.take_add_one, List.getElem?_eq_getElem hil]; rfl
     have hks := HKS.out _ (List.getElem_mem hil)
     obtain ⟨x, hx⟩ : ∃ x, l[i] = x := ⟨_, rfl⟩
     rw [hx] at ck cv htk hks
     obtain ⟨xk, xv⟩ := x
     have hks : xk.size ≤ 16 := hks
     have hT : cur ++ (l.take (i + 1)).filter (inA f t false) = cur2 ++ (if inA f t false (xk, xv) = true then [(xk, xv)] else []) := by
      rw [htk, List.filter_append, ← List.append_assoc, ← HC2.out]
      simp only [List.filter_cons, List.filter_nil]
     have HT := Lib.hid hT
     have ck : wr.cell? ⟨q, i * 2, none⟩ = some (.string xk) := ck
     have cv : wr.cell? ⟨q, i * 2 + 1, none⟩ = some (.string xv) := cv
     have hqr : q < wr.heap.size := by have := hb.size; omega
     have hgr : g < wr.heap.size := by have := hb.size; omega
     have hbr : W.heap.size < wr.heap.size := by have := hb.size; omega
     obtain ⟨ad, had⟩ : ∃ ad, yac xk = ad := ⟨_, rfl⟩
     have hadl : ad < 18446744073709551616 := by rw [← had]; exact yfg _
     have HAD : Hid (adr (xk, xv) = ad) := had
     have CA : Hid (∀ w, Calls Tryz.prog 63 #[.string xk] w fun e w' => e = .returned (.int .u64 (ad : Nat)) ∧ w = w') := fun w => by
      have z := yi9 xk w (by unfold maxLen; omega)
      rwa [had] at z
     obtain ⟨b1, hb1⟩ : ∃ b1, inB f t ad = b1 := ⟨_, rfl⟩
     have HB1 := Lib.hid hb1
     have CI : Hid (∀ w, Calls Tryz.prog 102 #[.agg #[.int .u64 (f : Nat), .int .u64 (t : Nat)], .int .u64 (ad : Nat)] w fun e w' => e = .returned (.bool b1) ∧ Below w.heap.size w w') := fun w => by
      have z := yej f t ad w hf ht hadl
      rwa [hb1] at z
     have hcb : cur2.length ≤ 200000 := by omega
     clear htk hx hil hT had hb1 hb
     cases b1 <;> by_cases hfa : f ≤ ad
     all_goals first | (have d1 : decide (f ≤ ad) = true := decide_eq_true hfa) | (have d1 : decide (f ≤ ad) = false := decide_eq_false hfa)
     all_goals
      go_wp2_with (first
       | (go_at_call 63; (with_reducible refine (CA.out _).mono ?_); rintro e w1 ⟨rfl, rfl⟩)
       | (go_at_call 102; (with_reducible refine (CI.out _).mono ?_); rintro e w2 ⟨rfl, hb2⟩; have HO2 := Lib.hid (HO2'.out.below hb2); have z3 := (hb2.cell (p := ⟨g, 1, none⟩) hgr).trans h3'; have zk := (hb2.cell (p := ⟨q, i * 2, none⟩) hqr).trans ck; have zv := (hb2.cell (p := ⟨q, i * 2 + 1, none⟩) hqr).trans cv; have zx := (hb2.cell (p := ⟨W.heap.size, 0, none⟩) hbr).trans hbx0; clear hb2)
       | (at_builtin; go_must (refine yca rfl (.tmp 43) (.tmp 51) 22 rfl W1.heap.size 96 i0 (.agg #[.string ⟨#[]⟩, .string ⟨#[]⟩]) 2 32 Tryz.underlying22 hi0 hz0 hs0 hb0 rfl (by decide) (.slice A2 cur2.length c2) cur2.length (yaa cur2) rfl (HO2.out.1.alloc _) (.slice (some ⟨w2.heap.size, 0, none⟩) 1 1) 1 (yaa [(xk, xv)]) rfl (yl2 _ _ xk xv (heap_alloc_new _ _)) (ya8 _) (by unfold maxLen; omega) (by omega) (by have := HO2.out.2.size; simp; omega) ?_); intro A3 c3 w3 ho3 hg3 hs3; have HO3 := Lib.hid (HO2.out.push ho3 hg3); clear ho3 hg3 hs3))
      go_roundg (gk - 1)
      case measure => omega
      case rel => first
       | exact ⟨i + 1, A3, c3, cur2 ++ [(xk, xv)], by omega, by omega, by rw [List.length_append]; rfl, by go_num, by simp; omega, (show cur2 ++ [(xk, xv)] = cur ++ (l.take (i + 1)).filter (inA f t false) by rw [HT.out, if_pos (by unfold inA; rw [HAD.out, HB1.out]; simp [hfa])]), HO3⟩
       | exact ⟨i + 1, A2, c2, cur2, by omega, by omega, rfl, by go_num, by omega, (show cur2 = cur ++ (l.take (i + 1)).filter (inA f t false) by rw [HT.out, if_neg (by unfold inA; rw [HAD.out, HB1.out]; simp [hfa]), List.append_nil]), HO2⟩
    ·obtain rfl : i = n := by omega
     have HE : Hid (cur2 = cur ++ l.filter (inA f t false)) := by
      have z := HC2.out
      rw [List.take_of_length_le (by rw [HN.out]; omega)] at z
      exact z
     go_wp2_with fail
     go_roundg (go - 1)
     case measure => omega
     case rel => exact ⟨1, A2, c2, cur2, rfl, rfl, .inr (.inl ⟨rfl, by omega, by rw [HE.out, hcur]; simp⟩), HO2'⟩
  ·
   obtain ⟨wq, rfl⟩ : ∃ wq : World, wq = wr := ⟨_, rfl⟩
   obtain ⟨go, rfl⟩ : ∃ go : Nat, go = gk := ⟨_, rfl⟩
   have hcl : cur.length ≤ n := by
    rw [hcur]
    have := List.length_filter_le (inA f t false) l
    rw [HN.out] at this
    exact this
   go_wp2_with fail
   go_loopg [5, 7] (n + 1) (fun gj s5 s7 wy => ∃ i A2 c2 cur2, i + gj = n + 1 ∧ i ≤ n ∧ s5 = .slice A2 cur2.length c2 ∧ s7 = .int .i64 (i : Nat) ∧ cur2.length ≤ cur.length + i ∧ Hid (cur2 = cur ++ (l.take i).filter (inA f t true)) ∧ Hid (yco W1 wy A2 c2 cur2))
   case atStart => exact ⟨0, A, c, cur, by omega, by omega, rfl, rfl, by omega, (show cur = cur ++ (l.take 0).filter (inA f t true) by rw [List.take_zero]; simp), HO⟩
   case round =>
    obtain ⟨i, A2, c2, cur2, hig, hi, rfl, rfl, hcl2, HC2, HO2'⟩ := hrel
    have hb := HO2'.out.2
    have h3' := (hb.cell (p := ⟨g, 1, none⟩) hg1).trans hg3
    have hbx0 := (hb.cell (p := ⟨W.heap.size, 0, none⟩) hB1).trans hx0
    have hbx1 := (hb.cell (p := ⟨W.heap.size, 1, none⟩) hB1).trans hx1
    by_cases hlt : i < n
    ·have hil : i < l.length := by rw [HN.out]; exact hlt
     obtain ⟨q, rfl⟩ := HRow.out.atBlock (by omega)
     have hq := (HRow.out.lt q rfl).2
     have ck := (hb.cell (p := ⟨q, i * 2, none⟩) hq).trans ((HRow.out.cellAt (i * 2) (by omega)).trans (ybw l i hil))
     have cv := (hb.cell (p := ⟨q, i * 2 + 1, none⟩) hq).trans ((HRow.out.cellAt (i * 2 + 1) (by omega)).trans (yb4 l i hil))
     have htk : l.take (i + 1) = l.take i ++ [l[i]] := by rw [List.take_add_one, List.getElem?_eq_getElem hil]; rfl
     have hks := HKS.out _ (List.getElem_mem hil)
     obtain ⟨x, hx⟩ : ∃ x, l[i] = x := ⟨_, rfl⟩
     rw [hx] at ck cv htk hks
     obtain ⟨xk, xv⟩ := x
     have hks : xk.size ≤ 16 := hks
     have hT : cur ++ (l.take (i + 1)).filter (inA f t true) = cur2 ++ (if inA f t true (xk, xv) = true then [(xk, xv)] else []) := by
      rw [htk, List.filter_append, ← List.append_assoc, ← HC2.out]
      simp only [List.filter_cons, List.filter_nil]
     have HT := Lib.hid hT
     have ck : wr.cell? ⟨q, i * 2, none⟩ = some (.string xk) := ck
     have cv : wr.cell? ⟨q, i * 2 + 1, none⟩ = some (.string xv) := cv
     have hqr : q < wr.heap.size := by have := hb.size; omega
     have hgr : g < wr.heap.size := by have := hb.size; omega
     have hbr : W.heap.size < wr.heap.size := by have := hb.size; omega
     obtain ⟨ad, had⟩ : ∃ ad, yac xk = ad := ⟨_, rfl⟩
     have hadl : ad < 18446744073709551616 := by rw [← had]; exact yfg _
     have HAD : Hid (adr (xk, xv) = ad) := had
     have CA : Hid (∀ w, Calls Tryz.prog 63 #[.string xk] w fun e w' => e = .returned (.int .u64 (ad : Nat)) ∧ w = w') := fun w => by
      have z := yi9 xk w (by unfold maxLen; omega)
      rwa [had] at z
     obtain ⟨b1, hb1⟩ : ∃ b1, inB f t ad = b1 := ⟨_, rfl⟩
     have HB1 := Lib.hid hb1
     have CI : Hid (∀ w, Calls Tryz.prog 102 #[.agg #[.int .u64 (f : Nat), .int .u64 (t : Nat)], .int .u64 (ad : Nat)] w fun e w' => e = .returned (.bool b1) ∧ Below w.heap.size w w') := fun w => by
      have z := yej f t ad w hf ht hadl
      rwa [hb1] at z
     have hcb : cur2.length ≤ 200000 := by omega
     clear htk hx hil hT had hb1 hb
     cases b1 <;> by_cases hfa : f ≤ ad
     all_goals first | (have d1 : decide (f ≤ ad) = true := decide_eq_true hfa) | (have d1 : decide (f ≤ ad) = false := decide_eq_false hfa)
     all_goals
      go_wp2_with (first
       | (go_at_call 63; (with_reducible refine (CA.out _).mono ?_); rintro e w1 ⟨rfl, rfl⟩)
       | (go_at_call 102; (with_reducible refine (CI.out _).mono ?_); rintro e w2 ⟨rfl, hb2⟩; have HO2 := Lib.hid (HO2'.out.below hb2); have z3 := (hb2.cell (p := ⟨g, 1, none⟩) hgr).trans h3'; have zk := (hb2.cell (p := ⟨q, i * 2, none⟩) hqr).trans ck; have zv := (hb2.cell (p := ⟨q, i * 2 + 1, none⟩) hqr).trans cv; have zx := (hb2.cell (p := ⟨W.heap.size, 0, none⟩) hbr).trans hbx0; clear hb2)
       | (at_builtin; go_must (refine yca rfl (.tmp 43) (.tmp 51) 22 rfl W1.heap.size 96 i0 (.agg #[.string ⟨#[]⟩, .string ⟨#[]⟩]) 2 32 Tryz.underlying22 hi0 hz0 hs0 hb0 rfl (by decide) (.slice A2 cur2.length c2) cur2.length (yaa cur2) rfl (HO2.out.1.alloc _) (.slice (some ⟨w2.heap.size, 0, none⟩) 1 1) 1 (yaa [(xk, xv)]) rfl (yl2 _ _ xk xv (heap_alloc_new _ _)) (ya8 _) (by unfold maxLen; omega) (by omega) (by have := HO2.out.2.size; simp; omega) ?_); intro A3 c3 w3 ho3 hg3 hs3; have HO3 := Lib.hid (HO2.out.push ho3 hg3); clear ho3 hg3 hs3))
      go_roundg (gk - 1)
      case measure => omega
      case rel => first
       | exact ⟨i + 1, A3, c3, cur2 ++ [(xk, xv)], by omega, by omega, by rw [List.length_append]; rfl, by go_num, by simp; omega, (show cur2 ++ [(xk, xv)] = cur ++ (l.take (i + 1)).filter (inA f t true) by rw [HT.out, if_pos (by unfold inA; rw [HAD.out, HB1.out]; simp [hfa])]), HO3⟩
       | exact ⟨i + 1, A2, c2, cur2, by omega, by omega, rfl, by go_num, by omega, (show cur2 = cur ++ (l.take (i + 1)).filter (inA f t true) by rw [HT.out, if_neg (by unfold inA; rw [HAD.out, HB1.out]; simp [hfa]), List.append_nil]), HO2⟩
    ·obtain rfl : i = n := by omega
     have HE : Hid (cur2 = cur ++ l.filter (inA f t true)) := by
      have z := HC2.out
      rw [List.take_of_length_le (by rw [HN.out]; omega)] at z
      exact z
     go_wp2_with fail
     go_roundg (go - 1)
     case measure => omega
     case rel => exact ⟨2, A2, c2, cur2, rfl, rfl, .inr (.inr ⟨rfl, by omega, by rw [HE.out, hcur]; rfl⟩), HO2'⟩
  ·have HE := Lib.hid hcur
   clear hcur
   go_wp2_with fail
   go_ret
   exact ⟨A, c, by rw [← HE.out]; rfl, by rw [← HE.out]; exact ybk HO.out.1 (by omega), acc HBW.out HO.out.2⟩
theorem yr8 {k : ByteArray} (h : yai k = 0) : k.size ≤ 16 := by
 unfold yai at h
 split at h
 ·cases h
 ·omega
section
variable {VD : World → Nat → HO → List Nat → Prop} {VV : World → Nat → GV → List Nat → Prop}
theorem LX.refArc (L : ybd VD) {V w : World} {P : List Nat} {g r : Nat} {s : HO} (h : LX VD V w P g s r s) (hl : s.its.length ≤ 1000) (f t : Nat) (hf : f < 18446744073709551616) (ht : t < 18446744073709551616) : ∃ rs, r < w.heap.size ∧ w.cell? ⟨r, 4, none⟩ = some (.pointer (some ⟨rs, 0, none⟩)) ∧
  ∀ w', Below w.heap.size w w' → Calls Tryz.prog 25 #[.pointer (some ⟨rs, 0, none⟩), .agg #[.int .u64 (f : Nat), .int .u64 (t : Nat)]] w' (ymb w' (arcL s.its f t)) := by
 obtain ⟨Fy, ⟨_, ⟨F, hF, _⟩, _⟩, ⟨rs, Fs, l, Vo, Pt, f', t', h, rfl⟩, _⟩ := h
 refine ⟨rs, h.lt, ybc h.hr rfl, fun w' hb => ?_⟩
 exact yr7 rs Fs s.most s.its f t w' (h.below hb).sh (by omega) (fun x hx => yr8 ((L.rising hF).2 x hx).1) hf ht
theorem yr9 (l : List Item) (f t : Nat) : (arcL l f t).length ≤ 2 * l.length := by
 unfold arcL
 rw [List.length_append]
 have h1 := List.length_filter_le (inA f t false) l
 have h2 := List.length_filter_le (inA f t true) l
 omega
theorem ysa (L : ybd VD) (G : ybz VD VV) (A0 : Option Addr) (c0 n : Nat) (zs : List Item) (f t : Nat) (B0 : Option Addr) (dd na : Nat) (ks : List AK) (W : World) (hA : ∃ b off, ∀ i (h : i < zs.length), A0 = some ⟨b, off, none⟩ ∧ b < W.heap.size ∧ W.cell? ⟨b, off + i * 2, none⟩ = some (.string (zs[i]).1) ∧ W.cell? ⟨b, off + i * 2 + 1, none⟩ = some (.string (zs[i]).2)) (hn : zs.length = n)
  (hf : f < 18446744073709551616) (ht : t < 18446744073709551616)
  (hB : ∃ b off, ∀ i (h : i < ks.length), B0 = some ⟨b, off, none⟩ ∧ b < W.heap.size ∧ W.cell? ⟨b, off + i * 5, none⟩ = some (.int .i64 (ks[i]).op) ∧ W.cell? ⟨b, off + i * 5 + 1, none⟩ = some (.string (ks[i]).key) ∧ W.cell? ⟨b, off + i * 5 + 2, none⟩ = some (.string (ks[i]).val) ∧ W.cell? ⟨b, off + i * 5 + 3, none⟩ = some (.string (ks[i]).tt) ∧ W.cell? ⟨b, off + i * 5 + 4, none⟩ = some (.int .i64 (ks[i]).most)) (hna : ks.length = na) (hfit : ∀ x ∈ ks, x.Fit) :
  Calls Tryz.prog 4 #[.slice A0 n c0, .agg #[.int .u64 (f : Nat), .int .u64 (t : Nat)], .slice B0 na dd] W fun e w' => e = .returned (.bool true) ∧ Below W.heap.size W w' := by
 have CA := Lib.hid (yr0 L G)
 obtain ⟨V, hV⟩ : ∃ V, W.alloc (.cells #[.int .u64 (f : Nat), .int .u64 (t : Nat)] 25) = V := ⟨_, rfl⟩
 have HBV : Hid (Below W.heap.size W V) := by rw [← hV]; exact (Below.refl _ _).alloc (Nat.le_refl _) _
 have hAB : yc2 V W.heap.size f t := by rw [← hV]; exact yjd W f t
 have HSA : Hid (∀ w, Below V.heap.size V w → yc2 w W.heap.size f t) := fun w hw => hAB.below hw
 have hAI : ∃ b off, ∀ i (h : i < zs.length), A0 = some ⟨b, off, none⟩ ∧ b < V.heap.size ∧ V.cell? ⟨b, off + i * 2, none⟩ = some (.string (zs[i]).1) ∧ V.cell? ⟨b, off + i * 2 + 1, none⟩ = some (.string (zs[i]).2) := by
  obtain ⟨b, off, h⟩ := hA
  refine ⟨b, off, fun i hi => ?_⟩
  obtain ⟨h1, h2, h3, h4⟩ := h i hi
  exact ⟨h1, Nat.lt_of_lt_of_le h2 HBV.out.size, (HBV.out.cell (p := ⟨b, off + i * 2, none⟩) h2).trans h3, (HBV.out.cell (p := ⟨b, off + i * 2 + 1, none⟩) h2).trans h4⟩
 have HAS : Hid (∃ b off, ∀ w, Below V.heap.size V w → ∀ i (h : i < ks.length), B0 = some ⟨b, off, none⟩ ∧ w.cell? ⟨b, off + i * 5, none⟩ = some (.int .i64 (ks[i]).op) ∧ w.cell? ⟨b, off + i * 5 + 1, none⟩ = some (.string (ks[i]).key) ∧ w.cell? ⟨b, off + i * 5 + 2, none⟩ = some (.string (ks[i]).val) ∧ w.cell? ⟨b, off + i * 5 + 3, none⟩ = some (.string (ks[i]).tt) ∧ w.cell? ⟨b, off + i * 5 + 4, none⟩ = some (.int .i64 (ks[i]).most)) := by
  obtain ⟨b, off, h⟩ := hB
  refine ⟨b, off, fun w hw i hi => ?_⟩
  obtain ⟨h1, h2, k0, k1, k2, k3, k4⟩ := h i hi
  have hb := acc HBV.out hw
  exact ⟨h1, (hb.cell (p := ⟨b, off + i * 5, none⟩) h2).trans k0, (hb.cell (p := ⟨b, off + i * 5 + 1, none⟩) h2).trans k1, (hb.cell (p := ⟨b, off + i * 5 + 2, none⟩) h2).trans k2, (hb.cell (p := ⟨b, off + i * 5 + 3, none⟩) h2).trans k3, (hb.cell (p := ⟨b, off + i * 5 + 4, none⟩) h2).trans k4⟩
 have HFIT := Lib.hid hfit
 have HNA := Lib.hid hna
 have w1 : Wide 1 := ⟨by decide, by decide⟩
 have w2 : Wide 2 := ⟨by decide, by decide⟩
 have w9 : Wide 9 := ⟨by decide, by decide⟩
 have HV := Lib.hid hV
 clear hA hB hV hAB hfit hna
 by_cases q0 : 40 < n
 ·have d0 : decide (40 < (n : Int)) = true := decide_eq_true (by omega)
  go_enter Tryz.func4, Tryz.ntmps4
  go_upto_region 1 with fail
  rw [HV.out]
  go_wp2_with (go_at_call 8; (with_reducible refine (CA.out _).mono ?_); rintro e w1 ⟨rfl, h1⟩)
  go_ret
  exact ⟨rfl, acc HBV.out h1⟩
 have d0 : decide (40 < (n : Int)) = false := decide_eq_false (by omega)
 by_cases q1 : 40 < na
 ·have d1 : decide (40 < (na : Int)) = true := decide_eq_true (by omega)
  go_enter Tryz.func4, Tryz.ntmps4
  go_upto_region 1 with fail
  rw [HV.out]
  go_wp2_with (go_at_call 8; (with_reducible refine (CA.out _).mono ?_); rintro e w1 ⟨rfl, h1⟩)
  go_ret
  exact ⟨rfl, acc HBV.out h1⟩
 have d1 : decide (40 < (na : Int)) = false := decide_eq_false (by omega)
 have C0 : Hid (∀ w, Below V.heap.size V w → Calls Tryz.prog 9 #[.int .i64 1, .agg #[.int .u64 0, .int .u64 0], .int .i64 0, .slice A0 n c0] w fun e w' => ∃ g r its, e = .returned (.tuple #[.pointer (some ⟨g, 0, none⟩), .pointer (some ⟨r, 0, none⟩)]) ∧ LX VD V w' [] g (LoI 1 0 0 0 its) r (LoI 1 0 0 0 its) ∧ its.length ≤ 40) := fun w hw => by
  refine (yl4 L 1 0 0 0 A0 c0 n zs w ?_ hn w1 ⟨by decide, by decide⟩ (by decide) (by decide)).mono ?_
  ·obtain ⟨b, off, h⟩ := hAI
   refine ⟨b, off, fun i hi => ?_⟩
   obtain ⟨h1, h2, h3, h4⟩ := h i hi
   exact ⟨h1, Nat.lt_of_lt_of_le h2 hw.size, (hw.cell (p := ⟨b, off + i * 2, none⟩) h2).trans h3, (hw.cell (p := ⟨b, off + i * 2 + 1, none⟩) h2).trans h4⟩
  ·rintro e w' ⟨g, r, its, rfl, h, hl, -⟩
   exact ⟨g, r, its, rfl, h.rebase hw, hl⟩
 have C1 : Hid (∀ w g r its P, LX VD V w P g (LoI 1 0 0 0 its) r (LoI 1 0 0 0 its) → Calls Tryz.prog 10 #[.pointer (some ⟨g, 0, none⟩), .agg #[.int .u64 (f : Nat), .int .u64 (t : Nat)], .int .i64 1, .int .i64 2, .int .i64 9] w fun e w' =>
   ∃ p q c, e = .returned (.tuple #[.pointer (some ⟨p, 0, none⟩), .slice (some ⟨q, 0, none⟩) 1 c, .int .i64 0]) ∧ w'.cell? ⟨q, 19, none⟩ = some (.int .i64 ((arcL its f t).length : Nat)) ∧ HX VD VV V w' P g ((LoI 1 0 0 0 its).froze f t) r (LoI 1 0 0 0 its) p (gv1 f t 2 9 its g) ∧ Kept P w w') := fun w g r its P h => by
  refine (yl6 G h f t 2 9 hf ht w2 w9 (by decide)).mono ?_
  rintro e w' ⟨p, q, c, a, b, M, rfl, -, -, -, -, k5, hx, hk⟩
  exact ⟨p, q, c, rfl, k5 19 _ rfl, hx.less (fun q hq => List.mem_append_right _ hq), hk⟩
 have hszl : ∀ k f t i n : Int, (Tryz.prog.info? 49).map (·.size) = some (ltC k f t i n).size := fun _ _ _ _ _ => by kernel_rfl
 have HNN := Lib.hid hn
 clear hn hAI
 go_enter Tryz.func4, Tryz.ntmps4
 go_upto_region 1 with fail
 rw [HV.out]
 clear HV
 go_upto_region 6 with (first
  | (go_at_call 8; (with_reducible refine (CA.out _).mono ?_); rintro e w1 ⟨rfl, h1⟩; have H1 := Lib.hid h1; clear h1)
  | (go_at_call 9; (with_reducible refine (C0.out _ H1.out).mono ?_); rintro e w2 ⟨g, r, its, rfl, x2, hli⟩; have X2 := Lib.hid x2; clear x2))
 obtain ⟨rs, hr0, e4, hCA⟩ := X2.out.refArc L (by show its.length ≤ 1000; omega) f t hf ht
 have HCA := Lib.hid hCA
 have HSS : Hid (∀ w', Below w2.heap.size w2 w' → Below w2.heap.size w2 w' ∧ (w'.cell? ⟨r, 4, none⟩ = some (.pointer (some ⟨rs, 0, none⟩)) ∧ w'.cell? ⟨W.heap.size, 0, none⟩ = some (.int .u64 (f : Nat)) ∧ w'.cell? ⟨W.heap.size, 1, none⟩ = some (.int .u64 (t : Nat)))) := fun w' h =>
  ⟨h, (h.cell (p := ⟨r, 4, none⟩) hr0).trans e4, HSA.out _ (acc X2.out.base h)⟩
 clear CA C0 hCA e4
 go_region_held3 (fun w' => Below w2.heap.size w2 w' ∧ (w'.cell? ⟨r, 4, none⟩ = some (.pointer (some ⟨rs, 0, none⟩)) ∧ w'.cell? ⟨W.heap.size, 0, none⟩ = some (.int .u64 (f : Nat)) ∧ w'.cell? ⟨W.heap.size, 1, none⟩ = some (.int .u64 (t : Nat)))) ((first | exact HSS.out _ ((Below.refl _ _).drew) | exact yl7 HSS.out (by assumption) (by assumption)))
  (first | (go_at_call 25; (with_reducible refine (HCA.out _ (And.left (by assumption))).mono ?_); rintro e w3 ⟨Aw, cw, rfl, r3, h3⟩))
 have hb23 : Below w2.heap.size w2 w3 := And.left (by assumption)
 obtain ⟨nw, hnw⟩ : ∃ nw, (arcL its f t).length = nw := ⟨_, rfl⟩
 have r3' : w3.ownsRow w2.heap.size 96 2 (.slice Aw (arcL its f t).length cw) (arcL its f t).length (yaa (arcL its f t)) := r3
 rw [hnw] at r3'
 have hw2 := yr9 its f t
 have HWN := Lib.hid hnw
 have X3 := Lib.hid (X2.out.more L hb23 (Q := (Value.slice Aw nw cw).ownBlock.toList) (fun q hq => r3'.lt q (by simpa using hq)))
 have HR3 := Lib.hid r3'
 have HZW : Hid (V.heap.size ≤ w2.heap.size) := X2.out.base.size
 have hnw' : (arcL (LoI 1 0 0 0 its).its f t).length = nw := hnw
 rw [hnw']
 have C1b : Hid (∀ w P, LX VD V w P g (LoI 1 0 0 0 its) r (LoI 1 0 0 0 its) → Calls Tryz.prog 10 #[.pointer (some ⟨g, 0, none⟩), .agg #[.int .u64 (f : Nat), .int .u64 (t : Nat)], .int .i64 1, .int .i64 2, .int .i64 9] w fun e w' =>
   ∃ p q c, e = .returned (.tuple #[.pointer (some ⟨p, 0, none⟩), .slice (some ⟨q, 0, none⟩) 1 c, .int .i64 0]) ∧ w'.cell? ⟨q, 19, none⟩ = some (.int .i64 (nw : Nat)) ∧ HX VD VV V w' P g ((LoI 1 0 0 0 its).froze f t) r (LoI 1 0 0 0 its) p (gv1 f t 2 9 its g) ∧ Kept P w w') := fun w P h => by
  rw [← hnw]
  exact C1.out w g r its P h
 obtain ⟨a0, a1⟩ := HSA.out _ X3.out.base
 clear C1 X2 HSS HCA hr0 r3 r3' h3 hb23 hnw hnw'
 have zn : ((nw : Int) != (nw : Int)) = false := bne_self_eq_false _
 go_upto_region 11 with (go_at_call 10; (with_reducible refine (C1b.out _ _ X3.out).mono ?_); rintro e w4 ⟨p, q4, c4, rfl, b19, x4, k4⟩; have X4 := Lib.hid x4; have R4 := Lib.hid (k4.row HR3.out (fun q hq => by simp [hq])); clear x4 k4 a0 a1)
 have hq4 := heap_alloc_new w4 (.cells (ltC 0 0 0 0 0) 49)
 have X5 : Hid (ChX VD VV V ((w4.alloc (.cells (ltC 0 0 0 0 0) 49)).setRow w4.heap.size (ltC 11 2 1 9 1)) g ((LoI 1 0 0 0 its).froze f t) r (LoI 1 0 0 0 its) p (gv1 f t 2 9 its g) w4.heap.size (ltC 11 2 1 9 1) (.slice Aw nw cw) (arcL its f t) (.slice none 0 0) [] 0) := by
  have hb : Below w4.heap.size w4 (w4.alloc (.cells (ltC 0 0 0 0 0) 49)) := (Below.refl _ _).alloc (Nat.le_refl _) _
  have hx := X4.out.more L G hb (Q := [w4.heap.size]) (fun q hq => by rw [List.mem_singleton.1 hq]; exact ⟨Nat.le_refl _, by simp⟩)
  have hwl := HWN.out
  refine ChX.put L G (ltC 11 2 1 9 1) ⟨hx.less (fun q hq => ?_), hq4, ?_, World.ownsRow_nil _ _ _ _, X4.out.base.size, ?_, (fun z => by cases z), fun q _ z => by cases z⟩
  ·simp only [List.mem_cons, List.mem_append] at hq ⊢
   rcases hq with z | z | z
   ·exact .inl (.inl z)
   ·exact .inr (.inl z)
   ·exact absurd z (by show ¬ q ∈ ([] : List Nat); simp)
  ·rw [hwl]
   exact (Touch.ofBelow (F := []) hb).row (yjn R4.out HZW.out) (by simp)
  ·intro z
   have := (R4.out.lt _ z).2
   omega
 have h1a : ∀ k f t i n : Int, (ltC k f t i n).all (·.oneCell') = true := fun _ _ _ _ _ => by simp [Value.oneCell']
 go_wp2_with (with_reducible (show wpList _ _ _ (⟨none, Op.store _ (Operand.tmp 14) _, _, _, _, _⟩ :: _) _ _); go_must (refine wpList_store_row rfl 49 (.tmp 14) (.tmp 72) rfl w4.heap.size (ltC 11 2 1 9 1) rfl rfl 49 (ltC 0 0 0 0 0) hq4 (hszl 11 2 1 9 1) rfl (h1a 11 2 1 9 1) ?_))
 obtain ⟨qi, hqi⟩ : ∃ q, w4.heap.size = q := ⟨_, rfl⟩
 obtain ⟨w6, hw6⟩ : ∃ w, (w4.alloc (.cells (ltC 0 0 0 0 0) 49)).setRow w4.heap.size (ltC 11 2 1 9 1) = w := ⟨_, rfl⟩
 obtain ⟨wl, hwl⟩ : ∃ l, arcL its f t = l := ⟨_, rfl⟩
 obtain ⟨s0, hs0⟩ : ∃ s : HO, LoI 1 0 0 0 its = s := ⟨_, rfl⟩
 have X6 : Hid (ChX VD VV V w6 g ((s0.froze f t).with s0.its) r s0 p (gvN f t its g 0) qi (ltC (inK 0) 2 1 9 (inV 0)) (.slice Aw nw cw) wl (.slice none 0 0) (wl.take (0 * 4)) 0) := by
  have z := X5.out
  rw [hw6, hqi, hwl, hs0] at z
  exact z
 have HS0 : Hid (s0.k ≤ 1 ∧ s0.g.l.length ≤ 1000) := by
  rw [← hs0]
  exact ⟨LoI.k 1 0 0 0 its, by rw [LoI.g]; decide⟩
 rw [hwl] at HWN hw2
 have HWL := Lib.hid hwl
 rw [hw6, hqi]
 have hnw80 : nw ≤ 80 := by have := HWN.out; omega
 clear X5 X4 X3 R4 HR3 hq4 hqi hw6 hs0 hwl b19 HZW hw2 C1b zn H1
 go_loopg [13, 15] 61 (fun gh s13 s15 wx => ∃ (k mg cg : Nat) (Ag : Option Addr) (its2 : List Item), k + gh = 61 ∧ k * 4 < nw + 4 ∧ s13 = .slice Ag mg cg ∧ s15 = .int .i64 (k : Nat) ∧ Hid (ChX VD VV V wx g ((s0.froze f t).with its2) r s0 p (gvN f t its g k) qi (ltC (inK k) 2 1 9 (inV k)) (.slice Aw nw cw) wl (.slice Ag mg cg) (wl.take (k * 4)) mg))
 case atStart => exact ⟨0, 0, 0, none, s0.its, rfl, by omega, rfl, rfl, X6⟩
 case round =>
  clear X6
  obtain ⟨k, mg, cg, Ag, its2, hkg, hk4, rfl, rfl, HX⟩ := hrel
  have hk60 : k < 60 := by omega
  have d2 : decide ((k : Int) < 60) = true := decide_eq_true (by omega)
  have zk : IntKind.i64.wrap ((k : Int) + 1) = (k : Int) + 1 := by rw [IntKind.wrap_i64]; omega
  obtain ⟨b, hb⟩ : ∃ b, decide (k < na) = b := ⟨_, rfl⟩
  go_upto_region 15 with fail
  go_cut [80] (fun s80 wx => s80 = .bool b ∧ wx = wr)
  case first =>
   go_wp2_with fail
   go_meet
   exact ⟨rfl, rfl⟩
  case rest =>
  obtain ⟨rfl, rfl⟩ := hcut
  go_upto_if 80 with fail
  go_cut [111] (fun s111 wx => ∃ its7 : List Item, Hid (ChX VD VV V wx g ((s0.froze f t).with its7) r s0 p (gvN f t its g k) qi (ltC (inK k) 2 1 9 (inV k)) (.slice Aw nw cw) wl (.slice Ag mg cg) (wl.take (k * 4)) mg))
  case first =>
   cases b with
   | true =>
    have ha : k < na := of_decide_eq_true hb
    have i1 : (k : Int) < (na : Int) := by omega
    have d3 : decide ((k : Int) < (na : Int)) = true := decide_eq_true i1
    obtain ⟨b, o, hA⟩ := HAS.out
    obtain ⟨rfl, e0, e1, e2, e3, e4⟩ := hA _ HX.out.hx.base k (by rw [HNA.out]; exact ha)
    have hfit1 := HFIT.out _ (List.getElem_mem (by rw [HNA.out]; exact ha : k < ks.length))
    generalize ks[k]'(by rw [HNA.out]; exact ha) = y at e0 e1 e2 e3 e4 hfit1
    obtain ⟨yo, yk, yv, yt, ym⟩ := y
    dsimp only at e0 e1 e2 e3 e4
    clear hA
    by_cases p1 : 40 < yk.size
    ·have p2 : decide (40 < (yk.size : Int)) = true := decide_eq_true (by omega)
     go_wp2_with fail
     go_ret
     exact ⟨rfl, acc HBV.out HX.out.hx.base⟩
    have p2 : decide (40 < (yk.size : Int)) = false := decide_eq_false (by omega)
    by_cases p3 : 40 < yv.size
    ·have p4 : decide (40 < (yv.size : Int)) = true := decide_eq_true (by omega)
     go_wp2_with fail
     go_ret
     exact ⟨rfl, acc HBV.out HX.out.hx.base⟩
    have p4 : decide (40 < (yv.size : Int)) = false := decide_eq_false (by omega)
    by_cases p5 : 40 < yt.size
    ·have p6 : decide (40 < (yt.size : Int)) = true := decide_eq_true (by omega)
     go_wp2_with fail
     go_ret
     exact ⟨rfl, acc HBV.out HX.out.hx.base⟩
    have p6 : decide (40 < (yt.size : Int)) = false := decide_eq_false (by omega)
    have CD : Hid (∀ w its3, ChX VD VV V w g ((s0.froze f t).with its3) r s0 p (gvN f t its g k) qi (ltC (inK k) 2 1 9 (inV k)) (.slice Aw nw cw) wl (.slice Ag mg cg) (wl.take (k * 4)) mg → Calls Tryz.prog 21 #[.pointer (some ⟨g, 0, none⟩), .agg #[.int .i64 yo, .string yk, .string yv, .string yt, .int .i64 ym]] w fun e w' => ∃ u its4, e = .returned u ∧ ChX VD VV V w' g ((s0.froze f t).with its4) r s0 p (gvN f t its g k) qi (ltC (inK k) 2 1 9 (inV k)) (.slice Aw nw cw) wl (.slice Ag mg cg) (wl.take (k * 4)) mg) := fun w its3 h => by
     refine (h.did L G ⟨yo, yk, yv, yt, ym⟩ hfit1 (by have := HS0.out.1; show s0.k ≤ 1000; omega) HS0.out.2).mono ?_
     rintro e w' ⟨tl, s1, u, hd, rfl, hx⟩
     obtain ⟨its4, rfl⟩ := yr6 hd
     exact ⟨u, its4, rfl, hx⟩
    go_wp2_with (go_at_call 21; (with_reducible refine (CD.out _ _ HX.out).mono ?_); rintro e w7 ⟨u7, its7, rfl, x7⟩; have X7 := Lib.hid x7; clear x7)
    go_meet
    exact ⟨its7, X7⟩
   | false =>
    go_wp2_with fail
    go_meet
    exact ⟨its2, HX⟩
  case rest =>
   obtain ⟨its7, X7⟩ := hcut
   obtain ⟨w7, rfl⟩ : ∃ w7 : World, w7 = wc := ⟨_, rfl⟩
   clear hb HX
   by_cases hl : nw ≤ k * 4
   ·have hwt : wl.take (k * 4) = wl := List.take_of_length_le (by rw [HWN.out]; exact hl)
    obtain ⟨g1, g2, g3⟩ := yr2 (f := f) (t := t) (its := its) (g := g) (n := k) (by rw [HWL.out, HWN.out]; exact hl)
    have CG : Hid (∀ w its3, ChX VD VV V w g ((s0.froze f t).with its3) r s0 p (gvN f t its g k) qi (ltC (inK k) 2 1 9 (inV k)) (.slice Aw nw cw) wl (.slice Ag mg cg) (wl.take (k * 4)) mg → Calls Tryz.prog 14 #[.pointer (some ⟨p, 0, none⟩), .agg (ltC (inK k) 2 1 9 (inV k))] w fun e w' =>
      ∃ q c, e = .returned (.tuple #[.slice (some ⟨q, 0, none⟩) 1 c, .bool false]) ∧ q < w'.heap.size ∧ w'.cell? ⟨q, 0, none⟩ = some (.int .i64 14) ∧ w'.cell? ⟨q, 15, none⟩ = some (.int .u64 (f : Nat)) ∧ w'.cell? ⟨q, 16, none⟩ = some (.int .u64 (t : Nat)) ∧ w'.cell? ⟨q, 17, none⟩ = some (.int .i64 1) ∧
       ChX VD VV V w' g ((s0.froze f t).with its3) r s0 p ((gvN f t its g k).at_ 3) qi (ltC (inK k) 2 1 9 (inV k)) (.slice Aw nw cw) wl (.slice Ag mg cg) (wl.take (k * 4)) mg) := fun w its3 h => by
     refine (h.answer G (LV.lt (inK k) 2 1 9 (inV k)) (.slice none 0 0) (.slice none 0 0) (yl8 _ _ _ _ _) (yl9 _ _ _ _ _) (by have := HS0.out.1; show s0.k ≤ 1000; omega) HS0.out.2 (by rw [ygd]; omega) g1 (g3 _) g2).mono ?_
     rintro e w' ⟨q, c, a, b, M, rfl, k2, -, k5, hx⟩
     exact ⟨q, c, rfl, k2, k5 0 _ rfl, k5 15 _ rfl, k5 16 _ rfl, k5 17 _ rfl, hx⟩
    clear g1 g2 g3
    go_upto_region 23 with (first
     | (refine wpList_load_row rfl 49 (.tmp 14) rfl qi rfl 49 (ltC (inK k) 2 1 9 (inV k)) (0, 0) _ (X7.out.bx) Tryz.underlying49 rfl (hszl _ _ _ _ _) ?_)
     | (go_at_call 14; (with_reducible refine (CG.out _ _ X7.out).mono ?_); rintro e w8 ⟨q8, c8, rfl, l8, b0, b15, b16, b17, x8⟩; have X8 := Lib.hid x8; clear x8))
    have hmg : mg = nw := by
     have z := X8.out.gt.1
     rw [hwt, ybp, HWN.out] at z
     omega
    subst hmg
    have C5 : Hid (∀ w', Below w8.heap.size w8 w' → Calls Tryz.prog 26 #[.slice Ag mg cg, .slice Aw mg cw] w' fun e w5 => e = .returned (.bool true) ∧ Below w'.heap.size w' w5) := fun w' h => by
     have r1 := X8.out.gt
     have r2 := X8.out.wt
     rw [hwt] at r1
     rw [HWN.out] at r2
     exact yr1 Ag Aw cg cw mg _ _ wl w' HWN.out ((Touch.ofBelow (F := []) h).row r1 (by simp)) ((Touch.ofBelow (F := []) h).row r2 (by simp))
    have C6 : Hid (∀ w', Below w8.heap.size w8 w' → Calls Tryz.prog 16 #[.pointer (some ⟨p, 0, none⟩)] w' fun e w5 => e = .returned (.int .i64 3) ∧ Below w'.heap.size w' w5) := fun w' h => (X8.out.hx.below L G h).step G
    have HSS : Hid (∀ w', Below w8.heap.size w8 w' → Below w8.heap.size w8 w' ∧ (w'.cell? ⟨q8, 15, none⟩ = some (.int .u64 (f : Nat)) ∧ w'.cell? ⟨q8, 16, none⟩ = some (.int .u64 (t : Nat)) ∧ w'.cell? ⟨q8, 17, none⟩ = some (.int .i64 1) ∧ w'.cell? ⟨W.heap.size, 0, none⟩ = some (.int .u64 (f : Nat)) ∧ w'.cell? ⟨W.heap.size, 1, none⟩ = some (.int .u64 (t : Nat)))) := fun w' h =>
     ⟨h, (h.cell (p := ⟨q8, 15, none⟩) l8).trans b15, (h.cell (p := ⟨q8, 16, none⟩) l8).trans b16, (h.cell (p := ⟨q8, 17, none⟩) l8).trans b17, HSA.out _ (acc X8.out.hx.base h)⟩
    have HB8 : Hid (Below V.heap.size V w8) := X8.out.hx.base
    clear CG X8 b0 b15 b16 b17 hwt
    go_region_held3 (fun w' => Below w8.heap.size w8 w' ∧ (w'.cell? ⟨q8, 15, none⟩ = some (.int .u64 (f : Nat)) ∧ w'.cell? ⟨q8, 16, none⟩ = some (.int .u64 (t : Nat)) ∧ w'.cell? ⟨q8, 17, none⟩ = some (.int .i64 1) ∧ w'.cell? ⟨W.heap.size, 0, none⟩ = some (.int .u64 (f : Nat)) ∧ w'.cell? ⟨W.heap.size, 1, none⟩ = some (.int .u64 (t : Nat)))) ((first | exact HSS.out _ ((Below.refl _ _).drew) | exact yl7 HSS.out (by assumption) (by assumption)))
     (first
      | (go_at_call 26; (with_reducible refine (C5.out _ (And.left (by assumption))).mono ?_); rintro e w9 ⟨rfl, h9⟩)
      | (go_at_call 16; (with_reducible refine (C6.out _ (And.left (by assumption))).mono ?_); rintro e w10 ⟨rfl, h10⟩))
    go_wp2
    go_ret
    exact ⟨rfl, acc HBV.out (acc HB8.out (And.left (by assumption)))⟩
   ·obtain ⟨g1, g2, g3⟩ := yr3 (f := f) (t := t) (its := its) (g := g) (n := k) (by rw [HWL.out, HWN.out]; exact hl)
    rw [HWL.out] at g1
    obtain ⟨ch, hch⟩ : ∃ c, (wl.drop (k * 4)).take 4 = c := ⟨_, rfl⟩
    rw [hch] at g1
    have hlen : ch.length = min 4 (nw - k * 4) := by rw [← hch, List.length_take, List.length_drop, HWN.out]
    have hnext : wl.take (k * 4) ++ ch = wl.take ((k + 1) * 4) := by rw [← hch, show (k + 1) * 4 = k * 4 + 4 by omega, List.take_add]
    have HCAT : Hid (yaa (wl.take (k * 4)) ++ yaa ch = yaa (wl.take ((k + 1) * 4))) := by show _ = _; rw [← hnext]; simp [yaa]
    obtain ⟨nb, hnb⟩ : ∃ m, ch.length = m := ⟨_, rfl⟩
    rw [hnb] at hlen
    have hn1 : decide ((nb : Int) < 1) = false := decide_eq_false (by omega)
    have hn4 : decide (4 < (nb : Int)) = false := decide_eq_false (by omega)
    have hnb1 : 1 ≤ nb := by omega
    have hnb4 : nb ≤ 4 := by omega
    have CG : Hid (∀ w its3, ChX VD VV V w g ((s0.froze f t).with its3) r s0 p (gvN f t its g k) qi (ltC (inK k) 2 1 9 (inV k)) (.slice Aw nw cw) wl (.slice Ag mg cg) (wl.take (k * 4)) mg → Calls Tryz.prog 14 #[.pointer (some ⟨p, 0, none⟩), .agg (ltC (inK k) 2 1 9 (inV k))] w fun e w' =>
      ∃ (q c : Nat) (Ab : Addr) (cb : Nat), e = .returned (.tuple #[.slice (some ⟨q, 0, none⟩) 1 c, .bool false]) ∧ w'.cell? ⟨q, 0, none⟩ = some (.int .i64 12) ∧ w'.cell? ⟨q, 19, none⟩ = some (.int .i64 ((k : Int) + 1)) ∧ w'.cell? ⟨q, 18, none⟩ = some (.slice (some Ab) nb cb) ∧ From w' 2 (.slice (some Ab) nb cb) nb (yaa ch) ∧
       ChX VD VV V w' g ((s0.froze f t).with its3) r s0 p (gvN f t its g (k + 1)) qi (ltC (inK k) 2 1 9 (inV k)) (.slice Aw nw cw) wl (.slice Ag mg cg) (wl.take (k * 4)) mg) := fun w its3 h => by
     refine (h.answer G (LV.lt (inK k) 2 1 9 (inV k)) (.slice none 0 0) (.slice none 0 0) (yl8 _ _ _ _ _) (yl9 _ _ _ _ _) (by have := HS0.out.1; show s0.k ≤ 1000; omega) HS0.out.2 (by rw [ygd]; omega) g1 (g3 _) g2).mono ?_
     rintro e w' ⟨q, c, a, b, M, rfl, -, kA, k5, hx⟩
     have hsl : SlAt w' b ch := kA.b
     have hfr := From.ofSl hsl (by omega)
     obtain ⟨Ao, cb, rfl, _, _, bb, oo, hit⟩ := hsl
     obtain ⟨rfl, -⟩ := hit 0 (by omega)
     rw [hnb] at hfr k5
     exact ⟨q, c, _, cb, rfl, k5 0 _ rfl, k5 19 _ rfl, k5 18 _ rfl, hfr, hx⟩
    clear g1 g2 g3 hlen hch hnext hnb
    obtain ⟨i0, hi0, hz0, hsz0, hby0⟩ := yl1
    have zk2 : (((k : Int) + 1) != ((k : Int) + 1)) = false := bne_self_eq_false _
    have hmg : mg ≤ 80 := by
     have z := X7.out.gt.1
     rw [ybp, List.length_take, HWN.out] at z
     omega
    go_upto_region 26 with (first
     | (refine wpList_load_row rfl 49 (.tmp 14) rfl qi rfl 49 (ltC (inK k) 2 1 9 (inV k)) (0, 0) _ (X7.out.bx) Tryz.underlying49 rfl (hszl _ _ _ _ _) ?_)
     | (go_at_call 14; (with_reducible refine (CG.out _ _ X7.out).mono ?_); rintro e w8 ⟨q8, c8, Ab, cb, rfl, b0, b19, b18, f8, x8⟩; have X8 := Lib.hid x8; have F8 := Lib.hid f8; clear x8 f8))
    go_upto_region 27 with (at_builtin; go_must (refine yca rfl (.tmp 182) (.tmp 186) 22 rfl V.heap.size 96 i0 (.agg #[.string ⟨#[]⟩, .string ⟨#[]⟩]) 2 32 Tryz.underlying22 hi0 hz0 hsz0 hby0 rfl (by decide) (.slice Ag mg cg) mg (yaa (wl.take (k * 4))) rfl X8.out.gt (.slice (some Ab) nb cb) nb (yaa ch) rfl F8.out (ya8 _) (by unfold maxLen; omega) (by omega) X8.out.hx.base.size ?_); intro A9 c9 w9 ho9 hg9 hs9; rw [HCAT.out] at ho9; have X9 := Lib.hid (X8.out.grow L G hg9 hs9 ho9); clear ho9 hg9 hs9 b0 b19 b18)
    have eK : inK (k + 1) = 13 := if_neg (Nat.succ_ne_zero k)
    have eV : inV (k + 1) = (k : Int) + 1 := by unfold inV; rw [if_neg (Nat.succ_ne_zero k)]; push_cast; rfl
    have X10 : Hid (ChX VD VV V (w9.setRow qi (ltC 13 2 1 9 ((k : Int) + 1))) g ((s0.froze f t).with its7) r s0 p (gvN f t its g (k + 1)) qi (ltC (inK (k + 1)) 2 1 9 (inV (k + 1))) (.slice Aw nw cw) wl (.slice A9 (mg + nb) c9) (wl.take ((k + 1) * 4)) (mg + nb)) := by
     rw [eK, eV]
     exact X9.out.put L G (ltC 13 2 1 9 ((k : Int) + 1))
    have h9b := Lib.hid X9.out.bx
    go_wp2_with (with_reducible (show wpList _ _ _ (⟨none, Op.store _ (Operand.tmp 14) _, _, _, _, _⟩ :: _) _ _); go_must (refine wpList_store_row rfl 49 (.tmp 14) (.tmp 190) rfl qi (ltC 13 2 1 9 ((k : Int) + 1)) rfl rfl 49 (ltC (inK k) 2 1 9 (inV k)) h9b.out (hszl 13 2 1 9 _) rfl (h1a 13 2 1 9 _) ?_))
    go_roundg (gk - 1)
    case measure => omega
    case rel => exact ⟨k + 1, _, _, _, _, by omega, by omega, rfl, by go_num, X10⟩
end
open Go.ChangeShapes Go.WideShapes Go.ChangeAt Go.RowKit
theorem Tryz.own : ownKnob Tryz.prog.godebug = none := by kernel_rfl
theorem wf_i64 {n : Int} (h : (Lit.int .i64 n).wf = true) : -9223372036854775808 ≤ n ∧ n ≤ 9223372036854775807 := by
 simpa [Lit.wf, IntKind.min, IntKind.max, IntKind.signed, IntKind.bits] using h
theorem wf_u64 {n : Int} (h : (Lit.int .u64 n).wf = true) : 0 ≤ n ∧ n ≤ 18446744073709551615 := by
 simpa [Lit.wf, IntKind.min, IntKind.max, IntKind.signed, IntKind.bits] using h
theorem below_drewN {B : Nat} {a b : World} (h : Below B a b) (n : Nat) : Below B a (b.drewN n) := ⟨h.os, h.tape, h.output, h.size, h.block⟩
def log4 (n : Nat) : Nat := if h : n < 4 then 0 else log4 (n / 4) + 1
termination_by n
decreasing_by omega
theorem ysb {n : Nat} (h : n < 4) : log4 n = 0 := by rw [log4, dif_pos h]
theorem ymc {n : Nat} (h : 4 ≤ n) : log4 n = log4 (n / 4) + 1 := by rw [log4, dif_neg (by omega)]
theorem ymd : ∀ (j n : Nat), 4 ^ j ≤ n → j ≤ log4 n
 | 0, n, _ => Nat.zero_le _
 | j + 1, n, h => by
  have h1 : 4 ^ j * 4 ≤ n := by rw [← Nat.pow_succ]; exact h
  have h2 : 1 ≤ 4 ^ j := Nat.pow_pos (by omega)
  rw [ymc (by omega)]
  have := ymd j (n / 4) (by omega)
  omega
theorem ysc (n : Nat) : log4 n ≤ n := by
 induction n using Nat.strongRecOn with
 | ind n ih =>
  by_cases h : n < 4
  ·rw [ysb h]; omega
  ·rw [ymc (by omega)]
   have := ih (n / 4) (by omega)
   omega
def yhw (n : Nat) : Nat := if n = 0 then 0 else log4 n + 1
theorem ysd {d n : Nat} (h : 4 ^ d ≤ n) : d + 1 ≤ yhw n := by
 have h2 : 1 ≤ 4 ^ d := Nat.pow_pos (by omega)
 rw [yhw, if_neg (by omega)]
 have := ymd d n h
 omega
def getN (l : List Item) (k : ByteArray) : ByteArray := match l[yaj l k]? with
 | some x => if x.1.toList == k.toList then x.2 else ByteArray.empty
 | none => ByteArray.empty
structure yse (SH : World → Nat → Int → List Item → List Nat → Prop) : Prop where
 touch : ∀ {W W1 : World} {g : Nat} {most : Int} {l : List Item} {F G : List Nat}, SH W g most l F → Touch G W W1 → (∀ q ∈ F, q ∉ G) → SH W1 g most l F
 ltF : ∀ {W : World} {g : Nat} {most : Int} {l : List Item} {F : List Nat}, SH W g most l F → ∀ q ∈ F, q < W.heap.size
 rising : ∀ {W : World} {g : Nat} {most : Int} {l : List Item} {F : List Nat}, SH W g most l F → yah l
 new : ∀ (W : World) (most : Int), -9223372036854775808 ≤ most → most ≤ 9223372036854775807 → Calls Tryz.prog 114 #[.int .i64 most] W fun e w' =>
  ∃ g F, e = .returned (.pointer (some ⟨g, 0, none⟩)) ∧ SH w' g (min (max most 0) 200) [] F ∧ (∀ q ∈ F, W.heap.size ≤ q) ∧ Below W.heap.size W w'
 put : ∀ {W : World} {g : Nat} {most : Int} {l : List Item} {F : List Nat} (k v : ByteArray), SH W g most l F → k.size ≤ maxLen → v.size ≤ maxLen →
  Calls Tryz.prog 138 #[.pointer (some ⟨g, 0, none⟩), .string k, .string v] W fun e w' =>
   e = .returned (.int .i64 (putE most l k v)) ∧ ∃ F', SH w' g most (putS most l k v) F' ∧ Touch F W w' ∧ ∀ q ∈ F', q ∈ F ∨ W.heap.size ≤ q
 del : ∀ {W : World} {g : Nat} {most : Int} {l : List Item} {F : List Nat} (k : ByteArray), SH W g most l F →
  Calls Tryz.prog 139 #[.pointer (some ⟨g, 0, none⟩), .string k] W fun e w' =>
   e = .returned (.bool (hasN l k)) ∧ ∃ F', SH w' g most (delN l k) F' ∧ Touch F W w' ∧ ∀ q ∈ F', q ∈ F ∨ W.heap.size ≤ q
 get : ∀ {W : World} {g : Nat} {most : Int} {l : List Item} {F : List Nat} (k : ByteArray), SH W g most l F →
  Calls Tryz.prog 135 #[.pointer (some ⟨g, 0, none⟩), .string k] W fun e w' => e = .returned (.tuple #[.string (getN l k), .bool (hasN l k)]) ∧ Below W.heap.size W w'
 len : ∀ {W : World} {g : Nat} {most : Int} {l : List Item} {F : List Nat}, SH W g most l F →
  Calls Tryz.prog 125 #[.pointer (some ⟨g, 0, none⟩)] W fun e w' => e = .returned (.int .i64 (l.length : Nat)) ∧ Below W.heap.size W w'
 items : ∀ {W : World} {g : Nat} {most : Int} {l : List Item} {F : List Nat}, SH W g most l F →
  Calls Tryz.prog 107 #[.pointer (some ⟨g, 0, none⟩)] W (yem W l)
 copy : ∀ {W : World} {g : Nat} {most : Int} {l : List Item} {F : List Nat}, SH W g most l F →
  Calls Tryz.prog 164 #[.pointer (some ⟨g, 0, none⟩)] W fun e w' =>
   ∃ g' F', e = .returned (.pointer (some ⟨g', 0, none⟩)) ∧ SH w' g' most l F' ∧ (∀ q ∈ F', W.heap.size ≤ q) ∧ Below W.heap.size W w'
abbrev t1 : ByteArray := ⟨#[49]⟩
abbrev t2 : ByteArray := ⟨#[50]⟩
theorem yme {l : List Item} (h : yah l) (k : ByteArray) (x : Item) : x ∈ delN l k ↔ x ∈ l ∧ x.1 ≠ k := by
 have nu : ∀ {a : List Item}, ya6 a k → ∀ {x}, x ∈ a → x.1 ≠ k := fun ha x hx e => by
  have := ha x hx; rw [e, ycy] at this; cases this
 have no : ∀ {b : List Item}, (∀ y ∈ b, yad k y.1 = true) → ∀ {x}, x ∈ b → x.1 ≠ k := fun hb x hx e => by
  have := hb x hx; rw [e, ycy] at this; cases this
 rcases yhh h k with ⟨a, u, b, rfl, ha, hb⟩ | ⟨a, b, rfl, ha, hb⟩
 ·rw [show delN (a ++ (k, u) :: b) k = a ++ b from yf4 (x := (k, u)) ha b]
  simp only [List.mem_append, List.mem_cons]
  constructor
  ·rintro (z | z)
   ·exact ⟨.inl z, nu ha z⟩
   ·exact ⟨.inr (.inr z), no hb z⟩
  ·rintro ⟨z | z | z, hn⟩
   ·exact .inl z
   ·exact absurd (by rw [z]) hn
   ·exact .inr z
 ·rw [yi6 ha, (yf6 hb).2.2]
  simp only [List.mem_append]
  constructor
  ·rintro (z | z)
   ·exact ⟨.inl z, nu ha z⟩
   ·exact ⟨.inr z, no hb z⟩
  ·rintro ⟨z, _⟩
   exact z
theorem ysf {l : List Item} {k : ByteArray} (h : hasN l k = false) : getN l k = ByteArray.empty := by
 unfold hasN at h
 unfold getN
 split
 ·rename_i x e
  rw [e] at h
  rw [if_neg (by simpa using h)]
 ·rfl
end Go.Proofs.YtnjodhglbapnlaaGreat
