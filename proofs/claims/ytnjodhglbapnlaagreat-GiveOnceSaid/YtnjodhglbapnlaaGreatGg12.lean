import Derived.Test.YtnjodhglbapnlaaGreatGg11
import Derived.Test.YtnjodhglbapnlaaGreatGg02
import Derived.Test.YtnjodhglbapnlaaGreatGg03
import Derived.Test.YtnjodhglbapnlaaGreatGg08
import Derived.Test.YtnjodhglbapnlaaGreatGg04
import Derived.Test.YtnjodhglbapnlaaGreatGg01
import Derived.Test.YtnjodhglbapnlaaGreatGg05
import Derived.Deep.DeepCutAuto
import Derived.Laws.CopyOwn
import Derived.Deep.RegionLaw
import Derived.Deep.QuietTactic
import Derived.BigQuiet
import Derived.RegionTactic
import Derived.Deep.RegionHeld3
set_option maxRecDepth 100000
set_option maxHeartbeats 16000000
namespace Go.Proofs.YtnjodhglbapnlaaGreat.Gi
open Go.RowKit
theorem yt0 (w : World) (p : GP) : ∀ j u, (rowC gE [p])[j]? = some u → (w.alloc (.cells (gE p) 223)).cell? ((⟨w.heap.size, 0, none⟩ : Addr).add j) = some u := by
 intro j u hj
 have hj : ((gE p).toList)[j]? = some u := by rw [← hj]; simp [rowC]
 have : j = 0 ∨ j = 1 ∨ j = 2 := by have := (List.getElem?_eq_some_iff.1 hj).1; simp at this; omega
 rw [Go.WideShapes.add_plain]
 rcases this with rfl | rfl | rfl <;> (simp at hj; subst hj; go_simp)
theorem yt1 : ∃ i z, Tryz.prog.info? 223 = some i ∧ i.zero = some z ∧ i.size = 3 ∧ i.bytes = 24 ∧ z.cells.size = 3 := by
 have h : (Tryz.prog.info? 223).map (fun i => (i.zero.isSome, i.size, i.bytes, (i.zero.getD undef).cells.size)) = some (true, 3, 24, 3) := by kernel_rfl
 obtain ⟨i, hi, hx⟩ := Option.map_eq_some_iff.1 h
 simp only [Prod.mk.injEq] at hx
 obtain ⟨h1, h2, h3, h4⟩ := hx
 obtain ⟨z, hz⟩ := Option.isSome_iff_exists.1 h1
 exact ⟨i, z, hi, hz, h2, h3, by rw [hz] at h4; exact h4⟩
theorem GM.grow {w w5 : World} {g : Nat} {H : HC} {s : GS} {x : GRow} {R : List GRow} (h : GM w g H s x R) {V : Value} {n : Nat} (hn : x.2.length = n) (f t : Nat) (nd : Int) (hf : f < 18446744073709551616) (ht : t < 18446744073709551616) (hl : s.l.length ≤ 1000)
  (k : Touch x.1.ownBlock.toList w w5) (ho : w5.ownsRow 0 223 3 V (n + 1) (rowC gE x.2 ++ rowC gE [⟨f, t, nd, 0⟩])) (hs : ∀ q, V.ownBlock = some q → x.1.ownBlock = some q ∨ w.heap.size ≤ q) :
  ∃ F1, VG (w5.setCell ⟨g, 8, none⟩ V) g H (s.point f t nd) F1 ∧ Touch (gF g (x :: R)) w (w5.setCell ⟨g, 8, none⟩ V) ∧ ∀ q ∈ F1, q ∈ gF g (x :: R) ∨ w.heap.size ≤ q := by
 have hgx : g ∉ x.1.ownBlock.toList := fun z => h.gn x (by simp) (Option.mem_toList.1 z)
 have t2 : Touch [g] w5 (w5.setCell ⟨g, 8, none⟩ V) := (Touch.refl _ _).set (.inl (by simp)) _
 have hg5 := (k.block g h.lt hgx).trans h.hg
 have hVg : V.ownBlock ≠ some g := fun z => by
  rcases hs g z with y | y
  ·exact h.gn x (by simp) y
  ·have := h.lt; omega
 have t3 : Touch (gF g (x :: R)) w (w5.setCell ⟨g, 8, none⟩ V) := (k.mono (fun q hq => mem_gF.2 (.inr ⟨x, by simp, Option.mem_toList.1 hq⟩))).trans t2 (fun q hq => .inl (mem_gF.2 (.inl (by simpa using hq))))
 refine ⟨_, ⟨(V, x.2 ++ [⟨f, t, nd, 0⟩]), R, ⟨h.hl, ?_, ?_, ?_, ?_, ?_, ?_, h.b, ?_⟩, rfl⟩, t3, ?_⟩
 ·show s.l ++ [_] = _
  rw [h.l, ygv, ygv, List.map_append, List.append_assoc]
  rfl
 ·show (s.l ++ [_]).length ≤ 1001
  rw [List.length_append]
  simp only [List.length_singleton]
  omega
 ·rw [gm_set hg5]
  simp [hC, GS.point]
 ·intro y hy
  rcases List.mem_cons.1 hy with rfl | z
  ·refine t2.row ?_ (fun q hq z => hVg (by rw [hq, List.mem_singleton.1 z]))
   rw [yc2, List.length_append, hn]
   exact ho
  ·refine t2.row (k.row (h.rows y (List.mem_cons_of_mem _ z)) fun q hq z' => h.own q (Option.mem_toList.1 z') y z hq) (fun q hq z' => h.gn y (List.mem_cons_of_mem _ z) (by rw [hq, List.mem_singleton.1 z']))
 ·intro q hq y hy
  rcases hs q hq with z | z
  ·exact h.own q z y hy
  ·exact fun z' => by have := ((h.rows y (List.mem_cons_of_mem _ hy)).lt q z').2; omega
 ·intro y hy
  rcases List.mem_cons.1 hy with rfl | z
  ·exact hVg
  ·exact h.gn y (List.mem_cons_of_mem _ z)
 ·intro y hy p hp
  rcases List.mem_cons.1 hy with rfl | z
  ·rcases List.mem_append.1 hp with z | z
   ·exact h.pts x (by simp) p z
   ·rw [List.mem_singleton.1 z]
    exact ⟨hf, ht⟩
  ·exact h.pts y (List.mem_cons_of_mem _ z) p hp
 ·intro q hq
  rcases mem_gF.1 hq with rfl | ⟨y, hy, hyq⟩
  ·exact .inl (mem_gF.2 (.inl rfl))
  ·rcases List.mem_cons.1 hy with rfl | z
   ·rcases hs q hyq with z | z
    ·exact .inl (mem_gF.2 (.inr ⟨x, by simp, z⟩))
    ·exact .inr z
   ·exact .inl (mem_gF.2 (.inr ⟨y, List.mem_cons_of_mem _ z, hyq⟩))
theorem gatePoint_any {w : World} {g : Nat} {H : HC} {s : GS} {F : List Nat} (f t : Nat) (nd : Int) (hf : f < 18446744073709551616) (ht : t < 18446744073709551616) (hl : s.l.length ≤ 1000) (h : VG w g H s F) :
  Calls Tryz.prog 130 #[.pointer (some ⟨g, 5, none⟩), .agg #[.int .u64 (f : Nat), .int .u64 (t : Nat)], .int .i64 nd] w fun e w' =>
  ∃ F1, e = .returned (.tuple #[]) ∧ VG w' g H (s.point f t nd) F1 ∧ Touch F w w' ∧ ∀ q ∈ F1, q ∈ F ∨ w.heap.size ≤ q := by
 obtain ⟨x, R, h, rfl⟩ := h
 obtain ⟨i0, z0, hi0, hz, hsL, hbL, hzc⟩ := yt1
 obtain ⟨V, l⟩ := x
 obtain ⟨n, hn⟩ : ∃ n, l.length = n := ⟨_, rfl⟩
 have hv := h.rows (V, l) (by simp)
 simp only at hv
 rw [hn] at hv
 have hn1 : n ≤ 1000 := by
  have e := h.l
  rw [ygv] at e
  rw [e, List.length_append, List.length_map] at hl
  simp only at hl
  omega
 obtain ⟨A, c, rfl⟩ := yav hv
 obtain ⟨w1, hw1⟩ : ∃ w1, w.alloc (.cells #[.int .u64 (f : Nat), .int .u64 (t : Nat)] 25) = w1 := ⟨_, rfl⟩
 obtain ⟨qa, hqa⟩ : ∃ q, w.heap.size = q := ⟨_, rfl⟩
 have H1 : Hid (Below w.heap.size w w1) := by rw [← hw1]; exact (Below.refl _ _).alloc (Nat.le_refl _) _
 have ba0 : w1.cell? ⟨qa, 0, none⟩ = some (.int .u64 (f : Nat)) := by rw [← hw1, ← hqa]; simp
 have ba1 : w1.cell? ⟨qa, 1, none⟩ = some (.int .u64 (t : Nat)) := by rw [← hw1, ← hqa]; simp
 have hlq : qa < w1.heap.size := World.block_lt_of_cell? _ _ ba0
 have h1 := h.below H1.out
 have hgx : g ∉ (Value.slice A n c).ownBlock.toList := fun z => h1.gn (.slice A n c, l) (by simp) (Option.mem_toList.1 z)
 have hqx : qa ∉ (Value.slice A n c).ownBlock.toList := fun z => by have := (hv.lt qa (Option.mem_toList.1 z)).2; omega
 have HSS : Hid (∀ w', Touch (Value.slice A n c).ownBlock.toList w1 w' → w'.cell? ⟨g, 8, none⟩ = some (.slice A n c) ∧ w'.cell? ⟨qa, 0, none⟩ = some (.int .u64 (f : Nat)) ∧ w'.cell? ⟨qa, 1, none⟩ = some (.int .u64 (t : Nat))) := fun w' hb =>
  ⟨(hb.cell (p := ⟨g, 8, none⟩) h1.lt hgx).trans h1.c3, (hb.cell (p := ⟨qa, 0, none⟩) hlq hqx).trans ba0, (hb.cell (p := ⟨qa, 1, none⟩) hlq hqx).trans ba1⟩
 have HFR : Hid (∀ w', Touch (Value.slice A n c).ownBlock.toList w1 w' → w'.frozen? ⟨g, 8, none⟩ = false) := fun w' hb => (hb.frozen (p := ⟨g, 8, none⟩) h1.lt hgx).trans (h1.free 8)
 have HROW := Lib.hid (h1.rows (.slice A n c, l) (by simp))
 simp only at HROW
 rw [hn] at HROW
 have HB1 : Hid (Below w1.heap.size w1 (w1.drew.alloc (.cells (gE ⟨f, t, nd, 0⟩) 223))) := (Below.refl _ _).drew.alloc (Nat.le_refl _) _
 have HT0 : Hid (Touch (Value.slice A n c).ownBlock.toList w1 w1.drew) := (Touch.refl _ _).drew
 have HEND : Hid (∀ A5 c5 w5, Touch (Value.slice A n c).ownBlock.toList w1 w5 → w5.ownsRow 0 223 3 (.slice A5 (n + 1) c5) (n + 1) (rowC gE l ++ rowC gE [⟨f, t, nd, 0⟩]) → yax (w1.drew.alloc (.cells (gE ⟨f, t, nd, 0⟩) 223)) (.slice A n c) (.slice A5 (n + 1) c5) →
   ∃ F1, VG (w5.setCell ⟨g, 8, none⟩ (.slice A5 (n + 1) c5)) g H (s.point f t nd) F1 ∧ Touch (gF g ((.slice A n c, l) :: R)) w (w5.setCell ⟨g, 8, none⟩ (.slice A5 (n + 1) c5)) ∧ ∀ q ∈ F1, q ∈ gF g ((.slice A n c, l) :: R) ∨ w.heap.size ≤ q) := fun A5 c5 w5 k1 k2 k3 => by
  obtain ⟨F1, k4, k5, k6⟩ := h1.grow hn f t nd hf ht hl k1 k2 (fun q hq => (k3 q hq).imp id (fun z => by simp at z; omega))
  have := H1.out.size
  exact ⟨F1, k4, (Touch.ofBelow (F := gF g ((.slice A n c, l) :: R)) H1.out).trans k5 (fun x hx => .inl hx), fun q hq => (k6 q hq).imp id (fun z => by omega)⟩
 clear h h1 hv hgx hqx hlq ba0 ba1 hn hl
 go_enter Tryz.func130, Tryz.ntmps130
 go_upto_region 2 with fail
 (try rw [hw1])
 (try rw [hqa])
 clear hw1 hqa
 refine ybe (fun w' => w'.cell? ⟨g, 8, none⟩ = some (.slice A n c) ∧ w'.cell? ⟨qa, 0, none⟩ = some (.int .u64 (f : Nat)) ∧ w'.cell? ⟨qa, 1, none⟩ = some (.int .u64 (t : Nat))) 14 (by kernel_rfl) ?_ (fun hHeld => ?_)
 ·(try dsimp only); exact HSS.out _ HT0.out
 refine wtP 0 ?_
 try simp only [Act.put, wsA, wsB, wsC]
 refine wtP 1 ?_
 try simp only [Act.put, wsA, wsB, wsC]
 refine wtP 2 ?_
 try simp only [Act.put, wsA, wsB, wsC]
 refine wtP 3 ?_
 try simp only [Act.put, wsA, wsB, wsC]
 refine wtP 4 ?_
 try simp only [Act.put, wsA, wsB, wsC]
 refine wtP 7 ?_
 try simp only [Act.put, wsA, wsB, wsC]
 refine wtP 11 ?_
 try simp only [Act.put, wsA, wsB, wsC]
 refine wtP 12 ?_
 try simp only [Act.put, wsA, wsB, wsC]
 refine wtT 5 ?_
 try simp only [Act.put, wsA, wsB, wsC]
 refine wtT 6 ?_
 try simp only [Act.put, wsA, wsB, wsC]
 refine wtC 8 fun K hK => ?_
 go_simp
 refine hK.out _ _ (by (try dsimp only); (first | exact HSS.out _ HT5.out | exact HSS.out _ (Touch.ofBelow HB1.out) | exact HSS.out _ HT0.out)) (fun hHeld => ?_)
 clear hK K
 try simp only [Act.put, wsA, wsB, wsC]
 refine wtC 9 fun K hK => ?_
 go_simp
 refine hK.out _ _ (by (try dsimp only); (first | exact HSS.out _ HT5.out | exact HSS.out _ (Touch.ofBelow HB1.out) | exact HSS.out _ HT0.out)) (fun hHeld => ?_)
 clear hK K
 try simp only [Act.put, wsA, wsB, wsC]
 refine wtC 10 fun K hK => ?_
 refine yc3 rfl (.tmp 13) (.tmp 17) 110 rfl 0 223 i0 z0 3 24 Tryz.underlying110 hi0 hz hsL hbL hzc (by decide) (.slice A n c) n (rowC gE l) rfl (yhi HROW.out HB1.out) (.slice (some ⟨w1.drew.heap.size, 0, none⟩) 1 1) 1 (rowC gE [⟨f, t, nd, 0⟩]) rfl (.inr ⟨_, _, rfl, rfl, (fun j u hu => yt0 w1.drew ⟨f, t, nd, 0⟩ j u hu)⟩) (ytu _) (by unfold maxLen; omega) (by omega) (Nat.zero_le _) ?_
 intro A5 c5 w5 ho5 hg5 hs5
 have HO5 := Lib.hid ho5
 have HT5 : Hid (Touch (Value.slice A n c).ownBlock.toList w1 w5) := ((Touch.ofBelow HB1.out).grown hg5 (fun k hk => .inl (Option.mem_toList.2 hk)))
 have HS5 := Lib.hid hs5
 have ff := HFR.out _ HT5.out
 clear ho5 hg5 hs5
 refine hK.out _ _ (by (try dsimp only); (first | exact HSS.out _ HT5.out | exact HSS.out _ (Touch.ofBelow HB1.out) | exact HSS.out _ HT0.out)) (fun hHeld => ?_)
 clear hK K
 try simp only [Act.put, wsA, wsB, wsC]
 refine wtP 13 ?_
 try simp only [Act.put, wsA, wsB, wsC]
 refine wtD 14 fun K hK => ?_
 go_simp
 refine hK.out _ _ ?_
 clear hK K
 try simp only [Act.put, wsA, wsB, wsC]
 refine ya8 (by kernel_rfl) ?_ _
 go_wp2_with fail
 go_end0
 obtain ⟨F1, z⟩ := HEND.out A5 c5 w5 HT5.out HO5.out HS5.out
 first
  | exact ⟨F1, rfl, z⟩
  | exact ⟨rfl, F1, z⟩
end Go.Proofs.YtnjodhglbapnlaaGreat.Gi
namespace Go.Proofs.YtnjodhglbapnlaaGreat.Gi
open Go.RowKit
theorem yt2 {P : Program} (w : World) (t e e2 : TypeId) (n : Nat) (cs : Array Value) (i : Nat) (v : Value) (ht : P.underlying t = some (.array n e)) (he : P.underlying e = some (.slice e2)) (hs : (P.info? e).map (·.size) = some 1) (hi : i < n) (hv : cs[i]? = some v) :
  (Instr.index t (.agg cs) (.int .i64 (i : Nat))).run P w = .ok v w := by
 cases hq : P.info? e with
 | none => simp [hq] at hs
 | some j =>
  have h1 : j.size = 1 := by simpa [hq] using hs
  simp [Instr.index, run_underlying ht, asIntOf, sizeOf, typeInfo, hq, h1, part, isAgg, run_underlying he, hv]
  exact fun z => absurd hi (by omega)
theorem yt3 {w : World} {g : Nat} {H : HC} {s : GS} {x : GRow} {R : List GRow} (h : GM w g H s x R) : w.rangeAt g 8 ((x :: R).map (·.1)) := by
 intro j v hj
 refine gm_cell h.hg ?_
 rw [List.getElem?_toArray, Nat.add_comm]
 exact hj
def upTo (S : List GRow) (i : Nat) : Nat := ((S.take i).map fun y => y.2.length).sum
theorem yt4 {S : List GRow} {i : Nat} {y : GRow} (h : S[i]? = some y) : upTo S (i + 1) = upTo S i + y.2.length := by
 unfold upTo
 rw [List.take_add_one, h]
 simp
theorem yt5 (S : List GRow) (i : Nat) : upTo S i ≤ (S.map fun y => y.2.length).sum := by
 have h : (S.map fun y => y.2.length).sum = upTo S i + ((S.drop i).map fun y => y.2.length).sum := by
  unfold upTo
  rw [← List.sum_append, ← List.map_append, List.take_append_drop]
 omega
theorem yt6 : (Tryz.prog.info? 111).map (·.size) = some 40 := by kernel_rfl
theorem yt7 : (Tryz.prog.info? 110).map (·.size) = some 1 := by kernel_rfl
end Go.Proofs.YtnjodhglbapnlaaGreat.Gi
namespace Go.Proofs.YtnjodhglbapnlaaGreat
open Go.RowKit
theorem yt8 {g : Operand} {ps : Array Tmp} {assign body : Code} {Q : Exit → Act → World → Prop} {a : Act} {w : World} {gf : Nat} {lb : Array Value}
  (hg : a.eval g = .func (.func gf) #[] lb) (eg : ∀ args w, (callFunc gf args).run Tryz.prog w = .ok (.enter gf args) w) {α : Type} {enc : α → Array Value} {xs : List α} {B : List Nat}
  (hw : ∀ W, Below w.heap.size w W → WayY gf lb enc xs B W) (hB : ∀ q ∈ B, q < w.heap.size) (hps : ∀ x, (enc x).size = ps.size)
  (I : Nat → World → List Nat → Prop) (Ix : Code → World → List Nat → Prop) (Y0 : List Nat) (hY0 : ∀ q ∈ Y0, q < w.heap.size) (h0 : I 0 w Y0) (hI : ∀ n, Abid (I n)) (hIx : ∀ c, Abid (Ix c)) (Ax : Nat → World → α → Act → World → Prop)
  (hAx : ∀ n W x a1 W1 W2 G, Ax n W x a1 W1 → Touch G W1 W2 → (∀ q ∈ G, q < W.heap.size) → Ax n W x a1 W2)
  (hassign : ∀ (l n : Nat) (x : α) (W : World) (K : Act → World → Prop), xs[n]? = some x → (∀ a1 W1, Below W.heap.size W W1 → Ax n W x a1 W1 → K a1 W1) →
   assign.wpIn (Fence.wide.inRound l) 0 Tryz.prog (Exit.then K (fun _ _ _ => False)) { tmps := (ps.zip (enc x)).foldl (fun t (p, v) => t.setIfInBounds p v) a.tmps, defers := [] } W)
  (hbody : ∀ (l n : Nat) (x : α) (W0 W : World) (a1 : Act) (Y : List Nat), w.heap.size ≤ W0.heap.size → W0.heap.size ≤ W.heap.size → xs[n]? = some x → I n W Y → (∀ q ∈ Y, q < W0.heap.size) → Ax n W0 x a1 W → body.wpIn (Fence.wide.inRound l) 0 Tryz.prog (yic B Y W (I (n + 1)) Ix) a1 W)
  (hdone : ∀ (D : Nat) (W : World) (Y : List Nat), w.heap.size ≤ D → D ∉ Y → Left B Y0 w W Y → I xs.length W Y → W.heap[D]? = some (.deferred (some [])) → Q .normal { a with defers := { target := .collected D, args := #[] } :: a.defers } W)
  (hstop : ∀ (D : Nat) (c : Code) (W : World) (Y : List Nat), w.heap.size ≤ D → D ∉ Y → Left B Y0 w W Y → Ix c W Y → W.heap[D]? = some (.deferred (some [])) → c.wpIn Fence.wide 0 Tryz.prog Q { a with defers := { target := .collected D, args := #[] } :: a.defers } W) :
  (Code.rangeFunc g ps assign body).wpIn Fence.wide 0 Tryz.prog Q a w := by
 refine wpIn_rangeFunc fun fn hfn => ?_
 obtain ⟨rec, hrec⟩ : ∃ rec : LoopState → Option Code → Loop, rec = fun st pe => { state := st, pending := pe, fn, tmps := a.tmps, params := ps, assign, body, defers := w.heap.size } := ⟨_, rfl⟩
 obtain ⟨D, hD⟩ : ∃ D, D = w.heap.size := ⟨_, rfl⟩
 obtain ⟨W1, hW1⟩ : ∃ W1, (w.alloc (.deferred (some []))).alloc (.loop (rec .ready none)) = W1 := ⟨_, rfl⟩
 have b1 : Below w.heap.size w W1 := by
  rw [← hW1]; exact ((Below.refl _ w).alloc (Nat.le_refl _) _).alloc (by simp) _
 have s1 : W1.heap.size = D + 2 := by rw [← hW1, hD]; simp
 have l1 : W1.heap[D + 1]? = some (.loop (rec .ready none)) := by
  rw [← hW1, hD]
  have := World.alloc_heap_new (w.alloc (.deferred (some []))) (.loop (rec .ready none))
  rwa [World.size_alloc] at this
 have k1 : W1.heap[D]? = some (.deferred (some [])) := by
  rw [← hW1, hD]
  exact (Below.heap_alloc _ _ _ (by simp)).trans (World.alloc_heap_new w _)
 have i1 : I 0 W1 Y0 := hI 0 w W1 Y0 [] h0 (Touch.ofBelow b1) (by simp)
 have hBD : ∀ q ∈ B, q < D := fun q hq => hD ▸ hB q hq
 have hYD : ∀ q ∈ Y0, q < D := fun q hq => hD ▸ hY0 q hq
 obtain ⟨T, hT⟩ : ∃ T : LoopState → Option Code → World → Prop, T = fun st pe W => W.heap[D + 1]? = some (.loop (rec st pe)) ∧ W.heap[D]? = some (.deferred (some [])) := ⟨_, rfl⟩
 have hTa : ∀ {st pe W W' G}, T st pe W → Touch G W W' → D ∉ G → D + 1 ∉ G → T st pe W' := by
  intro st pe W W' G h t n1 n2
  rw [hT] at h ⊢
  exact ⟨(t.block _ (Array.getElem?_eq_some_iff.1 h.1).1 n2).trans h.1, (t.block _ (Array.getElem?_eq_some_iff.1 h.2).1 n1).trans h.2⟩
 have hWay := hw W1 b1 (D + 1)
  (fun n W Y => ∃ Y1, Y = D :: (D + 1) :: Y1 ∧ D ∉ Y1 ∧ D + 1 ∉ Y1 ∧ I n W Y1 ∧ T .ready none W)
  (fun W Y => ∃ Y1 c, Y = D :: (D + 1) :: Y1 ∧ D ∉ Y1 ∧ D + 1 ∉ Y1 ∧ Ix c W Y1 ∧ T .done (some c) W)
  (D :: (D + 1) :: Y0) (by
   intro q hq
   rw [s1]
   simp at hq
   rcases hq with h | h | h
   ·omega
   ·omega
   ·have := hYD q h; omega)
  ⟨Y0, rfl, fun h => by have := hYD _ h; omega, fun h => by have := hYD _ h; omega, i1, by rw [hT]; exact ⟨l1, k1⟩⟩
  (fun n W W' Y G ⟨Y1, e, n1, n2, h1, h2⟩ t hn => by
   subst e
   exact ⟨Y1, rfl, n1, n2, hI n W W' Y1 G h1 t (fun q hq => hn q (by simp [hq])), hTa h2 t (hn D (by simp)) (hn (D + 1) (by simp))⟩)
  (fun W W' Y G ⟨Y1, c, e, n1, n2, h1, h2⟩ t hn => by
   subst e
   exact ⟨Y1, c, rfl, n1, n2, hIx c W W' Y1 G h1 t (fun q hq => hn q (by simp [hq])), hTa h2 t (hn D (by simp)) (hn (D + 1) (by simp))⟩)
  (by
   rintro n x W Y hx ⟨Y1, rfl, n1, n2, hi, ht⟩ hY
   have ht0 := ht
   rw [hT] at ht
   obtain ⟨hl, hk⟩ := ht
   have hlt : D + 1 < W.heap.size := (Array.getElem?_eq_some_iff.1 hl).1
   have hy := run_yield (P := Tryz.prog) (args := enc x) hl (by rw [hrec]; exact hps x)
   rw [hrec] at hy
   refine ⟨fn, _, assign, body, hy, roundIn_of_wpIn hfn (hassign _ n x W _ hx (fun a1 W1 hb1 hax => ?_))⟩
   have hl1 : W1.heap[D + 1]? = some (.loop (rec .ready none)) := (hb1.block _ hlt).trans hl
   refine ⟨_, run_beginRound hl1 (by rw [hrec]), ?_⟩
   have hlt1 : D + 1 < W1.heap.size := Nat.lt_of_lt_of_le hlt hb1.size
   obtain ⟨V, hV⟩ : ∃ V, V = W1.putObj (D + 1) (.loop { rec .ready none with state := .busy }) := ⟨_, rfl⟩
   have hax2 : Ax n W x a1 V := by rw [hV]; exact hAx n W x a1 W1 _ [D + 1] hax ((Touch.refl _ _).put (.inl (by simp)) _) (by simp; omega)
   have t2 : Touch [D + 1] W V := by rw [hV]; exact (Touch.ofBelow hb1).put (.inl (by simp)) _
   have sV : W.heap.size ≤ V.heap.size := t2.size
   have l2 : V.heap[D + 1]? = some (.loop { rec .ready none with state := .busy }) := by rw [hV]; exact World.putObj_heap_same hlt1
   have k2 : V.heap[D]? = some (.deferred (some [])) := by rw [hV]; exact (World.putObj_heap_other (by omega)).trans ((hb1.block _ (by omega)).trans hk)
   have i2 : I n V Y1 := hI n W V Y1 _ hi t2 (fun q hq e => by simp at e; exact n2 (e ▸ hq))
   rw [← hV]
   have y2 : ∀ q ∈ Y1, q < W.heap.size := fun q hq => hY q (by simp [hq])
   refine wpIn_mono (hbody _ n x W V a1 Y1 (by omega) sV hx i2 y2 hax2) ?_
   have fin : ∀ (jump : Option Code) (W3 : World) (Y3 : List Nat), Left B Y1 V W3 Y3 →
     (Instr.endRound (D + 1) jump).run Tryz.prog W3 = .ok (.bool jump.isNone) (W3.putObj (D + 1) (.loop (rec (if jump.isNone then .ready else .done) jump))) ∧
     Touch [D + 1] W3 (W3.putObj (D + 1) (.loop (rec (if jump.isNone then .ready else .done) jump))) ∧ D ∉ Y3 ∧ D + 1 ∉ Y3 ∧
     T (if jump.isNone then .ready else .done) jump (W3.putObj (D + 1) (.loop (rec (if jump.isNone then .ready else .done) jump))) ∧
     Left B (D :: (D + 1) :: Y1) W (W3.putObj (D + 1) (.loop (rec (if jump.isNone then .ready else .done) jump))) (D :: (D + 1) :: Y3) := by
    intro jump W3 Y3 h3
    have hs3 := h3.size
    obtain ⟨⟨G, t3, g3⟩, y3⟩ := h3
    have d1 : D ∉ G := fun h => n1 (g3 _ h).1
    have d2 : D + 1 ∉ G := fun h => n2 (g3 _ h).1
    have l3 : W3.heap[D + 1]? = some (.loop { rec .ready none with state := .busy }) := (t3.block _ (by omega) d2).trans l2
    have k3 : W3.heap[D]? = some (.deferred (some [])) := (t3.block _ (by omega) d1).trans k2
    have e1 : D ∉ Y3 := fun h => by
     rcases (y3 _ h).2 with z | z
     ·exact n1 z
     ·omega
    have e2 : D + 1 ∉ Y3 := fun h => by
     rcases (y3 _ h).2 with z | z
     ·exact n2 z
     ·omega
    have hr := run_endRound (P := Tryz.prog) jump l3
    rw [hrec] at hr ⊢
    refine ⟨hr, (Touch.refl _ _).put (.inl (by simp)) _, e1, e2, by rw [hT, hrec]; exact ⟨World.putObj_heap_same (by omega), (World.putObj_heap_other (by omega)).trans k3⟩, ⟨(D + 1) :: G, ?_, ?_⟩, ?_⟩
    ·exact ((t2.mono (G := (D + 1) :: G) (fun x hx => by simp at hx; simp [hx])).trans t3 (fun x hx => .inl (by simp [hx]))).put (.inl (by simp)) _
    ·intro q hq
     rcases List.mem_cons.1 hq with rfl | z
     ·exact ⟨by simp, fun hb => by have := hBD _ hb; omega⟩
     ·exact ⟨by simp [(g3 q z).1], (g3 q z).2⟩
    ·intro q hq
     simp only [World.putObj_size]
     simp at hq
     rcases hq with rfl | rfl | z
     ·exact ⟨by omega, .inl (by simp)⟩
     ·exact ⟨by omega, .inl (by simp)⟩
     ·obtain ⟨z1, z2⟩ := y3 q z
      exact ⟨z1, z2.imp (fun z => by simp [z]) (fun z => by omega)⟩
   rintro e a3 W3 hp
   cases e with
   | normal =>
    obtain ⟨Y3, h3, i3⟩ := hp
    obtain ⟨f1, f2, f3, f4, f5, f6⟩ := fin none W3 Y3 h3
    exact ⟨_, _, f1, _, f6, .inl ⟨rfl, Y3, rfl, f3, f4, hI _ _ _ _ _ i3 f2 (fun q hq e => by simp at e; exact f4 (e ▸ hq)), f5⟩⟩
   | ret =>
    obtain ⟨Y3, h3, i3⟩ := hp
    obtain ⟨f1, f2, f3, f4, f5, f6⟩ := fin (some .ret) W3 Y3 h3
    exact ⟨_, _, f1, _, f6, .inr ⟨rfl, Y3, _, rfl, f3, f4, hIx _ _ _ _ _ i3 f2 (fun q hq e => by simp at e; exact f4 (e ▸ hq)), f5⟩⟩
   | exit id =>
    obtain ⟨Y3, h3, i3⟩ := hp
    obtain ⟨f1, f2, f3, f4, f5, f6⟩ := fin (some (.exit id)) W3 Y3 h3
    exact ⟨_, _, f1, _, f6, .inr ⟨rfl, Y3, _, rfl, f3, f4, hIx _ _ _ _ _ i3 f2 (fun q hq e => by simp at e; exact f4 (e ▸ hq)), f5⟩⟩
   | goto t =>
    obtain ⟨Y3, h3, i3⟩ := hp
    obtain ⟨f1, f2, f3, f4, f5, f6⟩ := fin (some (.goto t)) W3 Y3 h3
    exact ⟨_, _, f1, _, f6, .inr ⟨rfl, Y3, _, rfl, f3, f4, hIx _ _ _ _ _ i3 f2 (fun q hq e => by simp at e; exact f4 (e ▸ hq)), f5⟩⟩
   | panic ch => exact hp.elim
   | outgrown => exact hp.elim)
 refine ⟨D + 1, [{ target := .collected D, args := #[] }], W1, { target := .fn (.func gf) lb, args := #[.func (.yield (D + 1)) #[] #[]] }, W1, gf, #[.func (.yield (D + 1)) #[] #[]] ++ lb, W1, ?_, ?_, fun _ _ => trivial, ?_, (fun h => by simp [Fence.wide] at h), ?_⟩
 ·rw [← hW1, hrec, hD]
  exact run_enterLoop_outer _ _ _ _ _
 ·simp only [resolve, hg]
  simp [go_sem]
 ·simp [invoke, go_sem, eg]
 ·refine (callsIn_wide.2 hWay).mono ?_
  have back : ∀ {W2 Y1 o}, Left B (D :: (D + 1) :: Y0) W1 W2 (D :: (D + 1) :: Y1) → D ∉ Y1 → D + 1 ∉ Y1 → Touch [D + 1] W2 (W2.putObj (D + 1) o) ∧ Left B Y0 w (W2.putObj (D + 1) o) Y1 := by
   intro W2 Y1 o h n1 n2
   have hs := h.size
   obtain ⟨⟨G, t, hG⟩, hY⟩ := h
   refine ⟨(Touch.refl _ _).put (.inl (by simp)) _, ⟨G.filter (fun q => decide (q < D)), ?_, ?_⟩, ?_⟩
   ·have z : Touch (G.filter (fun q => decide (q < D))) w W2 := (Touch.ofBelow b1).trans t (fun x hx => by
     by_cases z : x < D
     ·exact .inl (List.mem_filter.2 ⟨hx, by simpa using z⟩)
     ·exact .inr (by omega))
    exact z.put (.inr (by omega)) _
   ·intro q hq
    obtain ⟨z1, z2⟩ := List.mem_filter.1 hq
    have z2 := of_decide_eq_true z2
    obtain ⟨y1, y2⟩ := hG q z1
    simp at y1
    rcases y1 with y | y | y
    ·omega
    ·omega
    ·exact ⟨y, y2⟩
   ·intro q hq
    obtain ⟨z1, z2⟩ := hY q (by simp [hq])
    refine ⟨by simpa using z1, ?_⟩
    rcases z2 with z | z
    ·simp at z
     rcases z with rfl | rfl | z
     ·exact absurd hq n1
     ·exact absurd hq n2
     ·exact .inl z
    ·exact .inr (by omega)
  rintro e W2 ⟨rfl, Y, hL, (⟨Y1, rfl, n1, n2, hi, ht⟩ | ⟨Y1, c, rfl, n1, n2, hi, ht⟩)⟩
  ·rw [hT] at ht
   obtain ⟨b2, b3⟩ := back (o := .loop { rec .ready none with state := .exhausted }) hL n1 n2
   have h9 := run_endLoop (P := Tryz.prog) ht.1 (by rw [hrec]; simp)
   refine ⟨none, _, by rw [hrec] at h9; exact h9, ?_⟩
   rw [hrec] at b2 b3
   exact hdone D _ Y1 (by omega) n1 b3 (hI _ _ _ _ _ hi b2 (fun q hq e => by simp at e; exact n2 (e ▸ hq))) ((World.putObj_heap_other (by omega)).trans ht.2)
  ·rw [hT] at ht
   obtain ⟨b2, b3⟩ := back (o := .loop { rec .done (some c) with state := .exhausted }) hL n1 n2
   have h9 := run_endLoop (P := Tryz.prog) ht.1 (by rw [hrec]; simp)
   refine ⟨some c, _, by rw [hrec] at h9; exact h9, ?_⟩
   rw [hrec] at b2 b3
   exact hstop D c _ Y1 (by omega) n1 b3 (hIx _ _ _ _ _ hi b2 (fun q hq e => by simp at e; exact n2 (e ▸ hq))) ((World.putObj_heap_other (by omega)).trans ht.2)
end Go.Proofs.YtnjodhglbapnlaaGreat
namespace Go.Proofs.YtnjodhglbapnlaaGreat.Gi
open Go.RowKit
attribute [local go_sem] Oper.semAt_some
theorem yt9 (A : Option Addr) (n c : Nat) (W : World) : Calls Tryz.prog 181 #[.slice A n c] W fun e w' =>
  e = .returned (.func (.func 200) #[] #[.pointer (some ⟨W.heap.size, 0, none⟩)]) ∧ w' = W.alloc (.cells #[.slice A n c] 110) := by
 go_enter Tryz.func181, Tryz.ntmps181
 go_wp2_with fail
 go_ret
 exact ⟨rfl, rfl⟩
theorem yua {w : World} {base e size n c : Nat} {A : Option Addr} {xs : List Value} (h : w.ownsRow base e size (.slice A n c) n xs) (hn : 0 < n) : ∃ q, A = some ⟨q, 0, none⟩ := by
 rcases h.2 with ⟨h0, h1⟩ | ⟨q, cap, cur, h0, _⟩
 ·omega
 ·injection h0 with e1 _ _
  exact ⟨q, e1⟩
theorem Left.rowB {B Y Y' : List Nat} {w w' : World} (h : Left B Y w w' Y') {base e size n : Nat} {v : Value} {xs : List Value} (hr : w.ownsRow base e size v n xs) (hn : ∀ q, v.ownBlock = some q → q ∈ B) : w'.ownsRow base e size v n xs := by
 obtain ⟨⟨G, t, hG⟩, _⟩ := h
 exact t.row hr (fun q hq z => (hG q z).2 (hn q hq))
abbrev encG (x : GP × Nat) : Array Value := #[.int .i64 (x.2 : Nat), .agg (gE x.1)]
theorem yub {l : List GP} {n m j : Nat} (hn : l.length = n) (hm : m + (j + 1) = n) {p : GP} (hp : l[j]? = some p) : l.zipIdx.reverse[m]? = some (p, j) := by
 rw [List.getElem?_reverse (by rw [List.length_zipIdx, hn]; omega), List.length_zipIdx, hn, show n - 1 - m = j by omega, List.getElem?_zipIdx, hp]
 simp
theorem yuc {W : World} {A : Option Addr} {n c : Nat} {l : List GP} (hr : W.ownsRow 0 223 3 (.slice A n c) n (rowC gE l)) (hn : l.length = n) (hsm : n ≤ 100000) {b : Nat} (hc : W.cell? ⟨b, 0, none⟩ = some (.slice A n c)) :
  WayY 200 #[.pointer (some ⟨b, 0, none⟩)] encG l.zipIdx.reverse (b :: (Value.slice A n c).ownBlock.toList) W := by
 intro lp J Q Y0 hY0 h0 hJ hQ hR
 have H0 := Lib.hid h0
 have HJ := Lib.hid hJ
 have HR := Lib.hid hR
 have HY0 := Lib.hid hY0
 have HO := Lib.hid hr
 have HN := Lib.hid hn
 have HC := Lib.hid hc
 have z0 : IntKind.i64.wrap ((n : Int) - 1) = (n : Int) - 1 := by rw [IntKind.wrap_i64]; omega
 obtain ⟨B, hB⟩ : ∃ B, b :: (Value.slice A n c).ownBlock.toList = B := ⟨_, rfl⟩
 have HBB : Hid (∀ q, (Value.slice A n c).ownBlock = some q → q ∈ B) := fun q hq => by rw [← hB]; exact List.mem_cons_of_mem _ (Option.mem_toList.2 hq)
 have Hb : Hid (b ∈ B) := by show b ∈ B; rw [← hB]; simp
 have HC2 : Hid (∀ w Y, Left B Y0 W w Y → w.cell? ⟨b, 0, none⟩ = some (.slice A n c)) := fun w Y h => h.cellB (p := ⟨b, 0, none⟩) HC.out Hb.out
 rw [hB] at HR ⊢
 clear h0 hJ hR hQ hY0 hr hn hB
 go_enter Tryz.func200, Tryz.ntmps200
 go_wp2
 clear hc
 go_loopg [3] (n + 1) (fun gh s3 wx => ∃ (k m : Nat) (z : Int) (Y : List Nat), gh = k + 1 ∧ m + k = n ∧ z = (k : Int) - 1 ∧ s3 = .int .i64 z ∧ Hid (J m wx Y) ∧ Hid (Left B Y0 W wx Y))
 case atStart => exact ⟨n, 0, _, Y0, rfl, by omega, rfl, rfl, H0.out, Left.refl HY0.out⟩
 case round =>
  obtain ⟨k, m, z, Y, hgk, hk, hz, rfl, HJi, HL⟩ := hrel
  by_cases h0 : z ≥ 0
  ·obtain ⟨j, rfl⟩ : ∃ j, k = j + 1 := ⟨k - 1, by omega⟩
   obtain rfl : z = (j : Int) := by omega
   have d0 : decide ((j : Int) ≥ 0) = true := decide_eq_true h0
   have zj : IntKind.i64.wrap ((j : Int) - 1) = (j : Int) - 1 := by rw [IntKind.wrap_i64]; omega
   have hj : j < l.length := by rw [HN.out]; omega
   have i1 : (j : Int) < (n : Int) := by omega
   obtain ⟨p, hp⟩ : ∃ p, l[j]? = some p := ⟨_, List.getElem?_eq_getElem hj⟩
   have hx := yub HN.out hk hp
   have hrow := Left.rowB HL.out HO.out HBB.out
   obtain ⟨q, rfl⟩ := yua hrow (by omega)
   have cell : ∀ i v, i < 3 → (gE p)[i]? = some v → wr.cell? ⟨q, j * 3 + i, none⟩ = some v := fun i v hi hv => by
    have z := hrow.cells (g := q) rfl (j * 3 + i) v (by rw [yeo ytt l j i p hp hi]; exact hv)
    rw [Go.WideShapes.add_plain, Nat.zero_add] at z
    exact z
   have e0 := cell 0 _ (by decide) rfl
   have e1 := cell 1 _ (by decide) rfl
   have e2 := cell 2 _ (by decide) rfl
   rw [Nat.add_zero] at e0
   have b3 := HC2.out wr Y HL.out
   have hY1 := HR.out m (p, j) wr Y hx HJi.out (fun q hq => (HL.out.2 q hq).1)
   clear cell h0 hz hx hrow hp hj
   go_upto_region 3 with fail
   obtain ⟨fn, tmps, assign, body, hy, hr⟩ := hY1
   have HRR := Lib.hid hr
   clear hr
   refine (wpIn_wide (n := 0)).1 ?_
   gi_wp2
   refine ⟨rfl, ?_⟩
   refine (RoundIn.deep HRR.out).mono ?_
   rintro e w2 ⟨Y2, hL2, (⟨rfl, hj⟩ | ⟨rfl, hq⟩)⟩
   ·have HL3 := Lib.hid (HL.out.trans hL2)
    have HJ3 := Lib.hid hj
    clear hL2 hj hy e0 e1 e2 b3
    gi_wp2
    go_wp2_with fail
    go_roundg (gk - 1)
    case measure => omega
    case rel => exact ⟨j, m + 1, _, Y2, by omega, by omega, rfl, by go_num, HJ3, HL3⟩
   ·clear hy e0 e1 e2 b3
    gi_wp2
    go_wp2_with fail
    refine bodyPost_ret (results_none rfl _ _ _) rfl ?_
    exact ⟨rfl, Y2, HL.out.trans hL2, .inr hq⟩
  ·have d0 : decide (z ≥ 0) = false := decide_eq_false h0
   obtain rfl : k = 0 := by omega
   have HLZ : Hid (l.length = m) := by show l.length = m; rw [HN.out]; omega
   clear hz
   go_wp2_with fail
   go_end0
   exact ⟨rfl, Y, HL.out, .inl (by rw [HLZ.out]; exact HJi.out)⟩
end Go.Proofs.YtnjodhglbapnlaaGreat.Gi
namespace Go.Proofs.YtnjodhglbapnlaaGreat.Gi
open Go.RowKit
attribute [local go_sem] Oper.semAt_some
theorem yud {F : Fence} {n : Nat} {P : Program} {ops : Array Oper} {rest : List Oper} {op : Oper} {a : Act} {w : World} {Q : Exit → Act → World → Prop} (hgd : op.guard = none) (ty : TypeId) (x : Operand) (ho : op.op = .load ty x)
  (b o : Nat) (hx : a.eval x = .pointer (some ⟨b, o, none⟩)) (cs : List Value) (d : TypeDesc) (hc : w.rangeAt b o cs)
  (hu : P.underlying ty = some d) (hd : d.isRow = true) (hi : (P.info? ty).map (·.size) = some cs.length)
  (h : wpListIn F n P ops Q rest (a.put op.dst (.agg cs.toArray)) w) : wpListIn F n P ops Q (op :: rest) a w := by
 refine wpListIn_plain hgd fun K hK => ?_
 refine ⟨by simp [Oper.about, ho], ?_⟩
 rw [Oper.semAt_plain F _ _ (by rw [ho]; intro c hc; cases hc)]
 simp only [execOp, ho, hx, Instr.loadAt, Instr.sureAddr, Sem.run_bind, Sem.run_pure, Result.andThen_ok, run_loadVar_mid w b o ty cs d hc hu hd hi]
 exact hK _ _ h
def metB (l : List GP) (x n : Nat) : Option Int := ((l.zipIdx.reverse.take n).find? fun p => inB p.1.f p.1.t x).map (·.1.n)
theorem yue {l : List GP} {x n : Nat} {p : GP × Nat} (h : l.zipIdx.reverse[n]? = some p) (h0 : metB l x n = none) : metB l x (n + 1) = if inB p.1.f p.1.t x then some p.1.n else none := by
 unfold metB at h0 ⊢
 rw [List.take_add_one, h, List.find?_append]
 cases hf : (l.zipIdx.reverse.take n).find? fun p => inB p.1.f p.1.t x with
 | some y => rw [hf] at h0; cases h0
 | none =>
  simp only [Option.toList_some, List.find?_cons, List.find?_nil, Option.none_or]
  cases inB p.1.f p.1.t x <;> rfl
theorem ync : ∀ (l : List GP) (k x : Nat), (((l.zipIdx k).reverse).find? fun p => inB p.1.f p.1.t x).map (·.1.n) = yao l x
 | [], _, _ => rfl
 | p :: l, k, x => by
  have h := ync l (k + 1) x
  unfold yao at h ⊢
  rw [List.zipIdx_cons, List.reverse_cons, List.find?_append, List.reverse_cons, List.find?_append]
  cases h1 : ((l.zipIdx (k + 1)).reverse).find? fun p => inB p.1.f p.1.t x with
  | some y =>
   cases h2 : l.reverse.find? fun p => inB p.f p.t x with
   | some z => rw [h1, h2] at h; exact h
   | none => rw [h1, h2] at h; cases h
  | none =>
   cases h2 : l.reverse.find? fun p => inB p.f p.t x with
   | some z => rw [h1, h2] at h; cases h
   | none =>
    simp only [Option.none_or, List.find?_cons, List.find?_nil]
    cases inB p.f p.t x <;> rfl
theorem ynd (l : List GP) (x n : Nat) (h : l.length ≤ n) : metB l x n = yao l x := by
 unfold metB
 rw [List.take_of_length_le (by rw [List.length_reverse, List.length_zipIdx]; exact h)]
 exact ync l 0 x
theorem yuf {l : List GP} {x n : Nat} {nd : Int} (h : metB l x n = some nd) : yao l x = some nd := by
 rw [← ynd l x (n + l.length) (by omega)]
 unfold metB at h ⊢
 rw [List.take_add, List.find?_append]
 cases hf : (l.zipIdx.reverse.take n).find? fun p => inB p.1.f p.1.t x with
 | some y => rw [hf] at h; exact h
 | none => rw [hf] at h; cases h
theorem gateWhere_any {W : World} {g : Nat} {H : HC} {s : GS} {F : List Nat} (x : Nat) (hx : x < 18446744073709551616) (h : VG W g H s F) : Calls Tryz.prog 134 #[.pointer (some ⟨g, 5, none⟩), .int .u64 (x : Nat)] W fun e w' => e = .returned (yd0 (yao s.l x)) ∧ Below W.heap.size W w' := by
 obtain ⟨r0, R, h, rfl⟩ := h
 have HR := Lib.hid (yt3 h)
 have HZ : Hid ((Tryz.prog.info? 111).map (·.size) = some ((r0 :: R).map (·.1)).length) := by show _ = _; rw [yt6]; simp [h.hl]
 have HS : Hid (∀ (i : Nat) (y : GRow), (r0 :: R)[i]? = some y → (∃ A c, y.1 = .slice A y.2.length c) ∧ W.ownsRow 0 223 3 y.1 y.2.length (rowC gE y.2) ∧ y.2.length ≤ 1001 ∧ ∀ p ∈ y.2, p.f < 18446744073709551616 ∧ p.t < 18446744073709551616) := fun i y hy =>
  have hm := List.mem_of_getElem? hy
  ⟨yav (h.rows y hm), h.rows y hm, by
   have h1 := yt4 hy
   have h2 := yt5 (r0 :: R) (i + 1)
   rw [← ym9 _ 0, ← h.l] at h2
   have := h.few
   omega, h.pts y hm⟩
 have HI : Hid (∀ (w : World) (i : Nat) (y : GRow), (r0 :: R)[i]? = some y → i < 40 → (Instr.index 111 (.agg ((r0 :: R).map (·.1)).toArray) (.int .i64 (i : Nat))).run Tryz.prog w = .ok y.1 w) := fun w i y hy hi => yt2 w 111 110 223 40 _ i y.1 Tryz.underlying111 Tryz.underlying110 yt7 hi (by rw [List.getElem?_toArray, List.getElem?_map, hy]; rfl)
 have HL : Hid ((r0 :: R).length = 40) := by show _ = _; simp [h.hl]
 have HO : Hid (yao (ycs 0 (r0 :: R)) x = yao s.l x) := by show _ = _; rw [h.l]
 obtain ⟨S, hS⟩ : ∃ S, r0 :: R = S := ⟨_, rfl⟩
 rw [hS] at HR HZ HS HI HL HO
 have HST : Hid (∀ (i : Nat) (y : GRow), S[i]? = some y → yao (ycs i (S.drop i)) x = (yao y.2 x).or (yao (ycs (i + 1) (S.drop (i + 1))) x)) := fun i y hy => by
  have hlt := (List.getElem?_eq_some_iff.1 hy).1
  rw [List.drop_eq_getElem_cons hlt, ytx]
  rw [List.getElem?_eq_getElem hlt] at hy
  rw [Option.some.inj hy]
 have CI : Hid (∀ (p : GP), p.f < 18446744073709551616 ∧ p.t < 18446744073709551616 → ∀ W, Calls Tryz.prog 113 #[.agg #[.int .u64 (p.f : Nat), .int .u64 (p.t : Nat)], .int .u64 (x : Nat)] W fun e w' => e = .returned (.bool (inB p.f p.t x)) ∧ Below W.heap.size W w') := fun p hp W => ydz p.f p.t x W hp.1 hp.2 hx
 obtain ⟨o, ho⟩ : ∃ o, yao s.l x = o := ⟨_, rfl⟩
 rw [ho] at HO ⊢
 have hglt := h.lt
 clear h hS ho hx
 obtain ⟨arr, ha⟩ : ∃ arr, S.map (·.1) = arr := ⟨_, rfl⟩
 rw [ha] at HR HZ HI
 clear ha
 have HRA : Hid (∀ w, Below W.heap.size W w → w.rangeAt g 8 arr) := fun w hb j v hj => (hb.cell (p := ⟨g, 8 + j, none⟩) hglt).trans (HR.out j v hj)
 unfold yd0
 refine (callsIn_wide (n := 0)).1 (callsIn_of_wp_marks Tryz.func134 rfl trivial ?_ rfl)
 simp only [Tryz.ntmps134, List.size_toArray, List.length_cons, List.length_nil, Nat.reduceAdd, Nat.reduceSub, Array.replicate_succ, Array.replicate_zero, List.push_toArray, List.append_toArray, List.nil_append, List.cons_append]
 gi_wp2
 refine wpIn_wide.2 (wp_scope_straight ((wpIn_wide (n := 0)).1 ?_))
 gi_wp2
 refine wpIn_label ?_
 have v0 : Var (((W.alloc (.cells #[.int .u64 (x : Nat)] 23)).alloc (.cells #[.int .i64 0] 3)).alloc (.cells #[.bool false] 4)) W.heap.size (.int .u64 (x : Nat)) := ((Var.new W _ _).old _).old _
 have v1 : Var (((W.alloc (.cells #[.int .u64 (x : Nat)] 23)).alloc (.cells #[.int .i64 0] 3)).alloc (.cells #[.bool false] 4)) (W.heap.size + 1) (.int .i64 0) := by
  have z := (Var.new (W.alloc (.cells #[.int .u64 (x : Nat)] 23)) (.int .i64 0) 3).old (.cells #[.bool false] 4)
  rwa [World.size_alloc] at z
 have v2 : Var (((W.alloc (.cells #[.int .u64 (x : Nat)] 23)).alloc (.cells #[.int .i64 0] 3)).alloc (.cells #[.bool false] 4)) (W.heap.size + 1 + 1) (.bool false) := by
  have z := Var.new ((W.alloc (.cells #[.int .u64 (x : Nat)] 23)).alloc (.cells #[.int .i64 0] 3)) (.bool false) 4
  rwa [World.size_alloc, World.size_alloc] at z
 have b3 : Below W.heap.size W (((W.alloc (.cells #[.int .u64 (x : Nat)] 23)).alloc (.cells #[.int .i64 0] 3)).alloc (.cells #[.bool false] 4)) := ((((Below.refl _ W).alloc (Nat.le_refl _) _).alloc (by simp) _).alloc (by simp; omega) _)
 have z3 : (((W.alloc (.cells #[.int .u64 (x : Nat)] 23)).alloc (.cells #[.int .i64 0] 3)).alloc (.cells #[.bool false] 4)).heap.size = W.heap.size + 3 := by simp
 generalize (((W.alloc (.cells #[.int .u64 (x : Nat)] 23)).alloc (.cells #[.int .i64 0] 3)).alloc (.cells #[.bool false] 4)) = W3 at *
 have HB3 := Lib.hid b3
 have HRW := Lib.hid (HRA.out W3 b3)
 gi_wp2_with (refine yud rfl 111 (.tmp 16) rfl g 8 rfl arr _ HRW.out Tryz.underlying111 rfl HZ.out ?_)
 refine wpIn_loop (fun a V => ∃ (i : Nat) (Ds : List Nat) (u9 u19 u20 u21 u22 u31 : Value),
   a = { tmps := #[.pointer (some ⟨g, 5, none⟩), .int .u64 (x : Nat), undef, .pointer (some ⟨W.heap.size, 0, none⟩), .int .i64 0, .bool false, .pointer (some ⟨W.heap.size + 1, 0, none⟩), .pointer (some ⟨W.heap.size + 1 + 1, 0, none⟩), undef, u9, undef, undef, .pointer (some ⟨g, 5, none⟩), .bool false, .pointer (some ⟨g, 5, none⟩), .pointer (some ⟨g, 5, none⟩), .pointer (some ⟨g, 8, none⟩), .agg arr.toArray, .int .i64 (i : Nat), u19, u20, u21, u22, undef, undef, undef, undef, undef, undef, undef, undef, u31, undef, undef], defers := Ds.map mark } ∧
   i ≤ 40 ∧ Hid (yao (ycs i (S.drop i)) x = o) ∧ Hid (Below W.heap.size W V) ∧ W.heap.size + 3 ≤ V.heap.size ∧ Hid (Var V W.heap.size (.int .u64 (x : Nat))) ∧ Hid (Var V (W.heap.size + 1) (.int .i64 0)) ∧ Hid (Var V (W.heap.size + 1 + 1) (.bool false)) ∧
   Hid (Ds.Nodup ∧ ∀ D ∈ Ds, W.heap.size + 3 ≤ D ∧ V.heap[D]? = some (.deferred (some []))))
  (fun a _ => 40 - (intOf (a.tmps.getD 18 undef)).toNat) ?_ ?_
 ·exact ⟨0, [], undef, undef, undef, undef, undef, undef, rfl, Nat.zero_le _, HO.out, HB3.out, by omega, v0, v1, v2, List.nodup_nil, fun D hD => by cases hD⟩
 ·rintro a V ⟨i, Ds, u9, u19, u20, u21, u22, u31, rfl, hi, HOV, HB, hV, HV0, HV1, HV2, HDS⟩
  clear v0 v1 v2 b3 z3
  by_cases hlt : i < 40
  ·obtain ⟨y, hy⟩ : ∃ y, S[i]? = some y := ⟨_, List.getElem?_eq_getElem (by rw [HL.out]; exact hlt)⟩
   have hix := HI.out V i y hy hlt
   obtain ⟨⟨A, c, hA⟩, hrow, hle, hpts⟩ := HS.out i y hy
   have hst := HST.out i y hy
   rw [HOV.out] at hst
   obtain ⟨yv, l⟩ := y
   simp only at hA hrow hle hpts hst hix
   subst hA
   obtain ⟨n, hn⟩ : ∃ n, l.length = n := ⟨_, rfl⟩
   rw [hn] at hix hrow hle
   have HN := Lib.hid hn
   have HROW := Lib.hid hrow
   have HST2 := Lib.hid hst
   have HPT := Lib.hid hpts
   have t1 : decide (i < 40) = true := by simp; omega
   have i1 : (i : Int) < 40 := by omega
   clear hn hrow hst hpts hy
   gi_wp2_with (refine ⟨trivial, rfl, ?_⟩; gi_at_call 181; refine (callsIn_wide.2 (yt9 _ _ _ _)).mono ?_; rintro e w' ⟨rfl, rfl⟩)
   have cb : (V.alloc (.cells #[.slice A n c] 110)).cell? ⟨V.heap.size, 0, none⟩ = some (.slice A n c) := by go_simp
   have hv0 := HV0.out.old (.cells #[.slice A n c] 110)
   have hv1 := HV1.out.old (.cells #[.slice A n c] 110)
   have hv2 := HV2.out.old (.cells #[.slice A n c] 110)
   have hbn : Below V.heap.size V (V.alloc (.cells #[.slice A n c] 110)) := (Below.refl _ _).alloc (Nat.le_refl _) _
   have hzn : (V.alloc (.cells #[.slice A n c] 110)).heap.size = V.heap.size + 1 := by simp
   generalize (V.alloc (.cells #[.slice A n c] 110)) = V2 at *
   have HBN := Lib.hid hbn
   have HBV : Hid (Below W.heap.size W V2) := acc HB.out hbn
   have HOWN : Hid (∀ q, (Value.slice A n c).ownBlock = some q → q < W.heap.size) := fun q hq => (HROW.out.lt q hq).2
   have HCB := Lib.hid cb
   have hszp : (Tryz.prog.info? 223).map (·.size) = some 3 := by kernel_rfl
   clear cb hbn
   refine yt8 (α := GP × Nat) (enc := encG) (gf := 200) (lb := #[.pointer (some ⟨V.heap.size, 0, none⟩)]) rfl (enters_of Tryz.func200 (by kernel_rfl) rfl) (xs := l.zipIdx.reverse) (B := V.heap.size :: (Value.slice A n c).ownBlock.toList)
    (fun V3 hV3 => yuc (yhi HROW.out (HBV.out.trans (hV3.mono HBV.out.size))) HN.out (by omega) ((hV3.cell (p := ⟨V.heap.size, 0, none⟩) (by simp [hzn])).trans HCB.out))
    (fun q hq => by
     rcases List.mem_cons.1 hq with rfl | z
     ·omega
     ·have := HOWN.out q (Option.mem_toList.1 z)
      omega) (fun _ => rfl)
    (fun m V3 Y => Y = [W.heap.size, W.heap.size + 1, W.heap.size + 1 + 1] ∧ Var V3 W.heap.size (.int .u64 (x : Nat)) ∧ Var V3 (W.heap.size + 1) (.int .i64 0) ∧ Var V3 (W.heap.size + 1 + 1) (.bool false) ∧ metB l x m = none)
    (fun cd V3 Y => cd = .exit 0 ∧ Y = [W.heap.size, W.heap.size + 1, W.heap.size + 1 + 1] ∧ ∃ nd, Var V3 (W.heap.size + 1) (.int .i64 nd) ∧ Var V3 (W.heap.size + 1 + 1) (.bool true) ∧ yao l x = some nd)
    [W.heap.size, W.heap.size + 1, W.heap.size + 1 + 1] (by simp; omega) ⟨rfl, hv0, hv1, hv2, rfl⟩
    (by
     rintro m V3 V4 Y G ⟨rfl, h0, h1, h2, h3⟩ tt hn
     exact ⟨rfl, h0.touch tt (hn _ (by simp)), h1.touch tt (hn _ (by simp)), h2.touch tt (hn _ (by simp)), h3⟩)
    (by
     rintro cd V3 V4 Y G ⟨rfl, rfl, nd, h1, h2, h3⟩ tt hn
     exact ⟨rfl, rfl, nd, h1.touch tt (hn _ (by simp)), h2.touch tt (hn _ (by simp)), h3⟩)
    (fun m W0 y a1 V3 => V3.heap[W0.heap.size]? = some (.cells (gE y.1) 223) ∧ a1 = { tmps := #[.pointer (some ⟨g, 5, none⟩), .int .u64 (x : Nat), undef, .pointer (some ⟨W.heap.size, 0, none⟩), .int .i64 0, .bool false, .pointer (some ⟨W.heap.size + 1, 0, none⟩), .pointer (some ⟨W.heap.size + 1 + 1, 0, none⟩), undef, .slice A n c, undef, .pointer (some ⟨W0.heap.size, 0, none⟩), .pointer (some ⟨g, 5, none⟩), .bool false, .pointer (some ⟨g, 5, none⟩), .pointer (some ⟨g, 5, none⟩), .pointer (some ⟨g, 8, none⟩), .agg arr.toArray, .int .i64 (i : Nat), .bool true, .slice A n c, .slice A n c, .func (.func 200) #[] #[.pointer (some ⟨V.heap.size, 0, none⟩)], .int .i64 (y.2 : Nat), .agg (gE y.1), undef, undef, undef, undef, undef, undef, u31, undef, undef], defers := [] })
    (by
     rintro m V3 y a1 V4 V5 G ⟨h1, h2⟩ tt hG
     exact ⟨(tt.block _ (ykc h1) (fun z => Nat.lt_irrefl _ (hG _ z))).trans h1, h2⟩)
    ?assign ?body ?done ?stop
   case assign =>
    rintro lp m ⟨p, j⟩ V3 K hxm hK
    have HKK := Lib.hid (hK _ _ ((Below.refl V3.heap.size V3).alloc (Nat.le_refl _) (.cells (gE p) 223)) ⟨heap_alloc_new V3 _, rfl⟩)
    clear hK hxm
    gi_wp2
    exact HKK.out
   case body =>
    rintro lp m ⟨p, j⟩ W0 V3 a1 Y hW0 hV3 hxm ⟨rfl, h0, h1, h2, h3⟩ hY ⟨h4, rfl⟩
    have hm := yue hxm h3
    have hpl : p ∈ l := by
     have z := List.mem_reverse.1 (List.mem_of_getElem? hxm)
     exact (List.mem_zipIdx' z).2 ▸ List.getElem_mem _
    have CP := Lib.hid (CI.out p (HPT.out p hpl))
    have c0 := h0.val
    have p0 : V3.cell? ⟨W0.heap.size, 0, none⟩ = some (.int .u64 (p.f : Nat)) := gm_cell h4 rfl
    have p1 : V3.cell? ⟨W0.heap.size, 1, none⟩ = some (.int .u64 (p.t : Nat)) := gm_cell h4 rfl
    have p2 : V3.cell? ⟨W0.heap.size, 2, none⟩ = some (.int .i64 p.n) := gm_cell h4 rfl
    have H0 := Lib.hid h0
    have H1 := Lib.hid h1
    have H2 := Lib.hid h2
    have HM := Lib.hid hm
    have hlw := ykc h4
    have L0 := H0.out.lt
    have L1 := H1.out.lt
    have L2 := H2.out.lt
    clear hxm h0 h1 h2 h3 h4 hY hpl hm
    cases hin : inB p.f p.t x with
    | false =>
     rw [hin] at CP HM
     have HM2 : Hid (metB l x (m + 1) = none) := HM.out.trans (if_neg (by decide))
     clear HM
     gi_wp2_with (refine ⟨trivial, rfl, ?_⟩; gi_at_call 113; refine (CallsIn.inRound lp (callsIn_wide.2 (CP.out _))).mono ?_; rintro e w1 ⟨rfl, hb1⟩; have HB1 := Lib.hid hb1; clear hb1)
     exact ⟨_, Left.after HB1.out (Left.refl (by have := HB1.out.size; simp; omega)), rfl, H0.out.below HB1.out, H1.out.below HB1.out, H2.out.below HB1.out, HM2.out⟩
    | true =>
     rw [hin] at CP HM
     have HM2 : Hid (metB l x (m + 1) = some p.n) := HM.out.trans (if_pos rfl)
     clear HM
     gi_wp2_with (refine ⟨trivial, rfl, ?_⟩; gi_at_call 113; refine (CallsIn.inRound lp (callsIn_wide.2 (CP.out _))).mono ?_; rintro e w1 ⟨rfl, hb1⟩; have HB1 := Lib.hid hb1; have e2 := (hb1.cell (p := ⟨W0.heap.size, 2, none⟩) hlw).trans p2; have f1 := (H1.out.below hb1).val; have f2 := (H1.out.below hb1).free; have f3 := (H2.out.below hb1).val; have f4 := (H2.out.below hb1).free; clear hb1)
     have T2 : Touch [W.heap.size + 1, W.heap.size + 1 + 1] V3 ((w1.setCell ⟨W.heap.size + 1, 0, none⟩ (.int .i64 p.n)).setCell ⟨W.heap.size + 1 + 1, 0, none⟩ (.bool true)) := ((Touch.ofBelow HB1.out).set (.inl (by simp)) _).set (.inl (by simp)) _
     refine ⟨_, ⟨⟨_, T2, fun q hq => ⟨by simp at hq ⊢; omega, fun z => ?_⟩⟩, fun q hq => ⟨?_, .inl hq⟩⟩, rfl, rfl, p.n, ((H1.out.below HB1.out).set _).other (by omega) _ _, ((H2.out.below HB1.out).other (by omega) _ _).set _, yuf HM2.out⟩
     ·rcases List.mem_cons.1 z with rfl | z
      ·simp at hq
       omega
      ·have := HOWN.out q (Option.mem_toList.1 z)
       simp at hq
       omega
     ·have := T2.size
      simp at hq
      omega
   case done =>
    rintro D V3 Y hD hDn hL ⟨rfl, h0, h1, h2, h3⟩ hK
    have HB4 : Hid (Below W.heap.size W V3) := Left.new HBV.out hL (by simp; omega)
    have HD2 : Hid ((D :: Ds).Nodup ∧ ∀ E ∈ D :: Ds, W.heap.size + 3 ≤ E ∧ V3.heap[E]? = some (.deferred (some []))) := by
     refine ⟨List.nodup_cons.2 ⟨fun z => ?_, HDS.out.1⟩, fun E hE => ?_⟩
     ·have := (Array.getElem?_eq_some_iff.1 (HDS.out.2 D z).2).1
      omega
     ·rcases List.mem_cons.1 hE with rfl | hE
      ·exact ⟨by omega, hK⟩
      ·obtain ⟨x1, x3⟩ := HDS.out.2 E hE
       have hlt' := (Array.getElem?_eq_some_iff.1 x3).1
       exact ⟨x1, (hL.away (by omega) (by simp; omega)).2.2.trans ((HBN.out.block E hlt').trans x3)⟩
    have HOV2 : Hid (yao (ycs (i + 1) (S.drop (i + 1))) x = o) := by
     have z := HST2.out
     rw [ynd l x _ (by simp)] at h3
     rw [h3, Option.none_or] at z
     exact z.symm
    have hsz := hL.size
    have H0 := Lib.hid h0
    have H1 := Lib.hid h1
    have H2 := Lib.hid h2
    have i2 : IntKind.i64.wrap ((i : Int) + 1) = (i + 1 : Nat) := by rw [IntKind.wrap_i64]; omega
    clear h0 h1 h2 h3 hL hK hDn
    gi_wp2
    refine ⟨⟨i + 1, D :: Ds, _, _, _, _, _, _, rfl, by omega, HOV2, HB4, by omega, H0, H1, H2, HD2⟩, ?_⟩
    simp [intOf]
    omega
   case stop =>
    rintro D cd V3 Y hD hDn hL ⟨rfl, rfl, nd, h1, h2, h3⟩ hK
    have HB4 : Hid (Below W.heap.size W V3) := Left.new HBV.out hL (by simp; omega)
    have HD2 : Hid ((D :: Ds).Nodup ∧ ∀ E ∈ D :: Ds, W.heap.size + 3 ≤ E ∧ V3.heap[E]? = some (.deferred (some []))) := by
     refine ⟨List.nodup_cons.2 ⟨fun z => ?_, HDS.out.1⟩, fun E hE => ?_⟩
     ·have := (Array.getElem?_eq_some_iff.1 (HDS.out.2 D z).2).1
      omega
     ·rcases List.mem_cons.1 hE with rfl | hE
      ·exact ⟨by omega, hK⟩
      ·obtain ⟨x1, x3⟩ := HDS.out.2 E hE
       have hlt' := (Array.getElem?_eq_some_iff.1 x3).1
       exact ⟨x1, (hL.away (by omega) (by simp; omega)).2.2.trans ((HBN.out.block E hlt').trans x3)⟩
    obtain rfl : o = some nd := by
     have z := HST2.out
     rw [h3, Option.some_or] at z
     exact z
    have c1 := h1.val
    have c2 := h2.val
    clear h1 h2 h3 hL hK hDn
    gi_wp2
    refine wpIn_wide.2 ?_
    go_region
    gi_wp2
    rw [Exit.noGoto_ret]
    exact ygn (D :: Ds) V3.drew HD2.out.1 (fun E hE => (HD2.out.2 E hE).2) (fun V' tt => ⟨_, results_tmp2 rfl _ _ _, rfl, Touch.acc HB4.out.drew tt (fun E hE => by have := (HD2.out.2 E hE).1; omega)⟩)
  ·obtain rfl : i = 40 := by omega
   have t1 : decide (40 < 40) = false := by simp
   obtain rfl : o = none := by
    have z := HOV.out
    rw [List.drop_eq_nil_of_le (by rw [HL.out]; exact Nat.le_refl _)] at z
    exact z.symm
   have c1 := HV1.out.val
   have c2 := HV2.out.val
   gi_wp2
   refine wpIn_wide.2 ?_
   go_region
   gi_wp2
   rw [Exit.noGoto_ret]
   exact ygn Ds V.drew HDS.out.1 (fun E hE => (HDS.out.2 E hE).2) (fun V' tt => ⟨_, results_tmp2 rfl _ _ _, rfl, Touch.acc HB.out.drew tt (fun E hE => by have := (HDS.out.2 E hE).1; omega)⟩)
end Go.Proofs.YtnjodhglbapnlaaGreat.Gi
namespace Go.Proofs.YtnjodhglbapnlaaGreat
open Go.RowKit
theorem below_drewN {B : Nat} {a b : World} (h : Below B a b) (n : Nat) : Below B a (b.drewN n) := ⟨h.os, h.tape, h.output, h.size, h.block⟩
def log4 (n : Nat) : Nat := if h : n < 4 then 0 else log4 (n / 4) + 1
termination_by n
decreasing_by omega
theorem yug {n : Nat} (h : n < 4) : log4 n = 0 := by rw [log4, dif_pos h]
theorem yne {n : Nat} (h : 4 ≤ n) : log4 n = log4 (n / 4) + 1 := by rw [log4, dif_neg (by omega)]
theorem ynf : ∀ (j n : Nat), 4 ^ j ≤ n → j ≤ log4 n
 | 0, n, _ => Nat.zero_le _
 | j + 1, n, h => by
  have h1 : 4 ^ j * 4 ≤ n := by rw [← Nat.pow_succ]; exact h
  have h2 : 1 ≤ 4 ^ j := Nat.pow_pos (by omega)
  rw [yne (by omega)]
  have := ynf j (n / 4) (by omega)
  omega
theorem yuh (n : Nat) : log4 n ≤ n := by
 induction n using Nat.strongRecOn with
 | ind n ih =>
  by_cases h : n < 4
  ·rw [yug h]; omega
  ·rw [yne (by omega)]
   have := ih (n / 4) (by omega)
   omega
def yif (n : Nat) : Nat := if n = 0 then 0 else log4 n + 1
theorem yui {d n : Nat} (h : 4 ^ d ≤ n) : d + 1 ≤ yif n := by
 have h2 : 1 ≤ 4 ^ d := Nat.pow_pos (by omega)
 rw [yif, if_neg (by omega)]
 have := ynf d n h
 omega
def getN (l : List Item) (k : ByteArray) : ByteArray := match l[yai l k]? with
 | some x => if x.1.toList == k.toList then x.2 else ByteArray.empty
 | none => ByteArray.empty
structure yuj (SH : World → Nat → Int → List Item → List Nat → Prop) : Prop where
 touch : ∀ {W W1 : World} {g : Nat} {most : Int} {l : List Item} {F G : List Nat}, SH W g most l F → Touch G W W1 → (∀ q ∈ F, q ∉ G) → SH W1 g most l F
 ltF : ∀ {W : World} {g : Nat} {most : Int} {l : List Item} {F : List Nat}, SH W g most l F → ∀ q ∈ F, q < W.heap.size
 rising : ∀ {W : World} {g : Nat} {most : Int} {l : List Item} {F : List Nat}, SH W g most l F → yah l
 new : ∀ (W : World) (most : Int), -9223372036854775808 ≤ most → most ≤ 9223372036854775807 → Calls Tryz.prog 114 #[.int .i64 most] W fun e w' =>
  ∃ g F, e = .returned (.pointer (some ⟨g, 0, none⟩)) ∧ SH w' g (min (max most 0) 200) [] F ∧ (∀ q ∈ F, W.heap.size ≤ q) ∧ Below W.heap.size W w'
 put : ∀ {W : World} {g : Nat} {most : Int} {l : List Item} {F : List Nat} (k v : ByteArray), SH W g most l F → k.size ≤ maxLen → v.size ≤ maxLen →
  Calls Tryz.prog 138 #[.pointer (some ⟨g, 0, none⟩), .string k, .string v] W fun e w' =>
   e = .returned (.int .i64 (putE most l k v)) ∧ ∃ F', SH w' g most (putS most l k v) F' ∧ Touch F W w' ∧ ∀ q ∈ F', q ∈ F ∨ W.heap.size ≤ q
 del : ∀ {W : World} {g : Nat} {most : Int} {l : List Item} {F : List Nat} (k : ByteArray), SH W g most l F →
  Calls Tryz.prog 139 #[.pointer (some ⟨g, 0, none⟩), .string k] W fun e w' =>
   e = .returned (.bool (hasN l k)) ∧ ∃ F', SH w' g most (delN l k) F' ∧ Touch F W w' ∧ ∀ q ∈ F', q ∈ F ∨ W.heap.size ≤ q
 get : ∀ {W : World} {g : Nat} {most : Int} {l : List Item} {F : List Nat} (k : ByteArray), SH W g most l F →
  Calls Tryz.prog 135 #[.pointer (some ⟨g, 0, none⟩), .string k] W fun e w' => e = .returned (.tuple #[.string (getN l k), .bool (hasN l k)]) ∧ Below W.heap.size W w'
 len : ∀ {W : World} {g : Nat} {most : Int} {l : List Item} {F : List Nat}, SH W g most l F →
  Calls Tryz.prog 125 #[.pointer (some ⟨g, 0, none⟩)] W fun e w' => e = .returned (.int .i64 (l.length : Nat)) ∧ Below W.heap.size W w'
 items : ∀ {W : World} {g : Nat} {most : Int} {l : List Item} {F : List Nat}, SH W g most l F →
  Calls Tryz.prog 107 #[.pointer (some ⟨g, 0, none⟩)] W (yep W l)
 copy : ∀ {W : World} {g : Nat} {most : Int} {l : List Item} {F : List Nat}, SH W g most l F →
  Calls Tryz.prog 164 #[.pointer (some ⟨g, 0, none⟩)] W fun e w' =>
   ∃ g' F', e = .returned (.pointer (some ⟨g', 0, none⟩)) ∧ SH w' g' most l F' ∧ (∀ q ∈ F', W.heap.size ≤ q) ∧ Below W.heap.size W w'
abbrev tB : ByteArray := ⟨#[98]⟩
abbrev t1 : ByteArray := ⟨#[49]⟩
abbrev t2 : ByteArray := ⟨#[50]⟩
end Go.Proofs.YtnjodhglbapnlaaGreat
