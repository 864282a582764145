/-
  The document's Got of what it takes. (Written by tools/genLKRH.py.)
-/
import Derived.Test.YtfemdfidfomchaaLinkRefP
import Derived.Test.YtfemdfidfomchaaHeldTill
import Derived.Deep.DeepCutAuto
import Derived.BigQuiet
namespace Go.Proofs.Ytfemdfidfomchaa
open Go.RowKit

/-- what the document's Got has done so far, behind the filter and the keeping -/
structure RfM (W w : World) (g : Nat) (s1 : RL) (V K0 : Value) (c n : Nat) (ks : List PR) (KV : Value) (m : Nat) (T : Value) (ts : List LR) : Prop where
  x : RLX w g {s1 with came := c, kept := ks} V KV
  nk : ks.length = n
  mt : ts.length = m
  t : Touch [g] W w
  row : w.ownsRow (W.heap.size + 2) 51 21 T m (rowC LR.cells ts)
  kf : ∀ q, KV.ownBlock = some q → W.heap.size + 2 ≤ q ∨ K0.ownBlock = some q
  vf : ∀ q, V.ownBlock = some q → W.heap.size + 2 ≤ q
  dj : ∀ q, T.ownBlock = some q → q ≠ g ∧ V.ownBlock ≠ some q ∧ KV.ownBlock ≠ some q
  z : w.heap[W.heap.size + 1]? = some (.cells (lpCells 0 0 0 0 0 0) 53)
  sl : ∀ x ∈ ks, x.r.sl
  slt : ∀ r ∈ ts, r.sl
theorem RfM.krow {W w : World} {g : Nat} {s1 : RL} {V K0 : Value} {c n : Nat} {ks : List PR} {KV : Value} {m : Nat} {T : Value} {ts : List LR} (h : RfM W w g s1 V K0 c n ks KV m T ts) : w.ownsRow 0 53 25 KV n (rowC PR.cells ks) := by
  have h5 := h.x.k
  have h6 : ks.length = n := h.nk
  have h7 : w.ownsRow 0 53 25 KV ks.length (rowC PR.cells ks) := h5
  rw [h6] at h7
  exact h7
theorem RfM.told {W w w5 : World} {g : Nat} {s1 : RL} {V K0 : Value} {c n : Nat} {ks : List PR} {KV : Value} {m : Nat} {T T' : Value} {ts : List LR} {p : PR} {o : Obj} (h : RfM W w g s1 V K0 c n ks KV m T ts) (hp : p ∈ ks)
    (ho : w5.ownsRow (W.heap.size + 2) 51 21 T' (m + 1) (rowC LR.cells ts ++ rowC LR.cells [p.r])) (hg : (w.alloc o).grownBy w5 T.ownBlock) (hs : SameOrNew (w.alloc o) T T') : RfM W w5 g s1 V K0 c n ks KV (m + 1) T' (ts ++ [p.r]) := by
  have hz := bg_lt h.z
  have lT : ∀ q, T.ownBlock = some q → W.heap.size + 2 ≤ q ∧ q < w.heap.size := h.row.lt
  have t5 : Touch T.ownBlock.toList w w5 := ((Touch.refl _ w).alloc o).grown hg (fun k hk => .inl (by simp [hk]))
  have hx := h.x.touch t5 (fun q hq z => by
    have h9 := h.dj q (by simpa using z)
    rcases mem_fr.1 hq with e | e | e
    · exact h9.1 e
    · exact h9.2.1 e
    · exact h9.2.2 e)
  refine ⟨hx, h.nk, by simp [h.mt], h.t.trans t5 (fun q hq => .inr (by have := lT q (by simpa using hq); omega)), by rw [rowC_append]; exact ho, h.kf, h.vf, fun q hq => ?_, (t5.block _ hz (fun y => by have := lT _ (by simpa using y); omega)).trans h.z, h.sl, fun r hr => ?_⟩
  · rcases hs q hq with e | e
    · exact h.dj q e
    · have l1 := h.x.flt
      have e : w.heap.size ≤ q := by simp at e; omega
      refine ⟨fun y => ?_, fun y => ?_, fun y => ?_⟩
      · have := l1 g (by simp [fr]); omega
      · have := l1 q (mem_fr.2 (.inr (.inl y))); omega
      · have := l1 q (mem_fr.2 (.inr (.inr y))); omega
  · rcases List.mem_append.1 hr with y | y
    · exact h.slt r y
    · simp at y; subst y; exact h.sl p hp
theorem RfM.cutK {W w w7 : World} {g i : Nat} {s1 : RL} {V K0 : Value} {c n c7 : Nat} {ks : List PR} {KV : Value} {m : Nat} {T : Value} {ts : List LR} {A7 : Option Addr} (h : RfM W w g s1 V K0 c n ks KV m T ts) (hb : Below w.heap.size w w7)
    (ho : w7.ownsRow 0 53 25 (.slice A7 (i + (n - (i + 1))) c7) (i + (n - (i + 1))) (rowC PR.cells (ks.take i) ++ rowC PR.cells (ks.drop (i + 1)))) (hn : ∀ q, (Value.slice A7 (i + (n - (i + 1))) c7).ownBlock = some q → w.heap.size ≤ q) {k : Nat} (_hc : c + n ≤ k) (hi : i < n) :
    RfM W (w7.setCell ⟨g, 5, none⟩ (.slice A7 (i + (n - (i + 1))) c7)) g s1 V K0 c (i + (n - (i + 1))) (ks.take i ++ ks.drop (i + 1)) (.slice A7 (i + (n - (i + 1))) c7) m T ts := by
  have hz := bg_lt h.z
  have hgl := bg_lt h.x.hg
  have e7 := (hb.block g hgl).trans h.x.hg
  have t7 : Touch [g] w7 (w7.setCell ⟨g, 5, none⟩ (.slice A7 (i + (n - (i + 1))) c7)) := (Touch.refl _ _).set (.inl (by simp)) _
  have hlen : (ks.take i ++ ks.drop (i + 1)).length = i + (n - (i + 1)) := by rw [List.length_append, List.length_take, List.length_drop, h.nk]; omega
  have lf := h.x.flt
  have t0 := (h.t.trans (Touch.ofBelow (F := []) hb) (by simp)).trans t7 (fun q hq => .inl hq)
  have gz : g ≠ W.heap.size + 1 := fun e => by
    have h1 := h.x.hg
    rw [e, h.z] at h1
    injection h1 with h1
    injection h1 with h1
    have := congrArg Array.size h1
    simp at this
  refine ⟨⟨?_, t7.row (lk_below h.x.v hb) (fun q hq z => by have := h.x.gv q hq; simp at z; exact this z), ?_, h.x.gv, fun q hq => ?_, fun q hq z => ?_⟩, hlen, h.mt, t0, t7.row (lk_below h.row hb) (fun q hq z => by have := (h.dj q hq).1; simp at z; exact this z), fun q hq => ?_, h.vf, fun q hq => ⟨(h.dj q hq).1, (h.dj q hq).2.1, fun z => ?_⟩, (t7.block _ (Nat.lt_of_lt_of_le hz hb.size) (by simp; exact fun e => gz e.symm)).trans ((hb.block _ hz).trans h.z), fun x hx => h.sl x (mem_without hx), h.slt⟩
  · simp [World.setCell, Array.getElem?_modify, e7]
  · have h5 := t7.row ho (fun q hq z => by have := hn q hq; simp at z; omega)
    rw [← rowC_append] at h5
    show World.ownsRow _ 0 _ 25 _ (ks.take i ++ ks.drop (i + 1)).length _
    rw [hlen]
    exact h5
  · have := hn q hq; omega
  · have := hn q z; have := lf q (mem_fr.2 (.inr (.inl hq))); omega
  · have := hn q hq; have := h.t.size; exact .inl (by omega)
  · have := hn q z; have := (h.row.lt q hq).2; omega
theorem RfM.setCame {W w : World} {g : Nat} {s1 : RL} {V K0 : Value} {c n : Nat} {ks : List PR} {KV : Value} {m : Nat} {T : Value} {ts : List LR} (h : RfM W w g s1 V K0 c n ks KV m T ts) (d : Nat) : RfM W (w.setCell ⟨g, 4, none⟩ (.int .i64 (d : Nat))) g s1 V K0 d n ks KV m T ts := by
  have t7 : Touch [g] w (w.setCell ⟨g, 4, none⟩ (.int .i64 (d : Nat))) := (Touch.refl _ _).set (.inl (by simp)) _
  have gz : g ≠ W.heap.size + 1 := fun e => by
    have h1 := h.x.hg
    rw [e, h.z] at h1
    injection h1 with h1
    injection h1 with h1
    have := congrArg Array.size h1
    simp at this
  have e7 := h.x.hg
  refine ⟨⟨?_, t7.row h.x.v (fun q hq z => by have := h.x.gv q hq; simp at z; exact this z), t7.row h.x.k (fun q hq z => by have := h.x.gk q hq; simp at z; exact this z), h.x.gv, h.x.gk, h.x.vk⟩, h.nk, h.mt, h.t.trans t7 (fun q hq => .inl hq), t7.row h.row (fun q hq z => by have := (h.dj q hq).1; simp at z; exact this z), h.kf, h.vf, h.dj, (t7.block _ (bg_lt h.z) (by simp; exact fun e => gz e.symm)).trans h.z, h.sl, h.slt⟩
  simp [World.setCell, Array.getElem?_modify, e7]
theorem part_takeP {w : World} {base q n c c' k : Nat} {l : List PR} (h : w.ownsRow base 53 25 (.slice (some ⟨q, 0, none⟩) n c) n (rowC PR.cells l)) (hk : k ≤ n) : From w 25 (.slice (some ⟨q, 0, none⟩) k c') k (rowC PR.cells (l.take k)) := by
  have h1 := h.1
  have h2 := rowC_length pE_size l
  have hl : l.length = n := by omega
  refine .inr ⟨_, _, rfl, by rw [rowC_length pE_size, List.length_take, hl, Nat.min_eq_left hk], fun j u hj => ?_⟩
  rw [← rowC_take pE_size] at hj
  have hj2 : j < k * 25 := by have := (List.getElem?_eq_some_iff.1 hj).1; rw [List.length_take] at this; omega
  rw [List.getElem?_take, if_pos hj2] at hj
  rw [Go.WideShapes.add_plain, Nat.zero_add, h.cellAt j (by omega)]
  exact hj
theorem row_capP {w : World} {base e z n c : Nat} {A : Option Addr} {xs : List Value} (h : w.ownsRow base e z (.slice A n c) n xs) : n ≤ c := by
  rcases h.2 with ⟨h0, _⟩ | ⟨g, cap, cur, h0, hh⟩
  · injection h0 with _ h1 h2; omega
  · injection h0 with _ h1 h2
    have := hh.2.2.1
    omega
theorem part_anyP {w : World} {base q n c k : Nat} {l : List PR} (h : w.ownsRow base 53 25 (.slice (some ⟨q, 0, none⟩) n c) n (rowC PR.cells l)) (hk : k < n) : From w 25 (.slice (if c = k + 1 then some ⟨q, 0, none⟩ else some ⟨q, (k + 1) * 25, none⟩) (n - (k + 1)) (c - (k + 1))) (n - (k + 1)) (rowC PR.cells (l.drop (k + 1))) := by
  have hc := row_capP h
  have h1 := h.1
  have h2 := rowC_length pE_size l
  have hl : l.length = n := by omega
  by_cases e : c = k + 1
  · rw [if_pos e, show n - (k + 1) = 0 by omega, List.drop_eq_nil_of_le (by omega)]
    exact .inr ⟨_, _, rfl, rfl, fun j u hj => by cases hj⟩
  · rw [if_neg e]
    refine .inr ⟨_, _, rfl, by rw [rowC_length pE_size, List.length_drop, hl], fun j u hj => ?_⟩
    rw [← rowC_drop pE_size, List.getElem?_drop] at hj
    have hj2 := (List.getElem?_eq_some_iff.1 hj).1
    rw [Go.WideShapes.add_plain, h.cellAt _ (by omega)]
    exact hj
def RGotPost (W : World) (g : Nat) (s : RL) (V K : Value) (p : PR) (e : Ending) (w' : World) : Prop :=
  ∃ T c ts c' ks' V' K', e = .returned (.tuple #[.slice T ts.length c, .agg (lpCells s.me s.peer 0 (c' : Nat) 0 0), .bool true]) ∧ RFol (s.took p).came (s.took p).kept ts c' ks' ∧ Touch [g] W w' ∧ RLX w' g {s.took p with came := c', kept := ks'} V' K' ∧ (∀ q ∈ fr g V' K', q ∈ fr g V K ∨ W.heap.size ≤ q) ∧
    w'.ownsRow W.heap.size 51 21 (.slice T ts.length c) ts.length (rowC LR.cells ts) ∧ ∀ q, (Value.slice T ts.length c).ownBlock = some q → q ∉ fr g V' K'
theorem rgot_end {W w w' : World} {g : Nat} {s s1 : RL} {V V0 K : Value} {p : PR} {c n : Nat} {ks : List PR} {KV : Value} {m cT : Nat} {T : Option Addr} {ts : List LR} (h : RfM W w g s1 V K c n ks KV m (.slice T m cT) ts)
    (hgo : ∀ us c' ks', RFol c ks us c' ks' → RFol s1.came s1.kept (ts ++ us) c' ks') (hst : RFol c ks [] c ks) (hs : s.took p = s1) (hm : s1.me = s.me ∧ s1.peer = s.peer) (hvf : ∀ q, V.ownBlock = some q → W.heap.size + 2 ≤ q) (_hx : RLX W g s V0 K) (ht : Touch [W.heap.size + 1] w w') :
    RGotPost W g s V0 K p (.returned (.tuple #[.slice T m cT, .agg (lpCells s1.me s1.peer 0 (c : Nat) 0 0), .bool true])) w' := by
  have hm2 := h.mt
  subst hm2
  have hf := hgo _ _ _ hst
  rw [List.append_nil] at hf
  have hg := bg_lt _hx.hg
  refine ⟨T, cT, ts, c, ks, V, KV, by rw [hm.1, hm.2], by rw [hs]; exact hf, h.t.trans ht (fun q hq => .inr (by simp at hq; omega)), ?_, fun q hq => ?_, ?_, fun q hq z => ?_⟩
  · rw [hs]
    refine h.x.touch ht (fun q hq z => ?_)
    simp at z
    rcases mem_fr.1 hq with e | e | e
    · omega
    · have := hvf q e; omega
    · rcases h.kf q e with y | y
      · omega
      · have := (_hx.k.lt q y).2; omega
  · rcases mem_fr.1 hq with e | e | e
    · exact .inl (mem_fr.2 (.inl e))
    · exact .inr (by have := hvf q e; omega)
    · rcases h.kf q e with y | y
      · exact .inr (by omega)
      · exact .inl (mem_fr.2 (.inr (.inr y)))
  · exact lk_base (ht.row h.row (fun q hq z => by have := (h.row.lt q hq).1; simp at z; omega)) (by omega)
  · have h9 := h.dj q hq
    rcases mem_fr.1 z with e | e | e
    · exact h9.1 e
    · exact h9.2.1 e
    · exact h9.2.2 e
set_option maxRecDepth 20000 in
set_option maxHeartbeats 16000000 in
theorem refGotNew_any {W : World} {g : Nat} {s : RL} {V K : Value} (h : RLX W g s V K) (hlo : s.out.length ≤ 1000000) (hso : ∀ x ∈ s.out, x.2.2.sl) (p : PR) (hp : s.takes p) (hq0 : 0 < p.s) (hqm : p.s ≤ 9223372036854775807)
    (hlk : s.kept.length ≤ 900000) (hsk : ∀ x ∈ s.kept, x.r.sl) (hps : p.r.sl) (hcb : s.came ≤ 1000000) :
    Calls Try.prog 18 #[.pointer (some ⟨g, 0, none⟩), .agg p.cells] W (RGotPost W g s V K p) := by
  have B2 : Below W.heap.size W ((W.alloc (.cells p.cells 53)).alloc (.cells (lpCells 0 0 0 0 0 0) 53)) := ((Below.refl _ _).alloc (Nat.le_refl _) _).alloc (by simp) _
  have b1 : ((W.alloc (.cells p.cells 53)).alloc (.cells (lpCells 0 0 0 0 0 0) 53)).heap[W.heap.size]? = some (.cells p.cells 53) := (Lib.alloc_old _ _ _ (by simp)).trans (heap_alloc_new W _)
  have b2 : ((W.alloc (.cells p.cells 53)).alloc (.cells (lpCells 0 0 0 0 0 0) 53)).heap[W.heap.size + 1]? = some (.cells (lpCells 0 0 0 0 0 0) 53) := by
    have := heap_alloc_new (W.alloc (.cells p.cells 53)) (.cells (lpCells 0 0 0 0 0 0) 53)
    simpa using this
  have hgl : g < W.heap.size := bg_lt h.hg
  obtain ⟨w2, hw2⟩ : ∃ w2, (W.alloc (.cells p.cells 53)).alloc (.cells (lpCells 0 0 0 0 0 0) 53) = w2 := ⟨_, rfl⟩
  rw [hw2] at B2 b1 b2
  have hg2 := (B2.block g hgl).trans h.hg
  have x0 : w2.cell? ⟨W.heap.size, 0, none⟩ = some (.int .i64 p.f) := bg_cell b1 rfl
  have x1 : w2.cell? ⟨W.heap.size, 1, none⟩ = some (.int .i64 p.t) := bg_cell b1 rfl
  have x2 : w2.cell? ⟨W.heap.size, 2, none⟩ = some (.int .i64 p.s) := bg_cell b1 rfl
  have x3 : w2.cell? ⟨W.heap.size, 3, none⟩ = some (.int .i64 p.a) := bg_cell b1 rfl
  have c0 : w2.cell? ⟨g, 0, none⟩ = some (.int .i64 s.me) := bg_cell hg2 rfl
  have c1 : w2.cell? ⟨g, 1, none⟩ = some (.int .i64 s.peer) := bg_cell hg2 rfl
  have c2 : w2.cell? ⟨g, 2, none⟩ = some (.int .i64 (s.sent : Nat)) := bg_cell hg2 rfl
  have HY1 := Lib.hid b1
  have HY2 := Lib.hid b2
  have HB2 := Lib.hid B2
  have HG2 := Lib.hid hg2
  have hszz : (Try.prog.info? 53).map (·.size) = some (lpCells 0 0 0 0 0 0).size := bg_infoP
  have honez : (lpCells 0 0 0 0 0 0).all (·.oneCell') = true := by simp [Value.oneCell']
  obtain ⟨sn, hsn⟩ : ∃ n : Nat, s.sent = n := ⟨_, rfl⟩
  obtain ⟨me, hme⟩ : ∃ n : Int, s.me = n := ⟨_, rfl⟩
  obtain ⟨pr, hpr⟩ : ∃ n : Int, s.peer = n := ⟨_, rfl⟩
  obtain ⟨t0, t1, t2, t3, t4⟩ := hp
  have PA := Lib.hid t4
  rw [hsn] at t4 c2
  rw [hme] at t1 c0
  rw [hpr] at t0 c1
  clear hsn hme hpr
  have d0 : (p.f == pr) = true := by simpa using t0
  have e0 : (p.f != pr) = false := by simpa using t0
  have d1 : (p.t == me) = true := by simpa using t1
  have e1 : (p.t != me) = false := by simpa using t1
  have d2 : decide (p.s < 0) = false := by simpa using t2
  have d3 : decide (p.a < 0) = false := by simpa using t3
  have d4 : decide ((sn : Int) < p.a) = false := by simpa using t4
  obtain ⟨n, hn⟩ : ∃ n, s.out.length = n := ⟨_, rfl⟩
  have hv := h.v
  rw [hn] at hv hlo
  obtain ⟨A, c, rfl⟩ := own_slice hv
  obtain ⟨i0, hi0, hz0, hs0, hb0⟩ := lk_infoO
  have hszO : (Try.prog.info? 83).map (·.size) = some 23 := by rw [hi0]; simp [hs0]
  have H := Lib.hid h
  have HN := Lib.hid hn
  have HSO := Lib.hid hso
  have HV := Lib.hid (lk_below hv B2)
  have hg2l := bg_lt hg2
  have HC : Hid (∀ w', Below w2.heap.size w2 w' → w'.heap[g]? = some (.cells (rlCells s (.slice A n c) K) 30) ∧ w'.cell? ⟨g, 3, none⟩ = some (.slice A n c) ∧ w'.cell? ⟨W.heap.size, 3, none⟩ = some (.int .i64 p.a)) := fun w' hb => by
    have e := (hb.block g hg2l).trans hg2
    have e1 := (hb.block W.heap.size (bg_lt b1)).trans b1
    exact ⟨e, bg_cell e rfl, bg_cell e1 rfl⟩
  clear h b1 b2 B2 hg2 hn hv hso t0 t1 t2 t3 t4 hg2l
  go_enter Try.func18, Try.ntmps18
  go_upto_region 1 with fail
  clear hw2
  go_quiet (fail)
  obtain ⟨wq, hwq⟩ : ∃ wq, w2.drewN nq = wq := ⟨_, rfl⟩
  have HBQ : Hid (Below w2.heap.size w2 wq) := by rw [← hwq]; exact below_drewN (Below.refl _ _) _
  rw [hwq]
  clear hwq x0 x1 x2 x3 c0 c1 c2 d0 d1 d2 d3 d4 e0 e1
  go_wp2
  go_loopg [7, 8] (n + 1) (fun gh s7 s8 wx => ∃ (i m : Nat) (B : Option Addr) (cB : Nat) (fs : List (Nat × Nat × LR)), i + gh = n + 1 ∧ i ≤ n ∧ m ≤ i ∧ s7 = .slice B m cB ∧ s8 = .int .i64 (i : Nat) ∧ Hid (fs = filt p.a (s.out.take i)) ∧ Hid (wx.ownsRow w2.heap.size 83 23 (.slice B m cB) m (rowC oE fs)) ∧ Hid (fs.length = m) ∧ Hid (Below w2.heap.size w2 wx))
  case atStart => exact ⟨0, 0, none, 0, [], by omega, by omega, by omega, rfl, rfl, by simp [Hid, filt], World.ownsRow_nil _ _ _ _, rfl, HBQ⟩
  case round =>
    obtain ⟨i, m, B, cB, fs, hig, hi, hmi, rfl, rfl, HFS, HO, HM, HB⟩ := hrel
    obtain ⟨g9, v3, x3⟩ := HC.out _ HB.out
    by_cases hlt : i < n
    · have ii : (i : Int) < (n : Int) := by omega
      obtain ⟨x, hx⟩ : ∃ x, s.out[i]? = some x := ⟨s.out[i]'(by rw [HN.out]; exact hlt), List.getElem?_eq_getElem _⟩
      obtain ⟨b, rfl⟩ := lk_at HV.out (by omega)
      have hxs := HSO.out x (List.mem_of_getElem? hx)
      have hft := filt_take (a := p.a) hx
      have HRW : Hid (∀ w', Below w2.heap.size w2 w' → w'.rangeAt b (i * 23) (oE x).toList) := fun w' hb => row_rangeE oE_size (lk_below HV.out hb) hx
      have v0 : wr.cell? ⟨b, i * 23, none⟩ = some (.int .i64 (x.1 : Nat)) := by have := HRW.out _ HB.out 0 _ rfl; simpa using this
      have HXS : Hid ((oE x).all (·.oneCell') = true) := oE_one hxs
      have hszx : (Try.prog.info? 83).map (·.size) = some (oE x).toList.length := hszO
      by_cases hpx : p.a < (x.1 : Nat)
      · have hft2 : Hid (filt p.a (s.out.take (i + 1)) = fs ++ [x]) := by rw [hft, if_pos hpx, ← HFS.out]; exact rfl
        have dd : decide (p.a < (x.1 : Int)) = true := decide_eq_true hpx
        clear hx hxs hft hpx
        go_upto_region 7 with fail
        go_quiet (fail)
        obtain ⟨w3, hw3⟩ : ∃ w3, wr.drewN nq = w3 := ⟨_, rfl⟩
        have HB3 : Hid (Below w2.heap.size w2 w3) := by rw [← hw3]; exact below_drewN HB.out _
        have HO3 : Hid (w3.ownsRow w2.heap.size 83 23 (.slice B m cB) m (rowC oE fs)) := by rw [← hw3]; exact HO.out
        rw [hw3]
        clear hw3 g9 v3 x3 v0 dd
        obtain ⟨g9, v3, x3⟩ := HC.out _ HB3.out
        have HRA := Lib.hid (HRW.out _ HB3.out)
        go_wp2_with (first
          | (refine wpList_load_mid rfl 83 (.tmp 73) rfl b (i * 23) rfl (oE x).toList _ HRA.out Try.underlying83 rfl hszx ?_)
          | (at_builtin; go_must (refine wpList_append_any rfl (.tmp 67) (.tmp 75) 27 rfl w2.heap.size 83 i0 (.agg lk_zo) 23 256 Try.underlying27 hi0 hz0 hs0 hb0 rfl (by decide) (.slice B m cB) m (rowC oE fs) rfl (HO3.out.alloc _) (.slice (some ⟨w3.heap.size, 0, none⟩) 1 1) 1 (rowC oE [x]) rfl (.inr ⟨⟨w3.heap.size, 0, none⟩, 1, rfl, rfl, lk_new_row w3 (oE x) _⟩) (rowC_all (enc := oE) (l := [x]) (fun y hy => by simp at hy; subst hy; exact HXS.out)) (by unfold maxLen; omega) (by omega) (by have := HB3.out.size; simp; omega) ?_); intro A5 c5 w5 ho5 hg5 hs5; have HO5 := Lib.hid ho5; have HB5 := Lib.hid ((HB3.out.alloc HB3.out.size _).grown hg5 (by have := HB3.out.size; simp; omega) (fun z hz => (HO3.out.lt z hz).1)); clear ho5 hg5 hs5))
        go_roundg (gk - 1)
        case measure => omega
        case rel =>
          refine ⟨i + 1, m + 1, A5, c5, fs ++ [x], by omega, by omega, by omega, rfl, by go_num, hft2.out.symm, ?_, ?_, HB5⟩
          · have h5 := HO5.out
            rw [← rowC_append] at h5
            exact h5
          · show (fs ++ [x]).length = m + 1
            rw [List.length_append, HM.out]; rfl
      · have hft2 : Hid (filt p.a (s.out.take (i + 1)) = fs) := by rw [hft, if_neg hpx, ← HFS.out, List.append_nil]; exact rfl
        have dd : decide (p.a < (x.1 : Int)) = false := decide_eq_false hpx
        clear hx hxs hft hpx
        go_upto_region 7 with fail
        go_quiet (fail)
        obtain ⟨w3, hw3⟩ : ∃ w3, wr.drewN nq = w3 := ⟨_, rfl⟩
        have HB3 : Hid (Below w2.heap.size w2 w3) := by rw [← hw3]; exact below_drewN HB.out _
        have HO3 : Hid (w3.ownsRow w2.heap.size 83 23 (.slice B m cB) m (rowC oE fs)) := by rw [← hw3]; exact HO.out
        rw [hw3]
        clear hw3 dd
        go_wp2_with fail
        go_roundg (gk - 1)
        case measure => omega
        case rel => exact ⟨i + 1, m, B, cB, fs, by omega, by omega, by omega, rfl, by go_num, hft2.out.symm, HO3.out, HM, HB3⟩
    · obtain rfl : n = i := by omega
      have f3 : wr.frozen? ⟨g, 3, none⟩ = false := Lib.frozen_of_heap g9 3
      have hfs : fs = filt p.a s.out := by rw [HFS.out, List.take_of_length_le (by rw [HN.out]; exact Nat.le_refl _)]
      have hgv : ∀ q, (Value.slice B m cB).ownBlock = some q → q ≠ g := fun q hq z => by have := (HO.out.lt q hq).1; have := bg_lt HG2.out; omega
      go_upto_region 10 with fail
      obtain ⟨w4, hw4⟩ : ∃ w4, wr.setCell ⟨g, 3, none⟩ (.slice B m cB) = w4 := ⟨_, rfl⟩
      rw [hw4]
      have T4 : Touch [g] wr w4 := by rw [← hw4]; exact (Touch.refl _ _).set (.inl (by simp)) _
      have y1 := (T4.block W.heap.size (Nat.lt_of_lt_of_le (bg_lt HY1.out) HB.out.size) (by simp; omega)).trans ((HB.out.block _ (bg_lt HY1.out)).trans HY1.out)
      have y2 := (T4.block (W.heap.size + 1) (Nat.lt_of_lt_of_le (bg_lt HY2.out) HB.out.size) (by simp; omega)).trans ((HB.out.block _ (bg_lt HY2.out)).trans HY2.out)
      have hx4 : RLX w4 g (s.known p.a) (.slice B m cB) K := by
        refine ⟨?_, ?_, ?_, hgv, H.out.gk, fun q hq z => ?_⟩
        · rw [← hw4]
          simp [World.setCell, Array.getElem?_modify, g9]
        · have h5 := T4.row HO.out (fun q hq z => by have := hgv q hq; simp at z; exact this z)
          show w4.ownsRow 0 _ 23 (.slice B m cB) (filt p.a s.out).length (rowC oE (filt p.a s.out))
          rw [← hfs, HM.out]
          exact lk_base h5 (Nat.zero_le _)
        · exact T4.row (lk_below H.out.k (acc HB2.out HB.out)) (fun q hq z => by have := H.out.gk q hq; simp at z; exact this z)
        · have := (HO.out.lt q hq).1; have := (H.out.k.lt q z).2; have := HB2.out.size; omega
      have hT : Touch [g] W w4 := (Touch.ofBelow (F := [g]) (acc HB2.out HB.out)).trans T4 (fun x hx => .inl hx)
      have HX4 := Lib.hid hx4
      have HT4 := Lib.hid hT
      have HF4 : Hid (∀ q, (Value.slice B m cB).ownBlock = some q → W.heap.size ≤ q) := fun q hq => by have := (HO.out.lt q hq).1; have := HB2.out.size; omega
      have HZ1 := Lib.hid y1
      have HZ2 := Lib.hid y2
      have x2 : w4.cell? ⟨W.heap.size, 2, none⟩ = some (.int .i64 p.s) := bg_cell y1 rfl
      clear hw4 T4 hx4 hT y1 y2 f3 hfs hgv g9 v3 x3
      obtain ⟨kn, hkn⟩ : ∃ kn, s.kept.length = kn := ⟨_, rfl⟩
      have hk := H.out.k
      rw [hkn] at hk hlk
      obtain ⟨AK, cK, hKV⟩ := own_slice hk
      have HKV := Lib.hid hKV
      have HKN := Lib.hid hkn
      have HSK := Lib.hid hsk
      have HPS := Lib.hid hps
      have dq : (p.s == 0) = false := by simpa using (show ¬ p.s = 0 by omega)
      have hx4k := HX4.out
      rw [hKV] at hx4k
      have HX4K := Lib.hid hx4k
      have c4 : w4.cell? ⟨g, 4, none⟩ = some (.int .i64 (s.came : Nat)) := bg_cell hx4k.hg rfl
      have hws : IntKind.i64.wrap (p.s - (s.came : Int)) = p.s - (s.came : Int) := by rw [IntKind.wrap_i64]; omega
      have CK : Hid (∀ k, Calls Try.prog 34 #[.pointer (some ⟨g, 0, none⟩), .int .i64 p.s] (w4.drewN k) fun e w' => e = .returned (.int .i64 (keptAt s.kept p.s)) ∧ w' = w4.drewN k) := fun k => refKept_any (HX4K.out.below (below_drewN (Below.refl _ _) k)) (by show s.kept.length ≤ _; rw [HKN.out]; omega) p.s
      have hkdef : s.keeps p.s = (decide ((s.came : Int) < p.s) && (decide (p.s - (s.came : Int) ≤ 64) && decide (keptAt s.kept p.s < 0))) := rfl
      obtain ⟨kb0, hkb0⟩ : ∃ kb0, s.keeps p.s = kb0 := ⟨_, rfl⟩
      rw [hkb0] at hkdef
      have HKB : Hid ((s.known p.a).keeps p.s = kb0) := hkb0
      obtain ⟨ka, hka⟩ : ∃ ka, keptAt s.kept p.s = ka := ⟨_, rfl⟩
      rw [hka] at CK hkdef
      clear hkb0 hka hkn hk hKV hx4k hsk hps
      go_upto_region 12 with fail
      go_cut [108] (fun s108 wx => s108 = .bool kb0 ∧ Hid (Below w4.heap.size w4 wx))
      case first =>
        cases t1 : decide ((s.came : Int) < p.s) <;> cases t2 : decide (p.s - (s.came : Int) ≤ 64) <;> cases t3 : decide (ka < 0) <;> rw [t1, t2, t3] at hkdef
        all_goals
          obtain rfl := hkdef
          go_quiet ((go_at_call 34; exact Calls.quiet_of_same (CK.out _)))
          go_wp2
          go_meet
          exact ⟨rfl, below_drewN (Below.refl _ _) _⟩
      case rest =>
        obtain ⟨rfl, HBW⟩ := hcut
        obtain ⟨wd, rfl⟩ : ∃ wd : World, wd = wc := ⟨_, rfl⟩
        have HXD : Hid (RLX wd g (s.known p.a) (.slice B m cB) (.slice AK kn cK)) := HX4K.out.below HBW.out
        have HTD : Hid (Touch [g] W wd) := HT4.out.trans (Touch.ofBelow (F := []) HBW.out) (by simp)
        have HZD : Hid (wd.heap[W.heap.size + 1]? = some (.cells (lpCells 0 0 0 0 0 0) 53)) := (HBW.out.block _ (bg_lt HZ2.out)).trans HZ2.out
        have HZE : Hid (wd.heap[W.heap.size]? = some (.cells p.cells 53)) := (HBW.out.block _ (bg_lt HZ1.out)).trans HZ1.out
        have HFB : Hid (∀ q, (Value.slice B m cB).ownBlock = some q → W.heap.size + 2 ≤ q) := fun q hq => by have := (HO.out.lt q hq).1; have := bg_lt HY2.out; omega
        clear c4 x2 hws hkdef dq CK HX4 HX4K HT4 HZ1 HZ2 HBW HO HB HFS HM HF4 HC HV HSO HN
        obtain ⟨iP, hiP, hzP, hsP, hbP⟩ := lk_infoP
        have hszP : (Try.prog.info? 53).map (·.size) = some p.cells.toList.length := bg_infoP
        have hszL : ∀ r : LR, (Try.prog.info? 51).map (·.size) = some r.cells.toList.length := fun r => lk_infoL
        obtain ⟨iL, hiL, hzL, hsL, hbL⟩ := lk_infoLt
        cases kb0 with
        | false =>
          have HX6 : Hid (RLX wd g (s.known p.a) (.slice B m cB) (.slice AK kn cK)) := HXD
          have HT6 := HTD
          have HZ6 := HZD
          have HK6 : Hid (∀ q, (Value.slice AK kn cK).ownBlock = some q → W.heap.size + 2 ≤ q ∨ K.ownBlock = some q) := fun q hq => .inr (by rw [HKV.out]; exact hq)
          obtain ⟨s1, hs1⟩ : ∃ s1, s.known p.a = s1 := ⟨_, rfl⟩
          have HS1 : Hid (s.took p = s1) := by rw [← hs1]; unfold RL.took; rw [if_neg (by rw [HKB.out]; simp)]; exact rfl
          have HL1 : Hid (s1.kept.length = kn ∧ ∀ x ∈ s1.kept, x.r.sl) := by
            rw [← hs1]
            exact ⟨HKN.out, HSK.out⟩
          obtain ⟨N1, hN1⟩ : ∃ N1, kn = N1 := ⟨_, rfl⟩
          obtain ⟨A1, hA1⟩ : ∃ A1, AK = A1 := ⟨_, rfl⟩
          obtain ⟨c1, hc1⟩ : ∃ c1, cK = c1 := ⟨_, rfl⟩
          rw [hs1] at HX6
          rw [hN1, hA1, hc1] at HX6 HK6
          rw [hN1] at HL1
          clear hc1
          have hNb : N1 ≤ 1000000 := by omega
          have hc1 : s1.came ≤ 1000000 := by rw [← hs1]; exact hcb
          have HME : Hid (s1.me = s.me ∧ s1.peer = s.peer) := by rw [← hs1]; exact ⟨rfl, rfl⟩
          obtain ⟨w6, hw6⟩ : ∃ w6 : World, w6 = wd := ⟨_, rfl⟩
          rw [← hw6] at HX6 HT6 HZ6 ⊢
          clear hs1 hN1 hA1 hw6
          have c4 : w6.cell? ⟨g, 4, none⟩ = some (.int .i64 (s1.came : Nat)) := bg_cell HX6.out.hg rfl
          have hz1 : IntKind.i64.wrap ((s1.came : Int) + 1) = (s1.came : Int) + 1 := by rw [IntKind.wrap_i64]; omega
          have CK6 := Lib.hid (refKept_any HX6.out (by rw [HL1.out.1]; exact hNb) ((s1.came : Int) + 1))
          go_wp2_with ((go_at_call 34; (with_reducible refine (CK6.out).mono ?_); rintro e wz ⟨rfl, rfl⟩))
          clear c4 hz1
          have HXW : Hid (RLX W g s (.slice A n c) K) := H
          go_loopg [9, 10] (N1 + 1) (fun gh s9 s10 wx => ∃ (c n2 m2 : Nat) (T : Option Addr) (ts : List LR) (ks : List PR) (cT : Nat) (KA : Option Addr) (kc : Nat), gh = n2 + 1 ∧ m2 + n2 ≤ N1 ∧ c + n2 ≤ 2000000 ∧ s9 = .slice T m2 cT ∧ s10 = .int .i64 (keptAt ks ((c : Int) + 1)) ∧ Hid (RfM W wx g s1 (.slice B m cB) K c n2 ks (.slice KA n2 kc) m2 (.slice T m2 cT) ts) ∧ Hid (∀ us c' ks', RFol c ks us c' ks' → RFol s1.came s1.kept (ts ++ us) c' ks'))
          case atStart => exact ⟨s1.came, N1, 0, none, [], s1.kept, 0, A1, c1, rfl, by omega, by omega, rfl, rfl, ⟨HX6.out, HL1.out.1, rfl, HT6.out, World.ownsRow_nil _ _ _ _, HK6.out, HFB.out, (fun q hq => by cases hq), HZ6.out, HL1.out.2, by simp⟩, fun _ _ _ z => z⟩
          case round =>
            obtain ⟨c, n2, m2, T, ts, ks, cT, KA, kc, hgk, hmn, hNc, rfl, rfl, HRM, HGO⟩ := hrel
            rcases keptAt_cases ks ((c : Int) + 1) with ⟨i, p2, h1, h2, h3, h4⟩ | ⟨h4, h3⟩
            · rw [h4]
              have hiN : i < n2 := by have := (List.getElem?_eq_some_iff.1 h1).1; have := HRM.out.nk; omega
              obtain ⟨kb, rfl⟩ := lk_at (by have h5 := HRM.out.x.k; have h6 : _ = n2 := HRM.out.nk; show wr.ownsRow 0 _ 25 (.slice KA n2 kc) n2 (rowC PR.cells ks); rw [← h6]; rw [← h6] at h5; exact h5) (show 0 < n2 by omega)
              have hrow : wr.ownsRow 0 53 25 (.slice (some ⟨kb, 0, none⟩) n2 kc) n2 (rowC PR.cells ks) := HRM.out.krow
              have HRA := Lib.hid (mid_range (row_rangeE pE_size hrow h1) (pE_letter p2))
              have HPO : Hid (p2.r.cells.all (·.oneCell') = true) := LR.one (HRM.out.sl p2 (List.mem_of_getElem? h1))
              have c5 : wr.cell? ⟨g, 5, none⟩ = some (.slice (some ⟨kb, 0, none⟩) n2 kc) := bg_cell HRM.out.x.hg rfl
              have hszL2 := hszL p2.r
              have HI2 := Lib.hid h1
              have HE2 : Hid (p2.s = ((c + 1 : Nat) : Int)) := by rw [h2]; exact rfl
              have HF2 : Hid (∀ (j : Nat) (y : PR), j < i → ks[j]? = some y → y.s ≠ ((c + 1 : Nat) : Int)) := fun j y hj hy e => h3 j y hj hy (by rw [e]; rfl)
              have di : decide ((0 : Int) ≤ (i : Int)) = true := by simp
              have ii : (i : Int) < (n2 : Int) := by omega
              clear h1 h2 h3 h4 hrow
              go_upto_region 19 with (first
                | (refine wpList_load_mid rfl 51 (.tmp 143) rfl kb (i * 25 + 4) rfl p2.r.cells.toList _ HRA.out Try.underlying51 rfl hszL2 ?_)
                | (at_builtin; go_must (refine wpList_append_any rfl (.tmp 136) (.tmp 145) 59 rfl (W.heap.size + 2) 51 iL (.agg (ltCells 0 0)) 21 240 Try.underlying59 hiL hzL hsL hbL rfl (by decide) (.slice T m2 cT) m2 (rowC LR.cells ts) rfl (HRM.out.row.alloc _) (.slice (some ⟨wr.heap.size, 0, none⟩) 1 1) 1 (rowC LR.cells [p2.r]) rfl (.inr ⟨⟨wr.heap.size, 0, none⟩, 1, rfl, rfl, lk_new_row wr p2.r.cells _⟩) (rowC_all (enc := LR.cells) (l := [p2.r]) (fun y hy => by simp at hy; subst hy; exact HPO.out)) (by unfold maxLen; omega) (by omega) (by have := bg_lt HRM.out.z; simp; omega) ?_); intro T5 cT5 w8 ho8 hg8 hs8; have HP8 := Lib.hid (HRM.out.told (List.mem_of_getElem? HI2.out) ho8 hg8 hs8); clear ho8 hg8 hs8))
              have HK8 : Hid (w8.ownsRow 0 53 25 (.slice (some ⟨kb, 0, none⟩) n2 kc) n2 (rowC PR.cells ks)) := HP8.out.krow
              have HO1T : Hid (∀ u ∈ rowC PR.cells (ks.take i), u.oneCell' = true) := rowC_all fun x hx => PR.one (HP8.out.sl x (List.mem_of_mem_take hx))
              have HO1D : Hid (∀ u ∈ rowC PR.cells (ks.drop (i + 1)), u.oneCell' = true) := rowC_all fun x hx => PR.one (HP8.out.sl x (List.mem_of_mem_drop hx))
              have HSS2 : Hid (∀ w', Below w8.heap.size w8 w' → w'.cell? ⟨g, 5, none⟩ = some (.slice (some ⟨kb, 0, none⟩) n2 kc)) := fun w' hb => bg_cell ((hb.block g (bg_lt HP8.out.x.hg)).trans HP8.out.x.hg) rfl
              have HFR2 : Hid (∀ w', Below w8.heap.size w8 w' → w'.frozen? ⟨g, 5, none⟩ = false) := fun w' hb => Lib.frozen_of_heap ((hb.block g (bg_lt HP8.out.x.hg)).trans HP8.out.x.hg) 5
              have hk0 := row_capP HK8.out
              have i3 : (i : Int) + 1 ≤ (n2 : Int) := by omega
              have i4 : i ≤ kc := by omega
              have i5 : 0 ≤ (i : Int) + 1 := by omega
              have i6 : i + 1 ≤ kc := by omega
              have z1 : IntKind.i64.wrap ((i : Int) + 1) = (i : Int) + 1 := by rw [IntKind.wrap_i64]; omega
              have z6 : ((i : Int) + 1).toNat = i + 1 := by omega
              clear c5
              refine wp_region_till (fun w' => w'.cell? ⟨g, 5, none⟩ = some (.slice (some ⟨kb, 0, none⟩) n2 kc)) 18 (by kernel_rfl) ?_ (fun hHeld => ?_)
              · (try dsimp only); exact HSS2.out _ (Below.refl _ _).drew
              refine wpAnyT_pure (i := 0) (oi := ⟨_, _, _, _, _, _⟩) (v := ?_) rfl (by kernel_rfl) (by kernel_rfl) (by kernel_rfl) (fun _ _ _ h => h) (by kernel_rfl) (Or.inl ⟨by rfl, ?_⟩) (by assumption) ?_
              rotate_left
              · (intro wS hSw; (try dsimp only at hSw); go_simp <;> with_reducible rfl)
              try simp only [Act.put, List.setIfInBounds_toArray, List.set_cons_zero, List.set_cons_succ]
              refine wpAnyT_pure (i := 1) (oi := ⟨_, _, _, _, _, _⟩) (v := ?_) rfl (by kernel_rfl) (by kernel_rfl) (by kernel_rfl) (fun _ _ _ h => h) (by kernel_rfl) (Or.inl ⟨by rfl, ?_⟩) (by assumption) ?_
              rotate_left
              · (intro wS hSw; (try dsimp only at hSw); go_simp <;> with_reducible rfl)
              try simp only [Act.put, List.setIfInBounds_toArray, List.set_cons_zero, List.set_cons_succ]
              refine wpAnyT_pure (i := 2) (oi := ⟨_, _, _, _, _, _⟩) (v := ?_) rfl (by kernel_rfl) (by kernel_rfl) (by kernel_rfl) (fun _ _ _ h => h) (by kernel_rfl) (Or.inl ⟨by rfl, ?_⟩) (by assumption) ?_
              rotate_left
              · (intro wS hSw; (try dsimp only at hSw); go_simp <;> with_reducible rfl)
              try simp only [Act.put, List.setIfInBounds_toArray, List.set_cons_zero, List.set_cons_succ]
              refine wpAnyT_pure (i := 3) (oi := ⟨_, _, _, _, _, _⟩) (v := ?_) rfl (by kernel_rfl) (by kernel_rfl) (by kernel_rfl) (fun _ _ _ h => h) (by kernel_rfl) (Or.inl ⟨by rfl, ?_⟩) (by assumption) ?_
              rotate_left
              · (intro wS hSw; (try dsimp only at hSw); go_simp <;> with_reducible rfl)
              try simp only [Act.put, List.setIfInBounds_toArray, List.set_cons_zero, List.set_cons_succ]
              refine wpAnyT_pure (i := 5) (oi := ⟨_, _, _, _, _, _⟩) (v := ?_) rfl (by kernel_rfl) (by kernel_rfl) (by kernel_rfl) (fun _ _ _ h => h) (by kernel_rfl) (Or.inl ⟨by rfl, ?_⟩) (by assumption) ?_
              rotate_left
              · (intro wS hSw; (try dsimp only at hSw); go_simp <;> with_reducible rfl)
              try simp only [Act.put, List.setIfInBounds_toArray, List.set_cons_zero, List.set_cons_succ]
              refine wpAnyT_pure (i := 8) (oi := ⟨_, _, _, _, _, _⟩) (v := ?_) rfl (by kernel_rfl) (by kernel_rfl) (by kernel_rfl) (fun _ _ _ h => h) (by kernel_rfl) (Or.inl ⟨by rfl, ?_⟩) (by assumption) ?_
              rotate_left
              · (intro wS hSw; (try dsimp only at hSw); go_simp <;> with_reducible rfl)
              try simp only [Act.put, List.setIfInBounds_toArray, List.set_cons_zero, List.set_cons_succ]
              refine wpAnyT_pure (i := 9) (oi := ⟨_, _, _, _, _, _⟩) (v := ?_) rfl (by kernel_rfl) (by kernel_rfl) (by kernel_rfl) (fun _ _ _ h => h) (by kernel_rfl) (Or.inl ⟨by rfl, ?_⟩) (by assumption) ?_
              rotate_left
              · (intro wS hSw; (try dsimp only at hSw); go_simp <;> with_reducible rfl)
              try simp only [Act.put, List.setIfInBounds_toArray, List.set_cons_zero, List.set_cons_succ]
              refine wpAnyT_pure (i := 10) (oi := ⟨_, _, _, _, _, _⟩) (v := ?_) rfl (by kernel_rfl) (by kernel_rfl) (by kernel_rfl) (fun _ _ _ h => h) (by kernel_rfl) (Or.inl ⟨by rfl, ?_⟩) (by assumption) ?_
              rotate_left
              · (intro wS hSw; (try dsimp only at hSw); go_simp <;> with_reducible rfl)
              try simp only [Act.put, List.setIfInBounds_toArray, List.set_cons_zero, List.set_cons_succ]
              refine wpAnyT_pure (i := 12) (oi := ⟨_, _, _, _, _, _⟩) (v := ?_) rfl (by kernel_rfl) (by kernel_rfl) (by kernel_rfl) (fun _ _ _ h => h) (by kernel_rfl) (Or.inl ⟨by rfl, ?_⟩) (by assumption) ?_
              rotate_left
              · (intro wS hSw; (try dsimp only at hSw); go_simp <;> with_reducible rfl)
              try simp only [Act.put, List.setIfInBounds_toArray, List.set_cons_zero, List.set_cons_succ]
              refine wpAnyT_pure (i := 13) (oi := ⟨_, _, _, _, _, _⟩) (v := ?_) rfl (by kernel_rfl) (by kernel_rfl) (by kernel_rfl) (fun _ _ _ h => h) (by kernel_rfl) (Or.inl ⟨by rfl, ?_⟩) (by assumption) ?_
              rotate_left
              · (intro wS hSw; (try dsimp only at hSw); go_simp <;> with_reducible rfl)
              try simp only [Act.put, List.setIfInBounds_toArray, List.set_cons_zero, List.set_cons_succ]
              refine wpAnyT_take (i := 4) (oi := ⟨_, _, _, _, _, _⟩) (v := ?_) rfl (by kernel_rfl) (by kernel_rfl) (by kernel_rfl) (fun _ _ _ h => h) (by kernel_rfl) (Or.inl ⟨by rfl, ?_⟩) (by assumption) ?_
              rotate_left
              · (intro wS hSw; (try dsimp only at hSw); go_simp <;> with_reducible rfl)
              try simp only [Act.put, List.setIfInBounds_toArray, List.set_cons_zero, List.set_cons_succ]
              refine wpAnyT_pure (i := 6) (oi := ⟨_, _, _, _, _, _⟩) (v := ?_) rfl (by kernel_rfl) (by kernel_rfl) (by kernel_rfl) (fun _ _ _ h => h) (by kernel_rfl) (Or.inl ⟨by rfl, ?_⟩) (by assumption) ?_
              rotate_left
              · (intro wS hSw; (try dsimp only at hSw); go_simp <;> with_reducible rfl)
              try simp only [Act.put, List.setIfInBounds_toArray, List.set_cons_zero, List.set_cons_succ]
              refine wpAnyT_take (i := 11) (oi := ⟨_, _, _, _, _, _⟩) (v := ?_) rfl (by kernel_rfl) (by kernel_rfl) (by kernel_rfl) (fun _ _ _ h => h) (by kernel_rfl) (Or.inl ⟨by rfl, ?_⟩) (by assumption) ?_
              rotate_left
              · (intro wS hSw; (try dsimp only at hSw); go_simp <;> with_reducible rfl)
              try simp only [Act.put, List.setIfInBounds_toArray, List.set_cons_zero, List.set_cons_succ]
              refine wpAnyT_pure (i := 14) (oi := ⟨_, _, _, _, _, _⟩) (v := ?_) rfl (by kernel_rfl) (by kernel_rfl) (by kernel_rfl) (fun _ _ _ h => h) (by kernel_rfl) (Or.inl ⟨by rfl, ?_⟩) (by assumption) ?_
              rotate_left
              · (intro wS hSw; (try dsimp only at hSw); go_simp <;> with_reducible rfl)
              try simp only [Act.put, List.setIfInBounds_toArray, List.set_cons_zero, List.set_cons_succ]
              refine wpAnyT_ready (rs := [7]) (by kernel_rfl) (by simp) ?_
              refine (AllReadyT.cons (o := ⟨_, _, _, _, _, _⟩) rfl (fun K hK => ?_) AllReadyT.nil)
              refine step_append_any rfl (.const (.slice none 0 0)) (.tmp 153) 28 rfl 0 53 iP (.agg (lpCells 0 0 0 0 0 0)) 25 272 Try.underlying28 hiP hzP hsP hbP rfl (by decide) (.slice none 0 0) 0 [] rfl (World.ownsRow_nil _ _ _ _) (.slice (some ⟨kb, 0, none⟩) i kc) i (rowC PR.cells (ks.take i)) rfl (part_takeP (lk_below HK8.out (Below.refl _ _).drew) (by omega)) HO1T.out (by unfold maxLen; omega) (by omega) (Nat.zero_le _) ?_
              intro A6 c6 w6b ho6 hg6 hs6
              simp only [Nat.zero_add, List.nil_append] at ho6 hs6 ⊢
              have HB6 : Hid (Below w8.heap.size w8 w6b) := ((Below.refl _ w8).drew).grown hg6 (by simp) (fun z hz => by cases hz)
              have hS6 := HSS2.out w6b HB6.out
              have HN6 : Hid (∀ q, (Value.slice A6 i c6).ownBlock = some q → w8.heap.size ≤ q) := fun q hq => by
                rcases hs6 q hq with z | z
                · cases z
                · (try simp at z ⊢); omega
              have HO6 := Lib.hid ho6
              clear ho6 hg6 hs6
              refine hK.out _ _ (by (try dsimp only); first | assumption | exact HSS2.out _ (Below.refl _ _).drew) (fun hHeld => ?_)
              clear hK K
              try simp only [Act.put, List.setIfInBounds_toArray, List.set_cons_zero, List.set_cons_succ]
              refine wpAnyT_ready (rs := [15]) (by kernel_rfl) (by simp) ?_
              refine (AllReadyT.cons (o := ⟨_, _, _, _, _, _⟩) rfl (fun K hK => ?_) AllReadyT.nil)
              refine step_append_any rfl (.tmp 154) (.tmp 161) 28 rfl 0 53 iP (.agg (lpCells 0 0 0 0 0 0)) 25 272 Try.underlying28 hiP hzP hsP hbP rfl (by decide) (.slice A6 i c6) i (rowC PR.cells (ks.take i)) rfl HO6.out (.slice (if kc = i + 1 then some ⟨kb, 0, none⟩ else some ⟨kb, (i + 1) * 25, none⟩) (n2 - (i + 1)) (kc - (i + 1))) (n2 - (i + 1)) (rowC PR.cells (ks.drop (i + 1))) rfl (part_anyP (lk_below HK8.out HB6.out) (by omega)) HO1D.out (by unfold maxLen; omega) (by omega) (Nat.zero_le _) ?_
              intro A7 c7 w7 ho7 hg7 hs7
              have HB7 : Hid (Below w8.heap.size w8 w7) := HB6.out.grown hg7 HB6.out.size (fun z hz => HN6.out z hz)
              have hS7 := HSS2.out w7 HB7.out
              have HN7 : Hid (∀ q, (Value.slice A7 (i + (n2 - (i + 1))) c7).ownBlock = some q → w8.heap.size ≤ q) := fun q hq => by
                rcases hs7 q hq with z | z
                · exact HN6.out q z
                · have := HB6.out.size; omega
              have HO7 := Lib.hid ho7
              clear ho7 hg7 hs7
              refine hK.out _ _ (by (try dsimp only); first | assumption | exact HSS2.out _ (Below.refl _ _).drew) (fun hHeld => ?_)
              clear hK K
              try simp only [Act.put, List.setIfInBounds_toArray, List.set_cons_zero, List.set_cons_succ]
              refine wpAnyT_pure (i := 16) (oi := ⟨_, _, _, _, _, _⟩) (v := ?_) rfl (by kernel_rfl) (by kernel_rfl) (by kernel_rfl) (fun _ _ _ h => h) (by kernel_rfl) (Or.inl ⟨by rfl, ?_⟩) (by assumption) ?_
              rotate_left
              · (intro wS hSw; (try dsimp only at hSw); go_simp <;> with_reducible rfl)
              try simp only [Act.put, List.setIfInBounds_toArray, List.set_cons_zero, List.set_cons_succ]
              refine wpAnyT_pure (i := 17) (oi := ⟨_, _, _, _, _, _⟩) (v := ?_) rfl (by kernel_rfl) (by kernel_rfl) (by kernel_rfl) (fun _ _ _ h => h) (by kernel_rfl) (Or.inl ⟨by rfl, ?_⟩) (by assumption) ?_
              rotate_left
              · (intro wS hSw; (try dsimp only at hSw); go_simp <;> with_reducible rfl)
              try simp only [Act.put, List.setIfInBounds_toArray, List.set_cons_zero, List.set_cons_succ]
              refine wpAnyT_ready (rs := [18]) (by kernel_rfl) (by simp) ?_
              refine (AllReadyT.past (o := ⟨_, _, _, _, _, _⟩) rfl (by kernel_rfl) (fun K hK => ?_) AllReadyT.nil)
              have f5 : w7.frozen? ⟨g, 5, none⟩ = false := HFR2.out w7 HB7.out
              go_simp
              refine hK.out _ _ ?_
              clear hK K
              try simp only [Act.put]
              refine wpAnyT_done (by kernel_rfl) ?_ _
              generalize (if kc = i + 1 then (some ⟨kb, 0, none⟩ : Option Addr) else some ⟨kb, (i + 1) * 25, none⟩) = zA
              have hrf := (HP8.out.cutK HB7.out HO7.out HN7.out hNc hiN).setCame (c + 1)
              obtain ⟨n3, hn3⟩ : ∃ n3, i + (n2 - (i + 1)) = n3 := ⟨_, rfl⟩
              have hn3b : n3 + 1 = n2 := by omega
              rw [hn3] at hrf ⊢
              have hz1 : IntKind.i64.wrap ((c : Int) + 1) = (c : Int) + 1 := by rw [IntKind.wrap_i64]; omega
              have hz2 : IntKind.i64.wrap ((c : Int) + 1 + 1) = (c : Int) + 1 + 1 := by rw [IntKind.wrap_i64]; omega
              obtain ⟨w9, hw9⟩ : ∃ w9, w7.setCell ⟨g, 5, none⟩ (.slice A7 n3 c7) = w9 := ⟨_, rfl⟩
              have e9 : w9.heap[g]? = some (.cells (rlCells {s1 with came := c, kept := ks.take i ++ ks.drop (i + 1)} (.slice B m cB) (.slice A7 n3 c7)) 30) := by
                have e8 := (HB7.out.block g (bg_lt HP8.out.x.hg)).trans HP8.out.x.hg
                rw [← hw9]
                simp [World.setCell, Array.getElem?_modify, e8]
              rw [hw9] at hrf ⊢
              have HRF := Lib.hid hrf
              have c49 : w9.cell? ⟨g, 4, none⟩ = some (.int .i64 (c : Nat)) := bg_cell e9 rfl
              have f49 : w9.frozen? ⟨g, 4, none⟩ = false := Lib.frozen_of_heap e9 4
              have CK9 : Hid (Calls Try.prog 34 #[.pointer (some ⟨g, 0, none⟩), .int .i64 ((c : Int) + 1 + 1)] (w9.setCell ⟨g, 4, none⟩ (.int .i64 ((c : Int) + 1))) fun e w' => e = .returned (.int .i64 (keptAt (ks.take i ++ ks.drop (i + 1)) ((c : Int) + 1 + 1))) ∧ w' = w9.setCell ⟨g, 4, none⟩ (.int .i64 ((c : Int) + 1))) := (refKept_any hrf.x (by show (ks.take i ++ ks.drop (i + 1)).length ≤ _; rw [hrf.nk]; omega) ((c : Int) + 1 + 1))
              clear hw9 e9 hrf
              go_wp2_with ((go_at_call 34; (with_reducible refine (CK9.out).mono ?_); rintro e wz ⟨rfl, rfl⟩))
              go_roundg (gk - 1)
              case measure => omega
              case rel => exact ⟨c + 1, n3, m2 + 1, T5, ts ++ [p2.r], ks.take i ++ ks.drop (i + 1), cT5, A7, c7, by omega, by omega, by omega, rfl, rfl, HRF.out, fun us c' ks' hf => by
                rw [List.append_assoc]
                exact HGO.out _ _ _ (.step HI2.out HE2.out HF2.out hf)⟩
            · rw [h4]
              have HST : Hid (RFol c ks [] c ks) := .stop fun x hx e => h3 x hx (by rw [e]; rfl)
              have HSE : Hid (wr.drew.cell? ⟨g, 0, none⟩ = some (.int .i64 s1.me) ∧ wr.drew.cell? ⟨g, 1, none⟩ = some (.int .i64 s1.peer) ∧ wr.drew.cell? ⟨g, 4, none⟩ = some (.int .i64 (c : Nat))) := ⟨bg_cell HRM.out.x.hg rfl, bg_cell HRM.out.x.hg rfl, bg_cell HRM.out.x.hg rfl⟩
              have dm : decide ((0 : Int) ≤ -1) = false := by decide
              clear h3 h4
              go_upto_region 21 with fail
              refine wp_region_till (fun w' => w'.cell? ⟨g, 0, none⟩ = some (.int .i64 s1.me) ∧ w'.cell? ⟨g, 1, none⟩ = some (.int .i64 s1.peer) ∧ w'.cell? ⟨g, 4, none⟩ = some (.int .i64 (c : Nat))) 15 (by kernel_rfl) ?_ (fun hHeld => ?_)
              · (try dsimp only); exact HSE.out
              refine wpAnyT_pure (i := 0) (oi := ⟨_, _, _, _, _, _⟩) (v := ?_) rfl (by kernel_rfl) (by kernel_rfl) (by kernel_rfl) (fun _ _ _ h => h) (by kernel_rfl) (Or.inl ⟨by rfl, ?_⟩) (by assumption) ?_
              rotate_left
              · (intro wS hSw; (try dsimp only at hSw); go_simp <;> with_reducible rfl)
              try simp only [Act.put, List.setIfInBounds_toArray, List.set_cons_zero, List.set_cons_succ]
              refine wpAnyT_pure (i := 1) (oi := ⟨_, _, _, _, _, _⟩) (v := ?_) rfl (by kernel_rfl) (by kernel_rfl) (by kernel_rfl) (fun _ _ _ h => h) (by kernel_rfl) (Or.inl ⟨by rfl, ?_⟩) (by assumption) ?_
              rotate_left
              · (intro wS hSw; (try dsimp only at hSw); go_simp <;> with_reducible rfl)
              try simp only [Act.put, List.setIfInBounds_toArray, List.set_cons_zero, List.set_cons_succ]
              refine wpAnyT_pure (i := 2) (oi := ⟨_, _, _, _, _, _⟩) (v := ?_) rfl (by kernel_rfl) (by kernel_rfl) (by kernel_rfl) (fun _ _ _ h => h) (by kernel_rfl) (Or.inl ⟨by rfl, ?_⟩) (by assumption) ?_
              rotate_left
              · (intro wS hSw; (try dsimp only at hSw); go_simp <;> with_reducible rfl)
              try simp only [Act.put, List.setIfInBounds_toArray, List.set_cons_zero, List.set_cons_succ]
              refine wpAnyT_pure (i := 3) (oi := ⟨_, _, _, _, _, _⟩) (v := ?_) rfl (by kernel_rfl) (by kernel_rfl) (by kernel_rfl) (fun _ _ _ h => h) (by kernel_rfl) (Or.inl ⟨by rfl, ?_⟩) (by assumption) ?_
              rotate_left
              · (intro wS hSw; (try dsimp only at hSw); go_simp <;> with_reducible rfl)
              try simp only [Act.put, List.setIfInBounds_toArray, List.set_cons_zero, List.set_cons_succ]
              refine wpAnyT_pure (i := 5) (oi := ⟨_, _, _, _, _, _⟩) (v := ?_) rfl (by kernel_rfl) (by kernel_rfl) (by kernel_rfl) (fun _ _ _ h => h) (by kernel_rfl) (Or.inl ⟨by rfl, ?_⟩) (by assumption) ?_
              rotate_left
              · (intro wS hSw; (try dsimp only at hSw); go_simp <;> with_reducible rfl)
              try simp only [Act.put, List.setIfInBounds_toArray, List.set_cons_zero, List.set_cons_succ]
              refine wpAnyT_pure (i := 6) (oi := ⟨_, _, _, _, _, _⟩) (v := ?_) rfl (by kernel_rfl) (by kernel_rfl) (by kernel_rfl) (fun _ _ _ h => h) (by kernel_rfl) (Or.inl ⟨by rfl, ?_⟩) (by assumption) ?_
              rotate_left
              · (intro wS hSw; (try dsimp only at hSw); go_simp <;> with_reducible rfl)
              try simp only [Act.put, List.setIfInBounds_toArray, List.set_cons_zero, List.set_cons_succ]
              refine wpAnyT_pure (i := 7) (oi := ⟨_, _, _, _, _, _⟩) (v := ?_) rfl (by kernel_rfl) (by kernel_rfl) (by kernel_rfl) (fun _ _ _ h => h) (by kernel_rfl) (Or.inl ⟨by rfl, ?_⟩) (by assumption) ?_
              rotate_left
              · (intro wS hSw; (try dsimp only at hSw); go_simp <;> with_reducible rfl)
              try simp only [Act.put, List.setIfInBounds_toArray, List.set_cons_zero, List.set_cons_succ]
              refine wpAnyT_pure (i := 9) (oi := ⟨_, _, _, _, _, _⟩) (v := ?_) rfl (by kernel_rfl) (by kernel_rfl) (by kernel_rfl) (fun _ _ _ h => h) (by kernel_rfl) (Or.inl ⟨by rfl, ?_⟩) (by assumption) ?_
              rotate_left
              · (intro wS hSw; (try dsimp only at hSw); go_simp <;> with_reducible rfl)
              try simp only [Act.put, List.setIfInBounds_toArray, List.set_cons_zero, List.set_cons_succ]
              refine wpAnyT_pure (i := 10) (oi := ⟨_, _, _, _, _, _⟩) (v := ?_) rfl (by kernel_rfl) (by kernel_rfl) (by kernel_rfl) (fun _ _ _ h => h) (by kernel_rfl) (Or.inl ⟨by rfl, ?_⟩) (by assumption) ?_
              rotate_left
              · (intro wS hSw; (try dsimp only at hSw); go_simp <;> with_reducible rfl)
              try simp only [Act.put, List.setIfInBounds_toArray, List.set_cons_zero, List.set_cons_succ]
              refine wpAnyT_pure (i := 11) (oi := ⟨_, _, _, _, _, _⟩) (v := ?_) rfl (by kernel_rfl) (by kernel_rfl) (by kernel_rfl) (fun _ _ _ h => h) (by kernel_rfl) (Or.inl ⟨by rfl, ?_⟩) (by assumption) ?_
              rotate_left
              · (intro wS hSw; (try dsimp only at hSw); go_simp <;> with_reducible rfl)
              try simp only [Act.put, List.setIfInBounds_toArray, List.set_cons_zero, List.set_cons_succ]
              refine wpAnyT_pure (i := 14) (oi := ⟨_, _, _, _, _, _⟩) (v := ?_) rfl (by kernel_rfl) (by kernel_rfl) (by kernel_rfl) (fun _ _ _ h => h) (by kernel_rfl) (Or.inl ⟨by rfl, ?_⟩) (by assumption) ?_
              rotate_left
              · (intro wS hSw; (try dsimp only at hSw); go_simp <;> with_reducible rfl)
              try simp only [Act.put, List.setIfInBounds_toArray, List.set_cons_zero, List.set_cons_succ]
              refine wpAnyT_take (i := 4) (oi := ⟨_, _, _, _, _, _⟩) (v := ?_) rfl (by kernel_rfl) (by kernel_rfl) (by kernel_rfl) (fun _ _ _ h => h) (by kernel_rfl) (Or.inl ⟨by rfl, ?_⟩) (by assumption) ?_
              rotate_left
              · (intro wS hSw; (try dsimp only at hSw); go_simp <;> with_reducible rfl)
              try simp only [Act.put, List.setIfInBounds_toArray, List.set_cons_zero, List.set_cons_succ]
              refine wpAnyT_take (i := 8) (oi := ⟨_, _, _, _, _, _⟩) (v := ?_) rfl (by kernel_rfl) (by kernel_rfl) (by kernel_rfl) (fun _ _ _ h => h) (by kernel_rfl) (Or.inl ⟨by rfl, ?_⟩) (by assumption) ?_
              rotate_left
              · (intro wS hSw; (try dsimp only at hSw); go_simp <;> with_reducible rfl)
              try simp only [Act.put, List.setIfInBounds_toArray, List.set_cons_zero, List.set_cons_succ]
              refine wpAnyT_take (i := 12) (oi := ⟨_, _, _, _, _, _⟩) (v := ?_) rfl (by kernel_rfl) (by kernel_rfl) (by kernel_rfl) (fun _ _ _ h => h) (by kernel_rfl) (Or.inl ⟨by rfl, ?_⟩) (by assumption) ?_
              rotate_left
              · (intro wS hSw; (try dsimp only at hSw); go_simp <;> with_reducible rfl)
              try simp only [Act.put, List.setIfInBounds_toArray, List.set_cons_zero, List.set_cons_succ]
              refine wpAnyT_ready (rs := [13]) (by kernel_rfl) (by simp) ?_
              refine (AllReadyT.cons (o := ⟨_, _, _, _, _, _⟩) rfl (fun K hK => ?_) AllReadyT.nil)
              go_simp
              refine hK.out _ _ (by (try dsimp only); exact HSE.out) (fun hHeld => ?_)
              clear hK K
              try simp only [Act.put, List.setIfInBounds_toArray, List.set_cons_zero, List.set_cons_succ]
              refine wpAnyT_ready (rs := [15]) (by kernel_rfl) (by simp) ?_
              refine (AllReadyT.past (o := ⟨_, _, _, _, _, _⟩) rfl (by kernel_rfl) (fun K hK => ?_) AllReadyT.nil)
              refine lk_step_store_row rfl 53 (.tmp 5) (.tmp 185) rfl (W.heap.size + 1) (lpCells s1.me s1.peer 0 (c : Nat) 0 0) rfl rfl 53 (lpCells 0 0 0 0 0 0) HRM.out.z bg_infoP rfl (PR.one (p := ⟨s1.me, s1.peer, 0, (c : Nat), LR.light 0 0⟩) (light_sl _ _)) ?_
              refine hK.out _ _ ?_
              clear hK K
              try simp only [Act.put]
              refine wpAnyT_ready (rs := [16]) (by kernel_rfl) (by simp) ?_
              refine (AllReadyT.past (o := ⟨_, _, _, _, _, _⟩) rfl (by kernel_rfl) (fun K hK => ?_) AllReadyT.nil)
              go_simp
              refine hK.out _ _ ?_
              clear hK K
              try simp only [Act.put, List.setIfInBounds_toArray, List.set_cons_zero, List.set_cons_succ]
              refine wpAnyT_done (by kernel_rfl) ?_ _
              go_wp2_with fail
              refine bodyPost_ret (bg_results3 rfl _ _ (W.heap.size + 1) (lpCells s1.me s1.peer 0 (c : Nat) 0 0) (.bool true) (.slice T m2 cT) rfl rfl rfl (bg_loadVar _ _ _ rfl (bg_row _ HRM.out.z))) rfl ?_
              exact rgot_end HRM.out HGO.out HST.out HS1.out HME.out HFB.out HXW.out (((Touch.refl _ wr).drew).trans (bg_touch _ _ _) (fun x hx => .inl hx))
        | true =>
          have HKD : Hid (wd.ownsRow 0 53 25 (.slice AK kn cK) kn (rowC PR.cells s.kept)) := by
            have h5 := HXD.out.k
            show wd.ownsRow 0 _ 25 _ kn _
            rw [← HKN.out]
            rw [← HKN.out] at h5
            exact h5
          have HOK1 : Hid (∀ u ∈ rowC PR.cells s.kept, u.oneCell' = true) := rowC_all fun x hx => PR.one (HSK.out x hx)
          have HOR : Hid (p.cells.all (·.oneCell') = true) := PR.one HPS.out
          have HSS : Hid (∀ w', Below wd.heap.size wd w' → w'.cell? ⟨g, 5, none⟩ = some (.slice AK kn cK) ∧ w'.rangeAt W.heap.size 0 p.cells.toList) := fun w' hb => by
            have e := (hb.block g (bg_lt HXD.out.hg)).trans HXD.out.hg
            have e1 := (hb.block W.heap.size (bg_lt HZE.out)).trans HZE.out
            refine ⟨bg_cell e rfl, fun j v hj => ?_⟩
            rw [Nat.zero_add]
            rw [Array.getElem?_toList] at hj
            exact bg_cell e1 hj
          have HFR : Hid (∀ w', Below wd.heap.size wd w' → w'.frozen? ⟨g, 5, none⟩ = false) := fun w' hb => Lib.frozen_of_heap ((hb.block g (bg_lt HXD.out.hg)).trans HXD.out.hg) 5
          go_upto_region 13 with fail
          refine wp_region_till (fun w' => w'.cell? ⟨g, 5, none⟩ = some (.slice AK kn cK) ∧ w'.rangeAt W.heap.size 0 p.cells.toList) 11 (by kernel_rfl) ?_ (fun hHeld => ?_)
          · (try dsimp only); exact HSS.out _ (Below.refl _ _).drew
          refine wpAnyT_pure (i := 0) (oi := ⟨_, _, _, _, _, _⟩) (v := ?_) rfl (by kernel_rfl) (by kernel_rfl) (by kernel_rfl) (fun _ _ _ h => h) (by kernel_rfl) (Or.inl ⟨by rfl, ?_⟩) (by assumption) ?_
          rotate_left
          · (intro wS hSw; (try dsimp only at hSw); go_simp <;> with_reducible rfl)
          try simp only [Act.put, List.setIfInBounds_toArray, List.set_cons_zero, List.set_cons_succ]
          refine wpAnyT_pure (i := 1) (oi := ⟨_, _, _, _, _, _⟩) (v := ?_) rfl (by kernel_rfl) (by kernel_rfl) (by kernel_rfl) (fun _ _ _ h => h) (by kernel_rfl) (Or.inl ⟨by rfl, ?_⟩) (by assumption) ?_
          rotate_left
          · (intro wS hSw; (try dsimp only at hSw); go_simp <;> with_reducible rfl)
          try simp only [Act.put, List.setIfInBounds_toArray, List.set_cons_zero, List.set_cons_succ]
          refine wpAnyT_pure (i := 2) (oi := ⟨_, _, _, _, _, _⟩) (v := ?_) rfl (by kernel_rfl) (by kernel_rfl) (by kernel_rfl) (fun _ _ _ h => h) (by kernel_rfl) (Or.inl ⟨by rfl, ?_⟩) (by assumption) ?_
          rotate_left
          · (intro wS hSw; (try dsimp only at hSw); go_simp <;> with_reducible rfl)
          try simp only [Act.put, List.setIfInBounds_toArray, List.set_cons_zero, List.set_cons_succ]
          refine wpAnyT_pure (i := 3) (oi := ⟨_, _, _, _, _, _⟩) (v := ?_) rfl (by kernel_rfl) (by kernel_rfl) (by kernel_rfl) (fun _ _ _ h => h) (by kernel_rfl) (Or.inl ⟨by rfl, ?_⟩) (by assumption) ?_
          rotate_left
          · (intro wS hSw; (try dsimp only at hSw); go_simp <;> with_reducible rfl)
          try simp only [Act.put, List.setIfInBounds_toArray, List.set_cons_zero, List.set_cons_succ]
          refine wpAnyT_take (i := 4) (oi := ⟨_, _, _, _, _, _⟩) (v := ?_) rfl (by kernel_rfl) (by kernel_rfl) (by kernel_rfl) (fun _ _ _ h => h) (by kernel_rfl) (Or.inl ⟨by rfl, ?_⟩) (by assumption) ?_
          rotate_left
          · (intro wS hSw; (try dsimp only at hSw); go_simp <;> with_reducible rfl)
          try simp only [Act.put, List.setIfInBounds_toArray, List.set_cons_zero, List.set_cons_succ]
          refine wpAnyT_take (i := 6) (oi := ⟨_, _, _, _, _, _⟩) (v := .agg p.cells.toList.toArray) rfl (by kernel_rfl) (by kernel_rfl) (by kernel_rfl) (fun _ _ _ h => h) (by kernel_rfl) (yieldsIf_load_mid (by rfl) 53 (.tmp 3) rfl W.heap.size 0 rfl p.cells.toList _ (fun _ h => h.2) Try.underlying53 rfl hszP) (by assumption) ?_
          try simp only [Act.put, List.setIfInBounds_toArray, List.set_cons_zero, List.set_cons_succ]
          try simp only [Array.toArray_toList]
          refine wpAnyT_ready (rs := [5, 7]) (by kernel_rfl) (by simp) ?_
          refine (AllReadyT.cons (o := ⟨_, _, _, _, _, _⟩) rfl (fun K hK => ?_) (AllReadyT.cons (o := ⟨_, _, _, _, _, _⟩) rfl (fun K hK => ?_) AllReadyT.nil))
          · refine step_append_any rfl (.const (.slice none 0 0)) (.tmp 113) 28 rfl 0 53 iP (.agg (lpCells 0 0 0 0 0 0)) 25 272 Try.underlying28 hiP hzP hsP hbP rfl (by decide) (.slice none 0 0) 0 [] rfl (World.ownsRow_nil _ _ _ _) (.slice AK kn cK) kn (rowC PR.cells s.kept) rfl (From.own (lk_below HKD.out ((Below.refl _ wd).drew))) HOK1.out (by unfold maxLen; omega) (by omega) (Nat.zero_le _) ?_
            intro A4 c4 w4b ho4 hg4 hs4
            simp only [Nat.zero_add, List.nil_append] at ho4 hs4 ⊢
            have HB4 : Hid (Below wd.heap.size wd w4b) := ((Below.refl _ wd).drew).grown hg4 (by simp) (fun z hz => by cases hz)
            have hS4 := HSS.out w4b HB4.out
            have hN4 : ∀ q, (Value.slice A4 kn c4).ownBlock = some q → wd.heap.size ≤ q := fun q hq => by
              rcases hs4 q hq with z | z
              · cases z
              · (try simp at z ⊢); omega
            have HN4 := Lib.hid hN4
            have HO4 := Lib.hid ho4
            have hS4b := HSS.out _ (HB4.out.alloc HB4.out.size (.cells p.cells 53))
            clear ho4 hg4 hs4 hN4
            refine hK.out _ _ (by (try dsimp only); first | assumption | exact HSS.out _ (Below.refl _ _).drew) (fun hHeld => ?_)
            clear hK K
            try simp only [Act.put, List.setIfInBounds_toArray, List.set_cons_zero, List.set_cons_succ]
            refine wpAnyT_ready (rs := [7]) (by kernel_rfl) (by simp) ?_
            refine (AllReadyT.cons (o := ⟨_, _, _, _, _, _⟩) rfl (fun K hK => ?_) AllReadyT.nil)
            go_simp
            refine hK.out _ _ (by (try dsimp only); first | assumption | exact HSS.out _ (Below.refl _ _).drew) (fun hHeld => ?_)
            clear hK K
            try simp only [Act.put, List.setIfInBounds_toArray, List.set_cons_zero, List.set_cons_succ]
            refine wpAnyT_ready (rs := [8]) (by kernel_rfl) (by simp) ?_
            refine (AllReadyT.cons (o := ⟨_, _, _, _, _, _⟩) rfl (fun K hK => ?_) AllReadyT.nil)
            refine step_append_any rfl (.tmp 114) (.tmp 116) 28 rfl 0 53 iP (.agg (lpCells 0 0 0 0 0 0)) 25 272 Try.underlying28 hiP hzP hsP hbP rfl (by decide) (.slice A4 kn c4) kn (rowC PR.cells s.kept) rfl (HO4.out.alloc _) (.slice (some ⟨w4b.heap.size, 0, none⟩) 1 1) 1 (rowC PR.cells [p]) rfl (.inr ⟨⟨w4b.heap.size, 0, none⟩, 1, rfl, rfl, lk_new_row w4b p.cells _⟩) (rowC_all (enc := PR.cells) (l := [p]) (fun x hx => by simp at hx; subst hx; exact HOR.out)) (by unfold maxLen; omega) (by omega) (Nat.zero_le _) ?_
            intro A5 c5 w5 ho5 hg5 hs5
            have HB5 : Hid (Below wd.heap.size wd w5) := (HB4.out.alloc HB4.out.size _).grown hg5 (by have := HB4.out.size; (try simp); omega) (fun z hz => by have := HN4.out z hz; (try simp at this); omega)
            have hS5 := HSS.out w5 HB5.out
            have HO5 := Lib.hid ho5
            have HN5 : Hid (∀ q, (Value.slice A5 (kn + 1) c5).ownBlock = some q → wd.heap.size ≤ q) := fun q hq => by
              rcases hs5 q hq with z | z
              · have := HN4.out q z; (try simp at this); omega
              · have := HB4.out.size; (try simp at z); omega
            clear ho5 hg5 hs5
            refine hK.out _ _ (by (try dsimp only); first | assumption | exact HSS.out _ (Below.refl _ _).drew) (fun hHeld => ?_)
            clear hK K
            try simp only [Act.put, List.setIfInBounds_toArray, List.set_cons_zero, List.set_cons_succ]
            refine wpAnyT_pure (i := 9) (oi := ⟨_, _, _, _, _, _⟩) (v := ?_) rfl (by kernel_rfl) (by kernel_rfl) (by kernel_rfl) (fun _ _ _ h => h) (by kernel_rfl) (Or.inl ⟨by rfl, ?_⟩) (by assumption) ?_
            rotate_left
            · (intro wS hSw; (try dsimp only at hSw); go_simp <;> with_reducible rfl)
            try simp only [Act.put, List.setIfInBounds_toArray, List.set_cons_zero, List.set_cons_succ]
            refine wpAnyT_pure (i := 10) (oi := ⟨_, _, _, _, _, _⟩) (v := ?_) rfl (by kernel_rfl) (by kernel_rfl) (by kernel_rfl) (fun _ _ _ h => h) (by kernel_rfl) (Or.inl ⟨by rfl, ?_⟩) (by assumption) ?_
            rotate_left
            · (intro wS hSw; (try dsimp only at hSw); go_simp <;> with_reducible rfl)
            try simp only [Act.put, List.setIfInBounds_toArray, List.set_cons_zero, List.set_cons_succ]
            refine wpAnyT_ready (rs := [11]) (by kernel_rfl) (by simp) ?_
            refine (AllReadyT.past (o := ⟨_, _, _, _, _, _⟩) rfl (by kernel_rfl) (fun K hK => ?_) AllReadyT.nil)
            have f5 : w5.frozen? ⟨g, 5, none⟩ = false := HFR.out w5 HB5.out
            go_simp
            refine hK.out _ _ ?_
            clear hK K
            try simp only [Act.put]
            refine wpAnyT_done (by kernel_rfl) ?_ _
            obtain ⟨w6, hw6⟩ : ∃ w6, w5.setCell ⟨g, 5, none⟩ (.slice A5 (kn + 1) c5) = w6 := ⟨_, rfl⟩
            have e5 := (HB5.out.block g (bg_lt HXD.out.hg)).trans HXD.out.hg
            have T6 : Touch [g] w5 w6 := by rw [← hw6]; exact (Touch.refl _ _).set (.inl (by simp)) _
            have HX6 : Hid (RLX w6 g {s.known p.a with kept := s.kept ++ [p]} (.slice B m cB) (.slice A5 (kn + 1) c5)) := by
              refine ⟨?_, T6.row (lk_below HXD.out.v HB5.out) (fun q hq z => by have := HXD.out.gv q hq; simp at z; exact this z), ?_, HXD.out.gv, fun q hq z => ?_, fun q hq z => ?_⟩
              · rw [← hw6]
                simp [World.setCell, Array.getElem?_modify, e5]
              · have h5 := T6.row HO5.out (fun q hq z => by have := HN5.out q hq; have := bg_lt HXD.out.hg; simp at z; omega)
                rw [← rowC_append] at h5
                show w6.ownsRow 0 _ 25 _ (s.kept ++ [p]).length (rowC PR.cells (s.kept ++ [p]))
                rw [List.length_append, HKN.out]
                exact h5
              · have := HN5.out q hq; have := bg_lt HXD.out.hg; omega
              · have := HN5.out q z; have := (HXD.out.v.lt q hq).2; omega
            have HT6 : Hid (Touch [g] W w6) := (HTD.out.trans (Touch.ofBelow (F := []) HB5.out) (by simp)).trans T6 (fun x hx => .inl hx)
            have HZ6 : Hid (w6.heap[W.heap.size + 1]? = some (.cells (lpCells 0 0 0 0 0 0) 53)) := (T6.block _ (Nat.lt_of_lt_of_le (bg_lt HZD.out) HB5.out.size) (by simp; omega)).trans ((HB5.out.block _ (bg_lt HZD.out)).trans HZD.out)
            have HK6 : Hid (∀ q, (Value.slice A5 (kn + 1) c5).ownBlock = some q → W.heap.size + 2 ≤ q ∨ K.ownBlock = some q) := fun q hq => .inl (by have := HN5.out q hq; have := bg_lt HZD.out; omega)
            rw [hw6]
            clear hw6 e5 T6
            obtain ⟨s1, hs1⟩ : ∃ s1, {s.known p.a with kept := s.kept ++ [p]} = s1 := ⟨_, rfl⟩
            have HS1 : Hid (s.took p = s1) := by rw [← hs1]; unfold RL.took; rw [if_pos HKB.out]; exact rfl
            have HL1 : Hid (s1.kept.length = kn + 1 ∧ ∀ x ∈ s1.kept, x.r.sl) := by
              rw [← hs1]
              refine ⟨by show (s.kept ++ [p]).length = _; rw [List.length_append, HKN.out]; rfl, fun x hx => ?_⟩
              rcases List.mem_append.1 hx with z | z
              · exact HSK.out x z
              · simp at z; subst z; exact HPS.out
            obtain ⟨N1, hN1⟩ : ∃ N1, kn + 1 = N1 := ⟨_, rfl⟩
            rw [hs1] at HX6
            rw [hN1] at HX6 HL1 HK6
            have hNb : N1 ≤ 1000000 := by omega
            have hc1 : s1.came ≤ 1000000 := by rw [← hs1]; exact hcb
            have hme : s1.me = s.me ∧ s1.peer = s.peer := by rw [← hs1]; exact ⟨rfl, rfl⟩
            obtain ⟨A1, hA1⟩ : ∃ A1, A5 = A1 := ⟨_, rfl⟩
            obtain ⟨c1, hc5⟩ : ∃ c1, c5 = c1 := ⟨_, rfl⟩
            rw [hA1, hc5] at HX6 HK6
            have HME := Lib.hid hme
            clear hs1 hN1 hA1 hc5 hme
            have c4 : w6.cell? ⟨g, 4, none⟩ = some (.int .i64 (s1.came : Nat)) := bg_cell HX6.out.hg rfl
            have hz1 : IntKind.i64.wrap ((s1.came : Int) + 1) = (s1.came : Int) + 1 := by rw [IntKind.wrap_i64]; omega
            have CK6 := Lib.hid (refKept_any HX6.out (by rw [HL1.out.1]; exact hNb) ((s1.came : Int) + 1))
            go_wp2_with ((go_at_call 34; (with_reducible refine (CK6.out).mono ?_); rintro e wz ⟨rfl, rfl⟩))
            clear c4 hz1
            have HXW : Hid (RLX W g s (.slice A n c) K) := H
            go_loopg [9, 10] (N1 + 1) (fun gh s9 s10 wx => ∃ (c n2 m2 : Nat) (T : Option Addr) (ts : List LR) (ks : List PR) (cT : Nat) (KA : Option Addr) (kc : Nat), gh = n2 + 1 ∧ m2 + n2 ≤ N1 ∧ c + n2 ≤ 2000000 ∧ s9 = .slice T m2 cT ∧ s10 = .int .i64 (keptAt ks ((c : Int) + 1)) ∧ Hid (RfM W wx g s1 (.slice B m cB) K c n2 ks (.slice KA n2 kc) m2 (.slice T m2 cT) ts) ∧ Hid (∀ us c' ks', RFol c ks us c' ks' → RFol s1.came s1.kept (ts ++ us) c' ks'))
            case atStart => exact ⟨s1.came, N1, 0, none, [], s1.kept, 0, A1, c1, rfl, by omega, by omega, rfl, rfl, ⟨HX6.out, HL1.out.1, rfl, HT6.out, World.ownsRow_nil _ _ _ _, HK6.out, HFB.out, (fun q hq => by cases hq), HZ6.out, HL1.out.2, by simp⟩, fun _ _ _ z => z⟩
            case round =>
              obtain ⟨c, n2, m2, T, ts, ks, cT, KA, kc, hgk, hmn, hNc, rfl, rfl, HRM, HGO⟩ := hrel
              rcases keptAt_cases ks ((c : Int) + 1) with ⟨i, p2, h1, h2, h3, h4⟩ | ⟨h4, h3⟩
              · rw [h4]
                have hiN : i < n2 := by have := (List.getElem?_eq_some_iff.1 h1).1; have := HRM.out.nk; omega
                obtain ⟨kb, rfl⟩ := lk_at (by have h5 := HRM.out.x.k; have h6 : _ = n2 := HRM.out.nk; show wr.ownsRow 0 _ 25 (.slice KA n2 kc) n2 (rowC PR.cells ks); rw [← h6]; rw [← h6] at h5; exact h5) (show 0 < n2 by omega)
                have hrow : wr.ownsRow 0 53 25 (.slice (some ⟨kb, 0, none⟩) n2 kc) n2 (rowC PR.cells ks) := HRM.out.krow
                have HRA := Lib.hid (mid_range (row_rangeE pE_size hrow h1) (pE_letter p2))
                have HPO : Hid (p2.r.cells.all (·.oneCell') = true) := LR.one (HRM.out.sl p2 (List.mem_of_getElem? h1))
                have c5 : wr.cell? ⟨g, 5, none⟩ = some (.slice (some ⟨kb, 0, none⟩) n2 kc) := bg_cell HRM.out.x.hg rfl
                have hszL2 := hszL p2.r
                have HI2 := Lib.hid h1
                have HE2 : Hid (p2.s = ((c + 1 : Nat) : Int)) := by rw [h2]; exact rfl
                have HF2 : Hid (∀ (j : Nat) (y : PR), j < i → ks[j]? = some y → y.s ≠ ((c + 1 : Nat) : Int)) := fun j y hj hy e => h3 j y hj hy (by rw [e]; rfl)
                have di : decide ((0 : Int) ≤ (i : Int)) = true := by simp
                have ii : (i : Int) < (n2 : Int) := by omega
                clear h1 h2 h3 h4 hrow
                go_upto_region 19 with (first
                  | (refine wpList_load_mid rfl 51 (.tmp 143) rfl kb (i * 25 + 4) rfl p2.r.cells.toList _ HRA.out Try.underlying51 rfl hszL2 ?_)
                  | (at_builtin; go_must (refine wpList_append_any rfl (.tmp 136) (.tmp 145) 59 rfl (W.heap.size + 2) 51 iL (.agg (ltCells 0 0)) 21 240 Try.underlying59 hiL hzL hsL hbL rfl (by decide) (.slice T m2 cT) m2 (rowC LR.cells ts) rfl (HRM.out.row.alloc _) (.slice (some ⟨wr.heap.size, 0, none⟩) 1 1) 1 (rowC LR.cells [p2.r]) rfl (.inr ⟨⟨wr.heap.size, 0, none⟩, 1, rfl, rfl, lk_new_row wr p2.r.cells _⟩) (rowC_all (enc := LR.cells) (l := [p2.r]) (fun y hy => by simp at hy; subst hy; exact HPO.out)) (by unfold maxLen; omega) (by omega) (by have := bg_lt HRM.out.z; simp; omega) ?_); intro T5 cT5 w8 ho8 hg8 hs8; have HP8 := Lib.hid (HRM.out.told (List.mem_of_getElem? HI2.out) ho8 hg8 hs8); clear ho8 hg8 hs8))
                have HK8 : Hid (w8.ownsRow 0 53 25 (.slice (some ⟨kb, 0, none⟩) n2 kc) n2 (rowC PR.cells ks)) := HP8.out.krow
                have HO1T : Hid (∀ u ∈ rowC PR.cells (ks.take i), u.oneCell' = true) := rowC_all fun x hx => PR.one (HP8.out.sl x (List.mem_of_mem_take hx))
                have HO1D : Hid (∀ u ∈ rowC PR.cells (ks.drop (i + 1)), u.oneCell' = true) := rowC_all fun x hx => PR.one (HP8.out.sl x (List.mem_of_mem_drop hx))
                have HSS2 : Hid (∀ w', Below w8.heap.size w8 w' → w'.cell? ⟨g, 5, none⟩ = some (.slice (some ⟨kb, 0, none⟩) n2 kc)) := fun w' hb => bg_cell ((hb.block g (bg_lt HP8.out.x.hg)).trans HP8.out.x.hg) rfl
                have HFR2 : Hid (∀ w', Below w8.heap.size w8 w' → w'.frozen? ⟨g, 5, none⟩ = false) := fun w' hb => Lib.frozen_of_heap ((hb.block g (bg_lt HP8.out.x.hg)).trans HP8.out.x.hg) 5
                have hk0 := row_capP HK8.out
                have i3 : (i : Int) + 1 ≤ (n2 : Int) := by omega
                have i4 : i ≤ kc := by omega
                have i5 : 0 ≤ (i : Int) + 1 := by omega
                have i6 : i + 1 ≤ kc := by omega
                have z1 : IntKind.i64.wrap ((i : Int) + 1) = (i : Int) + 1 := by rw [IntKind.wrap_i64]; omega
                have z6 : ((i : Int) + 1).toNat = i + 1 := by omega
                clear c5
                refine wp_region_till (fun w' => w'.cell? ⟨g, 5, none⟩ = some (.slice (some ⟨kb, 0, none⟩) n2 kc)) 18 (by kernel_rfl) ?_ (fun hHeld => ?_)
                · (try dsimp only); exact HSS2.out _ (Below.refl _ _).drew
                refine wpAnyT_pure (i := 0) (oi := ⟨_, _, _, _, _, _⟩) (v := ?_) rfl (by kernel_rfl) (by kernel_rfl) (by kernel_rfl) (fun _ _ _ h => h) (by kernel_rfl) (Or.inl ⟨by rfl, ?_⟩) (by assumption) ?_
                rotate_left
                · (intro wS hSw; (try dsimp only at hSw); go_simp <;> with_reducible rfl)
                try simp only [Act.put, List.setIfInBounds_toArray, List.set_cons_zero, List.set_cons_succ]
                refine wpAnyT_pure (i := 1) (oi := ⟨_, _, _, _, _, _⟩) (v := ?_) rfl (by kernel_rfl) (by kernel_rfl) (by kernel_rfl) (fun _ _ _ h => h) (by kernel_rfl) (Or.inl ⟨by rfl, ?_⟩) (by assumption) ?_
                rotate_left
                · (intro wS hSw; (try dsimp only at hSw); go_simp <;> with_reducible rfl)
                try simp only [Act.put, List.setIfInBounds_toArray, List.set_cons_zero, List.set_cons_succ]
                refine wpAnyT_pure (i := 2) (oi := ⟨_, _, _, _, _, _⟩) (v := ?_) rfl (by kernel_rfl) (by kernel_rfl) (by kernel_rfl) (fun _ _ _ h => h) (by kernel_rfl) (Or.inl ⟨by rfl, ?_⟩) (by assumption) ?_
                rotate_left
                · (intro wS hSw; (try dsimp only at hSw); go_simp <;> with_reducible rfl)
                try simp only [Act.put, List.setIfInBounds_toArray, List.set_cons_zero, List.set_cons_succ]
                refine wpAnyT_pure (i := 3) (oi := ⟨_, _, _, _, _, _⟩) (v := ?_) rfl (by kernel_rfl) (by kernel_rfl) (by kernel_rfl) (fun _ _ _ h => h) (by kernel_rfl) (Or.inl ⟨by rfl, ?_⟩) (by assumption) ?_
                rotate_left
                · (intro wS hSw; (try dsimp only at hSw); go_simp <;> with_reducible rfl)
                try simp only [Act.put, List.setIfInBounds_toArray, List.set_cons_zero, List.set_cons_succ]
                refine wpAnyT_pure (i := 5) (oi := ⟨_, _, _, _, _, _⟩) (v := ?_) rfl (by kernel_rfl) (by kernel_rfl) (by kernel_rfl) (fun _ _ _ h => h) (by kernel_rfl) (Or.inl ⟨by rfl, ?_⟩) (by assumption) ?_
                rotate_left
                · (intro wS hSw; (try dsimp only at hSw); go_simp <;> with_reducible rfl)
                try simp only [Act.put, List.setIfInBounds_toArray, List.set_cons_zero, List.set_cons_succ]
                refine wpAnyT_pure (i := 8) (oi := ⟨_, _, _, _, _, _⟩) (v := ?_) rfl (by kernel_rfl) (by kernel_rfl) (by kernel_rfl) (fun _ _ _ h => h) (by kernel_rfl) (Or.inl ⟨by rfl, ?_⟩) (by assumption) ?_
                rotate_left
                · (intro wS hSw; (try dsimp only at hSw); go_simp <;> with_reducible rfl)
                try simp only [Act.put, List.setIfInBounds_toArray, List.set_cons_zero, List.set_cons_succ]
                refine wpAnyT_pure (i := 9) (oi := ⟨_, _, _, _, _, _⟩) (v := ?_) rfl (by kernel_rfl) (by kernel_rfl) (by kernel_rfl) (fun _ _ _ h => h) (by kernel_rfl) (Or.inl ⟨by rfl, ?_⟩) (by assumption) ?_
                rotate_left
                · (intro wS hSw; (try dsimp only at hSw); go_simp <;> with_reducible rfl)
                try simp only [Act.put, List.setIfInBounds_toArray, List.set_cons_zero, List.set_cons_succ]
                refine wpAnyT_pure (i := 10) (oi := ⟨_, _, _, _, _, _⟩) (v := ?_) rfl (by kernel_rfl) (by kernel_rfl) (by kernel_rfl) (fun _ _ _ h => h) (by kernel_rfl) (Or.inl ⟨by rfl, ?_⟩) (by assumption) ?_
                rotate_left
                · (intro wS hSw; (try dsimp only at hSw); go_simp <;> with_reducible rfl)
                try simp only [Act.put, List.setIfInBounds_toArray, List.set_cons_zero, List.set_cons_succ]
                refine wpAnyT_pure (i := 12) (oi := ⟨_, _, _, _, _, _⟩) (v := ?_) rfl (by kernel_rfl) (by kernel_rfl) (by kernel_rfl) (fun _ _ _ h => h) (by kernel_rfl) (Or.inl ⟨by rfl, ?_⟩) (by assumption) ?_
                rotate_left
                · (intro wS hSw; (try dsimp only at hSw); go_simp <;> with_reducible rfl)
                try simp only [Act.put, List.setIfInBounds_toArray, List.set_cons_zero, List.set_cons_succ]
                refine wpAnyT_pure (i := 13) (oi := ⟨_, _, _, _, _, _⟩) (v := ?_) rfl (by kernel_rfl) (by kernel_rfl) (by kernel_rfl) (fun _ _ _ h => h) (by kernel_rfl) (Or.inl ⟨by rfl, ?_⟩) (by assumption) ?_
                rotate_left
                · (intro wS hSw; (try dsimp only at hSw); go_simp <;> with_reducible rfl)
                try simp only [Act.put, List.setIfInBounds_toArray, List.set_cons_zero, List.set_cons_succ]
                refine wpAnyT_take (i := 4) (oi := ⟨_, _, _, _, _, _⟩) (v := ?_) rfl (by kernel_rfl) (by kernel_rfl) (by kernel_rfl) (fun _ _ _ h => h) (by kernel_rfl) (Or.inl ⟨by rfl, ?_⟩) (by assumption) ?_
                rotate_left
                · (intro wS hSw; (try dsimp only at hSw); go_simp <;> with_reducible rfl)
                try simp only [Act.put, List.setIfInBounds_toArray, List.set_cons_zero, List.set_cons_succ]
                refine wpAnyT_pure (i := 6) (oi := ⟨_, _, _, _, _, _⟩) (v := ?_) rfl (by kernel_rfl) (by kernel_rfl) (by kernel_rfl) (fun _ _ _ h => h) (by kernel_rfl) (Or.inl ⟨by rfl, ?_⟩) (by assumption) ?_
                rotate_left
                · (intro wS hSw; (try dsimp only at hSw); go_simp <;> with_reducible rfl)
                try simp only [Act.put, List.setIfInBounds_toArray, List.set_cons_zero, List.set_cons_succ]
                refine wpAnyT_take (i := 11) (oi := ⟨_, _, _, _, _, _⟩) (v := ?_) rfl (by kernel_rfl) (by kernel_rfl) (by kernel_rfl) (fun _ _ _ h => h) (by kernel_rfl) (Or.inl ⟨by rfl, ?_⟩) (by assumption) ?_
                rotate_left
                · (intro wS hSw; (try dsimp only at hSw); go_simp <;> with_reducible rfl)
                try simp only [Act.put, List.setIfInBounds_toArray, List.set_cons_zero, List.set_cons_succ]
                refine wpAnyT_pure (i := 14) (oi := ⟨_, _, _, _, _, _⟩) (v := ?_) rfl (by kernel_rfl) (by kernel_rfl) (by kernel_rfl) (fun _ _ _ h => h) (by kernel_rfl) (Or.inl ⟨by rfl, ?_⟩) (by assumption) ?_
                rotate_left
                · (intro wS hSw; (try dsimp only at hSw); go_simp <;> with_reducible rfl)
                try simp only [Act.put, List.setIfInBounds_toArray, List.set_cons_zero, List.set_cons_succ]
                refine wpAnyT_ready (rs := [7]) (by kernel_rfl) (by simp) ?_
                refine (AllReadyT.cons (o := ⟨_, _, _, _, _, _⟩) rfl (fun K hK => ?_) AllReadyT.nil)
                refine step_append_any rfl (.const (.slice none 0 0)) (.tmp 153) 28 rfl 0 53 iP (.agg (lpCells 0 0 0 0 0 0)) 25 272 Try.underlying28 hiP hzP hsP hbP rfl (by decide) (.slice none 0 0) 0 [] rfl (World.ownsRow_nil _ _ _ _) (.slice (some ⟨kb, 0, none⟩) i kc) i (rowC PR.cells (ks.take i)) rfl (part_takeP (lk_below HK8.out (Below.refl _ _).drew) (by omega)) HO1T.out (by unfold maxLen; omega) (by omega) (Nat.zero_le _) ?_
                intro A6 c6 w6b ho6 hg6 hs6
                simp only [Nat.zero_add, List.nil_append] at ho6 hs6 ⊢
                have HB6 : Hid (Below w8.heap.size w8 w6b) := ((Below.refl _ w8).drew).grown hg6 (by simp) (fun z hz => by cases hz)
                have hS6 := HSS2.out w6b HB6.out
                have HN6 : Hid (∀ q, (Value.slice A6 i c6).ownBlock = some q → w8.heap.size ≤ q) := fun q hq => by
                  rcases hs6 q hq with z | z
                  · cases z
                  · (try simp at z ⊢); omega
                have HO6 := Lib.hid ho6
                clear ho6 hg6 hs6
                refine hK.out _ _ (by (try dsimp only); first | assumption | exact HSS2.out _ (Below.refl _ _).drew) (fun hHeld => ?_)
                clear hK K
                try simp only [Act.put, List.setIfInBounds_toArray, List.set_cons_zero, List.set_cons_succ]
                refine wpAnyT_ready (rs := [15]) (by kernel_rfl) (by simp) ?_
                refine (AllReadyT.cons (o := ⟨_, _, _, _, _, _⟩) rfl (fun K hK => ?_) AllReadyT.nil)
                refine step_append_any rfl (.tmp 154) (.tmp 161) 28 rfl 0 53 iP (.agg (lpCells 0 0 0 0 0 0)) 25 272 Try.underlying28 hiP hzP hsP hbP rfl (by decide) (.slice A6 i c6) i (rowC PR.cells (ks.take i)) rfl HO6.out (.slice (if kc = i + 1 then some ⟨kb, 0, none⟩ else some ⟨kb, (i + 1) * 25, none⟩) (n2 - (i + 1)) (kc - (i + 1))) (n2 - (i + 1)) (rowC PR.cells (ks.drop (i + 1))) rfl (part_anyP (lk_below HK8.out HB6.out) (by omega)) HO1D.out (by unfold maxLen; omega) (by omega) (Nat.zero_le _) ?_
                intro A7 c7 w7 ho7 hg7 hs7
                have HB7 : Hid (Below w8.heap.size w8 w7) := HB6.out.grown hg7 HB6.out.size (fun z hz => HN6.out z hz)
                have hS7 := HSS2.out w7 HB7.out
                have HN7 : Hid (∀ q, (Value.slice A7 (i + (n2 - (i + 1))) c7).ownBlock = some q → w8.heap.size ≤ q) := fun q hq => by
                  rcases hs7 q hq with z | z
                  · exact HN6.out q z
                  · have := HB6.out.size; omega
                have HO7 := Lib.hid ho7
                clear ho7 hg7 hs7
                refine hK.out _ _ (by (try dsimp only); first | assumption | exact HSS2.out _ (Below.refl _ _).drew) (fun hHeld => ?_)
                clear hK K
                try simp only [Act.put, List.setIfInBounds_toArray, List.set_cons_zero, List.set_cons_succ]
                refine wpAnyT_pure (i := 16) (oi := ⟨_, _, _, _, _, _⟩) (v := ?_) rfl (by kernel_rfl) (by kernel_rfl) (by kernel_rfl) (fun _ _ _ h => h) (by kernel_rfl) (Or.inl ⟨by rfl, ?_⟩) (by assumption) ?_
                rotate_left
                · (intro wS hSw; (try dsimp only at hSw); go_simp <;> with_reducible rfl)
                try simp only [Act.put, List.setIfInBounds_toArray, List.set_cons_zero, List.set_cons_succ]
                refine wpAnyT_pure (i := 17) (oi := ⟨_, _, _, _, _, _⟩) (v := ?_) rfl (by kernel_rfl) (by kernel_rfl) (by kernel_rfl) (fun _ _ _ h => h) (by kernel_rfl) (Or.inl ⟨by rfl, ?_⟩) (by assumption) ?_
                rotate_left
                · (intro wS hSw; (try dsimp only at hSw); go_simp <;> with_reducible rfl)
                try simp only [Act.put, List.setIfInBounds_toArray, List.set_cons_zero, List.set_cons_succ]
                refine wpAnyT_ready (rs := [18]) (by kernel_rfl) (by simp) ?_
                refine (AllReadyT.past (o := ⟨_, _, _, _, _, _⟩) rfl (by kernel_rfl) (fun K hK => ?_) AllReadyT.nil)
                have f5 : w7.frozen? ⟨g, 5, none⟩ = false := HFR2.out w7 HB7.out
                go_simp
                refine hK.out _ _ ?_
                clear hK K
                try simp only [Act.put]
                refine wpAnyT_done (by kernel_rfl) ?_ _
                generalize (if kc = i + 1 then (some ⟨kb, 0, none⟩ : Option Addr) else some ⟨kb, (i + 1) * 25, none⟩) = zA
                have hrf := (HP8.out.cutK HB7.out HO7.out HN7.out hNc hiN).setCame (c + 1)
                obtain ⟨n3, hn3⟩ : ∃ n3, i + (n2 - (i + 1)) = n3 := ⟨_, rfl⟩
                have hn3b : n3 + 1 = n2 := by omega
                rw [hn3] at hrf ⊢
                have hz1 : IntKind.i64.wrap ((c : Int) + 1) = (c : Int) + 1 := by rw [IntKind.wrap_i64]; omega
                have hz2 : IntKind.i64.wrap ((c : Int) + 1 + 1) = (c : Int) + 1 + 1 := by rw [IntKind.wrap_i64]; omega
                obtain ⟨w9, hw9⟩ : ∃ w9, w7.setCell ⟨g, 5, none⟩ (.slice A7 n3 c7) = w9 := ⟨_, rfl⟩
                have e9 : w9.heap[g]? = some (.cells (rlCells {s1 with came := c, kept := ks.take i ++ ks.drop (i + 1)} (.slice B m cB) (.slice A7 n3 c7)) 30) := by
                  have e8 := (HB7.out.block g (bg_lt HP8.out.x.hg)).trans HP8.out.x.hg
                  rw [← hw9]
                  simp [World.setCell, Array.getElem?_modify, e8]
                rw [hw9] at hrf ⊢
                have HRF := Lib.hid hrf
                have c49 : w9.cell? ⟨g, 4, none⟩ = some (.int .i64 (c : Nat)) := bg_cell e9 rfl
                have f49 : w9.frozen? ⟨g, 4, none⟩ = false := Lib.frozen_of_heap e9 4
                have CK9 : Hid (Calls Try.prog 34 #[.pointer (some ⟨g, 0, none⟩), .int .i64 ((c : Int) + 1 + 1)] (w9.setCell ⟨g, 4, none⟩ (.int .i64 ((c : Int) + 1))) fun e w' => e = .returned (.int .i64 (keptAt (ks.take i ++ ks.drop (i + 1)) ((c : Int) + 1 + 1))) ∧ w' = w9.setCell ⟨g, 4, none⟩ (.int .i64 ((c : Int) + 1))) := (refKept_any hrf.x (by show (ks.take i ++ ks.drop (i + 1)).length ≤ _; rw [hrf.nk]; omega) ((c : Int) + 1 + 1))
                clear hw9 e9 hrf
                go_wp2_with ((go_at_call 34; (with_reducible refine (CK9.out).mono ?_); rintro e wz ⟨rfl, rfl⟩))
                go_roundg (gk - 1)
                case measure => omega
                case rel => exact ⟨c + 1, n3, m2 + 1, T5, ts ++ [p2.r], ks.take i ++ ks.drop (i + 1), cT5, A7, c7, by omega, by omega, by omega, rfl, rfl, HRF.out, fun us c' ks' hf => by
                  rw [List.append_assoc]
                  exact HGO.out _ _ _ (.step HI2.out HE2.out HF2.out hf)⟩
              · rw [h4]
                have HST : Hid (RFol c ks [] c ks) := .stop fun x hx e => h3 x hx (by rw [e]; rfl)
                have HSE : Hid (wr.drew.cell? ⟨g, 0, none⟩ = some (.int .i64 s1.me) ∧ wr.drew.cell? ⟨g, 1, none⟩ = some (.int .i64 s1.peer) ∧ wr.drew.cell? ⟨g, 4, none⟩ = some (.int .i64 (c : Nat))) := ⟨bg_cell HRM.out.x.hg rfl, bg_cell HRM.out.x.hg rfl, bg_cell HRM.out.x.hg rfl⟩
                have dm : decide ((0 : Int) ≤ -1) = false := by decide
                clear h3 h4
                go_upto_region 21 with fail
                refine wp_region_till (fun w' => w'.cell? ⟨g, 0, none⟩ = some (.int .i64 s1.me) ∧ w'.cell? ⟨g, 1, none⟩ = some (.int .i64 s1.peer) ∧ w'.cell? ⟨g, 4, none⟩ = some (.int .i64 (c : Nat))) 15 (by kernel_rfl) ?_ (fun hHeld => ?_)
                · (try dsimp only); exact HSE.out
                refine wpAnyT_pure (i := 0) (oi := ⟨_, _, _, _, _, _⟩) (v := ?_) rfl (by kernel_rfl) (by kernel_rfl) (by kernel_rfl) (fun _ _ _ h => h) (by kernel_rfl) (Or.inl ⟨by rfl, ?_⟩) (by assumption) ?_
                rotate_left
                · (intro wS hSw; (try dsimp only at hSw); go_simp <;> with_reducible rfl)
                try simp only [Act.put, List.setIfInBounds_toArray, List.set_cons_zero, List.set_cons_succ]
                refine wpAnyT_pure (i := 1) (oi := ⟨_, _, _, _, _, _⟩) (v := ?_) rfl (by kernel_rfl) (by kernel_rfl) (by kernel_rfl) (fun _ _ _ h => h) (by kernel_rfl) (Or.inl ⟨by rfl, ?_⟩) (by assumption) ?_
                rotate_left
                · (intro wS hSw; (try dsimp only at hSw); go_simp <;> with_reducible rfl)
                try simp only [Act.put, List.setIfInBounds_toArray, List.set_cons_zero, List.set_cons_succ]
                refine wpAnyT_pure (i := 2) (oi := ⟨_, _, _, _, _, _⟩) (v := ?_) rfl (by kernel_rfl) (by kernel_rfl) (by kernel_rfl) (fun _ _ _ h => h) (by kernel_rfl) (Or.inl ⟨by rfl, ?_⟩) (by assumption) ?_
                rotate_left
                · (intro wS hSw; (try dsimp only at hSw); go_simp <;> with_reducible rfl)
                try simp only [Act.put, List.setIfInBounds_toArray, List.set_cons_zero, List.set_cons_succ]
                refine wpAnyT_pure (i := 3) (oi := ⟨_, _, _, _, _, _⟩) (v := ?_) rfl (by kernel_rfl) (by kernel_rfl) (by kernel_rfl) (fun _ _ _ h => h) (by kernel_rfl) (Or.inl ⟨by rfl, ?_⟩) (by assumption) ?_
                rotate_left
                · (intro wS hSw; (try dsimp only at hSw); go_simp <;> with_reducible rfl)
                try simp only [Act.put, List.setIfInBounds_toArray, List.set_cons_zero, List.set_cons_succ]
                refine wpAnyT_pure (i := 5) (oi := ⟨_, _, _, _, _, _⟩) (v := ?_) rfl (by kernel_rfl) (by kernel_rfl) (by kernel_rfl) (fun _ _ _ h => h) (by kernel_rfl) (Or.inl ⟨by rfl, ?_⟩) (by assumption) ?_
                rotate_left
                · (intro wS hSw; (try dsimp only at hSw); go_simp <;> with_reducible rfl)
                try simp only [Act.put, List.setIfInBounds_toArray, List.set_cons_zero, List.set_cons_succ]
                refine wpAnyT_pure (i := 6) (oi := ⟨_, _, _, _, _, _⟩) (v := ?_) rfl (by kernel_rfl) (by kernel_rfl) (by kernel_rfl) (fun _ _ _ h => h) (by kernel_rfl) (Or.inl ⟨by rfl, ?_⟩) (by assumption) ?_
                rotate_left
                · (intro wS hSw; (try dsimp only at hSw); go_simp <;> with_reducible rfl)
                try simp only [Act.put, List.setIfInBounds_toArray, List.set_cons_zero, List.set_cons_succ]
                refine wpAnyT_pure (i := 7) (oi := ⟨_, _, _, _, _, _⟩) (v := ?_) rfl (by kernel_rfl) (by kernel_rfl) (by kernel_rfl) (fun _ _ _ h => h) (by kernel_rfl) (Or.inl ⟨by rfl, ?_⟩) (by assumption) ?_
                rotate_left
                · (intro wS hSw; (try dsimp only at hSw); go_simp <;> with_reducible rfl)
                try simp only [Act.put, List.setIfInBounds_toArray, List.set_cons_zero, List.set_cons_succ]
                refine wpAnyT_pure (i := 9) (oi := ⟨_, _, _, _, _, _⟩) (v := ?_) rfl (by kernel_rfl) (by kernel_rfl) (by kernel_rfl) (fun _ _ _ h => h) (by kernel_rfl) (Or.inl ⟨by rfl, ?_⟩) (by assumption) ?_
                rotate_left
                · (intro wS hSw; (try dsimp only at hSw); go_simp <;> with_reducible rfl)
                try simp only [Act.put, List.setIfInBounds_toArray, List.set_cons_zero, List.set_cons_succ]
                refine wpAnyT_pure (i := 10) (oi := ⟨_, _, _, _, _, _⟩) (v := ?_) rfl (by kernel_rfl) (by kernel_rfl) (by kernel_rfl) (fun _ _ _ h => h) (by kernel_rfl) (Or.inl ⟨by rfl, ?_⟩) (by assumption) ?_
                rotate_left
                · (intro wS hSw; (try dsimp only at hSw); go_simp <;> with_reducible rfl)
                try simp only [Act.put, List.setIfInBounds_toArray, List.set_cons_zero, List.set_cons_succ]
                refine wpAnyT_pure (i := 11) (oi := ⟨_, _, _, _, _, _⟩) (v := ?_) rfl (by kernel_rfl) (by kernel_rfl) (by kernel_rfl) (fun _ _ _ h => h) (by kernel_rfl) (Or.inl ⟨by rfl, ?_⟩) (by assumption) ?_
                rotate_left
                · (intro wS hSw; (try dsimp only at hSw); go_simp <;> with_reducible rfl)
                try simp only [Act.put, List.setIfInBounds_toArray, List.set_cons_zero, List.set_cons_succ]
                refine wpAnyT_pure (i := 14) (oi := ⟨_, _, _, _, _, _⟩) (v := ?_) rfl (by kernel_rfl) (by kernel_rfl) (by kernel_rfl) (fun _ _ _ h => h) (by kernel_rfl) (Or.inl ⟨by rfl, ?_⟩) (by assumption) ?_
                rotate_left
                · (intro wS hSw; (try dsimp only at hSw); go_simp <;> with_reducible rfl)
                try simp only [Act.put, List.setIfInBounds_toArray, List.set_cons_zero, List.set_cons_succ]
                refine wpAnyT_take (i := 4) (oi := ⟨_, _, _, _, _, _⟩) (v := ?_) rfl (by kernel_rfl) (by kernel_rfl) (by kernel_rfl) (fun _ _ _ h => h) (by kernel_rfl) (Or.inl ⟨by rfl, ?_⟩) (by assumption) ?_
                rotate_left
                · (intro wS hSw; (try dsimp only at hSw); go_simp <;> with_reducible rfl)
                try simp only [Act.put, List.setIfInBounds_toArray, List.set_cons_zero, List.set_cons_succ]
                refine wpAnyT_take (i := 8) (oi := ⟨_, _, _, _, _, _⟩) (v := ?_) rfl (by kernel_rfl) (by kernel_rfl) (by kernel_rfl) (fun _ _ _ h => h) (by kernel_rfl) (Or.inl ⟨by rfl, ?_⟩) (by assumption) ?_
                rotate_left
                · (intro wS hSw; (try dsimp only at hSw); go_simp <;> with_reducible rfl)
                try simp only [Act.put, List.setIfInBounds_toArray, List.set_cons_zero, List.set_cons_succ]
                refine wpAnyT_take (i := 12) (oi := ⟨_, _, _, _, _, _⟩) (v := ?_) rfl (by kernel_rfl) (by kernel_rfl) (by kernel_rfl) (fun _ _ _ h => h) (by kernel_rfl) (Or.inl ⟨by rfl, ?_⟩) (by assumption) ?_
                rotate_left
                · (intro wS hSw; (try dsimp only at hSw); go_simp <;> with_reducible rfl)
                try simp only [Act.put, List.setIfInBounds_toArray, List.set_cons_zero, List.set_cons_succ]
                refine wpAnyT_ready (rs := [13]) (by kernel_rfl) (by simp) ?_
                refine (AllReadyT.cons (o := ⟨_, _, _, _, _, _⟩) rfl (fun K hK => ?_) AllReadyT.nil)
                go_simp
                refine hK.out _ _ (by (try dsimp only); exact HSE.out) (fun hHeld => ?_)
                clear hK K
                try simp only [Act.put, List.setIfInBounds_toArray, List.set_cons_zero, List.set_cons_succ]
                refine wpAnyT_ready (rs := [15]) (by kernel_rfl) (by simp) ?_
                refine (AllReadyT.past (o := ⟨_, _, _, _, _, _⟩) rfl (by kernel_rfl) (fun K hK => ?_) AllReadyT.nil)
                refine lk_step_store_row rfl 53 (.tmp 5) (.tmp 185) rfl (W.heap.size + 1) (lpCells s1.me s1.peer 0 (c : Nat) 0 0) rfl rfl 53 (lpCells 0 0 0 0 0 0) HRM.out.z bg_infoP rfl (PR.one (p := ⟨s1.me, s1.peer, 0, (c : Nat), LR.light 0 0⟩) (light_sl _ _)) ?_
                refine hK.out _ _ ?_
                clear hK K
                try simp only [Act.put]
                refine wpAnyT_ready (rs := [16]) (by kernel_rfl) (by simp) ?_
                refine (AllReadyT.past (o := ⟨_, _, _, _, _, _⟩) rfl (by kernel_rfl) (fun K hK => ?_) AllReadyT.nil)
                go_simp
                refine hK.out _ _ ?_
                clear hK K
                try simp only [Act.put, List.setIfInBounds_toArray, List.set_cons_zero, List.set_cons_succ]
                refine wpAnyT_done (by kernel_rfl) ?_ _
                go_wp2_with fail
                refine bodyPost_ret (bg_results3 rfl _ _ (W.heap.size + 1) (lpCells s1.me s1.peer 0 (c : Nat) 0 0) (.bool true) (.slice T m2 cT) rfl rfl rfl (bg_loadVar _ _ _ rfl (bg_row _ HRM.out.z))) rfl ?_
                exact rgot_end HRM.out HGO.out HST.out HS1.out HME.out HFB.out HXW.out (((Touch.refl _ wr).drew).trans (bg_touch _ _ _) (fun x hx => .inl hx))

          · have hS3 := HSS.out _ (((Below.refl wd.heap.size wd).drew).alloc (Nat.le_refl _) (.cells p.cells 53))
            go_simp
            refine hK.out _ _ (by (try dsimp only); first | assumption | exact HSS.out _ (Below.refl _ _).drew) (fun hHeld => ?_)
            clear hK K
            try simp only [Act.put, List.setIfInBounds_toArray, List.set_cons_zero, List.set_cons_succ]
            refine wpAnyT_ready (rs := [5]) (by kernel_rfl) (by simp) ?_
            refine (AllReadyT.cons (o := ⟨_, _, _, _, _, _⟩) rfl (fun K hK => ?_) AllReadyT.nil)
            refine step_append_any rfl (.const (.slice none 0 0)) (.tmp 113) 28 rfl 0 53 iP (.agg (lpCells 0 0 0 0 0 0)) 25 272 Try.underlying28 hiP hzP hsP hbP rfl (by decide) (.slice none 0 0) 0 [] rfl (World.ownsRow_nil _ _ _ _) (.slice AK kn cK) kn (rowC PR.cells s.kept) rfl (From.own (lk_below HKD.out (((Below.refl wd.heap.size wd).drew).alloc (Nat.le_refl _) (.cells p.cells 53)))) HOK1.out (by unfold maxLen; omega) (by omega) (Nat.zero_le _) ?_
            intro A4 c4 w4b ho4 hg4 hs4
            simp only [Nat.zero_add, List.nil_append] at ho4 hs4 ⊢
            have HB4 : Hid (Below wd.heap.size wd w4b) := (((Below.refl wd.heap.size wd).drew).alloc (Nat.le_refl _) (.cells p.cells 53)).grown hg4 (by simp) (fun z hz => by cases hz)
            have hS4 := HSS.out w4b HB4.out
            have hN4 : ∀ q, (Value.slice A4 kn c4).ownBlock = some q → wd.drew.heap.size + 1 ≤ q := fun q hq => by
              rcases hs4 q hq with z | z
              · cases z
              · (try simp at z ⊢); omega
            have HN4 := Lib.hid hN4
            have HO4 := Lib.hid ho4
            have HE4 := Lib.hid ((hg4.block wd.drew.heap.size (by simp) (fun z => by cases z)).trans (heap_alloc_new wd.drew (.cells p.cells 53)))
            clear ho4 hg4 hs4 hN4
            refine hK.out _ _ (by (try dsimp only); first | assumption | exact HSS.out _ (Below.refl _ _).drew) (fun hHeld => ?_)
            clear hK K
            try simp only [Act.put, List.setIfInBounds_toArray, List.set_cons_zero, List.set_cons_succ]
            refine wpAnyT_ready (rs := [8]) (by kernel_rfl) (by simp) ?_
            refine (AllReadyT.cons (o := ⟨_, _, _, _, _, _⟩) rfl (fun K hK => ?_) AllReadyT.nil)
            refine step_append_any rfl (.tmp 114) (.tmp 116) 28 rfl 0 53 iP (.agg (lpCells 0 0 0 0 0 0)) 25 272 Try.underlying28 hiP hzP hsP hbP rfl (by decide) (.slice A4 kn c4) kn (rowC PR.cells s.kept) rfl HO4.out (.slice (some ⟨wd.drew.heap.size, 0, none⟩) 1 1) 1 (rowC PR.cells [p]) rfl (.inr ⟨⟨wd.drew.heap.size, 0, none⟩, 1, rfl, rfl, row_new_at HE4.out⟩) (rowC_all (enc := PR.cells) (l := [p]) (fun x hx => by simp at hx; subst hx; exact HOR.out)) (by unfold maxLen; omega) (by omega) (Nat.zero_le _) ?_
            intro A5 c5 w5 ho5 hg5 hs5
            have HB5 : Hid (Below wd.heap.size wd w5) := HB4.out.grown hg5 (by have := HB4.out.size; (try simp); omega) (fun z hz => by have := HN4.out z hz; (try simp at this); omega)
            have hS5 := HSS.out w5 HB5.out
            have HO5 := Lib.hid ho5
            have HN5 : Hid (∀ q, (Value.slice A5 (kn + 1) c5).ownBlock = some q → wd.heap.size ≤ q) := fun q hq => by
              rcases hs5 q hq with z | z
              · have := HN4.out q z; (try simp at this); omega
              · have := HB4.out.size; (try simp at z); omega
            clear ho5 hg5 hs5
            refine hK.out _ _ (by (try dsimp only); first | assumption | exact HSS.out _ (Below.refl _ _).drew) (fun hHeld => ?_)
            clear hK K
            try simp only [Act.put, List.setIfInBounds_toArray, List.set_cons_zero, List.set_cons_succ]
            refine wpAnyT_pure (i := 9) (oi := ⟨_, _, _, _, _, _⟩) (v := ?_) rfl (by kernel_rfl) (by kernel_rfl) (by kernel_rfl) (fun _ _ _ h => h) (by kernel_rfl) (Or.inl ⟨by rfl, ?_⟩) (by assumption) ?_
            rotate_left
            · (intro wS hSw; (try dsimp only at hSw); go_simp <;> with_reducible rfl)
            try simp only [Act.put, List.setIfInBounds_toArray, List.set_cons_zero, List.set_cons_succ]
            refine wpAnyT_pure (i := 10) (oi := ⟨_, _, _, _, _, _⟩) (v := ?_) rfl (by kernel_rfl) (by kernel_rfl) (by kernel_rfl) (fun _ _ _ h => h) (by kernel_rfl) (Or.inl ⟨by rfl, ?_⟩) (by assumption) ?_
            rotate_left
            · (intro wS hSw; (try dsimp only at hSw); go_simp <;> with_reducible rfl)
            try simp only [Act.put, List.setIfInBounds_toArray, List.set_cons_zero, List.set_cons_succ]
            refine wpAnyT_ready (rs := [11]) (by kernel_rfl) (by simp) ?_
            refine (AllReadyT.past (o := ⟨_, _, _, _, _, _⟩) rfl (by kernel_rfl) (fun K hK => ?_) AllReadyT.nil)
            have f5 : w5.frozen? ⟨g, 5, none⟩ = false := HFR.out w5 HB5.out
            go_simp
            refine hK.out _ _ ?_
            clear hK K
            try simp only [Act.put]
            refine wpAnyT_done (by kernel_rfl) ?_ _
            obtain ⟨w6, hw6⟩ : ∃ w6, w5.setCell ⟨g, 5, none⟩ (.slice A5 (kn + 1) c5) = w6 := ⟨_, rfl⟩
            have e5 := (HB5.out.block g (bg_lt HXD.out.hg)).trans HXD.out.hg
            have T6 : Touch [g] w5 w6 := by rw [← hw6]; exact (Touch.refl _ _).set (.inl (by simp)) _
            have HX6 : Hid (RLX w6 g {s.known p.a with kept := s.kept ++ [p]} (.slice B m cB) (.slice A5 (kn + 1) c5)) := by
              refine ⟨?_, T6.row (lk_below HXD.out.v HB5.out) (fun q hq z => by have := HXD.out.gv q hq; simp at z; exact this z), ?_, HXD.out.gv, fun q hq z => ?_, fun q hq z => ?_⟩
              · rw [← hw6]
                simp [World.setCell, Array.getElem?_modify, e5]
              · have h5 := T6.row HO5.out (fun q hq z => by have := HN5.out q hq; have := bg_lt HXD.out.hg; simp at z; omega)
                rw [← rowC_append] at h5
                show w6.ownsRow 0 _ 25 _ (s.kept ++ [p]).length (rowC PR.cells (s.kept ++ [p]))
                rw [List.length_append, HKN.out]
                exact h5
              · have := HN5.out q hq; have := bg_lt HXD.out.hg; omega
              · have := HN5.out q z; have := (HXD.out.v.lt q hq).2; omega
            have HT6 : Hid (Touch [g] W w6) := (HTD.out.trans (Touch.ofBelow (F := []) HB5.out) (by simp)).trans T6 (fun x hx => .inl hx)
            have HZ6 : Hid (w6.heap[W.heap.size + 1]? = some (.cells (lpCells 0 0 0 0 0 0) 53)) := (T6.block _ (Nat.lt_of_lt_of_le (bg_lt HZD.out) HB5.out.size) (by simp; omega)).trans ((HB5.out.block _ (bg_lt HZD.out)).trans HZD.out)
            have HK6 : Hid (∀ q, (Value.slice A5 (kn + 1) c5).ownBlock = some q → W.heap.size + 2 ≤ q ∨ K.ownBlock = some q) := fun q hq => .inl (by have := HN5.out q hq; have := bg_lt HZD.out; omega)
            rw [hw6]
            clear hw6 e5 T6
            obtain ⟨s1, hs1⟩ : ∃ s1, {s.known p.a with kept := s.kept ++ [p]} = s1 := ⟨_, rfl⟩
            have HS1 : Hid (s.took p = s1) := by rw [← hs1]; unfold RL.took; rw [if_pos HKB.out]; exact rfl
            have HL1 : Hid (s1.kept.length = kn + 1 ∧ ∀ x ∈ s1.kept, x.r.sl) := by
              rw [← hs1]
              refine ⟨by show (s.kept ++ [p]).length = _; rw [List.length_append, HKN.out]; rfl, fun x hx => ?_⟩
              rcases List.mem_append.1 hx with z | z
              · exact HSK.out x z
              · simp at z; subst z; exact HPS.out
            obtain ⟨N1, hN1⟩ : ∃ N1, kn + 1 = N1 := ⟨_, rfl⟩
            rw [hs1] at HX6
            rw [hN1] at HX6 HL1 HK6
            have hNb : N1 ≤ 1000000 := by omega
            have hc1 : s1.came ≤ 1000000 := by rw [← hs1]; exact hcb
            have hme : s1.me = s.me ∧ s1.peer = s.peer := by rw [← hs1]; exact ⟨rfl, rfl⟩
            obtain ⟨A1, hA1⟩ : ∃ A1, A5 = A1 := ⟨_, rfl⟩
            obtain ⟨c1, hc5⟩ : ∃ c1, c5 = c1 := ⟨_, rfl⟩
            rw [hA1, hc5] at HX6 HK6
            have HME := Lib.hid hme
            clear hs1 hN1 hA1 hc5 hme
            have c4 : w6.cell? ⟨g, 4, none⟩ = some (.int .i64 (s1.came : Nat)) := bg_cell HX6.out.hg rfl
            have hz1 : IntKind.i64.wrap ((s1.came : Int) + 1) = (s1.came : Int) + 1 := by rw [IntKind.wrap_i64]; omega
            have CK6 := Lib.hid (refKept_any HX6.out (by rw [HL1.out.1]; exact hNb) ((s1.came : Int) + 1))
            go_wp2_with ((go_at_call 34; (with_reducible refine (CK6.out).mono ?_); rintro e wz ⟨rfl, rfl⟩))
            clear c4 hz1
            have HXW : Hid (RLX W g s (.slice A n c) K) := H
            go_loopg [9, 10] (N1 + 1) (fun gh s9 s10 wx => ∃ (c n2 m2 : Nat) (T : Option Addr) (ts : List LR) (ks : List PR) (cT : Nat) (KA : Option Addr) (kc : Nat), gh = n2 + 1 ∧ m2 + n2 ≤ N1 ∧ c + n2 ≤ 2000000 ∧ s9 = .slice T m2 cT ∧ s10 = .int .i64 (keptAt ks ((c : Int) + 1)) ∧ Hid (RfM W wx g s1 (.slice B m cB) K c n2 ks (.slice KA n2 kc) m2 (.slice T m2 cT) ts) ∧ Hid (∀ us c' ks', RFol c ks us c' ks' → RFol s1.came s1.kept (ts ++ us) c' ks'))
            case atStart => exact ⟨s1.came, N1, 0, none, [], s1.kept, 0, A1, c1, rfl, by omega, by omega, rfl, rfl, ⟨HX6.out, HL1.out.1, rfl, HT6.out, World.ownsRow_nil _ _ _ _, HK6.out, HFB.out, (fun q hq => by cases hq), HZ6.out, HL1.out.2, by simp⟩, fun _ _ _ z => z⟩
            case round =>
              obtain ⟨c, n2, m2, T, ts, ks, cT, KA, kc, hgk, hmn, hNc, rfl, rfl, HRM, HGO⟩ := hrel
              rcases keptAt_cases ks ((c : Int) + 1) with ⟨i, p2, h1, h2, h3, h4⟩ | ⟨h4, h3⟩
              · rw [h4]
                have hiN : i < n2 := by have := (List.getElem?_eq_some_iff.1 h1).1; have := HRM.out.nk; omega
                obtain ⟨kb, rfl⟩ := lk_at (by have h5 := HRM.out.x.k; have h6 : _ = n2 := HRM.out.nk; show wr.ownsRow 0 _ 25 (.slice KA n2 kc) n2 (rowC PR.cells ks); rw [← h6]; rw [← h6] at h5; exact h5) (show 0 < n2 by omega)
                have hrow : wr.ownsRow 0 53 25 (.slice (some ⟨kb, 0, none⟩) n2 kc) n2 (rowC PR.cells ks) := HRM.out.krow
                have HRA := Lib.hid (mid_range (row_rangeE pE_size hrow h1) (pE_letter p2))
                have HPO : Hid (p2.r.cells.all (·.oneCell') = true) := LR.one (HRM.out.sl p2 (List.mem_of_getElem? h1))
                have c5 : wr.cell? ⟨g, 5, none⟩ = some (.slice (some ⟨kb, 0, none⟩) n2 kc) := bg_cell HRM.out.x.hg rfl
                have hszL2 := hszL p2.r
                have HI2 := Lib.hid h1
                have HE2 : Hid (p2.s = ((c + 1 : Nat) : Int)) := by rw [h2]; exact rfl
                have HF2 : Hid (∀ (j : Nat) (y : PR), j < i → ks[j]? = some y → y.s ≠ ((c + 1 : Nat) : Int)) := fun j y hj hy e => h3 j y hj hy (by rw [e]; rfl)
                have di : decide ((0 : Int) ≤ (i : Int)) = true := by simp
                have ii : (i : Int) < (n2 : Int) := by omega
                clear h1 h2 h3 h4 hrow
                go_upto_region 19 with (first
                  | (refine wpList_load_mid rfl 51 (.tmp 143) rfl kb (i * 25 + 4) rfl p2.r.cells.toList _ HRA.out Try.underlying51 rfl hszL2 ?_)
                  | (at_builtin; go_must (refine wpList_append_any rfl (.tmp 136) (.tmp 145) 59 rfl (W.heap.size + 2) 51 iL (.agg (ltCells 0 0)) 21 240 Try.underlying59 hiL hzL hsL hbL rfl (by decide) (.slice T m2 cT) m2 (rowC LR.cells ts) rfl (HRM.out.row.alloc _) (.slice (some ⟨wr.heap.size, 0, none⟩) 1 1) 1 (rowC LR.cells [p2.r]) rfl (.inr ⟨⟨wr.heap.size, 0, none⟩, 1, rfl, rfl, lk_new_row wr p2.r.cells _⟩) (rowC_all (enc := LR.cells) (l := [p2.r]) (fun y hy => by simp at hy; subst hy; exact HPO.out)) (by unfold maxLen; omega) (by omega) (by have := bg_lt HRM.out.z; simp; omega) ?_); intro T5 cT5 w8 ho8 hg8 hs8; have HP8 := Lib.hid (HRM.out.told (List.mem_of_getElem? HI2.out) ho8 hg8 hs8); clear ho8 hg8 hs8))
                have HK8 : Hid (w8.ownsRow 0 53 25 (.slice (some ⟨kb, 0, none⟩) n2 kc) n2 (rowC PR.cells ks)) := HP8.out.krow
                have HO1T : Hid (∀ u ∈ rowC PR.cells (ks.take i), u.oneCell' = true) := rowC_all fun x hx => PR.one (HP8.out.sl x (List.mem_of_mem_take hx))
                have HO1D : Hid (∀ u ∈ rowC PR.cells (ks.drop (i + 1)), u.oneCell' = true) := rowC_all fun x hx => PR.one (HP8.out.sl x (List.mem_of_mem_drop hx))
                have HSS2 : Hid (∀ w', Below w8.heap.size w8 w' → w'.cell? ⟨g, 5, none⟩ = some (.slice (some ⟨kb, 0, none⟩) n2 kc)) := fun w' hb => bg_cell ((hb.block g (bg_lt HP8.out.x.hg)).trans HP8.out.x.hg) rfl
                have HFR2 : Hid (∀ w', Below w8.heap.size w8 w' → w'.frozen? ⟨g, 5, none⟩ = false) := fun w' hb => Lib.frozen_of_heap ((hb.block g (bg_lt HP8.out.x.hg)).trans HP8.out.x.hg) 5
                have hk0 := row_capP HK8.out
                have i3 : (i : Int) + 1 ≤ (n2 : Int) := by omega
                have i4 : i ≤ kc := by omega
                have i5 : 0 ≤ (i : Int) + 1 := by omega
                have i6 : i + 1 ≤ kc := by omega
                have z1 : IntKind.i64.wrap ((i : Int) + 1) = (i : Int) + 1 := by rw [IntKind.wrap_i64]; omega
                have z6 : ((i : Int) + 1).toNat = i + 1 := by omega
                clear c5
                refine wp_region_till (fun w' => w'.cell? ⟨g, 5, none⟩ = some (.slice (some ⟨kb, 0, none⟩) n2 kc)) 18 (by kernel_rfl) ?_ (fun hHeld => ?_)
                · (try dsimp only); exact HSS2.out _ (Below.refl _ _).drew
                refine wpAnyT_pure (i := 0) (oi := ⟨_, _, _, _, _, _⟩) (v := ?_) rfl (by kernel_rfl) (by kernel_rfl) (by kernel_rfl) (fun _ _ _ h => h) (by kernel_rfl) (Or.inl ⟨by rfl, ?_⟩) (by assumption) ?_
                rotate_left
                · (intro wS hSw; (try dsimp only at hSw); go_simp <;> with_reducible rfl)
                try simp only [Act.put, List.setIfInBounds_toArray, List.set_cons_zero, List.set_cons_succ]
                refine wpAnyT_pure (i := 1) (oi := ⟨_, _, _, _, _, _⟩) (v := ?_) rfl (by kernel_rfl) (by kernel_rfl) (by kernel_rfl) (fun _ _ _ h => h) (by kernel_rfl) (Or.inl ⟨by rfl, ?_⟩) (by assumption) ?_
                rotate_left
                · (intro wS hSw; (try dsimp only at hSw); go_simp <;> with_reducible rfl)
                try simp only [Act.put, List.setIfInBounds_toArray, List.set_cons_zero, List.set_cons_succ]
                refine wpAnyT_pure (i := 2) (oi := ⟨_, _, _, _, _, _⟩) (v := ?_) rfl (by kernel_rfl) (by kernel_rfl) (by kernel_rfl) (fun _ _ _ h => h) (by kernel_rfl) (Or.inl ⟨by rfl, ?_⟩) (by assumption) ?_
                rotate_left
                · (intro wS hSw; (try dsimp only at hSw); go_simp <;> with_reducible rfl)
                try simp only [Act.put, List.setIfInBounds_toArray, List.set_cons_zero, List.set_cons_succ]
                refine wpAnyT_pure (i := 3) (oi := ⟨_, _, _, _, _, _⟩) (v := ?_) rfl (by kernel_rfl) (by kernel_rfl) (by kernel_rfl) (fun _ _ _ h => h) (by kernel_rfl) (Or.inl ⟨by rfl, ?_⟩) (by assumption) ?_
                rotate_left
                · (intro wS hSw; (try dsimp only at hSw); go_simp <;> with_reducible rfl)
                try simp only [Act.put, List.setIfInBounds_toArray, List.set_cons_zero, List.set_cons_succ]
                refine wpAnyT_pure (i := 5) (oi := ⟨_, _, _, _, _, _⟩) (v := ?_) rfl (by kernel_rfl) (by kernel_rfl) (by kernel_rfl) (fun _ _ _ h => h) (by kernel_rfl) (Or.inl ⟨by rfl, ?_⟩) (by assumption) ?_
                rotate_left
                · (intro wS hSw; (try dsimp only at hSw); go_simp <;> with_reducible rfl)
                try simp only [Act.put, List.setIfInBounds_toArray, List.set_cons_zero, List.set_cons_succ]
                refine wpAnyT_pure (i := 8) (oi := ⟨_, _, _, _, _, _⟩) (v := ?_) rfl (by kernel_rfl) (by kernel_rfl) (by kernel_rfl) (fun _ _ _ h => h) (by kernel_rfl) (Or.inl ⟨by rfl, ?_⟩) (by assumption) ?_
                rotate_left
                · (intro wS hSw; (try dsimp only at hSw); go_simp <;> with_reducible rfl)
                try simp only [Act.put, List.setIfInBounds_toArray, List.set_cons_zero, List.set_cons_succ]
                refine wpAnyT_pure (i := 9) (oi := ⟨_, _, _, _, _, _⟩) (v := ?_) rfl (by kernel_rfl) (by kernel_rfl) (by kernel_rfl) (fun _ _ _ h => h) (by kernel_rfl) (Or.inl ⟨by rfl, ?_⟩) (by assumption) ?_
                rotate_left
                · (intro wS hSw; (try dsimp only at hSw); go_simp <;> with_reducible rfl)
                try simp only [Act.put, List.setIfInBounds_toArray, List.set_cons_zero, List.set_cons_succ]
                refine wpAnyT_pure (i := 10) (oi := ⟨_, _, _, _, _, _⟩) (v := ?_) rfl (by kernel_rfl) (by kernel_rfl) (by kernel_rfl) (fun _ _ _ h => h) (by kernel_rfl) (Or.inl ⟨by rfl, ?_⟩) (by assumption) ?_
                rotate_left
                · (intro wS hSw; (try dsimp only at hSw); go_simp <;> with_reducible rfl)
                try simp only [Act.put, List.setIfInBounds_toArray, List.set_cons_zero, List.set_cons_succ]
                refine wpAnyT_pure (i := 12) (oi := ⟨_, _, _, _, _, _⟩) (v := ?_) rfl (by kernel_rfl) (by kernel_rfl) (by kernel_rfl) (fun _ _ _ h => h) (by kernel_rfl) (Or.inl ⟨by rfl, ?_⟩) (by assumption) ?_
                rotate_left
                · (intro wS hSw; (try dsimp only at hSw); go_simp <;> with_reducible rfl)
                try simp only [Act.put, List.setIfInBounds_toArray, List.set_cons_zero, List.set_cons_succ]
                refine wpAnyT_pure (i := 13) (oi := ⟨_, _, _, _, _, _⟩) (v := ?_) rfl (by kernel_rfl) (by kernel_rfl) (by kernel_rfl) (fun _ _ _ h => h) (by kernel_rfl) (Or.inl ⟨by rfl, ?_⟩) (by assumption) ?_
                rotate_left
                · (intro wS hSw; (try dsimp only at hSw); go_simp <;> with_reducible rfl)
                try simp only [Act.put, List.setIfInBounds_toArray, List.set_cons_zero, List.set_cons_succ]
                refine wpAnyT_take (i := 4) (oi := ⟨_, _, _, _, _, _⟩) (v := ?_) rfl (by kernel_rfl) (by kernel_rfl) (by kernel_rfl) (fun _ _ _ h => h) (by kernel_rfl) (Or.inl ⟨by rfl, ?_⟩) (by assumption) ?_
                rotate_left
                · (intro wS hSw; (try dsimp only at hSw); go_simp <;> with_reducible rfl)
                try simp only [Act.put, List.setIfInBounds_toArray, List.set_cons_zero, List.set_cons_succ]
                refine wpAnyT_pure (i := 6) (oi := ⟨_, _, _, _, _, _⟩) (v := ?_) rfl (by kernel_rfl) (by kernel_rfl) (by kernel_rfl) (fun _ _ _ h => h) (by kernel_rfl) (Or.inl ⟨by rfl, ?_⟩) (by assumption) ?_
                rotate_left
                · (intro wS hSw; (try dsimp only at hSw); go_simp <;> with_reducible rfl)
                try simp only [Act.put, List.setIfInBounds_toArray, List.set_cons_zero, List.set_cons_succ]
                refine wpAnyT_take (i := 11) (oi := ⟨_, _, _, _, _, _⟩) (v := ?_) rfl (by kernel_rfl) (by kernel_rfl) (by kernel_rfl) (fun _ _ _ h => h) (by kernel_rfl) (Or.inl ⟨by rfl, ?_⟩) (by assumption) ?_
                rotate_left
                · (intro wS hSw; (try dsimp only at hSw); go_simp <;> with_reducible rfl)
                try simp only [Act.put, List.setIfInBounds_toArray, List.set_cons_zero, List.set_cons_succ]
                refine wpAnyT_pure (i := 14) (oi := ⟨_, _, _, _, _, _⟩) (v := ?_) rfl (by kernel_rfl) (by kernel_rfl) (by kernel_rfl) (fun _ _ _ h => h) (by kernel_rfl) (Or.inl ⟨by rfl, ?_⟩) (by assumption) ?_
                rotate_left
                · (intro wS hSw; (try dsimp only at hSw); go_simp <;> with_reducible rfl)
                try simp only [Act.put, List.setIfInBounds_toArray, List.set_cons_zero, List.set_cons_succ]
                refine wpAnyT_ready (rs := [7]) (by kernel_rfl) (by simp) ?_
                refine (AllReadyT.cons (o := ⟨_, _, _, _, _, _⟩) rfl (fun K hK => ?_) AllReadyT.nil)
                refine step_append_any rfl (.const (.slice none 0 0)) (.tmp 153) 28 rfl 0 53 iP (.agg (lpCells 0 0 0 0 0 0)) 25 272 Try.underlying28 hiP hzP hsP hbP rfl (by decide) (.slice none 0 0) 0 [] rfl (World.ownsRow_nil _ _ _ _) (.slice (some ⟨kb, 0, none⟩) i kc) i (rowC PR.cells (ks.take i)) rfl (part_takeP (lk_below HK8.out (Below.refl _ _).drew) (by omega)) HO1T.out (by unfold maxLen; omega) (by omega) (Nat.zero_le _) ?_
                intro A6 c6 w6b ho6 hg6 hs6
                simp only [Nat.zero_add, List.nil_append] at ho6 hs6 ⊢
                have HB6 : Hid (Below w8.heap.size w8 w6b) := ((Below.refl _ w8).drew).grown hg6 (by simp) (fun z hz => by cases hz)
                have hS6 := HSS2.out w6b HB6.out
                have HN6 : Hid (∀ q, (Value.slice A6 i c6).ownBlock = some q → w8.heap.size ≤ q) := fun q hq => by
                  rcases hs6 q hq with z | z
                  · cases z
                  · (try simp at z ⊢); omega
                have HO6 := Lib.hid ho6
                clear ho6 hg6 hs6
                refine hK.out _ _ (by (try dsimp only); first | assumption | exact HSS2.out _ (Below.refl _ _).drew) (fun hHeld => ?_)
                clear hK K
                try simp only [Act.put, List.setIfInBounds_toArray, List.set_cons_zero, List.set_cons_succ]
                refine wpAnyT_ready (rs := [15]) (by kernel_rfl) (by simp) ?_
                refine (AllReadyT.cons (o := ⟨_, _, _, _, _, _⟩) rfl (fun K hK => ?_) AllReadyT.nil)
                refine step_append_any rfl (.tmp 154) (.tmp 161) 28 rfl 0 53 iP (.agg (lpCells 0 0 0 0 0 0)) 25 272 Try.underlying28 hiP hzP hsP hbP rfl (by decide) (.slice A6 i c6) i (rowC PR.cells (ks.take i)) rfl HO6.out (.slice (if kc = i + 1 then some ⟨kb, 0, none⟩ else some ⟨kb, (i + 1) * 25, none⟩) (n2 - (i + 1)) (kc - (i + 1))) (n2 - (i + 1)) (rowC PR.cells (ks.drop (i + 1))) rfl (part_anyP (lk_below HK8.out HB6.out) (by omega)) HO1D.out (by unfold maxLen; omega) (by omega) (Nat.zero_le _) ?_
                intro A7 c7 w7 ho7 hg7 hs7
                have HB7 : Hid (Below w8.heap.size w8 w7) := HB6.out.grown hg7 HB6.out.size (fun z hz => HN6.out z hz)
                have hS7 := HSS2.out w7 HB7.out
                have HN7 : Hid (∀ q, (Value.slice A7 (i + (n2 - (i + 1))) c7).ownBlock = some q → w8.heap.size ≤ q) := fun q hq => by
                  rcases hs7 q hq with z | z
                  · exact HN6.out q z
                  · have := HB6.out.size; omega
                have HO7 := Lib.hid ho7
                clear ho7 hg7 hs7
                refine hK.out _ _ (by (try dsimp only); first | assumption | exact HSS2.out _ (Below.refl _ _).drew) (fun hHeld => ?_)
                clear hK K
                try simp only [Act.put, List.setIfInBounds_toArray, List.set_cons_zero, List.set_cons_succ]
                refine wpAnyT_pure (i := 16) (oi := ⟨_, _, _, _, _, _⟩) (v := ?_) rfl (by kernel_rfl) (by kernel_rfl) (by kernel_rfl) (fun _ _ _ h => h) (by kernel_rfl) (Or.inl ⟨by rfl, ?_⟩) (by assumption) ?_
                rotate_left
                · (intro wS hSw; (try dsimp only at hSw); go_simp <;> with_reducible rfl)
                try simp only [Act.put, List.setIfInBounds_toArray, List.set_cons_zero, List.set_cons_succ]
                refine wpAnyT_pure (i := 17) (oi := ⟨_, _, _, _, _, _⟩) (v := ?_) rfl (by kernel_rfl) (by kernel_rfl) (by kernel_rfl) (fun _ _ _ h => h) (by kernel_rfl) (Or.inl ⟨by rfl, ?_⟩) (by assumption) ?_
                rotate_left
                · (intro wS hSw; (try dsimp only at hSw); go_simp <;> with_reducible rfl)
                try simp only [Act.put, List.setIfInBounds_toArray, List.set_cons_zero, List.set_cons_succ]
                refine wpAnyT_ready (rs := [18]) (by kernel_rfl) (by simp) ?_
                refine (AllReadyT.past (o := ⟨_, _, _, _, _, _⟩) rfl (by kernel_rfl) (fun K hK => ?_) AllReadyT.nil)
                have f5 : w7.frozen? ⟨g, 5, none⟩ = false := HFR2.out w7 HB7.out
                go_simp
                refine hK.out _ _ ?_
                clear hK K
                try simp only [Act.put]
                refine wpAnyT_done (by kernel_rfl) ?_ _
                generalize (if kc = i + 1 then (some ⟨kb, 0, none⟩ : Option Addr) else some ⟨kb, (i + 1) * 25, none⟩) = zA
                have hrf := (HP8.out.cutK HB7.out HO7.out HN7.out hNc hiN).setCame (c + 1)
                obtain ⟨n3, hn3⟩ : ∃ n3, i + (n2 - (i + 1)) = n3 := ⟨_, rfl⟩
                have hn3b : n3 + 1 = n2 := by omega
                rw [hn3] at hrf ⊢
                have hz1 : IntKind.i64.wrap ((c : Int) + 1) = (c : Int) + 1 := by rw [IntKind.wrap_i64]; omega
                have hz2 : IntKind.i64.wrap ((c : Int) + 1 + 1) = (c : Int) + 1 + 1 := by rw [IntKind.wrap_i64]; omega
                obtain ⟨w9, hw9⟩ : ∃ w9, w7.setCell ⟨g, 5, none⟩ (.slice A7 n3 c7) = w9 := ⟨_, rfl⟩
                have e9 : w9.heap[g]? = some (.cells (rlCells {s1 with came := c, kept := ks.take i ++ ks.drop (i + 1)} (.slice B m cB) (.slice A7 n3 c7)) 30) := by
                  have e8 := (HB7.out.block g (bg_lt HP8.out.x.hg)).trans HP8.out.x.hg
                  rw [← hw9]
                  simp [World.setCell, Array.getElem?_modify, e8]
                rw [hw9] at hrf ⊢
                have HRF := Lib.hid hrf
                have c49 : w9.cell? ⟨g, 4, none⟩ = some (.int .i64 (c : Nat)) := bg_cell e9 rfl
                have f49 : w9.frozen? ⟨g, 4, none⟩ = false := Lib.frozen_of_heap e9 4
                have CK9 : Hid (Calls Try.prog 34 #[.pointer (some ⟨g, 0, none⟩), .int .i64 ((c : Int) + 1 + 1)] (w9.setCell ⟨g, 4, none⟩ (.int .i64 ((c : Int) + 1))) fun e w' => e = .returned (.int .i64 (keptAt (ks.take i ++ ks.drop (i + 1)) ((c : Int) + 1 + 1))) ∧ w' = w9.setCell ⟨g, 4, none⟩ (.int .i64 ((c : Int) + 1))) := (refKept_any hrf.x (by show (ks.take i ++ ks.drop (i + 1)).length ≤ _; rw [hrf.nk]; omega) ((c : Int) + 1 + 1))
                clear hw9 e9 hrf
                go_wp2_with ((go_at_call 34; (with_reducible refine (CK9.out).mono ?_); rintro e wz ⟨rfl, rfl⟩))
                go_roundg (gk - 1)
                case measure => omega
                case rel => exact ⟨c + 1, n3, m2 + 1, T5, ts ++ [p2.r], ks.take i ++ ks.drop (i + 1), cT5, A7, c7, by omega, by omega, by omega, rfl, rfl, HRF.out, fun us c' ks' hf => by
                  rw [List.append_assoc]
                  exact HGO.out _ _ _ (.step HI2.out HE2.out HF2.out hf)⟩
              · rw [h4]
                have HST : Hid (RFol c ks [] c ks) := .stop fun x hx e => h3 x hx (by rw [e]; rfl)
                have HSE : Hid (wr.drew.cell? ⟨g, 0, none⟩ = some (.int .i64 s1.me) ∧ wr.drew.cell? ⟨g, 1, none⟩ = some (.int .i64 s1.peer) ∧ wr.drew.cell? ⟨g, 4, none⟩ = some (.int .i64 (c : Nat))) := ⟨bg_cell HRM.out.x.hg rfl, bg_cell HRM.out.x.hg rfl, bg_cell HRM.out.x.hg rfl⟩
                have dm : decide ((0 : Int) ≤ -1) = false := by decide
                clear h3 h4
                go_upto_region 21 with fail
                refine wp_region_till (fun w' => w'.cell? ⟨g, 0, none⟩ = some (.int .i64 s1.me) ∧ w'.cell? ⟨g, 1, none⟩ = some (.int .i64 s1.peer) ∧ w'.cell? ⟨g, 4, none⟩ = some (.int .i64 (c : Nat))) 15 (by kernel_rfl) ?_ (fun hHeld => ?_)
                · (try dsimp only); exact HSE.out
                refine wpAnyT_pure (i := 0) (oi := ⟨_, _, _, _, _, _⟩) (v := ?_) rfl (by kernel_rfl) (by kernel_rfl) (by kernel_rfl) (fun _ _ _ h => h) (by kernel_rfl) (Or.inl ⟨by rfl, ?_⟩) (by assumption) ?_
                rotate_left
                · (intro wS hSw; (try dsimp only at hSw); go_simp <;> with_reducible rfl)
                try simp only [Act.put, List.setIfInBounds_toArray, List.set_cons_zero, List.set_cons_succ]
                refine wpAnyT_pure (i := 1) (oi := ⟨_, _, _, _, _, _⟩) (v := ?_) rfl (by kernel_rfl) (by kernel_rfl) (by kernel_rfl) (fun _ _ _ h => h) (by kernel_rfl) (Or.inl ⟨by rfl, ?_⟩) (by assumption) ?_
                rotate_left
                · (intro wS hSw; (try dsimp only at hSw); go_simp <;> with_reducible rfl)
                try simp only [Act.put, List.setIfInBounds_toArray, List.set_cons_zero, List.set_cons_succ]
                refine wpAnyT_pure (i := 2) (oi := ⟨_, _, _, _, _, _⟩) (v := ?_) rfl (by kernel_rfl) (by kernel_rfl) (by kernel_rfl) (fun _ _ _ h => h) (by kernel_rfl) (Or.inl ⟨by rfl, ?_⟩) (by assumption) ?_
                rotate_left
                · (intro wS hSw; (try dsimp only at hSw); go_simp <;> with_reducible rfl)
                try simp only [Act.put, List.setIfInBounds_toArray, List.set_cons_zero, List.set_cons_succ]
                refine wpAnyT_pure (i := 3) (oi := ⟨_, _, _, _, _, _⟩) (v := ?_) rfl (by kernel_rfl) (by kernel_rfl) (by kernel_rfl) (fun _ _ _ h => h) (by kernel_rfl) (Or.inl ⟨by rfl, ?_⟩) (by assumption) ?_
                rotate_left
                · (intro wS hSw; (try dsimp only at hSw); go_simp <;> with_reducible rfl)
                try simp only [Act.put, List.setIfInBounds_toArray, List.set_cons_zero, List.set_cons_succ]
                refine wpAnyT_pure (i := 5) (oi := ⟨_, _, _, _, _, _⟩) (v := ?_) rfl (by kernel_rfl) (by kernel_rfl) (by kernel_rfl) (fun _ _ _ h => h) (by kernel_rfl) (Or.inl ⟨by rfl, ?_⟩) (by assumption) ?_
                rotate_left
                · (intro wS hSw; (try dsimp only at hSw); go_simp <;> with_reducible rfl)
                try simp only [Act.put, List.setIfInBounds_toArray, List.set_cons_zero, List.set_cons_succ]
                refine wpAnyT_pure (i := 6) (oi := ⟨_, _, _, _, _, _⟩) (v := ?_) rfl (by kernel_rfl) (by kernel_rfl) (by kernel_rfl) (fun _ _ _ h => h) (by kernel_rfl) (Or.inl ⟨by rfl, ?_⟩) (by assumption) ?_
                rotate_left
                · (intro wS hSw; (try dsimp only at hSw); go_simp <;> with_reducible rfl)
                try simp only [Act.put, List.setIfInBounds_toArray, List.set_cons_zero, List.set_cons_succ]
                refine wpAnyT_pure (i := 7) (oi := ⟨_, _, _, _, _, _⟩) (v := ?_) rfl (by kernel_rfl) (by kernel_rfl) (by kernel_rfl) (fun _ _ _ h => h) (by kernel_rfl) (Or.inl ⟨by rfl, ?_⟩) (by assumption) ?_
                rotate_left
                · (intro wS hSw; (try dsimp only at hSw); go_simp <;> with_reducible rfl)
                try simp only [Act.put, List.setIfInBounds_toArray, List.set_cons_zero, List.set_cons_succ]
                refine wpAnyT_pure (i := 9) (oi := ⟨_, _, _, _, _, _⟩) (v := ?_) rfl (by kernel_rfl) (by kernel_rfl) (by kernel_rfl) (fun _ _ _ h => h) (by kernel_rfl) (Or.inl ⟨by rfl, ?_⟩) (by assumption) ?_
                rotate_left
                · (intro wS hSw; (try dsimp only at hSw); go_simp <;> with_reducible rfl)
                try simp only [Act.put, List.setIfInBounds_toArray, List.set_cons_zero, List.set_cons_succ]
                refine wpAnyT_pure (i := 10) (oi := ⟨_, _, _, _, _, _⟩) (v := ?_) rfl (by kernel_rfl) (by kernel_rfl) (by kernel_rfl) (fun _ _ _ h => h) (by kernel_rfl) (Or.inl ⟨by rfl, ?_⟩) (by assumption) ?_
                rotate_left
                · (intro wS hSw; (try dsimp only at hSw); go_simp <;> with_reducible rfl)
                try simp only [Act.put, List.setIfInBounds_toArray, List.set_cons_zero, List.set_cons_succ]
                refine wpAnyT_pure (i := 11) (oi := ⟨_, _, _, _, _, _⟩) (v := ?_) rfl (by kernel_rfl) (by kernel_rfl) (by kernel_rfl) (fun _ _ _ h => h) (by kernel_rfl) (Or.inl ⟨by rfl, ?_⟩) (by assumption) ?_
                rotate_left
                · (intro wS hSw; (try dsimp only at hSw); go_simp <;> with_reducible rfl)
                try simp only [Act.put, List.setIfInBounds_toArray, List.set_cons_zero, List.set_cons_succ]
                refine wpAnyT_pure (i := 14) (oi := ⟨_, _, _, _, _, _⟩) (v := ?_) rfl (by kernel_rfl) (by kernel_rfl) (by kernel_rfl) (fun _ _ _ h => h) (by kernel_rfl) (Or.inl ⟨by rfl, ?_⟩) (by assumption) ?_
                rotate_left
                · (intro wS hSw; (try dsimp only at hSw); go_simp <;> with_reducible rfl)
                try simp only [Act.put, List.setIfInBounds_toArray, List.set_cons_zero, List.set_cons_succ]
                refine wpAnyT_take (i := 4) (oi := ⟨_, _, _, _, _, _⟩) (v := ?_) rfl (by kernel_rfl) (by kernel_rfl) (by kernel_rfl) (fun _ _ _ h => h) (by kernel_rfl) (Or.inl ⟨by rfl, ?_⟩) (by assumption) ?_
                rotate_left
                · (intro wS hSw; (try dsimp only at hSw); go_simp <;> with_reducible rfl)
                try simp only [Act.put, List.setIfInBounds_toArray, List.set_cons_zero, List.set_cons_succ]
                refine wpAnyT_take (i := 8) (oi := ⟨_, _, _, _, _, _⟩) (v := ?_) rfl (by kernel_rfl) (by kernel_rfl) (by kernel_rfl) (fun _ _ _ h => h) (by kernel_rfl) (Or.inl ⟨by rfl, ?_⟩) (by assumption) ?_
                rotate_left
                · (intro wS hSw; (try dsimp only at hSw); go_simp <;> with_reducible rfl)
                try simp only [Act.put, List.setIfInBounds_toArray, List.set_cons_zero, List.set_cons_succ]
                refine wpAnyT_take (i := 12) (oi := ⟨_, _, _, _, _, _⟩) (v := ?_) rfl (by kernel_rfl) (by kernel_rfl) (by kernel_rfl) (fun _ _ _ h => h) (by kernel_rfl) (Or.inl ⟨by rfl, ?_⟩) (by assumption) ?_
                rotate_left
                · (intro wS hSw; (try dsimp only at hSw); go_simp <;> with_reducible rfl)
                try simp only [Act.put, List.setIfInBounds_toArray, List.set_cons_zero, List.set_cons_succ]
                refine wpAnyT_ready (rs := [13]) (by kernel_rfl) (by simp) ?_
                refine (AllReadyT.cons (o := ⟨_, _, _, _, _, _⟩) rfl (fun K hK => ?_) AllReadyT.nil)
                go_simp
                refine hK.out _ _ (by (try dsimp only); exact HSE.out) (fun hHeld => ?_)
                clear hK K
                try simp only [Act.put, List.setIfInBounds_toArray, List.set_cons_zero, List.set_cons_succ]
                refine wpAnyT_ready (rs := [15]) (by kernel_rfl) (by simp) ?_
                refine (AllReadyT.past (o := ⟨_, _, _, _, _, _⟩) rfl (by kernel_rfl) (fun K hK => ?_) AllReadyT.nil)
                refine lk_step_store_row rfl 53 (.tmp 5) (.tmp 185) rfl (W.heap.size + 1) (lpCells s1.me s1.peer 0 (c : Nat) 0 0) rfl rfl 53 (lpCells 0 0 0 0 0 0) HRM.out.z bg_infoP rfl (PR.one (p := ⟨s1.me, s1.peer, 0, (c : Nat), LR.light 0 0⟩) (light_sl _ _)) ?_
                refine hK.out _ _ ?_
                clear hK K
                try simp only [Act.put]
                refine wpAnyT_ready (rs := [16]) (by kernel_rfl) (by simp) ?_
                refine (AllReadyT.past (o := ⟨_, _, _, _, _, _⟩) rfl (by kernel_rfl) (fun K hK => ?_) AllReadyT.nil)
                go_simp
                refine hK.out _ _ ?_
                clear hK K
                try simp only [Act.put, List.setIfInBounds_toArray, List.set_cons_zero, List.set_cons_succ]
                refine wpAnyT_done (by kernel_rfl) ?_ _
                go_wp2_with fail
                refine bodyPost_ret (bg_results3 rfl _ _ (W.heap.size + 1) (lpCells s1.me s1.peer 0 (c : Nat) 0 0) (.bool true) (.slice T m2 cT) rfl rfl rfl (bg_loadVar _ _ _ rfl (bg_row _ HRM.out.z))) rfl ?_
                exact rgot_end HRM.out HGO.out HST.out HS1.out HME.out HFB.out HXW.out (((Touch.refl _ wr).drew).trans (bg_touch _ _ _) (fun x hx => .inl hx))
end Go.Proofs.Ytfemdfidfomchaa
