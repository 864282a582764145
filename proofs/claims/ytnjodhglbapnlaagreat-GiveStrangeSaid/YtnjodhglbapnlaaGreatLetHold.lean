import Derived.Test.YtnjodhglbapnlaaGreatHold
import Derived.Test.YtnjodhglbapnlaaGreatGg02
import Derived.Carry
import Derived.Deep.Slices
import Derived.Lib.SmallJoins
set_option maxRecDepth 100000
set_option maxHeartbeats 16000000
namespace Go.Proofs.YtnjodhglbapnlaaGreat
open Go.ChangeShapes Go.WideShapes Go.ChangeAt Go.RowKit Go.Deep
theorem Tryz.laidOut : laidOutB Tryz.prog = true := by kernel_rfl
theorem yp0 {H : Type} {enc : TypeId × Value → H} {W : World} {fuel : Nat} {cs : List Value} {x : DataW H × List MemPlace} {t e : TypeId} {f0 f1 : Field}
  (ht : Tryz.prog.underlying t = some (.slice e)) (he : Tryz.prog.underlying e = some (.struct #[f0, f1])) (ce : Tryz.prog.cellsOf e = 2) (o0 : f0.offset = 0) (o1 : f1.offset = 1)
  (c0 : Tryz.prog.cellsOf f0.type = 1) (c1 : Tryz.prog.cellsOf f1.type = 1) (u0 : Tryz.prog.underlying f0.type = some .string) (u1 : Tryz.prog.underlying f1.type = some .string)
  (hf : DataW.trod enc Tryz.prog W 0 (fun _ => true) true fuel t cs = some x) :
  ∃ (S : Value) (zs : List Item), cs = [S] ∧ yhs zs ∧ SlAt W S zs := by
 rcases open_slice ht hf with ⟨hcs, _⟩ | ⟨a, len, cap, m, n, D, Pl, hcs, hb, hl, hm, hmm, hx, hall⟩
 ·exact ⟨_, [], hcs, ⟨by simp, fun q hq => by cases hq⟩, SlAt.nil W⟩
 ·subst hcs
  simp only [if_true] at hmm
  have each : ∀ i, i < len → ∃ q : Item, W.cell? (a.add (i * 2)) = some (.string q.1) ∧ W.cell? (a.add (i * 2 + 1)) = some (.string q.2) ∧ q.1.size ≤ maxLen ∧ q.2.size ≤ maxLen := by
   intro i hi
   obtain ⟨cs', h1, h2⟩ := hall i (by omega)
   rw [ce] at h1
   obtain ⟨_, hlen, hcell⟩ := World.cells?_some h1
   obtain ⟨xs, k, hk, hxy, _, hxl, hfs⟩ := DataW.trod_struct he h2
   match xs, hxl, cs', hlen with
   | [y0, y1], _, [v0, v1], _ =>
    have g0 := hfs 0 f0 rfl
    have g1 := hfs 1 f1 rfl
    simp [o0, o1, c0, c1] at g0 g1
    have z0 := hcell 0 (by omega)
    have z1 := hcell 1 (by omega)
    rw [add_add] at z0 z1
    obtain ⟨x0, q0, _, p0⟩ := DataW.trod_string u0 g0
    obtain ⟨x1, q1, _, p1⟩ := DataW.trod_string u1 g1
    injection q0 with q0 _
    injection q1 with q1 _
    subst q0 q1
    exact ⟨(x0, x1), by simpa using z0, by simpa using z1, p0, p1⟩
  obtain ⟨q, hq⟩ := choose_lt each
  have hlen : ((List.range len).map q).length = len := by simp
  refine ⟨_, (List.range len).map q, rfl, ⟨by rw [hlen]; unfold maxLen at hm; omega, fun z hz => ?_⟩, some a, cap, by rw [hlen], by rw [hlen]; exact hl, hm, a.block, a.off, fun i hi => ?_⟩
  ·obtain ⟨i, hi, rfl⟩ := List.mem_map.1 hz
   exact (hq i (List.mem_range.1 hi)).2.2
  ·have hi' : i < len := by simpa using hi
   obtain ⟨e0, e1, _⟩ := hq i hi'
   obtain ⟨b, off, spot⟩ := a
   have hspot : spot = none := by simpa [Addr.add] using World.cell?_spot (hq 0 (by omega)).1
   subst hspot
   rw [add_plain] at e0 e1
   have hbl : b < W.heap.size := block_lt_of_cell e0
   refine ⟨rfl, hbl, ?_, ?_⟩
   ·simpa using e0
   ·simpa [Nat.add_assoc] using e1
theorem yaa9 {cs : List Value} (h : cs.length = 5) : ∃ c0 c1 c2 c3 c4, cs = [c0, c1, c2, c3, c4] := by
 match cs, h with
 | [c0, c1, c2, c3, c4], _ => exact ⟨c0, c1, c2, c3, c4, rfl⟩
theorem yaba {cs : List Value} (h : cs.length = 2) : ∃ c0 c1, cs = [c0, c1] := by
 match cs, h with
 | [c0, c1], _ => exact ⟨c0, c1, rfl⟩
theorem yabb {cs : List Value} (h : cs.length = 6) : ∃ c0 c1 c2 c3 c4 c5, cs = [c0, c1, c2, c3, c4, c5] := by
 match cs, h with
 | [c0, c1, c2, c3, c4, c5], _ => exact ⟨c0, c1, c2, c3, c4, c5, rfl⟩
theorem ybf {H : Type} {enc : TypeId × Value → H} {W : World} {n : Nat} {fs : Array Field} {cs : List Value} {xs : List (DataW H × List MemPlace)}
  (hf : ∀ (i : Nat) (f : Field), fs[i]? = some f → DataW.trod enc Tryz.prog W 0 (fun _ => true) true n f.type ((cs.drop f.offset).take (Tryz.prog.cellsOf f.type)) = xs[i]?)
  (i : Nat) (f : Field) (h : fs[i]? = some f) (hlt : i < xs.length) (T : TypeId) (off k : Nat) (hT : f.type = T) (ho : f.offset = off) (hk : Tryz.prog.cellsOf T = k) :
  ∃ y, DataW.trod enc Tryz.prog W 0 (fun _ => true) true n T ((cs.drop off).take k) = some y := by
 have e := hf i f h
 rw [hT, ho, hk, List.getElem?_eq_getElem hlt] at e
 exact ⟨_, e⟩
theorem yabc {H : Type} {enc : TypeId × Value → H} {W : World} {fuel : Nat} {cs : List Value} {x : DataW H × List MemPlace}
  (h : DataW.trod enc Tryz.prog W 0 (fun _ => true) true fuel 45 cs = some x) :
  ∃ (op most : Int) (key val kto : ByteArray), cs = [.int .i64 op, .string key, .string val, .string kto, .int .i64 most] ∧ i64B op ∧ i64B most ∧ key.size ≤ 9223372036854775807 ∧ val.size ≤ 9223372036854775807 ∧ kto.size ≤ 9223372036854775807 := by
 obtain ⟨hxs, hn, -, -, hl, hll, hf⟩ := DataW.trod_struct Tryz.underlying45 h
 have hl : cs.length = 5 := hl.trans (by kernel_rfl)
 have hxl : hxs.length = 5 := hll
 clear hll
 clear h
 obtain ⟨c0, c1, c2, c3, c4, rfl⟩ := yaa9 hl
 obtain ⟨y0, g0⟩ := ybf hf 0 _ rfl (by simp only [hxl]; decide) 3 0 1 rfl rfl (by kernel_rfl)
 have g0 : DataW.trod enc Tryz.prog W 0 (fun _ => true) true hn 3 [c0] = some y0 := g0
 obtain ⟨y1, g1⟩ := ybf hf 1 _ rfl (by simp only [hxl]; decide) 9 1 1 rfl rfl (by kernel_rfl)
 have g1 : DataW.trod enc Tryz.prog W 0 (fun _ => true) true hn 9 [c1] = some y1 := g1
 obtain ⟨y2, g2⟩ := ybf hf 2 _ rfl (by simp only [hxl]; decide) 9 2 1 rfl rfl (by kernel_rfl)
 have g2 : DataW.trod enc Tryz.prog W 0 (fun _ => true) true hn 9 [c2] = some y2 := g2
 obtain ⟨y3, g3⟩ := ybf hf 3 _ rfl (by simp only [hxl]; decide) 9 3 1 rfl rfl (by kernel_rfl)
 have g3 : DataW.trod enc Tryz.prog W 0 (fun _ => true) true hn 9 [c3] = some y3 := g3
 obtain ⟨y4, g4⟩ := ybf hf 4 _ rfl (by simp only [hxl]; decide) 3 4 1 rfl rfl (by kernel_rfl)
 have g4 : DataW.trod enc Tryz.prog W 0 (fun _ => true) true hn 3 [c4] = some y4 := g4
 obtain ⟨op, eq_op, -, wop⟩ := DataW.trod_int Tryz.underlying3 g0
 injection eq_op with eq_op _; subst eq_op
 obtain ⟨key, eq_key, -, wkey⟩ := DataW.trod_string Tryz.underlying9 g1
 injection eq_key with eq_key _; subst eq_key
 obtain ⟨val, eq_val, -, wval⟩ := DataW.trod_string Tryz.underlying9 g2
 injection eq_val with eq_val _; subst eq_val
 obtain ⟨kto, eq_kto, -, wkto⟩ := DataW.trod_string Tryz.underlying9 g3
 injection eq_kto with eq_kto _; subst eq_kto
 obtain ⟨most, eq_most, -, wmost⟩ := DataW.trod_int Tryz.underlying3 g4
 injection eq_most with eq_most _; subst eq_most
 exact ⟨op, most, key, val, kto, rfl, wf_i64 wop, wf_i64 wmost, wkey, wval, wkto⟩
theorem yabd {H : Type} {enc : TypeId × Value → H} {W : World} {fuel : Nat} {cs : List Value} {x : DataW H × List MemPlace}
  (h : DataW.trod enc Tryz.prog W 0 (fun _ => true) true fuel 47 cs = some x) :
  ∃ (er tn : Int) (tv nx : ByteArray) (ti : List Item) (more : Bool) (S1 : Value), cs = [.int .i64 er, .string tv, S1, .bool more, .string nx, .int .i64 tn] ∧ i64B er ∧ i64B tn ∧ tv.size ≤ 9223372036854775807 ∧ nx.size ≤ 9223372036854775807 ∧ yhs ti ∧ SlAt W S1 ti := by
 obtain ⟨hxs, hn, -, -, hl, hll, hf⟩ := DataW.trod_struct Tryz.underlying47 h
 have hl : cs.length = 6 := hl.trans (by kernel_rfl)
 have hxl : hxs.length = 6 := hll
 clear hll
 clear h
 obtain ⟨c0, c1, c2, c3, c4, c5, rfl⟩ := yabb hl
 obtain ⟨y0, g0⟩ := ybf hf 0 _ rfl (by simp only [hxl]; decide) 34 0 1 rfl rfl (by kernel_rfl)
 have g0 : DataW.trod enc Tryz.prog W 0 (fun _ => true) true hn 34 [c0] = some y0 := g0
 obtain ⟨y1, g1⟩ := ybf hf 1 _ rfl (by simp only [hxl]; decide) 9 1 1 rfl rfl (by kernel_rfl)
 have g1 : DataW.trod enc Tryz.prog W 0 (fun _ => true) true hn 9 [c1] = some y1 := g1
 obtain ⟨y2, g2⟩ := ybf hf 2 _ rfl (by simp only [hxl]; decide) 22 2 1 rfl rfl (by kernel_rfl)
 have g2 : DataW.trod enc Tryz.prog W 0 (fun _ => true) true hn 22 [c2] = some y2 := g2
 obtain ⟨y3, g3⟩ := ybf hf 3 _ rfl (by simp only [hxl]; decide) 4 3 1 rfl rfl (by kernel_rfl)
 have g3 : DataW.trod enc Tryz.prog W 0 (fun _ => true) true hn 4 [c3] = some y3 := g3
 obtain ⟨y4, g4⟩ := ybf hf 4 _ rfl (by simp only [hxl]; decide) 9 4 1 rfl rfl (by kernel_rfl)
 have g4 : DataW.trod enc Tryz.prog W 0 (fun _ => true) true hn 9 [c4] = some y4 := g4
 obtain ⟨y5, g5⟩ := ybf hf 5 _ rfl (by simp only [hxl]; decide) 3 5 1 rfl rfl (by kernel_rfl)
 have g5 : DataW.trod enc Tryz.prog W 0 (fun _ => true) true hn 3 [c5] = some y5 := g5
 obtain ⟨er, eq_er, -, wer⟩ := DataW.trod_int Tryz.underlying34 g0
 injection eq_er with eq_er _; subst eq_er
 obtain ⟨tv, eq_tv, -, wtv⟩ := DataW.trod_string Tryz.underlying9 g1
 injection eq_tv with eq_tv _; subst eq_tv
 obtain ⟨more, eq_more, -⟩ := DataW.trod_bool Tryz.underlying4 g3
 injection eq_more with eq_more _; subst eq_more
 obtain ⟨nx, eq_nx, -, wnx⟩ := DataW.trod_string Tryz.underlying9 g4
 injection eq_nx with eq_nx _; subst eq_nx
 obtain ⟨tn, eq_tn, -, wtn⟩ := DataW.trod_int Tryz.underlying3 g5
 injection eq_tn with eq_tn _; subst eq_tn
 obtain ⟨S1, ti, e1, b1, a1⟩ := yp0 Tryz.underlying22 Tryz.underlying96 (by kernel_rfl) rfl rfl (by kernel_rfl) (by kernel_rfl) Tryz.underlying9 Tryz.underlying9 g2
 injection e1 with e1 _; subst e1
 exact ⟨er, tn, tv, nx, ti, more, _, rfl, wf_i64 wer, wf_i64 wtn, wtv, wnx, b1, a1⟩
theorem yabe {H : Type} {enc : TypeId × Value → H} {W : World} {fuel : Nat} {cs : List Value} {x : DataW H × List MemPlace}
  (h : DataW.trod enc Tryz.prog W 0 (fun _ => true) true fuel 25 cs = some x) :
  ∃ (af au : Nat), cs = [.int .u64 (af : Nat), .int .u64 (au : Nat)] ∧ af < 18446744073709551616 ∧ au < 18446744073709551616 := by
 obtain ⟨hxs, hn, -, -, hl, hll, hf⟩ := DataW.trod_struct Tryz.underlying25 h
 have hl : cs.length = 2 := hl.trans (by kernel_rfl)
 have hxl : hxs.length = 2 := hll
 clear hll
 clear h
 obtain ⟨c0, c1, rfl⟩ := yaba hl
 obtain ⟨y0, g0⟩ := ybf hf 0 _ rfl (by simp only [hxl]; decide) 23 0 1 rfl rfl (by kernel_rfl)
 have g0 : DataW.trod enc Tryz.prog W 0 (fun _ => true) true hn 23 [c0] = some y0 := g0
 obtain ⟨y1, g1⟩ := ybf hf 1 _ rfl (by simp only [hxl]; decide) 23 1 1 rfl rfl (by kernel_rfl)
 have g1 : DataW.trod enc Tryz.prog W 0 (fun _ => true) true hn 23 [c1] = some y1 := g1
 obtain ⟨af, eq_af, -, waf⟩ := DataW.trod_int Tryz.underlying23 g0
 injection eq_af with eq_af _; subst eq_af
 obtain ⟨au, eq_au, -, wau⟩ := DataW.trod_int Tryz.underlying23 g1
 injection eq_au with eq_au _; subst eq_au
 have b1 := wf_u64 waf
 have b2 := wf_u64 wau
 obtain ⟨m1, rfl⟩ := Int.eq_ofNat_of_zero_le b1.1
 obtain ⟨m2, rfl⟩ := Int.eq_ofNat_of_zero_le b2.1
 exact ⟨m1, m2, rfl, by omega, by omega⟩
theorem yabf {cs : List Value} (h : cs.length = 21) : ∃ c0 c1 c2 c3 c4 c5 c6 c7 c8 c9 c10 c11 c12 c13 c14 c15 c16 c17 c18 c19 c20, cs = [c0, c1, c2, c3, c4, c5, c6, c7, c8, c9, c10, c11, c12, c13, c14, c15, c16, c17, c18, c19, c20] := by
 match cs, h with
 | [c0, c1, c2, c3, c4, c5, c6, c7, c8, c9, c10, c11, c12, c13, c14, c15, c16, c17, c18, c19, c20], _ => exact ⟨c0, c1, c2, c3, c4, c5, c6, c7, c8, c9, c10, c11, c12, c13, c14, c15, c16, c17, c18, c19, c20, rfl⟩
theorem yabg {H : Type} {enc : TypeId × Value → H} {W : World} {fuel : Nat} {cs : List Value} {x : DataW H × List MemPlace}
  (h : DataW.trod enc Tryz.prog W 0 (fun _ => true) true fuel 49 cs = some x) :
  ∃ (l : LV) (S1 S2 : Value), cs = (l.cells S1 S2).toList ∧ l.Fine ∧ SlAt W S1 l.ti ∧ SlAt W S2 l.li := by
 obtain ⟨hxs, hn, -, -, hl, hll, hf⟩ := DataW.trod_struct Tryz.underlying49 h
 have hl : cs.length = 21 := hl.trans (by kernel_rfl)
 have hxl : hxs.length = 11 := hll
 clear hll
 clear h
 obtain ⟨c0, c1, c2, c3, c4, c5, c6, c7, c8, c9, c10, c11, c12, c13, c14, c15, c16, c17, c18, c19, c20, rfl⟩ := yabf hl
 obtain ⟨y0, g0⟩ := ybf hf 0 _ rfl (by simp only [hxl]; decide) 3 0 1 rfl rfl (by kernel_rfl)
 have g0 : DataW.trod enc Tryz.prog W 0 (fun _ => true) true hn 3 [c0] = some y0 := g0
 obtain ⟨y1, g1⟩ := ybf hf 1 _ rfl (by simp only [hxl]; decide) 3 1 1 rfl rfl (by kernel_rfl)
 have g1 : DataW.trod enc Tryz.prog W 0 (fun _ => true) true hn 3 [c1] = some y1 := g1
 obtain ⟨y2, g2⟩ := ybf hf 2 _ rfl (by simp only [hxl]; decide) 3 2 1 rfl rfl (by kernel_rfl)
 have g2 : DataW.trod enc Tryz.prog W 0 (fun _ => true) true hn 3 [c2] = some y2 := g2
 obtain ⟨y3, g3⟩ := ybf hf 3 _ rfl (by simp only [hxl]; decide) 3 3 1 rfl rfl (by kernel_rfl)
 have g3 : DataW.trod enc Tryz.prog W 0 (fun _ => true) true hn 3 [c3] = some y3 := g3
 obtain ⟨y4, g4⟩ := ybf hf 4 _ rfl (by simp only [hxl]; decide) 45 4 5 rfl rfl (by kernel_rfl)
 have g4 : DataW.trod enc Tryz.prog W 0 (fun _ => true) true hn 45 [c4, c5, c6, c7, c8] = some y4 := g4
 obtain ⟨y5, g5⟩ := ybf hf 5 _ rfl (by simp only [hxl]; decide) 47 9 6 rfl rfl (by kernel_rfl)
 have g5 : DataW.trod enc Tryz.prog W 0 (fun _ => true) true hn 47 [c9, c10, c11, c12, c13, c14] = some y5 := g5
 obtain ⟨y6, g6⟩ := ybf hf 6 _ rfl (by simp only [hxl]; decide) 25 15 2 rfl rfl (by kernel_rfl)
 have g6 : DataW.trod enc Tryz.prog W 0 (fun _ => true) true hn 25 [c15, c16] = some y6 := g6
 obtain ⟨y7, g7⟩ := ybf hf 7 _ rfl (by simp only [hxl]; decide) 3 17 1 rfl rfl (by kernel_rfl)
 have g7 : DataW.trod enc Tryz.prog W 0 (fun _ => true) true hn 3 [c17] = some y7 := g7
 obtain ⟨y8, g8⟩ := ybf hf 8 _ rfl (by simp only [hxl]; decide) 22 18 1 rfl rfl (by kernel_rfl)
 have g8 : DataW.trod enc Tryz.prog W 0 (fun _ => true) true hn 22 [c18] = some y8 := g8
 obtain ⟨y9, g9⟩ := ybf hf 9 _ rfl (by simp only [hxl]; decide) 3 19 1 rfl rfl (by kernel_rfl)
 have g9 : DataW.trod enc Tryz.prog W 0 (fun _ => true) true hn 3 [c19] = some y9 := g9
 obtain ⟨y10, g10⟩ := ybf hf 10 _ rfl (by simp only [hxl]; decide) 3 20 1 rfl rfl (by kernel_rfl)
 have g10 : DataW.trod enc Tryz.prog W 0 (fun _ => true) true hn 3 [c20] = some y10 := g10
 obtain ⟨k, eq_k, -, wk⟩ := DataW.trod_int Tryz.underlying3 g0
 injection eq_k with eq_k _; subst eq_k
 obtain ⟨f, eq_f, -, wf⟩ := DataW.trod_int Tryz.underlying3 g1
 injection eq_f with eq_f _; subst eq_f
 obtain ⟨t, eq_t, -, wt⟩ := DataW.trod_int Tryz.underlying3 g2
 injection eq_t with eq_t _; subst eq_t
 obtain ⟨i, eq_i, -, wi⟩ := DataW.trod_int Tryz.underlying3 g3
 injection eq_i with eq_i _; subst eq_i
 obtain ⟨ep, eq_ep, -, wep⟩ := DataW.trod_int Tryz.underlying3 g7
 injection eq_ep with eq_ep _; subst eq_ep
 obtain ⟨n, eq_n, -, wn⟩ := DataW.trod_int Tryz.underlying3 g9
 injection eq_n with eq_n _; subst eq_n
 obtain ⟨nd, eq_nd, -, wnd⟩ := DataW.trod_int Tryz.underlying3 g10
 injection eq_nd with eq_nd _; subst eq_nd
 obtain ⟨op, most, key, val, kto, ea, r1, r2, r3, r4, r5⟩ := yabc g4
 injection ea with q0 ea; injection ea with q1 ea; injection ea with q2 ea; injection ea with q3 ea; injection ea with q4 ea
 subst q0 q1 q2 q3 q4
 obtain ⟨er, tn, tv, nx, ti, more, S1, et, s1, s2, s3, s4, s5, s6⟩ := yabd g5
 injection et with q0 et; injection et with q1 et; injection et with q2 et; injection et with q3 et; injection et with q4 et; injection et with q5 et
 subst q0 q1 q2 q3 q4 q5
 obtain ⟨af, au, ez, u1, u2⟩ := yabe g6
 injection ez with q0 ez; injection ez with q1 ez
 subst q0 q1
 obtain ⟨S2, li, e1, b1, a1⟩ := yp0 Tryz.underlying22 Tryz.underlying96 (by kernel_rfl) rfl rfl (by kernel_rfl) (by kernel_rfl) Tryz.underlying9 Tryz.underlying9 g8
 injection e1 with e1 _; subst e1
 exact ⟨⟨k, f, t, i, op, key, val, kto, most, er, tv, ti, more, nx, tn, af, au, ep, li, n, nd⟩, _, _, rfl, ⟨wf_i64 wk, wf_i64 wf, wf_i64 wt, wf_i64 wi, r1, r3, r4, r5, r2, s1, s3, s5, s4, s2, u1, u2, wf_i64 wep, b1, wf_i64 wn, wf_i64 wnd⟩, s6, a1⟩
theorem yabh {H : Type} {enc : TypeId × Value → H} {W : World} {base : Nat} {v : Value} {d : DataW H} {p : List MemPlace}
  (hok : Value.okWide Tryz.prog W .any base 49 v) (h : DataW.Trod enc Tryz.prog W 0 (fun _ => true) true 49 v d p) :
  ∃ (l : LV) (S1 S2 : Value), v = .agg (l.cells S1 S2) ∧ l.Fine ∧ SlAt W S1 l.ti ∧ SlAt W S2 l.li := by
 obtain ⟨cs, rfl, -⟩ := okWide_struct Tryz.underlying49 hok
 obtain ⟨fuel, hf⟩ := h
 obtain ⟨l, S1, S2, e, r⟩ := yabg hf
 refine ⟨l, S1, S2, ?_, r⟩
 obtain ⟨cl⟩ := cs
 exact congrArg (fun z => Value.agg ⟨z⟩) e
structure PV where
 pf : Int
 pt : Int
 sq : Int
 ak : Int
 lt : LV
structure PV.Fine (p : PV) : Prop where
 pfB : i64B p.pf
 ptB : i64B p.pt
 sqB : i64B p.sq
 akB : i64B p.ak
 ltF : p.lt.Fine
abbrev PV.cells (p : PV) (S1 S2 : Value) : Array Value := #[.int .i64 p.pf, .int .i64 p.pt, .int .i64 p.sq, .int .i64 p.ak, .int .i64 p.lt.k, .int .i64 p.lt.f, .int .i64 p.lt.t, .int .i64 p.lt.i, .int .i64 p.lt.op, .string p.lt.key, .string p.lt.val, .string p.lt.kto, .int .i64 p.lt.most, .int .i64 p.lt.er, .string p.lt.tv, S1, .bool p.lt.more, .string p.lt.nx, .int .i64 p.lt.tn, .int .u64 (p.lt.af : Nat), .int .u64 (p.lt.au : Nat), .int .i64 p.lt.ep, S2, .int .i64 p.lt.n, .int .i64 p.lt.nd]
end Go.Proofs.YtnjodhglbapnlaaGreat
