import Derived.Test.YtnjodhglbapnlaaGreatGg28
set_option maxRecDepth 100000
set_option maxHeartbeats 16000000
namespace Go.Proofs.YtnjodhglbapnlaaGreat
open Go.RowKit
attribute [local go_sem] Oper.semAt_some
theorem Mail.base {w : World} {B B0 : Nat} {S : Value} {ls : List LV} {M : List Nat} (h : Mail w B S ls M) (hb : B0 ≤ B) : Mail w B0 S ls M := by
 obtain ⟨rs, h1, h2, h3, h4, h5⟩ := h
 exact ⟨rs, h1, ybp h2 hb, h3, h4, fun q hq => ⟨by have := (h5 q hq).1; omega, (h5 q hq).2⟩⟩
theorem Mail.below_ {W W1 : World} {B : Nat} {S : Value} {ls : List LV} {M : List Nat} (h : Mail W B S ls M) (t : Below W.heap.size W W1) : Mail W1 B S ls M := by
 obtain ⟨rs, h1, h2, h3, h4, h5⟩ := h
 exact ⟨rs, h1, (Touch.ofBelow (F := []) t).row h2 (by simp), fun r hr => (h3 r hr).below t, h4, fun q hq => ⟨(h5 q hq).1, Nat.lt_of_lt_of_le (h5 q hq).2 t.size⟩⟩
section
variable {w w0 W w1 w2 : World} {g p : Nat} {s s1 : HO} {F : List Nat} {v : GV} {S : Value} {b : Bool}
theorem ydy (hv : VD w g s F) (h : VM w p v S) (hF : ∀ q ∈ vF p S, q ∉ F) (hb : Below w.heap.size w W) : yc5 VD VV w g s F p v (vF p S) [] b (.returned (.tuple #[.slice none 0 0, .bool b])) W :=
 ⟨F, vF p S, _, [], rfl, yfd _ _, ybj.touch hv (Touch.ofBelow (F := []) hb) (by simp), ⟨S, h.below hb, rfl⟩, Touch.ofBelow hb, fun q hq => .inl hq, fun q hq => ⟨.inl hq, hF q hq⟩, by simp⟩
theorem ypw (hv : VD w g s F) (h : VM w p v S) (hF : ∀ q ∈ vF p S, q ∉ F) (hb : Below w.heap.size w W) {S' : Value} (hn : yfc W p v S (.returned S') w1) (hb2 : Below w1.heap.size w1 w2) : yc5 VD VV w g s F p v.next.1 (vF p S) v.next.2 b (.returned (.tuple #[S', .bool b])) w2 := by
 obtain ⟨S'', S1, M, e, h1, h2, h3, h4⟩ := hn
 injection e with e
 subst e
 have z1 := hb.size
 have z2 := h4.size
 have t : Touch (vF p S) w w2 := ((Touch.ofBelow (F := vF p S) hb).trans h4 (fun x hx => .inl hx)).trans (Touch.ofBelow (F := vF p S) hb2) (fun x hx => .inl hx)
 have sub : ∀ q ∈ vF p S1, q ∈ vF p S := fun q hq => by
  rcases List.mem_cons.1 hq with rfl | z
  ·simp
  ·exact List.mem_cons_of_mem _ (by have := h3 q (by simpa using z); simpa using this)
 obtain ⟨rs, m1, m2, m3, m4, m5⟩ := h1
 have hM : Mail w1 W.heap.size S' v.next.2 M := ⟨rs, m1, m2, m3, m4, m5⟩
 refine ⟨F, vF p S1, S', M, rfl, (hM.base z1).below_ hb2, ybj.touch hv t (fun q hq z => hF q z hq), ⟨S1, h2.below hb2, rfl⟩, t.mono (fun x hx => List.mem_append_right _ hx), fun q hq => .inl hq, fun q hq => ⟨.inl (sub q hq), hF q (sub q hq)⟩, fun q hq => ⟨fun z => ?_, fun z => ?_⟩⟩
 ·have := (ybj.has_ hv).2 q z
  have := (m5 q hq).1
  omega
 ·have := h.all_lt q (sub q z)
  have := (m5 q hq).1
  omega
theorem yaaj (h : VM w p v S) (hF : ∀ q ∈ vF p S, q ∉ F) (hb : Below w.heap.size w W) (hn : yk1 W p g v S s1 F (.returned (.tuple #[])) w1) (hb2 : Below w1.heap.size w1 w2) : yc5 VD VV w g s1 F p (v.at_ 5) (vF p S) [] b (.returned (.tuple #[.slice none 0 0, .bool b])) w2 := by
 obtain ⟨_, F1, h1, h2, h3, h4⟩ := hn
 have z1 := hb.size
 refine ⟨F1, vF p (.slice none 0 0), _, [], rfl, yfd _ _, ybj.touch h1 (Touch.ofBelow (F := []) hb2) (by simp), ⟨_, h2.below hb2, rfl⟩, ((Touch.ofBelow (F := F ++ vF p S) hb).trans h3 (fun x hx => .inl hx)).trans (Touch.ofBelow (F := F ++ vF p S) hb2) (fun x hx => .inl hx), fun q hq => ?_, fun q hq => ?_, by simp⟩
 ·rcases h4 q hq with y | y
  ·exact .inl y
  ·exact .inr (by omega)
 ·have e : q = p := by simpa [Value.ownBlock] using hq
  subst e
  refine ⟨.inl (by simp), fun z => ?_⟩
  rcases h4 q z with y | y
  ·exact hF q (by simp) y
  ·have := h.lt; omega
theorem VM.gave (h : VM w p v S) (hst : 3 ≤ v.st) : VM (w.setCell ⟨p, 9, none⟩ (.int .i64 4)) p (v.at_ 4) S := by
 have t : Touch [p] w (w.setCell ⟨p, 9, none⟩ (.int .i64 4)) := (Touch.refl _ _).set (.inl (by simp)) _
 refine ⟨yco h.hp 9 _, ?_, h.own, h.few, h.arc, h.wide, ⟨by show 1 ≤ 4; omega, by show 4 ≤ 5; omega⟩⟩
 rcases h.its with ⟨z, _⟩ | ⟨_, z⟩
 ·omega
 ·exact .inr ⟨by show 3 ≤ 4; omega, z⟩
theorem yaak (h : VM w p v S) (hst : 3 ≤ v.st) (hF : ∀ q ∈ vF p S, q ∉ F) (hb : Below w.heap.size w W) {u : Value} (hn : ybz VD W g F u s1 (.returned u) w1) (hb2 : Below w1.heap.size (w1.setCell ⟨p, 9, none⟩ (.int .i64 4)) w2) : yc5 VD VV w g s1 F p (v.at_ 4) (vF p S) [] b (.returned (.tuple #[.slice none 0 0, .bool b])) w2 := by
 obtain ⟨F1, _, h1, h3, h4⟩ := hn
 have z1 := hb.size
 have hW := h.below hb
 have h5 := hW.touch h3 hF
 have tt : Touch [p] w1 (w1.setCell ⟨p, 9, none⟩ (.int .i64 4)) := (Touch.refl _ _).set (.inl (by simp)) _
 have hpF : p ∉ F1 := fun z => by
  rcases h4 p z with y | y
  ·exact hF p (by simp) y
  ·have := h.lt; omega
 have hb3 : Below (w1.setCell ⟨p, 9, none⟩ (.int .i64 4)).heap.size (w1.setCell ⟨p, 9, none⟩ (.int .i64 4)) w2 := by
  have e : (w1.setCell ⟨p, 9, none⟩ (.int .i64 4)).heap.size = w1.heap.size := by simp [World.setCell]
  rw [e]
  exact hb2
 refine ⟨F1, vF p S, _, [], rfl, yfd _ _, ybj.touch (ybj.touch h1 tt (fun q hq z => hpF (by rw [← List.mem_singleton.1 z]; exact hq))) (Touch.ofBelow (F := []) hb3) (by simp), ⟨S, (h5.gave hst).below hb3, rfl⟩, ?_, fun q hq => ?_, fun q hq => ⟨.inl hq, fun z => ?_⟩, by simp⟩
 ·exact ((((Touch.ofBelow (F := F ++ vF p S) hb).trans h3 (fun x hx => .inl (List.mem_append_left _ hx)))).trans tt (fun x hx => .inl (by have := List.mem_singleton.1 hx; simp [this]))).trans (Touch.ofBelow (F := F ++ vF p S) hb3) (fun x hx => .inl hx)
 ·rcases h4 q hq with y | y
  ·exact .inl y
  ·exact .inr (by omega)
 ·rcases h4 q z with y | y
  ·exact hF q hq y
  ·have := h.all_lt q hq; omega
end
theorem ypx {W w1 : World} {p : Nat} {v : GV} {S : Value} {e : Ending} (h : yfc W p v S e w1) : ∃ k : Nat, w1.cell? ⟨p, 9, none⟩ = some (.int .i64 (k : Nat)) ∧ ((k : Int) == 4) = false ∧ ((k : Int) == 5) = false := by
 obtain ⟨_, S1, _, _, _, h2, _, _⟩ := h
 refine ⟨v.next.1.st, h2.cell (i := 9) rfl, ?_, ?_⟩
 ·rw [beq_eq_false_iff_ne]
  unfold GV.next
  split
  ·show ((3 : Nat) : Int) ≠ 4; decide
  ·show ((2 : Nat) : Int) ≠ 4; decide
 ·rw [beq_eq_false_iff_ne]
  unfold GV.next
  split
  ·show ((3 : Nat) : Int) ≠ 5; decide
  ·show ((2 : Nat) : Int) ≠ 5; decide
abbrev GotC (w : World) (g p : Nat) (F : List Nat) (S : Value) (x : LV) (S1 S2 : Value) (s1 : HO) (v1 : GV) (ls : List LV) (b : Bool) : Prop :=
 Calls Tryz.prog 14 #[.pointer (some ⟨p, 0, none⟩), .agg (x.cells S1 S2)] w (yc5 VD VV w g s1 F p v1 (vF p S) ls b)
theorem ycp {w0 : World} {p b3 : Nat} {v : GV} {S : Value} {x : LV} {S1 S2 : Value} (hx : w0.heap[b3]? = some (.cells (x.cells S1 S2) 49)) (h0 : VM w0 p v S) :
  w0.cell? ⟨b3, 0, none⟩ = some (.int .i64 x.k) ∧ w0.cell? ⟨b3, 1, none⟩ = some (.int .i64 x.f) ∧ w0.cell? ⟨b3, 3, none⟩ = some (.int .i64 x.i) ∧ w0.cell? ⟨b3, 19, none⟩ = some (.int .i64 x.n) ∧ w0.cell? ⟨p, 0, none⟩ = some (.pointer (some ⟨v.h, 0, none⟩)) ∧ w0.cell? ⟨p, 5, none⟩ = some (.int .i64 v.to_) ∧
  w0.cell? ⟨p, 6, none⟩ = some (.int .i64 v.id) ∧ w0.cell? ⟨p, 8, none⟩ = some (.int .i64 (v.ch : Nat)) ∧ w0.cell? ⟨p, 9, none⟩ = some (.int .i64 (v.st : Nat)) :=
 ⟨yaw hx rfl, yaw hx rfl, yaw hx rfl, yaw hx rfl, h0.cell rfl, h0.cell rfl, h0.cell rfl, h0.cell rfl, h0.cell rfl⟩
section
variable {w : World} {g p : Nat} {s : HO} {F : List Nat} {v : GV} {S : Value} (x : LV) (S1 S2 : Value) (hv : VD w g s F) (h : VM w p v S) (hF : ∀ q ∈ vF p S, q ∉ F)
include hv h hF
theorem yaal (hf : x.f ≠ v.to_) : GotC w g p F S x S1 S2 s v [] false := by
 have hx := heap_alloc_new w (.cells (x.cells S1 S2) 49)
 have B0 : Below w.heap.size w (w.alloc (.cells (x.cells S1 S2) 49)) := (Below.refl _ _).alloc (Nat.le_refl _) _
 have HH := Lib.hid h
 have HV := Lib.hid hv
 have HFF := Lib.hid hF
 have h0 := h.below B0
 have hL : p < w.heap.size := h.lt
 clear h hv hF
 go_enter Tryz.func14, Tryz.ntmps14
 go_upto_region 1 with fail
 obtain ⟨b3, hb3⟩ : ∃ b3, w.heap.size = b3 := ⟨_, rfl⟩
 rw [hb3] at hx
 obtain ⟨w0, hw0⟩ : ∃ w0, w.alloc (.cells (x.cells S1 S2) 49) = w0 := ⟨_, rfl⟩
 rw [hw0] at B0 hx h0
 rw [hw0]
 try rw [hb3]
 clear hw0
 obtain ⟨x0, x1, x3, x19, c0, c5, c6, c8, c9⟩ := ycp hx h0
 have HB0 := Lib.hid B0
 have H0 := Lib.hid h0
 clear B0 h0 hx hb3
 have d1 : (x.f != v.to_) = true := by rw [bne_iff_ne]; exact hf
 go_quiet (fail)
 go_wp2_with fail
 refine bodyPost_ret (v := .tuple #[.slice none 0 0, .bool false]) (by simp [results, Tryz.results14, go_sem]) rfl ?_
 exact ydy HV.out HH.out HFF.out (acc HB0.out ⟨rfl, rfl, rfl, Nat.le_refl _, fun _ _ => rfl⟩)
theorem yaam (hf : x.f = v.to_) (hi : x.i ≠ v.id) : GotC w g p F S x S1 S2 s v [] false := by
 have hx := heap_alloc_new w (.cells (x.cells S1 S2) 49)
 have B0 : Below w.heap.size w (w.alloc (.cells (x.cells S1 S2) 49)) := (Below.refl _ _).alloc (Nat.le_refl _) _
 have HH := Lib.hid h
 have HV := Lib.hid hv
 have HFF := Lib.hid hF
 have h0 := h.below B0
 have hL : p < w.heap.size := h.lt
 clear h hv hF
 go_enter Tryz.func14, Tryz.ntmps14
 go_upto_region 1 with fail
 obtain ⟨b3, hb3⟩ : ∃ b3, w.heap.size = b3 := ⟨_, rfl⟩
 rw [hb3] at hx
 obtain ⟨w0, hw0⟩ : ∃ w0, w.alloc (.cells (x.cells S1 S2) 49) = w0 := ⟨_, rfl⟩
 rw [hw0] at B0 hx h0
 rw [hw0]
 try rw [hb3]
 clear hw0
 obtain ⟨x0, x1, x3, x19, c0, c5, c6, c8, c9⟩ := ycp hx h0
 have HB0 := Lib.hid B0
 have H0 := Lib.hid h0
 clear B0 h0 hx hb3
 have d1 : (x.f != v.to_) = false := by rw [bne_eq_false_iff_eq]; exact hf
 have d2 : (x.i != v.id) = true := by rw [bne_iff_ne]; exact hi
 go_quiet (fail)
 go_wp2_with fail
 refine bodyPost_ret (v := .tuple #[.slice none 0 0, .bool false]) (by simp [results, Tryz.results14, go_sem]) rfl ?_
 exact ydy HV.out HH.out HFF.out (acc HB0.out ⟨rfl, rfl, rfl, Nat.le_refl _, fun _ _ => rfl⟩)
theorem yaan (hf : x.f = v.to_) (hi : x.i = v.id) (hst : v.st = 1) (hk : x.k = 11) (hn : x.n = 1) (hch : v.ch ≤ 1000) : GotC w g p F S x S1 S2 s v.next.1 v.next.2 false := by
 have hx := heap_alloc_new w (.cells (x.cells S1 S2) 49)
 have B0 : Below w.heap.size w (w.alloc (.cells (x.cells S1 S2) 49)) := (Below.refl _ _).alloc (Nat.le_refl _) _
 have HH := Lib.hid h
 have HV := Lib.hid hv
 have HFF := Lib.hid hF
 have h0 := h.below B0
 have hL : p < w.heap.size := h.lt
 clear h hv hF
 go_enter Tryz.func14, Tryz.ntmps14
 go_upto_region 1 with fail
 obtain ⟨b3, hb3⟩ : ∃ b3, w.heap.size = b3 := ⟨_, rfl⟩
 rw [hb3] at hx
 obtain ⟨w0, hw0⟩ : ∃ w0, w.alloc (.cells (x.cells S1 S2) 49) = w0 := ⟨_, rfl⟩
 rw [hw0] at B0 hx h0
 rw [hw0]
 try rw [hb3]
 clear hw0
 obtain ⟨x0, x1, x3, x19, c0, c5, c6, c8, c9⟩ := ycp hx h0
 have HB0 := Lib.hid B0
 have H0 := Lib.hid h0
 clear B0 h0 hx hb3
 have d1 : (x.f != v.to_) = false := by rw [bne_eq_false_iff_eq]; exact hf
 have d2 : (x.i != v.id) = false := by rw [bne_eq_false_iff_eq]; exact hi
 have CN : Hid (∀ W, Below w0.heap.size w0 W → Calls Tryz.prog 47 #[.pointer (some ⟨p, 0, none⟩)] W (yfc W p v S)) := fun W t => ypt (H0.out.below t) (by omega) hch
 rw [hst] at c9
 rw [hk] at x0
 rw [hn] at x19
 go_quiet (fail)
 go_upto_region 13 with (go_at_call 47; ((with_reducible refine (CN.out _ ?_).mono ?_); (exact ⟨rfl, rfl, rfl, Nat.le_refl _, fun _ _ => rfl⟩); rintro e w1 hn; obtain ⟨S', hS'⟩ : ∃ S', e = .returned S' := (by obtain ⟨S', _, _, k, _⟩ := hn; exact ⟨S', k⟩); subst hS'; have HN := Lib.hid hn; have k9 := ypx hn; clear hn))
 obtain ⟨k, c9', t4, t5⟩ := k9
 clear c9 c8 c5 c6 c0
 go_quiet (fail)
 go_wp2_with fail
 refine bodyPost_ret (v := .tuple #[S', .bool false]) (by simp [results, Tryz.results14, go_sem]) rfl ?_
 refine ypw HV.out HH.out HFF.out ?_ HN.out ?_
 ·exact acc HB0.out ⟨rfl, rfl, rfl, Nat.le_refl _, fun _ _ => rfl⟩
 ·exact ⟨rfl, rfl, rfl, Nat.le_refl _, fun _ _ => rfl⟩
theorem yaao (hf : x.f = v.to_) (hi : x.i = v.id) (hst : v.st = 1) (hk : x.k = 11) (hn : x.n = 0) (hh : v.h = g) : GotC w g p F S x S1 S2 s.thawed (v.at_ 5) [] true := by
 have hx := heap_alloc_new w (.cells (x.cells S1 S2) 49)
 have B0 : Below w.heap.size w (w.alloc (.cells (x.cells S1 S2) 49)) := (Below.refl _ _).alloc (Nat.le_refl _) _
 have HH := Lib.hid h
 have HV := Lib.hid hv
 have HFF := Lib.hid hF
 have h0 := h.below B0
 have hL : p < w.heap.size := h.lt
 clear h hv hF
 go_enter Tryz.func14, Tryz.ntmps14
 go_upto_region 1 with fail
 obtain ⟨b3, hb3⟩ : ∃ b3, w.heap.size = b3 := ⟨_, rfl⟩
 rw [hb3] at hx
 obtain ⟨w0, hw0⟩ : ∃ w0, w.alloc (.cells (x.cells S1 S2) 49) = w0 := ⟨_, rfl⟩
 rw [hw0] at B0 hx h0
 rw [hw0]
 try rw [hb3]
 clear hw0
 obtain ⟨x0, x1, x3, x19, c0, c5, c6, c8, c9⟩ := ycp hx h0
 have HB0 := Lib.hid B0
 have H0 := Lib.hid h0
 clear B0 h0 hx hb3
 have d1 : (x.f != v.to_) = false := by rw [bne_eq_false_iff_eq]; exact hf
 have d2 : (x.i != v.id) = false := by rw [bne_eq_false_iff_eq]; exact hi
 have CE : Hid (∀ W, Below w0.heap.size w0 W → Calls Tryz.prog 48 #[.pointer (some ⟨p, 0, none⟩)] W (yk1 W p g v S s.thawed F)) := fun W t => ypv (ybj.touch HV.out (Touch.ofBelow (F := []) (acc HB0.out t)) (by simp)) (H0.out.below t) HFF.out hh
 rw [hst] at c9
 rw [hk] at x0
 rw [hn] at x19
 go_quiet (fail)
 go_upto_region 13 with (go_at_call 48; (with_reducible refine (CE.out _ ?_).mono ?_); (exact ⟨rfl, rfl, rfl, Nat.le_refl _, fun _ _ => rfl⟩); rintro e w1 hn; obtain ⟨rfl⟩ : e = .returned (.tuple #[]) := hn.1; have HN := Lib.hid hn; have k9 : w1.cell? ⟨p, 9, none⟩ = some (.int .i64 5) := (by obtain ⟨_, _, _, k, _⟩ := hn; exact k.cell (i := 9) rfl); clear hn)
 clear c9 c8 c5 c6 c0
 go_quiet (fail)
 go_wp2_with fail
 refine bodyPost_ret (v := .tuple #[.slice none 0 0, .bool true]) (by simp [results, Tryz.results14, go_sem]) rfl ?_
 refine yaaj HH.out HFF.out ?_ HN.out ?_
 ·exact acc HB0.out ⟨rfl, rfl, rfl, Nat.le_refl _, fun _ _ => rfl⟩
 ·exact ⟨rfl, rfl, rfl, Nat.le_refl _, fun _ _ => rfl⟩
theorem yaap (hf : x.f = v.to_) (hi : x.i = v.id) (hst : v.st = 1) (hk : x.k = 11) (hn1 : x.n ≠ 1) (hn0 : x.n ≠ 0) : GotC w g p F S x S1 S2 s v [] false := by
 have hx := heap_alloc_new w (.cells (x.cells S1 S2) 49)
 have B0 : Below w.heap.size w (w.alloc (.cells (x.cells S1 S2) 49)) := (Below.refl _ _).alloc (Nat.le_refl _) _
 have HH := Lib.hid h
 have HV := Lib.hid hv
 have HFF := Lib.hid hF
 have h0 := h.below B0
 have hL : p < w.heap.size := h.lt
 clear h hv hF
 go_enter Tryz.func14, Tryz.ntmps14
 go_upto_region 1 with fail
 obtain ⟨b3, hb3⟩ : ∃ b3, w.heap.size = b3 := ⟨_, rfl⟩
 rw [hb3] at hx
 obtain ⟨w0, hw0⟩ : ∃ w0, w.alloc (.cells (x.cells S1 S2) 49) = w0 := ⟨_, rfl⟩
 rw [hw0] at B0 hx h0
 rw [hw0]
 try rw [hb3]
 clear hw0
 obtain ⟨x0, x1, x3, x19, c0, c5, c6, c8, c9⟩ := ycp hx h0
 have HB0 := Lib.hid B0
 have H0 := Lib.hid h0
 clear B0 h0 hx hb3
 have d1 : (x.f != v.to_) = false := by rw [bne_eq_false_iff_eq]; exact hf
 have d2 : (x.i != v.id) = false := by rw [bne_eq_false_iff_eq]; exact hi
 rw [hst] at c9
 rw [hk] at x0
 have n1 : (x.n == 1) = false := by rw [beq_eq_false_iff_ne]; exact hn1
 have n0 : (x.n == 0) = false := by rw [beq_eq_false_iff_ne]; exact hn0
 go_quiet (fail)
 go_upto_region 8 with fail
 go_quiet (fail)
 go_upto_region 13 with fail
 go_quiet (fail)
 go_wp2_with fail
 refine bodyPost_ret (v := .tuple #[.slice none 0 0, .bool false]) (by simp [results, Tryz.results14, go_sem]) rfl ?_
 exact ydy HV.out HH.out HFF.out (acc HB0.out ⟨rfl, rfl, rfl, Nat.le_refl _, fun _ _ => rfl⟩)
theorem yaaq (hf : x.f = v.to_) (hi : x.i = v.id) (hst : v.st = 1) (hk : x.k ≠ 11) : GotC w g p F S x S1 S2 s v [] false := by
 have hx := heap_alloc_new w (.cells (x.cells S1 S2) 49)
 have B0 : Below w.heap.size w (w.alloc (.cells (x.cells S1 S2) 49)) := (Below.refl _ _).alloc (Nat.le_refl _) _
 have HH := Lib.hid h
 have HV := Lib.hid hv
 have HFF := Lib.hid hF
 have h0 := h.below B0
 have hL : p < w.heap.size := h.lt
 clear h hv hF
 go_enter Tryz.func14, Tryz.ntmps14
 go_upto_region 1 with fail
 obtain ⟨b3, hb3⟩ : ∃ b3, w.heap.size = b3 := ⟨_, rfl⟩
 rw [hb3] at hx
 obtain ⟨w0, hw0⟩ : ∃ w0, w.alloc (.cells (x.cells S1 S2) 49) = w0 := ⟨_, rfl⟩
 rw [hw0] at B0 hx h0
 rw [hw0]
 try rw [hb3]
 clear hw0
 obtain ⟨x0, x1, x3, x19, c0, c5, c6, c8, c9⟩ := ycp hx h0
 have HB0 := Lib.hid B0
 have H0 := Lib.hid h0
 clear B0 h0 hx hb3
 have d1 : (x.f != v.to_) = false := by rw [bne_eq_false_iff_eq]; exact hf
 have d2 : (x.i != v.id) = false := by rw [bne_eq_false_iff_eq]; exact hi
 rw [hst] at c9
 have k1 : (x.k == 11) = false := by rw [beq_eq_false_iff_ne]; exact hk
 go_quiet (fail)
 go_upto_region 8 with fail
 go_quiet (fail)
 go_upto_region 13 with fail
 go_quiet (fail)
 go_wp2_with fail
 refine bodyPost_ret (v := .tuple #[.slice none 0 0, .bool false]) (by simp [results, Tryz.results14, go_sem]) rfl ?_
 exact ydy HV.out HH.out HFF.out (acc HB0.out ⟨rfl, rfl, rfl, Nat.le_refl _, fun _ _ => rfl⟩)
theorem yaar (hf : x.f = v.to_) (hi : x.i = v.id) (hst : v.st = 2) (hk : x.k = 13) (hn : x.n = (v.ch : Nat)) (hch : v.ch ≤ 1000) : GotC w g p F S x S1 S2 s v.next.1 v.next.2 false := by
 have hx := heap_alloc_new w (.cells (x.cells S1 S2) 49)
 have B0 : Below w.heap.size w (w.alloc (.cells (x.cells S1 S2) 49)) := (Below.refl _ _).alloc (Nat.le_refl _) _
 have HH := Lib.hid h
 have HV := Lib.hid hv
 have HFF := Lib.hid hF
 have h0 := h.below B0
 have hL : p < w.heap.size := h.lt
 clear h hv hF
 go_enter Tryz.func14, Tryz.ntmps14
 go_upto_region 1 with fail
 obtain ⟨b3, hb3⟩ : ∃ b3, w.heap.size = b3 := ⟨_, rfl⟩
 rw [hb3] at hx
 obtain ⟨w0, hw0⟩ : ∃ w0, w.alloc (.cells (x.cells S1 S2) 49) = w0 := ⟨_, rfl⟩
 rw [hw0] at B0 hx h0
 rw [hw0]
 try rw [hb3]
 clear hw0
 obtain ⟨x0, x1, x3, x19, c0, c5, c6, c8, c9⟩ := ycp hx h0
 have HB0 := Lib.hid B0
 have H0 := Lib.hid h0
 clear B0 h0 hx hb3
 have d1 : (x.f != v.to_) = false := by rw [bne_eq_false_iff_eq]; exact hf
 have d2 : (x.i != v.id) = false := by rw [bne_eq_false_iff_eq]; exact hi
 have CN : Hid (∀ W, Below w0.heap.size w0 W → Calls Tryz.prog 47 #[.pointer (some ⟨p, 0, none⟩)] W (yfc W p v S)) := fun W t => ypt (H0.out.below t) (by omega) hch
 rw [hst] at c9
 rw [hk] at x0
 have n1 : (x.n == (v.ch : Int)) = true := by rw [beq_iff_eq]; exact hn
 go_quiet (fail)
 go_upto_region 8 with fail
 go_quiet (fail)
 go_upto_region 13 with (go_at_call 47; ((with_reducible refine (CN.out _ ?_).mono ?_); (exact ⟨rfl, rfl, rfl, Nat.le_refl _, fun _ _ => rfl⟩); rintro e w1 hn; obtain ⟨S', hS'⟩ : ∃ S', e = .returned S' := (by obtain ⟨S', _, _, k, _⟩ := hn; exact ⟨S', k⟩); subst hS'; have HN := Lib.hid hn; have k9 := ypx hn; clear hn))
 obtain ⟨k, c9', t4, t5⟩ := k9
 clear c9 c8 c5 c6 c0
 go_quiet (fail)
 go_wp2_with fail
 refine bodyPost_ret (v := .tuple #[S', .bool false]) (by simp [results, Tryz.results14, go_sem]) rfl ?_
 refine ypw HV.out HH.out HFF.out ?_ HN.out ?_
 ·exact acc HB0.out ⟨rfl, rfl, rfl, Nat.le_refl _, fun _ _ => rfl⟩
 ·exact ⟨rfl, rfl, rfl, Nat.le_refl _, fun _ _ => rfl⟩
theorem yaas (hf : x.f = v.to_) (hi : x.i = v.id) (hst : v.st = 2) (hk : x.k = 13) (hn : x.n ≠ (v.ch : Nat)) : GotC w g p F S x S1 S2 s v [] false := by
 have hx := heap_alloc_new w (.cells (x.cells S1 S2) 49)
 have B0 : Below w.heap.size w (w.alloc (.cells (x.cells S1 S2) 49)) := (Below.refl _ _).alloc (Nat.le_refl _) _
 have HH := Lib.hid h
 have HV := Lib.hid hv
 have HFF := Lib.hid hF
 have h0 := h.below B0
 have hL : p < w.heap.size := h.lt
 clear h hv hF
 go_enter Tryz.func14, Tryz.ntmps14
 go_upto_region 1 with fail
 obtain ⟨b3, hb3⟩ : ∃ b3, w.heap.size = b3 := ⟨_, rfl⟩
 rw [hb3] at hx
 obtain ⟨w0, hw0⟩ : ∃ w0, w.alloc (.cells (x.cells S1 S2) 49) = w0 := ⟨_, rfl⟩
 rw [hw0] at B0 hx h0
 rw [hw0]
 try rw [hb3]
 clear hw0
 obtain ⟨x0, x1, x3, x19, c0, c5, c6, c8, c9⟩ := ycp hx h0
 have HB0 := Lib.hid B0
 have H0 := Lib.hid h0
 clear B0 h0 hx hb3
 have d1 : (x.f != v.to_) = false := by rw [bne_eq_false_iff_eq]; exact hf
 have d2 : (x.i != v.id) = false := by rw [bne_eq_false_iff_eq]; exact hi
 rw [hst] at c9
 rw [hk] at x0
 have n1 : (x.n == (v.ch : Int)) = false := by rw [beq_eq_false_iff_ne]; exact hn
 go_quiet (fail)
 go_upto_region 8 with fail
 go_quiet (fail)
 go_upto_region 13 with fail
 go_quiet (fail)
 go_wp2_with fail
 refine bodyPost_ret (v := .tuple #[.slice none 0 0, .bool false]) (by simp [results, Tryz.results14, go_sem]) rfl ?_
 exact ydy HV.out HH.out HFF.out (acc HB0.out ⟨rfl, rfl, rfl, Nat.le_refl _, fun _ _ => rfl⟩)
theorem yaat (hf : x.f = v.to_) (hi : x.i = v.id) (hst : v.st = 2) (hk : x.k ≠ 13) : GotC w g p F S x S1 S2 s v [] false := by
 have hx := heap_alloc_new w (.cells (x.cells S1 S2) 49)
 have B0 : Below w.heap.size w (w.alloc (.cells (x.cells S1 S2) 49)) := (Below.refl _ _).alloc (Nat.le_refl _) _
 have HH := Lib.hid h
 have HV := Lib.hid hv
 have HFF := Lib.hid hF
 have h0 := h.below B0
 have hL : p < w.heap.size := h.lt
 clear h hv hF
 go_enter Tryz.func14, Tryz.ntmps14
 go_upto_region 1 with fail
 obtain ⟨b3, hb3⟩ : ∃ b3, w.heap.size = b3 := ⟨_, rfl⟩
 rw [hb3] at hx
 obtain ⟨w0, hw0⟩ : ∃ w0, w.alloc (.cells (x.cells S1 S2) 49) = w0 := ⟨_, rfl⟩
 rw [hw0] at B0 hx h0
 rw [hw0]
 try rw [hb3]
 clear hw0
 obtain ⟨x0, x1, x3, x19, c0, c5, c6, c8, c9⟩ := ycp hx h0
 have HB0 := Lib.hid B0
 have H0 := Lib.hid h0
 clear B0 h0 hx hb3
 have d1 : (x.f != v.to_) = false := by rw [bne_eq_false_iff_eq]; exact hf
 have d2 : (x.i != v.id) = false := by rw [bne_eq_false_iff_eq]; exact hi
 rw [hst] at c9
 have k1 : (x.k == 13) = false := by rw [beq_eq_false_iff_ne]; exact hk
 go_quiet (fail)
 go_upto_region 8 with fail
 go_quiet (fail)
 go_upto_region 13 with fail
 go_quiet (fail)
 go_wp2_with fail
 refine bodyPost_ret (v := .tuple #[.slice none 0 0, .bool false]) (by simp [results, Tryz.results14, go_sem]) rfl ?_
 exact ydy HV.out HH.out HFF.out (acc HB0.out ⟨rfl, rfl, rfl, Nat.le_refl _, fun _ _ => rfl⟩)
theorem yaau (hf : x.f = v.to_) (hi : x.i = v.id) (hst : v.st = 3) (hk : x.k = 15) (hh : v.h = g) (hsh : s.g.shut = true) (hks : s.k ≤ 1000) (hls : s.g.l.length ≤ 1000) : GotC w g p F S x S1 S2 (s.lose v.to_) (v.at_ 4) [] true := by
 have hx := heap_alloc_new w (.cells (x.cells S1 S2) 49)
 have B0 : Below w.heap.size w (w.alloc (.cells (x.cells S1 S2) 49)) := (Below.refl _ _).alloc (Nat.le_refl _) _
 have HH := Lib.hid h
 have HV := Lib.hid hv
 have HFF := Lib.hid hF
 have h0 := h.below B0
 have hL : p < w.heap.size := h.lt
 clear h hv hF
 go_enter Tryz.func14, Tryz.ntmps14
 go_upto_region 1 with fail
 obtain ⟨b3, hb3⟩ : ∃ b3, w.heap.size = b3 := ⟨_, rfl⟩
 rw [hb3] at hx
 obtain ⟨w0, hw0⟩ : ∃ w0, w.alloc (.cells (x.cells S1 S2) 49) = w0 := ⟨_, rfl⟩
 rw [hw0] at B0 hx h0
 rw [hw0]
 try rw [hb3]
 clear hw0
 obtain ⟨x0, x1, x3, x19, c0, c5, c6, c8, c9⟩ := ycp hx h0
 have HB0 := Lib.hid B0
 have H0 := Lib.hid h0
 clear B0 h0 hx hb3
 have d1 : (x.f != v.to_) = false := by rw [bne_eq_false_iff_eq]; exact hf
 have d2 : (x.i != v.id) = false := by rw [bne_eq_false_iff_eq]; exact hi
 have CLO : Hid (∀ W, Below w0.heap.size w0 W → Calls Tryz.prog 49 #[.pointer (some ⟨g, 0, none⟩), .int .i64 v.to_] W fun e w' => (s.g.shut = true ∧ ybz VD W g F (.int .i64 0) (s.lose v.to_) e w') ∨ (s.g.shut = false ∧ ybz VD W g F (.int .i64 10) s e w')) := fun W t => by
  exact ybj.lose v.to_ H0.out.wide.2.1 hks hls (ybj.touch HV.out (Touch.ofBelow (F := []) (acc HB0.out t)) (by simp))
 rw [hst] at c9
 rw [hh] at c0
 rw [hk] at x0
 go_quiet (fail)
 go_upto_region 8 with fail
 go_quiet (fail)
 go_upto_region 11 with fail
 refine ybe (fun w' => w'.cell? ⟨p, 0, none⟩ = some (.pointer (some ⟨g, 0, none⟩)) ∧ w'.cell? ⟨p, 5, none⟩ = some (.int .i64 v.to_)) 8 (by kernel_rfl) ?_ (fun hHeld => ?_)
 ·(try dsimp only); exact ⟨c0, c5⟩
 refine wtP 0 ?_
 try simp only [Act.put, wsA, wsB, wsC]
 refine wtP 1 ?_
 try simp only [Act.put, wsA, wsB, wsC]
 refine wtP 2 ?_
 try simp only [Act.put, wsA, wsB, wsC]
 refine wtP 4 ?_
 try simp only [Act.put, wsA, wsB, wsC]
 refine wtP 5 ?_
 try simp only [Act.put, wsA, wsB, wsC]
 refine wtP 6 ?_
 try simp only [Act.put, wsA, wsB, wsC]
 refine wtT 3 ?_
 try simp only [Act.put, wsA, wsB, wsC]
 refine wtT 7 ?_
 try simp only [Act.put, wsA, wsB, wsC]
 refine wtD 8 fun K hK => ?_
 go_simp
 (go_at_call 49; (with_reducible refine (CLO.out _ ?_).mono ?_); (exact ⟨rfl, rfl, rfl, Nat.le_refl _, fun _ _ => rfl⟩); rintro e w2 (⟨_, hn⟩ | ⟨hn, _⟩))
 case inr => exact absurd hn (by rw [hsh]; decide)
 obtain ⟨rfl⟩ : e = .returned (.int .i64 0) := (by obtain ⟨_, k, _⟩ := hn; exact k)
 have HN := Lib.hid hn
 have h2 : VM w2 p v S := (by obtain ⟨_, _, _, k, _⟩ := hn; refine VM.touch ?_ k HFF.out; refine H0.out.below ?_; exact ⟨rfl, rfl, rfl, Nat.le_refl _, fun _ _ => rfl⟩)
 have H2 := Lib.hid h2
 clear hn h2 c0 c5 c6 c8 c9
 refine hK.out _ _ ?_
 clear hK K
 try simp only [Act.put, wsA, wsB, wsC]
 refine ya8 (by kernel_rfl) ?_ _
 have z9 := H2.out.cell (i := 9) rfl
 have g9 := H2.out.free 9
 go_upto_region 13 with fail
 go_quiet (fail)
 go_wp2_with fail
 refine bodyPost_ret (v := .tuple #[.slice none 0 0, .bool true]) (by simp [results, Tryz.results14, go_sem]) rfl ?_
 refine yaak HH.out (by omega) HFF.out ?_ HN.out ?_
 ·exact acc HB0.out ⟨rfl, rfl, rfl, Nat.le_refl _, fun _ _ => rfl⟩
 ·exact ⟨rfl, rfl, rfl, Nat.le_refl _, fun _ _ => rfl⟩
theorem yaav (hf : x.f = v.to_) (hi : x.i = v.id) (hst : v.st = 3) (hk : x.k ≠ 15) : GotC w g p F S x S1 S2 s v [] false := by
 have hx := heap_alloc_new w (.cells (x.cells S1 S2) 49)
 have B0 : Below w.heap.size w (w.alloc (.cells (x.cells S1 S2) 49)) := (Below.refl _ _).alloc (Nat.le_refl _) _
 have HH := Lib.hid h
 have HV := Lib.hid hv
 have HFF := Lib.hid hF
 have h0 := h.below B0
 have hL : p < w.heap.size := h.lt
 clear h hv hF
 go_enter Tryz.func14, Tryz.ntmps14
 go_upto_region 1 with fail
 obtain ⟨b3, hb3⟩ : ∃ b3, w.heap.size = b3 := ⟨_, rfl⟩
 rw [hb3] at hx
 obtain ⟨w0, hw0⟩ : ∃ w0, w.alloc (.cells (x.cells S1 S2) 49) = w0 := ⟨_, rfl⟩
 rw [hw0] at B0 hx h0
 rw [hw0]
 try rw [hb3]
 clear hw0
 obtain ⟨x0, x1, x3, x19, c0, c5, c6, c8, c9⟩ := ycp hx h0
 have HB0 := Lib.hid B0
 have H0 := Lib.hid h0
 clear B0 h0 hx hb3
 have d1 : (x.f != v.to_) = false := by rw [bne_eq_false_iff_eq]; exact hf
 have d2 : (x.i != v.id) = false := by rw [bne_eq_false_iff_eq]; exact hi
 rw [hst] at c9
 have k1 : (x.k == 15) = false := by rw [beq_eq_false_iff_ne]; exact hk
 go_quiet (fail)
 go_upto_region 8 with fail
 go_quiet (fail)
 go_upto_region 13 with fail
 go_quiet (fail)
 go_wp2_with fail
 refine bodyPost_ret (v := .tuple #[.slice none 0 0, .bool false]) (by simp [results, Tryz.results14, go_sem]) rfl ?_
 exact ydy HV.out HH.out HFF.out (acc HB0.out ⟨rfl, rfl, rfl, Nat.le_refl _, fun _ _ => rfl⟩)
theorem yaaw (hf : x.f = v.to_) (hi : x.i = v.id) (hst : v.st = 4) : GotC w g p F S x S1 S2 s v [] true := by
 have hx := heap_alloc_new w (.cells (x.cells S1 S2) 49)
 have B0 : Below w.heap.size w (w.alloc (.cells (x.cells S1 S2) 49)) := (Below.refl _ _).alloc (Nat.le_refl _) _
 have HH := Lib.hid h
 have HV := Lib.hid hv
 have HFF := Lib.hid hF
 have h0 := h.below B0
 have hL : p < w.heap.size := h.lt
 clear h hv hF
 go_enter Tryz.func14, Tryz.ntmps14
 go_upto_region 1 with fail
 obtain ⟨b3, hb3⟩ : ∃ b3, w.heap.size = b3 := ⟨_, rfl⟩
 rw [hb3] at hx
 obtain ⟨w0, hw0⟩ : ∃ w0, w.alloc (.cells (x.cells S1 S2) 49) = w0 := ⟨_, rfl⟩
 rw [hw0] at B0 hx h0
 rw [hw0]
 try rw [hb3]
 clear hw0
 obtain ⟨x0, x1, x3, x19, c0, c5, c6, c8, c9⟩ := ycp hx h0
 have HB0 := Lib.hid B0
 have H0 := Lib.hid h0
 clear B0 h0 hx hb3
 have d1 : (x.f != v.to_) = false := by rw [bne_eq_false_iff_eq]; exact hf
 have d2 : (x.i != v.id) = false := by rw [bne_eq_false_iff_eq]; exact hi
 rw [hst] at c9
 go_quiet (fail)
 go_upto_region 8 with fail
 go_quiet (fail)
 go_upto_region 13 with fail
 go_quiet (fail)
 go_wp2_with fail
 refine bodyPost_ret (v := .tuple #[.slice none 0 0, .bool true]) (by simp [results, Tryz.results14, go_sem]) rfl ?_
 exact ydy HV.out HH.out HFF.out (acc HB0.out ⟨rfl, rfl, rfl, Nat.le_refl _, fun _ _ => rfl⟩)
theorem yaax (hf : x.f = v.to_) (hi : x.i = v.id) (hst : v.st = 5) : GotC w g p F S x S1 S2 s v [] true := by
 have hx := heap_alloc_new w (.cells (x.cells S1 S2) 49)
 have B0 : Below w.heap.size w (w.alloc (.cells (x.cells S1 S2) 49)) := (Below.refl _ _).alloc (Nat.le_refl _) _
 have HH := Lib.hid h
 have HV := Lib.hid hv
 have HFF := Lib.hid hF
 have h0 := h.below B0
 have hL : p < w.heap.size := h.lt
 clear h hv hF
 go_enter Tryz.func14, Tryz.ntmps14
 go_upto_region 1 with fail
 obtain ⟨b3, hb3⟩ : ∃ b3, w.heap.size = b3 := ⟨_, rfl⟩
 rw [hb3] at hx
 obtain ⟨w0, hw0⟩ : ∃ w0, w.alloc (.cells (x.cells S1 S2) 49) = w0 := ⟨_, rfl⟩
 rw [hw0] at B0 hx h0
 rw [hw0]
 try rw [hb3]
 clear hw0
 obtain ⟨x0, x1, x3, x19, c0, c5, c6, c8, c9⟩ := ycp hx h0
 have HB0 := Lib.hid B0
 have H0 := Lib.hid h0
 clear B0 h0 hx hb3
 have d1 : (x.f != v.to_) = false := by rw [bne_eq_false_iff_eq]; exact hf
 have d2 : (x.i != v.id) = false := by rw [bne_eq_false_iff_eq]; exact hi
 rw [hst] at c9
 go_quiet (fail)
 go_upto_region 8 with fail
 go_quiet (fail)
 go_upto_region 13 with fail
 go_quiet (fail)
 go_wp2_with fail
 refine bodyPost_ret (v := .tuple #[.slice none 0 0, .bool true]) (by simp [results, Tryz.results14, go_sem]) rfl ?_
 exact ydy HV.out HH.out HFF.out (acc HB0.out ⟨rfl, rfl, rfl, Nat.le_refl _, fun _ _ => rfl⟩)
end
end Go.Proofs.YtnjodhglbapnlaaGreat
namespace Go.Proofs.YtnjodhglbapnlaaGreat
open Go.RowKit
attribute [local go_sem] Oper.semAt_some
theorem yaay {P : Program} {ops : Array Oper} {o : Oper} {a : Act} {w : World} {K : Act → World → Prop} {Q : Exit → Act → World → Prop} {E : Prop} (hgd : o.guard = none) (ty : TypeId) (x : Operand) (ho : o.op = .load ty x)
  (g : Nat) (hx : a.eval x = .pointer (some ⟨g, 0, none⟩)) (t : TypeId) (cs : Array Value) (fr : Nat × Nat) (d : TypeDesc) (hg : w.heap[g]? = some (.cells cs t fr))
  (hu : P.underlying ty = some d) (hd : (match d with | .struct _ | .array _ _ => true | _ => false) = true) (hi : (P.info? ty).map (·.size) = some cs.size)
  (h : K (a.put o.dst (.agg cs)) w) : if Region.wanted o (yielded ops a.tmps) = true then Oper.wp P o a w K Q else E := by
 rw [if_pos (by simp [Region.wanted, hgd])]
 exact wp_load_row ty x ho g hx t cs fr d hg hu hd hi h
theorem yaaz (x : Int) : Wide (IntKind.i64.wrap x) := by
 unfold Wide
 simp only [IntKind.wrap, IntKind.bits, IntKind.signed]
 constructor <;> (simp; split <;> omega)
theorem yaa0 {w : World} {g : Nat} {s : HO} {F : List Nat} (h : VD w g s F) (f t : Nat) : (arcL s.its f t).length ≤ 400 := by
 obtain ⟨l, S, sp, Fs, Fg, h, rfl⟩ := h
 have h1 := h.its200
 have h2 := ykn s.its f t
 omega
theorem yaa1 {w : World} {g : Nat} {s : HO} {F : List Nat} (f t : Nat) (me to_ id : Int) (hf : f < 18446744073709551616) (ht : t < 18446744073709551616) (hm : Wide me) (hto : Wide to_) (hid : Wide id) (hk : s.k ≤ 1000) (hv : VD w g s F) :
  Calls Tryz.prog 10 #[.pointer (some ⟨g, 0, none⟩), .agg #[.int .u64 (f : Nat), .int .u64 (t : Nat)], .int .i64 me, .int .i64 to_, .int .i64 id] w (yjl VD VV w g s F f t me to_ id) := by
 have hx := heap_alloc_new w (.cells #[.int .u64 (f : Nat), .int .u64 (t : Nat)] 25)
 have B0 : Below w.heap.size w (w.alloc (.cells #[.int .u64 (f : Nat), .int .u64 (t : Nat)] 25)) := (Below.refl _ _).alloc (Nat.le_refl _) _
 have hv0 := ybj.touch hv (Touch.ofBelow (F := []) B0) (by simp)
 by_cases hmt : to_ = me
 ·have t1 : (to_ == me) = true := by rw [beq_iff_eq]; exact hmt
  have HV0 := Lib.hid hv0
  clear hv hv0 hx
  go_enter Tryz.func10, Tryz.ntmps10
  go_wp2_with fail
  refine bodyPost_ret (v := .tuple #[.pointer none, .slice none 0 0, .int .i64 1]) (by simp [results, Tryz.results10, go_sem]) rfl ?_
  exact ⟨F, Touch.ofBelow B0, fun q hq => .inl hq, .inl ⟨⟨hmt.symm, _, rfl, yfd _ _⟩, HV0.out⟩⟩
 ·have t1 : (to_ == me) = false := by rw [beq_eq_false_iff_ne]; exact hmt
  have CF := Lib.hid (ybj.freeze f t hf ht hk hv0)
  have few := yaa0 hv f t
  have HHAS := Lib.hid (ybj.has_ hv)
  have HFEW := Lib.hid few
  have HMT : Hid (me ≠ to_) := fun z => hmt z.symm
  have HWM := Lib.hid hm
  have HWT := Lib.hid hto
  have HWI := Lib.hid hid
  have HAR : Hid (f < 18446744073709551616 ∧ t < 18446744073709551616) := ⟨hf, ht⟩
  clear hv hv0 few hmt hm hto hid hf ht hk
  go_enter Tryz.func10, Tryz.ntmps10
  go_upto_region 3 with fail
  obtain ⟨b6, hb6⟩ : ∃ b6, w.heap.size = b6 := ⟨_, rfl⟩
  rw [hb6] at hx
  obtain ⟨w0, hw0⟩ : ∃ w0, w.alloc (.cells #[.int .u64 (f : Nat), .int .u64 (t : Nat)] 25) = w0 := ⟨_, rfl⟩
  rw [hw0] at B0 hx CF
  rw [hw0]
  try rw [hb6]
  have HQ6 := Lib.hid hb6
  clear hw0 hb6
  have x0 := yaw hx (o := 0) rfl
  have x1 := yaw hx (o := 1) rfl
  have HX := Lib.hid hx
  have HB0 := Lib.hid B0
  clear hx B0
  go_upto_region 4 with (go_at_call 27; (with_reducible refine (CF.out).mono ?_); rintro e w1 ⟨l, ep, er, s1, S', F1, rfl, q1, q2, q3, q4, q5, q6⟩; have Q1 := Lib.hid q1; have Q2 := Lib.hid q2; have Q3 := Lib.hid q3; have Q4 := Lib.hid q4; have Q5 := Lib.hid q5; have Q6 := Lib.hid q6; clear q1 q2 q3 q4 q5 q6)
  clear CF x0 x1
  have T1 : Hid (Touch F w w1 ∧ ∀ q ∈ F1, q ∈ F ∨ w.heap.size ≤ q) := ⟨(Touch.ofBelow (F := F) HB0.out).trans Q4.out (fun x hx => .inl hx), fun q hq => (Q5.out q hq).imp (fun z => z) (fun z => by have := HB0.out.size; omega)⟩
  rcases Q6.out with ⟨a1, rfl, rfl, rfl, rfl⟩ | ⟨a1, a2, rfl, rfl, rfl, rfl⟩ | ⟨a1, a2, rfl, rfl, a3, rfl⟩
  ·have A1 := Lib.hid a1
   clear a1 Q6
   go_wp2_with fail
   refine bodyPost_ret (v := .tuple #[.pointer none, .slice none 0 0, .int .i64 7]) (by simp [results, Tryz.results10, go_sem]) rfl ?_
   exact ⟨F1, T1.out.1, T1.out.2, .inr (.inl ⟨⟨HMT.out, A1.out, _, rfl, yfd _ _⟩, Q3.out⟩)⟩
  ·have A1 := Lib.hid a1
   have A2 := Lib.hid a2
   clear a1 a2 Q6
   go_wp2_with fail
   refine bodyPost_ret (v := .tuple #[.pointer none, .slice none 0 0, .int .i64 1]) (by simp [results, Tryz.results10, go_sem]) rfl ?_
   exact ⟨F1, T1.out.1, T1.out.2, .inr (.inr (.inl ⟨⟨HMT.out, A1.out, A2.out, _, rfl, yfd _ _⟩, Q3.out⟩))⟩
  ·obtain ⟨A, c, rfl⟩ := yav Q1.out
   have A1 := Lib.hid a1
   have A2 := Lib.hid a2
   have A3 := Lib.hid a3
   clear a1 a2 a3 Q6
   obtain ⟨l, hl⟩ : ∃ l, arcL s.its f t = l := ⟨_, rfl⟩
   rw [hl] at Q1 Q2 HFEW
   try rw [hl]
   have HLL := Lib.hid hl
   clear hl
   have hxx : w1.heap[b6]? = some (.cells #[.int .u64 (f : Nat), .int .u64 (t : Nat)] 25) := (Q4.out.block b6 (yca HX.out) (fun z => by have := HHAS.out.2 b6 z; have := HQ6.out; omega)).trans HX.out
   have x0 := yaw hxx (o := 0) rfl
   have x1 := yaw hxx (o := 1) rfl
   clear hxx
   go_upto_region 10 with fail
   have hp := heap_alloc_new w1 (.cells (gvC (⟨me, to_, id, f, t, IntKind.i64.wrap (ep + 1), 1, l, 0, g⟩ : GV) (.slice A l.length c)) 98)
   have B2 : Below w1.heap.size w1 (w1.alloc (.cells (gvC (⟨me, to_, id, f, t, IntKind.i64.wrap (ep + 1), 1, l, 0, g⟩ : GV) (.slice A l.length c)) 98)) := (Below.refl _ _).alloc (Nat.le_refl _) _
   have hz2 : (w1.alloc (.cells (gvC (⟨me, to_, id, f, t, IntKind.i64.wrap (ep + 1), 1, l, 0, g⟩ : GV) (.slice A l.length c)) 98)).heap.size = w1.heap.size + 1 := by simp
   obtain ⟨w2, hw2⟩ : ∃ w2, w1.alloc (.cells (gvC (⟨me, to_, id, f, t, IntKind.i64.wrap (ep + 1), 1, l, 0, g⟩ : GV) (.slice A l.length c)) 98) = w2 := ⟨_, rfl⟩
   rw [hw2] at hp B2 hz2
   have hw2' : w1.alloc (.cells #[.pointer (some ⟨g, 0, none⟩), .int .u64 (f : Nat), .int .u64 (t : Nat), .int .i64 (IntKind.i64.wrap (ep + 1)), .int .i64 me, .int .i64 to_, .int .i64 id, .slice A l.length c, .int .i64 0, .int .i64 1] 98) = w2 := hw2
   have hw64 : wrap64 (ep + 1) = IntKind.i64.wrap (ep + 1) := by
    rw [IntKind.wrap_i64]
    unfold wrap64
    first | rfl | omega
   try rw [hw64]
   rw [hw2']
   obtain ⟨p, hpp⟩ : ∃ p, w1.heap.size = p := ⟨_, rfl⟩
   rw [hpp] at hp hz2
   try rw [hpp]
   have HPP := Lib.hid hpp
   clear hw2 hw2' hpp
   have h2 : VM w2 p (⟨me, to_, id, f, t, IntKind.i64.wrap (ep + 1), 1, l, 0, g⟩ : GV) (.slice A l.length c) := ⟨hp, .inl ⟨by show 1 ≤ 2; omega, A, c, rfl, ybp ((Touch.ofBelow (F := []) B2).row Q1.out (by simp)) (Nat.zero_le _)⟩, fun q hq z => by have := (Q1.out.lt q hq).2; have := HPP.out; omega, HFEW.out, HAR.out, ⟨HWM.out, HWT.out, HWI.out, yaaz _⟩, ⟨by show 1 ≤ 1; omega, by show 1 ≤ 5; omega⟩⟩
   have H2 := Lib.hid h2
   have HB2 := Lib.hid B2
   have HZ2 := Lib.hid hz2
   have CO : Hid (Calls Tryz.prog 35 #[.pointer (some ⟨p, 0, none⟩), .int .i64 10] w2 fun e w' => e = .returned (.agg (yak ((LV.bare 10 me to_ id).arc f t (IntKind.i64.wrap (ep + 1))))) ∧ Below w2.heap.size w2 w') := ypq (v := (⟨me, to_, id, f, t, IntKind.i64.wrap (ep + 1), 1, l, 0, g⟩ : GV)) 10 h2
   have hone := yfz ((LV.bare 10 me to_ id).arc f t (IntKind.i64.wrap (ep + 1)))
   have hi1 : (Tryz.prog.info? 49).map (·.size) = some (yak ((LV.bare 10 me to_ id).arc f t (IntKind.i64.wrap (ep + 1)))).size := yel
   have ho1 : ya5.size = (yak ((LV.bare 10 me to_ id).arc f t (IntKind.i64.wrap (ep + 1)))).size := rfl
   clear h2 B2 hz2 hp x0 x1
   go_upto_region 11 with (first
    | (go_at_call 35; (with_reducible refine (CO.out).mono ?_); rintro e w3 ⟨rfl, hb3⟩; have HB3 := Lib.hid hb3; have hx3 := heap_alloc_new w3 (.cells ya5 49); clear hb3)
    | (with_reducible (show wpList _ _ _ (⟨none, Op.store _ (Operand.tmp 17) _, _, _, _, _⟩ :: _) _ _); go_must (refine wpList_store_row rfl 49 (.tmp 17) (.tmp 49) rfl w3.heap.size (yak ((LV.bare 10 me to_ id).arc f t (IntKind.i64.wrap (ep + 1)))) rfl rfl 49 ya5 hx3 hi1 ho1 hone ?_)))
   have hb4 : Below w3.heap.size w3 ((w3.alloc (.cells ya5 49)).setRow w3.heap.size (yak ((LV.bare 10 me to_ id).arc f t (IntKind.i64.wrap (ep + 1))))) := yka w3 _ _ _
   have hx4 := ygo (yak ((LV.bare 10 me to_ id).arc f t (IntKind.i64.wrap (ep + 1)))) hx3
   obtain ⟨w4, hw4⟩ : ∃ w4, (w3.alloc (.cells ya5 49)).setRow w3.heap.size (yak ((LV.bare 10 me to_ id).arc f t (IntKind.i64.wrap (ep + 1)))) = w4 := ⟨_, rfl⟩
   rw [hw4] at hb4 hx4
   rw [hw4]
   obtain ⟨b17, hb17⟩ : ∃ b17, w3.heap.size = b17 := ⟨_, rfl⟩
   rw [hb17] at hx4
   try rw [hb17]
   have HQ17 : Hid (w3.heap.size ≤ b17) := Nat.le_of_eq hb17
   clear hw4 hb17 hx3
   have HB4 := Lib.hid hb4
   have x19 := yaw hx4 (o := 19) rfl
   have g19 := ykz hx4 19
   have HX4 := Lib.hid hx4
   clear hx4 hb4 hone hi1 ho1
   go_upto_region 12 with fail
   obtain ⟨vo, hvo⟩ : ∃ vo, GV.offer (⟨me, to_, id, f, t, IntKind.i64.wrap (ep + 1), 1, l, 0, g⟩ : GV) = vo := ⟨_, rfl⟩
   have hx5 : (w4.setCell ⟨b17, 19, none⟩ (.int .i64 (l.length : Nat))).heap[b17]? = some (.cells (yak vo) 49) := by
    rw [← hvo]
    exact yco HX4.out 19 _
   have hb5 : Below w3.heap.size w3 (w4.setCell ⟨b17, 19, none⟩ (.int .i64 (l.length : Nat))) := yem HB4.out HQ17.out _ _
   obtain ⟨w5, hw5⟩ : ∃ w5, w4.setCell ⟨b17, 19, none⟩ (.int .i64 (l.length : Nat)) = w5 := ⟨_, rfl⟩
   rw [hw5] at hx5 hb5
   rw [hw5]
   have HX5 := Lib.hid hx5
   have HB5 : Hid (Below w2.heap.size w2 w5) := acc HB3.out hb5
   have hi5 : (Tryz.prog.info? 49).map (·.size) = some (yak vo).size := yel
   have FIN : Hid (∀ {w6 : World}, Below w2.heap.size w2 w6 → yjl VD VV w g s F f t me to_ id (.returned (.tuple #[.pointer (some ⟨p, 0, none⟩), .slice (some ⟨w6.heap.size, 0, none⟩) 1 1, .int .i64 0])) (w6.alloc (.cells (yak vo) 49)).drew) := by
    intro w6 hb6
    have b7 : Below w2.heap.size w2 (w6.alloc (.cells (yak vo) 49)).drew := (acc hb6 ((Below.refl _ _).alloc (Nat.le_refl _) _)).drew
    have b8 : Below w1.heap.size w1 (w6.alloc (.cells (yak vo) 49)).drew := acc HB2.out b7
    have z1 := T1.out.1.size
    have z2 := HB2.out.size
    have z6 := hb6.size
    have zp := HPP.out
    have hM := (ypu (w := w6) (B := w.heap.size) (l := vo) (by rw [← hvo]; rfl) (by rw [← hvo]; rfl) (by omega)).below_ (Below.refl _ _).drew
    refine ⟨F1, T1.out.1.trans (Touch.ofBelow (F := F) b8) (fun x hx => .inl hx), T1.out.2, .inr (.inr (.inr ⟨HMT.out, A1.out, A2.out, p, _, [w6.heap.size], ep, vF p (.slice A l.length c), (⟨me, to_, id, f, t, IntKind.i64.wrap (ep + 1), 1, l, 0, g⟩ : GV), rfl, by rw [HLL.out], by rw [hvo]; exact hM, A3.out, ybj.touch Q3.out (Touch.ofBelow (F := []) b8) (by simp), ⟨_, H2.out.below b7, rfl⟩, fun q hq => ?_, fun q hq => ?_⟩))⟩
    ·rcases List.mem_cons.1 hq with rfl | y
     ·exact ⟨by omega, fun z => by have := (ybj.has_ Q3.out).2 q z; omega⟩
     ·have y' : (Value.slice A l.length c).ownBlock = some q := by simpa using y
      exact ⟨by have := (Q1.out.lt q y').1; have := HB0.out.size; omega, Q2.out q y'⟩
    ·have e := List.mem_singleton.1 hq
     have := HZ2.out
     refine ⟨fun z => by have := (ybj.has_ Q3.out).2 q z; omega, fun z => ?_⟩
     rcases List.mem_cons.1 z with y | y
     ·omega
     ·have := (Q1.out.lt q (by simpa using y)).2; omega
   clear hw5 hvo hx5 hb5 x19 g19
   refine ybe (fun w' => w'.heap[b17]? = some (.cells (yak vo) 49)) 2 (by kernel_rfl) ?_ (fun hHeld => ?_)
   ·(try dsimp only); exact HX5.out
   refine wtP 0 ?_
   try simp only [Act.put, wsA, wsB, wsC]
   refine wtP 3 ?_
   try simp only [Act.put, wsA, wsB, wsC]
   refine wtC 1 fun K hK => ?_
   refine yaay rfl 49 (.tmp 17) rfl b17 rfl 49 (yak vo) (0, 0) _ HX5.out Tryz.underlying49 rfl hi5 ?_
   refine hK.out _ _ (by (try dsimp only); first | assumption | exact HX5.out) (fun hHeld => ?_)
   clear hK K
   try simp only [Act.put, wsA, wsB, wsC]
   refine wtD 2 fun K hK => ?_
   go_simp
   refine hK.out _ _ ?_
   clear hK K
   try simp only [Act.put, wsA, wsB, wsC]
   refine wtD 4 fun K hK => ?_
   go_simp
   refine hK.out _ _ ?_
   clear hK K
   try simp only [Act.put, wsA, wsB, wsC]
   refine wtD 5 fun K hK => ?_
   go_simp
   refine hK.out _ _ ?_
   clear hK K
   try simp only [Act.put, wsA, wsB, wsC]
   refine ya8 (by kernel_rfl) ?_ _
   go_wp2_with fail
   refine bodyPost_ret (v := .tuple #[.pointer (some ⟨p, 0, none⟩), .slice (some ⟨w5.heap.size, 0, none⟩) 1 1, .int .i64 0]) (by simp [results, Tryz.results10, go_sem]) rfl ?_
   exact FIN.out HB5.out
theorem yaa2 {w : World} {g p : Nat} {s : HO} {F Fv : List Nat} {v : GV} (x : LV) (S1 S2 : Value) (hv : VD w g s F) (hvv : VV w p v Fv) (hF : ∀ q ∈ Fv, q ∉ F) (hh : v.h = g) (hsh : v.st = 3 → s.g.shut = true) (hks : s.k ≤ 1000) (hls : s.g.l.length ≤ 1000) (hch : v.ch ≤ 1000) :
  Calls Tryz.prog 14 #[.pointer (some ⟨p, 0, none⟩), .agg (x.cells S1 S2)] w (yc5 VD VV w g (v.did x s) F p (v.got x).1 Fv (v.got x).2 (v.over x)) := by
 obtain ⟨S, h, rfl⟩ := hvv
 have hst := h.st
 by_cases hf : x.f = v.to_
 case neg =>
  have e : x.f ≠ v.to_ ∨ x.i ≠ v.id := .inl hf
  unfold GV.did GV.over GV.got
  rw [if_pos e, if_pos e, if_pos e]
  exact yaal x S1 S2 hv h hF hf
 by_cases hi : x.i = v.id
 case neg =>
  have e : x.f ≠ v.to_ ∨ x.i ≠ v.id := .inr hi
  unfold GV.did GV.over GV.got
  rw [if_pos e, if_pos e, if_pos e]
  exact yaam x S1 S2 hv h hF hf hi
 have e : ¬ (x.f ≠ v.to_ ∨ x.i ≠ v.id) := by rintro (z | z); exact z hf; exact z hi
 have ov : v.over x = decide (4 ≤ (v.got x).1.st) := GV.over_eq hf hi
 rw [ov]
 have nx : ¬ 4 ≤ v.next.1.st := by
  unfold GV.next
  split
  ·show ¬ 4 ≤ 3; omega
  ·show ¬ 4 ≤ 2; omega
 rcases (by omega : v.st = 1 ∨ v.st = 2 ∨ v.st = 3 ∨ v.st = 4 ∨ v.st = 5) with h1 | h1 | h1 | h1 | h1
 ·by_cases hk : x.k = 11
  ·by_cases hn : x.n = 1
   ·have eg : v.got x = v.next := by unfold GV.got; rw [if_neg e, if_pos ⟨h1, hk, hn⟩]
    have ed : v.did x s = s := by unfold GV.did; rw [if_neg e, if_neg (by rintro ⟨_, _, z⟩; omega), if_neg (by rintro ⟨z, _⟩; omega)]
    rw [eg, ed, decide_eq_false nx]
    exact yaan x S1 S2 hv h hF hf hi h1 hk hn hch
   ·by_cases hn0 : x.n = 0
    ·have eg : v.got x = (v.at_ 5, []) := by unfold GV.got; rw [if_neg e, if_neg (fun z => hn z.2.2), if_pos ⟨h1, hk, hn0⟩]
     have ed : v.did x s = s.thawed := by unfold GV.did; rw [if_neg e, if_pos ⟨h1, hk, hn0⟩]
     rw [eg, ed]
     exact yaao x S1 S2 hv h hF hf hi h1 hk hn0 hh
    ·have eg : v.got x = (v, []) := by unfold GV.got; rw [if_neg e, if_neg (fun z => hn z.2.2), if_neg (fun z => hn0 z.2.2), if_neg (by rintro ⟨z, _⟩; omega), if_neg (by rintro ⟨z, _⟩; omega)]
     have ed : v.did x s = s := by unfold GV.did; rw [if_neg e, if_neg (fun z => hn0 z.2.2), if_neg (by rintro ⟨z, _⟩; omega)]
     rw [eg, ed, decide_eq_false (show ¬ 4 ≤ v.st by omega)]
     exact yaap x S1 S2 hv h hF hf hi h1 hk hn hn0
  ·have eg : v.got x = (v, []) := by unfold GV.got; rw [if_neg e, if_neg (fun z => hk z.2.1), if_neg (fun z => hk z.2.1), if_neg (by rintro ⟨z, _⟩; omega), if_neg (by rintro ⟨z, _⟩; omega)]
   have ed : v.did x s = s := by unfold GV.did; rw [if_neg e, if_neg (fun z => hk z.2.1), if_neg (by rintro ⟨z, _⟩; omega)]
   rw [eg, ed, decide_eq_false (show ¬ 4 ≤ v.st by omega)]
   exact yaaq x S1 S2 hv h hF hf hi h1 hk
 ·have ed : v.did x s = s := by unfold GV.did; rw [if_neg e, if_neg (by rintro ⟨z, _⟩; omega), if_neg (by rintro ⟨z, _⟩; omega)]
  by_cases hk : x.k = 13
  ·by_cases hn : x.n = (v.ch : Nat)
   ·have eg : v.got x = v.next := by unfold GV.got; rw [if_neg e, if_neg (by rintro ⟨z, _⟩; omega), if_neg (by rintro ⟨z, _⟩; omega), if_pos ⟨h1, hk, hn⟩]
    rw [eg, ed, decide_eq_false nx]
    exact yaar x S1 S2 hv h hF hf hi h1 hk hn hch
   ·have eg : v.got x = (v, []) := by unfold GV.got; rw [if_neg e, if_neg (by rintro ⟨z, _⟩; omega), if_neg (by rintro ⟨z, _⟩; omega), if_neg (fun z => hn z.2.2), if_neg (by rintro ⟨z, _⟩; omega)]
    rw [eg, ed, decide_eq_false (show ¬ 4 ≤ v.st by omega)]
    exact yaas x S1 S2 hv h hF hf hi h1 hk hn
  ·have eg : v.got x = (v, []) := by unfold GV.got; rw [if_neg e, if_neg (by rintro ⟨z, _⟩; omega), if_neg (by rintro ⟨z, _⟩; omega), if_neg (fun z => hk z.2.1), if_neg (by rintro ⟨z, _⟩; omega)]
   rw [eg, ed, decide_eq_false (show ¬ 4 ≤ v.st by omega)]
   exact yaat x S1 S2 hv h hF hf hi h1 hk
 ·by_cases hk : x.k = 15
  ·have eg : v.got x = (v.at_ 4, []) := by unfold GV.got; rw [if_neg e, if_neg (by rintro ⟨z, _⟩; omega), if_neg (by rintro ⟨z, _⟩; omega), if_neg (by rintro ⟨z, _⟩; omega), if_pos ⟨h1, hk⟩]
   have ed : v.did x s = s.lose v.to_ := by unfold GV.did; rw [if_neg e, if_neg (by rintro ⟨z, _⟩; omega), if_pos ⟨h1, hk⟩]
   rw [eg, ed]
   exact yaau x S1 S2 hv h hF hf hi h1 hk hh (hsh h1) hks hls
  ·have eg : v.got x = (v, []) := by unfold GV.got; rw [if_neg e, if_neg (by rintro ⟨z, _⟩; omega), if_neg (by rintro ⟨z, _⟩; omega), if_neg (by rintro ⟨z, _⟩; omega), if_neg (fun z => hk z.2)]
   have ed : v.did x s = s := by unfold GV.did; rw [if_neg e, if_neg (by rintro ⟨z, _⟩; omega), if_neg (fun z => hk z.2)]
   rw [eg, ed, decide_eq_false (show ¬ 4 ≤ v.st by omega)]
   exact yaav x S1 S2 hv h hF hf hi h1 hk
 ·have eg : v.got x = (v, []) := by unfold GV.got; rw [if_neg e, if_neg (by rintro ⟨z, _⟩; omega), if_neg (by rintro ⟨z, _⟩; omega), if_neg (by rintro ⟨z, _⟩; omega), if_neg (by rintro ⟨z, _⟩; omega)]
  have ed : v.did x s = s := by unfold GV.did; rw [if_neg e, if_neg (by rintro ⟨z, _⟩; omega), if_neg (by rintro ⟨z, _⟩; omega)]
  rw [eg, ed, decide_eq_true (show 4 ≤ v.st by omega)]
  exact yaaw x S1 S2 hv h hF hf hi h1
 ·have eg : v.got x = (v, []) := by unfold GV.got; rw [if_neg e, if_neg (by rintro ⟨z, _⟩; omega), if_neg (by rintro ⟨z, _⟩; omega), if_neg (by rintro ⟨z, _⟩; omega), if_neg (by rintro ⟨z, _⟩; omega)]
  have ed : v.did x s = s := by unfold GV.did; rw [if_neg e, if_neg (by rintro ⟨z, _⟩; omega), if_neg (by rintro ⟨z, _⟩; omega)]
  rw [eg, ed, decide_eq_true (show 4 ≤ v.st by omega)]
  exact yaax x S1 S2 hv h hF hf hi h1
theorem ypy : yc6 VD VV where
 has := yzr
 touch := yzs
 start := fun f t me to_ id hf ht hm hto hid hk hv => yaa1 f t me to_ id hf ht hm hto hid hk hv
 got := fun x S1 S2 hv hvv hF hh hsh hks hls hch => yaa2 x S1 S2 hv hvv hF hh hsh hks hls hch
 stop := fun hv hvv hF hh => by
  obtain ⟨S, h, rfl⟩ := hvv
  exact yaai hv h hF hh
 step := fun hvv => by
  obtain ⟨S, h, rfl⟩ := hvv
  exact yzu h
 id := fun hvv => by
  obtain ⟨S, h, rfl⟩ := hvv
  exact yzv h
end Go.Proofs.YtnjodhglbapnlaaGreat
