/-
  The code's hold: Do. (Written by tools/genDD.py.)
-/
import Derived.Test.YthgndgoljchnfaaGreatHg35
namespace Go.Proofs.YthgndgoljchnfaaGreat
open Go.RowKit

theorem bar_right {s : HO} {a : AK} (h : rightA a ≠ 0) : s.bar a = some (TL.err (rightA a)) := by
  unfold HO.bar
  unfold rightA at h ⊢
  by_cases h1 : a.op < 1 ∨ 4 < a.op ∨ (a.op = 4 ∧ (a.most < 0 ∨ 40 < a.most))
  · rw [if_pos h1, if_pos h1]
  · rw [if_neg h1] at h ⊢
    rw [if_neg h1]
    by_cases h2 : 16 < a.key.size ∨ (a.key.size = 0 ∧ a.op ≠ 4)
    · rw [if_pos h2, if_pos h2]
    · rw [if_neg h2] at h
      exact absurd rfl h
theorem right_zero {a : AK} (h : rightA a = 0) : (1 ≤ a.op ∧ a.op ≤ 4) ∧ ¬ (a.op < 1 ∨ 4 < a.op ∨ (a.op = 4 ∧ (a.most < 0 ∨ 40 < a.most))) ∧ ¬ (16 < a.key.size ∨ (a.key.size = 0 ∧ a.op ≠ 4)) := by
  unfold rightA at h
  by_cases h1 : a.op < 1 ∨ 4 < a.op ∨ (a.op = 4 ∧ (a.most < 0 ∨ 40 < a.most))
  · rw [if_pos h1] at h
    exact absurd h (by decide)
  · rw [if_neg h1] at h
    by_cases h2 : 16 < a.key.size ∨ (a.key.size = 0 ∧ a.op ≠ 4)
    · rw [if_pos h2] at h
      exact absurd h (by decide)
    · exact ⟨by omega, h1, h2⟩
theorem bar_else {s : HO} {a : AK} (h : rightA a = 0) : s.bar a = if s.own (addrN a.key) = none then some ⟨8, ⟨#[]⟩, [], false, ⟨#[]⟩, (overL s.g.l (addrN a.key)).getD (-1)⟩ else if s.g.frozen (addrN a.key) = true then some (TL.err 7) else none := by
  obtain ⟨_, h1, h2⟩ := right_zero h
  unfold HO.bar
  rw [if_neg h1, if_neg h2]
/-- what a part of Do leaves -/
def DoneAt (w : World) (g sp : Nat) (s : HO) (l : List AO) (S : Value) (Fs Fg : List Nat) (a : AK) (e : Ending) (w' : World) : Prop :=
  ∃ (er : Int) (val : ByteArray) (its : List Item) (more : Bool) (nx : ByteArray) (nd : Int) (s1 : HO) (A : Option Addr) (c : Nat) (Fs' : List Nat), Did s a ⟨er, val, its, more, nx, nd⟩ s1 ∧ e = .returned (.agg #[.int .i64 er, .string val, .slice A its.length c, .bool more, .string nx, .int .i64 nd]) ∧
    w'.ownsRow w.heap.size 31 2 (.slice A its.length c) its.length (itemCells its) ∧ (∀ q, (Value.slice A its.length c).ownBlock = some q → q ∉ Fs') ∧ HM w' g s1 l S sp Fs' Fg ∧ Touch Fs w w' ∧ ∀ q ∈ Fs', q ∈ Fs ∨ w.heap.size ≤ q
section
variable {w : World} {g sp : Nat} {s : HO} {l : List AO} {S : Value} {Fs Fg : List Nat} {a : AK}
theorem do_get (h : HM w g s l S sp Fs Fg) (hb : s.bar a = none) (ho : a.op = 1) : Calls Tryz.prog 41 #[.pointer (some ⟨g, 0, none⟩), .string a.key] w (DoneAt w g sp s l S Fs Fg a) := by
  refine (get_any' a.key h).mono ?_
  rintro e w' ⟨rfl, hw⟩
  by_cases hh : hasN s.its a.key = true
  · rw [if_pos hh]
    exact ⟨0, getI s.its a.key, [], false, ⟨#[]⟩, 0, s, none, 0, Fs, by unfold Did; rw [hb]; exact .inl ⟨ho, by rw [if_pos hh], rfl⟩, rfl, World.ownsRow_nil _ _ _ _, fun q hq => (by cases hq), h.below hw, Touch.ofBelow hw, fun _ hq => .inl hq⟩
  · rw [if_neg hh]
    exact ⟨6, ⟨#[]⟩, [], false, ⟨#[]⟩, 0, s, none, 0, Fs, by unfold Did; rw [hb]; exact .inl ⟨ho, by rw [if_neg hh], rfl⟩, rfl, World.ownsRow_nil _ _ _ _, fun q hq => (by cases hq), h.below hw, Touch.ofBelow hw, fun _ hq => .inl hq⟩
theorem do_put (h : HM w g s l S sp Fs Fg) (ha : a.Fit) (hr : rightA a = 0) (hb : s.bar a = none) (ho : a.op = 2) : Calls Tryz.prog 42 #[.pointer (some ⟨g, 0, none⟩), .string a.key, .string a.val] w (DoneAt w g sp s l S Fs Fg a) := by
  have hk : rightN a.key = 0 := by
    have h2 := (right_zero hr).2.2
    unfold rightN
    rw [if_neg (fun z => h2 (by rcases z with z | z; exact .inr ⟨z, by omega⟩; exact .inl z))]
  refine (put_any' a.key a.val hk ha.key ha.val h).mono ?_
  rintro e w' ⟨rfl, Fs', hm, ht, hn⟩
  refine ⟨s.putE a.key a.val, ⟨#[]⟩, [], false, ⟨#[]⟩, 0, _, none, 0, Fs', ?_, rfl, World.ownsRow_nil _ _ _ _, fun q hq => (by cases hq), hm, ht, hn⟩
  unfold Did
  rw [hb]
  refine .inr (.inl ⟨ho, rfl, ?_⟩)
  by_cases z : s.putE a.key a.val = 0
  · rw [if_pos z, if_pos z]
  · rw [if_neg z, if_neg z]
    rfl
theorem do_del (h : HM w g s l S sp Fs Fg) (hb : s.bar a = none) (ho : a.op = 3) : Calls Tryz.prog 43 #[.pointer (some ⟨g, 0, none⟩), .string a.key] w (DoneAt w g sp s l S Fs Fg a) := by
  refine (del_any' a.key h).mono ?_
  rintro e w' ⟨rfl, Fs', hm, ht, hn⟩
  refine ⟨if hasN s.its a.key = true then 0 else 6, ⟨#[]⟩, [], false, ⟨#[]⟩, 0, _, none, 0, Fs', ?_, rfl, World.ownsRow_nil _ _ _ _, fun q hq => (by cases hq), hm, ht, hn⟩
  unfold Did
  rw [hb]
  exact .inr (.inr (.inl ⟨ho, rfl, rfl⟩))
theorem do_scan (h : HM w g s l S sp Fs Fg) (ha : a.Fit) (hb : s.bar a = none) (ho : a.op = 4) (hox : s.own (addrN a.key) ≠ none) (hnf : s.g.frozen (addrN a.key) = false) (hk : s.k ≤ 1000) : Calls Tryz.prog 44 #[.pointer (some ⟨g, 0, none⟩), .agg a.cells] w (DoneAt w g sp s l S Fs Fg a) := by
  refine (scan_any a ha hox hnf hk h).mono ?_
  rintro e w' ⟨stop, A, c, hu, rfl, hr, hw⟩
  refine ⟨(scanT s a stop).er, (scanT s a stop).val, (scanT s a stop).its, (scanT s a stop).more, (scanT s a stop).nx, (scanT s a stop).nd, s, A, c, Fs, ?_, rfl, hr, fun q hq z => ?_, h.below hw, Touch.ofBelow hw, fun _ hq => .inl hq⟩
  · unfold Did
    rw [hb]
    exact .inr (.inr (.inr ⟨ho, ⟨stop, hu, rfl⟩, rfl⟩))
  · have := (hr.lt q hq).1
    have := h.shelf.ltF q z
    omega
theorem DoPost.of {w3 w4 w6 : World} {b4 : Nat} {er : Int} {val : ByteArray} {its : List Item} {more : Bool} {nx : ByteArray} {nd : Int} {s1 : HO} {A : Option Addr} {c : Nat} {Fs' : List Nat} (h : HM w g s l S sp Fs Fg) (hb : Below w.heap.size w w3) (h4 : b4 < w3.heap.size) (h4' : w.heap.size ≤ b4)
    (hd : Did s a ⟨er, val, its, more, nx, nd⟩ s1) (ho : w4.ownsRow w3.heap.size 31 2 (.slice A its.length c) its.length (itemCells its)) (hq : ∀ q, (Value.slice A its.length c).ownBlock = some q → q ∉ Fs') (hm : HM w4 g s1 l S sp Fs' Fg) (ht : Touch Fs w3 w4) (hn : ∀ q ∈ Fs', q ∈ Fs ∨ w3.heap.size ≤ q) (t6 : Touch [b4] w4 w6) :
    DoPost VD w g s (hF S Fs Fg) a (.returned (.agg #[.int .i64 er, .string val, .slice A its.length c, .bool more, .string nx, .int .i64 nd])) w6 := by
  have hz := hb.size
  have hl := h.all_lt
  have hlf : ∀ q ∈ Fs, q < w.heap.size := fun q y => hl q (mem_hF.2 (.inr (.inl y)))
  refine ⟨⟨er, val, its, more, nx, nd⟩, s1, .slice A its.length c, hF S Fs' Fg, hd, rfl, own_mono (t6.row ho (fun q y z => ?_)) hz, fun q y z => ?_, ⟨l, S, sp, Fs', Fg, hm.touch t6 (fun q y z => ?_), rfl⟩, ?_, fun q y => ?_⟩
  · have := (ho.lt q y).1
    have e := List.mem_singleton.1 z
    omega
  · have := (ho.lt q y).1
    rcases mem_hF.1 z with x | x | x
    · have := hl q (mem_hF.2 (.inl x)); omega
    · exact hq q y x
    · have := hl q (mem_hF.2 (.inr (.inr x))); omega
  · have e := List.mem_singleton.1 z
    rcases mem_hF.1 y with x | x | x
    · have := hl q (mem_hF.2 (.inl x)); omega
    · rcases hn q x with u | u
      · have := hlf q u; omega
      · omega
    · have := hl q (mem_hF.2 (.inr (.inr x))); omega
  · exact (((Touch.ofBelow hb).trans ht (fun q y => .inl (mem_hF.2 (.inr (.inl y))))).trans t6 (fun q y => .inr (by rw [List.mem_singleton.1 y]; exact h4')))
  · rcases mem_hF.1 y with x | x | x
    · exact .inl (mem_hF.2 (.inl x))
    · rcases hn q x with u | u
      · exact .inl (mem_hF.2 (.inr (.inl u)))
      · exact .inr (by omega)
    · exact .inl (mem_hF.2 (.inr (.inr x)))
theorem DoPost.out {w3 w6 : World} {b4 : Nat} {er nd : Int} (h : HM w g s l S sp Fs Fg) (hb : Below w.heap.size w w3) (h4 : b4 < w3.heap.size) (h4' : w.heap.size ≤ b4) (hd : s.bar a = some ⟨er, ⟨#[]⟩, [], false, ⟨#[]⟩, nd⟩) (t6 : Touch [b4] w3 w6) : DoPost VD w g s (hF S Fs Fg) a (.returned (.agg #[.int .i64 er, .string ⟨#[]⟩, .slice none 0 0, .bool false, .string ⟨#[]⟩, .int .i64 nd])) w6 :=
  DoPost.of (its := []) (A := none) (c := 0) (Fs' := Fs) h hb h4 h4' (by unfold Did; rw [hd]; exact ⟨rfl, rfl⟩) (World.ownsRow_nil _ _ _ _) (fun q hq => (by cases hq)) (h.below hb) (Touch.refl _ _) (fun _ hq => .inl hq) t6
end
set_option maxRecDepth 100000 in
set_option maxHeartbeats 4000000 in
theorem hdDo_any {w : World} {g : Nat} {s : HO} {F : List Nat} (a : AK) (ha : a.Fit) (hk : s.k ≤ 1000) (hv : VD w g s F) : Calls Tryz.prog 14 #[.pointer (some ⟨g, 0, none⟩), .agg a.cells] w (DoPost VD w g s F a) := by
  obtain ⟨l, S, sp, Fs, Fg, h, rfl⟩ := hv
  have B0 : Below w.heap.size w ((w.alloc (.cells a.cells 37)).alloc (.cells tz 34)) := ((Below.refl _ _).alloc (Nat.le_refl _) _).alloc (by simp) _
  have hxa := (Bx.new w a.cells 37).old (.cells tz 34)
  have hx := Bx.new (w.alloc (.cells a.cells 37)) tz 34
  simp only [World.size_alloc] at hx
  have h1 := h.below B0
  have CN := Lib.hid (none_any g sp _ h1.c4)
  have HH := Lib.hid h
  have CR := Lib.hid (fun W => right_any' a ha W)
  have CA := Lib.hid (fun W => addr_any a.key W ha.key)
  have hx9 := addrN_lt a.key
  have CH : Hid (∀ W, HM W g s l S sp Fs Fg → Calls Tryz.prog 27 #[.pointer (some ⟨g, 0, none⟩), .int .u64 (addrN a.key : Nat)] W fun e w' => e = .returned (.bool (s.own (addrN a.key)).isSome) ∧ Below W.heap.size W w') := fun W h' => hdHas_any _ hx9 hk ⟨l, S, sp, Fs, Fg, h', rfl⟩
  have CE0 : Hid (∀ W, HM W g s l S sp Fs Fg → Calls Tryz.prog 39 #[.pointer (some ⟨g, 0, none⟩), .int .u64 (addrN a.key : Nat)] W fun e w' => e = .returned (.agg #[.int .i64 8, .string ⟨#[]⟩, .slice none 0 0, .bool false, .string ⟨#[]⟩, .int .i64 ((overL s.g.l (addrN a.key)).getD (-1))]) ∧ Below W.heap.size W w') := fun W h' => elsewhere_any _ hx9 h'
  have CZ : Hid (∀ W, HM W g s l S sp Fs Fg → Calls Tryz.prog 40 #[.pointer (some ⟨g, 5, none⟩), .int .u64 (addrN a.key : Nat)] W fun e w' => e = .returned (.bool (s.g.frozen (addrN a.key))) ∧ Below W.heap.size W w') := fun W h' => Gi.gateFrozen_any _ hx9 h'.gate
  have HFL : Hid (∀ q ∈ Fs, q < w.heap.size) := fun q y => h.shelf.ltF q y
  have HAF := Lib.hid ha
  have HKK := Lib.hid hk
  clear h ha hk hx9
  by_cases hr : rightA a = 0
  case neg =>
    have HBR := Lib.hid (bar_right (s := s) hr)
    have r1 : (rightA a != 0) = true := by rw [bne_iff_ne]; exact hr
    generalize rightA a = r at *
    clear hr
    obtain ⟨op, key, val, tt, most⟩ := a
    dsimp only [AK.cells] at *
    go_enter Tryz.func14, Tryz.ntmps14
    go_upto_region 1 with fail
    obtain ⟨b3, hb3⟩ : ∃ b3, w.heap.size = b3 := ⟨_, rfl⟩
    have HB3b : Hid (w.heap.size ≤ b3) := Nat.le_of_eq hb3
    rw [hb3] at hx hxa
    obtain ⟨w0, hw0⟩ : ∃ w0, (w.alloc (.cells #[.int .i64 op, .string key, .string val, .string tt, .int .i64 most] 37)).alloc (.cells tz 34) = w0 := ⟨_, rfl⟩
    rw [hw0] at B0 hx hxa h1 CN ⊢
    try rw [hb3]
    clear hw0 hb3
    have HB0 := Lib.hid B0
    have HA0 := Lib.hid hxa
    have HX0 := Lib.hid hx
    have H0 := Lib.hid h1
    obtain ⟨b4, hb4⟩ : ∃ b4, b3 + 1 = b4 := ⟨_, rfl⟩
    have HB4 : Hid (w.heap.size ≤ b4) := by have := HB3b.out; show _ ≤ _; omega
    rw [hb4] at hx HX0 ⊢
    clear hb4
    obtain ⟨x0, x1, x2, x3, x4, xl⟩ := hxa.five
    clear B0 hx hxa h1
    go_wp2_with (first | (go_at_call 33; (with_reducible refine (CN.out).mono ?_); rintro e wn ⟨rfl, rfl⟩) | (go_at_call 37; (with_reducible refine (CR.out _).mono ?_); rintro e w1 ⟨rfl, hb1⟩; have HB1 := Lib.hid (acc HB0.out hb1); have HA1 := Lib.hid (HA0.out.below hb1); have HX1 := Lib.hid (HX0.out.below hb1); have H1 := Lib.hid (H0.out.below hb1); obtain ⟨x0, x1, x2, x3, x4, xl⟩ := HA1.out.five; obtain ⟨z0, z1, z2, z3, z4, z5, zl⟩ := HX1.out.six; obtain ⟨f0, f1, f2, f3, f4, f5⟩ := HX1.out.free6; clear hb1))
    refine bodyPost_ret (v := .agg #[.int .i64 r, .string ⟨#[]⟩, .slice none 0 0, .bool false, .string ⟨#[]⟩, .int .i64 0]) ?_ rfl ?_
    · obtain ⟨s0, s1', s2, s3, s4, s5, _⟩ := (HX1.out.put6 (.int .i64 r) (.string ⟨#[]⟩) (.slice none 0 0) (.bool false) (.string ⟨#[]⟩) (.int .i64 0)).six
      simp [results, Tryz.results14, go_sem, s0, s1', s2, s3, s4, s5]
    · exact DoPost.out HH.out HB1.out HX1.out.six.2.2.2.2.2.2 HB4.out HBR.out (set6_touch (Touch.refl _ _) (by simp) _ _ _ _ _ _)
  case pos =>
    have HBE := Lib.hid (bar_else (s := s) hr)
    have HRZ := Lib.hid hr
    rw [hr] at CR
    obtain ⟨b, hb⟩ : ∃ b, (s.own (addrN a.key)).isSome = b := ⟨_, rfl⟩
    rw [hb] at CH
    cases b
    · have HBR : Hid (s.bar a = some ⟨8, ⟨#[]⟩, [], false, ⟨#[]⟩, (overL s.g.l (addrN a.key)).getD (-1)⟩) := by
        show _ = _
        rw [HBE.out, if_pos (by cases z : s.own (addrN a.key) with | none => rfl | some v => rw [z] at hb; cases hb)]
      have CE := CE0
      generalize (overL s.g.l (addrN a.key)).getD (-1) = en at *
      obtain ⟨x, hxk⟩ : ∃ x, addrN a.key = x := ⟨_, rfl⟩
      rw [hxk] at CA CH CE
      clear hr hb hxk
      obtain ⟨op, key, val, tt, most⟩ := a
      dsimp only [AK.cells] at *
      go_enter Tryz.func14, Tryz.ntmps14
      go_upto_region 1 with fail
      obtain ⟨b3, hb3⟩ : ∃ b3, w.heap.size = b3 := ⟨_, rfl⟩
      have HB3b : Hid (w.heap.size ≤ b3) := Nat.le_of_eq hb3
      rw [hb3] at hx hxa
      obtain ⟨w0, hw0⟩ : ∃ w0, (w.alloc (.cells #[.int .i64 op, .string key, .string val, .string tt, .int .i64 most] 37)).alloc (.cells tz 34) = w0 := ⟨_, rfl⟩
      rw [hw0] at B0 hx hxa h1 CN ⊢
      try rw [hb3]
      clear hw0 hb3
      have HB0 := Lib.hid B0
      have HA0 := Lib.hid hxa
      have HX0 := Lib.hid hx
      have H0 := Lib.hid h1
      obtain ⟨b4, hb4⟩ : ∃ b4, b3 + 1 = b4 := ⟨_, rfl⟩
      have HB4 : Hid (w.heap.size ≤ b4) := by have := HB3b.out; show _ ≤ _; omega
      rw [hb4] at hx HX0 ⊢
      clear hb4
      obtain ⟨x0, x1, x2, x3, x4, xl⟩ := hxa.five
      clear B0 hx hxa h1
      go_wp2_with (first | (go_at_call 33; (with_reducible refine (CN.out).mono ?_); rintro e wn ⟨rfl, rfl⟩) | (go_at_call 37; (with_reducible refine (CR.out _).mono ?_); rintro e w1 ⟨rfl, hb1⟩; have HB1 := Lib.hid (acc HB0.out hb1); have HA1 := Lib.hid (HA0.out.below hb1); have HX1 := Lib.hid (HX0.out.below hb1); have H1 := Lib.hid (H0.out.below hb1); obtain ⟨x0, x1, x2, x3, x4, xl⟩ := HA1.out.five; obtain ⟨z0, z1, z2, z3, z4, z5, zl⟩ := HX1.out.six; obtain ⟨f0, f1, f2, f3, f4, f5⟩ := HX1.out.free6; clear hb1) | (go_at_call 38; (with_reducible refine (CA.out _).mono ?_); rintro e wa ⟨rfl, rfl⟩) | (go_at_call 27; (with_reducible refine (CH.out _ H1.out).mono ?_); rintro e w2 ⟨rfl, hb2⟩; have HB2 := Lib.hid (acc HB1.out hb2); have HA2 := Lib.hid (HA1.out.below hb2); have HX2 := Lib.hid (HX1.out.below hb2); have H2 := Lib.hid (H1.out.below hb2); obtain ⟨x0, x1, x2, x3, x4, xl⟩ := HA2.out.five; obtain ⟨z0, z1, z2, z3, z4, z5, zl⟩ := HX2.out.six; obtain ⟨f0, f1, f2, f3, f4, f5⟩ := HX2.out.free6; clear hb2) | (go_at_call 39; (with_reducible refine (CE.out _ H2.out).mono ?_); rintro e w3 ⟨rfl, hb3⟩; have HB3 := Lib.hid (acc HB2.out hb3); have HA3 := Lib.hid (HA2.out.below hb3); have HX3 := Lib.hid (HX2.out.below hb3); have H3 := Lib.hid (H2.out.below hb3); obtain ⟨x0, x1, x2, x3, x4, xl⟩ := HA3.out.five; obtain ⟨z0, z1, z2, z3, z4, z5, zl⟩ := HX3.out.six; obtain ⟨f0, f1, f2, f3, f4, f5⟩ := HX3.out.free6; clear hb3))
      refine bodyPost_ret (v := .agg #[.int .i64 8, .string ⟨#[]⟩, .slice none 0 0, .bool false, .string ⟨#[]⟩, .int .i64 en]) ?_ rfl ?_
      · obtain ⟨s0, s1', s2, s3, s4, s5, _⟩ := (HX3.out.put6 (.int .i64 8) (.string ⟨#[]⟩) (.slice none 0 0) (.bool false) (.string ⟨#[]⟩) (.int .i64 en)).six
        simp [results, Tryz.results14, go_sem, s0, s1', s2, s3, s4, s5]
      · exact DoPost.out HH.out HB3.out HX3.out.six.2.2.2.2.2.2 HB4.out HBR.out (set6_touch (Touch.refl _ _) (by simp) _ _ _ _ _ _)
    · have HOX : Hid (s.own (addrN a.key) ≠ none) := fun z => by rw [z] at hb; cases hb
      obtain ⟨fz, hfz⟩ : ∃ fz, s.g.frozen (addrN a.key) = fz := ⟨_, rfl⟩
      rw [hfz] at CZ
      cases fz
      case true =>
        have HBR : Hid (s.bar a = some (TL.err 7)) := by
          show _ = _
          rw [HBE.out, if_neg HOX.out, if_pos hfz]
        obtain ⟨x, hxk⟩ : ∃ x, addrN a.key = x := ⟨_, rfl⟩
        rw [hxk] at CA CH CZ
        clear hr hb hxk hfz
        obtain ⟨op, key, val, tt, most⟩ := a
        dsimp only [AK.cells] at *
        go_enter Tryz.func14, Tryz.ntmps14
        go_upto_region 1 with fail
        obtain ⟨b3, hb3⟩ : ∃ b3, w.heap.size = b3 := ⟨_, rfl⟩
        have HB3b : Hid (w.heap.size ≤ b3) := Nat.le_of_eq hb3
        rw [hb3] at hx hxa
        obtain ⟨w0, hw0⟩ : ∃ w0, (w.alloc (.cells #[.int .i64 op, .string key, .string val, .string tt, .int .i64 most] 37)).alloc (.cells tz 34) = w0 := ⟨_, rfl⟩
        rw [hw0] at B0 hx hxa h1 CN ⊢
        try rw [hb3]
        clear hw0 hb3
        have HB0 := Lib.hid B0
        have HA0 := Lib.hid hxa
        have HX0 := Lib.hid hx
        have H0 := Lib.hid h1
        obtain ⟨b4, hb4⟩ : ∃ b4, b3 + 1 = b4 := ⟨_, rfl⟩
        have HB4 : Hid (w.heap.size ≤ b4) := by have := HB3b.out; show _ ≤ _; omega
        rw [hb4] at hx HX0 ⊢
        clear hb4
        obtain ⟨x0, x1, x2, x3, x4, xl⟩ := hxa.five
        clear B0 hx hxa h1
        go_wp2_with (first | (go_at_call 33; (with_reducible refine (CN.out).mono ?_); rintro e wn ⟨rfl, rfl⟩) | (go_at_call 37; (with_reducible refine (CR.out _).mono ?_); rintro e w1 ⟨rfl, hb1⟩; have HB1 := Lib.hid (acc HB0.out hb1); have HA1 := Lib.hid (HA0.out.below hb1); have HX1 := Lib.hid (HX0.out.below hb1); have H1 := Lib.hid (H0.out.below hb1); obtain ⟨x0, x1, x2, x3, x4, xl⟩ := HA1.out.five; obtain ⟨z0, z1, z2, z3, z4, z5, zl⟩ := HX1.out.six; obtain ⟨f0, f1, f2, f3, f4, f5⟩ := HX1.out.free6; clear hb1) | (go_at_call 38; (with_reducible refine (CA.out _).mono ?_); rintro e wa ⟨rfl, rfl⟩) | (go_at_call 27; (with_reducible refine (CH.out _ H1.out).mono ?_); rintro e w2 ⟨rfl, hb2⟩; have HB2 := Lib.hid (acc HB1.out hb2); have HA2 := Lib.hid (HA1.out.below hb2); have HX2 := Lib.hid (HX1.out.below hb2); have H2 := Lib.hid (H1.out.below hb2); obtain ⟨x0, x1, x2, x3, x4, xl⟩ := HA2.out.five; obtain ⟨z0, z1, z2, z3, z4, z5, zl⟩ := HX2.out.six; obtain ⟨f0, f1, f2, f3, f4, f5⟩ := HX2.out.free6; clear hb2) | (go_at_call 40; (with_reducible refine (CZ.out _ H2.out).mono ?_); rintro e w3 ⟨rfl, hb3⟩; have HB3 := Lib.hid (acc HB2.out hb3); have HA3 := Lib.hid (HA2.out.below hb3); have HX3 := Lib.hid (HX2.out.below hb3); have H3 := Lib.hid (H2.out.below hb3); obtain ⟨x0, x1, x2, x3, x4, xl⟩ := HA3.out.five; obtain ⟨z0, z1, z2, z3, z4, z5, zl⟩ := HX3.out.six; obtain ⟨f0, f1, f2, f3, f4, f5⟩ := HX3.out.free6; clear hb3))
        refine bodyPost_ret (v := .agg #[.int .i64 7, .string ⟨#[]⟩, .slice none 0 0, .bool false, .string ⟨#[]⟩, .int .i64 0]) ?_ rfl ?_
        · obtain ⟨s0, s1', s2, s3, s4, s5, _⟩ := (HX3.out.put6 (.int .i64 7) (.string ⟨#[]⟩) (.slice none 0 0) (.bool false) (.string ⟨#[]⟩) (.int .i64 0)).six
          simp [results, Tryz.results14, go_sem, s0, s1', s2, s3, s4, s5]
        · exact DoPost.out HH.out HB3.out HX3.out.six.2.2.2.2.2.2 HB4.out HBR.out (set6_touch (Touch.refl _ _) (by simp) _ _ _ _ _ _)
      case false =>
        have HBN : Hid (s.bar a = none) := by
          show _ = _
          rw [HBE.out, if_neg HOX.out, if_neg (by rw [hfz]; exact Bool.false_ne_true)]
        have HFZ := Lib.hid hfz
        have HNF : Hid (∀ n, w.heap.size ≤ n → w.heap.size ∉ Fs) := fun n hn z => absurd (HFL.out _ z) (Nat.lt_irrefl _)
        have hop := (right_zero hr).1
        rcases (show a.op = 1 ∨ a.op = 2 ∨ a.op = 3 ∨ a.op = 4 by omega) with ho | ho | ho | ho
        · have CO : Hid (∀ W, HM W g s l S sp Fs Fg → Calls Tryz.prog 41 #[.pointer (some ⟨g, 0, none⟩), .string a.key] W (DoneAt W g sp s l S Fs Fg a)) := fun W h' => do_get h' HBN.out ho
          obtain ⟨x, hxk⟩ : ∃ x, addrN a.key = x := ⟨_, rfl⟩
          rw [hxk] at CA CH CZ
          clear hr hb hxk hfz hop HNF
          obtain ⟨op, key, val, tt, most⟩ := a
          dsimp only [AK.cells] at *
          subst ho
          go_enter Tryz.func14, Tryz.ntmps14
          go_upto_region 1 with fail
          obtain ⟨b3, hb3⟩ : ∃ b3, w.heap.size = b3 := ⟨_, rfl⟩
          have HB3b : Hid (w.heap.size ≤ b3) := Nat.le_of_eq hb3
          rw [hb3] at hx hxa
          obtain ⟨w0, hw0⟩ : ∃ w0, (w.alloc (.cells #[.int .i64 1, .string key, .string val, .string tt, .int .i64 most] 37)).alloc (.cells tz 34) = w0 := ⟨_, rfl⟩
          rw [hw0] at B0 hx hxa h1 CN ⊢
          try rw [hb3]
          clear hw0 hb3
          have HB0 := Lib.hid B0
          have HA0 := Lib.hid hxa
          have HX0 := Lib.hid hx
          have H0 := Lib.hid h1
          obtain ⟨b4, hb4⟩ : ∃ b4, b3 + 1 = b4 := ⟨_, rfl⟩
          have HB4 : Hid (w.heap.size ≤ b4) := by have := HB3b.out; show _ ≤ _; omega
          rw [hb4] at hx HX0 ⊢
          clear hb4
          obtain ⟨x0, x1, x2, x3, x4, xl⟩ := hxa.five
          clear B0 hx hxa h1
          have HNF : Hid (∀ n, w.heap.size ≤ n → b4 ∉ Fs) := fun n _ z => by have := HFL.out _ z; have := HB4.out; omega
          go_wp2_with (first | (go_at_call 33; (with_reducible refine (CN.out).mono ?_); rintro e wn ⟨rfl, rfl⟩) | (go_at_call 37; (with_reducible refine (CR.out _).mono ?_); rintro e w1 ⟨rfl, hb1⟩; have HB1 := Lib.hid (acc HB0.out hb1); have HA1 := Lib.hid (HA0.out.below hb1); have HX1 := Lib.hid (HX0.out.below hb1); have H1 := Lib.hid (H0.out.below hb1); obtain ⟨x0, x1, x2, x3, x4, xl⟩ := HA1.out.five; obtain ⟨z0, z1, z2, z3, z4, z5, zl⟩ := HX1.out.six; obtain ⟨f0, f1, f2, f3, f4, f5⟩ := HX1.out.free6; clear hb1) | (go_at_call 38; (with_reducible refine (CA.out _).mono ?_); rintro e wa ⟨rfl, rfl⟩) | (go_at_call 27; (with_reducible refine (CH.out _ H1.out).mono ?_); rintro e w2 ⟨rfl, hb2⟩; have HB2 := Lib.hid (acc HB1.out hb2); have HA2 := Lib.hid (HA1.out.below hb2); have HX2 := Lib.hid (HX1.out.below hb2); have H2 := Lib.hid (H1.out.below hb2); obtain ⟨x0, x1, x2, x3, x4, xl⟩ := HA2.out.five; obtain ⟨z0, z1, z2, z3, z4, z5, zl⟩ := HX2.out.six; obtain ⟨f0, f1, f2, f3, f4, f5⟩ := HX2.out.free6; clear hb2) | (go_at_call 40; (with_reducible refine (CZ.out _ H2.out).mono ?_); rintro e w3 ⟨rfl, hb3⟩; have HB3 := Lib.hid (acc HB2.out hb3); have HA3 := Lib.hid (HA2.out.below hb3); have HX3 := Lib.hid (HX2.out.below hb3); have H3 := Lib.hid (H2.out.below hb3); obtain ⟨x0, x1, x2, x3, x4, xl⟩ := HA3.out.five; obtain ⟨z0, z1, z2, z3, z4, z5, zl⟩ := HX3.out.six; obtain ⟨f0, f1, f2, f3, f4, f5⟩ := HX3.out.free6; clear hb3) | (go_at_call 41; (with_reducible refine (CO.out _ H3.out).mono ?_); rintro e w4 ⟨er, val', its, more, nx, nd, s1, A, c, Fs', hd, rfl, ho, hq, hm, ht, hn⟩; have HD4 := Lib.hid hd; have HO4 := Lib.hid ho; have HQ4 := Lib.hid hq; have H4 := Lib.hid hm; have HT4 := Lib.hid ht; have HN4 := Lib.hid hn; have HX4 := Lib.hid (HX3.out.touch ht (HNF.out _ (Nat.le_refl _))); obtain ⟨z0, z1, z2, z3, z4, z5, zl⟩ := HX4.out.six; obtain ⟨f0, f1, f2, f3, f4, f5⟩ := HX4.out.free6; clear hd ho hq hm ht hn))
          refine bodyPost_ret (v := .agg #[.int .i64 er, .string val', .slice A its.length c, .bool more, .string nx, .int .i64 nd]) ?_ rfl ?_
          · obtain ⟨s0, s1', s2, s3, s4, s5, _⟩ := (HX4.out.put6 (.int .i64 er) (.string val') (.slice A its.length c) (.bool more) (.string nx) (.int .i64 nd)).six
            simp [results, Tryz.results14, go_sem, s0, s1', s2, s3, s4, s5]
          · exact DoPost.of HH.out HB3.out HX3.out.six.2.2.2.2.2.2 HB4.out HD4.out HO4.out HQ4.out H4.out HT4.out HN4.out (set6_touch (Touch.refl _ _) (by simp) _ _ _ _ _ _)
        · have CO : Hid (∀ W, HM W g s l S sp Fs Fg → Calls Tryz.prog 42 #[.pointer (some ⟨g, 0, none⟩), .string a.key, .string a.val] W (DoneAt W g sp s l S Fs Fg a)) := fun W h' => do_put h' HAF.out HRZ.out HBN.out ho
          obtain ⟨x, hxk⟩ : ∃ x, addrN a.key = x := ⟨_, rfl⟩
          rw [hxk] at CA CH CZ
          clear hr hb hxk hfz hop HNF
          obtain ⟨op, key, val, tt, most⟩ := a
          dsimp only [AK.cells] at *
          subst ho
          go_enter Tryz.func14, Tryz.ntmps14
          go_upto_region 1 with fail
          obtain ⟨b3, hb3⟩ : ∃ b3, w.heap.size = b3 := ⟨_, rfl⟩
          have HB3b : Hid (w.heap.size ≤ b3) := Nat.le_of_eq hb3
          rw [hb3] at hx hxa
          obtain ⟨w0, hw0⟩ : ∃ w0, (w.alloc (.cells #[.int .i64 2, .string key, .string val, .string tt, .int .i64 most] 37)).alloc (.cells tz 34) = w0 := ⟨_, rfl⟩
          rw [hw0] at B0 hx hxa h1 CN ⊢
          try rw [hb3]
          clear hw0 hb3
          have HB0 := Lib.hid B0
          have HA0 := Lib.hid hxa
          have HX0 := Lib.hid hx
          have H0 := Lib.hid h1
          obtain ⟨b4, hb4⟩ : ∃ b4, b3 + 1 = b4 := ⟨_, rfl⟩
          have HB4 : Hid (w.heap.size ≤ b4) := by have := HB3b.out; show _ ≤ _; omega
          rw [hb4] at hx HX0 ⊢
          clear hb4
          obtain ⟨x0, x1, x2, x3, x4, xl⟩ := hxa.five
          clear B0 hx hxa h1
          have HNF : Hid (∀ n, w.heap.size ≤ n → b4 ∉ Fs) := fun n _ z => by have := HFL.out _ z; have := HB4.out; omega
          go_wp2_with (first | (go_at_call 33; (with_reducible refine (CN.out).mono ?_); rintro e wn ⟨rfl, rfl⟩) | (go_at_call 37; (with_reducible refine (CR.out _).mono ?_); rintro e w1 ⟨rfl, hb1⟩; have HB1 := Lib.hid (acc HB0.out hb1); have HA1 := Lib.hid (HA0.out.below hb1); have HX1 := Lib.hid (HX0.out.below hb1); have H1 := Lib.hid (H0.out.below hb1); obtain ⟨x0, x1, x2, x3, x4, xl⟩ := HA1.out.five; obtain ⟨z0, z1, z2, z3, z4, z5, zl⟩ := HX1.out.six; obtain ⟨f0, f1, f2, f3, f4, f5⟩ := HX1.out.free6; clear hb1) | (go_at_call 38; (with_reducible refine (CA.out _).mono ?_); rintro e wa ⟨rfl, rfl⟩) | (go_at_call 27; (with_reducible refine (CH.out _ H1.out).mono ?_); rintro e w2 ⟨rfl, hb2⟩; have HB2 := Lib.hid (acc HB1.out hb2); have HA2 := Lib.hid (HA1.out.below hb2); have HX2 := Lib.hid (HX1.out.below hb2); have H2 := Lib.hid (H1.out.below hb2); obtain ⟨x0, x1, x2, x3, x4, xl⟩ := HA2.out.five; obtain ⟨z0, z1, z2, z3, z4, z5, zl⟩ := HX2.out.six; obtain ⟨f0, f1, f2, f3, f4, f5⟩ := HX2.out.free6; clear hb2) | (go_at_call 40; (with_reducible refine (CZ.out _ H2.out).mono ?_); rintro e w3 ⟨rfl, hb3⟩; have HB3 := Lib.hid (acc HB2.out hb3); have HA3 := Lib.hid (HA2.out.below hb3); have HX3 := Lib.hid (HX2.out.below hb3); have H3 := Lib.hid (H2.out.below hb3); obtain ⟨x0, x1, x2, x3, x4, xl⟩ := HA3.out.five; obtain ⟨z0, z1, z2, z3, z4, z5, zl⟩ := HX3.out.six; obtain ⟨f0, f1, f2, f3, f4, f5⟩ := HX3.out.free6; clear hb3) | (go_at_call 42; (with_reducible refine (CO.out _ H3.out).mono ?_); rintro e w4 ⟨er, val', its, more, nx, nd, s1, A, c, Fs', hd, rfl, ho, hq, hm, ht, hn⟩; have HD4 := Lib.hid hd; have HO4 := Lib.hid ho; have HQ4 := Lib.hid hq; have H4 := Lib.hid hm; have HT4 := Lib.hid ht; have HN4 := Lib.hid hn; have HX4 := Lib.hid (HX3.out.touch ht (HNF.out _ (Nat.le_refl _))); obtain ⟨z0, z1, z2, z3, z4, z5, zl⟩ := HX4.out.six; obtain ⟨f0, f1, f2, f3, f4, f5⟩ := HX4.out.free6; clear hd ho hq hm ht hn))
          refine bodyPost_ret (v := .agg #[.int .i64 er, .string val', .slice A its.length c, .bool more, .string nx, .int .i64 nd]) ?_ rfl ?_
          · obtain ⟨s0, s1', s2, s3, s4, s5, _⟩ := (HX4.out.put6 (.int .i64 er) (.string val') (.slice A its.length c) (.bool more) (.string nx) (.int .i64 nd)).six
            simp [results, Tryz.results14, go_sem, s0, s1', s2, s3, s4, s5]
          · exact DoPost.of HH.out HB3.out HX3.out.six.2.2.2.2.2.2 HB4.out HD4.out HO4.out HQ4.out H4.out HT4.out HN4.out (set6_touch (Touch.refl _ _) (by simp) _ _ _ _ _ _)
        · have CO : Hid (∀ W, HM W g s l S sp Fs Fg → Calls Tryz.prog 43 #[.pointer (some ⟨g, 0, none⟩), .string a.key] W (DoneAt W g sp s l S Fs Fg a)) := fun W h' => do_del h' HBN.out ho
          obtain ⟨x, hxk⟩ : ∃ x, addrN a.key = x := ⟨_, rfl⟩
          rw [hxk] at CA CH CZ
          clear hr hb hxk hfz hop HNF
          obtain ⟨op, key, val, tt, most⟩ := a
          dsimp only [AK.cells] at *
          subst ho
          go_enter Tryz.func14, Tryz.ntmps14
          go_upto_region 1 with fail
          obtain ⟨b3, hb3⟩ : ∃ b3, w.heap.size = b3 := ⟨_, rfl⟩
          have HB3b : Hid (w.heap.size ≤ b3) := Nat.le_of_eq hb3
          rw [hb3] at hx hxa
          obtain ⟨w0, hw0⟩ : ∃ w0, (w.alloc (.cells #[.int .i64 3, .string key, .string val, .string tt, .int .i64 most] 37)).alloc (.cells tz 34) = w0 := ⟨_, rfl⟩
          rw [hw0] at B0 hx hxa h1 CN ⊢
          try rw [hb3]
          clear hw0 hb3
          have HB0 := Lib.hid B0
          have HA0 := Lib.hid hxa
          have HX0 := Lib.hid hx
          have H0 := Lib.hid h1
          obtain ⟨b4, hb4⟩ : ∃ b4, b3 + 1 = b4 := ⟨_, rfl⟩
          have HB4 : Hid (w.heap.size ≤ b4) := by have := HB3b.out; show _ ≤ _; omega
          rw [hb4] at hx HX0 ⊢
          clear hb4
          obtain ⟨x0, x1, x2, x3, x4, xl⟩ := hxa.five
          clear B0 hx hxa h1
          have HNF : Hid (∀ n, w.heap.size ≤ n → b4 ∉ Fs) := fun n _ z => by have := HFL.out _ z; have := HB4.out; omega
          go_wp2_with (first | (go_at_call 33; (with_reducible refine (CN.out).mono ?_); rintro e wn ⟨rfl, rfl⟩) | (go_at_call 37; (with_reducible refine (CR.out _).mono ?_); rintro e w1 ⟨rfl, hb1⟩; have HB1 := Lib.hid (acc HB0.out hb1); have HA1 := Lib.hid (HA0.out.below hb1); have HX1 := Lib.hid (HX0.out.below hb1); have H1 := Lib.hid (H0.out.below hb1); obtain ⟨x0, x1, x2, x3, x4, xl⟩ := HA1.out.five; obtain ⟨z0, z1, z2, z3, z4, z5, zl⟩ := HX1.out.six; obtain ⟨f0, f1, f2, f3, f4, f5⟩ := HX1.out.free6; clear hb1) | (go_at_call 38; (with_reducible refine (CA.out _).mono ?_); rintro e wa ⟨rfl, rfl⟩) | (go_at_call 27; (with_reducible refine (CH.out _ H1.out).mono ?_); rintro e w2 ⟨rfl, hb2⟩; have HB2 := Lib.hid (acc HB1.out hb2); have HA2 := Lib.hid (HA1.out.below hb2); have HX2 := Lib.hid (HX1.out.below hb2); have H2 := Lib.hid (H1.out.below hb2); obtain ⟨x0, x1, x2, x3, x4, xl⟩ := HA2.out.five; obtain ⟨z0, z1, z2, z3, z4, z5, zl⟩ := HX2.out.six; obtain ⟨f0, f1, f2, f3, f4, f5⟩ := HX2.out.free6; clear hb2) | (go_at_call 40; (with_reducible refine (CZ.out _ H2.out).mono ?_); rintro e w3 ⟨rfl, hb3⟩; have HB3 := Lib.hid (acc HB2.out hb3); have HA3 := Lib.hid (HA2.out.below hb3); have HX3 := Lib.hid (HX2.out.below hb3); have H3 := Lib.hid (H2.out.below hb3); obtain ⟨x0, x1, x2, x3, x4, xl⟩ := HA3.out.five; obtain ⟨z0, z1, z2, z3, z4, z5, zl⟩ := HX3.out.six; obtain ⟨f0, f1, f2, f3, f4, f5⟩ := HX3.out.free6; clear hb3) | (go_at_call 43; (with_reducible refine (CO.out _ H3.out).mono ?_); rintro e w4 ⟨er, val', its, more, nx, nd, s1, A, c, Fs', hd, rfl, ho, hq, hm, ht, hn⟩; have HD4 := Lib.hid hd; have HO4 := Lib.hid ho; have HQ4 := Lib.hid hq; have H4 := Lib.hid hm; have HT4 := Lib.hid ht; have HN4 := Lib.hid hn; have HX4 := Lib.hid (HX3.out.touch ht (HNF.out _ (Nat.le_refl _))); obtain ⟨z0, z1, z2, z3, z4, z5, zl⟩ := HX4.out.six; obtain ⟨f0, f1, f2, f3, f4, f5⟩ := HX4.out.free6; clear hd ho hq hm ht hn))
          refine bodyPost_ret (v := .agg #[.int .i64 er, .string val', .slice A its.length c, .bool more, .string nx, .int .i64 nd]) ?_ rfl ?_
          · obtain ⟨s0, s1', s2, s3, s4, s5, _⟩ := (HX4.out.put6 (.int .i64 er) (.string val') (.slice A its.length c) (.bool more) (.string nx) (.int .i64 nd)).six
            simp [results, Tryz.results14, go_sem, s0, s1', s2, s3, s4, s5]
          · exact DoPost.of HH.out HB3.out HX3.out.six.2.2.2.2.2.2 HB4.out HD4.out HO4.out HQ4.out H4.out HT4.out HN4.out (set6_touch (Touch.refl _ _) (by simp) _ _ _ _ _ _)
        · have CO : Hid (∀ W, HM W g s l S sp Fs Fg → Calls Tryz.prog 44 #[.pointer (some ⟨g, 0, none⟩), .agg a.cells] W (DoneAt W g sp s l S Fs Fg a)) := fun W h' => do_scan h' HAF.out HBN.out ho HOX.out HFZ.out HKK.out
          obtain ⟨x, hxk⟩ : ∃ x, addrN a.key = x := ⟨_, rfl⟩
          rw [hxk] at CA CH CZ
          clear hr hb hxk hfz hop HNF
          obtain ⟨op, key, val, tt, most⟩ := a
          dsimp only [AK.cells] at *
          subst ho
          go_enter Tryz.func14, Tryz.ntmps14
          go_upto_region 1 with fail
          obtain ⟨b3, hb3⟩ : ∃ b3, w.heap.size = b3 := ⟨_, rfl⟩
          have HB3b : Hid (w.heap.size ≤ b3) := Nat.le_of_eq hb3
          rw [hb3] at hx hxa
          obtain ⟨w0, hw0⟩ : ∃ w0, (w.alloc (.cells #[.int .i64 4, .string key, .string val, .string tt, .int .i64 most] 37)).alloc (.cells tz 34) = w0 := ⟨_, rfl⟩
          rw [hw0] at B0 hx hxa h1 CN ⊢
          try rw [hb3]
          clear hw0 hb3
          have HB0 := Lib.hid B0
          have HA0 := Lib.hid hxa
          have HX0 := Lib.hid hx
          have H0 := Lib.hid h1
          obtain ⟨b4, hb4⟩ : ∃ b4, b3 + 1 = b4 := ⟨_, rfl⟩
          have HB4 : Hid (w.heap.size ≤ b4) := by have := HB3b.out; show _ ≤ _; omega
          rw [hb4] at hx HX0 ⊢
          clear hb4
          obtain ⟨x0, x1, x2, x3, x4, xl⟩ := hxa.five
          clear B0 hx hxa h1
          have HNF : Hid (∀ n, w.heap.size ≤ n → b4 ∉ Fs) := fun n _ z => by have := HFL.out _ z; have := HB4.out; omega
          go_wp2_with (first | (go_at_call 33; (with_reducible refine (CN.out).mono ?_); rintro e wn ⟨rfl, rfl⟩) | (go_at_call 37; (with_reducible refine (CR.out _).mono ?_); rintro e w1 ⟨rfl, hb1⟩; have HB1 := Lib.hid (acc HB0.out hb1); have HA1 := Lib.hid (HA0.out.below hb1); have HX1 := Lib.hid (HX0.out.below hb1); have H1 := Lib.hid (H0.out.below hb1); obtain ⟨x0, x1, x2, x3, x4, xl⟩ := HA1.out.five; obtain ⟨z0, z1, z2, z3, z4, z5, zl⟩ := HX1.out.six; obtain ⟨f0, f1, f2, f3, f4, f5⟩ := HX1.out.free6; clear hb1) | (go_at_call 38; (with_reducible refine (CA.out _).mono ?_); rintro e wa ⟨rfl, rfl⟩) | (go_at_call 27; (with_reducible refine (CH.out _ H1.out).mono ?_); rintro e w2 ⟨rfl, hb2⟩; have HB2 := Lib.hid (acc HB1.out hb2); have HA2 := Lib.hid (HA1.out.below hb2); have HX2 := Lib.hid (HX1.out.below hb2); have H2 := Lib.hid (H1.out.below hb2); obtain ⟨x0, x1, x2, x3, x4, xl⟩ := HA2.out.five; obtain ⟨z0, z1, z2, z3, z4, z5, zl⟩ := HX2.out.six; obtain ⟨f0, f1, f2, f3, f4, f5⟩ := HX2.out.free6; clear hb2) | (go_at_call 40; (with_reducible refine (CZ.out _ H2.out).mono ?_); rintro e w3 ⟨rfl, hb3⟩; have HB3 := Lib.hid (acc HB2.out hb3); have HA3 := Lib.hid (HA2.out.below hb3); have HX3 := Lib.hid (HX2.out.below hb3); have H3 := Lib.hid (H2.out.below hb3); obtain ⟨x0, x1, x2, x3, x4, xl⟩ := HA3.out.five; obtain ⟨z0, z1, z2, z3, z4, z5, zl⟩ := HX3.out.six; obtain ⟨f0, f1, f2, f3, f4, f5⟩ := HX3.out.free6; clear hb3) | (go_at_call 44; (with_reducible refine (CO.out _ H3.out).mono ?_); rintro e w4 ⟨er, val', its, more, nx, nd, s1, A, c, Fs', hd, rfl, ho, hq, hm, ht, hn⟩; have HD4 := Lib.hid hd; have HO4 := Lib.hid ho; have HQ4 := Lib.hid hq; have H4 := Lib.hid hm; have HT4 := Lib.hid ht; have HN4 := Lib.hid hn; have HX4 := Lib.hid (HX3.out.touch ht (HNF.out _ (Nat.le_refl _))); obtain ⟨z0, z1, z2, z3, z4, z5, zl⟩ := HX4.out.six; obtain ⟨f0, f1, f2, f3, f4, f5⟩ := HX4.out.free6; clear hd ho hq hm ht hn))
          refine bodyPost_ret (v := .agg #[.int .i64 er, .string val', .slice A its.length c, .bool more, .string nx, .int .i64 nd]) ?_ rfl ?_
          · obtain ⟨s0, s1', s2, s3, s4, s5, _⟩ := (HX4.out.put6 (.int .i64 er) (.string val') (.slice A its.length c) (.bool more) (.string nx) (.int .i64 nd)).six
            simp [results, Tryz.results14, go_sem, s0, s1', s2, s3, s4, s5]
          · exact DoPost.of HH.out HB3.out HX3.out.six.2.2.2.2.2.2 HB4.out HD4.out HO4.out HQ4.out H4.out HT4.out HN4.out (set6_touch (Touch.refl _ _) (by simp) _ _ _ _ _ _)
end Go.Proofs.YthgndgoljchnfaaGreat
