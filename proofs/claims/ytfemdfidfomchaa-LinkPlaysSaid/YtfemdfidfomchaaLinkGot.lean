/-
  Got: a packet is taken.
-/
import Derived.Test.YtfemdfidfomchaaLinkFollow
namespace Go.Proofs.Ytfemdfidfomchaa
open Go.RowKit

/-- what a call that writes to a link leaves, with the values of its lists -/
structure LRes (W w : World) (g : Nat) (F L : List Nat) (s : LS) (V K : Value) (L' : List Nat) : Prop where
  t : Touch F W w
  x : LNX w g s V K L'
  f : ∀ q ∈ fr g V K, q ∈ F ∨ W.heap.size ≤ q
  l : ∀ q ∈ L', q ∈ L ∨ W.heap.size ≤ q
theorem LRes.trans {W w w1 : World} {g : Nat} {F L L1 L2 : List Nat} {s1 s2 : LS} {V1 K1 V2 K2 : Value} (h : LRes W w g F L s1 V1 K1 L1) (k : LRes w w1 g (fr g V1 K1) L1 s2 V2 K2 L2) : LRes W w1 g F L s2 V2 K2 L2 where
  t := h.t.trans k.t h.f
  x := k.x
  f := fun q hq => by
    rcases k.f q hq with z | z
    · exact h.f q z
    · have := h.t.size; exact .inr (by omega)
  l := fun q hq => by
    rcases k.l q hq with z | z
    · exact h.l q z
    · have := h.t.size; exact .inr (by omega)
theorem LRes.start {W w : World} {g : Nat} {s : LS} {V K : Value} {L : List Nat} (h : LNX W g s V K L) (b : Below W.heap.size W w) : LRes W w g (fr g V K) L s V K L := ⟨Touch.ofBelow b, h.below b, fun _ hq => .inl hq, fun _ hq => .inl hq⟩
theorem LRes.below {W w w1 : World} {g : Nat} {F L L1 : List Nat} {s1 : LS} {V1 K1 : Value} (h : LRes W w g F L s1 V1 K1 L1) (b : Below w.heap.size w w1) : LRes W w1 g F L s1 V1 K1 L1 := h.trans (.start h.x b)
theorem LRes.step {W w : World} {g : Nat} {F L : List Nat} {s : LS} {V K : Value} {L' : List Nat} (h : LRes W w g F L s V K L') : LStep W w g F L s [] := ⟨h.t, V, K, L', h.x, h.f, h.l, by simp⟩
/-- a block that is new, and not the link's, is written -/
theorem LRes.touch {W w w1 : World} {g : Nat} {F L G : List Nat} {s : LS} {V K : Value} {L' : List Nat} (h : LRes W w g F L s V K L') (t : Touch G w w1) (hG : ∀ q ∈ G, W.heap.size ≤ q ∧ q ∉ fr g V K ∧ q ∉ L') : LRes W w1 g F L s V K L' :=
  ⟨h.t.trans t fun q hq => .inr (hG q hq).1, h.x.touch t (fun q hq z => (hG q z).2.1 hq) (fun q hq z => (hG q z).2.2 hq), h.f, h.l⟩
theorem lk_base {W : World} {base b0 e size n : Nat} {v : Value} {xs : List Value} (h : W.ownsRow base e size v n xs) (hb : b0 ≤ base) : W.ownsRow b0 e size v n xs := by
  refine ⟨h.1, ?_⟩
  rcases h.2 with z | ⟨g, cap, cur, h1, h2, h3⟩
  · exact .inl z
  · exact .inr ⟨g, cap, cur, h1, by omega, h3⟩
/-- the state behind known and keep -/
def LS.took (s : LS) (a : Int) (q : Nat) (r : LR) : LS := if (s.known a).keeps q then (s.known a).keep q r else s.known a
theorem took_ok {s : LS} (h : s.Ok) (hk : s.kept.length < 90000) (a : Int) (q : Nat) (r : LR) : (s.took a q r).Ok := by
  have hw : (s.waits.drop (s.gone a)).length ≤ s.waits.length := by rw [List.length_drop]; omega
  unfold LS.took
  split
  · exact ⟨h.sent, Nat.le_trans hw h.waits, h.came, h.now, by rw [List.length_append]; show s.kept.length + 1 ≤ 90000; omega, fun x hx => h.at_ x (List.mem_of_mem_drop hx)⟩
  · exact ⟨h.sent, Nat.le_trans hw h.waits, h.came, h.now, h.kept, fun x hx => h.at_ x (List.mem_of_mem_drop hx)⟩
theorem known_ok {s : LS} (h : s.Ok) (a : Int) : (s.known a).Ok := by
  have hw : (s.waits.drop (s.gone a)).length ≤ s.waits.length := by rw [List.length_drop]; omega
  exact ⟨h.sent, Nat.le_trans hw h.waits, h.came, h.now, h.kept, fun x hx => h.at_ x (List.mem_of_mem_drop hx)⟩
theorem took_me (s : LS) (a : Int) (q : Nat) (r : LR) : (s.took a q r).me = s.me ∧ (s.took a q r).peer = s.peer := by
  unfold LS.took; split <;> exact ⟨rfl, rfl⟩
theorem knownR_any {W : World} {g : Nat} {s : LS} {V K : Value} {L : List Nat} (h : LNX W g s V K L) (hok : s.Ok) (a : Int) (ha : 0 ≤ a) (has : a ≤ (s.sent : Nat)) :
    Calls Try.prog 31 #[.pointer (some ⟨g, 0, none⟩), .int .i64 a] W fun e w' => e = .returned (.tuple #[]) ∧ ∃ V' K' L', LRes W w' g (fr g V K) L (s.known a) V' K' L' :=
  (known_any h hok a ha has).mono fun e w' ⟨h1, h2, V', h3, h4⟩ => ⟨h1, V', K, L, h2, h3, fun q hq => .inl (by
    rcases mem_fr.1 hq with z | z | z
    · exact mem_fr.2 (.inl z)
    · exact mem_fr.2 (.inr (.inl (h4 q z)))
    · exact mem_fr.2 (.inr (.inr z))), fun _ hq => .inl hq⟩
/-- a letter of the caller's, whose lists are none of the link's -/
structure LR.Out (W : World) (F : List Nat) (r : LR) : Prop where
  l : SlAt W r.a r.l.ti ∧ SlAt W r.b r.l.li
  b : ∀ q ∈ r.blocks, q < W.heap.size ∧ q ∉ F
  s : r.Sm
theorem light_out (W : World) (F : List Nat) (k i : Int) : (LR.light k i).Out W F := ⟨⟨SlAt.nil W, SlAt.nil W⟩, fun q hq => by simp [LR.blocks, Value.ownBlock] at hq, light_sm k i⟩
theorem LR.Out.res {W w : World} {g : Nat} {F L : List Nat} {s : LS} {V K : Value} {L' : List Nat} {r : LR} (h : r.Out W F) (k : LRes W w g F L s V K L') : r.Out w (fr g V K) :=
  ⟨letter_touch h.l k.t fun q hq => (h.b q hq).2, fun q hq => ⟨Nat.lt_of_lt_of_le (h.b q hq).1 k.t.size, fun z => by
    rcases k.f q z with y | y
    · exact (h.b q hq).2 y
    · have := (h.b q hq).1; omega⟩, h.s⟩
/-- what Got leaves of a packet with a letter -/
def GotPost (W : World) (g : Nat) (s : LS) (V K : Value) (L : List Nat) (p : PR) (q : Nat) (e : Ending) (w' : World) : Prop :=
  ∃ r1 ts c' ks' B c V' K' L', AlikeP p.r r1 ∧ Follows (s.took p.a q r1).came (s.took p.a q r1).kept ts c' ks' ∧ e = .returned (.tuple #[.slice B ts.length c, .agg (lpCells s.me s.peer 0 (c' : Nat) 0 0), .bool true]) ∧
    LRes W w' g (fr g V K) L {(s.took p.a q r1) with came := c', kept := ks'} V' K' L' ∧ w'.ownsRow W.heap.size 51 21 (.slice B ts.length c) ts.length (rowC LR.cells ts) ∧ (∀ r ∈ ts, r.At w' L') ∧
    ∀ b, (Value.slice B ts.length c).ownBlock = some b → b ∉ fr g V' K' ∧ b ∉ L'
theorem bg_results3 {fn : Func} {a p u : Tmp} {ty : TypeId} (h : fn.results = #[.tmp a, .cell p ty, .tmp u]) (tmps : Array Value) (w : World) (g : Nat) (cs : Array Value) (x y : Value) (ha : tmps.getD a undef = y) (hp : tmps.getD p undef = .pointer (some ⟨g, 0, none⟩)) (hx : tmps.getD u undef = x)
    (hl : (loadVar ty ⟨g, 0, none⟩).run Try.prog w = .ok (.agg cs) w) : (results fn tmps).run Try.prog w = .ok (.tuple #[y, .agg cs, x]) w := by
  rw [Array.getD_eq_getD_getElem?] at ha hp hx
  unfold results
  rw [h]
  simp [ha, hp, hx, asAddr, hl]
set_option maxRecDepth 20000 in
set_option maxHeartbeats 8000000 in
theorem gotNot_any {W : World} {g : Nat} {s : LS} {V K : Value} {L : List Nat} (h : LNX W g s V K L) (p : PR) (hp : ¬ s.takes p) :
    Calls Try.prog 17 #[.pointer (some ⟨g, 0, none⟩), .agg p.cells] W fun e w' => e = .returned (.tuple #[.slice none 0 0, .agg (lpCells 0 0 0 0 0 0), .bool false]) ∧ Below W.heap.size W w' := by
  have hgl := h.glt
  have B2 : Below W.heap.size W ((W.alloc (.cells p.cells 53)).alloc (.cells (lpCells 0 0 0 0 0 0) 53)) := ((Below.refl _ _).alloc (Nat.le_refl _) _).alloc (by simp) _
  have b1 : ((W.alloc (.cells p.cells 53)).alloc (.cells (lpCells 0 0 0 0 0 0) 53)).heap[W.heap.size]? = some (.cells p.cells 53) := (Lib.alloc_old _ _ _ (by simp)).trans (heap_alloc_new W _)
  have b2 : ((W.alloc (.cells p.cells 53)).alloc (.cells (lpCells 0 0 0 0 0 0) 53)).heap[W.heap.size + 1]? = some (.cells (lpCells 0 0 0 0 0 0) 53) := by
    have := heap_alloc_new (W.alloc (.cells p.cells 53)) (.cells (lpCells 0 0 0 0 0 0) 53)
    simpa using this
  have h2 := h.below B2
  obtain ⟨w2, hw2⟩ : ∃ w2, (W.alloc (.cells p.cells 53)).alloc (.cells (lpCells 0 0 0 0 0 0) 53) = w2 := ⟨_, rfl⟩
  rw [hw2] at B2 b1 b2 h2
  have CT := Lib.hid (takes_any h2 p false ⟨fun z => absurd z hp, fun z => by cases z⟩)
  have HY1 := Lib.hid b1
  have HY2 := Lib.hid b2
  have HB2 := Lib.hid B2
  have hsz : (Try.prog.info? 53).map (·.size) = some p.cells.size := bg_infoP
  have hszz : (Try.prog.info? 53).map (·.size) = some (lpCells 0 0 0 0 0 0).size := bg_infoP
  have honez : (lpCells 0 0 0 0 0 0).all (·.oneCell') = true := by simp [Value.oneCell']
  clear h h2 b1 b2 B2 hp
  go_enter Try.func17, Try.ntmps17
  go_upto_region 1 with fail
  clear hw2
  go_wp2_with (first
    | (with_reducible (show wpList _ _ _ (⟨some 9, Op.load _ _, _, _, _, _⟩ :: _) _ _); go_must (refine wpList_load_row rfl 53 (.tmp 3) rfl W.heap.size rfl 53 p.cells (0, 0) _ HY1.out Try.underlying53 rfl hsz ?_))
    | (go_at_call 30; (with_reducible refine CT.out.mono ?_); rintro e w3 ⟨rfl, hb3⟩; have y3 := (hb3.block _ (bg_lt HY2.out)).trans HY2.out; have HB3 := Lib.hid hb3; clear hb3)
    | (with_reducible (show wpList _ _ _ (⟨none, Op.store _ (Operand.tmp 5) _, _, _, _, _⟩ :: _) _ _); go_must (refine wpList_store_row rfl 53 (.tmp 5) (.tmp 12) rfl (W.heap.size + 1) (lpCells 0 0 0 0 0 0) rfl rfl 53 (lpCells 0 0 0 0 0 0) y3 hszz rfl honez ?_)))
  refine bodyPost_ret (bg_results3 rfl _ _ (W.heap.size + 1) (lpCells 0 0 0 0 0 0) (.bool false) (.slice none 0 0) rfl rfl rfl (bg_loadVar _ _ _ rfl (bg_row _ y3))) rfl ?_
  exact ⟨rfl, (acc HB2.out HB3.out).trans (bg_below _ (by omega))⟩
set_option maxRecDepth 20000 in
set_option maxHeartbeats 8000000 in
theorem gotAck_any {W : World} {g : Nat} {s : LS} {V K : Value} {L : List Nat} (h : LNX W g s V K L) (hok : s.Ok) (p : PR) (hp : s.takes p) (hq : p.s = 0) :
    Calls Try.prog 17 #[.pointer (some ⟨g, 0, none⟩), .agg p.cells] W fun e w' => e = .returned (.tuple #[.slice none 0 0, .agg (lpCells 0 0 0 0 0 0), .bool true]) ∧ ∃ V' K' L', LRes W w' g (fr g V K) L (s.known p.a) V' K' L' := by
  have hgl := h.glt
  have B2 : Below W.heap.size W ((W.alloc (.cells p.cells 53)).alloc (.cells (lpCells 0 0 0 0 0 0) 53)) := ((Below.refl _ _).alloc (Nat.le_refl _) _).alloc (by simp) _
  have b1 : ((W.alloc (.cells p.cells 53)).alloc (.cells (lpCells 0 0 0 0 0 0) 53)).heap[W.heap.size]? = some (.cells p.cells 53) := (Lib.alloc_old _ _ _ (by simp)).trans (heap_alloc_new W _)
  have b2 : ((W.alloc (.cells p.cells 53)).alloc (.cells (lpCells 0 0 0 0 0 0) 53)).heap[W.heap.size + 1]? = some (.cells (lpCells 0 0 0 0 0 0) 53) := by
    have := heap_alloc_new (W.alloc (.cells p.cells 53)) (.cells (lpCells 0 0 0 0 0 0) 53)
    simpa using this
  have h2 := h.below B2
  obtain ⟨w2, hw2⟩ : ∃ w2, (W.alloc (.cells p.cells 53)).alloc (.cells (lpCells 0 0 0 0 0 0) 53) = w2 := ⟨_, rfl⟩
  rw [hw2] at B2 b1 b2 h2
  have CT := Lib.hid (takes_any h2 p true ⟨fun _ => rfl, fun _ => hp⟩)
  have HY1 := Lib.hid b1
  have HY2 := Lib.hid b2
  have HB2 := Lib.hid B2
  have hsz : (Try.prog.info? 53).map (·.size) = some p.cells.size := bg_infoP
  have hszz : (Try.prog.info? 53).map (·.size) = some (lpCells 0 0 0 0 0 0).size := bg_infoP
  have honez : (lpCells 0 0 0 0 0 0).all (·.oneCell') = true := by simp [Value.oneCell']
  have CK : Hid (∀ w, Below w2.heap.size w2 w → Calls Try.prog 31 #[.pointer (some ⟨g, 0, none⟩), .int .i64 p.a] w fun e w' => e = .returned (.tuple #[]) ∧ ∃ V' K' L', LRes w w' g (fr g V K) L (s.known p.a) V' K' L') := fun w hb => knownR_any (h2.below hb) hok p.a hp.2.2.2.1 hp.2.2.2.2
  have x3 : w2.cell? ⟨W.heap.size, 3, none⟩ = some (.int .i64 p.a) := bg_cell b1 rfl
  have x2 : w2.cell? ⟨W.heap.size, 2, none⟩ = some (.int .i64 0) := by rw [← hq]; exact bg_cell b1 rfl
  have HF := Lib.hid h.flt
  have HLL := Lib.hid h.lt
  have HS2 := Lib.hid (LRes.start h B2)
  clear h h2 b1 b2 hp hq hok
  go_enter Try.func17, Try.ntmps17
  go_upto_region 1 with fail
  clear hw2
  go_upto_region 3 with (first
    | (with_reducible (show wpList _ _ _ (⟨some 9, Op.load _ _, _, _, _, _⟩ :: _) _ _); go_must (refine wpList_load_row rfl 53 (.tmp 3) rfl W.heap.size rfl 53 p.cells (0, 0) _ HY1.out Try.underlying53 rfl hsz ?_))
    | (go_at_call 30; (with_reducible refine CT.out.mono ?_); rintro e w3 ⟨rfl, hb3⟩; have x33 := (hb3.cell (p := ⟨W.heap.size, 3, none⟩) (bg_lt HY1.out)).trans x3; have x23 := (hb3.cell (p := ⟨W.heap.size, 2, none⟩) (bg_lt HY1.out)).trans x2; have HB3 := Lib.hid hb3; clear hb3))
  go_wp2_with (first
    | (go_at_call 31; (with_reducible refine (CK.out _ HB3.out).mono ?_); rintro e w4 ⟨rfl, V4, K4, L4, h4⟩; have x24 := (h4.t.cell (p := ⟨W.heap.size, 2, none⟩) (Nat.lt_of_lt_of_le (bg_lt HY1.out) HB3.out.size) (fun z => by have := HF.out _ z; simp at this)).trans x23; have y4 := (h4.t.block (W.heap.size + 1) (Nat.lt_of_lt_of_le (bg_lt HY2.out) HB3.out.size) (fun z => by have := HF.out _ z; omega)).trans ((HB3.out.block _ (bg_lt HY2.out)).trans HY2.out); have H4 := Lib.hid h4; clear h4)
    | (with_reducible (show wpList _ _ _ (⟨none, Op.store _ (Operand.tmp 5) _, _, _, _, _⟩ :: _) _ _); go_must (refine wpList_store_row rfl 53 (.tmp 5) (.tmp 20) rfl (W.heap.size + 1) (lpCells 0 0 0 0 0 0) rfl rfl 53 (lpCells 0 0 0 0 0 0) y4 hszz rfl honez ?_)))
  refine bodyPost_ret (bg_results3 rfl _ _ (W.heap.size + 1) (lpCells 0 0 0 0 0 0) (.bool true) (.slice none 0 0) rfl rfl rfl (bg_loadVar _ _ _ rfl (bg_row _ y4))) rfl ?_
  have hlt2 : W.heap.size + 1 < w2.heap.size := bg_lt HY2.out
  have hlt3 := HB3.out.size
  have R4 := (HS2.out.below HB3.out).trans H4.out
  refine ⟨rfl, V4, K4, L4, R4.touch (bg_touch w4 _ _) (fun x hx => ?_)⟩
  simp at hx
  subst hx
  refine ⟨by omega, fun z => ?_, fun z => ?_⟩
  · rcases H4.out.f _ z with y | y
    · have := HF.out _ y; omega
    · omega
  · rcases H4.out.l _ z with y | y
    · have := HLL.out _ y; omega
    · omega
set_option maxRecDepth 20000 in
set_option maxHeartbeats 8000000 in
theorem gotNew_any {W : World} {g : Nat} {s : LS} {V K : Value} {L : List Nat} (h : LNX W g s V K L) (hok : s.Ok) (hkl : s.kept.length < 90000) (p : PR) (q : Nat) (hp : s.takes p) (hq : p.s = (q : Nat)) (hq0 : 0 < q) (hqm : q ≤ 9223372036854775807) (hr : p.r.Out W (fr g V K)) :
    Calls Try.prog 17 #[.pointer (some ⟨g, 0, none⟩), .agg p.cells] W (GotPost W g s V K L p q) := by
  have hgl := h.glt
  have B2 : Below W.heap.size W ((W.alloc (.cells p.cells 53)).alloc (.cells (lpCells 0 0 0 0 0 0) 53)) := ((Below.refl _ _).alloc (Nat.le_refl _) _).alloc (by simp) _
  have b1 : ((W.alloc (.cells p.cells 53)).alloc (.cells (lpCells 0 0 0 0 0 0) 53)).heap[W.heap.size]? = some (.cells p.cells 53) := (Lib.alloc_old _ _ _ (by simp)).trans (heap_alloc_new W _)
  have b2 : ((W.alloc (.cells p.cells 53)).alloc (.cells (lpCells 0 0 0 0 0 0) 53)).heap[W.heap.size + 1]? = some (.cells (lpCells 0 0 0 0 0 0) 53) := by
    have := heap_alloc_new (W.alloc (.cells p.cells 53)) (.cells (lpCells 0 0 0 0 0 0) 53)
    simpa using this
  have h2 := h.below B2
  obtain ⟨w2, hw2⟩ : ∃ w2, (W.alloc (.cells p.cells 53)).alloc (.cells (lpCells 0 0 0 0 0 0) 53) = w2 := ⟨_, rfl⟩
  rw [hw2] at B2 b1 b2 h2
  have CT := Lib.hid (takes_any h2 p true ⟨fun _ => rfl, fun _ => hp⟩)
  have HY1 := Lib.hid b1
  have HY2 := Lib.hid b2
  have HB2 := Lib.hid B2
  have hsz : (Try.prog.info? 53).map (·.size) = some p.cells.size := bg_infoP
  have hszz : (Try.prog.info? 53).map (·.size) = some (lpCells 0 0 0 0 0 0).size := bg_infoP
  have honez : (lpCells 0 0 0 0 0 0).all (·.oneCell') = true := by simp [Value.oneCell']
  have CK : Hid (∀ w, Below w2.heap.size w2 w → Calls Try.prog 31 #[.pointer (some ⟨g, 0, none⟩), .int .i64 p.a] w fun e w' => e = .returned (.tuple #[]) ∧ ∃ V' K' L', LRes w w' g (fr g V K) L (s.known p.a) V' K' L') := fun w hb => knownR_any (h2.below hb) hok p.a hp.2.2.2.1 hp.2.2.2.2
  have CP : Hid (∀ w V4 K4 L4, LRes W w g (fr g V K) L (s.known p.a) V4 K4 L4 → Calls Try.prog 32 #[.pointer (some ⟨g, 0, none⟩), .int .i64 (q : Nat), .agg p.r.cells] w fun e w' => e = .returned (.tuple #[]) ∧ ∃ r1 V' K' L', AlikeP p.r r1 ∧ LRes w w' g (fr g V4 K4) L4 (s.took p.a q r1) V' K' L') := fun w V4 K4 L4 hr4 => by
    have ho := hr.res hr4
    refine (keep_any hr4.x (known_ok hok _) q hqm p.r ho.l ho.b ho.s).mono fun e w' ⟨h1, r1, h3, h4, V', K', L', h5, h6, h7, _⟩ => ⟨h1, r1, V', K', L', h3, h4, ?_, h6, h7⟩
    unfold LS.took
    exact h5
  have CF : Hid (∀ w r1 V4 K4 L4, LNX w g (s.took p.a q r1) V4 K4 L4 → Calls Try.prog 33 #[.pointer (some ⟨g, 0, none⟩)] w (FollowPost w g (s.took p.a q r1) V4 K4 L4)) := fun w r1 V4 K4 L4 hx => follow_any hx (took_ok hok hkl _ _ _)
  have CQ : Hid (∀ w s' V4 K4 L4, LNX w g s' V4 K4 L4 → s'.me = s.me → s'.peer = s.peer → Calls Try.prog 28 #[.pointer (some ⟨g, 0, none⟩), .int .i64 0, .agg (ltCells 0 0)] w fun e w' => e = .returned (.agg (lpCells s.me s.peer 0 (s'.came : Nat) 0 0)) ∧ Below w.heap.size w w') := fun w s' V4 K4 L4 hx e1 e2 => by
    refine (packet_any hx 0 (LR.light 0 0) (SlAt.nil w) (SlAt.nil w) (light_sm 0 0)).mono fun e w' ⟨r', h1, h2, h3⟩ => ⟨?_, h2⟩
    have := h3.light
    subst this
    rw [h1, e1, e2]
    rfl
  have x3 : w2.cell? ⟨W.heap.size, 3, none⟩ = some (.int .i64 p.a) := bg_cell b1 rfl
  have x2 : w2.cell? ⟨W.heap.size, 2, none⟩ = some (.int .i64 (q : Nat)) := by rw [← hq]; exact bg_cell b1 rfl
  have dq : ((q : Int) == 0) = false := by simp; omega
  have hszl : (Try.prog.info? 51).map (·.size) = some p.r.cells.toList.length := lk_infoL
  have HF := Lib.hid h.flt
  have HLL := Lib.hid h.lt
  have HS2 := Lib.hid (LRes.start h B2)
  clear h h2 b1 b2 hp hq hok hr hkl hq0
  go_enter Try.func17, Try.ntmps17
  go_upto_region 1 with fail
  clear hw2
  go_upto_region 3 with (first
    | (with_reducible (show wpList _ _ _ (⟨some 9, Op.load _ _, _, _, _, _⟩ :: _) _ _); go_must (refine wpList_load_row rfl 53 (.tmp 3) rfl W.heap.size rfl 53 p.cells (0, 0) _ HY1.out Try.underlying53 rfl hsz ?_))
    | (go_at_call 30; (with_reducible refine CT.out.mono ?_); rintro e w3 ⟨rfl, hb3⟩; have x33 := (hb3.cell (p := ⟨W.heap.size, 3, none⟩) (bg_lt HY1.out)).trans x3; have x23 := (hb3.cell (p := ⟨W.heap.size, 2, none⟩) (bg_lt HY1.out)).trans x2; have HB3 := Lib.hid hb3; clear hb3))
  have hlt2 : W.heap.size + 1 < w2.heap.size := bg_lt HY2.out
  have hlt3 := HB3.out.size
  have HS3 := Lib.hid (HS2.out.below HB3.out)
  go_upto_region 6 with (go_at_call 31; (with_reducible refine (CK.out _ HB3.out).mono ?_); rintro e w4 ⟨rfl, V4, K4, L4, h4⟩; have y14 := (h4.t.block W.heap.size (Nat.lt_of_lt_of_le (bg_lt HY1.out) HB3.out.size) (fun z => by have := HF.out _ z; simp at this)).trans ((HB3.out.block _ (bg_lt HY1.out)).trans HY1.out); have x24 := (h4.t.cell (p := ⟨W.heap.size, 2, none⟩) (Nat.lt_of_lt_of_le (bg_lt HY1.out) HB3.out.size) (fun z => by have := HF.out _ z; simp at this)).trans x23; have y4 := (h4.t.block (W.heap.size + 1) (Nat.lt_of_lt_of_le (bg_lt HY2.out) HB3.out.size) (fun z => by have := HF.out _ z; omega)).trans ((HB3.out.block _ (bg_lt HY2.out)).trans HY2.out); have H4 := Lib.hid h4; clear h4)
  have R4 := HS3.out.trans H4.out
  have hs4 := H4.out.t.size
  have N4 : W.heap.size + 1 ∉ fr g V4 K4 ∧ W.heap.size + 1 ∉ L4 := ⟨fun z => by
      rcases H4.out.f _ z with y | y
      · have := HF.out _ y; omega
      · omega, fun z => by
      rcases H4.out.l _ z with y | y
      · have := HLL.out _ y; omega
      · omega⟩
  have hrl : w4.rangeAt W.heap.size 4 p.r.cells.toList := fun j v hj => by
    rw [Array.getElem?_toList] at hj
    refine bg_cell y14 ?_
    have hj' : j < 21 := (Array.getElem?_eq_some_iff.1 hj).1
    rw [← hj]
    rcases j with _ | _ | _ | _ | _ | _ | _ | _ | _ | _ | _ | _ | _ | _ | _ | _ | _ | _ | _ | _ | _ | j <;> first | rfl | omega
  have HRL := Lib.hid hrl
  have HR4 := Lib.hid R4
  have HY4 := Lib.hid y4
  have HN4 := Lib.hid N4
  clear y14 y4 hrl R4 N4 x23 x33 x2 x3 CT CK
  go_upto_region 7 with (first
    | (refine wpList_load_mid rfl 51 (.tmp 24) rfl W.heap.size 4 rfl p.r.cells.toList _ HRL.out Try.underlying51 rfl hszl ?_)
    | (go_at_call 32; (with_reducible refine (CP.out _ _ _ _ HR4.out).mono ?_); rintro e w5 ⟨rfl, r1, V5, K5, L5, ha5, h5⟩; have y5 := (h5.t.block (W.heap.size + 1) (by omega) HN4.out.1).trans HY4.out; have HA5 := Lib.hid ha5; have H5 := Lib.hid h5; clear h5 ha5))
  have R5 := HR4.out.trans H5.out
  have hs5 := H5.out.t.size
  have N5 : W.heap.size + 1 ∉ fr g V5 K5 ∧ W.heap.size + 1 ∉ L5 := ⟨fun z => by
      rcases H5.out.f _ z with y | y
      · exact HN4.out.1 y
      · omega, fun z => by
      rcases H5.out.l _ z with y | y
      · exact HN4.out.2 y
      · omega⟩
  have HR5 := Lib.hid R5
  have HY5 := Lib.hid y5
  have HN5 := Lib.hid N5
  clear y5 R5 N5 x24 HRL HY4 HN4 CP
  go_upto_region 8 with (go_at_call 33; (with_reducible refine (CF.out _ _ _ _ _ H5.out.x).mono ?_); rintro e w6 ⟨B6, c6, T6, ts, cc, kk, K6, rfl, rfl, hf6, hx6, hk6, ht6, hr6, ha6⟩; have y6 := (ht6.block (W.heap.size + 1) (by omega) HN5.out.1).trans HY5.out; have HFO := Lib.hid hf6; have HX6 := Lib.hid hx6; have HK6 := Lib.hid hk6; have HT6 := Lib.hid ht6; have HRO := Lib.hid hr6; have HA6 := Lib.hid ha6; clear hf6 hx6 hk6 ht6 hr6 ha6)
  have hme := took_me s p.a q r1
  have R6 : LRes W w6 g (fr g V K) L {(s.took p.a q r1) with came := cc, kept := kk} V5 K6 L5 := HR5.out.trans ⟨HT6.out, HX6.out, fun x hx => .inl (by
      rcases mem_fr.1 hx with z | z | z
      · exact mem_fr.2 (.inl z)
      · exact mem_fr.2 (.inr (.inl z))
      · exact mem_fr.2 (.inr (.inr (by rw [← HK6.out]; exact z)))), fun _ hx => .inl hx⟩
  have N6 : ∀ x ∈ fr g V5 K6, x ∈ fr g V5 K5 := fun x hx => by
      rcases mem_fr.1 hx with z | z | z
      · exact mem_fr.2 (.inl z)
      · exact mem_fr.2 (.inr (.inl z))
      · exact mem_fr.2 (.inr (.inr (by rw [← HK6.out]; exact z)))
  have HR6 := Lib.hid R6
  have HN6 := Lib.hid N6
  have HY6 := Lib.hid y6
  have cq := Lib.hid (CQ.out w6 _ V5 K6 L5 HX6.out hme.1 hme.2)
  obtain ⟨m, hm⟩ : ∃ m, ts.length = m := ⟨_, rfl⟩
  have HM := Lib.hid hm
  rw [hm]
  have hsz8 : (Try.prog.info? 53).map (·.size) = some (lpCells s.me s.peer 0 (cc : Nat) 0 0).size := bg_infoP
  have hold8 : (lpCells 0 0 0 0 0 0).size = (lpCells s.me s.peer 0 (cc : Nat) 0 0).size := rfl
  have hone8 : (lpCells s.me s.peer 0 (cc : Nat) 0 0).all (·.oneCell') = true := PR.one (p := ⟨s.me, s.peer, 0, (cc : Nat), LR.light 0 0⟩) (light_sl 0 0)
  clear R6 N6 y6 hm CF CQ hme
  go_wp2_with (first
    | (go_at_call 28; (with_reducible refine cq.out.mono ?_); rintro e w7 ⟨rfl, hb7⟩; have y7 := (hb7.block _ (bg_lt HY6.out)).trans HY6.out; have HB7 := Lib.hid hb7; clear hb7)
    | (with_reducible (show wpList _ _ _ (⟨none, Op.store _ (Operand.tmp 5) _, _, _, _, _⟩ :: _) _ _); go_must (refine wpList_store_row rfl 53 (.tmp 5) (.tmp 32) rfl (W.heap.size + 1) (lpCells s.me s.peer 0 (cc : Nat) 0 0) rfl rfl 53 (lpCells 0 0 0 0 0 0) y7 hsz8 hold8 hone8 ?_)))
  refine bodyPost_ret (bg_results3 rfl _ _ (W.heap.size + 1) (lpCells s.me s.peer 0 (cc : Nat) 0 0) (.bool true) (.slice B6 m c6) rfl rfl rfl (bg_loadVar _ _ _ rfl (bg_row _ y7))) rfl ?_
  have T8 := bg_touch w7 (W.heap.size + 1) (lpCells s.me s.peer 0 (cc : Nat) 0 0)
  have hm := HM.out
  subst hm
  have hro := HRO.out
  have hb5 : ∀ b, (Value.slice B6 ts.length c6).ownBlock = some b → w5.heap.size ≤ b := fun b hb => (hro.lt b hb).1
  have hF5 : ∀ x ∈ fr g V5 K5, x < w5.heap.size := H5.out.x.flt
  have hL5 : ∀ x ∈ L5, x < w5.heap.size := H5.out.x.lt
  refine ⟨r1, ts, cc, kk, B6, c6, V5, K6, L5, HA5.out, HFO.out, rfl, (HR6.out.below HB7.out).touch T8 (fun x hx => ?_), ?_, fun r hr => ((HA6.out r hr).below HB7.out).touch T8 (fun x hx z => ?_), fun b hb => ⟨fun z => ?_, fun z => ?_⟩⟩
  · simp at hx
    subst hx
    exact ⟨by omega, fun z => HN5.out.1 (HN6.out _ z), HN5.out.2⟩
  · have hro' : w6.ownsRow W.heap.size 51 21 (.slice B6 ts.length c6) ts.length (rowC LR.cells ts) := lk_base hro (by omega)
    exact T8.row (lk_below hro' HB7.out) (fun x hx z => by have := hb5 x hx; simp at z; omega)
  · simp at z; subst z; exact HN5.out.2 hx
  · have := hb5 b hb; have := hF5 b (HN6.out b z); omega
  · have := hb5 b hb; have := hL5 b z; omega
end Go.Proofs.Ytfemdfidfomchaa
