/-
  Rank, At, Count: loops over ways.
  Count: a loop over an arc's way.
  At: a loop over the way through all items.
  Middle: a loop over an arc's way.
  Collect: a loop over whatever way, whose caller keeps a list; the call that waits for a panic meets none.
-/
import Derived.Test.YtglinhcldgpphaaGreatWays
import Derived.Test.YtglinhcldgpphaaGreatWalkFacts
import Derived.Test.YtglinhcldgpphaaGreatRefMiddle
import Derived.Test.YtglinhcldgpphaaGreatAppendAny
import Derived.Test.YtglinhcldgpphaaGreatShelfItems
import Derived.RecoverIn
namespace Go.Proofs.YtglinhcldgpphaaGreat
open Go.RowKit

attribute [local go_sem] Oper.semAt_some

/-- what a pointer to a shelf answers, from W on -/
structure Src (W : World) (p : Option Addr) (l : List Item) : Prop where
  rising : Rising l
  len : l.length ≤ 200
  items : ∀ w, Below W.heap.size W w → Calls Tryz.prog 25 #[.pointer p] w (NewItems w l)
  copy : ∀ w, Below W.heap.size W w → Calls Tryz.prog 30 #[.pointer p] w (CopyGives w l)
theorem Src.later {W W1 : World} {p : Option Addr} {l : List Item} (h : Src W p l) (hb : Below W.heap.size W W1) : Src W1 p l :=
  ⟨h.rising, h.len, fun w hw => h.items w (hb.trans (hw.mono hb.size)), fun w hw => h.copy w (hb.trans (hw.mono hb.size))⟩
/-- behind a loop whose caller knows new blocks alone -/
theorem Left.new {B Y Y' : List Nat} {W w w' : World} (hb : Below W.heap.size W w) (h : Left B Y w w' Y') (hY : ∀ q ∈ Y, W.heap.size ≤ q) : Below W.heap.size W w' := by
  obtain ⟨⟨G, t, hG⟩, _⟩ := h
  exact Touch.acc hb t (fun q hq => hY q (hG q hq).1)
/-- a variable in a block of its own -/
structure Var (V : World) (b : Nat) (v : Value) : Prop where
  val : V.cell? ⟨b, 0, none⟩ = some v
  free : V.frozen? ⟨b, 0, none⟩ = false
theorem Var.lt {V : World} {b : Nat} {v : Value} (h : Var V b v) : b < V.heap.size := World.block_lt_of_cell? V _ h.val
theorem Var.touch {V V1 : World} {b : Nat} {v : Value} {G : List Nat} (h : Var V b v) (t : Touch G V V1) (hn : b ∉ G) : Var V1 b v :=
  ⟨(t.cell h.lt hn).trans h.val, (t.frozen h.lt hn).trans h.free⟩
theorem Var.below {V V1 : World} {b : Nat} {v : Value} (h : Var V b v) (t : Below V.heap.size V V1) : Var V1 b v := h.touch (Touch.ofBelow (F := []) t) (by simp)
theorem Var.new (W : World) (v : Value) (t : TypeId) : Var (W.alloc (.cells #[v] t)) W.heap.size v := ⟨by go_simp, by go_simp⟩
theorem Var.old {W : World} {b : Nat} {v : Value} (h : Var W b v) (o : Obj) : Var (W.alloc o) b v := h.below ((Below.refl _ _).alloc (Nat.le_refl _) _)
theorem Var.set {V : World} {b : Nat} {v : Value} (h : Var V b v) (u : Value) : Var (V.setCell ⟨b, 0, none⟩ u) b u :=
  ⟨World.cell?_setCell_same _ _ _ h.val, by rw [World.frozen?_setCell]; exact h.free⟩
theorem Var.other {V : World} {b c : Nat} {v : Value} (h : Var V b v) (hn : b ≠ c) (o : Nat) (u : Value) : Var (V.setCell ⟨c, o, none⟩ u) b v :=
  h.touch (G := [c]) ((Touch.refl _ _).set (.inl (by simp)) u) (by simpa using hn)

set_option maxRecDepth 100000 in
set_option maxHeartbeats 4000000 in
theorem rank_src {W : World} {p : Option Addr} {l : List Item} (hs : Src W p l) (k : ByteArray) :
    Calls Tryz.prog 19 #[.pointer p, .string k] W fun e w' => e = .returned (.int .i64 (placeN l k : Nat)) ∧ Below W.heap.size W w' := by
  have HS := Lib.hid hs
  clear hs
  refine (callsIn_wide (n := 0)).1 (callsIn_of_wp_marks Tryz.func19 rfl trivial ?_ rfl)
  simp only [Tryz.ntmps19, List.size_toArray, List.length_cons, List.length_nil, Nat.reduceAdd, Nat.reduceSub, Array.replicate_succ, Array.replicate_zero, List.push_toArray, List.append_toArray, List.nil_append, List.cons_append]
  gi_wp2_with (refine ⟨trivial, rfl, ?_⟩; gi_at_call 6; refine (callsIn_wide.2 (all_any p _)).mono ?_; rintro e w' ⟨rfl, rfl⟩)
  have v1 : Var (((W.alloc (.cells #[.string k] 9)).alloc (.cells #[.int .i64 0] 3)).alloc (.cells #[.pointer p] 27)) W.heap.size (.string k) := ((Var.new W _ _).old _).old _
  have v2 : Var (((W.alloc (.cells #[.string k] 9)).alloc (.cells #[.int .i64 0] 3)).alloc (.cells #[.pointer p] 27)) (W.heap.size + 1) (.int .i64 0) := by
    have z := (Var.new (W.alloc (.cells #[.string k] 9)) (.int .i64 0) 3).old (.cells #[.pointer p] 27)
    rwa [World.size_alloc] at z
  have v3 : Var (((W.alloc (.cells #[.string k] 9)).alloc (.cells #[.int .i64 0] 3)).alloc (.cells #[.pointer p] 27)) (W.heap.size + 1 + 1) (.pointer p) := by
    have z := Var.new ((W.alloc (.cells #[.string k] 9)).alloc (.cells #[.int .i64 0] 3)) (.pointer p) 27
    rwa [World.size_alloc, World.size_alloc] at z
  have b2 : Below W.heap.size W (((W.alloc (.cells #[.string k] 9)).alloc (.cells #[.int .i64 0] 3)).alloc (.cells #[.pointer p] 27)) := (((Below.refl _ W).alloc (Nat.le_refl _) _).alloc (by simp) _).alloc (by simp; omega) _
  have z2 : (((W.alloc (.cells #[.string k] 9)).alloc (.cells #[.int .i64 0] 3)).alloc (.cells #[.pointer p] 27)).heap.size = W.heap.size + 3 := by simp
  generalize (((W.alloc (.cells #[.string k] 9)).alloc (.cells #[.int .i64 0] 3)).alloc (.cells #[.pointer p] 27)) = W2 at *
  have HB := Lib.hid b2
  have HPL := Lib.hid (placeN_le l k)
  clear b2
  refine wp_ways (gf := 24) (lb := #[.pointer (some ⟨W.heap.size + 1 + 1, 0, none⟩)]) rfl (enters_of Tryz.func24 (by kernel_rfl) rfl) (xs := l) (B := [])
    (fun V hV => allWay (HS.out.items V (HB.out.trans (hV.mono (by omega)))) (v3.below hV).val []) (by simp) rfl
    (fun n V Y => Y = [W.heap.size, W.heap.size + 1] ∧ Var V W.heap.size (.string k) ∧ Var V (W.heap.size + 1) (.int .i64 (n : Nat)) ∧ n ≤ placeN l k)
    (fun c V Y => Y = [W.heap.size, W.heap.size + 1] ∧ c = .exit 0 ∧ Var V (W.heap.size + 1) (.int .i64 (placeN l k : Nat)))
    [W.heap.size, W.heap.size + 1] (by simp; omega) ⟨rfl, v1, v2, Nat.zero_le _⟩
    (by
      rintro n V V1 Y G ⟨rfl, h1, h2, h3⟩ tt hn
      exact ⟨rfl, h1.touch tt (hn _ (by simp)), h2.touch tt (hn _ (by simp)), h3⟩)
    (by
      rintro c V V1 Y G ⟨rfl, h1, h2⟩ tt hn
      exact ⟨rfl, h1, h2.touch tt (hn _ (by simp))⟩)
    (fun x => { tmps := #[.pointer p, .string k, undef, .pointer (some ⟨W.heap.size, 0, none⟩), .int .i64 0, .pointer (some ⟨W.heap.size + 1, 0, none⟩), .string x.1, .pointer p, .func (.func 24) #[] #[.pointer (some ⟨W.heap.size + 1 + 1, 0, none⟩)], .string x.1, .string x.2, undef, undef, undef, undef, undef, undef, undef], defers := [] })
    ?assign ?body ?done ?stop
  case assign =>
    intro lp x V K hK
    gi_wp2
    exact hK
  case body =>
    rintro lp n ⟨xk, xv⟩ V Y hV hx ⟨rfl, h1, h2, h3⟩ hY
    obtain ⟨hn, hx'⟩ := List.getElem?_eq_some_iff.1 hx
    have hst := placeN_step l k n hn h3
    rw [hx'] at hst
    have HST := Lib.hid hst
    have HLN := Lib.hid hn
    have c1 := h1.val
    have c2 := h2.val
    have f2 := h2.free
    have H1 := Lib.hid h1
    have H2 := Lib.hid h2
    have hb : n ≤ 200 := by have := HS.out.len; omega
    clear hst hx hx' h1 h2 hn hY
    cases a1 : Op.bytesLess xk.toList k.toList
    · have he : n = placeN l k := by
        rcases Nat.lt_or_ge n (placeN l k) with z | z
        · have := HST.out.2 z
          rw [show lessB xk k = false from a1] at this
          cases this
        · omega
      gi_wp2_with (refine ⟨trivial, rfl, ?_⟩; gi_at_call 28; refine (CallsIn.inRound lp (callsIn_wide.2 (less_any _ _ _))).mono ?_; rintro e w' ⟨rfl, rfl⟩)
      exact ⟨_, Left.refl (by have := H1.out.lt; have := H2.out.lt; simp; omega), rfl, rfl, by rw [← he]; exact H2.out⟩
    · have he : n + 1 ≤ placeN l k := HST.out.1 a1
      gi_wp2_with (refine ⟨trivial, rfl, ?_⟩; gi_at_call 28; refine (CallsIn.inRound lp (callsIn_wide.2 (less_any _ _ _))).mono ?_; rintro e w' ⟨rfl, rfl⟩)
      refine ⟨_, ⟨⟨[W.heap.size + 1], (Touch.refl _ _).set (.inl (by simp)) _, by simp⟩, ?_⟩, rfl, H1.out.other (by omega) _ _, ?_, he⟩
      · have := H1.out.lt
        have := H2.out.lt
        simp [World.setCell]
        omega
      · exact H2.out.set _
  case done =>
    rintro D V Y hD hDn hL ⟨rfl, h1, h2, h3⟩ hK
    have hE : l.length = placeN l k := by have := HPL.out; omega
    have hB := Left.new HB.out hL (by simp)
    have c2 := h2.val
    have HK := Lib.hid hK
    have HD : Hid (Below W.heap.size W (V.putObj D (.deferred none))) := hB.trans (belowK_b (w := W) (Nat.le_refl _) V D _ _ (by omega) hK rfl rfl)
    have HEE := Lib.hid hE
    clear hB hL hE h1 h2
    gi_wp2
    refine ⟨by simp, .inl ⟨_, _, rfl, run_takeDeferred HK.out, ?_⟩⟩
    exact ⟨_, results_tmp rfl _ _ _, by rw [← HEE.out]; rfl, HD.out⟩
  case stop =>
    rintro D c V Y hD hDn hL ⟨rfl, rfl, h2⟩ hK
    have hB := Left.new HB.out hL (by simp)
    have c2 := h2.val
    have HK := Lib.hid hK
    have HD : Hid (Below W.heap.size W (V.putObj D (.deferred none))) := hB.trans (belowK_b (w := W) (Nat.le_refl _) V D _ _ (by omega) hK rfl rfl)
    clear hB hL h2
    gi_wp2
    refine ⟨by simp, .inl ⟨_, _, rfl, run_takeDeferred HK.out, ?_⟩⟩
    exact ⟨_, results_tmp rfl _ _ _, rfl, HD.out⟩
end Go.Proofs.YtglinhcldgpphaaGreat
namespace Go.Proofs.YtglinhcldgpphaaGreat
open Go.RowKit

attribute [local go_sem] Oper.semAt_some

theorem arcL_length_le (l : List Item) (f t : Nat) : (arcL l f t).length ≤ 2 * l.length := by
  unfold arcL
  rw [List.length_append]
  have h1 := List.length_filter_le (inA f t false) l
  have h2 := List.length_filter_le (inA f t true) l
  omega
/-- what the call of Arc hands back, as a loop over it wants it -/
def ArcPost (w : World) (p : Option Addr) (f t : Nat) (e : Ending) (w' : World) : Prop :=
  ∃ a0 a1 : Nat, e = .returned (.func (.func 29) #[] #[.pointer (some ⟨a0, 0, none⟩), .pointer (some ⟨a1, 0, none⟩)]) ∧
    w'.cell? ⟨a0, 0, none⟩ = some (.pointer p) ∧ w'.cell? ⟨a1, 0, none⟩ = some (.int .u64 (f : Nat)) ∧ w'.cell? ⟨a1, 1, none⟩ = some (.int .u64 (t : Nat)) ∧ Below w.heap.size w w'
theorem arc_post (p : Option Addr) (f t : Nat) (w : World) : Calls Tryz.prog 9 #[.pointer p, .agg #[.int .u64 (f : Nat), .int .u64 (t : Nat)]] w (ArcPost w p f t) := by
  refine (arc_any p f t w).mono ?_
  rintro e w' ⟨rfl, rfl⟩
  exact ⟨_, _, rfl, by go_simp, by go_simp, by go_simp, ((Below.refl _ w).alloc (Nat.le_refl _) _).alloc (by simp) _⟩

set_option maxRecDepth 100000 in
set_option maxHeartbeats 4000000 in
theorem count_src {W : World} {p : Option Addr} {l : List Item} (hs : Src W p l) (f t : Nat) (hf : f < 18446744073709551616) (ht : t < 18446744073709551616) :
    Calls Tryz.prog 66 #[.pointer p, .agg #[.int .u64 (f : Nat), .int .u64 (t : Nat)]] W fun e w' => e = .returned (.int .i64 ((arcL l f t).length : Nat)) ∧ Below W.heap.size W w' := by
  have HS := Lib.hid hs
  have HF := Lib.hid hf
  have HT := Lib.hid ht
  clear hs hf ht
  refine (callsIn_wide (n := 0)).1 (callsIn_of_wp_marks Tryz.func66 rfl trivial ?_ rfl)
  simp only [Tryz.ntmps66, List.size_toArray, List.length_cons, List.length_nil, Nat.reduceAdd, Nat.reduceSub, Array.replicate_succ, Array.replicate_zero, List.push_toArray, List.append_toArray, List.nil_append, List.cons_append]
  have hV0 : Var ((W.alloc (.cells #[.int .u64 (f : Nat), .int .u64 (t : Nat)] 25)).alloc (.cells #[.int .i64 0] 3)) (W.heap.size + 1) (.int .i64 0) := by
    have z := Var.new (W.alloc (.cells #[.int .u64 (f : Nat), .int .u64 (t : Nat)] 25)) (.int .i64 0) 3
    rw [World.size_alloc] at z
    exact z
  have hb0 : Below W.heap.size W ((W.alloc (.cells #[.int .u64 (f : Nat), .int .u64 (t : Nat)] 25)).alloc (.cells #[.int .i64 0] 3)) := ((Below.refl _ W).alloc (Nat.le_refl _) _).alloc (by simp) _
  have HV0 := Lib.hid hV0
  have HB0 := Lib.hid hb0
  clear hV0 hb0
  gi_wp2_with (refine ⟨trivial, rfl, ?_⟩; gi_at_call 9; refine (callsIn_wide.2 (arc_post p f t _)).mono ?_; rintro e W2 ⟨a0, a1, rfl, ca0, ca1, ca2, hb2⟩)
  have HB : Hid (Below W.heap.size W W2) := HB0.out.trans (hb2.mono HB0.out.size)
  have v2 := HV0.out.below hb2
  have hz : W.heap.size + 1 < W2.heap.size := v2.lt
  clear hb2
  refine wp_ways (gf := 29) (lb := #[.pointer (some ⟨a0, 0, none⟩), .pointer (some ⟨a1, 0, none⟩)]) rfl (enters_of Tryz.func29 (by kernel_rfl) rfl) (xs := arcL l f t) (B := [])
    (fun V hV => arcWay HS.out.rising (fun w hw => HS.out.copy w (HB.out.trans ((hV.mono HB.out.size).trans (hw.mono (Nat.le_trans HB.out.size hV.size))))) HF.out HT.out ((hV.cell (p := ⟨a0, 0, none⟩) (World.block_lt_of_cell? W2 _ ca0)).trans ca0) ((hV.cell (p := ⟨a1, 0, none⟩) (World.block_lt_of_cell? W2 _ ca1)).trans ca1) ((hV.cell (p := ⟨a1, 1, none⟩) (World.block_lt_of_cell? W2 _ ca2)).trans ca2) [] (by simp)) (by simp) rfl
    (fun n V Y => Y = [W.heap.size + 1] ∧ Var V (W.heap.size + 1) (.int .i64 (n : Nat)))
    (fun _ _ _ => False)
    [W.heap.size + 1] (by simp; omega) ⟨rfl, v2⟩
    (by
      rintro n V V1 Y G ⟨rfl, h2⟩ tt hn
      exact ⟨rfl, h2.touch tt (hn _ (by simp))⟩)
    (fun _ _ _ _ _ h _ _ => h)
    (fun x => { tmps := #[.pointer p, .agg #[.int .u64 (f : Nat), .int .u64 (t : Nat)], undef, .pointer (some ⟨W.heap.size, 0, none⟩), .int .i64 0, .pointer (some ⟨W.heap.size + 1, 0, none⟩), .pointer p, .agg #[.int .u64 (f : Nat), .int .u64 (t : Nat)], .func (.func 29) #[] #[.pointer (some ⟨a0, 0, none⟩), .pointer (some ⟨a1, 0, none⟩)], .string x.1, .string x.2, undef, undef, undef], defers := [] })
    ?assign ?body ?done ?stop
  case assign =>
    intro lp x V K hK
    refine wpIn_skip ?_
    simpa [Exit.then] using hK
  case body =>
    rintro lp n ⟨xk, xv⟩ V Y hV hx ⟨rfl, h2⟩ hY
    have hb : n ≤ 400 := by
      have h1 := (List.getElem?_eq_some_iff.1 hx).1
      have h2 := arcL_length_le l f t
      have h3 := HS.out.len
      omega
    have c2 := h2.val
    have f2 := h2.free
    have H2 := Lib.hid h2
    clear hx h2 hY
    gi_wp2
    refine ⟨_, ⟨⟨[W.heap.size + 1], (Touch.refl _ _).set (.inl (by simp)) _, by simp⟩, ?_⟩, rfl, ?_⟩
    · have := H2.out.lt
      simp [World.setCell]
      omega
    · exact H2.out.set _
  case done =>
    rintro D V Y hD hDn hL ⟨rfl, h2⟩ hK
    have hB := Left.new HB.out hL (by simp)
    have c2 := h2.val
    have HK := Lib.hid hK
    have HD : Hid (Below W.heap.size W (V.putObj D (.deferred none))) := hB.trans (belowK_b (w := W) (Nat.le_refl _) V D _ _ (by omega) hK rfl rfl)
    clear hB hL h2
    gi_wp2
    refine ⟨by simp, .inl ⟨_, _, rfl, run_takeDeferred HK.out, ?_⟩⟩
    exact ⟨_, results_tmp rfl _ _ _, rfl, HD.out⟩
  case stop =>
    rintro D c V Y hD hDn hL h hK
    exact h.elim
end Go.Proofs.YtglinhcldgpphaaGreat
namespace Go.Proofs.YtglinhcldgpphaaGreat
open Go.RowKit

attribute [local go_sem] Oper.semAt_some

/-- an item in a block of its own -/
structure Var2 (V : World) (b : Nat) (x y : Value) : Prop where
  v0 : V.cell? ⟨b, 0, none⟩ = some x
  v1 : V.cell? ⟨b, 1, none⟩ = some y
  f0 : V.frozen? ⟨b, 0, none⟩ = false
  f1 : V.frozen? ⟨b, 1, none⟩ = false
theorem Var2.lt {V : World} {b : Nat} {x y : Value} (h : Var2 V b x y) : b < V.heap.size := World.block_lt_of_cell? V _ h.v0
theorem Var2.touch {V V1 : World} {b : Nat} {x y : Value} {G : List Nat} (h : Var2 V b x y) (t : Touch G V V1) (hn : b ∉ G) : Var2 V1 b x y :=
  ⟨(t.cell (p := ⟨b, 0, none⟩) h.lt hn).trans h.v0, (t.cell (p := ⟨b, 1, none⟩) h.lt hn).trans h.v1, (t.frozen (p := ⟨b, 0, none⟩) h.lt hn).trans h.f0, (t.frozen (p := ⟨b, 1, none⟩) h.lt hn).trans h.f1⟩
theorem Var2.new (W : World) (x y : Value) (t : TypeId) : Var2 (W.alloc (.cells #[x, y] t)) W.heap.size x y := ⟨by go_simp, by go_simp, by go_simp, by go_simp⟩
theorem Var2.set {V : World} {b : Nat} {x y : Value} (h : Var2 V b x y) (u v : Value) : Var2 ((V.setCell ⟨b, 0, none⟩ u).setCell ⟨b, 1, none⟩ v) b u v :=
  ⟨by rw [World.cell?_setCell_other _ _ _ _ (by simp)]; exact World.cell?_setCell_same _ _ _ h.v0,
   World.cell?_setCell_same _ _ _ (by rw [World.cell?_setCell_other _ _ _ _ (by simp)]; exact h.v1),
   by rw [World.frozen?_setCell, World.frozen?_setCell]; exact h.f0, by rw [World.frozen?_setCell, World.frozen?_setCell]; exact h.f1⟩
theorem Var2.other {V : World} {b c : Nat} {x y : Value} (h : Var2 V b x y) (hn : b ≠ c) (o : Nat) (u : Value) : Var2 (V.setCell ⟨c, o, none⟩ u) b x y :=
  h.touch (G := [c]) ((Touch.refl _ _).set (.inl (by simp)) u) (by simpa using hn)
theorem Var2.below {V V1 : World} {b : Nat} {x y : Value} (h : Var2 V b x y) (t : Below V.heap.size V V1) : Var2 V1 b x y := h.touch (Touch.ofBelow (F := []) t) (by simp)
theorem Var2.old {W : World} {b : Nat} {x y : Value} (h : Var2 W b x y) (o : Obj) : Var2 (W.alloc o) b x y := h.below ((Below.refl _ _).alloc (Nat.le_refl _) _)

set_option maxRecDepth 100000 in
set_option maxHeartbeats 4000000 in
theorem at_src {W : World} {p : Option Addr} {l : List Item} (hs : Src W p l) (n : Int) :
    Calls Tryz.prog 18 #[.pointer p, .int .i64 n] W fun e w' => e = .returned (atV l n) ∧ Below W.heap.size W w' := by
  have HS := Lib.hid hs
  clear hs
  refine (callsIn_wide (n := 0)).1 (callsIn_of_wp_marks Tryz.func18 rfl trivial ?_ rfl)
  simp only [Tryz.ntmps18, List.size_toArray, List.length_cons, List.length_nil, Nat.reduceAdd, Nat.reduceSub, Array.replicate_succ, Array.replicate_zero, List.push_toArray, List.append_toArray, List.nil_append, List.cons_append]
  gi_wp2_with (refine ⟨trivial, rfl, ?_⟩; gi_at_call 6; refine (callsIn_wide.2 (all_any p _)).mono ?_; rintro e w' ⟨rfl, rfl⟩)
  have v1 : Var (((((W.alloc (.cells #[.int .i64 n] 3)).alloc (.cells #[.string ⟨#[]⟩, .string ⟨#[]⟩] 59)).alloc (.cells #[.bool false] 4)).alloc (.cells #[.int .i64 0] 3)).alloc (.cells #[.pointer p] 27)) W.heap.size (.int .i64 n) := ((((Var.new W _ _).old _).old _).old _).old _
  have v2 : Var2 (((((W.alloc (.cells #[.int .i64 n] 3)).alloc (.cells #[.string ⟨#[]⟩, .string ⟨#[]⟩] 59)).alloc (.cells #[.bool false] 4)).alloc (.cells #[.int .i64 0] 3)).alloc (.cells #[.pointer p] 27)) (W.heap.size + 1) (.string ⟨#[]⟩) (.string ⟨#[]⟩) := by
    have z := (((Var2.new (W.alloc (.cells #[.int .i64 n] 3)) (.string ⟨#[]⟩) (.string ⟨#[]⟩) 59).old (.cells #[.bool false] 4)).old (.cells #[.int .i64 0] 3)).old (.cells #[.pointer p] 27)
    rwa [World.size_alloc] at z
  have v3 : Var (((((W.alloc (.cells #[.int .i64 n] 3)).alloc (.cells #[.string ⟨#[]⟩, .string ⟨#[]⟩] 59)).alloc (.cells #[.bool false] 4)).alloc (.cells #[.int .i64 0] 3)).alloc (.cells #[.pointer p] 27)) (W.heap.size + 1 + 1) (.bool false) := by
    have z := ((Var.new ((W.alloc (.cells #[.int .i64 n] 3)).alloc (.cells #[.string ⟨#[]⟩, .string ⟨#[]⟩] 59)) (.bool false) 4).old (.cells #[.int .i64 0] 3)).old (.cells #[.pointer p] 27)
    rwa [World.size_alloc, World.size_alloc] at z
  have v4 : Var (((((W.alloc (.cells #[.int .i64 n] 3)).alloc (.cells #[.string ⟨#[]⟩, .string ⟨#[]⟩] 59)).alloc (.cells #[.bool false] 4)).alloc (.cells #[.int .i64 0] 3)).alloc (.cells #[.pointer p] 27)) (W.heap.size + 1 + 1 + 1) (.int .i64 0) := by
    have z := (Var.new (((W.alloc (.cells #[.int .i64 n] 3)).alloc (.cells #[.string ⟨#[]⟩, .string ⟨#[]⟩] 59)).alloc (.cells #[.bool false] 4)) (.int .i64 0) 3).old (.cells #[.pointer p] 27)
    rwa [World.size_alloc, World.size_alloc, World.size_alloc] at z
  have v5 : Var (((((W.alloc (.cells #[.int .i64 n] 3)).alloc (.cells #[.string ⟨#[]⟩, .string ⟨#[]⟩] 59)).alloc (.cells #[.bool false] 4)).alloc (.cells #[.int .i64 0] 3)).alloc (.cells #[.pointer p] 27)) (W.heap.size + 1 + 1 + 1 + 1) (.pointer p) := by
    have z := Var.new ((((W.alloc (.cells #[.int .i64 n] 3)).alloc (.cells #[.string ⟨#[]⟩, .string ⟨#[]⟩] 59)).alloc (.cells #[.bool false] 4)).alloc (.cells #[.int .i64 0] 3)) (.pointer p) 27
    rwa [World.size_alloc, World.size_alloc, World.size_alloc, World.size_alloc] at z
  have b2 : Below W.heap.size W (((((W.alloc (.cells #[.int .i64 n] 3)).alloc (.cells #[.string ⟨#[]⟩, .string ⟨#[]⟩] 59)).alloc (.cells #[.bool false] 4)).alloc (.cells #[.int .i64 0] 3)).alloc (.cells #[.pointer p] 27)) := (((((Below.refl _ W).alloc (Nat.le_refl _) _).alloc (by simp) _).alloc (by simp; omega) _).alloc (by simp; omega) _).alloc (by simp; omega) _
  have z2 : (((((W.alloc (.cells #[.int .i64 n] 3)).alloc (.cells #[.string ⟨#[]⟩, .string ⟨#[]⟩] 59)).alloc (.cells #[.bool false] 4)).alloc (.cells #[.int .i64 0] 3)).alloc (.cells #[.pointer p] 27)).heap.size = W.heap.size + 5 := by simp
  generalize (((((W.alloc (.cells #[.int .i64 n] 3)).alloc (.cells #[.string ⟨#[]⟩, .string ⟨#[]⟩] 59)).alloc (.cells #[.bool false] 4)).alloc (.cells #[.int .i64 0] 3)).alloc (.cells #[.pointer p] 27)) = W2 at *
  have HB := Lib.hid b2
  clear b2
  obtain ⟨Ys, hYs⟩ : ∃ Ys, Ys = [W.heap.size, W.heap.size + 1, W.heap.size + 1 + 1, W.heap.size + 1 + 1 + 1] := ⟨_, rfl⟩
  have m1 : W.heap.size ∈ Ys := by rw [hYs]; simp
  have m2 : W.heap.size + 1 ∈ Ys := by rw [hYs]; simp
  have m3 : W.heap.size + 1 + 1 ∈ Ys := by rw [hYs]; simp
  have m4 : W.heap.size + 1 + 1 + 1 ∈ Ys := by rw [hYs]; simp
  have HYS : Hid (∀ q ∈ Ys, W.heap.size ≤ q ∧ q < W2.heap.size) := by
    rw [hYs]
    intro q hq
    simp at hq
    omega
  clear hYs
  refine wp_ways (gf := 24) (lb := #[.pointer (some ⟨W.heap.size + 1 + 1 + 1 + 1, 0, none⟩)]) rfl (enters_of Tryz.func24 (by kernel_rfl) rfl) (xs := l) (B := [])
    (fun V hV => allWay (HS.out.items V (HB.out.trans (hV.mono (by omega)))) (v5.below hV).val []) (by simp) rfl
    (fun m V Y => Y = Ys ∧ Var V W.heap.size (.int .i64 n) ∧ Var2 V (W.heap.size + 1) (.string ⟨#[]⟩) (.string ⟨#[]⟩) ∧ Var V (W.heap.size + 1 + 1) (.bool false) ∧ Var V (W.heap.size + 1 + 1 + 1) (.int .i64 (m : Nat)) ∧ ∀ j, j < m → (j : Int) ≠ n)
    (fun c V Y => Y = Ys ∧ c = .ret ∧ ∃ x : Item, Var2 V (W.heap.size + 1) (.string x.1) (.string x.2) ∧ Var V (W.heap.size + 1 + 1) (.bool true) ∧ atV l n = .tuple #[.agg #[.string x.1, .string x.2], .bool true])
    Ys (fun q hq => (HYS.out q hq).2) ⟨rfl, v1, v2, v3, v4, fun j hj => by omega⟩
    (by
      rintro m V V1 Y G ⟨rfl, h1, h2, h3, h4, h5⟩ tt hn
      exact ⟨rfl, h1.touch tt (hn _ m1), h2.touch tt (hn _ m2), h3.touch tt (hn _ m3), h4.touch tt (hn _ m4), h5⟩)
    (by
      rintro c V V1 Y G ⟨rfl, h1, x, h2, h3, h4⟩ tt hn
      exact ⟨rfl, h1, x, h2.touch tt (hn _ m2), h3.touch tt (hn _ m3), h4⟩)
    (fun x => { tmps := #[.pointer p, .int .i64 n, undef, .pointer (some ⟨W.heap.size, 0, none⟩), .pointer (some ⟨W.heap.size + 1, 0, none⟩), .pointer (some ⟨W.heap.size + 1 + 1, 0, none⟩), .pointer (some ⟨W.heap.size + 1 + 1 + 1, 0, none⟩), .string x.1, .string x.2, .pointer p, .func (.func 24) #[] #[.pointer (some ⟨W.heap.size + 1 + 1 + 1 + 1, 0, none⟩)], .string x.1, .string x.2, undef, undef, undef, undef, undef, undef, undef, undef, undef], defers := [] })
    ?assign ?body ?done ?stop
  case assign =>
    intro lp x V K hK
    gi_wp2
    exact hK
  case body =>
    rintro lp m ⟨xk, xv⟩ V Y hV hx ⟨rfl, h1, h2, h3, h4, h5⟩ hY
    have hb : m ≤ 200 := by
      have := (List.getElem?_eq_some_iff.1 hx).1
      have := HS.out.len
      omega
    have c1 := h1.val
    have c4 := h4.val
    have f4 := h4.free
    have c20 := h2.v0
    have c21 := h2.v1
    have f20 := h2.f0
    have f21 := h2.f1
    have c3 := h3.val
    have f3 := h3.free
    have H1 := Lib.hid h1
    have H2 := Lib.hid h2
    have H3 := Lib.hid h3
    have H4 := Lib.hid h4
    have H5 := Lib.hid h5
    have HX := Lib.hid hx
    have HY := Lib.hid hY
    clear h1 h2 h3 h4 h5 hx hY
    by_cases he : (m : Int) = n
    · have t1 : ((m : Int) == n) = true := by simpa using he
      have HV : Hid (atV l n = .tuple #[.agg #[.string xk, .string xv], .bool true]) := by
        show atV l n = _
        rw [atV, if_pos (by omega), show n.toNat = m by omega, HX.out]
      clear he
      gi_wp2
      refine ⟨_, ⟨⟨[W.heap.size + 1, W.heap.size + 1 + 1], (((Touch.refl _ _).set (.inl (by simp)) _).set (.inl (by simp)) _).set (.inl (by simp)) _, fun q hq => ?_⟩, fun q hq => ⟨by simpa [World.setCell] using HY.out q hq, .inl hq⟩⟩, rfl, rfl, (xk, xv), (H2.out.set _ _).other (by omega) _ _, ((H3.out.other (by omega) _ _).other (by omega) _ _).set _, HV.out⟩
      simp at hq
      rcases hq with rfl | rfl
      · exact ⟨m2, by simp⟩
      · exact ⟨m3, by simp⟩
    · have t1 : ((m : Int) == n) = false := by simpa using he
      have HE := Lib.hid he
      clear he
      gi_wp2
      refine ⟨_, ⟨⟨[W.heap.size + 1 + 1 + 1], (Touch.refl _ _).set (.inl (by simp)) _, fun q hq => by simp at hq; subst hq; exact ⟨m4, by simp⟩⟩, fun q hq => ⟨by simpa [World.setCell] using HY.out q hq, .inl hq⟩⟩, rfl, H1.out.other (by omega) _ _, H2.out.touch (G := [W.heap.size + 1 + 1 + 1]) ((Touch.refl _ _).set (.inl (by simp)) _) (by simp), H3.out.other (by omega) _ _, H4.out.set _, fun j hj => ?_⟩
      rcases Nat.lt_or_ge j m with z | z
      · exact H5.out j z
      · rw [show j = m by omega]; exact HE.out
  case done =>
    rintro D V Y hD hDn hL ⟨rfl, h1, h2, h3, h4, h5⟩ hK
    have hB := Left.new HB.out hL (fun q hq => (HYS.out q hq).1)
    have hV : atV l n = .tuple #[.agg #[.string ⟨#[]⟩, .string ⟨#[]⟩], .bool false] := by
      rw [atV]
      by_cases hn : 0 ≤ n
      · rw [if_pos hn]
        rcases Nat.lt_or_ge n.toNat l.length with z | z
        · exact absurd (by omega) (h5 n.toNat z)
        · rw [List.getElem?_eq_none z]
      · rw [if_neg hn]
    obtain ⟨S, hS⟩ : ∃ S, S = ((V.setCell ⟨W.heap.size + 1, 0, none⟩ (.string ⟨#[]⟩)).setCell ⟨W.heap.size + 1, 1, none⟩ (.string ⟨#[]⟩)).setCell ⟨W.heap.size + 1 + 1, 0, none⟩ (.bool false) := ⟨_, rfl⟩
    have tS : Touch [W.heap.size + 1, W.heap.size + 1 + 1] V S := by rw [hS]; exact (((Touch.refl _ _).set (.inl (by simp)) _).set (.inl (by simp)) _).set (.inl (by simp)) _
    have g2 : Var2 S (W.heap.size + 1) (.string ⟨#[]⟩) (.string ⟨#[]⟩) := by rw [hS]; exact (h2.set _ _).other (by omega) _ _
    have g3 : Var S (W.heap.size + 1 + 1) (.bool false) := by rw [hS]; exact ((h3.other (by omega) _ _).other (by omega) _ _).set _
    have hK' : S.heap[D]? = some (.deferred (some [])) := (tS.block D (Array.getElem?_eq_some_iff.1 hK).1 (by simp; omega)).trans hK
    have hp : Touch [D] S (S.putObj D (.deferred none)) := (Touch.refl _ _).put (.inl (by simp)) _
    have k2 := g2.touch hp (by simp; omega)
    have k3 := g3.touch hp (by simp; omega)
    have HD : Hid (Below W.heap.size W (S.putObj D (.deferred none))) := (Touch.acc hB tS (by simp; omega)).trans (belowK_b (w := W) (Nat.le_refl _) S D _ _ (by omega) hK' rfl rfl)
    have c20 := h2.v0
    have c21 := h2.v1
    have f20 := h2.f0
    have f21 := h2.f1
    have c3 := h3.val
    have f3 := h3.free
    have K2 := Lib.hid k2
    have K3 := Lib.hid k3
    have HK := Lib.hid hK'
    have HV := Lib.hid hV
    have HSS := Lib.hid hS
    clear hB hL h1 h2 h3 h4 h5 hV tS g2 g3 hK hK' hp k2 k3 hS
    gi_wp2
    rw [← HSS.out]
    have c20 := K2.out.v0
    have c21 := K2.out.v1
    have c3 := K3.out.val
    refine ⟨by simp, .inl ⟨_, _, rfl, run_takeDeferred HK.out, ?_⟩⟩
    refine ⟨.tuple #[.agg #[.string ⟨#[]⟩, .string ⟨#[]⟩], .bool false], ?_, by rw [HV.out], HD.out⟩
    simp [results, Tryz.results18, go_sem, c20, c21, c3]
  case stop =>
    rintro D c V Y hD hDn hL ⟨rfl, rfl, x, h2, h3, h4⟩ hK
    have hB := Left.new HB.out hL (fun q hq => (HYS.out q hq).1)
    have hp : Touch [D] V (V.putObj D (.deferred none)) := (Touch.refl _ _).put (.inl (by simp)) _
    have g2 := h2.touch hp (by simp; omega)
    have g3 := h3.touch hp (by simp; omega)
    have c20 := g2.v0
    have c21 := g2.v1
    have c3 := g3.val
    have HK := Lib.hid hK
    have HD : Hid (Below W.heap.size W (V.putObj D (.deferred none))) := hB.trans (belowK_b (w := W) (Nat.le_refl _) V D _ _ (by omega) hK rfl rfl)
    have HV := Lib.hid h4
    clear hB hL h2 h3 g2 g3 hp h4
    gi_wp2
    refine ⟨by simp, .inl ⟨_, _, rfl, run_takeDeferred HK.out, ?_⟩⟩
    refine ⟨.tuple #[.agg #[.string x.1, .string x.2], .bool true], ?_, by rw [HV.out], HD.out⟩
    simp [results, Tryz.results18, go_sem, c20, c21, c3]
end Go.Proofs.YtglinhcldgpphaaGreat
namespace Go.Proofs.YtglinhcldgpphaaGreat
open Go.RowKit

attribute [local go_sem] Oper.semAt_some

set_option maxRecDepth 100000 in
set_option maxHeartbeats 4000000 in
theorem middle_src {W : World} {p : Option Addr} {l : List Item} (hs : Src W p l) (hk : ∀ x ∈ l, x.1.size ≤ 16) (f t : Nat) (hf : f < 18446744073709551616) (ht : t < 18446744073709551616) :
    Calls Tryz.prog 17 #[.pointer p, .agg #[.int .u64 (f : Nat), .int .u64 (t : Nat)]] W fun e w' => e = .returned (midV (midL (arcL l f t))) ∧ Below W.heap.size W w' := by
  have HS := Lib.hid hs
  have HF := Lib.hid hf
  have HT := Lib.hid ht
  have HKS : Hid (∀ x ∈ arcL l f t, x.1.size ≤ 16) := fun x hx => hk x (mem_arcL hx).1
  have hlen : (arcL l f t).length ≤ 400 := by
    have h2 := arcL_length_le l f t
    have h3 := hs.len
    omega
  obtain ⟨a, ha⟩ : ∃ a, arcL l f t = a := ⟨_, rfl⟩
  have HA := Lib.hid ha
  rw [ha] at hlen HKS ⊢
  obtain ⟨n, hn⟩ : ∃ n, a.length = n := ⟨_, rfl⟩
  have HN := Lib.hid hn
  rw [hn] at hlen
  clear hs hf ht hk ha hn
  refine (callsIn_wide (n := 0)).1 (callsIn_of_wp_marks Tryz.func17 rfl trivial ?_ rfl)
  simp only [Tryz.ntmps17, List.size_toArray, List.length_cons, List.length_nil, Nat.reduceAdd, Nat.reduceSub, Array.replicate_succ, Array.replicate_zero, List.push_toArray, List.append_toArray, List.nil_append, List.cons_append]
  have HB0 : Hid (Below W.heap.size W (((W.alloc (.cells #[.int .u64 (f : Nat), .int .u64 (t : Nat)] 25)).alloc (.cells #[.int .u64 0] 23)).alloc (.cells #[.bool false] 4))) := (((Below.refl _ W).alloc (Nat.le_refl _) _).alloc (by simp) _).alloc (by simp; omega) _
  have HC : Hid (Calls Tryz.prog 66 #[.pointer p, .agg #[.int .u64 (f : Nat), .int .u64 (t : Nat)]] (((W.alloc (.cells #[.int .u64 (f : Nat), .int .u64 (t : Nat)] 25)).alloc (.cells #[.int .u64 0] 23)).alloc (.cells #[.bool false] 4)) fun e w' => e = .returned (.int .i64 (n : Nat)) ∧ Below (((W.alloc (.cells #[.int .u64 (f : Nat), .int .u64 (t : Nat)] 25)).alloc (.cells #[.int .u64 0] 23)).alloc (.cells #[.bool false] 4)).heap.size (((W.alloc (.cells #[.int .u64 (f : Nat), .int .u64 (t : Nat)] 25)).alloc (.cells #[.int .u64 0] 23)).alloc (.cells #[.bool false] 4)) w') := by
    have z := count_src (HS.out.later HB0.out) f t HF.out HT.out
    rw [HA.out, HN.out] at z
    exact z
  gi_wp2_with (first | (refine ⟨trivial, rfl, ?_⟩; gi_at_call 9; refine (callsIn_wide.2 (arc_post p f t _)).mono ?_; rintro e W2 ⟨a0, a1, rfl, ca0, ca1, ca2, hb2⟩) | (refine ⟨trivial, rfl, ?_⟩; gi_at_call 66; refine (callsIn_wide.2 HC.out).mono ?_; clear HC; rintro e w1 ⟨rfl, hb1⟩; have HB1 := Lib.hid hb1; have hz1 : W.heap.size + 3 ≤ w1.heap.size := (by have := hb1.size; simp at this; omega); have hz0 : W.heap.size < w1.heap.size := (by omega); have ca : w1.cell? ⟨W.heap.size, 0, none⟩ = some (.int .u64 (f : Nat)) := (hb1.cell (p := ⟨W.heap.size, 0, none⟩) (by simp; omega)).trans (by go_simp); have cb : w1.cell? ⟨W.heap.size, 1, none⟩ = some (.int .u64 (t : Nat)) := (hb1.cell (p := ⟨W.heap.size, 1, none⟩) (by simp; omega)).trans (by go_simp); clear hb1))
  have hh : (((n : Nat) + 1 : Int) / 2) = (((n + 1) / 2 : Nat) : Int) := by omega
  have b1W : Below W.heap.size W w1 := HB0.out.trans (HB1.out.mono HB0.out.size)
  have r1 : Var w1 (W.heap.size + 1) (.int .u64 0) := by
    have z := (Var.new (W.alloc (.cells #[.int .u64 (f : Nat), .int .u64 (t : Nat)] 25)) (.int .u64 0) 23).old (.cells #[.bool false] 4)
    rw [World.size_alloc] at z
    exact z.below HB1.out
  have r2 : Var w1 (W.heap.size + 1 + 1) (.bool false) := by
    have z := Var.new ((W.alloc (.cells #[.int .u64 (f : Nat), .int .u64 (t : Nat)] 25)).alloc (.cells #[.int .u64 0] 23)) (.bool false) 4
    rw [World.size_alloc, World.size_alloc] at z
    exact z.below HB1.out
  have r3 : Var ((w1.alloc (.cells #[.int .i64 (((n : Nat) + 1 : Int) / 2)] 3)).alloc (.cells #[.int .u64 0] 23)) w1.heap.size (.int .i64 (((n + 1) / 2 : Nat) : Int)) := by
    rw [← hh]
    exact (Var.new w1 _ _).old _
  have r4 : Var ((w1.alloc (.cells #[.int .i64 (((n : Nat) + 1 : Int) / 2)] 3)).alloc (.cells #[.int .u64 0] 23)) (w1.heap.size + 1) (.int .u64 0) := by
    have z := Var.new (w1.alloc (.cells #[.int .i64 (((n : Nat) + 1 : Int) / 2)] 3)) (.int .u64 0) 23
    rwa [World.size_alloc] at z
  have v1 := ((r1.old (.cells #[.int .i64 (((n : Nat) + 1 : Int) / 2)] 3)).old (.cells #[.int .u64 0] 23)).below hb2
  have v2 := ((r2.old (.cells #[.int .i64 (((n : Nat) + 1 : Int) / 2)] 3)).old (.cells #[.int .u64 0] 23)).below hb2
  have v3 := r3.below hb2
  have v4 := r4.below hb2
  have HB : Hid (Below W.heap.size W W2) := ((b1W.alloc b1W.size _).alloc (by have := b1W.size; simp; omega) _).trans (hb2.mono (by have := b1W.size; simp; omega))
  have hz2 : w1.heap.size + 2 ≤ W2.heap.size := by have := hb2.size; simpa using this
  rw [hh]
  clear r1 r2 r3 r4 hb2 b1W ca cb hh
  obtain ⟨Ys, hYs⟩ : ∃ Ys, Ys = [W.heap.size + 1, W.heap.size + 1 + 1, w1.heap.size, w1.heap.size + 1] := ⟨_, rfl⟩
  have m1 : W.heap.size + 1 ∈ Ys := by rw [hYs]; simp
  have m2 : W.heap.size + 1 + 1 ∈ Ys := by rw [hYs]; simp
  have m3 : w1.heap.size ∈ Ys := by rw [hYs]; simp
  have m4 : w1.heap.size + 1 ∈ Ys := by rw [hYs]; simp
  have HYS : Hid (∀ q ∈ Ys, W.heap.size ≤ q ∧ q < W2.heap.size) := by
    rw [hYs]
    intro q hq
    simp at hq
    omega
  clear hYs
  obtain ⟨h, hh⟩ : ∃ h, (n + 1) / 2 = h := ⟨_, rfl⟩
  have HH := Lib.hid hh
  rw [hh] at v3 ⊢
  have hhn : h ≤ n := by omega
  have hh0 : h = 0 → n = 0 := by omega
  clear hh
  refine wp_ways (gf := 29) (lb := #[.pointer (some ⟨a0, 0, none⟩), .pointer (some ⟨a1, 0, none⟩)]) rfl (enters_of Tryz.func29 (by kernel_rfl) rfl) (xs := a) (B := [])
    (fun V hV => by
      rw [← HA.out]
      exact arcWay HS.out.rising (fun w hw => HS.out.copy w (HB.out.trans ((hV.mono HB.out.size).trans (hw.mono (Nat.le_trans HB.out.size hV.size))))) HF.out HT.out ((hV.cell (p := ⟨a0, 0, none⟩) (World.block_lt_of_cell? W2 _ ca0)).trans ca0) ((hV.cell (p := ⟨a1, 0, none⟩) (World.block_lt_of_cell? W2 _ ca1)).trans ca1) ((hV.cell (p := ⟨a1, 1, none⟩) (World.block_lt_of_cell? W2 _ ca2)).trans ca2) [] (by simp)) (by simp) rfl
    (fun m V Y => Y = Ys ∧ Var V (W.heap.size + 1) (.int .u64 0) ∧ Var V (W.heap.size + 1 + 1) (.bool false) ∧ Var V w1.heap.size (.int .i64 ((h - m : Nat) : Int)) ∧ ∃ x : Nat, Var V (w1.heap.size + 1) (.int .u64 (x : Nat)) ∧ (h ≤ m → midL a = midScan x (a.drop m)))
    (fun c V Y => Y = Ys ∧ c = .ret ∧ ∃ x : Nat, Var V (W.heap.size + 1) (.int .u64 (x : Nat)) ∧ Var V (W.heap.size + 1 + 1) (.bool true) ∧ midL a = some x)
    Ys (fun q hq => (HYS.out q hq).2) ⟨rfl, v1, v2, v3, 0, v4, fun z => by
      obtain rfl : a = [] := List.eq_nil_of_length_eq_zero (by rw [HN.out]; omega)
      rfl⟩
    (by
      rintro m V V1 Y G ⟨rfl, h1, h2, h3, x, h4, h5⟩ tt hn
      exact ⟨rfl, h1.touch tt (hn _ m1), h2.touch tt (hn _ m2), h3.touch tt (hn _ m3), x, h4.touch tt (hn _ m4), h5⟩)
    (by
      rintro c V V1 Y G ⟨rfl, h1, x, h2, h3, h4⟩ tt hn
      exact ⟨rfl, h1, x, h2.touch tt (hn _ m1), h3.touch tt (hn _ m2), h4⟩)
    (fun x => { tmps := #[.pointer p, .agg #[.int .u64 (f : Nat), .int .u64 (t : Nat)], undef, .pointer (some ⟨W.heap.size, 0, none⟩), .pointer (some ⟨W.heap.size + 1, 0, none⟩), .pointer (some ⟨W.heap.size + 1 + 1, 0, none⟩), .pointer (some ⟨w1.heap.size, 0, none⟩), .pointer (some ⟨w1.heap.size + 1, 0, none⟩), .string x.1, undef, .pointer p, .agg #[.int .u64 (f : Nat), .int .u64 (t : Nat)], .int .i64 (n : Nat), .int .i64 ((n : Nat) + 1), .int .i64 (h : Nat), .pointer p, .agg #[.int .u64 (f : Nat), .int .u64 (t : Nat)], .func (.func 29) #[] #[.pointer (some ⟨a0, 0, none⟩), .pointer (some ⟨a1, 0, none⟩)], .string x.1, .string x.2, undef, undef, undef, undef, undef, undef, undef, undef, undef, undef, undef, undef, undef], defers := [] })
    ?assign ?body ?done ?stop
  case assign =>
    intro lp x V K hK
    gi_wp2
    exact hK
  case body =>
    rintro lp m ⟨xk, xv⟩ V Y hV hx ⟨rfl, h1, h2, h3, x, h4, h5⟩ hY
    obtain ⟨hm, hxm⟩ := List.getElem?_eq_some_iff.1 hx
    have hks : xk.size ≤ 16 := HKS.out (xk, xv) (by rw [← hxm]; exact List.getElem_mem hm)
    have CA := Lib.hid (fun w => addr_any xk w (by unfold maxLen; omega))
    have had : adr (a[m]) = addrN xk := by rw [hxm]; rfl
    have HLM := Lib.hid hm
    have hmn : m < n := by rw [← HN.out]; exact hm
    have hstep := midScan_step (p := x) hm
    rw [had] at hstep
    have hstart : h = m + 1 → midL a = midScan (addrN xk) (a.drop (m + 1)) := fun e => by
      obtain ⟨z, hz⟩ := midL_start' HN.out (by omega)
      have hH := HH.out
      have q1 : (n + 1) / 2 - 1 = m := by omega
      have q2 : (n + 1) / 2 = m + 1 := by omega
      have q3 : adr (a[(n + 1) / 2 - 1]) = addrN xk := by
        simp only [q1]
        exact had
      rw [hz, q3, q2]
    obtain ⟨y, hy⟩ : ∃ y, addrN xk = y := ⟨_, rfl⟩
    rw [hy] at CA hstep hstart
    have c1 := h1.val
    have f1 := h1.free
    have c2 := h2.val
    have f2 := h2.free
    have c3 := h3.val
    have f3 := h3.free
    have c4 := h4.val
    have f4 := h4.free
    have H1 := Lib.hid h1
    have H2 := Lib.hid h2
    have H3 := Lib.hid h3
    have H4 := Lib.hid h4
    have H5 := Lib.hid h5
    have HY := Lib.hid hY
    have HSP := Lib.hid hstep
    have HST := Lib.hid hstart
    clear h1 h2 h3 h4 h5 hx hY hxm had hy hks hm hstep hstart
    obtain ⟨d, hd⟩ : ∃ d, h - m = d := ⟨_, rfl⟩
    rw [hd] at c3
    have hd4 : d ≤ 400 := by omega
    by_cases hlt : m < h
    · have t1 : decide (0 < d) = true := by simp; omega
      have hd1 : 1 ≤ d := by omega
      have hds : h - (m + 1) = d - 1 := by omega
      have HDS := Lib.hid hds
      clear hds
      gi_wp2_with (refine ⟨trivial, rfl, ?_⟩; gi_at_call 67; refine (CallsIn.inRound lp (callsIn_wide.2 (CA.out _))).mono ?_; rintro e w' ⟨rfl, rfl⟩)
      refine ⟨_, ⟨⟨[w1.heap.size, w1.heap.size + 1], ((Touch.refl _ _).set (.inl (by simp)) _).set (.inl (by simp)) _, fun q hq => ?_⟩, fun q hq => ⟨by simpa [World.setCell] using HY.out q hq, .inl hq⟩⟩, rfl, (H1.out.other (by omega) _ _).other (by omega) _ _, (H2.out.other (by omega) _ _).other (by omega) _ _, ?_, y, (H4.out.other (by omega) _ _).set _, fun z => HST.out (by omega)⟩
      · simp at hq
        rcases hq with rfl | rfl
        · exact ⟨m3, by simp⟩
        · exact ⟨m4, by simp⟩
      · rw [HDS.out, show ((d - 1 : Nat) : Int) = (d : Int) - 1 by omega]
        exact (H3.out.set _).other (by omega) _ _
    · have hd0 : d = 0 := by omega
      subst hd0
      by_cases hxy : y = x
      · have t2 : ((y : Int) != (x : Int)) = false := by simp; omega
        gi_wp2_with (refine ⟨trivial, rfl, ?_⟩; gi_at_call 67; refine (CallsIn.inRound lp (callsIn_wide.2 (CA.out _))).mono ?_; rintro e w' ⟨rfl, rfl⟩)
        exact ⟨_, Left.refl HY.out, rfl, H1.out, H2.out, by rw [show h - (m + 1) = h - m by omega]; exact H3.out, _, H4.out, fun _ => by rw [H5.out (by omega), HSP.out, if_pos hxy]⟩
      · have t2 : ((y : Int) != (x : Int)) = true := by simp; omega
        gi_wp2_with (refine ⟨trivial, rfl, ?_⟩; gi_at_call 67; refine (CallsIn.inRound lp (callsIn_wide.2 (CA.out _))).mono ?_; rintro e w' ⟨rfl, rfl⟩)
        refine ⟨_, ⟨⟨[W.heap.size + 1, W.heap.size + 1 + 1], ((Touch.refl _ _).set (.inl (by simp)) _).set (.inl (by simp)) _, fun q hq => ?_⟩, fun q hq => ⟨by simpa [World.setCell] using HY.out q hq, .inl hq⟩⟩, rfl, rfl, y, (H1.out.set _).other (by omega) _ _, (H2.out.other (by omega) _ _).set _, by rw [H5.out (by omega), HSP.out, if_neg hxy]⟩
        simp at hq
        rcases hq with rfl | rfl
        · exact ⟨m1, by simp⟩
        · exact ⟨m2, by simp⟩
  case done =>
    rintro D V Y hD hDn hL ⟨rfl, h1, h2, h3, x, h4, h5⟩ hK
    have hB := Left.new HB.out hL (fun q hq => (HYS.out q hq).1)
    have hV : midL a = none := by
      rw [h5 (by have := HN.out; omega), List.drop_eq_nil_of_le (Nat.le_refl _)]
      rfl
    obtain ⟨S, hS⟩ : ∃ S, S = (V.setCell ⟨W.heap.size + 1, 0, none⟩ (.int .u64 0)).setCell ⟨W.heap.size + 1 + 1, 0, none⟩ (.bool false) := ⟨_, rfl⟩
    have tS : Touch [W.heap.size + 1, W.heap.size + 1 + 1] V S := by rw [hS]; exact ((Touch.refl _ _).set (.inl (by simp)) _).set (.inl (by simp)) _
    have g2 : Var S (W.heap.size + 1) (.int .u64 0) := by rw [hS]; exact (h1.set _).other (by omega) _ _
    have g3 : Var S (W.heap.size + 1 + 1) (.bool false) := by rw [hS]; exact (h2.other (by omega) _ _).set _
    have hK' : S.heap[D]? = some (.deferred (some [])) := (tS.block D (Array.getElem?_eq_some_iff.1 hK).1 (by simp; omega)).trans hK
    have hp : Touch [D] S (S.putObj D (.deferred none)) := (Touch.refl _ _).put (.inl (by simp)) _
    have k2 := g2.touch hp (by simp; omega)
    have k3 := g3.touch hp (by simp; omega)
    have HD : Hid (Below W.heap.size W (S.putObj D (.deferred none))) := (Touch.acc hB tS (by simp; omega)).trans (belowK_b (w := W) (Nat.le_refl _) S D _ _ (by omega) hK' rfl rfl)
    have c1 := h1.val
    have f1 := h1.free
    have c2 := h2.val
    have f2 := h2.free
    have K2 := Lib.hid k2
    have K3 := Lib.hid k3
    have HK := Lib.hid hK'
    have HV := Lib.hid hV
    have HSS := Lib.hid hS
    clear hB hL h1 h2 h3 h4 h5 hV tS g2 g3 hK hK' hp k2 k3 hS
    gi_wp2
    rw [← HSS.out]
    have c2 := K2.out.val
    have c3 := K3.out.val
    refine ⟨by simp, .inl ⟨_, _, rfl, run_takeDeferred HK.out, ?_⟩⟩
    refine ⟨.tuple #[.int .u64 0, .bool false], ?_, by rw [HV.out]; rfl, HD.out⟩
    simp [results, Tryz.results17, go_sem, c2, c3]
  case stop =>
    rintro D c V Y hD hDn hL ⟨rfl, rfl, x, h2, h3, h4⟩ hK
    have hB := Left.new HB.out hL (fun q hq => (HYS.out q hq).1)
    have hp : Touch [D] V (V.putObj D (.deferred none)) := (Touch.refl _ _).put (.inl (by simp)) _
    have g2 := h2.touch hp (by simp; omega)
    have g3 := h3.touch hp (by simp; omega)
    have c2 := g2.val
    have c3 := g3.val
    have HK := Lib.hid hK
    have HD : Hid (Below W.heap.size W (V.putObj D (.deferred none))) := hB.trans (belowK_b (w := W) (Nat.le_refl _) V D _ _ (by omega) hK rfl rfl)
    have HV := Lib.hid h4
    clear hB hL h2 h3 g2 g3 hp h4
    gi_wp2
    refine ⟨by simp, .inl ⟨_, _, rfl, run_takeDeferred HK.out, ?_⟩⟩
    refine ⟨.tuple #[.int .u64 (x : Nat), .bool true], ?_, by rw [HV.out]; rfl, HD.out⟩
    simp [results, Tryz.results17, go_sem, c2, c3]
end Go.Proofs.YtglinhcldgpphaaGreat
namespace Go.Proofs.YtglinhcldgpphaaGreat
open Go.RowKit

attribute [local go_sem] Oper.semAt_some

/-- append within a round -/
theorem wpListIn_append_any {F : Fence} {d : Nat} {P : Program} {w : World} {ops : Array Oper} {rest : List Oper} {o : Oper} {a : Act} {Q : Exit → Act → World → Prop} (hg : o.guard = none) (s x : Operand) (t : TypeId)
    (ho : o.op = .call { callee := .builtin .append, args := #[s, x], argTypes := #[t, t] })
    (base : Nat) (e : TypeId) (i : TypeInfo) (z : Value) (size bytes : Nat) (ht : P.underlying t = some (.slice e)) (hi : P.info? e = some i) (hz : i.zero = some z)
    (hsize : i.size = size) (hby : i.bytes = bytes) (hzs : z.cells.size = size) (hsz : 0 < size)
    (v : Value) (n : Nat) (xs : List Value) (hs : a.eval s = v) (hown : w.ownsRow base e size v n xs)
    (y : Value) (m : Nat) (news : List Value) (hx : a.eval x = y) (hsrc : From w size y m news) (h1 : ∀ u ∈ news, u.oneCell' = true)
    (h63 : n + m ≤ maxLen) (hbytes : (n + m) * bytes ≤ 140737488355328) (hbase : base ≤ w.heap.size)
    (h : ∀ A c w', w'.ownsRow base e size (.slice A (n + m) c) (n + m) (xs ++ news) → w.grownBy w' v.ownBlock → SameOrNew w v (.slice A (n + m) c) → wpListIn F d P ops Q rest (a.put o.dst (.slice A (n + m) c)) w') : wpListIn F d P ops Q (o :: rest) a w := by
  refine wpListIn_plain hg fun K hK => ?_
  obtain ⟨v', w', hr, h2, h3, h4⟩ := run_append_any (P := P) w base t o.type e i z size bytes ht hi hz hsize hby hzs hsz v n xs hown y m news hsrc h1 h63 hbytes hbase
  obtain ⟨A, c, rfl⟩ := own_slice h2
  refine ⟨by simp [Oper.about, ho, resolve, Target.leads, Sem.run_pure], ?_⟩
  rw [Oper.semAt_plain F _ _ (by rw [ho]; intro c hc; cases hc)]
  simp only [execOp, ho, resolve, invoke, builtin, Sem.run_bind, Sem.run_pure, Result.andThen_ok, List.map_toArray, List.map_cons, List.map_nil, hs, hx, hr]
  exact hK _ _ (h A c w' h2 h3 h4)

/-- nothing to recover from -/
theorem calm_any (n : Nat) (w : World) : CallsDIn Fence.wide n Tryz.prog 36 #[] .returning w fun e u' w' => (∃ v, e = .returned v) ∧ u' = .returning ∧ w' = w := by
  refine callsDIn_of_wpSIn Tryz.func36 rfl trivial fun c₀ cs hu => ?_
  apply wpSIn_region
  simp [wpOpsSIn, go_sem, recoverD, hu, Tryz.ntmps36]
  cases c₀
  simp_all [bodyPostS, results, Tryz.results36]
theorem leaves_calm {n : Nat} {fn : Func} {tmps : Array Value} {R : Ending → World → Prop} {D : Nat} {V : World} (hK : V.heap[D]? = some (.deferred (some [])))
    (h : LeavesIn Fence.wide n Tryz.prog fn tmps R [] .returning (V.putObj D (.deferred none))) :
    LeavesInM Fence.wide n Tryz.prog fn tmps R [mark D, { target := .fn (.func 36) #[], args := #[] }] .returning V := by
  refine ⟨by simp, .inl ⟨_, _, rfl, run_takeDeferred hK, ?_⟩⟩
  refine ⟨by simp, .inr ⟨fun h => by simp [Fence.wide] at h, _, _, 36, #[], rfl, ?_, fun _ _ => trivial, (calm_any _ _).mono ?_⟩⟩
  · simp [invoke, go_sem]
  · rintro e u' w' ⟨⟨v, rfl⟩, rfl, rfl⟩
    exact h
set_option maxRecDepth 100000 in
set_option maxHeartbeats 4000000 in
theorem collect_way {W : World} {i : Nat} {lb : Array Value} {xs : List Item} (hi : ∀ a w, (callFunc i a).run Tryz.prog w = .ok (.enter i a) w) {B : List Nat} (hB : ∀ q ∈ B, q < W.heap.size) (hw : ∀ V, Below W.heap.size W V → WayIn i lb xs B V) (hx : xs.length ≤ 400) (n : Int) (h0 : -9223372036854775808 ≤ n) (h1 : n ≤ 9223372036854775807) :
    Calls Tryz.prog 14 #[.func (.func i) #[] lb, .int .i64 n] W (NewItems W (xs.take n.toNat)) := by
  have hne : ∀ w, (binOp .eql 41 (.func (.func i) #[] lb) .nilFunc).run Tryz.prog w = .ok (.bool false) w := fun w => run_eql_func w _ _ _ _ Tryz.underlying41
  have HW := Lib.hid hw
  have HX := Lib.hid hx
  have HBW := Lib.hid hB
  have HI := Lib.hid hi
  obtain ⟨i0, hi0, hz0, hs0, hb0⟩ := infoItems
  clear hw hx hi hB
  by_cases hn : n ≤ 0
  · have t1 : decide (n ≤ 0) = true := by simpa using hn
    have HE : Hid (xs.take n.toNat = []) := by
      show xs.take n.toNat = []
      rw [show n.toNat = 0 by omega, List.take_zero]
    refine (callsIn_wide (n := 0)).1 (callsIn_of_wp_marks Tryz.func14 rfl trivial ?_ rfl)
    simp only [Tryz.ntmps14, List.size_toArray, List.length_cons, List.length_nil, Nat.reduceAdd, Nat.reduceSub, Array.replicate_succ, Array.replicate_zero, List.push_toArray, List.append_toArray, List.nil_append, List.cons_append]
    gi_wp2
    rw [HE.out]
    refine ⟨.slice none 0 0, ?_, none, 0, rfl, World.ownsRow_nil _ _ _ _, ((Below.refl _ W).alloc (Nat.le_refl _) _).alloc (by simp) _⟩
    simp [results, Tryz.results14, go_sem]
  · have t1 : decide (n ≤ 0) = false := by simpa using hn
    refine (callsIn_wide (n := 0)).1 (callsIn_of_wp_marks Tryz.func14 rfl trivial ?_ rfl)
    simp only [Tryz.ntmps14, List.size_toArray, List.length_cons, List.length_nil, Nat.reduceAdd, Nat.reduceSub, Array.replicate_succ, Array.replicate_zero, List.push_toArray, List.append_toArray, List.nil_append, List.cons_append]
    gi_wp2
    have v1 : Var ((W.alloc (.cells #[.int .i64 n] 3)).alloc (.cells #[.slice none 0 0] 22)) W.heap.size (.int .i64 n) := (Var.new W _ _).old _
    have v2 : Var ((W.alloc (.cells #[.int .i64 n] 3)).alloc (.cells #[.slice none 0 0] 22)) (W.heap.size + 1) (.slice none 0 0) := by
      have z := Var.new (W.alloc (.cells #[.int .i64 n] 3)) (.slice none 0 0) 22
      rwa [World.size_alloc] at z
    have b2 : Below W.heap.size W ((W.alloc (.cells #[.int .i64 n] 3)).alloc (.cells #[.slice none 0 0] 22)) := ((Below.refl _ W).alloc (Nat.le_refl _) _).alloc (by simp) _
    have z2 : ((W.alloc (.cells #[.int .i64 n] 3)).alloc (.cells #[.slice none 0 0] 22)).heap.size = W.heap.size + 2 := by simp
    generalize ((W.alloc (.cells #[.int .i64 n] 3)).alloc (.cells #[.slice none 0 0] 22)) = W2 at *
    have HB := Lib.hid b2
    clear b2
    refine wp_ways (gf := i) (lb := lb) rfl HI.out (xs := xs) (B := B) (fun V hV => HW.out V (HB.out.trans (hV.mono (by omega)))) (fun q hq => by have := HBW.out q hq; omega) rfl
      (fun m V Y => ∃ A c, Y = [W.heap.size, W.heap.size + 1] ++ (Value.slice A m c).ownBlock.toList ∧ Var V W.heap.size (.int .i64 n) ∧ Var V (W.heap.size + 1) (.slice A m c) ∧ V.ownsRow W2.heap.size 59 2 (.slice A m c) m (itemCells (xs.take m)) ∧ (m : Int) < n)
      (fun k V Y => k = .exit 0 ∧ ∃ (A : Option Addr) (c m : Nat), (m : Int) = n ∧ m ≤ xs.length ∧ W.heap.size + 1 ∈ Y ∧ (∀ q, (Value.slice A m c).ownBlock = some q → q ∈ Y) ∧ Var V (W.heap.size + 1) (.slice A m c) ∧ V.ownsRow W2.heap.size 59 2 (.slice A m c) m (itemCells (xs.take m)))
      [W.heap.size, W.heap.size + 1] (by simp; omega) ⟨none, 0, rfl, v1, v2, World.ownsRow_nil _ _ _ _, by omega⟩
      (by
        rintro m V V1 Y G ⟨A, c, rfl, h1, h2, h3, h4⟩ tt hnn
        exact ⟨A, c, rfl, h1.touch tt (hnn _ (by simp)), h2.touch tt (hnn _ (by simp)), tt.row h3 (fun q hq => hnn q (by simp [hq])), h4⟩)
      (by
        rintro k V V1 Y G ⟨h1, A, c, m, h2, h3, h4, h5, h6, h7⟩ tt hnn
        exact ⟨h1, A, c, m, h2, h3, h4, h5, h6.touch tt (hnn _ h4), tt.row h7 (fun q hq => hnn q (h5 q hq))⟩)
      (fun x => { tmps := #[.func (.func i) #[] lb, .int .i64 n, undef, .pointer (some ⟨W.heap.size, 0, none⟩), .pointer (some ⟨W.heap.size + 1, 0, none⟩), .string x.1, .string x.2, .func (.func i) #[] lb, .bool false, .bool false, .int .i64 n, .bool false, .bool false, .func (.func i) #[] lb, .string x.1, .string x.2, undef, undef, undef, undef, undef, undef, undef, undef, undef, undef, undef], defers := [] })
      ?assign ?body ?done ?stop
    case assign =>
      intro lp x V K hK
      gi_wp2
      exact hK
    case body =>
      rintro lp m ⟨xk, xv⟩ V Y hV hx ⟨A, c, rfl, h1, h2, h3, h4⟩ hY
      have hm : m < 400 := by
        have := (List.getElem?_eq_some_iff.1 hx).1
        have := HX.out
        omega
      have hlen : m + 1 ≤ xs.length := (List.getElem?_eq_some_iff.1 hx).1
      have htk : xs.take (m + 1) = xs.take m ++ [(xk, xv)] := by rw [List.take_add_one, hx]; rfl
      have c1 := h1.val
      have c2 := h2.val
      have f2 := h2.free
      have H1 := Lib.hid h1
      have H2 := Lib.hid h2
      have HR := Lib.hid h3
      have HTK := Lib.hid htk
      have HY := Lib.hid hY
      have hsz : W2.heap.size ≤ V.heap.size := hV
      have HN : Hid (∀ q, q < W2.heap.size → q ∉ (Value.slice A m c).ownBlock.toList) := fun q hq z => by
        have := (HR.out.lt q (by simpa using z)).1
        omega
      clear h1 h2 h3 htk hY hx
      have HFA : Hid (∀ A3 c3 w3, Touch (Value.slice A m c).ownBlock.toList V w3 → Var w3 W.heap.size (.int .i64 n) → Var w3 (W.heap.size + 1) (.slice A m c) → w3.ownsRow W2.heap.size 59 2 (.slice A3 (m + 1) c3) (m + 1) (itemCells (xs.take m) ++ itemCells [(xk, xv)]) → SameOrNew (V.alloc (.cells #[.string xk, .string xv] 59)) (.slice A m c) (.slice A3 (m + 1) c3) →
          Left B ([W.heap.size, W.heap.size + 1] ++ (Value.slice A m c).ownBlock.toList) V (w3.setCell ⟨W.heap.size + 1, 0, none⟩ (.slice A3 (m + 1) c3)) ([W.heap.size, W.heap.size + 1] ++ (Value.slice A3 (m + 1) c3).ownBlock.toList) ∧
          Var (w3.setCell ⟨W.heap.size + 1, 0, none⟩ (.slice A3 (m + 1) c3)) W.heap.size (.int .i64 n) ∧ Var (w3.setCell ⟨W.heap.size + 1, 0, none⟩ (.slice A3 (m + 1) c3)) (W.heap.size + 1) (.slice A3 (m + 1) c3) ∧
          (w3.setCell ⟨W.heap.size + 1, 0, none⟩ (.slice A3 (m + 1) c3)).ownsRow W2.heap.size 59 2 (.slice A3 (m + 1) c3) (m + 1) (itemCells (xs.take m) ++ itemCells [(xk, xv)])) := by
        intro A3 c3 w3 tt k1 k2 ho hs
        refine ⟨⟨⟨(W.heap.size + 1) :: (Value.slice A m c).ownBlock.toList, (tt.mono (fun x hx => by simp [hx])).set (.inl (by simp)) _, fun q hq => ?_⟩, fun q hq => ?_⟩, k1.other (by omega) _ _, k2.set _, ?_⟩
        · have hlt : ∀ q, (q = W.heap.size + 1 ∨ q ∈ (Value.slice A m c).ownBlock.toList) → W.heap.size ≤ q := fun q hq => by
            rcases hq with rfl | z
            · omega
            · have := (HR.out.lt q (by simpa using z)).1
              omega
          refine ⟨?_, fun z => ?_⟩
          · rcases List.mem_cons.1 hq with rfl | z
            · simp
            · exact List.mem_append_right _ z
          · have h1 := HBW.out q z
            have h2 := hlt q (List.mem_cons.1 hq)
            omega
        · have hsz3 := tt.size
          have e : (w3.setCell ⟨W.heap.size + 1, 0, none⟩ (.slice A3 (m + 1) c3)).heap.size = w3.heap.size := by simp [World.setCell]
          rw [e]
          rcases List.mem_append.1 hq with z | z
          · exact ⟨by have := HY.out q (List.mem_append_left _ z); omega, .inl (List.mem_append_left _ z)⟩
          · have z' : (Value.slice A3 (m + 1) c3).ownBlock = some q := by simpa using z
            refine ⟨(ho.lt q z').2, ?_⟩
            rcases hs q z' with y | y
            · exact .inl (List.mem_append_right _ (by simp [y]))
            · simp at y
              exact .inr (by omega)
        · exact ((Touch.refl [W.heap.size + 1] _).set (.inl (by simp)) _).row ho (fun q hq z => by
            have := (ho.lt q hq).1
            simp at z
            omega)
      by_cases he : ((m + 1 : Nat) : Int) = n
      · have t2 : (((m : Int) + 1) == n) = true := by
          rw [beq_iff_eq]
          omega
        gi_wp2_with (gi_at_builtin; refine wpListIn_append_any rfl (.tmp 16) (.tmp 20) 22 rfl W2.heap.size 59 i0 (.agg #[.string ⟨#[]⟩, .string ⟨#[]⟩]) 2 32 Tryz.underlying22 hi0 hz0 hs0 hb0 rfl (by decide) (.slice A m c) m (itemCells (xs.take m)) rfl (HR.out.alloc _) (.slice (some ⟨V.heap.size, 0, none⟩) 1 1) 1 (itemCells [(xk, xv)]) rfl (item_src _ _ xk xv (heap_alloc_new _ _)) (items_one _) (by unfold maxLen; omega) (by omega) (by simp; omega) ?_; intro A3 c3 w3 ho3 hg3 hs3; have tt : Touch (Value.slice A m c).ownBlock.toList V w3 := ((Touch.refl _ V).alloc _).grown hg3 (fun k hk => .inl (by simp [hk])); have HT := Lib.hid tt; have K1 := Lib.hid (H1.out.touch tt (HN.out _ (by omega))); have K2 := Lib.hid (H2.out.touch tt (HN.out _ (by omega))); have c1 := K1.out.val; have c2 := K2.out.val; have f2 := K2.out.free; have HO3 := Lib.hid ho3; have HS3 := Lib.hid hs3; clear tt ho3 hg3 hs3)
        obtain ⟨kL, kV1, kV2, kR⟩ := HFA.out A3 c3 w3 HT.out K1.out K2.out HO3.out HS3.out
        exact ⟨_, kL, rfl, A3, c3, m + 1, he, hlen, by simp, fun q hq => by simp [hq], kV2, by rw [HTK.out, itemCells_append]; exact kR⟩
      · have t2 : (((m : Int) + 1) == n) = false := by
          rw [beq_eq_false_iff_ne]
          omega
        gi_wp2_with (gi_at_builtin; refine wpListIn_append_any rfl (.tmp 16) (.tmp 20) 22 rfl W2.heap.size 59 i0 (.agg #[.string ⟨#[]⟩, .string ⟨#[]⟩]) 2 32 Tryz.underlying22 hi0 hz0 hs0 hb0 rfl (by decide) (.slice A m c) m (itemCells (xs.take m)) rfl (HR.out.alloc _) (.slice (some ⟨V.heap.size, 0, none⟩) 1 1) 1 (itemCells [(xk, xv)]) rfl (item_src _ _ xk xv (heap_alloc_new _ _)) (items_one _) (by unfold maxLen; omega) (by omega) (by simp; omega) ?_; intro A3 c3 w3 ho3 hg3 hs3; have tt : Touch (Value.slice A m c).ownBlock.toList V w3 := ((Touch.refl _ V).alloc _).grown hg3 (fun k hk => .inl (by simp [hk])); have HT := Lib.hid tt; have K1 := Lib.hid (H1.out.touch tt (HN.out _ (by omega))); have K2 := Lib.hid (H2.out.touch tt (HN.out _ (by omega))); have c1 := K1.out.val; have c2 := K2.out.val; have f2 := K2.out.free; have HO3 := Lib.hid ho3; have HS3 := Lib.hid hs3; clear tt ho3 hg3 hs3)
        obtain ⟨kL, kV1, kV2, kR⟩ := HFA.out A3 c3 w3 HT.out K1.out K2.out HO3.out HS3.out
        exact ⟨_, kL, A3, c3, rfl, kV1, kV2, by rw [HTK.out, itemCells_append]; exact kR, by omega⟩
    case done =>
      rintro D V Y hD hDn hL ⟨A, c, rfl, h1, h2, h3, h4⟩ hK
      have hB := Left.new HB.out hL (by simp)
      have htk : xs.take n.toNat = xs.take xs.length := by rw [List.take_of_length_le (by omega), List.take_length]
      have hbl : D ∉ (Value.slice A xs.length c).ownBlock.toList := fun z => hDn (List.mem_append_right _ z)
      obtain ⟨S, hS⟩ : ∃ S, S = V.setCell ⟨W.heap.size + 1, 0, none⟩ (.slice A xs.length c) := ⟨_, rfl⟩
      have tS : Touch [W.heap.size + 1] V S := by rw [hS]; exact (Touch.refl _ _).set (.inl (by simp)) _
      have hK' : S.heap[D]? = some (.deferred (some [])) := (tS.block D (Array.getElem?_eq_some_iff.1 hK).1 (by simp; omega)).trans hK
      have hp : Touch [D] S (S.putObj D (.deferred none)) := (Touch.refl _ _).put (.inl (by simp)) _
      have k2 : Var (S.putObj D (.deferred none)) (W.heap.size + 1) (.slice A xs.length c) := (show Var S _ _ by rw [hS]; exact h2.set _).touch hp (by simp; omega)
      have kR : (S.putObj D (.deferred none)).ownsRow W2.heap.size 59 2 (.slice A xs.length c) xs.length (itemCells (xs.take xs.length)) := hp.row (tS.row h3 (fun q hq z => by
        have := (h3.lt q hq).1
        simp at z
        omega)) (fun q hq z => hbl (by simp at z; simp [← z, hq]))
      have HD : Hid (Below W.heap.size W (S.putObj D (.deferred none))) := (Touch.acc hB tS (by simp)).trans (belowK_b (w := W) (Nat.le_refl _) S D _ _ (by omega) hK' rfl rfl)
      have c2 := h2.val
      have f2 := h2.free
      have K2 := Lib.hid k2
      have KR := Lib.hid kR
      have HK := Lib.hid hK'
      have HTK := Lib.hid htk
      have HSS := Lib.hid hS
      clear hB hL h1 h2 h3 tS hK hK' hp k2 kR hS htk hbl
      gi_wp2
      rw [← HSS.out]
      have c2 := K2.out.val
      refine leaves_calm HK.out ⟨.slice A xs.length c, ?_, A, c, ?_, ?_, HD.out⟩
      · simp [results, Tryz.results14, go_sem, c2]
      · rw [HTK.out, List.length_take, Nat.min_self]
      · have e : (xs.take n.toNat).length = xs.length := by rw [HTK.out, List.length_take, Nat.min_self]
        rw [e, HTK.out]
        exact own_mono KR.out HB.out.size
    case stop =>
      rintro D k V Y hD hDn hL ⟨rfl, A, c, m, h2, h3, h4, h5, h6, h7⟩ hK
      have hB := Left.new HB.out hL (by simp)
      have hnm : n.toNat = m := by omega
      have hbl : D ∉ (Value.slice A m c).ownBlock.toList := fun z => hDn (h5 D (by simpa using z))
      obtain ⟨S, hS⟩ : ∃ S, S = V.setCell ⟨W.heap.size + 1, 0, none⟩ (.slice A m c) := ⟨_, rfl⟩
      have tS : Touch [W.heap.size + 1] V S := by rw [hS]; exact (Touch.refl _ _).set (.inl (by simp)) _
      have hK' : S.heap[D]? = some (.deferred (some [])) := (tS.block D (Array.getElem?_eq_some_iff.1 hK).1 (by simp; omega)).trans hK
      have hp : Touch [D] S (S.putObj D (.deferred none)) := (Touch.refl _ _).put (.inl (by simp)) _
      have k2 : Var (S.putObj D (.deferred none)) (W.heap.size + 1) (.slice A m c) := (show Var S _ _ by rw [hS]; exact h6.set _).touch hp (by simp; omega)
      have kR : (S.putObj D (.deferred none)).ownsRow W2.heap.size 59 2 (.slice A m c) m (itemCells (xs.take m)) := hp.row (tS.row h7 (fun q hq z => by
        have := (h7.lt q hq).1
        simp at z
        omega)) (fun q hq z => hbl (by simp at z; simp [← z, hq]))
      have HD : Hid (Below W.heap.size W (S.putObj D (.deferred none))) := (Touch.acc hB tS (by simp)).trans (belowK_b (w := W) (Nat.le_refl _) S D _ _ (by omega) hK' rfl rfl)
      have c2 := h6.val
      have f2 := h6.free
      have K2 := Lib.hid k2
      have KR := Lib.hid kR
      have HK := Lib.hid hK'
      have HSS := Lib.hid hS
      have HNM := Lib.hid hnm
      clear hB hL h6 h7 tS hK hK' hp k2 kR hS hbl hnm
      gi_wp2
      rw [← HSS.out]
      have c2 := K2.out.val
      have e : (xs.take m).length = m := by rw [List.length_take]; omega
      rw [HNM.out]
      refine leaves_calm HK.out ⟨.slice A m c, ?_, A, c, ?_, ?_, HD.out⟩
      · simp [results, Tryz.results14, go_sem, c2]
      · rw [e]
      · rw [e]
        exact own_mono KR.out HB.out.size
end Go.Proofs.YtglinhcldgpphaaGreat
