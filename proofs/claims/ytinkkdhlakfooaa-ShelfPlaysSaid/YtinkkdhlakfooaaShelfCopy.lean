/-
  The walk of Copy; the code's own shelf keeps ShelfLaws.
-/
import Derived.Test.YtinkkdhlakfooaaShelfClone
namespace Go.Proofs.Ytinkkdhlakfooaa
open Go.RowKit

def CopyPost (W : World) (most : Int) (l : List Item) (e : Ending) (w' : World) : Prop :=
  ∃ g' F', e = .returned (.pointer (some ⟨g', 0, none⟩)) ∧ SH w' g' most l F' ∧ (∀ q ∈ F', W.heap.size ≤ q) ∧ Below W.heap.size W w'
/-- a top and all below it, made anew -/
def TopPost (V : World) (l : List Item) (e : Ending) (w : World) : Prop :=
  ∃ top' m' F', e = .returned (optPtr top') ∧ Sto w m' F' ∧ (∀ q ∈ F', V.heap.size ≤ q) ∧ Below V.heap.size V w ∧ TreeIs m' top' l
theorem copy_end {W V w : World} {G : Nat} {top top' : Option Nat} {m' : NMap} {F' : List Nat} {most : Int} {l : List Item} (hX : ShX V G top (l.length : Nat) most) (hWG : W.heap.size ≤ G) (hV : Below W.heap.size W V) (hr : Rising l) (hlm : (l.length : Int) ≤ most) (hm2 : most ≤ 200)
    (hS : Sto w m' F') (hF : ∀ q ∈ F', V.heap.size ≤ q) (hb : Below V.heap.size V w) (hT : TreeIs m' top' l) {v : Value} (hv : optPtr top' = v) : CopyPost W most l (.returned (.pointer (some ⟨G, 0, none⟩))) (w.setCell ⟨G, 0, none⟩ v) := by
  subst hv
  have hGV := hX.lt
  have hG : G ∉ F' := fun e => by have := hF G e; omega
  have t1 : Touch [G] w (w.setCell ⟨G, 0, none⟩ (optPtr top')) := (Touch.refl _ _).set (.inl (by simp)) _
  have hB : Below W.heap.size W w := hV.trans (hb.mono hV.size)
  refine ⟨G, G :: F', rfl, ⟨top', m', F', (hX.touch (Touch.ofBelow (F := []) hb) (by simp)).set0, hS.touch t1 (fun q hq e => hG (by simp at e; rw [← e]; exact hq)), hG, rfl, hT, hr, hlm, hm2⟩, fun q hq => ?_, Touch.acc hB t1 (fun x hx => by simp at hx; rw [hx]; exact hWG)⟩
  rcases List.mem_cons.1 hq with e | e
  · rw [e]; exact hWG
  · exact Nat.le_trans hV.size (hF q e)
theorem optPtr_is (top : Option Nat) : ∃ p, optPtr top = .pointer p := by cases top <;> exact ⟨_, rfl⟩
set_option maxRecDepth 100000 in
set_option maxHeartbeats 1000000 in
theorem shCopy_any {W : World} {gs : Nat} {most : Int} {l : List Item} {F : List Nat} (h : SH W gs most l F) :
    Calls Try.prog 16 #[.pointer (some ⟨gs, 0, none⟩)] W (CopyPost W most l) := by
  obtain ⟨top, m, F1, hX, hS, hgs, rfl, hT, hr, hlm, hm2⟩ := h
  have CR := Lib.hid (ready_any gs W hX)
  have c0 := hX.c0
  have c1 := hX.c1
  have c2 := hX.c2
  have c3 := hX.c3
  have CG : Hid (∀ V, Below W.heap.size W V → Calls Try.prog 36 #[optPtr top] V (TopPost V l)) := by
    intro V hV
    have hSV := hS.below hV
    cases top with
    | none =>
      have hl : l = [] := hT
      refine (clone_nil V).mono ?_
      rintro e w ⟨rfl, rfl⟩
      exact ⟨none, fun _ => none, [], rfl, Sto.empty _, (by simp), Below.refl _ _, hl⟩
    | some t =>
      obtain ⟨h, I, s, hnd⟩ := hT
      refine (clone_sub s (Nat.le_refl _) V hSV).mono ?_
      rintro e w ⟨g, m', F', I', rfl, a, b, c, d, e2⟩
      exact ⟨some g, m', F', rfl, a, b, c, h, I', d, e2⟩
  obtain ⟨p0, hp0⟩ := optPtr_is top
  have HP := Lib.hid hp0
  obtain ⟨n, hn⟩ : ∃ n : Int, ((l.length : Nat) : Int) = n := ⟨_, rfl⟩
  have HN := Lib.hid hn
  rw [hp0] at c0 CG
  rw [hn] at c1
  have hgl := hX.lt
  clear hX hS hT hp0 hgs hn
  have HR := Lib.hid hr
  have HLM := Lib.hid hlm
  have HM2 := Lib.hid hm2
  clear hr hlm hm2
  go_enter Try.func16, Try.ntmps16
  go_wp2_with (first
    | (go_at_call 27; ((with_reducible refine (CR.out).mono ?_); rintro e w1 ⟨rfl, rfl⟩))
    | (go_at_call 36; ((with_reducible refine (CG.out _ (by first | exact (Below.refl _ _).alloc (Nat.le_refl _) _ | exact ((Below.refl _ _).alloc (Nat.le_refl _) _).set (by simp) _)).mono ?_); rintro e w1 ⟨top', m', F', rfl, a, b, c, d⟩; obtain ⟨p1, hp1⟩ := optPtr_is top'; rw [hp1]; have HP1 := Lib.hid hp1; have HA := Lib.hid a; have HB := Lib.hid b; have HC := Lib.hid c; have HD := Lib.hid d; clear a b d hp1; have hc0 := (c.cell (p := ⟨W.heap.size, 0, none⟩) (by simp)); have hf0 : w1.frozen? ⟨W.heap.size, 0, none⟩ = false := (c.frozen (p := ⟨W.heap.size, 0, none⟩) (by simp)).trans (by go_simp); clear c)))
  go_ret
  refine copy_end (V := W.alloc (.cells #[.pointer p0, .int .i64 n, .int .i64 most, .bool true] 67)) (top := top) ⟨by simp, ?_, ?_, by go_simp, by go_simp, by go_simp, by go_simp⟩ (Nat.le_refl _) ((Below.refl _ _).alloc (Nat.le_refl _) _) HR.out HLM.out HM2.out HA.out HB.out HC.out HD.out HP1.out
  · rw [HP.out]; go_simp
  · rw [HN.out]; go_simp
/-- the code's own shelf keeps what the walks of the statements ask of it -/
theorem shelfLaws : ShelfLaws SH where
  touch h ht hG := h.touch ht hG
  ltF h := h.ltF
  rising h := by
    obtain ⟨_, _, _, _, _, _, _, _, h, _⟩ := h
    exact h
  new := shNew_any
  put k v h hk hv := shPut_any k v h hk hv
  del k h := shDel_any k h
  get k h := shGet_any k h
  len h := shLen_any h
  depth h := shDepth_any h
  items h := shItems_any h
  copy h := shCopy_any h

/-! ### A nil shelf -/
set_option maxHeartbeats 1000000 in
theorem nilWay_any (k : ByteArray) (W : World) : Calls Try.prog 30 #[.pointer none, .string k] W fun e w => e = .returned (.tuple #[.slice none 0 0, .bool false]) ∧ W = w := by
  go_enter Try.func30, Try.ntmps30
  go_wp2
  go_step3
  go_wp2_with (go_at_call 27; ((with_reducible refine (ready_nil _).mono ?_); rintro e w1 ⟨rfl, rfl⟩))
  rw [Exit.noGoto_ret]
  go_ret2
  exact ⟨rfl, rfl⟩
set_option maxHeartbeats 1000000 in
theorem nilGet_any (k : ByteArray) (W : World) : Calls Try.prog 17 #[.pointer none, .string k] W fun e w => e = .returned (.tuple #[.string ⟨#[]⟩, .bool false]) ∧ W = w := by
  go_enter Try.func17, Try.ntmps17
  go_wp2_with (go_at_call 30; ((with_reducible refine (nilWay_any _ _).mono ?_); rintro e w1 ⟨rfl, rfl⟩))
  go_ret2
  exact ⟨rfl, rfl⟩
set_option maxHeartbeats 1000000 in
theorem nilDel_any (k : ByteArray) (W : World) : Calls Try.prog 14 #[.pointer none, .string k] W fun e w => e = .returned (.bool false) ∧ W = w := by
  go_enter Try.func14, Try.ntmps14
  go_wp2_with (go_at_call 30; ((with_reducible refine (nilWay_any _ _).mono ?_); rintro e w1 ⟨rfl, rfl⟩))
  go_ret
  exact ⟨rfl, rfl⟩
set_option maxHeartbeats 1000000 in
theorem nilPut_any (k v : ByteArray) (W : World) : Calls Try.prog 12 #[.pointer none, .string k, .string v] W fun e w => e = .returned (.int .i64 10) ∧ W = w := by
  go_enter Try.func12, Try.ntmps12
  go_wp2_with (go_at_call 27; ((with_reducible refine (ready_nil _).mono ?_); rintro e w1 ⟨rfl, rfl⟩))
  go_ret
  exact ⟨rfl, rfl⟩
set_option maxHeartbeats 1000000 in
theorem nilLen_any (W : World) : Calls Try.prog 19 #[.pointer none] W fun e w => e = .returned (.int .i64 0) ∧ W = w := by
  go_enter Try.func19, Try.ntmps19
  go_wp2_with (go_at_call 27; ((with_reducible refine (ready_nil _).mono ?_); rintro e w1 ⟨rfl, rfl⟩))
  go_ret
  exact ⟨rfl, rfl⟩
set_option maxHeartbeats 1000000 in
theorem nilDepth_any (W : World) : Calls Try.prog 20 #[.pointer none] W fun e w => e = .returned (.int .i64 0) ∧ W = w := by
  go_enter Try.func20, Try.ntmps20
  go_wp2_with (go_at_call 27; ((with_reducible refine (ready_nil _).mono ?_); rintro e w1 ⟨rfl, rfl⟩))
  go_ret
  exact ⟨rfl, rfl⟩
set_option maxHeartbeats 1000000 in
theorem nilItems_any (W : World) : Calls Try.prog 22 #[.pointer none] W fun e w => e = .returned (.slice none 0 0) ∧ W = w := by
  go_enter Try.func22, Try.ntmps22
  go_wp2_with (go_at_call 27; ((with_reducible refine (ready_nil _).mono ?_); rintro e w1 ⟨rfl, rfl⟩))
  go_ret
  exact ⟨rfl, rfl⟩
set_option maxHeartbeats 1000000 in
theorem nilCopy_any (W : World) : Calls Try.prog 16 #[.pointer none] W fun e w => e = .returned (.pointer none) ∧ W = w := by
  go_enter Try.func16, Try.ntmps16
  go_wp2_with (go_at_call 27; ((with_reducible refine (ready_nil _).mono ?_); rintro e w1 ⟨rfl, rfl⟩))
  go_ret
  exact ⟨rfl, rfl⟩
end Go.Proofs.Ytinkkdhlakfooaa
