/-
  On: how many go from one to another.
-/
import Derived.Test.YtokgamagiffaeaaBagTour
import Derived.Test.YtokgamagiffaeaaSeqA
namespace Go.Proofs.Ytokgamagiffaeaa
open Go.RowKit

attribute [local go_sem] Oper.semAt_some

def onP (f t : Int) (p : Pk) : Bool := p.f == f && p.t == t
/-- how many go from f to t -/
def onN (ps : List Pk) (f t : Int) : Nat := (ps.filter (onP f t)).length
theorem onN_snoc {ps : List Pk} {n : Nat} {p : Pk} (h : ps[n]? = some p) (f t : Int) : onN (ps.take (n + 1)) f t = onN (ps.take n) f t + (if onP f t p = true then 1 else 0) := by
  rw [onN, List.take_add_one, h, List.filter_append, List.length_append]
  simp only [Option.toList_some, List.filter_cons, List.filter_nil, onN]
  congr 1
  split <;> rfl
theorem onN_le (ps : List Pk) (f t : Int) : onN ps f t ≤ ps.length := List.length_filter_le _ _
theorem zip_at {ps : List Pk} {n : Nat} {x : Pk × Nat} (h : ps.zipIdx[n]? = some x) : ps[n]? = some x.1 := by
  rw [List.getElem?_zipIdx] at h
  cases hp : ps[n]? with
  | none => rw [hp] at h; cases h
  | some p => rw [hp] at h; simp at h; rw [← h]

set_option maxRecDepth 100000 in
set_option maxHeartbeats 4000000 in
theorem on_any {W : World} {g m : Nat} {ps : List Pk} {F : List Nat} (h : BG W g m ps F) (f t : Int) :
    Calls Try.prog 17 #[.pointer (some ⟨g, 0, none⟩), .int .i64 f, .int .i64 t] W fun e w' => e = .returned (.int .i64 (onN ps f t : Nat)) ∧ Below W.heap.size W w' := by
  have hroom := h.room
  have HBG := Lib.hid h
  have HRM : Hid (ps.length ≤ 2000) := by show ps.length ≤ 2000; omega
  clear h hroom
  refine (callsIn_wide (n := 0)).1 (callsIn_of_wp_marks Try.func17 rfl trivial ?_ rfl)
  simp only [Try.ntmps17, List.size_toArray, List.length_cons, List.length_nil, Nat.reduceAdd, Nat.reduceSub, Array.replicate_succ, Array.replicate_zero, List.push_toArray, List.append_toArray, List.nil_append, List.cons_append]
  gi_wp2_with (refine ⟨trivial, rfl, ?_⟩; gi_at_call 22; refine (callsIn_wide.2 (kept_any _ _)).mono ?_; rintro e w' ⟨rfl, rfl⟩)
  have v0 : Var ((((W.alloc (.cells #[.int .i64 f] 3)).alloc (.cells #[.int .i64 t] 3)).alloc (.cells #[.int .i64 0] 3)).alloc (.cells #[.pointer (some ⟨g, 0, none⟩)] 23)) W.heap.size (.int .i64 f) := (((Var.new W _ _).old _).old _).old _
  have v1 : Var ((((W.alloc (.cells #[.int .i64 f] 3)).alloc (.cells #[.int .i64 t] 3)).alloc (.cells #[.int .i64 0] 3)).alloc (.cells #[.pointer (some ⟨g, 0, none⟩)] 23)) (W.heap.size + 1) (.int .i64 t) := by
    have z := ((Var.new (W.alloc (.cells #[.int .i64 f] 3)) (.int .i64 t) 3).old (.cells #[.int .i64 0] 3)).old (.cells #[.pointer (some ⟨g, 0, none⟩)] 23)
    rwa [World.size_alloc] at z
  have v2 : Var ((((W.alloc (.cells #[.int .i64 f] 3)).alloc (.cells #[.int .i64 t] 3)).alloc (.cells #[.int .i64 0] 3)).alloc (.cells #[.pointer (some ⟨g, 0, none⟩)] 23)) (W.heap.size + 1 + 1) (.int .i64 0) := by
    have z := (Var.new ((W.alloc (.cells #[.int .i64 f] 3)).alloc (.cells #[.int .i64 t] 3)) (.int .i64 0) 3).old (.cells #[.pointer (some ⟨g, 0, none⟩)] 23)
    rwa [World.size_alloc, World.size_alloc] at z
  have v3 : Var ((((W.alloc (.cells #[.int .i64 f] 3)).alloc (.cells #[.int .i64 t] 3)).alloc (.cells #[.int .i64 0] 3)).alloc (.cells #[.pointer (some ⟨g, 0, none⟩)] 23)) (W.heap.size + 1 + 1 + 1) (.pointer (some ⟨g, 0, none⟩)) := by
    have z := Var.new (((W.alloc (.cells #[.int .i64 f] 3)).alloc (.cells #[.int .i64 t] 3)).alloc (.cells #[.int .i64 0] 3)) (.pointer (some ⟨g, 0, none⟩)) 23
    rwa [World.size_alloc, World.size_alloc, World.size_alloc] at z
  have b2 : Below W.heap.size W ((((W.alloc (.cells #[.int .i64 f] 3)).alloc (.cells #[.int .i64 t] 3)).alloc (.cells #[.int .i64 0] 3)).alloc (.cells #[.pointer (some ⟨g, 0, none⟩)] 23)) := (((((Below.refl _ W).alloc (Nat.le_refl _) _).alloc (by simp) _).alloc (by simp; omega) _).alloc (by simp; omega) _)
  have z2 : ((((W.alloc (.cells #[.int .i64 f] 3)).alloc (.cells #[.int .i64 t] 3)).alloc (.cells #[.int .i64 0] 3)).alloc (.cells #[.pointer (some ⟨g, 0, none⟩)] 23)).heap.size = W.heap.size + 4 := by simp
  generalize ((((W.alloc (.cells #[.int .i64 f] 3)).alloc (.cells #[.int .i64 t] 3)).alloc (.cells #[.int .i64 0] 3)).alloc (.cells #[.pointer (some ⟨g, 0, none⟩)] 23)) = W2 at *
  have HB := Lib.hid b2
  have HV3 := Lib.hid v3
  have hszp : (Try.prog.info? 38).map (·.size) = some 25 := bg_infoP
  clear b2 v3
  refine wp_seqA (α := Pk × Nat) (enc := encP) (gf := 24) (lb := #[.pointer (some ⟨W.heap.size + 1 + 1 + 1, 0, none⟩)]) rfl (enters_of Try.func24 (by kernel_rfl) rfl) (xs := ps.zipIdx) (B := [])
    (fun V hV => keptWay (HBG.out.below (HB.out.trans (hV.mono (by omega)))) (HV3.out.below hV).val []) (by simp) (fun _ => rfl)
    (fun n V Y => Y = [W.heap.size, W.heap.size + 1, W.heap.size + 1 + 1] ∧ Var V W.heap.size (.int .i64 f) ∧ Var V (W.heap.size + 1) (.int .i64 t) ∧ Var V (W.heap.size + 1 + 1) (.int .i64 (onN (ps.take n) f t : Nat)))
    (fun _ _ _ => False)
    [W.heap.size, W.heap.size + 1, W.heap.size + 1 + 1] (by simp; omega) ⟨rfl, v0, v1, v2⟩
    (by
      rintro n V V1 Y G ⟨rfl, h1, h2, h3⟩ tt hn
      exact ⟨rfl, h1.touch tt (hn _ (by simp)), h2.touch tt (hn _ (by simp)), h3.touch tt (hn _ (by simp))⟩)
    (fun _ _ _ _ _ h _ _ => h)
    (fun n W0 x a1 V => V.heap[W0.heap.size]? = some (.cells x.1.cells 38) ∧ a1 = { tmps := #[.pointer (some ⟨g, 0, none⟩), .int .i64 f, .int .i64 t, undef, .pointer (some ⟨W.heap.size, 0, none⟩), .pointer (some ⟨W.heap.size + 1, 0, none⟩), .int .i64 0, .pointer (some ⟨W.heap.size + 1 + 1, 0, none⟩), undef, .pointer (some ⟨W0.heap.size, 0, none⟩), .pointer (some ⟨g, 0, none⟩), .func (.func 24) #[] #[.pointer (some ⟨W.heap.size + 1 + 1 + 1, 0, none⟩)], .int .i64 (x.2 : Nat), .agg x.1.cells, undef, undef, undef, undef, undef, undef, undef, undef, undef, undef, undef, undef, undef], defers := [] })
    (by
      rintro n V x a1 V1 V2 G ⟨h1, h2⟩ tt hG
      exact ⟨(tt.block _ (bg_lt h1) (fun z => Nat.lt_irrefl _ (hG _ z))).trans h1, h2⟩)
    ?assign ?body ?done ?stop
  case assign =>
    rintro l n ⟨p, i⟩ V K hx hK
    have hszq : (Try.prog.info? 38).map (·.size) = some p.cells.size := hszp
    have hold : Pk.zero.cells.size = p.cells.size := rfl
    have hone := p.one
    have HKK := Lib.hid (hK _ _ (bg_new V Pk.zero.cells p.cells 38) ⟨bg_row _ (heap_alloc_new V _), rfl⟩)
    clear hK hx
    gi_wp2_with (with_reducible (show wpListIn _ _ _ _ _ (⟨none, Op.store _ (Operand.tmp 9) _, _, _, _, _⟩ :: _) _ _); go_must (refine wpListIn_store_row rfl 38 (.tmp 9) (.tmp 13) rfl V.heap.size p.cells rfl rfl 38 Pk.zero.cells (heap_alloc_new V _) hszq hold hone ?_))
    exact HKK.out
  case body =>
    rintro l n ⟨p, i⟩ W0 V a1 Y hW0 hV hx ⟨rfl, h1, h2, h3⟩ hY ⟨h4, rfl⟩
    have hx' := zip_at hx
    have hst := onN_snoc hx' f t
    have hb : onN (ps.take n) f t ≤ 2000 := by
      have := onN_le (ps.take n) f t
      rw [List.length_take] at this
      have := HRM.out
      omega
    have c0 := h1.val
    have c1 := h2.val
    have c2 := h3.val
    have f2 := h3.free
    have p0 : V.cell? ⟨W0.heap.size, 0, none⟩ = some (.int .i64 p.f) := bg_cell h4 rfl
    have p1 : V.cell? ⟨W0.heap.size, 1, none⟩ = some (.int .i64 p.t) := bg_cell h4 rfl
    have H1 := Lib.hid h1
    have H2 := Lib.hid h2
    have H3 := Lib.hid h3
    have HST := Lib.hid hst
    obtain ⟨k, hk⟩ : ∃ k, onN (ps.take n) f t = k := ⟨_, rfl⟩
    rw [hk] at HST H3 c2 hb
    clear h1 h2 h3 h4 hst hx hx' hY hk
    have HL := H1.out.lt
    have HL1 := H2.out.lt
    have HL2 := H3.out.lt
    cases d1 : (p.f == f) with
    | false =>
      have he : onN (ps.take (n + 1)) f t = k := by rw [HST.out]; simp [onP, d1]
      gi_wp2
      exact ⟨_, Left.refl (by simp; omega), rfl, H1.out, H2.out, H3.out⟩
    | true =>
      cases d2 : (p.t == t) with
      | false =>
        have he : onN (ps.take (n + 1)) f t = k := by rw [HST.out]; simp [onP, d2]
        gi_wp2
        exact ⟨_, Left.refl (by simp; omega), rfl, H1.out, H2.out, H3.out⟩
      | true =>
        have he : onN (ps.take (n + 1)) f t = k + 1 := by rw [HST.out]; simp [onP, d1, d2]
        gi_wp2
        refine ⟨_, ⟨⟨[W.heap.size + 1 + 1], (Touch.refl _ _).set (.inl (by simp)) _, by simp⟩, ?_⟩, rfl, H1.out.other (by omega) _ _, H2.out.other (by omega) _ _, ?_⟩
        · simp [World.setCell]; omega
        · exact H3.out.set _
  case done =>
    rintro D V Y hD hDn hL ⟨rfl, h1, h2, h3⟩ hK
    have hB := Left.new HB.out hL (by simp; omega)
    have c2 := h3.val
    have he : onN (ps.take ps.zipIdx.length) f t = onN ps f t := by rw [List.length_zipIdx, List.take_length]
    rw [he] at c2
    have HK := Lib.hid hK
    have HD : Hid (Below W.heap.size W (V.putObj D (.deferred none))) := hB.trans (belowK_b (w := W) (Nat.le_refl _) V D _ _ (by omega) hK rfl rfl)
    clear hB hL h1 h2 h3 he
    gi_wp2
    refine ⟨by simp, .inl ⟨_, _, rfl, run_takeDeferred HK.out, ?_⟩⟩
    exact ⟨_, results_tmp rfl _ _ _, rfl, HD.out⟩
  case stop =>
    rintro D c V Y hD hDn hL h hK
    exact h.elim
end Go.Proofs.Ytokgamagiffaeaa
