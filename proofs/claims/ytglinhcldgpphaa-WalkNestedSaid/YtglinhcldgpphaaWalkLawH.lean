/-
  WalkNested: its closures, what a way comes to that was given one of them, and the statement's walk. (Written by tools/genWNes.py.)
-/
import Derived.Laws.EntriesVeiled
import Derived.Test.YtglinhcldgpphaaWalkYields
import Derived.Test.YtglinhcldgpphaaWalkLawC
namespace Go.Proofs.Ytglinhcldgpphaa
open Go.RowKit

/-- the document's list, as it is read -/
theorem RS.at {V : World} {gr : Nat} {Fr : List Nat} {l : List Item} (h : RS V gr Fr 200 l) {m : Nat} {x : Item} (hx : l[m]? = some x) :
    ∃ lq lc, V.cell? ⟨gr, 1, none⟩ = some (.slice (some ⟨lq, 0, none⟩) l.length lc) ∧ V.cell? ⟨lq, m * 2, none⟩ = some (.string x.1) ∧ lq ∈ Fr := by
  obtain ⟨hm, rfl⟩ := List.getElem?_eq_some_iff.1 hx
  obtain ⟨LA, lc, ⟨hg1, -, hg3, -, -⟩, hrow, hin, -⟩ := h
  obtain ⟨lq, rfl⟩ := hrow.atBlock (by omega)
  exact ⟨lq, lc, hg3, (hrow.cellAt (m * 2) (by omega)).trans (itemCells_get0 l m hm), hin lq rfl⟩
theorem cell_again {V : World} {p : Addr} {v : Value} (h : V.cell? p = some v) (q : Addr) : (V.setCell p v).cell? q = V.cell? q := by
  by_cases e : p = q
  · subst e
    rw [World.cell?_setCell_same _ _ _ h, h]
  · exact World.cell?_setCell_other _ _ _ _ e
set_option maxRecDepth 100000 in
set_option maxHeartbeats 4000000 in
theorem inner_any (V : World) {bo bi br gr lq lc m n : Nat} (k v : ByteArray) (ho : Var V bo (.bool true)) (hi : Var V bi (.int .i64 (m : Nat))) (hr : Var V br (.pointer (some ⟨gr, 0, none⟩)))
    (hg : V.cell? ⟨gr, 1, none⟩ = some (.slice (some ⟨lq, 0, none⟩) n lc)) (hc : V.cell? ⟨lq, m * 2, none⟩ = some (.string k)) (hm : m < n) (hn : n ≤ 60) (hne : bo ≠ bi) :
    Calls Try.prog 35 #[.string k, .string v, .pointer (some ⟨bo, 0, none⟩), .pointer (some ⟨bi, 0, none⟩), .pointer (some ⟨br, 0, none⟩)] V fun e w' =>
      e = .returned (.bool true) ∧ Var w' bo (.bool true) ∧ Var w' bi (.int .i64 ((m + 1 : Nat) : Int)) ∧ Touch [bo, bi] V w' := by
  have lt1 : decide ((m : Int) < (n : Int)) = true := by simp; omega
  have lt2 : decide ((m : Int) + 1 < 500) = true := by simp; omega
  have hmw : IntKind.i64.wrap (m : Int) = (m : Int) := by rw [IntKind.wrap_i64]; omega
  have HO := Lib.hid ho
  have HI := Lib.hid hi
  have HNE := Lib.hid hne
  have a0 := ho.val
  have a1 := ho.free
  have a2 := hi.val
  have a3 := hi.free
  have a4 := hr.val
  clear ho hi hr
  go_enter Try.func35, Try.ntmps35
  have HS0 : Hid ((fun w' : World => w'.cell? ⟨bo, 0, none⟩ = some (.bool true) ∧ w'.cell? ⟨bi, 0, none⟩ = some (.int .i64 (m : Nat)) ∧ w'.cell? ⟨br, 0, none⟩ = some (.pointer (some ⟨gr, 0, none⟩)) ∧ w'.cell? ⟨gr, 1, none⟩ = some (.slice (some ⟨lq, 0, none⟩) n lc) ∧ w'.cell? ⟨lq, m * 2, none⟩ = some (.string k)) V.drew) := ⟨a0, a2, a4, hg, hc⟩
  have HS1 : Hid ((fun w' : World => w'.cell? ⟨bo, 0, none⟩ = some (.bool true) ∧ w'.cell? ⟨bi, 0, none⟩ = some (.int .i64 (m : Nat)) ∧ w'.cell? ⟨br, 0, none⟩ = some (.pointer (some ⟨gr, 0, none⟩)) ∧ w'.cell? ⟨gr, 1, none⟩ = some (.slice (some ⟨lq, 0, none⟩) n lc) ∧ w'.cell? ⟨lq, m * 2, none⟩ = some (.string k)) (V.drew.setCell ⟨bo, 0, none⟩ (.bool true))) := by
    have h0 : V.drew.cell? ⟨bo, 0, none⟩ = some (.bool true) := a0
    exact ⟨(cell_again h0 _).trans h0, (cell_again h0 _).trans a2, (cell_again h0 _).trans a4, (cell_again h0 _).trans hg, (cell_again h0 _).trans hc⟩
  go_upto_region 1 with fail
  refine wp_region_held_drew (S := (fun w' => w'.cell? ⟨bo, 0, none⟩ = some (.bool true) ∧ w'.cell? ⟨bi, 0, none⟩ = some (.int .i64 (m : Nat)) ∧ w'.cell? ⟨br, 0, none⟩ = some (.pointer (some ⟨gr, 0, none⟩)) ∧ w'.cell? ⟨gr, 1, none⟩ = some (.slice (some ⟨lq, 0, none⟩) n lc) ∧ w'.cell? ⟨lq, m * 2, none⟩ = some (.string k))) (by kernel_rfl) ?_ (fun hHeld => ?_)
  · (try dsimp only); exact HS0.out
  refine wpAnyH_take (i := 0) (oi := ⟨_, _, _, _, _, _⟩) (v := ?_) rfl (by kernel_rfl) (by kernel_rfl) (by kernel_rfl) (fun _ _ _ h => h) (Or.inl ⟨by rfl, ?_⟩) (by assumption) ?_
  rotate_left
  · (intro wS hSw; (try dsimp only at hSw); go_simp <;> with_reducible rfl)
  try simp only [Act.put, List.setIfInBounds_toArray, List.set_cons_zero, List.set_cons_succ]
  refine wpAnyH_take (i := 1) (oi := ⟨_, _, _, _, _, _⟩) (v := ?_) rfl (by kernel_rfl) (by kernel_rfl) (by kernel_rfl) (fun _ _ _ h => h) (Or.inl ⟨by rfl, ?_⟩) (by assumption) ?_
  rotate_left
  · (intro wS hSw; (try dsimp only at hSw); go_simp <;> with_reducible rfl)
  try simp only [Act.put, List.setIfInBounds_toArray, List.set_cons_zero, List.set_cons_succ]
  refine wpAnyH_take (i := 2) (oi := ⟨_, _, _, _, _, _⟩) (v := ?_) rfl (by kernel_rfl) (by kernel_rfl) (by kernel_rfl) (fun _ _ _ h => h) (Or.inl ⟨by rfl, ?_⟩) (by assumption) ?_
  rotate_left
  · (intro wS hSw; (try dsimp only at hSw); go_simp <;> with_reducible rfl)
  try simp only [Act.put, List.setIfInBounds_toArray, List.set_cons_zero, List.set_cons_succ]
  refine wpAnyH_take (i := 3) (oi := ⟨_, _, _, _, _, _⟩) (v := ?_) rfl (by kernel_rfl) (by kernel_rfl) (by kernel_rfl) (fun _ _ _ h => h) (Or.inl ⟨by rfl, ?_⟩) (by assumption) ?_
  rotate_left
  · (intro wS hSw; (try dsimp only at hSw); go_simp <;> with_reducible rfl)
  try simp only [Act.put, List.setIfInBounds_toArray, List.set_cons_zero, List.set_cons_succ]
  refine wpAnyH_take (i := 4) (oi := ⟨_, _, _, _, _, _⟩) (v := ?_) rfl (by kernel_rfl) (by kernel_rfl) (by kernel_rfl) (fun _ _ _ h => h) (Or.inl ⟨by rfl, ?_⟩) (by assumption) ?_
  rotate_left
  · (intro wS hSw; (try dsimp only at hSw); go_simp <;> with_reducible rfl)
  try simp only [Act.put, List.setIfInBounds_toArray, List.set_cons_zero, List.set_cons_succ]
  refine wpAnyH_take (i := 5) (oi := ⟨_, _, _, _, _, _⟩) (v := ?_) rfl (by kernel_rfl) (by kernel_rfl) (by kernel_rfl) (fun _ _ _ h => h) (Or.inl ⟨by rfl, ?_⟩) (by assumption) ?_
  rotate_left
  · (intro wS hSw; (try dsimp only at hSw); go_simp <;> with_reducible rfl)
  try simp only [Act.put, List.setIfInBounds_toArray, List.set_cons_zero, List.set_cons_succ]
  refine wpAnyH_take (i := 6) (oi := ⟨_, _, _, _, _, _⟩) (v := ?_) rfl (by kernel_rfl) (by kernel_rfl) (by kernel_rfl) (fun _ _ _ h => h) (Or.inl ⟨by rfl, ?_⟩) (by assumption) ?_
  rotate_left
  · (intro wS hSw; (try dsimp only at hSw); go_simp <;> with_reducible rfl)
  try simp only [Act.put, List.setIfInBounds_toArray, List.set_cons_zero, List.set_cons_succ]
  refine wpAnyH_take (i := 7) (oi := ⟨_, _, _, _, _, _⟩) (v := ?_) rfl (by kernel_rfl) (by kernel_rfl) (by kernel_rfl) (fun _ _ _ h => h) (Or.inl ⟨by rfl, ?_⟩) (by assumption) ?_
  rotate_left
  · (intro wS hSw; (try dsimp only at hSw); go_simp <;> with_reducible rfl)
  try simp only [Act.put, List.setIfInBounds_toArray, List.set_cons_zero, List.set_cons_succ]
  refine wpAnyH_take (i := 8) (oi := ⟨_, _, _, _, _, _⟩) (v := ?_) rfl (by kernel_rfl) (by kernel_rfl) (by kernel_rfl) (fun _ _ _ h => h) (Or.inl ⟨by rfl, ?_⟩) (by assumption) ?_
  rotate_left
  · (intro wS hSw; (try dsimp only at hSw); go_simp <;> with_reducible rfl)
  try simp only [Act.put, List.setIfInBounds_toArray, List.set_cons_zero, List.set_cons_succ]
  refine wpAnyH_take (i := 9) (oi := ⟨_, _, _, _, _, _⟩) (v := ?_) rfl (by kernel_rfl) (by kernel_rfl) (by kernel_rfl) (fun _ _ _ h => h) (Or.inl ⟨by rfl, ?_⟩) (by assumption) ?_
  rotate_left
  · (intro wS hSw; (try dsimp only at hSw); go_simp <;> with_reducible rfl)
  try simp only [Act.put, List.setIfInBounds_toArray, List.set_cons_zero, List.set_cons_succ]
  refine wpAnyH_take (i := 10) (oi := ⟨_, _, _, _, _, _⟩) (v := ?_) rfl (by kernel_rfl) (by kernel_rfl) (by kernel_rfl) (fun _ _ _ h => h) (Or.inl ⟨by rfl, ?_⟩) (by assumption) ?_
  rotate_left
  · (intro wS hSw; (try dsimp only at hSw); go_simp <;> with_reducible rfl)
  try simp only [Act.put, List.setIfInBounds_toArray, List.set_cons_zero, List.set_cons_succ]
  refine wpAnyH_take (i := 11) (oi := ⟨_, _, _, _, _, _⟩) (v := ?_) rfl (by kernel_rfl) (by kernel_rfl) (by kernel_rfl) (fun _ _ _ h => h) (Or.inl ⟨by rfl, ?_⟩) (by assumption) ?_
  rotate_left
  · (intro wS hSw; (try dsimp only at hSw); go_simp <;> with_reducible rfl)
  try simp only [Act.put, List.setIfInBounds_toArray, List.set_cons_zero, List.set_cons_succ]
  refine wpAnyH_take (i := 12) (oi := ⟨_, _, _, _, _, _⟩) (v := ?_) rfl (by kernel_rfl) (by kernel_rfl) (by kernel_rfl) (fun _ _ _ h => h) (Or.inl ⟨by rfl, ?_⟩) (by assumption) ?_
  rotate_left
  · (intro wS hSw; (try dsimp only at hSw); go_simp <;> with_reducible rfl)
  try simp only [Act.put, List.setIfInBounds_toArray, List.set_cons_zero, List.set_cons_succ]
  refine wpAnyH_take (i := 13) (oi := ⟨_, _, _, _, _, _⟩) (v := ?_) rfl (by kernel_rfl) (by kernel_rfl) (by kernel_rfl) (fun _ _ _ h => h) (Or.inl ⟨by rfl, ?_⟩) (by assumption) ?_
  rotate_left
  · (intro wS hSw; (try dsimp only at hSw); go_simp <;> with_reducible rfl)
  try simp only [Act.put, List.setIfInBounds_toArray, List.set_cons_zero, List.set_cons_succ]
  refine wpAnyH_take (i := 14) (oi := ⟨_, _, _, _, _, _⟩) (v := ?_) rfl (by kernel_rfl) (by kernel_rfl) (by kernel_rfl) (fun _ _ _ h => h) (Or.inl ⟨by rfl, ?_⟩) (by assumption) ?_
  rotate_left
  · (intro wS hSw; (try dsimp only at hSw); go_simp <;> with_reducible rfl)
  try simp only [Act.put, List.setIfInBounds_toArray, List.set_cons_zero, List.set_cons_succ]
  refine wpAnyH_take (i := 15) (oi := ⟨_, _, _, _, _, _⟩) (v := ?_) rfl (by kernel_rfl) (by kernel_rfl) (by kernel_rfl) (fun _ _ _ h => h) (Or.inl ⟨by rfl, ?_⟩) (by assumption) ?_
  rotate_left
  · (intro wS hSw; (try dsimp only at hSw); go_simp <;> with_reducible rfl)
  try simp only [Act.put, List.setIfInBounds_toArray, List.set_cons_zero, List.set_cons_succ]
  refine wpAnyH_take (i := 16) (oi := ⟨_, _, _, _, _, _⟩) (v := ?_) rfl (by kernel_rfl) (by kernel_rfl) (by kernel_rfl) (fun _ _ _ h => h) (Or.inl ⟨by rfl, ?_⟩) (by assumption) ?_
  rotate_left
  · (intro wS hSw; (try dsimp only at hSw); go_simp <;> with_reducible rfl)
  try simp only [Act.put, List.setIfInBounds_toArray, List.set_cons_zero, List.set_cons_succ]
  refine wpAnyH_take (i := 17) (oi := ⟨_, _, _, _, _, _⟩) (v := ?_) rfl (by kernel_rfl) (by kernel_rfl) (by kernel_rfl) (fun _ _ _ h => h) (Or.inl ⟨by rfl, ?_⟩) (by assumption) ?_
  rotate_left
  · (intro wS hSw; (try dsimp only at hSw); go_simp <;> with_reducible rfl)
  try simp only [Act.put, List.setIfInBounds_toArray, List.set_cons_zero, List.set_cons_succ]
  refine wpAnyH_take (i := 18) (oi := ⟨_, _, _, _, _, _⟩) (v := ?_) rfl (by kernel_rfl) (by kernel_rfl) (by kernel_rfl) (fun _ _ _ h => h) (Or.inl ⟨by rfl, ?_⟩) (by assumption) ?_
  rotate_left
  · (intro wS hSw; (try dsimp only at hSw); go_simp <;> with_reducible rfl)
  try simp only [Act.put, List.setIfInBounds_toArray, List.set_cons_zero, List.set_cons_succ]
  refine wpAnyH_take (i := 19) (oi := ⟨_, _, _, _, _, _⟩) (v := ?_) rfl (by kernel_rfl) (by kernel_rfl) (by kernel_rfl) (fun _ _ _ h => h) (Or.inl ⟨by rfl, ?_⟩) (by assumption) ?_
  rotate_left
  · (intro wS hSw; (try dsimp only at hSw); go_simp <;> with_reducible rfl)
  try simp only [Act.put, List.setIfInBounds_toArray, List.set_cons_zero, List.set_cons_succ]
  refine wpAnyH_take (i := 20) (oi := ⟨_, _, _, _, _, _⟩) (v := ?_) rfl (by kernel_rfl) (by kernel_rfl) (by kernel_rfl) (fun _ _ _ h => h) (Or.inl ⟨by rfl, ?_⟩) (by assumption) ?_
  rotate_left
  · (intro wS hSw; (try dsimp only at hSw); go_simp <;> with_reducible rfl)
  try simp only [Act.put, List.setIfInBounds_toArray, List.set_cons_zero, List.set_cons_succ]
  refine wpAnyH_take (i := 21) (oi := ⟨_, _, _, _, _, _⟩) (v := ?_) rfl (by kernel_rfl) (by kernel_rfl) (by kernel_rfl) (fun _ _ _ h => h) (Or.inl ⟨by rfl, ?_⟩) (by assumption) ?_
  rotate_left
  · (intro wS hSw; (try dsimp only at hSw); go_simp <;> with_reducible rfl)
  try simp only [Act.put, List.setIfInBounds_toArray, List.set_cons_zero, List.set_cons_succ]
  refine wpAnyH_ready (rs := [22]) (by kernel_rfl) (by simp) ?_
  refine AllReadyH.cons (o := ⟨_, _, _, _, _, _⟩) rfl (fun K hK => ?_) AllReadyH.nil
  go_simp
  refine hK.out _ _ (by (try dsimp only); exact HS1.out) (fun hHeld => ?_)
  clear hK K
  try simp only [Act.put, List.setIfInBounds_toArray, List.set_cons_zero, List.set_cons_succ]
  refine wpAnyH_done (by kernel_rfl) ?_ _
  have e1 : (V.setCell ⟨bo, 0, none⟩ (.bool true)).cell? ⟨bi, 0, none⟩ = some (.int .i64 (m : Nat)) := HS1.out.2.1
  have e2 : ((V.setCell ⟨bo, 0, none⟩ (.bool true)).setCell ⟨bi, 0, none⟩ (.int .i64 ((m : Int) + 1))).cell? ⟨bi, 0, none⟩ = some (.int .i64 ((m : Int) + 1)) := World.cell?_setCell_same _ _ _ e1
  clear a0 a2 a4 hg hc
  go_wp2_with fail
  go_ret
  have t1 : Touch [bo, bi] V ((V.setCell ⟨bo, 0, none⟩ (.bool true)).setCell ⟨bi, 0, none⟩ (.int .i64 ((m : Int) + 1))) := ((Touch.refl _ _).set (.inl (by simp)) _).set (.inl (by simp)) _
  have v1 : Var ((V.setCell ⟨bo, 0, none⟩ (.bool true)).setCell ⟨bi, 0, none⟩ (.int .i64 ((m : Int) + 1))) bo (.bool true) := (HO.out.set _).other HNE.out 0 _
  have v2 : Var ((V.setCell ⟨bo, 0, none⟩ (.bool true)).setCell ⟨bi, 0, none⟩ (.int .i64 ((m : Int) + 1))) bi (.int .i64 ((m : Int) + 1)) := (HI.out.other (fun e => HNE.out e.symm) 0 _).set _
  exact ⟨rfl, v1.touch (Touch.refl [] _).drew (by simp), v2.touch (Touch.refl [] _).drew (by simp), t1.drew⟩
theorem innerWay {i : Nat} {cap : Array Value} {l : List Item} {B : List Nat} {W : World} (hw : WayIn i cap l B W) {bo bi br gr : Nat} {Fr : List Nat} (ho : Var W bo (.bool true)) (hi : Var W bi (.int .i64 0)) (hr : Var W br (.pointer (some ⟨gr, 0, none⟩))) (rs : RS W gr Fr 200 l) (hl : l.length ≤ 60)
    (hB : bo ∉ B ∧ bi ∉ B) (hne : bo ≠ bi) (hn : ∀ q ∈ [br, gr] ++ Fr, q ≠ bo ∧ q ≠ bi) :
    Calls Try.prog i (#[.func (.func 35) #[] #[.pointer (some ⟨bo, 0, none⟩), .pointer (some ⟨bi, 0, none⟩), .pointer (some ⟨br, 0, none⟩)]] ++ cap) W fun e w' =>
      e = .returned (.tuple #[]) ∧ Var w' bo (.bool true) ∧ Var w' bi (.int .i64 (l.length : Nat)) ∧ Var w' br (.pointer (some ⟨gr, 0, none⟩)) ∧ RS w' gr Fr 200 l ∧ ∃ G, Touch G W w' ∧ ∀ q ∈ G, q ∈ [bo, bi, br, gr] ++ Fr ∧ q ∉ B := by
  have hlt : ∀ (V : World), Var V bo (.bool true) → bi < V.heap.size → Var V br (.pointer (some ⟨gr, 0, none⟩)) → RS V gr Fr 200 l → ∀ q ∈ [bo, bi, br, gr] ++ Fr, q < V.heap.size := fun V h1 h2 h3 h4 q hq => by
    rcases List.mem_append.1 hq with z | z
    · simp at z
      rcases z with rfl | rfl | rfl | rfl
      · exact h1.lt
      · exact h2
      · exact h3.lt
      · exact rs_ltg h4
    · exact rs_ltF h4 q z
  refine (hw (.func 35) #[] #[.pointer (some ⟨bo, 0, none⟩), .pointer (some ⟨bi, 0, none⟩), .pointer (some ⟨br, 0, none⟩)]
    (fun m V Y => Y = [bo, bi, br, gr] ++ Fr ∧ Var V bo (.bool true) ∧ Var V bi (.int .i64 (m : Nat)) ∧ Var V br (.pointer (some ⟨gr, 0, none⟩)) ∧ RS V gr Fr 200 l) (fun _ _ => False) ([bo, bi, br, gr] ++ Fr) (hlt W ho hi.lt hr rs) ⟨rfl, ho, hi, hr, rs⟩ ?_ ?_ ?_).mono ?_
  · rintro m V V1 Y G ⟨rfl, h1, h2, h3, h4⟩ t hn
    exact ⟨rfl, h1.touch t (hn _ (by simp)), h2.touch t (hn _ (by simp)), h3.touch t (hn _ (by simp)), h4.touch t (hn _ (by simp)) (fun q hq => hn q (List.mem_append_right _ hq))⟩
  · rintro V V1 Y G hf
    cases hf
  · rintro m ⟨xk, xv⟩ V Y hx ⟨rfl, h1, h2, h3, h4⟩ hY
    obtain ⟨lq, lc, g1, g2, g3⟩ := h4.at hx
    have hm := (List.getElem?_eq_some_iff.1 hx).1
    refine YV.own (enters_of Try.func35 (by kernel_rfl) rfl) ((inner_any V xk xv h1 h2 h3 g1 g2 hm hl hne).mono ?_)
    rintro e w' ⟨rfl, k1, k2, t⟩
    have hno : ∀ q ∈ [br, gr] ++ Fr, q ∉ [bo, bi] := fun q hq z => by
      simp at z
      rcases z with rfl | rfl
      · exact (hn _ hq).1 rfl
      · exact (hn _ hq).2 rfl
    have k3 : Var w' br (.pointer (some ⟨gr, 0, none⟩)) := h3.touch t (hno _ (by simp))
    have k4 : RS w' gr Fr 200 l := h4.touch t (hno _ (by simp)) (fun q hq => hno q (List.mem_append_right _ hq))
    refine ⟨_, ⟨⟨_, t, fun q hq => ?_⟩, fun q hq => ⟨hlt w' k1 k2.lt k3 k4 q hq, .inl hq⟩⟩, .inl ⟨rfl, rfl, k1, k2, k3, k4⟩⟩
    simp at hq
    rcases hq with rfl | rfl
    · exact ⟨by simp, hB.1⟩
    · exact ⟨by simp, hB.2⟩
  · rintro e w' ⟨rfl, Y, ⟨⟨G, t, hG⟩, -⟩, (⟨rfl, h1, h2, h3, h4⟩ | hf)⟩
    · exact ⟨rfl, h1, h2, h3, h4, G, t, hG⟩
    · cases hf
/-- the caller's world between two items: the shelf, the way, the document's list, four variables -/
structure WN (SH : ShP) (SQ : SqP) (V : World) (fv : Value) (gs gr : Nat) (Fr F B : List Nat) (l : List Item) (bo bn br bw m : Nat) : Prop where
  sh : SH V gs 200 l F
  sq : SQ V fv .all gs B
  rs : RS V gr Fr 200 l
  vo : Var V bo (.bool true)
  vn : Var V bn (.int .i64 (m : Nat))
  vr : Var V br (.pointer (some ⟨gr, 0, none⟩))
  vw : Var V bw fv
/-- what lies apart -/
structure WD (gr : Nat) (Fr F B : List Nat) (bo bn br bw : Nat) : Prop where
  f : ∀ q ∈ [bo, bn, br, bw, gr] ++ Fr, q ∉ F
  b : bo ∉ B ∧ bn ∉ B
  ne : bo ≠ bn
  n : ∀ q ∈ [br, bw, gr] ++ Fr, q ≠ bo ∧ q ≠ bn
  w : ∀ q ∈ [br, gr] ++ Fr, q ≠ bw
theorem WN.touch {SH : ShP} {SQ : SqP} (L : ShelfLaws SH) (KW : WalkLaws SH SQ) {V V1 : World} {fv : Value} {gs gr : Nat} {Fr F B G : List Nat} {l : List Item} {bo bn br bw m : Nat} (h : WN SH SQ V fv gs gr Fr F B l bo bn br bw m) (t : Touch G V V1) (hn : ∀ q ∈ [bo, bn, br, bw, gr] ++ Fr ++ F ++ B, q ∉ G) : WN SH SQ V1 fv gs gr Fr F B l bo bn br bw m := by
  obtain ⟨h1, h2, h3, h4, h5, h6, h7⟩ := h
  have g : ∀ q ∈ [bo, bn, br, bw, gr] ++ Fr, q ∉ G := fun q hq => hn q (List.mem_append_left _ (List.mem_append_left _ hq))
  exact ⟨L.touch h1 t (fun q hq => hn q (List.mem_append_left _ (List.mem_append_right _ hq))), KW.touch h2 t (fun q hq => hn q (List.mem_append_right _ hq)), h3.touch t (g _ (by simp)) (fun q hq => g q (List.mem_append_right _ hq)), h4.touch t (g _ (by simp)), h5.touch t (g _ (by simp)), h6.touch t (g _ (by simp)), h7.touch t (g _ (by simp))⟩
theorem WN.lt {SH : ShP} {SQ : SqP} (L : ShelfLaws SH) (KW : WalkLaws SH SQ) {V : World} {fv : Value} {gs gr : Nat} {Fr F B : List Nat} {l : List Item} {bo bn br bw m : Nat} (h : WN SH SQ V fv gs gr Fr F B l bo bn br bw m) : ∀ q ∈ [bo, bn, br, bw, gr] ++ Fr ++ F ++ B, q < V.heap.size := fun q hq => by
  rcases List.mem_append.1 hq with z | z
  · rcases List.mem_append.1 z with z | z
    · rcases List.mem_append.1 z with z | z
      · simp at z
        rcases z with rfl | rfl | rfl | rfl | rfl
        · exact h.vo.lt
        · exact h.vn.lt
        · exact h.vr.lt
        · exact h.vw.lt
        · exact rs_ltg h.rs
      · exact rs_ltF h.rs q z
    · exact L.ltF h.sh q z
  · exact KW.ltB h.sq q z

set_option maxRecDepth 100000 in
set_option maxHeartbeats 8000000 in
theorem outer_any {SH : ShP} {SQ : SqP} (L : ShelfLaws SH) (KW : WalkLaws SH SQ) {V : World} {i : Nat} {cap : Array Value} (he : ∀ a w, (callFunc i a).run Try.prog w = .ok (.enter i a) w) {gs gr : Nat} {Fr F B : List Nat} {l : List Item} {bo bn br bw m : Nat} (h : WN SH SQ V (.func (.func i) #[] cap) gs gr Fr F B l bo bn br bw m) (d : WD gr Fr F B bo bn br bw) {k v : ByteArray} (hx : l[m]? = some (k, v)) (hl : l.length ≤ 60) :
    Calls Try.prog 34 #[.string k, .string v, .pointer (some ⟨bw, 0, none⟩), .pointer (some ⟨bo, 0, none⟩), .pointer (some ⟨br, 0, none⟩), .pointer (some ⟨bn, 0, none⟩)] V fun e w' =>
      e = .returned (.bool true) ∧ WN SH SQ w' (.func (.func i) #[] cap) gs gr Fr F B l bo bn br bw (m + 1) ∧ ∃ G, Touch G V w' ∧ ∀ q ∈ G, q < V.heap.size → q ∈ [bo, bn, br, gr] ++ Fr ∧ q ∉ B := by
  obtain ⟨V1, hV1⟩ : ∃ V1, V.alloc (.cells #[.int .i64 0] 3) = V1 := ⟨_, rfl⟩
  have t1 : Touch [] V V1 := hV1 ▸ (Touch.refl _ _).alloc _
  have h1 : WN SH SQ V1 (.func (.func i) #[] cap) gs gr Fr F B l bo bn br bw m := h.touch L KW t1 (by simp)
  have vi : Var V1 V.heap.size (.int .i64 0) := hV1 ▸ Var.new V _ _
  have hlt := h.lt L KW
  have hbx : ∀ q ∈ [bo, bn, br, bw, gr] ++ Fr, q < V.heap.size := fun q hq => hlt q (List.mem_append_left _ (List.mem_append_left _ hq))
  have hway : WayIn i cap l B V1 := by
    obtain ⟨i', cap', e', _, hw⟩ := KW.go h1.sq h1.sh
    injection e' with e1 _ e3
    injection e1 with e1
    subst e1 e3
    exact hw
  have hin := innerWay hway h1.vo vi h1.vr h1.rs hl ⟨d.b.1, fun z => by have := hlt V.heap.size (List.mem_append_right _ z); omega⟩ (by have := h.vo.lt; omega) (fun q hq => ⟨(d.n q (by simp at hq ⊢; rcases hq with z | z | z <;> simp [z])).1, by
    have := hbx q (by simp at hq ⊢; rcases hq with z | z | z <;> simp [z])
    omega⟩)
  have HIN := Lib.hid hin
  have hm := (List.getElem?_eq_some_iff.1 hx).1
  obtain ⟨n, hn⟩ : ∃ n, l.length = n := ⟨_, rfl⟩
  have HN := Lib.hid hn
  have aw := h1.vw.val
  have HX := Lib.hid hx
  have H := Lib.hid h
  have H1 := Lib.hid h1
  have HD := Lib.hid d
  have HT1 := Lib.hid t1
  have HLT := Lib.hid hlt
  have HM := Lib.hid hm
  have HL := Lib.hid hl
  clear hin hx h h1 d t1 hlt hbx hway vi hm hl hn
  subst hV1
  go_enter Try.func34, Try.ntmps34
  go_upto_region 3 with (refine HIN.out.mono ?_; rintro e w2 ⟨rfl, vo, vi, vr, rs, G, t2, hG⟩)
  obtain ⟨lq, lc, g1, g2, g3⟩ := rs.at HX.out
  rw [HN.out] at vi g1
  have hm : m < n := by have := HM.out; have := HN.out; omega
  have hn60 : n ≤ 60 := by have := HL.out; have := HN.out; omega
  have hs1 : (V.alloc (.cells #[.int .i64 0] 3)).heap.size = V.heap.size + 1 := by simp
  have hGo : ∀ q, q < V.heap.size → q ∈ G → q ∈ [bo, br, gr] ++ Fr ∧ q ∉ B := fun q h1 h2 => by
    obtain ⟨z1, z2⟩ := hG q h2
    refine ⟨?_, z2⟩
    simp at z1 ⊢
    rcases z1 with rfl | rfl | rfl | rfl | z
    · simp
    · omega
    · simp
    · simp
    · simp [z]
  have tall : Touch G V w2 := (HT1.out.mono (by simp)).trans t2 (fun x hx => .inl hx)
  have hbn : bn ∉ G := fun z => by
    have y := (hGo bn H.out.vn.lt z).1
    rcases List.mem_cons.1 y with y | y
    · exact HD.out.ne y.symm
    · refine (HD.out.n bn ?_).2 rfl
      simp at y ⊢
      rcases y with rfl | rfl | y <;> simp_all
  have hbw : bw ∉ G := fun z => by
    have y := (hGo bw H.out.vw.lt z).1
    rcases List.mem_cons.1 y with y | y
    · exact (HD.out.n bw (by simp)).1 y
    · exact HD.out.w bw (by simpa using y) rfl
  have hF : ∀ q ∈ F, q ∉ G := fun q hq z => by
    have y := (hGo q (L.ltF H.out.sh q hq) z).1
    refine HD.out.f q ?_ hq
    simp at y ⊢
    rcases y with rfl | rfl | rfl | y <;> simp_all
  have h2 : WN SH SQ w2 (.func (.func i) #[] cap) gs gr Fr F B l bo bn br bw m := ⟨L.touch H.out.sh tall hF, KW.touch H.out.sq tall (fun q hq z => (hGo q (KW.ltB H.out.sq q hq) z).2 hq), rs, vo, H.out.vn.touch tall hbn, vr, H.out.vw.touch tall hbw⟩
  have a0 := h2.vo.val
  have a1 := h2.vo.free
  have a2 := vi.val
  have a4 := h2.vr.val
  have a5 := h2.vn.val
  have a6 := h2.vn.free
  have lt1 : decide ((m : Int) < (n : Int)) = true := by simp; omega
  have lt2 : decide ((m : Int) + 1 < 500) = true := by simp; omega
  have hmw : IntKind.i64.wrap (m : Int) = (m : Int) := by rw [IntKind.wrap_i64]; omega
  have HS0 : Hid ((fun w' : World => w'.cell? ⟨bo, 0, none⟩ = some (.bool true) ∧ w'.cell? ⟨V.heap.size, 0, none⟩ = some (.int .i64 (n : Nat)) ∧ w'.cell? ⟨br, 0, none⟩ = some (.pointer (some ⟨gr, 0, none⟩)) ∧ w'.cell? ⟨gr, 1, none⟩ = some (.slice (some ⟨lq, 0, none⟩) n lc) ∧ w'.cell? ⟨bn, 0, none⟩ = some (.int .i64 (m : Nat)) ∧ w'.cell? ⟨lq, m * 2, none⟩ = some (.string k)) w2.drew) := ⟨a0, a2, a4, g1, a5, g2⟩
  have HS1 : Hid ((fun w' : World => w'.cell? ⟨bo, 0, none⟩ = some (.bool true) ∧ w'.cell? ⟨V.heap.size, 0, none⟩ = some (.int .i64 (n : Nat)) ∧ w'.cell? ⟨br, 0, none⟩ = some (.pointer (some ⟨gr, 0, none⟩)) ∧ w'.cell? ⟨gr, 1, none⟩ = some (.slice (some ⟨lq, 0, none⟩) n lc) ∧ w'.cell? ⟨bn, 0, none⟩ = some (.int .i64 (m : Nat)) ∧ w'.cell? ⟨lq, m * 2, none⟩ = some (.string k)) (w2.drew.setCell ⟨bo, 0, none⟩ (.bool true))) := by
    have h0 : w2.drew.cell? ⟨bo, 0, none⟩ = some (.bool true) := a0
    exact ⟨(cell_again h0 _).trans h0, (cell_again h0 _).trans a2, (cell_again h0 _).trans a4, (cell_again h0 _).trans g1, (cell_again h0 _).trans a5, (cell_again h0 _).trans g2⟩
  have H2 := Lib.hid h2
  clear h2
  refine wp_region_held_drew (S := (fun w' => w'.cell? ⟨bo, 0, none⟩ = some (.bool true) ∧ w'.cell? ⟨V.heap.size, 0, none⟩ = some (.int .i64 (n : Nat)) ∧ w'.cell? ⟨br, 0, none⟩ = some (.pointer (some ⟨gr, 0, none⟩)) ∧ w'.cell? ⟨gr, 1, none⟩ = some (.slice (some ⟨lq, 0, none⟩) n lc) ∧ w'.cell? ⟨bn, 0, none⟩ = some (.int .i64 (m : Nat)) ∧ w'.cell? ⟨lq, m * 2, none⟩ = some (.string k))) (by kernel_rfl) ?_ (fun hHeld => ?_)
  · (try dsimp only); exact HS0.out
  refine wpAnyH_take (i := 0) (oi := ⟨_, _, _, _, _, _⟩) (v := ?_) rfl (by kernel_rfl) (by kernel_rfl) (by kernel_rfl) (fun _ _ _ h => h) (Or.inl ⟨by rfl, ?_⟩) (by assumption) ?_
  rotate_left
  · (intro wS hSw; (try dsimp only at hSw); go_simp <;> with_reducible rfl)
  try simp only [Act.put, List.setIfInBounds_toArray, List.set_cons_zero, List.set_cons_succ]
  refine wpAnyH_take (i := 1) (oi := ⟨_, _, _, _, _, _⟩) (v := ?_) rfl (by kernel_rfl) (by kernel_rfl) (by kernel_rfl) (fun _ _ _ h => h) (Or.inl ⟨by rfl, ?_⟩) (by assumption) ?_
  rotate_left
  · (intro wS hSw; (try dsimp only at hSw); go_simp <;> with_reducible rfl)
  try simp only [Act.put, List.setIfInBounds_toArray, List.set_cons_zero, List.set_cons_succ]
  refine wpAnyH_take (i := 2) (oi := ⟨_, _, _, _, _, _⟩) (v := ?_) rfl (by kernel_rfl) (by kernel_rfl) (by kernel_rfl) (fun _ _ _ h => h) (Or.inl ⟨by rfl, ?_⟩) (by assumption) ?_
  rotate_left
  · (intro wS hSw; (try dsimp only at hSw); go_simp <;> with_reducible rfl)
  try simp only [Act.put, List.setIfInBounds_toArray, List.set_cons_zero, List.set_cons_succ]
  refine wpAnyH_take (i := 3) (oi := ⟨_, _, _, _, _, _⟩) (v := ?_) rfl (by kernel_rfl) (by kernel_rfl) (by kernel_rfl) (fun _ _ _ h => h) (Or.inl ⟨by rfl, ?_⟩) (by assumption) ?_
  rotate_left
  · (intro wS hSw; (try dsimp only at hSw); go_simp <;> with_reducible rfl)
  try simp only [Act.put, List.setIfInBounds_toArray, List.set_cons_zero, List.set_cons_succ]
  refine wpAnyH_take (i := 4) (oi := ⟨_, _, _, _, _, _⟩) (v := ?_) rfl (by kernel_rfl) (by kernel_rfl) (by kernel_rfl) (fun _ _ _ h => h) (Or.inl ⟨by rfl, ?_⟩) (by assumption) ?_
  rotate_left
  · (intro wS hSw; (try dsimp only at hSw); go_simp <;> with_reducible rfl)
  try simp only [Act.put, List.setIfInBounds_toArray, List.set_cons_zero, List.set_cons_succ]
  refine wpAnyH_take (i := 5) (oi := ⟨_, _, _, _, _, _⟩) (v := ?_) rfl (by kernel_rfl) (by kernel_rfl) (by kernel_rfl) (fun _ _ _ h => h) (Or.inl ⟨by rfl, ?_⟩) (by assumption) ?_
  rotate_left
  · (intro wS hSw; (try dsimp only at hSw); go_simp <;> with_reducible rfl)
  try simp only [Act.put, List.setIfInBounds_toArray, List.set_cons_zero, List.set_cons_succ]
  refine wpAnyH_take (i := 6) (oi := ⟨_, _, _, _, _, _⟩) (v := ?_) rfl (by kernel_rfl) (by kernel_rfl) (by kernel_rfl) (fun _ _ _ h => h) (Or.inl ⟨by rfl, ?_⟩) (by assumption) ?_
  rotate_left
  · (intro wS hSw; (try dsimp only at hSw); go_simp <;> with_reducible rfl)
  try simp only [Act.put, List.setIfInBounds_toArray, List.set_cons_zero, List.set_cons_succ]
  refine wpAnyH_take (i := 7) (oi := ⟨_, _, _, _, _, _⟩) (v := ?_) rfl (by kernel_rfl) (by kernel_rfl) (by kernel_rfl) (fun _ _ _ h => h) (Or.inl ⟨by rfl, ?_⟩) (by assumption) ?_
  rotate_left
  · (intro wS hSw; (try dsimp only at hSw); go_simp <;> with_reducible rfl)
  try simp only [Act.put, List.setIfInBounds_toArray, List.set_cons_zero, List.set_cons_succ]
  refine wpAnyH_take (i := 8) (oi := ⟨_, _, _, _, _, _⟩) (v := ?_) rfl (by kernel_rfl) (by kernel_rfl) (by kernel_rfl) (fun _ _ _ h => h) (Or.inl ⟨by rfl, ?_⟩) (by assumption) ?_
  rotate_left
  · (intro wS hSw; (try dsimp only at hSw); go_simp <;> with_reducible rfl)
  try simp only [Act.put, List.setIfInBounds_toArray, List.set_cons_zero, List.set_cons_succ]
  refine wpAnyH_take (i := 9) (oi := ⟨_, _, _, _, _, _⟩) (v := ?_) rfl (by kernel_rfl) (by kernel_rfl) (by kernel_rfl) (fun _ _ _ h => h) (Or.inl ⟨by rfl, ?_⟩) (by assumption) ?_
  rotate_left
  · (intro wS hSw; (try dsimp only at hSw); go_simp <;> with_reducible rfl)
  try simp only [Act.put, List.setIfInBounds_toArray, List.set_cons_zero, List.set_cons_succ]
  refine wpAnyH_take (i := 10) (oi := ⟨_, _, _, _, _, _⟩) (v := ?_) rfl (by kernel_rfl) (by kernel_rfl) (by kernel_rfl) (fun _ _ _ h => h) (Or.inl ⟨by rfl, ?_⟩) (by assumption) ?_
  rotate_left
  · (intro wS hSw; (try dsimp only at hSw); go_simp <;> with_reducible rfl)
  try simp only [Act.put, List.setIfInBounds_toArray, List.set_cons_zero, List.set_cons_succ]
  refine wpAnyH_take (i := 11) (oi := ⟨_, _, _, _, _, _⟩) (v := ?_) rfl (by kernel_rfl) (by kernel_rfl) (by kernel_rfl) (fun _ _ _ h => h) (Or.inl ⟨by rfl, ?_⟩) (by assumption) ?_
  rotate_left
  · (intro wS hSw; (try dsimp only at hSw); go_simp <;> with_reducible rfl)
  try simp only [Act.put, List.setIfInBounds_toArray, List.set_cons_zero, List.set_cons_succ]
  refine wpAnyH_take (i := 12) (oi := ⟨_, _, _, _, _, _⟩) (v := ?_) rfl (by kernel_rfl) (by kernel_rfl) (by kernel_rfl) (fun _ _ _ h => h) (Or.inl ⟨by rfl, ?_⟩) (by assumption) ?_
  rotate_left
  · (intro wS hSw; (try dsimp only at hSw); go_simp <;> with_reducible rfl)
  try simp only [Act.put, List.setIfInBounds_toArray, List.set_cons_zero, List.set_cons_succ]
  refine wpAnyH_take (i := 13) (oi := ⟨_, _, _, _, _, _⟩) (v := ?_) rfl (by kernel_rfl) (by kernel_rfl) (by kernel_rfl) (fun _ _ _ h => h) (Or.inl ⟨by rfl, ?_⟩) (by assumption) ?_
  rotate_left
  · (intro wS hSw; (try dsimp only at hSw); go_simp <;> with_reducible rfl)
  try simp only [Act.put, List.setIfInBounds_toArray, List.set_cons_zero, List.set_cons_succ]
  refine wpAnyH_take (i := 14) (oi := ⟨_, _, _, _, _, _⟩) (v := ?_) rfl (by kernel_rfl) (by kernel_rfl) (by kernel_rfl) (fun _ _ _ h => h) (Or.inl ⟨by rfl, ?_⟩) (by assumption) ?_
  rotate_left
  · (intro wS hSw; (try dsimp only at hSw); go_simp <;> with_reducible rfl)
  try simp only [Act.put, List.setIfInBounds_toArray, List.set_cons_zero, List.set_cons_succ]
  refine wpAnyH_take (i := 15) (oi := ⟨_, _, _, _, _, _⟩) (v := ?_) rfl (by kernel_rfl) (by kernel_rfl) (by kernel_rfl) (fun _ _ _ h => h) (Or.inl ⟨by rfl, ?_⟩) (by assumption) ?_
  rotate_left
  · (intro wS hSw; (try dsimp only at hSw); go_simp <;> with_reducible rfl)
  try simp only [Act.put, List.setIfInBounds_toArray, List.set_cons_zero, List.set_cons_succ]
  refine wpAnyH_take (i := 16) (oi := ⟨_, _, _, _, _, _⟩) (v := ?_) rfl (by kernel_rfl) (by kernel_rfl) (by kernel_rfl) (fun _ _ _ h => h) (Or.inl ⟨by rfl, ?_⟩) (by assumption) ?_
  rotate_left
  · (intro wS hSw; (try dsimp only at hSw); go_simp <;> with_reducible rfl)
  try simp only [Act.put, List.setIfInBounds_toArray, List.set_cons_zero, List.set_cons_succ]
  refine wpAnyH_take (i := 17) (oi := ⟨_, _, _, _, _, _⟩) (v := ?_) rfl (by kernel_rfl) (by kernel_rfl) (by kernel_rfl) (fun _ _ _ h => h) (Or.inl ⟨by rfl, ?_⟩) (by assumption) ?_
  rotate_left
  · (intro wS hSw; (try dsimp only at hSw); go_simp <;> with_reducible rfl)
  try simp only [Act.put, List.setIfInBounds_toArray, List.set_cons_zero, List.set_cons_succ]
  refine wpAnyH_take (i := 18) (oi := ⟨_, _, _, _, _, _⟩) (v := ?_) rfl (by kernel_rfl) (by kernel_rfl) (by kernel_rfl) (fun _ _ _ h => h) (Or.inl ⟨by rfl, ?_⟩) (by assumption) ?_
  rotate_left
  · (intro wS hSw; (try dsimp only at hSw); go_simp <;> with_reducible rfl)
  try simp only [Act.put, List.setIfInBounds_toArray, List.set_cons_zero, List.set_cons_succ]
  refine wpAnyH_take (i := 19) (oi := ⟨_, _, _, _, _, _⟩) (v := ?_) rfl (by kernel_rfl) (by kernel_rfl) (by kernel_rfl) (fun _ _ _ h => h) (Or.inl ⟨by rfl, ?_⟩) (by assumption) ?_
  rotate_left
  · (intro wS hSw; (try dsimp only at hSw); go_simp <;> with_reducible rfl)
  try simp only [Act.put, List.setIfInBounds_toArray, List.set_cons_zero, List.set_cons_succ]
  refine wpAnyH_take (i := 20) (oi := ⟨_, _, _, _, _, _⟩) (v := ?_) rfl (by kernel_rfl) (by kernel_rfl) (by kernel_rfl) (fun _ _ _ h => h) (Or.inl ⟨by rfl, ?_⟩) (by assumption) ?_
  rotate_left
  · (intro wS hSw; (try dsimp only at hSw); go_simp <;> with_reducible rfl)
  try simp only [Act.put, List.setIfInBounds_toArray, List.set_cons_zero, List.set_cons_succ]
  refine wpAnyH_take (i := 21) (oi := ⟨_, _, _, _, _, _⟩) (v := ?_) rfl (by kernel_rfl) (by kernel_rfl) (by kernel_rfl) (fun _ _ _ h => h) (Or.inl ⟨by rfl, ?_⟩) (by assumption) ?_
  rotate_left
  · (intro wS hSw; (try dsimp only at hSw); go_simp <;> with_reducible rfl)
  try simp only [Act.put, List.setIfInBounds_toArray, List.set_cons_zero, List.set_cons_succ]
  refine wpAnyH_take (i := 22) (oi := ⟨_, _, _, _, _, _⟩) (v := ?_) rfl (by kernel_rfl) (by kernel_rfl) (by kernel_rfl) (fun _ _ _ h => h) (Or.inl ⟨by rfl, ?_⟩) (by assumption) ?_
  rotate_left
  · (intro wS hSw; (try dsimp only at hSw); go_simp <;> with_reducible rfl)
  try simp only [Act.put, List.setIfInBounds_toArray, List.set_cons_zero, List.set_cons_succ]
  refine wpAnyH_take (i := 23) (oi := ⟨_, _, _, _, _, _⟩) (v := ?_) rfl (by kernel_rfl) (by kernel_rfl) (by kernel_rfl) (fun _ _ _ h => h) (Or.inl ⟨by rfl, ?_⟩) (by assumption) ?_
  rotate_left
  · (intro wS hSw; (try dsimp only at hSw); go_simp <;> with_reducible rfl)
  try simp only [Act.put, List.setIfInBounds_toArray, List.set_cons_zero, List.set_cons_succ]
  refine wpAnyH_take (i := 24) (oi := ⟨_, _, _, _, _, _⟩) (v := ?_) rfl (by kernel_rfl) (by kernel_rfl) (by kernel_rfl) (fun _ _ _ h => h) (Or.inl ⟨by rfl, ?_⟩) (by assumption) ?_
  rotate_left
  · (intro wS hSw; (try dsimp only at hSw); go_simp <;> with_reducible rfl)
  try simp only [Act.put, List.setIfInBounds_toArray, List.set_cons_zero, List.set_cons_succ]
  refine wpAnyH_take (i := 25) (oi := ⟨_, _, _, _, _, _⟩) (v := ?_) rfl (by kernel_rfl) (by kernel_rfl) (by kernel_rfl) (fun _ _ _ h => h) (Or.inl ⟨by rfl, ?_⟩) (by assumption) ?_
  rotate_left
  · (intro wS hSw; (try dsimp only at hSw); go_simp <;> with_reducible rfl)
  try simp only [Act.put, List.setIfInBounds_toArray, List.set_cons_zero, List.set_cons_succ]
  refine wpAnyH_take (i := 26) (oi := ⟨_, _, _, _, _, _⟩) (v := ?_) rfl (by kernel_rfl) (by kernel_rfl) (by kernel_rfl) (fun _ _ _ h => h) (Or.inl ⟨by rfl, ?_⟩) (by assumption) ?_
  rotate_left
  · (intro wS hSw; (try dsimp only at hSw); go_simp <;> with_reducible rfl)
  try simp only [Act.put, List.setIfInBounds_toArray, List.set_cons_zero, List.set_cons_succ]
  refine wpAnyH_take (i := 27) (oi := ⟨_, _, _, _, _, _⟩) (v := ?_) rfl (by kernel_rfl) (by kernel_rfl) (by kernel_rfl) (fun _ _ _ h => h) (Or.inl ⟨by rfl, ?_⟩) (by assumption) ?_
  rotate_left
  · (intro wS hSw; (try dsimp only at hSw); go_simp <;> with_reducible rfl)
  try simp only [Act.put, List.setIfInBounds_toArray, List.set_cons_zero, List.set_cons_succ]
  refine wpAnyH_take (i := 28) (oi := ⟨_, _, _, _, _, _⟩) (v := ?_) rfl (by kernel_rfl) (by kernel_rfl) (by kernel_rfl) (fun _ _ _ h => h) (Or.inl ⟨by rfl, ?_⟩) (by assumption) ?_
  rotate_left
  · (intro wS hSw; (try dsimp only at hSw); go_simp <;> with_reducible rfl)
  try simp only [Act.put, List.setIfInBounds_toArray, List.set_cons_zero, List.set_cons_succ]
  refine wpAnyH_take (i := 29) (oi := ⟨_, _, _, _, _, _⟩) (v := ?_) rfl (by kernel_rfl) (by kernel_rfl) (by kernel_rfl) (fun _ _ _ h => h) (Or.inl ⟨by rfl, ?_⟩) (by assumption) ?_
  rotate_left
  · (intro wS hSw; (try dsimp only at hSw); go_simp <;> with_reducible rfl)
  try simp only [Act.put, List.setIfInBounds_toArray, List.set_cons_zero, List.set_cons_succ]
  refine wpAnyH_take (i := 30) (oi := ⟨_, _, _, _, _, _⟩) (v := ?_) rfl (by kernel_rfl) (by kernel_rfl) (by kernel_rfl) (fun _ _ _ h => h) (Or.inl ⟨by rfl, ?_⟩) (by assumption) ?_
  rotate_left
  · (intro wS hSw; (try dsimp only at hSw); go_simp <;> with_reducible rfl)
  try simp only [Act.put, List.setIfInBounds_toArray, List.set_cons_zero, List.set_cons_succ]
  refine wpAnyH_ready (rs := [31]) (by kernel_rfl) (by simp) ?_
  refine AllReadyH.cons (o := ⟨_, _, _, _, _, _⟩) rfl (fun K hK => ?_) AllReadyH.nil
  go_simp
  refine hK.out _ _ (by (try dsimp only); exact HS1.out) (fun hHeld => ?_)
  clear hK K
  try simp only [Act.put, List.setIfInBounds_toArray, List.set_cons_zero, List.set_cons_succ]
  refine wpAnyH_done (by kernel_rfl) ?_ _
  have e1 : (w2.setCell ⟨bo, 0, none⟩ (.bool true)).cell? ⟨bn, 0, none⟩ = some (.int .i64 (m : Nat)) := HS1.out.2.2.2.2.1
  have e2 : ((w2.setCell ⟨bo, 0, none⟩ (.bool true)).setCell ⟨bn, 0, none⟩ (.int .i64 ((m : Int) + 1))).cell? ⟨bn, 0, none⟩ = some (.int .i64 ((m : Int) + 1)) := World.cell?_setCell_same _ _ _ e1
  clear a0 a2 a4 a5 g1 g2
  go_wp2_with fail
  go_ret
  have t3 : Touch [bo, bn] w2 ((w2.setCell ⟨bo, 0, none⟩ (.bool true)).setCell ⟨bn, 0, none⟩ (.int .i64 ((m : Int) + 1))).drew := (((Touch.refl _ _).set (.inl (by simp)) _).set (.inl (by simp)) _).drew
  have v1 : Var ((w2.setCell ⟨bo, 0, none⟩ (.bool true)).setCell ⟨bn, 0, none⟩ (.int .i64 ((m : Int) + 1))).drew bo (.bool true) := ((H2.out.vo.set _).other HD.out.ne 0 _).touch (Touch.refl [] _).drew (by simp)
  have v2 : Var ((w2.setCell ⟨bo, 0, none⟩ (.bool true)).setCell ⟨bn, 0, none⟩ (.int .i64 ((m : Int) + 1))).drew bn (.int .i64 ((m : Int) + 1)) := ((H2.out.vn.other (fun e => HD.out.ne e.symm) 0 _).set _).touch (Touch.refl [] _).drew (by simp)
  have hno : ∀ q ∈ [br, bw, gr] ++ Fr, q ∉ [bo, bn] := fun q hq z => by
    simp at z
    rcases z with rfl | rfl
    · exact (HD.out.n _ hq).1 rfl
    · exact (HD.out.n _ hq).2 rfl
  refine ⟨rfl, ⟨L.touch H2.out.sh t3 (fun q hq z => ?_), KW.touch H2.out.sq t3 (fun q hq z => ?_), H2.out.rs.touch t3 (hno _ (by simp)) (fun q hq => hno q (List.mem_append_right _ hq)), v1, v2, H2.out.vr.touch t3 (hno _ (by simp)), H2.out.vw.touch t3 (hno _ (by simp))⟩, G ++ [bo, bn], (tall.mono (fun x hx => List.mem_append_left _ hx)).trans t3 (fun x hx => .inl (List.mem_append_right _ hx)), fun q hq hlt => ?_⟩
  · simp at z
    rcases z with rfl | rfl <;> exact HD.out.f _ (by simp) hq
  · simp at z
    rcases z with rfl | rfl
    · exact HD.out.b.1 hq
    · exact HD.out.b.2 hq
  · rcases List.mem_append.1 hq with z | z
    · obtain ⟨y1, y2⟩ := hGo q hlt z
      refine ⟨?_, y2⟩
      simp at y1 ⊢
      rcases y1 with rfl | rfl | rfl | y <;> simp_all
    · simp at z
      rcases z with rfl | rfl
      · exact ⟨by simp, HD.out.b.1⟩
      · exact ⟨by simp, HD.out.b.2⟩
theorem outerWay {SH : ShP} {SQ : SqP} (L : ShelfLaws SH) (KW : WalkLaws SH SQ) {W : World} {i : Nat} {cap : Array Value} (he : ∀ a w, (callFunc i a).run Try.prog w = .ok (.enter i a) w) {gs gr : Nat} {Fr F B : List Nat} {l : List Item} {bo bn br bw : Nat} (hw : WayIn i cap l B W) (h : WN SH SQ W (.func (.func i) #[] cap) gs gr Fr F B l bo bn br bw 0) (d : WD gr Fr F B bo bn br bw) (hl : l.length ≤ 60) :
    Calls Try.prog i (#[.func (.func 34) #[] #[.pointer (some ⟨bw, 0, none⟩), .pointer (some ⟨bo, 0, none⟩), .pointer (some ⟨br, 0, none⟩), .pointer (some ⟨bn, 0, none⟩)]] ++ cap) W fun e w' =>
      e = .returned (.tuple #[]) ∧ WN SH SQ w' (.func (.func i) #[] cap) gs gr Fr F B l bo bn br bw l.length ∧ ∃ G, Touch G W w' ∧ ∀ q ∈ G, q ∈ [bo, bn, br, bw, gr] ++ Fr ++ F ++ B ∧ q ∉ B := by
  refine (hw (.func 34) #[] #[.pointer (some ⟨bw, 0, none⟩), .pointer (some ⟨bo, 0, none⟩), .pointer (some ⟨br, 0, none⟩), .pointer (some ⟨bn, 0, none⟩)]
    (fun m V Y => Y = [bo, bn, br, bw, gr] ++ Fr ++ F ++ B ∧ WN SH SQ V (.func (.func i) #[] cap) gs gr Fr F B l bo bn br bw m) (fun _ _ => False) ([bo, bn, br, bw, gr] ++ Fr ++ F ++ B) (h.lt L KW) ⟨rfl, h⟩ ?_ ?_ ?_).mono ?_
  · rintro m V V1 Y G ⟨rfl, h1⟩ t hn
    exact ⟨rfl, h1.touch L KW t hn⟩
  · rintro V V1 Y G hf
    cases hf
  · rintro m ⟨xk, xv⟩ V Y hx ⟨rfl, h1⟩ hY
    refine YV.own (enters_of Try.func34 (by kernel_rfl) rfl) ((outer_any L KW he h1 d hx hl).mono ?_)
    rintro e w' ⟨rfl, g1, G, t, hG⟩
    have hlt := h1.lt L KW
    refine ⟨_, ⟨⟨G.filter (fun q => decide (q < V.heap.size)), (Touch.refl _ _).trans t (fun x hx => (Nat.lt_or_ge x V.heap.size).imp (fun z => List.mem_filter.2 ⟨hx, decide_eq_true z⟩) id), fun q hq => ?_⟩, fun q hq => ⟨g1.lt L KW q hq, .inl hq⟩⟩, .inl ⟨rfl, rfl, g1⟩⟩
    obtain ⟨z1, z2⟩ := List.mem_filter.1 hq
    obtain ⟨y1, y2⟩ := hG q z1 (of_decide_eq_true z2)
    refine ⟨List.mem_append_left _ (List.mem_append_left _ ?_), y2⟩
    simp at y1 ⊢
    rcases y1 with rfl | rfl | rfl | rfl | y <;> simp_all
  · rintro e w' ⟨rfl, Y, ⟨⟨G, t, hG⟩, -⟩, (⟨rfl, h1⟩ | hf)⟩
    · exact ⟨rfl, h1, G, t, hG⟩
    · cases hf

set_option maxRecDepth 100000 in
set_option maxHeartbeats 16000000 in
theorem walkNested_any {SH : ShP} {SQ : SqP} (L : ShelfLaws SH) (KW : WalkLaws SH SQ) (A : Option Addr) (c : Nat) (zs : List Item) (W : World) (hA : ItemsAt W A zs) (hz : zs.length ≤ 9223372036854775807) :
    Calls Try.prog 10 #[.slice A zs.length c] W fun e w' => e = .returned (.bool true) ∧ Below W.heap.size W w' := by
  have CA : Hid (∀ w, Calls Try.prog 12 #[] w fun e w' => e = .returned (.bool true) ∧ Below w.heap.size w w') := fun w => walkAlive_any L KW w w (Below.refl _ _)
  obtain ⟨l, hl⟩ : ∃ l, fillL zs = l := ⟨_, rfl⟩
  have hlen : l.length ≤ 60 := by rw [← hl]; exact fillL_length zs
  obtain ⟨n, hn⟩ : ∃ n, zs.length = n := ⟨_, rfl⟩
  have CF : Hid (∀ w, Below W.heap.size W w → Calls Try.prog 13 #[.slice A n c] w fun e w' => ∃ gs gr, e = .returned (.tuple #[.pointer (some ⟨gs, 0, none⟩), .pointer (some ⟨gr, 0, none⟩)]) ∧ OSW SH SQ w w' gs gr l []) := fun w h => by
    have z := filledW (SQ := SQ) L A c zs W w h hA hz hn
    rwa [hl] at z
  obtain ⟨n0, hn0⟩ : ∃ x, l.length = x := ⟨_, rfl⟩
  have HN0 := Lib.hid hn0
  have HLE := Lib.hid hlen
  rw [hn] at hz ⊢
  clear hA hl hlen hn0 hn
  by_cases c0 : 30 < n
  · have d0 : decide ((30 : Int) < (n : Int)) = true := by simp; omega
    clear CF
    go_enter Try.func10, Try.ntmps10
    go_wp2_with (go_at_call 12; (with_reducible refine (CA.out _).mono ?_); rintro e w1 ⟨rfl, h1⟩)
    go_ret
    exact ⟨rfl, h1⟩
  have d0 : decide ((30 : Int) < (n : Int)) = false := by simp; omega
  have CALL : Hid (∀ (w1 w2 w3 : World) (gs gr : Nat), Below W.heap.size W w1 → OSW SH SQ w1 w2 gs gr l [] → Below w2.heap.size w2 w3 → w3.heap.size = w2.heap.size + 1 → Var w3 w2.heap.size (.pointer (some ⟨gr, 0, none⟩)) →
      Calls Try.prog 21 #[.pointer (some ⟨gs, 0, none⟩)] w3 fun e w4 => ∃ i cap, e = .returned (.func (.func i) #[] cap) ∧ (∀ a w, (callFunc i a).run Try.prog w = .ok (.enter i a) w) ∧
        ∀ w5, Below w4.heap.size w4 w5 → w5.heap.size = w4.heap.size + 3 → Var w5 w4.heap.size (.func (.func i) #[] cap) → Var w5 (w4.heap.size + 1) (.int .i64 0) → Var w5 (w4.heap.size + 1 + 1) (.bool true) →
        Calls Try.prog i (#[.func (.func 34) #[] #[.pointer (some ⟨w4.heap.size, 0, none⟩), .pointer (some ⟨w4.heap.size + 1 + 1, 0, none⟩), .pointer (some ⟨w2.heap.size, 0, none⟩), .pointer (some ⟨w4.heap.size + 1, 0, none⟩)]] ++ cap) w5 fun e w6 =>
          e = .returned (.tuple #[]) ∧ Below W.heap.size W w6 ∧ ∃ LA lc, w6.cell? ⟨w4.heap.size + 1 + 1, 0, none⟩ = some (.bool true) ∧ w6.cell? ⟨w4.heap.size + 1, 0, none⟩ = some (.int .i64 (n0 : Nat)) ∧ w6.cell? ⟨w2.heap.size, 0, none⟩ = some (.pointer (some ⟨gr, 0, none⟩)) ∧ w6.cell? ⟨gr, 1, none⟩ = some (.slice LA n0 lc)) := by
    intro w1 w2 w3 gs gr hb1 hO hb3 hsz vr
    obtain ⟨hb2, F, Fr, sh, rs, hF, ⟨hgr, hFr⟩, -⟩ := hO
    have t3 : Touch [] w2 w3 := Touch.ofBelow hb3
    have sh3 := L.touch sh t3 (by simp)
    refine (KW.all sh3).mono ?_
    rintro e w4 ⟨fv, B, rfl, sq, hBlo, hb4⟩
    have t4 : Touch [] w3 w4 := Touch.ofBelow hb4
    have sh4 := L.touch sh3 t4 (by simp)
    obtain ⟨i, cap, rfl, hi, -⟩ := KW.go sq sh4
    refine ⟨i, cap, rfl, hi, fun w5 hb5 hs5 vw vn vo => ?_⟩
    have t5 : Touch [] w4 w5 := Touch.ofBelow hb5
    have sh5 := L.touch sh4 t5 (by simp)
    have sq5 := KW.touch sq t5 (by simp)
    have hway : WayIn i cap l B w5 := by
      obtain ⟨i', cap', e', _, hw⟩ := KW.go sq5 sh5
      injection e' with e1 _ e3
      injection e1 with e1
      subst e1 e3
      exact hw
    have s1 := hb1.size
    have s2 := hb2.size
    have s3 := hb3.size
    have s4 := hb4.size
    have gl := rs_ltg rs
    have fl := rs_ltF rs
    have sl := L.ltF sh
    have bl := KW.ltB sq
    have hWN : WN SH SQ w5 (.func (.func i) #[] cap) gs gr Fr F B l (w4.heap.size + 1 + 1) (w4.heap.size + 1) w2.heap.size w4.heap.size 0 :=
      ⟨sh5, sq5, rs.touch ((t3.trans t4 (by simp)).trans t5 (by simp)) (by simp) (by simp), vo, vn, (vr.below hb4).below hb5, vw⟩
    have hWD : WD gr Fr F B (w4.heap.size + 1 + 1) (w4.heap.size + 1) w2.heap.size w4.heap.size := by
      refine ⟨fun q hq hf => ?_, ⟨fun z => ?_, fun z => ?_⟩, by omega, fun q hq => ?_, fun q hq => ?_⟩
      · obtain ⟨f1, f2, f3⟩ := hF q hf
        have f4 := sl q hf
        rcases List.mem_append.1 hq with z | z
        · simp at z
          rcases z with rfl | rfl | rfl | rfl | rfl <;> first | omega | exact f2 rfl
        · exact f3 z
      · have := bl _ z; omega
      · have := bl _ z; omega
      · rcases List.mem_append.1 hq with z | z
        · simp at z
          rcases z with rfl | rfl | rfl <;> omega
        · have := fl q z
          omega
      · rcases List.mem_append.1 hq with z | z
        · simp at z
          rcases z with rfl | rfl <;> omega
        · have := fl q z
          omega
    refine (outerWay L KW hi hway hWN hWD HLE.out).mono ?_
    rintro e w6 ⟨rfl, h6, G, t6, hG⟩
    have b2 : Below W.heap.size W w5 := (((hb1.trans (hb2.mono (by omega))).trans (hb3.mono (by omega))).trans (hb4.mono (by omega))).trans (hb5.mono (by omega))
    have b6 : Below W.heap.size w5 w6 := t6.below (by omega) (fun q hq => ?_)
    · obtain ⟨LA, lc, ⟨-, -, g3, -⟩, -, -⟩ := h6.rs
      rw [HN0.out] at g3
      refine ⟨rfl, b2.trans b6, LA, lc, h6.vo.val, ?_, h6.vr.val, g3⟩
      rw [← HN0.out]; exact h6.vn.val
    · rcases List.mem_append.1 (hG q hq).1 with z | z
      · rcases List.mem_append.1 z with z | z
        · rcases List.mem_append.1 z with z | z
          · simp at z
            rcases z with rfl | rfl | rfl | rfl | rfl <;> omega
          · have := hFr q z
            omega
        · have := (hF q z).1
          omega
      · exact absurd z (hG q hq).2
  · go_enter Try.func10, Try.ntmps10
    go_upto_region 8 with (first
      | (go_at_call 12; (with_reducible refine (CA.out _).mono ?_); rintro e w1 ⟨rfl, h1⟩; have HB1 := Lib.hid h1; clear h1)
      | (go_at_call 13; (with_reducible refine (CF.out _ HB1.out).mono ?_); rintro e w2 ⟨gs, gr, rfl, h2⟩; have H2 := Lib.hid h2; clear h2))
    go_at_call 21
    (with_reducible refine (CALL.out w1 w2 _ gs gr HB1.out H2.out ?hb ?hs ?v1).mono ?_)
    case hb => exact (Below.refl _ w2).alloc (Nat.le_refl _) _
    case hs => simp
    case v1 => exact ⟨by go_simp, by go_simp⟩
    rintro e w4 ⟨i, cap, rfl, he, h4⟩
    have H4 := Lib.hid h4
    clear h4
    go_upto_region 8 with (refine (H4.out _ (by exact (((Below.refl _ w4).alloc (Nat.le_refl _) _).alloc (by simp only [World.size_alloc]; omega) _).alloc (by simp only [World.size_alloc]; omega) _) (by simp) ⟨by go_simp, by go_simp⟩ ⟨by go_simp, by go_simp⟩ ⟨by go_simp, by go_simp⟩).mono ?_; rintro e w6 ⟨rfl, b6, LA, lc, g1, g2, g3, g4⟩)
    have HS0 : Hid ((fun w' : World => w'.cell? ⟨w4.heap.size + 1 + 1, 0, none⟩ = some (.bool true) ∧ w'.cell? ⟨w4.heap.size + 1, 0, none⟩ = some (.int .i64 (n0 : Nat)) ∧ w'.cell? ⟨w2.heap.size, 0, none⟩ = some (.pointer (some ⟨gr, 0, none⟩)) ∧ w'.cell? ⟨gr, 1, none⟩ = some (.slice LA n0 lc)) w6.drew) := ⟨g1, g2, g3, g4⟩
    clear g1 g2 g3 g4
    refine wp_region_held_drew (S := (fun w' => w'.cell? ⟨w4.heap.size + 1 + 1, 0, none⟩ = some (.bool true) ∧ w'.cell? ⟨w4.heap.size + 1, 0, none⟩ = some (.int .i64 (n0 : Nat)) ∧ w'.cell? ⟨w2.heap.size, 0, none⟩ = some (.pointer (some ⟨gr, 0, none⟩)) ∧ w'.cell? ⟨gr, 1, none⟩ = some (.slice LA n0 lc))) (by kernel_rfl) ?_ (fun hHeld => ?_)
    · (try dsimp only); exact HS0.out
    refine wpAnyH_take (i := 0) (oi := ⟨_, _, _, _, _, _⟩) (v := ?_) rfl (by kernel_rfl) (by kernel_rfl) (by kernel_rfl) (fun _ _ _ h => h) (Or.inl ⟨by rfl, ?_⟩) (by assumption) ?_
    rotate_left
    · (intro wS hSw; (try dsimp only at hSw); go_simp <;> with_reducible rfl)
    try simp only [Act.put, List.setIfInBounds_toArray, List.set_cons_zero, List.set_cons_succ]
    refine wpAnyH_take (i := 1) (oi := ⟨_, _, _, _, _, _⟩) (v := ?_) rfl (by kernel_rfl) (by kernel_rfl) (by kernel_rfl) (fun _ _ _ h => h) (Or.inl ⟨by rfl, ?_⟩) (by assumption) ?_
    rotate_left
    · (intro wS hSw; (try dsimp only at hSw); go_simp <;> with_reducible rfl)
    try simp only [Act.put, List.setIfInBounds_toArray, List.set_cons_zero, List.set_cons_succ]
    refine wpAnyH_take (i := 2) (oi := ⟨_, _, _, _, _, _⟩) (v := ?_) rfl (by kernel_rfl) (by kernel_rfl) (by kernel_rfl) (fun _ _ _ h => h) (Or.inl ⟨by rfl, ?_⟩) (by assumption) ?_
    rotate_left
    · (intro wS hSw; (try dsimp only at hSw); go_simp <;> with_reducible rfl)
    try simp only [Act.put, List.setIfInBounds_toArray, List.set_cons_zero, List.set_cons_succ]
    refine wpAnyH_take (i := 3) (oi := ⟨_, _, _, _, _, _⟩) (v := ?_) rfl (by kernel_rfl) (by kernel_rfl) (by kernel_rfl) (fun _ _ _ h => h) (Or.inl ⟨by rfl, ?_⟩) (by assumption) ?_
    rotate_left
    · (intro wS hSw; (try dsimp only at hSw); go_simp <;> with_reducible rfl)
    try simp only [Act.put, List.setIfInBounds_toArray, List.set_cons_zero, List.set_cons_succ]
    refine wpAnyH_take (i := 4) (oi := ⟨_, _, _, _, _, _⟩) (v := ?_) rfl (by kernel_rfl) (by kernel_rfl) (by kernel_rfl) (fun _ _ _ h => h) (Or.inl ⟨by rfl, ?_⟩) (by assumption) ?_
    rotate_left
    · (intro wS hSw; (try dsimp only at hSw); go_simp <;> with_reducible rfl)
    try simp only [Act.put, List.setIfInBounds_toArray, List.set_cons_zero, List.set_cons_succ]
    refine wpAnyH_take (i := 5) (oi := ⟨_, _, _, _, _, _⟩) (v := ?_) rfl (by kernel_rfl) (by kernel_rfl) (by kernel_rfl) (fun _ _ _ h => h) (Or.inl ⟨by rfl, ?_⟩) (by assumption) ?_
    rotate_left
    · (intro wS hSw; (try dsimp only at hSw); go_simp <;> with_reducible rfl)
    try simp only [Act.put, List.setIfInBounds_toArray, List.set_cons_zero, List.set_cons_succ]
    refine wpAnyH_take (i := 6) (oi := ⟨_, _, _, _, _, _⟩) (v := ?_) rfl (by kernel_rfl) (by kernel_rfl) (by kernel_rfl) (fun _ _ _ h => h) (Or.inl ⟨by rfl, ?_⟩) (by assumption) ?_
    rotate_left
    · (intro wS hSw; (try dsimp only at hSw); go_simp <;> with_reducible rfl)
    try simp only [Act.put, List.setIfInBounds_toArray, List.set_cons_zero, List.set_cons_succ]
    refine wpAnyH_take (i := 7) (oi := ⟨_, _, _, _, _, _⟩) (v := ?_) rfl (by kernel_rfl) (by kernel_rfl) (by kernel_rfl) (fun _ _ _ h => h) (Or.inl ⟨by rfl, ?_⟩) (by assumption) ?_
    rotate_left
    · (intro wS hSw; (try dsimp only at hSw); go_simp <;> with_reducible rfl)
    try simp only [Act.put, List.setIfInBounds_toArray, List.set_cons_zero, List.set_cons_succ]
    refine wpAnyH_take (i := 8) (oi := ⟨_, _, _, _, _, _⟩) (v := ?_) rfl (by kernel_rfl) (by kernel_rfl) (by kernel_rfl) (fun _ _ _ h => h) (Or.inl ⟨by rfl, ?_⟩) (by assumption) ?_
    rotate_left
    · (intro wS hSw; (try dsimp only at hSw); go_simp <;> with_reducible rfl)
    try simp only [Act.put, List.setIfInBounds_toArray, List.set_cons_zero, List.set_cons_succ]
    refine wpAnyH_take (i := 9) (oi := ⟨_, _, _, _, _, _⟩) (v := ?_) rfl (by kernel_rfl) (by kernel_rfl) (by kernel_rfl) (fun _ _ _ h => h) (Or.inl ⟨by rfl, ?_⟩) (by assumption) ?_
    rotate_left
    · (intro wS hSw; (try dsimp only at hSw); go_simp <;> with_reducible rfl)
    try simp only [Act.put, List.setIfInBounds_toArray, List.set_cons_zero, List.set_cons_succ]
    refine wpAnyH_take (i := 10) (oi := ⟨_, _, _, _, _, _⟩) (v := ?_) rfl (by kernel_rfl) (by kernel_rfl) (by kernel_rfl) (fun _ _ _ h => h) (Or.inl ⟨by rfl, ?_⟩) (by assumption) ?_
    rotate_left
    · (intro wS hSw; (try dsimp only at hSw); go_simp <;> with_reducible rfl)
    try simp only [Act.put, List.setIfInBounds_toArray, List.set_cons_zero, List.set_cons_succ]
    refine wpAnyH_done (by kernel_rfl) ?_ _
    go_wp2_with fail
    go_ret
    exact ⟨rfl, acc b6 (Below.refl _ _).drew⟩
end Go.Proofs.Ytglinhcldgpphaa
