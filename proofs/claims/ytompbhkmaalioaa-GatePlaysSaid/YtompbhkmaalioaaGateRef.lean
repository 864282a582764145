/-
  The document's gate: Frozen, Where, Tick.
-/
import Derived.Test.YtompbhkmaalioaaGateLawC
import Derived.Test.YtompbhkmaalioaaRecs
import Derived.Deep.MidRow
namespace Go.Proofs.Ytompbhkmaalioaa
open Go.RowKit

abbrev GP.cells (p : GP) : Array Value := #[.int .u64 (p.f : Nat), .int .u64 (p.t : Nat), .int .i64 p.n, .int .i64 (p.g : Nat)]
abbrev gpC (l : List GP) : List Value := rowC GP.cells l
theorem gp_size (p : GP) : p.cells.size = 4 := rfl
theorem gp_one (l : List GP) : ∀ u ∈ gpC l, u.oneCell' = true := rowC_all fun p _ => by simp [GP.cells, Value.oneCell']
theorem gp_new (w : World) (p : GP) : ∀ j u, (gpC [p])[j]? = some u → (w.alloc (.cells p.cells 56)).cell? ((⟨w.heap.size, 0, none⟩ : Addr).add j) = some u := by
  intro j u hj
  have hj : (p.cells.toList)[j]? = some u := by rw [← hj]; simp [gpC, rowC]
  have : j = 0 ∨ j = 1 ∨ j = 2 ∨ j = 3 := by have := (List.getElem?_eq_some_iff.1 hj).1; simp at this; omega
  rw [Go.WideShapes.add_plain]
  rcases this with rfl | rfl | rfl | rfl <;> (simp at hj; subst hj; go_simp)
theorem infoGP_ : ∃ i z, Try.prog.info? 56 = some i ∧ i.zero = some z ∧ i.size = 4 ∧ i.bytes = 32 ∧ z.cells.size = 4 := by
  have h : (Try.prog.info? 56).map (fun i => (i.zero.isSome, i.size, i.bytes, (i.zero.getD undef).cells.size)) = some (true, 4, 32, 4) := by kernel_rfl
  obtain ⟨i, hi, hx⟩ := Option.map_eq_some_iff.1 h
  simp only [Prod.mk.injEq] at hx
  obtain ⟨h1, h2, h3, h4⟩ := hx
  obtain ⟨z, hz⟩ := Option.isSome_iff_exists.1 h1
  exact ⟨i, z, hi, hz, h2, h3, by rw [hz] at h4; exact h4⟩
theorem agedL_snoc (l : List GP) (p : GP) : agedL (l ++ [p]) = if p.g + 1 < 40 then agedL l ++ [⟨p.f, p.t, p.n, p.g + 1⟩] else agedL l := by
  rw [agedL_append, agedL_one p.f p.t p.n p.g]
  split <;> simp
/-- what may be in a gate -/
def GP.Fit (p : GP) : Prop := p.f < 18446744073709551616 ∧ p.t < 18446744073709551616 ∧ p.g < 40
/-- the document's gate at r -/
structure RG (w : World) (r : Nat) (b : Bool) (f t : Nat) (l : List GP) (V : Value) : Prop where
  hg : w.heap[r]? = some (.cells #[.bool b, .int .u64 (f : Nat), .int .u64 (t : Nat), V] 35)
  v : w.ownsRow 0 56 4 V l.length (gpC l)
  gv : ∀ q, V.ownBlock = some q → q ≠ r
theorem rg_cell {w : World} {b o : Nat} {cs : Array Value} {T : TypeId} {v : Value} (hb : w.heap[b]? = some (.cells cs T)) (hv : cs[o]? = some v) : w.cell? ⟨b, o, none⟩ = some v := by rw [Lib.cell_of_heap hb, hv]
theorem rg_lt {w : World} {q : Nat} {o : Obj} (h : w.heap[q]? = some o) : q < w.heap.size := (Array.getElem?_eq_some_iff.1 h).1
section
variable {w w' : World} {r : Nat} {b : Bool} {f t : Nat} {l : List GP} {V : Value}
theorem RG.lt (h : RG w r b f t l V) : r < w.heap.size := rg_lt h.hg
theorem RG.touch {F : List Nat} (h : RG w r b f t l V) (k : Touch F w w') (hr : r ∉ F) (hV : ∀ q, V.ownBlock = some q → q ∉ F) : RG w' r b f t l V :=
  ⟨(k.block r h.lt hr).trans h.hg, k.row h.v hV, h.gv⟩
theorem RG.below (h : RG w r b f t l V) (k : Below w.heap.size w w') : RG w' r b f t l V := h.touch (Touch.ofBelow (F := []) k) (by simp) (by simp)
/-- another list -/
theorem RG.set {l' : List GP} {V' : Value} (h : RG w r b f t l V) (k : Below w.heap.size w w') (ho : w'.ownsRow w.heap.size 56 4 V' l'.length (gpC l')) :
    RG (w'.setCell ⟨r, 3, none⟩ V') r b f t l' V' ∧ Touch [r] w (w'.setCell ⟨r, 3, none⟩ V') ∧ ∀ q, V'.ownBlock = some q → w.heap.size ≤ q := by
  have hb := (k.block r h.lt).trans h.hg
  have hn : ∀ q, V'.ownBlock = some q → q ≠ r := fun q hq e => by have := (ho.lt q hq).1; have := h.lt; omega
  have t2 : Touch [r] w' (w'.setCell ⟨r, 3, none⟩ V') := (Touch.refl _ _).set (.inl (by simp)) _
  refine ⟨⟨by simp [World.setCell, Array.getElem?_modify, hb], t2.row (gate_mono ho (Nat.zero_le _)) (fun q hq z => hn q hq (by simpa using z)), hn⟩, (Touch.ofBelow (F := [r]) k).trans t2 (fun x hx => .inl hx), fun q hq => (ho.lt q hq).1⟩
end
set_option maxHeartbeats 1000000 in
theorem refFrozen_any {W : World} {r : Nat} {b : Bool} {f t : Nat} {l : List GP} {V : Value} (h : RG W r b f t l V) (x : Nat) (hf : f < 18446744073709551616) (ht : t < 18446744073709551616) (hx : x < 18446744073709551616) :
    Calls Try.prog 19 #[.pointer (some ⟨r, 0, none⟩), .int .u64 (x : Nat)] W fun e w' => e = .returned (.bool (b && inB f t x)) ∧ Below W.heap.size W w' := by
  have C : Hid (∀ W, Calls Try.prog 22 #[.agg #[.int .u64 (f : Nat), .int .u64 (t : Nat)], .int .u64 (x : Nat)] W fun e w' => e = .returned (.bool (inB f t x)) ∧ Below W.heap.size W w') := fun W => refIn_any f t x W hf ht hx
  have c0 : W.cell? ⟨r, 0, none⟩ = some (.bool b) := rg_cell h.hg rfl
  have c1 : W.cell? ⟨r, 1, none⟩ = some (.int .u64 (f : Nat)) := rg_cell h.hg rfl
  have c2 : W.cell? ⟨r, 2, none⟩ = some (.int .u64 (t : Nat)) := rg_cell h.hg rfl
  generalize inB f t x = ans at *
  clear h hf ht hx
  go_enter Try.func19, Try.ntmps19
  cases b
  all_goals
    go_wp2_with (go_at_call 22; (with_reducible refine (C.out _).mono ?_); rintro e w1 ⟨rfl, h1⟩)
    go_ret
    first
      | exact ⟨rfl, h1⟩
      | exact ⟨rfl, Below.refl _ _⟩
set_option maxRecDepth 20000 in
set_option maxHeartbeats 2000000 in
theorem refWhere_any {W : World} {r : Nat} {b : Bool} {f t : Nat} {l : List GP} {V : Value} (h : RG W r b f t l V) (hl : l.length ≤ 100000) (hp : ∀ p ∈ l, p.Fit) (x : Nat) (hx : x < 18446744073709551616) :
    Calls Try.prog 17 #[.pointer (some ⟨r, 0, none⟩), .int .u64 (x : Nat)] W fun e w' => e = .returned (whereV (overL l x)) ∧ Below W.heap.size W w' := by
  obtain ⟨n, hn⟩ : ∃ n, l.length = n := ⟨_, rfl⟩
  have C : Hid (∀ p ∈ l, ∀ W, Calls Try.prog 22 #[.agg #[.int .u64 (p.f : Nat), .int .u64 (p.t : Nat)], .int .u64 (x : Nat)] W fun e w' => e = .returned (.bool (inB p.f p.t x)) ∧ Below W.heap.size W w') := fun p hpl W => refIn_any p.f p.t x W (hp p hpl).1 (hp p hpl).2.1 hx
  have hv := h.v
  rw [hn] at hv
  obtain ⟨A, c, rfl⟩ := own_slice hv
  have c3 : Hid (∀ w, Below W.heap.size W w → w.cell? ⟨r, 3, none⟩ = some (.slice A n c)) := fun w hb => (hb.cell (p := ⟨r, 3, none⟩) h.lt).trans (rg_cell h.hg rfl)
  have hts : Hid (∀ j (hj : j < l.length), overL (l.take (j + 1)) x = if inB l[j].f l[j].t x then some l[j].n else overL (l.take j) x) := fun j hj => by
    rw [List.take_succ_eq_append_getElem hj, overL_snoc]
  have HO := Lib.hid hv
  have HN := Lib.hid hn
  rw [hn] at hl
  have z0 : IntKind.i64.wrap ((n : Int) - 1) = (n : Int) - 1 := by rw [IntKind.wrap_i64]; omega
  have b3 := c3.out W (Below.refl _ _)
  unfold whereV
  obtain ⟨o, ho⟩ : ∃ o, overL l x = o := ⟨_, rfl⟩
  have HOV := Lib.hid ho
  rw [ho]
  clear h hv hn hp hx ho
  go_enter Try.func17, Try.ntmps17
  go_wp2
  clear b3
  go_loopg [6] (n + 1) (fun gh s6 wx => ∃ (k : Nat) (z : Int), gh = k + 1 ∧ k ≤ n ∧ z = (k : Int) - 1 ∧ s6 = .int .i64 z ∧ Hid (overL (l.take k) x = o) ∧ Hid (Below W.heap.size W wx))
  case atStart => exact ⟨n, _, rfl, by omega, rfl, rfl, by rw [List.take_of_length_le (by rw [HN.out]; exact Nat.le_refl _)]; exact HOV, Below.refl _ _⟩
  case round =>
    obtain ⟨k, z, hgk, hk, hz, rfl, HV, HB⟩ := hrel
    by_cases h0 : z ≥ 0
    · obtain ⟨j, rfl⟩ : ∃ j, k = j + 1 := ⟨k - 1, by omega⟩
      obtain rfl : z = (j : Int) := by omega
      have d0 : decide ((j : Int) ≥ 0) = true := decide_eq_true h0
      have zj : IntKind.i64.wrap ((j : Int) - 1) = (j : Int) - 1 := by rw [IntKind.wrap_i64]; omega
      have hj : j < l.length := by rw [HN.out]; omega
      have i1 : (j : Int) < (n : Int) := by omega
      obtain ⟨q, hq⟩ := gate_at HO.out (by omega)
      obtain rfl := hq
      have hst := hts.out j hj
      have hm := List.getElem_mem hj
      have CC := Lib.hid (C.out _ hm)
      have cell : ∀ i v, i < 4 → (l[j]).cells[i]? = some v → wr.cell? ⟨q, j * 4 + i, none⟩ = some v := fun i v hi hv => by
        have z := HO.out.cells (g := q) rfl (j * 4 + i) v (by rw [rowC_get gp_size l j i l[j] (List.getElem?_eq_getElem hj) hi]; exact hv)
        rw [Go.WideShapes.add_plain, Nat.zero_add] at z
        exact (HB.out.cell (p := ⟨q, j * 4 + i, none⟩) (HO.out.lt q rfl).2).trans z
      generalize l[j] = p at *
      have e0 := cell 0 _ (by decide) rfl
      have e1 := cell 1 _ (by decide) rfl
      have e2 := cell 2 _ (by decide) rfl
      rw [Nat.add_zero] at e0
      have b3 := c3.out wr HB.out
      clear cell hm h0 hz
      rw [HV.out] at hst
      cases hin : inB p.f p.t x with
      | true =>
        rw [hin] at CC hst
        rw [if_pos rfl] at hst
        subst hst
        go_wp2_with (go_at_call 22; (with_reducible refine (CC.out _).mono ?_); rintro e w1 ⟨rfl, h1⟩; have b4 := c3.out w1 (acc HB.out h1); have e3 := (h1.cell (p := ⟨q, j * 4 + 2, none⟩) (World.block_lt_of_cell? _ _ e2)).trans e2; have HB1 := Lib.hid (acc HB.out h1); clear h1)
        go_ret2
        exact ⟨rfl, HB1.out⟩
      | false =>
        rw [hin] at CC hst
        have HST : Hid (overL (l.take j) x = o) := (if_neg (by decide)).symm.trans hst.symm
        clear hst
        go_wp2_with (go_at_call 22; (with_reducible refine (CC.out _).mono ?_); rintro e w1 ⟨rfl, h1⟩; have HB1 := Lib.hid (acc HB.out h1); clear h1)
        go_roundg (gk - 1)
        case measure => omega
        case rel => exact ⟨j, _, by omega, by omega, rfl, by go_num, HST, HB1⟩
    · have d0 : decide (z ≥ 0) = false := decide_eq_false h0
      obtain rfl : k = 0 := by omega
      have hv := HV.out
      rw [List.take_zero, overL_nil] at hv
      subst hv
      clear hz
      go_wp2_with fail
      go_ret2
      exact ⟨rfl, HB.out⟩
end Go.Proofs.Ytompbhkmaalioaa
