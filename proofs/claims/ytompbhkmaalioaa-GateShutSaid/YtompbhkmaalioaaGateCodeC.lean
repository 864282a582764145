/-
  The code's gate: Tick, Points.
-/
import Derived.Test.YtompbhkmaalioaaGateCodeB
import Derived.Laws.CopyOwn
namespace Go.Proofs.Ytompbhkmaalioaa
open Go.RowKit

theorem cells_touch (w : World) (g : Nat) (cs : Array Value) : Touch [g] w (w.setRow g cs) :=
  ⟨rfl, rfl, rfl, by simp [World.setRow], fun k _ hn => setRow_other w g k cs (fun e => hn (by simp [e]))⟩
/-- copy within one block, as a step of a region that draws its order -/
theorem step_copy_cells {P : Program} {ops : Array Oper} {o : Oper} {a : Act} {w : World} {K : Act → World → Prop} {Q : Exit → Act → World → Prop} {E : Prop} (hgd : o.guard = none) (d s : Operand) (dT sT : TypeId)
    (ho : o.op = .call { callee := .builtin .copy, args := #[d, s], argTypes := #[dT, sT] }) (elem : TypeId) (hu : P.underlying dT = some (.slice elem)) (hsz : (P.info? elem).map (·.size) = some 1)
    (g off dLen dCap : Nat) (ad : Addr) (sLen sCap : Nat) (hd : a.eval d = .slice (some ⟨g, off, none⟩) dLen dCap) (hs : a.eval s = .slice (some ad) sLen sCap)
    (cur : List Value) (t : TypeId) (hg : w.heap[g]? = some (.cells cur.toArray t (0, 0))) (cs : List Value) (hn : cs.length = Nat.min sLen dLen)
    (hsrc : ∀ j v, cs[j]? = some v → w.cell? (ad.add j) = some v) (hfit : off + cs.length ≤ cur.length) (h1 : ∀ v ∈ cs, v.oneCell' = true) (new : List Value) (hnew : cur.take off ++ (cs ++ cur.drop (off + cs.length)) = new)
    (h : ∀ w', Hid (w'.heap[g]? = some (.cells new.toArray t (0, 0))) → Hid (Touch [g] w w') → K (a.put o.dst (goInt cs.length)) w') :
    if Region.wanted o (yielded ops a.tmps) = true then Oper.wp P o a w K Q else E := by
  have hw : Region.wanted o (yielded ops a.tmps) = true := by simp [Region.wanted, hgd]
  rw [if_pos hw]
  have hrun := run_copy_row (P := P) w dT sT o.type elem g off dLen dCap ad sLen sCap cur.toArray t cs hu hsz hg hn hsrc (by simpa using hfit) h1
  unfold Oper.wp
  simp [execOp, ho, resolve, invoke, builtin, hd, hs, hrun, Result.andThen]
  refine h _ ?_ (cells_touch w g _)
  show _ = _
  rw [setRow_heap w g _ _ t _ hg, ← hnew]
theorem gm_one {w : World} {g : Nat} {s : GS} {x : GRow} {R : List GRow} (h : GM w g s x R) : ∀ v ∈ (x :: R).dropLast.map (·.1), v.oneCell' = true := by
  intro v hv
  obtain ⟨y, hy, rfl⟩ := List.mem_map.1 hv
  obtain ⟨A, c, e⟩ := own_slice (h.rows y ((List.dropLast_sublist _).subset hy))
  rw [e]
  rfl
theorem gm_src {w : World} {g : Nat} {s : GS} {x : GRow} {R : List GRow} (h : GM w g s x R) : ∀ j v, ((x :: R).dropLast.map (·.1))[j]? = some v → w.cell? ((⟨g, 3, none⟩ : Addr).add j) = some v := by
  intro j v hj
  rw [Go.WideShapes.add_plain]
  refine gm_cell h.hg ?_
  rw [List.getElem?_toArray]
  have e : (gC s (x :: R))[3 + j]? = ((x :: R).map (·.1))[j]? := by
    rw [Nat.add_comm]
    rfl
  rw [e]
  rw [List.getElem?_map] at hj ⊢
  rw [List.getElem?_dropLast] at hj
  split at hj
  · exact hj
  · cases hj
theorem gm_moved {s : GS} {x : GRow} {R : List GRow} (hl : R.length = 39) : (gC s (x :: R)).take 4 ++ ((x :: R).dropLast.map (·.1) ++ (gC s (x :: R)).drop (4 + ((x :: R).dropLast.map (·.1)).length)) =
    .bool s.shut :: .int .u64 (s.f : Nat) :: .int .u64 (s.t : Nat) :: x.1 :: (x :: R).dropLast.map (·.1) := by
  rw [List.drop_eq_nil_of_le (by simp [hl]), List.append_nil]
  rfl
theorem gm_new (s : GS) (S : List GRow) : gC s (gNil :: S) = .bool s.shut :: .int .u64 (s.f : Nat) :: .int .u64 (s.t : Nat) :: .slice none 0 0 :: S.map (·.1) := rfl
/-- all are one tick older -/
theorem GM.aged {w w1 : World} {g : Nat} {s : GS} {x : GRow} {R : List GRow} (h : GM w g s x R) (k : Touch [g] w w1) (hg : w1.heap[g]? = some (.cells (gC s (gNil :: (x :: R).dropLast)).toArray 31)) :
    ∃ F1, VG w1 g s.tick F1 ∧ Touch (gF g (x :: R)) w w1 ∧ ∀ q ∈ F1, q ∈ gF g (x :: R) ∨ w.heap.size ≤ q := by
  have hm : ∀ y ∈ gNil :: (x :: R).dropLast, y = gNil ∨ y ∈ x :: R := fun y hy => by
    rcases List.mem_cons.1 hy with z | z
    · exact .inl z
    · exact .inr ((List.dropLast_sublist _).subset z)
  refine ⟨_, ⟨gNil, (x :: R).dropLast, ⟨by simp [h.hl], ?_, ?_, hg, ?_, ?_, ?_, h.b, ?_⟩, rfl⟩, k.mono (fun q hq => mem_gF.2 (.inl (by simpa using hq))), ?_⟩
  · show agedL s.l = _
    rw [h.l, agesL_tick _ _ (by simp [h.hl]), agesL_cons]
    simp
  · exact Nat.le_trans (agedL_len s.l) h.few
  · intro y hy
    rcases hm y hy with rfl | z
    · exact World.ownsRow_nil _ _ _ _
    · exact k.row (h.rows y z) fun q hq z' => h.gn y z (by rw [hq, List.mem_singleton.1 z'])
  · intro q hq
    cases hq
  · intro y hy
    rcases hm y hy with rfl | z
    · exact fun z => by cases z
    · exact h.gn y z
  · intro y hy p hp
    rcases hm y hy with rfl | z
    · cases hp
    · exact h.pts y z p hp
  · intro q hq
    rcases mem_gF.1 hq with rfl | ⟨y, hy, hyq⟩
    · exact .inl (mem_gF.2 (.inl rfl))
    · rcases hm y hy with rfl | z
      · cases hyq
      · exact .inl (mem_gF.2 (.inr ⟨y, z, hyq⟩))
set_option maxRecDepth 20000 in
set_option maxHeartbeats 2000000 in
theorem gateTick_any {w : World} {g : Nat} {s : GS} {F : List Nat} (h : VG w g s F) : Calls Try.prog 12 #[.pointer (some ⟨g, 0, none⟩)] w fun e w' =>
    ∃ F1, e = .returned (.tuple #[]) ∧ VG w' g s.tick F1 ∧ Touch F w w' ∧ ∀ q ∈ F1, q ∈ F ∨ w.heap.size ≤ q := by
  obtain ⟨x, R, h, rfl⟩ := h
  have HG := Lib.hid h
  have hd := h.below ((Below.refl _ _).drew)
  have HS1 := Lib.hid (gm_src hd)
  have HO1 := Lib.hid (gm_one hd)
  have HG1 := Lib.hid hd.hg
  have HL : Hid (((x :: R).dropLast.map (·.1)).length = 39) := by show _ = _; simp [h.hl]
  have HMV := Lib.hid (gm_moved (s := s) (x := x) h.hl)
  have hsz : (Try.prog.info? 28).map (·.size) = some 1 := by kernel_rfl
  obtain ⟨cs, hcs⟩ : ∃ cs, (x :: R).dropLast.map (·.1) = cs := ⟨_, rfl⟩
  have HCS := Lib.hid hcs
  have HFIT : Hid (4 + ((x :: R).dropLast.map (·.1)).length ≤ (gC s (x :: R)).length) := by show _ ≤ _; simp [h.hl]
  rw [hcs] at HS1 HO1 HL HMV HFIT
  have HN : Hid (cs.length = Nat.min 40 39) := by show _ = _; rw [HL.out]; rfl
  clear h hd hcs
  go_enter Try.func12, Try.ntmps12
  go_wp2
  go_region_law (refine step_copy_cells rfl (.tmp 7) (.tmp 11) 57 57 rfl 28 Try.underlying57 hsz g 4 39 39 ⟨g, 3, none⟩ 40 40 (by simp [Act.eval, Act.put]) (by simp [Act.eval, Act.put]) _ _ HG1.out cs HN.out HS1.out HFIT.out HO1.out _ HMV.out ?_; intro w1 K1 K2)
  have c3 : w1.cell? ⟨g, 3, none⟩ = some x.1 := gm_cell K1.out rfl
  have z3 : w1.frozen? ⟨g, 3, none⟩ = false := Lib.frozen_of_heap K1.out 3
  go_wp2
  go_end0
  have t2 : Touch [g] w (w1.setCell ⟨g, 3, none⟩ (.slice none 0 0)) := ((Touch.refl [g] w).drew.trans K2.out (fun _ hx => .inl hx)).set (.inl (by simp)) _
  obtain ⟨F1, z⟩ := HG.out.aged t2 (by rw [gm_set K1.out, gm_new s, HCS.out]; simp)
  exact ⟨F1, rfl, z⟩
theorem run_index_slot {P : Program} (w : World) (t e e2 : TypeId) (n : Nat) (cs : Array Value) (i : Nat) (v : Value) (ht : P.underlying t = some (.array n e)) (he : P.underlying e = some (.slice e2)) (hs : (P.info? e).map (·.size) = some 1) (hi : i < n) (hv : cs[i]? = some v) :
    (Instr.index t (.agg cs) (.int .i64 (i : Nat))).run P w = .ok v w := by
  cases hq : P.info? e with
  | none => simp [hq] at hs
  | some j =>
    have h1 : j.size = 1 := by simpa [hq] using hs
    simp [Instr.index, run_underlying ht, asIntOf, sizeOf, typeInfo, hq, h1, part, isAgg, run_underlying he, hv]
    exact fun z => absurd hi (by omega)
/-- the forty slices, as one array -/
theorem gm_array {w : World} {g : Nat} {s : GS} {x : GRow} {R : List GRow} (h : GM w g s x R) : w.rangeAt g 3 ((x :: R).map (·.1)) := by
  intro j v hj
  refine gm_cell h.hg ?_
  rw [List.getElem?_toArray, Nat.add_comm]
  exact hj
/-- how many are in the first rows -/
def upTo (S : List GRow) (i : Nat) : Nat := ((S.take i).map fun y => y.2.length).sum
theorem upTo_succ {S : List GRow} {i : Nat} {y : GRow} (h : S[i]? = some y) : upTo S (i + 1) = upTo S i + y.2.length := by
  unfold upTo
  rw [List.take_add_one, h]
  simp
theorem upTo_le (S : List GRow) (i : Nat) : upTo S i ≤ (S.map fun y => y.2.length).sum := by
  have h : (S.map fun y => y.2.length).sum = upTo S i + ((S.drop i).map fun y => y.2.length).sum := by
    unfold upTo
    rw [← List.sum_append, ← List.map_append, List.take_append_drop]
  omega
theorem infoArr_ : (Try.prog.info? 29).map (·.size) = some 40 := by kernel_rfl
theorem infoSl_ : (Try.prog.info? 28).map (·.size) = some 1 := by kernel_rfl
set_option maxRecDepth 20000 in
set_option maxHeartbeats 2000000 in
theorem gatePoints_any {w : World} {g : Nat} {s : GS} {F : List Nat} (h : VG w g s F) : Calls Try.prog 15 #[.pointer (some ⟨g, 0, none⟩)] w fun e w' => e = .returned (.int .i64 (s.l.length : Nat)) ∧ w' = w := by
  obtain ⟨x, R, h, rfl⟩ := h
  have HR := Lib.hid (gm_array h)
  have HZ : Hid ((Try.prog.info? 29).map (·.size) = some ((x :: R).map (·.1)).length) := by show _ = _; rw [infoArr_]; simp [h.hl]
  have hsum : s.l.length = ((x :: R).map fun y => y.2.length).sum := by rw [h.l, agesL_len]
  have HS : Hid (∀ (i : Nat) (y : GRow), (x :: R)[i]? = some y → ∃ A c, y.1 = .slice A y.2.length c) := fun i y hy => own_slice (h.rows y (List.mem_of_getElem? hy))
  have HI : Hid (∀ (i : Nat) (y : GRow), (x :: R)[i]? = some y → i < 40 → (Instr.index 29 (.agg ((x :: R).map (·.1)).toArray) (.int .i64 (i : Nat))).run Try.prog w = .ok y.1 w) := fun i y hy hi => run_index_slot w 29 28 54 40 _ i y.1 Try.underlying29 Try.underlying28 infoSl_ hi (by rw [List.getElem?_toArray, List.getElem?_map, hy]; rfl)
  have HL : Hid ((x :: R).length = 40) := by show _ = _; simp [h.hl]
  have hle : ∀ i, upTo (x :: R) i ≤ 1001 := fun i => Nat.le_trans (upTo_le _ i) (hsum ▸ h.few)
  have HE : Hid (upTo (x :: R) 40 = s.l.length) := by
    show upTo (x :: R) 40 = s.l.length
    rw [hsum, upTo, List.take_of_length_le (by rw [HL.out]; exact Nat.le_refl _)]
  obtain ⟨S, hS⟩ : ∃ S, x :: R = S := ⟨_, rfl⟩
  rw [hS] at HR HZ HS HI HL hle HE
  have HLE := Lib.hid hle
  clear h hsum hle hS
  obtain ⟨m, hm⟩ : ∃ m, s.l.length = m := ⟨_, rfl⟩
  rw [hm] at HE ⊢
  clear hm
  obtain ⟨arr, ha⟩ : ∃ arr, S.map (·.1) = arr := ⟨_, rfl⟩
  rw [ha] at HR HZ HI
  clear ha
  go_enter Try.func15, Try.ntmps15
  go_wp2_with (refine wpList_load_mid rfl 29 (.tmp 10) rfl g 3 rfl arr _ HR.out Try.underlying29 rfl HZ.out ?_)
  go_loopg [3, 12] 41 (fun gh s3 s12 wx => ∃ i k, i + gh = 41 ∧ i ≤ 40 ∧ s3 = .int .i64 (k : Nat) ∧ s12 = .int .i64 (i : Nat) ∧ Hid (upTo S i = k) ∧ wx = w)
  case atStart => exact ⟨0, 0, rfl, by omega, rfl, rfl, rfl, rfl⟩
  case round =>
    obtain ⟨i, k, hig, hi, rfl, rfl, HU, rfl⟩ := hrel
    by_cases hlt : i < 40
    · obtain ⟨y, hy⟩ : ∃ y, S[i]? = some y := ⟨_, List.getElem?_eq_getElem (by rw [HL.out]; exact hlt)⟩
      have hix := HI.out i y hy hlt
      obtain ⟨A, c, hA⟩ := HS.out i y hy
      rw [hA] at hix
      have hu := upTo_succ hy
      rw [HU.out] at hu
      have h1 := HLE.out (i + 1)
      have i1 : (i : Int) < 40 := by omega
      obtain ⟨n, hn⟩ : ∃ n, y.2.length = n := ⟨_, rfl⟩
      rw [hn] at hix hu
      rw [hu] at h1
      have HU1 := Lib.hid hu
      have z1 : IntKind.i64.wrap ((k : Int) + n) = (k + n : Nat) := by rw [IntKind.wrap_i64]; omega
      clear hA hu hy hn
      go_wp2
      go_roundg (gk - 1)
      case measure => omega
      case rel => exact ⟨i + 1, k + n, by omega, by omega, by go_num, by go_num, HU1, rfl⟩
    · obtain rfl : i = 40 := by omega
      have hk : k = m := by rw [← HU.out]; exact HE.out
      subst hk
      go_wp2
      go_ret
      exact ⟨rfl, rfl⟩
end Go.Proofs.Ytompbhkmaalioaa
