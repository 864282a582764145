/-
  known: the letters up to an answer wait no more.
-/
import Derived.Test.YtfemdfidfomchaaLinkSend
namespace Go.Proofs.Ytfemdfidfomchaa
open Go.RowKit

/-- so many letters an answer lets go -/
def LS.gone (s : LS) (a : Int) : Nat := (a - (s.sent : Nat) + (s.waits.length : Nat)).toNat
abbrev LS.known (s : LS) (a : Int) : LS := {s with waits := s.waits.drop (s.gone a)}
theorem run_clear_zero {P : Program} (w : World) (t e ty : TypeId) (ht : P.underlying t = some (.slice e)) (A : Option Addr) (c : Nat) : (Builtin.clear_ #[t] ty #[.slice A 0 c]).run P w = .ok (.tuple #[]) w := by
  cases A <;> simp [Builtin.clear_, run_underlying ht]
theorem run_clear_at {W : World} {e : TypeId} {size n q o c k : Nat} {xs : List Value} {P : Program} (t ty : TypeId) (z : Value) (ht : P.underlying t = some (.slice e)) (hz : ∀ w, (zeroValue e).run P w = .ok z w) (hzs : z.cells.size = size) (h1 : ∀ u ∈ z.cells, u.oneCell' = true)
    (h : OwnAt W e size (.slice (some ⟨q, o, none⟩) n c) n xs) (hk : k ≤ n) (h0 : 0 < k) :
    ∃ w', (Builtin.clear_ #[t] ty #[.slice (some ⟨q, o, none⟩) k c]).run P W = .ok (.tuple #[]) w' ∧ OwnAt w' e size (.slice (some ⟨q, o + k * size, none⟩) (n - k) (c - k)) (n - k) (xs.drop (k * size)) ∧ OwnAt w' e size (.slice (some ⟨q, o, none⟩) 0 0) 0 [] ∧ W.grownBy w' (some q) := by
  subst hzs
  rcases h.2 with ⟨h0, _⟩ | ⟨q', o', c', cur, hv, hh, hnc, hcm, hcs, ht4⟩
  · cases h0
  · injection hv with hv _ hc
    injection hv with hv
    injection hv with ha hb _
    subst ha hb hc
    have m1 : k * z.cells.size ≤ n * z.cells.size := Nat.mul_le_mul_right _ hk
    have m2 : n * z.cells.size ≤ c * z.cells.size := Nat.mul_le_mul_right _ hnc
    have hr := run_clear_rowN (P := P) W t e ty z ht hz h1 q o k c cur e h0 hh (by omega)
    have e1 : (Builtin.zeroCells z.cells k).toList.length = k * z.cells.size := by rw [Array.length_toList, size_zeroCells]
    rw [e1] at hr
    have hsz : (cur.toList.take o ++ (Builtin.zeroCells z.cells k).toList ++ cur.toList.drop (o + k * z.cells.size)).toArray.size = cur.size := by
      simp only [List.size_toArray, List.length_append, List.length_take, List.length_drop, Array.length_toList, size_zeroCells]
      omega
    have hd : (cur.toList.take o ++ (Builtin.zeroCells z.cells k).toList ++ cur.toList.drop (o + k * z.cells.size)).drop (o + k * z.cells.size) = cur.toList.drop (o + k * z.cells.size) := by
      rw [List.drop_left']
      rw [List.length_append, List.length_take, Array.length_toList, e1]
      omega
    refine ⟨_, hr, ⟨by rw [List.length_drop, h.1, ← Nat.sub_mul], .inr ⟨q, _, _, _, rfl, setRow_heap W q cur _ e _ hh, by omega, by omega, ?_, ?_⟩⟩, ⟨by simp, .inr ⟨q, o, 0, _, rfl, setRow_heap W q cur _ e _ hh, Nat.le_refl _, by unfold maxLen; omega, by rw [hsz]; omega, by simp⟩⟩, grown_setRow _ _ _⟩
    · rw [hsz, Nat.sub_mul]; omega
    · rw [List.toList_toArray, hd, ← ht4, List.drop_take, List.drop_drop, Nat.sub_mul]
theorem lk_zeroW : ∀ w, (zeroValue 80).run Try.prog w = .ok (.agg lk_zw) w := fun _ => by kernel_rfl
theorem lk_zeroW_one : ∀ u ∈ (Value.agg lk_zw).cells, u.oneCell' = true := fun u hu => (Array.all_eq_true_iff_forall_mem.1 (by kernel_rfl : (Value.cells (.agg lk_zw)).all (·.oneCell') = true)) u hu
set_option maxRecDepth 20000 in
set_option maxHeartbeats 4000000 in
theorem known_any {W : World} {g : Nat} {s : LS} {V K : Value} {L : List Nat} (h : LNX W g s V K L) (hok : s.Ok) (a : Int) (ha : 0 ≤ a) (has : a ≤ (s.sent : Nat)) :
    Calls Try.prog 31 #[.pointer (some ⟨g, 0, none⟩), .int .i64 a] W fun e w' => e = .returned (.tuple #[]) ∧ Touch (fr g V K) W w' ∧ ∃ V', LNX w' g (s.known a) V' K L ∧ ∀ q, V'.ownBlock = some q → V.ownBlock = some q := by
  have CF := Lib.hid (first_any h hok.waits hok.sent)
  have hw := hok.waits
  have hse := hok.sent
  obtain ⟨A, c, hVs, hnc, hcm⟩ := h.v.shape
  have c4 := h.c4
  have f4 := h.free 4
  have hv := h.v
  rw [hVs] at c4 hv
  obtain ⟨n, hn⟩ : ∃ n, s.waits.length = n := ⟨_, rfl⟩
  have hcm' : c ≤ 9223372036854775807 := by unfold maxLen at hcm; omega
  rw [hn] at hw CF c4 hnc hv
  obtain ⟨m, hm⟩ : ∃ m : Nat, s.sent = m := ⟨_, rfl⟩
  rw [hm] at CF hw has hse
  have hgone : s.gone a = (a - (m : Int) + (n : Nat)).toNat := by unfold LS.gone; rw [hn, hm]
  unfold LS.known
  rw [hgone]
  clear hgone
  have z1 : IntKind.i64.wrap (a - ((m : Int) - (n : Nat) + 1)) = a - ((m : Int) - (n : Nat) + 1) := by rw [IntKind.wrap_i64]; omega
  have H := Lib.hid h
  have HV := Lib.hid hv
  have hv0 := hv
  have HM := Lib.hid hm
  have HN := Lib.hid hn
  have HVS := Lib.hid hVs
  obtain ⟨x, hxx⟩ : ∃ x : Int, a - (m : Int) + (n : Nat) = x := ⟨_, rfl⟩
  have z2 : IntKind.i64.wrap (a - ((m : Int) - (n : Nat) + 1) + 1) = x := by rw [IntKind.wrap_i64]; omega
  have hxn : x ≤ (n : Nat) := by omega
  have rc := fun w ty => run_clear_zero (P := Try.prog) w 73 80 ty Try.underlying73 A c
  rw [hxx]
  have HRC := Lib.hid rc
  clear h hm hn hVs hv rc hok
  by_cases hlt : x < 0
  · have k0 : x.toNat = 0 := by omega
    rw [k0]
    clear hxx k0
    go_enter Try.func31, Try.ntmps31
    go_wp2_with (first
      | (go_at_call 29; ((with_reducible refine CF.out.mono ?_); rintro e w1 ⟨rfl, k1, rfl⟩; have c41 : (W.drewN k1).cell? ⟨g, 4, none⟩ = some (.slice A n c) := c4; have f41 : (W.drewN k1).frozen? ⟨g, 4, none⟩ = false := f4))
      | (refine wpList_clear_run _ rfl _ 73 rfl (.slice A 0 c) (by simp [Act.eval]) (HRC.out _ _) ?_))
    go_end0
    have hHV := HVS.out
    rw [HN.out] at hHV
    subst hHV
    exact ⟨rfl, ((Touch.refl _ _).drewN k1).set (.inl (by simp [fr])) _, .slice A n c, lnx_setV (w := W.drewN k1) (ws := s.waits) (n := n) (V' := .slice A n c) H.out ((Touch.refl _ _).drewN k1) HN.out (HV.out.below (below_drewN (Below.refl _ _) k1)) (fun q hq => .inl hq) (fun q hq => hq) (fun q hq => .inl hq) (fun q hq => (H.out.lf q hq).2.1) (fun x hx => ((H.out.lw x hx).below (below_drewN (Below.refl _ _) k1))), fun q hq => hq⟩
  · by_cases hx0 : x = 0
    · subst hx0
      clear hxx hlt
      go_enter Try.func31, Try.ntmps31
      go_wp2_with (first
        | (go_at_call 29; ((with_reducible refine CF.out.mono ?_); rintro e w1 ⟨rfl, k1, rfl⟩; have c41 : (W.drewN k1).cell? ⟨g, 4, none⟩ = some (.slice A n c) := c4; have f41 : (W.drewN k1).frozen? ⟨g, 4, none⟩ = false := f4))
        | (refine wpList_clear_run _ rfl _ 73 rfl (.slice A 0 c) (by simp [Act.eval]) (HRC.out _ _) ?_))
      go_end0
      have hHV := HVS.out
      rw [HN.out] at hHV
      subst hHV
      exact ⟨rfl, ((Touch.refl _ _).drewN k1).set (.inl (by simp [fr])) _, .slice A n c, lnx_setV (w := W.drewN k1) (ws := s.waits) (n := n) (V' := .slice A n c) H.out ((Touch.refl _ _).drewN k1) HN.out (HV.out.below (below_drewN (Below.refl _ _) k1)) (fun q hq => .inl hq) (fun q hq => hq) (fun q hq => .inl hq) (fun q hq => (H.out.lf q hq).2.1) (fun x hx => ((H.out.lw x hx).below (below_drewN (Below.refl _ _) k1))), fun q hq => hq⟩
    · obtain ⟨k, rfl⟩ := Int.eq_ofNat_of_zero_le (show 0 ≤ x by omega)
      have hk0 : 0 < k := by omega
      have hkn : k ≤ n := by omega
      rw [Int.toNat_natCast]
      obtain ⟨q, o, rfl⟩ := hv0.at_ (show 0 < n by omega)
      have hqg : q ≠ g := H.out.gv q (by rw [HVS.out]; rfl)
      have hgl := H.out.glt
      have HCL : Hid (∀ j, ∃ w2, (∀ ty, (Builtin.clear_ #[73] ty #[.slice (some ⟨q, o, none⟩) k c]).run Try.prog (W.drewN j) = .ok (.tuple #[]) w2) ∧ OwnAt w2 80 22 (.slice (some ⟨q, o + k * 22, none⟩) (n - k) (c - k)) (n - k) ((rowC wE s.waits).drop (k * 22)) ∧ OwnAt w2 80 22 (.slice (some ⟨q, o, none⟩) 0 0) 0 [] ∧ Touch [q] W w2 ∧ w2.cell? ⟨g, 4, none⟩ = some (.slice (some ⟨q, o, none⟩) n c) ∧ w2.frozen? ⟨g, 4, none⟩ = false) := fun j => by
        obtain ⟨w2, hr2, ho2, ho3, hg2⟩ := run_clear_at (W := W.drewN j) (k := k) (P := Try.prog) 73 0 (.agg lk_zw) Try.underlying73 lk_zeroW rfl lk_zeroW_one (HV.out.below (below_drewN (Below.refl _ _) j)) hkn hk0
        have t : Touch [q] W w2 := ((Touch.refl _ _).drewN j).grown hg2 (fun z hz => .inl (by simp [Option.some.inj hz]))
        exact ⟨w2, fun _ => hr2, ho2, ho3, t, (t.cell (p := ⟨g, 4, none⟩) hgl (by simp; exact fun e => hqg e.symm)).trans c4, (t.frozen (p := ⟨g, 4, none⟩) hgl (by simp; exact fun e => hqg e.symm)).trans f4⟩
      have i1 : (k : Int) ≤ (n : Int) := by omega
      have i2 : k ≤ c := by omega
      by_cases hck : c = k
      · have hnk2 : n = k := by omega
        subst hnk2
        subst hck
        clear hxx hlt hv0 hx0
        go_enter Try.func31, Try.ntmps31
        go_wp2_with (first
          | (go_at_call 29; ((with_reducible refine CF.out.mono ?_); rintro e w1 ⟨rfl, k1, rfl⟩; have c41 : (W.drewN k1).cell? ⟨g, 4, none⟩ = some (.slice (some ⟨q, o, none⟩) c c) := c4; obtain ⟨w2, hr2, ho2, ho3, ht2, c42, f42⟩ := HCL.out k1; have HR2 := Lib.hid hr2; have HO2 := Lib.hid ho2; have HO3 := Lib.hid ho3; have HT2 := Lib.hid ht2; clear hr2 ho2 ho3 ht2))
          | (refine wpList_clear_run _ rfl _ 73 rfl (.slice (some ⟨q, o, none⟩) c c) (by simp [Act.eval]) (HR2.out _) ?_))
        go_end0
        have hHV := HVS.out
        rw [HN.out] at hHV
        subst hHV
        have e0 : (rowC wE (s.waits.drop c)) = [] := by rw [List.drop_eq_nil_of_le (by rw [HN.out]; omega)]; rfl
        exact ⟨rfl, (HT2.out.mono (by intro z hz; simp at hz; subst hz; simp [fr, Value.ownBlock])).set (.inl (by simp [fr])) _, (.slice (some ⟨q, o, none⟩) 0 0), lnx_setV (ws := s.waits.drop c) (n := 0) (V' := .slice (some ⟨q, o, none⟩) 0 0) H.out (HT2.out.mono (by simp [Value.ownBlock])) (by rw [List.length_drop, HN.out]; omega) (by rw [e0]; exact HO3.out) (fun q hq => .inl hq) (fun q hq => hq) (fun q hq => .inl hq) (fun z hz => (H.out.lf z hz).2.1) (fun x hx => (H.out.lw x (List.mem_of_mem_drop hx)).touch HT2.out (fun z hz y => by simp at y; subst y; exact (H.out.lf _ hz).2.1 rfl)), fun q hq => hq⟩
      · have hck' : c - k ≠ 0 := by omega
        clear hxx hlt hv0 hx0
        go_enter Try.func31, Try.ntmps31
        go_wp2_with (first
          | (go_at_call 29; ((with_reducible refine CF.out.mono ?_); rintro e w1 ⟨rfl, k1, rfl⟩; have c41 : (W.drewN k1).cell? ⟨g, 4, none⟩ = some (.slice (some ⟨q, o, none⟩) n c) := c4; obtain ⟨w2, hr2, ho2, ho3, ht2, c42, f42⟩ := HCL.out k1; have HR2 := Lib.hid hr2; have HO2 := Lib.hid ho2; have HO3 := Lib.hid ho3; have HT2 := Lib.hid ht2; clear hr2 ho2 ho3 ht2))
          | (refine wpList_clear_run _ rfl _ 73 rfl (.slice (some ⟨q, o, none⟩) k c) (by simp [Act.eval]) (HR2.out _) ?_))
        go_end0
        have hHV := HVS.out
        rw [HN.out] at hHV
        subst hHV
        exact ⟨rfl, (HT2.out.mono (by intro z hz; simp at hz; subst hz; simp [fr, Value.ownBlock])).set (.inl (by simp [fr])) _, (.slice (some ⟨q, o + k * 22, none⟩) (n - k) (c - k)), lnx_setV (ws := s.waits.drop k) (n := n - k) (V' := .slice (some ⟨q, o + k * 22, none⟩) (n - k) (c - k)) H.out (HT2.out.mono (by simp [Value.ownBlock])) (by rw [List.length_drop, HN.out]) (by rw [← rowC_drop wE_size]; exact HO2.out) (fun q hq => .inl hq) (fun q hq => hq) (fun q hq => .inl hq) (fun z hz => (H.out.lf z hz).2.1) (fun x hx => (H.out.lw x (List.mem_of_mem_drop hx)).touch HT2.out (fun z hz y => by simp at y; subst y; exact (H.out.lf _ hz).2.1 rfl)), fun q hq => hq⟩
end Go.Proofs.Ytfemdfidfomchaa
