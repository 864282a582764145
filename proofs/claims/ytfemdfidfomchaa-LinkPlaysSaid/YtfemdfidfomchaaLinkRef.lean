/-
  The document's own link in memory, and the place of what it keeps.
-/
import Derived.Test.YtfemdfidfomchaaLinkFind
namespace Go.Proofs.Ytfemdfidfomchaa
open Go.RowKit

/-- what the document's link knows: what waits (number, tick, letter), what is kept -/
structure RL where
  me : Int
  peer : Int
  sent : Nat
  out : List (Nat × Nat × LR)
  came : Nat
  kept : List PR
  now : Nat
abbrev oE (x : Nat × Nat × LR) : Array Value := #[.int .i64 (x.1 : Nat), .int .i64 (x.2.1 : Nat), .int .i64 x.2.2.l.k, .int .i64 x.2.2.l.f, .int .i64 x.2.2.l.t, .int .i64 x.2.2.l.i, .int .i64 x.2.2.l.op, .string x.2.2.l.key, .string x.2.2.l.val, .string x.2.2.l.kto, .int .i64 x.2.2.l.most, .int .i64 x.2.2.l.er, .string x.2.2.l.tv, x.2.2.a, .bool x.2.2.l.more, .string x.2.2.l.nx, .int .i64 x.2.2.l.tn, .int .u64 (x.2.2.l.af : Nat), .int .u64 (x.2.2.l.au : Nat), .int .i64 x.2.2.l.ep, x.2.2.b, .int .i64 x.2.2.l.n, .int .i64 x.2.2.l.nd]
abbrev rlCells (s : RL) (V K : Value) : Array Value := #[.int .i64 s.me, .int .i64 s.peer, .int .i64 (s.sent : Nat), V, .int .i64 (s.came : Nat), K, .int .i64 (s.now : Nat)]
structure RLX (W : World) (g : Nat) (s : RL) (V K : Value) : Prop where
  hg : W.heap[g]? = some (.cells (rlCells s V K) 30)
  v : W.ownsRow 0 83 23 V s.out.length (rowC oE s.out)
  k : W.ownsRow 0 53 25 K s.kept.length (rowC PR.cells s.kept)
  gv : ∀ q, V.ownBlock = some q → q ≠ g
  gk : ∀ q, K.ownBlock = some q → q ≠ g
  vk : ∀ q, V.ownBlock = some q → K.ownBlock ≠ some q
/-- the place of a kept packet -/
def keptAt (ks : List PR) (q : Int) : Int := match ks.findIdx? (fun p => p.s == q) with
  | some i => (i : Nat)
  | none => -1
theorem keptAt_hit {ks : List PR} {q : Int} {i : Nat} {p : PR} (h : ks[i]? = some p) (hp : p.s = q) (hb : ∀ (j : Nat) (p : PR), j < i → ks[j]? = some p → p.s ≠ q) : keptAt ks q = (i : Nat) := by
  have : ks.findIdx? (fun p => p.s == q) = some i := by
    rw [List.findIdx?_eq_some_iff_getElem]
    obtain ⟨hi, hv⟩ := List.getElem?_eq_some_iff.1 h
    refine ⟨hi, by rw [hv]; simpa using hp, fun j hj => ?_⟩
    have := hb j _ hj (List.getElem?_eq_getElem (by omega))
    simpa using this
  unfold keptAt
  rw [this]
theorem keptAt_none {ks : List PR} {q : Int} (hb : ∀ (j : Nat) (p : PR), ks[j]? = some p → p.s ≠ q) : keptAt ks q = -1 := by
  have : ks.findIdx? (fun p => p.s == q) = none := by
    rw [List.findIdx?_eq_none_iff]
    intro p hp
    obtain ⟨j, hj⟩ := List.mem_iff_getElem?.1 hp
    have := hb j p hj
    simpa using this
  unfold keptAt
  rw [this]
set_option maxRecDepth 20000 in
set_option maxHeartbeats 1000000 in
theorem refKept_any {W : World} {g : Nat} {s : RL} {V K : Value} (h : RLX W g s V K) (hb : s.kept.length ≤ 1000000) (q : Int) :
    Calls Try.prog 34 #[.pointer (some ⟨g, 0, none⟩), .int .i64 q] W fun e w' => e = .returned (.int .i64 (keptAt s.kept q)) ∧ w' = W := by
  obtain ⟨n, hn⟩ : ∃ n, s.kept.length = n := ⟨_, rfl⟩
  have hk := h.k
  rw [hn] at hk hb
  obtain ⟨A, c, rfl⟩ := own_slice hk
  have c5 : W.cell? ⟨g, 5, none⟩ = some (.slice A n c) := bg_cell h.hg rfl
  have hat : ∀ i, i < n → ∃ b p, A = some ⟨b, 0, none⟩ ∧ s.kept[i]? = some p ∧ W.cell? ⟨b, i * 25 + 2, none⟩ = some (.int .i64 p.s) := fun i hi => by
    obtain ⟨b, rfl⟩ := lk_at hk (by omega)
    have hp : s.kept[i]? = some (s.kept[i]'(by omega)) := List.getElem?_eq_getElem _
    refine ⟨b, _, rfl, hp, ?_⟩
    have hl := hk.1
    rw [hk.cellAt (i * 25 + 2) (by omega), rowC_get pE_size _ i 2 _ hp (by decide)]
    rfl
  have HAT := Lib.hid hat
  have HN := Lib.hid hn
  clear h hk hat hn
  go_enter Try.func34, Try.ntmps34
  go_wp2
  go_loopg [5] (n + 1) (fun gh s5 wx => ∃ i : Nat, i + gh = n + 1 ∧ i ≤ n ∧ s5 = .int .i64 (i : Nat) ∧ Hid (∀ (j : Nat) (p : PR), j < i → s.kept[j]? = some p → p.s ≠ q) ∧ wx = W)
  case atStart => exact ⟨0, by omega, by omega, rfl, fun j p hj => by omega, rfl⟩
  case round =>
    obtain ⟨i, hig, hi, rfl, HB, rfl⟩ := hrel
    by_cases hlt : i < n
    · have ii : (i : Int) < (n : Int) := by omega
      obtain ⟨b, p, rfl, hp, hc⟩ := HAT.out i hlt
      have HP := Lib.hid hp
      clear hp
      by_cases hq : p.s = q
      · have HQ := Lib.hid hq
        have t1 : (p.s == q) = true := by simpa using hq
        clear hq
        go_wp2
        go_ret
        exact ⟨by rw [keptAt_hit HP.out HQ.out HB.out]; rfl, rfl⟩
      · have HQ := Lib.hid hq
        have t1 : (p.s == q) = false := by simpa using hq
        clear hq
        go_wp2
        go_roundg (gk - 1)
        case measure => omega
        case rel =>
          refine ⟨i + 1, by omega, by omega, by go_num, fun j p' hj hp' => ?_, rfl⟩
          rcases Nat.lt_succ_iff_lt_or_eq.1 hj with z | rfl
          · exact HB.out j p' z hp'
          · have e := HP.out.symm.trans hp'
            injection e with e
            subst e
            exact HQ.out
    · have hin : n = i := by omega
      subst hin
      have d9 : decide ((n : Int) < (n : Int)) = false := by simp
      go_wp2
      go_ret
      refine ⟨by rw [keptAt_none (fun j p hp => HB.out j p (by obtain ⟨h1, _⟩ := List.getElem?_eq_some_iff.1 hp; have h2 := HN.out; omega) hp)]; rfl, rfl⟩
end Go.Proofs.Ytfemdfidfomchaa
