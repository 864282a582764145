/-
  The walks of arc.Pieces and arc.In.
  What a gate keeps: what is shut, and the pointers with their ages (no program is met here).
  Plain facts on texts as lists of bytes: the big number of their first bytes, their order, the least text of a number. No program is named here.
  Small words for every walk of this seat: a text made of a row of bytes that the call owns; a closed fact on the bytes' type.
  The walks of package key, and of the document's own answers to it: what each call answers, as a plain function of lists of bytes.
  What a call that writes to one block of the caller's own leaves of the world; a reader's two cells.
-/
import Derived.Test.YthgndgoljchnfaaGreatHg01
import Derived.Test.YthgndgoljchnfaaGreatRows
import Derived.WalkKit
import Derived.Lib.Strings
import Derived.WalkSpells
import Derived.WalkLawsBesides
import Derived.Deep.LoopGhost
import Derived.Laws.IdiomStrings
import Derived.Laws.BitsAllLaws
import Derived.Lib.Hide
namespace Go.Proofs.YthgndgoljchnfaaGreat
open Go.RowKit

/-- a slice of an arc's pieces, at the head of a block of its own -/
def PiecesAt (w w' : World) (f t : Nat) (e : Ending) : Prop :=
  ∃ g, w.heap.size ≤ g ∧ g < w'.heap.size ∧ e = .returned (.slice (some ⟨g, 0, none⟩) (pN f t) (pN f t)) ∧ (∀ k, k < pN f t → w'.cell? ⟨g, k * 2, none⟩ = some (.int .u64 (pF f t k : Nat)) ∧ w'.cell? ⟨g, k * 2 + 1, none⟩ = some (.int .u64 (pT f t k : Nat))) ∧ Below w.heap.size w w'

theorem pieces_one {w : World} {f t : Nat} {o : Obj} (h : oneB f t = true) :
    PiecesAt w ((w.alloc o).alloc (.cells #[.int .u64 (f : Nat), .int .u64 (t : Nat)] 25)) f t (.returned (.slice (some ⟨w.heap.size + 1, 0, none⟩) 1 1)) := by
  have hn : pN f t = 1 := by simp [pN, h]
  refine ⟨w.heap.size + 1, by omega, by simp, by rw [hn], fun k hk => ?_, below2 w _ _⟩
  obtain rfl : k = 0 := by omega
  have h1 : pF f t 0 = f := by simp [pF]
  have h2 : pT f t 0 = t := by simp [pT, h]
  rw [h1, h2]
  constructor <;> go_simp
theorem pieces_two {w : World} {f t : Nat} {o : Obj} (h : oneB f t = false) :
    PiecesAt w ((w.alloc o).alloc (.cells #[.int .u64 (f : Nat), .int .u64 0, .int .u64 0, .int .u64 (t : Nat)] 25)) f t (.returned (.slice (some ⟨w.heap.size + 1, 0, none⟩) 2 2)) := by
  have hn : pN f t = 2 := by simp [pN, h]
  refine ⟨w.heap.size + 1, by omega, by simp, by rw [hn], fun k hk => ?_, below2 w _ _⟩
  have h1 : pF f t 0 = f := by simp [pF]
  have h2 : pT f t 0 = 0 := by simp [pT, h]
  have h3 : pF f t 1 = 0 := by simp [pF]
  have h4 : pT f t 1 = t := by simp [pT]
  obtain rfl | rfl : k = 0 ∨ k = 1 := by omega
  · rw [h1, h2]
    constructor <;> go_simp <;> rfl
  · rw [h3, h4]
    constructor <;> go_simp <;> rfl

set_option maxHeartbeats 400000 in
theorem pieces_any (f t : Nat) (w : World) :
    Calls Tryz.prog 55 #[.agg #[.int .u64 f, .int .u64 t]] w fun e w' => PiecesAt w w' f t e := by
  by_cases h0 : t = 0
  · have HO := Lib.hid (show oneB f t = true by simp [oneB, h0])
    have b1 : ((t : Int) == 0) = true := by rw [beq_iff_eq]; omega
    clear h0
    go_enter Tryz.func55, Tryz.ntmps55
    go_wp2
    go_ret
    exact pieces_one HO.out
  · have b1 : ((t : Int) == 0) = false := by rw [beq_eq_false_iff_ne]; omega
    by_cases h1 : f < t
    · have HO := Lib.hid (show oneB f t = true by simp [oneB, h1])
      have b2 : decide (f < t) = true := by simp; omega
      clear h0 h1
      go_enter Tryz.func55, Tryz.ntmps55
      go_wp2
      go_ret
      exact pieces_one HO.out
    · have HO := Lib.hid (show oneB f t = false by simp [oneB, h1, h0])
      have b2 : decide (f < t) = false := by simp; omega
      clear h0 h1
      go_enter Tryz.func55, Tryz.ntmps55
      go_wp2
      go_ret
      exact pieces_two HO.out

/-- x lies in one of the pieces from k on -/
def fromB (f t x k : Nat) : Bool := (List.range (pN f t - k)).any fun i => pieceB (pF f t (k + i)) (pT f t (k + i)) x
theorem from_end (f t x : Nat) : fromB f t x (pN f t) = false := by simp [fromB]
theorem from_step (f t x k : Nat) (h : k < pN f t) : fromB f t x k = (pieceB (pF f t k) (pT f t k) x || fromB f t x (k + 1)) := by
  unfold fromB
  obtain ⟨m, hm⟩ : ∃ m, pN f t - k = m + 1 := ⟨pN f t - k - 1, by omega⟩
  rw [hm, show pN f t - (k + 1) = m by omega, List.range_succ_eq_map, List.any_cons, List.any_map]
  congr 2
  funext i
  simp only [Function.comp]
  rw [show k + (i + 1) = k + 1 + i by omega]
theorem from_all (f t x : Nat) (hf : f < 18446744073709551616) (ht : t < 18446744073709551616) (hx : x < 18446744073709551616) : fromB f t x 0 = inB f t x := by
  by_cases h : oneB f t = true
  · have hn : pN f t = 1 := by simp [pN, h]
    rw [from_step _ _ _ _ (by omega), show (0 + 1) = pN f t by omega, from_end]
    simp only [pF, pT, h, if_true, Bool.or_false, pieceB, inB]
    simp only [oneB, Bool.or_eq_true, beq_iff_eq, decide_eq_true_eq] at h
    rw [Bool.eq_iff_iff]
    simp only [Bool.and_eq_true, Bool.or_eq_true, beq_iff_eq, decide_eq_true_eq]
    have c1 := sub64_cases hx hf
    have c2 := sub64_cases ht hf
    generalize sub64 x f = p at *
    generalize sub64 t f = q at *
    constructor
    · intro g; omega
    · intro g; omega
  · have h : oneB f t = false := by simpa using h
    have hn : pN f t = 2 := by simp [pN, h]
    rw [from_step _ _ _ _ (by omega), from_step _ _ _ _ (by omega), show (0 + 1 + 1) = pN f t by omega, from_end]
    simp [pF, pT, h, pieceB, inB]
    simp only [oneB, Bool.or_eq_false_iff, beq_eq_false_iff_ne, decide_eq_false_iff_not] at h
    rw [Bool.eq_iff_iff]
    simp only [Bool.or_eq_true, beq_iff_eq, decide_eq_true_eq]
    have c1 := sub64_cases hx hf
    have c2 := sub64_cases ht hf
    generalize sub64 x f = p at *
    generalize sub64 t f = q at *
    constructor
    · intro g; omega
    · intro g; omega
theorem pN_le (f t : Nat) : pN f t ≤ 2 := by unfold pN; split <;> omega
theorem from_yes {f t x k : Nat} (h : k < pN f t) (h2 : pieceB (pF f t k) (pT f t k) x = true) : fromB f t x k = true := by rw [from_step _ _ _ _ h, h2]; rfl
theorem from_no {f t x k : Nat} (h : k < pN f t) (h2 : pieceB (pF f t k) (pT f t k) x = false) : fromB f t x k = fromB f t x (k + 1) := by rw [from_step _ _ _ _ h, h2]; rfl
/-- the round's case, its facts in the walk's own spelling -/
theorem piece_cases (F T x : Nat) : (decide (x < F) = true ∧ pieceB F T x = false) ∨ (decide (x < F) = false ∧ ((T : Int) == 0) = true ∧ pieceB F T x = true) ∨
    (decide (x < F) = false ∧ ((T : Int) == 0) = false ∧ decide (x < T) = true ∧ pieceB F T x = true) ∨ (decide (x < F) = false ∧ ((T : Int) == 0) = false ∧ decide (x < T) = false ∧ pieceB F T x = false) := by
  have e : ((T : Int) == 0) = (T == 0) := nat_beq T 0
  rw [e]
  by_cases h1 : x < F
  · exact .inl ⟨by simp [h1], by simp [pieceB]; omega⟩
  · by_cases h2 : T = 0
    · exact .inr (.inl ⟨by simp; omega, by simp [h2], by simp [pieceB, h2]; omega⟩)
    · by_cases h3 : x < T
      · exact .inr (.inr (.inl ⟨by simp; omega, by simp [h2], by simp [h3], by simp [pieceB, h3]; omega⟩))
      · exact .inr (.inr (.inr ⟨by simp; omega, by simp [h2], by simp; omega, by simp [pieceB]; omega⟩))

set_option maxHeartbeats 400000 in
theorem in_any (f t x : Nat) (w : World) (hf : f < 18446744073709551616) (ht : t < 18446744073709551616) (hx : x < 18446744073709551616) :
    Calls Tryz.prog 21 #[.agg #[.int .u64 f, .int .u64 t], .int .u64 x] w fun e w' => e = .returned (.bool (inB f t x)) ∧ Below w.heap.size w w' := by
  have HA := Lib.hid (from_all f t x hf ht hx)
  have hn := pN_le f t
  generalize inB f t x = ans at *
  clear hf ht hx
  go_enter Tryz.func21, Tryz.ntmps21
  go_wp2
  go_step3
  go_wp2
  go_step3
  go_wp2_with (go_at_call 55; refine (pieces_any f t _).mono ?_; rintro e w1 ⟨g, hg0, hg1, rfl, hcell, hb1⟩)
  have HC := Lib.hid hcell
  have HB := Lib.hid hb1
  have HG := Lib.hid hg0
  clear hcell hb1 hg0
  generalize hnn : pN f t = n at *
  have HN := Lib.hid hnn
  clear hnn
  go_loopg [5, 11] 3 (fun z s5 s11 wx => ∃ (k : Nat), k + z = 3 ∧ k ≤ n ∧ s5 = .bool false ∧ s11 = .int .i64 k ∧ Hid (fromB f t x k = ans) ∧ Below w1.heap.size w1 wx)
  case atStart => exact ⟨0, by omega, by omega, rfl, rfl, HA, Below.refl _ _⟩
  case round =>
    obtain ⟨k, hkz, hkn, rfl, rfl, HK, hbk⟩ := hrel
    have hbz := hbk.size
    by_cases hk : k < n
    · have b0 : decide (k < n) = true := by simp; omega
      obtain ⟨h1, h2⟩ := HC.out k (by omega)
      have hc1 : wr.cell? ⟨g, k * 2, none⟩ = some (.int .u64 (pF f t k : Nat)) := (hbk.cell (p := ⟨g, k * 2, none⟩) hg1).trans h1
      have hc2 : wr.cell? ⟨g, k * 2 + 1, none⟩ = some (.int .u64 (pT f t k : Nat)) := (hbk.cell (p := ⟨g, k * 2 + 1, none⟩) hg1).trans h2
      clear h1 h2
      have hcase := piece_cases (pF f t k) (pT f t k) x
      have HY := Lib.hid fun h => from_yes (f := f) (t := t) (x := x) (k := k) (by have := HN.out; omega) h
      have HO := Lib.hid fun h => from_no (f := f) (t := t) (x := x) (k := k) (by have := HN.out; omega) h
      generalize pF f t k = F at *
      generalize pT f t k = T at *
      have HBK := Lib.hid hbk
      clear hbk
      have HE := Lib.hid (((((Below.refl w.heap.size w).alloc (Nat.le_refl _) (.cells #[.int .u64 (f : Nat), .int .u64 (t : Nat)] 25)).trans (HB.out.mono (by simp))).trans (HBK.out.mono (by have := HB.out.size; simp at this; omega))).alloc (by have := HB.out.size; simp at this; omega) (.cells #[.int .u64 (F : Nat), .int .u64 (T : Nat)] 25))
      rcases hcase with ⟨d1, hp⟩ | ⟨d1, d2, hp⟩ | ⟨d1, d2, d3, hp⟩ | ⟨d1, d2, d3, hp⟩
      all_goals
        have HP := Lib.hid hp
        clear hp
      ·
        go_wp2
        go_roundg (gk - 1)
        case measure => omega
        case rel => exact ⟨k + 1, by omega, by omega, rfl, by go_num, (HO.out HP.out).symm.trans HK.out, HBK.out.alloc (Nat.le_trans (Nat.le_refl _) hbz) _⟩
      ·
        have e : ans = true := by rw [← HK.out]; exact HY.out HP.out
        have HR := Lib.hid e
        clear e HP HY HO HK
        go_wp2
        rw [Exit.noGoto_ret]
        go_ret
        exact ⟨by rw [HR.out]; rfl, HE.out⟩
      ·
        have e : ans = true := by rw [← HK.out]; exact HY.out HP.out
        have HR := Lib.hid e
        clear e HP HY HO HK
        go_wp2
        rw [Exit.noGoto_ret]
        go_ret
        exact ⟨by rw [HR.out]; rfl, HE.out⟩
      ·
        go_wp2
        go_roundg (gk - 1)
        case measure => omega
        case rel => exact ⟨k + 1, by omega, by omega, rfl, by go_num, (HO.out HP.out).symm.trans HK.out, HBK.out.alloc (Nat.le_trans (Nat.le_refl _) hbz) _⟩
    · obtain rfl : k = n := by omega
      have e : ans = false := by rw [← HK.out, ← HN.out]; exact from_end _ _ _
      have HR := Lib.hid e
      have b0 : decide (k < k) = false := by simp
      have HE := Lib.hid ((((Below.refl w.heap.size w).alloc (Nat.le_refl _) (.cells #[.int .u64 (f : Nat), .int .u64 (t : Nat)] 25)).trans (HB.out.mono (by simp))).trans (hbk.mono (by have := HB.out.size; simp at this; omega)))
      clear e HK hbk
      go_wp2
      rw [Exit.noGoto_ret]
      go_ret
      exact ⟨by rw [HR.out]; rfl, HE.out⟩
end Go.Proofs.YthgndgoljchnfaaGreat
namespace Go.Proofs.YthgndgoljchnfaaGreat
open Go.RowKit

/-- a pointer: its arc, its node, how old it is -/
structure GP where
  f : Nat
  t : Nat
  n : Int
  g : Nat
/-- a gate: is something shut, what; the pointers; how many ticks went by -/
structure GS where
  shut : Bool
  f : Nat
  t : Nat
  l : List GP
  k : Nat
abbrev G0 : GS := ⟨false, 0, 0, [], 0⟩
def agedL (l : List GP) : List GP := (l.map fun p => (⟨p.f, p.t, p.n, p.g + 1⟩ : GP)).filter fun p => decide (p.g < 40)
def GS.freeze (s : GS) (f t : Nat) : GS := if s.shut then s else ⟨true, f, t, s.l, s.k⟩
def GS.thaw (s : GS) : GS := ⟨false, 0, 0, s.l, s.k⟩
def GS.point (s : GS) (f t : Nat) (n : Int) : GS := ⟨s.shut, s.f, s.t, s.l ++ [⟨f, t, n, 0⟩], s.k⟩
def GS.tick (s : GS) : GS := ⟨s.shut, s.f, s.t, agedL s.l, s.k + 1⟩
def GS.frozen (s : GS) (x : Nat) : Bool := s.shut && inB s.f s.t x
/-- the pointer that was set last, of those over x -/
def overL (l : List GP) (x : Nat) : Option Int := (l.reverse.find? fun p => inB p.f p.t x).map (·.n)
def whereV (o : Option Int) : Value := .tuple #[.int .i64 (o.getD 0), .bool o.isSome]
theorem overL_snoc (l : List GP) (p : GP) (x : Nat) : overL (l ++ [p]) x = if inB p.f p.t x then some p.n else overL l x := by
  unfold overL
  rw [List.reverse_append, List.reverse_singleton, List.singleton_append, List.find?_cons]
  cases inB p.f p.t x <;> rfl
theorem agedL_append (a b : List GP) : agedL (a ++ b) = agedL a ++ agedL b := by simp [agedL]
theorem agedL_one (f t : Nat) (n : Int) (g : Nat) : agedL [⟨f, t, n, g⟩] = if g + 1 < 40 then [⟨f, t, n, g + 1⟩] else [] := by
  unfold agedL
  by_cases h : g + 1 < 40 <;> simp [h]
theorem agedL_len (l : List GP) : (agedL l).length ≤ l.length := by
  unfold agedL
  have := List.length_filter_le (fun p : GP => decide (p.g < 40)) (l.map fun p => (⟨p.f, p.t, p.n, p.g + 1⟩ : GP))
  rw [List.length_map] at this
  exact this
/-- a pointer by itself, some ticks later -/
def oneL (f t : Nat) (n : Int) (k : Nat) : List GP := if k < 40 then [⟨f, t, n, k⟩] else []
theorem oneL_tick (f t : Nat) (n : Int) (k : Nat) : agedL (oneL f t n k) = oneL f t n (k + 1) := by
  unfold oneL
  by_cases h : k < 40
  · rw [if_pos h, agedL_one]
  · rw [if_neg h, if_neg (by omega)]
    rfl
end Go.Proofs.YthgndgoljchnfaaGreat
namespace Go.Proofs.YthgndgoljchnfaaGreat

/-- byte k of a text, 0 behind its end -/
def byteAt (l : List UInt8) (k : Nat) : Nat := (l[k]?.getD 0).toNat
/-- the big number of the first k bytes -/
def accN (l : List UInt8) : Nat → Nat
  | 0 => 0
  | k + 1 => accN l k * 256 + byteAt l k
/-- the same, from the front -/
def valN : Nat → List UInt8 → Nat
  | 0, _ => 0
  | _ + 1, [] => 0
  | n + 1, x :: xs => x.toNat * 256 ^ n + valN n xs

theorem byteAt_lt (l : List UInt8) (k : Nat) : byteAt l k < 256 := (l[k]?.getD 0).toNat_lt
theorem byteAt_get {l : List UInt8} {k : Nat} (h : k < l.length) : byteAt l k = (l[k]).toNat := by
  simp [byteAt, List.getElem?_eq_getElem h]
theorem byteAt_end {l : List UInt8} {k : Nat} (h : l.length ≤ k) : byteAt l k = 0 := by
  simp [byteAt, List.getElem?_eq_none h]
theorem accN_lt (l : List UInt8) : ∀ k, accN l k < 256 ^ k
  | 0 => by simp [accN]
  | k + 1 => by
    have h := accN_lt l k
    have hb := byteAt_lt l k
    rw [accN, Nat.pow_succ]
    omega
theorem accN_end {l : List UInt8} {k : Nat} (h : l.length ≤ k) : ∀ j, accN l (k + j) = accN l k * 256 ^ j
  | 0 => by simp
  | j + 1 => by
    rw [← Nat.add_assoc, accN, accN_end h j, byteAt_end (by omega), Nat.pow_succ, Nat.mul_assoc, Nat.add_zero]
theorem accN_full {l : List UInt8} {k : Nat} (h : l.length ≤ k) (h8 : k ≤ 8) : accN l k * 256 ^ (8 - k) = accN l 8 := by
  rw [← accN_end h]
  congr 1
  omega
theorem accN_nil : ∀ k, accN [] k = 0
  | 0 => rfl
  | k + 1 => by simp [accN, accN_nil k, byteAt]
theorem accN_cons (x : UInt8) (xs : List UInt8) : ∀ k, accN (x :: xs) (k + 1) = x.toNat * 256 ^ k + accN xs k
  | 0 => by simp [accN, byteAt]
  | k + 1 => by
    rw [accN, accN_cons x xs k, accN]
    have e : byteAt (x :: xs) (k + 1) = byteAt xs k := by simp [byteAt]
    rw [e, Nat.add_mul, Nat.pow_succ, Nat.mul_assoc, Nat.add_assoc]
theorem accN_val : ∀ (n : Nat) (l : List UInt8), accN l n = valN n l
  | 0, _ => by simp [accN, valN]
  | n + 1, [] => by rw [accN_nil]; rfl
  | n + 1, x :: xs => by rw [accN_cons, accN_val n xs, valN]
theorem valN_lt (n : Nat) (l : List UInt8) : valN n l < 256 ^ n := by rw [← accN_val]; exact accN_lt l n
theorem valN_nil (n : Nat) : valN n [] = 0 := by cases n <;> rfl

/-- one byte more, laid into its place by 'or' -/
theorem or_step {a b k : Nat} (hk : k < 8) (hb : b < 256) : a * 256 ^ (8 - k) ||| b * 2 ^ (8 * (7 - k)) = (a * 256 + b) * 256 ^ (7 - k) := by
  have e1 : 256 ^ (8 - k) = 2 ^ (8 * (8 - k)) := by rw [Nat.pow_mul]
  have e2 : 256 ^ (7 - k) = 2 ^ (8 * (7 - k)) := by rw [Nat.pow_mul]
  have e3 : 2 ^ (8 * (8 - k)) = 256 * 2 ^ (8 * (7 - k)) := by
    have : 8 * (8 - k) = 8 + 8 * (7 - k) := by omega
    rw [this, Nat.pow_add]
  have hlt : b * 2 ^ (8 * (7 - k)) < 2 ^ (8 * (8 - k)) := by
    rw [e3]
    exact Nat.mul_lt_mul_of_pos_right hb (Nat.two_pow_pos _)
  rw [e1, e2, Nat.mul_comm a, ← Nat.two_pow_add_eq_or_of_lt hlt, e3, Nat.add_mul]
  congr 1
  rw [Nat.mul_comm, ← Nat.mul_assoc]

/-! ### the order of texts -/
theorem less_nil (l : List UInt8) : Op.bytesLess l [] = false := by cases l <;> rfl
theorem less_cons (x y : UInt8) (xs ys : List UInt8) : Op.bytesLess (x :: xs) (y :: ys) = (decide (x < y) || (x == y && Op.bytesLess xs ys)) := rfl
theorem less_cons_iff (x y : UInt8) (xs ys : List UInt8) : Op.bytesLess (x :: xs) (y :: ys) = true ↔ x.toNat < y.toNat ∨ (x = y ∧ Op.bytesLess xs ys = true) := by
  rw [less_cons]
  simp [UInt8.lt_iff_toNat_lt]
theorem less_irrefl : ∀ l : List UInt8, Op.bytesLess l l = false
  | [] => rfl
  | x :: xs => by rw [less_cons, less_irrefl xs]; simp
theorem less_asymm : ∀ a b : List UInt8, Op.bytesLess a b = true → Op.bytesLess b a = false
  | _, [], h => by rw [less_nil] at h; cases h
  | [], _ :: _, _ => rfl
  | x :: xs, y :: ys, h => by
    rw [less_cons_iff] at h
    rcases h with h | ⟨rfl, h⟩
    · rw [less_cons]
      have h1 : ¬ y < x := by rw [UInt8.lt_iff_toNat_lt]; omega
      have h2 : y ≠ x := by rintro rfl; omega
      simp [h1, h2]
    · rw [less_cons, less_asymm xs ys h]; simp
theorem less_trans : ∀ a b c : List UInt8, Op.bytesLess a b = true → Op.bytesLess b c = true → Op.bytesLess a c = true
  | _, [], _, h, _ => by rw [less_nil] at h; cases h
  | _, _ :: _, [], _, h => by rw [less_nil] at h; cases h
  | [], _ :: _, _ :: _, _, _ => rfl
  | x :: xs, y :: ys, z :: zs, h, k => by
    rw [less_cons_iff] at h k ⊢
    rcases h with h | ⟨rfl, h⟩
    · rcases k with k | ⟨rfl, k⟩
      · exact .inl (by omega)
      · exact .inl h
    · rcases k with k | ⟨rfl, k⟩
      · exact .inl k
      · exact .inr ⟨rfl, less_trans xs ys zs h k⟩
theorem less_total : ∀ a b : List UInt8, a ≠ b → Op.bytesLess a b = true ∨ Op.bytesLess b a = true
  | [], [], h => absurd rfl h
  | [], _ :: _, _ => .inl rfl
  | _ :: _, [], _ => .inr rfl
  | x :: xs, y :: ys, h => by
    rw [less_cons_iff, less_cons_iff]
    by_cases hxy : x = y
    · subst hxy
      rcases less_total xs ys (fun e => h (by rw [e])) with k | k
      · exact .inl (.inr ⟨rfl, k⟩)
      · exact .inr (.inr ⟨rfl, k⟩)
    · have : x.toNat ≠ y.toNat := fun e => hxy (UInt8.toNat_inj.1 e)
      rcases Nat.lt_or_gt_of_ne this with k | k
      · exact .inl (.inl k)
      · exact .inr (.inl k)
/-- the order of texts goes with that of their numbers -/
theorem less_val : ∀ (n : Nat) (a b : List UInt8), Op.bytesLess a b = true → valN n a ≤ valN n b
  | 0, _, _, _ => by simp [valN]
  | n + 1, _, [], h => by rw [less_nil] at h; cases h
  | n + 1, [], _ :: _, _ => by simp [valN]
  | n + 1, x :: xs, y :: ys, h => by
    rw [less_cons_iff] at h
    simp only [valN]
    rcases h with h | ⟨rfl, h⟩
    · have h1 := valN_lt n xs
      have h2 : (x.toNat + 1) * 256 ^ n ≤ y.toNat * 256 ^ n := Nat.mul_le_mul_right _ h
      rw [Nat.add_mul] at h2
      omega
    · have := less_val n xs ys h
      omega
theorem val_less (n : Nat) (a b : List UInt8) (h : valN n a < valN n b) : Op.bytesLess a b = true := by
  by_cases e : a = b
  · subst e; omega
  · rcases less_total a b e with k | k
    · exact k
    · have := less_val n b a k
      omega
/-! ### the least text of a number -/
/-- no byte 0 at its end -/
def bare : List UInt8 → Bool
  | [] => true
  | [x] => x != 0
  | _ :: y :: ys => bare (y :: ys)
theorem bare_tail {x : UInt8} {xs : List UInt8} (h : bare (x :: xs) = true) : bare xs = true := by
  cases xs with
  | nil => rfl
  | cons y ys => exact h
theorem bare_pos : ∀ (n : Nat) (l : List UInt8), l.length ≤ n → l ≠ [] → bare l = true → 0 < valN n l
  | 0, [], _, h, _ => absurd rfl h
  | 0, _ :: _, h, _, _ => by simp at h
  | _ + 1, [], _, h, _ => absurd rfl h
  | n + 1, [x], _, _, hb => by
    have hx : x ≠ 0 := by simpa [bare] using hb
    have : 0 < x.toNat := Nat.pos_of_ne_zero fun e => hx (UInt8.toNat_inj.1 e)
    have h2 : 0 < 256 ^ n := Nat.pow_pos (by omega)
    have := Nat.mul_pos this h2
    simp only [valN]
    omega
  | n + 1, x :: y :: ys, hl, _, hb => by
    have := bare_pos n (y :: ys) (by simpa using hl) (by simp) hb
    simp only [valN]
    omega
/-- a bare text is the least one of its number -/
theorem bare_least : ∀ (n : Nat) (a f : List UInt8), f.length ≤ n → bare f = true → valN n f ≤ valN n a → Op.bytesLess a f = false
  | _, _, [], _, _, _ => less_nil _
  | 0, _, _ :: _, h, _, _ => by simp at h
  | n + 1, [], y :: ys, hl, hb, hv => by
    have := bare_pos (n + 1) (y :: ys) hl (by simp) hb
    rw [valN_nil] at hv
    omega
  | n + 1, x :: xs, y :: ys, hl, hb, hv => by
    cases h : Op.bytesLess (x :: xs) (y :: ys) with
    | false => rfl
    | true =>
      exfalso
      rw [less_cons_iff] at h
      simp only [valN] at hv
      rcases h with h | ⟨rfl, h⟩
      · have h1 := valN_lt n xs
        have h2 : (x.toNat + 1) * 256 ^ n ≤ y.toNat * 256 ^ n := Nat.mul_le_mul_right _ h
        rw [Nat.add_mul] at h2
        omega
      · have := bare_least n xs ys (by simpa using hl) (bare_tail hb) (by omega)
        rw [h] at this
        cases this

/-- the bytes of a number, n of them, the greatest first -/
def wideN : Nat → Nat → List UInt8
  | 0, _ => []
  | n + 1, v => UInt8.ofNat (v / 256 ^ n) :: wideN n v
theorem wideN_length : ∀ n v, (wideN n v).length = n
  | 0, _ => rfl
  | n + 1, v => by simp [wideN, wideN_length n v]
theorem valN_wide : ∀ n v, valN n (wideN n v) = v % 256 ^ n
  | 0, v => by simp [valN, Nat.mod_one]
  | n + 1, v => by
    simp only [wideN, valN, valN_wide n v]
    have h : (UInt8.ofNat (v / 256 ^ n)).toNat = v / 256 ^ n % 256 := by simp
    rw [h, Nat.pow_succ, Nat.mod_mul]
    rw [Nat.mul_comm, Nat.add_comm]
/-- a text without the bytes 0 at its end -/
def stripN : List UInt8 → List UInt8
  | [] => []
  | x :: xs => if stripN xs = [] ∧ x = 0 then [] else x :: stripN xs
theorem stripN_length : ∀ l, (stripN l).length ≤ l.length
  | [] => by simp [stripN]
  | x :: xs => by
    have := stripN_length xs
    simp only [stripN]
    split <;> simp
    omega
theorem stripN_bare : ∀ l, bare (stripN l) = true
  | [] => rfl
  | x :: xs => by
    have ih := stripN_bare xs
    simp only [stripN]
    split
    · rfl
    · rename_i h
      cases e : stripN xs with
      | nil =>
        have : x ≠ 0 := fun hx => h ⟨e, hx⟩
        simpa [bare] using this
      | cons y ys => rw [e] at ih; exact ih
theorem stripN_val : ∀ n l, valN n (stripN l) = valN n l
  | 0, _ => rfl
  | _ + 1, [] => rfl
  | n + 1, x :: xs => by
    have ih := stripN_val n xs
    simp only [stripN]
    split
    · rename_i h
      obtain ⟨h1, rfl⟩ := h
      rw [h1, valN_nil] at ih
      simp [valN, ← ih]
    · simp [valN, ih]
/-- the least text of a point -/
def firstN (x : Nat) : List UInt8 := stripN (wideN 8 x)
theorem firstN_length (x : Nat) : (firstN x).length ≤ 8 := by
  have := stripN_length (wideN 8 x)
  rwa [wideN_length] at this
theorem firstN_val {x : Nat} (h : x < 256 ^ 8) : valN 8 (firstN x) = x := by
  rw [firstN, stripN_val, valN_wide, Nat.mod_eq_of_lt h]
theorem firstN_bare (x : Nat) : bare (firstN x) = true := stripN_bare _

/-- the bytes that shifting x to the left brings up, till it is 0 -/
theorem stripN_wide_zero : ∀ n v, v % 256 ^ n = 0 → stripN (wideN n v) = []
  | 0, _, _ => rfl
  | n + 1, v, h => by
    have h1 : v % 256 ^ n = 0 := by
      rw [Nat.pow_succ] at h
      have := Nat.mod_mul_right_mod v (256 ^ n) 256
      rw [h] at this
      simpa using this.symm
    have h2 : v / 256 ^ n % 256 = 0 := by
      rw [Nat.pow_succ, Nat.mod_mul, h1] at h
      have hp : 0 < 256 ^ n := Nat.pow_pos (by omega)
      rcases Nat.mul_eq_zero.1 (Nat.eq_zero_of_add_eq_zero_left h) with h | h
      · omega
      · exact h
    simp only [wideN, stripN]
    rw [if_pos ⟨stripN_wide_zero n v h1, UInt8.toNat_inj.1 (by simp [h2])⟩]
theorem stripN_wide_pos (n v : Nat) (h : v % 256 ^ (n + 1) ≠ 0) : stripN (wideN (n + 1) v) = UInt8.ofNat (v / 256 ^ n) :: stripN (wideN n v) := by
  simp only [wideN, stripN]
  rw [if_neg]
  rintro ⟨h1, h2⟩
  apply h
  have h3 : v % 256 ^ n = 0 := by
    have := stripN_val n (wideN n v)
    rw [h1, valN_nil, valN_wide] at this
    exact this.symm
  have h4 : v / 256 ^ n % 256 = 0 := by
    have := congrArg UInt8.toNat h2
    simpa using this
  rw [Nat.pow_succ, Nat.mod_mul, h3, h4]
  simp
end Go.Proofs.YthgndgoljchnfaaGreat
namespace Go.Proofs.YthgndgoljchnfaaGreat
open Go.RowKit

/-- a byte as a cell -/
def cell8 (b : UInt8) : Value := .int .u8 (b.toNat : Int)
/-- a text of bytes -/
def txt (l : List UInt8) : ByteArray := ⟨l.toArray⟩
theorem txt_toList (l : List UInt8) : (txt l).toList = l := by rw [Lib.toList_data]; simp [txt]
theorem txt_size (l : List UInt8) : (txt l).size = l.length := by show l.toArray.size = _; simp
theorem txt_of (s : ByteArray) : txt s.data.toList = s := by cases s; simp [txt]
theorem data_length (s : ByteArray) : s.data.toList.length = s.size := rfl
theorem data_append (a b : ByteArray) : (a ++ b).data.toList = a.data.toList ++ b.data.toList := by rw [ByteArray.data_append, Array.toList_append]
theorem size_append (a b : ByteArray) : (a ++ b).size = a.size + b.size := by rw [← data_length, data_append, List.length_append, data_length, data_length]
/-- 'string(b)' of a row that the call owns -/
theorem run_own_string {P : Program} {w : World} {base e : Nat} {A : Option Addr} {n c : Nat} {l : List UInt8} (src dst : TypeId)
    (hown : w.ownsRow base e 1 (.slice A n c) n (l.map cell8)) (hs : P.underlying src = some (.slice e)) (he : P.underlying e = some (.int .u8)) (hd : P.underlying dst = some .string) :
    (convert src dst (.slice A n c)).run P w = .ok (.string (txt l)) w := by
  have hn : l.length = n := by have := hown.1; simpa using this
  rcases A with _ | ad
  · rcases hown.2 with ⟨h0, h1⟩ | ⟨g, cap, cur, h0, _⟩
    · injection h0 with _ h2 h3
      subst h2 h3
      have : l = [] := List.eq_nil_of_length_eq_zero hn
      subst this
      rw [run_convert_bytes_string w src dst e none 0 0 hs he hd]
      rfl
    · cases h0
  · rcases hown.2 with ⟨h0, h1⟩ | ⟨g, cap, cur, h0, hg, hh, _⟩
    · cases h0
    · injection h0 with h1 h2 h3
      injection h1 with h1
      subst h1
      rw [← hn]
      refine run_convert_bytes_back w src dst e _ c l hs he hd (fun j hj => ?_)
      have hc := hown.cells (g := g) rfl j (cell8 l[j]) (by simp [List.getElem?_eq_getElem hj])
      exact hc

theorem own_slice {w : World} {base e size n : Nat} {v : Value} {xs : List Value} (h : w.ownsRow base e size v n xs) : ∃ A c, v = .slice A n c := by
  rcases h.2 with ⟨rfl, rfl⟩ | ⟨g, cap, cur, rfl, _⟩
  · exact ⟨_, _, rfl⟩
  · exact ⟨_, _, rfl⟩
theorem own_below {w w0 : World} {base e size n : Nat} {v : Value} {xs : List Value} (h : w.ownsRow base e size v n xs) (hb : Below base w0 w) (hs : base ≤ w.heap.size) {w' : World} (hg : w.grownBy w' v.ownBlock) : Below base w0 w' :=
  hb.grown hg hs fun k hk => (h.lt k hk).1

theorem infoByte : ∃ i, Tryz.prog.info? 5 = some i ∧ i.zero = some (.int .u8 0) ∧ i.size = 1 ∧ i.bytes = 1 := by
  have h : (Tryz.prog.info? 5).map (fun i => (i.zero, i.size, i.bytes)) = some (some (.int .u8 0), 1, 1) := by kernel_rfl
  obtain ⟨i, hi, hx⟩ := Option.map_eq_some_iff.1 h
  simp only [Prod.mk.injEq] at hx
  exact ⟨i, hi, hx⟩

end Go.Proofs.YthgndgoljchnfaaGreat
namespace Go.Proofs.YthgndgoljchnfaaGreat
open Go.RowKit

def rightN (s : ByteArray) : Int := if s.size = 0 ∨ 16 < s.size then 3 else 0
def valueN (s : ByteArray) : Int := if 16 < s.size then 4 else 0
def addrN (s : ByteArray) : Nat := accN s.data.toList 8

theorem addrN_lt (s : ByteArray) : addrN s < 18446744073709551616 := accN_lt _ 8

set_option maxHeartbeats 400000 in
theorem right_any (s : ByteArray) (w : World) (hs : s.size ≤ maxLen) :
    Calls Tryz.prog 71 #[.string s] w fun e w' => e = .returned (.int .i64 (rightN s)) ∧ w = w' := by
  unfold maxLen at hs
  by_cases h0 : s.size = 0
  · have e : rightN s = 3 := by simp [rightN, h0]
    rw [e]
    have b1 : ((s.size : Int) == 0) = true := by simp [h0]
    go_enter Tryz.func71, Tryz.ntmps71
    go_wp2
    all_goals (go_ret; exact ⟨rfl, rfl⟩)
  · have b1 : ((s.size : Int) == 0) = false := by rw [beq_eq_false_iff_ne]; omega
    by_cases h1 : 16 < s.size
    · have e : rightN s = 3 := by simp [rightN, h1]
      rw [e]
      go_enter Tryz.func71, Tryz.ntmps71
      go_wp2
      all_goals (go_ret; exact ⟨rfl, rfl⟩)
    · have e : rightN s = 0 := by simp [rightN, h1, h0]
      rw [e]
      go_enter Tryz.func71, Tryz.ntmps71
      go_wp2
      all_goals (go_ret; exact ⟨rfl, rfl⟩)

set_option maxHeartbeats 400000 in
theorem value_any (s : ByteArray) (w : World) (hs : s.size ≤ maxLen) :
    Calls Tryz.prog 74 #[.string s] w fun e w' => e = .returned (.int .i64 (valueN s)) ∧ w = w' := by
  unfold maxLen at hs
  by_cases h1 : 16 < s.size
  · have e : valueN s = 4 := by simp [valueN, h1]
    rw [e]
    go_enter Tryz.func74, Tryz.ntmps74
    go_wp2
    all_goals (go_ret; exact ⟨rfl, rfl⟩)
  · have e : valueN s = 0 := by simp [valueN, h1]
    rw [e]
    go_enter Tryz.func74, Tryz.ntmps74
    go_wp2
    all_goals (go_ret; exact ⟨rfl, rfl⟩)



set_option maxHeartbeats 400000 in
theorem less_any (a b : ByteArray) (w : World) :
    Calls Tryz.prog 79 #[.string a, .string b] w fun e w' => e = .returned (.bool (Op.bytesLess a.toList b.toList)) ∧ w = w' := by
  go_enter Tryz.func79, Tryz.ntmps79
  go_wp2
  go_ret
  exact ⟨rfl, rfl⟩


/-- what stands in the point's variable when k bytes have been laid into it -/
def partN (l : List UInt8) (k : Nat) : Nat := accN l k * 256 ^ (8 - k)
theorem partN_lt (l : List UInt8) {k : Nat} (h : k ≤ 8) : partN l k < 18446744073709551616 := by
  have h1 := accN_lt l k
  have h2 : 256 ^ k * 256 ^ (8 - k) = 18446744073709551616 := by rw [← Nat.pow_add, show k + (8 - k) = 8 by omega]
  rw [← h2]
  exact Nat.mul_lt_mul_of_pos_right h1 (Nat.pow_pos (by omega))
theorem part_step {l : List UInt8} {k : Nat} (hk : k < 8) (hl : k < l.length) :
    bits .or .u64 (partN l k : Int) (IntKind.u64.wrap (IntKind.u64.wrap ((l[k]).toNat : Int) * 2 ^ (8 * (7 - k)))) = (partN l (k + 1) : Int) := by
  have hb : (l[k]).toNat < 256 := (l[k]).toNat_lt
  have e1 : IntKind.u64.wrap ((l[k]).toNat : Int) = ((l[k]).toNat : Int) := by rw [IntKind.wrap_u64]; omega
  have hp : 2 ^ (8 * (7 - k)) ≤ 2 ^ 56 := Nat.pow_le_pow_right (by omega) (by omega)
  have hm : (l[k]).toNat * 2 ^ (8 * (7 - k)) < 18446744073709551616 := by
    have : (l[k]).toNat * 2 ^ (8 * (7 - k)) ≤ 255 * 2 ^ 56 := Nat.mul_le_mul (by omega) hp
    omega
  have e2 : ((l[k]).toNat : Int) * 2 ^ (8 * (7 - k)) = (((l[k]).toNat * 2 ^ (8 * (7 - k)) : Nat) : Int) := by simp
  rw [e1, e2]
  have e3 : IntKind.u64.wrap (((l[k]).toNat * 2 ^ (8 * (7 - k)) : Nat) : Int) = (((l[k]).toNat * 2 ^ (8 * (7 - k)) : Nat) : Int) := by rw [IntKind.wrap_u64]; omega
  rw [e3, u64_or_nat _ _ (partN_lt l (by omega)) hm]
  unfold partN
  rw [or_step hk hb, accN, byteAt_get hl, show 8 - (k + 1) = 7 - k by omega]

set_option maxHeartbeats 400000 in
theorem addr_any (s : ByteArray) (w : World) (hs : s.size ≤ maxLen) :
    Calls Tryz.prog 38 #[.string s] w fun e w' => e = .returned (.int .u64 (addrN s : Nat)) ∧ w = w' := by
  unfold maxLen at hs
  go_enter Tryz.func38, Tryz.ntmps38
  go_wp2
  go_step3
  go_wp2
  go_step3
  go_wp2
  go_loopg [3, 4] 9 (fun g s3 s4 wx => ∃ (k : Nat), k + g = 9 ∧ k ≤ 8 ∧ k ≤ s.size ∧ s4 = .int .i64 k ∧ s3 = .int .u64 (partN s.data.toList k : Nat) ∧ w = wx)
  case atStart => exact ⟨0, by omega, by omega, by omega, rfl, by simp [partN, accN], rfl⟩
  case round =>
    obtain ⟨k, hkg, h8, hks, rfl, rfl, rfl⟩ := hrel
    by_cases h1 : k < s.size
    · have b1 : ((k:Int) == (s.size : Int)) = false := by rw [beq_eq_false_iff_ne]; omega
      by_cases h2 : k < 8
      · have b2 : ((k:Int) == 8) = false := by rw [beq_eq_false_iff_ne]; omega
        have HS := Lib.hid (part_step (l := s.data.toList) h2 (by rw [data_length]; exact h1))
        go_wp2
        go_roundg (gk - 1)
        case measure => omega
        case rel => exact ⟨k + 1, by omega, by omega, by omega, by go_num, congrArg (Value.int .u64) HS.out, rfl⟩
      · have b2 : ((k:Int) == 8) = true := by rw [beq_iff_eq]; omega
        have e : partN s.data.toList k = addrN s := by
          obtain rfl : k = 8 := by omega
          simp [partN, addrN]
        rw [e]
        go_wp2
        rw [Exit.noGoto_ret]
        go_ret
        exact ⟨rfl, rfl⟩
    · have b1 : ((k:Int) == (s.size : Int)) = true := by rw [beq_iff_eq]; omega
      have e : partN s.data.toList k = addrN s := accN_full (by rw [data_length]; omega) h8
      rw [e]
      go_wp2
      rw [Exit.noGoto_ret]
      go_ret
      exact ⟨rfl, rfl⟩

end Go.Proofs.YthgndgoljchnfaaGreat
namespace Go.Proofs.YthgndgoljchnfaaGreat
open Go.RowKit

theorem acc {w W W1 : World} (hB : Below w.heap.size w W) (hb : Below W.heap.size W W1) : Below w.heap.size w W1 := hB.trans (hb.mono hB.size)
/-- the world w1 is w with new blocks, and with block g written -/
abbrev Gr (g : Nat) (w w1 : World) : Prop := w.grownBy w1 (some g)
theorem Gr.refl (g : Nat) (w : World) : Gr g w w := ⟨rfl, rfl, rfl, Nat.le_refl _, fun _ _ _ => rfl⟩
theorem Gr.trans {g : Nat} {a b c : World} (h : Gr g a b) (k : Gr g b c) : Gr g a c :=
  ⟨k.os.trans h.os, k.tape.trans h.tape, k.output.trans h.output, Nat.le_trans h.size k.size, fun i hi hn => (k.block i (Nat.lt_of_lt_of_le hi h.size) hn).trans (h.block i hi hn)⟩
theorem Gr.below {g : Nat} {a b c : World} (h : Gr g a b) (k : Below b.heap.size b c) : Gr g a c :=
  ⟨k.os.trans h.os, k.tape.trans h.tape, k.output.trans h.output, Nat.le_trans h.size k.size, fun i hi hn => (k.block i (Nat.lt_of_lt_of_le hi h.size)).trans (h.block i hi hn)⟩
theorem Gr.new {g k : Nat} {a b c : World} (h : Gr g a b) (hg : b.grownBy c (some k)) (hk : a.heap.size ≤ k) : Gr g a c :=
  ⟨hg.os.trans h.os, hg.tape.trans h.tape, hg.output.trans h.output, Nat.le_trans h.size hg.size, fun i hi hn => (hg.block i (Nat.lt_of_lt_of_le hi h.size) (fun e => by have := Option.some.inj e; omega)).trans (h.block i hi hn)⟩
theorem Gr.alloc {g : Nat} {a b : World} (h : Gr g a b) (o : Obj) : Gr g a (b.alloc o) := h.trans (World.grownBy_alloc b o (some g))
theorem Gr.set {g : Nat} {a b : World} (h : Gr g a b) (o : Nat) (u : Value) : Gr g a (b.setCell ⟨g, o, none⟩ u) :=
  ⟨h.os, h.tape, h.output, by have := h.size; simpa [World.setCell] using this, fun i hi hn => (Below.heap_setCell _ _ _ _ (fun e => hn (congrArg some e))).trans (h.block i hi hn)⟩
theorem Gr.drew {g : Nat} {a b : World} (h : Gr g a b) : Gr g a b.drew := ⟨h.os, h.tape, h.output, h.size, h.block⟩
theorem Gr.toBelow {g B : Nat} {a b : World} (h : Gr g a b) (hg : B ≤ g) (hB : B ≤ a.heap.size) : Below B a b :=
  ⟨h.os, h.tape, h.output, h.size, fun k hk => h.block k (by omega) (fun e => by have := Option.some.inj e; omega)⟩
theorem Gr.acc {g : Nat} {w a b : World} (hB : Below w.heap.size w a) (h : Gr g a b) (hg : w.heap.size ≤ g) : Below w.heap.size w b := hB.trans (h.toBelow hg hB.size)

/-- a block of two cells: a text and a bool -/
def Rq (W : World) (g : Nat) (s : ByteArray) (b : Bool) : Prop :=
  g < W.heap.size ∧ W.cell? ⟨g, 0, none⟩ = some (.string s) ∧ W.cell? ⟨g, 1, none⟩ = some (.bool b) ∧ W.frozen? ⟨g, 0, none⟩ = false ∧ W.frozen? ⟨g, 1, none⟩ = false
theorem Rq.of_block {W W1 : World} {g : Nat} {s : ByteArray} {b : Bool} (h : Rq W g s b) (hs : W.heap.size ≤ W1.heap.size) (hb : W1.heap[g]? = W.heap[g]?) : Rq W1 g s b := by
  obtain ⟨h1, h2, h3, h4, h5⟩ := h
  exact ⟨by omega, (World.cell?_of_block (w := W) (a := ⟨g, 0, none⟩) hb).trans h2, (World.cell?_of_block (w := W) (a := ⟨g, 1, none⟩) hb).trans h3,
    (World.frozen?_of_block (w := W) (a := ⟨g, 0, none⟩) hb).trans h4, (World.frozen?_of_block (w := W) (a := ⟨g, 1, none⟩) hb).trans h5⟩
theorem Rq.below {W W1 : World} {g : Nat} {s : ByteArray} {b : Bool} (h : Rq W g s b) (hb : Below W.heap.size W W1) : Rq W1 g s b := h.of_block hb.size (hb.block g h.1)
theorem Rq.other {W W1 : World} {g k : Nat} {s : ByteArray} {b : Bool} (h : Rq W g s b) (hg : Gr k W W1) (hk : g ≠ k) : Rq W1 g s b := h.of_block hg.size (hg.block g h.1 (fun e => hk (Option.some.inj e)))
theorem Rq.new (W : World) (s : ByteArray) (b : Bool) (T : TypeId) : Rq (W.alloc (.cells #[.string s, .bool b] T)) W.heap.size s b :=
  ⟨by simp, by go_simp, by go_simp, by go_simp, by go_simp⟩
theorem Rq.alloc {W : World} {g : Nat} {s : ByteArray} {b : Bool} (h : Rq W g s b) (o : Obj) : Rq (W.alloc o) g s b := h.below ((Below.refl _ _).alloc (Nat.le_refl _) o)
theorem Rq.drew {W : World} {g : Nat} {s : ByteArray} {b : Bool} (h : Rq W g s b) : Rq W.drew g s b := h
theorem Rq.set0 {W : World} {g : Nat} {s : ByteArray} {b : Bool} (h : Rq W g s b) (t : ByteArray) : Rq (W.setCell ⟨g, 0, none⟩ (.string t)) g t b := by
  obtain ⟨h1, h2, h3, h4, h5⟩ := h
  exact ⟨by simpa [World.setCell] using h1, World.cell?_setCell_same _ _ _ h2, by rw [World.cell?_setCell_other _ _ _ _ (by simp)]; exact h3, by rw [World.frozen?_setCell]; exact h4, by rw [World.frozen?_setCell]; exact h5⟩
theorem Rq.set1 {W : World} {g : Nat} {s : ByteArray} {b : Bool} (h : Rq W g s b) (c : Bool) : Rq (W.setCell ⟨g, 1, none⟩ (.bool c)) g s c := by
  obtain ⟨h1, h2, h3, h4, h5⟩ := h
  exact ⟨by simpa [World.setCell] using h1, by rw [World.cell?_setCell_other _ _ _ _ (by simp)]; exact h2, World.cell?_setCell_same _ _ _ h3, by rw [World.frozen?_setCell]; exact h4, by rw [World.frozen?_setCell]; exact h5⟩
theorem Gr.grown {g : Nat} {row : Option Nat} {a b c : World} (h : Gr g a b) (hg : b.grownBy c row) (hr : ∀ k, row = some k → a.heap.size ≤ k) : Gr g a c :=
  ⟨hg.os.trans h.os, hg.tape.trans h.tape, hg.output.trans h.output, Nat.le_trans h.size hg.size, fun i hi hn => (hg.block i (Nat.lt_of_lt_of_le hi h.size) (fun e => by have := hr i e.symm; omega)).trans (h.block i hi hn)⟩
theorem Rq.grown {W W1 : World} {g : Nat} {row : Option Nat} {s : ByteArray} {b : Bool} (h : Rq W g s b) (hg : W.grownBy W1 row) (hr : ∀ k, row = some k → g < k) : Rq W1 g s b :=
  h.of_block hg.size (hg.block g h.1 (fun e => by have := hr g e.symm; omega))
theorem own_step {W W1 : World} {base e size n : Nat} {v : Value} {xs : List Value} (h : W.ownsRow base e size v n xs) (hb : Below W.heap.size W W1) : W1.ownsRow base e size v n xs := by
  refine h.kept (row := none) ⟨hb.os, hb.tape, hb.output, hb.size, fun k hk _ => hb.block k hk⟩ ?_
  rcases v.ownBlock.eq_none_or_eq_some with e | ⟨q, e⟩
  · exact .inl e
  · exact .inr (by rw [e]; intro h2; cases h2)
end Go.Proofs.YthgndgoljchnfaaGreat
