/-
  Letters as bytes, plainly: fields, what is written of one, what is read of one; what was written is read as it was, and what was read is what was written. No program is named here.
-/
import Derived.Test.YtfemdfidfomchaaPackFacts
import Derived.Test.YtfemdfidfomchaaItems
namespace Go.Proofs.Ytfemdfidfomchaa
open Go.RowKit

/-- what lies in a field -/
structure FV where
  n : Int
  s : ByteArray
  l : List Item
/-- the kinds of fields; e: an error's number -/
inductive FK where
  | num (e : Bool) (lo hi : Int)
  | wide
  | text
  | flag
  | items
def numP (lo hi v : Int) : Option ByteArray := if lo ≤ v ∧ v ≤ hi then some (numT v) else none
def textP (s : ByteArray) : Option ByteArray := if okText s then some (textT s) else none
/-- texts, one behind the other; none, if one of them is none -/
def catO : List (Option ByteArray) → Option ByteArray
  | [] => some ByteArray.empty
  | none :: _ => none
  | some a :: r => (catO r).map (a ++ ·)
def itemPs (l : List Item) : List (Option ByteArray) := l.flatMap fun x => [textP x.1, textP x.2]
def itemsP (l : List Item) : Option ByteArray := catO (numP 0 40 l.length :: itemPs (l.take 40))
def putK : FK → FV → Option ByteArray
  | .num _ lo hi, x => numP lo hi x.n
  | .wide, x => some (txt (wideN 8 x.n.toNat))
  | .text, x => textP x.s
  | .flag, x => some (numT x.n)
  | .items, x => itemsP x.l
def putF (ks : List FK) (xs : List FV) : Option ByteArray := catO (List.zipWith putK ks xs)
/-- so many items; what is left -/
def itemsG : Nat → ByteArray → Option (List Item × ByteArray)
  | 0, s => some ([], s)
  | n + 1, s => match restT (some s) with
    | none => none
    | some s1 => match restT (some s1) with
      | none => none
      | some s2 => (itemsG n s2).map fun p => ((textO (some s), textO (some s1)) :: p.1, p.2)
def numG (lo hi : Int) (s : ByteArray) : Option (FV × ByteArray) := match restO (some s) 2 with
  | none => none
  | some r => if lo ≤ (numO (some s) 2 : Nat) ∧ ((numO (some s) 2 : Nat) : Int) ≤ hi then some (⟨(numO (some s) 2 : Nat), ByteArray.empty, []⟩, r) else none
def getK : FK → ByteArray → Option (FV × ByteArray)
  | .num _ lo hi, s => numG lo hi s
  | .wide, s => (restO (some s) 8).map fun r => (⟨(numO (some s) 8 : Nat), ByteArray.empty, []⟩, r)
  | .text, s => (restT (some s)).map fun r => (⟨0, textO (some s), []⟩, r)
  | .flag, s => numG 0 1 s
  | .items, s => match restO (some s) 2 with
    | none => none
    | some r => if numO (some s) 2 ≤ 40 then (itemsG (numO (some s) 2) r).map fun p => (⟨0, ByteArray.empty, p.1⟩, p.2) else none
def getF : List FK → ByteArray → Option (List FV × ByteArray)
  | [], s => some ([], s)
  | k :: ks, s => match getK k s with
    | none => none
    | some (x, r) => (getF ks r).map fun p => (x :: p.1, p.2)
/-- nothing is there but what the kind has -/
def Canon : FK → FV → Prop
  | .num _ _ _, x => x.s = ByteArray.empty ∧ x.l = []
  | .wide, x => (0 ≤ x.n ∧ x.n < 18446744073709551616) ∧ x.s = ByteArray.empty ∧ x.l = []
  | .text, x => x.n = 0 ∧ x.l = []
  | .flag, x => (x.n = 0 ∨ x.n = 1) ∧ x.s = ByteArray.empty ∧ x.l = []
  | .items, x => x.n = 0 ∧ x.s = ByteArray.empty
def OkK : FK → Prop
  | .num _ lo hi => 0 ≤ lo ∧ hi ≤ 65535
  | _ => True

theorem FV.ext' {x y : FV} (a : x.n = y.n) (b : x.s = y.s) (c : x.l = y.l) : x = y := by cases x; cases y; simp_all
theorem valN_inj : ∀ (n : Nat) (a b : List UInt8), a.length = n → b.length = n → valN n a = valN n b → a = b
  | 0, [], [], _, _, _ => rfl
  | n + 1, x :: xs, y :: ys, ha, hb, h => by
    simp only [valN] at h
    have h1 := valN_lt n xs
    have h2 := valN_lt n ys
    have e : x.toNat = y.toNat := by
      rcases Nat.lt_trichotomy x.toNat y.toNat with hl | hl | hl
      · have := Nat.mul_le_mul_right (256 ^ n) (show x.toNat + 1 ≤ y.toNat from hl)
        rw [Nat.add_mul] at this
        omega
      · exact hl
      · have := Nat.mul_le_mul_right (256 ^ n) (show y.toNat + 1 ≤ x.toNat from hl)
        rw [Nat.add_mul] at this
        omega
    rw [e] at h
    rw [UInt8.toNat_inj.1 e, valN_inj n xs ys (by simpa using ha) (by simpa using hb) (by omega)]
theorem wide_acc (n : Nat) (l : List UInt8) (h : n ≤ l.length) : wideN n (accN l n) = l.take n := by
  refine valN_inj n _ _ (wideN_length _ _) (by rw [List.length_take]; omega) ?_
  rw [valN_wide, Nat.mod_eq_of_lt (accN_lt l n), ← accN_val, accN_take l n n (Nat.le_refl _)]
theorem restO_some {s r : ByteArray} {n : Nat} (h : restO (some s) n = some r) : n ≤ s.size ∧ r = s.extract n s.size := by
  simp only [restO] at h
  by_cases hn : n ≤ s.size
  · rw [if_pos hn] at h; exact ⟨hn, (Option.some.inj h).symm⟩
  · rw [if_neg hn] at h; cases h
theorem split_at (s : ByteArray) (n : Nat) : s = s.extract 0 n ++ s.extract n s.size := by
  apply ba_ext
  rw [data_append, extract_first, extract_rest, List.take_append_drop]
/-- a number that was read is what was written -/
theorem wide_canon {s r : ByteArray} {n : Nat} (h : restO (some s) n = some r) : s = txt (wideN n (numO (some s) n)) ++ r := by
  obtain ⟨hn, rfl⟩ := restO_some h
  have e : txt (wideN n (numO (some s) n)) = s.extract 0 n := by
    apply ba_ext
    rw [txt_data, extract_first]
    simp only [numO, if_pos hn]
    exact wide_acc n _ (by rw [data_length]; exact hn)
  rw [e]
  exact split_at s n
theorem num_canon {s r : ByteArray} (h : restO (some s) 2 = some r) : s = numT (numO (some s) 2 : Nat) ++ r := by
  have hl := numO_lt (some s) 2
  have e : okNum (numO (some s) 2 : Nat) = true := by simp [okNum]; omega
  rw [numT, if_pos e, Int.toNat_natCast]
  exact wide_canon h
theorem text_canon {s r : ByteArray} (h : restT (some s) = some r) : okText (textO (some s)) = true ∧ s = textT (textO (some s)) ++ r := by
  unfold restT at h
  cases h1 : restO (some s) 1 with
  | none => rw [h1] at h; simp [restO] at h
  | some s1 =>
    rw [h1] at h
    obtain ⟨hn, hr⟩ := restO_some h
    have hl := numO_lt (some s) 1
    have et : textO (some s) = s1.extract 0 (numO (some s) 1) := by
      unfold textO; rw [h1]; simp only [partO, if_pos hn]
    have hsz : (s1.extract 0 (numO (some s) 1)).size = numO (some s) 1 := by
      rw [← data_length, extract_first, List.length_take, data_length]; omega
    have ok : okText (textO (some s)) = true := by rw [et]; simp [okText, hsz]; omega
    refine ⟨ok, ?_⟩
    rw [textT, if_pos ok, et, hsz, append_assoc, hr, ← split_at s1]
    exact wide_canon h1
theorem textP_some {s b : ByteArray} (h : textP s = some b) : okText s = true ∧ b = textT s := by
  unfold textP at h
  by_cases ho : okText s = true
  · rw [if_pos ho] at h; exact ⟨ho, (Option.some.inj h).symm⟩
  · rw [if_neg ho] at h; cases h
theorem numP_some {lo hi v : Int} {b : ByteArray} (h : numP lo hi v = some b) : (lo ≤ v ∧ v ≤ hi) ∧ b = numT v := by
  unfold numP at h
  by_cases ho : lo ≤ v ∧ v ≤ hi
  · rw [if_pos ho] at h; exact ⟨ho, (Option.some.inj h).symm⟩
  · rw [if_neg ho] at h; cases h
theorem numG_back {lo hi v : Int} {b : ByteArray} (r : ByteArray) (h0 : 0 ≤ lo) (h1 : hi ≤ 65535) (h : numP lo hi v = some b) : numG lo hi (b ++ r) = some (⟨v, ByteArray.empty, []⟩, r) := by
  obtain ⟨ho, rfl⟩ := numP_some h
  obtain ⟨e, f⟩ := num_back v r (by simp [okNum]; omega)
  unfold numG
  rw [f]
  simp only
  rw [e, if_pos ho]
theorem numG_canon {lo hi : Int} {s r : ByteArray} {x : FV} (h : numG lo hi s = some (x, r)) : ∃ b, numP lo hi x.n = some b ∧ s = b ++ r ∧ x.s = ByteArray.empty ∧ x.l = [] ∧ lo ≤ x.n ∧ x.n ≤ hi := by
  unfold numG at h
  cases h1 : restO (some s) 2 with
  | none => rw [h1] at h; cases h
  | some r1 =>
    rw [h1] at h
    simp only at h
    by_cases hc : lo ≤ (numO (some s) 2 : Nat) ∧ ((numO (some s) 2 : Nat) : Int) ≤ hi
    · rw [if_pos hc] at h
      injection h with h
      injection h with ha hb
      subst ha hb
      exact ⟨numT (numO (some s) 2 : Nat), by rw [numP, if_pos hc], num_canon h1, rfl, rfl, hc.1, hc.2⟩
    · rw [if_neg hc] at h; cases h
theorem catO_cons_some {o : Option ByteArray} {r : List (Option ByteArray)} {b : ByteArray} (h : catO (o :: r) = some b) : ∃ a c, o = some a ∧ catO r = some c ∧ b = a ++ c := by
  cases o with
  | none => cases h
  | some a =>
    simp only [catO] at h
    obtain ⟨c, hc, rfl⟩ := Option.map_eq_some_iff.1 h
    exact ⟨a, c, rfl, hc, rfl⟩
theorem catO_cons (a c : ByteArray) (r : List (Option ByteArray)) (h : catO r = some c) : catO (some a :: r) = some (a ++ c) := by simp [catO, h]
theorem itemsG_back : ∀ (l : List Item) (b r : ByteArray), catO (itemPs l) = some b → itemsG l.length (b ++ r) = some (l, r)
  | [], b, r, h => by
    have : b = ByteArray.empty := (Option.some.inj h).symm
    subst this
    rw [empty_append]; rfl
  | x :: l, b, r, h => by
    obtain ⟨a1, c1, e1, h1, rfl⟩ := catO_cons_some (o := textP x.1) (r := textP x.2 :: itemPs l) h
    obtain ⟨a2, c2, e2, h2, rfl⟩ := catO_cons_some (o := textP x.2) (r := itemPs l) h1
    obtain ⟨o1, rfl⟩ := textP_some e1
    obtain ⟨o2, rfl⟩ := textP_some e2
    obtain ⟨p1, q1⟩ := text_back x.1 (textT x.2 ++ c2 ++ r) o1
    obtain ⟨p2, q2⟩ := text_back x.2 (c2 ++ r) o2
    have ih := itemsG_back l c2 r h2
    rw [append_assoc, List.length_cons, itemsG, q1]
    simp only
    rw [append_assoc, q2]
    simp only
    rw [ih, p2]
    rw [append_assoc] at p1
    rw [p1]
    rfl
theorem itemsG_canon : ∀ (n : Nat) (s : ByteArray) (l : List Item) (r : ByteArray), itemsG n s = some (l, r) → l.length = n ∧ ∃ b, catO (itemPs l) = some b ∧ s = b ++ r
  | 0, s, l, r, h => by
    injection h with h
    injection h with ha hb
    subst ha hb
    exact ⟨rfl, ByteArray.empty, rfl, (empty_append _).symm⟩
  | n + 1, s, l, r, h => by
    rw [itemsG] at h
    cases h1 : restT (some s) with
    | none => rw [h1] at h; cases h
    | some s1 =>
      rw [h1] at h
      simp only at h
      cases h2 : restT (some s1) with
      | none => rw [h2] at h; cases h
      | some s2 =>
        rw [h2] at h
        simp only at h
        obtain ⟨p, hp, e⟩ := Option.map_eq_some_iff.1 h
        injection e with e1 e2
        obtain ⟨lp, rp⟩ := p
        obtain ⟨hl, b, hb, hs⟩ := itemsG_canon n s2 lp rp hp
        simp only at e1 e2
        subst e1 e2
        obtain ⟨o1, c1⟩ := text_canon h1
        obtain ⟨o2, c2⟩ := text_canon h2
        refine ⟨by simp [hl], textT (textO (some s)) ++ (textT (textO (some s1)) ++ b), ?_, ?_⟩
        · show catO (textP _ :: textP _ :: itemPs lp) = _
          rw [textP, if_pos o1, textP, if_pos o2]
          exact catO_cons _ _ _ (catO_cons _ _ _ hb)
        · rw [append_assoc, append_assoc, ← hs, ← c2]
          exact c1
theorem itemsP_some {l : List Item} {b : ByteArray} (h : itemsP l = some b) : l.length ≤ 40 ∧ ∃ c, catO (itemPs l) = some c ∧ b = numT l.length ++ c := by
  obtain ⟨a, c, e1, h1, rfl⟩ := catO_cons_some h
  obtain ⟨ho, rfl⟩ := numP_some e1
  have hl : l.length ≤ 40 := by omega
  rw [List.take_of_length_le hl] at h1
  exact ⟨hl, c, h1, rfl⟩
theorem getK_back {k : FK} {x : FV} {b : ByteArray} (r : ByteArray) (ho : OkK k) (hc : Canon k x) (h : putK k x = some b) : getK k (b ++ r) = some (x, r) := by
  cases k with
  | num e lo hi =>
    rw [getK, numG_back r ho.1 ho.2 h]
    obtain ⟨c1, c2⟩ := hc
    congr 2
    exact FV.ext' rfl c1.symm c2.symm
  | wide =>
    have hb := (Option.some.inj h).symm
    subst hb
    obtain ⟨⟨h0, h1⟩, c1, c2⟩ := hc
    obtain ⟨e, f⟩ := wide_back 8 x.n.toNat r (by omega)
    rw [getK, f, e, Option.map_some]
    congr 2
    exact FV.ext' (by show ((x.n.toNat : Nat) : Int) = _; omega) c1.symm c2.symm
  | text =>
    obtain ⟨o1, rfl⟩ := textP_some h
    obtain ⟨e, f⟩ := text_back x.s r o1
    rw [getK, f, e, Option.map_some]
    congr 2
    exact FV.ext' hc.1.symm rfl hc.2.symm
  | flag =>
    have hb := (Option.some.inj h).symm
    subst hb
    obtain ⟨h0, c1, c2⟩ := hc
    rw [getK, numG_back (v := x.n) r (Int.le_refl _) (by omega) (by rw [numP, if_pos (by omega)])]
    congr 2
    exact FV.ext' rfl c1.symm c2.symm
  | items =>
    obtain ⟨hl, c, h1, rfl⟩ := itemsP_some h
    obtain ⟨e, f⟩ := num_back (x.l.length : Int) (c ++ r) (by simp [okNum]; omega)
    have e' : numO (some (numT x.l.length ++ (c ++ r))) 2 = x.l.length := by exact_mod_cast e
    rw [getK, append_assoc, f]
    simp only
    rw [e', if_pos hl, itemsG_back x.l c r h1, Option.map_some]
    congr 2
    exact FV.ext' hc.1.symm hc.2.symm rfl
theorem getK_canon {k : FK} {x : FV} {s r : ByteArray} (h : getK k s = some (x, r)) : Canon k x ∧ ∃ b, putK k x = some b ∧ s = b ++ r := by
  cases k with
  | num e lo hi =>
    obtain ⟨b, h1, h2, h3, h4, _, _⟩ := numG_canon h
    exact ⟨⟨h3, h4⟩, b, h1, h2⟩
  | wide =>
    obtain ⟨r1, h1, e⟩ := Option.map_eq_some_iff.1 h
    injection e with ea eb
    subst ea eb
    have hl := numO_lt (some s) 8
    refine ⟨⟨⟨by show (0 : Int) ≤ ((numO (some s) 8 : Nat) : Int); omega, by show ((numO (some s) 8 : Nat) : Int) < _; omega⟩, rfl, rfl⟩, _, rfl, ?_⟩
    show s = txt (wideN 8 ((numO (some s) 8 : Nat) : Int).toNat) ++ r1
    rw [Int.toNat_natCast]
    exact wide_canon h1
  | text =>
    obtain ⟨r1, h1, e⟩ := Option.map_eq_some_iff.1 h
    injection e with ea eb
    subst ea eb
    obtain ⟨o1, c1⟩ := text_canon h1
    exact ⟨⟨rfl, rfl⟩, _, by show textP _ = _; rw [textP, if_pos o1], c1⟩
  | flag =>
    obtain ⟨b, h1, h2, h3, h4, h5, h6⟩ := numG_canon h
    obtain ⟨_, rfl⟩ := numP_some h1
    exact ⟨⟨by omega, h3, h4⟩, _, rfl, h2⟩
  | items =>
    rw [getK] at h
    cases h1 : restO (some s) 2 with
    | none => rw [h1] at h; cases h
    | some r1 =>
      rw [h1] at h
      simp only at h
      by_cases hn : numO (some s) 2 ≤ 40
      · rw [if_pos hn] at h
        obtain ⟨p, hp, e⟩ := Option.map_eq_some_iff.1 h
        injection e with ea eb
        obtain ⟨l, rp⟩ := p
        simp only at ea eb
        subst ea eb
        obtain ⟨hl, b, hb, hs⟩ := itemsG_canon _ _ _ _ hp
        refine ⟨⟨rfl, rfl⟩, numT l.length ++ b, ?_, ?_⟩
        · show itemsP l = _
          unfold itemsP
          rw [List.take_of_length_le (by omega), numP, if_pos (by omega)]
          exact catO_cons _ _ _ hb
        · rw [append_assoc, ← hs, hl]
          exact num_canon h1
      · rw [if_neg hn] at h; cases h
theorem getF_back : ∀ (ks : List FK) (xs : List FV) (b r : ByteArray), xs.length = ks.length → (∀ k ∈ ks, OkK k) → (∀ j (h : j < ks.length) (h2 : j < xs.length), Canon ks[j] xs[j]) → putF ks xs = some b → getF ks (b ++ r) = some (xs, r)
  | [], [], b, r, _, _, _, h => by
    have : b = ByteArray.empty := (Option.some.inj h).symm
    subst this
    rw [empty_append]; rfl
  | k :: ks, x :: xs, b, r, hl, ho, hc, h => by
    obtain ⟨a, c, e1, h1, rfl⟩ := catO_cons_some (o := putK k x) (r := List.zipWith putK ks xs) h
    have g := getK_back (c ++ r) (ho k List.mem_cons_self) (hc 0 (by simp) (by simp)) e1
    have ih := getF_back ks xs c r (by simpa using hl) (fun k hk => ho k (List.mem_cons_of_mem _ hk)) (fun j h h2 => by have := hc (j + 1) (by simpa using h) (by simpa using h2); simpa using this) h1
    rw [getF, append_assoc, g]
    simp only
    rw [ih]; rfl
theorem getF_canon : ∀ (ks : List FK) (s : ByteArray) (xs : List FV) (r : ByteArray), getF ks s = some (xs, r) → xs.length = ks.length ∧ (∀ j (h : j < ks.length) (h2 : j < xs.length), Canon ks[j] xs[j]) ∧ ∃ b, putF ks xs = some b ∧ s = b ++ r
  | [], s, xs, r, h => by
    injection h with h
    injection h with ha hb
    subst ha hb
    exact ⟨rfl, fun j h => by simp at h, ByteArray.empty, rfl, (empty_append _).symm⟩
  | k :: ks, s, xs, r, h => by
    rw [getF] at h
    cases h1 : getK k s with
    | none => rw [h1] at h; cases h
    | some p =>
      obtain ⟨x, r1⟩ := p
      rw [h1] at h
      simp only at h
      obtain ⟨q, hq, e⟩ := Option.map_eq_some_iff.1 h
      obtain ⟨ys, ry⟩ := q
      injection e with ea eb
      simp only at ea eb
      subst ea eb
      obtain ⟨hl, hc, b, hb, hs⟩ := getF_canon ks r1 ys ry hq
      obtain ⟨c0, b0, hb0, hs0⟩ := getK_canon h1
      refine ⟨by simp [hl], ?_, b0 ++ b, ?_, ?_⟩
      · intro j h h2
        cases j with
        | zero => exact c0
        | succ j => simpa using hc j (by simpa using h) (by simpa using h2)
      · show catO (putK k x :: List.zipWith putK ks ys) = _
        rw [hb0]; exact catO_cons _ _ _ hb
      · rw [append_assoc, ← hs]; exact hs0
end Go.Proofs.Ytfemdfidfomchaa
