/-
  Plain facts on texts as lists of bytes: the big number of their first bytes, their order, the least text of a number. No program is named here.
-/
import Derived.WalkKit
import Derived.Lib.Strings
namespace Go.Proofs.Ytompbhkmaalioaa

/-- byte k of a text, 0 behind its end -/
def byteAt (l : List UInt8) (k : Nat) : Nat := (l[k]?.getD 0).toNat
/-- the big number of the first k bytes -/
def accN (l : List UInt8) : Nat → Nat
  | 0 => 0
  | k + 1 => accN l k * 256 + byteAt l k
/-- the same, from the front -/
def valN : Nat → List UInt8 → Nat
  | 0, _ => 0
  | _ + 1, [] => 0
  | n + 1, x :: xs => x.toNat * 256 ^ n + valN n xs

theorem byteAt_lt (l : List UInt8) (k : Nat) : byteAt l k < 256 := (l[k]?.getD 0).toNat_lt
theorem byteAt_get {l : List UInt8} {k : Nat} (h : k < l.length) : byteAt l k = (l[k]).toNat := by
  simp [byteAt, List.getElem?_eq_getElem h]
theorem byteAt_end {l : List UInt8} {k : Nat} (h : l.length ≤ k) : byteAt l k = 0 := by
  simp [byteAt, List.getElem?_eq_none h]
theorem accN_lt (l : List UInt8) : ∀ k, accN l k < 256 ^ k
  | 0 => by simp [accN]
  | k + 1 => by
    have h := accN_lt l k
    have hb := byteAt_lt l k
    rw [accN, Nat.pow_succ]
    omega
theorem accN_end {l : List UInt8} {k : Nat} (h : l.length ≤ k) : ∀ j, accN l (k + j) = accN l k * 256 ^ j
  | 0 => by simp
  | j + 1 => by
    rw [← Nat.add_assoc, accN, accN_end h j, byteAt_end (by omega), Nat.pow_succ, Nat.mul_assoc, Nat.add_zero]
theorem accN_full {l : List UInt8} {k : Nat} (h : l.length ≤ k) (h8 : k ≤ 8) : accN l k * 256 ^ (8 - k) = accN l 8 := by
  rw [← accN_end h]
  congr 1
  omega
theorem accN_nil : ∀ k, accN [] k = 0
  | 0 => rfl
  | k + 1 => by simp [accN, accN_nil k, byteAt]
theorem accN_cons (x : UInt8) (xs : List UInt8) : ∀ k, accN (x :: xs) (k + 1) = x.toNat * 256 ^ k + accN xs k
  | 0 => by simp [accN, byteAt]
  | k + 1 => by
    rw [accN, accN_cons x xs k, accN]
    have e : byteAt (x :: xs) (k + 1) = byteAt xs k := by simp [byteAt]
    rw [e, Nat.add_mul, Nat.pow_succ, Nat.mul_assoc, Nat.add_assoc]
theorem accN_val : ∀ (n : Nat) (l : List UInt8), accN l n = valN n l
  | 0, _ => by simp [accN, valN]
  | n + 1, [] => by rw [accN_nil]; rfl
  | n + 1, x :: xs => by rw [accN_cons, accN_val n xs, valN]
theorem valN_lt (n : Nat) (l : List UInt8) : valN n l < 256 ^ n := by rw [← accN_val]; exact accN_lt l n
theorem valN_nil (n : Nat) : valN n [] = 0 := by cases n <;> rfl

/-- one byte more, laid into its place by 'or' -/
theorem or_step {a b k : Nat} (hk : k < 8) (hb : b < 256) : a * 256 ^ (8 - k) ||| b * 2 ^ (8 * (7 - k)) = (a * 256 + b) * 256 ^ (7 - k) := by
  have e1 : 256 ^ (8 - k) = 2 ^ (8 * (8 - k)) := by rw [Nat.pow_mul]
  have e2 : 256 ^ (7 - k) = 2 ^ (8 * (7 - k)) := by rw [Nat.pow_mul]
  have e3 : 2 ^ (8 * (8 - k)) = 256 * 2 ^ (8 * (7 - k)) := by
    have : 8 * (8 - k) = 8 + 8 * (7 - k) := by omega
    rw [this, Nat.pow_add]
  have hlt : b * 2 ^ (8 * (7 - k)) < 2 ^ (8 * (8 - k)) := by
    rw [e3]
    exact Nat.mul_lt_mul_of_pos_right hb (Nat.two_pow_pos _)
  rw [e1, e2, Nat.mul_comm a, ← Nat.two_pow_add_eq_or_of_lt hlt, e3, Nat.add_mul]
  congr 1
  rw [Nat.mul_comm, ← Nat.mul_assoc]

/-! ### the order of texts -/
theorem less_nil (l : List UInt8) : Op.bytesLess l [] = false := by cases l <;> rfl
theorem less_cons (x y : UInt8) (xs ys : List UInt8) : Op.bytesLess (x :: xs) (y :: ys) = (decide (x < y) || (x == y && Op.bytesLess xs ys)) := rfl
theorem less_cons_iff (x y : UInt8) (xs ys : List UInt8) : Op.bytesLess (x :: xs) (y :: ys) = true ↔ x.toNat < y.toNat ∨ (x = y ∧ Op.bytesLess xs ys = true) := by
  rw [less_cons]
  simp [UInt8.lt_iff_toNat_lt]
theorem less_irrefl : ∀ l : List UInt8, Op.bytesLess l l = false
  | [] => rfl
  | x :: xs => by rw [less_cons, less_irrefl xs]; simp
theorem less_asymm : ∀ a b : List UInt8, Op.bytesLess a b = true → Op.bytesLess b a = false
  | _, [], h => by rw [less_nil] at h; cases h
  | [], _ :: _, _ => rfl
  | x :: xs, y :: ys, h => by
    rw [less_cons_iff] at h
    rcases h with h | ⟨rfl, h⟩
    · rw [less_cons]
      have h1 : ¬ y < x := by rw [UInt8.lt_iff_toNat_lt]; omega
      have h2 : y ≠ x := by rintro rfl; omega
      simp [h1, h2]
    · rw [less_cons, less_asymm xs ys h]; simp
theorem less_trans : ∀ a b c : List UInt8, Op.bytesLess a b = true → Op.bytesLess b c = true → Op.bytesLess a c = true
  | _, [], _, h, _ => by rw [less_nil] at h; cases h
  | _, _ :: _, [], _, h => by rw [less_nil] at h; cases h
  | [], _ :: _, _ :: _, _, _ => rfl
  | x :: xs, y :: ys, z :: zs, h, k => by
    rw [less_cons_iff] at h k ⊢
    rcases h with h | ⟨rfl, h⟩
    · rcases k with k | ⟨rfl, k⟩
      · exact .inl (by omega)
      · exact .inl h
    · rcases k with k | ⟨rfl, k⟩
      · exact .inl k
      · exact .inr ⟨rfl, less_trans xs ys zs h k⟩
theorem less_total : ∀ a b : List UInt8, a ≠ b → Op.bytesLess a b = true ∨ Op.bytesLess b a = true
  | [], [], h => absurd rfl h
  | [], _ :: _, _ => .inl rfl
  | _ :: _, [], _ => .inr rfl
  | x :: xs, y :: ys, h => by
    rw [less_cons_iff, less_cons_iff]
    by_cases hxy : x = y
    · subst hxy
      rcases less_total xs ys (fun e => h (by rw [e])) with k | k
      · exact .inl (.inr ⟨rfl, k⟩)
      · exact .inr (.inr ⟨rfl, k⟩)
    · have : x.toNat ≠ y.toNat := fun e => hxy (UInt8.toNat_inj.1 e)
      rcases Nat.lt_or_gt_of_ne this with k | k
      · exact .inl (.inl k)
      · exact .inr (.inl k)
theorem less_append : ∀ (a b : List UInt8), b ≠ [] → Op.bytesLess a (a ++ b) = true
  | [], [], h => absurd rfl h
  | [], _ :: _, _ => rfl
  | x :: xs, b, h => by
    rw [List.cons_append, less_cons_iff]
    exact .inr ⟨rfl, less_append xs b h⟩
/-- nothing lies between a text and the text with a byte 0 behind it -/
theorem less_past : ∀ (o k : List UInt8), Op.bytesLess o (k ++ [0]) = true ↔ o = k ∨ Op.bytesLess o k = true
  | [], [] => by simp [Op.bytesLess]
  | x :: xs, [] => by
    rw [List.nil_append, less_cons_iff, less_nil, less_nil]
    simp
  | [], _ :: _ => by simp [Op.bytesLess]
  | x :: xs, y :: ys => by
    rw [List.cons_append, less_cons_iff, less_cons_iff, less_past xs ys]
    constructor
    · rintro (h | ⟨rfl, rfl | h⟩)
      · exact .inr (.inl h)
      · exact .inl rfl
      · exact .inr (.inr ⟨rfl, h⟩)
    · rintro (h | h | ⟨rfl, h⟩)
      · injection h with h1 h2
        exact .inr ⟨h1, .inl h2⟩
      · exact .inl h
      · exact .inr ⟨rfl, .inr h⟩

/-- the order of texts goes with that of their numbers -/
theorem less_val : ∀ (n : Nat) (a b : List UInt8), Op.bytesLess a b = true → valN n a ≤ valN n b
  | 0, _, _, _ => by simp [valN]
  | n + 1, _, [], h => by rw [less_nil] at h; cases h
  | n + 1, [], _ :: _, _ => by simp [valN]
  | n + 1, x :: xs, y :: ys, h => by
    rw [less_cons_iff] at h
    simp only [valN]
    rcases h with h | ⟨rfl, h⟩
    · have h1 := valN_lt n xs
      have h2 : (x.toNat + 1) * 256 ^ n ≤ y.toNat * 256 ^ n := Nat.mul_le_mul_right _ h
      rw [Nat.add_mul] at h2
      omega
    · have := less_val n xs ys h
      omega
theorem val_less (n : Nat) (a b : List UInt8) (h : valN n a < valN n b) : Op.bytesLess a b = true := by
  by_cases e : a = b
  · subst e; omega
  · rcases less_total a b e with k | k
    · exact k
    · have := less_val n b a k
      omega
theorem val_le (n : Nat) (a b : List UInt8) (h : Op.bytesLess b a = false) : valN n a ≤ valN n b := by
  by_cases e : a = b
  · subst e; exact Nat.le_refl _
  · rcases less_total a b e with k | k
    · exact less_val n a b k
    · rw [h] at k; cases k

/-! ### the least text of a number -/
/-- no byte 0 at its end -/
def bare : List UInt8 → Bool
  | [] => true
  | [x] => x != 0
  | _ :: y :: ys => bare (y :: ys)
theorem bare_tail {x : UInt8} {xs : List UInt8} (h : bare (x :: xs) = true) : bare xs = true := by
  cases xs with
  | nil => rfl
  | cons y ys => exact h
theorem bare_pos : ∀ (n : Nat) (l : List UInt8), l.length ≤ n → l ≠ [] → bare l = true → 0 < valN n l
  | 0, [], _, h, _ => absurd rfl h
  | 0, _ :: _, h, _, _ => by simp at h
  | _ + 1, [], _, h, _ => absurd rfl h
  | n + 1, [x], _, _, hb => by
    have hx : x ≠ 0 := by simpa [bare] using hb
    have : 0 < x.toNat := Nat.pos_of_ne_zero fun e => hx (UInt8.toNat_inj.1 e)
    have h2 : 0 < 256 ^ n := Nat.pow_pos (by omega)
    have := Nat.mul_pos this h2
    simp only [valN]
    omega
  | n + 1, x :: y :: ys, hl, _, hb => by
    have := bare_pos n (y :: ys) (by simpa using hl) (by simp) hb
    simp only [valN]
    omega
/-- a bare text is the least one of its number -/
theorem bare_least : ∀ (n : Nat) (a f : List UInt8), f.length ≤ n → bare f = true → valN n f ≤ valN n a → Op.bytesLess a f = false
  | _, _, [], _, _, _ => less_nil _
  | 0, _, _ :: _, h, _, _ => by simp at h
  | n + 1, [], y :: ys, hl, hb, hv => by
    have := bare_pos (n + 1) (y :: ys) hl (by simp) hb
    rw [valN_nil] at hv
    omega
  | n + 1, x :: xs, y :: ys, hl, hb, hv => by
    cases h : Op.bytesLess (x :: xs) (y :: ys) with
    | false => rfl
    | true =>
      exfalso
      rw [less_cons_iff] at h
      simp only [valN] at hv
      rcases h with h | ⟨rfl, h⟩
      · have h1 := valN_lt n xs
        have h2 : (x.toNat + 1) * 256 ^ n ≤ y.toNat * 256 ^ n := Nat.mul_le_mul_right _ h
        rw [Nat.add_mul] at h2
        omega
      · have := bare_least n xs ys (by simpa using hl) (bare_tail hb) (by omega)
        rw [h] at this
        cases this

/-- the bytes of a number, n of them, the greatest first -/
def wideN : Nat → Nat → List UInt8
  | 0, _ => []
  | n + 1, v => UInt8.ofNat (v / 256 ^ n) :: wideN n v
theorem wideN_length : ∀ n v, (wideN n v).length = n
  | 0, _ => rfl
  | n + 1, v => by simp [wideN, wideN_length n v]
theorem valN_wide : ∀ n v, valN n (wideN n v) = v % 256 ^ n
  | 0, v => by simp [valN, Nat.mod_one]
  | n + 1, v => by
    simp only [wideN, valN, valN_wide n v]
    have h : (UInt8.ofNat (v / 256 ^ n)).toNat = v / 256 ^ n % 256 := by simp
    rw [h, Nat.pow_succ, Nat.mod_mul]
    rw [Nat.mul_comm, Nat.add_comm]
theorem wideN_get : ∀ (n v i : Nat), i < n → (wideN n v)[i]? = some (UInt8.ofNat (v / 256 ^ (n - 1 - i)))
  | 0, _, _, h => by omega
  | n + 1, v, 0, _ => by simp [wideN]
  | n + 1, v, i + 1, h => by
    simp only [wideN, List.getElem?_cons_succ]
    rw [wideN_get n v i (by omega)]
    congr 4
    omega

/-- a text without the bytes 0 at its end -/
def stripN : List UInt8 → List UInt8
  | [] => []
  | x :: xs => if stripN xs = [] ∧ x = 0 then [] else x :: stripN xs
theorem stripN_length : ∀ l, (stripN l).length ≤ l.length
  | [] => by simp [stripN]
  | x :: xs => by
    have := stripN_length xs
    simp only [stripN]
    split <;> simp
    omega
theorem stripN_bare : ∀ l, bare (stripN l) = true
  | [] => rfl
  | x :: xs => by
    have ih := stripN_bare xs
    simp only [stripN]
    split
    · rfl
    · rename_i h
      cases e : stripN xs with
      | nil =>
        have : x ≠ 0 := fun hx => h ⟨e, hx⟩
        simpa [bare] using this
      | cons y ys => rw [e] at ih; exact ih
theorem stripN_val : ∀ n l, valN n (stripN l) = valN n l
  | 0, _ => rfl
  | _ + 1, [] => rfl
  | n + 1, x :: xs => by
    have ih := stripN_val n xs
    simp only [stripN]
    split
    · rename_i h
      obtain ⟨h1, rfl⟩ := h
      rw [h1, valN_nil] at ih
      simp [valN, ← ih]
    · simp [valN, ih]
theorem stripN_take : ∀ (l : List UInt8) (m : Nat), m ≤ l.length → (∀ i, m ≤ i → byteAt l i = 0) → (m = 0 ∨ byteAt l (m - 1) ≠ 0) → l.take m = stripN l
  | [], m, _, _, _ => by simp [stripN]
  | x :: xs, 0, _, h0, _ => by
    have hx : x = 0 := by
      have := h0 0 (Nat.le_refl _)
      exact UInt8.toNat_inj.1 (by simpa [byteAt] using this)
    have ih := stripN_take xs 0 (Nat.zero_le _) (fun i _ => by simpa [byteAt] using h0 (i + 1) (Nat.zero_le _)) (.inl rfl)
    simp only [List.take_zero] at ih ⊢
    simp only [stripN]
    rw [if_pos ⟨ih.symm, hx⟩]
  | x :: xs, m + 1, hm, h0, h1 => by
    have hz : ∀ i, m ≤ i → byteAt xs i = 0 := fun i hi => by simpa [byteAt] using h0 (i + 1) (by omega)
    simp only [stripN, List.take_succ_cons]
    cases m with
    | zero =>
      have ih := stripN_take xs 0 (Nat.zero_le _) hz (.inl rfl)
      have hx : x ≠ 0 := by
        rintro rfl
        rcases h1 with h1 | h1
        · omega
        · exact h1 (by simp [byteAt])
      rw [if_neg (fun h => hx h.2), ← ih]
    | succ m =>
      have hn : byteAt xs m ≠ 0 := by
        rcases h1 with h1 | h1
        · omega
        · simpa [byteAt] using h1
      have ih := stripN_take xs (m + 1) (by simpa using hm) hz (.inr hn)
      have hne : stripN xs ≠ [] := by
        rw [← ih]
        intro e
        have hl := congrArg List.length e
        have : m + 1 ≤ xs.length := by simpa using hm
        simp at hl
        subst hl
        simp at this
      rw [if_neg (fun h => hne h.1), ih]

/-- the least text of a point -/
def firstN (x : Nat) : List UInt8 := stripN (wideN 8 x)
theorem firstN_length (x : Nat) : (firstN x).length ≤ 8 := by
  have := stripN_length (wideN 8 x)
  rwa [wideN_length] at this
theorem firstN_val {x : Nat} (h : x < 256 ^ 8) : valN 8 (firstN x) = x := by
  rw [firstN, stripN_val, valN_wide, Nat.mod_eq_of_lt h]
theorem firstN_bare (x : Nat) : bare (firstN x) = true := stripN_bare _

/-- the bytes that shifting x to the left brings up, till it is 0 -/
theorem stripN_wide_zero : ∀ n v, v % 256 ^ n = 0 → stripN (wideN n v) = []
  | 0, _, _ => rfl
  | n + 1, v, h => by
    have h1 : v % 256 ^ n = 0 := by
      rw [Nat.pow_succ] at h
      have := Nat.mod_mul_right_mod v (256 ^ n) 256
      rw [h] at this
      simpa using this.symm
    have h2 : v / 256 ^ n % 256 = 0 := by
      rw [Nat.pow_succ, Nat.mod_mul, h1] at h
      have hp : 0 < 256 ^ n := Nat.pow_pos (by omega)
      rcases Nat.mul_eq_zero.1 (Nat.eq_zero_of_add_eq_zero_left h) with h | h
      · omega
      · exact h
    simp only [wideN, stripN]
    rw [if_pos ⟨stripN_wide_zero n v h1, UInt8.toNat_inj.1 (by simp [h2])⟩]
theorem stripN_wide_pos (n v : Nat) (h : v % 256 ^ (n + 1) ≠ 0) : stripN (wideN (n + 1) v) = UInt8.ofNat (v / 256 ^ n) :: stripN (wideN n v) := by
  simp only [wideN, stripN]
  rw [if_neg]
  rintro ⟨h1, h2⟩
  apply h
  have h3 : v % 256 ^ n = 0 := by
    have := stripN_val n (wideN n v)
    rw [h1, valN_nil, valN_wide] at this
    exact this.symm
  have h4 : v / 256 ^ n % 256 = 0 := by
    have := congrArg UInt8.toNat h2
    simpa using this
  rw [Nat.pow_succ, Nat.mod_mul, h3, h4]
  simp
end Go.Proofs.Ytompbhkmaalioaa
