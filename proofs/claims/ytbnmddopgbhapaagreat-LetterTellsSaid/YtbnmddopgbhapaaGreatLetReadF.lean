/-
  Package letter's read over fields of one block: what is read of bytes is what the plain 'getF' says.
-/
import Derived.Test.YtbnmddopgbhapaaGreatLetGets
namespace Go.Proofs.YtbnmddopgbhapaaGreat
open Go.RowKit

def zeroK : FK → Value
  | .num _ _ _ => .int .i64 0
  | .wide => .int .u64 0
  | .text => .string ⟨#[]⟩
  | .flag => .bool false
  | .items => .slice none 0 0
/-- the value v of a field's cell holds x -/
def FvAt (w : World) (B : Nat) : FK → Value → FV → Prop
  | .num _ _ _, v, x => v = .int .i64 x.n
  | .wide, v, x => v = .int .u64 x.n
  | .text, v, x => v = .string x.s
  | .flag, v, x => v = .bool (x.n == 1)
  | .items, v, x => w.ownsRow B 58 2 v x.l.length (itemCells x.l)
/-- a value that such a cell may hold -/
def TyK : FK → Value → Prop
  | .num _ _ _, v => ∃ n, v = .int .i64 n
  | .wide, v => ∃ n, v = .int .u64 n
  | .text, v => ∃ s, v = .string s
  | .flag, v => ∃ b, v = .bool b
  | .items, v => ∃ A n c, v = .slice A n c
theorem FvAt.ty {w : World} {B : Nat} {k : FK} {v : Value} {x : FV} (h : FvAt w B k v x) : TyK k v := by
  cases k with
  | items =>
    have h1 : w.ownsRow B 58 2 v x.l.length (itemCells x.l) := h
    obtain ⟨A, c, e⟩ := own_slice h1
    exact ⟨A, _, c, e⟩
  | num => exact ⟨_, h⟩
  | wide => exact ⟨_, h⟩
  | text => exact ⟨_, h⟩
  | flag => exact ⟨_, h⟩
theorem zeroK_ty (k : FK) : TyK k (zeroK k) := by
  cases k with
  | items => exact ⟨_, _, _, rfl⟩
  | num => exact ⟨_, rfl⟩
  | wide => exact ⟨_, rfl⟩
  | text => exact ⟨_, rfl⟩
  | flag => exact ⟨_, rfl⟩
def fieldV (b : Nat) : FK × Nat → Value
  | (.num false lo hi, o) => numF ⟨b, o, none⟩ lo hi
  | (.num true lo hi, o) => errF ⟨b, o, none⟩ lo hi
  | (.wide, o) => wideF ⟨b, o, none⟩
  | (.text, o) => textF ⟨b, o, none⟩
  | (.flag, o) => flagF ⟨b, o, none⟩
  | (.items, o) => itemsF ⟨b, o, none⟩
def GetPost (W : World) (b o g : Nat) (cs : Array Value) (T : TypeId) (k : FK) (s : ByteArray) (e : Ending) (w' : World) : Prop :=
  ∃ (ok : Bool) (o' : Option ByteArray), e = .returned (.bool ok) ∧ RdO w' g o' ∧ Touch [b, g] W w' ∧
    ((∃ x r v, getK k s = some (x, r) ∧ ok = true ∧ o' = some r ∧ w'.heap[b]? = some (.cells (cs.setIfInBounds o v) T) ∧ FvAt w' W.heap.size k v x) ∨ (getK k s = none ∧ (ok && o'.isSome) = false ∧ ∃ v, w'.heap[b]? = some (.cells (cs.setIfInBounds o v) T) ∧ TyK k v))
/-- a field of this kind reads as the plain function says -/
def GetOk (k : FK) : Prop := ∀ (b o g : Nat) (cs : Array Value) (T : TypeId) (s : ByteArray) (W : World), W.heap[b]? = some (.cells cs T) → cs[o]? = some (zeroK k) → RdO W g (some s) → b ≠ g → s.size ≤ 9223372036854775807 →
  ∃ (U : TypeId) (x : Value) (i : FuncId), fieldV b (k, o) = .iface U x ∧ (∀ w, (nilAhead 282 U x "rosary/letter.get").run Tryz.prog w = .ok (some false) w) ∧ (∀ w, (method 282 U x "rosary/letter.get").run Tryz.prog w = .ok (i, x) w) ∧ (∀ a w, (callFunc i a).run Tryz.prog w = .ok (.enter i a) w) ∧
    Calls Tryz.prog i #[x, .pointer (some ⟨g, 0, none⟩)] W (GetPost W b o g cs T k s)

theorem got_num {W w' : World} {b o g : Nat} {cs : Array Value} {T : TypeId} {s : ByteArray} {lo hi : Int} {e : Ending} (er : Bool) (h : GotPost W b o g cs T (.int .i64 (numO (some s) 2 : Nat)) (restO (some s) 2) (decide (lo ≤ (numO (some s) 2 : Nat) ∧ ((numO (some s) 2 : Nat) : Int) ≤ hi)) e w') : GetPost W b o g cs T (.num er lo hi) s e w' := by
  obtain ⟨rfl, h1, h2, h3⟩ := h
  refine ⟨_, _, rfl, h1, h3, ?_⟩
  show (∃ x r v, numG lo hi s = some (x, r) ∧ _) ∨ (numG lo hi s = none ∧ _)
  unfold numG
  cases hr : restO (some s) 2 with
  | none => exact .inr ⟨rfl, by simp, _, h2, _, rfl⟩
  | some r =>
    simp only
    by_cases hc : lo ≤ (numO (some s) 2 : Nat) ∧ ((numO (some s) 2 : Nat) : Int) ≤ hi
    · rw [if_pos hc]
      exact .inl ⟨_, _, _, rfl, decide_eq_true hc, rfl, h2, rfl⟩
    · rw [if_neg hc]
      exact .inr ⟨rfl, by rw [decide_eq_false hc]; rfl, _, h2, _, rfl⟩
theorem getOk_num (lo hi : Int) : GetOk (.num false lo hi) := fun b o g cs T s W hb hz hR hne hs =>
  ⟨_, _, 129, rfl, fun _ => by kernel_rfl, fun _ => by kernel_rfl, fun _ _ => by kernel_rfl, (numget_any b o g lo hi cs T (some s) W hb hz hR hne hs).mono fun _ _ h => got_num false h⟩
theorem getOk_err (lo hi : Int) : GetOk (.num true lo hi) := fun b o g cs T s W hb hz hR hne hs =>
  ⟨_, _, 134, rfl, fun _ => by kernel_rfl, fun _ => by kernel_rfl, fun _ _ => by kernel_rfl, (errget_any b o g lo hi cs T (some s) W hb hz hR hne hs).mono fun _ _ h => got_num true h⟩
theorem getOk_wide : GetOk .wide := fun b o g cs T s W hb hz hR hne hs =>
  ⟨_, _, 108, rfl, fun _ => by kernel_rfl, fun _ => by kernel_rfl, fun _ _ => by kernel_rfl, (wideget_any b o g cs T (some s) W hb hz hR hne hs).mono fun e w' h => by
    obtain ⟨rfl, h1, h2, h3⟩ := h
    refine ⟨_, _, rfl, h1, h3, ?_⟩
    show (∃ x r v, (restO (some s) 8).map _ = some (x, r) ∧ _) ∨ ((restO (some s) 8).map _ = none ∧ _)
    cases hr : restO (some s) 8 with
    | none => exact .inr ⟨rfl, rfl, _, h2, _, rfl⟩
    | some r => exact .inl ⟨_, _, _, rfl, rfl, rfl, h2, rfl⟩⟩
theorem getOk_text : GetOk .text := fun b o g cs T s W hb hz hR hne hs =>
  ⟨_, _, 120, rfl, fun _ => by kernel_rfl, fun _ => by kernel_rfl, fun _ _ => by kernel_rfl, (textget_any b o g _ cs T (some s) W hb hz hR hne hs).mono fun e w' h => by
    obtain ⟨rfl, h1, h2, h3⟩ := h
    refine ⟨_, _, rfl, h1, h3, ?_⟩
    show (∃ x r v, (restT (some s)).map _ = some (x, r) ∧ _) ∨ ((restT (some s)).map _ = none ∧ _)
    cases hr : restT (some s) with
    | none => exact .inr ⟨rfl, rfl, _, h2, _, rfl⟩
    | some r => exact .inl ⟨_, _, _, rfl, rfl, rfl, h2, rfl⟩⟩
theorem getOk_flag : GetOk .flag := fun b o g cs T s W hb hz hR hne hs =>
  ⟨_, _, 125, rfl, fun _ => by kernel_rfl, fun _ => by kernel_rfl, fun _ _ => by kernel_rfl, (flagget_any b o g _ cs T (some s) W hb hz hR hne hs).mono fun e w' h => by
    obtain ⟨rfl, h1, h2, h3⟩ := h
    refine ⟨_, _, rfl, h1, h3, ?_⟩
    show (∃ x r v, numG 0 1 s = some (x, r) ∧ _) ∨ (numG 0 1 s = none ∧ _)
    unfold numG
    cases hr : restO (some s) 2 with
    | none => exact .inr ⟨rfl, by simp, _, h2, _, rfl⟩
    | some r =>
      simp only
      by_cases hc : (0 : Int) ≤ (numO (some s) 2 : Nat) ∧ ((numO (some s) 2 : Nat) : Int) ≤ 1
      · rw [if_pos hc]
        exact .inl ⟨_, _, _, rfl, decide_eq_true hc, rfl, h2, rfl⟩
      · rw [if_neg hc]
        exact .inr ⟨rfl, by rw [decide_eq_false hc]; rfl, _, h2, _, rfl⟩⟩

theorem getF_snoc (k : FK) : ∀ (ks : List FK) (s : ByteArray), getF (ks ++ [k]) s = match getF ks s with
    | none => none
    | some (xs, r) => (getK k r).map fun (p : FV × ByteArray) => (xs ++ [p.1], p.2)
  | [], s => by
    show (match getK k s with
      | none => none
      | some (x, r) => (getF [] r).map fun (p : List FV × ByteArray) => (x :: p.1, p.2)) = _
    simp only [getF]
    cases getK k s with
    | none => rfl
    | some p => rfl
  | k0 :: ks, s => by
    rw [List.cons_append, getF, getF]
    cases getK k0 s with
    | none => rfl
    | some p =>
      obtain ⟨x, r⟩ := p
      simp only
      rw [getF_snoc k ks r]
      cases getF ks r with
      | none => rfl
      | some q =>
        obtain ⟨ys, r2⟩ := q
        simp only [Option.map_some]
        cases getK k r2 with
        | none => rfl
        | some z => rfl
theorem getF_none_append : ∀ (ks ls : List FK) (s : ByteArray), getF ks s = none → getF (ks ++ ls) s = none
  | [], _, _, h => by cases h
  | k0 :: ks, ls, s, h => by
    rw [getF] at h
    rw [List.cons_append, getF]
    cases hk : getK k0 s with
    | none => rfl
    | some p =>
      obtain ⟨x, r⟩ := p
      rw [hk] at h
      simp only at h ⊢
      have : getF ks r = none := by
        cases hg : getF ks r with
        | none => rfl
        | some q => rw [hg] at h; cases h
      rw [getF_none_append ks ls r this]; rfl
theorem getF_len : ∀ (ks : List FK) (s : ByteArray) (xs : List FV) (r : ByteArray), getF ks s = some (xs, r) → xs.length = ks.length := fun ks s xs r h => (getF_canon ks s xs r h).1
theorem getK_size {k : FK} {s r : ByteArray} {x : FV} (h : getK k s = some (x, r)) : r.size ≤ s.size := by
  obtain ⟨_, b, _, rfl⟩ := getK_canon h
  rw [size_append]; omega

/-- what lies in block b when the first of the fields are read -/
structure RdSt (W w : World) (b g : Nat) (T : TypeId) (n0 : Nat) (LF : List (FK × Nat)) (j : Nat) (s : ByteArray) (cs : Array Value) (xs : List FV) (vs : List Value) (r : ByteArray) : Prop where
  blk : w.heap[b]? = some (.cells cs T)
  size : cs.size = n0
  rd : RdO w g (some r)
  left : r.size ≤ s.size
  touch : Touch [b, g] W w
  got : getF ((LF.take j).map (·.1)) s = some (xs, r)
  lens : vs.length = j
  done : ∀ i (h : i < LF.length) (h2 : i < vs.length) (h3 : i < xs.length), cs[(LF[i]).2]? = some vs[i] ∧ FvAt w W.heap.size (LF[i]).1 vs[i] xs[i]
  todo : ∀ i (h : i < LF.length), j ≤ i → cs[(LF[i]).2]? = some (zeroK (LF[i]).1)
  apart : ∀ i i' (h : i < vs.length) (h2 : i' < vs.length), i ≠ i' → ∀ q, (vs[i]).ownBlock = some q → (vs[i']).ownBlock ≠ some q

theorem FvAt.touch {w w' : World} {B b g : Nat} {k : FK} {v : Value} {x : FV} (h : FvAt w B k v x) (ht : Touch [b, g] w w') (hb : b < B) (hg : g < B) : FvAt w' B k v x := by
  cases k with
  | items =>
    refine Touch.row ht h fun q hq => ?_
    have h1 : w.ownsRow B 58 2 v x.l.length (itemCells x.l) := h
    have := (h1.lt q hq).1
    simp only [List.mem_cons, List.not_mem_nil, or_false]
    omega
  | num => exact h
  | wide => exact h
  | text => exact h
  | flag => exact h
theorem FvAt.mono {w : World} {B C : Nat} {k : FK} {v : Value} {x : FV} (h : FvAt w C k v x) (hb : B ≤ C) : FvAt w B k v x := by
  cases k with
  | items => exact own_mono h hb
  | num => exact h
  | wide => exact h
  | text => exact h
  | flag => exact h
theorem FvAt.new {w : World} {B : Nat} {k : FK} {v : Value} {x : FV} (h : FvAt w B k v x) : ∀ q, v.ownBlock = some q → B ≤ q := by
  intro q hq
  cases k with
  | items =>
    have h1 : w.ownsRow B 58 2 v x.l.length (itemCells x.l) := h
    exact (h1.lt q hq).1
  | num => have h1 : v = .int .i64 x.n := h; subst h1; cases hq
  | wide => have h1 : v = .int .u64 x.n := h; subst h1; cases hq
  | text => have h1 : v = .string x.s := h; subst h1; cases hq
  | flag => have h1 : v = .bool (x.n == 1) := h; subst h1; cases hq
theorem FvAt.lt {w : World} {B : Nat} {k : FK} {v : Value} {x : FV} (h : FvAt w B k v x) : ∀ q, v.ownBlock = some q → q < w.heap.size := by
  intro q hq
  cases k with
  | items =>
    have h1 : w.ownsRow B 58 2 v x.l.length (itemCells x.l) := h
    exact (h1.lt q hq).2
  | num => have h1 : v = .int .i64 x.n := h; subst h1; cases hq
  | wide => have h1 : v = .int .u64 x.n := h; subst h1; cases hq
  | text => have h1 : v = .string x.s := h; subst h1; cases hq
  | flag => have h1 : v = .bool (x.n == 1) := h; subst h1; cases hq

theorem set_ne {cs : Array Value} {i j : Nat} (v : Value) (h : i ≠ j) : (cs.setIfInBounds i v)[j]? = cs[j]? := by simp [h]
def RdNo (W : World) (b g : Nat) (T : TypeId) (n0 : Nat) (LF : List (FK × Nat)) (s : ByteArray) (w : World) : Prop :=
  getF (LF.map (·.1)) s = none ∧ Touch [b, g] W w ∧ (∃ o, RdO w g o) ∧ ∃ cs, w.heap[b]? = some (.cells cs T) ∧ cs.size = n0 ∧ ∀ i (h : i < LF.length), ∃ v, cs[(LF[i]).2]? = some v ∧ TyK (LF[i]).1 v
theorem readF_any (W : World) (b g : Nat) (cs0 : Array Value) (T : TypeId) (LF : List (FK × Nat)) (s : ByteArray) (A : Option Addr) (c : Nat) (hb : W.heap[b]? = some (.cells cs0 T)) (hz : ∀ i (h : i < LF.length), cs0[(LF[i]).2]? = some (zeroK (LF[i]).1))
    (hR : RdO W g (some s)) (hne : b ≠ g) (hs : s.size ≤ 9223372036854775807) (hoff : ∀ i i' (h : i < LF.length) (h' : i' < LF.length), i ≠ i' → (LF[i]).2 ≠ (LF[i']).2) (hok : ∀ x ∈ LF, GetOk x.1) (hn : LF.length ≤ 1000)
    (hA : FieldsAt W A (LF.map (fieldV b))) (hAb : ∀ q o, A = some ⟨q, o, none⟩ → q ≠ b ∧ q ≠ g) :
    Calls Tryz.prog 66 #[.pointer (some ⟨g, 0, none⟩), .slice A (LF.map (fieldV b)).length c] W
      (ReadPost (fun w => ∃ cs xs vs r, RdSt W w b g T cs0.size LF LF.length s cs xs vs r) (RdNo W b g T cs0.size LF s)) := by
  have hbl := lt_of_heap hb
  have hgl : g < W.heap.size := hR.1
  have hlen : (LF.map (fieldV b)).length = LF.length := by simp
  have key := read_any g A c (LF.map (fieldV b)) (fun j w => ∃ cs xs vs r, RdSt W w b g T cs0.size LF j s cs xs vs r) (RdNo W b g T cs0.size LF s) W (by rw [hlen]; exact hn) ?_ ?_ ?_
  · rw [hlen] at key ⊢
    exact key
  · rintro j w ⟨cs, xs, vs, r, h⟩
    obtain ⟨q, off, hf⟩ := hA
    refine ⟨q, off, fun i hi => ?_⟩
    obtain ⟨h1, h2, h3⟩ := hf i hi
    obtain ⟨n1, n2⟩ := hAb q off h1
    exact ⟨h1, Nat.lt_of_lt_of_le h2 h.touch.size, (h.touch.cell (p := ⟨q, off + i, none⟩) h2 (by simp only [List.mem_cons, List.not_mem_nil, or_false]; omega)).trans h3⟩
  · rintro j hj w ⟨cs, xs, vs, r, h⟩
    have hj' : j < LF.length := by rw [hlen] at hj; exact hj
    have e : (LF.map (fieldV b))[j] = fieldV b (LF[j]) := by simp
    rw [e]
    obtain ⟨U, x, i, hf, hm1, hm2, hm3, hcall⟩ := hok (LF[j]) (List.getElem_mem _) b (LF[j]).2 g cs T r w h.blk (h.todo j hj' (Nat.le_refl _)) h.rd hne (Nat.le_trans h.left hs)
    refine ⟨U, x, i, hf, hm1, hm2, hm3, hcall.mono fun e w' hp => ?_⟩
    obtain ⟨ok, o', he, hr, ht, hc⟩ := hp
    have htk : (LF.take (j + 1)).map (·.1) = (LF.take j).map (·.1) ++ [(LF[j]).1] := by
      rw [List.take_add_one, List.getElem?_eq_getElem hj', List.map_append]; rfl
    have htW : Touch [b, g] W w' := h.touch.trans ht (fun x hx => .inl hx)
    refine ⟨ok, o', he, hr, fun hok1 hsome => ?_, fun hbad => ?_⟩
    · rcases hc with ⟨x1, r1, v1, g1, g2, g3, g4, g5⟩ | ⟨g1, g2, v1, g4, g5⟩
      · subst g3
        have hxl : xs.length = j := by have := getF_len _ _ _ _ h.got; rw [this, List.length_map, List.length_take]; omega
        refine ⟨cs.setIfInBounds (LF[j]).2 v1, xs ++ [x1], vs ++ [v1], r1, ?_⟩
        refine ⟨g4, by rw [Array.size_setIfInBounds]; exact h.size, hr, Nat.le_trans (getK_size g1) h.left, htW, ?_, by rw [List.length_append, h.lens]; rfl, ?_, ?_, ?_⟩
        · rw [htk, getF_snoc, h.got]
          simp only
          rw [g1]; rfl
        · intro i hi h2 h3
          rcases Nat.lt_or_ge i j with hij | hij
          · have a1 : i < vs.length := by rw [h.lens]; exact hij
            have a2 : i < xs.length := by rw [hxl]; exact hij
            rw [List.getElem_append_left a1, List.getElem_append_left a2]
            obtain ⟨d1, d2⟩ := h.done i hi a1 a2
            exact ⟨(set_ne v1 (hoff j i hj' hi (by omega))).trans d1, d2.touch ht hbl hgl⟩
          · obtain rfl : i = j := by rw [List.length_append, h.lens] at h2; simp at h2; omega
            have a1 : (vs ++ [v1])[i] = v1 := by simp [List.getElem_append_right, h.lens]
            have a2 : (xs ++ [x1])[i] = x1 := by simp [List.getElem_append_right, hxl]
            rw [a1, a2]
            exact ⟨set_at v1 (h.todo i hj' (Nat.le_refl _)), g5.mono h.touch.size⟩
        · intro i hi hji
          exact (set_ne v1 (hoff j i hj' hi (by omega))).trans (h.todo i hi (by omega))
        · have hold : ∀ i (hi : i < vs.length) q, (vs[i]).ownBlock = some q → q < w.heap.size := fun i hi q hq => (h.done i (by rw [h.lens] at hi; omega) hi (by rw [hxl, ← h.lens]; exact hi)).2.lt q hq
          intro i i' h1 h2 hii q hq hq'
          rw [List.length_append, h.lens] at h1 h2
          simp at h1 h2
          rcases Nat.lt_or_ge i j with hij | hij <;> rcases Nat.lt_or_ge i' j with hij' | hij'
          · rw [List.getElem_append_left (by rw [h.lens]; exact hij)] at hq
            rw [List.getElem_append_left (by rw [h.lens]; exact hij')] at hq'
            exact h.apart i i' _ _ hii q hq hq'
          · obtain rfl : i' = j := by omega
            rw [List.getElem_append_left (by rw [h.lens]; exact hij)] at hq
            have a1 : (vs ++ [v1])[i']'(by simp [h.lens]) = v1 := by simp [List.getElem_append_right, h.lens]
            rw [a1] at hq'
            have := g5.new q hq'
            have := hold i _ q hq
            omega
          · obtain rfl : i = j := by omega
            rw [List.getElem_append_left (by rw [h.lens]; exact hij')] at hq'
            have a1 : (vs ++ [v1])[i]'(by simp [h.lens]) = v1 := by simp [List.getElem_append_right, h.lens]
            rw [a1] at hq
            have := g5.new q hq
            have := hold i' _ q hq'
            omega
          · omega
      · subst hok1
        rw [Bool.true_and] at g2
        rw [hsome] at g2
        cases g2
    · rcases hc with ⟨x1, r1, v1, g1, g2, g3, g4, g5⟩ | ⟨g1, g2, v1, g4, g5⟩
      · subst g2 g3
        cases hbad
      · have hxl : xs.length = j := by have := getF_len _ _ _ _ h.got; rw [this, List.length_map, List.length_take]; omega
        refine ⟨?_, htW, ⟨o', hr⟩, cs.setIfInBounds (LF[j]).2 v1, g4, by rw [Array.size_setIfInBounds]; exact h.size, fun i hi => ?_⟩
        rotate_left
        · rcases Nat.lt_trichotomy i j with hij | rfl | hij
          · obtain ⟨d1, d2⟩ := h.done i hi (by rw [h.lens]; exact hij) (by rw [hxl]; exact hij)
            exact ⟨_, (set_ne v1 (hoff j i hj' hi (by omega))).trans d1, d2.ty⟩
          · exact ⟨v1, set_at v1 (h.todo i hj' (Nat.le_refl _)), g5⟩
          · exact ⟨_, (set_ne v1 (hoff j i hj' hi (by omega))).trans (h.todo i hi (by omega)), zeroK_ty _⟩
        have hsn : getF ((LF.take (j + 1)).map (·.1)) s = none := by
          rw [htk, getF_snoc, h.got]
          simp only
          rw [g1]; rfl
        have := getF_none_append _ ((LF.drop (j + 1)).map (·.1)) s hsn
        rw [← List.map_append, List.take_append_drop] at this
        exact this
  · exact ⟨cs0, [], [], s, hb, rfl, hR, Nat.le_refl _, Touch.refl _ _, rfl, rfl, fun i hi h2 => absurd h2 (Nat.not_lt_zero _), fun i hi _ => hz i hi, fun i i' h => absurd h (Nat.not_lt_zero _)⟩
end Go.Proofs.YtbnmddopgbhapaaGreat
