/-
  The document's own letters, plainly: what may be, what is written, what is read. No program is named here.
-/
import Derived.Test.YtbnmddopgbhapaaGreatLetLV
namespace Go.Proofs.YtbnmddopgbhapaaGreat
open Go.RowKit

theorem catO_every : ∀ (os : List (Option ByteArray)), (catO os).isSome = os.all Option.isSome
  | [] => rfl
  | none :: os => rfl
  | some a :: os => by
    rw [catO, Option.isSome_map, catO_every os, List.all_cons]
    rfl
theorem textP_okay (s : ByteArray) : (textP s).isSome = okText s := by
  unfold textP
  cases h : okText s <;> rfl
def byteB (v : Int) : Bool := decide (0 ≤ v) && decide (v ≤ 255)
def numeB (v : Int) : Bool := decide (0 ≤ v) && decide (v ≤ 65535)
def lineB (x : Item) : Bool := okText x.1 && okText x.2
def linesB (l : List Item) : Bool := l.all lineB && decide (l.length ≤ 40)
theorem numP_is (hi v : Int) : (numP 0 hi v).isSome = (decide (0 ≤ v) && decide (v ≤ hi)) := by
  unfold numP
  by_cases h : 0 ≤ v ∧ v ≤ hi
  · rw [if_pos h, decide_eq_true h.1, decide_eq_true h.2]; rfl
  · rw [if_neg h, ← Bool.decide_and, decide_eq_false h]; rfl
theorem kindP_is (v : Int) : (numP 1 16 v).isSome = (decide (1 ≤ v) && decide (v ≤ 16)) := by
  unfold numP
  by_cases h : 1 ≤ v ∧ v ≤ 16
  · rw [if_pos h, decide_eq_true h.1, decide_eq_true h.2]; rfl
  · rw [if_neg h, ← Bool.decide_and, decide_eq_false h]; rfl
theorem itemPs_all : ∀ (l : List Item), (itemPs l).all Option.isSome = l.all lineB
  | [] => rfl
  | x :: l => by
    show (textP x.1 :: textP x.2 :: itemPs l).all Option.isSome = _
    rw [List.all_cons, List.all_cons, itemPs_all l, textP_okay, textP_okay, List.all_cons, ← Bool.and_assoc]
    rfl
theorem items_may (l : List Item) : (itemsP l).isSome = linesB l := by
  unfold itemsP
  rw [catO_every, List.all_cons, numP_is, itemPs_all]
  unfold linesB
  by_cases h : l.length ≤ 40
  · rw [List.take_of_length_le h, decide_eq_true h, decide_eq_true (show (0 : Int) ≤ (l.length : Int) by omega), decide_eq_true (show (l.length : Int) ≤ 40 by omega)]
    simp
  · rw [decide_eq_false h, decide_eq_false (show ¬ (l.length : Int) ≤ 40 by omega), Bool.and_false, Bool.and_false, Bool.false_and]
/-- what the document asks of a letter, in its order -/
def mayB (l : LV) : Bool := decide (1 ≤ l.k) && (decide (l.k ≤ 16) && (byteB l.f && (byteB l.t && (byteB l.nd && (numeB l.i && (numeB l.ep && (numeB l.n && (linesB l.li && (byteB l.op && (okText l.key && (okText l.val && (okText l.kto && (numeB l.most && (decide (0 ≤ l.er) && (decide (l.er ≤ 255) && (okText l.tv && (okText l.nx && (linesB l.ti && byteB l.tn))))))))))))))))))
theorem may_perm (a b c d e f g h i j k m n o p q r s t u : Bool) : ((a && b) && (c && (d && (f && (g && (h && (e && (true && (true && (i && (j && (k && (m && (n && (o && ((p && q) && (r && (t && (true && (s && (u && true))))))))))))))))))))) = (a && (b && (c && (d && (e && (f && (g && (h && (i && (j && (k && (m && (n && (o && (p && (q && (r && (s && (t && u))))))))))))))))))) := by
  simp only [Bool.true_and, Bool.and_true]
  ac_rfl
set_option maxRecDepth 20000 in
theorem putL_may (l : LV) : (putL l).isSome = mayB l := by
  unfold putL
  rw [catO_every]
  have e : (letterOs l).all Option.isSome = ((numP 1 16 l.k).isSome && ((numP 0 255 l.f).isSome && ((numP 0 255 l.t).isSome && ((numP 0 65535 l.i).isSome && ((numP 0 65535 l.ep).isSome && ((numP 0 65535 l.n).isSome && ((numP 0 255 l.nd).isSome && (true && (true && ((itemsP l.li).isSome && ((numP 0 255 l.op).isSome && ((textP l.key).isSome && ((textP l.val).isSome && ((textP l.kto).isSome && ((numP 0 65535 l.most).isSome && ((numP 0 255 l.er).isSome && ((textP l.tv).isSome && ((itemsP l.ti).isSome && (true && ((textP l.nx).isSome && ((numP 0 255 l.tn).isSome && true))))))))))))))))))))) := rfl
  rw [e]
  simp only [kindP_is, numP_is, textP_okay, items_may]
  exact may_perm (decide (1 ≤ l.k)) (decide (l.k ≤ 16)) (byteB l.f) (byteB l.t) (byteB l.nd) (numeB l.i) (numeB l.ep) (numeB l.n) (linesB l.li) (byteB l.op) (okText l.key) (okText l.val) (okText l.kto) (numeB l.most) (decide (0 ≤ l.er)) (decide (l.er ≤ 255)) (okText l.tv) (okText l.nx) (linesB l.ti) (byteB l.tn)

/-- the first items' bytes, behind what is there -/
def itemsS (l : List Item) (i : Nat) : ByteArray := (l.take i).foldl (fun s x => s ++ textT x.1 ++ textT x.2) (numT l.length)
theorem itemsS_zero (l : List Item) : itemsS l 0 = numT l.length := rfl
theorem itemsS_succ (l : List Item) (i : Nat) (h : i < l.length) : itemsS l (i + 1) = itemsS l i ++ textT (l[i]).1 ++ textT (l[i]).2 := by
  unfold itemsS
  rw [List.take_add_one, List.getElem?_eq_getElem h, List.foldl_append]
  rfl
def itemsT (l : List Item) : ByteArray := itemsS l l.length
theorem fold_cat : ∀ (l : List Item) (a c : ByteArray), catO (itemPs l) = some c → l.foldl (fun s x => s ++ textT x.1 ++ textT x.2) a = a ++ c
  | [], a, c, h => by
    have : c = ByteArray.empty := (Option.some.inj h).symm
    subst this
    rw [append_empty]; rfl
  | x :: l, a, c, h => by
    obtain ⟨a1, c1, e1, h1, rfl⟩ := catO_cons_some (o := textP x.1) (r := textP x.2 :: itemPs l) h
    obtain ⟨a2, c2, e2, h2, rfl⟩ := catO_cons_some (o := textP x.2) (r := itemPs l) h1
    obtain ⟨o1, rfl⟩ := textP_some e1
    obtain ⟨o2, rfl⟩ := textP_some e2
    rw [List.foldl_cons, fold_cat l _ c2 h2, append_assoc, append_assoc]
theorem itemsT_is {l : List Item} {b : ByteArray} (h : itemsP l = some b) : itemsT l = b := by
  obtain ⟨hl, c, h1, rfl⟩ := itemsP_some h
  unfold itemsT itemsS
  rw [List.take_length]
  exact fold_cat l _ c h1
/-- what the document writes of a letter, in its order -/
def putT (l : LV) : ByteArray := ((numT l.k ++ numT l.f ++ numT l.t ++ numT l.i ++ numT l.ep ++ numT l.n ++ numT l.nd ++ txt (wideN 8 l.af) ++ txt (wideN 8 l.au) ++ itemsT l.li) ++ numT l.op ++ textT l.key ++ textT l.val ++ textT l.kto ++ numT l.most) ++ numT l.er ++ textT l.tv ++ itemsT l.ti ++ numT (if l.more then 1 else 0) ++ textT l.nx ++ numT l.tn
theorem catO_step {o : Option ByteArray} {r : List (Option ByteArray)} {b s : ByteArray} (h : catO (o :: r) = some b) (hs : ∀ a, o = some a → a = s) : ∃ c, catO r = some c ∧ b = s ++ c := by
  obtain ⟨a, c, rfl, hc, rfl⟩ := catO_cons_some h
  rw [hs a rfl]
  exact ⟨c, hc, rfl⟩
theorem num_is {lo hi v : Int} : ∀ a, numP lo hi v = some a → a = numT v := fun _ h => (numP_some h).2
theorem text_is {s : ByteArray} : ∀ a, textP s = some a → a = textT s := fun _ h => (textP_some h).2
theorem list_is {l : List Item} : ∀ a, itemsP l = some a → a = itemsT l := fun _ h => (itemsT_is h).symm
theorem some_is (s : ByteArray) : ∀ a, some s = some a → a = s := fun _ h => (Option.some.inj h).symm
set_option maxRecDepth 20000 in
theorem putT_is {l : LV} {b : ByteArray} (h : putL l = some b) : putT l = b := by
  have h : catO (letterOs l) = some b := h
  have e : letterOs l = [numP 1 16 l.k, numP 0 255 l.f, numP 0 255 l.t, numP 0 65535 l.i, numP 0 65535 l.ep, numP 0 65535 l.n, numP 0 255 l.nd, some (txt (wideN 8 l.af)), some (txt (wideN 8 l.au)), itemsP l.li, numP 0 255 l.op, textP l.key, textP l.val, textP l.kto, numP 0 65535 l.most, numP 0 255 l.er, textP l.tv, itemsP l.ti, some (numT (if l.more then 1 else 0)), textP l.nx, numP 0 255 l.tn] := rfl
  rw [e] at h
  obtain ⟨c0, h0, e0⟩ := catO_step h num_is
  obtain ⟨c1, h1, e1⟩ := catO_step h0 num_is
  obtain ⟨c2, h2, e2⟩ := catO_step h1 num_is
  obtain ⟨c3, h3, e3⟩ := catO_step h2 num_is
  obtain ⟨c4, h4, e4⟩ := catO_step h3 num_is
  obtain ⟨c5, h5, e5⟩ := catO_step h4 num_is
  obtain ⟨c6, h6, e6⟩ := catO_step h5 num_is
  obtain ⟨c7, h7, e7⟩ := catO_step h6 (some_is _)
  obtain ⟨c8, h8, e8⟩ := catO_step h7 (some_is _)
  obtain ⟨c9, h9, e9⟩ := catO_step h8 list_is
  obtain ⟨c10, h10, e10⟩ := catO_step h9 num_is
  obtain ⟨c11, h11, e11⟩ := catO_step h10 text_is
  obtain ⟨c12, h12, e12⟩ := catO_step h11 text_is
  obtain ⟨c13, h13, e13⟩ := catO_step h12 text_is
  obtain ⟨c14, h14, e14⟩ := catO_step h13 num_is
  obtain ⟨c15, h15, e15⟩ := catO_step h14 num_is
  obtain ⟨c16, h16, e16⟩ := catO_step h15 text_is
  obtain ⟨c17, h17, e17⟩ := catO_step h16 list_is
  obtain ⟨c18, h18, e18⟩ := catO_step h17 (some_is _)
  obtain ⟨c19, h19, e19⟩ := catO_step h18 text_is
  obtain ⟨c20, h20, e20⟩ := catO_step h19 num_is
  have ez : c20 = ByteArray.empty := (Option.some.inj h20).symm
  rw [e0, e1, e2, e3, e4, e5, e6, e7, e8, e9, e10, e11, e12, e13, e14, e15, e16, e17, e18, e19, e20, ez]
  unfold putT
  simp only [append_assoc, append_empty]

/-- so many items, as the document reads them: till the reader is Bad -/
def itemsR : Nat → Option ByteArray → List Item × Option ByteArray
  | 0, o => ([], o)
  | _ + 1, none => ([], none)
  | n + 1, some s => ((textO (some s), textO (restT (some s))) :: (itemsR n (restT (restT (some s)))).1, (itemsR n (restT (restT (some s)))).2)
theorem restT_none : restT none = none := rfl
theorem itemsR_yes : ∀ (n : Nat) (s : ByteArray) (l : List Item) (r : ByteArray), itemsG n s = some (l, r) → itemsR n (some s) = (l, some r)
  | 0, s, l, r, h => by
    injection h with h
    injection h with ha hb
    subst ha hb
    rfl
  | n + 1, s, l, r, h => by
    rw [itemsG] at h
    cases h1 : restT (some s) with
    | none => rw [h1] at h; cases h
    | some s1 =>
      rw [h1] at h
      simp only at h
      cases h2 : restT (some s1) with
      | none => rw [h2] at h; cases h
      | some s2 =>
        rw [h2] at h
        simp only at h
        obtain ⟨p, hp, e⟩ := Option.map_eq_some_iff.1 h
        injection e with e1 e2
        obtain ⟨lp, rp⟩ := p
        simp only at e1 e2
        subst e1 e2
        have ih := itemsR_yes n s2 lp rp hp
        rw [itemsR, h1, h2, ih]
/-- the items behind their number -/
def listR (o : Option ByteArray) : List Item × Option ByteArray := itemsR (numO o 2) (restO o 2)
/-- what the document reads of a letter, field by field: what is read, what is left -/
def stepR : FK → Option ByteArray → FV × Option ByteArray
  | .num _ _ _, o => (nv (numO o 2 : Nat), restO o 2)
  | .wide, o => (nv (numO o 8 : Nat), restO o 8)
  | .text, o => (sv (textO o), restT o)
  | .flag, o => (nv (numO o 2 : Nat), restO o 2)
  | .items, o => (iv (listR o).1, (listR o).2)
def readR : List FK → Option ByteArray → List FV × Option ByteArray
  | [], o => ([], o)
  | k :: ks, o => ((stepR k o).1 :: (readR ks (stepR k o).2).1, (readR ks (stepR k o).2).2)
theorem stepR_yes {k : FK} {s r : ByteArray} {x : FV} (h : getK k s = some (x, r)) : stepR k (some s) = (x, some r) := by
  have hnum : ∀ {lo hi : Int}, numG lo hi s = some (x, r) → (nv (numO (some s) 2 : Nat), restO (some s) 2) = (x, some r) := by
    intro lo hi h
    unfold numG at h
    cases h1 : restO (some s) 2 with
    | none => rw [h1] at h; cases h
    | some r1 =>
      rw [h1] at h
      simp only at h
      by_cases hc : lo ≤ (numO (some s) 2 : Nat) ∧ ((numO (some s) 2 : Nat) : Int) ≤ hi
      · rw [if_pos hc] at h
        injection h with h
        injection h with ha hb
        subst ha hb
        rfl
      · rw [if_neg hc] at h; cases h
  cases k with
  | num e lo hi => exact hnum h
  | flag => exact hnum h
  | wide =>
    obtain ⟨r1, h1, e⟩ := Option.map_eq_some_iff.1 h
    injection e with ea eb
    subst ea eb
    show (_, restO (some s) 8) = _
    rw [h1]; rfl
  | text =>
    obtain ⟨r1, h1, e⟩ := Option.map_eq_some_iff.1 h
    injection e with ea eb
    subst ea eb
    show (_, restT (some s)) = _
    rw [h1]; rfl
  | items =>
    rw [getK] at h
    cases h1 : restO (some s) 2 with
    | none => rw [h1] at h; cases h
    | some r1 =>
      rw [h1] at h
      simp only at h
      by_cases hn : numO (some s) 2 ≤ 40
      · rw [if_pos hn] at h
        obtain ⟨p, hp, e⟩ := Option.map_eq_some_iff.1 h
        injection e with ea eb
        obtain ⟨l, rp⟩ := p
        simp only at ea eb
        subst ea eb
        show (iv (itemsR _ (restO (some s) 2)).1, (itemsR _ (restO (some s) 2)).2) = _
        rw [h1, itemsR_yes _ _ _ _ hp]; rfl
      · rw [if_neg hn] at h; cases h
theorem readR_yes : ∀ (ks : List FK) (s : ByteArray) (xs : List FV) (r : ByteArray), getF ks s = some (xs, r) → readR ks (some s) = (xs, some r)
  | [], s, xs, r, h => by
    injection h with h
    injection h with ha hb
    subst ha hb
    rfl
  | k :: ks, s, xs, r, h => by
    rw [getF] at h
    cases h1 : getK k s with
    | none => rw [h1] at h; cases h
    | some p =>
      obtain ⟨x, r1⟩ := p
      rw [h1] at h
      simp only at h
      obtain ⟨q, hq, e⟩ := Option.map_eq_some_iff.1 h
      obtain ⟨ys, ry⟩ := q
      injection e with ea eb
      simp only at ea eb
      subst ea eb
      rw [readR, stepR_yes h1, readR_yes ks r1 ys ry hq]
/-- the letter that the document reads -/
def letR (o : Option ByteArray) : LV := LV.of (readR LK o).1
def leftR (o : Option ByteArray) : Option ByteArray := (readR LK o).2
theorem getL_read {b : ByteArray} {l : LV} (h : getL b = some l) : letR (some b) = l ∧ leftR (some b) ≠ none := by
  unfold getL at h
  cases g : getF LK b with
  | none => rw [g] at h; cases h
  | some p =>
    obtain ⟨xs, r⟩ := p
    rw [g] at h
    simp only at h
    by_cases hr : r.size = 0
    · rw [if_pos hr] at h
      have e := readR_yes LK b xs r g
      refine ⟨?_, ?_⟩
      · unfold letR; rw [e]; exact Option.some.inj h
      · unfold leftR; rw [e]; exact fun h => by cases h
    · rw [if_neg hr] at h; cases h
/-- the letter that the document reads is one just if it may be and is written so -/
theorem getL_is {b : ByteArray} (h1 : (letR (some b)).af < 18446744073709551616) (h2 : (letR (some b)).au < 18446744073709551616) : getL b = if leftR (some b) ≠ none ∧ putL (letR (some b)) = some b then some (letR (some b)) else none := by
  by_cases h : leftR (some b) ≠ none ∧ putL (letR (some b)) = some b
  · rw [if_pos h]
    exact getL_of h1 h2 h.2
  · rw [if_neg h]
    cases g : getL b with
    | none => rfl
    | some l =>
      obtain ⟨rfl, e2⟩ := getL_read g
      exact absurd ⟨e2, (getL_put g).1⟩ h
end Go.Proofs.YtbnmddopgbhapaaGreat
