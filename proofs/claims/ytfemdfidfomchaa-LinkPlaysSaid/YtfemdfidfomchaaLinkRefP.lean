/-
  The document's link: what Got and Tick make of what it knows; how it stands to the code's link.
-/
import Derived.Test.YtfemdfidfomchaaLinkRefS
import Derived.Test.YtfemdfidfomchaaLinkGot
import Derived.Test.YtfemdfidfomchaaLinkTick
import Derived.Test.YtfemdfidfomchaaLinkPure
namespace Go.Proofs.Ytfemdfidfomchaa
open Go.RowKit

theorem RLX.touch {W W1 : World} {g : Nat} {s : RL} {V K : Value} {G : List Nat} (h : RLX W g s V K) (t : Touch G W W1) (hn : ∀ q ∈ fr g V K, q ∉ G) : RLX W1 g s V K :=
  ⟨(t.block g (bg_lt h.hg) (hn g (by simp [fr]))).trans h.hg, t.row h.v fun q hq => hn q (mem_fr.2 (.inr (.inl hq))), t.row h.k fun q hq => hn q (mem_fr.2 (.inr (.inr hq))), h.gv, h.gk, h.vk⟩
theorem RLX.below {W W1 : World} {g : Nat} {s : RL} {V K : Value} (h : RLX W g s V K) (t : Below W.heap.size W W1) : RLX W1 g s V K := h.touch (Touch.ofBelow (F := []) t) (by simp)
theorem RLX.flt {W : World} {g : Nat} {s : RL} {V K : Value} (h : RLX W g s V K) : ∀ q ∈ fr g V K, q < W.heap.size := by
  intro q hq
  rcases mem_fr.1 hq with rfl | e | e
  · exact bg_lt h.hg
  · exact (h.v.lt q e).2
  · exact (h.k.lt q e).2
def RL.takes (s : RL) (p : PR) : Prop := p.f = s.peer ∧ p.t = s.me ∧ 0 ≤ p.s ∧ 0 ≤ p.a ∧ p.a ≤ (s.sent : Nat)
def filt (a : Int) (l : List (Nat × Nat × LR)) : List (Nat × Nat × LR) := l.filter fun x => decide (a < (x.1 : Nat))
theorem filt_snoc (a : Int) (l : List (Nat × Nat × LR)) (x : Nat × Nat × LR) : filt a (l ++ [x]) = filt a l ++ (if a < (x.1 : Nat) then [x] else []) := by
  unfold filt
  rw [List.filter_append]
  congr 1
  by_cases h : a < (x.1 : Nat) <;> simp [h]
theorem filt_take {a : Int} {l : List (Nat × Nat × LR)} {i : Nat} {x : Nat × Nat × LR} (h : l[i]? = some x) : filt a (l.take (i + 1)) = filt a (l.take i) ++ (if a < (x.1 : Nat) then [x] else []) := by
  obtain ⟨hi, hv⟩ := List.getElem?_eq_some_iff.1 h
  rw [List.take_succ_eq_append_getElem hi, filt_snoc, hv]
abbrev RL.known (s : RL) (a : Int) : RL := {s with out := filt a s.out}
def RL.keeps (s : RL) (q : Int) : Bool := decide ((s.came : Int) < q) && (decide (q - (s.came : Int) ≤ 64) && decide (keptAt s.kept q < 0))
theorem keptAt_cases (ks : List PR) (q : Int) : (∃ i p, ks[i]? = some p ∧ p.s = q ∧ (∀ (j : Nat) (y : PR), j < i → ks[j]? = some y → y.s ≠ q) ∧ keptAt ks q = (i : Nat)) ∨ (keptAt ks q = -1 ∧ ∀ p ∈ ks, p.s ≠ q) := by
  cases hf : ks.findIdx? (fun p => p.s == q) with
  | some i =>
    rw [List.findIdx?_eq_some_iff_getElem] at hf
    obtain ⟨hi, hv, hb⟩ := hf
    have h1 : ks[i]? = some (ks[i]) := List.getElem?_eq_getElem hi
    have h2 : (ks[i]).s = q := by simpa using hv
    have h3 : ∀ (j : Nat) (y : PR), j < i → ks[j]? = some y → y.s ≠ q := fun j y hj hy => by
      obtain ⟨hj2, hv2⟩ := List.getElem?_eq_some_iff.1 hy
      have := hb j hj
      subst hv2
      simpa using this
    exact .inl ⟨i, _, h1, h2, h3, keptAt_hit h1 h2 h3⟩
  | none =>
    rw [List.findIdx?_eq_none_iff] at hf
    have h3 : ∀ p ∈ ks, p.s ≠ q := fun p hp => by simpa using hf p hp
    exact .inr ⟨keptAt_none fun j p hp => h3 p (List.mem_of_getElem? hp), h3⟩
/-- as Follows, for the document's link -/
inductive RFol : Nat → List PR → List LR → Nat → List PR → Prop
  | stop {c : Nat} {ks : List PR} (h : ∀ x ∈ ks, x.s ≠ ((c + 1 : Nat) : Int)) : RFol c ks [] c ks
  | step {c c' : Nat} {ks ks' : List PR} {i : Nat} {x : PR} {ts : List LR} (hx : ks[i]? = some x) (he : x.s = ((c + 1 : Nat) : Int)) (hf : ∀ (j : Nat) (y : PR), j < i → ks[j]? = some y → y.s ≠ ((c + 1 : Nat) : Int))
      (h : RFol (c + 1) (ks.take i ++ ks.drop (i + 1)) ts c' ks') : RFol c ks (x.r :: ts) c' ks'
theorem RFol.told {c c' : Nat} {ks ks' : List PR} {ts : List LR} (h : RFol c ks ts c' ks') : ∀ r ∈ ts, ∃ x ∈ ks, x.r = r := by
  induction h with
  | stop h => simp
  | step hx he hf h ih =>
    intro r hr
    rcases List.mem_cons.1 hr with rfl | z
    · exact ⟨_, List.mem_of_getElem? hx, rfl⟩
    · obtain ⟨y, hy, e⟩ := ih r z
      exact ⟨y, mem_without hy, e⟩
theorem RFol.left {c c' : Nat} {ks ks' : List PR} {ts : List LR} (h : RFol c ks ts c' ks') : ∀ x ∈ ks', x ∈ ks := by
  induction h with
  | stop h => simp
  | step hx he hf h ih => exact fun x hx => mem_without (ih x hx)
/-- what is kept is alike -/
abbrev KLike (rks : List PR) (ks : List (Nat × LR)) : Prop := rks.map (fun p => (p.s, p.r.l)) = ks.map fun x => ((x.1 : Int), x.2.l)
theorem KLike.at_ {rks : List PR} {ks : List (Nat × LR)} (h : KLike rks ks) {i : Nat} {x : Nat × LR} (hx : ks[i]? = some x) : ∃ p, rks[i]? = some p ∧ p.s = (x.1 : Int) ∧ p.r.l = x.2.l := by
  have := congrArg (fun l => l[i]?) h
  simp only [List.getElem?_map, hx, Option.map_some, Option.map_eq_some_iff, Prod.mk.injEq] at this
  exact this
theorem KLike.at2 {rks : List PR} {ks : List (Nat × LR)} (h : KLike rks ks) {i : Nat} {p : PR} (hp : rks[i]? = some p) : ∃ x, ks[i]? = some x ∧ p.s = (x.1 : Int) ∧ p.r.l = x.2.l := by
  have := congrArg (fun l => l[i]?) h.symm
  simp only [List.getElem?_map, hp, Option.map_some, Option.map_eq_some_iff, Prod.mk.injEq] at this
  obtain ⟨x, h1, h2, h3⟩ := this
  exact ⟨x, h1, h2.symm, h3.symm⟩
theorem KLike.but {rks : List PR} {ks : List (Nat × LR)} (h : KLike rks ks) (i : Nat) : KLike (rks.take i ++ rks.drop (i + 1)) (ks.take i ++ ks.drop (i + 1)) := by
  unfold KLike at h ⊢
  rw [List.map_append, List.map_append, List.map_take, List.map_drop, List.map_take, List.map_drop, h]
theorem fol_like {c c' : Nat} {ks ks' : List (Nat × LR)} {ts : List LR} (h : Follows c ks ts c' ks') : ∀ {rks rks' : List PR} {rts : List LR} {d : Nat}, KLike rks ks → RFol c rks rts d rks' → d = c' ∧ rts.map (·.l) = ts.map (·.l) ∧ KLike rks' ks' := by
  induction h with
  | stop h =>
    intro rks rks' rts d hl hr
    cases hr with
    | stop _ => exact ⟨rfl, rfl, hl⟩
    | step hx he hf h2 =>
      obtain ⟨x, h3, h4, h5⟩ := hl.at2 hx
      exact absurd (by have := h4.symm.trans he; omega) (h x (List.mem_of_getElem? h3))
  | step hx he hf h ih =>
    intro rks rks' rts d hl hr
    rename_i c c' ks ks' i x ts
    cases hr with
    | stop h2 =>
      obtain ⟨p, h3, h4, h5⟩ := hl.at_ hx
      exact absurd (by rw [h4, he]) (h2 p (List.mem_of_getElem? h3))
    | step hx2 he2 hf2 h2 =>
      rename_i i2 x2 ts2
      have hii : i2 = i := by
        rcases Nat.lt_trichotomy i2 i with z | z | z
        · obtain ⟨y, y1, y2, y3⟩ := hl.at2 hx2
          exact absurd (by have := y2.symm.trans he2; omega) (hf _ y z y1)
        · exact z
        · obtain ⟨p, y1, y2, y3⟩ := hl.at_ hx
          exact absurd (by rw [y2, he]) (hf2 _ p z y1)
      subst hii
      obtain ⟨p, y1, y2, y3⟩ := hl.at_ hx
      rw [hx2] at y1
      injection y1 with y1
      subst y1
      obtain ⟨e1, e2, e3⟩ := ih (hl.but i2) h2
      exact ⟨e1, by rw [List.map_cons, List.map_cons, e2, y3], e3⟩
/-- letters that wait, numbered from f on -/
def numb (f : Nat) : List (LR × Nat) → List (Nat × Nat × LR)
  | [] => []
  | x :: ws => (f, x.2, x.1) :: numb (f + 1) ws
theorem numb_length : ∀ (f : Nat) (ws : List (LR × Nat)), (numb f ws).length = ws.length
  | _, [] => rfl
  | f, x :: ws => by rw [numb, List.length_cons, numb_length (f + 1) ws, List.length_cons]
theorem numb_snoc : ∀ (f : Nat) (ws : List (LR × Nat)) (x : LR × Nat), numb f (ws ++ [x]) = numb f ws ++ [(f + ws.length, x.2, x.1)]
  | f, [], x => by simp [numb]
  | f, y :: ws, x => by rw [List.cons_append, numb, numb_snoc (f + 1) ws x, numb, List.cons_append, List.length_cons, show f + 1 + ws.length = f + (ws.length + 1) by omega]
theorem numb_get : ∀ (f : Nat) (ws : List (LR × Nat)) (i : Nat) (x : LR × Nat), ws[i]? = some x → (numb f ws)[i]? = some (f + i, x.2, x.1)
  | _, [], _, _, h => by simp at h
  | f, y :: ws, 0, x, h => by simp at h; subst h; simp [numb]
  | f, y :: ws, i + 1, x, h => by rw [numb, List.getElem?_cons_succ, numb_get (f + 1) ws i x (by simpa using h), show f + 1 + i = f + (i + 1) by omega]
theorem filt_none : ∀ (a : Int) (f : Nat) (ws : List (LR × Nat)), a < (f : Nat) → filt a (numb f ws) = numb f ws
  | a, f, [], _ => by simp [numb, filt]
  | a, f, x :: ws, h => by
    show List.filter _ ((f, x.2, x.1) :: numb (f + 1) ws) = _
    rw [List.filter_cons_of_pos (by simpa using h)]
    exact congrArg _ (filt_none a (f + 1) ws (by omega))
theorem filt_numb : ∀ (a : Int) (f : Nat) (ws : List (LR × Nat)), filt a (numb f ws) = numb (f + (a + 1 - (f : Nat)).toNat) (ws.drop (a + 1 - (f : Nat)).toNat)
  | a, f, [] => by simp [numb, filt]
  | a, f, x :: ws => by
    by_cases h : a < (f : Nat)
    · rw [filt_none a f _ h, show (a + 1 - (f : Nat)).toNat = 0 by omega]
      rfl
    · show List.filter _ ((f, x.2, x.1) :: numb (f + 1) ws) = _
      rw [List.filter_cons_of_neg (by simpa using h)]
      have := filt_numb a (f + 1) ws
      obtain ⟨k, hk⟩ : ∃ k, (a + 1 - (f : Nat)).toNat = k + 1 := ⟨(a + 1 - (f : Nat)).toNat - 1, by omega⟩
      have e : (a + 1 - ((f + 1 : Nat) : Int)).toNat = k := by omega
      rw [e] at this
      rw [hk, List.drop_succ_cons, show f + (k + 1) = f + 1 + k by omega]
      exact this
/-- the document's link, and the code's: the same -/
structure RelL (s : LS) (t : RL) : Prop where
  me : t.me = s.me
  peer : t.peer = s.peer
  sent : t.sent = s.sent
  came : t.came = s.came
  now : t.now = s.now
  le : s.waits.length ≤ s.sent
  out : t.out = numb (s.sent - s.waits.length + 1) s.waits
  kept : KLike t.kept s.kept
section
variable {s : LS} {t : RL}
theorem RelL.new (me peer : Int) : RelL (LS.new me peer) ⟨me, peer, 0, [], 0, [], 0⟩ := ⟨rfl, rfl, rfl, rfl, rfl, Nat.le_refl _, rfl, rfl⟩
theorem RelL.takes (h : RelL s t) (p : PR) : t.takes p ↔ s.takes p := by
  unfold RL.takes LS.takes
  rw [h.me, h.peer, h.sent]
theorem RelL.outLen (h : RelL s t) : t.out.length = s.waits.length := by rw [h.out, numb_length]
theorem RelL.keptLen (h : RelL s t) : t.kept.length = s.kept.length := by have := congrArg List.length h.kept; simpa using this
theorem RelL.push (h : RelL s t) (r : LR) : RelL (s.push r) {t with sent := t.sent + 1, out := t.out ++ [(t.sent + 1, t.now, r)]} where
  me := h.me
  peer := h.peer
  sent := by show t.sent + 1 = s.sent + 1; rw [h.sent]
  came := h.came
  now := h.now
  le := by have := h.le; show (s.waits ++ [(r, s.now)]).length ≤ s.sent + 1; simp; omega
  out := by
    have hl := h.le
    show t.out ++ [(t.sent + 1, t.now, r)] = numb (s.sent + 1 - (s.waits ++ [(r, s.now)]).length + 1) (s.waits ++ [(r, s.now)])
    rw [numb_snoc, h.out, h.sent, h.now, List.length_append, List.length_singleton, show s.sent + 1 - (s.waits.length + 1) + 1 = s.sent - s.waits.length + 1 by omega, show s.sent - s.waits.length + 1 + s.waits.length = s.sent + 1 by omega]
  kept := h.kept
theorem RelL.known (h : RelL s t) {a : Int} (ha : a ≤ (s.sent : Nat)) : RelL (s.known a) (t.known a) where
  me := h.me
  peer := h.peer
  sent := h.sent
  came := h.came
  now := h.now
  le := by have := h.le; show (s.waits.drop (s.gone a)).length ≤ s.sent; rw [List.length_drop]; omega
  out := by
    have hl := h.le
    show filt a t.out = numb (s.sent - (s.waits.drop (s.gone a)).length + 1) (s.waits.drop (s.gone a))
    have e : (a + 1 - ((s.sent - s.waits.length + 1 : Nat) : Int)).toNat = s.gone a := by unfold LS.gone; omega
    have hg : s.gone a ≤ s.waits.length := by unfold LS.gone; omega
    rw [h.out, filt_numb, e, List.length_drop, show s.sent - (s.waits.length - s.gone a) + 1 = s.sent - s.waits.length + 1 + s.gone a by omega]
  kept := h.kept
theorem RelL.tick (h : RelL s t) : RelL s.tick {t with now := t.now + 1} :=
  ⟨h.me, h.peer, h.sent, h.came, by show t.now + 1 = s.now + 1; rw [h.now], h.le, h.out, h.kept⟩
theorem numb_map : ∀ (f : Nat) (ws : List (LR × Nat)) (n : Nat), numb f (ws.map fun x => (x.1, n)) = (numb f ws).map fun x => (x.1, n, x.2.2)
  | _, [], _ => by simp [numb]
  | f, x :: ws, n => by rw [List.map_cons, numb, numb_map (f + 1) ws n, numb, List.map_cons]
theorem RelL.again (h : RelL s t) : RelL s.again {t with now := t.now + 1, out := t.out.map fun x => (x.1, t.now + 1, x.2.2)} where
  me := h.me
  peer := h.peer
  sent := h.sent
  came := h.came
  now := by show t.now + 1 = s.now + 1; rw [h.now]
  le := by show (s.waits.map _).length ≤ s.sent; rw [List.length_map]; exact h.le
  out := by
    show t.out.map _ = numb (s.sent - (s.waits.map _).length + 1) (s.waits.map _)
    rw [List.length_map, numb_map, h.out, h.now]
  kept := h.kept
theorem hasSeq_kept (h : KLike t.kept s.kept) (q : Nat) : decide (keptAt t.kept (q : Nat) < 0) = !hasSeq s.kept q := by
  cases hh : hasSeq s.kept q with
  | true =>
    obtain ⟨x, hx, e⟩ := hasSeq_true.1 hh
    obtain ⟨i, hi⟩ := List.mem_iff_getElem?.1 hx
    obtain ⟨p, h1, h2, h3⟩ := h.at_ hi
    rcases keptAt_cases t.kept (q : Nat) with ⟨j, y, _, _, _, e2⟩ | ⟨_, hn⟩
    · rw [e2]; simp
    · exact absurd (by rw [h2, e]) (hn p (List.mem_of_getElem? h1))
  | false =>
    rcases keptAt_cases t.kept (q : Nat) with ⟨j, y, h1, h2, _, e2⟩ | ⟨e, _⟩
    · obtain ⟨x, y1, y2, y3⟩ := h.at2 h1
      have : hasSeq s.kept q = true := hasSeq_true.2 ⟨x, List.mem_of_getElem? y1, by have := y2.symm.trans h2; omega⟩
      rw [hh] at this
      cases this
    · rw [e]; simp
theorem RelL.keeps (h : RelL s t) (q : Nat) : t.keeps (q : Nat) = s.keeps q := by
  unfold RL.keeps LS.keeps
  rw [hasSeq_kept h.kept, h.came]
  congr 1
  · exact decide_eq_decide.2 (by omega)
  · congr 1
    exact decide_eq_decide.2 (by omega)
/-- what Got leaves, if it takes -/
def RL.took (t : RL) (p : PR) : RL := if (t.known p.a).keeps p.s then {t.known p.a with kept := t.kept ++ [p]} else t.known p.a
theorem RelL.took (h : RelL s t) {p : PR} (ha : p.a ≤ (s.sent : Nat)) {q : Nat} (hq : p.s = (q : Nat)) {r : LR} (hr : p.r.l = r.l) : RelL (s.took p.a q r) (t.took p) := by
  have hk := h.known ha
  have e := hk.keeps q
  unfold RL.took LS.took
  rw [hq, e]
  cases (s.known p.a).keeps q with
  | false => exact hk
  | true =>
    refine ⟨hk.me, hk.peer, hk.sent, hk.came, hk.now, hk.le, hk.out, ?_⟩
    show KLike (t.kept ++ [p]) (s.kept ++ [(q, r)])
    unfold KLike
    rw [List.map_append, List.map_append, h.kept]
    simp [hq, hr]
theorem RelL.followed (h : RelL s t) {c' d : Nat} {ks' : List (Nat × LR)} {rks' : List PR} {ts rts : List LR} (h1 : Follows s.came s.kept ts c' ks') (h2 : RFol t.came t.kept rts d rks') :
    d = c' ∧ rts.map (·.l) = ts.map (·.l) ∧ RelL {s with came := c', kept := ks'} {t with came := d, kept := rks'} := by
  rw [h.came] at h2
  obtain ⟨e1, e2, e3⟩ := fol_like h1 h.kept h2
  exact ⟨e1, e2, h.me, h.peer, h.sent, e1, h.now, h.le, h.out, e3⟩
end
def RL.due (s : RL) : Bool := match s.out with
  | [] => false
  | x :: _ => decide (4 ≤ (s.now : Int) + 1 - (x.2.1 : Nat))
theorem RelL.due {s : LS} {t : RL} (h : RelL s t) : t.due = s.due := by
  unfold RL.due LS.due
  rw [h.out, h.now]
  cases s.waits with
  | nil => simp [numb]
  | cons x ws => simp [numb]
/-- what a call that writes to the document's link leaves -/
def RStep (W w : World) (g : Nat) (V K : Value) (s' : RL) : Prop :=
  Touch [g] W w ∧ ∃ V' K', RLX w g s' V' K' ∧ ∀ q ∈ fr g V' K', q ∈ fr g V K ∨ W.heap.size ≤ q
theorem row_rangeE {α : Type} {enc : α → Array Value} {k : Nat} {w : World} {base e q n c : Nat} {l : List α} (hk : ∀ x, (enc x).size = k) (h : w.ownsRow base e k (.slice (some ⟨q, 0, none⟩) n c) n (rowC enc l)) {i : Nat} {x : α} (hx : l[i]? = some x) : w.rangeAt q (i * k) (enc x).toList := fun j v hj => by
  have hj21 : j < k := by rw [← hk x, ← Array.length_toList]; exact (List.getElem?_eq_some_iff.1 hj).1
  have hi := (List.getElem?_eq_some_iff.1 hx).1
  have h1 := h.1
  have h2 := rowC_length hk l
  have h3 : (i + 1) * k ≤ l.length * k := Nat.mul_le_mul_right _ hi
  rw [Nat.add_mul] at h3
  rw [h.cellAt (i * k + j) (by omega), rowC_get hk l i j x hx hj21, ← Array.getElem?_toList]
  exact hj
theorem oE_size (x : Nat × Nat × LR) : (oE x).size = 23 := rfl
theorem mid_range {w : World} {q o k : Nat} {xs ys : List Value} (h : w.rangeAt q o xs) (hy : ∀ j v, ys[j]? = some v → xs[k + j]? = some v) : w.rangeAt q (o + k) ys := fun j v hj => by
  rw [Nat.add_assoc]
  exact h (k + j) v (hy j v hj)
theorem oE_letter (x : Nat × Nat × LR) : ∀ j v, x.2.2.cells.toList[j]? = some v → (oE x).toList[2 + j]? = some v := fun j v h => by rw [Nat.add_comm]; exact h
theorem pE_letter (p : PR) : ∀ j v, p.r.cells.toList[j]? = some v → p.cells.toList[4 + j]? = some v := fun j v h => by rw [Nat.add_comm]; exact h
end Go.Proofs.Ytfemdfidfomchaa
