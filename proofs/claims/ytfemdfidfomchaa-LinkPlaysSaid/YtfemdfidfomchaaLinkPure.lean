/-
  Two ends of a link, plainly: what the one sent, and the other one told; an answer, a packet that comes. No program is walked here.
-/
import Derived.Test.YtfemdfidfomchaaLinkAlive
namespace Go.Proofs.Ytfemdfidfomchaa
open Go.RowKit

/-- numbers of their own -/
def SeqsApart (ks : List (Nat × LR)) : Prop := ks.Pairwise fun x y => x.1 ≠ y.1
theorem SeqsApart.less {ks ms : List (Nat × LR)} (h : SeqsApart ks) (hs : ms.Sublist ks) : SeqsApart ms := List.Pairwise.sublist hs h
theorem seqs_but (k : Nat) : ∀ l : List (Nat × LR), SeqsApart l → l.length ≤ (l.filter fun x => decide (x.1 ≠ k)).length + 1
  | [], _ => by simp
  | x :: l, h => by
    obtain ⟨h1, h2⟩ := List.pairwise_cons.1 h
    by_cases hx : x.1 = k
    · have : l.filter (fun x => decide (x.1 ≠ k)) = l := List.filter_eq_self.2 fun y hy => by
        have := h1 y hy
        simp; omega
      rw [List.filter_cons_of_neg (by simp [hx]), this]
      simp
    · rw [List.filter_cons_of_pos (by simp [hx])]
      have := seqs_but k l h2
      simp only [List.length_cons]
      omega
theorem seqs_le : ∀ (N : Nat) (l : List (Nat × LR)), SeqsApart l → (∀ x ∈ l, 0 < x.1 ∧ x.1 ≤ N) → l.length ≤ N
  | 0, l, _, h2 => by
    cases l with
    | nil => simp
    | cons x l => have := h2 x (by simp); omega
  | N + 1, l, h1, h2 => by
    have h3 := seqs_but (N + 1) l h1
    have h4 := seqs_le N (l.filter fun x => decide (x.1 ≠ N + 1)) (h1.less (List.filter_sublist)) (fun x hx => by
      obtain ⟨a, b⟩ := List.mem_filter.1 hx
      have := h2 x a
      simp at b
      omega)
    omega
theorem split_row {α : Type} {l : List α} {i : Nat} {x : α} (h : l[i]? = some x) : l = l.take i ++ x :: l.drop (i + 1) := by
  have hi := (List.getElem?_eq_some_iff.1 h).1
  have hx := (List.getElem?_eq_some_iff.1 h).2
  conv => lhs; rw [← List.take_append_drop i l]
  rw [List.drop_eq_getElem_cons hi, hx]
theorem without_sub {α : Type} (l : List α) (i : Nat) : (l.take i ++ l.drop (i + 1)).Sublist l := by
  rw [← List.eraseIdx_eq_take_drop_succ]
  exact List.eraseIdx_sublist l i
/-- what follow tells of letters that f numbers -/
theorem fol_recv {f : Nat → LR} {N c c' : Nat} {ks ks' : List (Nat × LR)} {ts : List LR} (h : Follows c ks ts c' ks') : (∀ x ∈ ks, c < x.1 ∧ x.1 ≤ N ∧ x.2 = f x.1) → SeqsApart ks → c ≤ N →
    ts = (List.range' (c + 1) (c' - c)).map f ∧ c ≤ c' ∧ c' ≤ N ∧ (∀ x ∈ ks', c' + 1 < x.1 ∧ x.1 ≤ N ∧ x.2 = f x.1) ∧ SeqsApart ks' ∧ ((∃ x ∈ ks, x.1 = c + 1) → c + 1 ≤ c') := by
  induction h with
  | stop h =>
    intro h1 h2 h3
    refine ⟨by simp, Nat.le_refl _, h3, fun x hx => ?_, h2, fun ⟨x, hx, e⟩ => absurd e (h x hx)⟩
    have := h1 x hx
    have := h x hx
    exact ⟨by omega, by omega, (h1 x hx).2.2⟩
  | step hx he hf h ih =>
    rename_i c c' ks ks' i x ts
    intro h1 h2 h3
    have hm := h1 x (List.mem_of_getElem? hx)
    have hsp := split_row hx
    have h2' := h2
    unfold SeqsApart at h2'
    rw [hsp, List.pairwise_append, List.pairwise_cons] at h2'
    obtain ⟨p1, ⟨p2, p3⟩, p4⟩ := h2'
    obtain ⟨e1, e2, e3, e4, e5, _⟩ := ih (fun y hy => by
      have hy1 := h1 y (mem_without hy)
      have hne : y.1 ≠ c + 1 := by
        rcases List.mem_append.1 hy with z | z
        · have := p4 y z x (by simp); omega
        · have := p2 y z; omega
      exact ⟨by omega, hy1.2.1, hy1.2.2⟩) (h2.less (without_sub _ _)) (by omega)
    refine ⟨?_, by omega, e3, e4, e5, fun _ => e2⟩
    rw [e1, hm.2.2, he, show c' - c = (c' - (c + 1)) + 1 by omega, List.range'_succ, List.map_cons]
/-- what is kept lies ahead of the next one, and is what f numbers -/
structure RecvOk (s : LS) (f : Nat → LR) (N : Nat) : Prop where
  k : ∀ x ∈ s.kept, s.came + 1 < x.1 ∧ x.1 ≤ N ∧ x.2 = f x.1
  d : SeqsApart s.kept
  c : s.came ≤ N
theorem RecvOk.len {s : LS} {f : Nat → LR} {N : Nat} (h : RecvOk s f N) : s.kept.length ≤ N := seqs_le N _ h.d fun x hx => by have := h.k x hx; omega
theorem RecvOk.rest {s : LS} {f : Nat → LR} {N : Nat} (h : RecvOk s f N) (hc : N ≤ s.came) : s.kept = [] := by
  cases hk : s.kept with
  | nil => rfl
  | cons x l =>
    have := h.k x (by rw [hk]; simp)
    omega
/-- from A to B: what A sent waits from the one behind ak on; B told up to what came -/
structure Dir (sA sB : LS) (f : Nat → LR) (ak : Nat) : Prop where
  a : ak ≤ sB.came
  s : sB.came ≤ sA.sent
  w : sA.waits.map (·.1) = (List.range' (ak + 1) (sA.sent - ak)).map f
  r : RecvOk sB f sA.sent
theorem Dir.len {sA sB : LS} {f : Nat → LR} {ak : Nat} (h : Dir sA sB f ak) : sA.waits.length = sA.sent - ak := by
  have := congrArg List.length h.w
  simpa using this
theorem hasSeq_true {ks : List (Nat × LR)} {q : Nat} : hasSeq ks q = true ↔ ∃ x ∈ ks, x.1 = q := by
  unfold hasSeq
  rw [List.any_eq_true]
  exact ⟨fun ⟨x, hx, e⟩ => ⟨x, hx, by simpa using e⟩, fun ⟨x, hx, e⟩ => ⟨x, hx, by simpa using e⟩⟩
theorem took_came (s : LS) (a : Int) (q : Nat) (r : LR) : (s.took a q r).came = s.came ∧ (s.took a q r).waits = (s.known a).waits ∧ (s.took a q r).sent = s.sent ∧ (s.took a q r).now = s.now := by
  unfold LS.took; split <;> exact ⟨rfl, rfl, rfl, rfl⟩
theorem took_kept (s : LS) (a : Int) (q : Nat) (r : LR) : (s.took a q r).kept = if s.came < q ∧ q ≤ s.came + 64 ∧ hasSeq s.kept q = false then s.kept ++ [(q, r)] else s.kept := by
  unfold LS.took LS.keeps
  show (if (decide (s.came < q) && (decide (q ≤ s.came + 64) && !hasSeq s.kept q)) = true then _ else _ : LS).kept = _
  by_cases h1 : s.came < q
  · by_cases h2 : q ≤ s.came + 64
    · cases h3 : hasSeq s.kept q
      · rw [decide_eq_true h1, decide_eq_true h2, if_pos (by rfl), if_pos ⟨h1, h2, rfl⟩]
      · rw [decide_eq_true h1, decide_eq_true h2, if_neg (by simp), if_neg (by simp)]
    · rw [decide_eq_true h1, decide_eq_false h2, if_neg (by simp), if_neg (by omega)]
  · rw [decide_eq_false h1, if_neg (by simp), if_neg (by omega)]
/-- a packet with the q-th letter comes to B -/
theorem Dir.got {sA sB : LS} {f : Nat → LR} {ak : Nat} (h : Dir sA sB f ak) {a : Int} {q : Nat} (hqs : q ≤ sA.sent) {ts : List LR} {c' : Nat} {ks' : List (Nat × LR)} (hf : Follows (sB.took a q (f q)).came (sB.took a q (f q)).kept ts c' ks') :
    ts = (List.range' (sB.came + 1) (c' - sB.came)).map f ∧ sB.came ≤ c' ∧ (sB.came + 1 = q → q ≤ c') ∧ Dir sA {(sB.took a q (f q)) with came := c', kept := ks'} f ak := by
  rw [(took_came sB a q (f q)).1, took_kept] at hf
  have hr := h.r
  obtain ⟨e1, e2, e3, e4, e5, e6⟩ := fol_recv (f := f) (N := sA.sent) hf (fun x hx => by
    split at hx
    · rcases List.mem_append.1 hx with z | z
      · have := hr.k x z; exact ⟨by omega, this.2⟩
      · rename_i hc
        simp at z
        subst z
        exact ⟨hc.1, hqs, rfl⟩
    · have := hr.k x hx; exact ⟨by omega, this.2⟩) (by
    split
    · rename_i hc
      refine List.pairwise_append.2 ⟨hr.d, by simp, fun x hx y hy => ?_⟩
      simp at hy
      subst hy
      intro e
      have := hasSeq_true.2 ⟨x, hx, e⟩
      rw [hc.2.2] at this
      cases this
    · exact hr.d) hr.c
  refine ⟨e1, e2, fun hcq => ?_, ⟨by show ak ≤ c'; have := h.a; omega, e3, h.w, e4, e5, e3⟩⟩
  have := e6 (by
    rw [if_pos ⟨by omega, by omega, by
      cases hs : hasSeq sB.kept q with
      | false => rfl
      | true =>
        obtain ⟨x, hx, e⟩ := hasSeq_true.1 hs
        have := hr.k x hx
        omega⟩]
    exact ⟨(q, f q), by simp, by omega⟩)
  omega
/-- an answer comes to A -/
theorem Dir.known {sA sB : LS} {f : Nat → LR} {ak : Nat} (h : Dir sA sB f ak) {a : Nat} (ha : a ≤ sB.came) : Dir (sA.known (a : Nat)) sB f (max ak a) := by
  have hl := h.len
  have h1 := h.a
  have h2 := h.s
  have hg : sA.gone (a : Nat) = max ak a - ak := by
    unfold LS.gone
    rw [hl]
    omega
  refine ⟨by omega, h.s, ?_, h.r⟩
  show (sA.waits.drop _).map _ = _
  rw [List.map_drop, h.w, hg, ← List.map_drop, List.drop_range']
  show _ = (List.range' (max ak a + 1) (sA.sent - max ak a)).map f
  rw [show ak + 1 + (max ak a - ak) * 1 = max ak a + 1 by omega, show sA.sent - ak - (max ak a - ak) = sA.sent - max ak a by omega]
/-- the sender's other side turned -/
theorem Dir.left {sA sA' sB : LS} {f : Nat → LR} {ak : Nat} (h : Dir sA sB f ak) (hs : sA'.sent = sA.sent) (hw : sA'.waits.map (·.1) = sA.waits.map (·.1)) : Dir sA' sB f ak :=
  ⟨h.a, by rw [hs]; exact h.s, by rw [hw, hs]; exact h.w, by rw [hs]; exact h.r⟩
/-- the receiver's other side turned -/
theorem Dir.right {sA sB sB' : LS} {f : Nat → LR} {ak : Nat} (h : Dir sA sB f ak) (hc : sB'.came = sB.came) (hk : sB'.kept = sB.kept) : Dir sA sB' f ak :=
  ⟨by rw [hc]; exact h.a, by rw [hc]; exact h.s, h.w, ⟨by rw [hc, hk]; exact h.r.k, by rw [hk]; exact h.r.d, by rw [hc]; exact h.r.c⟩⟩
theorem Dir.push {sA sB : LS} {f : Nat → LR} {ak : Nat} (h : Dir sA sB f ak) : Dir (sA.push (f (sA.sent + 1))) sB f ak := by
  have h1 := h.a
  have h2 := h.s
  refine ⟨h.a, by show sB.came ≤ sA.sent + 1; omega, ?_, fun x hx => ?_, h.r.d, by show sB.came ≤ sA.sent + 1; omega⟩
  · show (sA.waits ++ [_]).map _ = (List.range' (ak + 1) (sA.sent + 1 - ak)).map f
    rw [List.map_append, h.w, show sA.sent + 1 - ak = (sA.sent - ak) + 1 by omega, List.range'_concat, List.map_append]
    simp
    congr 1
    omega
  · have := h.r.k x hx
    exact ⟨this.1, by show x.1 ≤ sA.sent + 1; omega, this.2.2⟩
/-- the packets that go again -/
theorem Dir.sends {sA sB : LS} {f : Nat → LR} {ak : Nat} (h : Dir sA sB f ak) : sA.sends = (List.range (sA.sent - ak)).map fun j => (⟨sA.me, sA.peer, ((ak + 1 + j : Nat) : Int), (sA.came : Nat), f (ak + 1 + j)⟩ : PR) := by
  have h1 := h.a
  have h2 := h.s
  unfold LS.sends mkPs
  rw [h.w, h.len]
  apply List.ext_getElem?
  intro j
  rw [List.getElem?_map, List.getElem?_map, List.getElem?_zipIdx, List.getElem?_map]
  by_cases hj : j < sA.sent - ak
  · rw [List.getElem?_range' hj, List.getElem?_range hj]
    simp only [Option.map_some, Nat.one_mul]
    congr 2
    omega
  · rw [List.getElem?_eq_none (by simp; omega), List.getElem?_eq_none (by simp; omega)]
    rfl
end Go.Proofs.Ytfemdfidfomchaa
