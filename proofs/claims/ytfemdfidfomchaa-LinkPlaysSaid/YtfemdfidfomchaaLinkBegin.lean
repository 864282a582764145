/-
  A link of the call's own whose letters have no lists, apart from blocks P that stay (LX); two of them (TX); what each call makes of it.
-/
import Derived.Test.YtfemdfidfomchaaLinkTick
namespace Go.Proofs.Ytfemdfidfomchaa
open Go.RowKit

/-- blocks of P stay -/
def KeepsB (P : List Nat) (w w' : World) : Prop := ∃ G, Touch G w w' ∧ ∀ q ∈ P, q ∉ G
theorem KeepsB.below {P : List Nat} {w w' : World} (h : Below w.heap.size w w') : KeepsB P w w' := ⟨[], Touch.ofBelow h, by simp⟩
theorem KeepsB.refl (P : List Nat) (w : World) : KeepsB P w w := .below (Below.refl _ _)
theorem KeepsB.row {P : List Nat} {a b : World} (h : KeepsB P a b) {base e size n : Nat} {v : Value} {xs : List Value} (hr : a.ownsRow base e size v n xs) (hP : ∀ q, v.ownBlock = some q → q ∈ P) : b.ownsRow base e size v n xs := by
  obtain ⟨G, t, n⟩ := h
  exact t.row hr (fun q hq => n q (hP q hq))
theorem KeepsB.size {P : List Nat} {a b : World} (h : KeepsB P a b) : a.heap.size ≤ b.heap.size := by
  obtain ⟨G, t, n⟩ := h
  exact t.size
theorem KeepsB.heap {P : List Nat} {a b : World} (h : KeepsB P a b) {q : Nat} (hP : q ∈ P) {o : Obj} (hq : a.heap[q]? = some o) : b.heap[q]? = some o := by
  obtain ⟨G, t, n⟩ := h
  exact (t.block q (bg_lt hq) (n q hP)).trans hq
theorem KeepsB.mono {P Q : List Nat} {a b : World} (h : KeepsB P a b) (hQ : ∀ q ∈ Q, q ∈ P) : KeepsB Q a b := by
  obtain ⟨G, t, n⟩ := h
  exact ⟨G, t, fun q hq => n q (hQ q hq)⟩
theorem KeepsB.trans {P : List Nat} {a b c : World} (h : KeepsB P a b) (k : KeepsB P b c) : KeepsB P a c := by
  obtain ⟨G, t, n⟩ := h
  obtain ⟨H, u, m⟩ := k
  exact ⟨G ++ H, (t.mono (by intro x hx; simp [hx])).trans u (fun x hx => .inl (by simp [hx])), fun q hq z => (List.mem_append.1 z).elim (n q hq) (m q hq)⟩
/-- no letter of it has a list -/
def LS.lights (s : LS) : Prop := (∀ x ∈ s.waits, ∃ k i, x.1 = LR.light k i) ∧ ∀ x ∈ s.kept, ∃ k i, x.2 = LR.light k i
theorem LNX.light {w : World} {g : Nat} {s : LS} {V K : Value} {L : List Nat} (h : LNX w g s V K L) (hl : s.lights) : LNX w g s V K [] where
  hg := h.hg
  v := h.v
  k := h.k
  gv := h.gv
  gk := h.gk
  vk := h.vk
  lw := fun x hx => by obtain ⟨k, i, e⟩ := hl.1 x hx; rw [e]; exact light_at _ _ _ _
  lk := fun x hx => by obtain ⟨k, i, e⟩ := hl.2 x hx; rw [e]; exact light_at _ _ _ _
  lt := by simp
  lf := by simp
/-- the link at g, of the call's own, apart from P -/
def LX (W w : World) (P : List Nat) (g : Nat) (s : LS) : Prop :=
  Below W.heap.size W w ∧ (∃ V K, LNX w g s V K [] ∧ ∀ q ∈ fr g V K, W.heap.size ≤ q ∧ q ∉ P) ∧ s.lights ∧ ∀ q ∈ P, q < w.heap.size
section
variable {W w w1 : World} {P : List Nat} {g : Nat} {s s' : LS}
theorem LX.base (h : LX W w P g s) : Below W.heap.size W w := h.1
theorem LX.below (h : LX W w P g s) (hb : Below w.heap.size w w1) : LX W w1 P g s := by
  obtain ⟨a, ⟨V, K, b, c⟩, l, d⟩ := h
  exact ⟨acc a hb, ⟨V, K, b.below hb, c⟩, l, fun q hq => Nat.lt_of_lt_of_le (d q hq) hb.size⟩
theorem LX.less {Q : List Nat} (h : LX W w P g s) (hQ : ∀ q ∈ Q, q ∈ P) : LX W w Q g s := by
  obtain ⟨a, ⟨V, K, b, c⟩, l, d⟩ := h
  exact ⟨a, ⟨V, K, b, fun x hx => ⟨(c x hx).1, fun z => (c x hx).2 (hQ x z)⟩⟩, l, fun x hx => d x (hQ x hx)⟩
/-- blocks beside that are written -/
theorem LX.touch {G : List Nat} (h : LX W w P g s) (t : Touch G w w1) (hG : ∀ q ∈ G, q ∈ P ∧ W.heap.size ≤ q) : LX W w1 P g s := by
  obtain ⟨a, ⟨V, K, b, c⟩, l, d⟩ := h
  exact ⟨Touch.acc a t (fun q hq => (hG q hq).2), ⟨V, K, b.touch t (fun q hq z => (c q hq).2 (hG q z).1) (by simp), c⟩, l, fun q hq => Nat.lt_of_lt_of_le (d q hq) t.size⟩
/-- more blocks that stay: new ones -/
theorem LX.more {Q : List Nat} (h : LX W w P g s) (hb : Below w.heap.size w w1) (hQ : ∀ q ∈ Q, w.heap.size ≤ q ∧ q < w1.heap.size) : LX W w1 (Q ++ P) g s := by
  obtain ⟨a, ⟨V, K, b, c⟩, l, d⟩ := h
  refine ⟨acc a hb, ⟨V, K, b.below hb, fun x hx => ⟨(c x hx).1, fun z => ?_⟩⟩, l, fun x hx => ?_⟩
  · rcases List.mem_append.1 z with z | z
    · have := b.flt x hx; have := (hQ x z).1; omega
    · exact (c x hx).2 z
  · rcases List.mem_append.1 hx with z | z
    · exact (hQ x z).2
    · exact Nat.lt_of_lt_of_le (d x z) hb.size
theorem LX.new (a : Below W.heap.size W w) (d : ∀ q ∈ P, q < w.heap.size) (me peer : Int) : Calls Try.prog 11 #[.int .i64 me, .int .i64 peer] w fun e w' =>
    e = .returned (.pointer (some ⟨w.heap.size, 0, none⟩)) ∧ LX W w' P w.heap.size (LS.new me peer) ∧ Below w.heap.size w w' := by
  refine (new_any me peer w).mono ?_
  rintro e w' ⟨rfl, h1, h2⟩
  refine ⟨rfl, ⟨acc a h2, ⟨_, _, h1, fun q hq => ?_⟩, ⟨by simp, by simp⟩, fun q hq => Nat.lt_of_lt_of_le (d q hq) h2.size⟩, h2⟩
  rcases mem_fr.1 hq with rfl | z | z
  · exact ⟨a.size, fun z => Nat.lt_irrefl _ (d _ z)⟩
  · cases z
  · cases z
theorem LX.step {V K : Value} {O : List Nat} (a : Below W.heap.size W w) (c : ∀ q ∈ fr g V K, W.heap.size ≤ q ∧ q ∉ P) (d : ∀ q ∈ P, q < w.heap.size) (hl : s'.lights) (h : LStep w w1 g (fr g V K) [] s' O) : LX W w1 P g s' ∧ KeepsB P w w1 := by
  obtain ⟨t, V', K', L', k, hk, _⟩ := h
  refine ⟨⟨Touch.acc a t (fun q hq => (c q hq).1), ⟨V', K', k.light hl, fun q hq => ?_⟩, hl, fun q hq => Nat.lt_of_lt_of_le (d q hq) t.size⟩, _, t, fun q hq z => (c q z).2 hq⟩
  rcases hk q hq with z | z
  · exact c q z
  · exact ⟨Nat.le_trans a.size z, fun y => by have := d q y; omega⟩
theorem push_lights (h : s.lights) (k i : Int) : (s.push (LR.light k i)).lights := ⟨fun x hx => by
  rcases List.mem_append.1 hx with z | z
  · exact h.1 x z
  · simp at z; subst z; exact ⟨k, i, rfl⟩, h.2⟩
theorem known_lights (h : s.lights) (a : Int) : (s.known a).lights := ⟨fun x hx => h.1 x (List.mem_of_mem_drop hx), h.2⟩
theorem took_lights (h : s.lights) (a : Int) (q : Nat) (k i : Int) : (s.took a q (LR.light k i)).lights := by
  unfold LS.took
  split
  · refine ⟨fun x hx => h.1 x (List.mem_of_mem_drop hx), fun x hx => ?_⟩
    rcases List.mem_append.1 hx with z | z
    · exact h.2 x z
    · simp at z; subst z; exact ⟨k, i, rfl⟩
  · exact known_lights h a
theorem LX.send (h : LX W w P g s) (hok : s.Ok) (k i : Int) : Calls Try.prog 13 #[.pointer (some ⟨g, 0, none⟩), .agg (ltCells k i)] w fun e w' =>
    e = .returned (.agg (lpCells s.me s.peer ((s.sent : Int) + 1) (s.came : Nat) k i)) ∧ LX W w' P g (s.push (LR.light k i)) ∧ KeepsB P w w' := by
  obtain ⟨a, ⟨V, K, b, c⟩, l, d⟩ := h
  refine (send_any b hok (LR.light k i) ⟨SlAt.nil w, SlAt.nil w⟩ (fun q hq => by simp [LR.blocks, Value.ownBlock] at hq) (light_sm k i)).mono ?_
  rintro e w' ⟨r1, r2, he, h1, h2, h3⟩
  have e1 := h1.light
  have e2 := h2.light
  subst e1 e2
  exact ⟨by rw [he]; rfl, LX.step a c d (push_lights l k i) h3⟩
theorem LX.waits (h : LX W w P g s) : Calls Try.prog 21 #[.pointer (some ⟨g, 0, none⟩)] w fun e w' => e = .returned (.int .i64 (s.waits.length : Nat)) ∧ w' = w := by
  obtain ⟨a, ⟨V, K, b, c⟩, l, d⟩ := h
  exact waits_any b
theorem LX.came (h : LX W w P g s) : Calls Try.prog 22 #[.pointer (some ⟨g, 0, none⟩)] w fun e w' => e = .returned (.int .i64 (s.came : Nat)) ∧ w' = w := by
  obtain ⟨a, ⟨V, K, b, c⟩, l, d⟩ := h
  exact came_any b
theorem LX.rest (h : LX W w P g s) : Calls Try.prog 23 #[.pointer (some ⟨g, 0, none⟩)] w fun e w' => e = .returned (.bool s.rest) ∧ w' = w := by
  obtain ⟨a, ⟨V, K, b, c⟩, l, d⟩ := h
  exact rest_any b
theorem LX.gotNotR (h : LX W w P g s) (p : PR) (hp : ¬ s.takes p) : Calls Try.prog 17 #[.pointer (some ⟨g, 0, none⟩), .agg p.cells] w fun e w' =>
    e = .returned (.tuple #[.slice none 0 0, .agg (lpCells 0 0 0 0 0 0), .bool false]) ∧ LX W w' P g s ∧ Below w.heap.size w w' := by
  have h0 := h
  obtain ⟨a, ⟨V, K, b, c⟩, l, d⟩ := h
  refine (gotNot_any b p hp).mono ?_
  rintro e w' ⟨rfl, h1⟩
  exact ⟨rfl, h0.below h1, h1⟩
theorem LX.gotNot (h : LX W w P g s) (f t q ak k i : Int) (hp : ¬ s.takes ⟨f, t, q, ak, LR.light k i⟩) : Calls Try.prog 17 #[.pointer (some ⟨g, 0, none⟩), .agg (lpCells f t q ak k i)] w fun e w' =>
    e = .returned (.tuple #[.slice none 0 0, .agg (lpCells 0 0 0 0 0 0), .bool false]) ∧ LX W w' P g s ∧ Below w.heap.size w w' := h.gotNotR ⟨f, t, q, ak, LR.light k i⟩ hp
theorem LX.gotAck (h : LX W w P g s) (hok : s.Ok) (f t ak k i : Int) (hp : s.takes ⟨f, t, 0, ak, LR.light k i⟩) : Calls Try.prog 17 #[.pointer (some ⟨g, 0, none⟩), .agg (lpCells f t 0 ak k i)] w fun e w' =>
    e = .returned (.tuple #[.slice none 0 0, .agg (lpCells 0 0 0 0 0 0), .bool true]) ∧ LX W w' P g (s.known ak) ∧ KeepsB P w w' := by
  obtain ⟨a, ⟨V, K, b, c⟩, l, d⟩ := h
  refine (gotAck_any b hok ⟨f, t, 0, ak, LR.light k i⟩ hp rfl).mono ?_
  rintro e w' ⟨rfl, V', K', L', h1⟩
  exact ⟨rfl, LX.step a c d (known_lights l ak) h1.step⟩
/-- what Got leaves of a packet with a letter -/
def GotX (W w : World) (P : List Nat) (g : Nat) (s : LS) (ak : Int) (q : Nat) (k i : Int) (e : Ending) (w' : World) : Prop :=
  ∃ ts c' ks' B c, Follows (s.took ak q (LR.light k i)).came (s.took ak q (LR.light k i)).kept ts c' ks' ∧ e = .returned (.tuple #[.slice B ts.length c, .agg (lpCells s.me s.peer 0 (c' : Nat) 0 0), .bool true]) ∧
    LX W w' ((Value.slice B ts.length c).ownBlock.toList ++ P) g {(s.took ak q (LR.light k i)) with came := c', kept := ks'} ∧ KeepsB P w w' ∧ w'.ownsRow w.heap.size 51 21 (.slice B ts.length c) ts.length (rowC LR.cells ts)
theorem LX.gotNew (h : LX W w P g s) (hok : s.Ok) (hk : s.kept.length < 90000) (f t ak k i : Int) (q : Nat) (hp : s.takes ⟨f, t, (q : Nat), ak, LR.light k i⟩) (hq0 : 0 < q) (hqm : q ≤ 9223372036854775807) : Calls Try.prog 17 #[.pointer (some ⟨g, 0, none⟩), .agg (lpCells f t (q : Nat) ak k i)] w (GotX W w P g s ak q k i) := by
  obtain ⟨a, ⟨V, K, b, c⟩, l, d⟩ := h
  refine (gotNew_any b hok hk ⟨f, t, (q : Nat), ak, LR.light k i⟩ q hp rfl hq0 hqm (light_out _ _ _ _)).mono ?_
  rintro e w' ⟨r1, ts, c', ks', B, cc, V', K', L', h1, h2, h3, h4, h5, h6, h7⟩
  have e1 := h1.light
  subst e1
  have hl : ({(s.took ak q (LR.light k i)) with came := c', kept := ks'} : LS).lights := ⟨(took_lights l ak q k i).1, fun x hx => (took_lights l ak q k i).2 x (h2.left x hx)⟩
  obtain ⟨⟨z1, ⟨V2, K2, z2, z3⟩, z4, z5⟩, z6⟩ := LX.step a c d hl h4.step
  refine ⟨ts, c', ks', B, cc, h2, h3, ⟨z1, ⟨V', K', h4.x.light hl, fun x hx => ?_⟩, hl, fun x hx => ?_⟩, z6, h5⟩
  · have hx2 := h4.f x hx
    refine ⟨?_, fun y => ?_⟩
    · rcases hx2 with y | y
      · exact (c x y).1
      · exact Nat.le_trans a.size y
    · rcases List.mem_append.1 y with u | u
      · exact (h7 x (by simpa using u)).1 hx
      · rcases hx2 with v | v
        · exact (c x v).2 u
        · have := d x u; omega
  · rcases List.mem_append.1 hx with u | u
    · exact (h5.lt x (by simpa using u)).2
    · exact z5 x u
theorem tick_lights (h : s.lights) : s.tick.lights := h
theorem again_lights (h : s.lights) : s.again.lights := ⟨fun x hx => by
  obtain ⟨y, hy, rfl⟩ := List.mem_map.1 hx
  exact h.1 y hy, h.2⟩
theorem LX.tickNot (h : LX W w P g s) (hok : s.Ok) (hd : s.due = false) : Calls Try.prog 15 #[.pointer (some ⟨g, 0, none⟩)] w fun e w' => e = .returned (.slice none 0 0) ∧ LX W w' P g s.tick ∧ KeepsB P w w' := by
  obtain ⟨a, ⟨V, K, b, c⟩, l, d⟩ := h
  refine (tickNot_any b hok hd).mono ?_
  rintro e w' ⟨rfl, h1, h2⟩
  refine ⟨rfl, LX.step (O := []) a c d (tick_lights l) ⟨h2.mono (by simp [fr]), V, K, [], h1, fun _ hq => .inl hq, by simp, by simp⟩⟩
/-- the packets that a Tick sends again -/
def LS.sends (s : LS) : List PR := mkPs s.me s.peer ((s.sent : Int) - (s.waits.length : Nat) + 1) (s.came : Nat) (s.waits.map (·.1))
def TickX (W w : World) (P : List Nat) (g : Nat) (s : LS) (e : Ending) (w' : World) : Prop :=
  ∃ B c, e = .returned (.slice B s.waits.length c) ∧ LX W w' ((Value.slice B s.waits.length c).ownBlock.toList ++ P) g s.again ∧ KeepsB P w w' ∧ w'.ownsRow w.heap.size 53 25 (.slice B s.waits.length c) s.waits.length (rowC PR.cells s.sends)
theorem LX.tickDue (h : LX W w P g s) (hok : s.Ok) (hd : s.due = true) : Calls Try.prog 15 #[.pointer (some ⟨g, 0, none⟩)] w (TickX W w P g s) := by
  obtain ⟨a, ⟨V, K, b, c⟩, l, d⟩ := h
  refine (tickDue_any b hok (fun x hx => by obtain ⟨k, i, e⟩ := l.1 x hx; rw [e]; exact light_sm k i) hd).mono ?_
  rintro e w' ⟨B, cc, rs, rfl, h1, h2, h3, h4, h5, h6⟩
  have hrs : rs = s.waits.map (·.1) := by
    apply List.ext_getElem?
    intro j
    rw [List.getElem?_map]
    by_cases hj : j < rs.length
    · obtain ⟨r', hr'⟩ : ∃ r', rs[j]? = some r' := ⟨_, List.getElem?_eq_getElem hj⟩
      obtain ⟨y, hy⟩ : ∃ y, s.waits[j]? = some y := ⟨_, List.getElem?_eq_getElem (by omega)⟩
      have := h5 j r' y hr' hy
      obtain ⟨k, i, e⟩ := l.1 y (List.mem_of_getElem? hy)
      rw [e] at this
      rw [hr', hy, this.light]
      simp [e]
    · rw [List.getElem?_eq_none (by omega), List.getElem?_eq_none (by omega)]; rfl
  subst hrs
  refine ⟨B, cc, rfl, ⟨Touch.acc a h2 (fun q hq => (c q hq).1), ⟨V, K, h1, fun x hx => ⟨(c x hx).1, fun y => ?_⟩⟩, again_lights l, fun x hx => ?_⟩, ⟨_, h2, fun q hq z => (c q z).2 hq⟩, h3⟩
  · rcases List.mem_append.1 y with u | u
    · have := (h3.lt x (by simpa using u)).1; have := b.flt x hx; omega
    · exact (c x hx).2 u
  · rcases List.mem_append.1 hx with u | u
    · exact (h3.lt x (by simpa using u)).2
    · exact Nat.lt_of_lt_of_le (d x u) h2.size
end
/-- two links, apart from one another and from P -/
def TX (W w : World) (P : List Nat) (g1 : Nat) (s1 : LS) (g2 : Nat) (s2 : LS) : Prop :=
  ∃ V2 K2, LX W w (fr g2 V2 K2 ++ P) g1 s1 ∧ LNX w g2 s2 V2 K2 [] ∧ s2.lights ∧ ∀ q ∈ fr g2 V2 K2, W.heap.size ≤ q ∧ q ∉ P
theorem TX.swap {W w : World} {P : List Nat} {g1 g2 : Nat} {s1 s2 : LS} (h : TX W w P g1 s1 g2 s2) : TX W w P g2 s2 g1 s1 := by
  obtain ⟨V2, K2, ⟨a, ⟨V1, K1, b, c⟩, l1, d⟩, x2, l2, c2⟩ := h
  refine ⟨V1, K1, ⟨a, ⟨V2, K2, x2, fun q hq => ⟨(c2 q hq).1, fun z => ?_⟩⟩, l2, fun q hq => ?_⟩, b, l1, fun q hq => ⟨(c q hq).1, fun z => (c q hq).2 (by simp [z])⟩⟩
  · rcases List.mem_append.1 z with y | y
    · exact (c q y).2 (by simp [hq])
    · exact (c2 q hq).2 y
  · rcases List.mem_append.1 hq with y | y
    · exact b.flt q y
    · exact d q (by simp [y])
theorem TX.left {W w : World} {P : List Nat} {g1 g2 : Nat} {s1 s2 : LS} (h : TX W w P g1 s1 g2 s2) : LX W w P g1 s1 := by
  obtain ⟨V2, K2, x, _⟩ := h
  exact x.less fun q hq => by simp [hq]
theorem TX.right {W w : World} {P : List Nat} {g1 g2 : Nat} {s1 s2 : LS} (h : TX W w P g1 s1 g2 s2) : LX W w P g2 s2 := h.swap.left
theorem TX.below {W w w1 : World} {P : List Nat} {g1 g2 : Nat} {s1 s2 : LS} (h : TX W w P g1 s1 g2 s2) (hb : Below w.heap.size w w1) : TX W w1 P g1 s1 g2 s2 := by
  obtain ⟨V2, K2, x, y, l, c⟩ := h
  exact ⟨V2, K2, x.below hb, y.below hb, l, c⟩
theorem TX.less {W w : World} {P Q : List Nat} {g1 g2 : Nat} {s1 s2 : LS} (h : TX W w P g1 s1 g2 s2) (hQ : ∀ q ∈ Q, q ∈ P) : TX W w Q g1 s1 g2 s2 := by
  obtain ⟨V2, K2, x, y, l, c⟩ := h
  exact ⟨V2, K2, x.less (fun q hq => (List.mem_append.1 hq).elim (fun z => by simp [z]) (fun z => by simp [hQ q z])), y, l, fun q hq => ⟨(c q hq).1, fun z => (c q hq).2 (hQ q z)⟩⟩
theorem TX.touch {W w w1 : World} {P G : List Nat} {g1 g2 : Nat} {s1 s2 : LS} (h : TX W w P g1 s1 g2 s2) (t : Touch G w w1) (hG : ∀ q ∈ G, q ∈ P ∧ W.heap.size ≤ q) : TX W w1 P g1 s1 g2 s2 := by
  obtain ⟨V2, K2, x, y, l, c⟩ := h
  exact ⟨V2, K2, x.touch t (fun q hq => ⟨by simp [(hG q hq).1], (hG q hq).2⟩), y.touch t (fun q hq z => (c q hq).2 (hG q z).1) (by simp), l, c⟩
theorem TX.more {W w w1 : World} {P Q : List Nat} {g1 g2 : Nat} {s1 s2 : LS} (h : TX W w P g1 s1 g2 s2) (hb : Below w.heap.size w w1) (hQ : ∀ q ∈ Q, w.heap.size ≤ q ∧ q < w1.heap.size) : TX W w1 (Q ++ P) g1 s1 g2 s2 := by
  obtain ⟨V2, K2, x, y, l, c⟩ := h
  refine ⟨V2, K2, (x.more hb hQ).less (fun q hq => ?_), y.below hb, l, fun q hq => ⟨(c q hq).1, fun z => ?_⟩⟩
  · simp only [List.mem_append] at hq ⊢
    rcases hq with z | z | z <;> simp [z]
  · rcases List.mem_append.1 z with u | u
    · have := y.flt q hq; have := (hQ q u).1; omega
    · exact (c q hq).2 u
theorem TX.mk2 {W w : World} {P : List Nat} {g1 g2 : Nat} {s1 s2 : LS} {V2 K2 : Value} (x : LX W w (fr g2 V2 K2 ++ P) g1 s1) (y : LNX w g2 s2 V2 K2 []) (l : s2.lights) (c : ∀ q ∈ fr g2 V2 K2, W.heap.size ≤ q ∧ q ∉ P) : TX W w P g1 s1 g2 s2 := ⟨V2, K2, x, y, l, c⟩
/-- a call on the first of two -/
theorem TX.call {W w : World} {P : List Nat} {g1 g2 : Nat} {s1 s2 : LS} (h : TX W w P g1 s1 g2 s2) : ∃ F, LX W w (F ++ P) g1 s1 ∧ ∀ w' Q s', LX W w' (Q ++ (F ++ P)) g1 s' → KeepsB (F ++ P) w w' → (∀ q ∈ Q, w.heap.size ≤ q) → TX W w' (Q ++ P) g1 s' g2 s2 := by
  obtain ⟨V2, K2, x, y, l, c⟩ := h
  refine ⟨fr g2 V2 K2, x, fun w' Q s' x' hk hQ => ?_⟩
  obtain ⟨G, t, n⟩ := hk
  refine ⟨V2, K2, x'.less (fun q hq => ?_), y.touch t (fun q hq => n q (by simp [hq])) (by simp), l, fun q hq => ⟨(c q hq).1, fun z => ?_⟩⟩
  · simp only [List.mem_append] at hq ⊢
    rcases hq with z | z | z <;> simp [z]
  · rcases List.mem_append.1 z with u | u
    · have := y.flt q hq; have := hQ q u; omega
    · exact (c q hq).2 u
/-- a second link beside the first one -/
theorem LX.new2 {W w : World} {P : List Nat} {g : Nat} {s : LS} (h : LX W w P g s) (me peer : Int) : Calls Try.prog 11 #[.int .i64 me, .int .i64 peer] w fun e w' =>
    e = .returned (.pointer (some ⟨w.heap.size, 0, none⟩)) ∧ TX W w' P g s w.heap.size (LS.new me peer) ∧ Below w.heap.size w w' := by
  refine (new_any me peer w).mono ?_
  rintro e w' ⟨rfl, h1, h2⟩
  refine ⟨rfl, ⟨_, _, (h.more (Q := fr w.heap.size (.slice none 0 0) (.slice none 0 0)) h2 (fun q hq => ?_)), h1, ⟨by simp, by simp⟩, fun q hq => ?_⟩, h2⟩
  · have := h1.flt q hq
    rcases mem_fr.1 hq with rfl | z | z
    · exact ⟨Nat.le_refl _, this⟩
    · cases z
    · cases z
  · obtain ⟨a, _, _, d⟩ := h
    rcases mem_fr.1 hq with rfl | z | z
    · exact ⟨a.size, fun z => Nat.lt_irrefl _ (d _ z)⟩
    · cases z
    · cases z
end Go.Proofs.Ytfemdfidfomchaa
