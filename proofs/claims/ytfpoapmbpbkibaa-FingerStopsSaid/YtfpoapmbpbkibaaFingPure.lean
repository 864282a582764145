/-
  Whom a seat knows, whom it asks next, and its way (no program is met here): the way comes to the seat that is nearest ahead, each hop at least halves what is left.
-/
import Derived.Test.YtfpoapmbpbkibaaSeatPick
namespace Go.Proofs.Ytfpoapmbpbkibaa
open Go.RowKit

/-- a point of the ring -/
abbrev Pt (x : Int) : Prop := 0 ≤ x ∧ x < 18446744073709551616
theorem far_eq (a b : Int) : farI a b = (b - a) % 18446744073709551616 := by unfold farI; rw [IntKind.wrap_u64]
theorem far_self (a : Int) : farI a a = 0 := by rw [far_eq]; omega
theorem far_pos {a b : Int} (ha : Pt a) (hb : Pt b) (h : a ≠ b) : 0 < farI a b := by rw [far_eq]; omega
theorem far_nil {a b : Int} (ha : Pt a) (hb : Pt b) (h : farI a b = 0) : a = b := by rw [far_eq] at h; omega
theorem far_inj {a b t : Int} (ha : Pt a) (hb : Pt b) (h : farI a t = farI b t) : a = b := by rw [far_eq, far_eq] at h; omega
/-- what lies on the way to a third point -/
theorem far_on {a x t : Int} (h : farI a x ≤ farI a t) : farI x t = farI a t - farI a x := by rw [far_eq, far_eq] at h; rw [far_eq, far_eq, far_eq]; omega
theorem far_behind {a x t : Int} (h : farI x t ≤ farI a t) : farI a x = farI a t - farI x t := by rw [far_eq, far_eq] at h; rw [far_eq, far_eq, far_eq]; omega
/-- from a point that lies ahead -/
theorem far_up {a x k : Int} (hk : 0 ≤ k) (h : k + farI (IntKind.u64.wrap (a + k)) x < 18446744073709551616) : farI a x = k + farI (IntKind.u64.wrap (a + k)) x := by
  rw [far_eq, IntKind.wrap_u64] at h
  rw [far_eq, far_eq, IntKind.wrap_u64]
  omega
theorem far_down {a x k : Int} (hk : 0 ≤ k) (h : k ≤ farI a x) : farI (IntKind.u64.wrap (a + k)) x = farI a x - k := by
  rw [far_eq] at h
  rw [far_eq, far_eq, IntKind.wrap_u64]
  omega
theorem wrap_pt (x : Int) : Pt (IntKind.u64.wrap x) := by rw [IntKind.wrap_u64]; constructor <;> omega

/-! ### The nearest of a list at, or behind, a point -/
def nearStep (f : Int) (s : Option Int) (x : Int) : Option Int :=
  match s with
  | none => some x
  | some b => if farI f x < farI f b then some x else some b
def nearI (f : Int) (l : List Int) : Option Int := l.foldl (nearStep f) none
theorem nearI_snoc (f : Int) (l : List Int) (x : Int) : nearI f (l ++ [x]) = nearStep f (nearI f l) x := by simp [nearI, List.foldl_append]
def NearOk (f : Int) (l : List Int) (s : Option Int) : Prop := (s = none → l = []) ∧ ∀ b, s = some b → b ∈ l ∧ ∀ x ∈ l, farI f b ≤ farI f x
theorem NearOk.step {f : Int} {l : List Int} {s : Option Int} (h : NearOk f l s) (x : Int) : NearOk f (l ++ [x]) (nearStep f s x) := by
  obtain ⟨h1, h2⟩ := h
  cases s with
  | none =>
    obtain rfl := h1 rfl
    refine ⟨fun z => (by cases z), fun b hb => ?_⟩
    have e : x = b := Option.some.inj hb
    subst e
    exact ⟨by simp, fun y hy => by simp at hy; rw [hy]; exact Int.le_refl _⟩
  | some b =>
    obtain ⟨g1, g2⟩ := h2 b rfl
    refine ⟨fun z => ?_, fun c hc => ?_⟩
    · unfold nearStep at z
      simp only at z
      split at z <;> cases z
    · unfold nearStep at hc
      simp only at hc
      split at hc <;> rename_i hlt
      · have e := Option.some.inj hc
        subst e
        refine ⟨by simp, fun y hy => ?_⟩
        rcases List.mem_append.1 hy with z | z
        · have := g2 y z; omega
        · rw [List.mem_singleton.1 z]; exact Int.le_refl _
      · have e := Option.some.inj hc
        subst e
        refine ⟨List.mem_append_left _ g1, fun y hy => ?_⟩
        rcases List.mem_append.1 hy with z | z
        · exact g2 y z
        · rw [List.mem_singleton.1 z]; omega
theorem near_go (f : Int) : ∀ (l pre : List Int) (s : Option Int), NearOk f pre s → NearOk f (pre ++ l) (l.foldl (nearStep f) s)
  | [], pre, s, h => by rw [List.append_nil]; exact h
  | x :: l, pre, s, h => by
    have := near_go f l (pre ++ [x]) _ (h.step x)
    rw [List.append_assoc] at this
    exact this
theorem near_ok (f : Int) (l : List Int) : NearOk f l (nearI f l) := near_go f l [] none ⟨fun _ => rfl, fun b hb => (by cases hb)⟩
theorem near_some {f : Int} {l : List Int} (h : l ≠ []) : ∃ b, nearI f l = some b ∧ b ∈ l ∧ ∀ x ∈ l, farI f b ≤ farI f x := by
  obtain ⟨h1, h2⟩ := near_ok f l
  cases hs : nearI f l with
  | none => exact absurd (h1 hs) h
  | some b => exact ⟨b, rfl, h2 b hs⟩

/-! ### Whom a seat knows -/
def pow2 (k : Nat) : Int := ((2 ^ k : Nat) : Int)
def upI (me : Int) (k : Nat) : Int := IntKind.u64.wrap (me + pow2 k)
def fingerStep (me : Int) (seats : List Int) (out : List Int) (k : Nat) : List Int :=
  match nearI (upI me k) seats with
  | none => out
  | some b => if b = me ∨ b ∈ out then out else out ++ [b]
def fingersTo (me : Int) (seats : List Int) (n : Nat) : List Int := (List.range n).foldl (fingerStep me seats) []
def fingersI (me : Int) (seats : List Int) : List Int := fingersTo me seats 64
theorem fingersTo_succ (me : Int) (seats : List Int) (n : Nat) : fingersTo me seats (n + 1) = fingerStep me seats (fingersTo me seats n) n := by simp [fingersTo, List.range_succ, List.foldl_append]
theorem fingersTo_ok (me : Int) (seats : List Int) : ∀ n, (fingersTo me seats n).length ≤ n ∧ (fingersTo me seats n).Nodup ∧ ∀ x, x ∈ fingersTo me seats n ↔ x ≠ me ∧ ∃ k, k < n ∧ nearI (upI me k) seats = some x
  | 0 => ⟨Nat.le_refl _, List.nodup_nil, fun x => by simp [fingersTo]⟩
  | n + 1 => by
    obtain ⟨h1, h2, h3⟩ := fingersTo_ok me seats n
    rw [fingersTo_succ]
    unfold fingerStep
    cases hn : nearI (upI me n) seats with
    | none =>
      refine ⟨by simp only; omega, h2, fun x => ?_⟩
      simp only
      rw [h3]
      refine ⟨fun ⟨a, k, b, c⟩ => ⟨a, k, by omega, c⟩, fun ⟨a, k, b, c⟩ => ⟨a, k, ?_, c⟩⟩
      by_cases z : k = n
      · subst z; rw [hn] at c; cases c
      · omega
    | some b =>
      simp only
      split <;> rename_i hc
      · refine ⟨by omega, h2, fun x => ?_⟩
        rw [h3]
        refine ⟨fun ⟨a, k, b, c⟩ => ⟨a, k, by omega, c⟩, fun ⟨a, k, hk, c⟩ => ?_⟩
        by_cases z : k = n
        · subst z
          rw [hn] at c
          obtain rfl := Option.some.inj c
          rcases hc with hc | hc
          · exact absurd hc a
          · exact (h3 _).1 hc
        · exact ⟨a, k, by omega, c⟩
      · refine ⟨by rw [List.length_append]; simp; omega, ?_, fun x => ?_⟩
        · refine List.nodup_append.2 ⟨h2, by simp, fun y hy z hz e => hc (.inr ?_)⟩
          rw [List.mem_singleton.1 hz] at e
          rwa [e] at hy
        · rw [List.mem_append, h3, List.mem_singleton]
          constructor
          · rintro (⟨a, k, hk, c⟩ | rfl)
            · exact ⟨a, k, by omega, c⟩
            · exact ⟨fun e => hc (.inl e), n, by omega, hn⟩
          · rintro ⟨a, k, hk, c⟩
            by_cases z : k = n
            · subst z
              rw [hn] at c
              exact .inr (Option.some.inj c).symm
            · exact .inl ⟨a, k, by omega, c⟩
theorem finger_iff (me : Int) (seats : List Int) (x : Int) : x ∈ fingersI me seats ↔ x ≠ me ∧ ∃ k, k < 64 ∧ nearI (upI me k) seats = some x := (fingersTo_ok me seats 64).2.2 x
theorem finger_nodup (me : Int) (seats : List Int) : (fingersI me seats).Nodup := (fingersTo_ok me seats 64).2.1
theorem finger_len (me : Int) (seats : List Int) : (fingersI me seats).length ≤ 64 := (fingersTo_ok me seats 64).1
theorem finger_seat {me : Int} {seats : List Int} {x : Int} (h : x ∈ fingersI me seats) : x ∈ seats ∧ x ≠ me := by
  obtain ⟨h1, k, hk, h2⟩ := (finger_iff me seats x).1 h
  exact ⟨((near_ok _ _).2 x h2).1, h1⟩

/-! ### Whom it asks next -/
def hopStep (me aim : Int) (s : Option Int) (x : Int) : Option Int :=
  if x ≠ me ∧ farI me x ≤ farI me aim ∧ (∀ b, s = some b → farI x aim < farI b aim) then some x else s
def hopI (me aim : Int) (fs : List Int) : Option Int := fs.foldl (hopStep me aim) none
theorem hopI_snoc (me aim : Int) (l : List Int) (x : Int) : hopI me aim (l ++ [x]) = hopStep me aim (hopI me aim l) x := by simp [hopI, List.foldl_append]
def HopOk (me aim : Int) (l : List Int) (s : Option Int) : Prop :=
  (s = none → ∀ x ∈ l, ¬ (x ≠ me ∧ farI me x ≤ farI me aim)) ∧ ∀ b, s = some b → b ∈ l ∧ b ≠ me ∧ farI me b ≤ farI me aim ∧ ∀ x ∈ l, x ≠ me → farI me x ≤ farI me aim → farI b aim ≤ farI x aim
theorem HopOk.step {me aim : Int} {l : List Int} {s : Option Int} (h : HopOk me aim l s) (x : Int) : HopOk me aim (l ++ [x]) (hopStep me aim s x) := by
  obtain ⟨h1, h2⟩ := h
  unfold hopStep
  by_cases hc : x ≠ me ∧ farI me x ≤ farI me aim ∧ (∀ b, s = some b → farI x aim < farI b aim)
  · rw [if_pos hc]
    refine ⟨fun z => (by cases z), fun b hb => ?_⟩
    obtain rfl := Option.some.inj hb
    refine ⟨by simp, hc.1, hc.2.1, fun y hy y1 y2 => ?_⟩
    rcases List.mem_append.1 hy with z | z
    · cases s with
      | none => exact absurd ⟨y1, y2⟩ (h1 rfl y z)
      | some c =>
        have := hc.2.2 c rfl
        have := (h2 c rfl).2.2.2 y z y1 y2
        omega
    · rw [List.mem_singleton.1 z]; exact Int.le_refl _
  · rw [if_neg hc]
    refine ⟨fun z y hy => ?_, fun b hb => ?_⟩
    · subst z
      rcases List.mem_append.1 hy with z | z
      · exact h1 rfl y z
      · rw [List.mem_singleton.1 z]
        exact fun w => hc ⟨w.1, w.2, fun b hb => (by cases hb)⟩
    · obtain ⟨g1, g2, g3, g4⟩ := h2 b hb
      refine ⟨List.mem_append_left _ g1, g2, g3, fun y hy y1 y2 => ?_⟩
      rcases List.mem_append.1 hy with z | z
      · exact g4 y z y1 y2
      · rw [List.mem_singleton.1 z] at y1 y2 ⊢
        refine Int.not_lt.1 fun w => hc ⟨y1, y2, fun c hcc => ?_⟩
        rw [hb] at hcc
        obtain rfl := Option.some.inj hcc
        exact w
theorem hop_go (me aim : Int) : ∀ (l pre : List Int) (s : Option Int), HopOk me aim pre s → HopOk me aim (pre ++ l) (l.foldl (hopStep me aim) s)
  | [], pre, s, h => by rw [List.append_nil]; exact h
  | x :: l, pre, s, h => by
    have := hop_go me aim l (pre ++ [x]) _ (h.step x)
    rw [List.append_assoc] at this
    exact this
theorem hop_ok (me aim : Int) (l : List Int) : HopOk me aim l (hopI me aim l) := hop_go me aim l [] none ⟨fun _ x hx => (by cases hx), fun b hb => (by cases hb)⟩

/-! ### The way -/
def wayGo (aim : Int) (seats : List Int) : Nat → Int → List Int
  | 0, _ => []
  | n + 1, me => match hopI me aim (fingersI me seats) with
    | none => []
    | some f => f :: wayGo aim seats n f
/-- the seat that is nearest ahead of a point -/
def Best (aim : Int) (seats : List Int) (T : Int) : Prop := T ∈ seats ∧ ∀ s ∈ seats, farI T aim ≤ farI s aim
theorem best_some {aim : Int} {seats : List Int} (h : seats ≠ []) : ∃ T, Best aim seats T := by
  induction seats with
  | nil => exact absurd rfl h
  | cons x l ih =>
    by_cases hl : l = []
    · subst hl
      exact ⟨x, by simp, fun s hs => by simp at hs; rw [hs]; exact Int.le_refl _⟩
    · obtain ⟨T, h1, h2⟩ := ih hl
      by_cases hx : farI x aim < farI T aim
      · refine ⟨x, by simp, fun s hs => ?_⟩
        rcases List.mem_cons.1 hs with rfl | hs
        · exact Int.le_refl _
        · have := h2 s hs; omega
      · refine ⟨T, List.mem_cons_of_mem _ h1, fun s hs => ?_⟩
        rcases List.mem_cons.1 hs with rfl | hs
        · omega
        · exact h2 s hs
theorem Best.same {aim : Int} {seats : List Int} {T U : Int} (h : Best aim seats T) (k : Best aim seats U) (hp : ∀ s ∈ seats, Pt s) : T = U :=
  far_inj (hp T h.1) (hp U k.1) (Int.le_antisymm (h.2 U k.1) (k.2 T h.1))
section
variable {me aim T : Int} {seats : List Int}
/-- at the end of the way there is no hop -/
theorem hop_end (hp : ∀ s ∈ seats, Pt s) (h : Best aim seats me) : hopI me aim (fingersI me seats) = none := by
  obtain ⟨-, h2⟩ := hop_ok me aim (fingersI me seats)
  cases hh : hopI me aim (fingersI me seats) with
  | none => rfl
  | some f =>
    obtain ⟨g1, g2, g3, -⟩ := h2 f hh
    have hf := (finger_seat g1).1
    have e := far_on g3
    have := far_pos (hp me h.1) (hp f hf) (Ne.symm g2)
    have := h.2 f hf
    omega
theorem pow_between {d : Int} (h0 : 0 < d) (h1 : d < 18446744073709551616) : ∃ k, k < 64 ∧ pow2 k ≤ d ∧ d < 2 * pow2 k := by
  obtain ⟨n, rfl⟩ := Int.eq_ofNat_of_zero_le (Int.le_of_lt h0)
  have hn : n ≠ 0 := by omega
  refine ⟨n.log2, ?_, ?_, ?_⟩
  · exact (Nat.log2_lt hn).2 (by omega)
  · exact Int.ofNat_le.2 (Nat.log2_self_le hn)
  · have := Nat.lt_log2_self (n := n)
    rw [Nat.pow_succ] at this
    unfold pow2
    omega
/-- a hop at least halves what is left -/
theorem hop_half (hp : ∀ s ∈ seats, Pt s) (hme : Pt me) (hb : ∀ s ∈ seats, farI me s ≤ farI me aim → farI T aim ≤ farI s aim) (hT : T ∈ seats) (hne : T ≠ me) (hd : farI me T ≤ farI me aim) :
    ∃ f, hopI me aim (fingersI me seats) = some f ∧ f ∈ seats ∧ f ≠ me ∧ farI me f ≤ farI me aim ∧ farI me f ≤ farI me T ∧ 2 * farI f T ≤ farI me T := by
  have hpT := hp T hT
  have hd0 := far_pos hme hpT (Ne.symm hne)
  obtain ⟨k, hk, k1, k2⟩ := pow_between hd0 (farI_range me T).2
  have hk0 : 0 ≤ pow2 k := Int.natCast_nonneg _
  obtain ⟨u, hu, u1, u2⟩ := near_some (f := upI me k) (l := seats) (fun e => by rw [e] at hT; cases hT)
  have e1 : farI (upI me k) T = farI me T - pow2 k := far_down hk0 k1
  have e2 := u2 T hT
  have r1 := farI_range (upI me k) u
  have r2 := farI_range me T
  have e3 : farI me u = pow2 k + farI (upI me k) u := far_up hk0 (by show pow2 k + farI (upI me k) u < _; omega)
  have hune : u ≠ me := fun e => by
    rw [e, far_self] at e3
    have h1 := (farI_range (upI me k) me).1
    have h2 : 0 < pow2 k := by unfold pow2; have := Nat.two_pow_pos k; omega
    omega
  have huf : u ∈ fingersI me seats := (finger_iff me seats u).2 ⟨hune, k, hk, hu⟩
  have hule : farI me u ≤ farI me aim := by omega
  obtain ⟨h1, h2⟩ := hop_ok me aim (fingersI me seats)
  cases hh : hopI me aim (fingersI me seats) with
  | none => exact absurd ⟨hune, hule⟩ (h1 hh u huf)
  | some f =>
    obtain ⟨g1, g2, g3, g4⟩ := h2 f hh
    have hf := (finger_seat g1).1
    have g5 := g4 u huf hune hule
    have e4 := far_on g3
    have e5 := far_on hule
    have e6 := far_on hd
    have g6 := hb f hf g3
    have g7 : farI me f ≤ farI me T := by omega
    have e7 := far_on g7
    exact ⟨f, rfl, hf, g2, g3, g7, by omega⟩
/-- the way of a seat: how long it is, where it ends, and that each hop halves what is left -/
def WayOk (T : Int) (n : Nat) (seats : List Int) (me : Int) (l : List Int) : Prop :=
  l.length ≤ n ∧ (me :: l).getLast (by simp) = T ∧ (∀ x ∈ l, x ∈ seats) ∧ ∀ i (h : i + 1 < (me :: l).length), farI ((me :: l)[i + 1]) T < farI ((me :: l)[i]'(by omega)) T ∧ 2 * farI ((me :: l)[i + 1]) T ≤ farI ((me :: l)[i]'(by omega)) T
theorem wayGo_ok (hp : ∀ s ∈ seats, Pt s) (hT : Best aim seats T) : ∀ (n fuel : Nat) (me : Int), me ∈ seats → farI me T < pow2 n → n ≤ fuel → WayOk T n seats me (wayGo aim seats fuel me)
  | 0, fuel, me, hme, hd, _ => by
    have hd : farI me T < 1 := hd
    have e : me = T := far_nil (hp me hme) (hp T hT.1) (by have := (farI_range me T).1; omega)
    subst e
    have hnil : wayGo aim seats fuel me = [] := by
      cases fuel with
      | zero => rfl
      | succ m => unfold wayGo; rw [hop_end hp hT]
    rw [hnil]
    exact ⟨Nat.le_refl _, rfl, by simp, fun i h => by simp at h⟩
  | n + 1, 0, me, hme, hd, hn => by omega
  | n + 1, fuel + 1, me, hme, hd, hn => by
    by_cases e : T = me
    · subst e
      unfold wayGo
      rw [hop_end hp hT]
      exact ⟨Nat.zero_le _, rfl, by simp, fun i h => by simp at h⟩
    · have hle : farI me T ≤ farI me aim := by
        have h1 := hT.2 me hme
        have := far_behind h1
        have := (farI_range T aim).1
        omega
      obtain ⟨f, h1, h2, h3, h4, h5, h6⟩ := hop_half hp (hp me hme) (fun s hs _ => hT.2 s hs) hT.1 e hle
      have hfd : farI f T < pow2 n := by
        have : pow2 (n + 1) = 2 * pow2 n := by unfold pow2; rw [Nat.pow_succ]; omega
        omega
      obtain ⟨k1, k2, k3, k4⟩ := wayGo_ok hp hT n fuel f h2 hfd (by omega)
      unfold wayGo
      rw [h1]
      have hpos := far_pos (hp me hme) (hp T hT.1) (Ne.symm e)
      have hff := far_on h5
      have hfp := far_pos (hp me hme) (hp f h2) (Ne.symm h3)
      refine ⟨by simp only [List.length_cons]; omega, ?_, ?_, ?_⟩
      · rw [List.getLast_cons (by simp)]
        exact k2
      · intro x hx
        rcases List.mem_cons.1 hx with rfl | hx
        · exact h2
        · exact k3 x hx
      · intro i hi
        cases i with
        | zero => exact ⟨by show farI f T < farI me T; omega, h6⟩
        | succ i => exact k4 i (by simpa using hi)
end
end Go.Proofs.Ytfpoapmbpbkibaa
