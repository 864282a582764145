import Derived.Test.YtnjodhglbapnlaaGreatGg07
import Derived.Test.YtnjodhglbapnlaaGreatGg23
import Derived.Test.YtnjodhglbapnlaaGreatGg02
set_option maxRecDepth 100000
set_option maxHeartbeats 16000000
namespace Go.Proofs.YtnjodhglbapnlaaGreat
open Go.RowKit
theorem ykv {s : HO} {x T to_ E : Nat} {e : Int} {all : Bool} (hx : x < 18446744073709551616) (hT : T < 18446744073709551616) (hE : (T = 0 ∧ E = 18446744073709551616) ∨ (x < T ∧ E = T)) (hox : s.own x ≠ none) (hfr : ∀ y, x ≤ y → y < E → s.g.frozen y = false) (hfe : E < 18446744073709551616 → s.g.frozen E = true) (hF : Followed s.own x T to_ e all) :
  ∃ stop, Upto s x stop ∧ to_ = stop % 18446744073709551616 := by
 have hn : x + szN x T = E := by
  unfold szN
  have := yaf hT hx
  split <;> omega
 have hpt : ∀ i, i < szN x T → ptN x i = x + i := fun i hi => by
  have := yed hx (show i < 18446744073709551616 by omega)
  omega
 rcases hF with ⟨_, rfl, hw⟩ | ⟨_, c, hc, rfl, hno, hw⟩
 ·refine ⟨E, ⟨by omega, by omega, fun y h1 h2 => ⟨?_, hfr y h1 h2⟩, fun h => .inr (hfe h)⟩, by rcases hE with ⟨a, b⟩ | ⟨a, b⟩ <;> subst b <;> omega⟩
  obtain ⟨v, hv, _⟩ := hw.up (y - x) (by omega)
  rw [hpt _ (by omega), show x + (y - x) = y by omega] at hv
  rw [hv]
  simp
 ·have hc0 : c ≠ 0 := fun z => by
   rw [z, yms hx] at hno
   exact hox hno
  rw [hpt c hc] at hno ⊢
  refine ⟨x + c, ⟨by omega, by omega, fun y h1 h2 => ⟨?_, hfr y h1 (by omega)⟩, fun h => .inl hno⟩, by omega⟩
  obtain ⟨v, hv, _⟩ := hw.up (y - x) (by omega)
  rw [hpt _ (by omega), show x + (y - x) = y by omega] at hv
  rw [hv]
  simp
theorem yy4 {f t x : Nat} (hf : f < 18446744073709551616) (ht : t < 18446744073709551616) (hx : x < 18446744073709551616) (hn : inB f t x = false) :
  (mayC x 0 f = true → x < f ∧ ∀ y, x ≤ y → y < f → inB f t y = false) ∧ (mayC x 0 f = false → ∀ y, x ≤ y → y < 18446744073709551616 → inB f t y = false) := by
 have hn' : ¬ inB f t x = true := by rw [hn]; exact Bool.false_ne_true
 rw [yay] at hn'
 have s1 := yaf hx hf
 have s2 := yaf ht hf
 have s3 := yaf hf hx
 have s4 := yaf (show 0 < 18446744073709551616 by omega) hx
 refine ⟨fun h => ?_, fun h y h1 h2 => ?_⟩
 ·obtain ⟨a, b⟩ := yce.1 h
  rw [yay] at b
  refine ⟨by omega, fun y h1 h2 => ?_⟩
  apply ydc
  rw [yay]
  have s5 := yaf (show y < 18446744073709551616 by omega) hf
  omega
 ·have h' : ¬ (f ≠ x ∧ inB x 0 f = true) := fun z => by rw [yce.2 z] at h; cases h
  rw [yay] at h'
  apply ydc
  rw [yay]
  have s5 := yaf h2 hf
  omega
def ybr (stop : Nat) : ByteArray := txt (yaz (stop % 18446744073709551616))
def ybv (a : AK) (st : ByteArray) : Bool := decide (st.size ≠ 0) && (decide (a.tt.size = 0) || yad st a.tt)
def yfy (xs : List Item) (n : Nat) : ByteArray := match xs[n]? with
 | some x => x.1
 | none => ⟨#[]⟩
def ydw (s : HO) (a : AK) (st : ByteArray) : TL :=
 let xs := yae s.its a.key (if ybv a st then st else a.tt)
 let n := a.most.toNat
 if (ybv a st && !decide (n < xs.length)) = true then ⟨0, ⟨#[]⟩, xs.take n, true, st, 0⟩ else ⟨0, ⟨#[]⟩, xs.take n, decide (n < xs.length), yfy xs n, 0⟩
theorem yy5 {l : List UInt8} (h : (txt l).size = 0) : l = [] := by
 rw [ylm] at h
 exact List.length_eq_zero_iff.1 h
theorem yy6 {s : HO} {a : AK} {stop : Nat} (hs : Upto s (yac a.key) stop) : ydw s a (ybr stop) = yby s a stop := by
 obtain ⟨h1, h2, _, _⟩ := hs
 have hadr : ∀ x : Item, adr x = yac x.1 := fun x => rfl
 have plain : (∀ x ∈ s.its, yad x.1 a.key = false → (a.tt.size = 0 ∨ yad x.1 a.tt = true) → adr x < stop) → ybv a (ybr stop) = false → (stop < 18446744073709551616 → ¬ (a.tt.size = 0 ∨ yad (ybr stop) a.tt = true)) → ydw s a (ybr stop) = yby s a stop := by
  intro hall hb hc
  have hf : (yae s.its a.key a.tt).filter (fun x => decide (adr x < stop)) = yae s.its a.key a.tt := by
   refine List.filter_eq_self.2 fun x hx => ?_
   unfold yae at hx
   rw [List.mem_filter] at hx
   obtain ⟨hx1, hx2⟩ := hx
   simp only [Bool.and_eq_true, Bool.not_eq_true', Bool.or_eq_true, beq_iff_eq] at hx2
   exact decide_eq_true (hall x hx1 hx2.1 hx2.2)
  unfold ydw yby
  rw [hb]
  simp only [Bool.false_eq_true, if_false, Bool.false_and]
  by_cases hd : a.tt.size ≠ 0 ∧ yad a.key a.tt = false
  ·rw [if_pos hd]
   have he : yae s.its a.key a.tt = [] := by
    refine List.filter_eq_nil_iff.2 fun x _ => ?_
    simp only [Bool.and_eq_true, Bool.not_eq_true', Bool.or_eq_true, beq_iff_eq, not_and, not_or]
    intro hx1
    refine ⟨hd.1, fun z => ?_⟩
    have := Hd.less_below z hd.2
    rw [hx1] at this
    cases this
   rw [he]
   simp [yfy]
  ·rw [if_neg hd, hf]
   cases hl : (yae s.its a.key a.tt)[a.most.toNat]? with
   | some y =>
    have hlt := (List.getElem?_eq_some_iff.1 hl).1
    simp only [yfy, hl, hlt, decide_true]
   | none =>
    have hge : (yae s.its a.key a.tt).length ≤ a.most.toNat := List.getElem?_eq_none_iff.1 hl
    have hlt : ¬ a.most.toNat < (yae s.its a.key a.tt).length := by omega
    simp only [yfy, hl]
    rw [if_neg (fun z => hc z.1 (by
     have e : ybr stop = txt (yaz stop) := by unfold ybr; rw [Nat.mod_eq_of_lt z.1]
     rw [e]
     exact z.2)), decide_eq_false hlt, List.take_of_length_le hge]
 rcases Nat.lt_or_ge stop 18446744073709551616 with hst | hst
 ·have e : ybr stop = txt (yaz stop) := by unfold ybr; rw [Nat.mod_eq_of_lt hst]
  have hne : (ybr stop).size ≠ 0 := fun z => by
   rw [e] at z
   have := Hd.addr_at hst
   rw [yy5 z] at this
   have h0 : yac (txt []) = 0 := rfl
   omega
  by_cases hc : a.tt.size = 0 ∨ yad (ybr stop) a.tt = true
  ·have hb : ybv a (ybr stop) = true := by
    unfold ybv
    simp only [Bool.and_eq_true, decide_eq_true_eq, Bool.or_eq_true]
    exact ⟨hne, hc⟩
   have hkey : yad a.key (ybr stop) = true := by rw [e, Hd.less_at hst]; exact decide_eq_true h1
   have hd : ¬ (a.tt.size ≠ 0 ∧ yad a.key a.tt = false) := by
    rintro ⟨x1, x2⟩
    rcases hc with z | z
    ·exact x1 z
    ·rw [ydr hkey z] at x2
     cases x2
   have hxs : yae s.its a.key (ybr stop) = (yae s.its a.key a.tt).filter (fun x => decide (adr x < stop)) := by
    unfold yae
    rw [List.filter_filter]
    refine List.filter_congr fun x _ => ?_
    rw [e, Hd.less_at hst, ← hadr]
    have hz : ((txt (yaz stop)).size == 0) = false := by
     rw [← e]
     simpa using hne
    rw [hz, Bool.false_or]
    by_cases hp : adr x < stop
    ·rw [decide_eq_true hp]
     have hx : yad x.1 (ybr stop) = true := by rw [e, Hd.less_at hst, ← hadr]; exact decide_eq_true hp
     rcases hc with z | z
     ·simp [z]
     ·simp [ydr hx z]
    ·rw [decide_eq_false hp]
     simp
   unfold ydw yby
   rw [hb, if_neg hd]
   simp only [if_true, Bool.true_and]
   rw [hxs]
   cases hl : ((yae s.its a.key a.tt).filter (fun x => decide (adr x < stop)))[a.most.toNat]? with
   | some y =>
    have hlt := (List.getElem?_eq_some_iff.1 hl).1
    rw [decide_eq_true hlt]
    simp only [yfy, hl, Bool.not_true, Bool.false_eq_true, if_false]
   | none =>
    have hge := List.getElem?_eq_none_iff.1 hl
    have hlt : ¬ a.most.toNat < ((yae s.its a.key a.tt).filter (fun x => decide (adr x < stop))).length := by omega
    rw [decide_eq_false hlt]
    simp only [Bool.not_false, if_true]
    rw [if_pos ⟨hst, by rw [← e]; exact hc⟩, List.take_of_length_le hge, e]
  ·refine plain (fun x _ _ hx => ?_) ?_ (fun _ => hc)
   ·rcases hx with z | z
    ·exact absurd (.inl z) hc
    ·have hn : yad (ybr stop) a.tt = false := ydc fun y => hc (.inr y)
     have hx2 := Hd.less_below z hn
     rw [e, Hd.less_at hst] at hx2
     exact of_decide_eq_true hx2
   ·unfold ybv
    rw [not_or] at hc
    rw [decide_eq_false hc.1, ydc hc.2]
    simp
 ·obtain rfl : stop = 18446744073709551616 := by omega
  refine plain (fun x _ _ _ => ?_) (by rfl) (fun z => absurd z (Nat.lt_irrefl _))
  exact ygc x
abbrev tz : Array Value := #[.int .i64 0, .string ⟨#[]⟩, .slice none 0 0, .bool false, .string ⟨#[]⟩, .int .i64 0]
theorem Bx.six {w : World} {q : Nat} {a b c d e f : Value} {T : TypeId} (h : Bx w q #[a, b, c, d, e, f] T) : w.cell? ⟨q, 0, none⟩ = some a ∧ w.cell? ⟨q, 1, none⟩ = some b ∧ w.cell? ⟨q, 2, none⟩ = some c ∧ w.cell? ⟨q, 3, none⟩ = some d ∧ w.cell? ⟨q, 4, none⟩ = some e ∧ w.cell? ⟨q, 5, none⟩ = some f ∧ q < w.heap.size := ⟨yaw h rfl, yaw h rfl, yaw h rfl, yaw h rfl, yaw h rfl, yaw h rfl, yca h⟩
theorem Bx.free6 {w : World} {q : Nat} {cs : Array Value} {T : TypeId} (h : Bx w q cs T) : w.frozen? ⟨q, 0, none⟩ = false ∧ w.frozen? ⟨q, 1, none⟩ = false ∧ w.frozen? ⟨q, 2, none⟩ = false ∧ w.frozen? ⟨q, 3, none⟩ = false ∧ w.frozen? ⟨q, 4, none⟩ = false ∧ w.frozen? ⟨q, 5, none⟩ = false := ⟨h.free 0, h.free 1, h.free 2, h.free 3, h.free 4, h.free 5⟩
theorem Bx.put6 {w : World} {q : Nat} {x0 x1 x2 x3 x4 x5 : Value} {T : TypeId} (h : Bx w q #[x0, x1, x2, x3, x4, x5] T) (a b c d e f : Value) : Bx ((((((w.setCell ⟨q, 0, none⟩ a).setCell ⟨q, 1, none⟩ b).setCell ⟨q, 2, none⟩ c).setCell ⟨q, 3, none⟩ d).setCell ⟨q, 4, none⟩ e).setCell ⟨q, 5, none⟩ f) q #[a, b, c, d, e, f] T := yb6 (yb6 (yb6 (yb6 (yb6 (yb6 h 0 a) 1 b) 2 c) 3 d) 4 e) 5 f
theorem Bx.five {w : World} {q : Nat} {a b c d e : Value} {T : TypeId} (h : Bx w q #[a, b, c, d, e] T) : w.cell? ⟨q, 0, none⟩ = some a ∧ w.cell? ⟨q, 1, none⟩ = some b ∧ w.cell? ⟨q, 2, none⟩ = some c ∧ w.cell? ⟨q, 3, none⟩ = some d ∧ w.cell? ⟨q, 4, none⟩ = some e ∧ q < w.heap.size := ⟨yaw h rfl, yaw h rfl, yaw h rfl, yaw h rfl, yaw h rfl, yca h⟩
theorem ycu {W w : World} {b : Nat} (h : Below W.heap.size W w) (hb : W.heap.size ≤ b) (a0 a1 a2 a3 a4 a5 : Value) : Below W.heap.size W ((((((w.setCell ⟨b, 0, none⟩ a0).setCell ⟨b, 1, none⟩ a1).setCell ⟨b, 2, none⟩ a2).setCell ⟨b, 3, none⟩ a3).setCell ⟨b, 4, none⟩ a4).setCell ⟨b, 5, none⟩ a5) := yan (yan (yan (yan (yan (yan h hb _ _) hb _ _) hb _ _) hb _ _) hb _ _) hb _ _
def ycv (a : AK) : Int := if a.op < 1 ∨ 4 < a.op ∨ (a.op = 4 ∧ (a.most < 0 ∨ 40 < a.most)) then 1 else if 16 < a.key.size ∨ (a.key.size = 0 ∧ a.op ≠ 4) then 3 else 0
theorem yy7 (a : AK) (ha : a.Fit) (w : World) : Calls Tryz.prog 54 #[.agg a.cells] w fun e w' => e = .returned (.int .i64 (ycv a)) ∧ Below w.heap.size w w' := by
 obtain ⟨op, key, val, tt, most⟩ := a
 have HA := Lib.hid ha
 have B0 : Below w.heap.size w (w.alloc (.cells #[.int .i64 op, .string key, .string val, .string tt, .int .i64 most] 45)) := (Below.refl _ _).alloc (Nat.le_refl _) _
 have hx := Bx.new w #[.int .i64 op, .string key, .string val, .string tt, .int .i64 most] 45
 have hks : key.size ≤ maxLen := ha.key
 have CR := Lib.hid (fun W => yln key W hks)
 have hk9 : key.size ≤ 9223372036854775807 := Nat.le_trans hks (by decide)
 unfold ycv
 by_cases h1 : op < 1 ∨ 4 < op
 ·have e1 : (op < 1 ∨ 4 < op ∨ (op = 4 ∧ (most < 0 ∨ 40 < most))) := by omega
  simp only [if_pos e1]
  rcases h1 with h1 | h1
  ·have d1 : decide (op < 1) = true := decide_eq_true h1
   clear ha e1
   go_enter Tryz.func54, Tryz.ntmps54
   go_wp2_with fail
   go_ret
   exact ⟨rfl, B0⟩
  ·have d1 : decide (op < 1) = false := decide_eq_false (by omega)
   have d2 : decide (op > 4) = true := decide_eq_true h1
   have d3 : decide (4 < op) = true := decide_eq_true h1
   clear ha e1
   go_enter Tryz.func54, Tryz.ntmps54
   go_wp2_with fail
   go_ret
   exact ⟨rfl, B0⟩
 ·have d1 : decide (op < 1) = false := decide_eq_false (by omega)
  have d2 : decide (op > 4) = false := decide_eq_false (by omega)
  have d3 : decide (4 < op) = false := decide_eq_false (by omega)
  by_cases h4 : op = 4
  ·subst h4
   by_cases hm : most < 0 ∨ 40 < most
   ·have e1 : ((4 : Int) < 1 ∨ (4 : Int) < 4 ∨ ((4 : Int) = 4 ∧ (most < 0 ∨ 40 < most))) := .inr (.inr ⟨rfl, hm⟩)
    rw [if_pos e1]
    rcases hm with hm | hm
    ·have m1 : decide (most < 0) = true := decide_eq_true hm
     clear ha e1 h1
     go_enter Tryz.func54, Tryz.ntmps54
     go_wp2_with fail
     go_ret
     exact ⟨rfl, B0⟩
    ·have m1 : decide (most < 0) = false := decide_eq_false (by omega)
     have m2 : decide (most > 40) = true := decide_eq_true hm
     have m3 : decide (40 < most) = true := decide_eq_true hm
     clear ha e1 h1
     go_enter Tryz.func54, Tryz.ntmps54
     go_wp2_with fail
     go_ret
     exact ⟨rfl, B0⟩
   ·have e1 : ¬ ((4 : Int) < 1 ∨ (4 : Int) < 4 ∨ ((4 : Int) = 4 ∧ (most < 0 ∨ 40 < most))) := by omega
    rw [if_neg e1]
    have m1 : decide (most < 0) = false := decide_eq_false (by omega)
    have m2 : decide (most > 40) = false := decide_eq_false (by omega)
    have m3 : decide (40 < most) = false := decide_eq_false (by omega)
    by_cases hk : 16 < key.size
    ·have e2 : (16 < key.size ∨ (key.size = 0 ∧ (4 : Int) ≠ 4)) := .inl hk
     simp only [if_pos e2]
     have k1 : decide ((key.size : Int) > 16) = true := decide_eq_true (by omega)
     have k2 : decide (16 < (key.size : Int)) = true := decide_eq_true (by omega)
     have k3 : decide (16 < key.size) = true := decide_eq_true hk
     clear ha e1 h1 e2
     go_enter Tryz.func54, Tryz.ntmps54
     go_wp2_with fail
     go_ret
     exact ⟨rfl, B0⟩
    ·have e2 : ¬ (16 < key.size ∨ (key.size = 0 ∧ (4 : Int) ≠ 4)) := by
      rintro (z | z)
      ·exact hk z
      ·exact z.2 rfl
     simp only [if_neg e2]
     have k1 : decide ((key.size : Int) > 16) = false := decide_eq_false (by omega)
     have k2 : decide (16 < (key.size : Int)) = false := decide_eq_false (by omega)
     have k3 : decide (16 < key.size) = false := decide_eq_false hk
     clear ha e1 h1 e2
     go_enter Tryz.func54, Tryz.ntmps54
     go_wp2_with fail
     go_ret
     exact ⟨rfl, B0⟩
  ·have e1 : ¬ (op < 1 ∨ 4 < op ∨ (op = 4 ∧ (most < 0 ∨ 40 < most))) := by omega
   have hr : (if 16 < key.size ∨ (key.size = 0 ∧ op ≠ 4) then (3 : Int) else 0) = yal key := by
    unfold yal
    by_cases z : key.size = 0 ∨ 16 < key.size
    ·rw [if_pos (by rcases z with z | z; exact .inr ⟨z, h4⟩; exact .inl z), if_pos z]
    ·rw [if_neg (fun y => z (by rcases y with y | y; exact .inr y; exact .inl y.1)), if_neg z]
   simp only [if_neg e1]
   rw [hr]
   have b4 : (op != 4) = true := by rw [bne_iff_ne]; exact h4
   clear ha e1 h1 hr h4
   go_enter Tryz.func54, Tryz.ntmps54
   go_wp2_with (go_at_call 133; (with_reducible refine (CR.out _).mono ?_); rintro e w1 ⟨rfl, rfl⟩)
   go_ret
   exact ⟨rfl, B0⟩
theorem yy8 {w : World} {g sp : Nat} {s : HO} {l : List AO} {S : Value} {Fs Fg : List Nat} (x : Nat) (hx9 : x < 18446744073709551616) (h : HM w g s l S sp Fs Fg) : Calls Tryz.prog 56 #[.pointer (some ⟨g, 0, none⟩), .int .u64 (x : Nat)] w fun e w' =>
  e = .returned (.agg #[.int .i64 8, .string ⟨#[]⟩, .slice none 0 0, .bool false, .string ⟨#[]⟩, .int .i64 ((yao s.g.l x).getD (-1))]) ∧ Below w.heap.size w w' := by
 have B0 : Below w.heap.size w (w.alloc (.cells tz 47)) := (Below.refl _ _).alloc (Nat.le_refl _) _
 have hx := Bx.new w tz 47
 have h1 := h.below B0
 have C1 := Lib.hid (Gi.gateWhere_any x hx9 h1.gate)
 obtain ⟨o, ho⟩ : ∃ o, yao s.g.l x = o := ⟨_, rfl⟩
 rw [ho] at C1 ⊢
 unfold yd0 at C1
 clear ho
 cases o
 ·simp only [Option.getD_none, Option.isSome_none] at C1 ⊢
  go_enter Tryz.func56, Tryz.ntmps56
  go_upto_region 1 with fail
  obtain ⟨b4, hb4⟩ : ∃ b4, w.heap.size = b4 := ⟨_, rfl⟩
  have HB4 : Hid (w.heap.size ≤ b4) := Nat.le_of_eq hb4
  rw [hb4] at hx
  obtain ⟨w0, hw0⟩ : ∃ w0, w.alloc (.cells tz 47) = w0 := ⟨_, rfl⟩
  rw [hw0] at B0 hx h1 C1 ⊢
  try rw [hb4]
  clear hw0 hb4
  have HB0 := Lib.hid B0
  have HX0 := Lib.hid hx
  have H0 := Lib.hid h1
  clear B0 hx h1
  go_wp2_with (go_loud (go_at_call 134; (with_reducible refine (C1.out).mono ?_); rintro e w1 ⟨rfl, hb1⟩; have HB1 := Lib.hid (acc HB0.out hb1); have HX1 := Lib.hid (HX0.out.below hb1); obtain ⟨z0, z1, z2, z3, z4, z5, zl⟩ := HX1.out.six; obtain ⟨f0, f1, f2, f3, f4, f5⟩ := HX1.out.free6; clear hb1))
  refine bodyPost_ret (v := .agg #[.int .i64 8, .string ⟨#[]⟩, .slice none 0 0, .bool false, .string ⟨#[]⟩, .int .i64 (-1)]) ?_ rfl ?_
  ·obtain ⟨s0, s1, s2, s3, s4, s5, _⟩ := (HX1.out.put6 (.int .i64 8) (.string ⟨#[]⟩) (.slice none 0 0) (.bool false) (.string ⟨#[]⟩) (.int .i64 (-1))).six
   simp [results, Tryz.results56, go_sem, s0, s1, s2, s3, s4, s5]
  ·exact ⟨rfl, ycu HB1.out HB4.out _ _ _ _ _ _⟩
 ·rename_i nd
  simp only [Option.getD_some, Option.isSome_some] at C1 ⊢
  go_enter Tryz.func56, Tryz.ntmps56
  go_upto_region 1 with fail
  obtain ⟨b4, hb4⟩ : ∃ b4, w.heap.size = b4 := ⟨_, rfl⟩
  have HB4 : Hid (w.heap.size ≤ b4) := Nat.le_of_eq hb4
  rw [hb4] at hx
  obtain ⟨w0, hw0⟩ : ∃ w0, w.alloc (.cells tz 47) = w0 := ⟨_, rfl⟩
  rw [hw0] at B0 hx h1 C1 ⊢
  try rw [hb4]
  clear hw0 hb4
  have HB0 := Lib.hid B0
  have HX0 := Lib.hid hx
  have H0 := Lib.hid h1
  clear B0 hx h1
  go_wp2_with (go_loud (go_at_call 134; (with_reducible refine (C1.out).mono ?_); rintro e w1 ⟨rfl, hb1⟩; have HB1 := Lib.hid (acc HB0.out hb1); have HX1 := Lib.hid (HX0.out.below hb1); obtain ⟨z0, z1, z2, z3, z4, z5, zl⟩ := HX1.out.six; obtain ⟨f0, f1, f2, f3, f4, f5⟩ := HX1.out.free6; clear hb1))
  refine bodyPost_ret (v := .agg #[.int .i64 8, .string ⟨#[]⟩, .slice none 0 0, .bool false, .string ⟨#[]⟩, .int .i64 nd]) ?_ rfl ?_
  ·obtain ⟨s0, s1, s2, s3, s4, s5, _⟩ := (HX1.out.put6 (.int .i64 8) (.string ⟨#[]⟩) (.slice none 0 0) (.bool false) (.string ⟨#[]⟩) (.int .i64 nd)).six
   simp [results, Tryz.results56, go_sem, s0, s1, s2, s3, s4, s5]
  ·exact ⟨rfl, ycu HB1.out HB4.out _ _ _ _ _ _⟩
theorem yy9 {w : World} {g sp : Nat} {s : HO} {l : List AO} {S : Value} {Fs Fg : List Nat} (k : ByteArray) (h : HM w g s l S sp Fs Fg) : Calls Tryz.prog 58 #[.pointer (some ⟨g, 0, none⟩), .string k] w fun e w' =>
  e = .returned (.agg (TL.cells (if hasN s.its k = true then ⟨0, getI s.its k, [], false, ⟨#[]⟩, 0⟩ else TL.err 6) (.slice none 0 0))) ∧ Below w.heap.size w w' := by
 have B0 : Below w.heap.size w (w.alloc (.cells tz 47)) := (Below.refl _ _).alloc (Nat.le_refl _) _
 have hx := Bx.new w tz 47
 have h1 := h.below B0
 have C1 := Lib.hid (yb2.get k h1.shelf)
 rw [yy1]
 obtain ⟨b, hb⟩ : ∃ b, hasN s.its k = b := ⟨_, rfl⟩
 rw [hb] at C1 ⊢
 generalize getN s.its k = v at *
 have c4 := h1.c4
 clear hb
 cases b
 ·rw [if_neg Bool.false_ne_true]
  go_enter Tryz.func58, Tryz.ntmps58
  go_upto_region 1 with fail
  obtain ⟨b4, hb4⟩ : ∃ b4, w.heap.size = b4 := ⟨_, rfl⟩
  have HB4 : Hid (w.heap.size ≤ b4) := Nat.le_of_eq hb4
  rw [hb4] at hx
  obtain ⟨w0, hw0⟩ : ∃ w0, w.alloc (.cells tz 47) = w0 := ⟨_, rfl⟩
  rw [hw0] at B0 hx h1 C1 c4 ⊢
  try rw [hb4]
  clear hw0 hb4
  have HB0 := Lib.hid B0
  have HX0 := Lib.hid hx
  have H0 := Lib.hid h1
  clear B0 hx h1
  go_wp2_with (go_loud (go_at_call 135; (with_reducible refine (C1.out).mono ?_); rintro e w1 ⟨rfl, hb1⟩; have HB1 := Lib.hid (acc HB0.out hb1); have HX1 := Lib.hid (HX0.out.below hb1); obtain ⟨z0, z1, z2, z3, z4, z5, zl⟩ := HX1.out.six; obtain ⟨f0, f1, f2, f3, f4, f5⟩ := HX1.out.free6; clear hb1))
  refine bodyPost_ret (v := .agg #[.int .i64 6, .string ⟨#[]⟩, .slice none 0 0, .bool false, .string ⟨#[]⟩, .int .i64 0]) ?_ rfl ?_
  ·obtain ⟨s0, s1, s2, s3, s4, s5, _⟩ := (HX1.out.put6 (.int .i64 6) (.string ⟨#[]⟩) (.slice none 0 0) (.bool false) (.string ⟨#[]⟩) (.int .i64 0)).six
   simp [results, Tryz.results58, go_sem, s0, s1, s2, s3, s4, s5]
  ·exact ⟨rfl, ycu HB1.out HB4.out _ _ _ _ _ _⟩
 ·rw [if_pos rfl]
  go_enter Tryz.func58, Tryz.ntmps58
  go_upto_region 1 with fail
  obtain ⟨b4, hb4⟩ : ∃ b4, w.heap.size = b4 := ⟨_, rfl⟩
  have HB4 : Hid (w.heap.size ≤ b4) := Nat.le_of_eq hb4
  rw [hb4] at hx
  obtain ⟨w0, hw0⟩ : ∃ w0, w.alloc (.cells tz 47) = w0 := ⟨_, rfl⟩
  rw [hw0] at B0 hx h1 C1 c4 ⊢
  try rw [hb4]
  clear hw0 hb4
  have HB0 := Lib.hid B0
  have HX0 := Lib.hid hx
  have H0 := Lib.hid h1
  clear B0 hx h1
  go_wp2_with (go_loud (go_at_call 135; (with_reducible refine (C1.out).mono ?_); rintro e w1 ⟨rfl, hb1⟩; have HB1 := Lib.hid (acc HB0.out hb1); have HX1 := Lib.hid (HX0.out.below hb1); obtain ⟨z0, z1, z2, z3, z4, z5, zl⟩ := HX1.out.six; obtain ⟨f0, f1, f2, f3, f4, f5⟩ := HX1.out.free6; clear hb1))
  refine bodyPost_ret (v := .agg #[.int .i64 0, .string v, .slice none 0 0, .bool false, .string ⟨#[]⟩, .int .i64 0]) ?_ rfl ?_
  ·obtain ⟨s0, s1, s2, s3, s4, s5, _⟩ := (HX1.out.put6 (.int .i64 0) (.string v) (.slice none 0 0) (.bool false) (.string ⟨#[]⟩) (.int .i64 0)).six
   simp [results, Tryz.results58, go_sem, s0, s1, s2, s3, s4, s5]
  ·exact ⟨rfl, ycu HB1.out HB4.out _ _ _ _ _ _⟩
def ycw (w : World) (g sp : Nat) (s : HO) (l : List AO) (S : Value) (Fs Fg : List Nat) (er : Int) (its : List Item) (e : Ending) (w' : World) : Prop :=
 e = .returned (.agg (TL.cells (TL.err er) (.slice none 0 0))) ∧ ∃ Fs', HM w' g (s.with its) l S sp Fs' Fg ∧ Touch Fs w w' ∧ ∀ q ∈ Fs', q ∈ Fs ∨ w.heap.size ≤ q
theorem ycw.same {w w1 : World} {g sp : Nat} {s : HO} {l : List AO} {S : Value} {Fs Fg : List Nat} {er : Int} (h : HM w g s l S sp Fs Fg) (hb : Below w.heap.size w w1) : ycw w g sp s l S Fs Fg er s.its (.returned (.agg (TL.cells (TL.err er) (.slice none 0 0)))) w1 :=
 ⟨rfl, Fs, h.below hb, Touch.ofBelow hb, fun _ hq => .inl hq⟩
theorem ycw.done {w w0 w1 w2 : World} {g sp : Nat} {s : HO} {l : List AO} {S : Value} {Fs Fs' Fg : List Nat} {er : Int} {its : List Item} (h : HM w g s l S sp Fs Fg) (hb : Below w.heap.size w w0) (hs : SH w1 sp s.most its Fs') (t : Touch Fs w0 w1) (hn : ∀ q ∈ Fs', q ∈ Fs ∨ w0.heap.size ≤ q) (hr : ∀ x ∈ its, yal x.1 = 0 ∧ yas x.2 = 0) {b : Nat} (t2 : Touch [b] w1 w2) (hbw : w.heap.size ≤ b) (hb0 : b < w0.heap.size) : ycw w g sp s l S Fs Fg er its (.returned (.agg (TL.cells (TL.err er) (.slice none 0 0)))) w2 := by
 have h1 := (h.below hb).setShelf hs t hn hr
 have hz := hb.size
 refine ⟨rfl, Fs', h1.touch t2 (fun q hq z => ?_), ((Touch.ofBelow hb).trans t (fun q hq => .inl hq)).trans t2 (fun q hq => .inr (by rw [List.mem_singleton.1 hq]; exact hbw)), fun q hq => (hn q hq).imp id (fun y => Nat.le_trans hz y)⟩
 have e := List.mem_singleton.1 z
 subst e
 rcases yau.1 hq with y | y | y
 ·have := h.row.lt q y; omega
 ·rcases hn q y with x | x
  ·have := h.shelf.ltF q x; omega
  ·omega
 ·have := (Gi.vg_has h.gate).2 q y; omega
theorem yb3 {F : List Nat} {W w : World} {b : Nat} (h : Touch F W w) (hb : b ∈ F) (a0 a1 a2 a3 a4 a5 : Value) : Touch F W ((((((w.setCell ⟨b, 0, none⟩ a0).setCell ⟨b, 1, none⟩ a1).setCell ⟨b, 2, none⟩ a2).setCell ⟨b, 3, none⟩ a3).setCell ⟨b, 4, none⟩ a4).setCell ⟨b, 5, none⟩ a5) := (((((h.set (.inl hb) _).set (.inl hb) _).set (.inl hb) _).set (.inl hb) _).set (.inl hb) _).set (.inl hb) _
theorem yza {w : World} {g sp : Nat} {s : HO} {l : List AO} {S : Value} {Fs Fg : List Nat} (k : ByteArray) (h : HM w g s l S sp Fs Fg) : Calls Tryz.prog 60 #[.pointer (some ⟨g, 0, none⟩), .string k] w (ycw w g sp s l S Fs Fg (if hasN s.its k = true then 0 else 6) (delN s.its k)) := by
 have B0 : Below w.heap.size w (w.alloc (.cells tz 47)) := (Below.refl _ _).alloc (Nat.le_refl _) _
 have hx := Bx.new w tz 47
 have h1 := h.below B0
 have C1 := Lib.hid (yb2.del k h1.shelf)
 have HDR : Hid (∀ x ∈ delN s.its k, yal x.1 = 0 ∧ yas x.2 = 0) := fun x hx => h.right x ((yno (yb2.rising h.shelf) k x).1 hx).1
 obtain ⟨b, hb⟩ : ∃ b, hasN s.its k = b := ⟨_, rfl⟩
 rw [hb] at C1 ⊢
 have c4 := h1.c4
 have HH := Lib.hid h
 clear hb h
 cases b
 ·rw [if_neg Bool.false_ne_true]
  go_enter Tryz.func60, Tryz.ntmps60
  go_upto_region 1 with fail
  obtain ⟨b4, hb4⟩ : ∃ b4, w.heap.size = b4 := ⟨_, rfl⟩
  have HB4 : Hid (w.heap.size ≤ b4) := Nat.le_of_eq hb4
  rw [hb4] at hx
  obtain ⟨w0, hw0⟩ : ∃ w0, w.alloc (.cells tz 47) = w0 := ⟨_, rfl⟩
  rw [hw0] at B0 hx h1 C1 c4 ⊢
  try rw [hb4]
  clear hw0 hb4
  have HB0 := Lib.hid B0
  have HX0 := Lib.hid hx
  have H0 := Lib.hid h1
  have HL4 : Hid (b4 < w0.heap.size) := hx.six.2.2.2.2.2.2
  have HNF : Hid (b4 ∉ Fs) := fun z => by have := HH.out.shelf.ltF b4 z; have := HB4.out; omega
  clear B0 hx h1
  go_wp2_with (go_loud (go_at_call 139; (with_reducible refine (C1.out).mono ?_); rintro e w1 ⟨rfl, Fs1, hs1, ht1, hn1⟩; have HX1 := Lib.hid (HX0.out.touch ht1 HNF.out); have HS1 := Lib.hid hs1; have HT1 := Lib.hid ht1; have HN1 := Lib.hid hn1; obtain ⟨z0, z1, z2, z3, z4, z5, zl⟩ := HX1.out.six; obtain ⟨f0, f1, f2, f3, f4, f5⟩ := HX1.out.free6; clear hs1 ht1 hn1))
  refine bodyPost_ret (v := .agg #[.int .i64 6, .string ⟨#[]⟩, .slice none 0 0, .bool false, .string ⟨#[]⟩, .int .i64 0]) ?_ rfl ?_
  ·obtain ⟨s0, s1, s2, s3, s4, s5, _⟩ := (HX1.out.put6 (.int .i64 6) (.string ⟨#[]⟩) (.slice none 0 0) (.bool false) (.string ⟨#[]⟩) (.int .i64 0)).six
   simp [results, Tryz.results60, go_sem, s0, s1, s2, s3, s4, s5]
  ·exact ycw.done HH.out HB0.out HS1.out HT1.out HN1.out HDR.out (yb3 (Touch.refl _ _) (by simp) _ _ _ _ _ _) HB4.out HL4.out
 ·rw [if_pos rfl]
  go_enter Tryz.func60, Tryz.ntmps60
  go_upto_region 1 with fail
  obtain ⟨b4, hb4⟩ : ∃ b4, w.heap.size = b4 := ⟨_, rfl⟩
  have HB4 : Hid (w.heap.size ≤ b4) := Nat.le_of_eq hb4
  rw [hb4] at hx
  obtain ⟨w0, hw0⟩ : ∃ w0, w.alloc (.cells tz 47) = w0 := ⟨_, rfl⟩
  rw [hw0] at B0 hx h1 C1 c4 ⊢
  try rw [hb4]
  clear hw0 hb4
  have HB0 := Lib.hid B0
  have HX0 := Lib.hid hx
  have H0 := Lib.hid h1
  have HL4 : Hid (b4 < w0.heap.size) := hx.six.2.2.2.2.2.2
  have HNF : Hid (b4 ∉ Fs) := fun z => by have := HH.out.shelf.ltF b4 z; have := HB4.out; omega
  clear B0 hx h1
  go_wp2_with (go_loud (go_at_call 139; (with_reducible refine (C1.out).mono ?_); rintro e w1 ⟨rfl, Fs1, hs1, ht1, hn1⟩; have HX1 := Lib.hid (HX0.out.touch ht1 HNF.out); have HS1 := Lib.hid hs1; have HT1 := Lib.hid ht1; have HN1 := Lib.hid hn1; obtain ⟨z0, z1, z2, z3, z4, z5, zl⟩ := HX1.out.six; obtain ⟨f0, f1, f2, f3, f4, f5⟩ := HX1.out.free6; clear hs1 ht1 hn1))
  refine bodyPost_ret (v := .agg #[.int .i64 0, .string ⟨#[]⟩, .slice none 0 0, .bool false, .string ⟨#[]⟩, .int .i64 0]) ?_ rfl ?_
  ·obtain ⟨s0, s1, s2, s3, s4, s5, _⟩ := (HX1.out.put6 (.int .i64 0) (.string ⟨#[]⟩) (.slice none 0 0) (.bool false) (.string ⟨#[]⟩) (.int .i64 0)).six
   simp [results, Tryz.results60, go_sem, s0, s1, s2, s3, s4, s5]
  ·exact ycw.done HH.out HB0.out HS1.out HT1.out HN1.out HDR.out (yb3 (Touch.refl _ _) (by simp) _ _ _ _ _ _) HB4.out HL4.out
theorem yzb {w : World} {g sp : Nat} {s : HO} {l : List AO} {S : Value} {Fs Fg : List Nat} (k v : ByteArray) (hk0 : yal k = 0) (hkl : k.size ≤ maxLen) (hvl : v.size ≤ maxLen) (h : HM w g s l S sp Fs Fg) : Calls Tryz.prog 59 #[.pointer (some ⟨g, 0, none⟩), .string k, .string v] w (ycw w g sp s l S Fs Fg (s.putE k v) (if s.putE k v = 0 then putN s.its k v else s.its)) := by
 have B0 : Below w.heap.size w (w.alloc (.cells tz 47)) := (Below.refl _ _).alloc (Nat.le_refl _) _
 have hx := Bx.new w tz 47
 have h1 := h.below B0
 have C1 := Lib.hid (yb2.get k h1.shelf)
 have CV := Lib.hid (fun W => ylo v W hvl)
 have HH := Lib.hid h
 have HPE : Hid (yas v = 0 → (hasN s.its k = false → ¬ s.most ≤ (s.its.length : Int) + s.kept) → putE s.most s.its k v = 0) := fun q1 q2 => by
  unfold putE
  rw [if_neg (by simp [hk0]), if_neg (by simp [q1]), if_neg (fun z => q2 z.1 (by omega))]
 have HPR : Hid (∀ x ∈ putS s.most s.its k v, yal x.1 = 0 ∧ yas x.2 = 0) := yy2 (yb2.rising h.shelf) h.right k v
 have c4 := h1.c4
 clear h
 have HQ : Hid (∀ {W : World} {F : List Nat}, SH W sp s.most s.its F → putE s.most s.its k v = 0 → Calls Tryz.prog 138 #[.pointer (some ⟨sp, 0, none⟩), .string k, .string v] W fun e w' => e = .returned (.int .i64 0) ∧ ∃ F', SH w' sp s.most (putS s.most s.its k v) F' ∧ Touch F W w' ∧ ∀ q ∈ F', q ∈ F ∨ W.heap.size ≤ q) := fun {W F} hs he => by
  have := yb2.put k v hs hkl hvl
  rw [he] at this
  exact this
 have HPS : Hid (putE s.most s.its k v = 0 → putS s.most s.its k v = putN s.its k v) := fun z => by unfold putS; rw [if_pos z]
 by_cases hv : yas v = 0
 case neg =>
  have hv2 : s.putE k v = yas v := by unfold HO.putE; rw [if_pos hv]
  have hv1 : (yas v != 0) = true := by rw [bne_iff_ne]; exact hv
  rw [hv2, if_neg hv]
  generalize yas v = vn at *
  clear hv hv2 hk0
  go_enter Tryz.func59, Tryz.ntmps59
  go_upto_region 1 with fail
  obtain ⟨b4, hb4⟩ : ∃ b4, w.heap.size = b4 := ⟨_, rfl⟩
  have HB4 : Hid (w.heap.size ≤ b4) := Nat.le_of_eq hb4
  rw [hb4] at hx
  obtain ⟨w0, hw0⟩ : ∃ w0, w.alloc (.cells tz 47) = w0 := ⟨_, rfl⟩
  rw [hw0] at B0 hx h1 C1 c4 ⊢
  try rw [hb4]
  clear hw0 hb4
  have HB0 := Lib.hid B0
  have HX0 := Lib.hid hx
  have H0 := Lib.hid h1
  have HX1 := Lib.hid hx
  have HB1 := Lib.hid B0
  clear B0 hx h1
  obtain ⟨z0, z1, z2, z3, z4, z5, zl⟩ := HX1.out.six; obtain ⟨f0, f1, f2, f3, f4, f5⟩ := HX1.out.free6
  go_wp2_with (go_at_call 136; (with_reducible refine (CV.out _).mono ?_); rintro e w9 ⟨rfl, rfl⟩)
  refine bodyPost_ret (v := .agg #[.int .i64 vn, .string ⟨#[]⟩, .slice none 0 0, .bool false, .string ⟨#[]⟩, .int .i64 0]) ?_ rfl ?_
  ·obtain ⟨s0, s1, s2, s3, s4, s5, _⟩ := (HX1.out.put6 (.int .i64 vn) (.string ⟨#[]⟩) (.slice none 0 0) (.bool false) (.string ⟨#[]⟩) (.int .i64 0)).six
   simp [results, Tryz.results59, go_sem, s0, s1, s2, s3, s4, s5]
  ·exact ycw.same HH.out (ycu HB1.out HB4.out _ _ _ _ _ _)
 case pos =>
  rw [hv] at CV
  have hv1 : ((0 : Int) != 0) = false := rfl
  obtain ⟨b, hb⟩ : ∃ b, hasN s.its k = b := ⟨_, rfl⟩
  rw [hb] at C1
  cases b
  ·by_cases hr : s.most ≤ (s.its.length : Int) + s.kept
   ·have hv2 : s.putE k v = 5 := by unfold HO.putE; rw [if_neg (fun z => z hv), if_pos ⟨hb, hr⟩]
    rw [hv2, if_neg (by decide)]
    have dr : decide (s.most - (s.its.length : Nat) - (s.kept : Nat) ≤ 0) = true := decide_eq_true (by omega)
    clear hv hv2 hk0 hr hb
    go_enter Tryz.func59, Tryz.ntmps59
    go_upto_region 1 with fail
    obtain ⟨b4, hb4⟩ : ∃ b4, w.heap.size = b4 := ⟨_, rfl⟩
    have HB4 : Hid (w.heap.size ≤ b4) := Nat.le_of_eq hb4
    rw [hb4] at hx
    obtain ⟨w0, hw0⟩ : ∃ w0, w.alloc (.cells tz 47) = w0 := ⟨_, rfl⟩
    rw [hw0] at B0 hx h1 C1 c4 ⊢
    try rw [hb4]
    clear hw0 hb4
    have HB0 := Lib.hid B0
    have HX0 := Lib.hid hx
    have H0 := Lib.hid h1
    clear B0 hx h1
    go_wp2_with first | (go_at_call 136; (with_reducible refine (CV.out _).mono ?_); rintro e w9 ⟨rfl, rfl⟩) | (go_at_call 135; (with_reducible refine (C1.out).mono ?_); rintro e w1 ⟨rfl, hb1⟩; have HB1 := Lib.hid (acc HB0.out hb1); have HX1 := Lib.hid (HX0.out.below hb1); have H1 := Lib.hid (H0.out.below hb1); have c41 := H1.out.c4; obtain ⟨z0, z1, z2, z3, z4, z5, zl⟩ := HX1.out.six; obtain ⟨f0, f1, f2, f3, f4, f5⟩ := HX1.out.free6; clear hb1) | (go_at_call 137; (with_reducible refine (yph H1.out).mono ?_); rintro e w2 ⟨rfl, hb2⟩; have HB2 := Lib.hid (acc HB1.out hb2); have HX2 := Lib.hid (HX1.out.below hb2); have H2 := Lib.hid (H1.out.below hb2); have c42 := H2.out.c4; obtain ⟨z0, z1, z2, z3, z4, z5, zl⟩ := HX2.out.six; obtain ⟨f0, f1, f2, f3, f4, f5⟩ := HX2.out.free6; clear hb2)
    refine bodyPost_ret (v := .agg #[.int .i64 5, .string ⟨#[]⟩, .slice none 0 0, .bool false, .string ⟨#[]⟩, .int .i64 0]) ?_ rfl ?_
    ·obtain ⟨s0, s1, s2, s3, s4, s5, _⟩ := (HX2.out.put6 (.int .i64 5) (.string ⟨#[]⟩) (.slice none 0 0) (.bool false) (.string ⟨#[]⟩) (.int .i64 0)).six
     simp [results, Tryz.results59, go_sem, s0, s1, s2, s3, s4, s5]
    ·exact ycw.same HH.out (ycu HB2.out HB4.out _ _ _ _ _ _)
   ·have hv2 : s.putE k v = 0 := by unfold HO.putE; rw [if_neg (fun z => z hv), if_neg (fun z => hr z.2)]
    rw [hv2, if_pos rfl]
    have HE0 := Lib.hid (HPE.out hv (fun _ => hr))
    have dr : decide (s.most - (s.its.length : Nat) - (s.kept : Nat) ≤ 0) = false := decide_eq_false (by omega)
    rw [← HPS.out HE0.out]
    clear hv hv2 hk0 hr hb HPS
    go_enter Tryz.func59, Tryz.ntmps59
    go_upto_region 1 with fail
    obtain ⟨b4, hb4⟩ : ∃ b4, w.heap.size = b4 := ⟨_, rfl⟩
    have HB4 : Hid (w.heap.size ≤ b4) := Nat.le_of_eq hb4
    rw [hb4] at hx
    obtain ⟨w0, hw0⟩ : ∃ w0, w.alloc (.cells tz 47) = w0 := ⟨_, rfl⟩
    rw [hw0] at B0 hx h1 C1 c4 ⊢
    try rw [hb4]
    clear hw0 hb4
    have HB0 := Lib.hid B0
    have HX0 := Lib.hid hx
    have H0 := Lib.hid h1
    have HL4 : Hid (b4 < w0.heap.size) := hx.six.2.2.2.2.2.2
    have HNF : Hid (b4 ∉ Fs) := fun z => by have := HH.out.shelf.ltF b4 z; have := HB4.out; omega
    clear B0 hx h1
    go_wp2_with first | (go_at_call 136; (with_reducible refine (CV.out _).mono ?_); rintro e w9 ⟨rfl, rfl⟩) | (go_at_call 135; (with_reducible refine (C1.out).mono ?_); rintro e w1 ⟨rfl, hb1⟩; have HB1 := Lib.hid (acc HB0.out hb1); have HX1 := Lib.hid (HX0.out.below hb1); have H1 := Lib.hid (H0.out.below hb1); have c41 := H1.out.c4; obtain ⟨z0, z1, z2, z3, z4, z5, zl⟩ := HX1.out.six; obtain ⟨f0, f1, f2, f3, f4, f5⟩ := HX1.out.free6; clear hb1) | (go_at_call 137; (with_reducible refine (yph H1.out).mono ?_); rintro e w2 ⟨rfl, hb2⟩; have HB2 := Lib.hid (acc HB1.out hb2); have HX2 := Lib.hid (HX1.out.below hb2); have H2 := Lib.hid (H1.out.below hb2); have c42 := H2.out.c4; obtain ⟨z0, z1, z2, z3, z4, z5, zl⟩ := HX2.out.six; obtain ⟨f0, f1, f2, f3, f4, f5⟩ := HX2.out.free6; clear hb2) | (go_at_call 138; (with_reducible refine (HQ.out H2.out.shelf HE0.out).mono ?_); rintro e w3 ⟨rfl, Fs1, hs1, ht1, hn1⟩; have HX3 := Lib.hid (HX2.out.touch ht1 HNF.out); have HS1 := Lib.hid hs1; have HT1 := Lib.hid ht1; have HN1 := Lib.hid hn1; obtain ⟨z0, z1, z2, z3, z4, z5, zl⟩ := HX3.out.six; obtain ⟨f0, f1, f2, f3, f4, f5⟩ := HX3.out.free6; clear hs1 ht1 hn1)
    refine bodyPost_ret (v := .agg #[.int .i64 0, .string ⟨#[]⟩, .slice none 0 0, .bool false, .string ⟨#[]⟩, .int .i64 0]) ?_ rfl ?_
    ·obtain ⟨s0, s1, s2, s3, s4, s5, _⟩ := (HX3.out.put6 (.int .i64 0) (.string ⟨#[]⟩) (.slice none 0 0) (.bool false) (.string ⟨#[]⟩) (.int .i64 0)).six
     simp [results, Tryz.results59, go_sem, s0, s1, s2, s3, s4, s5]
    ·exact ycw.done HH.out HB2.out HS1.out HT1.out HN1.out HPR.out (yb3 (Touch.refl _ _) (by simp) _ _ _ _ _ _) HB4.out HX2.out.six.2.2.2.2.2.2
  ·have hv2 : s.putE k v = 0 := by unfold HO.putE; rw [if_neg (fun z => z hv), if_neg (fun z => by rw [hb] at z; exact absurd z.1 (by decide))]
   rw [hv2, if_pos rfl]
   have HE0 := Lib.hid (HPE.out hv (fun z => by rw [hb] at z; cases z))
   rw [← HPS.out HE0.out]
   clear hv hv2 hk0 hb HPS
   go_enter Tryz.func59, Tryz.ntmps59
   go_upto_region 1 with fail
   obtain ⟨b4, hb4⟩ : ∃ b4, w.heap.size = b4 := ⟨_, rfl⟩
   have HB4 : Hid (w.heap.size ≤ b4) := Nat.le_of_eq hb4
   rw [hb4] at hx
   obtain ⟨w0, hw0⟩ : ∃ w0, w.alloc (.cells tz 47) = w0 := ⟨_, rfl⟩
   rw [hw0] at B0 hx h1 C1 c4 ⊢
   try rw [hb4]
   clear hw0 hb4
   have HB0 := Lib.hid B0
   have HX0 := Lib.hid hx
   have H0 := Lib.hid h1
   have HL4 : Hid (b4 < w0.heap.size) := hx.six.2.2.2.2.2.2
   have HNF : Hid (b4 ∉ Fs) := fun z => by have := HH.out.shelf.ltF b4 z; have := HB4.out; omega
   clear B0 hx h1
   go_wp2_with first | (go_at_call 136; (with_reducible refine (CV.out _).mono ?_); rintro e w9 ⟨rfl, rfl⟩) | (go_at_call 135; (with_reducible refine (C1.out).mono ?_); rintro e w1 ⟨rfl, hb1⟩; have HB1 := Lib.hid (acc HB0.out hb1); have HX1 := Lib.hid (HX0.out.below hb1); have H1 := Lib.hid (H0.out.below hb1); have c41 := H1.out.c4; obtain ⟨z0, z1, z2, z3, z4, z5, zl⟩ := HX1.out.six; obtain ⟨f0, f1, f2, f3, f4, f5⟩ := HX1.out.free6; clear hb1) | (go_at_call 138; (with_reducible refine (HQ.out H1.out.shelf HE0.out).mono ?_); rintro e w3 ⟨rfl, Fs1, hs1, ht1, hn1⟩; have HX3 := Lib.hid (HX1.out.touch ht1 HNF.out); have HS1 := Lib.hid hs1; have HT1 := Lib.hid ht1; have HN1 := Lib.hid hn1; obtain ⟨z0, z1, z2, z3, z4, z5, zl⟩ := HX3.out.six; obtain ⟨f0, f1, f2, f3, f4, f5⟩ := HX3.out.free6; clear hs1 ht1 hn1)
   refine bodyPost_ret (v := .agg #[.int .i64 0, .string ⟨#[]⟩, .slice none 0 0, .bool false, .string ⟨#[]⟩, .int .i64 0]) ?_ rfl ?_
   ·obtain ⟨s0, s1, s2, s3, s4, s5, _⟩ := (HX3.out.put6 (.int .i64 0) (.string ⟨#[]⟩) (.slice none 0 0) (.bool false) (.string ⟨#[]⟩) (.int .i64 0)).six
    simp [results, Tryz.results59, go_sem, s0, s1, s2, s3, s4, s5]
   ·exact ycw.done HH.out HB1.out HS1.out HT1.out HN1.out HPR.out (yb3 (Touch.refl _ _) (by simp) _ _ _ _ _ _) HB4.out HX1.out.six.2.2.2.2.2.2
abbrev a20 (x : Nat) : Array Value := #[.int .u64 (x : Nat), .int .u64 0]
theorem yzc {w : World} {g sp : Nat} {s : HO} {l : List AO} {S : Value} {Fs Fg : List Nat} (x : Nat) (hx : x < 18446744073709551616) (hox : s.own x ≠ none) (hnf : s.g.frozen x = false) (hk : s.k ≤ 1000) (h : HM w g s l S sp Fs Fg) : Calls Tryz.prog 141 #[.pointer (some ⟨g, 0, none⟩), .int .u64 (x : Nat)] w fun e w' =>
  (∃ stop, Upto s x stop ∧ e = .returned (.int .u64 (stop % 18446744073709551616 : Nat))) ∧ Below w.heap.size w w' := by
 obtain ⟨A, c, rfl, hq1, hq2⟩ := h.row.shape
 clear hq1 hq2
 have B0 : Below w.heap.size w (w.alloc (.cells (a20 x) 25)) := (Below.refl _ _).alloc (Nat.le_refl _) _
 have hx5 := Bx.new w (a20 x) 25
 have h1 := h.below B0
 have C1 := Lib.hid (Gi.gateArc_any h1.gate)
 have HH := Lib.hid h
 have hft : s.g.f < 18446744073709551616 ∧ s.g.t < 18446744073709551616 := by
  obtain ⟨_, _, z, _⟩ := h.gate
  exact ⟨z.b.1, z.b.2.1⟩
 have CF0 : Hid (∀ (w' : World) (T : Nat), T < 18446744073709551616 → HM w' g s l (.slice A l.length c) sp Fs Fg → Calls Tryz.prog 104 #[.pointer (some ⟨g, 0, none⟩), .agg (a2 x T)] w' (yfu w' s.own x T)) := fun w' T hT h' =>
  ym8 l s.nd s.own x T g A c l.length w' h'.row h'.c3 (by have := h'.few; omega) h'.ol hx hT
 have hfz : ∀ y, s.g.frozen y = (s.g.shut && inB s.g.f s.g.t y) := fun _ => rfl
 have CS0 := yjx x 0 s.g.f
 have hsp := fun hn => yy4 (x := x) hft.1 hft.2 hx hn
 obtain ⟨f, hf⟩ : ∃ f, s.g.f = f := ⟨_, rfl⟩
 obtain ⟨t, ht⟩ : ∃ t, s.g.t = t := ⟨_, rfl⟩
 obtain ⟨b, hb⟩ : ∃ b, s.g.shut = b := ⟨_, rfl⟩
 have hinf : f < 18446744073709551616 → x < f → s.g.shut = true → s.g.frozen f = true := fun z1 z2 z3 => by
  rw [hfz, z3, Bool.true_and, hf, ht, yay]
  have := yaf z1 z1
  have := yaf (ht ▸ hft.2) z1
  omega
 rw [hf, ht] at hsp hft
 rw [hf] at CS0
 simp only [hf, ht, hb] at hfz C1 hinf
 rw [hfz] at hnf
 clear hk h hf ht hb
 obtain ⟨b5, hb5⟩ : ∃ b5, w.heap.size = b5 := ⟨_, rfl⟩
 have HB5 : Hid (w.heap.size ≤ b5) := Nat.le_of_eq hb5
 cases b
 ·have HU : Hid (∀ to_ e all, Followed s.own x 0 to_ e all → ∃ stop, Upto s x stop ∧ to_ = stop % 18446744073709551616) := fun to_ e all hF => ykv hx (by decide) (.inl ⟨rfl, rfl⟩) hox (fun y _ _ => hfz y) (fun z => absurd z (Nat.lt_irrefl _)) hF
  have CF : Hid (∀ (w' : World), HM w' g s l (.slice A l.length c) sp Fs Fg → Calls Tryz.prog 104 #[.pointer (some ⟨g, 0, none⟩), .agg (a20 x)] w' (yfu w' s.own x 0)) := fun w' h' => CF0.out w' 0 (by decide) h'
  clear hsp CS0 hfz hinf hox hnf
  go_enter Tryz.func141, Tryz.ntmps141
  go_upto_region 2 with fail
  rw [hb5] at hx5
  obtain ⟨w0, hw0⟩ : ∃ w0, w.alloc (.cells (a20 x) 25) = w0 := ⟨_, rfl⟩
  rw [hw0] at B0 hx5 h1 C1 ⊢
  try rw [hb5]
  clear hw0 hb5
  have HB0 := Lib.hid B0
  have HX0 := Lib.hid hx5
  have H0 := Lib.hid h1
  clear B0 hx5 h1
  go_upto_region 3 with (go_at_call 103; (with_reducible refine (C1.out).mono ?_); rintro e w1 ⟨rfl, hb1⟩; have HB1 := Lib.hid (acc HB0.out hb1); have HX1 := Lib.hid (HX0.out.below hb1); have H1 := Lib.hid (H0.out.below hb1); have hz1 := HX1.out.two.2.2; clear hb1)
  have HB2 := Lib.hid (HB1.out.alloc HB1.out.size (.cells (a2 f t) 25))
  have HX2 := Lib.hid (HX1.out.old (.cells (a2 f t) 25))
  have HX6 := Lib.hid (Bx.new w1 (a2 f t) 25)
  have H2 := Lib.hid (H1.out.below ((Below.refl w1.heap.size w1).alloc (Nat.le_refl _) (.cells (a2 f t) 25)))
  obtain ⟨b6, hb6⟩ : ∃ b6, w1.heap.size = b6 := ⟨_, rfl⟩
  rw [hb6] at HX6
  obtain ⟨w2, hw2⟩ : ∃ w2, w1.alloc (.cells (a2 f t) 25) = w2 := ⟨_, rfl⟩
  rw [hw2] at HB2 HX2 HX6 H2 ⊢
  try rw [hb6]
  clear hw2 hb6
  obtain ⟨x0, x1, x2⟩ := HX2.out.two
  obtain ⟨y0, y1, y2⟩ := HX6.out.two
  go_wp2_with (go_at_call 104; (with_reducible refine (CF.out _ H2.out).mono ?_); rintro e w9 ⟨to_, ep, all, rfl, hF, hb9⟩; have HFO := Lib.hid hF; have HB9 := Lib.hid (acc HB2.out hb9); clear hF hb9)
  go_ret
  obtain ⟨stop, hu, rfl⟩ := HU.out _ _ _ HFO.out
  exact ⟨⟨stop, hu, rfl⟩, HB9.out⟩
 ·simp only [Bool.true_and] at hnf hfz
  obtain ⟨ok, hok⟩ : ∃ ok, mayC x 0 f = ok := ⟨_, rfl⟩
  have hok2 : mayB x 0 f = ok := hok
  rw [hok2] at CS0
  cases ok
  ·have HU : Hid (∀ to_ e all, Followed s.own x 0 to_ e all → ∃ stop, Upto s x stop ∧ to_ = stop % 18446744073709551616) := fun to_ e all hF => ykv hx (by decide) (.inl ⟨rfl, rfl⟩) hox (fun y z1 z2 => by rw [hfz]; exact (hsp hnf).2 hok y z1 z2) (fun z => absurd z (Nat.lt_irrefl _)) hF
   have CF : Hid (∀ (w' : World), HM w' g s l (.slice A l.length c) sp Fs Fg → Calls Tryz.prog 104 #[.pointer (some ⟨g, 0, none⟩), .agg (a20 x)] w' (yfu w' s.own x 0)) := fun w' h' => CF0.out w' 0 (by decide) h'
   have CS : Hid (∀ W, Calls Tryz.prog 162 #[.agg (a20 x), .int .u64 (f : Nat)] W fun e w' => e = .returned (.tuple #[.agg #[.int .u64 0, .int .u64 0], .agg #[.int .u64 0, .int .u64 0], .bool false]) ∧ Below W.heap.size W w') := fun W => CS0 W hx (by decide) hft.1
   clear hsp CS0 hfz hinf hox hnf hok hok2
   go_enter Tryz.func141, Tryz.ntmps141
   go_upto_region 2 with fail
   rw [hb5] at hx5
   obtain ⟨w0, hw0⟩ : ∃ w0, w.alloc (.cells (a20 x) 25) = w0 := ⟨_, rfl⟩
   rw [hw0] at B0 hx5 h1 C1 ⊢
   try rw [hb5]
   clear hw0 hb5
   have HB0 := Lib.hid B0
   have HX0 := Lib.hid hx5
   have H0 := Lib.hid h1
   clear B0 hx5 h1
   go_upto_region 3 with (go_at_call 103; (with_reducible refine (C1.out).mono ?_); rintro e w1 ⟨rfl, hb1⟩; have HB1 := Lib.hid (acc HB0.out hb1); have HX1 := Lib.hid (HX0.out.below hb1); have H1 := Lib.hid (H0.out.below hb1); have hz1 := HX1.out.two.2.2; clear hb1)
   have HB2 := Lib.hid (HB1.out.alloc HB1.out.size (.cells (a2 f t) 25))
   have HX2 := Lib.hid (HX1.out.old (.cells (a2 f t) 25))
   have HX6 := Lib.hid (Bx.new w1 (a2 f t) 25)
   have H2 := Lib.hid (H1.out.below ((Below.refl w1.heap.size w1).alloc (Nat.le_refl _) (.cells (a2 f t) 25)))
   obtain ⟨b6, hb6⟩ : ∃ b6, w1.heap.size = b6 := ⟨_, rfl⟩
   rw [hb6] at HX6
   obtain ⟨w2, hw2⟩ : ∃ w2, w1.alloc (.cells (a2 f t) 25) = w2 := ⟨_, rfl⟩
   rw [hw2] at HB2 HX2 HX6 H2 ⊢
   try rw [hb6]
   clear hw2 hb6
   obtain ⟨x0, x1, x2⟩ := HX2.out.two
   obtain ⟨y0, y1, y2⟩ := HX6.out.two
   go_upto_region 5 with (go_at_call 162; (with_reducible refine (CS.out _).mono ?_); rintro e w3 ⟨rfl, hb3⟩; have HB3 := Lib.hid (acc HB2.out hb3); have HX3 := Lib.hid (HX2.out.below hb3); have H3 := Lib.hid (H2.out.below hb3); clear hb3)
   clear x0 x1 x2 y0 y1 y2
   have HB4 := Lib.hid ((HB3.out.alloc HB3.out.size (.cells #[.int .u64 0, .int .u64 0] 25)).alloc (by have := HB3.out.size; simp; omega) (.cells #[.int .u64 0, .int .u64 0] 25))
   have HX4 := Lib.hid ((HX3.out.old (.cells #[.int .u64 0, .int .u64 0] 25)).old (.cells #[.int .u64 0, .int .u64 0] 25))
   have HX8 := Lib.hid ((Bx.new w3 #[.int .u64 0, .int .u64 0] 25).old (.cells #[.int .u64 0, .int .u64 0] 25))
   have H4 := Lib.hid (H3.out.below (((Below.refl w3.heap.size w3).alloc (Nat.le_refl _) (.cells #[.int .u64 0, .int .u64 0] 25)).alloc (by simp) (.cells #[.int .u64 0, .int .u64 0] 25)))
   obtain ⟨b8, hb8⟩ : ∃ b8, w3.heap.size = b8 := ⟨_, rfl⟩
   rw [hb8] at HX8
   obtain ⟨w4, hw4⟩ : ∃ w4, (w3.alloc (.cells #[.int .u64 0, .int .u64 0] 25)).alloc (.cells #[.int .u64 0, .int .u64 0] 25) = w4 := ⟨_, rfl⟩
   rw [hw4] at HB4 HX4 HX8 H4 ⊢
   try rw [hb8]
   clear hw4 hb8
   obtain ⟨x0, x1, x2⟩ := HX4.out.two
   go_wp2_with (go_at_call 104; (with_reducible refine (CF.out _ H4.out).mono ?_); rintro e w9 ⟨to_, ep, all, rfl, hF, hb9⟩; have HFO := Lib.hid hF; have HB9 := Lib.hid (acc HB4.out hb9); clear hF hb9)
   go_ret
   obtain ⟨stop, hu, rfl⟩ := HU.out _ _ _ HFO.out
   exact ⟨⟨stop, hu, rfl⟩, HB9.out⟩
  ·have hxf := ((hsp hnf).1 hok).1
   have HU : Hid (∀ to_ e all, Followed s.own x f to_ e all → ∃ stop, Upto s x stop ∧ to_ = stop % 18446744073709551616) := fun to_ e all hF => ykv hx hft.1 (.inr ⟨hxf, rfl⟩) hox (fun y z1 z2 => by rw [hfz]; exact ((hsp hnf).1 hok).2 y z1 z2) (fun _ => hinf hft.1 hxf rfl) hF
   have CF : Hid (∀ (w' : World), HM w' g s l (.slice A l.length c) sp Fs Fg → Calls Tryz.prog 104 #[.pointer (some ⟨g, 0, none⟩), .agg (a2 x f)] w' (yfu w' s.own x f)) := fun w' h' => CF0.out w' f hft.1 h'
   have CS : Hid (∀ W, Calls Tryz.prog 162 #[.agg (a20 x), .int .u64 (f : Nat)] W fun e w' => e = .returned (.tuple #[.agg (a2 x f), .agg #[.int .u64 (f : Nat), .int .u64 0], .bool true]) ∧ Below W.heap.size W w') := fun W => CS0 W hx (by decide) hft.1
   clear hsp CS0 hfz hinf hox hnf hok hok2
   go_enter Tryz.func141, Tryz.ntmps141
   go_upto_region 2 with fail
   rw [hb5] at hx5
   obtain ⟨w0, hw0⟩ : ∃ w0, w.alloc (.cells (a20 x) 25) = w0 := ⟨_, rfl⟩
   rw [hw0] at B0 hx5 h1 C1 ⊢
   try rw [hb5]
   clear hw0 hb5
   have HB0 := Lib.hid B0
   have HX0 := Lib.hid hx5
   have H0 := Lib.hid h1
   clear B0 hx5 h1
   go_upto_region 3 with (go_at_call 103; (with_reducible refine (C1.out).mono ?_); rintro e w1 ⟨rfl, hb1⟩; have HB1 := Lib.hid (acc HB0.out hb1); have HX1 := Lib.hid (HX0.out.below hb1); have H1 := Lib.hid (H0.out.below hb1); have hz1 := HX1.out.two.2.2; clear hb1)
   have HB2 := Lib.hid (HB1.out.alloc HB1.out.size (.cells (a2 f t) 25))
   have HX2 := Lib.hid (HX1.out.old (.cells (a2 f t) 25))
   have HX6 := Lib.hid (Bx.new w1 (a2 f t) 25)
   have H2 := Lib.hid (H1.out.below ((Below.refl w1.heap.size w1).alloc (Nat.le_refl _) (.cells (a2 f t) 25)))
   obtain ⟨b6, hb6⟩ : ∃ b6, w1.heap.size = b6 := ⟨_, rfl⟩
   rw [hb6] at HX6
   obtain ⟨w2, hw2⟩ : ∃ w2, w1.alloc (.cells (a2 f t) 25) = w2 := ⟨_, rfl⟩
   rw [hw2] at HB2 HX2 HX6 H2 ⊢
   try rw [hb6]
   clear hw2 hb6
   obtain ⟨x0, x1, x2⟩ := HX2.out.two
   obtain ⟨y0, y1, y2⟩ := HX6.out.two
   go_upto_region 5 with (go_at_call 162; (with_reducible refine (CS.out _).mono ?_); rintro e w3 ⟨rfl, hb3⟩; have HB3 := Lib.hid (acc HB2.out hb3); have HX3 := Lib.hid (HX2.out.below hb3); have H3 := Lib.hid (H2.out.below hb3); clear hb3)
   clear x0 x1 x2 y0 y1 y2
   have HB4 := Lib.hid ((HB3.out.alloc HB3.out.size (.cells (a2 x f) 25)).alloc (by have := HB3.out.size; simp; omega) (.cells #[.int .u64 (f : Nat), .int .u64 0] 25))
   have HX4 := Lib.hid ((HX3.out.old (.cells (a2 x f) 25)).old (.cells #[.int .u64 (f : Nat), .int .u64 0] 25))
   have HX8 := Lib.hid ((Bx.new w3 (a2 x f) 25).old (.cells #[.int .u64 (f : Nat), .int .u64 0] 25))
   have H4 := Lib.hid (H3.out.below (((Below.refl w3.heap.size w3).alloc (Nat.le_refl _) (.cells (a2 x f) 25)).alloc (by simp) (.cells #[.int .u64 (f : Nat), .int .u64 0] 25)))
   obtain ⟨b8, hb8⟩ : ∃ b8, w3.heap.size = b8 := ⟨_, rfl⟩
   rw [hb8] at HX8
   obtain ⟨w4, hw4⟩ : ∃ w4, (w3.alloc (.cells (a2 x f) 25)).alloc (.cells #[.int .u64 (f : Nat), .int .u64 0] 25) = w4 := ⟨_, rfl⟩
   rw [hw4] at HB4 HX4 HX8 H4 ⊢
   try rw [hb8]
   clear hw4 hb8
   obtain ⟨x0, x1, x2⟩ := HX4.out.two
   obtain ⟨y0, y1, y2⟩ := HX8.out.two
   have f50 := HX4.out.free 0
   have f51 := HX4.out.free 1
   go_upto_region 7 with fail
   clear x0 x1 x2 y0 y1 y2 f50 f51
   have HX5 := Lib.hid (yb6 (yb6 HX4.out 0 (.int .u64 (x : Nat))) 1 (.int .u64 (f : Nat)))
   have HB5' := Lib.hid (yan (yan HB4.out HB5.out 0 (.int .u64 (x : Nat))) HB5.out 1 (.int .u64 (f : Nat)))
   have H5 := Lib.hid (H4.out.touch (((Touch.refl [b5] w4).set (.inl (by simp)) (.int .u64 (x : Nat)) (p := ⟨b5, 0, none⟩)).set (.inl (by simp)) (.int .u64 (f : Nat)) (p := ⟨b5, 1, none⟩)) (fun q hq z => by have e := List.mem_singleton.1 z; have := HH.out.all_lt q hq; have := HB5.out; omega))
   obtain ⟨w5, hw5⟩ : ∃ w5, (w4.setCell ⟨b5, 0, none⟩ (.int .u64 (x : Nat))).setCell ⟨b5, 1, none⟩ (.int .u64 (f : Nat)) = w5 := ⟨_, rfl⟩
   rw [hw5] at HX5 HB5' H5 ⊢
   clear hw5
   obtain ⟨x0, x1, x2⟩ := HX5.out.two
   go_wp2_with (go_at_call 104; (with_reducible refine (CF.out _ H5.out).mono ?_); rintro e w9 ⟨to_, ep, all, rfl, hF, hb9⟩; have HFO := Lib.hid hF; have HB9 := Lib.hid (acc HB5'.out hb9); clear hF hb9)
   go_ret
   obtain ⟨stop, hu, rfl⟩ := HU.out _ _ _ HFO.out
   exact ⟨⟨stop, hu, rfl⟩, HB9.out⟩
end Go.Proofs.YtnjodhglbapnlaaGreat
