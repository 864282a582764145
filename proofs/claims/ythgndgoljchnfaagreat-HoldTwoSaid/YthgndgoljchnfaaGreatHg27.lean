/-
  Several Puts one behind the other, up to the first error (putsE, putsS); cut.put and cut.In over ShelfLaws.
  Plain facts of parts of a shelf: what Out takes and leaves, what In makes of it. No program is named here.
-/
import Derived.Test.YthgndgoljchnfaaGreatHg26
import Derived.Test.YthgndgoljchnfaaGreatHg15
namespace Go.Proofs.YthgndgoljchnfaaGreat
open Go.RowKit

/-- what several Puts answer: the first error -/
def putsE (most : Int) : List Item → List Item → Int
  | _, [] => 0
  | l, x :: ms => if putE most l x.1 x.2 = 0 then putsE most (putS most l x.1 x.2) ms else putE most l x.1 x.2
/-- what is there behind them -/
def putsS (most : Int) : List Item → List Item → List Item
  | l, [] => l
  | l, x :: ms => if putE most l x.1 x.2 = 0 then putsS most (putS most l x.1 x.2) ms else l
/-- .. all of them, or none -/
def inS (most : Int) (l ms : List Item) : List Item := if putsE most l ms = 0 then putsS most l ms else l
theorem puts_append (most : Int) : ∀ (a b l : List Item), putsE most l (a ++ b) = (if putsE most l a = 0 then putsE most (putsS most l a) b else putsE most l a) ∧
    (putsE most l a = 0 → putsS most l (a ++ b) = putsS most (putsS most l a) b) ∧ (putsE most l a ≠ 0 → putsS most l (a ++ b) = putsS most l a)
  | [], b, l => ⟨by simp [putsE, putsS], fun _ => by simp [putsS], fun z => absurd rfl z⟩
  | x :: a, b, l => by
    have ih := puts_append most a b (putS most l x.1 x.2)
    rw [List.cons_append, putsE, putsE, putsS, putsS]
    by_cases h : putE most l x.1 x.2 = 0
    · simp only [if_pos h]
      exact ih
    · simp only [if_neg h]
      exact ⟨trivial, fun z => absurd z h, fun _ => trivial⟩
theorem puts_step {most : Int} {l ms : List Item} {i : Nat} (h : i < ms.length) (h0 : putsE most l (ms.take i) = 0) (h1 : putE most (putsS most l (ms.take i)) (ms[i]).1 (ms[i]).2 = 0) :
    putsE most l (ms.take (i + 1)) = 0 ∧ putsS most l (ms.take (i + 1)) = putS most (putsS most l (ms.take i)) (ms[i]).1 (ms[i]).2 := by
  obtain ⟨a, b, _⟩ := puts_append most (ms.take i) [ms[i]] l
  rw [List.take_add_one, List.getElem?_eq_getElem h]
  refine ⟨?_, ?_⟩
  · show putsE most l (ms.take i ++ [ms[i]]) = 0
    rw [a, if_pos h0, putsE, if_pos h1]
    rfl
  · show putsS most l (ms.take i ++ [ms[i]]) = _
    rw [b h0, putsS, if_pos h1]
    rfl
theorem puts_stop {most : Int} {l ms : List Item} {i : Nat} (h : i < ms.length) (h0 : putsE most l (ms.take i) = 0) (h1 : putE most (putsS most l (ms.take i)) (ms[i]).1 (ms[i]).2 ≠ 0) :
    putsE most l ms = putE most (putsS most l (ms.take i)) (ms[i]).1 (ms[i]).2 ∧ putsS most l ms = putsS most l (ms.take i) := by
  obtain ⟨a, b, _⟩ := puts_append most (ms.take i) (ms[i] :: ms.drop (i + 1)) l
  have e : ms = ms.take i ++ ms[i] :: ms.drop (i + 1) := by
    rw [← List.drop_eq_getElem_cons h, List.take_append_drop]
  rw [← e] at a b
  refine ⟨?_, ?_⟩
  · rw [a, if_pos h0, putsE, if_neg h1]
  · rw [b h0, putsS, if_neg h1]

/-- behind W a shelf has l: it wrote blocks of F, and new ones -/
def CP (SH : World → Nat → Int → List Item → List Nat → Prop) (W w : World) (F : List Nat) (g : Nat) (most : Int) (l : List Item) : Prop :=
  Touch F W w ∧ ∃ F', SH w g most l F' ∧ ∀ q ∈ F', q ∈ F ∨ W.heap.size ≤ q
/-- a list of items whose cells lie in none of F -/
def RowOut (W : World) (F : List Nat) (A : Option Addr) (zs : List Item) : Prop :=
  ∃ b off, ∀ i (h : i < zs.length), A = some ⟨b, off, none⟩ ∧ b < W.heap.size ∧ b ∉ F ∧ W.cell? ⟨b, off + i * 2, none⟩ = some (.string (zs[i]).1) ∧ W.cell? ⟨b, off + i * 2 + 1, none⟩ = some (.string (zs[i]).2)
theorem RowOut.touch {W w : World} {F G : List Nat} {A : Option Addr} {zs : List Item} (h : RowOut W F A zs) (t : Touch F W w) (hG : ∀ q ∈ G, q ∈ F ∨ W.heap.size ≤ q) : RowOut w G A zs := by
  obtain ⟨b, off, h⟩ := h
  refine ⟨b, off, fun i hi => ?_⟩
  obtain ⟨a1, a2, a3, a4, a5⟩ := h i hi
  refine ⟨a1, Nat.lt_of_lt_of_le a2 t.size, fun z => ?_, (t.cell (p := ⟨b, off + i * 2, none⟩) a2 a3).trans a4, (t.cell (p := ⟨b, off + i * 2 + 1, none⟩) a2 a3).trans a5⟩
  rcases hG b z with y | y
  · exact a3 y
  · omega
section
variable {SH : World → Nat → Int → List Item → List Nat → Prop} {W w w1 : World} {F : List Nat} {g : Nat} {most : Int} {l : List Item}
theorem CP.start (h : SH W g most l F) : CP SH W W F g most l := ⟨Touch.refl _ _, F, h, fun _ hq => .inl hq⟩
theorem CP.below (L : ShelfLaws SH) (h : CP SH W w F g most l) (hb : Below w.heap.size w w1) : CP SH W w1 F g most l := by
  obtain ⟨a, F', b, c⟩ := h
  exact ⟨a.trans (Touch.ofBelow (F := []) hb) (by simp), F', L.touch b (Touch.ofBelow (F := []) hb) (by simp), c⟩
theorem CP.put (L : ShelfLaws SH) (h : CP SH W w F g most l) (k v : ByteArray) (hk : k.size ≤ maxLen) (hv : v.size ≤ maxLen) {r : Int} {l' : List Item} (hr : putE most l k v = r) (hl : putS most l k v = l') :
    Calls Tryz.prog 75 #[.pointer (some ⟨g, 0, none⟩), .string k, .string v] w fun e w' => e = .returned (.int .i64 r) ∧ CP SH W w' F g most l' := by
  obtain ⟨a, F', b, c⟩ := h
  refine (L.put k v b hk hv).mono ?_
  rintro e w' ⟨rfl, F2, h4, h5, h6⟩
  rw [hl] at h4
  refine ⟨by rw [hr], a.trans h5 c, F2, h4, fun q hq => ?_⟩
  rcases h6 q hq with z | z
  · exact c q z
  · exact .inr (Nat.le_trans a.size z)
/-- one behind the other -/
theorem CP.trans {l2 : List Item} {F' : List Nat} (t : Touch F W w) (hc : ∀ q ∈ F', q ∈ F ∨ W.heap.size ≤ q) (h : CP SH w w1 F' g most l2) : CP SH W w1 F g most l2 := by
  obtain ⟨a, F2, b, c⟩ := h
  refine ⟨t.trans a hc, F2, b, fun q hq => ?_⟩
  rcases c q hq with z | z
  · exact hc q z
  · exact .inr (Nat.le_trans t.size z)
end

set_option maxRecDepth 100000 in
set_option maxHeartbeats 4000000 in
theorem cutPut_any {SH : World → Nat → Int → List Item → List Nat → Prop} (L : ShelfLaws SH) {W : World} {g : Nat} {most : Int} {l : List Item} {F : List Nat} (h : SH W g most l F) (A : Option Addr) (c : Nat) (ms : List Item)
    (hA : RowOut W F A ms) (hm : ms.length ≤ 9223372036854775807) (hs : ∀ x ∈ ms, x.1.size ≤ maxLen ∧ x.2.size ≤ maxLen) :
    Calls Tryz.prog 83 #[.pointer (some ⟨g, 0, none⟩), .slice A ms.length c] W fun e w' => e = .returned (.int .i64 (putsE most l ms)) ∧ CP SH W w' F g most (putsS most l ms) := by
  have HL : Hid (ShelfLaws SH) := L
  have HA := Lib.hid hA
  have HS := Lib.hid hs
  obtain ⟨n, hn⟩ : ∃ n, ms.length = n := ⟨_, rfl⟩
  have HN := Lib.hid hn
  rw [hn] at hm ⊢
  have H0 := Lib.hid (CP.start h)
  clear hA hs hn h L
  go_enter Tryz.func83, Tryz.ntmps83
  go_wp2_with fail
  go_loopg [10] (n + 1) (fun gh s10 wx => ∃ i : Nat, i + gh = n + 1 ∧ i ≤ n ∧ s10 = .int .i64 (i : Nat) ∧ Hid (putsE most l (ms.take i) = 0) ∧ Hid (CP SH W wx F g most (putsS most l (ms.take i))))
  case atStart => exact ⟨0, by omega, by omega, rfl, rfl, H0.out⟩
  case round =>
    obtain ⟨i, hig, hi, rfl, HE, HC⟩ := hrel
    by_cases hlt : i < n
    · have hiz : i < ms.length := by rw [HN.out]; exact hlt
      obtain ⟨b, off, hcell⟩ := HA.out
      obtain ⟨rfl, hbW, hbF, q0, q1⟩ := hcell i hiz
      have hst := puts_step (most := most) (l := l) hiz HE.out
      have hsp := puts_stop (most := most) (l := l) hiz HE.out
      have hsz := HS.out _ (List.getElem_mem hiz)
      obtain ⟨x, hx⟩ : ∃ x, ms[i] = x := ⟨_, rfl⟩
      rw [hx] at q0 q1 hst hsp hsz
      obtain ⟨k, v⟩ := x
      obtain ⟨li, hli⟩ : ∃ li, putsS most l (ms.take i) = li := ⟨_, rfl⟩
      rw [hli] at HC hst hsp
      have c0 := (HC.out.1.cell (p := ⟨b, off + i * 2, none⟩) hbW hbF).trans q0
      have c1 := (HC.out.1.cell (p := ⟨b, off + i * 2 + 1, none⟩) hbW hbF).trans q1
      dsimp only at c0 c1 hst hsp hsz
      obtain ⟨r, hr⟩ : ∃ r, putE most li k v = r := ⟨_, rfl⟩
      obtain ⟨l', hl'⟩ : ∃ l', putS most li k v = l' := ⟨_, rfl⟩
      have P1 : Hid (∀ o, Calls Tryz.prog 75 #[.pointer (some ⟨g, 0, none⟩), .string k, .string v] (wr.alloc o) fun e w' => e = .returned (.int .i64 r) ∧ CP SH W w' F g most l') :=
        fun o => (HC.out.below HL.out ((Below.refl _ _).alloc (Nat.le_refl _) o)).put HL.out k v hsz.1 hsz.2 hr hl'
      rw [hr, hl'] at hst
      rw [hr] at hsp
      by_cases hz : r = 0
      · have HST := Lib.hid (hst hz)
        subst hz
        clear hcell hx hiz hli hst hsp q0 q1 hsz hr hl'
        go_wp2_with (go_at_call 75; (with_reducible refine (P1.out _).mono ?_); rintro e w2 ⟨rfl, h2⟩; have H2 := Lib.hid h2; clear h2)
        go_roundg (gk - 1)
        case measure => omega
        case rel => exact ⟨i + 1, by omega, by omega, by go_num, HST.out.1, by rw [HST.out.2]; exact H2.out⟩
      · have HSP := Lib.hid (hsp hz)
        have hb : (r != 0) = true := by rw [bne_iff_ne]; exact hz
        have HLI : Hid (putS most li k v = li) := by
          show putS most li k v = li
          rw [putS, if_neg (by rw [hr]; exact hz)]
        have HL' : Hid (l' = li) := hl'.symm.trans HLI.out
        clear hcell hx hiz hli hst hsp q0 q1 hsz hr hl' hz HLI
        go_wp2_with (go_at_call 75; (with_reducible refine (P1.out _).mono ?_); rintro e w2 ⟨rfl, h2⟩; have H2 := Lib.hid h2; clear h2)
        go_ret
        have H3 := H2.out
        rw [HL'.out] at H3
        exact ⟨by rw [HSP.out.1]; rfl, by rw [HSP.out.2]; exact H3⟩
    · obtain rfl : i = n := by omega
      have htk : ms.take i = ms := List.take_of_length_le (by rw [HN.out]; omega)
      rw [htk] at HE HC
      go_wp2_with fail
      go_ret
      exact ⟨by rw [HE.out]; rfl, HC.out⟩

set_option maxRecDepth 100000 in
set_option maxHeartbeats 4000000 in
theorem cutIn_any {SH : World → Nat → Int → List Item → List Nat → Prop} (L : ShelfLaws SH) {W : World} {g : Nat} {most : Int} {l : List Item} {F : List Nat} (h : SH W g most l F) (A : Option Addr) (c : Nat) (ms : List Item)
    (hA : RowOut W F A ms) (hm : ms.length ≤ 9223372036854775807) (hs : ∀ x ∈ ms, x.1.size ≤ maxLen ∧ x.2.size ≤ maxLen) :
    Calls Tryz.prog 48 #[.pointer (some ⟨g, 0, none⟩), .slice A ms.length c] W fun e w' => e = .returned (.int .i64 (putsE most l ms)) ∧ CP SH W w' F g most (inS most l ms) := by
  have C0 := Lib.hid (L.copy h)
  have C1 : Hid (∀ w1 g' F', SH w1 g' most l F' → (∀ q ∈ F', W.heap.size ≤ q) → Below W.heap.size W w1 → Calls Tryz.prog 83 #[.pointer (some ⟨g', 0, none⟩), .slice A ms.length c] w1 fun e w' => e = .returned (.int .i64 (putsE most l ms)) ∧ Below W.heap.size W w') := by
    intro w1 g' F' h1 h2 h3
    refine (cutPut_any L h1 A c ms ?_ hm hs).mono ?_
    · obtain ⟨b, off, hA⟩ := hA
      refine ⟨b, off, fun i hi => ?_⟩
      obtain ⟨a1, a2, a3, a4, a5⟩ := hA i hi
      exact ⟨a1, Nat.lt_of_lt_of_le a2 h3.size, fun z => by have := h2 b z; omega, (h3.cell (p := ⟨b, off + i * 2, none⟩) a2).trans a4, (h3.cell (p := ⟨b, off + i * 2 + 1, none⟩) a2).trans a5⟩
    · rintro e w' ⟨rfl, a, _⟩
      exact ⟨rfl, Touch.acc h3 a h2⟩
  have C2 : Hid (∀ w2, Below W.heap.size W w2 → Calls Tryz.prog 83 #[.pointer (some ⟨g, 0, none⟩), .slice A ms.length c] w2 fun e w' => e = .returned (.int .i64 (putsE most l ms)) ∧ CP SH W w' F g most (putsS most l ms)) := by
    intro w2 h2
    have t : Touch F W w2 := Touch.ofBelow h2
    refine (cutPut_any L (L.touch h (Touch.ofBelow (F := []) h2) (by simp)) A c ms (hA.touch t (fun q hq => .inl hq)) hm hs).mono ?_
    rintro e w' ⟨rfl, a⟩
    exact ⟨rfl, CP.trans t (fun q hq => .inl hq) a⟩
  have H0 : Hid (∀ w', Below W.heap.size W w' → CP SH W w' F g most l) := fun w' hb => CP.below L (CP.start h) hb
  obtain ⟨r, hr⟩ : ∃ r, putsE most l ms = r := ⟨_, rfl⟩
  have HI : Hid (inS most l ms = if r = 0 then putsS most l ms else l) := by
    rw [← hr]; rfl
  rw [hr] at C1 C2 ⊢
  clear hA hs h L hr hm
  by_cases hz : r = 0
  · subst hz
    rw [if_pos rfl] at HI
    go_enter Tryz.func48, Tryz.ntmps48
    go_wp2_with (first
      | (go_at_call 84; (with_reducible refine (C0.out).mono ?_); rintro e w1 ⟨g', F', rfl, h1, h2, h3⟩; have D1 := Lib.hid (C1.out _ _ _ h1 h2 h3); clear h1 h2 h3)
      | (go_at_call 83; (with_reducible refine (D1.out).mono ?_); rintro e w2 ⟨rfl, h2⟩; have D2 := Lib.hid (C2.out _ h2); clear h2 D1)
      | (go_at_call 83; (with_reducible refine (D2.out).mono ?_); rintro e w3 ⟨rfl, h3⟩; have D3 := Lib.hid h3; clear h3 D2))
    go_ret
    exact ⟨rfl, by rw [HI.out]; exact D3.out⟩
  · have hb : (r != 0) = true := by rw [bne_iff_ne]; exact hz
    rw [if_neg hz] at HI
    clear hz C2
    go_enter Tryz.func48, Tryz.ntmps48
    go_wp2_with (first
      | (go_at_call 84; (with_reducible refine (C0.out).mono ?_); rintro e w1 ⟨g', F', rfl, h1, h2, h3⟩; have D1 := Lib.hid (C1.out _ _ _ h1 h2 h3); clear h1 h2 h3)
      | (go_at_call 83; (with_reducible refine (D1.out).mono ?_); rintro e w2 ⟨rfl, h2⟩; have D2 := Lib.hid (H0.out _ h2); clear h2 D1))
    go_ret
    exact ⟨rfl, by rw [HI.out]; exact D2.out⟩
end Go.Proofs.YthgndgoljchnfaaGreat
namespace Go.Proofs.YthgndgoljchnfaaGreat
open Go.RowKit

/-- what is left when those keys were taken away -/
def delsN (l ks : List Item) : List Item := ks.foldl (fun l x => delN l x.1) l
theorem delsN_snoc (l a : List Item) (x : Item) : delsN l (a ++ [x]) = delN (delsN l a) x.1 := by simp [delsN]
theorem delsN_rising : ∀ (ks : List Item) {l : List Item} (_ : Rising l), Rising (delsN l ks)
  | [], _, h => h
  | x :: ks, _, h => delsN_rising ks (h.del x.1)
theorem mem_delsN : ∀ (ks : List Item) {l : List Item} (_ : Rising l) (x : Item), x ∈ delsN l ks ↔ x ∈ l ∧ ∀ k ∈ ks, x.1 ≠ k.1
  | [], l, _, x => by simp [delsN]
  | k :: ks, l, h, x => by
    have z := mem_delsN ks (h.del k.1) x
    rw [mem_delN h] at z
    show x ∈ delsN (delN l k.1) ks ↔ _
    rw [z]
    simp [and_assoc]
/-- what an arc does not have -/
def leftL (l : List Item) (f t : Nat) : List Item := l.filter fun x => !inB f t (adr x)
theorem mem_arcL' {l : List Item} {f t : Nat} {x : Item} : x ∈ arcL l f t ↔ x ∈ l ∧ inB f t (adr x) = true := by
  refine ⟨mem_arcL, fun ⟨h1, h2⟩ => ?_⟩
  unfold arcL inA
  rw [List.mem_append, List.mem_filter, List.mem_filter]
  cases h : decide (f ≤ adr x)
  · exact .inr ⟨h1, by rw [h2]; rfl⟩
  · exact .inl ⟨h1, by rw [h2]; rfl⟩
theorem mem_leftL {l : List Item} {f t : Nat} {x : Item} : x ∈ leftL l f t ↔ x ∈ l ∧ inB f t (adr x) = false := by
  unfold leftL
  rw [List.mem_filter]
  simp
theorem rising_filter {l : List Item} (h : Rising l) (p : Item → Bool) : Rising (l.filter p) := h.filter p
theorem rising_leftL {l : List Item} (h : Rising l) (f t : Nat) : Rising (leftL l f t) := rising_filter h _
theorem rising_key {l : List Item} (h : Rising l) {x y : Item} (hx : x ∈ l) (hy : y ∈ l) (e : x.1 = y.1) : x = y := by
  obtain ⟨i, hi, rfl⟩ := List.getElem_of_mem hx
  obtain ⟨j, hj, rfl⟩ := List.getElem_of_mem hy
  have z := List.pairwise_iff_getElem.1 h
  rcases Nat.lt_trichotomy i j with c | c | c
  · have := z i j hi hj c
    rw [e, lessB_irrefl] at this
    cases this
  · subst c; rfl
  · have := z j i hj hi c
    rw [e, lessB_irrefl] at this
    cases this
theorem adr_key {x y : Item} (e : x.1 = y.1) : adr x = adr y := by unfold adr; rw [e]
theorem delsN_arc {l : List Item} (h : Rising l) (f t : Nat) : delsN l (arcL l f t) = leftL l f t := by
  refine rising_ext (delsN_rising _ h) (rising_leftL h f t) fun x => ?_
  rw [mem_delsN _ h, mem_leftL]
  refine and_congr_right fun hx => ⟨fun z => ?_, fun z k hk e => ?_⟩
  · cases c : inB f t (adr x)
    · rfl
    · exact absurd rfl (z x (mem_arcL'.2 ⟨hx, c⟩))
  · have := (mem_arcL'.1 hk).2
    rw [← adr_key e, z] at this
    cases this
theorem filter_len (p : Item → Bool) : ∀ l : List Item, l.length = (l.filter p).length + (l.filter fun x => !p x).length
  | [] => rfl
  | x :: l => by
    have ih := filter_len p l
    rw [List.length_cons, List.filter_cons, List.filter_cons]
    cases p x
    · rw [if_neg (by simp), if_pos (by simp), List.length_cons]; omega
    · rw [if_pos rfl, if_neg (by simp), List.length_cons]; omega
theorem arcL_count (l : List Item) (f t : Nat) : (arcL l f t).length + (leftL l f t).length = l.length := by
  have h1 := filter_len (fun x => inB f t (adr x)) l
  have h2 := filter_len (fun x => decide (f ≤ adr x)) (l.filter (fun x => inB f t (adr x)))
  rw [List.filter_filter, List.filter_filter] at h2
  have e1 : (fun x => decide (f ≤ adr x) && inB f t (adr x)) = inA f t false := by
    funext x
    unfold inA
    cases inB f t (adr x) <;> cases decide (f ≤ adr x) <;> rfl
  have e2 : (fun x => !decide (f ≤ adr x) && inB f t (adr x)) = inA f t true := by
    funext x
    unfold inA
    cases inB f t (adr x) <;> cases decide (f ≤ adr x) <;> rfl
  rw [e1, e2] at h2
  unfold arcL leftL
  rw [List.length_append]
  omega
theorem arcL_nodup {l : List Item} (h : Rising l) (f t : Nat) : (arcL l f t).Pairwise fun x y => x.1 ≠ y.1 := by
  unfold arcL
  have hne : ∀ p : Item → Bool, (l.filter p).Pairwise fun x y => x.1 ≠ y.1 := fun p => (rising_filter h p).imp (fun z e => by rw [e, lessB_irrefl] at z; cases z)
  refine List.pairwise_append.2 ⟨hne _, hne _, fun x hx y hy e => ?_⟩
  obtain ⟨x1, x2⟩ := List.mem_filter.1 hx
  obtain ⟨y1, y2⟩ := List.mem_filter.1 hy
  have := rising_key h x1 y1 e
  subst this
  unfold inA at x2 y2
  cases c : inB f t (adr x) <;> cases d : decide (f ≤ adr x) <;> rw [c, d] at x2 y2 <;> simp at x2 y2

/-- items that may be -/
def Right (l : List Item) : Prop := ∀ x ∈ l, rightN x.1 = 0 ∧ valueN x.2 = 0
theorem Right.arc {l : List Item} (h : Right l) (f t : Nat) : Right (arcL l f t) := fun x hx => h x (mem_arcL'.1 hx).1
theorem putE_right {most : Int} {l : List Item} {k v : ByteArray} (h : putE most l k v = 0) : rightN k = 0 ∧ valueN v = 0 := by
  unfold putE at h
  by_cases h1 : rightN k = 0
  · by_cases h2 : valueN v = 0
    · exact ⟨h1, h2⟩
    · rw [if_neg (by simp [h1]), if_pos h2] at h
      exact absurd h h2
  · rw [if_pos h1] at h
    exact absurd h h1
theorem putE_new {most : Int} {l : List Item} {k v : ByteArray} (hr : rightN k = 0 ∧ valueN v = 0) (hn : hasN l k = false) : putE most l k v = if most ≤ l.length then 5 else 0 := by
  unfold putE
  rw [if_neg (by simp [hr.1]), if_neg (by simp [hr.2])]
  by_cases h : most ≤ l.length
  · rw [if_pos ⟨hn, h⟩, if_pos h]
  · rw [if_neg (fun z => h z.2), if_neg h]
theorem hasN_none {l : List Item} (h : Rising l) {k : ByteArray} (hn : ∀ y ∈ l, y.1 ≠ k) : hasN l k = false := by
  cases c : hasN l k
  · rfl
  · obtain ⟨x, hx, e⟩ := (hasN_iff h k).1 c
    exact absurd e (hn x hx)
/-- new keys, one behind the other -/
theorem puts_new (most : Int) : ∀ (ms : List Item) {l : List Item} (_ : Rising l) (_ : ms.Pairwise fun x y => x.1 ≠ y.1) (_ : Right ms) (_ : ∀ x ∈ ms, ∀ y ∈ l, y.1 ≠ x.1) (_ : (l.length : Int) ≤ most),
    ((l.length : Int) + ms.length ≤ most → putsE most l ms = 0 ∧ Rising (putsS most l ms) ∧ (∀ x, x ∈ putsS most l ms ↔ x ∈ l ∨ x ∈ ms) ∧ (putsS most l ms).length = l.length + ms.length) ∧ (most < (l.length : Int) + ms.length → putsE most l ms = 5)
  | [], l, h, _, _, _, hm => by
    refine ⟨fun _ => ⟨rfl, h, fun x => by simp [putsS], by simp [putsS]⟩, fun z => ?_⟩
    simp at z
    omega
  | x :: ms, l, h, hp, hr, hn, hm => by
    obtain ⟨p1, p2⟩ := List.pairwise_cons.1 hp
    have hh : hasN l x.1 = false := hasN_none h (hn x (by simp))
    have hE := putE_new (most := most) (hr x (by simp)) hh
    by_cases hf : most ≤ l.length
    · rw [if_pos hf] at hE
      refine ⟨fun z => ?_, fun _ => ?_⟩
      · simp at z; omega
      · rw [putsE, if_neg (by rw [hE]; omega), hE]
    · rw [if_neg hf] at hE
      have hS : putS most l x.1 x.2 = putN l x.1 x.2 := by rw [putS, if_pos hE]
      have hl : (putN l x.1 x.2).length = l.length + 1 := by rw [putN_length, hh]; simp
      obtain ⟨i1, i2⟩ := puts_new most ms (h.put x.1 x.2) p2 (fun y hy => hr y (by simp [hy])) (fun y hy z hz => by
        rcases (mem_putN h _ _ z).1 hz with rfl | ⟨c, _⟩
        · exact p1 y hy
        · exact hn y (by simp [hy]) z c) (by rw [hl]; omega)
      rw [putsE, putsS, if_pos hE, if_pos hE, hS]
      rw [hl] at i1 i2
      refine ⟨fun z => ?_, fun z => i2 (by simp at z ⊢; omega)⟩
      obtain ⟨j1, j2, j3, j4⟩ := i1 (by simp at z ⊢; omega)
      refine ⟨j1, j2, fun y => ?_, by rw [j4, List.length_cons]; omega⟩
      rw [j3, mem_putN h, List.mem_cons]
      constructor
      · rintro ((e | ⟨c, _⟩) | c)
        · exact .inr (.inl e)
        · exact .inl c
        · exact .inr (.inr c)
      · rintro (c | e | c)
        · exact .inl (.inr ⟨c, hn x (by simp) y c⟩)
        · exact .inl (.inl e)
        · exact .inr c
/-- .. or into another one that is empty -/
theorem puts_fresh {l : List Item} (h : Rising l) (hr : Right l) (f t : Nat) {most : Int} (hm : 0 ≤ most) :
    (putsE most [] (arcL l f t) = if ((arcL l f t).length : Int) ≤ most then 0 else 5) ∧
    (((arcL l f t).length : Int) ≤ most → Rising (putsS most [] (arcL l f t)) ∧ ∀ x, x ∈ putsS most [] (arcL l f t) ↔ x ∈ arcL l f t) := by
  obtain ⟨z1, z2⟩ := puts_new most (arcL l f t) Rising.nil (arcL_nodup h f t) (hr.arc f t) (fun x _ y hy => by cases hy) (by simpa using hm)
  by_cases c : ((arcL l f t).length : Int) ≤ most
  · obtain ⟨a, b, d, _⟩ := z1 (by simpa using c)
    exact ⟨by rw [if_pos c, a], fun _ => ⟨b, fun x => by rw [d]; simp⟩⟩
  · exact ⟨by rw [if_neg c]; exact z2 (by simp; omega), fun z => absurd z c⟩
end Go.Proofs.YthgndgoljchnfaaGreat
