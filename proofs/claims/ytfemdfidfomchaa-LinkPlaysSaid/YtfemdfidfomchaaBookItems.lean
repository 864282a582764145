/-
  The walks of the book of lists: SameItems, copyItems; the document's own Shelves.
-/
import Derived.Test.YtfemdfidfomchaaRefShelf
import Derived.Laws.AppendOwnNone
namespace Go.Proofs.Ytfemdfidfomchaa
open Go.RowKit

theorem minmax_lo {n : Int} (h : n < 0) : min (max n 0) 200 = 0 := by
  rw [Int.max_eq_right (by omega)]; rfl
theorem minmax_mid {n : Int} (h : 0 ≤ n) (h2 : n ≤ 200) : min (max n 0) 200 = n := by
  rw [Int.max_eq_left h, Int.min_eq_left h2]
theorem minmax_hi {n : Int} (h : 200 < n) : min (max n 0) 200 = 200 := by
  rw [Int.max_eq_left (by omega), Int.min_eq_right (by omega)]
theorem drewN_two (W : World) (k n : Nat) : (W.drewN k).drewN n = W.drewN (k + n) := by simp [World.drewN, Nat.add_assoc]

def sameI (x y : Item) : Bool := x.1.toList == y.1.toList && x.2.toList == y.2.toList
def sameL : List Item → List Item → Bool
  | [], [] => true
  | x :: a, y :: b => sameI x y && sameL a b
  | _, _ => false
theorem sameI_iff (x y : Item) : sameI x y = true ↔ x = y := by
  unfold sameI
  rw [Bool.and_eq_true, beq_iff_eq, beq_iff_eq]
  constructor
  · intro ⟨h1, h2⟩
    have e1 : x.1 = y.1 := by rw [Lib.toList_data, Lib.toList_data] at h1; rw [← txt_of x.1, ← txt_of y.1, h1]
    have e2 : x.2 = y.2 := by rw [Lib.toList_data, Lib.toList_data] at h2; rw [← txt_of x.2, ← txt_of y.2, h2]
    exact Prod.ext e1 e2
  · intro h; rw [h]; exact ⟨rfl, rfl⟩
theorem sameL_iff : ∀ a b : List Item, sameL a b = true ↔ a = b
  | [], [] => by simp [sameL]
  | [], _ :: _ => by simp [sameL]
  | _ :: _, [] => by simp [sameL]
  | x :: a, y :: b => by rw [sameL, Bool.and_eq_true, sameI_iff, sameL_iff a b, List.cons.injEq]

theorem sameL_len : ∀ a b : List Item, sameL a b = true → a.length = b.length := fun a b h => by rw [(sameL_iff a b).1 h]
theorem sameL_all (a b : List Item) (h : a.length = b.length) (hs : ∀ j (h1 : j < a.length) (h2 : j < b.length), sameI (a[j]) (b[j]) = true) : sameL a b = true := by
  rw [sameL_iff]
  exact List.ext_getElem h (fun j h1 h2 => (sameI_iff _ _).1 (hs j h1 h2))
theorem sameL_not (a b : List Item) (j : Nat) (h1 : j < a.length) (h2 : j < b.length) (hs : sameI (a[j]) (b[j]) = false) : sameL a b = false := by
  cases h : sameL a b with
  | false => rfl
  | true =>
    have e := (sameL_iff a b).1 h
    subst e
    have : sameI (a[j]) (a[j]) = true := (sameI_iff _ _).2 rfl
    rw [this] at hs
    cases hs
theorem sameL_lens (a b : List Item) (h : a.length ≠ b.length) : sameL a b = false := by
  cases h1 : sameL a b with
  | false => rfl
  | true => exact absurd (sameL_len a b h1) h

set_option maxHeartbeats 2000000 in
theorem sameItems_any (A B : Option Addr) (c d : Nat) (a b : List Item) (W : World) (hA : Row W (.slice A a.length c) a) (hB : Row W (.slice B b.length d) b) :
    Calls Try.prog 65 #[.slice A a.length c, .slice B b.length d] W fun e w' => e = .returned (.bool (sameL a b)) ∧ ∃ n, w' = W.drewN n := by
  have hla := hA.len
  have hlb := hB.len
  have HA := Lib.hid hA
  have HB := Lib.hid hB
  obtain ⟨n, hn⟩ : ∃ n, a.length = n := ⟨_, rfl⟩
  obtain ⟨m, hm⟩ : ∃ m, b.length = m := ⟨_, rfl⟩
  have HN := Lib.hid hn
  have HM := Lib.hid hm
  rw [hn] at hla ⊢
  rw [hm] at hlb ⊢
  clear hA hB hn hm
  by_cases hnm : n = m
  · subst hnm
    go_enter Try.func65, Try.ntmps65
    go_wp2
    go_loopg [5] (n + 1) (fun gh s5 wx => ∃ (i k : Nat), i + gh = n + 1 ∧ i ≤ n ∧ s5 = .int .i64 i ∧ Hid (∀ j (h : j < a.length) (h' : j < b.length), j < i → sameI (a[j]) (b[j]) = true) ∧ wx = W.drewN k)
    case atStart => exact ⟨0, 0, by omega, by omega, rfl, fun j _ _ h => by omega, rfl⟩
    case round =>
      obtain ⟨i, k, hig, hi, rfl, HS, rfl⟩ := hrel
      by_cases hlt : i < n
      · have ha' : i < a.length := by rw [HN.out]; exact hlt
        have hb' : i < b.length := by rw [HM.out]; exact hlt
        obtain ⟨q, rfl⟩ := HA.out.atBlock (by omega)
        obtain ⟨r, rfl⟩ := HB.out.atBlock (by omega)
        have p0 := (HA.out.cellAt (i * 2) (by omega)).trans (itemCells_get0 a i ha')
        have p1 := (HA.out.cellAt (i * 2 + 1) (by omega)).trans (itemCells_get1 a i ha')
        have r0 := (HB.out.cellAt (i * 2) (by omega)).trans (itemCells_get0 b i hb')
        have r1 := (HB.out.cellAt (i * 2 + 1) (by omega)).trans (itemCells_get1 b i hb')
        have hx9 : sameI (a[i]) (b[i]) = ((a[i]).1.toList == (b[i]).1.toList && (a[i]).2.toList == (b[i]).2.toList) := by rw [sameI]
        have HX := Lib.hid hx9
        clear hx9
        generalize (a[i]).1 = x1 at *
        generalize (a[i]).2 = x2 at *
        generalize (b[i]).1 = y1 at *
        generalize (b[i]).2 = y2 at *
        go_upto_region 6 with fail
        cases hb1 : (x1.toList == y1.toList) <;> cases hb2 : (x2.toList == y2.toList)
        all_goals
          go_quiet (fail)
        · go_wp2
          go_ret
          exact ⟨by rw [sameL_not a b i ha' hb' (by rw [HX.out, hb1]; rfl)]; rfl, k + nq, drewN_two _ _ _⟩
        · go_wp2
          go_ret
          exact ⟨by rw [sameL_not a b i ha' hb' (by rw [HX.out, hb1]; rfl)]; rfl, k + nq, drewN_two _ _ _⟩
        · go_wp2
          go_ret
          exact ⟨by rw [sameL_not a b i ha' hb' (by rw [HX.out, hb1, hb2]; rfl)]; rfl, k + nq, drewN_two _ _ _⟩
        · go_wp2
          go_roundg (gk - 1)
          case measure => omega
          case rel =>
            refine ⟨i + 1, k + nq, by omega, by omega, by go_num, fun j h1 h2 hj => ?_, rfl⟩
            rcases Nat.lt_succ_iff_lt_or_eq.1 hj with h | rfl
            · exact HS.out j h1 h2 h
            · rw [HX.out, hb1, hb2]; rfl
      · obtain rfl : i = n := by omega
        go_wp2
        go_ret
        exact ⟨by rw [sameL_all a b (by rw [HN.out, HM.out]) (fun j h1 h2 => HS.out j h1 h2 (by rw [HN.out] at h1; exact h1))]; rfl, k, rfl⟩
  · have hd : ((n : Int) != (m : Int)) = true := by rw [bne_iff_ne]; omega
    have HF := Lib.hid (sameL_lens a b (by rw [HN.out, HM.out]; exact hnm))
    go_enter Try.func65, Try.ntmps65
    go_wp2
    go_ret
    exact ⟨by rw [HF.out]; rfl, 0, rfl⟩

/-- a list of its own, in new memory -/
def NewItems (W : World) (l : List Item) (e : Ending) (w' : World) : Prop :=
  ∃ A c, e = .returned (.slice A l.length c) ∧ w'.ownsRow W.heap.size 108 2 (.slice A l.length c) l.length (itemCells l) ∧ Below W.heap.size W w'
set_option maxHeartbeats 1000000 in
theorem copyItems_any (A : Option Addr) (c : Nat) (l : List Item) (W : World) (hA : Row W (.slice A l.length c) l) (hl : l.length ≤ 100000) :
    Calls Try.prog 70 #[.slice A l.length c] W (NewItems W l) := by
  obtain ⟨i0, z0, hi, hz, hs2, hb32, hzc⟩ := infoItem
  rcases hA.nilOr with ⟨h, h0⟩ | ⟨q, rfl⟩
  · have hl0 : l = [] := List.eq_nil_of_length_eq_zero h0
    subst hl0
    rw [h]
    clear h h0 hA
    go_enter Try.func70, Try.ntmps70
    go_wp2_with (at_builtin; (refine wpList_append_own_none rfl (.const (.slice none 0 0)) (.tmp 3) 44 rfl W.heap.size 108 i0 2 Try.underlying44 hi (.slice none 0 0) 0 [] rfl (World.ownsRow_nil _ _ _ _) rfl ?_))
    go_ret
    exact ⟨none, 0, rfl, World.ownsRow_nil _ _ _ _, Below.refl _ _⟩
  · have HA := Lib.hid hA
    obtain ⟨n, hn⟩ : ∃ n, l.length = n := ⟨_, rfl⟩
    have HN := Lib.hid hn
    rw [hn] at hl ⊢
    clear hA hn
    go_enter Try.func70, Try.ntmps70
    go_wp2_with (at_builtin; (refine wpList_append_own _ rfl (.const (.slice none 0 0)) (.tmp 3) 44 rfl W.heap.size 108 i0 z0 2 32 Try.underlying44 hi hz hs2 hb32 hzc (by decide) (.slice none 0 0) 0 [] rfl (World.ownsRow_nil _ _ _ _) ⟨q, 0, none⟩ n c (itemCells l) rfl (by rw [itemCells_length, HN.out]) (Row.cellsDrop HA.out 0) (items_one _) (by unfold maxLen; omega) (by omega) (Nat.le_refl _) ?_); intro x1 w1 hown1 hg1 hnil1; simp only [Nat.zero_add, List.nil_append] at hown1; obtain ⟨A1, c1, rfl⟩ := own_slice hown1; have HT1 := Lib.hid ((Below.refl W.heap.size W).grown hg1 (Nat.le_refl _) (fun k hk => by cases hk)); have HO1 := Lib.hid hown1; clear hown1 hg1 hnil1)
    go_ret
    exact ⟨A1, c1, by rw [HN.out]; rfl, by rw [HN.out]; exact HO1.out, HT1.out⟩
end Go.Proofs.Ytfemdfidfomchaa
