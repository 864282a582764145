/-
  The walk of ShelfMany over ShelfLaws. (Written by tools/genMany.py.)
-/
import Derived.Test.YtinkkdhlakfooaaShelfTwo
import Derived.Test.YtinkkdhlakfooaaMapBool
import Derived.Carry
namespace Go.Proofs.Ytinkkdhlakfooaa
open Go.RowKit

/-- the keys that f says, all with one value -/
def setF (f : Nat → Bool) : Nat → Option ByteArray := fun k => if f k = true then some tV else none
theorem setF_some (f : Nat → Bool) (k : Nat) : (setF f k).isSome = f k := by
  unfold setF
  cases f k <;> rfl
theorem setF_put (f : Nat → Bool) (k : Nat) : upd1 (setF f) k (some tV) = setF (fun j => j == k || f j) := by
  funext j
  by_cases e : j = k
  · rw [e, upd1_same, setF, if_pos (by simp)]
  · rw [upd1_other _ _ e, setF, setF]
    simp [e]
theorem setF_del (f : Nat → Bool) (k : Nat) : upd1 (setF f) k none = setF (fun j => !(j == k) && f j) := by
  funext j
  by_cases e : j = k
  · rw [e, upd1_same, setF, if_neg (by simp)]
  · rw [upd1_other _ _ e, setF, setF]
    simp [e]
theorem setF_zero : mapL (setF fun _ => false) = [] := by
  rw [← mapL_none]
  refine mapL_congr fun j _ => ?_
  simp [setF]
/-- a shelf of the call's own, and beside it a map[int]bool of its own -/
def OSM (SH : World → Nat → Int → List Item → List Nat → Prop) (W w : World) (g : Nat) (l : List Item) (b n : Nat) (f : Nat → Bool) (m : Nat) : Prop :=
  Below W.heap.size W w ∧ ∃ F, SH w g 200 l F ∧ (∀ q ∈ F, W.heap.size ≤ q) ∧ b ∉ F ∧ W.heap.size ≤ b ∧ MB w b n f m
section
variable {SH : World → Nat → Int → List Item → List Nat → Prop} {W w w1 : World} {g b n m : Nat} {l : List Item} {f : Nat → Bool}
theorem OSM.mb (h : OSM SH W w g l b n f m) : MB w b n f m := by
  obtain ⟨_, _, _, _, _, _, h⟩ := h
  exact h
theorem OSM.below (L : ShelfLaws SH) (h : OSM SH W w g l b n f m) (hb : Below w.heap.size w w1) : OSM SH W w1 g l b n f m := by
  obtain ⟨a, F, c, d, e, e2, k⟩ := h
  exact ⟨acc a hb, F, L.touch c (Touch.ofBelow (F := []) hb) (by simp), d, e, e2, k.touch (Touch.ofBelow (F := []) hb) (by simp)⟩
theorem OSM.drew (L : ShelfLaws SH) (h : OSM SH W w g l b n f m) : OSM SH W w.drew g l b n f m := h.below L (Below.refl _ _).drew
theorem OSM.made (L : ShelfLaws SH) (h : OS SH W w g 200 l) : OSM SH W (w.alloc (.map #[] 0)) g l w.heap.size 0 (fun _ => false) 0 := by
  obtain ⟨a, F, c, d⟩ := h
  have hb : Below w.heap.size w (w.alloc (.map #[] 0)) := (Below.refl _ _).alloc (Nat.le_refl _) _
  exact ⟨acc a hb, F, L.touch c (Touch.ofBelow (F := []) hb) (by simp), d, fun e => by have := L.ltF c _ e; omega, a.size, MB.made w⟩
theorem OSM.map (L : ShelfLaws SH) (h : OSM SH W w g l b n f m) {n' m' : Nat} {f' : Nat → Bool} (hm : MB w1 b n' f' m') (ht : Touch [b] w w1) : OSM SH W w1 g l b n' f' m' := by
  obtain ⟨a, F, c, d, e, e2, k⟩ := h
  exact ⟨Touch.acc a ht (fun x hx => by simp at hx; rw [hx]; exact e2), F, L.touch c ht (fun q hq hx => by simp at hx; exact e (hx ▸ hq)), d, e, e2, hm⟩
theorem OSM.put (L : ShelfLaws SH) (h : OSM SH W w g l b n f m) (k v : ByteArray) (hk : k.size ≤ maxLen) (hv : v.size ≤ maxLen) {r : Int} {l' : List Item} (hr : putE 200 l k v = r) (hl : putS 200 l k v = l') :
    Calls Try.prog 12 #[.pointer (some ⟨g, 0, none⟩), .string k, .string v] w fun e w' => e = .returned (.int .i64 r) ∧ OSM SH W w' g l' b n f m := by
  obtain ⟨a, F, c, d, e, e2, hm⟩ := h
  refine (L.put k v c hk hv).mono ?_
  rintro e' w' ⟨rfl, F', h4, h5, h6⟩
  rw [hl] at h4
  have hbl := hm.lt
  refine ⟨by rw [hr], Touch.acc a h5 d, F', h4, fun q hq => ?_, fun hq => ?_, e2, hm.touch h5 e⟩
  · rcases h6 q hq with z | z
    · exact d q z
    · exact Nat.le_trans a.size z
  · rcases h6 b hq with z | z
    · exact e z
    · omega
theorem OSM.del (L : ShelfLaws SH) (h : OSM SH W w g l b n f m) (k : ByteArray) {r : Bool} {l' : List Item} (hr : hasN l k = r) (hl : delN l k = l') :
    Calls Try.prog 14 #[.pointer (some ⟨g, 0, none⟩), .string k] w fun e w' => e = .returned (.bool r) ∧ OSM SH W w' g l' b n f m := by
  obtain ⟨a, F, c, d, e, e2, hm⟩ := h
  refine (L.del k c).mono ?_
  rintro e' w' ⟨rfl, F', h4, h5, h6⟩
  rw [hl] at h4
  have hbl := hm.lt
  refine ⟨by rw [hr], Touch.acc a h5 d, F', h4, fun q hq => ?_, fun hq => ?_, e2, hm.touch h5 e⟩
  · rcases h6 q hq with z | z
    · exact d q z
    · exact Nat.le_trans a.size z
  · rcases h6 b hq with z | z
    · exact e z
    · omega
theorem OSM.len (L : ShelfLaws SH) (h : OSM SH W w g l b n f m) {x : Nat} (hx : l.length = x) :
    Calls Try.prog 19 #[.pointer (some ⟨g, 0, none⟩)] w fun e w' => e = .returned (.int .i64 (x : Nat)) ∧ OSM SH W w' g l b n f m := by
  subst hx
  have h0 := h
  obtain ⟨a, F, c, d, e, e2, hm⟩ := h
  refine (L.len c).mono ?_
  rintro e' w' ⟨rfl, hb⟩
  exact ⟨rfl, h0.below L hb⟩
theorem OSM.depth (L : ShelfLaws SH) (h : OSM SH W w g l b n f m) {x D : Nat} (hx : l.length = x) (hD : deepN x = D) :
    Calls Try.prog 20 #[.pointer (some ⟨g, 0, none⟩)] w fun e w' => ∃ d : Nat, e = .returned (.int .i64 (d : Nat)) ∧ d ≤ D ∧ OSM SH W w' g l b n f m := by
  subst hx hD
  have h0 := h
  obtain ⟨a, F, c, d, e, e2, hm⟩ := h
  refine (L.depth c).mono ?_
  rintro e' w' ⟨x, rfl, h1, _, hb⟩
  exact ⟨x, rfl, h1, h0.below L hb⟩
theorem OSM.items (L : ShelfLaws SH) (h : OSM SH W w g l b n f m) {x : Nat} (hx : l.length = x) :
    Calls Try.prog 22 #[.pointer (some ⟨g, 0, none⟩)] w fun e w' => ∃ A c, e = .returned (.slice A (x : Nat) c) ∧ Row w' (.slice A l.length c) l ∧ OSM SH W w' g l b n f m := by
  subst hx
  have h0 := h
  obtain ⟨a, F, c, d, e, e2, hm⟩ := h
  refine (L.items c).mono ?_
  rintro e' w' ⟨A, c', rfl, hr, hb⟩
  exact ⟨A, c', rfl, own_mono hr (Nat.zero_le _), h0.below L hb⟩
end
theorem mul_le (a b c d : Nat) (h1 : a ≤ c) (h2 : b ≤ d) : a * b ≤ c * d := Nat.mul_le_mul h1 h2

set_option maxRecDepth 100000 in
set_option maxHeartbeats 16000000 in
theorem shelfMany_way {SH : World → Nat → Int → List Item → List Nat → Prop} (L : ShelfLaws SH) (n s d r : Nat) (W : World) (n1 : 1 ≤ n) (n2 : n ≤ 200) (s2 : s ≤ 1000) (d2 : d ≤ n) (r2 : r ≤ 1000) :
    Calls Try.prog 4 #[.int .i64 (n : Nat), .int .i64 (s : Nat), .int .i64 (d : Nat), .int .i64 (r : Nat)] W fun e w' => e = .returned (.bool true) ∧ Below W.heap.size W w' := by
  have CA : Hid (∀ w0, Below W.heap.size W w0 → Calls Try.prog 9 #[] w0 fun e w' => e = .returned (.bool true) ∧ Below W.heap.size W w') := fun w0 h => shelfAlive_any L W w0 h
  have HW : Hid (Below W.heap.size W W) := Below.refl _ _
  have HL : Hid (ShelfLaws SH) := L
  have CN : Hid (∀ w, Below W.heap.size W w → Calls Try.prog 10 #[.int .i64 200] w fun e w' => ∃ g, e = .returned (.pointer (some ⟨g, 0, none⟩)) ∧ OS SH W w' g 200 []) := fun w h => OS.new L h 200 (by omega) (by omega)
  have f1 : decide ((n : Int) < 1) = false := by simp; omega
  have f2 : decide ((200 : Int) < (n : Int)) = false := by simp; omega
  have f3 : decide ((d : Int) < 0) = false := by simp
  have f4 : decide (n < d) = false := by simp; omega
  have f5 : decide ((s : Int) < 0) = false := by simp
  have f6 : decide ((1000 : Int) < (s : Int)) = false := by simp; omega
  have f7 : decide ((r : Int) < 0) = false := by simp
  have f8 : decide ((1000 : Int) < (r : Int)) = false := by simp; omega
  have DI : Hid (∀ w (x D : Nat), x ≤ 200 → deepN x = D → Calls Try.prog 21 #[.int .i64 (x : Nat)] w fun e w' => e = .returned (.int .i64 (D : Nat)) ∧ w = w') := fun w x D hx h => by
    have z := deep_any x w (by omega)
    rwa [h] at z
  have hmm := @run_makeMap Try.prog
  go_enter Try.func4, Try.ntmps4
  go_wp2_with (first
    | (go_at_call 9; (with_reducible refine (CA.out _ HW.out).mono ?_); rintro e wa ⟨rfl, h1⟩; have H0 := Lib.hid h1; clear h1)
    | (go_at_call 10; (with_reducible refine (CN.out _ H0.out).mono ?_); rintro e wn ⟨g, rfl, h1⟩; have H1 := Lib.hid h1; clear h1))
  have HM0 : Hid (OSM SH W (wn.alloc (.map #[] 0)) g (mapL (setF fun _ => false)) wn.heap.size 0 (fun _ => false) 0) := by
    have z := OSM.made L H1.out
    rw [setF_zero]
    exact z
  obtain ⟨b, hb⟩ : ∃ b, wn.heap.size = b := ⟨_, rfl⟩
  rw [hb] at HM0 ⊢
  obtain ⟨wq, hq⟩ : ∃ wq, wn.alloc (.map #[] 0) = wq := ⟨_, rfl⟩
  try rw [hq] at HM0 ⊢
  clear hb H1 CN CA hq hmm
  go_loopg [11] (n + 1) (fun gh s11 wx => ∃ (i m : Nat) (f : Nat → Bool), i + gh = n + 1 ∧ i ≤ n ∧ s11 = .int .i64 i ∧ m ≤ i ∧ Hid (OSM SH W wx g (mapL (setF f)) b i f m) ∧ Hid ((mapL (setF f)).length = m))
  case atStart => exact ⟨0, 0, _, by omega, by omega, rfl, by omega, HM0, by rw [setF_zero]; rfl⟩
  case round =>
    obtain ⟨i, m, f, hig, hi, rfl, hmi, HM, HF⟩ := hrel
    by_cases hlt : i < n
    · have hp := mul_le i (2 * s + 1) 200 2001 (by omega) (by omega)
      have hw : IntKind.i64.wrap ((i : Int) * (2 * (s : Int) + 1)) = ((i * (2 * s + 1) : Nat) : Int) := by
        rw [show (2 * (s : Int) + 1) = ((2 * s + 1 : Nat) : Int) by omega, ← Int.natCast_mul, IntKind.wrap_i64]; omega
      obtain ⟨p, hpp⟩ : ∃ p, i * (2 * s + 1) = p := ⟨_, rfl⟩
      rw [hpp] at hw hp
      clear hpp
      have hk9 : (r + p) % 997 < 997 := Nat.mod_lt _ (by omega)
      obtain ⟨k, hk⟩ : ∃ k, (r + p) % 997 = k := ⟨_, rfl⟩
      have hkI : ((r : Int) + (p : Int)) % 997 = (k : Int) := by omega
      rw [hk] at hk9
      have KI : Hid (∀ w, Calls Try.prog 26 #[.int .i64 (k : Nat)] w fun e w' => e = .returned (.string (keyT k)) ∧ Below w.heap.size w w') := fun w => key_any k w (by omega)
      have hz := putE_key 200 (setF f) hk9 (v := tV) (by simp [ByteArray.size]) (.inl (by rw [HF.out]; omega))
      have hln := mapL_length_put (setF f) hk9 tV
      rw [setF_put] at hz hln
      rw [setF_some, HF.out] at hln
      obtain ⟨m', hm'⟩ : ∃ m', (if f k then m else m + 1) = m' := ⟨_, rfl⟩
      have hm9 : m' ≤ i + 1 := by rw [← hm']; split <;> omega
      rw [hm'] at hln
      obtain ⟨f', hf'⟩ : ∃ f' : Nat → Bool, (fun j => j == k || f j) = f' := ⟨_, rfl⟩
      rw [hf'] at hz hln
      have PI : Hid (∀ w, OSM SH W w g (mapL (setF f)) b i f m → Calls Try.prog 12 #[.pointer (some ⟨g, 0, none⟩), .string (keyT k), .string ⟨#[118]⟩] w fun e w' => e = .returned (.int .i64 0) ∧ OSM SH W w' g (mapL (setF f')) b i f m) := fun w h => h.put HL.out _ _ (by rw [keyT_size]; decide) (by simp [ByteArray.size, maxLen]) hz.1 hz.2
      have HLN := Lib.hid hln
      have HMF : Hid ((fun j => j == k || f j) = f' ∧ (if f k then m else m + 1) = m') := ⟨hf', hm'⟩
      obtain ⟨D, hD⟩ : ∃ D, deepN m' = D := ⟨_, rfl⟩
      have HD := Lib.hid hD
      clear hz hln hf' hm' hk hD
      go_upto_region 11 with fail
      rw [hkI]
      clear hkI hw
      go_wp2_with (first
        | (go_at_call 26; (with_reducible refine (KI.out _).mono ?_); rintro e w1 ⟨rfl, hb⟩; have HM1 := Lib.hid (HM.out.below HL.out hb); clear hb)
        | (go_at_call 12; (with_reducible refine (PI.out _ HM1.out).mono ?_); rintro e w2 ⟨rfl, h2⟩; have HM2 := Lib.hid h2; clear h2)
        | (at_mapUpdate; go_must (refine wpList_mapUpdate_mb _ rfl (.tmp 76) (.tmp 77) (.const (.bool true)) rfl b i m f rfl HM2.out.mb (by omega) k rfl (by omega) rfl ?_); intro w3 h3 ht3; rw [HMF.out.1, HMF.out.2] at h3; have HM3 := Lib.hid (HM2.out.map HL.out h3 ht3); clear h3 ht3)
        | (go_at_call 19; (with_reducible refine (HM3.out.len HL.out HLN.out).mono ?_); rintro e w4 ⟨rfl, h2⟩; have HM4 := Lib.hid h2; have hl4 := h2.mb.len 3; clear h2)
        | (go_at_call 20; (with_reducible refine (HM4.out.depth HL.out HLN.out HD.out).mono ?_); rintro e w5 ⟨dd, rfl, hdd, h2⟩; have HM5 := Lib.hid h2; have hl5 := h2.mb.len 3; have fd : decide (D < dd) = false := (by simp; omega); clear h2 hdd)
        | (go_at_call 21; (with_reducible refine (DI.out _ m' D (by omega) HD.out).mono ?_); rintro e w6 ⟨rfl, rfl⟩))
      go_roundg (gk - 1)
      case measure => omega
      case rel => exact ⟨i + 1, m', f', by omega, by omega, by go_num, by omega, HM5, HLN⟩
    · obtain rfl : i = n := by omega
      have HM0' := HM
      have HF0 := HF
      clear hig hi hlt HM HF HM0
      go_wp2_with fail
      go_loopg [13] (d + 1) (fun gh s13 wx => ∃ (j m : Nat) (f : Nat → Bool), j + gh = d + 1 ∧ j ≤ d ∧ s13 = .int .i64 j ∧ m ≤ 200 ∧ Hid (OSM SH W wx g (mapL (setF f)) b i f m) ∧ Hid ((mapL (setF f)).length = m))
      case atStart => exact ⟨0, m, f, by omega, by omega, rfl, by omega, HM0', HF0⟩
      case round =>
        clear hmi HM0' HF0
        obtain ⟨j, m, f, hjg, hj, rfl, hmj, HM, HF⟩ := hrel
        by_cases hlt : j < d
        · have hq := mul_le j j 200 200 (by omega) (by omega)
          have hp := mul_le (j * j) (2 * s + 1) 40000 2001 (by omega) (by omega)
          have hw1 : IntKind.i64.wrap ((j : Int) * (j : Int)) = ((j * j : Nat) : Int) := by
            rw [← Int.natCast_mul, IntKind.wrap_i64]; omega
          obtain ⟨q, hqq⟩ : ∃ q, j * j = q := ⟨_, rfl⟩
          rw [hqq] at hw1 hp hq
          have hw : IntKind.i64.wrap ((q : Int) * (2 * (s : Int) + 1)) = ((q * (2 * s + 1) : Nat) : Int) := by
            rw [show (2 * (s : Int) + 1) = ((2 * s + 1 : Nat) : Int) by omega, ← Int.natCast_mul, IntKind.wrap_i64]; omega
          obtain ⟨p, hpp⟩ : ∃ p, q * (2 * s + 1) = p := ⟨_, rfl⟩
          rw [hpp] at hw hp
          clear hpp hqq
          have hk9 : (r + p) % 997 < 997 := Nat.mod_lt _ (by omega)
          obtain ⟨k, hk⟩ : ∃ k, (r + p) % 997 = k := ⟨_, rfl⟩
          have hkI : ((r : Int) + (p : Int)) % 997 = (k : Int) := by omega
          rw [hk] at hk9
          have KI : Hid (∀ w, Calls Try.prog 26 #[.int .i64 (k : Nat)] w fun e w' => e = .returned (.string (keyT k)) ∧ Below w.heap.size w w') := fun w => key_any k w (by omega)
          have hz := mapL_del (setF f) hk9
          have hh := mapL_has (setF f) hk9
          have hln := mapL_length_del (setF f) hk9
          rw [setF_del] at hz hln
          rw [setF_some, HF.out] at hln
          rw [setF_some] at hh
          obtain ⟨m', hm'⟩ : ∃ m', (if f k then m - 1 else m) = m' := ⟨_, rfl⟩
          have hm9 : m' ≤ 200 := by rw [← hm']; split <;> omega
          rw [hm'] at hln
          obtain ⟨f', hf'⟩ : ∃ f' : Nat → Bool, (fun j => !(j == k) && f j) = f' := ⟨_, rfl⟩
          rw [hf'] at hz hln
          obtain ⟨fk, hfk⟩ : ∃ fk, f k = fk := ⟨_, rfl⟩
          rw [hfk] at hh
          have RI : Hid (∀ w, OSM SH W w g (mapL (setF f)) b i f m → Calls Try.prog 14 #[.pointer (some ⟨g, 0, none⟩), .string (keyT k)] w fun e w' => e = .returned (.bool fk) ∧ OSM SH W w' g (mapL (setF f')) b i f m) := fun w h => h.del HL.out _ hh hz
          have HLN := Lib.hid hln
          have HMF : Hid ((fun j => !(j == k) && f j) = f' ∧ (if f k then m - 1 else m) = m') := ⟨hf', hm'⟩
          have HFK := Lib.hid hfk
          obtain ⟨D, hD⟩ : ∃ D, deepN m' = D := ⟨_, rfl⟩
          have HD := Lib.hid hD
          have LK : Hid (∀ w', MB w' b i f m → (Instr.lookup 59 (.map (some b)) (.int .i64 (k : Int)) false).run Try.prog w' = .ok (.bool fk) w') := fun w' h => by
            have z := h.look k (by omega)
            rwa [hfk] at z
          clear hz hln hf' hm' hk hD hh hfk
          go_upto_region 20 with fail
          rw [hkI]
          clear hkI hw hw1
          have HMD := Lib.hid (HM.out.drew HL.out)
          have hMB0 := HMD.out.mb
          refine wp_region_held_drew (S := (fun w' => MB w' b i f m)) (by kernel_rfl) ?_ (fun hHeld => ?_)
          · (try dsimp only); (first | assumption)
          refine wpAnyH_take (i := 0) (oi := ⟨_, _, _, _, _, _⟩) (v := ?_) rfl (by kernel_rfl) (by kernel_rfl) (by kernel_rfl) (fun _ _ _ h => h) (Or.inl ⟨by rfl, ?_⟩) (by assumption) ?_
          rotate_left
          · (intro wS hSw; (try dsimp only at hSw); first | (go_simp <;> with_reducible rfl) | (have hlk := LK.out _ hSw; go_simp <;> with_reducible rfl))
          try simp only [Act.put, List.setIfInBounds_toArray, List.set_cons_zero, List.set_cons_succ]
          refine wpAnyH_take (i := 1) (oi := ⟨_, _, _, _, _, _⟩) (v := ?_) rfl (by kernel_rfl) (by kernel_rfl) (by kernel_rfl) (fun _ _ _ h => h) (Or.inl ⟨by rfl, ?_⟩) (by assumption) ?_
          rotate_left
          · (intro wS hSw; (try dsimp only at hSw); first | (go_simp <;> with_reducible rfl) | (have hlk := LK.out _ hSw; go_simp <;> with_reducible rfl))
          try simp only [Act.put, List.setIfInBounds_toArray, List.set_cons_zero, List.set_cons_succ]
          refine wpAnyH_take (i := 4) (oi := ⟨_, _, _, _, _, _⟩) (v := ?_) rfl (by kernel_rfl) (by kernel_rfl) (by kernel_rfl) (fun _ _ _ h => h) (Or.inl ⟨by rfl, ?_⟩) (by assumption) ?_
          rotate_left
          · (intro wS hSw; (try dsimp only at hSw); first | (go_simp <;> with_reducible rfl) | (have hlk := LK.out _ hSw; go_simp <;> with_reducible rfl))
          try simp only [Act.put, List.setIfInBounds_toArray, List.set_cons_zero, List.set_cons_succ]
          refine wpAnyH_take (i := 5) (oi := ⟨_, _, _, _, _, _⟩) (v := ?_) rfl (by kernel_rfl) (by kernel_rfl) (by kernel_rfl) (fun _ _ _ h => h) (Or.inl ⟨by rfl, ?_⟩) (by assumption) ?_
          rotate_left
          · (intro wS hSw; (try dsimp only at hSw); first | (go_simp <;> with_reducible rfl) | (have hlk := LK.out _ hSw; go_simp <;> with_reducible rfl))
          try simp only [Act.put, List.setIfInBounds_toArray, List.set_cons_zero, List.set_cons_succ]
          refine wpAnyH_take (i := 6) (oi := ⟨_, _, _, _, _, _⟩) (v := ?_) rfl (by kernel_rfl) (by kernel_rfl) (by kernel_rfl) (fun _ _ _ h => h) (Or.inl ⟨by rfl, ?_⟩) (by assumption) ?_
          rotate_left
          · (intro wS hSw; (try dsimp only at hSw); first | (go_simp <;> with_reducible rfl) | (have hlk := LK.out _ hSw; go_simp <;> with_reducible rfl))
          try simp only [Act.put, List.setIfInBounds_toArray, List.set_cons_zero, List.set_cons_succ]
          refine wpAnyH_ready (rs := [2]) (by kernel_rfl) (by simp) ?_
          refine AllReadyH.cons (o := ⟨_, _, _, _, _, _⟩) rfl (fun K hK => ?_) AllReadyH.nil
          go_simp
          (first | (go_at_call 26; (with_reducible refine (KI.out _).mono ?_); rintro e w1 ⟨rfl, hb⟩; have HM1 := Lib.hid (HMD.out.below HL.out hb); have hMB1 := HM1.out.mb; clear hb) | (go_at_call 14; (with_reducible refine (RI.out _ HM1.out).mono ?_); rintro e w2 ⟨rfl, h2⟩; have HM2 := Lib.hid h2; have hMB2 := h2.mb; clear h2))
          go_wp2_with fail
          refine hK.out _ _ (by (try dsimp only); (first | assumption)) (fun hHeld => ?_)
          clear hK K
          try simp only [Act.put, List.setIfInBounds_toArray, List.set_cons_zero, List.set_cons_succ]
          refine wpAnyH_ready (rs := [3]) (by kernel_rfl) (by simp) ?_
          refine AllReadyH.cons (o := ⟨_, _, _, _, _, _⟩) rfl (fun K hK => ?_) AllReadyH.nil
          go_simp
          (first | (go_at_call 26; (with_reducible refine (KI.out _).mono ?_); rintro e w1 ⟨rfl, hb⟩; have HM1 := Lib.hid (HMD.out.below HL.out hb); have hMB1 := HM1.out.mb; clear hb) | (go_at_call 14; (with_reducible refine (RI.out _ HM1.out).mono ?_); rintro e w2 ⟨rfl, h2⟩; have HM2 := Lib.hid h2; have hMB2 := h2.mb; clear h2))
          go_wp2_with fail
          refine hK.out _ _ (by (try dsimp only); (first | assumption)) (fun hHeld => ?_)
          clear hK K
          try simp only [Act.put, List.setIfInBounds_toArray, List.set_cons_zero, List.set_cons_succ]
          refine wpAnyH_take (i := 7) (oi := ⟨_, _, _, _, _, _⟩) (v := ?_) rfl (by kernel_rfl) (by kernel_rfl) (by kernel_rfl) (fun _ _ _ h => h) (Or.inl ⟨by rfl, ?_⟩) (by assumption) ?_
          rotate_left
          · (intro wS hSw; (try dsimp only at hSw); first | (go_simp <;> with_reducible rfl) | (have hlk := LK.out _ hSw; go_simp <;> with_reducible rfl))
          try simp only [Act.put, List.setIfInBounds_toArray, List.set_cons_zero, List.set_cons_succ]
          refine wpAnyH_done (by kernel_rfl) ?_ _
          cases fk
          all_goals
            go_wp2_with (first
              | (at_delete; go_must (refine wpList_delete_mb _ rfl (.tmp 114) (.tmp 115) rfl b i m f rfl HM2.out.mb k rfl (by omega) ?_); intro w3 h3 ht3; rw [HMF.out.1, HMF.out.2] at h3; have HM3 := Lib.hid (HM2.out.map HL.out h3 ht3); clear h3 ht3)
              | (go_at_call 19; (with_reducible refine (HM3.out.len HL.out HLN.out).mono ?_); rintro e w4 ⟨rfl, h2⟩; have HM4 := Lib.hid h2; have hl4 := h2.mb.len 3; clear h2)
              | (go_at_call 20; (with_reducible refine (HM4.out.depth HL.out HLN.out HD.out).mono ?_); rintro e w5 ⟨dd, rfl, hdd, h2⟩; have HM5 := Lib.hid h2; have hl5 := h2.mb.len 3; have fd : decide (D < dd) = false := (by simp; omega); clear h2 hdd)
              | (go_at_call 21; (with_reducible refine (DI.out _ m' D (by omega) HD.out).mono ?_); rintro e w6 ⟨rfl, rfl⟩))
            go_roundg (gk - 1)
            case measure => omega
            case rel => exact ⟨j + 1, m', f', by omega, by omega, by go_num, by omega, HM5, HLN⟩
        · obtain rfl : j = d := by omega
          have HM0 := HM
          clear hjg hj hlt HM DI
          obtain ⟨l, hl⟩ : ∃ l, mapL (setF f) = l := ⟨_, rfl⟩
          have HLQ := Lib.hid hl
          rw [hl] at HF HM0
          clear hl
          have II : Hid (∀ w, OSM SH W w g l b i f m → Calls Try.prog 22 #[.pointer (some ⟨g, 0, none⟩)] w fun e w' => ∃ A c, e = .returned (.slice A (m : Nat) c) ∧ Row w' (.slice A l.length c) l ∧ OSM SH W w' g l b i f m) := fun w h => h.items HL.out HF.out
          go_wp2_with (first
            | (go_at_call 22; (with_reducible refine (II.out _ HM0.out).mono ?_); rintro e w4 ⟨A, c, rfl, hr, h2⟩; have HR := Lib.hid hr; have HM4 := Lib.hid h2; have hl4 := h2.mb.len 3; clear h2 hr))
          have HB4 : Hid (Below W.heap.size W w4) := HM4.out.1
          have HMB4 : Hid (MB w4 b i f m) := HM4.out.mb
          clear hl4 II HM4 HM0
          go_loopg [16, 17] 998 (fun gh s16 s17 wx => ∃ (k : Nat) (pre : List Item), k + gh = 998 ∧ k ≤ 997 ∧ pre.length ≤ 997 ∧ s16 = .int .i64 pre.length ∧ s17 = .int .i64 k ∧ Hid (l = pre ++ tailL (setF f) k (997 - k)) ∧ Hid (Row wx (.slice A l.length c) l) ∧ Hid (MB wx b i f m) ∧ Hid (Below W.heap.size W wx))
          case atStart => exact ⟨0, [], rfl, by omega, by simp, rfl, rfl, HLQ.out.symm, HR, HMB4, HB4⟩
          case round =>
            clear HR HMB4 HB4
            obtain ⟨k, pre, hkg, hk, hpl, rfl, rfl, HP, HR, HMB, HB⟩ := hrel
            obtain ⟨x, hx⟩ : ∃ x, pre.length = x := ⟨_, rfl⟩
            have HX := Lib.hid hx
            rw [hx] at hpl ⊢
            clear hx
            by_cases hlt : k < 997
            · have hst : mapL (setF f) = pre ++ tailL (setF f) k (997 - (k + 1) + 1) := by rw [show 997 - (k + 1) + 1 = 997 - k by omega, HLQ.out]; exact HP.out
              obtain ⟨q1, q2⟩ := mapL_step hst
              rw [HLQ.out] at q1 q2
              clear hst
              obtain ⟨fk, hfk⟩ : ∃ fk, f k = fk := ⟨_, rfl⟩
              have HFK := Lib.hid hfk
              have hlk := HMB.out.look k (by omega)
              rw [hfk] at hlk
              clear hfk
              cases fk
              · have HQ := Lib.hid (q1 (by rw [setF, HFK.out]; rfl))
                clear q1 q2
                go_wp2_with fail
                go_roundg (gk - 1)
                case measure => omega
                case rel => exact ⟨k + 1, pre, by omega, by omega, by rw [HX.out]; omega, by rw [HX.out], by go_num, HQ, HR, HMB, HB⟩
              · obtain ⟨e1, e2⟩ := q2 tV (by rw [setF, HFK.out]; rfl)
                have HQ := Lib.hid e2
                rw [HX.out] at e1
                clear q1 q2 e2
                obtain ⟨hxl, hxe⟩ := List.getElem?_eq_some_iff.1 e1
                obtain ⟨qb, rfl, hcell⟩ := row_key HR.out (by omega)
                have p0 := hcell x hxl
                rw [hxe] at p0
                have p0 : wr.cell? ⟨qb, x * 2, none⟩ = some (.string (keyT k)) := p0
                have hqb : qb < wr.heap.size := (HR.out.lt qb rfl).2
                rw [HF.out] at hxl
                clear hcell hxe e1
                have KI : Hid (∀ w, Calls Try.prog 26 #[.int .i64 (k : Nat)] w fun e w' => e = .returned (.string (keyT k)) ∧ Below w.heap.size w w') := fun w => key_any k w (by omega)
                obtain ⟨kt, hkt⟩ : ∃ kt, keyT k = kt := ⟨_, rfl⟩
                have HKT := Lib.hid hkt
                rw [hkt] at p0 KI
                clear hkt
                go_upto_region 33 with fail
                have hMB0 : wr.drew.cell? ⟨qb, x * 2, none⟩ = some (.string kt) := p0
                refine wp_region_held_drew (S := (fun w' => w'.cell? ⟨qb, x * 2, none⟩ = some (.string kt))) (by kernel_rfl) ?_ (fun hHeld => ?_)
                · (try dsimp only); (first | assumption)
                refine wpAnyH_take (i := 0) (oi := ⟨_, _, _, _, _, _⟩) (v := ?_) rfl (by kernel_rfl) (by kernel_rfl) (by kernel_rfl) (fun _ _ _ h => h) (Or.inl ⟨by rfl, ?_⟩) (by assumption) ?_
                rotate_left
                · (intro wS hSw; (try dsimp only at hSw); go_simp <;> with_reducible rfl)
                try simp only [Act.put, List.setIfInBounds_toArray, List.set_cons_zero, List.set_cons_succ]
                refine wpAnyH_take (i := 1) (oi := ⟨_, _, _, _, _, _⟩) (v := ?_) rfl (by kernel_rfl) (by kernel_rfl) (by kernel_rfl) (fun _ _ _ h => h) (Or.inl ⟨by rfl, ?_⟩) (by assumption) ?_
                rotate_left
                · (intro wS hSw; (try dsimp only at hSw); go_simp <;> with_reducible rfl)
                try simp only [Act.put, List.setIfInBounds_toArray, List.set_cons_zero, List.set_cons_succ]
                refine wpAnyH_take (i := 2) (oi := ⟨_, _, _, _, _, _⟩) (v := ?_) rfl (by kernel_rfl) (by kernel_rfl) (by kernel_rfl) (fun _ _ _ h => h) (Or.inl ⟨by rfl, ?_⟩) (by assumption) ?_
                rotate_left
                · (intro wS hSw; (try dsimp only at hSw); go_simp <;> with_reducible rfl)
                try simp only [Act.put, List.setIfInBounds_toArray, List.set_cons_zero, List.set_cons_succ]
                refine wpAnyH_take (i := 3) (oi := ⟨_, _, _, _, _, _⟩) (v := ?_) rfl (by kernel_rfl) (by kernel_rfl) (by kernel_rfl) (fun _ _ _ h => h) (Or.inl ⟨by rfl, ?_⟩) (by assumption) ?_
                rotate_left
                · (intro wS hSw; (try dsimp only at hSw); go_simp <;> with_reducible rfl)
                try simp only [Act.put, List.setIfInBounds_toArray, List.set_cons_zero, List.set_cons_succ]
                refine wpAnyH_take (i := 4) (oi := ⟨_, _, _, _, _, _⟩) (v := ?_) rfl (by kernel_rfl) (by kernel_rfl) (by kernel_rfl) (fun _ _ _ h => h) (Or.inl ⟨by rfl, ?_⟩) (by assumption) ?_
                rotate_left
                · (intro wS hSw; (try dsimp only at hSw); go_simp <;> with_reducible rfl)
                try simp only [Act.put, List.setIfInBounds_toArray, List.set_cons_zero, List.set_cons_succ]
                refine wpAnyH_take (i := 5) (oi := ⟨_, _, _, _, _, _⟩) (v := ?_) rfl (by kernel_rfl) (by kernel_rfl) (by kernel_rfl) (fun _ _ _ h => h) (Or.inl ⟨by rfl, ?_⟩) (by assumption) ?_
                rotate_left
                · (intro wS hSw; (try dsimp only at hSw); go_simp <;> with_reducible rfl)
                try simp only [Act.put, List.setIfInBounds_toArray, List.set_cons_zero, List.set_cons_succ]
                refine wpAnyH_ready (rs := [6]) (by kernel_rfl) (by simp) ?_
                refine AllReadyH.cons (o := ⟨_, _, _, _, _, _⟩) rfl (fun K hK => ?_) AllReadyH.nil
                go_simp
                (first | (go_at_call 26; (with_reducible refine (KI.out _).mono ?_); rintro e w1 ⟨rfl, hb⟩; have HB9 : Hid (Below wr.heap.size wr w1) := (Below.refl _ _).drew.trans hb; have hMB1 := (hb.cell (p := ⟨qb, x * 2, none⟩) hqb).trans hMB0; clear hb))
                go_wp2_with fail
                refine hK.out _ _ (by (try dsimp only); (first | assumption)) (fun hHeld => ?_)
                clear hK K
                try simp only [Act.put, List.setIfInBounds_toArray, List.set_cons_zero, List.set_cons_succ]
                refine wpAnyH_take (i := 7) (oi := ⟨_, _, _, _, _, _⟩) (v := ?_) rfl (by kernel_rfl) (by kernel_rfl) (by kernel_rfl) (fun _ _ _ h => h) (Or.inl ⟨by rfl, ?_⟩) (by assumption) ?_
                rotate_left
                · (intro wS hSw; (try dsimp only at hSw); go_simp <;> with_reducible rfl)
                try simp only [Act.put, List.setIfInBounds_toArray, List.set_cons_zero, List.set_cons_succ]
                refine wpAnyH_done (by kernel_rfl) ?_ _
                go_wp2_with fail
                go_roundg (gk - 1)
                case measure => omega
                case rel => exact ⟨k + 1, pre ++ [(keyT k, tV)], by omega, by omega, by rw [List.length_append, HX.out]; simp; omega, by rw [List.length_append, HX.out]; go_num, by go_num, HQ, (Touch.ofBelow (F := []) HB9.out).row HR.out (by simp), HMB.out.touch (Touch.ofBelow (F := []) HB9.out) (by simp), acc HB.out HB9.out⟩
            · obtain rfl : k = 997 := by omega
              go_wp2_with fail
              go_ret
              exact ⟨rfl, HB.out⟩

set_option maxRecDepth 100000 in
set_option maxHeartbeats 4000000 in
theorem shelfMany_any {SH : World → Nat → Int → List Item → List Nat → Prop} (L : ShelfLaws SH) (n s d r : Int) (W : World) (n0 : -9223372036854775808 ≤ n) (n1 : n ≤ 9223372036854775807) (s0 : -9223372036854775808 ≤ s) (s1 : s ≤ 9223372036854775807) (d0 : -9223372036854775808 ≤ d) (d1 : d ≤ 9223372036854775807) (r0 : -9223372036854775808 ≤ r) (r1 : r ≤ 9223372036854775807) :
    Calls Try.prog 4 #[.int .i64 n, .int .i64 s, .int .i64 d, .int .i64 r] W fun e w' => e = .returned (.bool true) ∧ Below W.heap.size W w' := by
  have CA : Hid (∀ w0, Below W.heap.size W w0 → Calls Try.prog 9 #[] w0 fun e w' => e = .returned (.bool true) ∧ Below W.heap.size W w') := fun w0 h => shelfAlive_any L W w0 h
  have HW : Hid (Below W.heap.size W W) := Below.refl _ _
  by_cases c0 : n < 1
  · have dd0 : decide (n < 1) = true := by simp; omega
    go_enter Try.func4, Try.ntmps4
    go_wp2_with (go_at_call 9; (with_reducible refine (CA.out _ HW.out).mono ?_); rintro e w1 ⟨rfl, h1⟩)
    go_ret
    exact ⟨rfl, h1⟩
  have dd0 : decide (n < 1) = false := by simp; omega
  by_cases c1 : 200 < n
  · have dd1 : decide (200 < n) = true := by simp; omega
    go_enter Try.func4, Try.ntmps4
    go_wp2_with (go_at_call 9; (with_reducible refine (CA.out _ HW.out).mono ?_); rintro e w1 ⟨rfl, h1⟩)
    go_ret
    exact ⟨rfl, h1⟩
  have dd1 : decide (200 < n) = false := by simp; omega
  by_cases c2 : d < 0
  · have dd2 : decide (d < 0) = true := by simp; omega
    go_enter Try.func4, Try.ntmps4
    go_wp2_with (go_at_call 9; (with_reducible refine (CA.out _ HW.out).mono ?_); rintro e w1 ⟨rfl, h1⟩)
    go_ret
    exact ⟨rfl, h1⟩
  have dd2 : decide (d < 0) = false := by simp; omega
  by_cases c3 : n < d
  · have dd3 : decide (n < d) = true := by simp; omega
    go_enter Try.func4, Try.ntmps4
    go_wp2_with (go_at_call 9; (with_reducible refine (CA.out _ HW.out).mono ?_); rintro e w1 ⟨rfl, h1⟩)
    go_ret
    exact ⟨rfl, h1⟩
  have dd3 : decide (n < d) = false := by simp; omega
  by_cases c4 : s < 0
  · have dd4 : decide (s < 0) = true := by simp; omega
    go_enter Try.func4, Try.ntmps4
    go_wp2_with (go_at_call 9; (with_reducible refine (CA.out _ HW.out).mono ?_); rintro e w1 ⟨rfl, h1⟩)
    go_ret
    exact ⟨rfl, h1⟩
  have dd4 : decide (s < 0) = false := by simp; omega
  by_cases c5 : 1000 < s
  · have dd5 : decide (1000 < s) = true := by simp; omega
    go_enter Try.func4, Try.ntmps4
    go_wp2_with (go_at_call 9; (with_reducible refine (CA.out _ HW.out).mono ?_); rintro e w1 ⟨rfl, h1⟩)
    go_ret
    exact ⟨rfl, h1⟩
  have dd5 : decide (1000 < s) = false := by simp; omega
  by_cases c6 : r < 0
  · have dd6 : decide (r < 0) = true := by simp; omega
    go_enter Try.func4, Try.ntmps4
    go_wp2_with (go_at_call 9; (with_reducible refine (CA.out _ HW.out).mono ?_); rintro e w1 ⟨rfl, h1⟩)
    go_ret
    exact ⟨rfl, h1⟩
  have dd6 : decide (r < 0) = false := by simp; omega
  by_cases c7 : 1000 < r
  · have dd7 : decide (1000 < r) = true := by simp; omega
    go_enter Try.func4, Try.ntmps4
    go_wp2_with (go_at_call 9; (with_reducible refine (CA.out _ HW.out).mono ?_); rintro e w1 ⟨rfl, h1⟩)
    go_ret
    exact ⟨rfl, h1⟩
  have dd7 : decide (1000 < r) = false := by simp; omega
  obtain ⟨a, rfl⟩ := Int.eq_ofNat_of_zero_le (show 0 ≤ n by omega)
  obtain ⟨b, rfl⟩ := Int.eq_ofNat_of_zero_le (show 0 ≤ s by omega)
  obtain ⟨c, rfl⟩ := Int.eq_ofNat_of_zero_le (show 0 ≤ d by omega)
  obtain ⟨x, rfl⟩ := Int.eq_ofNat_of_zero_le (show 0 ≤ r by omega)
  exact shelfMany_way L a b c x W (by omega) (by omega) (by omega) (by omega) (by omega)
end Go.Proofs.Ytinkkdhlakfooaa
