/-
  Room that is kept is there for what is won, whatever guests put in meanwhile (HoldKeeps). (Written by tools/genHK.py over hdkeeps.head.)
-/
import Derived.Test.YthgndgoljchnfaaGreatHdAlive
import Derived.Test.YthgndgoljchnfaaGreatHdPair
import Derived.Test.YthgndgoljchnfaaGreatHg31
import Derived.Test.YthgndgoljchnfaaGreatHg06
import Derived.Test.YthgndgoljchnfaaGreatHg05
namespace Go.Proofs.YthgndgoljchnfaaGreat
open Go.RowKit

def hkA (i : Nat) : ByteArray := txt [1, UInt8.ofNat i]
def hkB (i : Nat) : ByteArray := txt [200, UInt8.ofNat i]
abbrev kzz : ByteArray := ⟨#[122, 122]⟩
abbrev kvv : ByteArray := ⟨#[118]⟩
theorem kA_in : ∀ i, i < 80 → inB 0 9223372036854775808 (addrN (hkA i)) = true := by decide +kernel
theorem kB_in : ∀ i, i < 60 → inB 9223372036854775808 0 (addrN (hkB i)) = true := by decide +kernel
theorem kzz_in : inB 0 9223372036854775808 (addrN kzz) = true := by decide +kernel
theorem kzz_out : inB 9223372036854775808 0 (addrN kzz) = false := by decide +kernel
theorem k_apart : apartB 0 9223372036854775808 9223372036854775808 0 = true := by decide +kernel
/-- where the ring is parted: its name, so that nothing is reckoned -/
structure Half (c : Nat) : Prop where
  lt : c < 18446744073709551616
  a : ∀ i, i < 80 → inB 0 c (addrN (hkA i)) = true
  b : ∀ i, i < 60 → inB c 0 (addrN (hkB i)) = true
  z : inB 0 c (addrN kzz) = true
  nz : inB c 0 (addrN kzz) = false
  ap : apartB 0 c c 0 = true
theorem half_is : Half 9223372036854775808 := ⟨by decide, kA_in, kB_in, kzz_in, kzz_out, k_apart⟩
theorem kA_inj {i j : Nat} (hi : i < 256) (hj : j < 256) (h : hkA i = hkA j) : i = j := by
  have h := congrArg (fun b => b.data.toList) h
  simp only [hkA, txt, List.cons.injEq, true_and, and_true] at h
  have := congrArg UInt8.toNat h
  simp at this
  omega
theorem kB_inj {i j : Nat} (hi : i < 256) (hj : j < 256) (h : hkB i = hkB j) : i = j := by
  have h := congrArg (fun b => b.data.toList) h
  simp only [hkB, txt, List.cons.injEq, true_and, and_true] at h
  have := congrArg UInt8.toNat h
  simp at this
  omega
theorem kA_kB (i j : Nat) : hkA i ≠ hkB j := fun h => by
  have h := congrArg (fun b => b.data.toList) h
  simp [hkA, hkB, txt] at h
theorem kA_zz (i : Nat) : hkA i ≠ kzz := fun h => by
  have h := congrArg (fun b => b.data.toList) h
  simp [hkA, txt] at h
theorem kB_zz (i : Nat) : hkB i ≠ kzz := fun h => by
  have h := congrArg (fun b => b.data.toList) h
  simp [hkB, txt] at h
theorem kA_size (i : Nat) : (hkA i).size = 2 := rfl
theorem kB_size (i : Nat) : (hkB i).size = 2 := rfl
def own0 (c x : Nat) : Option Int := if inB 0 c x = true then some 0 else none
theorem own0_in {c x : Nat} (h : inB 0 c x = true) : own0 c x = some 0 := by rw [own0]; exact if_pos h
theorem own0_not {c x : Nat} (h : inB 0 c x = false) : own0 c x = none := by rw [own0]; exact if_neg (by rw [h]; simp)
def HKp (c m q : Nat) (its : List Item) : HO := ⟨1, m, q, own0 c, its, G0, 1⟩
def KpW (c m n : Nat) (its : List Item) : HO := ⟨1, m, n, ((HKp c m 0 []).take c 0 4).own, its, G0, 2⟩
theorem HKp_own {c m q : Nat} {its : List Item} (x : Nat) : (HKp c m q its).own x = own0 c x := by simp only [HKp]
theorem HKp_with {c m q : Nat} {its : List Item} (l : List Item) : (HKp c m q its).with l = HKp c m q l := by simp only [HKp, HO.with]
theorem HKp_keep {c m : Nat} (q : Nat) : (⟨(HKp c m 0 []).nd, (HKp c m 0 []).most, (HKp c m 0 []).kept + (q : Int).toNat, (HKp c m 0 []).own, (HKp c m 0 []).its, (HKp c m 0 []).g, (HKp c m 0 []).k⟩ : HO) = HKp c m q [] := by
  simp only [HKp, Int.toNat_natCast, Nat.zero_add]
theorem HKp_won {c m q : Nat} {its l : List Item} : (⟨(HKp c m q its).nd, (HKp c m q its).most, (HKp c m q its).kept - q, ((HKp c m q its).take c 0 4).own, l, (HKp c m q its).g, (HKp c m q its).k + 1⟩ : HO) = KpW c m 0 l := by
  simp only [HKp, KpW, HO.take, Nat.sub_self]
theorem KpW_own {c m n : Nat} {its : List Item} (x : Nat) : (KpW c m n its).own x = ((HKp c m 0 []).take c 0 4).own x := by simp only [KpW]
theorem Kp_start {c m : Nat} (h : m ≤ 60) : (HO.new 1 m).take 0 c 0 = HKp c m 0 [] := by
  show (⟨1, min (max (m : Int) 0) 200, 0, own0 c, [], G0, 0 + 1⟩ : HO) = _
  rw [show min (max (m : Int) 0) 200 = m by omega]
  rfl
/-- so many items of its keys -/
def lB (n : Nat) : List Item := (List.range n).map fun i => (hkB i, ⟨#[]⟩)
theorem lB_length (n : Nat) : (lB n).length = n := by simp [lB]
theorem lB_succ (n : Nat) : lB (n + 1) = lB n ++ [(hkB n, ⟨#[]⟩)] := by simp [lB, List.range_succ]
theorem mem_lB {n : Nat} {x : Item} (h : x ∈ lB n) : ∃ j, j < n ∧ x = (hkB j, ⟨#[]⟩) := by
  simp only [lB, List.mem_map, List.mem_range] at h
  obtain ⟨j, h1, rfl⟩ := h
  exact ⟨j, h1, rfl⟩
theorem lB_size {n : Nat} {x : Item} (h : x ∈ lB n) : x.1.size ≤ maxLen ∧ x.2.size ≤ maxLen := by
  obtain ⟨j, _, rfl⟩ := mem_lB h
  exact ⟨by show ([200, UInt8.ofNat j] : List UInt8).toArray.size ≤ maxLen; simp [maxLen], by show (0 : Nat) ≤ maxLen; exact Nat.zero_le _⟩
theorem lB_nodup {n : Nat} (hn : n ≤ 60) : (lB n).Pairwise fun x y => x.1 ≠ y.1 := by
  refine List.pairwise_map.2 ((List.pairwise_lt_range (n := n)).imp_of_mem fun {a b} ha hb z e => ?_)
  rw [List.mem_range] at ha hb
  have := kB_inj (by omega) (by omega) e
  omega
/-- the keys that were put in so far -/
def OnlyA (its : List Item) (i : Nat) : Prop := ∀ x ∈ its, ∃ j, j < i ∧ x.1 = hkA j
theorem Kp_put {c m q n i : Nat} (H : Half c) {its : List Item} {t : TL} {s1 : HO} (hr : Rising its) (hl : its.length = n) (hm : OnlyA its i) (hi : i < 80) (h : Did (HKp c m q its) ⟨2, hkA i, kvv, ⟨#[]⟩, 0⟩ t s1) :
    (n + q < m → t = TL.err 0 ∧ ∃ its', s1 = HKp c m q its' ∧ its'.length = n + 1 ∧ OnlyA its' (i + 1)) ∧ (¬ n + q < m → t = TL.err 5 ∧ s1 = HKp c m q its) := by
  have hh : hasN its (hkA i) = false := Hd.hasN_none hr fun y hy e => by
    obtain ⟨j, h1, h2⟩ := hm y hy
    rw [h2] at e
    have := kA_inj (by omega) (by omega) e
    omega
  have z := h.put (by rw [kA_size]; decide) (by rw [kA_size]; decide) (e := 0) ((HKp_own _).trans (own0_in (H.a i hi))) rfl
  have hv : valueN kvv = 0 := by decide
  have hE : (HKp c m q its).putE (hkA i) kvv = if m ≤ n + q then 5 else 0 := by
    rw [HO.putE, if_neg (by rw [hv]; simp)]
    show (if hasN its (hkA i) = false ∧ (m : Int) ≤ (its.length : Int) + (q : Nat) then (5 : Int) else 0) = _
    by_cases y : m ≤ n + q
    · rw [if_pos ⟨hh, by omega⟩, if_pos y]
    · rw [if_neg (fun z => by have := z.2; omega), if_neg y]
  rw [hE] at z
  constructor
  · intro _
    rw [if_neg (by omega), if_pos rfl] at z
    refine ⟨z.1, putN its (hkA i) kvv, z.2.trans (HKp_with _), by rw [putN_length, hh, hl]; rfl, fun x hx => ?_⟩
    rcases (mem_putN hr _ _ _).1 hx with rfl | ⟨hx, -⟩
    · exact ⟨i, by omega, rfl⟩
    · obtain ⟨j, h1, h2⟩ := hm x hx
      exact ⟨j, by omega, h2⟩
  · intro _
    rw [if_pos (by omega), if_neg (by decide)] at z
    exact z
theorem Kp_may {c : Nat} (H : Half c) (m q : Nat) (its : List Item) : (HKp c m q its).may c 0 4 :=
  (may_take (s := HO.new 1 m) (f := 0) (t := c) (f1 := c) (t1 := 0) (e := 0) (e1 := 4) (by decide) H.lt H.lt (by decide) (fun _ => rfl) (by decide)).2 H.ap
/-- what was won goes in -/
theorem Kp_puts {m k n i : Nat} {its : List Item} (hr : Rising its) (hl : its.length = n) (hm : OnlyA its i) (hk : k ≤ 60) (h : n + k ≤ m) :
    putsEI m its (lB k) = 0 ∧ Rising (putsSI m its (lB k)) ∧ (putsSI m its (lB k)).length = n + k ∧ ∀ x ∈ putsSI m its (lB k), x.1 ≠ kzz := by
  have z := (Hd.puts_new m (lB k) hr (lB_nodup hk) (fun x hx => by
    obtain ⟨j, h1, rfl⟩ := mem_lB hx
    exact ⟨by rw [rightN]; exact if_neg (by rw [kB_size]; omega), rfl⟩) (fun x hx y hy e => by
    obtain ⟨j, h1, rfl⟩ := mem_lB hx
    obtain ⟨l, h2, h3⟩ := hm y hy
    rw [h3] at e
    exact kA_kB _ _ e) (by omega)).1 (by rw [lB_length]; omega)
  obtain ⟨z1, z2, z3, z4⟩ := z
  refine ⟨z1, z2, by rw [z4, lB_length, hl], fun x hx e => ?_⟩
  rcases (z3 x).1 hx with y | y
  · obtain ⟨l, h2, h3⟩ := hm x y
    rw [h3] at e
    exact kA_zz _ e
  · obtain ⟨j, h1, rfl⟩ := mem_lB y
    exact kB_zz _ e
theorem KpW_great {c m n : Nat} (H : Half c) {its : List Item} {e : Int} (h : Greatest (KpW c m n its).own (fun _ => True) e ∨ ((∀ x, x < 18446744073709551616 → (KpW c m n its).own x = none) ∧ e = 0)) : e = 4 := by
  have h0 : (KpW c m n its).own c = some 4 := (KpW_own _).trans (HO.take_own (s := HKp c m 0 []) (in_first _ _ H.lt (by decide)))
  rcases h with ⟨h1, x, hx, -, h2⟩ | ⟨h1, -⟩
  · have h3 := h1 c 4 H.lt trivial h0
    have h4 := h2
    rw [KpW_own] at h4
    cases hz : inB c 0 x with
    | true =>
      rw [HO.take_own hz] at h4
      exact (Option.some.inj h4).symm
    | false =>
      rw [HO.take_not hz] at h4
      rw [HKp_own] at h4
      cases hy : inB 0 c x with
      | true =>
        rw [own0_in hy] at h4
        have := Option.some.inj h4
        omega
      | false =>
        rw [own0_not hy] at h4
        cases h4
  · rw [h1 c H.lt] at h0
    cases h0
/-- the last one -/
theorem KpW_put {c m n : Nat} (H : Half c) {its : List Item} {t : TL} {s1 : HO} (hr : Rising its) (hl : its.length = n) (hz : ∀ x ∈ its, x.1 ≠ kzz) (h : Did (KpW c m 0 its) ⟨2, kzz, ⟨#[]⟩, ⟨#[]⟩, 0⟩ t s1) : t = TL.err (if m ≤ n then 5 else 0) := by
  have hh : hasN its kzz = false := Hd.hasN_none hr hz
  have z := (h.put (by decide) (by decide) (e := 0) (by
    rw [KpW_own, HO.take_not H.nz, HKp_own]
    exact own0_in H.z) rfl).1
  have hv : valueN ⟨#[]⟩ = 0 := by decide
  have hE : (KpW c m 0 its).putE kzz ⟨#[]⟩ = if m ≤ n then 5 else 0 := by
    rw [HO.putE, if_neg (by rw [hv]; simp)]
    show (if hasN its kzz = false ∧ (m : Int) ≤ (its.length : Int) + ((0 : Nat) : Int) then (5 : Int) else 0) = _
    by_cases y : m ≤ n
    · rw [if_pos ⟨hh, by omega⟩, if_pos y]
    · rw [if_neg (fun z => by have := z.2; omega), if_neg y]
  rw [hE] at z
  exact z
theorem hd_conv (l : List UInt8) (W : World) (n : Nat) (hn : n = l.length) (hl : l.length ≤ 100000) (C : Array Value) (hC : C = (l.map cell8).toArray) :
    (convert 41 9 (.slice (some ⟨W.heap.size, 0, none⟩) n n)).run Tryz.prog (W.alloc (.cells C 5)) = .ok (.string (txt l)) (W.alloc (.cells C 5)) := by
  subst hn hC
  have h := World.ownsRow_lit W (l.map cell8).toArray (e := 5) (size := 1) (base := W.heap.size) l.length (Nat.le_refl _) (by unfold maxLen; omega) (by simp)
  rw [List.toList_toArray] at h
  exact run_own_string (P := Tryz.prog) 41 9 h Tryz.underlying41 Tryz.underlying5 Tryz.underlying9
theorem hd_cells {a : Nat} {i : Nat} (ha : a < 256) (hi : i < 256) : #[Value.int .u8 (a : Int), Value.int .u8 (i : Int)] = ([UInt8.ofNat a, UInt8.ofNat i].map cell8).toArray := by
  simp [cell8]; omega
theorem hd_infoItems : ∃ i, Tryz.prog.info? 31 = some i ∧ i.zero = some (.agg #[.string ⟨#[]⟩, .string ⟨#[]⟩]) ∧ i.size = 2 ∧ i.bytes = 32 := by
  have h : (Tryz.prog.info? 31).map (fun i => (i.zero, i.size, i.bytes)) = some (some (.agg #[.string ⟨#[]⟩, .string ⟨#[]⟩]), 2, 32) := by kernel_rfl
  obtain ⟨i, hi, hx⟩ := Option.map_eq_some_iff.1 h
  simp only [Prod.mk.injEq] at hx
  exact ⟨i, hi, hx⟩
theorem hd_items_one : ∀ (l : List Item), ∀ u ∈ itemCells l, u.oneCell' = true
  | [], u, h => by cases h
  | x :: l, u, h => by
    rw [itemCells_cons] at h
    rcases List.mem_cons.1 h with rfl | h
    · rfl
    · rcases List.mem_cons.1 h with rfl | h
      · rfl
      · exact hd_items_one l u h
theorem hd_item_src (Wc : World) (b : Nat) (xk xv : ByteArray) (hh : Wc.heap[b]? = some (.cells #[.string xk, .string xv] 31 (0, 0))) : From Wc 2 (.slice (some ⟨b, 0, none⟩) 1 1) 1 (itemCells [(xk, xv)]) := by
  refine .inr ⟨_, _, rfl, rfl, fun j' u hj => ?_⟩
  rw [Go.WideShapes.add_plain, Nat.zero_add, cell_of_row Wc b j' _ 31 (0, 0) hh]
  simpa [itemCells] using hj
theorem hd_convA (i : Nat) (hi : i < 256) (W : World) : (convert 41 9 (.slice (some ⟨W.heap.size, 0, none⟩) 2 2)).run Tryz.prog (W.alloc (.cells #[.int .u8 1, .int .u8 (i : Int)] 5)) = .ok (.string (hkA i)) (W.alloc (.cells #[.int .u8 1, .int .u8 (i : Int)] 5)) :=
  hd_conv [1, UInt8.ofNat i] W 2 rfl (by simp) #[.int .u8 1, .int .u8 (i : Int)] (hd_cells (a := 1) (i := i) (by omega) hi)
theorem hd_convB (i : Nat) (hi : i < 256) (W : World) : (convert 41 9 (.slice (some ⟨W.heap.size, 0, none⟩) 2 2)).run Tryz.prog (W.alloc (.cells #[.int .u8 200, .int .u8 (i : Int)] 5)) = .ok (.string (hkB i)) (W.alloc (.cells #[.int .u8 200, .int .u8 (i : Int)] 5)) :=
  hd_conv [200, UInt8.ofNat i] W 2 rfl (by simp) #[.int .u8 200, .int .u8 (i : Int)] (hd_cells (a := 200) (i := i) (by omega) hi)
section
variable {VD : World → Nat → HO → List Nat → Prop}
set_option maxRecDepth 20000 in
set_option maxHeartbeats 8000000 in
theorem holdKeeps_any (L : HoldLaws VD) (most keep puts : Int) (W : World) (_h1 : Wide most) (_h2 : Wide keep) (_h3 : Wide puts) :
    Calls Tryz.prog 4 #[.int .i64 most, .int .i64 keep, .int .i64 puts] W fun e w' => e = .returned (.bool true) ∧ Below W.heap.size W w' := by
  have CA := Lib.hid (holdAlive_any L)
  by_cases q0 : most < 0
  · have d0 : decide (most < 0) = true := decide_eq_true (by omega)
    go_enter Tryz.func4, Tryz.ntmps4
    go_wp2_with (go_at_call 11; (with_reducible refine (CA.out _).mono ?_); rintro e w1 ⟨rfl, h1⟩)
    go_ret
    exact ⟨rfl, h1⟩
  have d0 : decide (most < 0) = false := decide_eq_false (by omega)
  by_cases q1 : 60 < most
  · have d1 : decide (60 < most) = true := decide_eq_true (by omega)
    go_enter Tryz.func4, Tryz.ntmps4
    go_wp2_with (go_at_call 11; (with_reducible refine (CA.out _).mono ?_); rintro e w1 ⟨rfl, h1⟩)
    go_ret
    exact ⟨rfl, h1⟩
  have d1 : decide (60 < most) = false := decide_eq_false (by omega)
  by_cases q2 : keep < 0
  · have d2 : decide (keep < 0) = true := decide_eq_true (by omega)
    go_enter Tryz.func4, Tryz.ntmps4
    go_wp2_with (go_at_call 11; (with_reducible refine (CA.out _).mono ?_); rintro e w1 ⟨rfl, h1⟩)
    go_ret
    exact ⟨rfl, h1⟩
  have d2 : decide (keep < 0) = false := decide_eq_false (by omega)
  by_cases q3 : 60 < keep
  · have d3 : decide (60 < keep) = true := decide_eq_true (by omega)
    go_enter Tryz.func4, Tryz.ntmps4
    go_wp2_with (go_at_call 11; (with_reducible refine (CA.out _).mono ?_); rintro e w1 ⟨rfl, h1⟩)
    go_ret
    exact ⟨rfl, h1⟩
  have d3 : decide (60 < keep) = false := decide_eq_false (by omega)
  by_cases q4 : puts < 0
  · have d4 : decide (puts < 0) = true := decide_eq_true (by omega)
    go_enter Tryz.func4, Tryz.ntmps4
    go_wp2_with (go_at_call 11; (with_reducible refine (CA.out _).mono ?_); rintro e w1 ⟨rfl, h1⟩)
    go_ret
    exact ⟨rfl, h1⟩
  have d4 : decide (puts < 0) = false := decide_eq_false (by omega)
  by_cases q5 : 80 < puts
  · have d5 : decide (80 < puts) = true := decide_eq_true (by omega)
    go_enter Tryz.func4, Tryz.ntmps4
    go_wp2_with (go_at_call 11; (with_reducible refine (CA.out _).mono ?_); rintro e w1 ⟨rfl, h1⟩)
    go_ret
    exact ⟨rfl, h1⟩
  have d5 : decide (80 < puts) = false := decide_eq_false (by omega)
  obtain ⟨m, hm⟩ : ∃ m : Nat, most = m := ⟨most.toNat, by omega⟩
  obtain ⟨q, hq⟩ : ∃ q : Nat, keep = q := ⟨keep.toNat, by omega⟩
  obtain ⟨p, hp⟩ : ∃ p : Nat, puts = p := ⟨puts.toNat, by omega⟩
  subst hm hq hp
  have hm60 : m ≤ 60 := by omega
  obtain ⟨hc, hcc, HH⟩ : ∃ hc : Nat, (hc : Int) = 9223372036854775808 ∧ Half hc := ⟨9223372036854775808, rfl, half_is⟩
  have hq60 : q ≤ 60 := by omega
  have hp80 : p ≤ 80 := by omega
  have C0 : Hid (∀ w, Below W.heap.size W w → Calls Tryz.prog 12 #[.int .i64 1, .int .i64 (m : Nat)] w fun e w' => ∃ g, e = .returned (.pointer (some ⟨g, 0, none⟩)) ∧ DX VD W w' [] g (HO.new 1 (m : Nat))) := fun w hw => by
    refine (DX.new (P := []) L 1 (m : Nat) hw (by simp) ⟨by decide, by decide⟩ ⟨by omega, by omega⟩).mono ?_
    rintro e w' ⟨g, rfl, h, -⟩
    exact ⟨g, rfl, h⟩
  have C1 : Hid (∀ w g, DX VD W w [] g (HO.new 1 (m : Nat)) → Calls Tryz.prog 13 #[.pointer (some ⟨g, 0, none⟩), .agg #[.int .u64 0, .int .u64 9223372036854775808], .int .i64 0] w fun e w' => e = .returned (.bool true) ∧ DX VD W w' [] g (HKp hc m 0 [])) := fun w g h => by
    have z := h.own L 0 hc 0 (by decide) HH.lt ⟨by decide, by decide⟩ (by show 0 ≤ 1000; decide)
    rw [Kp_start hm60, hcc] at z
    refine z.mono ?_
    rintro e w' (⟨-, rfl, h1, -⟩ | ⟨h1, -⟩)
    · exact ⟨rfl, h1⟩
    · exact absurd (HO.may_new (by decide)) h1
  by_cases hle : q ≤ m
  rotate_left
  · have CK : Hid (∀ w g o, (o = (q : Int) ∨ o = -1) → DX VD W w [] g (HKp hc m 0 []) → Calls Tryz.prog 16 #[.pointer (some ⟨g, 0, none⟩), .int .i64 o] w fun e w' => e = .returned (.bool false) ∧ DX VD W w' [] g (HKp hc m 0 [])) := fun w g o ho h => by
      obtain ⟨x, ⟨F, b, c⟩, d⟩ := h
      refine (L.keep o ⟨by omega, by omega⟩ b).mono ?_
      rintro e w' (⟨⟨z1, z2⟩, -⟩ | ⟨-, z⟩)
      · have z2 : ((0 : Nat) : Int) + ((0 : Nat) : Int) + o ≤ (m : Int) := z2
        omega
      · obtain ⟨h1, h2, -⟩ := DX.of x c d z
        exact ⟨h1, h2⟩
    have i1 : ¬ (q : Int) ≤ (m : Int) := by omega
    have i2 : (m : Int) < (q : Int) := by omega
    go_enter Tryz.func4, Tryz.ntmps4
    go_wp2_with (first
      | (go_at_call 11; (with_reducible refine (CA.out _).mono ?_); rintro e w1 ⟨rfl, h1⟩; have H1 := Lib.hid h1; clear h1)
      | (go_at_call 12; (with_reducible refine (C0.out _ H1.out).mono ?_); rintro e w2 ⟨g, rfl, x2⟩; have X2 := Lib.hid x2; clear x2)
      | (go_at_call 13; (with_reducible refine (C1.out _ _ X2.out).mono ?_); rintro e w3 ⟨rfl, x3⟩; have X3 := Lib.hid x3; clear x3)
      | (go_at_call 16; (with_reducible refine (CK.out _ _ _ (.inr rfl) X4.out).mono ?_); rintro e w5 ⟨rfl, x5⟩)
      | (go_at_call 16; (with_reducible refine (CK.out _ _ _ (.inl rfl) X3.out).mono ?_); rintro e w4 ⟨rfl, x4⟩; have X4 := Lib.hid x4; clear x4))
    go_ret
    exact ⟨rfl, x5.base⟩
  have CK : Hid (∀ w g, DX VD W w [] g (HKp hc m 0 []) → Calls Tryz.prog 16 #[.pointer (some ⟨g, 0, none⟩), .int .i64 (q : Nat)] w fun e w' => e = .returned (.bool true) ∧ DX VD W w' [] g (HKp hc m q [])) := fun w g h => by
    obtain ⟨x, ⟨F, b, c⟩, d⟩ := h
    refine (L.keep (q : Nat) ⟨by omega, by omega⟩ b).mono ?_
    rintro e w' (⟨-, z⟩ | ⟨z, -⟩)
    · rw [HKp_keep] at z
      obtain ⟨h1, h2, -⟩ := DX.of x c d z
      exact ⟨h1, h2⟩
    · exact absurd ⟨by omega, by show ((0 : Nat) : Int) + ((0 : Nat) : Int) + (q : Nat) ≤ (m : Int); omega⟩ z
  have CD : Hid (∀ w g i n its, i < 80 → its.length = n → OnlyA its i → DX VD W w [] g (HKp hc m q its) → Calls Tryz.prog 14 #[.pointer (some ⟨g, 0, none⟩), .agg #[.int .i64 2, .string (hkA i), .string kvv, .string ⟨#[]⟩, .int .i64 0]] w fun e w' => (n + q < m → ∃ A c its', e = .returned (.agg #[.int .i64 0, .string ⟨#[]⟩, .slice A 0 c, .bool false, .string ⟨#[]⟩, .int .i64 0]) ∧ its'.length = n + 1 ∧ OnlyA its' (i + 1) ∧ DX VD W w' [] g (HKp hc m q its')) ∧ (¬ n + q < m → ∃ A c, e = .returned (.agg #[.int .i64 5, .string ⟨#[]⟩, .slice A 0 c, .bool false, .string ⟨#[]⟩, .int .i64 0]) ∧ DX VD W w' [] g (HKp hc m q its))) := fun w g i n its hi hl hm h => by
    have hr : Rising its := by
      obtain ⟨_, ⟨F, b, _⟩, _⟩ := h
      exact (L.rising b).1
    refine (h.do_ L ⟨2, hkA i, kvv, ⟨#[]⟩, 0⟩ ⟨⟨by simp, by simp⟩, by show 2 ≤ maxLen; decide, by show 1 ≤ maxLen; decide, Nat.zero_le _, ⟨by simp, by simp⟩⟩ (by show 1 ≤ 1000; decide) (by show 0 ≤ 1000; decide)).mono ?_
    rintro e w' ⟨t, s1, S, hd, rfl, ho, hx, -⟩
    obtain ⟨z1, z2⟩ := Kp_put HH hr hl hm hi hd
    constructor
    · intro c
      obtain ⟨rfl, its', rfl, y1, y2⟩ := z1 c
      obtain ⟨A, b, rfl⟩ := own_slice ho
      exact ⟨A, b, its', rfl, y1, y2, hx.less (by simp)⟩
    · intro c
      obtain ⟨rfl, rfl⟩ := z2 c
      obtain ⟨A, b, rfl⟩ := own_slice ho
      exact ⟨A, b, rfl, hx.less (by simp)⟩
  have i1 : (q : Int) ≤ (m : Int) := by omega
  have i2 : ¬ (m : Int) < (q : Int) := by omega
  have i3 : ¬ m < q := by omega
  have f0 := told_er
  go_enter Tryz.func4, Tryz.ntmps4
  go_wp2_with (first
    | (go_at_call 11; (with_reducible refine (CA.out _).mono ?_); rintro e w1 ⟨rfl, h1⟩; have H1 := Lib.hid h1; clear h1)
    | (go_at_call 12; (with_reducible refine (C0.out _ H1.out).mono ?_); rintro e w2 ⟨g, rfl, x2⟩; have X2 := Lib.hid x2; clear x2)
    | (go_at_call 13; (with_reducible refine (C1.out _ _ X2.out).mono ?_); rintro e w3 ⟨rfl, x3⟩; have X3 := Lib.hid x3; clear x3)
    | (go_at_call 16; (with_reducible refine (CK.out _ _ X3.out).mono ?_); rintro e w4 ⟨rfl, x4⟩; have X4 := Lib.hid x4; clear x4))
  clear CA C0 C1 CK
  go_loopg [8, 9, 10] (p + 1) (fun gh s8 s9 s10 wx => ∃ (i n : Nat) (its : List Item), i + gh = p + 1 ∧ i ≤ p ∧ n + q ≤ m ∧ s8 = .int .i64 (n : Nat) ∧ s9 = .int .i64 (i : Nat) ∧ Hid (its.length = n ∧ OnlyA its i) ∧ Hid (DX VD W wx [] g (HKp hc m q its)))
  case atStart => exact ⟨0, 0, [], by omega, by omega, by omega, rfl, rfl, ⟨rfl, fun x hx => by cases hx⟩, X4⟩
  case round =>
    clear X4 X3 X2 H1
    obtain ⟨i, n, its, hig, hi, hnq, rfl, rfl, HI, HX⟩ := hrel
    have zs : IntKind.i64.wrap ((m : Int) - (q : Int)) = ((m - q : Nat) : Int) := by rw [IntKind.wrap_i64]; omega
    by_cases hlt : i < p
    · have j1 : (i : Int) < (p : Int) := by omega
      have zi : IntKind.i64.wrap ((i : Int) + 1) = (i : Int) + 1 := by rw [IntKind.wrap_i64]; omega
      have zn : IntKind.i64.wrap ((n : Int) + 1) = (n : Int) + 1 := by rw [IntKind.wrap_i64]; omega
      have hcv := hd_convA i (by omega) wr
      have cd := Lib.hid (CD.out _ g i n its (by omega) HI.out.1 HI.out.2 (HX.out.below L ((Below.refl _ _).alloc (Nat.le_refl _) (.cells #[.int .u8 1, .int .u8 (i : Int)] 5))))
      by_cases hf : n + q < m
      · have j2 : (n : Int) < ((m - q : Nat) : Int) := by omega
        generalize m - q = d at zs j2
        go_wp2_with (go_at_call 14; (with_reducible refine cd.out.mono ?_); rintro e w5 ⟨h5, -⟩; obtain ⟨A5, c5, its5, rfl, l5, o5, x5⟩ := h5 hf; have X5 := Lib.hid x5; clear x5)
        go_roundg (gk - 1)
        case measure => omega
        case rel => exact ⟨i + 1, n + 1, its5, by omega, by omega, by omega, by go_num, by go_num, ⟨l5, o5⟩, X5⟩
      · have j2 : ¬ (n : Int) < ((m - q : Nat) : Int) := by omega
        generalize m - q = d at zs j2
        go_wp2_with (go_at_call 14; (with_reducible refine cd.out.mono ?_); rintro e w5 ⟨-, h5⟩; obtain ⟨A5, c5, rfl, x5⟩ := h5 hf; have X5 := Lib.hid x5; clear x5)
        go_roundg (gk - 1)
        case measure => omega
        case rel =>
          exact ⟨i + 1, n, its, by omega, by omega, hnq, rfl, by go_num, ⟨HI.out.1, fun x hx => by
            obtain ⟨j, h1, h2⟩ := HI.out.2 x hx
            exact ⟨j, by omega, h2⟩⟩, X5⟩
    · have j1 : ¬ (i : Int) < (p : Int) := by omega
      clear hig hi hlt CD
      have hris : Rising its := by
        obtain ⟨_, ⟨F, b, _⟩, _⟩ := HX.out
        exact (L.rising b).1
      obtain ⟨its2, hits⟩ : ∃ l, putsSI m its (lB q) = l := ⟨_, rfl⟩
      have hp := Kp_puts (k := q) hris HI.out.1 HI.out.2 hq60 hnq
      rw [hits] at hp
      obtain ⟨hp0, hp1, hp2, hp3⟩ := hp
      have CW : Hid (∀ w w0 P A c, DX VD W w P g (HKp hc m q its) → w.ownsRow w0 31 2 (.slice A q c) q (itemCells (lB q)) → (∀ z, (Value.slice A q c).ownBlock = some z → z ∈ P) → Calls Tryz.prog 17 #[.pointer (some ⟨g, 0, none⟩), .agg #[.int .u64 9223372036854775808, .int .u64 0], .int .i64 4, .slice A q c] w fun e w' => e = .returned (.int .i64 0) ∧ DX VD W w' [] g (KpW hc m 0 its2)) := fun w w0 P A c h hr hP => by
        have z := h.win L hc 0 4 (.slice A q c) q (lB q) HH.lt (by decide) ⟨by decide, by decide⟩ (by omega) (LentAt.own hr) (fun x hx => lB_size hx) hP (by show 1 ≤ 1000; decide)
        rw [hcc] at z
        refine z.mono ?_
        rintro e w' (⟨z1 | ⟨x, z1, z2⟩, -⟩ | ⟨-, -, ⟨z1, -⟩ | ⟨-, rfl, z1, -⟩⟩)
        · exact absurd (Kp_may HH m q its) z1
        · obtain ⟨y, y1, rfl⟩ := mem_lB z1
          have y2 := HH.b y (by omega)
          have z2 : inB hc 0 (addrN (hkB y)) = false := z2
          rw [y2] at z2
          cases z2
        · exact absurd hp0 z1
        · rw [HKp_won, show putsSI (HKp hc m q its).most (HKp hc m q its).its (lB q) = its2 from hits] at z1
          exact ⟨rfl, z1.less (by simp)⟩
      have CL : Hid (∀ w, DX VD W w [] g (KpW hc m 0 its2) → Calls Tryz.prog 18 #[.pointer (some ⟨g, 0, none⟩)] w fun e w' => e = .returned (.int .i64 ((n + q : Nat) : Int)) ∧ DX VD W w' [] g (KpW hc m 0 its2)) := fun w h => by
        refine (h.len L).mono ?_
        rintro e w' ⟨rfl, hb⟩
        exact ⟨by rw [show (KpW hc m 0 its2).its.length = n + q from hp2], h.below L hb⟩
      have CE : Hid (∀ w, DX VD W w [] g (KpW hc m 0 its2) → Calls Tryz.prog 19 #[.pointer (some ⟨g, 0, none⟩)] w fun e w' => e = .returned (.int .i64 4) ∧ DX VD W w' [] g (KpW hc m 0 its2)) := fun w h => by
        refine (h.epoch L (by show 2 ≤ 1000; decide)).mono ?_
        rintro e w' ⟨⟨ep, rfl, hg⟩, hb⟩
        obtain rfl := KpW_great HH hg
        exact ⟨rfl, h.below L hb⟩
      have CZ : Hid (∀ w er, (if m ≤ n + q then (5 : Int) else 0) = er → DX VD W w [] g (KpW hc m 0 its2) → Calls Tryz.prog 14 #[.pointer (some ⟨g, 0, none⟩), .agg #[.int .i64 2, .string kzz, .string ⟨#[]⟩, .string ⟨#[]⟩, .int .i64 0]] w fun e w' => (∃ A c, e = .returned (.agg #[.int .i64 er, .string ⟨#[]⟩, .slice A 0 c, .bool false, .string ⟨#[]⟩, .int .i64 0])) ∧ Below W.heap.size W w') := fun w er her h => by
        refine (h.do_ L ⟨2, kzz, ⟨#[]⟩, ⟨#[]⟩, 0⟩ ⟨⟨by simp, by simp⟩, by show 2 ≤ maxLen; decide, Nat.zero_le _, Nat.zero_le _, ⟨by simp, by simp⟩⟩ (by show 2 ≤ 1000; decide) (by show 0 ≤ 1000; decide)).mono ?_
        rintro e w' ⟨t, s1, S, hd, rfl, ho, hx, -⟩
        have z := KpW_put HH hp1 hp2 hp3 hd
        rw [her] at z
        subst z
        obtain ⟨A, b, rfl⟩ := own_slice ho
        exact ⟨⟨A, b, rfl⟩, hx.base⟩
      clear hp0 hp1 hp2 hp3 hits hris HI
      obtain ⟨i0, hi0, hz0, hs0, hb0⟩ := hd_infoItems
      go_wp2_with fail
      obtain ⟨wd, rfl⟩ : ∃ wd : World, wd = wr := ⟨_, rfl⟩
      obtain ⟨gz, rfl⟩ : ∃ gz : Nat, gz = gk := ⟨_, rfl⟩
      go_loopg [11, 12] (q + 1) (fun gh s11 s12 wx => ∃ (j : Nat) (A : Option Addr) (c : Nat), j + gh = q + 1 ∧ j ≤ q ∧ s11 = .slice A j c ∧ s12 = .int .i64 (j : Nat) ∧ Hid (wx.ownsRow wd.heap.size 31 2 (.slice A j c) j (itemCells (lB j))) ∧ Hid (Below wd.heap.size wd wx))
      case atStart => exact ⟨0, none, 0, by omega, by omega, rfl, rfl, World.ownsRow_nil _ _ _ _, Below.refl _ _⟩
      case round =>
        obtain ⟨j, A, c, hjg, hj, rfl, rfl, HR, HB⟩ := hrel
        by_cases hlt : j < q
        · have j2 : (j : Int) < (q : Int) := by omega
          have zj : IntKind.i64.wrap ((j : Int) + 1) = (j : Int) + 1 := by rw [IntKind.wrap_i64]; omega
          have hcv := hd_convB j (by omega) wr
          have HSZ : Hid (wd.heap.size ≤ wr.heap.size) := HB.out.size
          go_wp2_with (at_builtin; go_loud ((refine wpList_append_any rfl (.tmp 101) (.tmp 107) 22 rfl wd.heap.size 31 i0 (.agg #[.string ⟨#[]⟩, .string ⟨#[]⟩]) 2 32 Tryz.underlying22 hi0 hz0 hs0 hb0 rfl (by decide) (.slice A j c) j (itemCells (lB j)) rfl ((HR.out.alloc _).alloc _) (.slice (some ⟨wr.heap.size + 1, 0, none⟩) 1 1) 1 (itemCells [(hkB j, ⟨#[]⟩)]) rfl (hd_item_src _ _ _ _ (by have z := heap_alloc_new (wr.alloc (.cells #[.int .u8 200, .int .u8 (j : Int)] 5)) (.cells #[.string (hkB j), .string ⟨#[]⟩] 31); rw [World.size_alloc] at z; exact z)) (hd_items_one _) (by unfold maxLen; omega) (by omega) (by have := HSZ.out; simp; omega) ?_); intro A3 c3 w3 ho3 hg3 hs3; have HR3 := Lib.hid ho3; have HB3 : Hid (Below wd.heap.size wd w3) := ((HB.out.alloc HSZ.out _).alloc (by have := HSZ.out; simp; omega) _).grown hg3 (by have := HSZ.out; simp; omega) (fun q hq => (HR.out.lt q hq).1); clear ho3 hg3 hs3))
          go_roundg (gk - 1)
          case measure => omega
          case rel => exact ⟨j + 1, A3, c3, by omega, by omega, rfl, by go_num, by rw [lB_succ, itemCells_append]; exact HR3.out, HB3.out⟩
        · have j2 : ¬ (j : Int) < (q : Int) := by omega
          obtain rfl : j = q := by omega
          have XP : Hid (DX VD W wr (Value.slice A j c).ownBlock.toList g (HKp hc m j its)) := (HX.out.more L HB.out (Q := (Value.slice A j c).ownBlock.toList) (fun z hz => HR.out.lt z (by simpa using hz))).less (fun z hz => List.mem_append_left _ hz)
          have zq : IntKind.i64.wrap ((n : Int) + (j : Int)) = ((n + j : Nat) : Int) := by rw [IntKind.wrap_i64]; omega
          by_cases hfin : m ≤ n + j
          · have cz := Lib.hid (fun w => CZ.out w 5 (if_pos hfin))
            have j3 : ¬ ((n + j : Nat) : Int) < (m : Int) := by omega
            generalize n + j = N at *
            go_wp2_with (first
              | (go_at_call 17; (with_reducible refine (CW.out _ _ _ _ _ XP.out HR.out (fun z hz => by simp [hz])).mono ?_); rintro e w6 ⟨rfl, x6⟩; have X6 := Lib.hid x6; clear x6)
              | (go_at_call 18; (with_reducible refine (CL.out _ X6.out).mono ?_); rintro e w7 ⟨rfl, x7⟩; have X7 := Lib.hid x7; clear x7)
              | (go_at_call 19; (with_reducible refine (CE.out _ X7.out).mono ?_); rintro e w8 ⟨rfl, x8⟩; have X8 := Lib.hid x8; clear x8)
              | (go_at_call 14; (with_reducible refine (cz.out _ X8.out).mono ?_); rintro e w9 ⟨⟨A9, c9, rfl⟩, h9⟩))
            go_ret
            exact ⟨by simp; omega, h9⟩
          · have cz := Lib.hid (fun w => CZ.out w 0 (if_neg hfin))
            have j3 : ((n + j : Nat) : Int) < (m : Int) := by omega
            generalize n + j = N at *
            go_wp2_with (first
              | (go_at_call 17; (with_reducible refine (CW.out _ _ _ _ _ XP.out HR.out (fun z hz => by simp [hz])).mono ?_); rintro e w6 ⟨rfl, x6⟩; have X6 := Lib.hid x6; clear x6)
              | (go_at_call 18; (with_reducible refine (CL.out _ X6.out).mono ?_); rintro e w7 ⟨rfl, x7⟩; have X7 := Lib.hid x7; clear x7)
              | (go_at_call 19; (with_reducible refine (CE.out _ X7.out).mono ?_); rintro e w8 ⟨rfl, x8⟩; have X8 := Lib.hid x8; clear x8)
              | (go_at_call 14; (with_reducible refine (cz.out _ X8.out).mono ?_); rintro e w9 ⟨⟨A9, c9, rfl⟩, h9⟩))
            go_ret
            exact ⟨by first | rfl | simp, h9⟩
end
end Go.Proofs.YthgndgoljchnfaaGreat
