/-
  GetPacket, walked.
-/
import Derived.Test.YtbnmddopgbhapaaLetInGet
namespace Go.Proofs.Ytbnmddopgbhapaa
open Go.RowKit

abbrev PZ : Array Value := #[.int .i64 0, .int .i64 0, .int .i64 0, .int .i64 0, .int .i64 0, .int .i64 0, .int .i64 0, .int .i64 0, .int .i64 0, .string ⟨#[]⟩, .string ⟨#[]⟩, .string ⟨#[]⟩, .int .i64 0, .int .i64 0, .string ⟨#[]⟩, .slice none 0 0, .bool false, .string ⟨#[]⟩, .int .i64 0, .int .u64 0, .int .u64 0, .int .i64 0, .slice none 0 0, .int .i64 0, .int .i64 0]
theorem cells25 {cs ds : Array Value} (h : cs.size = 25) (hd : ds.size = 25) (hh : ∀ i, i < 25 → cs[i]? = ds[i]?) : cs = ds := by
  apply Array.ext_getElem?
  intro i
  rcases Nat.lt_or_ge i 25 with h' | h'
  · exact hh i h'
  · rw [Array.getElem?_eq_none (by omega), Array.getElem?_eq_none (by omega)]
theorem lf25_zero : ∀ i (h : i < LF25.length), PZ[(LF25[i]).2]? = some (zeroK (LF25[i]).1) := by
  intro i h
  have h' : i < 25 := h
  have hc : i = 0 ∨ i = 1 ∨ i = 2 ∨ i = 3 ∨ i = 4 ∨ i = 5 ∨ i = 6 ∨ i = 7 ∨ i = 8 ∨ i = 9 ∨ i = 10 ∨ i = 11 ∨ i = 12 ∨ i = 13 ∨ i = 14 ∨ i = 15 ∨ i = 16 ∨ i = 17 ∨ i = 18 ∨ i = 19 ∨ i = 20 ∨ i = 21 ∨ i = 22 ∨ i = 23 ∨ i = 24 := by omega
  rcases hc with rfl | rfl | rfl | rfl | rfl | rfl | rfl | rfl | rfl | rfl | rfl | rfl | rfl | rfl | rfl | rfl | rfl | rfl | rfl | rfl | rfl | rfl | rfl | rfl | rfl <;> rfl
set_option maxRecDepth 20000 in
theorem got25 {w : World} {B : Nat} {cs : Array Value} : ∀ {xs : List FV} {vs : List Value}, xs.length = 25 → vs.length = 25 → cs.size = 25 → (∀ i (h : i < LF25.length) (h2 : i < vs.length) (h3 : i < xs.length), cs[(LF25[i]).2]? = some vs[i] ∧ FvAt w B (LF25[i]).1 vs[i] xs[i]) → (∀ i i' (h : i < vs.length) (h2 : i' < vs.length), i ≠ i' → ∀ q, (vs[i]).ownBlock = some q → (vs[i']).ownBlock ≠ some q) → (∀ i (h : i < xs.length), i = 11 ∨ i = 12 → 0 ≤ (xs[i]).n) →
    ∃ S1 S2, cs = (PV.of xs).cells S1 S2 ∧ w.ownsRow B 56 2 S1 (PV.of xs).lt.ti.length (itemCells (PV.of xs).lt.ti) ∧ w.ownsRow B 56 2 S2 (PV.of xs).lt.li.length (itemCells (PV.of xs).lt.li) ∧ ∀ q, S1.ownBlock = some q → S2.ownBlock ≠ some q
  | [x0, x1, x2, x3, x4, x5, x6, x7, x8, x9, x10, x11, x12, x13, x14, x15, x16, x17, x18, x19, x20, x21, x22, x23, x24], [v0, v1, v2, v3, v4, v5, v6, v7, v8, v9, v10, v11, v12, v13, v14, v15, v16, v17, v18, v19, v20, v21, v22, v23, v24], _, _, hs, hd, hap, hnn => by
    have n7 : 0 ≤ x11.n := hnn 11 (by simp) (.inl rfl)
    have n8 : 0 ≤ x12.n := hnn 12 (by simp) (.inr rfl)
    have e11 : Value.int .u64 x11.n = .int .u64 ((x11.n.toNat : Nat) : Int) := by rw [Int.toNat_of_nonneg n7]
    have e12 : Value.int .u64 x12.n = .int .u64 ((x12.n.toNat : Nat) : Int) := by rw [Int.toNat_of_nonneg n8]
    obtain ⟨a0, b0⟩ := hd 0 (by decide) (by simp) (by simp)
    obtain ⟨a1, b1⟩ := hd 1 (by decide) (by simp) (by simp)
    obtain ⟨a2, b2⟩ := hd 2 (by decide) (by simp) (by simp)
    obtain ⟨a3, b3⟩ := hd 3 (by decide) (by simp) (by simp)
    obtain ⟨a4, b4⟩ := hd 4 (by decide) (by simp) (by simp)
    obtain ⟨a5, b5⟩ := hd 5 (by decide) (by simp) (by simp)
    obtain ⟨a6, b6⟩ := hd 6 (by decide) (by simp) (by simp)
    obtain ⟨a7, b7⟩ := hd 7 (by decide) (by simp) (by simp)
    obtain ⟨a8, b8⟩ := hd 8 (by decide) (by simp) (by simp)
    obtain ⟨a9, b9⟩ := hd 9 (by decide) (by simp) (by simp)
    obtain ⟨a10, b10⟩ := hd 10 (by decide) (by simp) (by simp)
    obtain ⟨a11, b11⟩ := hd 11 (by decide) (by simp) (by simp)
    obtain ⟨a12, b12⟩ := hd 12 (by decide) (by simp) (by simp)
    obtain ⟨a13, b13⟩ := hd 13 (by decide) (by simp) (by simp)
    obtain ⟨a14, b14⟩ := hd 14 (by decide) (by simp) (by simp)
    obtain ⟨a15, b15⟩ := hd 15 (by decide) (by simp) (by simp)
    obtain ⟨a16, b16⟩ := hd 16 (by decide) (by simp) (by simp)
    obtain ⟨a17, b17⟩ := hd 17 (by decide) (by simp) (by simp)
    obtain ⟨a18, b18⟩ := hd 18 (by decide) (by simp) (by simp)
    obtain ⟨a19, b19⟩ := hd 19 (by decide) (by simp) (by simp)
    obtain ⟨a20, b20⟩ := hd 20 (by decide) (by simp) (by simp)
    obtain ⟨a21, b21⟩ := hd 21 (by decide) (by simp) (by simp)
    obtain ⟨a22, b22⟩ := hd 22 (by decide) (by simp) (by simp)
    obtain ⟨a23, b23⟩ := hd 23 (by decide) (by simp) (by simp)
    obtain ⟨a24, b24⟩ := hd 24 (by decide) (by simp) (by simp)
    refine ⟨v21, v13, cells25 hs rfl fun i hi => ?_, b21, b13, fun q hq => hap 21 13 (by simp) (by simp) (by decide) q hq⟩
    have hc : i = 0 ∨ i = 1 ∨ i = 2 ∨ i = 3 ∨ i = 4 ∨ i = 5 ∨ i = 6 ∨ i = 7 ∨ i = 8 ∨ i = 9 ∨ i = 10 ∨ i = 11 ∨ i = 12 ∨ i = 13 ∨ i = 14 ∨ i = 15 ∨ i = 16 ∨ i = 17 ∨ i = 18 ∨ i = 19 ∨ i = 20 ∨ i = 21 ∨ i = 22 ∨ i = 23 ∨ i = 24 := by omega
    rcases hc with rfl | rfl | rfl | rfl | rfl | rfl | rfl | rfl | rfl | rfl | rfl | rfl | rfl | rfl | rfl | rfl | rfl | rfl | rfl | rfl | rfl | rfl | rfl | rfl | rfl
    · exact a0.trans (congrArg some b0)
    · exact a1.trans (congrArg some b1)
    · exact a2.trans (congrArg some b2)
    · exact a3.trans (congrArg some b3)
    · exact a4.trans (congrArg some b4)
    · exact a5.trans (congrArg some b5)
    · exact a6.trans (congrArg some b6)
    · exact a7.trans (congrArg some b7)
    · exact a14.trans (congrArg some b14)
    · exact a15.trans (congrArg some b15)
    · exact a16.trans (congrArg some b16)
    · exact a17.trans (congrArg some b17)
    · exact a18.trans (congrArg some b18)
    · exact a19.trans (congrArg some b19)
    · exact a20.trans (congrArg some b20)
    · exact a21
    · exact a22.trans (congrArg some b22)
    · exact a23.trans (congrArg some b23)
    · exact a24.trans (congrArg some b24)
    · exact a11.trans (congrArg some (Eq.trans b11 e11))
    · exact a12.trans (congrArg some (Eq.trans b12 e12))
    · exact a8.trans (congrArg some b8)
    · exact a13
    · exact a9.trans (congrArg some b9)
    · exact a10.trans (congrArg some b10)
set_option maxRecDepth 20000 in
theorem got4 {w : World} {B : Nat} {cs : Array Value} : ∀ {xs : List FV} {vs : List Value}, xs.length = 4 → vs.length = 4 → cs.size = 25 → (∀ i (h : i < LF25.length) (h2 : i < vs.length) (h3 : i < xs.length), cs[(LF25[i]).2]? = some vs[i] ∧ FvAt w B (LF25[i]).1 vs[i] xs[i]) → (∀ i (h : i < LF25.length), 4 ≤ i → cs[(LF25[i]).2]? = some (zeroK (LF25[i]).1)) →
    cs = (PV.of xs).cells (.slice none 0 0) (.slice none 0 0)
  | [x0, x1, x2, x3], [v0, v1, v2, v3], _, _, hs, hd, ht => by
    obtain ⟨a0, b0⟩ := hd 0 (by decide) (by simp) (by simp)
    obtain ⟨a1, b1⟩ := hd 1 (by decide) (by simp) (by simp)
    obtain ⟨a2, b2⟩ := hd 2 (by decide) (by simp) (by simp)
    obtain ⟨a3, b3⟩ := hd 3 (by decide) (by simp) (by simp)
    refine cells25 hs rfl fun i hi => ?_
    have hc : i = 0 ∨ i = 1 ∨ i = 2 ∨ i = 3 ∨ i = 4 ∨ i = 5 ∨ i = 6 ∨ i = 7 ∨ i = 8 ∨ i = 9 ∨ i = 10 ∨ i = 11 ∨ i = 12 ∨ i = 13 ∨ i = 14 ∨ i = 15 ∨ i = 16 ∨ i = 17 ∨ i = 18 ∨ i = 19 ∨ i = 20 ∨ i = 21 ∨ i = 22 ∨ i = 23 ∨ i = 24 := by omega
    rcases hc with rfl | rfl | rfl | rfl | rfl | rfl | rfl | rfl | rfl | rfl | rfl | rfl | rfl | rfl | rfl | rfl | rfl | rfl | rfl | rfl | rfl | rfl | rfl | rfl | rfl
    · exact a0.trans (congrArg some b0)
    · exact a1.trans (congrArg some b1)
    · exact a2.trans (congrArg some b2)
    · exact a3.trans (congrArg some b3)
    · exact ht 4 (by decide) (by decide)
    · exact ht 5 (by decide) (by decide)
    · exact ht 6 (by decide) (by decide)
    · exact ht 7 (by decide) (by decide)
    · exact ht 14 (by decide) (by decide)
    · exact ht 15 (by decide) (by decide)
    · exact ht 16 (by decide) (by decide)
    · exact ht 17 (by decide) (by decide)
    · exact ht 18 (by decide) (by decide)
    · exact ht 19 (by decide) (by decide)
    · exact ht 20 (by decide) (by decide)
    · exact ht 21 (by decide) (by decide)
    · exact ht 22 (by decide) (by decide)
    · exact ht 23 (by decide) (by decide)
    · exact ht 24 (by decide) (by decide)
    · exact ht 11 (by decide) (by decide)
    · exact ht 12 (by decide) (by decide)
    · exact ht 8 (by decide) (by decide)
    · exact ht 13 (by decide) (by decide)
    · exact ht 9 (by decide) (by decide)
    · exact ht 10 (by decide) (by decide)
/-- the packet that was read -/
def GotP (w : World) (b B : Nat) (s : ByteArray) : Prop := ∃ q S1 S2, getP s = some q ∧ w.heap[b]? = some (.cells (q.cells S1 S2) 34) ∧ w.ownsRow B 56 2 S1 q.lt.ti.length (itemCells q.lt.ti) ∧ w.ownsRow B 56 2 S2 q.lt.li.length (itemCells q.lt.li) ∧ ∀ q, S1.ownBlock = some q → S2.ownBlock ≠ some q
theorem parts25 {s r : ByteArray} {xs : List FV} (h : getF K25 s = some (xs, r)) : ∃ ys zs r4, getF K4 s = some (ys, r4) ∧ getF LK r4 = some (zs, r) ∧ xs = ys ++ zs := by
  rw [K25, getF_append] at h
  cases g4 : getF K4 s with
  | none => rw [g4] at h; cases h
  | some p =>
    obtain ⟨ys, r4⟩ := p
    rw [g4] at h
    simp only at h
    cases g : getF LK r4 with
    | none => rw [g] at h; cases h
    | some p2 =>
      obtain ⟨zs, r5⟩ := p2
      rw [g] at h
      have e := Option.some.inj h
      have e1 : ys ++ zs = xs := congrArg Prod.fst e
      have e2 : r5 = r := congrArg Prod.snd e
      subst e1 e2
      exact ⟨ys, zs, r4, rfl, g, rfl⟩
theorem inyes_end {W w : World} {b g : Nat} {s : ByteArray} (h : InYes W b g s w) : ∃ r, RdO w g (some r) ∧ (r.size = 0 → GotP w b W.heap.size s) ∧ (r.size ≠ 0 → getP s = none) := by
  obtain ⟨cs, xs, vs, r, ⟨h0, h⟩ | ⟨h0, h⟩⟩ := h
  · have h4 : getF K4 s = some (xs, r) := h.got
    refine ⟨r, h.rd, fun hr => ?_, fun hr => ?_⟩
    · have hl : xs.length = 4 := getF_len _ _ _ _ h4
      have hg : getP s = some (PV.of xs) := by
        unfold getP
        rw [h4]
        simp only
        rw [if_pos h0, if_pos hr]
      have e := got4 hl h.lens h.size h.done h.todo
      have ez : (PV.of xs).lt = LV.of [] := by
        have := (x4_of xs [] hl (getF_canon _ _ _ _ h4).2.1).2.1
        rwa [List.append_nil] at this
      refine ⟨PV.of xs, _, _, hg, e ▸ h.blk, ?_, ?_, fun q hq => by cases hq⟩
      · rw [ez]; exact World.ownsRow_nil _ _ _ _
      · rw [ez]; exact World.ownsRow_nil _ _ _ _
    · unfold getP
      rw [h4]
      simp only
      rw [if_pos h0, if_neg hr]
  · have h25 : getF K25 s = some (xs, r) := h.got
    obtain ⟨ys, zs, r4, g4, gl, e⟩ := parts25 h25
    have hn0 : (ys.getD 2 (nv 0)).n ≠ 0 := by rw [← first_of g4 h25]; exact h0
    refine ⟨r, h.rd, fun hr => ?_, fun hr => ?_⟩
    · have hl : xs.length = 25 := getF_len _ _ _ _ h25
      have hc := (getF_canon _ _ _ _ h25).2.1
      have hg : getP s = some (PV.of xs) := by
        unfold getP
        rw [g4]
        simp only
        rw [if_neg hn0, gl]
        simp only
        rw [if_pos hr, e]
      obtain ⟨S1, S2, e1, e2, e3, e4⟩ := got25 hl h.lens h.size h.done h.apart (fun i hi hh => by
        rcases hh with rfl | rfl
        · exact (hc 11 (by decide) hi).1.1
        · exact (hc 12 (by decide) hi).1.1)
      exact ⟨PV.of xs, S1, S2, hg, e1 ▸ h.blk, e2, e3, e4⟩
    · unfold getP
      rw [g4]
      simp only
      rw [if_neg hn0, gl]
      simp only
      rw [if_neg hr]
theorem inno_end {s : ByteArray} (h : InNo s) : getP s = none := by
  unfold getP
  rcases h with h | ⟨xs, r, h4, hn, h25⟩
  · rw [h]
  · rw [h4]
    simp only
    rw [if_neg hn]
    rw [K25, getF_append, h4] at h25
    simp only at h25
    cases g : getF LK r with
    | none => rfl
    | some p => rw [g] at h25; cases h25
theorem k4_none {s : ByteArray} {j : Nat} (hj : j < 4) (h : getF ((LF25.take (j + 1)).map (·.1)) s = none) : getF K4 s = none := by
  have e : (LF25.take (j + 1)).map (·.1) ++ K4.drop (j + 1) = K4 := by
    have hc : j = 0 ∨ j = 1 ∨ j = 2 ∨ j = 3 := by omega
    rcases hc with rfl | rfl | rfl | rfl <;> rfl
  have := getF_none_append _ (K4.drop (j + 1)) s h
  rwa [e] at this
/-- a packet's fields, read -/
theorem readP_any (W : World) (b g : Nat) (s : ByteArray) (A : Option Addr) (c : Nat) (hb : W.heap[b]? = some (.cells PZ 34)) (hR : RdO W g (some s)) (hne : b ≠ g) (hs : s.size ≤ 9223372036854775807)
    (hA : FieldsAt W A (packetFs b)) (hAb : ∀ q o, A = some ⟨q, o, none⟩ → q ≠ b ∧ q ≠ g) :
    Calls Try.prog 48 #[.pointer (some ⟨g, 0, none⟩), .slice A 5 c] W (ReadPost (fun w' => InYes W b g s w' ∧ Touch [b, g] W w') (fun w' => InNo s ∧ Touch [b, g] W w')) := by
  have hbl := lt_of_heap hb
  have hgl : g < W.heap.size := hR.1
  have key := read_any g A c (packetFs b) (fun j w' => Touch [b, g] W w' ∧ ((j ≤ 4 ∧ ∃ cs xs vs r, RdSt W w' b g 34 25 LF25 j s cs xs vs r) ∨ (j = 5 ∧ InYes W b g s w'))) (fun w' => InNo s ∧ Touch [b, g] W w') W (show 5 ≤ 1000 by decide) ?_ ?_ ?_
  · refine key.mono fun e w' hp => ?_
    rcases hp with ⟨he, ht, h1⟩ | hp
    · rcases h1 with ⟨h5, _⟩ | ⟨_, h1⟩
      · exact absurd h5 (show ¬ 5 ≤ 4 by decide)
      · exact .inl ⟨he, h1, ht⟩
    · exact .inr hp
  · rintro k w' ⟨ht, -⟩
    obtain ⟨q, off, hf⟩ := hA
    refine ⟨q, off, fun i hi => ?_⟩
    obtain ⟨h1, h2, h3⟩ := hf i hi
    obtain ⟨n1, n2⟩ := hAb q off h1
    exact ⟨h1, Nat.lt_of_lt_of_le h2 ht.size, (ht.cell (p := ⟨q, off + i, none⟩) h2 (by simp only [List.mem_cons, List.not_mem_nil, or_false]; omega)).trans h3⟩
  · rintro k hk w' ⟨ht, ⟨hk4, cs, xs, vs, r, h⟩ | ⟨rfl, _⟩⟩
    · rcases Nat.lt_or_ge k 4 with h4 | h4
      · rw [lf25_take b k h4 hk (by rw [lf25_len]; omega)]
        obtain ⟨U, x, i, hf, hm1, hm2, hm3, hcall⟩ := rdSt_step h (by rw [lf25_len]; omega) hne hs hbl hgl lf25_off
        refine ⟨U, x, i, hf, hm1, hm2, hm3, hcall.mono fun e w2 hp => ?_⟩
        obtain ⟨ok, o', he, hr, hy, hno⟩ := hp
        refine ⟨ok, o', he, hr, fun h1 h2 => ?_, fun h1 => ?_⟩
        · obtain ⟨h3, h5⟩ := hy h1 h2
          exact ⟨ht.trans h5 (fun x hx => .inl hx), .inl ⟨by omega, h3⟩⟩
        · obtain ⟨h3, h5, _⟩ := hno h1
          exact ⟨.inl (k4_none h4 h3), h5⟩
      · obtain rfl : k = 4 := by omega
        refine ⟨89, _, 76, rfl, fun _ => by kernel_rfl, fun _ => by kernel_rfl, fun _ _ => by kernel_rfl, (inget_any h hne hs hbl hgl).mono fun e w2 hp => ?_⟩
        obtain ⟨ok, o', he, hr, hy, hno⟩ := hp
        exact ⟨ok, o', he, hr, fun h1 h2 => ⟨(hy h1 h2).2, .inr ⟨rfl, (hy h1 h2).1⟩⟩, hno⟩
    · exact absurd hk (show ¬ 5 < 5 by decide)
  · exact ⟨Touch.refl _ _, .inl ⟨by decide, PZ, [], [], s, hb, rfl, hR, Nat.le_refl _, Touch.refl _ _, rfl, rfl, fun i hi h2 => absurd h2 (Nat.not_lt_zero _), fun i hi _ => lf25_zero i hi, fun i i' h => absurd h (Nat.not_lt_zero _)⟩⟩
def AllP (W : World) (b : Nat) (s : ByteArray) (e : Ending) (w' : World) : Prop :=
  Touch [b] W w' ∧ ((e = .returned (.bool false) ∧ getP s = none) ∨ (e = .returned (.bool true) ∧ GotP w' b W.heap.size s))
set_option maxRecDepth 20000 in
set_option maxHeartbeats 2000000 in
theorem readAllP_any (W : World) (b : Nat) (s : ByteArray) (A : Option Addr) (c : Nat) (hb : W.heap[b]? = some (.cells PZ 34)) (hs : s.size ≤ 9223372036854775807)
    (hA : FieldsAt W A (packetFs b)) (hAb : ∀ q o, A = some ⟨q, o, none⟩ → q ≠ b ∧ q < W.heap.size) :
    Calls Try.prog 33 #[.string s, .slice A 5 c] W (AllP W b s) := by
  have hbl := lt_of_heap hb
  have CF := Lib.hid (from_any s W)
  have CR : Hid (∀ w1, Below W.heap.size W w1 → Rq w1 W.heap.size s true → Calls Try.prog 48 #[.pointer (some ⟨W.heap.size, 0, none⟩), .slice A 5 c] w1 (ReadPost (fun w' => InYes w1 b W.heap.size s w' ∧ Touch [b, W.heap.size] w1 w') (fun w' => InNo s ∧ Touch [b, W.heap.size] w1 w'))) := fun w1 h1 h2 =>
    readP_any w1 b W.heap.size s A c ((h1.block b hbl).trans hb) h2 (by omega) hs (hA.below h1) (fun q o hq => by have := hAb q o hq; exact ⟨this.1, by omega⟩)
  have HBL := Lib.hid hbl
  clear hb hs hA hAb hbl
  go_enter Try.func33, Try.ntmps33
  go_wp2_with (first
    | (go_at_call 47; ((with_reducible refine (CF.out).mono ?_); rintro e w1 ⟨rfl, hb1, hr1⟩; have CR1 := Lib.hid (CR.out w1 hb1 hr1); have HB1 := Lib.hid hb1; clear hb1 hr1))
    | (go_at_call 48; ((with_reducible refine (CR1.out).mono ?_); rintro e w2 (⟨rfl, hyes⟩ | ⟨rfl, hno⟩)))
    | (go_at_call 49; fail))
  · obtain ⟨hy, ht⟩ := hyes
    obtain ⟨r, hrd, hz0, hz1⟩ := inyes_end hy
    have HT : Hid (Touch [b] W w2) := (Touch.ofBelow (F := [b]) HB1.out).trans ht (fun x hx => by simp only [List.mem_cons, List.not_mem_nil, or_false] at hx ⊢; rcases hx with rfl | rfl; exact .inl rfl; exact .inr (Nat.le_refl _))
    have CE : Hid (Calls Try.prog 49 #[.pointer (some ⟨W.heap.size, 0, none⟩)] w2 fun e w' => e = .returned (.bool (noneB r)) ∧ w2 = w') := rend_any W.heap.size (some r) w2 hrd
    have H0 := Lib.hid hz0
    have H1 := Lib.hid hz1
    clear hy ht hrd hz0 hz1
    generalize hz : noneB r = z at CE
    have HZ := Lib.hid hz
    clear hz
    go_wp2_with (first
      | (go_at_call 49; ((with_reducible refine (CE.out).mono ?_); rintro e w3 ⟨rfl, rfl⟩)))
    go_ret
    have hz := HZ.out
    rw [noneB_size] at hz
    refine ⟨HT.out, ?_⟩
    cases z with
    | true =>
      obtain ⟨q, S1, S2, g1, g2, g3, g4, g5⟩ := H0.out (of_decide_eq_true hz)
      exact .inr ⟨rfl, q, S1, S2, g1, g2, own_mono g3 HB1.out.size, own_mono g4 HB1.out.size, g5⟩
    | false => exact .inl ⟨rfl, H1.out (of_decide_eq_false hz)⟩
  · have HNO := Lib.hid hno
    clear hno
    go_wp2_with fail
    go_ret
    exact ⟨(Touch.ofBelow (F := [b]) HB1.out).trans HNO.out.2 (fun x hx => by simp only [List.mem_cons, List.not_mem_nil, or_false] at hx ⊢; rcases hx with rfl | rfl; exact .inl rfl; exact .inr (Nat.le_refl _)), .inl ⟨rfl, inno_end HNO.out.1⟩⟩
end Go.Proofs.Ytbnmddopgbhapaa
