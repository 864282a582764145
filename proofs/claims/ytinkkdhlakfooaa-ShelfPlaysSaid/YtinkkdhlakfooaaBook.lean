/-
  The walks of the book of lists: the marks.
  The book of lists: what its block holds; a list more (Items).
  The walks of the book of lists: stillItems, markedItems.
-/
import Derived.Test.YtinkkdhlakfooaaBookItems
import Derived.Test.YtinkkdhlakfooaaAppendOld
import Derived.Test.YtinkkdhlakfooaaKeyWalks
import Derived.Deep.RegionLaw
import Derived.Deep.QuietTactic
import Derived.BigQuiet
import Derived.Deep.DeepCutAuto
namespace Go.Proofs.Ytinkkdhlakfooaa
open Go.RowKit

/-- 'string' of a row that the walk has just laid -/
theorem conv_lit (l : List UInt8) (W : World) (n : Nat) (hn : n = l.length) (hl : l.length ≤ 100000) (C : Array Value) (hC : C = (l.map cell8).toArray) :
    (convert 96 9 (.slice (some ⟨W.heap.size, 0, none⟩) n n)).run Try.prog (W.alloc (.cells C 5)) = .ok (.string (txt l)) (W.alloc (.cells C 5)) := by
  subst hn hC
  have h := World.ownsRow_lit W (l.map cell8).toArray (e := 5) (size := 1) (base := W.heap.size) l.length (Nat.le_refl _) (by unfold maxLen; omega) (by simp)
  rw [List.toList_toArray] at h
  exact run_own_string (P := Try.prog) 96 9 h Try.underlying96 Try.underlying5 Try.underlying9
/-- the mark of list i, place k -/
def nameL (i k : Nat) : List UInt8 := [109, UInt8.ofNat (65 + i % 26), UInt8.ofNat (65 + i / 26 % 26), UInt8.ofNat (48 + k % 10), UInt8.ofNat (48 + k / 10 % 10), UInt8.ofNat (48 + k / 100 % 10)]
theorem nameL_cells (i k : Nat) : #[Value.int .u8 109, .int .u8 (65 + (i : Int) % 26), .int .u8 (65 + (i : Int) / 26 % 26), .int .u8 (48 + (k : Int) % 10), .int .u8 (48 + (k : Int) / 10 % 10), .int .u8 (48 + (k : Int) / 100 % 10)] = ((nameL i k).map cell8).toArray := by
  simp [nameL, cell8]; omega

set_option maxHeartbeats 1000000 in
theorem name_any (i k : Nat) (W : World) (hi : i ≤ 100000) (hk : k ≤ 1000000) :
    Calls Try.prog 97 #[.int .i64 (i : Nat), .int .i64 (k : Nat)] W fun e w' => e = .returned (.string (txt (nameL i k))) ∧ Below W.heap.size W w' := by
  have hcv := conv_lit (nameL i k) W 6 rfl (by simp [nameL]) _ (nameL_cells i k)
  go_enter Try.func97, Try.ntmps97
  go_wp2
  go_ret
  exact ⟨rfl, (Below.refl _ _).alloc (Nat.le_refl _) _⟩
def markL (i from_ n : Nat) : List Item := (List.range' from_ n).map fun k => (txt (nameL i k), ByteArray.empty)
theorem markL_length (i f n : Nat) : (markL i f n).length = n := by simp [markL]
theorem markL_snoc (i f n : Nat) : markL i f (n + 1) = markL i f n ++ [(txt (nameL i (f + n)), ByteArray.empty)] := by
  simp [markL, List.range'_1_concat]

set_option maxHeartbeats 2000000 in
theorem markItems_any (i f n : Nat) (W : World) (hi : i ≤ 100000) (hf : f ≤ 100000) (hn : n ≤ 100000) :
    Calls Try.prog 87 #[.int .i64 (i : Nat), .int .i64 (f : Nat), .int .i64 (n : Nat)] W (NewItems W (markL i f n)) := by
  obtain ⟨i0, z0, hi0, hz, hs2, hb32, hzc⟩ := infoItem
  go_enter Try.func87, Try.ntmps87
  go_wp2
  go_loopg [7, 8] (n + 1) (fun gh s7 s8 wx => ∃ (j k : Nat) (A : Option Addr) (c : Nat), j + gh = n + 1 ∧ j ≤ n ∧ f + j ≤ k ∧ k ≤ f + j ∧ s8 = .int .i64 (k : Nat) ∧ s7 = .slice A j c ∧ Hid (wx.ownsRow W.heap.size 53 2 (.slice A j c) j (itemCells (markL i f j))) ∧ Hid (Below W.heap.size W wx))
  case atStart => exact ⟨0, f, none, 0, by omega, by omega, by omega, by omega, rfl, rfl, World.ownsRow_nil _ _ _ _, Below.refl _ _⟩
  case round =>
    obtain ⟨j, k, A, c, hjg, hj, hk1, hk2, rfl, rfl, HO, HB⟩ := hrel
    by_cases hlt : j < n
    · have CN := Lib.hid (fun W1 => name_any i k W1 hi (by omega))
      have hd : decide ((k : Int) < (f : Int) + (n : Int)) = true := by simp; omega
      have ht : txt (nameL i (f + j)) = txt (nameL i k) := by rw [show f + j = k by omega]
      have HT := Lib.hid ht
      clear ht
      generalize txt (nameL i k) = x at *
      go_wp2_with (first
        | (go_at_call 97; ((with_reducible refine (CN.out _).mono ?_); rintro e w1 ⟨rfl, hb1⟩; have HB1 := Lib.hid (acc HB.out hb1); have HO1 := Lib.hid (own_step HO.out hb1); clear hb1))
        | (at_builtin; go_must (refine wpList_append_own _ rfl (.tmp 17) (.tmp 22) 49 rfl W.heap.size 53 i0 z0 2 32 Try.underlying49 hi0 hz hs2 hb32 hzc (by decide) _ _ _ rfl (HO1.out.alloc _) ⟨w1.heap.size, 0, none⟩ 1 1 (itemCells [(x, ByteArray.empty)]) rfl rfl (item_new w1 x ByteArray.empty) (items_one _) (by unfold maxLen; omega) (by omega) (by have := HB1.out.size; simp <;> omega) ?_); intro x2 w2 hown2 hg2 hnil2; obtain ⟨A2, c2, rfl⟩ := own_slice hown2; have HB2 := Lib.hid ((HB1.out.alloc HB1.out.size _).grown hg2 (by have := HB1.out.size; simp <;> omega) (own_lt HO1.out)); have HO2 := Lib.hid hown2; clear hown2 hg2 hnil2))
      go_roundg (gk - 1)
      case measure => omega
      case rel => exact ⟨j + 1, k + 1, A2, c2, by omega, by omega, by omega, by omega, by go_num, rfl, by show World.ownsRow _ _ _ _ _ _ _; rw [markL_snoc, itemCells_append, HT.out]; exact HO2.out, HB2⟩
    · obtain rfl : j = n := by omega
      have hd : decide ((k : Int) < (f : Int) + (j : Int)) = false := by simp; omega
      go_wp2
      go_ret
      exact ⟨A, c, by rw [markL_length]; rfl, by rw [markL_length]; exact HO.out, HB.out⟩
end Go.Proofs.Ytinkkdhlakfooaa
namespace Go.Proofs.Ytinkkdhlakfooaa
open Go.RowKit

def blk (v : Value) : List Nat := v.ownBlock.toList
theorem mem_blk {v : Value} {q : Nat} : q ∈ blk v ↔ v.ownBlock = some q := by simp [blk]
def rowOk (W : World) (x : Value × List Item) : Prop := ∃ A c, x.1 = .slice A x.2.length c ∧ Row W x.1 x.2
def fps (es : List (Value × List Item)) : List Nat := es.flatMap fun x => blk x.1
theorem mem_fps {es : List (Value × List Item)} {q : Nat} : q ∈ fps es ↔ ∃ x ∈ es, q ∈ blk x.1 := by simp [fps]
theorem fps_snoc (es : List (Value × List Item)) (x : Value × List Item) : fps (es ++ [x]) = fps es ++ blk x.1 := by simp [fps]
/-- the book at block g: the lists es that it keeps (their slices in a row at va), copies of them us (at vb); all other lists are none -/
structure BK (W : World) (g : Nat) (va vb : Value) (es us : List (Value × List Item)) : Prop where
  lt : g < W.heap.size
  none : ∀ j, j < 14 → j ≠ 6 → j ≠ 7 → W.cell? ⟨g, j, none⟩ = some (.slice none 0 0)
  c6 : W.cell? ⟨g, 6, .none⟩ = some va
  c7 : W.cell? ⟨g, 7, .none⟩ = some vb
  f6 : W.frozen? ⟨g, 6, .none⟩ = false
  f7 : W.frozen? ⟨g, 7, .none⟩ = false
  own6 : W.ownsRow 0 49 1 va es.length (es.map (·.1))
  own7 : W.ownsRow 0 49 1 vb us.length (us.map (·.1))
  rows : ∀ x ∈ es, rowOk W x
  copies : ∀ x ∈ us, rowOk W x
  same : us.map (·.2) = es.map (·.2)
  apart : (g :: (blk va ++ (blk vb ++ fps es))).Nodup
  beside : ∀ q ∈ fps us, q ≠ g ∧ q ∉ blk va ∧ q ∉ blk vb
/-- all blocks of the book -/
def BF (g : Nat) (va vb : Value) (es us : List (Value × List Item)) : List Nat := g :: (blk va ++ (blk vb ++ (fps es ++ fps us)))
theorem rowOk.touch {W W1 : World} {x : Value × List Item} {G : List Nat} (h : rowOk W x) (ht : Touch G W W1) (hn : ∀ q ∈ blk x.1, q ∉ G) : rowOk W1 x := by
  obtain ⟨A, c, e, hr⟩ := h
  exact ⟨A, c, e, ht.row hr (fun q hq => hn q (mem_blk.2 hq))⟩
theorem BK.touch {W W1 : World} {g : Nat} {va vb : Value} {es us : List (Value × List Item)} {G : List Nat} (h : BK W g va vb es us) (ht : Touch G W W1) (hn : ∀ q ∈ BF g va vb es us, q ∉ G) : BK W1 g va vb es us := by
  have hg : g ∉ G := hn g (by simp [BF])
  refine ⟨Nat.lt_of_lt_of_le h.lt ht.size, fun j a b c => (ht.cell (p := ⟨g, j, .none⟩) h.lt hg).trans (h.none j a b c), (ht.cell (p := ⟨g, 6, .none⟩) h.lt hg).trans h.c6, (ht.cell (p := ⟨g, 7, .none⟩) h.lt hg).trans h.c7,
    (ht.frozen (p := ⟨g, 6, .none⟩) h.lt hg).trans h.f6, (ht.frozen (p := ⟨g, 7, .none⟩) h.lt hg).trans h.f7,
    ht.row h.own6 (fun q hq => hn q (by simp [BF, mem_blk.2 hq])), ht.row h.own7 (fun q hq => hn q (by simp [BF, mem_blk.2 hq])),
    fun x hx => (h.rows x hx).touch ht (fun q hq => hn q (by simp only [BF, List.mem_cons, List.mem_append]; exact .inr (.inr (.inr (.inl (mem_fps.2 ⟨x, hx, hq⟩)))))),
    fun x hx => (h.copies x hx).touch ht (fun q hq => hn q (by simp only [BF, List.mem_cons, List.mem_append]; exact .inr (.inr (.inr (.inr (mem_fps.2 ⟨x, hx, hq⟩)))))), h.same, h.apart, h.beside⟩
theorem Touch.undrew {F : List Nat} {a b : World} (h : Touch F a.drew b) : Touch F a b := ⟨h.os, h.tape, h.output, h.size, h.block⟩
theorem infoRow : ∃ i z, Try.prog.info? 49 = some i ∧ i.zero = some z ∧ i.size = 1 ∧ i.bytes = 24 ∧ z.cells.size = 1 := by
  have h : (Try.prog.info? 49).map (fun i => (i.zero.isSome, i.size, i.bytes, (i.zero.getD undef).cells.size)) = some (true, 1, 24, 1) := by kernel_rfl
  obtain ⟨i, hi, hx⟩ := Option.map_eq_some_iff.1 h
  simp only [Prod.mk.injEq] at hx
  obtain ⟨h1, h2, h3, h4⟩ := hx
  obtain ⟨z, hz⟩ := Option.isSome_iff_exists.1 h1
  exact ⟨i, z, hi, hz, h2, h3, by rw [hz] at h4; exact h4⟩

theorem BK.ga {W : World} {g : Nat} {va vb : Value} {es us : List (Value × List Item)} (h : BK W g va vb es us) : g ∉ blk va := fun hq => (List.nodup_cons.1 h.apart).1 (by simp [hq])
theorem BK.gb {W : World} {g : Nat} {va vb : Value} {es us : List (Value × List Item)} (h : BK W g va vb es us) : g ∉ blk vb := fun hq => (List.nodup_cons.1 h.apart).1 (by simp [hq])
theorem BK.ge {W : World} {g : Nat} {va vb : Value} {es us : List (Value × List Item)} (h : BK W g va vb es us) : g ∉ fps es := fun hq => (List.nodup_cons.1 h.apart).1 (by simp [hq])
theorem BK.ab {W : World} {g : Nat} {va vb : Value} {es us : List (Value × List Item)} (h : BK W g va vb es us) : ∀ q, q ∈ blk va → q ∉ blk vb ∧ q ∉ fps es := by
  have h2 := (List.nodup_append.1 (List.nodup_cons.1 h.apart).2).2.2
  intro q hq
  exact ⟨fun hb => h2 q hq q (by simp [hb]) rfl, fun hb => h2 q hq q (by simp [hb]) rfl⟩
theorem BK.be {W : World} {g : Nat} {va vb : Value} {es us : List (Value × List Item)} (h : BK W g va vb es us) : ∀ q, q ∈ blk vb → q ∉ fps es := by
  have h2 := (List.nodup_append.1 (List.nodup_append.1 (List.nodup_cons.1 h.apart).2).2.1).2.2
  intro q hq hb
  exact h2 q hq q hb rfl
def BookPost (W : World) (g : Nat) (va vb : Value) (es us : List (Value × List Item)) (v : Value) (l : List Item) (e : Ending) (w' : World) : Prop :=
  e = .returned (.tuple #[]) ∧ ∃ va' vb' u, BK w' g va' vb' (es ++ [(v, l)]) (us ++ [(u, l)]) ∧ Touch (g :: (blk va ++ blk vb)) W w' ∧
    ∀ q ∈ BF g va' vb' (es ++ [(v, l)]) (us ++ [(u, l)]), q ∈ BF g va vb es us ∨ q ∈ blk v ∨ W.heap.size ≤ q

theorem blk_nodup (v : Value) : (blk v).Nodup := by
  unfold blk
  cases v.ownBlock <;> simp
theorem nodup5 {g : Nat} {a b e v : List Nat} (ha : a.Nodup) (hb : b.Nodup) (he : e.Nodup) (hv : v.Nodup) (g1 : g ∉ a) (g2 : g ∉ b) (g3 : g ∉ e) (g4 : g ∉ v)
    (ab : ∀ q, q ∈ a → q ∉ b) (ae : ∀ q, q ∈ a → q ∉ e) (av : ∀ q, q ∈ a → q ∉ v) (be : ∀ q, q ∈ b → q ∉ e) (bv : ∀ q, q ∈ b → q ∉ v) (ev : ∀ q, q ∈ e → q ∉ v) :
    (g :: (a ++ (b ++ (e ++ v)))).Nodup := by
  rw [List.nodup_cons, List.nodup_append, List.nodup_append, List.nodup_append]
  refine ⟨by simp [g1, g2, g3, g4], ha, ⟨hb, ⟨he, hv, fun x hx y hy e => ev x hx (e ▸ hy)⟩, fun x hx y hy e => ?_⟩, fun x hx y hy e => ?_⟩
  · subst e
    rcases List.mem_append.1 hy with h | h
    · exact be x hx h
    · exact bv x hx h
  · subst e
    rcases List.mem_append.1 hy with h | h
    · exact ab x hx h
    · rcases List.mem_append.1 h with h | h
      · exact ae x hx h
      · exact av x hx h
theorem row_lt {W : World} {base e size n : Nat} {v : Value} {xs : List Value} (h : W.ownsRow base e size v n xs) {q : Nat} (hq : q ∈ blk v) : q < W.heap.size := (h.lt q (mem_blk.1 hq)).2
theorem rowOk.lt {W : World} {x : Value × List Item} (h : rowOk W x) {q : Nat} (hq : q ∈ blk x.1) : q < W.heap.size := by
  obtain ⟨A, c, e, hr⟩ := h
  exact row_lt hr hq
theorem BK.ltF {W : World} {g : Nat} {va vb : Value} {es us : List (Value × List Item)} (h : BK W g va vb es us) : ∀ q ∈ BF g va vb es us, q < W.heap.size := by
  intro q hq
  simp only [BF, List.mem_cons, List.mem_append] at hq
  rcases hq with rfl | hq | hq | hq | hq
  · exact h.lt
  · exact row_lt h.own6 hq
  · exact row_lt h.own7 hq
  · obtain ⟨x, hx, hq⟩ := mem_fps.1 hq; exact (h.rows x hx).lt hq
  · obtain ⟨x, hx, hq⟩ := mem_fps.1 hq; exact (h.copies x hx).lt hq
/-- append onto what the call owns, the old slice still told, as one step of a region that draws its order -/
theorem step_append_old {P : Program} {ops : Array Oper} {o : Oper} {a : Act} {w : World} {K : Act → World → Prop} {Q : Exit → Act → World → Prop} {E : Prop} (hg : o.guard = .none) (s x : Operand) (t : TypeId)
    (ho : o.op = .call { callee := .builtin .append, args := #[s, x], argTypes := #[t, t] })
    (base : Nat) (e : TypeId) (i : TypeInfo) (z : Value) (size bytes : Nat) (ht : P.underlying t = some (.slice e)) (hi : P.info? e = some i) (hz : i.zero = some z)
    (hsize : i.size = size) (hby : i.bytes = bytes) (hzs : z.cells.size = size) (hsz : 0 < size)
    (v : Value) (n : Nat) (xs : List Value) (hs : a.eval s = v) (hown : w.ownsRow base e size v n xs)
    (ad : Addr) (m c : Nat) (news : List Value) (hx : a.eval x = .slice (some ad) m c) (hl : news.length = m * size) (hnews : ∀ j u, news[j]? = some u → w.cell? (ad.add j) = some u) (h1 : ∀ u ∈ news, u.oneCell' = true)
    (h63 : n + m ≤ maxLen) (hbytes : (n + m) * bytes ≤ 140737488355328) (hbase : base ≤ w.heap.size)
    (h : ∀ v' w', w'.ownsRow base e size v' (n + m) (xs ++ news) → w.grownBy w' v.ownBlock → (v' = .slice .none 0 0 ↔ v = .slice .none 0 0 ∧ m = 0) → w'.ownsRow base e size v n xs → SameOrNew w v v' → K (a.put o.dst v') w') :
    if Region.wanted o (yielded ops a.tmps) = true then Oper.wp P o a w K Q else E := by
  rw [if_pos (by simp [Region.wanted, hg])]
  exact wp_append_old s x t ho base e i z size bytes ht hi hz hsize hby hzs hsz v n xs hs hown ad m c news hx hl hnews h1 h63 hbytes hbase h
theorem book_end {W w1 w2 w3 : World} {g : Nat} {va vb va' vb' u v : Value} {es us : List (Value × List Item)} {l : List Item} (hB : BK W g va vb es us) (hv : rowOk W (v, l))
    (hvn : ∀ q ∈ blk v, q ≠ g ∧ q ∉ blk va ∧ q ∉ blk vb ∧ q ∉ fps es) (hlu : us.length = es.length)
    (T1 : Touch (blk va) W w1) (o1 : w1.ownsRow 0 49 1 va' (es.length + 1) (es.map (·.1) ++ [v])) (s1 : ∀ q ∈ blk va', q ∈ blk va ∨ W.heap.size ≤ q)
    (T2 : Touch [] (w1.setCell ⟨g, 6, .none⟩ va') w2) (hu : rowOk w2 (u, l)) (su : ∀ q ∈ blk u, w1.heap.size ≤ q)
    (T3 : Touch (blk vb) w2 w3) (o3 : w3.ownsRow 0 49 1 vb' (es.length + 1) (us.map (·.1) ++ [u])) (s3 : ∀ q ∈ blk vb', q ∈ blk vb ∨ w2.heap.size ≤ q) :
    BookPost W g va vb es us v l (.returned (.tuple #[])) (w3.setCell ⟨g, 7, .none⟩ vb') := by
  have hg := hB.lt
  have hg1 : g < w1.heap.size := Nat.lt_of_lt_of_le hg T1.size
  have S6 : Touch [g] w1 (w1.setCell ⟨g, 6, .none⟩ va') := (Touch.refl _ _).set (.inl (by simp)) _
  have S7 : Touch [g] w3 (w3.setCell ⟨g, 7, .none⟩ vb') := (Touch.refl _ _).set (.inl (by simp)) _
  have hg2 : g < w2.heap.size := Nat.lt_of_lt_of_le (Nat.lt_of_lt_of_le hg1 S6.size) T2.size
  have hg3 : g < w3.heap.size := Nat.lt_of_lt_of_le hg2 T3.size
  have z12 : w1.heap.size ≤ w2.heap.size := Nat.le_trans S6.size T2.size
  have z01 := T1.size
  have z23 := T3.size
  have lv : ∀ q ∈ blk v, q < W.heap.size := fun q hq => hv.lt hq
  have la : ∀ q ∈ blk va, q < W.heap.size := fun q hq => row_lt hB.own6 hq
  have lb : ∀ q ∈ blk vb, q < W.heap.size := fun q hq => row_lt hB.own7 hq
  have le : ∀ q ∈ fps es, q < W.heap.size := fun q hq => by obtain ⟨x, hx, hq⟩ := mem_fps.1 hq; exact (hB.rows x hx).lt hq
  have lu : ∀ q ∈ fps us, q < W.heap.size := fun q hq => by obtain ⟨x, hx, hq⟩ := mem_fps.1 hq; exact (hB.copies x hx).lt hq
  have la' : ∀ q ∈ blk va', q < w1.heap.size := fun q hq => row_lt o1 hq
  -- what each step leaves
  have T02 : Touch (g :: blk va) W w2 := by
    have h1 : Touch (g :: blk va) W (w1.setCell ⟨g, 6, .none⟩ va') := Touch.set (F := g :: blk va) (T1.mono (fun x hx => List.mem_cons_of_mem _ hx)) (.inl (by simp)) _
    exact h1.trans T2 (by simp)
  have T03 : Touch (g :: (blk va ++ blk vb)) W w3 := (T02.mono (fun x hx => by rcases List.mem_cons.1 hx with rfl | h; simp; simp [h])).trans T3 (fun x hx => .inl (by simp [hx]))
  have T04 : Touch (g :: (blk va ++ blk vb)) W (w3.setCell ⟨g, 7, .none⟩ vb') := T03.set (.inl (by simp)) _
  have T14 : ∀ q, q ∈ blk va' → q ∉ g :: blk vb := by
    intro q hq h
    rcases List.mem_cons.1 h with rfl | h
    · rcases s1 q hq with h1 | h1
      · exact hB.ga h1
      · omega
    · rcases s1 q hq with h1 | h1
      · exact (hB.ab q h1).1 h
      · have := lb q h; omega
  have T24 : Touch (g :: blk vb) w2 (w3.setCell ⟨g, 7, .none⟩ vb') := Touch.set (F := g :: blk vb) (T3.mono (fun x hx => List.mem_cons_of_mem _ hx)) (.inl (by simp)) _
  have gvb' : g ∉ blk vb' := fun h => by
    rcases s3 g h with h1 | h1
    · exact hB.gb h1
    · omega
  -- cells of the book's own block
  have cell2 : ∀ j, j ≠ 6 → w2.cell? ⟨g, j, .none⟩ = W.cell? ⟨g, j, .none⟩ := fun j hj => by
    rw [T2.cell (p := ⟨g, j, .none⟩) (Nat.lt_of_lt_of_le hg1 S6.size) (by simp), World.cell?_setCell_other _ _ _ _ (by simp <;> omega), T1.cell (p := ⟨g, j, .none⟩) hg hB.ga]
  have cell3 : ∀ j, w3.cell? ⟨g, j, .none⟩ = w2.cell? ⟨g, j, .none⟩ := fun j => T3.cell (p := ⟨g, j, .none⟩) hg2 hB.gb
  have froz : ∀ j, w3.frozen? ⟨g, j, .none⟩ = W.frozen? ⟨g, j, .none⟩ := fun j => by
    rw [T3.frozen (p := ⟨g, j, .none⟩) hg2 hB.gb, T2.frozen (p := ⟨g, j, .none⟩) (Nat.lt_of_lt_of_le hg1 S6.size) (by simp), World.frozen?_setCell, T1.frozen (p := ⟨g, j, .none⟩) hg hB.ga]
  have c6 : w2.cell? ⟨g, 6, .none⟩ = some va' := by
    rw [T2.cell (p := ⟨g, 6, .none⟩) (Nat.lt_of_lt_of_le hg1 S6.size) (by simp)]
    exact World.cell?_setCell_same _ _ _ ((T1.cell (p := ⟨g, 6, .none⟩) hg hB.ga).trans hB.c6)
  have c7 : w3.cell? ⟨g, 7, .none⟩ = some vb := by rw [cell3, cell2 7 (by omega)]; exact hB.c7
  have o1' : w2.ownsRow 0 49 1 va' (es.length + 1) (es.map (·.1) ++ [v]) :=
    T2.row (S6.row o1 (fun q hq h => by have := T14 q (mem_blk.2 hq); simp at h; exact this (by simp [h]))) (by simp)
  have o1f : (w3.setCell ⟨g, 7, .none⟩ vb').ownsRow 0 49 1 va' (es.length + 1) (es.map (·.1) ++ [v]) := T24.row o1' (fun q hq => T14 q (mem_blk.2 hq))
  have o3f : (w3.setCell ⟨g, 7, .none⟩ vb').ownsRow 0 49 1 vb' (es.length + 1) (us.map (·.1) ++ [u]) := S7.row o3 (fun q hq h => gvb' (by have := mem_blk.2 hq; simp at h; rw [← h]; exact this))
  have n0 : ∀ x ∈ es, ∀ q ∈ blk x.1, q ∉ g :: (blk va ++ blk vb) := by
    intro x hx q hq h
    have hf : q ∈ fps es := mem_fps.2 ⟨x, hx, hq⟩
    simp only [List.mem_cons, List.mem_append] at h
    rcases h with rfl | h | h
    · exact hB.ge hf
    · exact (hB.ab q h).2 hf
    · exact hB.be q h hf
  have nu : ∀ x ∈ us, ∀ q ∈ blk x.1, q ∉ g :: (blk va ++ blk vb) := by
    intro x hx q hq h
    have hf := hB.beside q (mem_fps.2 ⟨x, hx, hq⟩)
    simp only [List.mem_cons, List.mem_append] at h
    rcases h with h | h | h
    · exact hf.1 h
    · exact hf.2.1 h
    · exact hf.2.2 h
  have nv : ∀ q ∈ blk v, q ∉ g :: (blk va ++ blk vb) := by
    intro q hq h
    have hf := hvn q hq
    simp only [List.mem_cons, List.mem_append] at h
    rcases h with h | h | h
    · exact hf.1 h
    · exact hf.2.1 h
    · exact hf.2.2.1 h
  have nU : ∀ q ∈ blk u, q ∉ g :: blk vb := by
    intro q hq h
    have := su q hq
    rcases List.mem_cons.1 h with rfl | h
    · omega
    · have := lb q h; omega
  have mem' : ∀ q, q ∈ blk va' → q ∉ blk v := fun q hq h => by
    rcases s1 q hq with h1 | h1
    · exact (hvn q h).2.1 h1
    · have := lv q h; omega
  refine ⟨rfl, va', vb', u, ⟨by simpa [World.setCell] using hg3, fun j a b c => ?_, ?_, World.cell?_setCell_same _ _ _ c7, by rw [World.frozen?_setCell, froz]; exact hB.f6, by rw [World.frozen?_setCell, froz]; exact hB.f7, ?_, ?_, ?_, ?_, ?_, ?_, ?_⟩, T04, ?_⟩
  · rw [World.cell?_setCell_other _ _ _ _ (by simp <;> omega), cell3, cell2 j b]; exact hB.none j a b c
  · rw [World.cell?_setCell_other _ _ _ _ (by simp), cell3]; exact c6
  · simpa using o1f
  · simpa [hlu] using o3f
  · intro x hx
    rcases List.mem_append.1 hx with hx | hx
    · exact (hB.rows x hx).touch T04 (n0 x hx)
    · simp at hx; subst hx; exact hv.touch T04 nv
  · intro x hx
    rcases List.mem_append.1 hx with hx | hx
    · exact (hB.copies x hx).touch T04 (nu x hx)
    · simp at hx; subst hx; exact hu.touch T24 nU
  · simp [hB.same]
  · rw [fps_snoc]
    have he : (fps es).Nodup := (List.nodup_append.1 (List.nodup_append.1 (List.nodup_cons.1 hB.apart).2).2.1).2.1
    refine nodup5 (blk_nodup _) (blk_nodup _) he (blk_nodup _) (fun h => T14 g h (by simp)) gvb' hB.ge (fun h => (hvn g h).1 rfl) ?_ ?_ mem' ?_ ?_ ?_
    · intro q hq h
      rcases s3 q h with h1 | h1
      · exact T14 q hq (by simp [h1])
      · have := la' q hq; omega
    · intro q hq h
      rcases s1 q hq with h1 | h1
      · exact (hB.ab q h1).2 h
      · have := le q h; omega
    · intro q hq h
      rcases s3 q hq with h1 | h1
      · exact hB.be q h1 h
      · have := le q h; omega
    · intro q hq h
      rcases s3 q hq with h1 | h1
      · exact (hvn q h).2.2.1 h1
      · have := lv q h; omega
    · intro q hq h
      exact (hvn q h).2.2.2 hq
  · intro q hq
    rw [fps_snoc] at hq
    rcases List.mem_append.1 hq with hq | hq
    · have hf := hB.beside q hq
      have := lu q hq
      refine ⟨hf.1, fun h => ?_, fun h => ?_⟩
      · rcases s1 q h with h1 | h1
        · exact hf.2.1 h1
        · omega
      · rcases s3 q h with h1 | h1
        · exact hf.2.2 h1
        · omega
    · have h0 := su q hq
      have h2 : q < w2.heap.size := hu.lt hq
      refine ⟨by omega, fun h => ?_, fun h => ?_⟩
      · have := la' q h; omega
      · rcases s3 q h with h1 | h1
        · have := lb q h1; omega
        · omega
  · intro q hq
    simp only [BF, fps_snoc, List.mem_cons, List.mem_append] at hq ⊢
    rcases hq with h | h | h | (h | h) | (h | h)
    · exact .inl (.inl h)
    · rcases s1 q h with h1 | h1
      · exact .inl (.inr (.inl h1))
      · exact .inr (.inr h1)
    · rcases s3 q h with h1 | h1
      · exact .inl (.inr (.inr (.inl h1)))
      · exact .inr (.inr (by omega))
    · exact .inl (.inr (.inr (.inr (.inl h))))
    · exact .inr (.inl h)
    · exact .inl (.inr (.inr (.inr (.inr h))))
    · exact .inr (.inr (by have := su q h; omega))

set_option maxRecDepth 100000 in
set_option maxHeartbeats 2000000 in
theorem bookItems_any (g : Nat) (va vb : Value) (es us : List (Value × List Item)) (A : Option Addr) (c : Nat) (l : List Item) (W : World) (hB : BK W g va vb es us) (hv : Row W (.slice A l.length c) l)
    (hvn : ∀ q ∈ blk (.slice A l.length c), q ≠ g ∧ q ∉ blk va ∧ q ∉ blk vb ∧ q ∉ fps es) (he : es.length < 250) (hl : l.length ≤ 100000) :
    Calls Try.prog 23 #[.pointer (some ⟨g, 0, none⟩), .slice A l.length c] W (BookPost W g va vb es us (.slice A l.length c) l) := by
  obtain ⟨i0, z0, hi, hz, hs1, hb24, hzc⟩ := infoRow
  obtain ⟨A6, d6, rfl⟩ := own_slice hB.own6
  obtain ⟨A7, d7, rfl⟩ := own_slice hB.own7
  have hlu : us.length = es.length := by have := congrArg List.length hB.same; simpa using this
  have HBK := Lib.hid hB
  have c6 := hB.c6
  have c7 := hB.c7
  have f6 := hB.f6
  have f7 := hB.f7
  have hg := hB.lt
  have HV := Lib.hid hv
  have HVN := Lib.hid hvn
  obtain ⟨n, hn⟩ : ∃ n, es.length = n := ⟨_, rfl⟩
  obtain ⟨m, hm⟩ : ∃ m, l.length = m := ⟨_, rfl⟩
  have HN := Lib.hid hn
  have HM := Lib.hid hm
  have HLU := Lib.hid hlu
  have HO6 : Hid (W.ownsRow 0 49 1 (.slice A6 n d6) n (es.map (·.1))) := by have h := hB.own6; rw [hn] at h; exact h
  have HO7 : Hid (W.ownsRow 0 49 1 (.slice A7 n d7) n (us.map (·.1))) := by have h := hB.own7; rw [hlu, hn] at h; exact h
  have HN7 : Hid (∀ q, q ∈ blk (.slice A7 n d7) → q ∉ g :: blk (.slice A6 n d6)) := by
    intro q hq h
    have h1 := hB.gb
    have h2 := fun q hq => (hB.ab q hq).1
    rw [hlu, hn] at h1
    rw [hlu, hn] at h2
    rcases List.mem_cons.1 h with rfl | h
    · exact h1 hq
    · exact h2 q h hq
  have HNV : Hid (∀ q, q ∈ blk (.slice A l.length c) → q ∉ g :: blk (.slice A6 n d6)) := by
    intro q hq h
    have h1 := hvn q hq
    rw [hn] at h1
    rcases List.mem_cons.1 h with h | h
    · exact h1.1 h
    · exact h1.2.1 h
  have hgb : g ∉ blk (.slice A7 n d7) := by have h := hB.gb; rw [hlu, hn] at h; exact h
  have hga : g ∉ blk (.slice A6 n d6) := by have h := hB.ga; rw [hn] at h; exact h
  rw [hn] at c6 he
  rw [hlu, hn] at c7
  rw [hm] at hl ⊢
  clear hB hv hvn hn hm hlu
  go_enter Try.func23, Try.ntmps23
  go_upto_region 2 with (at_builtin; go_must (refine wpList_append_old rfl (.tmp 14) (.tmp 16) 32 rfl 0 49 i0 z0 1 24 Try.underlying32 hi hz hs1 hb24 hzc (by decide) (.slice A6 n d6) n (es.map (·.1)) rfl (HO6.out.alloc _) ⟨W.heap.size, 0, none⟩ 1 1 [.slice A m c] rfl rfl (cell_one_new _ _ _) (fun x hx => by simp at hx; subst hx; rfl) (by unfold maxLen; omega) (by omega) (Nat.zero_le _) ?_); intro x1 w1 hown1 hg1 hnil1 hold1 hsn1; obtain ⟨A1, d1, rfl⟩ := own_slice hown1; have hT1 : Touch (blk (.slice A6 n d6)) W w1 := ((Touch.refl _ W).alloc _).grown hg1 (fun k hk => .inl (mem_blk.2 hk)); have e6 := (hT1.cell (p := ⟨g, 6, none⟩) hg (by first | exact hga)).trans c6; have e7 := (hT1.cell (p := ⟨g, 7, none⟩) hg (by first | exact hga)).trans c7; have k6 := (hT1.frozen (p := ⟨g, 6, none⟩) hg (by first | exact hga)).trans f6; have k7 := (hT1.frozen (p := ⟨g, 7, none⟩) hg (by first | exact hga)).trans f7; have HT1 := Lib.hid hT1; have HO1 := Lib.hid hown1; have HS1 := Lib.hid hsn1; clear hT1 hown1 hg1 hnil1 hold1 hsn1)
  have HTV : Hid (Touch (g :: blk (.slice A6 n d6)) W (w1.setCell ⟨g, 6, none⟩ (.slice A1 (n + 1) d1))) := Touch.set (F := g :: blk (.slice A6 n d6)) (HT1.out.mono (fun x hx => List.mem_cons_of_mem _ hx)) (.inl (by simp)) _
  have HGV : Hid (Touch [g] w1 (w1.setCell ⟨g, 6, none⟩ (.slice A1 (n + 1) d1))) := (Touch.refl _ _).set (.inl (by simp)) _
  have v1 : g < (w1.setCell ⟨g, 6, none⟩ (.slice A1 (n + 1) d1)).heap.size := Nat.lt_of_lt_of_le hg HTV.out.size
  have v7 : (w1.setCell ⟨g, 6, none⟩ (.slice A1 (n + 1) d1)).cell? ⟨g, 7, none⟩ = some (.slice A7 n d7) := by rw [World.cell?_setCell_other _ _ _ _ (by simp)]; exact e7
  have x7 : (w1.setCell ⟨g, 6, none⟩ (.slice A1 (n + 1) d1)).frozen? ⟨g, 7, none⟩ = false := by rw [World.frozen?_setCell]; exact k7
  have HV7 : Hid ((w1.setCell ⟨g, 6, none⟩ (.slice A1 (n + 1) d1)).ownsRow 0 49 1 (.slice A7 n d7) n (us.map (·.1))) := HTV.out.row HO7.out (fun q hq h => HN7.out q (mem_blk.2 hq) h)
  have HVV : Hid (Row (w1.setCell ⟨g, 6, none⟩ (.slice A1 (n + 1) d1)) (.slice A l.length c) l) := HTV.out.row HV.out (fun q hq h => HNV.out q (mem_blk.2 hq) h)
  have CC : Hid (∀ W1, Row W1 (.slice A l.length c) l → Calls Try.prog 39 #[.slice A m c] W1 (NewItems W1 l)) := fun W1 h => by
    have h9 := copyItems_any A c l W1 h (by rw [HM.out]; exact hl)
    rw [HM.out] at h9
    exact h9
  have HVdef := Lib.hid (rfl : w1.setCell ⟨g, 6, none⟩ (.slice A1 (n + 1) d1) = w1.setCell ⟨g, 6, none⟩ (.slice A1 (n + 1) d1))
  clear e6 e7 k6 k7 c6 c7 f6 f7 hg
  generalize hVV : w1.setCell ⟨g, 6, none⟩ (.slice A1 (n + 1) d1) = V at *
  have HVW := Lib.hid hVV
  clear hVV HVdef
  have HVD : Hid (Row V.drew (.slice A l.length c) l) := HVV.out
  have HV7D : Hid (V.drew.ownsRow 0 49 1 (.slice A7 n d7) n (us.map (·.1))) := HV7.out
  have HD7 : Hid (V.drew.cell? ⟨g, 7, none⟩ = some (.slice A7 n d7) ∧ V.drew.frozen? ⟨g, 7, none⟩ = false ∧ g < V.drew.heap.size) := ⟨v7, x7, v1⟩
  go_region_law (first
    | (refine step_append_old rfl (.tmp 24) (.tmp 27) 32 rfl 0 49 i0 z0 1 24 Try.underlying32 hi hz hs1 hb24 hzc (by decide) (.slice A7 n d7) n (us.map (·.1)) (by simp [Act.eval]) (HY7.out.alloc _) ⟨w2.heap.size, 0, none⟩ 1 1 [.slice A2 l.length d2] (by simp [Act.eval]) rfl (cell_one_new _ _ _) (fun x hx => by simp at hx; subst hx; rfl) (by unfold maxLen; omega) (by omega) (Nat.zero_le _) ?_; intro x3 w3 hown3 hg3 hnil3 hold3 hsn3; obtain ⟨A3, d3, rfl⟩ := own_slice hown3; have hT3 : Touch (blk (.slice A7 n d7)) w2 w3 := ((Touch.refl _ w2).alloc _).grown hg3 (fun k hk => .inl (mem_blk.2 hk)); have u7 := (hT3.cell (p := ⟨g, 7, none⟩) y1 hgb).trans y7; have t7 := (hT3.frozen (p := ⟨g, 7, none⟩) y1 hgb).trans z7; have HT3 := Lib.hid hT3; have HO3 := Lib.hid hown3; have HS3 := Lib.hid hsn3; clear hT3 hown3 hg3 hnil3 hold3 hsn3)
    | (go_simp; go_at_call 39; (with_reducible refine (CC.out _ HVD.out).mono ?_); rintro e w2 ⟨A2, d2, rfl, hown2, hb2⟩; have HT2 := Lib.hid (Touch.ofBelow (F := []) hb2); have y7 := (HT2.out.cell (p := ⟨g, 7, none⟩) HD7.out.2.2 (by simp)).trans HD7.out.1; have z7 := (HT2.out.frozen (p := ⟨g, 7, none⟩) HD7.out.2.2 (by simp)).trans HD7.out.2.1; have y1 := Nat.lt_of_lt_of_le HD7.out.2.2 HT2.out.size; have HY7 := Lib.hid (HT2.out.row HV7D.out (by simp)); have HU := Lib.hid hown2; clear hown2 hb2; go_wp2_with fail))
  all_goals
    go_wp2
    go_end0
    have hn9 := HN.out
    subst hn9
    have hb9 := HBK.out
    have hl9 := HLU.out
    rw [hl9] at hb9
    have hm9 := HM.out
    subst hm9
    have hw9 := HVW.out
    rw [hl9]
    refine book_end (va := .slice A6 es.length d6) (vb := .slice A7 es.length d7) hb9 ⟨A, c, rfl, HV.out⟩ (by have h := HVN.out; rw [hl9] at h; exact h) hl9 HT1.out HO1.out ?_ (hw9 ▸ HT2.out.undrew) ⟨A2, d2, rfl, own_mono HU.out (Nat.zero_le _)⟩ ?_ HT3.out HO3.out ?_
    · intro q hq
      rcases HS1.out q (mem_blk.1 hq) with h | h
      · exact .inl (mem_blk.2 h)
      · exact .inr (by simp at h; omega)
    · intro q hq
      have h := (HU.out.lt q (mem_blk.1 hq)).1
      have h2 : (w1.setCell ⟨g, 6, none⟩ (.slice A1 (es.length + 1) d1)).heap.size ≤ q := by rw [hw9]; exact h
      simpa [World.setCell] using h2
    · intro q hq
      rcases HS3.out q (mem_blk.1 hq) with h | h
      · exact .inl (mem_blk.2 h)
      · exact .inr (by simp at h; omega)
end Go.Proofs.Ytinkkdhlakfooaa
namespace Go.Proofs.Ytinkkdhlakfooaa
open Go.RowKit

theorem own_block {W : World} {base e c n : Nat} {A : Option Addr} {xs : List Value} (h : W.ownsRow base e 1 (.slice A n c) n xs) (hn : 1 ≤ n) : ∃ q, A = some ⟨q, 0, none⟩ := by
  rcases h.2 with ⟨_, h1⟩ | ⟨g, cap, cur, h0, _⟩
  · omega
  · injection h0 with h1 _ _
    exact ⟨g, h1⟩
theorem fst_at (es : List (Value × List Item)) (i : Nat) (h : i < es.length) : (es.map (·.1))[i]? = some (es[i]).1 := by
  rw [List.getElem?_map, List.getElem?_eq_getElem h]; rfl
theorem same_at {es us : List (Value × List Item)} (h : us.map (·.2) = es.map (·.2)) (i : Nat) (h1 : i < es.length) (h2 : i < us.length) : (us[i]).2 = (es[i]).2 := by
  have := congrArg (fun l => l[i]?) h
  simp only [List.getElem?_map, List.getElem?_eq_getElem h1, List.getElem?_eq_getElem h2, Option.map_some, Option.some.injEq] at this
  exact this
theorem sameL_self (l : List Item) : sameL l l = true := (sameL_iff l l).2 rfl
/-- two lists that are alike: SameItems says so, in whatever world behind draws -/
theorem same_calls {W : World} {x y : Value × List Item} (hx : rowOk W x) (hy : rowOk W y) (h : y.2 = x.2) (n : Nat) :
    Calls Try.prog 24 #[x.1, y.1] (W.drewN n) fun e w' => e = .returned (.bool true) ∧ ∃ m, w' = (W.drewN n).drewN m := by
  obtain ⟨A, c, e1, r1⟩ := hx
  obtain ⟨B, d, e2, r2⟩ := hy
  rw [e1] at r1 ⊢
  rw [e2] at r2 ⊢
  have h9 := sameItems_any A B c d x.2 y.2 (W.drewN n) r1 r2
  rw [h, sameL_self] at h9
  rw [h]
  exact h9

set_option maxRecDepth 100000 in
set_option maxHeartbeats 2000000 in
theorem stillItems_any (g : Nat) (va vb : Value) (es us : List (Value × List Item)) (W : World) (hB : BK W g va vb es us) (he : es.length ≤ 250) :
    Calls Try.prog 43 #[.pointer (some ⟨g, 0, none⟩)] W fun e w' => e = .returned (.bool true) ∧ ∃ n, w' = W.drewN n := by
  obtain ⟨A6, d6, rfl⟩ := own_slice hB.own6
  obtain ⟨A7, d7, rfl⟩ := own_slice hB.own7
  have hlu : us.length = es.length := by have := congrArg List.length hB.same; simpa using this
  have HB := Lib.hid hB
  have c6 := hB.c6
  have c7 := hB.c7
  obtain ⟨n, hn⟩ : ∃ n, es.length = n := ⟨_, rfl⟩
  have HN := Lib.hid hn
  have HM := Lib.hid (hlu.trans hn)
  rw [hlu, hn] at c7
  rw [hn] at c6 he
  clear hB hn hlu
  go_enter Try.func43, Try.ntmps43
  go_wp2
  go_loopg [3] (n + 1) (fun gh s3 wx => ∃ (i k : Nat), i + gh = n + 1 ∧ i ≤ n ∧ s3 = .int .i64 i ∧ wx = W.drewN k)
  case atStart => exact ⟨0, 0, by omega, by omega, rfl, rfl⟩
  case round =>
    obtain ⟨i, k, hig, hi, rfl, rfl⟩ := hrel
    have v6 : (W.drewN k).cell? ⟨g, 6, none⟩ = some (.slice A6 n d6) := c6
    have v7 : (W.drewN k).cell? ⟨g, 7, none⟩ = some (.slice A7 n d7) := c7
    by_cases hlt : i < n
    · have h1 : i < es.length := by rw [HN.out]; exact hlt
      have h2 : i < us.length := by rw [HM.out]; exact hlt
      obtain ⟨q6, rfl⟩ := own_block HB.out.own6 (by omega)
      obtain ⟨q7, rfl⟩ := own_block HB.out.own7 (by omega)
      have p6 : (W.drewN k).cell? ⟨q6, i, none⟩ = some (es[i]).1 := (HB.out.own6.cellAt i (by omega)).trans (fst_at es i h1)
      have p7 : (W.drewN k).cell? ⟨q7, i, none⟩ = some (us[i]).1 := (HB.out.own7.cellAt i (by omega)).trans (fst_at us i h2)
      have CS := Lib.hid (fun m => same_calls (W := W.drewN k) (x := es[i]) (y := us[i]) (HB.out.rows _ (List.getElem_mem h1)) (HB.out.copies _ (List.getElem_mem h2)) (same_at HB.out.same i h1 h2) m)
      generalize (es[i]).1 = x at *
      generalize (us[i]).1 = y at *
      generalize hV : W.drewN k = V at *
      have HV := Lib.hid hV
      clear hV c6 c7
      go_upto_region 4 with fail
      go_quiet ((go_at_call 24; exact Calls.quiet_of (CS.out _)))
      go_wp2
      go_roundg (gk - 1)
      case measure => omega
      case rel => exact ⟨i + 1, k + nq, by omega, by omega, by go_num, by rw [← HV.out, drewN_two]⟩
    · obtain rfl : i = n := by omega
      go_wp2
      go_ret
      exact ⟨rfl, k, rfl⟩
end Go.Proofs.Ytinkkdhlakfooaa
