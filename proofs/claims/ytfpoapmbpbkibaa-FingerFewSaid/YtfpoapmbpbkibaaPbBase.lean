/-
  The book of lists of points: what its block holds; marks. (Written by tools/genBookP.py, out of the book of items.)
-/
import Derived.Test.YtfpoapmbpbkibaaAppendOld
import Derived.Test.YtfpoapmbpbkibaaKeyWalks
import Derived.Test.YtfpoapmbpbkibaaAppendAny
import Derived.Test.YtfpoapmbpbkibaaBase
import Derived.Test.YtfpoapmbpbkibaaRefShelf
import Derived.Test.YtfpoapmbpbkibaaHeldTill
import Derived.Laws.AppendOwnNone
import Derived.Deep.RegionLaw
import Derived.Deep.QuietTactic
import Derived.BigQuiet
import Derived.Deep.DeepCutAuto
import Derived.RegionTactic
import Derived.Deep.RegionHeld3
namespace Go.Proofs.Ytfpoapmbpbkibaa.Pb
open Go.RowKit Go.Proofs.Ytfpoapmbpbkibaa

abbrev ptC (l : List Int) : List Value := l.map fun x => .int .u64 x
theorem ptC_length (l : List Int) : (ptC l).length = l.length * 1 := by simp
theorem ptC_append (a b : List Int) : ptC (a ++ b) = ptC a ++ ptC b := by simp
theorem ptC_get (l : List Int) (i : Nat) (h : i < l.length) : (ptC l)[i]? = some (.int .u64 (l[i])) := by simp [h]
theorem ptC_set (l : List Int) (k : Nat) (x : Int) : (ptC l).set k (.int .u64 x) = ptC (l.set k x) := by simp [List.map_set]
theorem pt_one (l : List Int) : ∀ u ∈ ptC l, u.oneCell' = true := by
  intro u hu
  obtain ⟨x, _, rfl⟩ := List.mem_map.1 hu
  rfl
theorem infoP_ : ∃ i z, Try.prog.info? 22 = some i ∧ i.zero = some z ∧ i.size = 1 ∧ i.bytes = 8 ∧ z.cells.size = 1 := by
  have h : (Try.prog.info? 22).map (fun i => (i.zero.isSome, i.size, i.bytes, (i.zero.getD undef).cells.size)) = some (true, 1, 8, 1) := by kernel_rfl
  obtain ⟨i, hi, hx⟩ := Option.map_eq_some_iff.1 h
  simp only [Prod.mk.injEq] at hx
  obtain ⟨h1, h2, h3, h4⟩ := hx
  obtain ⟨z, hz⟩ := Option.isSome_iff_exists.1 h1
  exact ⟨i, z, hi, hz, h2, h3, by rw [hz] at h4; exact h4⟩
def Row (W : World) (v : Value) (l : List Int) : Prop := W.ownsRow 0 22 1 v l.length (ptC l)
/-- a new row of the call's own -/
def NewPts (W : World) (l : List Int) (e : Ending) (w' : World) : Prop :=
  ∃ A c, e = .returned (.slice A l.length c) ∧ w'.ownsRow W.heap.size 22 1 (.slice A l.length c) l.length (ptC l) ∧ Below W.heap.size W w'
abbrev mkP (i k : Nat) : Int := 1000000 * (i : Int) + (k : Int) + 7
def markL (i f n : Nat) : List Int := (List.range' f n).map fun k => mkP i k
theorem markL_length (i f n : Nat) : (markL i f n).length = n := by simp [markL]
theorem markL_snoc (i f n : Nat) : markL i f (n + 1) = markL i f n ++ [mkP i (f + n)] := by simp [markL, List.range'_1_concat]
theorem pt_new (w : World) (x : Int) : ∀ j u, (ptC [x])[j]? = some u → (w.alloc (.cells #[.int .u64 x] 22)).cell? ((⟨w.heap.size, 0, none⟩ : Addr).add j) = some u := by
  intro j u hj
  have : j = 0 := by have := (List.getElem?_eq_some_iff.1 hj).1; simp at this; omega
  subst this
  simp at hj
  subst hj
  rw [Go.WideShapes.add_plain]
  go_simp
set_option maxHeartbeats 2000000 in
theorem markPoints_any (i f n : Nat) (W : World) (hi : i ≤ 100000) (hf : f ≤ 100000) (hn : n ≤ 100000) :
    Calls Try.prog 70 #[.int .i64 (i : Nat), .int .i64 (f : Nat), .int .i64 (n : Nat)] W (NewPts W (markL i f n)) := by
  obtain ⟨i0, z0, hi0, hz, hsL, hbL, hzc⟩ := infoP_
  have z4 : IntKind.i64.wrap ((f : Int) + (n : Int)) = (f : Int) + (n : Int) := by rw [IntKind.wrap_i64]; omega
  have z1 : IntKind.i64.wrap (1000000 * (i : Int)) = 1000000 * (i : Int) := by rw [IntKind.wrap_i64]; omega
  go_enter Try.func70, Try.ntmps70
  go_wp2
  go_loopg [7, 8] (n + 1) (fun gh s7 s8 wx => ∃ (j c : Nat) (A : Option Addr), j + gh = n + 1 ∧ j ≤ n ∧ s7 = .slice A j c ∧ s8 = .int .i64 ((f + j : Nat) : Int) ∧ Hid (wx.ownsRow W.heap.size 22 1 (.slice A j c) j (ptC (markL i f j))) ∧ Hid (Below W.heap.size W wx))
  case atStart => exact ⟨0, 0, none, by omega, by omega, rfl, by go_num, World.ownsRow_nil _ _ _ _, Below.refl _ _⟩
  case round =>
    obtain ⟨j, c, A, hjg, hj, rfl, rfl, HO, HB⟩ := hrel
    by_cases hlt : j < n
    · have i1 : (f : Int) + (j : Int) < (f : Int) + (n : Int) := by omega
      have z2 : IntKind.i64.wrap (1000000 * (i : Int) + ((f : Int) + (j : Int))) = 1000000 * (i : Int) + ((f : Int) + (j : Int)) := by rw [IntKind.wrap_i64]; omega
      have z3 : IntKind.i64.wrap (1000000 * (i : Int) + ((f : Int) + (j : Int)) + 7) = mkP i (f + j) := by rw [IntKind.wrap_i64]; unfold mkP; omega
      have z6 : IntKind.u64.wrap (mkP i (f + j)) = mkP i (f + j) := by rw [IntKind.wrap_u64]; unfold mkP; omega
      have z5 : IntKind.i64.wrap ((f : Int) + (j : Int) + 1) = (f : Int) + (j : Int) + 1 := by rw [IntKind.wrap_i64]; omega
      obtain ⟨kk, hkk⟩ : ∃ kk, mkP i (f + j) = kk := ⟨_, rfl⟩
      rw [hkk] at z3 z6
      have HKK := Lib.hid hkk
      clear hkk
      go_wp2_with (at_builtin; go_must (refine wpList_append_own _ rfl (.tmp 17) (.tmp 24) 23 rfl W.heap.size 22 i0 z0 1 8 Try.underlying23 hi0 hz hsL hbL hzc (by decide) _ _ _ rfl (HO.out.alloc _) ⟨wr.heap.size, 0, none⟩ 1 1 (ptC [kk]) rfl rfl (pt_new wr kk) (pt_one _) (by unfold maxLen; omega) (by omega) (by have := HB.out.size; simp <;> omega) ?_); intro x2 w2 hown2 hg2 hnil2; obtain ⟨A2, c2, rfl⟩ := own_slice hown2; have HB2 := Lib.hid ((HB.out.alloc HB.out.size _).grown hg2 (by have := HB.out.size; simp <;> omega) (own_lt HO.out)); have HO2 := Lib.hid hown2; clear hown2 hg2 hnil2)
      go_roundg (gk - 1)
      case measure => omega
      case rel =>
        have h5 := HO2.out
        rw [← HKK.out, ← ptC_append, ← markL_snoc] at h5
        exact ⟨j + 1, c2, A2, by omega, by omega, rfl, by go_num, h5, HB2⟩
    · obtain rfl : n = j := by omega
      go_wp2_with fail
      go_ret
      exact ⟨A, c, by rw [markL_length]; rfl, by rw [markL_length]; exact HO.out, HB.out⟩
def blk (v : Value) : List Nat := v.ownBlock.toList
theorem mem_blk {v : Value} {q : Nat} : q ∈ blk v ↔ v.ownBlock = some q := by simp [blk]
def rowOk (W : World) (x : Value × List Int) : Prop := ∃ A c, x.1 = .slice A x.2.length c ∧ Row W x.1 x.2
def fps (es : List (Value × List Int)) : List Nat := es.flatMap fun x => blk x.1
theorem mem_fps {es : List (Value × List Int)} {q : Nat} : q ∈ fps es ↔ ∃ x ∈ es, q ∈ blk x.1 := by simp [fps]
theorem fps_snoc (es : List (Value × List Int)) (x : Value × List Int) : fps (es ++ [x]) = fps es ++ blk x.1 := by simp [fps]
/-- the book at block g: the lists es that it keeps (their slices in a row at va), copies of them us (at vb); all other lists are none -/
structure BK (W : World) (g : Nat) (va vb : Value) (es us : List (Value × List Int)) : Prop where
  lt : g < W.heap.size
  none : ∀ j, j < 14 → j ≠ 4 → j ≠ 5 → W.cell? ⟨g, j, none⟩ = some (.slice none 0 0)
  c6 : W.cell? ⟨g, 4, .none⟩ = some va
  c7 : W.cell? ⟨g, 5, .none⟩ = some vb
  f6 : W.frozen? ⟨g, 4, .none⟩ = false
  f7 : W.frozen? ⟨g, 5, .none⟩ = false
  own6 : W.ownsRow 0 23 1 va es.length (es.map (·.1))
  own7 : W.ownsRow 0 23 1 vb us.length (us.map (·.1))
  rows : ∀ x ∈ es, rowOk W x
  copies : ∀ x ∈ us, rowOk W x
  same : us.map (·.2) = es.map (·.2)
  apart : (g :: (blk va ++ (blk vb ++ fps es))).Nodup
  beside : ∀ q ∈ fps us, q ≠ g ∧ q ∉ blk va ∧ q ∉ blk vb
/-- all blocks of the book -/
def BF (g : Nat) (va vb : Value) (es us : List (Value × List Int)) : List Nat := g :: (blk va ++ (blk vb ++ (fps es ++ fps us)))
theorem rowOk.touch {W W1 : World} {x : Value × List Int} {G : List Nat} (h : rowOk W x) (ht : Touch G W W1) (hn : ∀ q ∈ blk x.1, q ∉ G) : rowOk W1 x := by
  obtain ⟨A, c, e, hr⟩ := h
  exact ⟨A, c, e, ht.row hr (fun q hq => hn q (mem_blk.2 hq))⟩
theorem BK.touch {W W1 : World} {g : Nat} {va vb : Value} {es us : List (Value × List Int)} {G : List Nat} (h : BK W g va vb es us) (ht : Touch G W W1) (hn : ∀ q ∈ BF g va vb es us, q ∉ G) : BK W1 g va vb es us := by
  have hg : g ∉ G := hn g (by simp [BF])
  refine ⟨Nat.lt_of_lt_of_le h.lt ht.size, fun j a b c => (ht.cell (p := ⟨g, j, .none⟩) h.lt hg).trans (h.none j a b c), (ht.cell (p := ⟨g, 4, .none⟩) h.lt hg).trans h.c6, (ht.cell (p := ⟨g, 5, .none⟩) h.lt hg).trans h.c7,
    (ht.frozen (p := ⟨g, 4, .none⟩) h.lt hg).trans h.f6, (ht.frozen (p := ⟨g, 5, .none⟩) h.lt hg).trans h.f7,
    ht.row h.own6 (fun q hq => hn q (by simp [BF, mem_blk.2 hq])), ht.row h.own7 (fun q hq => hn q (by simp [BF, mem_blk.2 hq])),
    fun x hx => (h.rows x hx).touch ht (fun q hq => hn q (by simp only [BF, List.mem_cons, List.mem_append]; exact .inr (.inr (.inr (.inl (mem_fps.2 ⟨x, hx, hq⟩)))))),
    fun x hx => (h.copies x hx).touch ht (fun q hq => hn q (by simp only [BF, List.mem_cons, List.mem_append]; exact .inr (.inr (.inr (.inr (mem_fps.2 ⟨x, hx, hq⟩)))))), h.same, h.apart, h.beside⟩
theorem undrew {F : List Nat} {a b : World} (h : Touch F a.drew b) : Touch F a b := ⟨h.os, h.tape, h.output, h.size, h.block⟩
theorem infoRow : ∃ i z, Try.prog.info? 23 = some i ∧ i.zero = some z ∧ i.size = 1 ∧ i.bytes = 24 ∧ z.cells.size = 1 := by
  have h : (Try.prog.info? 23).map (fun i => (i.zero.isSome, i.size, i.bytes, (i.zero.getD undef).cells.size)) = some (true, 1, 24, 1) := by kernel_rfl
  obtain ⟨i, hi, hx⟩ := Option.map_eq_some_iff.1 h
  simp only [Prod.mk.injEq] at hx
  obtain ⟨h1, h2, h3, h4⟩ := hx
  obtain ⟨z, hz⟩ := Option.isSome_iff_exists.1 h1
  exact ⟨i, z, hi, hz, h2, h3, by rw [hz] at h4; exact h4⟩

theorem BK.ga {W : World} {g : Nat} {va vb : Value} {es us : List (Value × List Int)} (h : BK W g va vb es us) : g ∉ blk va := fun hq => (List.nodup_cons.1 h.apart).1 (by simp [hq])
theorem BK.gb {W : World} {g : Nat} {va vb : Value} {es us : List (Value × List Int)} (h : BK W g va vb es us) : g ∉ blk vb := fun hq => (List.nodup_cons.1 h.apart).1 (by simp [hq])
theorem BK.ge {W : World} {g : Nat} {va vb : Value} {es us : List (Value × List Int)} (h : BK W g va vb es us) : g ∉ fps es := fun hq => (List.nodup_cons.1 h.apart).1 (by simp [hq])
theorem BK.ab {W : World} {g : Nat} {va vb : Value} {es us : List (Value × List Int)} (h : BK W g va vb es us) : ∀ q, q ∈ blk va → q ∉ blk vb ∧ q ∉ fps es := by
  have h2 := (List.nodup_append.1 (List.nodup_cons.1 h.apart).2).2.2
  intro q hq
  exact ⟨fun hb => h2 q hq q (by simp [hb]) rfl, fun hb => h2 q hq q (by simp [hb]) rfl⟩
theorem BK.be {W : World} {g : Nat} {va vb : Value} {es us : List (Value × List Int)} (h : BK W g va vb es us) : ∀ q, q ∈ blk vb → q ∉ fps es := by
  have h2 := (List.nodup_append.1 (List.nodup_append.1 (List.nodup_cons.1 h.apart).2).2.1).2.2
  intro q hq hb
  exact h2 q hq q hb rfl
def BookPost (W : World) (g : Nat) (va vb : Value) (es us : List (Value × List Int)) (v : Value) (l : List Int) (e : Ending) (w' : World) : Prop :=
  e = .returned (.tuple #[]) ∧ ∃ va' vb' u, BK w' g va' vb' (es ++ [(v, l)]) (us ++ [(u, l)]) ∧ Touch (g :: (blk va ++ blk vb)) W w' ∧
    ∀ q ∈ BF g va' vb' (es ++ [(v, l)]) (us ++ [(u, l)]), q ∈ BF g va vb es us ∨ q ∈ blk v ∨ W.heap.size ≤ q

theorem blk_nodup (v : Value) : (blk v).Nodup := by
  unfold blk
  cases v.ownBlock <;> simp
theorem nodup5 {g : Nat} {a b e v : List Nat} (ha : a.Nodup) (hb : b.Nodup) (he : e.Nodup) (hv : v.Nodup) (g1 : g ∉ a) (g2 : g ∉ b) (g3 : g ∉ e) (g4 : g ∉ v)
    (ab : ∀ q, q ∈ a → q ∉ b) (ae : ∀ q, q ∈ a → q ∉ e) (av : ∀ q, q ∈ a → q ∉ v) (be : ∀ q, q ∈ b → q ∉ e) (bv : ∀ q, q ∈ b → q ∉ v) (ev : ∀ q, q ∈ e → q ∉ v) :
    (g :: (a ++ (b ++ (e ++ v)))).Nodup := by
  rw [List.nodup_cons, List.nodup_append, List.nodup_append, List.nodup_append]
  refine ⟨by simp [g1, g2, g3, g4], ha, ⟨hb, ⟨he, hv, fun x hx y hy e => ev x hx (e ▸ hy)⟩, fun x hx y hy e => ?_⟩, fun x hx y hy e => ?_⟩
  · subst e
    rcases List.mem_append.1 hy with h | h
    · exact be x hx h
    · exact bv x hx h
  · subst e
    rcases List.mem_append.1 hy with h | h
    · exact ab x hx h
    · rcases List.mem_append.1 h with h | h
      · exact ae x hx h
      · exact av x hx h
theorem row_lt {W : World} {base e size n : Nat} {v : Value} {xs : List Value} (h : W.ownsRow base e size v n xs) {q : Nat} (hq : q ∈ blk v) : q < W.heap.size := (h.lt q (mem_blk.1 hq)).2
theorem rowOk.lt {W : World} {x : Value × List Int} (h : rowOk W x) {q : Nat} (hq : q ∈ blk x.1) : q < W.heap.size := by
  obtain ⟨A, c, e, hr⟩ := h
  exact row_lt hr hq
theorem BK.ltF {W : World} {g : Nat} {va vb : Value} {es us : List (Value × List Int)} (h : BK W g va vb es us) : ∀ q ∈ BF g va vb es us, q < W.heap.size := by
  intro q hq
  simp only [BF, List.mem_cons, List.mem_append] at hq
  rcases hq with rfl | hq | hq | hq | hq
  · exact h.lt
  · exact row_lt h.own6 hq
  · exact row_lt h.own7 hq
  · obtain ⟨x, hx, hq⟩ := mem_fps.1 hq; exact (h.rows x hx).lt hq
  · obtain ⟨x, hx, hq⟩ := mem_fps.1 hq; exact (h.copies x hx).lt hq
/-- append onto what the call owns, the old slice still told, as one step of a region that draws its order -/
theorem step_append_old {P : Program} {ops : Array Oper} {o : Oper} {a : Act} {w : World} {K : Act → World → Prop} {Q : Exit → Act → World → Prop} {E : Prop} (hg : o.guard = .none) (s x : Operand) (t : TypeId)
    (ho : o.op = .call { callee := .builtin .append, args := #[s, x], argTypes := #[t, t] })
    (base : Nat) (e : TypeId) (i : TypeInfo) (z : Value) (size bytes : Nat) (ht : P.underlying t = some (.slice e)) (hi : P.info? e = some i) (hz : i.zero = some z)
    (hsize : i.size = size) (hby : i.bytes = bytes) (hzs : z.cells.size = size) (hsz : 0 < size)
    (v : Value) (n : Nat) (xs : List Value) (hs : a.eval s = v) (hown : w.ownsRow base e size v n xs)
    (ad : Addr) (m c : Nat) (news : List Value) (hx : a.eval x = .slice (some ad) m c) (hl : news.length = m * size) (hnews : ∀ j u, news[j]? = some u → w.cell? (ad.add j) = some u) (h1 : ∀ u ∈ news, u.oneCell' = true)
    (h63 : n + m ≤ maxLen) (hbytes : (n + m) * bytes ≤ 140737488355328) (hbase : base ≤ w.heap.size)
    (h : ∀ v' w', w'.ownsRow base e size v' (n + m) (xs ++ news) → w.grownBy w' v.ownBlock → (v' = .slice .none 0 0 ↔ v = .slice .none 0 0 ∧ m = 0) → w'.ownsRow base e size v n xs → SameOrNew w v v' → K (a.put o.dst v') w') :
    if Region.wanted o (yielded ops a.tmps) = true then Oper.wp P o a w K Q else E := by
  rw [if_pos (by simp [Region.wanted, hg])]
  exact wp_append_old s x t ho base e i z size bytes ht hi hz hsize hby hzs hsz v n xs hs hown ad m c news hx hl hnews h1 h63 hbytes hbase h
theorem own_block {W : World} {base e c n : Nat} {A : Option Addr} {xs : List Value} (h : W.ownsRow base e 1 (.slice A n c) n xs) (hn : 1 ≤ n) : ∃ q, A = some ⟨q, 0, none⟩ := by
  rcases h.2 with ⟨_, h1⟩ | ⟨g, cap, cur, h0, _⟩
  · omega
  · injection h0 with h1 _ _
    exact ⟨g, h1⟩
theorem fst_at (es : List (Value × List Int)) (i : Nat) (h : i < es.length) : (es.map (·.1))[i]? = some (es[i]).1 := by
  rw [List.getElem?_map, List.getElem?_eq_getElem h]; rfl
theorem same_at {es us : List (Value × List Int)} (h : us.map (·.2) = es.map (·.2)) (i : Nat) (h1 : i < es.length) (h2 : i < us.length) : (us[i]).2 = (es[i]).2 := by
  have := congrArg (fun l => l[i]?) h
  simp only [List.getElem?_map, List.getElem?_eq_getElem h1, List.getElem?_eq_getElem h2, Option.map_some, Option.some.injEq] at this
  exact this
/-- the lists that the book at block g keeps, without the copies -/
structure BL (W : World) (g : Nat) (va : Value) (es : List (Value × List Int)) : Prop where
  lt : g < W.heap.size
  none : ∀ j, j < 14 → j ≠ 4 → j ≠ 5 → W.cell? ⟨g, j, .none⟩ = some (.slice .none 0 0)
  c6 : W.cell? ⟨g, 4, .none⟩ = some va
  own6 : W.ownsRow 0 23 1 va es.length (es.map (·.1))
  rows : ∀ x ∈ es, rowOk W x
  apart : (g :: (blk va ++ fps es)).Nodup
theorem BK.lists {W : World} {g : Nat} {va vb : Value} {es us : List (Value × List Int)} (h : BK W g va vb es us) : BL W g va es :=
  ⟨h.lt, h.none, h.c6, h.own6, h.rows, List.nodup_cons.2 ⟨fun hq => by rcases List.mem_append.1 hq with h1 | h1; exact h.ga h1; exact h.ge h1,
    List.nodup_append.2 ⟨blk_nodup _, (List.nodup_append.1 (List.nodup_append.1 (List.nodup_cons.1 h.apart).2).2.1).2.1, fun a ha b hb e => (h.ab a ha).2 (e ▸ hb)⟩⟩⟩
theorem BL.ga {W : World} {g : Nat} {va : Value} {es : List (Value × List Int)} (h : BL W g va es) : g ∉ blk va := fun hq => (List.nodup_cons.1 h.apart).1 (by simp [hq])
theorem BL.ge {W : World} {g : Nat} {va : Value} {es : List (Value × List Int)} (h : BL W g va es) : g ∉ fps es := fun hq => (List.nodup_cons.1 h.apart).1 (by simp [hq])
theorem BL.ae {W : World} {g : Nat} {va : Value} {es : List (Value × List Int)} (h : BL W g va es) : ∀ q, q ∈ blk va → q ∉ fps es := fun q hq hb => (List.nodup_append.1 (List.nodup_cons.1 h.apart).2).2.2 q hq q hb rfl
/-- the same slices, whatever is in them -/
theorem fps_congr {es fs : List (Value × List Int)} (h : fs.map (·.1) = es.map (·.1)) : fps fs = fps es := by
  have e : ∀ l : List (Value × List Int), fps l = (l.map (·.1)).flatMap blk := fun l => by simp [fps, List.flatMap_map]
  rw [e, e, h]
theorem fps_at {es : List (Value × List Int)} {i : Nat} (h : i < es.length) {q : Nat} (hq : q ∈ blk (es[i]).1) : q ∈ fps es := mem_fps.2 ⟨_, List.getElem_mem h, hq⟩
/-- two lists of the book lie apart -/
theorem fps_apart : ∀ {es : List (Value × List Int)} (_ : (fps es).Nodup) {i j : Nat} (hi : i < es.length) (hj : j < es.length) (_ : i ≠ j) {q : Nat}, q ∈ blk (es[i]).1 → q ∉ blk (es[j]).1
  | x :: es, hd, 0, 0, _, _, hne, _, _ => absurd rfl hne
  | x :: es, hd, 0, j + 1, _, hj, _, q, hq => fun h => by
    have := (List.nodup_append.1 (show (blk x.1 ++ fps es).Nodup from hd)).2.2 q hq q (fps_at (es := es) (by simpa using hj) h) rfl
    exact this
  | x :: es, hd, i + 1, 0, hi, _, _, q, hq => fun h => by
    have := (List.nodup_append.1 (show (blk x.1 ++ fps es).Nodup from hd)).2.2 q h q (fps_at (es := es) (by simpa using hi) hq) rfl
    exact this
  | x :: es, hd, i + 1, j + 1, hi, hj, hne, q, hq => fps_apart (es := es) (List.nodup_append.1 (show (blk x.1 ++ fps es).Nodup from hd)).2.1 (by simpa using hi) (by simpa using hj) (by omega) hq
/-- list i has turned, nothing else -/
theorem BL.turn {W W1 : World} {g : Nat} {va : Value} {es : List (Value × List Int)} {i : Nat} (h : BL W g va es) (hi : i < es.length) (ht : Touch (blk (es[i]).1) W W1) {l : List Int} (hr : rowOk W1 ((es[i]).1, l)) :
    BL W1 g va (es.set i ((es[i]).1, l)) := by
  have hm : (es.set i ((es[i]).1, l)).map (·.1) = es.map (·.1) := by
    rw [List.map_set]
    apply List.ext_getElem?
    intro j
    rw [List.getElem?_set]
    split
    · rename_i e; subst e; simp [hi]
    · rfl
  have hn : ∀ q ∈ blk (es[i]).1, q ∈ fps es := fun q hq => fps_at hi hq
  have hg : g ∉ blk (es[i]).1 := fun hq => h.ge (hn g hq)
  refine ⟨Nat.lt_of_lt_of_le h.lt ht.size, fun j a b c => (ht.cell (p := ⟨g, j, .none⟩) h.lt hg).trans (h.none j a b c), (ht.cell (p := ⟨g, 4, .none⟩) h.lt hg).trans h.c6, ?_, ?_, by rw [fps_congr hm]; exact h.apart⟩
  · rw [hm, List.length_set]
    exact ht.row h.own6 (fun q hq hb => h.ae q (mem_blk.2 hq) (hn q hb))
  · intro x hx
    obtain ⟨j, hj, e⟩ := List.getElem_of_mem hx
    rw [List.getElem_set] at e
    split at e
    · rw [← e]; exact hr
    · rename_i hne
      have hj' : j < es.length := by simpa using hj
      rw [← e]
      refine (h.rows _ (List.getElem_mem hj')).touch ht (fun q hq hb => ?_)
      exact fps_apart (List.nodup_append.1 (List.nodup_cons.1 h.apart).2).2.1 hj' hi (by omega) hq hb
def markTo (i : Nat) (es : List (Value × List Int)) : List (Value × List Int) := es.mapIdx fun j x => if j < i then (x.1, markL j 0 x.2.length) else x
theorem markTo_length (i : Nat) (es : List (Value × List Int)) : (markTo i es).length = es.length := by simp [markTo]
theorem markTo_zero (es : List (Value × List Int)) : markTo 0 es = es := by
  apply List.ext_getElem (by simp [markTo])
  intro j h1 h2
  simp [markTo]
theorem markTo_at (i : Nat) (es : List (Value × List Int)) (j : Nat) (h : j < (markTo i es).length) (h2 : j < es.length) : (markTo i es)[j] = if j < i then ((es[j]).1, markL j 0 (es[j]).2.length) else es[j] := by simp [markTo]
theorem markTo_succ (i : Nat) (es : List (Value × List Int)) (h : i < es.length) : markTo (i + 1) es = (markTo i es).set i ((es[i]).1, markL i 0 (es[i]).2.length) := by
  apply List.ext_getElem (by simp [markTo])
  intro j h1 h2
  have h3 : j < es.length := by simpa [markTo] using h1
  rw [markTo_at _ _ _ _ h3, List.getElem_set]
  by_cases e : i = j
  · subst e; rw [if_pos (by omega), if_pos rfl]
  · rw [if_neg e, markTo_at _ _ _ _ h3]
    by_cases h4 : j < i
    · rw [if_pos (by omega), if_pos h4]
    · rw [if_neg (by omega), if_neg h4]
theorem markTo_fps (i : Nat) (es : List (Value × List Int)) : fps (markTo i es) = fps es := by
  apply fps_congr
  apply List.ext_getElem (by simp [markTo])
  intro j h1 h2
  have h3 : j < es.length := by simpa using h2
  rw [List.getElem_map, List.getElem_map, markTo_at _ _ _ _ h3]
  split <;> rfl
/-- the first k of the marks, the rest as it was -/
def mixL (a l : List Int) (k : Nat) : List Int := a.take k ++ l.drop k
theorem mixL_zero (a l : List Int) : mixL a l 0 = l := by simp [mixL]
theorem mixL_all (a l : List Int) (h : a.length = l.length) : mixL a l l.length = a := by
  rw [mixL, List.drop_length, List.append_nil, ← h, List.take_length]
theorem mixL_length (a l : List Int) (h : a.length = l.length) (k : Nat) (hk : k ≤ l.length) : (mixL a l k).length = l.length := by simp [mixL]; omega
theorem mixL_set (a l : List Int) (h : a.length = l.length) (k : Nat) (hk : k < l.length) : (mixL a l k).set k (a[k]'(by omega)) = mixL a l (k + 1) := by
  rw [mixL, mixL, List.set_append_right _ _ (by rw [List.length_take]; omega), List.length_take, Nat.min_eq_left (by omega), Nat.sub_self, List.drop_eq_getElem_cons hk, List.set_cons_zero,
    List.take_succ_eq_append_getElem (show k < a.length by omega), List.append_assoc]
  rfl

theorem own_at {W : World} {base e size c n : Nat} {A : Option Addr} {xs : List Value} (h : W.ownsRow base e size (.slice A n c) n xs) (hn : 1 ≤ n) : ∃ q, A = some ⟨q, 0, none⟩ := by
  rcases h.2 with ⟨_, h1⟩ | ⟨g, cap, cur, h0, _⟩
  · omega
  · injection h0 with h1 _ _
    exact ⟨g, h1⟩
def NewMarks (W : World) (i m : Nat) (e : Ending) (w' : World) : Prop :=
  ∃ A c, e = .returned (.slice A m c) ∧ w'.ownsRow W.heap.size 22 1 (.slice A m c) m (ptC (markL i 0 m)) ∧ Below W.heap.size W w'
theorem NewPts.marks {W w' : World} {i m : Nat} {e : Ending} (h : NewPts W (markL i 0 m) e w') : NewMarks W i m e w' := by
  obtain ⟨A, c, h1, h2, h3⟩ := h
  rw [markL_length] at h1 h2
  exact ⟨A, c, h1, h2, h3⟩
/-- a slice stays as it was, where a longer one over the same block does -/
theorem own_share {W1 W2 : World} {b b' e s n N q c c' : Nat} {xs XS : List Value} (hv : W1.ownsRow b e s (.slice (some ⟨q, 0, none⟩) n c) n xs) (hl : W1.ownsRow b' e s (.slice (some ⟨q, 0, none⟩) N c') N XS) (hn : n ≤ N)
    (h2 : W2.ownsRow b' e s (.slice (some ⟨q, 0, none⟩) N c') N XS) : W2.ownsRow b e s (.slice (some ⟨q, 0, none⟩) n c) n xs := by
  rcases hv.2 with ⟨h0, _⟩ | ⟨g1, cap1, cur1, a1, b1, c1, d1, e1, f1, t1⟩
  · cases h0
  rcases hl.2 with ⟨h0, _⟩ | ⟨g2, cap2, cur2, a2, b2, c2, d2, e2, f2, t2⟩
  · cases h0
  rcases h2.2 with ⟨h0, _⟩ | ⟨g3, cap3, cur3, a3, b3, c3, d3, e3, f3, t3⟩
  · cases h0
  injection a1 with k1 _ k2
  injection k1 with k1
  injection k1 with k1
  injection a2 with k3 _ k4
  injection k3 with k3
  injection k3 with k3
  injection a3 with k5 _ k6
  injection k5 with k5
  injection k5 with k5
  subst k1 k2 k3 k4 k5 k6
  rw [c1] at c2
  injection c2 with c2
  injection c2 with c2
  subst c2
  refine ⟨hv.1, .inr ⟨q, c, cur3, rfl, b1, c3, d1, e1, by rw [f3, ← f2, f1], ?_⟩⟩
  have hle : n * s ≤ N * s := Nat.mul_le_mul_right _ hn
  have h4 : (List.take (N * s) cur3.toList).take (n * s) = (List.take (N * s) cur1.toList).take (n * s) := by rw [t3, t2]
  rw [List.take_take, List.take_take, Nat.min_eq_left hle] at h4
  rw [h4, t1]
/-- what an append onto l leaves of a slice v that lies in l's block, or elsewhere -/
theorem own_beside {W1 W2 : World} {n N c : Nat} {A : Option Addr} {l : Value} {xs XS : List Value} (hv : W1.ownsRow 0 22 1 (.slice A n c) n xs) (hl : W1.ownsRow 0 22 1 l N XS) (hn : n ≤ N)
    (hg : W1.grownBy W2 l.ownBlock) (h2 : W2.ownsRow 0 22 1 l N XS) : W2.ownsRow 0 22 1 (.slice A n c) n xs := by
  rcases A with _ | ad
  · rcases hv.2 with ⟨h0, h1⟩ | ⟨g1, cap1, cur1, a1, _⟩
    · rw [h0]
      have : xs = [] := List.eq_nil_of_length_eq_zero (by rw [hv.1, h1])
      subst this
      rw [h1]
      exact World.ownsRow_nil _ _ _ _
    · cases a1
  · by_cases h : l.ownBlock = some ad.block
    · obtain ⟨B, d, rfl⟩ := own_slice hl
      rcases B with _ | bd
      · cases h
      rcases hv.2 with ⟨h0, _⟩ | ⟨g1, cap1, cur1, a1, _⟩
      · cases h0
      rcases hl.2 with ⟨h0, _⟩ | ⟨g2, cap2, cur2, a2, _⟩
      · cases h0
      injection a1 with k1 _ k2
      injection k1 with k1
      subst k1 k2
      injection a2 with k3 _ k4
      injection k3 with k3
      subst k3 k4
      have hq : g2 = g1 := Option.some.inj h
      subst hq
      exact own_share hv hl hn h2
    · exact hv.kept hg (.inr (fun e => h e.symm))

theorem markL_append (i N m : Nat) : markL i 0 N ++ markL i N m = markL i 0 (N + m) := by
  simp only [markL, ← List.map_append]
  congr 1
  have h := List.range'_append_1 (s := 0) (m := N) (n := m)
  simpa using h
/-- a list that is being grown: the slice v of the book stays, l is the longer one -/
structure GR (wo wx : World) (i : Nat) (v : Value) (n0 : Nat) (l : Value) (N : Nat) : Prop where
  le : n0 ≤ N
  old : wx.ownsRow 0 22 1 v n0 (ptC (markL i 0 n0))
  row : wx.ownsRow 0 22 1 l N (ptC (markL i 0 N))
  at_ : ∀ q ∈ blk l, q ∈ blk v ∨ wo.heap.size ≤ q
  touch : Touch (blk v) wo wx
theorem GR.start {wo : World} {i n0 : Nat} {v : Value} (h : wo.ownsRow 0 22 1 v n0 (ptC (markL i 0 n0))) : GR wo wo i v n0 v n0 := ⟨Nat.le_refl _, h, h, fun _ hq => .inl hq, Touch.refl _ _⟩
theorem GR.below {wo wx w1 : World} {i n0 N : Nat} {v l : Value} (h : GR wo wx i v n0 l N) (hb : Below wx.heap.size wx w1) : GR wo w1 i v n0 l N :=
  ⟨h.le, own_step h.old hb, own_step h.row hb, h.at_, h.touch.trans (Touch.ofBelow (F := []) hb) (by simp)⟩
theorem GR.grown {wo w1 w2 : World} {i n0 N m : Nat} {v l l' : Value} (h : GR wo w1 i v n0 l N) (ho : w2.ownsRow 0 22 1 l' (N + m) (ptC (markL i 0 N) ++ ptC (markL i N m))) (hg : w1.grownBy w2 l.ownBlock)
    (hold : w2.ownsRow 0 22 1 l N (ptC (markL i 0 N))) (hs : SameOrNew w1 l l') : GR wo w2 i v n0 l' (N + m) := by
  obtain ⟨A, c, rfl⟩ := own_slice h.old
  refine ⟨by have := h.le; omega, own_beside h.old h.row h.le hg hold, by rw [← ptC_append, markL_append] at ho; exact ho, (fun q hq => ?_), h.touch.grown hg (fun k hk => h.at_ k (mem_blk.2 hk))⟩
  rcases hs q (mem_blk.1 hq) with h1 | h1
  · exact h.at_ q (mem_blk.2 h1)
  · exact .inr (Nat.le_trans h.touch.size h1)
def NewMarksF (W : World) (i f m : Nat) (e : Ending) (w' : World) : Prop :=
  ∃ A c, e = .returned (.slice A m c) ∧ w'.ownsRow W.heap.size 22 1 (.slice A m c) m (ptC (markL i f m)) ∧ Below W.heap.size W w'
theorem NewPts.marksF {W w' : World} {i f m : Nat} {e : Ending} (h : NewPts W (markL i f m) e w') : NewMarksF W i f m e w' := by
  obtain ⟨A, c, h1, h2, h3⟩ := h
  rw [markL_length] at h1 h2
  exact ⟨A, c, h1, h2, h3⟩
theorem BL.touch {W W1 : World} {g : Nat} {va : Value} {es : List (Value × List Int)} {G : List Nat} (h : BL W g va es) (ht : Touch G W W1) (hn : ∀ q, q < W.heap.size → q ∈ g :: (blk va ++ fps es) → q ∉ G) : BL W1 g va es := by
  have hg : g ∉ G := hn g h.lt (by simp)
  refine ⟨Nat.lt_of_lt_of_le h.lt ht.size, fun j a b c => (ht.cell (p := ⟨g, j, .none⟩) h.lt hg).trans (h.none j a b c), (ht.cell (p := ⟨g, 4, .none⟩) h.lt hg).trans h.c6,
    ht.row h.own6 (fun q hq => hn q (h.own6.lt q hq).2 (by simp [mem_blk.2 hq])), fun x hx => (h.rows x hx).touch ht (fun q hq => hn q ((h.rows x hx).lt hq) (by
      simp only [List.mem_cons, List.mem_append]
      exact .inr (.inr (mem_fps.2 ⟨x, hx, hq⟩)))), h.apart⟩
theorem BL.ltF {W : World} {g : Nat} {va : Value} {es : List (Value × List Int)} (h : BL W g va es) : ∀ q ∈ g :: (blk va ++ fps es), q < W.heap.size := by
  intro q hq
  simp only [List.mem_cons, List.mem_append] at hq
  rcases hq with rfl | hq | hq
  · exact h.lt
  · exact row_lt h.own6 hq
  · obtain ⟨x, hx, hq⟩ := mem_fps.1 hq; exact (h.rows x hx).lt hq
def Marked (es : List (Value × List Int)) : Prop := ∀ j (h : j < es.length), (es[j]).2 = markL j 0 (es[j]).2.length
def GrowPost (W : World) (g : Nat) (va : Value) (es : List (Value × List Int)) (e : Ending) (w' : World) : Prop :=
  ∃ A c ys, ys.length = es.length ∧ e = .returned (.slice A es.length c) ∧ w'.ownsRow W.heap.size 23 1 (.slice A es.length c) es.length (ys.map (·.1)) ∧ (∀ x ∈ ys, rowOk w' x) ∧ Marked ys ∧ (∀ x ∈ ys, x.2.length ≤ 100000) ∧ BL w' g va es ∧ Touch (fps es) W w'

def GrowRel (W wx : World) (g : Nat) (va : Value) (es : List (Value × List Int)) (i : Nat) (vo : Value) (ys : List (Value × List Int)) : Prop :=
  ys.length = i ∧ wx.ownsRow W.heap.size 23 1 vo i (ys.map (·.1)) ∧ (∀ x ∈ ys, rowOk wx x) ∧ Marked ys ∧ (∀ x ∈ ys, x.2.length ≤ 100000) ∧
    (∀ q ∈ fps ys, q ∉ blk vo ∧ (q < W.heap.size → ∃ j, ∃ h : j < es.length, j < i ∧ q ∈ blk (es[j]).1)) ∧ BL wx g va es ∧ Touch (fps es) W wx
theorem grow_end {W wo w2 w3 : World} {g i m N2 : Nat} {va vo vo' : Value} {A2 : Option Addr} {c2 : Nat} {o : Obj} {es ys : List (Value × List Int)} (hlt : ∀ q ∈ fps es, q < W.heap.size) (h : GrowRel W wo g va es i vo ys) (hg0 : g < W.heap.size) (hva : ∀ q ∈ blk va, q < W.heap.size)
    (hi : i < es.length) (hm : (es[i]).2 = markL i 0 m) (hN : N2 ≤ 100000) (hv : ∃ A c, (es[i]).1 = .slice A m c) (hG : GR wo w2 i (es[i]).1 m (.slice A2 N2 c2) N2)
    (ho : w3.ownsRow W.heap.size 23 1 vo' (i + 1) (ys.map (·.1) ++ [.slice A2 N2 c2])) (hg : (w2.alloc o).grownBy w3 vo.ownBlock) (hs : SameOrNew (w2.alloc o) vo vo') :
    GrowRel W w3 g va es (i + 1) vo' (ys ++ [(.slice A2 N2 c2, markL i 0 N2)]) := by
  obtain ⟨hY, hO, hR, hMY, hLY, hF, hB, hT⟩ := h
  have hml : (markL i 0 N2).length = N2 := markL_length i 0 N2
  have lo : ∀ q ∈ blk vo, W.heap.size ≤ q ∧ q < wo.heap.size := fun q hq => hO.lt q (mem_blk.1 hq)
  have lv : ∀ q ∈ blk (es[i]).1, q < W.heap.size := fun q hq => hlt q (fps_at hi hq)
  have hnd : (fps es).Nodup := (List.nodup_append.1 (List.nodup_cons.1 hB.apart).2).2.1
  have T2 : Touch (blk (es[i]).1) wo w2 := hG.touch
  have T3 : Touch (blk vo) w2 w3 := ((Touch.refl _ w2).alloc o).grown hg (fun k hk => .inl (mem_blk.2 hk))
  have z2 := T2.size
  have z3 := T3.size
  have zW := hT.size
  have hrow2 : rowOk w2 ((es[i]).1, (es[i]).2) := by
    obtain ⟨A, c, e⟩ := hv
    refine ⟨A, c, ?_, ?_⟩
    · show (es[i]).1 = .slice A (es[i]).2.length c
      rw [hm, markL_length, e]
    · show Row w2 (es[i]).1 (es[i]).2
      rw [Row, hm, markL_length]
      exact hG.old
  have hB2 : BL w2 g va es := by
    have h9 := hB.turn hi T2 hrow2
    rwa [show es.set i ((es[i]).1, (es[i]).2) = es from List.set_getElem_self hi] at h9
  have hB3 : BL w3 g va es := hB2.touch T3 (fun q _ hq h9 => by
    have h8 := (lo q h9).1
    simp only [List.mem_cons, List.mem_append] at hq
    rcases hq with rfl | hq | hq
    · omega
    · have := hva q hq; omega
    · have := hlt q hq; omega)
  have hX : rowOk w2 (.slice A2 N2 c2, markL i 0 N2) := ⟨A2, c2, by show _ = Value.slice A2 (markL i 0 N2).length c2; rw [hml], by rw [Row, hml]; exact hG.row⟩
  have hXn : ∀ q ∈ blk (.slice A2 N2 c2), q ∉ blk vo := fun q hq h9 => by
    have h8 := lo q h9
    rcases hG.at_ q hq with h7 | h7
    · have := lv q h7; omega
    · omega
  have hR2 : ∀ x ∈ ys, rowOk w2 x := fun x hx => (hR x hx).touch T2 (fun q hq h9 => by
    obtain ⟨j, hj, hji, hq2⟩ := (hF q (mem_fps.2 ⟨x, hx, hq⟩)).2 (lv q h9)
    exact fps_apart hnd hj hi (by omega) hq2 h9)
  refine ⟨by simp [hY], by simpa using ho, ?_, ?_, ?_, ?_, hB3, ?_⟩
  · intro x hx
    rcases List.mem_append.1 hx with hx | hx
    · exact (hR2 x hx).touch T3 (fun q hq => (hF q (mem_fps.2 ⟨x, hx, hq⟩)).1)
    · simp at hx; subst hx; exact hX.touch T3 hXn
  · intro j hj
    by_cases h9 : j < ys.length
    · rw [List.getElem_append_left h9]; exact hMY j h9
    · have e : j = ys.length := by simp at hj; omega
      subst e
      rw [List.getElem_append_right (Nat.le_refl _)]
      simp [hml, hY]
  · intro x hx
    rcases List.mem_append.1 hx with hx | hx
    · exact hLY x hx
    · simp at hx; subst hx; show (markL i 0 N2).length ≤ _; omega
  · intro q hq
    rw [fps_snoc] at hq
    rcases List.mem_append.1 hq with hq | hq
    · obtain ⟨x, hx, hqx⟩ := mem_fps.1 hq
      have hq2 := (hR2 x hx).lt hqx
      refine ⟨fun h9 => ?_, fun h9 => ?_⟩
      · rcases hs q (mem_blk.1 h9) with h8 | h8
        · exact (hF q hq).1 (mem_blk.2 h8)
        · simp at h8; omega
      · obtain ⟨j, hj, hji, h7⟩ := (hF q hq).2 h9
        exact ⟨j, hj, by omega, h7⟩
    · have hq2 : q < w2.heap.size := row_lt hG.row hq
      refine ⟨fun h9 => ?_, fun h9 => ?_⟩
      · rcases hs q (mem_blk.1 h9) with h8 | h8
        · exact hXn q hq (mem_blk.2 h8)
        · simp at h8; omega
      · rcases hG.at_ q hq with h7 | h7
        · exact ⟨i, hi, by omega, h7⟩
        · omega
  · exact (hT.trans T2 (fun x hx => .inl (fps_at hi hx))).trans T3 (fun x hx => .inr (lo x hx).1)

theorem below_drewN {B : Nat} {a b : World} (h : Below B a b) (n : Nat) : Below B a (b.drewN n) := ⟨h.os, h.tape, h.output, h.size, h.block⟩
theorem below_step {wb W W1 : World} {A : World → Prop} (HSS : ∀ w', Below wb.heap.size wb w' → Below wb.heap.size wb w' ∧ A w') (h : Below wb.heap.size wb W ∧ A W) (k : Below W.heap.size W W1) : Below wb.heap.size wb W1 ∧ A W1 := HSS _ (acc h.1 k)

/-- points that lie one behind another -/
def PtAt (W : World) (A : Option Addr) (l : List Int) : Prop := ∃ b o, ∀ i (h : i < l.length), A = some ⟨b, o, none⟩ ∧ b < W.heap.size ∧ W.cell? ⟨b, o + i, none⟩ = some (.int .u64 (l[i]))
theorem PtAt.below {W w : World} {A : Option Addr} {l : List Int} (h : PtAt W A l) (hb : Below W.heap.size W w) : PtAt w A l := by
  obtain ⟨b, o, h⟩ := h
  exact ⟨b, o, fun i hi => ⟨(h i hi).1, Nat.lt_of_lt_of_le (h i hi).2.1 hb.size, (hb.cell (p := ⟨b, o + i, none⟩) (h i hi).2.1).trans (h i hi).2.2⟩⟩
theorem PtAt.own {W : World} {base n c : Nat} {A : Option Addr} {l : List Int} (h : W.ownsRow base 22 1 (.slice A n c) n (ptC l)) (hn : l.length = n) : PtAt W A l := by
  by_cases h0 : 1 ≤ n
  · obtain ⟨q, rfl⟩ := own_at h h0
    refine ⟨q, 0, fun i hi => ⟨rfl, (h.lt q rfl).2, ?_⟩⟩
    rw [Nat.zero_add, h.cellAt i (by omega), ptC_get l i hi]
  · exact ⟨0, 0, fun i hi => by omega⟩
set_option maxRecDepth 20000 in
set_option maxHeartbeats 1000000 in
theorem samePts_any (A B : Option Addr) (c d n : Nat) (l : List Int) (W : World) (hA : PtAt W A l) (hB : PtAt W B l) (hn : l.length = n) (hl : n ≤ 100000) :
    Calls Try.prog 17 #[.slice A n c, .slice B n d] W fun e w' => e = .returned (.bool true) ∧ Below W.heap.size W w' := by
  have HA := Lib.hid hA
  have HB := Lib.hid hB
  have HN := Lib.hid hn
  clear hA hB hn
  go_enter Try.func17, Try.ntmps17
  go_wp2
  go_loopg [5] (n + 1) (fun gh s5 wx => ∃ i : Nat, i + gh = n + 1 ∧ i ≤ n ∧ s5 = .int .i64 (i : Nat) ∧ Hid (Below W.heap.size W wx))
  case atStart => exact ⟨0, by omega, by omega, rfl, Below.refl _ _⟩
  case round =>
    obtain ⟨i, hig, hi, rfl, HW⟩ := hrel
    by_cases hlt : i < n
    · have ii : (i : Int) < (n : Int) := by omega
      have zi : IntKind.i64.wrap ((i : Int) + 1) = (i : Int) + 1 := by rw [IntKind.wrap_i64]; omega
      obtain ⟨b1, o1, h1⟩ := HA.out.below HW.out
      obtain ⟨b2, o2, h2⟩ := HB.out.below HW.out
      obtain ⟨rfl, -, e1⟩ := h1 i (by rw [HN.out]; exact hlt)
      obtain ⟨rfl, -, e2⟩ := h2 i (by rw [HN.out]; exact hlt)
      generalize l[i]'(by rw [HN.out]; exact hlt) = x at e1 e2
      clear h1 h2
      go_upto_region 6 with fail
      go_quiet (fail)
      go_wp2
      go_roundg (gk - 1)
      case measure => omega
      case rel => exact ⟨i + 1, by omega, by omega, by go_num, below_drewN HW.out _⟩
    · obtain rfl : n = i := by omega
      go_wp2_with fail
      go_ret
      exact ⟨rfl, HW.out⟩
set_option maxHeartbeats 1000000 in
theorem copyPts_any (A : Option Addr) (c : Nat) (l : List Int) (W : World) (hA : Row W (.slice A l.length c) l) (hl : l.length ≤ 100000) :
    Calls Try.prog 21 #[.slice A l.length c] W (NewPts W l) := by
  obtain ⟨i0, z0, hi, hz, hsL, hbL, hzc⟩ := infoP_
  obtain ⟨n, hn⟩ : ∃ n, l.length = n := ⟨_, rfl⟩
  have HF : Hid (From W 1 (.slice A n c) n (ptC l)) := From.own (by have h := hA; unfold Row at h; rw [hn] at h; exact h)
  have HN := Lib.hid hn
  rw [hn] at hl ⊢
  clear hn hA
  go_enter Try.func21, Try.ntmps21
  go_wp2_with (at_builtin; (refine wpList_append_any rfl (.const (.slice none 0 0)) (.tmp 3) 23 rfl W.heap.size 22 i0 z0 1 8 Try.underlying23 hi hz hsL hbL hzc (by decide) (.slice none 0 0) 0 [] rfl (World.ownsRow_nil _ _ _ _) _ n (ptC l) rfl HF.out (pt_one _) (by unfold maxLen; omega) (by omega) (Nat.le_refl _) ?_); intro A1 c1 w1 hown1 hg1 hsn1; simp only [Nat.zero_add, List.nil_append] at hown1; have HO1 := Lib.hid hown1; have HT1 := Lib.hid ((Below.refl W.heap.size W).grown hg1 (Nat.le_refl _) (fun z hz => by cases hz)); clear hown1 hg1 hsn1)
  go_ret
  exact ⟨A1, c1, by rw [HN.out]; rfl, by rw [HN.out]; exact HO1.out, HT1.out⟩
/-- two lists that are alike: SamePoints says so, in whatever world behind -/
theorem same_calls {W : World} {x y : Value × List Int} (hx : rowOk W x) (hy : rowOk W y) (h : y.2 = x.2) (hl : x.2.length ≤ 100000) (w' : World) (hb : Below W.heap.size W w') :
    Calls Try.prog 17 #[x.1, y.1] w' fun e w'' => e = .returned (.bool true) ∧ Below w'.heap.size w' w'' := by
  obtain ⟨A, c, e1, r1⟩ := hx
  obtain ⟨B, d, e2, r2⟩ := hy
  unfold Row at r1 r2
  rw [h] at e2 r2
  rw [e1] at r1 ⊢
  rw [e2] at r2 ⊢
  exact samePts_any A B c d x.2.length x.2 w' ((PtAt.own r1 rfl).below hb) ((PtAt.own r2 rfl).below hb) rfl hl
end Go.Proofs.Ytfpoapmbpbkibaa.Pb
