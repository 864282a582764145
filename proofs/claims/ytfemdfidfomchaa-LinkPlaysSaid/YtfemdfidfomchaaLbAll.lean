/-
  The book of lists of letters: what its block holds; marks. (Written by tools/genBookK.py, out of the book of items.)
  The book of letters: copies. (Written by tools/genBookK.py, out of the book of items.)
  The book of letters: one more list. (Written by tools/genBookK.py, out of the book of items.)
  The book of letters: are they as they were; marks are put. (Written by tools/genBookK.py, out of the book of items.)
  The book of letters: are they all marks? (Written by tools/genBookK.py, out of the book of items.)
  The book of letters: lists grow. (Written by tools/genBookK.py, out of the book of items.)
  The book of letters: the kinds of which it keeps none. (Written by tools/genBookK.py, out of the book of items.)
  The book of letters: Apart. (Written by tools/genBookK.py, out of the book of items.)
-/
import Derived.Test.YtfemdfidfomchaaLinkAlikeX
import Derived.Test.YtfemdfidfomchaaAppendOld
import Derived.Test.YtfemdfidfomchaaBookItems
import Derived.Test.YtfemdfidfomchaaLinkTick
import Derived.Test.YtfemdfidfomchaaHeldTill
import Derived.Deep.RegionLaw
import Derived.Deep.QuietTactic
import Derived.BigQuiet
import Derived.Deep.DeepCutAuto
import Derived.RegionTactic
import Derived.Deep.RegionHeld3
import Derived.Deep.MidRow
namespace Go.Proofs.Ytfemdfidfomchaa.Lb
open Go.RowKit Go.Proofs.Ytfemdfidfomchaa

abbrev lsC (l : List LR) : List Value := rowC LR.cells l
theorem lsC_length (l : List LR) : (lsC l).length = l.length * 21 := rowC_length lE_size l
theorem lsC_append (a b : List LR) : lsC (a ++ b) = lsC a ++ lsC b := rowC_append _ _ _
abbrev markL (i f n : Nat) : List LR := markLs i f n
theorem markL_length (i f n : Nat) : (markL i f n).length = n := markLs_length i f n
theorem mark_light {i f n : Nat} {r : LR} (h : r ∈ markL i f n) : ∃ k, r = LR.light k 0 := by
  obtain ⟨k, _, rfl⟩ := List.mem_map.1 h
  exact ⟨_, rfl⟩
theorem mark_sl {i f n : Nat} : ∀ r ∈ markL i f n, r.sl := fun r hr => by
  obtain ⟨k, rfl⟩ := mark_light hr
  exact light_sl _ _
theorem mark_at (W : World) {i f n : Nat} : ∀ r ∈ markL i f n, r.At W [] := fun r hr => by
  obtain ⟨k, rfl⟩ := mark_light hr
  exact light_at _ _ _ _
theorem mark_one {i f n : Nat} : ∀ u ∈ lsC (markL i f n), u.oneCell' = true := rowC_all fun x hx => LR.one (mark_sl x hx)
def Row (W : World) (v : Value) (l : List LR) : Prop := W.ownsRow 0 51 21 v l.length (lsC l)
theorem infoL_ : ∃ i z, Try.prog.info? 51 = some i ∧ i.zero = some z ∧ i.size = 21 ∧ i.bytes = 240 ∧ z.cells.size = 21 := by
  obtain ⟨i, h1, h2, h3, h4⟩ := lk_infoLt
  exact ⟨i, _, h1, h2, h3, h4, rfl⟩
def blk (v : Value) : List Nat := v.ownBlock.toList
theorem mem_blk {v : Value} {q : Nat} : q ∈ blk v ↔ v.ownBlock = some q := by simp [blk]
def rowOk (W : World) (x : Value × List LR) : Prop := ∃ A c, x.1 = .slice A x.2.length c ∧ Row W x.1 x.2
def fps (es : List (Value × List LR)) : List Nat := es.flatMap fun x => blk x.1
theorem mem_fps {es : List (Value × List LR)} {q : Nat} : q ∈ fps es ↔ ∃ x ∈ es, q ∈ blk x.1 := by simp [fps]
theorem fps_snoc (es : List (Value × List LR)) (x : Value × List LR) : fps (es ++ [x]) = fps es ++ blk x.1 := by simp [fps]
/-- all blocks of the book but those of the letters' lists -/
def BF (g : Nat) (va vb : Value) (es us : List (Value × List LR)) : List Nat := g :: (blk va ++ (blk vb ++ (fps es ++ fps us)))
/-- the book at block g: the lists es that it keeps (their slices in a row at va), copies of them us (at vb); all other lists are none; P: blocks of the letters' lists, that nobody writes -/
structure BK (W : World) (g : Nat) (va vb : Value) (es us : List (Value × List LR)) (P : List Nat) : Prop where
  lt : g < W.heap.size
  none : ∀ j, j < 14 → j ≠ 12 → j ≠ 13 → W.cell? ⟨g, j, none⟩ = some (.slice none 0 0)
  c6 : W.cell? ⟨g, 12, .none⟩ = some va
  c7 : W.cell? ⟨g, 13, .none⟩ = some vb
  f6 : W.frozen? ⟨g, 12, .none⟩ = false
  f7 : W.frozen? ⟨g, 13, .none⟩ = false
  own6 : W.ownsRow 0 59 1 va es.length (es.map (·.1))
  own7 : W.ownsRow 0 59 1 vb us.length (us.map (·.1))
  rows : ∀ x ∈ es, rowOk W x
  copies : ∀ x ∈ us, rowOk W x
  same : us.map (fun x => x.2.map (·.l)) = es.map (fun x => x.2.map (·.l))
  apart : (g :: (blk va ++ (blk vb ++ fps es))).Nodup
  beside : ∀ q ∈ fps us, q ≠ g ∧ q ∉ blk va ∧ q ∉ blk vb
  inner : ∀ x ∈ es, ∀ r ∈ x.2, r.At W P
  innerU : ∀ x ∈ us, ∀ r ∈ x.2, r.At W P
  plt : ∀ q ∈ P, q < W.heap.size
  pout : ∀ q ∈ P, q ∉ BF g va vb es us
theorem rowOk.touch {W W1 : World} {x : Value × List LR} {G : List Nat} (h : rowOk W x) (ht : Touch G W W1) (hn : ∀ q ∈ blk x.1, q ∉ G) : rowOk W1 x := by
  obtain ⟨A, c, e, hr⟩ := h
  exact ⟨A, c, e, ht.row hr (fun q hq => hn q (mem_blk.2 hq))⟩
theorem BK.touch {W W1 : World} {g : Nat} {va vb : Value} {es us : List (Value × List LR)} {G : List Nat} {P : List Nat} (h : BK W g va vb es us P) (ht : Touch G W W1) (hn : ∀ q ∈ BF g va vb es us, q ∉ G) (hp : ∀ q ∈ P, q ∉ G) : BK W1 g va vb es us P := by
  have hg : g ∉ G := hn g (by simp [BF])
  refine ⟨Nat.lt_of_lt_of_le h.lt ht.size, fun j a b c => (ht.cell (p := ⟨g, j, .none⟩) h.lt hg).trans (h.none j a b c), (ht.cell (p := ⟨g, 12, .none⟩) h.lt hg).trans h.c6, (ht.cell (p := ⟨g, 13, .none⟩) h.lt hg).trans h.c7,
    (ht.frozen (p := ⟨g, 12, .none⟩) h.lt hg).trans h.f6, (ht.frozen (p := ⟨g, 13, .none⟩) h.lt hg).trans h.f7,
    ht.row h.own6 (fun q hq => hn q (by simp [BF, mem_blk.2 hq])), ht.row h.own7 (fun q hq => hn q (by simp [BF, mem_blk.2 hq])),
    fun x hx => (h.rows x hx).touch ht (fun q hq => hn q (by simp only [BF, List.mem_cons, List.mem_append]; exact .inr (.inr (.inr (.inl (mem_fps.2 ⟨x, hx, hq⟩)))))),
    fun x hx => (h.copies x hx).touch ht (fun q hq => hn q (by simp only [BF, List.mem_cons, List.mem_append]; exact .inr (.inr (.inr (.inr (mem_fps.2 ⟨x, hx, hq⟩)))))), h.same, h.apart, h.beside, fun x hx r hr => (h.inner x hx r hr).touch ht hp, fun x hx r hr => (h.innerU x hx r hr).touch ht hp, fun q hq => Nat.lt_of_lt_of_le (h.plt q hq) ht.size, h.pout⟩
theorem BK.more {W : World} {g : Nat} {va vb : Value} {es us : List (Value × List LR)} {P Q : List Nat} (h : BK W g va vb es us P) (hm : ∀ q ∈ P, q ∈ Q) (hl : ∀ q ∈ Q, q < W.heap.size) (ho : ∀ q ∈ Q, q ∉ BF g va vb es us) : BK W g va vb es us Q :=
  ⟨h.lt, h.none, h.c6, h.c7, h.f6, h.f7, h.own6, h.own7, h.rows, h.copies, h.same, h.apart, h.beside, fun x hx r hr => (h.inner x hx r hr).mono hm, fun x hx r hr => (h.innerU x hx r hr).mono hm, hl, ho⟩
theorem undrew {F : List Nat} {a b : World} (h : Touch F a.drew b) : Touch F a b := ⟨h.os, h.tape, h.output, h.size, h.block⟩
theorem infoRow : ∃ i z, Try.prog.info? 59 = some i ∧ i.zero = some z ∧ i.size = 1 ∧ i.bytes = 24 ∧ z.cells.size = 1 := by
  have h : (Try.prog.info? 59).map (fun i => (i.zero.isSome, i.size, i.bytes, (i.zero.getD undef).cells.size)) = some (true, 1, 24, 1) := by kernel_rfl
  obtain ⟨i, hi, hx⟩ := Option.map_eq_some_iff.1 h
  simp only [Prod.mk.injEq] at hx
  obtain ⟨h1, h2, h3, h4⟩ := hx
  obtain ⟨z, hz⟩ := Option.isSome_iff_exists.1 h1
  exact ⟨i, z, hi, hz, h2, h3, by rw [hz] at h4; exact h4⟩

theorem BK.ga {W : World} {g : Nat} {va vb : Value} {es us : List (Value × List LR)} {P : List Nat} (h : BK W g va vb es us P) : g ∉ blk va := fun hq => (List.nodup_cons.1 h.apart).1 (by simp [hq])
theorem BK.gb {W : World} {g : Nat} {va vb : Value} {es us : List (Value × List LR)} {P : List Nat} (h : BK W g va vb es us P) : g ∉ blk vb := fun hq => (List.nodup_cons.1 h.apart).1 (by simp [hq])
theorem BK.ge {W : World} {g : Nat} {va vb : Value} {es us : List (Value × List LR)} {P : List Nat} (h : BK W g va vb es us P) : g ∉ fps es := fun hq => (List.nodup_cons.1 h.apart).1 (by simp [hq])
theorem BK.ab {W : World} {g : Nat} {va vb : Value} {es us : List (Value × List LR)} {P : List Nat} (h : BK W g va vb es us P) : ∀ q, q ∈ blk va → q ∉ blk vb ∧ q ∉ fps es := by
  have h2 := (List.nodup_append.1 (List.nodup_cons.1 h.apart).2).2.2
  intro q hq
  exact ⟨fun hb => h2 q hq q (by simp [hb]) rfl, fun hb => h2 q hq q (by simp [hb]) rfl⟩
theorem BK.be {W : World} {g : Nat} {va vb : Value} {es us : List (Value × List LR)} {P : List Nat} (h : BK W g va vb es us P) : ∀ q, q ∈ blk vb → q ∉ fps es := by
  have h2 := (List.nodup_append.1 (List.nodup_append.1 (List.nodup_cons.1 h.apart).2).2.1).2.2
  intro q hq hb
  exact h2 q hq q hb rfl
theorem blk_nodup (v : Value) : (blk v).Nodup := by
  unfold blk
  cases v.ownBlock <;> simp
theorem nodup5 {g : Nat} {a b e v : List Nat} (ha : a.Nodup) (hb : b.Nodup) (he : e.Nodup) (hv : v.Nodup) (g1 : g ∉ a) (g2 : g ∉ b) (g3 : g ∉ e) (g4 : g ∉ v)
    (ab : ∀ q, q ∈ a → q ∉ b) (ae : ∀ q, q ∈ a → q ∉ e) (av : ∀ q, q ∈ a → q ∉ v) (be : ∀ q, q ∈ b → q ∉ e) (bv : ∀ q, q ∈ b → q ∉ v) (ev : ∀ q, q ∈ e → q ∉ v) :
    (g :: (a ++ (b ++ (e ++ v)))).Nodup := by
  rw [List.nodup_cons, List.nodup_append, List.nodup_append, List.nodup_append]
  refine ⟨by simp [g1, g2, g3, g4], ha, ⟨hb, ⟨he, hv, fun x hx y hy e => ev x hx (e ▸ hy)⟩, fun x hx y hy e => ?_⟩, fun x hx y hy e => ?_⟩
  · subst e
    rcases List.mem_append.1 hy with h | h
    · exact be x hx h
    · exact bv x hx h
  · subst e
    rcases List.mem_append.1 hy with h | h
    · exact ab x hx h
    · rcases List.mem_append.1 h with h | h
      · exact ae x hx h
      · exact av x hx h
theorem row_lt {W : World} {base e size n : Nat} {v : Value} {xs : List Value} (h : W.ownsRow base e size v n xs) {q : Nat} (hq : q ∈ blk v) : q < W.heap.size := (h.lt q (mem_blk.1 hq)).2
theorem rowOk.lt {W : World} {x : Value × List LR} (h : rowOk W x) {q : Nat} (hq : q ∈ blk x.1) : q < W.heap.size := by
  obtain ⟨A, c, e, hr⟩ := h
  exact row_lt hr hq
theorem BK.ltF {W : World} {g : Nat} {va vb : Value} {es us : List (Value × List LR)} {P : List Nat} (h : BK W g va vb es us P) : ∀ q ∈ BF g va vb es us, q < W.heap.size := by
  intro q hq
  simp only [BF, List.mem_cons, List.mem_append] at hq
  rcases hq with rfl | hq | hq | hq | hq
  · exact h.lt
  · exact row_lt h.own6 hq
  · exact row_lt h.own7 hq
  · obtain ⟨x, hx, hq⟩ := mem_fps.1 hq; exact (h.rows x hx).lt hq
  · obtain ⟨x, hx, hq⟩ := mem_fps.1 hq; exact (h.copies x hx).lt hq
/-- append onto what the call owns, the old slice still told, as one step of a region that draws its order -/
theorem step_append_old {P : Program} {ops : Array Oper} {o : Oper} {a : Act} {w : World} {K : Act → World → Prop} {Q : Exit → Act → World → Prop} {E : Prop} (hg : o.guard = .none) (s x : Operand) (t : TypeId)
    (ho : o.op = .call { callee := .builtin .append, args := #[s, x], argTypes := #[t, t] })
    (base : Nat) (e : TypeId) (i : TypeInfo) (z : Value) (size bytes : Nat) (ht : P.underlying t = some (.slice e)) (hi : P.info? e = some i) (hz : i.zero = some z)
    (hsize : i.size = size) (hby : i.bytes = bytes) (hzs : z.cells.size = size) (hsz : 0 < size)
    (v : Value) (n : Nat) (xs : List Value) (hs : a.eval s = v) (hown : w.ownsRow base e size v n xs)
    (ad : Addr) (m c : Nat) (news : List Value) (hx : a.eval x = .slice (some ad) m c) (hl : news.length = m * size) (hnews : ∀ j u, news[j]? = some u → w.cell? (ad.add j) = some u) (h1 : ∀ u ∈ news, u.oneCell' = true)
    (h63 : n + m ≤ maxLen) (hbytes : (n + m) * bytes ≤ 140737488355328) (hbase : base ≤ w.heap.size)
    (h : ∀ v' w', w'.ownsRow base e size v' (n + m) (xs ++ news) → w.grownBy w' v.ownBlock → (v' = .slice .none 0 0 ↔ v = .slice .none 0 0 ∧ m = 0) → w'.ownsRow base e size v n xs → SameOrNew w v v' → K (a.put o.dst v') w') :
    if Region.wanted o (yielded ops a.tmps) = true then Oper.wp P o a w K Q else E := by
  rw [if_pos (by simp [Region.wanted, hg])]
  exact wp_append_old s x t ho base e i z size bytes ht hi hz hsize hby hzs hsz v n xs hs hown ad m c news hx hl hnews h1 h63 hbytes hbase h
theorem own_block {W : World} {base e c n : Nat} {A : Option Addr} {xs : List Value} (h : W.ownsRow base e 1 (.slice A n c) n xs) (hn : 1 ≤ n) : ∃ q, A = some ⟨q, 0, none⟩ := by
  rcases h.2 with ⟨_, h1⟩ | ⟨g, cap, cur, h0, _⟩
  · omega
  · injection h0 with h1 _ _
    exact ⟨g, h1⟩
theorem fst_at (es : List (Value × List LR)) (i : Nat) (h : i < es.length) : (es.map (·.1))[i]? = some (es[i]).1 := by
  rw [List.getElem?_map, List.getElem?_eq_getElem h]; rfl
theorem same_at {es us : List (Value × List LR)} (h : us.map (fun x => x.2.map (·.l)) = es.map (fun x => x.2.map (·.l))) (i : Nat) (h1 : i < es.length) (h2 : i < us.length) : (us[i]).2.map (·.l) = (es[i]).2.map (·.l) := by
  have := congrArg (fun l => l[i]?) h
  simp only [List.getElem?_map, List.getElem?_eq_getElem h1, List.getElem?_eq_getElem h2, Option.map_some, Option.some.injEq] at this
  exact this
/-- the lists that the book at block g keeps, without the copies -/
structure BL (W : World) (g : Nat) (va : Value) (es : List (Value × List LR)) : Prop where
  lt : g < W.heap.size
  none : ∀ j, j < 14 → j ≠ 12 → j ≠ 13 → W.cell? ⟨g, j, .none⟩ = some (.slice .none 0 0)
  c6 : W.cell? ⟨g, 12, .none⟩ = some va
  own6 : W.ownsRow 0 59 1 va es.length (es.map (·.1))
  rows : ∀ x ∈ es, rowOk W x
  apart : (g :: (blk va ++ fps es)).Nodup
theorem BK.lists {W : World} {g : Nat} {va vb : Value} {es us : List (Value × List LR)} {P : List Nat} (h : BK W g va vb es us P) : BL W g va es :=
  ⟨h.lt, h.none, h.c6, h.own6, h.rows, List.nodup_cons.2 ⟨fun hq => by rcases List.mem_append.1 hq with h1 | h1; exact h.ga h1; exact h.ge h1,
    List.nodup_append.2 ⟨blk_nodup _, (List.nodup_append.1 (List.nodup_append.1 (List.nodup_cons.1 h.apart).2).2.1).2.1, fun a ha b hb e => (h.ab a ha).2 (e ▸ hb)⟩⟩⟩
theorem BL.ga {W : World} {g : Nat} {va : Value} {es : List (Value × List LR)} (h : BL W g va es) : g ∉ blk va := fun hq => (List.nodup_cons.1 h.apart).1 (by simp [hq])
theorem BL.ge {W : World} {g : Nat} {va : Value} {es : List (Value × List LR)} (h : BL W g va es) : g ∉ fps es := fun hq => (List.nodup_cons.1 h.apart).1 (by simp [hq])
theorem BL.ae {W : World} {g : Nat} {va : Value} {es : List (Value × List LR)} (h : BL W g va es) : ∀ q, q ∈ blk va → q ∉ fps es := fun q hq hb => (List.nodup_append.1 (List.nodup_cons.1 h.apart).2).2.2 q hq q hb rfl
/-- the same slices, whatever is in them -/
theorem fps_congr {es fs : List (Value × List LR)} (h : fs.map (·.1) = es.map (·.1)) : fps fs = fps es := by
  have e : ∀ l : List (Value × List LR), fps l = (l.map (·.1)).flatMap blk := fun l => by simp [fps, List.flatMap_map]
  rw [e, e, h]
theorem fps_at {es : List (Value × List LR)} {i : Nat} (h : i < es.length) {q : Nat} (hq : q ∈ blk (es[i]).1) : q ∈ fps es := mem_fps.2 ⟨_, List.getElem_mem h, hq⟩
/-- two lists of the book lie apart -/
theorem fps_apart : ∀ {es : List (Value × List LR)} (_ : (fps es).Nodup) {i j : Nat} (hi : i < es.length) (hj : j < es.length) (_ : i ≠ j) {q : Nat}, q ∈ blk (es[i]).1 → q ∉ blk (es[j]).1
  | x :: es, hd, 0, 0, _, _, hne, _, _ => absurd rfl hne
  | x :: es, hd, 0, j + 1, _, hj, _, q, hq => fun h => by
    have := (List.nodup_append.1 (show (blk x.1 ++ fps es).Nodup from hd)).2.2 q hq q (fps_at (es := es) (by simpa using hj) h) rfl
    exact this
  | x :: es, hd, i + 1, 0, hi, _, _, q, hq => fun h => by
    have := (List.nodup_append.1 (show (blk x.1 ++ fps es).Nodup from hd)).2.2 q h q (fps_at (es := es) (by simpa using hi) hq) rfl
    exact this
  | x :: es, hd, i + 1, j + 1, hi, hj, hne, q, hq => fps_apart (es := es) (List.nodup_append.1 (show (blk x.1 ++ fps es).Nodup from hd)).2.1 (by simpa using hi) (by simpa using hj) (by omega) hq
/-- list i has turned, nothing else -/
theorem BL.turn {W W1 : World} {g : Nat} {va : Value} {es : List (Value × List LR)} {i : Nat} (h : BL W g va es) (hi : i < es.length) (ht : Touch (blk (es[i]).1) W W1) {l : List LR} (hr : rowOk W1 ((es[i]).1, l)) :
    BL W1 g va (es.set i ((es[i]).1, l)) := by
  have hm : (es.set i ((es[i]).1, l)).map (·.1) = es.map (·.1) := by
    rw [List.map_set]
    apply List.ext_getElem?
    intro j
    rw [List.getElem?_set]
    split
    · rename_i e; subst e; simp [hi]
    · rfl
  have hn : ∀ q ∈ blk (es[i]).1, q ∈ fps es := fun q hq => fps_at hi hq
  have hg : g ∉ blk (es[i]).1 := fun hq => h.ge (hn g hq)
  refine ⟨Nat.lt_of_lt_of_le h.lt ht.size, fun j a b c => (ht.cell (p := ⟨g, j, .none⟩) h.lt hg).trans (h.none j a b c), (ht.cell (p := ⟨g, 12, .none⟩) h.lt hg).trans h.c6, ?_, ?_, by rw [fps_congr hm]; exact h.apart⟩
  · rw [hm, List.length_set]
    exact ht.row h.own6 (fun q hq hb => h.ae q (mem_blk.2 hq) (hn q hb))
  · intro x hx
    obtain ⟨j, hj, e⟩ := List.getElem_of_mem hx
    rw [List.getElem_set] at e
    split at e
    · rw [← e]; exact hr
    · rename_i hne
      have hj' : j < es.length := by simpa using hj
      rw [← e]
      refine (h.rows _ (List.getElem_mem hj')).touch ht (fun q hq hb => ?_)
      exact fps_apart (List.nodup_append.1 (List.nodup_cons.1 h.apart).2).2.1 hj' hi (by omega) hq hb
/-- cells in a row are written, one after another -/
def setAll : List Value → Nat → List Value → List Value
  | xs, _, [] => xs
  | xs, o, v :: r => setAll (xs.set o v) (o + 1) r
theorem setAll_eq : ∀ (vs xs : List Value) (o : Nat), o + vs.length ≤ xs.length → setAll xs o vs = xs.take o ++ vs ++ xs.drop (o + vs.length)
  | [], xs, o, _ => by simp [setAll]
  | v :: r, xs, o, h => by
    simp only [List.length_cons] at h
    rw [setAll, setAll_eq r _ _ (by rw [List.length_set]; omega), List.drop_set, if_pos (by omega), List.take_set, List.take_succ_eq_append_getElem (show o < xs.length by omega), List.set_append_right _ _ (by rw [List.length_take]; omega), List.length_take, Nat.min_eq_left (by omega), Nat.sub_self, List.set_cons_zero]
    simp only [List.length_cons, List.append_assoc, List.cons_append, List.nil_append]
    rw [show o + 1 + r.length = o + (r.length + 1) by omega]
theorem lsC_set (l : List LR) (k : Nat) (r : LR) (hk : k < l.length) : setAll (lsC l) (k * 21) r.cells.toList = lsC (l.set k r) := by
  have h21 : r.cells.toList.length = 21 := rfl
  have hl := lsC_length l
  rw [setAll_eq _ _ _ (by rw [h21, hl]; omega), h21, show k * 21 + 21 = (k + 1) * 21 by omega, rowC_take lE_size, rowC_drop lE_size, List.set_eq_take_append_cons_drop, if_pos hk, ← rowC_one1 LR.cells r, ← rowC_append, ← rowC_append]
  simp
theorem own_setCells {base e size g n c : Nat} : ∀ (vs : List Value) (w : World) (o : Nat) (xs : List Value), w.ownsRow base e size (.slice (some ⟨g, 0, none⟩) n c) n xs → o + vs.length ≤ xs.length → (w.setCells g o vs).ownsRow base e size (.slice (some ⟨g, 0, none⟩) n c) n (setAll xs o vs)
  | [], _, _, _, h, _ => h
  | v :: r, _, o, _, h, hl => own_setCells r _ _ _ (h.stored o v).1 (by simp at hl ⊢; omega)
theorem touch_setCells {F : List Nat} {g : Nat} (hg : g ∈ F) : ∀ (vs : List Value) (W w : World) (o : Nat), Touch F W w → Touch F W (w.setCells g o vs)
  | [], _, _, _, h => h
  | v :: r, W, _, o, h => touch_setCells hg r W _ (o + 1) (h.set (.inl hg) v)
theorem row_there {w : World} {base e size g n c : Nat} {xs : List Value} (h : w.ownsRow base e size (.slice (some ⟨g, 0, none⟩) n c) n xs) {o k : Nat} (hk : o + k ≤ xs.length) : w.there g o k := fun j hj => by
  have hlen := h.1
  exact ⟨by rw [h.cellAt (o + j) (by omega), List.getElem?_eq_getElem (by omega)]; rfl, h.frozenAt (o + j)⟩
theorem row_range {w : World} {base g n c : Nat} {l : List LR} (h : w.ownsRow base 51 21 (.slice (some ⟨g, 0, none⟩) n c) n (lsC l)) {k : Nat} {r : LR} (hr : l[k]? = some r) : w.rangeAt g (k * 21) r.cells.toList := fun j v hj => by
  have hj21 : j < 21 := (List.getElem?_eq_some_iff.1 hj).1
  have hk := (List.getElem?_eq_some_iff.1 hr).1
  have h1 := h.1
  have h2 := lsC_length l
  rw [h.cellAt (k * 21 + j) (by omega), rowC_get lE_size _ k j r hr hj21, ← Array.getElem?_toList]
  exact hj
def markTo (i : Nat) (es : List (Value × List LR)) : List (Value × List LR) := es.mapIdx fun j x => if j < i then (x.1, markL j 0 x.2.length) else x
theorem markTo_length (i : Nat) (es : List (Value × List LR)) : (markTo i es).length = es.length := by simp [markTo]
theorem markTo_zero (es : List (Value × List LR)) : markTo 0 es = es := by
  apply List.ext_getElem (by simp [markTo])
  intro j h1 h2
  simp [markTo]
theorem markTo_at (i : Nat) (es : List (Value × List LR)) (j : Nat) (h : j < (markTo i es).length) (h2 : j < es.length) : (markTo i es)[j] = if j < i then ((es[j]).1, markL j 0 (es[j]).2.length) else es[j] := by simp [markTo]
theorem markTo_succ (i : Nat) (es : List (Value × List LR)) (h : i < es.length) : markTo (i + 1) es = (markTo i es).set i ((es[i]).1, markL i 0 (es[i]).2.length) := by
  apply List.ext_getElem (by simp [markTo])
  intro j h1 h2
  have h3 : j < es.length := by simpa [markTo] using h1
  rw [markTo_at _ _ _ _ h3, List.getElem_set]
  by_cases e : i = j
  · subst e; rw [if_pos (by omega), if_pos rfl]
  · rw [if_neg e, markTo_at _ _ _ _ h3]
    by_cases h4 : j < i
    · rw [if_pos (by omega), if_pos h4]
    · rw [if_neg (by omega), if_neg h4]
theorem markTo_fps (i : Nat) (es : List (Value × List LR)) : fps (markTo i es) = fps es := by
  apply fps_congr
  apply List.ext_getElem (by simp [markTo])
  intro j h1 h2
  have h3 : j < es.length := by simpa using h2
  rw [List.getElem_map, List.getElem_map, markTo_at _ _ _ _ h3]
  split <;> rfl
/-- the first k of the marks, the rest as it was -/
def mixL (a l : List LR) (k : Nat) : List LR := a.take k ++ l.drop k
theorem mixL_zero (a l : List LR) : mixL a l 0 = l := by simp [mixL]
theorem mixL_all (a l : List LR) (h : a.length = l.length) : mixL a l l.length = a := by
  rw [mixL, List.drop_length, List.append_nil, ← h, List.take_length]
theorem mixL_length (a l : List LR) (h : a.length = l.length) (k : Nat) (hk : k ≤ l.length) : (mixL a l k).length = l.length := by simp [mixL]; omega
theorem mixL_set (a l : List LR) (h : a.length = l.length) (k : Nat) (hk : k < l.length) : (mixL a l k).set k (a[k]'(by omega)) = mixL a l (k + 1) := by
  rw [mixL, mixL, List.set_append_right _ _ (by rw [List.length_take]; omega), List.length_take, Nat.min_eq_left (by omega), Nat.sub_self, List.drop_eq_getElem_cons hk, List.set_cons_zero,
    List.take_succ_eq_append_getElem (show k < a.length by omega), List.append_assoc]
  rfl

theorem own_at {W : World} {base e size c n : Nat} {A : Option Addr} {xs : List Value} (h : W.ownsRow base e size (.slice A n c) n xs) (hn : 1 ≤ n) : ∃ q, A = some ⟨q, 0, none⟩ := by
  rcases h.2 with ⟨_, h1⟩ | ⟨g, cap, cur, h0, _⟩
  · omega
  · injection h0 with h1 _ _
    exact ⟨g, h1⟩
def NewMarks (W : World) (i m : Nat) (e : Ending) (w' : World) : Prop :=
  ∃ A c, e = .returned (.slice A m c) ∧ w'.ownsRow W.heap.size 51 21 (.slice A m c) m (lsC (markL i 0 m)) ∧ Below W.heap.size W w'
theorem NewLs.marks {W w' : World} {i m : Nat} {e : Ending} (h : NewLs W (markL i 0 m) e w') : NewMarks W i m e w' := by
  obtain ⟨A, c, h1, h2, h3⟩ := h
  rw [markL_length] at h1 h2
  exact ⟨A, c, h1, h2, h3⟩
/-- a slice stays as it was, where a longer one over the same block does -/
theorem own_share {W1 W2 : World} {b b' e s n N q c c' : Nat} {xs XS : List Value} (hv : W1.ownsRow b e s (.slice (some ⟨q, 0, none⟩) n c) n xs) (hl : W1.ownsRow b' e s (.slice (some ⟨q, 0, none⟩) N c') N XS) (hn : n ≤ N)
    (h2 : W2.ownsRow b' e s (.slice (some ⟨q, 0, none⟩) N c') N XS) : W2.ownsRow b e s (.slice (some ⟨q, 0, none⟩) n c) n xs := by
  rcases hv.2 with ⟨h0, _⟩ | ⟨g1, cap1, cur1, a1, b1, c1, d1, e1, f1, t1⟩
  · cases h0
  rcases hl.2 with ⟨h0, _⟩ | ⟨g2, cap2, cur2, a2, b2, c2, d2, e2, f2, t2⟩
  · cases h0
  rcases h2.2 with ⟨h0, _⟩ | ⟨g3, cap3, cur3, a3, b3, c3, d3, e3, f3, t3⟩
  · cases h0
  injection a1 with k1 _ k2
  injection k1 with k1
  injection k1 with k1
  injection a2 with k3 _ k4
  injection k3 with k3
  injection k3 with k3
  injection a3 with k5 _ k6
  injection k5 with k5
  injection k5 with k5
  subst k1 k2 k3 k4 k5 k6
  rw [c1] at c2
  injection c2 with c2
  injection c2 with c2
  subst c2
  refine ⟨hv.1, .inr ⟨q, c, cur3, rfl, b1, c3, d1, e1, by rw [f3, ← f2, f1], ?_⟩⟩
  have hle : n * s ≤ N * s := Nat.mul_le_mul_right _ hn
  have h4 : (List.take (N * s) cur3.toList).take (n * s) = (List.take (N * s) cur1.toList).take (n * s) := by rw [t3, t2]
  rw [List.take_take, List.take_take, Nat.min_eq_left hle] at h4
  rw [h4, t1]
/-- what an append onto l leaves of a slice v that lies in l's block, or elsewhere -/
theorem own_beside {W1 W2 : World} {n N c : Nat} {A : Option Addr} {l : Value} {xs XS : List Value} (hv : W1.ownsRow 0 51 21 (.slice A n c) n xs) (hl : W1.ownsRow 0 51 21 l N XS) (hn : n ≤ N)
    (hg : W1.grownBy W2 l.ownBlock) (h2 : W2.ownsRow 0 51 21 l N XS) : W2.ownsRow 0 51 21 (.slice A n c) n xs := by
  rcases A with _ | ad
  · rcases hv.2 with ⟨h0, h1⟩ | ⟨g1, cap1, cur1, a1, _⟩
    · rw [h0]
      have : xs = [] := List.eq_nil_of_length_eq_zero (by rw [hv.1, h1])
      subst this
      rw [h1]
      exact World.ownsRow_nil _ _ _ _
    · cases a1
  · by_cases h : l.ownBlock = some ad.block
    · obtain ⟨B, d, rfl⟩ := own_slice hl
      rcases B with _ | bd
      · cases h
      rcases hv.2 with ⟨h0, _⟩ | ⟨g1, cap1, cur1, a1, _⟩
      · cases h0
      rcases hl.2 with ⟨h0, _⟩ | ⟨g2, cap2, cur2, a2, _⟩
      · cases h0
      injection a1 with k1 _ k2
      injection k1 with k1
      subst k1 k2
      injection a2 with k3 _ k4
      injection k3 with k3
      subst k3 k4
      have hq : g2 = g1 := Option.some.inj h
      subst hq
      exact own_share hv hl hn h2
    · exact hv.kept hg (.inr (fun e => h e.symm))

theorem markL_append (i N m : Nat) : markL i 0 N ++ markL i N m = markL i 0 (N + m) := by
  simp only [markL, markLs, ← List.map_append]
  congr 1
  have h := List.range'_append_1 (s := 0) (m := N) (n := m)
  simpa using h
/-- a list that is being grown: the slice v of the book stays, l is the longer one -/
structure GR (wo wx : World) (i : Nat) (v : Value) (n0 : Nat) (l : Value) (N : Nat) : Prop where
  le : n0 ≤ N
  old : wx.ownsRow 0 51 21 v n0 (lsC (markL i 0 n0))
  row : wx.ownsRow 0 51 21 l N (lsC (markL i 0 N))
  at_ : ∀ q ∈ blk l, q ∈ blk v ∨ wo.heap.size ≤ q
  touch : Touch (blk v) wo wx
theorem GR.start {wo : World} {i n0 : Nat} {v : Value} (h : wo.ownsRow 0 51 21 v n0 (lsC (markL i 0 n0))) : GR wo wo i v n0 v n0 := ⟨Nat.le_refl _, h, h, fun _ hq => .inl hq, Touch.refl _ _⟩
theorem GR.below {wo wx w1 : World} {i n0 N : Nat} {v l : Value} (h : GR wo wx i v n0 l N) (hb : Below wx.heap.size wx w1) : GR wo w1 i v n0 l N :=
  ⟨h.le, own_step h.old hb, own_step h.row hb, h.at_, h.touch.trans (Touch.ofBelow (F := []) hb) (by simp)⟩
theorem GR.grown {wo w1 w2 : World} {i n0 N m : Nat} {v l l' : Value} (h : GR wo w1 i v n0 l N) (ho : w2.ownsRow 0 51 21 l' (N + m) (lsC (markL i 0 N) ++ lsC (markL i N m))) (hg : w1.grownBy w2 l.ownBlock)
    (hold : w2.ownsRow 0 51 21 l N (lsC (markL i 0 N))) (hs : SameOrNew w1 l l') : GR wo w2 i v n0 l' (N + m) := by
  obtain ⟨A, c, rfl⟩ := own_slice h.old
  refine ⟨by have := h.le; omega, own_beside h.old h.row h.le hg hold, by rw [← lsC_append, markL_append] at ho; exact ho, (fun q hq => ?_), h.touch.grown hg (fun k hk => h.at_ k (mem_blk.2 hk))⟩
  rcases hs q (mem_blk.1 hq) with h1 | h1
  · exact h.at_ q (mem_blk.2 h1)
  · exact .inr (Nat.le_trans h.touch.size h1)
def NewMarksF (W : World) (i f m : Nat) (e : Ending) (w' : World) : Prop :=
  ∃ A c, e = .returned (.slice A m c) ∧ w'.ownsRow W.heap.size 51 21 (.slice A m c) m (lsC (markL i f m)) ∧ Below W.heap.size W w'
theorem NewLs.marksF {W w' : World} {i f m : Nat} {e : Ending} (h : NewLs W (markL i f m) e w') : NewMarksF W i f m e w' := by
  obtain ⟨A, c, h1, h2, h3⟩ := h
  rw [markL_length] at h1 h2
  exact ⟨A, c, h1, h2, h3⟩
theorem BL.touch {W W1 : World} {g : Nat} {va : Value} {es : List (Value × List LR)} {G : List Nat} (h : BL W g va es) (ht : Touch G W W1) (hn : ∀ q, q < W.heap.size → q ∈ g :: (blk va ++ fps es) → q ∉ G) : BL W1 g va es := by
  have hg : g ∉ G := hn g h.lt (by simp)
  refine ⟨Nat.lt_of_lt_of_le h.lt ht.size, fun j a b c => (ht.cell (p := ⟨g, j, .none⟩) h.lt hg).trans (h.none j a b c), (ht.cell (p := ⟨g, 12, .none⟩) h.lt hg).trans h.c6,
    ht.row h.own6 (fun q hq => hn q (h.own6.lt q hq).2 (by simp [mem_blk.2 hq])), fun x hx => (h.rows x hx).touch ht (fun q hq => hn q ((h.rows x hx).lt hq) (by
      simp only [List.mem_cons, List.mem_append]
      exact .inr (.inr (mem_fps.2 ⟨x, hx, hq⟩)))), h.apart⟩
theorem BL.ltF {W : World} {g : Nat} {va : Value} {es : List (Value × List LR)} (h : BL W g va es) : ∀ q ∈ g :: (blk va ++ fps es), q < W.heap.size := by
  intro q hq
  simp only [List.mem_cons, List.mem_append] at hq
  rcases hq with rfl | hq | hq
  · exact h.lt
  · exact row_lt h.own6 hq
  · obtain ⟨x, hx, hq⟩ := mem_fps.1 hq; exact (h.rows x hx).lt hq
def Marked (es : List (Value × List LR)) : Prop := ∀ j (h : j < es.length), (es[j]).2 = markL j 0 (es[j]).2.length
def GrowPost (W : World) (g : Nat) (va : Value) (es : List (Value × List LR)) (e : Ending) (w' : World) : Prop :=
  ∃ A c ys, ys.length = es.length ∧ e = .returned (.slice A es.length c) ∧ w'.ownsRow W.heap.size 59 1 (.slice A es.length c) es.length (ys.map (·.1)) ∧ (∀ x ∈ ys, rowOk w' x) ∧ Marked ys ∧ (∀ x ∈ ys, x.2.length ≤ 100000) ∧ BL w' g va es ∧ Touch (fps es) W w'

def GrowRel (W wx : World) (g : Nat) (va : Value) (es : List (Value × List LR)) (i : Nat) (vo : Value) (ys : List (Value × List LR)) : Prop :=
  ys.length = i ∧ wx.ownsRow W.heap.size 59 1 vo i (ys.map (·.1)) ∧ (∀ x ∈ ys, rowOk wx x) ∧ Marked ys ∧ (∀ x ∈ ys, x.2.length ≤ 100000) ∧
    (∀ q ∈ fps ys, q ∉ blk vo ∧ (q < W.heap.size → ∃ j, ∃ h : j < es.length, j < i ∧ q ∈ blk (es[j]).1)) ∧ BL wx g va es ∧ Touch (fps es) W wx
theorem grow_end {W wo w2 w3 : World} {g i m N2 : Nat} {va vo vo' : Value} {A2 : Option Addr} {c2 : Nat} {o : Obj} {es ys : List (Value × List LR)} (hlt : ∀ q ∈ fps es, q < W.heap.size) (h : GrowRel W wo g va es i vo ys) (hg0 : g < W.heap.size) (hva : ∀ q ∈ blk va, q < W.heap.size)
    (hi : i < es.length) (hm : (es[i]).2 = markL i 0 m) (hN : N2 ≤ 100000) (hv : ∃ A c, (es[i]).1 = .slice A m c) (hG : GR wo w2 i (es[i]).1 m (.slice A2 N2 c2) N2)
    (ho : w3.ownsRow W.heap.size 59 1 vo' (i + 1) (ys.map (·.1) ++ [.slice A2 N2 c2])) (hg : (w2.alloc o).grownBy w3 vo.ownBlock) (hs : SameOrNew (w2.alloc o) vo vo') :
    GrowRel W w3 g va es (i + 1) vo' (ys ++ [(.slice A2 N2 c2, markL i 0 N2)]) := by
  obtain ⟨hY, hO, hR, hMY, hLY, hF, hB, hT⟩ := h
  have hml : (markL i 0 N2).length = N2 := markL_length i 0 N2
  have lo : ∀ q ∈ blk vo, W.heap.size ≤ q ∧ q < wo.heap.size := fun q hq => hO.lt q (mem_blk.1 hq)
  have lv : ∀ q ∈ blk (es[i]).1, q < W.heap.size := fun q hq => hlt q (fps_at hi hq)
  have hnd : (fps es).Nodup := (List.nodup_append.1 (List.nodup_cons.1 hB.apart).2).2.1
  have T2 : Touch (blk (es[i]).1) wo w2 := hG.touch
  have T3 : Touch (blk vo) w2 w3 := ((Touch.refl _ w2).alloc o).grown hg (fun k hk => .inl (mem_blk.2 hk))
  have z2 := T2.size
  have z3 := T3.size
  have zW := hT.size
  have hrow2 : rowOk w2 ((es[i]).1, (es[i]).2) := by
    obtain ⟨A, c, e⟩ := hv
    refine ⟨A, c, ?_, ?_⟩
    · show (es[i]).1 = .slice A (es[i]).2.length c
      rw [hm, markL_length, e]
    · show Row w2 (es[i]).1 (es[i]).2
      rw [Row, hm, markL_length]
      exact hG.old
  have hB2 : BL w2 g va es := by
    have h9 := hB.turn hi T2 hrow2
    rwa [show es.set i ((es[i]).1, (es[i]).2) = es from List.set_getElem_self hi] at h9
  have hB3 : BL w3 g va es := hB2.touch T3 (fun q _ hq h9 => by
    have h8 := (lo q h9).1
    simp only [List.mem_cons, List.mem_append] at hq
    rcases hq with rfl | hq | hq
    · omega
    · have := hva q hq; omega
    · have := hlt q hq; omega)
  have hX : rowOk w2 (.slice A2 N2 c2, markL i 0 N2) := ⟨A2, c2, by show _ = Value.slice A2 (markL i 0 N2).length c2; rw [hml], by rw [Row, hml]; exact hG.row⟩
  have hXn : ∀ q ∈ blk (.slice A2 N2 c2), q ∉ blk vo := fun q hq h9 => by
    have h8 := lo q h9
    rcases hG.at_ q hq with h7 | h7
    · have := lv q h7; omega
    · omega
  have hR2 : ∀ x ∈ ys, rowOk w2 x := fun x hx => (hR x hx).touch T2 (fun q hq h9 => by
    obtain ⟨j, hj, hji, hq2⟩ := (hF q (mem_fps.2 ⟨x, hx, hq⟩)).2 (lv q h9)
    exact fps_apart hnd hj hi (by omega) hq2 h9)
  refine ⟨by simp [hY], by simpa using ho, ?_, ?_, ?_, ?_, hB3, ?_⟩
  · intro x hx
    rcases List.mem_append.1 hx with hx | hx
    · exact (hR2 x hx).touch T3 (fun q hq => (hF q (mem_fps.2 ⟨x, hx, hq⟩)).1)
    · simp at hx; subst hx; exact hX.touch T3 hXn
  · intro j hj
    by_cases h9 : j < ys.length
    · rw [List.getElem_append_left h9]; exact hMY j h9
    · have e : j = ys.length := by simp at hj; omega
      subst e
      rw [List.getElem_append_right (Nat.le_refl _)]
      simp [hml, hY]
  · intro x hx
    rcases List.mem_append.1 hx with hx | hx
    · exact hLY x hx
    · simp at hx; subst hx; show (markL i 0 N2).length ≤ _; omega
  · intro q hq
    rw [fps_snoc] at hq
    rcases List.mem_append.1 hq with hq | hq
    · obtain ⟨x, hx, hqx⟩ := mem_fps.1 hq
      have hq2 := (hR2 x hx).lt hqx
      refine ⟨fun h9 => ?_, fun h9 => ?_⟩
      · rcases hs q (mem_blk.1 h9) with h8 | h8
        · exact (hF q hq).1 (mem_blk.2 h8)
        · simp at h8; omega
      · obtain ⟨j, hj, hji, h7⟩ := (hF q hq).2 h9
        exact ⟨j, hj, by omega, h7⟩
    · have hq2 : q < w2.heap.size := row_lt hG.row hq
      refine ⟨fun h9 => ?_, fun h9 => ?_⟩
      · rcases hs q (mem_blk.1 h9) with h8 | h8
        · exact hXn q hq (mem_blk.2 h8)
        · simp at h8; omega
      · rcases hG.at_ q hq with h7 | h7
        · exact ⟨i, hi, by omega, h7⟩
        · omega
  · exact (hT.trans T2 (fun x hx => .inl (fps_at hi hx))).trans T3 (fun x hx => .inr (lo x hx).1)

theorem below_drewN {B : Nat} {a b : World} (h : Below B a b) (n : Nat) : Below B a (b.drewN n) := ⟨h.os, h.tape, h.output, h.size, h.block⟩
theorem below_step {wb W W1 : World} {A : World → Prop} (HSS : ∀ w', Below wb.heap.size wb w' → Below wb.heap.size wb w' ∧ A w') (h : Below wb.heap.size wb W ∧ A W) (k : Below W.heap.size W W1) : Below wb.heap.size wb W1 ∧ A W1 := HSS _ (acc h.1 k)

end Go.Proofs.Ytfemdfidfomchaa.Lb
namespace Go.Proofs.Ytfemdfidfomchaa.Lb
open Go.RowKit Go.Proofs.Ytfemdfidfomchaa

theorem run_append_nothing {P : Program} (w : World) (t ty e : TypeId) (i : TypeInfo) (ht : P.underlying t = some (.slice e)) (hi : P.info? e = some i) (c : Nat) :
    (Builtin.append_ #[t, t] ty #[.slice none 0 0, .slice none 0 c]).run P w = .ok (.slice none 0 0) w := by
  simp [Builtin.append_, run_underlying ht, sizeOf, typeInfo, hi, Builtin.lenOf, Builtin.firstCells]
theorem wpList_append_ran {P : Program} {w : World} {ops : Array Oper} {rest : List Oper} {o : Oper} {a : Act} {Q : Exit → Act → World → Prop} (hgd : o.guard = none) (s x : Operand) (t : TypeId)
    (ho : o.op = .call { callee := .builtin .append, args := #[s, x], argTypes := #[t, t] }) (v y : Value) (hs : a.eval s = v) (hx : a.eval x = y) {v' : Value} {w' : World}
    (hr : (Builtin.append_ #[t, t] o.type #[v, y]).run P w = .ok v' w') (h : wpList P ops Q rest (a.put o.dst v') w') : wpList P ops Q (o :: rest) a w :=
  wpList_plain hgd fun _ hK => Lib.wp_append_run w s x t t ho v y hs hx v' w' hr (hK _ _ h)
theorem slAt_from {W : World} {A : Option Addr} {c : Nat} {l : List Item} (h : ItsAt W A l) (hA : A ≠ none) : From W 2 (.slice A l.length c) l.length (itemCells l) := by
  obtain ⟨ad, rfl⟩ := Option.ne_none_iff_exists'.1 hA
  exact .inr ⟨ad, c, rfl, by rw [itemCells_length], lk_its h⟩
set_option maxHeartbeats 1000000 in
theorem copySl_any (S : Value) (l : List Item) (W : World) (h : SlAt W S l) (hl : l.length ≤ 4398046511104) :
    Calls Try.prog 70 #[S] W (NewItems W l) := by
  obtain ⟨i0, hi, hz, hs2, hb32⟩ := lk_infoItems
  obtain ⟨A, c, rfl, -, -, h⟩ := h
  rcases Option.eq_none_or_eq_some A with rfl | ⟨ad, rfl⟩
  · have hl0 : l = [] := by
      cases l with
      | nil => rfl
      | cons x l =>
        obtain ⟨b, off, h⟩ := h
        have := (h 0 (by simp)).1
        cases this
    subst hl0
    clear h hl
    go_enter Try.func70, Try.ntmps70
    go_wp2_with (at_builtin; (refine wpList_append_ran rfl (.const (.slice none 0 0)) (.tmp 3) 44 rfl _ _ rfl rfl (run_append_nothing _ 44 _ 108 i0 Try.underlying44 hi c) ?_))
    go_ret
    exact ⟨none, 0, rfl, World.ownsRow_nil _ _ _ _, Below.refl _ _⟩
  · have HF := Lib.hid (slAt_from (c := c) h (by simp))
    obtain ⟨n, hn⟩ : ∃ n, l.length = n := ⟨_, rfl⟩
    have HN := Lib.hid hn
    rw [hn] at hl HF ⊢
    clear h hn
    go_enter Try.func70, Try.ntmps70
    go_wp2_with (at_builtin; (refine wpList_append_any rfl (.const (.slice none 0 0)) (.tmp 3) 44 rfl W.heap.size 108 i0 (.agg #[.string ⟨#[]⟩, .string ⟨#[]⟩]) 2 32 Try.underlying44 hi hz hs2 hb32 rfl (by decide) (.slice none 0 0) 0 [] rfl (World.ownsRow_nil _ _ _ _) _ n (itemCells l) rfl HF.out (lk_items_one _) (by unfold maxLen; omega) (by omega) (Nat.le_refl _) ?_); intro A1 c1 w1 hown1 hg1 hsn1; simp only [Nat.zero_add, List.nil_append] at hown1; have HO1 := Lib.hid hown1; have HT1 := Lib.hid ((Below.refl W.heap.size W).grown hg1 (Nat.le_refl _) (fun z hz => by cases hz)); clear hown1 hg1 hsn1)
    go_ret
    exact ⟨A1, c1, by rw [HN.out]; rfl, by rw [HN.out]; exact HO1.out, HT1.out⟩
/-- what copyLetters has done so far: i letters have lists of their own -/
structure Cp (W wx : World) (A : Option Addr) (c : Nat) (l : List LR) (n i : Nat) (ms : List LR) (Q : List Nat) : Prop where
  len : ms.length = i
  same : ms.map (·.l) = (l.take i).map (·.l)
  row : wx.ownsRow W.heap.size 51 21 (.slice A n c) n (lsC (ms ++ l.drop i))
  below : Below W.heap.size W wx
  at_ : ∀ r ∈ ms, r.At wx Q
  qs : ∀ q ∈ Q, W.heap.size ≤ q ∧ q < wx.heap.size
  qn : ∀ q, (Value.slice A n c).ownBlock = some q → q ∉ Q
theorem cp_at {W wx : World} {A : Option Addr} {c : Nat} {l : List LR} {n i : Nat} {ms : List LR} {Q : List Nat} (h : Cp W wx A c l n i ms Q) {r : LR} (hr : l[i]? = some r) : (ms ++ l.drop i)[i]? = some r := by
  rw [List.getElem?_append_right (by rw [h.len]; exact Nat.le_refl _), h.len, Nat.sub_self, List.getElem?_drop, Nat.add_zero, hr]
theorem cp_step {W wx w1 w2 : World} {q : Nat} {c : Nat} {l : List LR} {n i : Nat} {ms : List LR} {Q : List Nat} (h : Cp W wx (some ⟨q, 0, none⟩) c l n i ms Q) {r : LR} (hr : l[i]? = some r)
    (b1 : Below wx.heap.size wx w1) {A3 : Option Addr} {c3 : Nat} (o1 : w1.ownsRow wx.heap.size 108 2 (.slice A3 r.l.li.length c3) r.l.li.length (itemCells r.l.li)) (b2 : Below w1.heap.size w1 w2) {A4 : Option Addr} {c4 : Nat} (o2 : w2.ownsRow w1.heap.size 108 2 (.slice A4 r.l.ti.length c4) r.l.ti.length (itemCells r.l.ti)) :
    Cp W ((w2.setCell ⟨q, i * 21 + 18, none⟩ (.slice A3 r.l.li.length c3)).setCell ⟨q, i * 21 + 11, none⟩ (.slice A4 r.l.ti.length c4)) (some ⟨q, 0, none⟩) c l n (i + 1) (ms ++ [⟨r.l, .slice A4 r.l.ti.length c4, .slice A3 r.l.li.length c3⟩]) ((Value.slice A4 r.l.ti.length c4).ownBlock.toList ++ (Value.slice A3 r.l.li.length c3).ownBlock.toList ++ Q) := by
  have hq := h.row.lt q rfl
  have z1 := b1.size
  have z2 := b2.size
  have zz := h.below.size
  have b02 := acc b1 b2
  have hrow := lk_below h.row b02
  have T : Touch [q] w2 ((w2.setCell ⟨q, i * 21 + 18, none⟩ (.slice A3 r.l.li.length c3)).setCell ⟨q, i * 21 + 11, none⟩ (.slice A4 r.l.ti.length c4)) := ((Touch.refl _ _).set (.inl (by simp)) _).set (.inl (by simp)) _
  have n3 : ∀ z, (Value.slice A3 r.l.li.length c3).ownBlock = some z → wx.heap.size ≤ z ∧ z < w1.heap.size := fun z hz => o1.lt z hz
  have n4 : ∀ z, (Value.slice A4 r.l.ti.length c4).ownBlock = some z → w1.heap.size ≤ z ∧ z < w2.heap.size := fun z hz => o2.lt z hz
  have s3 : SlAt w2 (.slice A3 r.l.li.length c3) r.l.li := (slAt_own o1).below b2
  have s4 : SlAt w2 (.slice A4 r.l.ti.length c4) r.l.ti := slAt_own o2
  have hi := (List.getElem?_eq_some_iff.1 hr).1
  have e1 := rowC_set lE_size (ms ++ l.drop i) i 18 r ⟨r.l, r.a, .slice A3 r.l.li.length c3⟩ (.slice A3 r.l.li.length c3) (cp_at h hr) (by decide) rfl
  have hset : (ms ++ l.drop i).set i ⟨r.l, r.a, .slice A3 r.l.li.length c3⟩ = ms ++ ⟨r.l, r.a, .slice A3 r.l.li.length c3⟩ :: l.drop (i + 1) := by
    rw [List.set_append_right _ _ (by rw [h.len]; exact Nat.le_refl _), h.len, Nat.sub_self, List.drop_eq_getElem_cons hi, List.set_cons_zero]
  have e2 := rowC_set lE_size (ms ++ ⟨r.l, r.a, .slice A3 r.l.li.length c3⟩ :: l.drop (i + 1)) i 11 ⟨r.l, r.a, .slice A3 r.l.li.length c3⟩ ⟨r.l, .slice A4 r.l.ti.length c4, .slice A3 r.l.li.length c3⟩ (.slice A4 r.l.ti.length c4) (by rw [List.getElem?_append_right (by rw [h.len]; exact Nat.le_refl _), h.len, Nat.sub_self]; rfl) (by decide) rfl
  have hset2 : (ms ++ ⟨r.l, r.a, .slice A3 r.l.li.length c3⟩ :: l.drop (i + 1)).set i ⟨r.l, .slice A4 r.l.ti.length c4, .slice A3 r.l.li.length c3⟩ = (ms ++ [⟨r.l, .slice A4 r.l.ti.length c4, .slice A3 r.l.li.length c3⟩]) ++ l.drop (i + 1) := by
    rw [List.set_append_right _ _ (by rw [h.len]; exact Nat.le_refl _), h.len, Nat.sub_self, List.set_cons_zero, List.append_assoc]
    rfl
  refine ⟨by simp [h.len], ?_, ?_, ?_, ?_, ?_, ?_⟩
  · rw [List.map_append, h.same, List.take_succ_eq_append_getElem hi, List.map_append]
    have : l[i] = r := by have := List.getElem?_eq_getElem hi; rw [this] at hr; injection hr
    rw [this]
    rfl
  · have h9 := ((hrow.stored (i * 21 + 18) (.slice A3 r.l.li.length c3)).1.stored (i * 21 + 11) (.slice A4 r.l.ti.length c4)).1
    rw [e1, hset, e2, hset2] at h9
    exact h9
  · exact Touch.acc (acc h.below b02) T (fun z hz => by simp at hz; subst hz; exact hq.1)
  · intro x hx
    rcases List.mem_append.1 hx with y | y
    · exact (((h.at_ x y).below b02).touch T (fun z hz hz2 => h.qn q rfl (by simp at hz2; subst hz2; exact hz))).mono (fun z hz => by simp [hz])
    · simp at y
      subst y
      refine ⟨slAt_touch s4 T (fun z hz hz2 => ?_), slAt_touch s3 T (fun z hz hz2 => ?_), fun z hz => ?_⟩
      · have := n4 z hz; simp at hz2; omega
      · have := n3 z hz; simp at hz2; omega
      · simp only [LR.blocks, List.mem_append] at hz ⊢
        exact .inl hz
  · intro z hz
    have ts := T.size
    simp only [List.mem_append, Option.mem_toList] at hz
    rcases hz with (y | y) | y
    · have := n4 z y; omega
    · have := n3 z y; omega
    · have := h.qs z y; omega
  · intro z hz hz2
    have : z = q := by injection hz with hz; exact hz.symm
    subst this
    simp only [List.mem_append, Option.mem_toList] at hz2
    rcases hz2 with (y | y) | y
    · have := n4 z y; omega
    · have := n3 z y; omega
    · exact h.qn z rfl y
/-- a copy of a list of letters, with lists of its own -/
def CopyLs (W : World) (l : List LR) (n : Nat) (e : Ending) (w' : World) : Prop :=
  ∃ A c ms Q, e = .returned (.slice A n c) ∧ ms.length = n ∧ ms.map (·.l) = l.map (·.l) ∧ w'.ownsRow W.heap.size 51 21 (.slice A n c) n (lsC ms) ∧ Below W.heap.size W w' ∧ (∀ r ∈ ms, r.At w' Q) ∧ (∀ q ∈ Q, W.heap.size ≤ q ∧ q < w'.heap.size) ∧ ∀ q, (Value.slice A n c).ownBlock = some q → q ∉ Q
set_option maxRecDepth 20000 in
set_option maxHeartbeats 2000000 in
theorem copyLs_any (A : Option Addr) (c n : Nat) (l : List LR) (W : World) (P : List Nat) (hr : W.ownsRow 0 51 21 (.slice A n c) n (lsC l)) (hn : l.length = n) (hi : ∀ r ∈ l, r.At W P) (hs : ∀ r ∈ l, r.Sm) (hl : n ≤ 100000) :
    Calls Try.prog 35 #[.slice A n c] W (CopyLs W l n) := by
  obtain ⟨i0, hiL, hzL, hsL, hbL⟩ := lk_infoLt
  have h1 : ∀ u ∈ lsC l, u.oneCell' = true := rowC_all fun x hx => LR.one (hi x hx).sl
  have HF := Lib.hid (From.own hr)
  have HN := Lib.hid hn
  have HI := Lib.hid hi
  have HS := Lib.hid hs
  have H1 := Lib.hid h1
  clear hr hn hi hs h1
  go_enter Try.func35, Try.ntmps35
  go_wp2_with (at_builtin; (refine wpList_append_any rfl (.const (.slice none 0 0)) (.tmp 4) 59 rfl W.heap.size 51 i0 (.agg (ltCells 0 0)) 21 240 Try.underlying59 hiL hzL hsL hbL rfl (by decide) (.slice none 0 0) 0 [] rfl (World.ownsRow_nil _ _ _ _) _ n (lsC l) rfl HF.out H1.out (by unfold maxLen; omega) (by omega) (Nat.le_refl _) ?_); intro A1 c1 w1 hown1 hg1 hsn1; simp only [Nat.zero_add, List.nil_append] at hown1 ⊢; have HO1 := Lib.hid hown1; have HT1 := Lib.hid ((Below.refl W.heap.size W).grown hg1 (Nat.le_refl _) (fun z hz => by cases hz)); clear hown1 hg1 hsn1)
  go_loopg [3] (n + 1) (fun gh s3 wx => ∃ (i : Nat) (ms : List LR) (Q : List Nat), i + gh = n + 1 ∧ i ≤ n ∧ s3 = .int .i64 (i : Nat) ∧ Hid (Cp W wx A1 c1 l n i ms Q))
  case atStart => exact ⟨0, [], [], by omega, by omega, rfl, ⟨rfl, rfl, HO1.out, HT1.out, by simp, by simp, by simp⟩⟩
  case round =>
    obtain ⟨i, ms, Q, hig, hi, rfl, HC⟩ := hrel
    by_cases hlt : i < n
    · have ii : (i : Int) < (n : Int) := by omega
      obtain ⟨q, rfl⟩ := own_at HC.out.row (by omega)
      obtain ⟨r, hr⟩ : ∃ r, l[i]? = some r := ⟨l[i]'(by rw [HN.out]; exact hlt), List.getElem?_eq_getElem _⟩
      have hm := HI.out r (List.mem_of_getElem? hr)
      have hsm := HS.out r (List.mem_of_getElem? hr)
      have HR := Lib.hid hr
      have hat := cp_at HC.out hr
      have hlen := HC.out.row.1
      have c18 := (HC.out.row.cellAt (i * 21 + 18) (by omega)).trans (rowC_get lE_size _ i 18 r hat (by decide))
      have c11 := (HC.out.row.cellAt (i * 21 + 11) (by omega)).trans (rowC_get lE_size _ i 11 r hat (by decide))
      have c18 : wr.cell? ⟨q, i * 21 + 18, none⟩ = some r.b := c18
      have c11 : wr.cell? ⟨q, i * 21 + 11, none⟩ = some r.a := c11
      have hb0 : ∀ w', Below wr.heap.size wr w' → Below W.heap.size W w' := fun w' h => acc HC.out.below h
      have CA : Hid (∀ w', Below wr.heap.size wr w' → Calls Try.prog 70 #[r.a] w' (NewItems w' r.l.ti)) := fun w' h => copySl_any r.a r.l.ti w' (hm.a.below (hb0 w' h)) hsm.1
      have CB : Hid (∀ w', Below wr.heap.size wr w' → Calls Try.prog 70 #[r.b] w' (NewItems w' r.l.li)) := fun w' h => copySl_any r.b r.l.li w' (hm.b.below (hb0 w' h)) hsm.2
      have hq := (HC.out.row.lt q rfl).2
      have HFR : Hid (∀ w', Below wr.heap.size wr w' → ∀ j, w'.frozen? ⟨q, j, none⟩ = false) := fun w' h j => (lk_below HC.out.row h).frozenAt j
      obtain ⟨va, hva⟩ : ∃ va, r.a = va := ⟨_, rfl⟩
      obtain ⟨vb, hvb⟩ : ∃ vb, r.b = vb := ⟨_, rfl⟩
      rw [hva] at CA c11
      rw [hvb] at CB c18
      have HSS : Hid (∀ w', Below wr.heap.size wr w' → w'.cell? ⟨q, i * 21 + 18, none⟩ = some vb ∧ w'.cell? ⟨q, i * 21 + 11, none⟩ = some va) := fun w' h => ⟨(h.cell (p := ⟨q, i * 21 + 18, none⟩) hq).trans c18, (h.cell (p := ⟨q, i * 21 + 11, none⟩) hq).trans c11⟩
      clear hva hvb c18 c11 hm hsm hat hlen hb0 hr hq
      go_upto_region 5 with fail
      refine wp_region_till (fun w' => w'.cell? ⟨q, i * 21 + 18, none⟩ = some vb ∧ w'.cell? ⟨q, i * 21 + 11, none⟩ = some va) 19 (by kernel_rfl) ?_ (fun hHeld => ?_)
      · (try dsimp only); exact HSS.out _ (Below.refl _ _).drew
      refine wpAnyT_pure (i := 0) (oi := ⟨_, _, _, _, _, _⟩) (v := ?_) rfl (by kernel_rfl) (by kernel_rfl) (by kernel_rfl) (fun _ _ _ h => h) (by kernel_rfl) (Or.inl ⟨by rfl, ?_⟩) (by assumption) ?_
      rotate_left
      · (intro wS hSw; (try dsimp only at hSw); go_simp <;> with_reducible rfl)
      try simp only [Act.put, List.setIfInBounds_toArray, List.set_cons_zero, List.set_cons_succ]
      refine wpAnyT_pure (i := 1) (oi := ⟨_, _, _, _, _, _⟩) (v := ?_) rfl (by kernel_rfl) (by kernel_rfl) (by kernel_rfl) (fun _ _ _ h => h) (by kernel_rfl) (Or.inl ⟨by rfl, ?_⟩) (by assumption) ?_
      rotate_left
      · (intro wS hSw; (try dsimp only at hSw); go_simp <;> with_reducible rfl)
      try simp only [Act.put, List.setIfInBounds_toArray, List.set_cons_zero, List.set_cons_succ]
      refine wpAnyT_pure (i := 2) (oi := ⟨_, _, _, _, _, _⟩) (v := ?_) rfl (by kernel_rfl) (by kernel_rfl) (by kernel_rfl) (fun _ _ _ h => h) (by kernel_rfl) (Or.inl ⟨by rfl, ?_⟩) (by assumption) ?_
      rotate_left
      · (intro wS hSw; (try dsimp only at hSw); go_simp <;> with_reducible rfl)
      try simp only [Act.put, List.setIfInBounds_toArray, List.set_cons_zero, List.set_cons_succ]
      refine wpAnyT_pure (i := 3) (oi := ⟨_, _, _, _, _, _⟩) (v := ?_) rfl (by kernel_rfl) (by kernel_rfl) (by kernel_rfl) (fun _ _ _ h => h) (by kernel_rfl) (Or.inl ⟨by rfl, ?_⟩) (by assumption) ?_
      rotate_left
      · (intro wS hSw; (try dsimp only at hSw); go_simp <;> with_reducible rfl)
      try simp only [Act.put, List.setIfInBounds_toArray, List.set_cons_zero, List.set_cons_succ]
      refine wpAnyT_pure (i := 4) (oi := ⟨_, _, _, _, _, _⟩) (v := ?_) rfl (by kernel_rfl) (by kernel_rfl) (by kernel_rfl) (fun _ _ _ h => h) (by kernel_rfl) (Or.inl ⟨by rfl, ?_⟩) (by assumption) ?_
      rotate_left
      · (intro wS hSw; (try dsimp only at hSw); go_simp <;> with_reducible rfl)
      try simp only [Act.put, List.setIfInBounds_toArray, List.set_cons_zero, List.set_cons_succ]
      refine wpAnyT_pure (i := 5) (oi := ⟨_, _, _, _, _, _⟩) (v := ?_) rfl (by kernel_rfl) (by kernel_rfl) (by kernel_rfl) (fun _ _ _ h => h) (by kernel_rfl) (Or.inl ⟨by rfl, ?_⟩) (by assumption) ?_
      rotate_left
      · (intro wS hSw; (try dsimp only at hSw); go_simp <;> with_reducible rfl)
      try simp only [Act.put, List.setIfInBounds_toArray, List.set_cons_zero, List.set_cons_succ]
      refine wpAnyT_pure (i := 6) (oi := ⟨_, _, _, _, _, _⟩) (v := ?_) rfl (by kernel_rfl) (by kernel_rfl) (by kernel_rfl) (fun _ _ _ h => h) (by kernel_rfl) (Or.inl ⟨by rfl, ?_⟩) (by assumption) ?_
      rotate_left
      · (intro wS hSw; (try dsimp only at hSw); go_simp <;> with_reducible rfl)
      try simp only [Act.put, List.setIfInBounds_toArray, List.set_cons_zero, List.set_cons_succ]
      refine wpAnyT_pure (i := 7) (oi := ⟨_, _, _, _, _, _⟩) (v := ?_) rfl (by kernel_rfl) (by kernel_rfl) (by kernel_rfl) (fun _ _ _ h => h) (by kernel_rfl) (Or.inl ⟨by rfl, ?_⟩) (by assumption) ?_
      rotate_left
      · (intro wS hSw; (try dsimp only at hSw); go_simp <;> with_reducible rfl)
      try simp only [Act.put, List.setIfInBounds_toArray, List.set_cons_zero, List.set_cons_succ]
      refine wpAnyT_pure (i := 10) (oi := ⟨_, _, _, _, _, _⟩) (v := ?_) rfl (by kernel_rfl) (by kernel_rfl) (by kernel_rfl) (fun _ _ _ h => h) (by kernel_rfl) (Or.inl ⟨by rfl, ?_⟩) (by assumption) ?_
      rotate_left
      · (intro wS hSw; (try dsimp only at hSw); go_simp <;> with_reducible rfl)
      try simp only [Act.put, List.setIfInBounds_toArray, List.set_cons_zero, List.set_cons_succ]
      refine wpAnyT_pure (i := 11) (oi := ⟨_, _, _, _, _, _⟩) (v := ?_) rfl (by kernel_rfl) (by kernel_rfl) (by kernel_rfl) (fun _ _ _ h => h) (by kernel_rfl) (Or.inl ⟨by rfl, ?_⟩) (by assumption) ?_
      rotate_left
      · (intro wS hSw; (try dsimp only at hSw); go_simp <;> with_reducible rfl)
      try simp only [Act.put, List.setIfInBounds_toArray, List.set_cons_zero, List.set_cons_succ]
      refine wpAnyT_pure (i := 12) (oi := ⟨_, _, _, _, _, _⟩) (v := ?_) rfl (by kernel_rfl) (by kernel_rfl) (by kernel_rfl) (fun _ _ _ h => h) (by kernel_rfl) (Or.inl ⟨by rfl, ?_⟩) (by assumption) ?_
      rotate_left
      · (intro wS hSw; (try dsimp only at hSw); go_simp <;> with_reducible rfl)
      try simp only [Act.put, List.setIfInBounds_toArray, List.set_cons_zero, List.set_cons_succ]
      refine wpAnyT_pure (i := 13) (oi := ⟨_, _, _, _, _, _⟩) (v := ?_) rfl (by kernel_rfl) (by kernel_rfl) (by kernel_rfl) (fun _ _ _ h => h) (by kernel_rfl) (Or.inl ⟨by rfl, ?_⟩) (by assumption) ?_
      rotate_left
      · (intro wS hSw; (try dsimp only at hSw); go_simp <;> with_reducible rfl)
      try simp only [Act.put, List.setIfInBounds_toArray, List.set_cons_zero, List.set_cons_succ]
      refine wpAnyT_pure (i := 14) (oi := ⟨_, _, _, _, _, _⟩) (v := ?_) rfl (by kernel_rfl) (by kernel_rfl) (by kernel_rfl) (fun _ _ _ h => h) (by kernel_rfl) (Or.inl ⟨by rfl, ?_⟩) (by assumption) ?_
      rotate_left
      · (intro wS hSw; (try dsimp only at hSw); go_simp <;> with_reducible rfl)
      try simp only [Act.put, List.setIfInBounds_toArray, List.set_cons_zero, List.set_cons_succ]
      refine wpAnyT_take (i := 8) (oi := ⟨_, _, _, _, _, _⟩) (v := ?_) rfl (by kernel_rfl) (by kernel_rfl) (by kernel_rfl) (fun _ _ _ h => h) (by kernel_rfl) (Or.inl ⟨by rfl, ?_⟩) (by assumption) ?_
      rotate_left
      · (intro wS hSw; (try dsimp only at hSw); go_simp <;> with_reducible rfl)
      try simp only [Act.put, List.setIfInBounds_toArray, List.set_cons_zero, List.set_cons_succ]
      refine wpAnyT_take (i := 15) (oi := ⟨_, _, _, _, _, _⟩) (v := ?_) rfl (by kernel_rfl) (by kernel_rfl) (by kernel_rfl) (fun _ _ _ h => h) (by kernel_rfl) (Or.inl ⟨by rfl, ?_⟩) (by assumption) ?_
      rotate_left
      · (intro wS hSw; (try dsimp only at hSw); go_simp <;> with_reducible rfl)
      try simp only [Act.put, List.setIfInBounds_toArray, List.set_cons_zero, List.set_cons_succ]
      refine wpAnyT_ready (rs := [9]) (by kernel_rfl) (by simp) ?_
      refine (AllReadyT.cons (o := ⟨_, _, _, _, _, _⟩) rfl (fun K hK => ?_) AllReadyT.nil)
      go_simp
      (go_at_call 70; (with_reducible refine (CB.out _ (Below.refl _ _).drew).mono ?_); rintro e w1 ⟨A3, c3, rfl, ho1, hb1⟩; have HB1 : Hid (Below wr.heap.size wr w1) := ((Below.refl wr.heap.size wr).drew).trans hb1; have HO1 := Lib.hid ho1; clear ho1 hb1; have hS1 := HSS.out w1 HB1.out)
      go_wp2_with fail
      refine hK.out _ _ (by (try dsimp only); first | assumption | exact HSS.out _ (Below.refl _ _).drew) (fun hHeld => ?_)
      clear hK K
      try simp only [Act.put, List.setIfInBounds_toArray, List.set_cons_zero, List.set_cons_succ]
      refine wpAnyT_ready (rs := [16]) (by kernel_rfl) (by simp) ?_
      refine (AllReadyT.cons (o := ⟨_, _, _, _, _, _⟩) rfl (fun K hK => ?_) AllReadyT.nil)
      go_simp
      (go_at_call 70; (with_reducible refine (CA.out _ HB1.out).mono ?_); rintro e w2 ⟨A4, c4, rfl, ho2, hb2⟩; have HB2 := Lib.hid (acc HB1.out hb2); have HO2 := Lib.hid ho2; have HBB := Lib.hid hb2; clear ho2 hb2; have hS2 := HSS.out w2 HB2.out)
      go_wp2_with fail
      refine hK.out _ _ (by (try dsimp only); first | assumption | exact HSS.out _ (Below.refl _ _).drew) (fun hHeld => ?_)
      clear hK K
      try simp only [Act.put, List.setIfInBounds_toArray, List.set_cons_zero, List.set_cons_succ]
      refine wpAnyT_pure (i := 17) (oi := ⟨_, _, _, _, _, _⟩) (v := ?_) rfl (by kernel_rfl) (by kernel_rfl) (by kernel_rfl) (fun _ _ _ h => h) (by kernel_rfl) (Or.inl ⟨by rfl, ?_⟩) (by assumption) ?_
      rotate_left
      · (intro wS hSw; (try dsimp only at hSw); go_simp <;> with_reducible rfl)
      try simp only [Act.put, List.setIfInBounds_toArray, List.set_cons_zero, List.set_cons_succ]
      refine wpAnyT_pure (i := 18) (oi := ⟨_, _, _, _, _, _⟩) (v := ?_) rfl (by kernel_rfl) (by kernel_rfl) (by kernel_rfl) (fun _ _ _ h => h) (by kernel_rfl) (Or.inl ⟨by rfl, ?_⟩) (by assumption) ?_
      rotate_left
      · (intro wS hSw; (try dsimp only at hSw); go_simp <;> with_reducible rfl)
      try simp only [Act.put, List.setIfInBounds_toArray, List.set_cons_zero, List.set_cons_succ]
      refine wpAnyT_ready (rs := [19]) (by kernel_rfl) (by simp) ?_
      refine (AllReadyT.past (o := ⟨_, _, _, _, _, _⟩) rfl (by kernel_rfl) (fun K hK => ?_) AllReadyT.nil)
      have f18 := HFR.out w2 HB2.out (i * 21 + 18)
      have f11 := HFR.out w2 HB2.out (i * 21 + 11)
      have g18 := hS2.1
      have g11 := hS2.2
      go_simp
      refine hK.out _ _ ?_
      clear hK K
      try simp only [Act.put, List.setIfInBounds_toArray, List.set_cons_zero, List.set_cons_succ]
      refine wpAnyT_ready (rs := [20]) (by kernel_rfl) (by simp) ?_
      refine (AllReadyT.past (o := ⟨_, _, _, _, _, _⟩) rfl (by kernel_rfl) (fun K hK => ?_) AllReadyT.nil)
      go_simp
      refine hK.out _ _ ?_
      clear hK K
      try simp only [Act.put, List.setIfInBounds_toArray, List.set_cons_zero, List.set_cons_succ]
      refine wpAnyT_ready (rs := [21]) (by kernel_rfl) (by simp) ?_
      refine (AllReadyT.past (o := ⟨_, _, _, _, _, _⟩) rfl (by kernel_rfl) (fun K hK => ?_) AllReadyT.nil)
      go_simp
      refine hK.out _ _ ?_
      clear hK K
      try simp only [Act.put, List.setIfInBounds_toArray, List.set_cons_zero, List.set_cons_succ]
      refine wpAnyT_ready (rs := [22]) (by kernel_rfl) (by simp) ?_
      refine (AllReadyT.past (o := ⟨_, _, _, _, _, _⟩) rfl (by kernel_rfl) (fun K hK => ?_) AllReadyT.nil)
      go_simp
      refine hK.out _ _ ?_
      clear hK K
      try simp only [Act.put, List.setIfInBounds_toArray, List.set_cons_zero, List.set_cons_succ]
      refine wpAnyT_ready (rs := [23]) (by kernel_rfl) (by simp) ?_
      refine (AllReadyT.past (o := ⟨_, _, _, _, _, _⟩) rfl (by kernel_rfl) (fun K hK => ?_) AllReadyT.nil)
      go_simp
      refine hK.out _ _ ?_
      clear hK K
      try simp only [Act.put, List.setIfInBounds_toArray, List.set_cons_zero, List.set_cons_succ]
      refine wpAnyT_done (by kernel_rfl) ?_ _
      go_wp2_with fail
      go_roundg (gk - 1)
      case measure => omega
      case rel => exact ⟨i + 1, _, _, by omega, by omega, by go_num, cp_step HC.out HR.out HB1.out HO1.out HBB.out HO2.out⟩
    · obtain rfl : n = i := by omega
      go_wp2_with fail
      go_ret
      have h9 := HC.out
      have hd : l.drop n = [] := List.drop_eq_nil_of_le (by rw [HN.out]; exact Nat.le_refl _)
      have ht : l.take n = l := List.take_of_length_le (by rw [HN.out]; exact Nat.le_refl _)
      have hrow := h9.row
      have hsame := h9.same
      rw [hd, List.append_nil] at hrow
      rw [ht] at hsame
      exact ⟨_, _, ms, Q, rfl, h9.len, hsame, hrow, h9.below, h9.at_, h9.qs, h9.qn⟩
end Go.Proofs.Ytfemdfidfomchaa.Lb
namespace Go.Proofs.Ytfemdfidfomchaa.Lb
open Go.RowKit Go.Proofs.Ytfemdfidfomchaa

def BookPost (W : World) (g : Nat) (va vb : Value) (es us : List (Value × List LR)) (P : List Nat) (v : Value) (l : List LR) (e : Ending) (w' : World) : Prop :=
  e = .returned (.tuple #[]) ∧ ∃ va' vb' u ms Q, BK w' g va' vb' (es ++ [(v, l)]) (us ++ [(u, ms)]) (P ++ Q) ∧ Touch (g :: (blk va ++ blk vb)) W w' ∧ (∀ q ∈ Q, W.heap.size ≤ q) ∧
    ∀ q ∈ BF g va' vb' (es ++ [(v, l)]) (us ++ [(u, ms)]), q ∈ BF g va vb es us ∨ q ∈ blk v ∨ W.heap.size ≤ q
theorem book_end {W w1 w2 w3 : World} {g : Nat} {va vb va' vb' u v : Value} {es us : List (Value × List LR)} {l ms : List LR} {P Q : List Nat} (hB : BK W g va vb es us P) (hv : rowOk W (v, l))
    (hvn : ∀ q ∈ blk v, q ≠ g ∧ q ∉ blk va ∧ q ∉ blk vb ∧ q ∉ fps es) (hvp : ∀ q ∈ blk v, q ∉ P) (hlp : ∀ r ∈ l, r.At W P) (hlu : us.length = es.length)
    (T1 : Touch (blk va) W w1) (o1 : w1.ownsRow 0 59 1 va' (es.length + 1) (es.map (·.1) ++ [v])) (s1 : ∀ q ∈ blk va', q ∈ blk va ∨ W.heap.size ≤ q)
    (T2 : Touch [] (w1.setCell ⟨g, 12, .none⟩ va') w2) (hms : ms.map (·.l) = l.map (·.l)) (hu : rowOk w2 (u, ms)) (su : ∀ q ∈ blk u, w1.heap.size ≤ q) (hqa : ∀ r ∈ ms, r.At w2 Q) (hqs : ∀ q ∈ Q, w1.heap.size ≤ q ∧ q < w2.heap.size) (hqn : ∀ q ∈ blk u, q ∉ Q)
    (T3 : Touch (blk vb) w2 w3) (o3 : w3.ownsRow 0 59 1 vb' (es.length + 1) (us.map (·.1) ++ [u])) (s3 : ∀ q ∈ blk vb', q ∈ blk vb ∨ w2.heap.size ≤ q) :
    BookPost W g va vb es us P v l (.returned (.tuple #[])) (w3.setCell ⟨g, 13, .none⟩ vb') := by
  have hg := hB.lt
  have hg1 : g < w1.heap.size := Nat.lt_of_lt_of_le hg T1.size
  have S6 : Touch [g] w1 (w1.setCell ⟨g, 12, .none⟩ va') := (Touch.refl _ _).set (.inl (by simp)) _
  have S7 : Touch [g] w3 (w3.setCell ⟨g, 13, .none⟩ vb') := (Touch.refl _ _).set (.inl (by simp)) _
  have hg2 : g < w2.heap.size := Nat.lt_of_lt_of_le (Nat.lt_of_lt_of_le hg1 S6.size) T2.size
  have hg3 : g < w3.heap.size := Nat.lt_of_lt_of_le hg2 T3.size
  have z12 : w1.heap.size ≤ w2.heap.size := Nat.le_trans S6.size T2.size
  have z01 := T1.size
  have z23 := T3.size
  have lv : ∀ q ∈ blk v, q < W.heap.size := fun q hq => hv.lt hq
  have la : ∀ q ∈ blk va, q < W.heap.size := fun q hq => row_lt hB.own6 hq
  have lb : ∀ q ∈ blk vb, q < W.heap.size := fun q hq => row_lt hB.own7 hq
  have le : ∀ q ∈ fps es, q < W.heap.size := fun q hq => by obtain ⟨x, hx, hq⟩ := mem_fps.1 hq; exact (hB.rows x hx).lt hq
  have lu : ∀ q ∈ fps us, q < W.heap.size := fun q hq => by obtain ⟨x, hx, hq⟩ := mem_fps.1 hq; exact (hB.copies x hx).lt hq
  have la' : ∀ q ∈ blk va', q < w1.heap.size := fun q hq => row_lt o1 hq
  -- what each step leaves
  have T02 : Touch (g :: blk va) W w2 := by
    have h1 : Touch (g :: blk va) W (w1.setCell ⟨g, 12, .none⟩ va') := Touch.set (F := g :: blk va) (T1.mono (fun x hx => List.mem_cons_of_mem _ hx)) (.inl (by simp)) _
    exact h1.trans T2 (by simp)
  have T03 : Touch (g :: (blk va ++ blk vb)) W w3 := (T02.mono (fun x hx => by rcases List.mem_cons.1 hx with rfl | h; simp; simp [h])).trans T3 (fun x hx => .inl (by simp [hx]))
  have T04 : Touch (g :: (blk va ++ blk vb)) W (w3.setCell ⟨g, 13, .none⟩ vb') := T03.set (.inl (by simp)) _
  have T14 : ∀ q, q ∈ blk va' → q ∉ g :: blk vb := by
    intro q hq h
    rcases List.mem_cons.1 h with rfl | h
    · rcases s1 q hq with h1 | h1
      · exact hB.ga h1
      · omega
    · rcases s1 q hq with h1 | h1
      · exact (hB.ab q h1).1 h
      · have := lb q h; omega
  have T24 : Touch (g :: blk vb) w2 (w3.setCell ⟨g, 13, .none⟩ vb') := Touch.set (F := g :: blk vb) (T3.mono (fun x hx => List.mem_cons_of_mem _ hx)) (.inl (by simp)) _
  have gvb' : g ∉ blk vb' := fun h => by
    rcases s3 g h with h1 | h1
    · exact hB.gb h1
    · omega
  -- cells of the book's own block
  have cell2 : ∀ j, j ≠ 12 → w2.cell? ⟨g, j, .none⟩ = W.cell? ⟨g, j, .none⟩ := fun j hj => by
    rw [T2.cell (p := ⟨g, j, .none⟩) (Nat.lt_of_lt_of_le hg1 S6.size) (by simp), World.cell?_setCell_other _ _ _ _ (by simp <;> omega), T1.cell (p := ⟨g, j, .none⟩) hg hB.ga]
  have cell3 : ∀ j, w3.cell? ⟨g, j, .none⟩ = w2.cell? ⟨g, j, .none⟩ := fun j => T3.cell (p := ⟨g, j, .none⟩) hg2 hB.gb
  have froz : ∀ j, w3.frozen? ⟨g, j, .none⟩ = W.frozen? ⟨g, j, .none⟩ := fun j => by
    rw [T3.frozen (p := ⟨g, j, .none⟩) hg2 hB.gb, T2.frozen (p := ⟨g, j, .none⟩) (Nat.lt_of_lt_of_le hg1 S6.size) (by simp), World.frozen?_setCell, T1.frozen (p := ⟨g, j, .none⟩) hg hB.ga]
  have c6 : w2.cell? ⟨g, 12, .none⟩ = some va' := by
    rw [T2.cell (p := ⟨g, 12, .none⟩) (Nat.lt_of_lt_of_le hg1 S6.size) (by simp)]
    exact World.cell?_setCell_same _ _ _ ((T1.cell (p := ⟨g, 12, .none⟩) hg hB.ga).trans hB.c6)
  have c7 : w3.cell? ⟨g, 13, .none⟩ = some vb := by rw [cell3, cell2 13 (by omega)]; exact hB.c7
  have o1' : w2.ownsRow 0 59 1 va' (es.length + 1) (es.map (·.1) ++ [v]) :=
    T2.row (S6.row o1 (fun q hq h => by have := T14 q (mem_blk.2 hq); simp at h; exact this (by simp [h]))) (by simp)
  have o1f : (w3.setCell ⟨g, 13, .none⟩ vb').ownsRow 0 59 1 va' (es.length + 1) (es.map (·.1) ++ [v]) := T24.row o1' (fun q hq => T14 q (mem_blk.2 hq))
  have o3f : (w3.setCell ⟨g, 13, .none⟩ vb').ownsRow 0 59 1 vb' (es.length + 1) (us.map (·.1) ++ [u]) := S7.row o3 (fun q hq h => gvb' (by have := mem_blk.2 hq; simp at h; rw [← h]; exact this))
  have n0 : ∀ x ∈ es, ∀ q ∈ blk x.1, q ∉ g :: (blk va ++ blk vb) := by
    intro x hx q hq h
    have hf : q ∈ fps es := mem_fps.2 ⟨x, hx, hq⟩
    simp only [List.mem_cons, List.mem_append] at h
    rcases h with rfl | h | h
    · exact hB.ge hf
    · exact (hB.ab q h).2 hf
    · exact hB.be q h hf
  have nu : ∀ x ∈ us, ∀ q ∈ blk x.1, q ∉ g :: (blk va ++ blk vb) := by
    intro x hx q hq h
    have hf := hB.beside q (mem_fps.2 ⟨x, hx, hq⟩)
    simp only [List.mem_cons, List.mem_append] at h
    rcases h with h | h | h
    · exact hf.1 h
    · exact hf.2.1 h
    · exact hf.2.2 h
  have nv : ∀ q ∈ blk v, q ∉ g :: (blk va ++ blk vb) := by
    intro q hq h
    have hf := hvn q hq
    simp only [List.mem_cons, List.mem_append] at h
    rcases h with h | h | h
    · exact hf.1 h
    · exact hf.2.1 h
    · exact hf.2.2.1 h
  have nU : ∀ q ∈ blk u, q ∉ g :: blk vb := by
    intro q hq h
    have := su q hq
    rcases List.mem_cons.1 h with rfl | h
    · omega
    · have := lb q h; omega
  have mem' : ∀ q, q ∈ blk va' → q ∉ blk v := fun q hq h => by
    rcases s1 q hq with h1 | h1
    · exact (hvn q h).2.1 h1
    · have := lv q h; omega
  refine ⟨rfl, va', vb', u, ms, Q, ⟨by simpa [World.setCell] using hg3, fun j a b c => ?_, ?_, World.cell?_setCell_same _ _ _ c7, by rw [World.frozen?_setCell, froz]; exact hB.f6, by rw [World.frozen?_setCell, froz]; exact hB.f7, ?_, ?_, ?_, ?_, ?_, ?_, ?_, ?_, ?_, ?_, ?_⟩, T04, fun q hq => Nat.le_trans z01 (hqs q hq).1, ?_⟩
  · rw [World.cell?_setCell_other _ _ _ _ (by simp <;> omega), cell3, cell2 j b]; exact hB.none j a b c
  · rw [World.cell?_setCell_other _ _ _ _ (by simp), cell3]; exact c6
  · simpa using o1f
  · simpa [hlu] using o3f
  · intro x hx
    rcases List.mem_append.1 hx with hx | hx
    · exact (hB.rows x hx).touch T04 (n0 x hx)
    · simp at hx; subst hx; exact hv.touch T04 nv
  · intro x hx
    rcases List.mem_append.1 hx with hx | hx
    · exact (hB.copies x hx).touch T04 (nu x hx)
    · simp at hx; subst hx; exact hu.touch T24 nU
  · simp [hB.same, hms]
  · rw [fps_snoc]
    have he : (fps es).Nodup := (List.nodup_append.1 (List.nodup_append.1 (List.nodup_cons.1 hB.apart).2).2.1).2.1
    refine nodup5 (blk_nodup _) (blk_nodup _) he (blk_nodup _) (fun h => T14 g h (by simp)) gvb' hB.ge (fun h => (hvn g h).1 rfl) ?_ ?_ mem' ?_ ?_ ?_
    · intro q hq h
      rcases s3 q h with h1 | h1
      · exact T14 q hq (by simp [h1])
      · have := la' q hq; omega
    · intro q hq h
      rcases s1 q hq with h1 | h1
      · exact (hB.ab q h1).2 h
      · have := le q h; omega
    · intro q hq h
      rcases s3 q hq with h1 | h1
      · exact hB.be q h1 h
      · have := le q h; omega
    · intro q hq h
      rcases s3 q hq with h1 | h1
      · exact (hvn q h).2.2.1 h1
      · have := lv q h; omega
    · intro q hq h
      exact (hvn q h).2.2.2 hq
  · intro q hq
    rw [fps_snoc] at hq
    rcases List.mem_append.1 hq with hq | hq
    · have hf := hB.beside q hq
      have := lu q hq
      refine ⟨hf.1, fun h => ?_, fun h => ?_⟩
      · rcases s1 q h with h1 | h1
        · exact hf.2.1 h1
        · omega
      · rcases s3 q h with h1 | h1
        · exact hf.2.2 h1
        · omega
    · have h0 := su q hq
      have h2 : q < w2.heap.size := hu.lt hq
      refine ⟨by omega, fun h => ?_, fun h => ?_⟩
      · have := la' q h; omega
      · rcases s3 q h with h1 | h1
        · have := lb q h1; omega
        · omega
  · intro x hx r hr
    have pn : ∀ q ∈ P, q ∉ g :: (blk va ++ blk vb) := fun q hq h => hB.pout q hq (by simp only [BF, List.mem_cons, List.mem_append] at h ⊢; rcases h with h | h | h; exact .inl h; exact .inr (.inl h); exact .inr (.inr (.inl h)))
    rcases List.mem_append.1 hx with hx | hx
    · exact ((hB.inner x hx r hr).touch T04 pn).mono (fun q hq => List.mem_append_left _ hq)
    · simp at hx; subst hx; exact ((hlp r hr).touch T04 pn).mono (fun q hq => List.mem_append_left _ hq)
  · intro x hx r hr
    have pn : ∀ q ∈ P, q ∉ g :: (blk va ++ blk vb) := fun q hq h => hB.pout q hq (by simp only [BF, List.mem_cons, List.mem_append] at h ⊢; rcases h with h | h | h; exact .inl h; exact .inr (.inl h); exact .inr (.inr (.inl h)))
    rcases List.mem_append.1 hx with hx | hx
    · exact ((hB.innerU x hx r hr).touch T04 pn).mono (fun q hq => List.mem_append_left _ hq)
    · simp at hx; subst hx
      refine ((hqa r hr).touch T24 (fun q hq h => ?_)).mono (fun q hq => List.mem_append_right _ hq)
      have := (hqs q hq).1
      rcases List.mem_cons.1 h with rfl | h
      · omega
      · have := lb q h; omega
  · intro q hq
    have z4 := T04.size
    have z2 := T24.size
    rcases List.mem_append.1 hq with h | h
    · exact Nat.lt_of_lt_of_le (hB.plt q h) z4
    · exact Nat.lt_of_lt_of_le (hqs q h).2 z2
  · intro q hq h
    simp only [BF, fps_snoc, List.mem_cons, List.mem_append] at h
    rcases List.mem_append.1 hq with hp | hp
    · have h1 := hB.pout q hp
      have h2 := hB.plt q hp
      simp only [BF, List.mem_cons, List.mem_append, not_or] at h1
      rcases h with h | h | h | (h | h) | (h | h)
      · exact h1.1 h
      · rcases s1 q h with y | y
        · exact h1.2.1 y
        · omega
      · rcases s3 q h with y | y
        · exact h1.2.2.1 y
        · omega
      · exact h1.2.2.2.1 h
      · exact hvp q h hp
      · exact h1.2.2.2.2 h
      · have := su q h; omega
    · obtain ⟨y1, y2⟩ := hqs q hp
      rcases h with h | h | h | (h | h) | (h | h)
      · omega
      · have := la' q h; omega
      · rcases s3 q h with y | y
        · have := lb q y; omega
        · omega
      · have := le q h; omega
      · have := lv q h; omega
      · have := lu q h; omega
      · exact hqn q h hp
  · intro q hq
    simp only [BF, fps_snoc, List.mem_cons, List.mem_append] at hq ⊢
    rcases hq with h | h | h | (h | h) | (h | h)
    · exact .inl (.inl h)
    · rcases s1 q h with h1 | h1
      · exact .inl (.inr (.inl h1))
      · exact .inr (.inr h1)
    · rcases s3 q h with h1 | h1
      · exact .inl (.inr (.inr (.inl h1)))
      · exact .inr (.inr (by omega))
    · exact .inl (.inr (.inr (.inr (.inl h))))
    · exact .inr (.inl h)
    · exact .inl (.inr (.inr (.inr (.inr h))))
    · exact .inr (.inr (by have := su q h; omega))

set_option maxRecDepth 100000 in
set_option maxHeartbeats 2000000 in
theorem bookLetters_any (g : Nat) (va vb : Value) (es us : List (Value × List LR)) (A : Option Addr) (c : Nat) (l : List LR) (P : List Nat) (W : World) (hB : BK W g va vb es us P) (hv : Row W (.slice A l.length c) l)
    (hvn : ∀ q ∈ blk (.slice A l.length c), q ≠ g ∧ q ∉ blk va ∧ q ∉ blk vb ∧ q ∉ fps es) (hvp : ∀ q ∈ blk (.slice A l.length c), q ∉ P) (hlp : ∀ r ∈ l, r.At W P) (hsm : ∀ r ∈ l, r.Sm) (he : es.length < 250) (hl : l.length ≤ 100000) :
    Calls Try.prog 19 #[.pointer (some ⟨g, 0, none⟩), .slice A l.length c] W (BookPost W g va vb es us P (.slice A l.length c) l) := by
  obtain ⟨i0, z0, hi, hz, hs1, hb24, hzc⟩ := infoRow
  have HVP := Lib.hid hvp
  have HLP := Lib.hid hlp
  have HSM := Lib.hid hsm
  have HPO : Hid (∀ q ∈ P, q ∉ g :: (blk va ++ blk vb)) := fun q hq h => hB.pout q hq (by simp only [BF, List.mem_cons, List.mem_append] at h ⊢; rcases h with h | h | h; exact .inl h; exact .inr (.inl h); exact .inr (.inr (.inl h)))
  obtain ⟨A6, d6, rfl⟩ := own_slice hB.own6
  obtain ⟨A7, d7, rfl⟩ := own_slice hB.own7
  have hlu : us.length = es.length := by have := congrArg List.length hB.same; simpa using this
  have HPL := Lib.hid hB.plt
  have HBK := Lib.hid hB
  have c6 := hB.c6
  have c7 := hB.c7
  have f6 := hB.f6
  have f7 := hB.f7
  have hg := hB.lt
  have HV := Lib.hid hv
  have HVN := Lib.hid hvn
  obtain ⟨n, hn⟩ : ∃ n, es.length = n := ⟨_, rfl⟩
  obtain ⟨m, hm⟩ : ∃ m, l.length = m := ⟨_, rfl⟩
  have HN := Lib.hid hn
  have HM := Lib.hid hm
  have HLU := Lib.hid hlu
  have HO6 : Hid (W.ownsRow 0 59 1 (.slice A6 n d6) n (es.map (·.1))) := by have h := hB.own6; rw [hn] at h; exact h
  have HO7 : Hid (W.ownsRow 0 59 1 (.slice A7 n d7) n (us.map (·.1))) := by have h := hB.own7; rw [hlu, hn] at h; exact h
  have HN7 : Hid (∀ q, q ∈ blk (.slice A7 n d7) → q ∉ g :: blk (.slice A6 n d6)) := by
    intro q hq h
    have h1 := hB.gb
    have h2 := fun q hq => (hB.ab q hq).1
    rw [hlu, hn] at h1
    rw [hlu, hn] at h2
    rcases List.mem_cons.1 h with rfl | h
    · exact h1 hq
    · exact h2 q h hq
  have HNV : Hid (∀ q, q ∈ blk (.slice A l.length c) → q ∉ g :: blk (.slice A6 n d6)) := by
    intro q hq h
    have h1 := hvn q hq
    rw [hn] at h1
    rcases List.mem_cons.1 h with h | h
    · exact h1.1 h
    · exact h1.2.1 h
  have hgb : g ∉ blk (.slice A7 n d7) := by have h := hB.gb; rw [hlu, hn] at h; exact h
  have hga : g ∉ blk (.slice A6 n d6) := by have h := hB.ga; rw [hn] at h; exact h
  rw [hn] at c6 he
  rw [hlu, hn] at c7
  rw [hm] at hl ⊢
  clear hB hv hvn hn hm hlu hvp hlp hsm
  go_enter Try.func19, Try.ntmps19
  go_upto_region 2 with (at_builtin; go_must (refine wpList_append_old rfl (.tmp 14) (.tmp 16) 38 rfl 0 59 i0 z0 1 24 Try.underlying38 hi hz hs1 hb24 hzc (by decide) (.slice A6 n d6) n (es.map (·.1)) rfl (HO6.out.alloc _) ⟨W.heap.size, 0, none⟩ 1 1 [.slice A m c] rfl rfl (cell_one_new _ _ _) (fun x hx => by simp at hx; subst hx; rfl) (by unfold maxLen; omega) (by omega) (Nat.zero_le _) ?_); intro x1 w1 hown1 hg1 hnil1 hold1 hsn1; obtain ⟨A1, d1, rfl⟩ := own_slice hown1; have hT1 : Touch (blk (.slice A6 n d6)) W w1 := ((Touch.refl _ W).alloc _).grown hg1 (fun k hk => .inl (mem_blk.2 hk)); have e6 := (hT1.cell (p := ⟨g, 12, none⟩) hg (by first | exact hga)).trans c6; have e7 := (hT1.cell (p := ⟨g, 13, none⟩) hg (by first | exact hga)).trans c7; have k6 := (hT1.frozen (p := ⟨g, 12, none⟩) hg (by first | exact hga)).trans f6; have k7 := (hT1.frozen (p := ⟨g, 13, none⟩) hg (by first | exact hga)).trans f7; have HT1 := Lib.hid hT1; have HO1 := Lib.hid hown1; have HS1 := Lib.hid hsn1; clear hT1 hown1 hg1 hnil1 hold1 hsn1)
  have HTV : Hid (Touch (g :: blk (.slice A6 n d6)) W (w1.setCell ⟨g, 12, none⟩ (.slice A1 (n + 1) d1))) := Touch.set (F := g :: blk (.slice A6 n d6)) (HT1.out.mono (fun x hx => List.mem_cons_of_mem _ hx)) (.inl (by simp)) _
  have HGV : Hid (Touch [g] w1 (w1.setCell ⟨g, 12, none⟩ (.slice A1 (n + 1) d1))) := (Touch.refl _ _).set (.inl (by simp)) _
  have v1 : g < (w1.setCell ⟨g, 12, none⟩ (.slice A1 (n + 1) d1)).heap.size := Nat.lt_of_lt_of_le hg HTV.out.size
  have v7 : (w1.setCell ⟨g, 12, none⟩ (.slice A1 (n + 1) d1)).cell? ⟨g, 13, none⟩ = some (.slice A7 n d7) := by rw [World.cell?_setCell_other _ _ _ _ (by simp)]; exact e7
  have x7 : (w1.setCell ⟨g, 12, none⟩ (.slice A1 (n + 1) d1)).frozen? ⟨g, 13, none⟩ = false := by rw [World.frozen?_setCell]; exact k7
  have HV7 : Hid ((w1.setCell ⟨g, 12, none⟩ (.slice A1 (n + 1) d1)).ownsRow 0 59 1 (.slice A7 n d7) n (us.map (·.1))) := HTV.out.row HO7.out (fun q hq h => HN7.out q (mem_blk.2 hq) h)
  have HVV : Hid (Row (w1.setCell ⟨g, 12, none⟩ (.slice A1 (n + 1) d1)) (.slice A l.length c) l) := HTV.out.row HV.out (fun q hq h => HNV.out q (mem_blk.2 hq) h)
  have HLV : Hid (∀ r ∈ l, r.At (w1.setCell ⟨g, 12, none⟩ (.slice A1 (n + 1) d1)) P) := fun r hr => (HLP.out r hr).touch HTV.out (fun q hq h => HPO.out q hq (by rw [HN.out]; rcases List.mem_cons.1 h with h | h; (rw [h]; exact List.mem_cons_self); exact List.mem_cons_of_mem _ (List.mem_append_left _ h)))
  have CC : Hid (∀ W1, Row W1 (.slice A l.length c) l → (∀ r ∈ l, r.At W1 P) → Calls Try.prog 35 #[.slice A m c] W1 (CopyLs W1 l m)) := fun W1 h hp => copyLs_any A c m l W1 P (by have h2 := h; unfold Row at h2; rw [HM.out] at h2; exact h2) HM.out hp HSM.out (by rw [← HM.out]; first | exact hl | (rw [HM.out]; exact hl))
  have HVdef := Lib.hid (rfl : w1.setCell ⟨g, 12, none⟩ (.slice A1 (n + 1) d1) = w1.setCell ⟨g, 12, none⟩ (.slice A1 (n + 1) d1))
  clear e6 e7 k6 k7 c6 c7 f6 f7 hg
  generalize hVV : w1.setCell ⟨g, 12, none⟩ (.slice A1 (n + 1) d1) = V at *
  have HVW := Lib.hid hVV
  clear hVV HVdef
  have HVD : Hid (Row V.drew (.slice A l.length c) l) := HVV.out
  have HLD : Hid (∀ r ∈ l, r.At V.drew P) := fun r hr => (HLV.out r hr).touch (Touch.refl (F := []) V).drew (by simp)
  have HV7D : Hid (V.drew.ownsRow 0 59 1 (.slice A7 n d7) n (us.map (·.1))) := HV7.out
  have HD7 : Hid (V.drew.cell? ⟨g, 13, none⟩ = some (.slice A7 n d7) ∧ V.drew.frozen? ⟨g, 13, none⟩ = false ∧ g < V.drew.heap.size) := ⟨v7, x7, v1⟩
  go_region_law (first
    | (refine step_append_old rfl (.tmp 24) (.tmp 27) 38 rfl 0 59 i0 z0 1 24 Try.underlying38 hi hz hs1 hb24 hzc (by decide) (.slice A7 n d7) n (us.map (·.1)) (by simp [Act.eval]) (HY7.out.alloc _) ⟨w2.heap.size, 0, none⟩ 1 1 [.slice A2 m d2] (by simp [Act.eval]) rfl (cell_one_new _ _ _) (fun x hx => by simp at hx; subst hx; rfl) (by unfold maxLen; omega) (by omega) (Nat.zero_le _) ?_; intro x3 w3 hown3 hg3 hnil3 hold3 hsn3; obtain ⟨A3, d3, rfl⟩ := own_slice hown3; have hT3 : Touch (blk (.slice A7 n d7)) w2 w3 := ((Touch.refl _ w2).alloc _).grown hg3 (fun k hk => .inl (mem_blk.2 hk)); have u7 := (hT3.cell (p := ⟨g, 13, none⟩) y1 hgb).trans y7; have t7 := (hT3.frozen (p := ⟨g, 13, none⟩) y1 hgb).trans z7; have HT3 := Lib.hid hT3; have HO3 := Lib.hid hown3; have HS3 := Lib.hid hsn3; clear hT3 hown3 hg3 hnil3 hold3 hsn3)
    | (go_simp; go_at_call 35; (with_reducible refine (CC.out _ HVD.out HLD.out).mono ?_); rintro e w2 ⟨A2, d2, ms, Q, rfl, hml, hms, hown2, hb2, hqa, hqs, hqn⟩; have HMS := Lib.hid (And.intro hml hms); have HQQ := Lib.hid (And.intro hqa (And.intro hqs hqn)); clear hml hms hqa hqs hqn; have HT2 := Lib.hid (Touch.ofBelow (F := []) hb2); have y7 := (HT2.out.cell (p := ⟨g, 13, none⟩) HD7.out.2.2 (by simp)).trans HD7.out.1; have z7 := (HT2.out.frozen (p := ⟨g, 13, none⟩) HD7.out.2.2 (by simp)).trans HD7.out.2.1; have y1 := Nat.lt_of_lt_of_le HD7.out.2.2 HT2.out.size; have HY7 := Lib.hid (HT2.out.row HV7D.out (by simp)); have HU := Lib.hid hown2; clear hown2 hb2; go_wp2_with fail))
  all_goals
    go_wp2
    go_end0
    have hn9 := HN.out
    subst hn9
    have hb9 := HBK.out
    have hl9 := HLU.out
    rw [hl9] at hb9
    have hm9 := HM.out
    subst hm9
    have hw9 := HVW.out
    rw [hl9]
    refine book_end (va := .slice A6 es.length d6) (vb := .slice A7 es.length d7) hb9 ⟨A, c, rfl, HV.out⟩ (by have h := HVN.out; rw [hl9] at h; exact h) HVP.out HLP.out hl9 HT1.out HO1.out ?_ (hw9 ▸ undrew HT2.out) HMS.out.2 ⟨A2, d2, by rw [HMS.out.1], by have h := own_mono HU.out (Nat.zero_le _); unfold Row; rw [HMS.out.1]; exact h⟩ ?_ HQQ.out.1 ?_ ?_ HT3.out HO3.out ?_
    · intro q hq
      rcases HS1.out q (mem_blk.1 hq) with h | h
      · exact .inl (mem_blk.2 h)
      · exact .inr (by simp at h; omega)
    · intro q hq
      have h := (HU.out.lt q (mem_blk.1 hq)).1
      have h2 : (w1.setCell ⟨g, 12, none⟩ (.slice A1 (es.length + 1) d1)).heap.size ≤ q := by rw [hw9]; exact h
      simpa [World.setCell] using h2
    · intro q hq
      have h := HQQ.out.2.1 q hq
      have h2 : (w1.setCell ⟨g, 12, none⟩ (.slice A1 (es.length + 1) d1)).heap.size ≤ q := by rw [hw9]; exact h.1
      exact ⟨by simpa [World.setCell] using h2, h.2⟩
    · intro q hq
      exact HQQ.out.2.2 q (mem_blk.1 hq)
    · intro q hq
      rcases HS3.out q (mem_blk.1 hq) with h | h
      · exact .inl (mem_blk.2 h)
      · exact .inr (by simp at h; omega)

end Go.Proofs.Ytfemdfidfomchaa.Lb
namespace Go.Proofs.Ytfemdfidfomchaa.Lb
open Go.RowKit Go.Proofs.Ytfemdfidfomchaa

theorem lists_at {W : World} {x : Value × List LR} {P : List Nat} (hx : rowOk W x) (ha : ∀ r ∈ x.2, r.At W P) : ∃ A c, x.1 = .slice A x.2.length c ∧ LsAt W A x.2 := by
  obtain ⟨A, c, e1, r1⟩ := hx
  have r2 := r1
  unfold Row at r2
  rw [e1] at r2
  exact ⟨A, c, e1, LsAt.own r2 rfl ha⟩
/-- two lists that are alike: SameLetters says so, in whatever world behind -/
theorem same_calls {W : World} {x y : Value × List LR} {P Q : List Nat} (hx : rowOk W x) (hy : rowOk W y) (ax : ∀ r ∈ x.2, r.At W P) (ay : ∀ r ∈ y.2, r.At W Q) (h : y.2.map (·.l) = x.2.map (·.l)) (hl : x.2.length ≤ 100000) (w' : World) (hb : Below W.heap.size W w') :
    Calls Try.prog 20 #[x.1, y.1] w' fun e w'' => e = .returned (.bool true) ∧ Below w'.heap.size w' w'' := by
  obtain ⟨A, c, e1, r1⟩ := lists_at hx ax
  obtain ⟨B, d, e2, r2⟩ := lists_at hy ay
  have hlen : y.2.length = x.2.length := by have := congrArg List.length h; simpa using this
  rw [e1, e2, hlen]
  exact sameLs_any A B c d x.2.length x.2 y.2 w' (r1.below hb) (r2.below hb) h rfl (by omega)
set_option maxRecDepth 100000 in
set_option maxHeartbeats 2000000 in
theorem stillLetters_any (g : Nat) (va vb : Value) (es us : List (Value × List LR)) (P : List Nat) (W : World) (hB : BK W g va vb es us P) (he : es.length ≤ 250) (hl : ∀ x ∈ es, x.2.length ≤ 100000) :
    Calls Try.prog 42 #[.pointer (some ⟨g, 0, none⟩)] W fun e w' => e = .returned (.bool true) ∧ Below W.heap.size W w' := by
  obtain ⟨A6, d6, rfl⟩ := own_slice hB.own6
  obtain ⟨A7, d7, rfl⟩ := own_slice hB.own7
  have hlu : us.length = es.length := by have := congrArg List.length hB.same; simpa using this
  have HB := Lib.hid hB
  have HL := Lib.hid hl
  obtain ⟨n, hn⟩ : ∃ n, es.length = n := ⟨_, rfl⟩
  have HN := Lib.hid hn
  have HM := Lib.hid (hlu.trans hn)
  have HC : Hid (∀ w', Below W.heap.size W w' → w'.cell? ⟨g, 12, none⟩ = some (.slice A6 n d6) ∧ w'.cell? ⟨g, 13, none⟩ = some (.slice A7 n d7)) := fun w' h => by
    have c6 := (h.cell (p := ⟨g, 12, none⟩) hB.lt).trans hB.c6
    have c7 := (h.cell (p := ⟨g, 13, none⟩) hB.lt).trans hB.c7
    rw [hlu, hn] at c7
    rw [hn] at c6
    exact ⟨c6, c7⟩
  rw [hn] at he
  clear hB hn hlu hl
  go_enter Try.func42, Try.ntmps42
  go_wp2
  go_loopg [3] (n + 1) (fun gh s3 wx => ∃ (i : Nat), i + gh = n + 1 ∧ i ≤ n ∧ s3 = .int .i64 i ∧ Hid (Below W.heap.size W wx))
  case atStart => exact ⟨0, by omega, by omega, rfl, Below.refl _ _⟩
  case round =>
    obtain ⟨i, hig, hi, rfl, HW⟩ := hrel
    obtain ⟨v6, v7⟩ := HC.out _ HW.out
    by_cases hlt : i < n
    · have h1 : i < es.length := by rw [HN.out]; exact hlt
      have h2 : i < us.length := by rw [HM.out]; exact hlt
      obtain ⟨q6, rfl⟩ := own_block HB.out.own6 (by omega)
      obtain ⟨q7, rfl⟩ := own_block HB.out.own7 (by omega)
      have l6 := (HB.out.own6.lt q6 rfl).2
      have l7 := (HB.out.own7.lt q7 rfl).2
      have p6 : W.cell? ⟨q6, i, none⟩ = some (es[i]).1 := (HB.out.own6.cellAt i (by omega)).trans (fst_at es i h1)
      have p7 : W.cell? ⟨q7, i, none⟩ = some (us[i]).1 := (HB.out.own7.cellAt i (by omega)).trans (fst_at us i h2)
      have hsa := same_at HB.out.same i h1 h2
      have CS : Hid (∀ w', Below wr.heap.size wr w' → Calls Try.prog 20 #[(es[i]).1, (us[i]).1] w' fun e w'' => e = .returned (.bool true) ∧ Below w'.heap.size w' w'') := fun w' h => same_calls (W := W) (x := es[i]) (y := us[i]) (P := P) (Q := P) (HB.out.rows _ (List.getElem_mem h1)) (HB.out.copies _ (List.getElem_mem h2)) (HB.out.inner _ (List.getElem_mem h1)) (HB.out.innerU _ (List.getElem_mem h2)) hsa (HL.out _ (List.getElem_mem h1)) w' (acc HW.out h)
      generalize (es[i]).1 = x at *
      generalize (us[i]).1 = y at *
      obtain ⟨wb, rfl⟩ : ∃ wb : World, wb = wr := ⟨_, rfl⟩
      have HSS : Hid (∀ w', Below wb.heap.size wb w' → Below wb.heap.size wb w' ∧ w'.cell? ⟨g, 12, none⟩ = some (.slice (some ⟨q6, 0, none⟩) n d6) ∧ w'.cell? ⟨g, 13, none⟩ = some (.slice (some ⟨q7, 0, none⟩) n d7) ∧ w'.cell? ⟨q6, i, none⟩ = some x ∧ w'.cell? ⟨q7, i, none⟩ = some y) := fun w' h =>
        have k := HC.out _ (acc HW.out h)
        ⟨h, k.1, k.2, ((acc HW.out h).cell (p := ⟨q6, i, none⟩) l6).trans p6, ((acc HW.out h).cell (p := ⟨q7, i, none⟩) l7).trans p7⟩
      clear l6 l7 p6 p7 hsa
      go_upto_region 4 with fail
      clear v6 v7
      refine wp_region_held_drew (S := (fun w' => Below wb.heap.size wb w' ∧ w'.cell? ⟨g, 12, none⟩ = some (.slice (some ⟨q6, 0, none⟩) n d6) ∧ w'.cell? ⟨g, 13, none⟩ = some (.slice (some ⟨q7, 0, none⟩) n d7) ∧ w'.cell? ⟨q6, i, none⟩ = some x ∧ w'.cell? ⟨q7, i, none⟩ = some y)) (by kernel_rfl) ?_ (fun hHeld => ?_)
      · (try dsimp only); exact HSS.out _ (Below.refl _ _).drew
      refine wpAnyH_take (i := 0) (oi := ⟨_, _, _, _, _, _⟩) (v := ?_) rfl (by kernel_rfl) (by kernel_rfl) (by kernel_rfl) (fun _ _ _ h => h) (Or.inl ⟨by rfl, ?_⟩) (by assumption) ?_
      rotate_left
      · (intro wS hSw; (try dsimp only at hSw); go_simp <;> with_reducible rfl)
      try simp only [Act.put, List.setIfInBounds_toArray, List.set_cons_zero, List.set_cons_succ]
      refine wpAnyH_take (i := 1) (oi := ⟨_, _, _, _, _, _⟩) (v := ?_) rfl (by kernel_rfl) (by kernel_rfl) (by kernel_rfl) (fun _ _ _ h => h) (Or.inl ⟨by rfl, ?_⟩) (by assumption) ?_
      rotate_left
      · (intro wS hSw; (try dsimp only at hSw); go_simp <;> with_reducible rfl)
      try simp only [Act.put, List.setIfInBounds_toArray, List.set_cons_zero, List.set_cons_succ]
      refine wpAnyH_take (i := 2) (oi := ⟨_, _, _, _, _, _⟩) (v := ?_) rfl (by kernel_rfl) (by kernel_rfl) (by kernel_rfl) (fun _ _ _ h => h) (Or.inl ⟨by rfl, ?_⟩) (by assumption) ?_
      rotate_left
      · (intro wS hSw; (try dsimp only at hSw); go_simp <;> with_reducible rfl)
      try simp only [Act.put, List.setIfInBounds_toArray, List.set_cons_zero, List.set_cons_succ]
      refine wpAnyH_take (i := 3) (oi := ⟨_, _, _, _, _, _⟩) (v := ?_) rfl (by kernel_rfl) (by kernel_rfl) (by kernel_rfl) (fun _ _ _ h => h) (Or.inl ⟨by rfl, ?_⟩) (by assumption) ?_
      rotate_left
      · (intro wS hSw; (try dsimp only at hSw); go_simp <;> with_reducible rfl)
      try simp only [Act.put, List.setIfInBounds_toArray, List.set_cons_zero, List.set_cons_succ]
      refine wpAnyH_take (i := 4) (oi := ⟨_, _, _, _, _, _⟩) (v := ?_) rfl (by kernel_rfl) (by kernel_rfl) (by kernel_rfl) (fun _ _ _ h => h) (Or.inl ⟨by rfl, ?_⟩) (by assumption) ?_
      rotate_left
      · (intro wS hSw; (try dsimp only at hSw); go_simp <;> with_reducible rfl)
      try simp only [Act.put, List.setIfInBounds_toArray, List.set_cons_zero, List.set_cons_succ]
      refine wpAnyH_take (i := 5) (oi := ⟨_, _, _, _, _, _⟩) (v := ?_) rfl (by kernel_rfl) (by kernel_rfl) (by kernel_rfl) (fun _ _ _ h => h) (Or.inl ⟨by rfl, ?_⟩) (by assumption) ?_
      rotate_left
      · (intro wS hSw; (try dsimp only at hSw); go_simp <;> with_reducible rfl)
      try simp only [Act.put, List.setIfInBounds_toArray, List.set_cons_zero, List.set_cons_succ]
      refine wpAnyH_take (i := 6) (oi := ⟨_, _, _, _, _, _⟩) (v := ?_) rfl (by kernel_rfl) (by kernel_rfl) (by kernel_rfl) (fun _ _ _ h => h) (Or.inl ⟨by rfl, ?_⟩) (by assumption) ?_
      rotate_left
      · (intro wS hSw; (try dsimp only at hSw); go_simp <;> with_reducible rfl)
      try simp only [Act.put, List.setIfInBounds_toArray, List.set_cons_zero, List.set_cons_succ]
      refine wpAnyH_take (i := 7) (oi := ⟨_, _, _, _, _, _⟩) (v := ?_) rfl (by kernel_rfl) (by kernel_rfl) (by kernel_rfl) (fun _ _ _ h => h) (Or.inl ⟨by rfl, ?_⟩) (by assumption) ?_
      rotate_left
      · (intro wS hSw; (try dsimp only at hSw); go_simp <;> with_reducible rfl)
      try simp only [Act.put, List.setIfInBounds_toArray, List.set_cons_zero, List.set_cons_succ]
      refine wpAnyH_take (i := 8) (oi := ⟨_, _, _, _, _, _⟩) (v := ?_) rfl (by kernel_rfl) (by kernel_rfl) (by kernel_rfl) (fun _ _ _ h => h) (Or.inl ⟨by rfl, ?_⟩) (by assumption) ?_
      rotate_left
      · (intro wS hSw; (try dsimp only at hSw); go_simp <;> with_reducible rfl)
      try simp only [Act.put, List.setIfInBounds_toArray, List.set_cons_zero, List.set_cons_succ]
      refine wpAnyH_take (i := 9) (oi := ⟨_, _, _, _, _, _⟩) (v := ?_) rfl (by kernel_rfl) (by kernel_rfl) (by kernel_rfl) (fun _ _ _ h => h) (Or.inl ⟨by rfl, ?_⟩) (by assumption) ?_
      rotate_left
      · (intro wS hSw; (try dsimp only at hSw); go_simp <;> with_reducible rfl)
      try simp only [Act.put, List.setIfInBounds_toArray, List.set_cons_zero, List.set_cons_succ]
      refine wpAnyH_take (i := 10) (oi := ⟨_, _, _, _, _, _⟩) (v := ?_) rfl (by kernel_rfl) (by kernel_rfl) (by kernel_rfl) (fun _ _ _ h => h) (Or.inl ⟨by rfl, ?_⟩) (by assumption) ?_
      rotate_left
      · (intro wS hSw; (try dsimp only at hSw); go_simp <;> with_reducible rfl)
      try simp only [Act.put, List.setIfInBounds_toArray, List.set_cons_zero, List.set_cons_succ]
      refine wpAnyH_take (i := 11) (oi := ⟨_, _, _, _, _, _⟩) (v := ?_) rfl (by kernel_rfl) (by kernel_rfl) (by kernel_rfl) (fun _ _ _ h => h) (Or.inl ⟨by rfl, ?_⟩) (by assumption) ?_
      rotate_left
      · (intro wS hSw; (try dsimp only at hSw); go_simp <;> with_reducible rfl)
      try simp only [Act.put, List.setIfInBounds_toArray, List.set_cons_zero, List.set_cons_succ]
      refine wpAnyH_take (i := 12) (oi := ⟨_, _, _, _, _, _⟩) (v := ?_) rfl (by kernel_rfl) (by kernel_rfl) (by kernel_rfl) (fun _ _ _ h => h) (Or.inl ⟨by rfl, ?_⟩) (by assumption) ?_
      rotate_left
      · (intro wS hSw; (try dsimp only at hSw); go_simp <;> with_reducible rfl)
      try simp only [Act.put, List.setIfInBounds_toArray, List.set_cons_zero, List.set_cons_succ]
      refine wpAnyH_take (i := 13) (oi := ⟨_, _, _, _, _, _⟩) (v := ?_) rfl (by kernel_rfl) (by kernel_rfl) (by kernel_rfl) (fun _ _ _ h => h) (Or.inl ⟨by rfl, ?_⟩) (by assumption) ?_
      rotate_left
      · (intro wS hSw; (try dsimp only at hSw); go_simp <;> with_reducible rfl)
      try simp only [Act.put, List.setIfInBounds_toArray, List.set_cons_zero, List.set_cons_succ]
      refine wpAnyH_ready (rs := [14]) (by kernel_rfl) (by simp) ?_
      refine AllReadyH.cons (o := ⟨_, _, _, _, _, _⟩) rfl (fun K hK => ?_) AllReadyH.nil
      go_simp
      (first | (go_at_call 20; (with_reducible refine (CS.out _ (Below.refl _ _).drew).mono ?_); rintro e w2 ⟨rfl, hb2⟩; have HB2 : Hid (Below wb.heap.size wb w2) := ((Below.refl wb.heap.size wb).drew).trans hb2; clear hb2))
      go_wp2_with fail
      refine hK.out _ _ (by (try dsimp only); exact HSS.out _ HB2.out) (fun hHeld => ?_)
      clear hK K
      try simp only [Act.put, List.setIfInBounds_toArray, List.set_cons_zero, List.set_cons_succ]
      refine wpAnyH_take (i := 15) (oi := ⟨_, _, _, _, _, _⟩) (v := ?_) rfl (by kernel_rfl) (by kernel_rfl) (by kernel_rfl) (fun _ _ _ h => h) (Or.inl ⟨by rfl, ?_⟩) (by assumption) ?_
      rotate_left
      · (intro wS hSw; (try dsimp only at hSw); go_simp <;> with_reducible rfl)
      try simp only [Act.put, List.setIfInBounds_toArray, List.set_cons_zero, List.set_cons_succ]
      refine wpAnyH_done (by kernel_rfl) ?_ _
      go_wp2_with fail
      go_roundg (gk - 1)
      case measure => omega
      case rel => exact ⟨i + 1, by omega, by omega, by go_num, acc HW.out HB2.out⟩
    · obtain rfl : i = n := by omega
      go_wp2
      go_ret
      exact ⟨rfl, HW.out⟩
theorem setCells_drew_own {base e size g n c : Nat} {xs : List Value} : ∀ {vs : List Value} {w : World} {o : Nat}, (w.setCells g o vs).ownsRow base e size (.slice (some ⟨g, 0, none⟩) n c) n xs → (w.drew.setCells g o vs).ownsRow base e size (.slice (some ⟨g, 0, none⟩) n c) n xs
  | [], _, _, h => h
  | v :: r, w, o, h => setCells_drew_own (vs := r) (w := w.setCell ⟨g, o, none⟩ v) h
theorem lk_step_store_mid {P : Program} {ops : Array Oper} {o : Oper} {a : Act} {w : World} {K : Act → World → Prop} {Q : Exit → Act → World → Prop} {E : Prop} (hgd : o.guard = none) (ty : TypeId) (x y : Operand) (ho : o.op = .store ty x y)
    (b off : Nat) (cells : Array Value) (hx : a.eval x = .pointer (some ⟨b, off, none⟩)) (hy : a.eval y = .agg cells)
    (ht : w.there b off cells.size) (hi : (P.info? ty).map (·.size) = some cells.size) (h1 : cells.all (·.oneCell') = true)
    (h : K (a.put o.dst undef) (w.setCells b off cells.toList)) : if Region.wanted o (yielded ops a.tmps) = true then Oper.wp P o a w K Q else E := by
  rw [if_pos (by simp [Region.wanted, hgd])]
  exact wp_store_mid ty x y ho b off cells hx hy ht hi h1 h
set_option maxRecDepth 100000 in
set_option maxHeartbeats 4000000 in
theorem putLetters_any (g : Nat) (va : Value) (es : List (Value × List LR)) (W : World) (hB : BL W g va es) (he : es.length ≤ 250) (hl : ∀ x ∈ es, x.2.length ≤ 100000) :
    Calls Try.prog 44 #[.pointer (some ⟨g, 0, none⟩)] W fun e w' => e = .returned (.tuple #[]) ∧ BL w' g va (markTo es.length es) ∧ Touch (fps es) W w' := by
  obtain ⟨A6, d6, rfl⟩ := own_slice hB.own6
  have HB := Lib.hid hB
  have HL := Lib.hid hl
  obtain ⟨n, hn⟩ : ∃ n, es.length = n := ⟨_, rfl⟩
  have HN := Lib.hid hn
  rw [hn] at he
  clear hB hn hl
  go_enter Try.func44, Try.ntmps44
  go_wp2
  go_loopg [2] (n + 1) (fun gh s2 wx => ∃ (i : Nat), i + gh = n + 1 ∧ i ≤ n ∧ s2 = .int .i64 i ∧ Hid (BL wx g (.slice A6 es.length d6) (markTo i es)) ∧ Hid (Touch (fps es) W wx))
  case atStart => exact ⟨0, by omega, by omega, rfl, by rw [markTo_zero]; exact HB, Touch.refl _ _⟩
  case round =>
    obtain ⟨i, hig, hi, rfl, HBi, HT⟩ := hrel
    have c6 := HBi.out.c6
    rw [HN.out] at c6
    by_cases hlt : i < n
    · have h1 : i < es.length := by rw [HN.out]; exact hlt
      have h2 : i < (markTo i es).length := by rw [markTo_length]; exact h1
      have hx : (markTo i es)[i] = es[i] := by rw [markTo_at _ _ _ h2 h1, if_neg (by omega)]
      have hrow := HBi.out.rows _ (List.getElem_mem h2)
      have o6 := HBi.out.own6
      obtain ⟨q6, rfl⟩ := own_block HB.out.own6 (by omega)
      have p6 : wr.cell? ⟨q6, i, none⟩ = some (es[i]).1 := by
        rw [markTo_length] at o6
        exact (o6.cellAt i (by omega)).trans ((fst_at (markTo i es) i h2).trans (by rw [hx]))
      have hlen := HL.out _ (List.getElem_mem h1)
      rw [hx] at hrow
      obtain ⟨A, c, e1, r1⟩ := hrow
      have HE := Lib.hid e1
      rw [e1] at p6 r1
      have HR := Lib.hid r1
      obtain ⟨m, hm⟩ : ∃ m, (es[i]).2.length = m := ⟨_, rfl⟩
      have HM := Lib.hid hm
      rw [hm] at p6 hlen
      have CM : Hid (∀ W1, Calls Try.prog 77 #[.int .i64 (i : Nat), .int .i64 0, .int .i64 (m : Nat)] W1 (NewMarks W1 i m)) := fun W1 => (markLs_any i 0 m W1 (by omega) (by omega) (by omega)).mono fun _ _ h => NewLs.marks h
      clear o6 hx e1 r1 hm
      go_wp2_with (go_at_call 77; (with_reducible refine (CM.out _).mono ?_); rintro e w1 ⟨Am, cm, rfl, hown1, hb1⟩; have HB1 := Lib.hid hb1; have HO1 := Lib.hid hown1; clear hb1 hown1)
      obtain ⟨gz, rfl⟩ : ∃ gz : Nat, gz = gk := ⟨_, rfl⟩
      obtain ⟨wo, rfl⟩ : ∃ wo : World, wo = wr := ⟨_, rfl⟩
      have hgi : g ∉ blk (.slice A m c) := by
        have h := fun hq => HBi.out.ge (fps_at h2 hq)
        rw [markTo_at _ _ _ h2 h1, if_neg (by omega), HE.out, HM.out] at h
        exact h
      have h6i : q6 ∉ blk (.slice A m c) := by
        have h := fun hq => HBi.out.ae q6 (by simp [blk, Value.ownBlock]) (fps_at h2 hq)
        rw [markTo_at _ _ _ h2 h1, if_neg (by omega), HE.out, HM.out] at h
        exact h
      have HR' : Hid (wo.ownsRow 0 51 21 (.slice A m c) m (lsC (es[i]).2)) := by
        have h := HR.out
        rw [Row, HM.out] at h
        exact h
      have HP := Lib.hid (And.intro c6 p6)
      have HgW := Lib.hid HBi.out.lt
      have Hq6 : Hid (q6 < wo.heap.size) := row_lt HBi.out.own6 (by simp [blk, Value.ownBlock])
      clear c6 p6
      go_loopg [4] (m + 1) (fun gh s4 wx => ∃ (k : Nat), k + gh = m + 1 ∧ k ≤ m ∧ s4 = .int .i64 k ∧ Hid (wx.ownsRow 0 51 21 (.slice A m c) m (lsC (mixL (markL i 0 m) (es[i]).2 k))) ∧ Hid (Touch (blk (.slice A m c)) w1 wx))
      case atStart => exact ⟨0, by omega, by omega, rfl, by rw [mixL_zero]; exact (Touch.ofBelow (F := []) HB1.out).row HR'.out (by simp), Touch.refl _ _⟩
      case round =>
        obtain ⟨k, hkg, hk, rfl, HX, HTk⟩ := hrel
        have HTo : Hid (Touch (blk (.slice A m c)) wo wr) := (Touch.ofBelow HB1.out).trans HTk.out (fun x hx => .inl hx)
        by_cases hkm : k < m
        · obtain ⟨qi, rfl⟩ := own_at HX.out (by omega)
          obtain ⟨qm, rfl⟩ := own_at HO1.out (by omega)
          have c6 := (HTo.out.cell (p := ⟨g, 12, none⟩) HgW.out hgi).trans HP.out.1
          have p6 := (HTo.out.cell (p := ⟨q6, i, none⟩) Hq6.out h6i).trans HP.out.2
          have hqm : ∀ q, Value.ownBlock (.slice (some ⟨qm, 0, none⟩) m cm) = some q → q ∉ blk (.slice (some ⟨qi, 0, none⟩) m c) := fun q hq hb => by
            have z1 := (HO1.out.lt q hq).1
            have z2 := row_lt HR'.out hb
            omega
          have om := HTk.out.row HO1.out hqm
          have hml : k < (markL i 0 m).length := by rw [markL_length]; exact hkm
          have hmx : (mixL (markL i 0 m) (es[i]).2 k).length = m := by rw [mixL_length _ _ (by rw [markL_length, HM.out]) k (by rw [HM.out]; exact hk), HM.out]
          have hkx : k < (mixL (markL i 0 m) (es[i]).2 k).length := by rw [hmx]; exact hkm
          have hset := mixL_set (markL i 0 m) (es[i]).2 (by rw [markL_length, HM.out]) k (by rw [HM.out]; exact hkm)
          have hsl := LR.one (mark_sl _ (List.getElem_mem hml))
          have hrg := row_range om (List.getElem?_eq_getElem hml)
          have hth : wr.there qi (k * 21) 21 := row_there HX.out (by have h1 := HX.out.1; rw [h1]; omega)
          have hnw := own_setCells ((markL i 0 m)[k]).cells.toList wr (k * 21) _ HX.out (by have h1 := HX.out.1; rw [h1]; show k * 21 + 21 ≤ _; omega)
          rw [lsC_set _ k _ hkx, hset] at hnw
          have htn := touch_setCells (F := blk (.slice (some ⟨qi, 0, none⟩) m c)) (g := qi) (by simp [blk, Value.ownBlock]) ((markL i 0 m)[k]).cells.toList _ _ (k * 21) HTk.out
          have hLC : (Try.prog.info? 51).map (·.size) = some ((markL i 0 m)[k]).cells.size := by kernel_rfl
          have hLI : (Try.prog.info? 51).map (·.size) = some ((markL i 0 m)[k]).cells.toList.length := by kernel_rfl
          have hcz : ((markL i 0 m)[k]).cells.size = 21 := rfl
          obtain ⟨cr, hcr⟩ : ∃ cr, ((markL i 0 m)[k]).cells = cr := ⟨_, rfl⟩
          rw [hcr] at hsl hrg hnw htn hLC hLI hcz
          have HTH : Hid (wr.drew.there qi (k * 21) cr.size) := by rw [hcz]; exact hth
          have HCO := Lib.hid hsl
          have HNEW := Lib.hid (show (wr.drew.setCells qi (k * 21) cr.toList).ownsRow 0 51 21 (.slice (some ⟨qi, 0, none⟩) m c) m (lsC (mixL (markL i 0 m) (es[i]).2 (k + 1))) from setCells_drew_own hnw)
          have HTN := Lib.hid (show Touch (blk (.slice (some ⟨qi, 0, none⟩) m c)) w1 (wr.drew.setCells qi (k * 21) cr.toList) from touch_setCells (by simp [blk, Value.ownBlock]) cr.toList _ _ (k * 21) HTk.out.drew)
          have HSP : Hid (wr.drew.cell? ⟨g, 12, none⟩ = some (.slice (some ⟨q6, 0, none⟩) n d6) ∧ wr.drew.cell? ⟨q6, i, none⟩ = some (.slice (some ⟨qi, 0, none⟩) m c) ∧ wr.drew.rangeAt qm (k * 21) cr.toList) := ⟨c6, p6, hrg⟩
          clear hset hqm om hml hmx hkx hcr hsl hrg hnw htn hth
          go_upto_region 7 with fail
          refine wp_region_till (fun w' => w'.cell? ⟨g, 12, none⟩ = some (.slice (some ⟨q6, 0, none⟩) n d6) ∧ w'.cell? ⟨q6, i, none⟩ = some (.slice (some ⟨qi, 0, none⟩) m c) ∧ w'.rangeAt qm (k * 21) cr.toList) 13 (by kernel_rfl) ?_ (fun hHeld => ?_)
          · (try dsimp only); exact HSP.out
          refine wpAnyT_pure (i := 0) (oi := ⟨_, _, _, _, _, _⟩) (v := ?_) rfl (by kernel_rfl) (by kernel_rfl) (by kernel_rfl) (fun _ _ _ h => h) (by kernel_rfl) (Or.inl ⟨by rfl, ?_⟩) (by assumption) ?_
          rotate_left
          · (intro wS hSw; (try dsimp only at hSw); go_simp <;> with_reducible rfl)
          try simp only [Act.put, List.setIfInBounds_toArray, List.set_cons_zero, List.set_cons_succ]
          refine wpAnyT_pure (i := 1) (oi := ⟨_, _, _, _, _, _⟩) (v := ?_) rfl (by kernel_rfl) (by kernel_rfl) (by kernel_rfl) (fun _ _ _ h => h) (by kernel_rfl) (Or.inl ⟨by rfl, ?_⟩) (by assumption) ?_
          rotate_left
          · (intro wS hSw; (try dsimp only at hSw); go_simp <;> with_reducible rfl)
          try simp only [Act.put, List.setIfInBounds_toArray, List.set_cons_zero, List.set_cons_succ]
          refine wpAnyT_pure (i := 2) (oi := ⟨_, _, _, _, _, _⟩) (v := ?_) rfl (by kernel_rfl) (by kernel_rfl) (by kernel_rfl) (fun _ _ _ h => h) (by kernel_rfl) (Or.inl ⟨by rfl, ?_⟩) (by assumption) ?_
          rotate_left
          · (intro wS hSw; (try dsimp only at hSw); go_simp <;> with_reducible rfl)
          try simp only [Act.put, List.setIfInBounds_toArray, List.set_cons_zero, List.set_cons_succ]
          refine wpAnyT_pure (i := 4) (oi := ⟨_, _, _, _, _, _⟩) (v := ?_) rfl (by kernel_rfl) (by kernel_rfl) (by kernel_rfl) (fun _ _ _ h => h) (by kernel_rfl) (Or.inl ⟨by rfl, ?_⟩) (by assumption) ?_
          rotate_left
          · (intro wS hSw; (try dsimp only at hSw); go_simp <;> with_reducible rfl)
          try simp only [Act.put, List.setIfInBounds_toArray, List.set_cons_zero, List.set_cons_succ]
          refine wpAnyT_pure (i := 7) (oi := ⟨_, _, _, _, _, _⟩) (v := ?_) rfl (by kernel_rfl) (by kernel_rfl) (by kernel_rfl) (fun _ _ _ h => h) (by kernel_rfl) (Or.inl ⟨by rfl, ?_⟩) (by assumption) ?_
          rotate_left
          · (intro wS hSw; (try dsimp only at hSw); go_simp <;> with_reducible rfl)
          try simp only [Act.put, List.setIfInBounds_toArray, List.set_cons_zero, List.set_cons_succ]
          refine wpAnyT_pure (i := 8) (oi := ⟨_, _, _, _, _, _⟩) (v := ?_) rfl (by kernel_rfl) (by kernel_rfl) (by kernel_rfl) (fun _ _ _ h => h) (by kernel_rfl) (Or.inl ⟨by rfl, ?_⟩) (by assumption) ?_
          rotate_left
          · (intro wS hSw; (try dsimp only at hSw); go_simp <;> with_reducible rfl)
          try simp only [Act.put, List.setIfInBounds_toArray, List.set_cons_zero, List.set_cons_succ]
          refine wpAnyT_pure (i := 9) (oi := ⟨_, _, _, _, _, _⟩) (v := ?_) rfl (by kernel_rfl) (by kernel_rfl) (by kernel_rfl) (fun _ _ _ h => h) (by kernel_rfl) (Or.inl ⟨by rfl, ?_⟩) (by assumption) ?_
          rotate_left
          · (intro wS hSw; (try dsimp only at hSw); go_simp <;> with_reducible rfl)
          try simp only [Act.put, List.setIfInBounds_toArray, List.set_cons_zero, List.set_cons_succ]
          refine wpAnyT_pure (i := 10) (oi := ⟨_, _, _, _, _, _⟩) (v := ?_) rfl (by kernel_rfl) (by kernel_rfl) (by kernel_rfl) (fun _ _ _ h => h) (by kernel_rfl) (Or.inl ⟨by rfl, ?_⟩) (by assumption) ?_
          rotate_left
          · (intro wS hSw; (try dsimp only at hSw); go_simp <;> with_reducible rfl)
          try simp only [Act.put, List.setIfInBounds_toArray, List.set_cons_zero, List.set_cons_succ]
          refine wpAnyT_take (i := 3) (oi := ⟨_, _, _, _, _, _⟩) (v := ?_) rfl (by kernel_rfl) (by kernel_rfl) (by kernel_rfl) (fun _ _ _ h => h) (by kernel_rfl) (Or.inl ⟨by rfl, ?_⟩) (by assumption) ?_
          rotate_left
          · (intro wS hSw; (try dsimp only at hSw); go_simp <;> with_reducible rfl)
          try simp only [Act.put, List.setIfInBounds_toArray, List.set_cons_zero, List.set_cons_succ]
          refine wpAnyT_pure (i := 5) (oi := ⟨_, _, _, _, _, _⟩) (v := ?_) rfl (by kernel_rfl) (by kernel_rfl) (by kernel_rfl) (fun _ _ _ h => h) (by kernel_rfl) (Or.inl ⟨by rfl, ?_⟩) (by assumption) ?_
          rotate_left
          · (intro wS hSw; (try dsimp only at hSw); go_simp <;> with_reducible rfl)
          try simp only [Act.put, List.setIfInBounds_toArray, List.set_cons_zero, List.set_cons_succ]
          refine wpAnyT_take (i := 6) (oi := ⟨_, _, _, _, _, _⟩) (v := ?_) rfl (by kernel_rfl) (by kernel_rfl) (by kernel_rfl) (fun _ _ _ h => h) (by kernel_rfl) (Or.inl ⟨by rfl, ?_⟩) (by assumption) ?_
          rotate_left
          · (intro wS hSw; (try dsimp only at hSw); go_simp <;> with_reducible rfl)
          try simp only [Act.put, List.setIfInBounds_toArray, List.set_cons_zero, List.set_cons_succ]
          refine wpAnyT_take (i := 11) (oi := ⟨_, _, _, _, _, _⟩) (v := .agg cr.toList.toArray) rfl (by kernel_rfl) (by kernel_rfl) (by kernel_rfl) (fun _ _ _ h => h) (by kernel_rfl) (yieldsIf_load_mid (by rfl) 51 (.tmp 40) rfl qm (k * 21) rfl cr.toList _ (fun _ h => h.2.2) Try.underlying51 rfl hLI) (by assumption) ?_
          try simp only [Act.put, List.setIfInBounds_toArray, List.set_cons_zero, List.set_cons_succ]
          try simp only [Array.toArray_toList]
          refine wpAnyT_pure (i := 12) (oi := ⟨_, _, _, _, _, _⟩) (v := ?_) rfl (by kernel_rfl) (by kernel_rfl) (by kernel_rfl) (fun _ _ _ h => h) (by kernel_rfl) (Or.inl ⟨by rfl, ?_⟩) (by assumption) ?_
          rotate_left
          · (intro wS hSw; (try dsimp only at hSw); go_simp <;> with_reducible rfl)
          try simp only [Act.put, List.setIfInBounds_toArray, List.set_cons_zero, List.set_cons_succ]
          refine wpAnyT_ready (rs := [13]) (by kernel_rfl) (by simp) ?_
          refine (AllReadyT.past (o := ⟨_, _, _, _, _, _⟩) rfl (by kernel_rfl) (fun K hK => ?_) AllReadyT.nil)
          refine lk_step_store_mid rfl 51 (.tmp 42) (.tmp 41) rfl qi (k * 21) cr rfl (by (try simp only [Array.toArray_toList]); rfl) HTH.out hLC HCO.out ?_
          refine hK.out _ _ ?_
          clear hK K
          try simp only [Act.put]
          refine wpAnyT_done (by kernel_rfl) ?_ _
          go_wp2_with fail
          go_roundg (gk - 1)
          case measure => omega
          case rel => exact ⟨k + 1, by omega, by omega, by go_num, HNEW.out, HTN.out⟩
        · obtain rfl : k = m := by omega
          have hmix : mixL (markL i 0 k) (es[i]).2 k = markL i 0 k := by
            have h := mixL_all (markL i 0 k) (es[i]).2 (by rw [markL_length, HM.out])
            rw [HM.out] at h
            exact h
          have hXf := HX.out
          rw [hmix] at hXf
          have hxi : (markTo i es)[i] = es[i] := by rw [markTo_at _ _ _ h2 h1, if_neg (by omega)]
          have HF := Lib.hid (HBi.out.turn (i := i) h2 (W1 := wr) (by rw [hxi, HE.out, HM.out]; exact HTo.out) (l := markL i 0 k) (by
            rw [hxi, HE.out, HM.out]
            exact ⟨A, c, by rw [markL_length], by rw [Row, markL_length]; exact hXf⟩))
          have HTT : Hid (Touch (fps es) W wr) := HT.out.trans HTo.out (fun x hx => by
            refine .inl (fps_at h1 ?_)
            rw [HE.out, HM.out]
            exact hx)
          have HMS := Lib.hid (markTo_succ i es h1)
          have HX0 := Lib.hid hxi
          clear hmix hXf hxi
          go_wp2
          go_roundg (gz - 1)
          case measure => omega
          case rel =>
            refine ⟨i + 1, by omega, by omega, by go_num, ?_, HTT⟩
            have h9 := HF.out
            rw [HX0.out] at h9
            show BL _ _ _ _
            rw [HMS.out, HM.out]
            exact h9
    · obtain rfl : i = n := by omega
      go_wp2
      go_end0
      exact ⟨rfl, by have h := HBi.out; rw [← HN.out] at h; exact h, HT.out⟩

end Go.Proofs.Ytfemdfidfomchaa.Lb
namespace Go.Proofs.Ytfemdfidfomchaa.Lb
open Go.RowKit Go.Proofs.Ytfemdfidfomchaa

set_option maxRecDepth 100000 in
set_option maxHeartbeats 4000000 in
theorem markedLetters_any (b : Nat) (A : Option Addr) (c : Nat) (es : List (Value × List LR)) (W : World) (ho : W.ownsRow b 59 1 (.slice A es.length c) es.length (es.map (·.1))) (hr : ∀ x ∈ es, rowOk W x) (hM : Marked es) (hl : ∀ x ∈ es, x.2.length ≤ 100000) (he : es.length ≤ 250) :
    Calls Try.prog 63 #[.slice A es.length c] W fun e w' => e = .returned (.bool true) ∧ Below W.heap.size W w' := by
  have HO := Lib.hid ho
  have HR := Lib.hid hr
  have HM := Lib.hid hM
  have HL := Lib.hid hl
  obtain ⟨n, hn⟩ : ∃ n, es.length = n := ⟨_, rfl⟩
  have HN := Lib.hid hn
  rw [hn] at he ⊢
  clear ho hr hM hl hn
  go_enter Try.func63, Try.ntmps63
  go_wp2
  go_loopg [3] (n + 1) (fun gh s3 wx => ∃ (i : Nat), i + gh = n + 1 ∧ i ≤ n ∧ s3 = .int .i64 i ∧ Hid (Below W.heap.size W wx))
  case atStart => exact ⟨0, by omega, by omega, rfl, Below.refl _ _⟩
  case round =>
    obtain ⟨i, hig, hi, rfl, HB⟩ := hrel
    by_cases hlt : i < n
    · have h1 : i < es.length := by rw [HN.out]; exact hlt
      have hrow : rowOk wr es[i] := (HR.out _ (List.getElem_mem h1)).touch (Touch.ofBelow (F := []) HB.out) (by simp)
      obtain ⟨q, rfl⟩ := own_block HO.out (by omega)
      have hqW : q < W.heap.size := (HO.out.lt q rfl).2
      have hmk := HM.out i h1
      have hlen := HL.out _ (List.getElem_mem h1)
      obtain ⟨m, hm⟩ : ∃ m, (es[i]).2.length = m := ⟨_, rfl⟩
      rw [hm] at hmk hlen
      obtain ⟨B, d, e1, r1⟩ := hrow
      rw [hm] at e1
      have hc0 : wr.cell? ⟨q, i, none⟩ = some (.slice B m d) := (HB.out.cell (p := ⟨q, i, none⟩) hqW).trans ((HO.out.cellAt i (by omega)).trans ((fst_at es i h1).trans (by rw [e1])))
      have HR1 : Hid (wr.ownsRow 0 51 21 (.slice B m d) m (lsC (markL i 0 m))) := by rw [Row, e1, hm, hmk] at r1; exact r1
      have CM : Hid (∀ W1, Calls Try.prog 77 #[.int .i64 (i : Nat), .int .i64 0, .int .i64 (m : Nat)] W1 (NewMarksF W1 i 0 m)) := fun W1 => (markLs_any i 0 m W1 (by omega) (by omega) (by omega)).mono fun _ _ h => NewLs.marksF h
      have CS : Hid (∀ (w1 : World) (Am : Option Addr) (cm : Nat), Below wr.drew.heap.size wr.drew w1 → w1.ownsRow wr.drew.heap.size 51 21 (.slice Am m cm) m (lsC (markL i 0 m)) → Calls Try.prog 20 #[.slice B m d, .slice Am m cm] w1 fun e w' => e = .returned (.bool true) ∧ Below w1.heap.size w1 w') := by
        intro w1 Am cm hb1 ho1
        have x1 : w1.ownsRow 0 51 21 (.slice B m d) m (lsC (markL i 0 m)) := (Touch.ofBelow (F := []) hb1).row (show wr.drew.ownsRow 0 51 21 (.slice B m d) m (lsC (markL i 0 m)) from HR1.out) (by simp)
        exact sameLs_any B Am d cm m (markL i 0 m) (markL i 0 m) w1 (LsAt.own x1 (markL_length i 0 m) (mark_at w1)) (LsAt.own ho1 (markL_length i 0 m) (mark_at w1)) rfl (markL_length i 0 m) (by omega)
      clear hmk r1 e1 hm
      obtain ⟨wb, rfl⟩ : ∃ wb : World, wb = wr := ⟨_, rfl⟩
      have hqb : q < wb.heap.size := Nat.lt_of_lt_of_le hqW HB.out.size
      have HSS : Hid (∀ w', Below wb.heap.size wb w' → Below wb.heap.size wb w' ∧ w'.cell? ⟨q, i, none⟩ = some (.slice B m d)) := fun w' h => ⟨h, (h.cell (p := ⟨q, i, none⟩) hqb).trans hc0⟩
      clear hc0 hqW hqb
      go_upto_region 4 with fail
      refine wp_region_held_drew (S := (fun w' => Below wb.heap.size wb w' ∧ w'.cell? ⟨q, i, none⟩ = some (.slice B m d))) (by kernel_rfl) ?_ (fun hHeld => ?_)
      · (try dsimp only); (first | assumption | exact HSS.out _ ((Below.refl _ _).drew) | exact below_step HSS.out (by assumption) (by assumption))
      refine wpAnyH_take (i := 0) (oi := ⟨_, _, _, _, _, _⟩) (v := ?_) rfl (by kernel_rfl) (by kernel_rfl) (by kernel_rfl) (fun _ _ _ h => h) (Or.inl ⟨by rfl, ?_⟩) (by assumption) ?_
      rotate_left
      · (intro wS hSw; (try dsimp only at hSw); go_simp <;> with_reducible rfl)
      try simp only [Act.put, List.setIfInBounds_toArray, List.set_cons_zero, List.set_cons_succ]
      refine wpAnyH_take (i := 1) (oi := ⟨_, _, _, _, _, _⟩) (v := ?_) rfl (by kernel_rfl) (by kernel_rfl) (by kernel_rfl) (fun _ _ _ h => h) (Or.inl ⟨by rfl, ?_⟩) (by assumption) ?_
      rotate_left
      · (intro wS hSw; (try dsimp only at hSw); go_simp <;> with_reducible rfl)
      try simp only [Act.put, List.setIfInBounds_toArray, List.set_cons_zero, List.set_cons_succ]
      refine wpAnyH_take (i := 2) (oi := ⟨_, _, _, _, _, _⟩) (v := ?_) rfl (by kernel_rfl) (by kernel_rfl) (by kernel_rfl) (fun _ _ _ h => h) (Or.inl ⟨by rfl, ?_⟩) (by assumption) ?_
      rotate_left
      · (intro wS hSw; (try dsimp only at hSw); go_simp <;> with_reducible rfl)
      try simp only [Act.put, List.setIfInBounds_toArray, List.set_cons_zero, List.set_cons_succ]
      refine wpAnyH_take (i := 3) (oi := ⟨_, _, _, _, _, _⟩) (v := ?_) rfl (by kernel_rfl) (by kernel_rfl) (by kernel_rfl) (fun _ _ _ h => h) (Or.inl ⟨by rfl, ?_⟩) (by assumption) ?_
      rotate_left
      · (intro wS hSw; (try dsimp only at hSw); go_simp <;> with_reducible rfl)
      try simp only [Act.put, List.setIfInBounds_toArray, List.set_cons_zero, List.set_cons_succ]
      refine wpAnyH_take (i := 4) (oi := ⟨_, _, _, _, _, _⟩) (v := ?_) rfl (by kernel_rfl) (by kernel_rfl) (by kernel_rfl) (fun _ _ _ h => h) (Or.inl ⟨by rfl, ?_⟩) (by assumption) ?_
      rotate_left
      · (intro wS hSw; (try dsimp only at hSw); go_simp <;> with_reducible rfl)
      try simp only [Act.put, List.setIfInBounds_toArray, List.set_cons_zero, List.set_cons_succ]
      refine wpAnyH_take (i := 5) (oi := ⟨_, _, _, _, _, _⟩) (v := ?_) rfl (by kernel_rfl) (by kernel_rfl) (by kernel_rfl) (fun _ _ _ h => h) (Or.inl ⟨by rfl, ?_⟩) (by assumption) ?_
      rotate_left
      · (intro wS hSw; (try dsimp only at hSw); go_simp <;> with_reducible rfl)
      try simp only [Act.put, List.setIfInBounds_toArray, List.set_cons_zero, List.set_cons_succ]
      refine wpAnyH_take (i := 6) (oi := ⟨_, _, _, _, _, _⟩) (v := ?_) rfl (by kernel_rfl) (by kernel_rfl) (by kernel_rfl) (fun _ _ _ h => h) (Or.inl ⟨by rfl, ?_⟩) (by assumption) ?_
      rotate_left
      · (intro wS hSw; (try dsimp only at hSw); go_simp <;> with_reducible rfl)
      try simp only [Act.put, List.setIfInBounds_toArray, List.set_cons_zero, List.set_cons_succ]
      refine wpAnyH_take (i := 7) (oi := ⟨_, _, _, _, _, _⟩) (v := ?_) rfl (by kernel_rfl) (by kernel_rfl) (by kernel_rfl) (fun _ _ _ h => h) (Or.inl ⟨by rfl, ?_⟩) (by assumption) ?_
      rotate_left
      · (intro wS hSw; (try dsimp only at hSw); go_simp <;> with_reducible rfl)
      try simp only [Act.put, List.setIfInBounds_toArray, List.set_cons_zero, List.set_cons_succ]
      refine wpAnyH_take (i := 8) (oi := ⟨_, _, _, _, _, _⟩) (v := ?_) rfl (by kernel_rfl) (by kernel_rfl) (by kernel_rfl) (fun _ _ _ h => h) (Or.inl ⟨by rfl, ?_⟩) (by assumption) ?_
      rotate_left
      · (intro wS hSw; (try dsimp only at hSw); go_simp <;> with_reducible rfl)
      try simp only [Act.put, List.setIfInBounds_toArray, List.set_cons_zero, List.set_cons_succ]
      refine wpAnyH_take (i := 9) (oi := ⟨_, _, _, _, _, _⟩) (v := ?_) rfl (by kernel_rfl) (by kernel_rfl) (by kernel_rfl) (fun _ _ _ h => h) (Or.inl ⟨by rfl, ?_⟩) (by assumption) ?_
      rotate_left
      · (intro wS hSw; (try dsimp only at hSw); go_simp <;> with_reducible rfl)
      try simp only [Act.put, List.setIfInBounds_toArray, List.set_cons_zero, List.set_cons_succ]
      refine wpAnyH_ready (rs := [10]) (by kernel_rfl) (by simp) ?_
      refine AllReadyH.cons (o := ⟨_, _, _, _, _, _⟩) rfl (fun K hK => ?_) AllReadyH.nil
      go_simp
      (first | (go_at_call 77; (with_reducible refine (CM.out _).mono ?_); rintro e w1 ⟨Am, cm, rfl, hown1, hb1⟩; have HO1 := Lib.hid hown1; have HB1 := Lib.hid hb1) | (go_at_call 20; (with_reducible refine (CS.out _ _ _ HB1.out HO1.out).mono ?_); rintro e w2 ⟨rfl, hb2⟩))
      go_wp2_with fail
      refine hK.out _ _ (by (try dsimp only); (first | assumption | exact HSS.out _ ((Below.refl _ _).drew) | exact below_step HSS.out (by assumption) (by assumption))) (fun hHeld => ?_)
      clear hK K
      try simp only [Act.put, List.setIfInBounds_toArray, List.set_cons_zero, List.set_cons_succ]
      refine wpAnyH_ready (rs := [11]) (by kernel_rfl) (by simp) ?_
      refine AllReadyH.cons (o := ⟨_, _, _, _, _, _⟩) rfl (fun K hK => ?_) AllReadyH.nil
      go_simp
      (first | (go_at_call 77; (with_reducible refine (CM.out _).mono ?_); rintro e w1 ⟨Am, cm, rfl, hown1, hb1⟩; have HO1 := Lib.hid hown1; have HB1 := Lib.hid hb1) | (go_at_call 20; (with_reducible refine (CS.out _ _ _ HB1.out HO1.out).mono ?_); rintro e w2 ⟨rfl, hb2⟩))
      go_wp2_with fail
      refine hK.out _ _ (by (try dsimp only); (first | assumption | exact HSS.out _ ((Below.refl _ _).drew) | exact below_step HSS.out (by assumption) (by assumption))) (fun hHeld => ?_)
      clear hK K
      try simp only [Act.put, List.setIfInBounds_toArray, List.set_cons_zero, List.set_cons_succ]
      refine wpAnyH_take (i := 12) (oi := ⟨_, _, _, _, _, _⟩) (v := ?_) rfl (by kernel_rfl) (by kernel_rfl) (by kernel_rfl) (fun _ _ _ h => h) (Or.inl ⟨by rfl, ?_⟩) (by assumption) ?_
      rotate_left
      · (intro wS hSw; (try dsimp only at hSw); go_simp <;> with_reducible rfl)
      try simp only [Act.put, List.setIfInBounds_toArray, List.set_cons_zero, List.set_cons_succ]
      refine wpAnyH_done (by kernel_rfl) ?_ _
      go_wp2
      go_roundg (gk - 1)
      case measure => omega
      case rel => exact ⟨i + 1, by omega, by omega, by go_num, acc HB.out hHeld.1⟩
    · obtain rfl : i = n := by omega
      go_wp2
      go_ret
      exact ⟨rfl, HB.out⟩

end Go.Proofs.Ytfemdfidfomchaa.Lb
namespace Go.Proofs.Ytfemdfidfomchaa.Lb
open Go.RowKit Go.Proofs.Ytfemdfidfomchaa

set_option maxRecDepth 100000 in
set_option maxHeartbeats 8000000 in
theorem growLetters_any (g : Nat) (va : Value) (es : List (Value × List LR)) (W : World) (hB : BL W g va es) (he : es.length ≤ 250) (hl : ∀ x ∈ es, x.2.length ≤ 90000) (hM : Marked es) :
    Calls Try.prog 56 #[.pointer (some ⟨g, 0, none⟩)] W (GrowPost W g va es) := by
  obtain ⟨A6, d6, rfl⟩ := own_slice hB.own6
  obtain ⟨i0, z0, hi0, hz, hsL, hbL, hzc⟩ := infoL_
  obtain ⟨i1, z1, hi1, hz1, hs1, hb24, hzc1⟩ := infoRow
  have HB := Lib.hid hB
  have HL := Lib.hid hl
  have HM := Lib.hid hM
  obtain ⟨n, hn⟩ : ∃ n, es.length = n := ⟨_, rfl⟩
  have HN := Lib.hid hn
  rw [hn] at he
  clear hB hn hl hM
  go_enter Try.func56, Try.ntmps56
  go_wp2
  go_loopg [3, 4] (n + 1) (fun gh s3 s4 wx => ∃ (i : Nat) (A : Option Addr) (c : Nat) (ys : List (Value × List LR)), i + gh = n + 1 ∧ i ≤ n ∧ s3 = .slice A i c ∧ s4 = .int .i64 i ∧ Hid (GrowRel W wx g (.slice A6 es.length d6) es i (.slice A i c) ys))
  case atStart => exact ⟨0, none, 0, [], by omega, by omega, rfl, rfl, ⟨rfl, World.ownsRow_nil _ _ _ _, (fun x hx => by cases hx), (fun j h => by cases h), (fun x hx => by cases hx), (fun q hq => by cases hq), HB.out, Touch.refl _ _⟩⟩
  case round =>
    obtain ⟨i, A, c, ys, hig, hi, rfl, rfl, HGR⟩ := hrel
    have HBi : Hid (BL wr g (.slice A6 es.length d6) es) := HGR.out.2.2.2.2.2.2.1
    have HO : Hid (wr.ownsRow W.heap.size 59 1 (.slice A i c) i (ys.map (·.1))) := HGR.out.2.1
    have c6 := HBi.out.c6
    rw [HN.out] at c6
    by_cases hlt : i < n
    · have h1 : i < es.length := by rw [HN.out]; exact hlt
      have hrow := HBi.out.rows _ (List.getElem_mem h1)
      obtain ⟨q6, rfl⟩ := own_block HB.out.own6 (by omega)
      have p6 : wr.cell? ⟨q6, i, none⟩ = some (es[i]).1 := (HBi.out.own6.cellAt i (by omega)).trans (fst_at es i h1)
      have hlen := HL.out _ (List.getElem_mem h1)
      have hmk := HM.out i h1
      obtain ⟨B, d, e1, r1⟩ := hrow
      have HE := Lib.hid e1
      rw [e1] at p6
      obtain ⟨m, hm⟩ : ∃ m, (es[i]).2.length = m := ⟨_, rfl⟩
      have HMm := Lib.hid hm
      rw [hm] at p6 hlen hmk
      have HMK := Lib.hid hmk
      have HR0 : Hid (wr.ownsRow 0 51 21 (.slice B m d) m (lsC (markL i 0 m))) := by
        rw [Row, e1, hm, hmk] at r1
        exact r1
      clear r1 e1 hm hmk
      obtain ⟨gz, rfl⟩ : ∃ gz : Nat, gz = gk := ⟨_, rfl⟩
      obtain ⟨wo, rfl⟩ : ∃ wo : World, wo = wr := ⟨_, rfl⟩
      go_wp2
      clear p6 c6
      go_loopg [5, 6] 13 (fun gh s5 s6 wx => ∃ (t N : Nat) (Al : Option Addr) (cl : Nat), t + gh = 13 ∧ t ≤ 12 ∧ m + t ≤ N ∧ N ≤ m + t ∧ s5 = .slice Al N cl ∧ s6 = .int .i64 t ∧ Hid (GR wo wx i (.slice B m d) m (.slice Al N cl) N))
      case atStart => exact ⟨0, m, B, d, by omega, by omega, by omega, by omega, rfl, rfl, GR.start HR0.out⟩
      case round =>
        obtain ⟨t, N, Al, cl, htg, ht, hN1, hN2, rfl, rfl, HG⟩ := hrel
        by_cases h12 : t < 12
        · have hd : decide ((t : Int) < 12) = true := by simp; omega
          have CM : Hid (∀ W1, Calls Try.prog 77 #[.int .i64 (i : Nat), .int .i64 (N : Nat), .int .i64 1] W1 (NewMarksF W1 i N 1)) := fun W1 => (markLs_any i N 1 W1 (by omega) (by omega) (by omega)).mono fun _ _ h => NewLs.marksF h
          go_wp2_with (first
            | (go_at_call 77; ((with_reducible refine (CM.out _).mono ?_); rintro e w1 ⟨Am, cm, rfl, hown1, hb1⟩; obtain ⟨qm, rfl⟩ := own_at hown1 (by omega); have HG1 := Lib.hid (HG.out.below hb1); have HO1 := Lib.hid hown1; clear hb1 hown1))
            | (at_builtin; go_must (refine wpList_append_old rfl (.tmp 27) (.tmp 31) 59 rfl 0 51 i0 z0 21 240 Try.underlying59 hi0 hz hsL hbL hzc (by decide) (.slice Al N cl) N (lsC (markL i 0 N)) rfl HG1.out.row ⟨qm, 0, none⟩ 1 cm (lsC (markL i N 1)) rfl (by rw [lsC_length, markL_length]) (HO1.out.cells (g := qm) rfl) mark_one (by unfold maxLen; omega) (by omega) (Nat.zero_le _) ?_); intro x2 w2 ho2 hg2 hnil2 hold2 hsn2; obtain ⟨A2, c2, rfl⟩ := own_slice ho2; have HG2 := Lib.hid (HG1.out.grown ho2 hg2 hold2 hsn2); clear ho2 hg2 hnil2 hold2 hsn2))
          go_roundg (gk - 1)
          case measure => omega
          case rel => exact ⟨t + 1, N + 1, A2, c2, by omega, by omega, by omega, by omega, rfl, by go_num, HG2⟩
        · obtain rfl : t = 12 := by omega
          have hd : decide (((12 : Nat) : Int) < 12) = false := by decide
          have CM : Hid (∀ W1, Calls Try.prog 77 #[.int .i64 (i : Nat), .int .i64 (N : Nat), .int .i64 60] W1 (NewMarksF W1 i N 60)) := fun W1 => (markLs_any i N 60 W1 (by omega) (by omega) (by omega)).mono fun _ _ h => NewLs.marksF h
          have HlW := Lib.hid (fun q hq => HB.out.ltF q (List.mem_cons_of_mem _ (List.mem_append_right _ hq)))
          have HOt : Hid (∀ w1, Touch (blk (.slice B m d)) wo w1 → w1.ownsRow W.heap.size 59 1 (.slice A i c) i (ys.map (·.1))) := fun w1 h => h.row HO.out (fun q hq hb => by
            have z1 := (HO.out.lt q hq).1
            have z2 := HlW.out q (fps_at h1 (by rw [HE.out, HMm.out]; exact hb))
            omega)
          have HzW := Lib.hid HGR.out.2.2.2.2.2.2.2.size
          go_wp2_with (first
            | (go_at_call 77; ((with_reducible refine (CM.out _).mono ?_); rintro e w1 ⟨Am, cm, rfl, hown1, hb1⟩; obtain ⟨qm, rfl⟩ := own_at hown1 (by omega); have HG1 := Lib.hid (HG.out.below hb1); have HO1 := Lib.hid hown1; clear hb1 hown1))
            | (at_builtin; (refine wpList_append_old rfl (.tmp 34) (.tmp 38) 59 rfl 0 51 i0 z0 21 240 Try.underlying59 hi0 hz hsL hbL hzc (by decide) (.slice Al N cl) N (lsC (markL i 0 N)) rfl HG1.out.row ⟨qm, 0, none⟩ 60 cm (lsC (markL i N 60)) rfl (by rw [lsC_length, markL_length]) (HO1.out.cells (g := qm) rfl) mark_one (by unfold maxLen; omega) (by omega) (Nat.zero_le _) ?_); intro x2 w2 ho2 hg2 hnil2 hold2 hsn2; obtain ⟨A2, c2, rfl⟩ := own_slice ho2; have HG2 := Lib.hid (HG1.out.grown ho2 hg2 hold2 hsn2); have HO2 := Lib.hid (HOt.out _ HG2.out.touch); have HZ2 := Lib.hid HG2.out.touch.size; clear ho2 hg2 hnil2 hold2 hsn2)
            | (at_builtin; (refine wpList_append_old rfl (.tmp 33) (.tmp 40) 38 rfl W.heap.size 59 i1 z1 1 24 Try.underlying38 hi1 hz1 hs1 hb24 hzc1 (by decide) (.slice A i c) i (ys.map (·.1)) rfl (HO2.out.alloc _) ⟨w2.heap.size, 0, none⟩ 1 1 [.slice A2 (N + 60) c2] rfl rfl (cell_one_new _ _ _) (fun x hx => by simp at hx; subst hx; rfl) (by unfold maxLen; omega) (by omega) (by have a1 := HZ2.out; have a2 := HzW.out; simp <;> omega) ?_); intro x3 w3 ho3 hg3 hnil3 hold3 hsn3; obtain ⟨A3, c3, rfl⟩ := own_slice ho3; have HF3 := Lib.hid (grow_end HlW.out HGR.out HB.out.lt (fun q hq => HB.out.ltF q (List.mem_cons_of_mem _ (List.mem_append_left _ hq))) h1 HMK.out (show N + 60 ≤ 100000 by omega) ⟨B, d, by rw [HE.out, HMm.out]⟩ (by rw [HE.out, HMm.out]; exact HG2.out) ho3 hg3 hsn3); clear ho3 hg3 hnil3 hold3 hsn3))
          go_roundg (gz - 1)
          case measure => omega
          case rel => exact ⟨i + 1, A3, c3, _, by omega, by omega, rfl, by go_num, HF3⟩
    · obtain rfl : i = n := by omega
      go_wp2
      go_ret
      obtain ⟨hY, hO, hR, hMY, hLY, hF, hB9, hT9⟩ := HGR.out
      exact ⟨A, c, ys, by rw [hY, HN.out], by rw [HN.out]; rfl, by rw [HN.out]; exact hO, hR, hMY, hLY, hB9, hT9⟩
end Go.Proofs.Ytfemdfidfomchaa.Lb
namespace Go.Proofs.Ytfemdfidfomchaa.Lb
open Go.RowKit Go.Proofs.Ytfemdfidfomchaa

set_option maxHeartbeats 400000 in
theorem stillTexts_nil (g : Nat) (W : World) (h : W.cell? ⟨g, 0, none⟩ = some (.slice none 0 0)) :
    Calls Try.prog 36 #[.pointer (some ⟨g, 0, none⟩)] W fun e w' => e = .returned (.bool true) ∧ W = w' := by
  go_enter Try.func36, Try.ntmps36
  go_wp2
  go_loopg [3] 1 (fun gh s3 wx => s3 = .int .i64 0 ∧ W = wx)
  case atStart => exact ⟨rfl, rfl⟩
  case round =>
    obtain ⟨rfl, rfl⟩ := hrel
    go_wp2
    go_ret
    exact ⟨rfl, rfl⟩

set_option maxHeartbeats 400000 in
theorem putTexts_nil (g : Nat) (W : World) (h : W.cell? ⟨g, 0, none⟩ = some (.slice none 0 0)) :
    Calls Try.prog 45 #[.pointer (some ⟨g, 0, none⟩)] W fun e w' => e = .returned (.tuple #[]) ∧ W = w' := by
  go_enter Try.func45, Try.ntmps45
  go_wp2
  go_loopg [2] 1 (fun gh s2 wx => s2 = .int .i64 0 ∧ W = wx)
  case atStart => exact ⟨rfl, rfl⟩
  case round =>
    obtain ⟨rfl, rfl⟩ := hrel
    go_wp2
    go_end0
    exact ⟨rfl, rfl⟩

set_option maxHeartbeats 400000 in
theorem growTexts_nil (g : Nat) (W : World) (h : W.cell? ⟨g, 0, none⟩ = some (.slice none 0 0)) :
    Calls Try.prog 50 #[.pointer (some ⟨g, 0, none⟩)] W fun e w' => e = .returned (.slice none 0 0) ∧ W = w' := by
  go_enter Try.func50, Try.ntmps50
  go_wp2
  go_loopg [3, 4] 1 (fun gh s3 s4 wx => s3 = .slice none 0 0 ∧ s4 = .int .i64 0 ∧ W = wx)
  case atStart => exact ⟨rfl, rfl, rfl⟩
  case round =>
    obtain ⟨rfl, rfl, rfl⟩ := hrel
    go_wp2
    go_ret
    exact ⟨rfl, rfl⟩

set_option maxHeartbeats 400000 in
theorem markedTexts_nil (W : World) :
    Calls Try.prog 57 #[.slice none 0 0] W fun e w' => e = .returned (.bool true) ∧ W = w' := by
  go_enter Try.func57, Try.ntmps57
  go_wp2
  go_loopg [3] 1 (fun gh s3 wx => s3 = .int .i64 0 ∧ W = wx)
  case atStart => exact ⟨rfl, rfl⟩
  case round =>
    obtain ⟨rfl, rfl⟩ := hrel
    go_wp2
    go_ret
    exact ⟨rfl, rfl⟩

set_option maxHeartbeats 400000 in
theorem stillInts_nil (g : Nat) (W : World) (h : W.cell? ⟨g, 2, none⟩ = some (.slice none 0 0)) :
    Calls Try.prog 37 #[.pointer (some ⟨g, 0, none⟩)] W fun e w' => e = .returned (.bool true) ∧ W = w' := by
  go_enter Try.func37, Try.ntmps37
  go_wp2
  go_loopg [3] 1 (fun gh s3 wx => s3 = .int .i64 0 ∧ W = wx)
  case atStart => exact ⟨rfl, rfl⟩
  case round =>
    obtain ⟨rfl, rfl⟩ := hrel
    go_wp2
    go_ret
    exact ⟨rfl, rfl⟩

set_option maxHeartbeats 400000 in
theorem putInts_nil (g : Nat) (W : World) (h : W.cell? ⟨g, 2, none⟩ = some (.slice none 0 0)) :
    Calls Try.prog 46 #[.pointer (some ⟨g, 0, none⟩)] W fun e w' => e = .returned (.tuple #[]) ∧ W = w' := by
  go_enter Try.func46, Try.ntmps46
  go_wp2
  go_loopg [2] 1 (fun gh s2 wx => s2 = .int .i64 0 ∧ W = wx)
  case atStart => exact ⟨rfl, rfl⟩
  case round =>
    obtain ⟨rfl, rfl⟩ := hrel
    go_wp2
    go_end0
    exact ⟨rfl, rfl⟩

set_option maxHeartbeats 400000 in
theorem growInts_nil (g : Nat) (W : World) (h : W.cell? ⟨g, 2, none⟩ = some (.slice none 0 0)) :
    Calls Try.prog 51 #[.pointer (some ⟨g, 0, none⟩)] W fun e w' => e = .returned (.slice none 0 0) ∧ W = w' := by
  go_enter Try.func51, Try.ntmps51
  go_wp2
  go_loopg [3, 4] 1 (fun gh s3 s4 wx => s3 = .slice none 0 0 ∧ s4 = .int .i64 0 ∧ W = wx)
  case atStart => exact ⟨rfl, rfl, rfl⟩
  case round =>
    obtain ⟨rfl, rfl, rfl⟩ := hrel
    go_wp2
    go_ret
    exact ⟨rfl, rfl⟩

set_option maxHeartbeats 400000 in
theorem markedInts_nil (W : World) :
    Calls Try.prog 58 #[.slice none 0 0] W fun e w' => e = .returned (.bool true) ∧ W = w' := by
  go_enter Try.func58, Try.ntmps58
  go_wp2
  go_loopg [3] 1 (fun gh s3 wx => s3 = .int .i64 0 ∧ W = wx)
  case atStart => exact ⟨rfl, rfl⟩
  case round =>
    obtain ⟨rfl, rfl⟩ := hrel
    go_wp2
    go_ret
    exact ⟨rfl, rfl⟩

set_option maxHeartbeats 400000 in
theorem stillPoints_nil (g : Nat) (W : World) (h : W.cell? ⟨g, 4, none⟩ = some (.slice none 0 0)) :
    Calls Try.prog 38 #[.pointer (some ⟨g, 0, none⟩)] W fun e w' => e = .returned (.bool true) ∧ W = w' := by
  go_enter Try.func38, Try.ntmps38
  go_wp2
  go_loopg [3] 1 (fun gh s3 wx => s3 = .int .i64 0 ∧ W = wx)
  case atStart => exact ⟨rfl, rfl⟩
  case round =>
    obtain ⟨rfl, rfl⟩ := hrel
    go_wp2
    go_ret
    exact ⟨rfl, rfl⟩

set_option maxHeartbeats 400000 in
theorem putPoints_nil (g : Nat) (W : World) (h : W.cell? ⟨g, 4, none⟩ = some (.slice none 0 0)) :
    Calls Try.prog 47 #[.pointer (some ⟨g, 0, none⟩)] W fun e w' => e = .returned (.tuple #[]) ∧ W = w' := by
  go_enter Try.func47, Try.ntmps47
  go_wp2
  go_loopg [2] 1 (fun gh s2 wx => s2 = .int .i64 0 ∧ W = wx)
  case atStart => exact ⟨rfl, rfl⟩
  case round =>
    obtain ⟨rfl, rfl⟩ := hrel
    go_wp2
    go_end0
    exact ⟨rfl, rfl⟩

set_option maxHeartbeats 400000 in
theorem growPoints_nil (g : Nat) (W : World) (h : W.cell? ⟨g, 4, none⟩ = some (.slice none 0 0)) :
    Calls Try.prog 52 #[.pointer (some ⟨g, 0, none⟩)] W fun e w' => e = .returned (.slice none 0 0) ∧ W = w' := by
  go_enter Try.func52, Try.ntmps52
  go_wp2
  go_loopg [3, 4] 1 (fun gh s3 s4 wx => s3 = .slice none 0 0 ∧ s4 = .int .i64 0 ∧ W = wx)
  case atStart => exact ⟨rfl, rfl, rfl⟩
  case round =>
    obtain ⟨rfl, rfl, rfl⟩ := hrel
    go_wp2
    go_ret
    exact ⟨rfl, rfl⟩

set_option maxHeartbeats 400000 in
theorem markedPoints_nil (W : World) :
    Calls Try.prog 59 #[.slice none 0 0] W fun e w' => e = .returned (.bool true) ∧ W = w' := by
  go_enter Try.func59, Try.ntmps59
  go_wp2
  go_loopg [3] 1 (fun gh s3 wx => s3 = .int .i64 0 ∧ W = wx)
  case atStart => exact ⟨rfl, rfl⟩
  case round =>
    obtain ⟨rfl, rfl⟩ := hrel
    go_wp2
    go_ret
    exact ⟨rfl, rfl⟩

set_option maxHeartbeats 400000 in
theorem stillItems_nil (g : Nat) (W : World) (h : W.cell? ⟨g, 6, none⟩ = some (.slice none 0 0)) :
    Calls Try.prog 39 #[.pointer (some ⟨g, 0, none⟩)] W fun e w' => e = .returned (.bool true) ∧ W = w' := by
  go_enter Try.func39, Try.ntmps39
  go_wp2
  go_loopg [3] 1 (fun gh s3 wx => s3 = .int .i64 0 ∧ W = wx)
  case atStart => exact ⟨rfl, rfl⟩
  case round =>
    obtain ⟨rfl, rfl⟩ := hrel
    go_wp2
    go_ret
    exact ⟨rfl, rfl⟩

set_option maxHeartbeats 400000 in
theorem putItems_nil (g : Nat) (W : World) (h : W.cell? ⟨g, 6, none⟩ = some (.slice none 0 0)) :
    Calls Try.prog 48 #[.pointer (some ⟨g, 0, none⟩)] W fun e w' => e = .returned (.tuple #[]) ∧ W = w' := by
  go_enter Try.func48, Try.ntmps48
  go_wp2
  go_loopg [2] 1 (fun gh s2 wx => s2 = .int .i64 0 ∧ W = wx)
  case atStart => exact ⟨rfl, rfl⟩
  case round =>
    obtain ⟨rfl, rfl⟩ := hrel
    go_wp2
    go_end0
    exact ⟨rfl, rfl⟩

set_option maxHeartbeats 400000 in
theorem growItems_nil (g : Nat) (W : World) (h : W.cell? ⟨g, 6, none⟩ = some (.slice none 0 0)) :
    Calls Try.prog 53 #[.pointer (some ⟨g, 0, none⟩)] W fun e w' => e = .returned (.slice none 0 0) ∧ W = w' := by
  go_enter Try.func53, Try.ntmps53
  go_wp2
  go_loopg [3, 4] 1 (fun gh s3 s4 wx => s3 = .slice none 0 0 ∧ s4 = .int .i64 0 ∧ W = wx)
  case atStart => exact ⟨rfl, rfl, rfl⟩
  case round =>
    obtain ⟨rfl, rfl, rfl⟩ := hrel
    go_wp2
    go_ret
    exact ⟨rfl, rfl⟩

set_option maxHeartbeats 400000 in
theorem markedItems_nil (W : World) :
    Calls Try.prog 60 #[.slice none 0 0] W fun e w' => e = .returned (.bool true) ∧ W = w' := by
  go_enter Try.func60, Try.ntmps60
  go_wp2
  go_loopg [3] 1 (fun gh s3 wx => s3 = .int .i64 0 ∧ W = wx)
  case atStart => exact ⟨rfl, rfl⟩
  case round =>
    obtain ⟨rfl, rfl⟩ := hrel
    go_wp2
    go_ret
    exact ⟨rfl, rfl⟩

set_option maxHeartbeats 400000 in
theorem stillOwneds_nil (g : Nat) (W : World) (h : W.cell? ⟨g, 8, none⟩ = some (.slice none 0 0)) :
    Calls Try.prog 40 #[.pointer (some ⟨g, 0, none⟩)] W fun e w' => e = .returned (.bool true) ∧ W = w' := by
  go_enter Try.func40, Try.ntmps40
  go_wp2
  go_loopg [3] 1 (fun gh s3 wx => s3 = .int .i64 0 ∧ W = wx)
  case atStart => exact ⟨rfl, rfl⟩
  case round =>
    obtain ⟨rfl, rfl⟩ := hrel
    go_wp2
    go_ret
    exact ⟨rfl, rfl⟩

set_option maxHeartbeats 400000 in
theorem putOwneds_nil (g : Nat) (W : World) (h : W.cell? ⟨g, 8, none⟩ = some (.slice none 0 0)) :
    Calls Try.prog 49 #[.pointer (some ⟨g, 0, none⟩)] W fun e w' => e = .returned (.tuple #[]) ∧ W = w' := by
  go_enter Try.func49, Try.ntmps49
  go_wp2
  go_loopg [2] 1 (fun gh s2 wx => s2 = .int .i64 0 ∧ W = wx)
  case atStart => exact ⟨rfl, rfl⟩
  case round =>
    obtain ⟨rfl, rfl⟩ := hrel
    go_wp2
    go_end0
    exact ⟨rfl, rfl⟩

set_option maxHeartbeats 400000 in
theorem growOwneds_nil (g : Nat) (W : World) (h : W.cell? ⟨g, 8, none⟩ = some (.slice none 0 0)) :
    Calls Try.prog 54 #[.pointer (some ⟨g, 0, none⟩)] W fun e w' => e = .returned (.slice none 0 0) ∧ W = w' := by
  go_enter Try.func54, Try.ntmps54
  go_wp2
  go_loopg [3, 4] 1 (fun gh s3 s4 wx => s3 = .slice none 0 0 ∧ s4 = .int .i64 0 ∧ W = wx)
  case atStart => exact ⟨rfl, rfl, rfl⟩
  case round =>
    obtain ⟨rfl, rfl, rfl⟩ := hrel
    go_wp2
    go_ret
    exact ⟨rfl, rfl⟩

set_option maxHeartbeats 400000 in
theorem markedOwneds_nil (W : World) :
    Calls Try.prog 61 #[.slice none 0 0] W fun e w' => e = .returned (.bool true) ∧ W = w' := by
  go_enter Try.func61, Try.ntmps61
  go_wp2
  go_loopg [3] 1 (fun gh s3 wx => s3 = .int .i64 0 ∧ W = wx)
  case atStart => exact ⟨rfl, rfl⟩
  case round =>
    obtain ⟨rfl, rfl⟩ := hrel
    go_wp2
    go_ret
    exact ⟨rfl, rfl⟩

set_option maxHeartbeats 400000 in
theorem stillEvents_nil (g : Nat) (W : World) (h : W.cell? ⟨g, 10, none⟩ = some (.slice none 0 0)) :
    Calls Try.prog 41 #[.pointer (some ⟨g, 0, none⟩)] W fun e w' => e = .returned (.bool true) ∧ W = w' := by
  go_enter Try.func41, Try.ntmps41
  go_wp2
  go_loopg [3] 1 (fun gh s3 wx => s3 = .int .i64 0 ∧ W = wx)
  case atStart => exact ⟨rfl, rfl⟩
  case round =>
    obtain ⟨rfl, rfl⟩ := hrel
    go_wp2
    go_ret
    exact ⟨rfl, rfl⟩

set_option maxHeartbeats 400000 in
theorem putEvents_nil (g : Nat) (W : World) (h : W.cell? ⟨g, 10, none⟩ = some (.slice none 0 0)) :
    Calls Try.prog 43 #[.pointer (some ⟨g, 0, none⟩)] W fun e w' => e = .returned (.tuple #[]) ∧ W = w' := by
  go_enter Try.func43, Try.ntmps43
  go_wp2
  go_loopg [2] 1 (fun gh s2 wx => s2 = .int .i64 0 ∧ W = wx)
  case atStart => exact ⟨rfl, rfl⟩
  case round =>
    obtain ⟨rfl, rfl⟩ := hrel
    go_wp2
    go_end0
    exact ⟨rfl, rfl⟩

set_option maxHeartbeats 400000 in
theorem growEvents_nil (g : Nat) (W : World) (h : W.cell? ⟨g, 10, none⟩ = some (.slice none 0 0)) :
    Calls Try.prog 55 #[.pointer (some ⟨g, 0, none⟩)] W fun e w' => e = .returned (.slice none 0 0) ∧ W = w' := by
  go_enter Try.func55, Try.ntmps55
  go_wp2
  go_loopg [3, 4] 1 (fun gh s3 s4 wx => s3 = .slice none 0 0 ∧ s4 = .int .i64 0 ∧ W = wx)
  case atStart => exact ⟨rfl, rfl, rfl⟩
  case round =>
    obtain ⟨rfl, rfl, rfl⟩ := hrel
    go_wp2
    go_ret
    exact ⟨rfl, rfl⟩

set_option maxHeartbeats 400000 in
theorem markedEvents_nil (W : World) :
    Calls Try.prog 62 #[.slice none 0 0] W fun e w' => e = .returned (.bool true) ∧ W = w' := by
  go_enter Try.func62, Try.ntmps62
  go_wp2
  go_loopg [3] 1 (fun gh s3 wx => s3 = .int .i64 0 ∧ W = wx)
  case atStart => exact ⟨rfl, rfl⟩
  case round =>
    obtain ⟨rfl, rfl⟩ := hrel
    go_wp2
    go_ret
    exact ⟨rfl, rfl⟩

end Go.Proofs.Ytfemdfidfomchaa.Lb
namespace Go.Proofs.Ytfemdfidfomchaa.Lb
open Go.RowKit Go.Proofs.Ytfemdfidfomchaa

def NN (g : Nat) (W : World) : Prop := ∀ j, j < 14 → j ≠ 12 → j ≠ 13 → W.cell? ⟨g, j, .none⟩ = some (.slice .none 0 0)
theorem NN.at_ {g : Nat} {W : World} (h : NN g W) (j : Nat) (a : j < 14) (b : j ≠ 12) (c : j ≠ 13) : W.cell? ⟨g, j, .none⟩ = some (.slice .none 0 0) := h j a b c
theorem NN.touch {g : Nat} {W W1 : World} {G : List Nat} (h : NN g W) (hl : g < W.heap.size) (ht : Touch G W W1) (hg : g ∉ G) : NN g W1 := fun j a b c => (ht.cell (p := ⟨g, j, .none⟩) hl hg).trans (h j a b c)
theorem apart_step {wb W W1 : World} {A : World → Prop} (HSS : ∀ w', Below wb.heap.size wb w' → Below wb.heap.size wb w' ∧ A w') (h : Below wb.heap.size wb W ∧ A W) (k : Below W.heap.size W W1) : Below wb.heap.size wb W1 ∧ A W1 := HSS _ (acc h.1 k)
theorem marked_call {b n : Nat} {A : Option Addr} {c : Nat} {es : List (Value × List LR)} (hn : es.length = n) (W : World) (ho : W.ownsRow b 59 1 (.slice A n c) n (es.map (·.1))) (hr : ∀ x ∈ es, rowOk W x) (hM : Marked es) (hl : ∀ x ∈ es, x.2.length ≤ 100000) (he : n ≤ 250) :
    Calls Try.prog 63 #[.slice A n c] W fun e w' => e = .returned (.bool true) ∧ Below W.heap.size W w' := by
  subst hn
  exact markedLetters_any b A c es W ho hr hM hl he
theorem markTo_marked (es : List (Value × List LR)) : Marked (markTo es.length es) := by
  intro j h
  have h2 : j < es.length := by simpa [markTo] using h
  have e := markTo_at es.length es j h h2
  rw [if_pos h2] at e
  rw [e]
  simp
theorem markTo_lens (es : List (Value × List LR)) (m : Nat) (hl : ∀ x ∈ es, x.2.length ≤ m) : ∀ x ∈ markTo es.length es, x.2.length ≤ m := by
  intro x hx
  obtain ⟨j, h, rfl⟩ := List.mem_iff_getElem.1 hx
  have h2 : j < es.length := by simpa [markTo] using h
  have e := markTo_at es.length es j h h2
  rw [if_pos h2] at e
  rw [e, markL_length]
  exact hl _ (List.getElem_mem h2)

set_option maxRecDepth 100000 in
set_option maxHeartbeats 8000000 in
theorem apart_any (g : Nat) (va vb : Value) (es us : List (Value × List LR)) (P : List Nat) (W : World) (hB : BK W g va vb es us P) (he : es.length ≤ 250) (hl : ∀ x ∈ es, x.2.length ≤ 90000) :
    Calls Try.prog 24 #[.pointer (some ⟨g, 0, none⟩)] W fun e w' => e = .returned (.bool true) ∧ Touch (fps es) W w' := by
  obtain ⟨A6, d6, rfl⟩ := own_slice hB.own6
  have N0 : Hid (NN g W) := hB.none
  have HLt := Lib.hid hB.lt
  have CS := Lib.hid (stillLetters_any g _ vb es us P W hB he (fun x hx => Nat.le_trans (hl x hx) (by omega)))
  have CP : Hid (∀ w1, Below W.heap.size W w1 → Calls Try.prog 44 #[.pointer (some ⟨g, 0, none⟩)] w1 fun e w' => e = .returned (.tuple #[]) ∧ BL w' g (.slice A6 es.length d6) (markTo es.length es) ∧ Touch (fps es) w1 w') :=
    fun w1 h => putLetters_any g _ es w1 (hB.touch (Touch.ofBelow (F := []) h) (by simp) (by simp)).lists he (fun x hx => Nat.le_trans (hl x hx) (by omega))
  have HFP := Lib.hid (markTo_fps es.length es)
  have HFN := Lib.hid (markTo_length es.length es)
  have HFM := Lib.hid (markTo_marked es)
  have HFL := Lib.hid (markTo_lens es 90000 hl)
  obtain ⟨fs, hfs⟩ : ∃ fs, markTo es.length es = fs := ⟨_, rfl⟩
  rw [hfs] at CP HFP HFN HFM HFL
  have CW : Hid (∀ w2, BL w2 g (.slice A6 es.length d6) fs → Calls Try.prog 56 #[.pointer (some ⟨g, 0, none⟩)] w2 (GrowPost w2 g (.slice A6 es.length d6) fs)) :=
    fun w2 h => growLetters_any g _ fs w2 h (by rw [HFN.out]; exact he) HFL.out HFM.out
  obtain ⟨n, hn⟩ : ∃ n, es.length = n := ⟨_, rfl⟩
  rw [hn] at CP CW HFN he
  have HE := Lib.hid he
  clear hB hl hfs hn he
  have markedNilTexts := Lib.hid (fun W1 : World => markedTexts_nil W1)
  have markedNilInts := Lib.hid (fun W1 : World => markedInts_nil W1)
  have markedNilPoints := Lib.hid (fun W1 : World => markedPoints_nil W1)
  have markedNilOwneds := Lib.hid (fun W1 : World => markedOwneds_nil W1)
  have markedNilEvents := Lib.hid (fun W1 : World => markedEvents_nil W1)
  have markedNilItems := Lib.hid (fun W1 : World => markedItems_nil W1)
  go_enter Try.func24, Try.ntmps24
  go_upto_region 29 with (first
    | (go_at_call 36; (with_reducible refine (stillTexts_nil g _ (NN.at_ (by first | exact N3.out | exact N2.out | exact N1.out | exact N0.out) 0 (by decide) (by decide) (by decide))).mono ?_); rintro e w5 ⟨rfl, rfl⟩)
    | (go_at_call 45; (with_reducible refine (putTexts_nil g _ (NN.at_ (by first | exact N3.out | exact N2.out | exact N1.out | exact N0.out) 0 (by decide) (by decide) (by decide))).mono ?_); rintro e w5 ⟨rfl, rfl⟩)
    | (go_at_call 50; (with_reducible refine (growTexts_nil g _ (NN.at_ (by first | exact N3.out | exact N2.out | exact N1.out | exact N0.out) 0 (by decide) (by decide) (by decide))).mono ?_); rintro e w5 ⟨rfl, rfl⟩)
    | (go_at_call 37; (with_reducible refine (stillInts_nil g _ (NN.at_ (by first | exact N3.out | exact N2.out | exact N1.out | exact N0.out) 2 (by decide) (by decide) (by decide))).mono ?_); rintro e w5 ⟨rfl, rfl⟩)
    | (go_at_call 46; (with_reducible refine (putInts_nil g _ (NN.at_ (by first | exact N3.out | exact N2.out | exact N1.out | exact N0.out) 2 (by decide) (by decide) (by decide))).mono ?_); rintro e w5 ⟨rfl, rfl⟩)
    | (go_at_call 51; (with_reducible refine (growInts_nil g _ (NN.at_ (by first | exact N3.out | exact N2.out | exact N1.out | exact N0.out) 2 (by decide) (by decide) (by decide))).mono ?_); rintro e w5 ⟨rfl, rfl⟩)
    | (go_at_call 38; (with_reducible refine (stillPoints_nil g _ (NN.at_ (by first | exact N3.out | exact N2.out | exact N1.out | exact N0.out) 4 (by decide) (by decide) (by decide))).mono ?_); rintro e w5 ⟨rfl, rfl⟩)
    | (go_at_call 47; (with_reducible refine (putPoints_nil g _ (NN.at_ (by first | exact N3.out | exact N2.out | exact N1.out | exact N0.out) 4 (by decide) (by decide) (by decide))).mono ?_); rintro e w5 ⟨rfl, rfl⟩)
    | (go_at_call 52; (with_reducible refine (growPoints_nil g _ (NN.at_ (by first | exact N3.out | exact N2.out | exact N1.out | exact N0.out) 4 (by decide) (by decide) (by decide))).mono ?_); rintro e w5 ⟨rfl, rfl⟩)
    | (go_at_call 40; (with_reducible refine (stillOwneds_nil g _ (NN.at_ (by first | exact N3.out | exact N2.out | exact N1.out | exact N0.out) 8 (by decide) (by decide) (by decide))).mono ?_); rintro e w5 ⟨rfl, rfl⟩)
    | (go_at_call 49; (with_reducible refine (putOwneds_nil g _ (NN.at_ (by first | exact N3.out | exact N2.out | exact N1.out | exact N0.out) 8 (by decide) (by decide) (by decide))).mono ?_); rintro e w5 ⟨rfl, rfl⟩)
    | (go_at_call 54; (with_reducible refine (growOwneds_nil g _ (NN.at_ (by first | exact N3.out | exact N2.out | exact N1.out | exact N0.out) 8 (by decide) (by decide) (by decide))).mono ?_); rintro e w5 ⟨rfl, rfl⟩)
    | (go_at_call 41; (with_reducible refine (stillEvents_nil g _ (NN.at_ (by first | exact N3.out | exact N2.out | exact N1.out | exact N0.out) 10 (by decide) (by decide) (by decide))).mono ?_); rintro e w5 ⟨rfl, rfl⟩)
    | (go_at_call 43; (with_reducible refine (putEvents_nil g _ (NN.at_ (by first | exact N3.out | exact N2.out | exact N1.out | exact N0.out) 10 (by decide) (by decide) (by decide))).mono ?_); rintro e w5 ⟨rfl, rfl⟩)
    | (go_at_call 55; (with_reducible refine (growEvents_nil g _ (NN.at_ (by first | exact N3.out | exact N2.out | exact N1.out | exact N0.out) 10 (by decide) (by decide) (by decide))).mono ?_); rintro e w5 ⟨rfl, rfl⟩)
    | (go_at_call 39; (with_reducible refine (stillItems_nil g _ (NN.at_ (by first | exact N3.out | exact N2.out | exact N1.out | exact N0.out) 6 (by decide) (by decide) (by decide))).mono ?_); rintro e w5 ⟨rfl, rfl⟩)
    | (go_at_call 48; (with_reducible refine (putItems_nil g _ (NN.at_ (by first | exact N3.out | exact N2.out | exact N1.out | exact N0.out) 6 (by decide) (by decide) (by decide))).mono ?_); rintro e w5 ⟨rfl, rfl⟩)
    | (go_at_call 53; (with_reducible refine (growItems_nil g _ (NN.at_ (by first | exact N3.out | exact N2.out | exact N1.out | exact N0.out) 6 (by decide) (by decide) (by decide))).mono ?_); rintro e w5 ⟨rfl, rfl⟩)
    | (go_at_call 42; (with_reducible refine (CS.out).mono ?_); rintro e w1 ⟨rfl, hb1⟩; have B1 := Lib.hid hb1; clear hb1; have N1 : Hid (NN g w1) := (NN.touch N0.out HLt.out (Touch.ofBelow (F := []) B1.out) (by simp)))
    | (go_at_call 44; (with_reducible refine (CP.out _ B1.out).mono ?_); rintro e w2 ⟨rfl, hbl2, ht2⟩; have N2 : Hid (NN g w2) := hbl2.none; have L2 := Lib.hid hbl2; have T2 := Lib.hid ht2; clear hbl2 ht2)
    | (go_at_call 56; (with_reducible refine (CW.out _ L2.out).mono ?_); rintro e w3 ⟨Ag, cg, ys, hyl, rfl, hgo, hgr, hgm, hgl, hgb, hgt⟩; have N3 : Hid (NN g w3) := hgb.none; have HYL := Lib.hid hyl; have HGO := Lib.hid hgo; have HGR := Lib.hid hgr; have HGM := Lib.hid hgm; have HGL := Lib.hid hgl; have HGB := Lib.hid hgb; have HGT := Lib.hid hgt; clear hyl hgo hgr hgm hgl hgb hgt))
  have CG : Hid (∀ w', Below w3.heap.size w3 w' → Calls Try.prog 63 #[.slice Ag fs.length cg] w' fun e w9 => e = .returned (.bool true) ∧ Below w'.heap.size w' w9) :=
    fun w' h => marked_call HYL.out w' (own_step HGO.out h) (fun x hx => (HGR.out x hx).touch (Touch.ofBelow (F := []) h) (by simp)) HGM.out HGL.out (by rw [HFN.out]; exact HE.out)
  have CO : Hid (∀ w', Below w3.heap.size w3 w' → Calls Try.prog 63 #[.slice A6 n d6] w' fun e w9 => e = .returned (.bool true) ∧ Below w'.heap.size w' w9) :=
    fun w' h => marked_call (b := 0) HFN.out w' (by have z := own_step HGB.out.own6 h; rw [HFN.out] at z; exact z) (fun x hx => (HGB.out.rows x hx).touch (Touch.ofBelow (F := []) h) (by simp)) HFM.out (fun x hx => Nat.le_trans (HFL.out x hx) (by omega)) HE.out
  obtain ⟨wb, rfl⟩ : ∃ wb : World, wb = w3 := ⟨_, rfl⟩
  have HSS : Hid (∀ w', Below wb.heap.size wb w' → Below wb.heap.size wb w' ∧ w'.cell? ⟨g, 0, none⟩ = some (.slice none 0 0) ∧ w'.cell? ⟨g, 2, none⟩ = some (.slice none 0 0) ∧ w'.cell? ⟨g, 4, none⟩ = some (.slice none 0 0) ∧ w'.cell? ⟨g, 12, none⟩ = some (.slice A6 n d6) ∧ w'.cell? ⟨g, 8, none⟩ = some (.slice none 0 0) ∧ w'.cell? ⟨g, 10, none⟩ = some (.slice none 0 0) ∧ w'.cell? ⟨g, 6, none⟩ = some (.slice none 0 0)) := fun w' h =>
    have z := NN.touch N3.out HGB.out.lt (Touch.ofBelow (F := []) h) (by simp)
    ⟨h, z 0 (by decide) (by decide) (by decide), z 2 (by decide) (by decide) (by decide), z 4 (by decide) (by decide) (by decide), (h.cell (p := ⟨g, 12, none⟩) HGB.out.lt).trans HGB.out.c6, z 8 (by decide) (by decide) (by decide), z 10 (by decide) (by decide) (by decide), z 6 (by decide) (by decide) (by decide)⟩
  obtain ⟨p0, p2, p4, p6, p8, p10, p12⟩ := (HSS.out _ (Below.refl _ _)).2
  go_wp2_with (first
    | (go_at_call 57; (with_reducible refine (markedNilTexts.out _).mono ?_); rintro e w5 ⟨rfl, rfl⟩)
    | (go_at_call 58; (with_reducible refine (markedNilInts.out _).mono ?_); rintro e w5 ⟨rfl, rfl⟩)
    | (go_at_call 59; (with_reducible refine (markedNilPoints.out _).mono ?_); rintro e w5 ⟨rfl, rfl⟩)
    | (go_at_call 61; (with_reducible refine (markedNilOwneds.out _).mono ?_); rintro e w5 ⟨rfl, rfl⟩)
    | (go_at_call 62; (with_reducible refine (markedNilEvents.out _).mono ?_); rintro e w5 ⟨rfl, rfl⟩)
    | (go_at_call 60; (with_reducible refine (markedNilItems.out _).mono ?_); rintro e w5 ⟨rfl, rfl⟩)
    | (go_at_call 63; (with_reducible refine (CG.out _ (Below.refl _ _)).mono ?_); rintro e w5 ⟨rfl, hb5⟩; have HB5 := Lib.hid hb5; clear hb5; obtain ⟨p0, p2, p4, p6, p8, p10, p12⟩ := (HSS.out _ HB5.out).2)
    | (go_at_call 63; (with_reducible refine (CO.out _ HB5.out).mono ?_); rintro e w6 ⟨rfl, hb6⟩; have HB6 := Lib.hid (acc HB5.out hb6); clear hb6; obtain ⟨p0, p2, p4, p6, p8, p10, p12⟩ := (HSS.out _ HB6.out).2))
  go_ret
  exact ⟨rfl, (((Touch.ofBelow (F := fps es) B1.out).trans T2.out (fun x hx => .inl hx)).trans (HFP.out ▸ HGT.out) (fun x hx => .inl hx)).trans (Touch.ofBelow (F := fps es) HB6.out) (fun x hx => .inl hx)⟩
end Go.Proofs.Ytfemdfidfomchaa.Lb
