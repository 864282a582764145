/-
  Two links beside rows and boxes of the call's own (FX): what a call, an append, a new box make of them.
-/
import Derived.Test.YtfemdfidfomchaaLinkPure
namespace Go.Proofs.Ytfemdfidfomchaa
open Go.RowKit

/-- a row of the call's own -/
structure RS where
  e : TypeId
  z : Nat
  v : Value
  n : Nat
  xs : List Value
abbrev rP (v : Value) (ps : List PR) : RS := ⟨53, 25, v, ps.length, rowC PR.cells ps⟩
abbrev rL (v : Value) (ls : List LR) : RS := ⟨51, 21, v, ls.length, rowC LR.cells ls⟩
def RS.ok (W w : World) (r : RS) : Prop := w.ownsRow W.heap.size r.e r.z r.v r.n r.xs
def RS.apart (a b : RS) : Prop := ∀ q, a.v.ownBlock = some q → b.v.ownBlock ≠ some q
theorem RS.apart_symm {a b : RS} (h : a.apart b) : b.apart a := fun q hq z => h q z hq
def blks (R : List RS) : List Nat := R.flatMap fun r => r.v.ownBlock.toList
theorem mem_blks {R : List RS} {q : Nat} : q ∈ blks R ↔ ∃ r ∈ R, r.v.ownBlock = some q := by
  simp [blks, List.mem_flatMap]
structure FX (W w : World) (R : List RS) (B : List Nat) (ga : Nat) (sa : LS) (gb : Nat) (sb : LS) : Prop where
  x : TX W w (B ++ blks R) ga sa gb sb
  r : ∀ r ∈ R, r.ok W w
  d : R.Pairwise RS.apart
  b : ∀ q ∈ B, W.heap.size ≤ q ∧ q ∉ blks R
section
variable {W w w1 : World} {R R' : List RS} {B B' : List Nat} {ga gb : Nat} {sa sb sa' sb' : LS}
theorem FX.base (h : FX W w R B ga sa gb sb) : Below W.heap.size W w := h.x.left.base
theorem FX.swap (h : FX W w R B ga sa gb sb) : FX W w R B gb sb ga sa := ⟨h.x.swap, h.r, h.d, h.b⟩
theorem FX.lt (h : FX W w R B ga sa gb sb) : ∀ q ∈ B ++ blks R, q < w.heap.size := h.x.left.2.2.2
theorem FX.geb (h : FX W w R B ga sa gb sb) : ∀ q ∈ blks R, W.heap.size ≤ q := fun q hq => by
  obtain ⟨r, hr, e⟩ := mem_blks.1 hq
  exact ((h.r r hr).lt q e).1
theorem FX.ge (h : FX W w R B ga sa gb sb) : ∀ q ∈ B ++ blks R, W.heap.size ≤ q := fun q hq => by
  rcases List.mem_append.1 hq with z | z
  · exact (h.b q z).1
  · exact h.geb q z
theorem FX.below (h : FX W w R B ga sa gb sb) (hb : Below w.heap.size w w1) : FX W w1 R B ga sa gb sb := ⟨h.x.below hb, fun r hr => lk_below (h.r r hr) hb, h.d, h.b⟩
theorem FX.perm (h : FX W w R B ga sa gb sb) (hp : R.Perm R') : FX W w R' B ga sa gb sb := by
  have hm : ∀ q, q ∈ blks R' ↔ q ∈ blks R := fun q => by
    rw [mem_blks, mem_blks]
    exact ⟨fun ⟨r, hr, e⟩ => ⟨r, hp.mem_iff.2 hr, e⟩, fun ⟨r, hr, e⟩ => ⟨r, hp.mem_iff.1 hr, e⟩⟩
  refine ⟨h.x.less fun q hq => ?_, fun r hr => h.r r (hp.mem_iff.2 hr), (hp.pairwise_iff RS.apart_symm).1 h.d, fun q hq => ⟨(h.b q hq).1, fun z => (h.b q hq).2 ((hm q).1 z)⟩⟩
  simp only [List.mem_append, hm] at hq ⊢
  exact hq
theorem FX.sub (h : FX W w R B ga sa gb sb) (hp : R'.Sublist R) (hB : ∀ q ∈ B', q ∈ B) : FX W w R' B' ga sa gb sb := by
  have hm : ∀ q, q ∈ blks R' → q ∈ blks R := fun q hq => by
    obtain ⟨r, hr, e⟩ := mem_blks.1 hq
    exact mem_blks.2 ⟨r, hp.subset hr, e⟩
  refine ⟨h.x.less fun q hq => ?_, fun r hr => h.r r (hp.subset hr), h.d.sublist hp, fun q hq => ⟨(h.b q (hB q hq)).1, fun z => (h.b q (hB q hq)).2 (hm q z)⟩⟩
  simp only [List.mem_append] at hq ⊢
  rcases hq with z | z
  · exact .inl (hB q z)
  · exact .inr (hm q z)
theorem FX.keep (h : FX W w R B ga sa gb sb) (x : TX W w1 (B ++ blks R) ga sa' gb sb') (k : KeepsB (B ++ blks R) w w1) : FX W w1 R B ga sa' gb sb' :=
  ⟨x, fun r hr => k.row (h.r r hr) fun q hq => by simp only [List.mem_append]; exact .inr (mem_blks.2 ⟨r, hr, hq⟩), h.d, h.b⟩
/-- a call that hands out a new row -/
theorem FX.keepRow (h : FX W w R B ga sa gb sb) {r : RS} (x : TX W w1 (r.v.ownBlock.toList ++ (B ++ blks R)) ga sa' gb sb') (k : KeepsB (B ++ blks R) w w1) (hr : w1.ownsRow w.heap.size r.e r.z r.v r.n r.xs) : FX W w1 (r :: R) B ga sa' gb sb' := by
  have hn : ∀ q, r.v.ownBlock = some q → w.heap.size ≤ q := fun q hq => (hr.lt q hq).1
  refine ⟨x.less fun q hq => ?_, fun y hy => ?_, List.pairwise_cons.2 ⟨fun y hy q hq z => ?_, h.d⟩, fun q hq => ⟨(h.b q hq).1, fun z => ?_⟩⟩
  · simp only [blks, List.flatMap_cons, List.mem_append] at hq ⊢
    rcases hq with z | z | z
    · exact .inr (.inl z)
    · exact .inl z
    · exact .inr (.inr z)
  · rcases List.mem_cons.1 hy with rfl | z
    · exact lk_base hr h.base.size
    · exact k.row (h.r y z) fun q hq => by simp only [List.mem_append]; exact .inr (mem_blks.2 ⟨y, z, hq⟩)
  · have := hn q hq
    have := h.lt q (by simp only [List.mem_append]; exact .inr (mem_blks.2 ⟨y, hy, z⟩))
    omega
  · obtain ⟨y, hy, e⟩ := mem_blks.1 z
    rcases List.mem_cons.1 hy with rfl | u
    · have := hn q e
      have := h.lt q (by simp [hq])
      omega
    · exact (h.b q hq).2 (mem_blks.2 ⟨y, u, e⟩)
/-- a new box -/
theorem FX.box (h : FX W w R B ga sa gb sb) (hb : Below w.heap.size w w1) {q : Nat} (h1 : w.heap.size ≤ q) (h2 : q < w1.heap.size) : FX W w1 R (q :: B) ga sa gb sb := by
  refine ⟨(h.x.more hb (Q := [q]) (fun z hz => by simp at hz; subst hz; exact ⟨h1, h2⟩)).less (fun z hz => by simpa using hz), fun r hr => lk_below (h.r r hr) hb, h.d, fun z hz => ?_⟩
  rcases List.mem_cons.1 hz with rfl | u
  · refine ⟨Nat.le_trans h.base.size h1, fun y => ?_⟩
    have := h.lt z (by simp [y])
    omega
  · exact h.b z u
/-- the first row is written anew, or turned in its place -/
theorem FX.grow {r r' : RS} (h : FX W w (r :: R) B ga sa gb sb) (hg : w.grownBy w1 r.v.ownBlock) (ho : w1.ownsRow W.heap.size r'.e r'.z r'.v r'.n r'.xs) (hs : SameOrNew w r.v r'.v) : FX W w1 (r' :: R) B ga sa gb sb := by
  have t : Touch r.v.ownBlock.toList w w1 := (Touch.refl _ _).grown hg (fun q hq => .inl (by simp [hq]))
  obtain ⟨d1, d2⟩ := List.pairwise_cons.1 h.d
  have hP : ∀ q ∈ r.v.ownBlock.toList, q ∈ B ++ blks (r :: R) ∧ W.heap.size ≤ q := fun q hq => by
    have hq' : q ∈ blks (r :: R) := mem_blks.2 ⟨r, by simp, by simpa using hq⟩
    exact ⟨by simp [hq'], h.geb q hq'⟩
  have hb2 : ∀ q, r'.v.ownBlock = some q → q ∈ r.v.ownBlock.toList ∨ w.heap.size ≤ q := fun q hq => (hs q hq).imp (fun z => by simp [z]) id
  have x1 := (h.x.touch t hP)
  have x2 : TX W w1 (B ++ blks (r' :: R)) ga sa gb sb := by
    obtain ⟨V2, K2, xx, yy, ll, cc⟩ := h.x
    obtain ⟨a, ⟨V, K, b, c⟩, l, dd⟩ := xx
    have x1' := x1
    have hlt1 : ∀ q ∈ fr ga V K, q < w.heap.size := b.flt
    have hlt2 : ∀ q ∈ fr gb V2 K2, q < w.heap.size := yy.flt
    have key : ∀ q, q ∈ B ++ blks (r' :: R) → q ∈ B ++ blks (r :: R) ∨ w.heap.size ≤ q := fun q hq => by
      rcases List.mem_append.1 hq with z | z
      · exact .inl (by simp [z])
      · obtain ⟨y, hy, e⟩ := mem_blks.1 z
        rcases List.mem_cons.1 hy with rfl | u
        · rcases hb2 q e with v | v
          · exact .inl (hP q v).1
          · exact .inr v
        · exact .inl (by simp only [List.mem_append]; exact .inr (mem_blks.2 ⟨y, by simp [u], e⟩))
    refine ⟨V2, K2, ⟨Touch.acc a t (fun q hq => (hP q hq).2), ⟨V, K, b.touch t (fun q hq z => (c q hq).2 (by simp only [List.mem_append]; exact .inr (List.mem_append.1 (hP q z).1))) (by simp), fun q hq => ⟨(c q hq).1, fun z => ?_⟩⟩, l, fun q hq => ?_⟩, yy.touch t (fun q hq z => (cc q hq).2 (hP q z).1) (by simp), ll, fun q hq => ⟨(cc q hq).1, fun z => ?_⟩⟩
    · rcases List.mem_append.1 z with u | u
      · exact (c q hq).2 (by simp [u])
      · rcases key q u with v | v
        · exact (c q hq).2 (by simp only [List.mem_append]; exact .inr (List.mem_append.1 v))
        · have := hlt1 q hq; omega
    · rcases List.mem_append.1 hq with u | u
      · have := hlt2 q u; have := t.size; omega
      · rcases key q u with v | v
        · exact Nat.lt_of_lt_of_le (dd q (by simp only [List.mem_append]; exact .inr (List.mem_append.1 v))) t.size
        · rcases List.mem_append.1 u with y | y
          · exact Nat.lt_of_lt_of_le (dd q (by simp [y])) t.size
          · obtain ⟨y, hy, e⟩ := mem_blks.1 y
            rcases List.mem_cons.1 hy with rfl | y2
            · exact (ho.lt q e).2
            · exact Nat.lt_of_lt_of_le ((h.r y (by simp [y2])).lt q e).2 t.size
    · rcases key q z with v | v
      · exact (cc q hq).2 v
      · have := hlt2 q hq; omega
  refine ⟨x2, fun y hy => ?_, List.pairwise_cons.2 ⟨fun y hy q hq z => ?_, d2⟩, fun q hq => ⟨(h.b q hq).1, fun z => ?_⟩⟩
  · rcases List.mem_cons.1 hy with rfl | u
    · exact ho
    · exact t.row (h.r y (by simp [u])) fun q hq z => d1 y u q (by simpa using z) hq
  · rcases hs q hq with u | u
    · exact d1 y hy q u z
    · have := h.lt q (by simp only [List.mem_append]; exact .inr (mem_blks.2 ⟨y, by simp [hy], z⟩)); omega
  · obtain ⟨y, hy, e⟩ := mem_blks.1 z
    rcases List.mem_cons.1 hy with rfl | u
    · rcases hs q e with v | v
      · exact (h.b q hq).2 (mem_blks.2 ⟨r, by simp, v⟩)
      · have := h.lt q (by simp [hq]); omega
    · exact (h.b q hq).2 (mem_blks.2 ⟨y, by simp [u], e⟩)
/-- a row of nothing -/
theorem FX.nil (h : FX W w R B ga sa gb sb) (e : TypeId) (z : Nat) : FX W w (⟨e, z, .slice none 0 0, 0, []⟩ :: R) B ga sa gb sb :=
  ⟨h.x.less fun q hq => by simpa [blks, Value.ownBlock] using hq, fun r hr => by
    rcases List.mem_cons.1 hr with rfl | u
    · exact World.ownsRow_nil _ _ _ _
    · exact h.r r u, List.pairwise_cons.2 ⟨fun y hy q hq => (by cases hq), h.d⟩, fun q hq => ⟨(h.b q hq).1, fun z => (h.b q hq).2 (by simpa [blks, Value.ownBlock] using z)⟩⟩
theorem FX.start (h : TX W w [] ga sa gb sb) : FX W w [] [] ga sa gb sb := ⟨h.less (by simp [blks]), by simp, List.Pairwise.nil, by simp⟩
theorem fx_nil_sl {W w : World} {R : List RS} {B : List Nat} {ga gb : Nat} {sa sb : LS} {e : TypeId} {z n c : Nat} {A : Option Addr} {xs : List Value} (h : FX W w (⟨e, z, .slice A n c, n, xs⟩ :: R) B ga sa gb sb) : w.ownsRow W.heap.size e z (.slice A n c) n xs := h.r ⟨e, z, .slice A n c, n, xs⟩ (by simp)
end
/-- two ends that send to one another: fa, fb: the letters; ka, kb: so many of them are known to have come; ta, tb: the ticks; ua, ub: since when all wait -/
structure Bi (sa sb : LS) (pa pb : Int) (fa fb : Nat → LR) (n m ka kb ta tb ua ub : Nat) : Prop where
  a1 : sa.me = pa
  a2 : sa.peer = pb
  a3 : sa.sent = n
  a4 : sa.now = ta
  a5 : ∀ x ∈ sa.waits, x.2 ≤ ua
  b1 : sb.me = pb
  b2 : sb.peer = pa
  b3 : sb.sent = m
  b4 : sb.now = tb
  b5 : ∀ x ∈ sb.waits, x.2 ≤ ub
  ab : Dir sa sb fa ka
  ba : Dir sb sa fb kb
section
variable {sa sb : LS} {pa pb : Int} {fa fb : Nat → LR} {n m ka kb ta tb ua ub : Nat}
theorem Bi.swap (h : Bi sa sb pa pb fa fb n m ka kb ta tb ua ub) : Bi sb sa pb pa fb fa m n kb ka tb ta ub ua := ⟨h.b1, h.b2, h.b3, h.b4, h.b5, h.a1, h.a2, h.a3, h.a4, h.a5, h.ba, h.ab⟩
theorem Bi.ok (h : Bi sa sb pa pb fa fb n m ka kb ta tb ua ub) (hn : n ≤ 1000) (hm : m ≤ 1000) (ht : ta ≤ 1000) (hu : ua ≤ 1000) : sa.Ok ∧ sa.kept.length < 90000 := by
  have h1 := h.a3
  have h2 := h.b3
  have h3 := h.a4
  have h4 := h.ab.len
  have h5 := h.ba.s
  have h6 := h.ba.r.len
  exact ⟨⟨by omega, by omega, by omega, by omega, by omega, fun x hx => by have := h.a5 x hx; omega⟩, by omega⟩
theorem Bi.new (pa pb : Int) (fa fb : Nat → LR) : Bi (LS.new pa pb) (LS.new pb pa) pa pb fa fb 0 0 0 0 0 0 0 0 :=
  ⟨rfl, rfl, rfl, rfl, by simp, rfl, rfl, rfl, rfl, by simp, ⟨Nat.le_refl _, Nat.le_refl _, rfl, by simp, List.Pairwise.nil, Nat.le_refl _⟩, ⟨Nat.le_refl _, Nat.le_refl _, rfl, by simp, List.Pairwise.nil, Nat.le_refl _⟩⟩
theorem Bi.push (h : Bi sa sb pa pb fa fb n m ka kb ta tb ua ub) (hu : ua = ta) : Bi (sa.push (fa (n + 1))) sb pa pb fa fb (n + 1) m ka kb ta tb ua ub := by
  have h1 := h.a3
  have hp := h.ab.push
  rw [h1] at hp
  exact ⟨h.a1, h.a2, by show sa.sent + 1 = _; omega, h.a4, fun x hx => by
    rcases List.mem_append.1 hx with z | z
    · exact h.a5 x z
    · simp at z; subst z; show sa.now ≤ _; rw [h.a4, hu]; exact Nat.le_refl _, h.b1, h.b2, h.b3, h.b4, h.b5, hp, h.ba.right rfl rfl⟩
theorem Bi.known (h : Bi sa sb pa pb fa fb n m ka kb ta tb ua ub) {a : Nat} (ha : a ≤ sb.came) : Bi (sa.known (a : Nat)) sb pa pb fa fb n m (max ka a) kb ta tb ua ub :=
  ⟨h.a1, h.a2, h.a3, h.a4, fun x hx => h.a5 x (List.mem_of_mem_drop hx), h.b1, h.b2, h.b3, h.b4, h.b5, h.ab.known ha, h.ba.right rfl rfl⟩
/-- a packet of A's comes to B -/
theorem Bi.got (h : Bi sa sb pa pb fa fb n m ka kb ta tb ua ub) {a q : Nat} (ha : a ≤ sa.came) (hq : q ≤ n) {ts : List LR} {c' : Nat} {ks' : List (Nat × LR)} (hf : Follows (sb.took (a : Nat) q (fa q)).came (sb.took (a : Nat) q (fa q)).kept ts c' ks') :
    ts = (List.range' (sb.came + 1) (c' - sb.came)).map fa ∧ sb.came ≤ c' ∧ (sb.came + 1 = q → q ≤ c') ∧ Bi sa {(sb.took (a : Nat) q (fa q)) with came := c', kept := ks'} pa pb fa fb n m ka (max kb a) ta tb ua ub := by
  obtain ⟨e1, e2, e3, e4⟩ := h.ab.got (by rw [h.a3]; exact hq) hf
  have hk := h.ba.known ha
  obtain ⟨_, t1, t2, t3⟩ := took_came sb (a : Nat) q (fa q)
  have hme := took_me sb (a : Nat) q (fa q)
  refine ⟨e1, e2, e3, h.a1, h.a2, h.a3, h.a4, h.a5, ?_, ?_, ?_, ?_, ?_, e4, ?_⟩
  · show (sb.took _ _ _).me = _; rw [hme.1]; exact h.b1
  · show (sb.took _ _ _).peer = _; rw [hme.2]; exact h.b2
  · show (sb.took _ _ _).sent = _; rw [t2]; exact h.b3
  · show (sb.took _ _ _).now = _; rw [t3]; exact h.b4
  · intro x hx
    have hx' : x ∈ (sb.took (a : Nat) q (fa q)).waits := hx
    rw [t1] at hx'
    exact h.b5 x (List.mem_of_mem_drop hx')
  · refine hk.left ?_ ?_
    · show (sb.took _ _ _).sent = _; rw [t2]
    · show (sb.took (a : Nat) q (fa q)).waits.map _ = _; rw [t1]
theorem Bi.tick (h : Bi sa sb pa pb fa fb n m ka kb ta tb ua ub) : Bi sa.tick sb pa pb fa fb n m ka kb (ta + 1) tb ua ub :=
  ⟨h.a1, h.a2, h.a3, by show sa.now + 1 = _; rw [h.a4], h.a5, h.b1, h.b2, h.b3, h.b4, h.b5, h.ab.left rfl rfl, h.ba.right rfl rfl⟩
theorem Bi.again (h : Bi sa sb pa pb fa fb n m ka kb ta tb ua ub) : Bi sa.again sb pa pb fa fb n m ka kb (ta + 1) tb (ta + 1) ub :=
  ⟨h.a1, h.a2, h.a3, by show sa.now + 1 = _; rw [h.a4], fun x hx => by
    obtain ⟨y, hy, rfl⟩ := List.mem_map.1 hx
    show sa.now + 1 ≤ _; rw [h.a4]; exact Nat.le_refl _, h.b1, h.b2, h.b3, h.b4, h.b5, h.ab.left rfl (by show (sa.waits.map _).map _ = _; rw [List.map_map]; rfl), h.ba.right rfl rfl⟩
theorem Bi.rest (h : Bi sa sb pa pb fa fb n m ka kb ta tb ua ub) (h1 : n ≤ ka) (h2 : m ≤ kb) : sa.rest = true := by
  unfold LS.rest
  have e1 := h.ab.len
  have e2 := h.ba.r.rest (by have := h.b3; have := h.ba.a; omega)
  rw [e1, e2, h.a3, show n - ka = 0 by omega]
  rfl
end
/-- the q-th letter of kind k -/
abbrev fk (k : Int) (q : Nat) : LR := LR.light k (q : Nat)
/-- a packet with it -/
abbrev pk (pa pb k : Int) (q : Nat) (a : Nat) : PR := ⟨pa, pb, (q : Nat), (a : Nat), LR.light k (q : Nat)⟩
section
variable {W w : World} {R : List RS} {B : List Nat} {ga gb : Nat} {sa sb : LS} {pa pb k l : Int} {n m ka kb ta tb ua ub : Nat}
theorem jx_send (hF : FX W w R B ga sa gb sb) (hB : Bi sa sb pa pb (fk k) (fk l) n m ka kb ta tb ua ub) (hn : n ≤ 900) (hm : m ≤ 900) (ht : ta ≤ 900) (hu : ua = ta) :
    Calls Try.prog 13 #[.pointer (some ⟨ga, 0, none⟩), .agg (ltCells k ((n + 1 : Nat) : Int))] w fun e w' => e = .returned (.agg (lpCells pa pb ((n + 1 : Nat) : Int) (sa.came : Nat) k ((n + 1 : Nat) : Int))) ∧
      FX W w' R B ga (sa.push (fk k (n + 1))) gb sb ∧ Bi (sa.push (fk k (n + 1))) sb pa pb (fk k) (fk l) (n + 1) m ka kb ta tb ua ub := by
  refine (hF.x.send (hB.ok (by omega) (by omega) (by omega) (by omega)).1 k ((n + 1 : Nat) : Int)).mono ?_
  rintro e w' ⟨rfl, h1, h2⟩
  exact ⟨by rw [hB.a1, hB.a2, hB.a3]; rfl, hF.keep h1 h2, hB.push hu⟩
/-- an answer of B's comes to A -/
theorem jx_ack (hF : FX W w R B ga sa gb sb) (hB : Bi sa sb pa pb (fk k) (fk l) n m ka kb ta tb ua ub) (hn : n ≤ 900) (hm : m ≤ 900) (ht : ta ≤ 900) (hu : ua ≤ 900) {c : Nat} (hc : c ≤ sb.came) :
    Calls Try.prog 17 #[.pointer (some ⟨ga, 0, none⟩), .agg (lpCells pb pa 0 (c : Nat) 0 0)] w fun e w' => e = .returned (.tuple #[.slice none 0 0, .agg (lpCells 0 0 0 0 0 0), .bool true]) ∧
      ∃ sa', sa'.came = sa.came ∧ FX W w' R B ga sa' gb sb ∧ Bi sa' sb pa pb (fk k) (fk l) n m (max ka c) kb ta tb ua ub := by
  refine (hF.x.gotAck (hB.ok (by omega) (by omega) (by omega) (by omega)).1 pb pa (c : Nat) 0 0 ⟨hB.a2.symm, hB.a1.symm, by simp, by simp, by have := hB.ab.s; simp; omega⟩).mono ?_
  rintro e w' ⟨rfl, h1, h2⟩
  exact ⟨rfl, sa.known (c : Nat), rfl, hF.keep h1 h2, hB.known hc⟩
/-- what a packet of A's leaves at B -/
def JGot (W : World) (R : List RS) (B : List Nat) (ga : Nat) (sa : LS) (gb : Nat) (sb : LS) (pa pb k l : Int) (n m ka kb ta tb ua ub q : Nat) (e : Ending) (w' : World) : Prop :=
  ∃ T c sb' kb', e = .returned (.tuple #[.slice T (sb'.came - sb.came) c, .agg (lpCells pb pa 0 (sb'.came : Nat) 0 0), .bool true]) ∧ sb.came ≤ sb'.came ∧ (sb.came + 1 = q → q ≤ sb'.came) ∧ kb ≤ kb' ∧
    FX W w' (⟨51, 21, .slice T (sb'.came - sb.came) c, sb'.came - sb.came, rowC LR.cells ((List.range' (sb.came + 1) (sb'.came - sb.came)).map (fk k))⟩ :: R) B ga sa gb sb' ∧ Bi sa sb' pa pb (fk k) (fk l) n m ka kb' ta tb ua ub
theorem jx_got (hF : FX W w R B ga sa gb sb) (hB : Bi sa sb pa pb (fk k) (fk l) n m ka kb ta tb ua ub) (hn : n ≤ 900) (hm : m ≤ 900) (ht : tb ≤ 900) (hu : ub ≤ 900) {q a : Nat} (hq0 : 0 < q) (hq : q ≤ n) (ha : a ≤ sa.came) :
    Calls Try.prog 17 #[.pointer (some ⟨gb, 0, none⟩), .agg (lpCells pa pb (q : Nat) (a : Nat) k (q : Nat))] w (JGot W R B ga sa gb sb pa pb k l n m ka kb ta tb ua ub q) := by
  have hok := hB.swap.ok (by omega) (by omega) (by omega) (by omega)
  refine (hF.x.swap.gotNew hok.1 hok.2 pa pb (a : Nat) k (q : Nat) q ⟨hB.b2.symm, hB.b1.symm, by simp, by simp, by have := hB.ba.s; simp; omega⟩ hq0 (by omega)).mono ?_
  rintro e w' ⟨ts, c', ks', T, c, a1, rfl, a3, a4, a5⟩
  obtain ⟨e1, e2, e3, e4⟩ := hB.got ha hq a1
  have hl : ts.length = c' - sb.came := by rw [e1]; simp
  subst e1
  rw [hl] at a3 a5 ⊢
  refine ⟨T, c, _, _, by rw [hB.b1, hB.b2], e2, e3, Nat.le_max_left _ _, ?_, e4⟩
  exact (hF.swap.keepRow (r := ⟨51, 21, .slice T (c' - sb.came) c, c' - sb.came, rowC LR.cells ((List.range' (sb.came + 1) (c' - sb.came)).map (fk k))⟩) a3 a4 a5).swap
/-- what a Tick of A's leaves -/
def JTick (W : World) (R : List RS) (B : List Nat) (ga : Nat) (sa : LS) (gb : Nat) (sb : LS) (pa pb k l : Int) (n m ka kb ta tb ua ub : Nat) (e : Ending) (w' : World) : Prop :=
  ∃ T c N sa' ua', e = .returned (.slice T N c) ∧ ((N = n - ka ∧ ua' = ta + 1 ∧ 4 ≤ ta + 1) ∨ (N = 0 ∧ (n - ka = 0 ∨ ta + 1 < ua + 4) ∧ ua' = ua)) ∧ sa'.came = sa.came ∧
    FX W w' (⟨53, 25, .slice T N c, N, rowC PR.cells ((List.range N).map fun j => pk pa pb k (ka + 1 + j) sa.came)⟩ :: R) B ga sa' gb sb ∧ Bi sa' sb pa pb (fk k) (fk l) n m ka kb (ta + 1) tb ua' ub
theorem Bi.due (hB : Bi sa sb pa pb (fk k) (fk l) n m ka kb ta tb ua ub) : (sa.due = true → 4 ≤ ta + 1) ∧ (sa.due = false → n - ka = 0 ∨ ta + 1 < ua + 4) := by
  have hl := hB.ab.len
  rw [hB.a3] at hl
  unfold LS.due
  cases hw : sa.waits with
  | nil =>
    rw [hw] at hl
    exact ⟨(by simp), fun _ => .inl (by simp at hl; omega)⟩
  | cons x ws =>
    have hx := hB.a5 x (by rw [hw]; simp)
    simp only
    rw [hB.a4]
    exact ⟨fun h => by have := of_decide_eq_true h; omega, fun h => .inr (by have := of_decide_eq_false h; omega)⟩
theorem jx_tick (hF : FX W w R B ga sa gb sb) (hB : Bi sa sb pa pb (fk k) (fk l) n m ka kb ta tb ua ub) (hn : n ≤ 900) (hm : m ≤ 900) (ht : ta ≤ 900) (hu : ua ≤ 900) :
    Calls Try.prog 15 #[.pointer (some ⟨ga, 0, none⟩)] w (JTick W R B ga sa gb sb pa pb k l n m ka kb ta tb ua ub) := by
  have hok := (hB.ok (by omega) (by omega) (by omega) (by omega)).1
  obtain ⟨d1, d2⟩ := hB.due
  cases hd : sa.due
  · refine (hF.x.tickNot hok hd).mono ?_
    rintro e w' ⟨rfl, h1, h2⟩
    exact ⟨none, 0, 0, sa.tick, ua, rfl, .inr ⟨rfl, d2 hd, rfl⟩, rfl, (hF.keep h1 h2).nil _ _, hB.tick⟩
  · refine (hF.x.tickDue hok hd).mono ?_
    rintro e w' ⟨T, c, rfl, h1, h2, h3⟩
    have hl := hB.ab.len
    rw [hB.a3] at hl
    rw [hB.ab.sends, hB.a3, hB.a1, hB.a2] at h3
    rw [hl] at h1 h3 ⊢
    exact ⟨T, c, _, sa.again, _, rfl, .inl ⟨rfl, rfl, by have := d1 hd; omega⟩, rfl, hF.keepRow (r := ⟨53, 25, .slice T (n - ka) c, n - ka, _⟩) h1 h2 h3, hB.again⟩
end
end Go.Proofs.Ytfemdfidfomchaa
