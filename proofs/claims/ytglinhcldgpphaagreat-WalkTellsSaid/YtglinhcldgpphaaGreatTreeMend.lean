/-
  A node's mend, as what it leaves of the tree.
  An item taken out of a tree: down to the lowest level, and the way up again. No walk is here.
-/
import Derived.Test.YtglinhcldgpphaaGreatNodeMend
import Derived.Test.YtglinhcldgpphaaGreatTree
namespace Go.Proofs.YtglinhcldgpphaaGreat
open Go.RowKit

/-- what mend leaves of a tree -/
def MendTree (W : World) (F : List Nat) (m : NMap) (h : Nat) (f : Fr) (c : Ch) (e : Ending) (w : World) : Prop :=
  e = .returned (.tuple #[]) ∧ ∃ m' F', Sto w m' F' ∧ Stp W F w F' ∧ (∀ z, z ∉ c.I → z ∉ idsF f → z < W.heap.size → m' z = m z) ∧
    ∃ c'', c''.g = f.g ∧ Sub m' (h + 1) ((f.xs ++ f.ys).length - 1) 6 c'' ∧ c''.l = (putIn f c).l ∧ c''.I.Nodup ∧ ∀ z ∈ c''.I, z ∈ c.I ∨ z ∈ idsF f ∨ W.heap.size ≤ z
theorem mem_two {f : Fr} {c : Ch} {z : Nat} {cs : List Ch} (hcs : cs = f.ls ++ c :: f.rs) (hz : z ∈ idsN f.g cs) : z ∈ c.I ∨ z ∈ idsF f := by
  subst hcs
  rcases mem_idsN.1 hz with e | ⟨d, hd, hz'⟩
  · exact .inr (mem_idsF.2 (.inl e))
  · rcases List.mem_append.1 hd with e | e
    · exact .inr (mem_idsF.2 (.inr ⟨d, by simp [e], hz'⟩))
    · rcases List.mem_cons.1 e with rfl | e
      · exact .inl hz'
      · exact .inr (mem_idsF.2 (.inr ⟨d, by simp [e], hz'⟩))
end Go.Proofs.YtglinhcldgpphaaGreat
namespace Go.Proofs.YtglinhcldgpphaaGreat
open Go.RowKit

/-- the way ends at an item of a lowest node, which is to be taken away -/
def Lowered (m : NMap) (top : Option Nat) (L : List Item) (steps : List (Nat × Nat)) (g i : Nat) : Prop :=
  ∃ fs xs x ys, steps = wayC fs ∧ i = xs.length ∧ Ctx m 0 g fs ∧ m g = some ⟨xs ++ x :: ys, []⟩ ∧ loC fs ≤ (xs ++ x :: ys).length ∧ (xs ++ x :: ys).length ≤ 6 ∧ (g :: idsC fs).Nodup ∧ top = some (topC g fs) ∧ L = preC fs ++ ((xs ++ ys) ++ postC fs)
/-- a node that lacks an item perhaps; all else is in order -/
def Sunk (m : NMap) (top : Option Nat) (L : List Item) (steps : List (Nat × Nat)) : Prop :=
  ∃ fs h c, steps = wayC fs ∧ Ctx m h c.g fs ∧ Sub m h (loC fs - 1) 6 c ∧ (c.I ++ idsC fs).Nodup ∧ top = some (topC c.g fs) ∧ L = preC fs ++ (c.l ++ postC fs)
theorem Lowered.gone {m : NMap} {top : Option Nat} {L : List Item} {steps : List (Nat × Nat)} {g i : Nat} (H : Lowered m top L steps g i) :
    ∃ its, m g = some ⟨its, []⟩ ∧ i < its.length ∧ its.length ≤ 6 ∧ ∀ m' : NMap, m' g = some ⟨remAt its i, []⟩ → (∀ z, z ≠ g → m' z = m z) → Sunk m' top L steps := by
  obtain ⟨fs, xs, x, ys, hs, rfl, hc, hm, l1, l2, hnd, ht, hL⟩ := H
  refine ⟨_, hm, by simp, l2, fun m' h1 h2 => ?_⟩
  rw [remAt_mid xs ys x rfl] at h1
  have nd1 := List.nodup_cons.1 hnd
  have lx : (xs ++ x :: ys).length = (xs ++ ys).length + 1 := by simp; omega
  exact ⟨fs, 0, ⟨g, xs ++ ys, [g]⟩, hs, hc.congr (fun z hz => h2 z (fun e => nd1.1 (e ▸ hz))), leaf_more h1 (by omega) (by omega), by simpa using hnd, ht, hL⟩
theorem Sunk.mend {m : NMap} {top : Option Nat} {L : List Item} {steps : List (Nat × Nat)} {g i : Nat} (H : Sunk m top L (steps ++ [(g, i)])) :
    ∃ f c h, f.g = g ∧ f.xs.length = i ∧ Frm m h c.g f ∧ Sub m h 2 6 c ∧ (c.I ++ idsF f).Nodup ∧ 1 ≤ (f.xs ++ f.ys).length ∧ (f.xs ++ f.ys).length ≤ 6 ∧
      ∀ (W : World) (F : List Nat) (e : Ending) (w : World), Sto W m F → MendTree W F m h f c e w → e = .returned (.tuple #[]) ∧ ∃ m' F', Sto w m' F' ∧ Stp W F w F' ∧ Sunk m' top L steps := by
  obtain ⟨fs, h, c, hs, hc, s, hnd, ht, hL⟩ := H
  cases fs with
  | nil => simp [wayC] at hs
  | cons f fs =>
    obtain ⟨rfl, e⟩ := append_last hs
    injection e with e1 e2
    subst e1 e2
    obtain ⟨hf, l1, l2, hc'⟩ := hc
    have hlo : 1 ≤ loC fs := by cases fs <;> simp [loC]
    have hnd' := hnd
    rw [idsC, ← List.append_assoc] at hnd'
    have nd1 := List.nodup_append.1 hnd'
    refine ⟨f, c, h, rfl, rfl, hf, s, nd1.1, by omega, l2, ?_⟩
    rintro W F e w hS ⟨rfl, m', F', d1, d2, d3, c'', d4, d5, d6, d7, d8⟩
    have hfs : ∀ z ∈ idsC fs, z < W.heap.size := fun z hz => by
      obtain ⟨nd, hn⟩ := hc'.dom z hz
      exact hS.lt z (hS.mem hn)
    have same : ∀ z ∈ idsC fs, m' z = m z := fun z hz => d3 z (fun e => nd1.2.2 z (by simp [e]) z hz rfl) (fun e => nd1.2.2 z (by simp [e]) z hz rfl) (hfs z hz)
    refine ⟨rfl, m', F', d1, d2, fs, h + 1, c'', rfl, by rw [d4]; exact hc'.congr same, d5.mono (by omega) (Nat.le_refl _), ?_, by rw [d4]; exact ht, ?_⟩
    · rw [List.nodup_append]
      refine ⟨d7, nd1.2.1, fun z hz y hy e => ?_⟩
      subst e
      rcases d8 z hz with q | q | q
      · exact nd1.2.2 z (by simp [q]) z hy rfl
      · exact nd1.2.2 z (by simp [q]) z hy rfl
      · have := hfs z hy; omega
    · rw [hL, d6]; simp [putIn, preC, postC, List.append_assoc]
theorem Sunk.end {m : NMap} {top : Option Nat} {L : List Item} (H : Sunk m top L []) :
    ∃ t its ps, top = some t ∧ m t = some ⟨its, ps⟩ ∧ its.length ≤ 6 ∧ (its ≠ [] → TreeIs m top L) ∧ (its = [] → (ps = [] ∧ TreeIs m none L) ∨ ∃ q, ps = [q] ∧ TreeIs m (some q) L) := by
  obtain ⟨fs, h, c, hs, hc, s, hnd, rfl, rfl⟩ := H
  cases fs with
  | cons f fs => simp [wayC] at hs
  | nil =>
    obtain ⟨its, cs, a1, a2, a3, a4, a5, a6⟩ := s
    refine ⟨c.g, its, _, rfl, a1, a3, fun hn => ?_, fun hn => ?_⟩
    · have l1 : 1 ≤ its.length := by cases its with | nil => exact absurd rfl hn | cons _ _ => simp
      exact Ctx.tree hc ⟨its, cs, a1, l1, a3, a4, a5, a6⟩ hnd
    · subst hn
      cases h with
      | zero =>
        rw [kids_zero.1 a4] at a5 ⊢
        exact .inl ⟨rfl, by show _ = []; rw [a5]; rfl⟩
      | succ h =>
        obtain ⟨k1, k2⟩ := kids_succ.1 a4
        match cs, k1 with
        | [d], _ =>
          refine .inr ⟨d.g, rfl, h, d.I, ?_, ?_⟩
          · have s := k2 d (by simp)
            have e : preC [] ++ (c.l ++ postC []) = d.l := by rw [a5]; simp [preC, postC, weave]
            rw [e]; exact s.mono (by omega) (Nat.le_refl _)
          · rw [a6] at hnd
            simpa [idsC] using (List.nodup_cons.1 (List.nodup_append.1 hnd).1).2

/-- all nodes of a way that stand on the right edge -/
def Edge : List Fr → Prop
  | [] => True
  | f :: fs => f.ys = [] ∧ f.rs = [] ∧ Edge fs
theorem Edge.post : ∀ {sp : List Fr}, Edge sp → ∀ fs, postC (sp ++ fs) = postC fs
  | [], _, _ => rfl
  | f :: sp, ⟨h1, h2, h3⟩, fs => by rw [List.cons_append, postC, h1, h2, Edge.post h3]; rfl
theorem topC_append : ∀ (sp fs : List Fr) (f f' : Fr) (p : Nat), f.g = f'.g → topC p (sp ++ f :: fs) = topC p (sp ++ f' :: fs)
  | [], fs, f, f', p, h => by simp [topC, h]
  | s :: sp, fs, f, f', p, h => by simp only [List.cons_append, topC]; exact topC_append sp fs f f' s.g h
theorem preC_append : ∀ (sp fs : List Fr) (f f' : Fr), f.ls = f'.ls → f.xs = f'.xs → preC (sp ++ f :: fs) = preC (sp ++ f' :: fs)
  | [], fs, f, f', h1, h2 => by simp [preC, h1, h2]
  | s :: sp, fs, f, f', h1, h2 => by simp only [List.cons_append, preC]; rw [preC_append sp fs f f' h1 h2]
theorem wayC_append : ∀ (sp fs : List Fr) (f f' : Fr), f.g = f'.g → f.xs = f'.xs → wayC (sp ++ f :: fs) = wayC (sp ++ f' :: fs)
  | [], fs, f, f', h1, h2 => by simp [wayC, h1, h2]
  | s :: sp, fs, f, f', h1, h2 => by simp only [List.cons_append, wayC]; rw [wayC_append sp fs f f' h1 h2]
theorem idsC_append : ∀ (sp fs : List Fr) (f f' : Fr), idsF f = idsF f' → idsC (sp ++ f :: fs) = idsC (sp ++ f' :: fs)
  | [], fs, f, f', h1 => by simp [idsC, h1]
  | s :: sp, fs, f, f', h1 => by simp only [List.cons_append, idsC]; rw [idsC_append sp fs f f' h1]
theorem loC_append : ∀ (sp fs : List Fr) (f f' : Fr), loC (sp ++ f :: fs) = loC (sp ++ f' :: fs)
  | [], _, _, _ => rfl
  | _ :: _, _, _, _ => rfl
theorem mem_idsC_append {sp fs : List Fr} {f : Fr} {z : Nat} : z ∈ idsC (sp ++ f :: fs) ↔ z ∈ idsC sp ∨ z ∈ idsF f ∨ z ∈ idsC fs := by
  induction sp with
  | nil => simp [idsC]
  | cons s sp ih => simp only [List.cons_append, idsC, List.mem_append, ih, or_assoc]
/-- an item of one of the nodes of a way written anew -/
theorem Ctx.reset {m m' : NMap} : ∀ {sp fs : List Fr} {f f' : Fr} {h p : Nat}, Ctx m h p (sp ++ f :: fs) → f'.g = f.g → f'.xs = f.xs → f'.ls = f.ls → f'.rs = f.rs → f'.ys.length = f.ys.length → (idsC (sp ++ f :: fs)).Nodup →
    m' f.g = some ⟨f'.xs ++ f'.ys, ((m f.g).getD ⟨[], []⟩).ps⟩ → (∀ z, z ≠ f.g → m' z = m z) → Ctx m' h p (sp ++ f' :: fs)
  | [], fs, f, f', h, p, hc, e1, e2, e3, e4, e5, hnd, h1, h2 => by
    obtain ⟨hf, l1, l2, hc'⟩ := hc
    have nd := List.nodup_append.1 hnd
    have ndf := List.nodup_cons.1 nd.1
    rw [hf.at_] at h1
    have lz : (f'.xs ++ f'.ys).length = (f.xs ++ f.ys).length := by rw [List.length_append, List.length_append, e2, e5]
    refine ⟨⟨by rw [e1, h1, e3, e4]; rfl, by rw [e3, e2]; exact hf.left, by rw [e4, e5]; exact hf.right, fun d hd => ?_⟩, by rw [lz]; exact l1, by rw [lz]; exact l2, by rw [e1]; exact hc'.congr (fun z hz => h2 z (fun e => nd.2.2 f.g (mem_idsF.2 (.inl rfl)) z hz e.symm))⟩
    rw [e3, e4] at hd
    exact (hf.kids d hd).congr (fun z hz => h2 z (fun e => ndf.1 (List.mem_flatMap.2 ⟨d, hd, e ▸ hz⟩)))
  | s :: sp, fs, f, f', h, p, hc, e1, e2, e3, e4, e5, hnd, h1, h2 => by
    obtain ⟨hf, l1, l2, hc'⟩ := hc
    have nd := List.nodup_append.1 hnd
    have hfg : f.g ∈ idsC (sp ++ f :: fs) := mem_idsC_append.2 (.inr (.inl (mem_idsF.2 (.inl rfl))))
    refine ⟨hf.congr (fun z hz => h2 z (fun e => nd.2.2 z hz f.g hfg e)), Nat.le_trans (Nat.le_of_eq (loC_append sp fs f' f)) l1, l2, Ctx.reset hc' e1 e2 e3 e4 e5 nd.2.1 h1 h2⟩

/-- on the way down the right edge below an item of node g0, at place i0: at node q, of height h -/
def Spine (m : NMap) (top : Option Nat) (L : List Item) (steps : List (Nat × Nat)) (g0 i0 q h : Nat) : Prop :=
  ∃ sp f fs x ys d Z, Edge sp ∧ f.g = g0 ∧ f.xs.length = i0 ∧ f.ys = x :: ys ∧ d.g = q ∧ steps = wayC (sp ++ f :: fs) ∧ Ctx m h d.g (sp ++ f :: fs) ∧ Sub m h 3 6 d ∧ (d.I ++ idsC (sp ++ f :: fs)).Nodup ∧ top = some (topC d.g (sp ++ f :: fs)) ∧
    (∀ y, postW (y :: ys) f.rs ++ postC fs = y :: Z) ∧ L = preC (sp ++ f :: fs) ++ (d.l ++ Z)
/-- at the end of it: what is to be written over the item at g0, i0, and taken away at its own place -/
def Bottom (m : NMap) (top : Option Nat) (L : List Item) (steps : List (Nat × Nat)) (g0 i0 g n : Nat) : Prop :=
  ∃ its0 p its ps, m g = some ⟨its0 ++ [p], []⟩ ∧ its0.length = n ∧ n ≤ 5 ∧ m g0 = some ⟨its, ps⟩ ∧ its.length ≤ 6 ∧ i0 < its.length ∧ g ≠ g0 ∧ ∀ m' : NMap, m' g0 = some ⟨its.set i0 p, ps⟩ → (∀ z, z ≠ g0 → m' z = m z) → Lowered m' top L steps g n
theorem Found.lower {m : NMap} {top : Option Nat} {l : List Item} {k u : ByteArray} {steps : List (Nat × Nat)} {g i : Nat} (H : Found m top l k u steps g i) :
    ∃ its ps, m g = some ⟨its, ps⟩ ∧ i < its.length ∧ its.length ≤ 6 ∧ (ps = [] ∨ ps.length = its.length + 1) ∧ (ps = [] → Lowered m top (delN l k) steps g i) ∧ ∀ q, ps[i]? = some q → ∃ h, Spine m top (delN l k) (steps ++ [(g, i)]) g i q h := by
  obtain ⟨A, B, hl, hA, _, _, hdel⟩ := H.cut
  obtain ⟨fs, h, xs, ys, cs, hs, rfl, hc, hm, hk, l1, l2, hnd, ht, hl2, hu⟩ := H
  refine ⟨_, _, hm, by simp, l2, ?_, fun hp => ?_, fun q hq => ?_⟩
  · rcases hk.ps with ⟨_, z⟩ | ⟨_, z⟩
    · exact .inl z
    · exact .inr z
  · rcases hk.ps with ⟨rfl, _⟩ | ⟨_, z⟩
    · have hcs := kids_zero.1 hk
      subst hcs
      rw [weave_nil] at hl2
      have hu2 : Under (preC fs ++ xs) k := by simpa [weave_nil] using hu
      have hdel2 : delN l k = preC fs ++ ((xs ++ ys) ++ postC fs) := by
        rw [hl2, show preC fs ++ ((xs ++ (k, u) :: ys) ++ postC fs) = (preC fs ++ xs) ++ (k, u) :: (ys ++ postC fs) by simp]
        rw [show delN ((preC fs ++ xs) ++ (k, u) :: (ys ++ postC fs)) k = _ from delN_key (x := (k, u)) hu2 _]
        simp
      exact ⟨fs, xs, (k, u), ys, hs, rfl, hc, hm, l1, l2, by simpa using hnd, ht, hdel2⟩
    · rw [hp] at z; simp at z
  · cases h with
    | zero => rw [kids_zero.1 hk] at hq; simp at hq
    | succ h =>
      obtain ⟨d, e1, e2, e3, e4, e5⟩ := Sub.down (c := ⟨g, weave cs (xs ++ (k, u) :: ys), g :: cs.flatMap Ch.I⟩) (i := xs.length) hm hk rfl rfl (by simp) l1 l2
      have t1 : (xs ++ (k, u) :: ys).take xs.length = xs := by simp
      have t2 : (xs ++ (k, u) :: ys).drop xs.length = (k, u) :: ys := by simp
      rw [t1, t2] at e3 e4 e5
      have hqd : q = d.g := by
        rw [List.getElem?_map, e1] at hq
        exact (Option.some.inj hq).symm
      subst hqd
      have w2 := e3.right
      obtain ⟨b, rs, hrs⟩ : ∃ b rs, cs.drop (xs.length + 1) = b :: rs := by
        cases hz : cs.drop (xs.length + 1) with
        | nil => have w3 : (cs.drop (xs.length + 1)).length = ys.length + 1 := w2; rw [hz] at w3; simp at w3
        | cons b rs => exact ⟨b, rs, rfl⟩
      rw [hrs] at e3 e4 e5
      refine ⟨h, [], ⟨g, xs, (k, u) :: ys, cs.take xs.length, b :: rs⟩, fs, (k, u), ys, d, b.l ++ (postW ys rs ++ postC fs), trivial, rfl, rfl, rfl, rfl, by rw [hs]; rfl, ⟨e3, l1, l2, hc⟩, e2, ?_, ht, fun y => by simp [postW], ?_⟩
      · rw [List.nil_append, idsC, ← List.append_assoc]
        have e5' : g :: cs.flatMap Ch.I = (putIn ⟨g, xs, (k, u) :: ys, cs.take xs.length, b :: rs⟩ d).I := e5
        rw [e5'] at hnd
        exact (((putIn_perm _ d).append_right _).nodup_iff).1 hnd
      · have e4' : weave cs (xs ++ (k, u) :: ys) = preW (cs.take xs.length) xs ++ (d.l ++ postW ((k, u) :: ys) (b :: rs)) := e4
        have hl3 : l = (preC fs ++ (preW (cs.take xs.length) xs ++ d.l)) ++ (k, u) :: (b.l ++ (postW ys rs ++ postC fs)) := by rw [hl2, e4']; simp [postW]
        have hu3 : Under (preC fs ++ (preW (cs.take xs.length) xs ++ d.l)) k := by
          have hw := weave_cut hk (i := xs.length) (x := (k, u)) (by simp)
          rw [t1] at hw
          have q1 : weave (cs.take (xs.length + 1)) xs = preW (cs.take xs.length) xs ++ d.l := by
            have z1 : cs.take (xs.length + 1) = cs.take xs.length ++ [d] := by
              rw [List.take_add_one, e1]; rfl
            have z2 := weave_hole (ls := cs.take xs.length) (xs := xs) (c := d) (rs := []) (ys := []) e3.left rfl
            rw [z1]
            simpa [postW] using z2
          rw [q1] at hu
          exact hu
        rw [hl3, show delN ((preC fs ++ (preW (cs.take xs.length) xs ++ d.l)) ++ (k, u) :: (b.l ++ (postW ys rs ++ postC fs))) k = _ from delN_key (x := (k, u)) hu3 _]
        simp [preC]
theorem Spine.step {m : NMap} {top : Option Nat} {L : List Item} {steps : List (Nat × Nat)} {g0 i0 q h : Nat} (H : Spine m top L steps g0 i0 q h) :
    ∃ its ps, m q = some ⟨its, ps⟩ ∧ 3 ≤ its.length ∧ its.length ≤ 6 ∧ (ps = [] ∨ ps.length = its.length + 1) ∧ (ps = [] → Bottom m top L steps g0 i0 q (its.length - 1)) ∧ ∀ r, ps[its.length]? = some r → 0 < h ∧ Spine m top L (steps ++ [(q, its.length)]) g0 i0 r (h - 1) := by
  obtain ⟨sp, f, fs, x, ys, d, Z, hE, rfl, rfl, hy, rfl, rfl, hc, s, hnd, ht, hZ, hL⟩ := H
  have s0 := s
  obtain ⟨its, cs, a1, a2, a3, a4, a5, a6⟩ := s
  refine ⟨its, _, a1, a2, a3, ?_, fun hp => ?_, fun r hr => ?_⟩
  · rcases a4.ps with ⟨_, z⟩ | ⟨_, z⟩
    · exact .inl z
    · exact .inr z
  · rcases a4.ps with ⟨rfl, _⟩ | ⟨_, z⟩
    · have hcs := kids_zero.1 a4
      subst hcs
      rw [weave_nil] at a5
      obtain ⟨its0, p, rfl⟩ : ∃ its0 p, its = its0 ++ [p] := by
        rcases List.eq_nil_or_concat its with rfl | ⟨a, b, rfl⟩
        · simp at a2
        · exact ⟨a, b, by simp⟩
      -- f's own record
      have hfm : ∃ ps, m f.g = some ⟨f.xs ++ f.ys, ps⟩ := by
        have : ∀ (sp : List Fr) (h p : Nat), Ctx m h p (sp ++ f :: fs) → ∃ ps, m f.g = some ⟨f.xs ++ f.ys, ps⟩ := by
          intro sp
          induction sp with
          | nil => intro h p hc; exact ⟨_, hc.1.at_⟩
          | cons s sp ih => intro h p hc; exact ih _ _ hc.2.2.2
        exact this sp 0 d.g hc
      obtain ⟨ps, hfm⟩ := hfm
      have hfl : (f.xs ++ f.ys).length ≤ 6 := by
        have : ∀ (sp : List Fr) (h p : Nat), Ctx m h p (sp ++ f :: fs) → (f.xs ++ f.ys).length ≤ 6 := by
          intro sp
          induction sp with
          | nil => intro h p hc; exact hc.2.2.1
          | cons s sp ih => intro h p hc; exact ih _ _ hc.2.2.2
        exact this sp 0 d.g hc
      have nd1 := List.nodup_append.1 hnd
      have hne : d.g ≠ f.g := fun e => nd1.2.2 d.g (sub_mem_g s0) f.g (mem_idsC_append.2 (.inr (.inl (mem_idsF.2 (.inl rfl))))) e
      refine ⟨its0, p, _, ps, a1, by simp, by simp at a3 ⊢; omega, hfm, hfl, by rw [hy]; simp, hne, fun m' h1 h2 => ?_⟩
      have hset : (f.xs ++ f.ys).set f.xs.length p = f.xs ++ p :: ys := by
        rw [hy, List.set_append_right _ _ (Nat.le_refl _)]; simp
      rw [hset] at h1
      have hc2 : Ctx m' 0 d.g (sp ++ ⟨f.g, f.xs, p :: ys, f.ls, f.rs⟩ :: fs) :=
        Ctx.reset (f' := ⟨f.g, f.xs, p :: ys, f.ls, f.rs⟩) hc rfl rfl rfl rfl (by rw [hy]; rfl) nd1.2.1 (by rw [hfm]; exact h1) h2
      have e1 : idsF f = idsF ⟨f.g, f.xs, p :: ys, f.ls, f.rs⟩ := rfl
      refine ⟨sp ++ ⟨f.g, f.xs, p :: ys, f.ls, f.rs⟩ :: fs, its0, p, [], wayC_append _ _ _ _ rfl rfl, by simp, hc2, ?_, ?_, a3, ?_, ?_, ?_⟩
      · rw [h2 d.g hne]; exact a1
      · have : loC (sp ++ ⟨f.g, f.xs, p :: ys, f.ls, f.rs⟩ :: fs) ≤ 3 := by cases sp <;> simp [loC]
        omega
      · rw [← idsC_append sp fs f _ e1]
        rw [a6] at hnd
        simpa using hnd
      · rw [ht, topC_append sp fs f ⟨f.g, f.xs, p :: ys, f.ls, f.rs⟩ d.g rfl]
      · rw [hL, a5, preC_append sp fs f ⟨f.g, f.xs, p :: ys, f.ls, f.rs⟩ rfl rfl, hE.post, postC]
        have z := hZ p
        show _ = _ ++ ((its0 ++ []) ++ (postW (p :: ys) f.rs ++ postC fs))
        rw [z]; simp
    · rw [hp] at z; simp at z
  · cases h with
    | zero => rw [kids_zero.1 a4] at hr; simp at hr
    | succ h =>
      obtain ⟨d2, e1, e2, e3, e4, e5⟩ := Sub.down a1 a4 a5 a6 (Nat.le_refl _) a2 a3
      have hqd : r = d2.g := by
        rw [List.getElem?_map, e1] at hr
        exact (Option.some.inj hr).symm
      subst hqd
      have t1 : its.take its.length = its := List.take_of_length_le (Nat.le_refl _)
      have t2 : its.drop its.length = [] := List.drop_of_length_le (Nat.le_refl _)
      have t3 : cs.drop (its.length + 1) = [] := List.drop_of_length_le (by rw [(kids_succ.1 a4).1]; omega)
      rw [t1, t2, t3] at e3 e4 e5
      refine ⟨by omega, ⟨d.g, its, [], cs.take its.length, []⟩ :: sp, f, fs, x, ys, d2, Z, ⟨rfl, rfl, hE⟩, rfl, rfl, hy, rfl, rfl, ⟨e3, ?_, by simpa using a3, hc⟩, e2, ?_, ht, hZ, ?_⟩
      · have : loC (sp ++ f :: fs) ≤ 3 := by cases sp <;> simp [loC]
        show loC (sp ++ f :: fs) ≤ (its ++ []).length
        rw [List.append_nil]; omega
      · rw [List.cons_append, idsC, ← List.append_assoc]
        rw [e5] at hnd
        exact (((putIn_perm _ d2).append_right _).nodup_iff).1 hnd
      · rw [hL, e4]; simp [preC, postW]
end Go.Proofs.YtglinhcldgpphaaGreat
