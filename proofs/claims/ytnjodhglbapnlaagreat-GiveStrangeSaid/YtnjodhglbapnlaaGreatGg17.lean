import Derived.Test.YtnjodhglbapnlaaGreatGg15
import Derived.Test.YtnjodhglbapnlaaGreatGg01
set_option maxRecDepth 100000
set_option maxHeartbeats 16000000
namespace Go.Proofs.YtnjodhglbapnlaaGreat
open Go.RowKit
structure Ch where
 g : Nat
 l : List Item
 I : List Nat
def yab : List Ch → List Item → List Item
 | c :: cs, x :: xs => c.l ++ x :: yab cs xs
 | c :: _, [] => c.l
 | [], xs => xs
def Kids (m : NMap) : Nat → List Ch → Nat → Prop
 | 0, cs, _ => cs = []
 | h + 1, cs, n => cs.length = n + 1 ∧ ∀ d ∈ cs, ∃ its ds, m d.g = some ⟨its, ds.map Ch.g⟩ ∧ 3 ≤ its.length ∧ its.length ≤ 6 ∧ Kids m h ds its.length ∧ d.l = yab ds its ∧ d.I = d.g :: ds.flatMap Ch.I
def Sub (m : NMap) (h lo hi : Nat) (c : Ch) : Prop :=
 ∃ its cs, m c.g = some ⟨its, cs.map Ch.g⟩ ∧ lo ≤ its.length ∧ its.length ≤ hi ∧ Kids m h cs its.length ∧ c.l = yab cs its ∧ c.I = c.g :: cs.flatMap Ch.I
theorem ybd {m : NMap} {cs : List Ch} {n : Nat} : Kids m 0 cs n ↔ cs = [] := Iff.rfl
theorem ybi {m : NMap} {h n : Nat} {cs : List Ch} : Kids m (h + 1) cs n ↔ cs.length = n + 1 ∧ ∀ d ∈ cs, Sub m h 3 6 d := Iff.rfl
theorem Sub.mono {m : NMap} {h lo hi lo' hi' : Nat} {c : Ch} (k : Sub m h lo hi c) (h1 : lo' ≤ lo) (h2 : hi ≤ hi') : Sub m h lo' hi' c := by
 obtain ⟨its, cs, a, b, c, d⟩ := k
 exact ⟨its, cs, a, by omega, by omega, d⟩
mutual
theorem Kids.congr {m m' : NMap} : ∀ {h : Nat} {cs : List Ch} {n : Nat}, Kids m h cs n → (∀ d ∈ cs, ∀ x ∈ d.I, m' x = m x) → Kids m' h cs n
 | 0, _, _, k, _ => k
 | h + 1, cs, n, k, e => ⟨k.1, fun d hd => Sub.congr (h := h) (k.2 d hd) (e d hd)⟩
theorem Sub.congr {m m' : NMap} : ∀ {h lo hi : Nat} {c : Ch}, Sub m h lo hi c → (∀ x ∈ c.I, m' x = m x) → Sub m' h lo hi c
 | h, lo, hi, c, ⟨its, cs, a, b, b', k, l, i⟩, e => ⟨its, cs, by rw [e c.g (by rw [i]; simp)]; exact a, b, b', Kids.congr (h := h) k (fun d hd x hx => e x (by rw [i]; exact List.mem_cons_of_mem _ (List.mem_flatMap.2 ⟨d, hd, hx⟩))), l, i⟩
end
theorem yef (its : List Item) : yab [] its = its := by cases its <;> rfl
theorem ykg : ∀ {cs ds : List Ch} {its js : List Item} (x : Item), (cs = [] ∧ ds = []) ∨ cs.length = its.length + 1 → yab (cs ++ ds) (its ++ x :: js) = yab cs its ++ x :: yab ds js
 | cs, ds, its, js, x, .inl ⟨h1, h2⟩ => by subst h1 h2; simp [yef]
 | [], _, _, _, _, .inr h => by simp at h
 | [c], ds, [], js, x, .inr _ => by simp [yab]
 | c :: c' :: cs, _, [], _, _, .inr h => by simp at h
 | c :: cs, ds, y :: its, js, x, .inr h => by
  have := ykg (cs := cs) (ds := ds) (its := its) (js := js) x (.inr (by simpa using h))
  simp only [List.cons_append, yab, this, List.append_assoc]
def preW : List Ch → List Item → List Item
 | a :: ls, x :: xs => a.l ++ x :: preW ls xs
 | _, _ => []
def yba : List Item → List Ch → List Item
 | y :: ys, b :: rs => y :: (b.l ++ yba ys rs)
 | _, _ => []
theorem yn2 : ∀ {c : Ch} {rs : List Ch} {ys : List Item}, rs.length = ys.length → yab (c :: rs) ys = c.l ++ yba ys rs
 | c, [], [], _ => by simp [yab, yba]
 | c, b :: rs, y :: ys, h => by rw [yab, yn2 (by simpa using h), yba]
 | c, [], y :: ys, h => by simp at h
 | c, b :: rs, [], h => by simp at h
theorem ygx : ∀ {ls : List Ch} {xs : List Item} {c : Ch} {rs : List Ch} {ys : List Item}, ls.length = xs.length → rs.length = ys.length → yab (ls ++ c :: rs) (xs ++ ys) = preW ls xs ++ (c.l ++ yba ys rs)
 | [], [], c, rs, ys, _, h => by simp [preW, yn2 h]
 | a :: ls, x :: xs, c, rs, ys, h, h2 => by
  have := ygx (ls := ls) (xs := xs) (c := c) (by simpa using h) h2
  simp only [List.cons_append, yab, this, preW, List.append_assoc]
 | [], x :: xs, _, _, _, h, _ => by simp at h
 | a :: ls, [], _, _, _, h, _ => by simp at h
structure Fr where
 g : Nat
 xs : List Item
 ys : List Item
 ls : List Ch
 rs : List Ch
def loC : List Fr → Nat
 | [] => 1
 | _ :: _ => 3
structure Frm (m : NMap) (h p : Nat) (f : Fr) : Prop where
 at_ : m f.g = some ⟨f.xs ++ f.ys, f.ls.map Ch.g ++ p :: f.rs.map Ch.g⟩
 left : f.ls.length = f.xs.length
 right : f.rs.length = f.ys.length
 kids : ∀ d ∈ f.ls ++ f.rs, Sub m h 3 6 d
def Ctx (m : NMap) : Nat → Nat → List Fr → Prop
 | _, _, [] => True
 | h, p, f :: fs => Frm m h p f ∧ loC fs ≤ (f.xs ++ f.ys).length ∧ (f.xs ++ f.ys).length ≤ 6 ∧ Ctx m (h + 1) f.g fs
def preC : List Fr → List Item
 | [] => []
 | f :: fs => preC fs ++ preW f.ls f.xs
def yam : List Fr → List Item
 | [] => []
 | f :: fs => yba f.ys f.rs ++ yam fs
def idsF (f : Fr) : List Nat := f.g :: (f.ls ++ f.rs).flatMap Ch.I
def idsC : List Fr → List Nat
 | [] => []
 | f :: fs => idsF f ++ idsC fs
def topC : Nat → List Fr → Nat
 | p, [] => p
 | _, f :: fs => topC f.g fs
theorem ycg {f : Fr} {x : Nat} : x ∈ idsF f ↔ x = f.g ∨ ∃ d ∈ f.ls ++ f.rs, x ∈ d.I := by
 simp only [idsF, List.mem_cons, List.mem_flatMap]
theorem Frm.congr {m m' : NMap} {h p : Nat} {f : Fr} (k : Frm m h p f) (hm : ∀ x ∈ idsF f, m' x = m x) : Frm m' h p f :=
 ⟨by rw [hm f.g (ycg.2 (.inl rfl))]; exact k.at_, k.left, k.right, fun d hd => (k.kids d hd).congr (fun y hy => hm y (ycg.2 (.inr ⟨d, hd, hy⟩)))⟩
theorem Ctx.congr {m m' : NMap} : ∀ {h p : Nat} {fs : List Fr}, Ctx m h p fs → (∀ x ∈ idsC fs, m' x = m x) → Ctx m' h p fs
 | _, _, [], _, _ => trivial
 | h, p, f :: fs, ⟨a, e, e', k⟩, hm => ⟨a.congr (fun x hx => hm x (by simp [idsC, hx])), e, e', Ctx.congr k (fun y hy => hm y (by simp [idsC, hy]))⟩
def putIn (f : Fr) (c : Ch) : Ch := ⟨f.g, preW f.ls f.xs ++ (c.l ++ yba f.ys f.rs), f.g :: (f.ls ++ c :: f.rs).flatMap Ch.I⟩
theorem ygy (f : Fr) (c : Ch) : (putIn f c).I.Perm (c.I ++ idsF f) := by
 show (f.g :: (f.ls ++ c :: f.rs).flatMap Ch.I).Perm (c.I ++ (f.g :: (f.ls ++ f.rs).flatMap Ch.I))
 simp only [List.flatMap_append, List.flatMap_cons]
 refine List.Perm.trans ?_ (List.perm_middle.symm)
 refine List.Perm.cons _ ?_
 rw [← List.append_assoc, ← List.append_assoc]
 exact (List.perm_append_comm).append_right _
theorem Frm.putIn {m : NMap} {h lo hi : Nat} {f : Fr} {c : Ch} (k : Frm m h c.g f) (s : Sub m h 3 6 c) (h1 : lo ≤ (f.xs ++ f.ys).length) (h2 : (f.xs ++ f.ys).length ≤ hi) : Sub m (h + 1) lo hi (putIn f c) := by
 refine ⟨f.xs ++ f.ys, f.ls ++ c :: f.rs, by rw [List.map_append, List.map_cons]; exact k.at_, h1, h2, ?_, (ygx k.left k.right).symm, rfl⟩
 have e1 := k.left
 have e2 := k.right
 refine ybi.2 ⟨by simp; omega, fun x hx => ?_⟩
 rcases List.mem_append.1 hx with z | z
 ·exact k.kids x (by simp [z])
 ·rcases List.mem_cons.1 z with rfl | z
  ·exact s
  ·exact k.kids x (by simp [z])
theorem Ctx.plug {m : NMap} : ∀ {h : Nat} {fs : List Fr} {c : Ch}, Ctx m h c.g fs → Sub m h (loC fs) 6 c → ∃ I', Sub m (h + fs.length) 1 6 ⟨topC c.g fs, preC fs ++ (c.l ++ yam fs), I'⟩ ∧ I'.Perm (c.I ++ idsC fs)
 | h, [], c, _, s => ⟨c.I, by simp only [preC, yam, topC, List.nil_append, List.append_nil]; exact s, by simp [idsC]⟩
 | h, f :: fs, c, k, s => by
  have s1 := k.1.putIn s k.2.1 k.2.2.1
  obtain ⟨I', a, b⟩ := Ctx.plug (c := Go.Proofs.YtnjodhglbapnlaaGreat.putIn f c) k.2.2.2 s1
  refine ⟨I', ?_, b.trans ?_⟩
  ·have e : h + (f :: fs).length = h + 1 + fs.length := by rw [List.length_cons]; omega
   rw [e]
   simpa [Go.Proofs.YtnjodhglbapnlaaGreat.putIn, preC, yam, topC, List.append_assoc] using a
  ·rw [idsC, ← List.append_assoc]
   exact (ygy f c).append_right _
def wayC : List Fr → List (Nat × Nat)
 | [] => []
 | f :: fs => wayC fs ++ [(f.g, f.xs.length)]
theorem yn3 : ∀ fs : List Fr, (wayC fs).length = fs.length
 | [] => rfl
 | f :: fs => by rw [wayC, List.length_append, yn3 fs]; rfl
theorem Kids.take {m : NMap} {n i : Nat} : ∀ {h : Nat} {cs : List Ch}, Kids m h cs n → i ≤ n → Kids m h (cs.take (i + 1)) i
 | 0, cs, k, _ => by rw [ybd.1 k]; exact ybd.2 (by simp)
 | h + 1, cs, k, hi => by
  obtain ⟨a, b⟩ := ybi.1 k
  exact ybi.2 ⟨by rw [List.length_take]; omega, fun d hd => b d (List.mem_of_mem_take hd)⟩
theorem Kids.drop {m : NMap} {n i : Nat} : ∀ {h : Nat} {cs : List Ch}, Kids m h cs n → i < n → Kids m h (cs.drop (i + 1)) (n - (i + 1))
 | 0, cs, k, _ => by rw [ybd.1 k]; exact ybd.2 (by simp)
 | h + 1, cs, k, hi => by
  obtain ⟨a, b⟩ := ybi.1 k
  exact ybi.2 ⟨by rw [List.length_drop]; omega, fun d hd => b d (List.mem_of_mem_drop hd)⟩
theorem Kids.app {m : NMap} {n k : Nat} : ∀ {h : Nat} {cs ds : List Ch}, Kids m h cs n → Kids m h ds k → Kids m h (cs ++ ds) (n + 1 + k)
 | 0, cs, ds, a, b => by rw [ybd.1 a, ybd.1 b]; exact ybd.2 rfl
 | h + 1, cs, ds, a, b => by
  obtain ⟨a1, a2⟩ := ybi.1 a
  obtain ⟨b1, b2⟩ := ybi.1 b
  exact ybi.2 ⟨by rw [List.length_append]; omega, fun d hd => by
   rcases List.mem_append.1 hd with z | z
   ·exact a2 d z
   ·exact b2 d z⟩
theorem Kids.fit {m : NMap} {n k : Nat} : ∀ {h : Nat} {cs ds : List Ch}, Kids m h cs n → Kids m h ds k → (cs = [] ∧ ds = []) ∨ cs.length = n + 1
 | 0, _, _, a, b => .inl ⟨ybd.1 a, ybd.1 b⟩
 | _ + 1, _, _, a, _ => .inr (ybi.1 a).1
theorem Kids.ps {m : NMap} {n : Nat} : ∀ {h : Nat} {cs : List Ch}, Kids m h cs n → (h = 0 ∧ cs.map Ch.g = []) ∨ (0 < h ∧ (cs.map Ch.g).length = n + 1)
 | 0, _, a => .inl ⟨rfl, by rw [ybd.1 a]; rfl⟩
 | _ + 1, _, a => .inr ⟨by omega, by rw [List.length_map]; exact (ybi.1 a).1⟩
theorem yil {α : Type} {l : List α} {i : Nat} {x : α} (h : l[i]? = some x) : l = l.take i ++ x :: l.drop (i + 1) := by
 obtain ⟨hi, rfl⟩ := List.getElem?_eq_some_iff.1 h
 rw [← List.drop_eq_getElem_cons hi, List.take_append_drop]
theorem yfv {m : NMap} {h i : Nat} {cs : List Ch} {its : List Item} {x : Item} (k : Kids m h cs its.length) (hx : its[i]? = some x) : yab cs its = yab (cs.take (i + 1)) (its.take i) ++ x :: yab (cs.drop (i + 1)) (its.drop (i + 1)) := by
 have hi : i < its.length := (List.getElem?_eq_some_iff.1 hx).1
 have k1 := k.take (i := i) (by omega)
 have k2 := k.drop hi
 have e := ykg (cs := cs.take (i + 1)) (ds := cs.drop (i + 1)) (its := its.take i) (js := its.drop (i + 1)) x (by
  rcases k1.fit k2 with z | z
  ·exact .inl z
  ·exact .inr (by rw [z, List.length_take]; omega))
 rwa [List.take_append_drop, ← yil hx] at e
theorem yv5 (cs : List Ch) (i : Nat) : (cs.flatMap Ch.I) = (cs.take i).flatMap Ch.I ++ (cs.drop i).flatMap Ch.I := by
 rw [← List.flatMap_append, List.take_append_drop]
theorem Sub.split {m m' : NMap} {h : Nat} {c : Ch} {its : List Item} {cs : List Ch} (hk : Kids m h cs its.length) (hl : c.l = yab cs its) (hI : c.I = c.g :: cs.flatMap Ch.I) (hnd : c.I.Nodup) {b : Nat} (hb : b ∉ c.I) {mid : Nat} (h1 : 3 ≤ mid) (h2 : mid ≤ 6)
  (h3 : 3 ≤ its.length - (mid + 1)) (h4 : its.length - (mid + 1) ≤ 6) {x : Item} (hx : its[mid]? = some x) (e1 : m' c.g = some ⟨its.take mid, (cs.map Ch.g).take (mid + 1)⟩) (e2 : m' b = some ⟨its.drop (mid + 1), (cs.map Ch.g).drop (mid + 1)⟩) (e3 : ∀ y, y ≠ c.g → y ≠ b → m' y = m y) :
  ∃ cl cr : Ch, cl.g = c.g ∧ cr.g = b ∧ Sub m' h 3 6 cl ∧ Sub m' h 3 6 cr ∧ c.l = cl.l ++ x :: cr.l ∧ (cl.I ++ cr.I).Perm (b :: c.I) := by
 have hi : mid < its.length := by omega
 rw [hI, List.nodup_cons] at hnd
 rw [hI, List.mem_cons, not_or] at hb
 have same : ∀ d ∈ cs, ∀ y ∈ d.I, m' y = m y := fun d hd y hy => by
  have hy' : y ∈ cs.flatMap Ch.I := List.mem_flatMap.2 ⟨d, hd, hy⟩
  exact e3 y (fun e => hnd.1 (e ▸ hy')) (fun e => hb.2 (e ▸ hy'))
 have k1 := (hk.take (i := mid) (by omega)).congr (m' := m') (fun d hd => same d (List.mem_of_mem_take hd))
 have k2 := (hk.drop hi).congr (m' := m') (fun d hd => same d (List.mem_of_mem_drop hd))
 have t1 : (its.take mid).length = mid := by rw [List.length_take]; omega
 have t2 : (its.drop (mid + 1)).length = its.length - (mid + 1) := List.length_drop
 refine ⟨⟨c.g, yab (cs.take (mid + 1)) (its.take mid), c.g :: (cs.take (mid + 1)).flatMap Ch.I⟩, ⟨b, yab (cs.drop (mid + 1)) (its.drop (mid + 1)), b :: (cs.drop (mid + 1)).flatMap Ch.I⟩, rfl, rfl, ?_, ?_, ?_, ?_⟩
 ·exact ⟨its.take mid, cs.take (mid + 1), by rw [List.map_take]; exact e1, by omega, by omega, by rw [t1]; exact k1, rfl, rfl⟩
 ·exact ⟨its.drop (mid + 1), cs.drop (mid + 1), by rw [List.map_drop]; exact e2, by omega, by omega, by rw [t2]; exact k2, rfl, rfl⟩
 ·rw [hl]; exact yfv hk hx
 ·rw [hI, yv5 cs (mid + 1)]
  show (c.g :: _ ++ b :: _).Perm (b :: c.g :: _)
  refine List.perm_middle.trans ?_
  exact List.Perm.refl _
theorem Frm.more {m m' : NMap} {h lo hi : Nat} {f : Fr} {cl cr : Ch} {x : Item} (k : Frm m h cl.g f) (hg : ∀ d ∈ f.ls ++ f.rs, f.g ∉ d.I) (s1 : Sub m' h 3 6 cl) (s2 : Sub m' h 3 6 cr) (h1 : lo ≤ (f.xs ++ f.ys).length + 1) (h2 : (f.xs ++ f.ys).length + 1 ≤ hi)
  (e1 : m' f.g = some ⟨ya0 (f.xs ++ f.ys) f.xs.length x, ya0 (f.ls.map Ch.g ++ cl.g :: f.rs.map Ch.g) (f.xs.length + 1) cr.g⟩) (e2 : ∀ y, y ≠ f.g → m' y = m y) :
  Sub m' (h + 1) lo hi ⟨f.g, preW f.ls f.xs ++ (cl.l ++ x :: (cr.l ++ yba f.ys f.rs)), f.g :: (f.ls ++ cl :: cr :: f.rs).flatMap Ch.I⟩ := by
 have q1 : ya0 (f.xs ++ f.ys) f.xs.length x = f.xs ++ x :: f.ys := by simp [ya0]
 have q2 : ya0 (f.ls.map Ch.g ++ cl.g :: f.rs.map Ch.g) (f.xs.length + 1) cr.g = (f.ls ++ cl :: cr :: f.rs).map Ch.g := by
  rw [← k.left]
  have z : f.ls.length + 1 = (f.ls.map Ch.g ++ [cl.g]).length := by simp
  rw [show f.ls.map Ch.g ++ cl.g :: f.rs.map Ch.g = (f.ls.map Ch.g ++ [cl.g]) ++ f.rs.map Ch.g by simp, z, ya0, List.take_left', List.drop_left'] <;> simp
 rw [q1, q2] at e1
 have w1 := k.left
 have w2 := k.right
 refine ⟨_, _, e1, ?_, ?_, ?_, ?_, rfl⟩
 ·simp at h1 ⊢; omega
 ·simp at h2 ⊢; omega
 ·refine ybi.2 ⟨by simp; omega, fun d hd => ?_⟩
  have old : ∀ d ∈ f.ls ++ f.rs, Sub m' h 3 6 d := fun d hd => (k.kids d hd).congr (fun y hy => e2 y (fun e => hg d hd (e ▸ hy)))
  rcases List.mem_append.1 hd with z | z
  ·exact old d (by simp [z])
  ·rcases List.mem_cons.1 z with rfl | z
   ·exact s1
   ·rcases List.mem_cons.1 z with rfl | z
    ·exact s2
    ·exact old d (by simp [z])
 ·have e := ygx (ls := f.ls) (xs := f.xs) (c := cl) (rs := cr :: f.rs) (ys := x :: f.ys) w1 (by simp [w2])
  rw [e]; rfl
theorem yn4 {m' : NMap} {g lo hi : Nat} {its : List Item} (e1 : m' g = some ⟨its, []⟩) (h1 : lo ≤ its.length) (h2 : its.length ≤ hi) : Sub m' 0 lo hi ⟨g, its, [g]⟩ :=
 ⟨its, [], e1, h1, h2, ybd.2 rfl, (yef its).symm, rfl⟩
theorem yv6 {m m' : NMap} {h lo hi : Nat} {c : Ch} {xs ys : List Item} {x y : Item} {cs : List Ch} (hk : Kids m h cs (xs ++ x :: ys).length) (hI : c.I = c.g :: cs.flatMap Ch.I) (hnd : c.I.Nodup) (h1 : lo ≤ (xs ++ x :: ys).length) (h2 : (xs ++ x :: ys).length ≤ hi)
  (e1 : m' c.g = some ⟨xs ++ y :: ys, cs.map Ch.g⟩) (e2 : ∀ z, z ≠ c.g → m' z = m z) : Sub m' h lo hi ⟨c.g, yab cs (xs ++ y :: ys), c.I⟩ := by
 rw [hI, List.nodup_cons] at hnd
 have z : (xs ++ y :: ys).length = (xs ++ x :: ys).length := by simp
 refine ⟨xs ++ y :: ys, cs, e1, by omega, by omega, ?_, rfl, hI⟩
 rw [z]
 exact hk.congr (fun d hd w hw => e2 w (fun e => hnd.1 (e ▸ List.mem_flatMap.2 ⟨d, hd, hw⟩)))
theorem yv7 {m m' : NMap} {h : Nat} {ka kb : List Ch} {ia ib : List Item} {x : Item} (hka : Kids m h ka ia.length) (hkb : Kids m h kb ib.length) (e : ∀ d ∈ ka ++ kb, ∀ y ∈ d.I, m' y = m y) :
  Kids m' h (ka ++ kb) (ia ++ x :: ib).length ∧ yab (ka ++ kb) (ia ++ x :: ib) = yab ka ia ++ x :: yab kb ib := by
 have k := (hka.app hkb).congr (m' := m') e
 have z : (ia ++ x :: ib).length = ia.length + 1 + ib.length := by simp; omega
 refine ⟨by rw [z]; exact k, ykg x (hka.fit hkb)⟩
theorem ykh {α : Type} (l r : List α) (x : α) {i : Nat} (h : i = l.length) : yaj (l ++ x :: r) i = l ++ r := by
 subst h; simp [yaj]
theorem yv8 {α : Type} (l r : List α) (x y : α) {i : Nat} (h : i = l.length + 1) : yaj (l ++ x :: y :: r) i = l ++ x :: r := by
 have z : l ++ x :: y :: r = (l ++ [x]) ++ y :: r := by simp
 rw [z, ykh (l ++ [x]) r y (by simp [h])]; simp
theorem Kids.dom {m : NMap} : ∀ {h : Nat} {cs : List Ch} {n : Nat}, Kids m h cs n → ∀ d ∈ cs, ∀ x ∈ d.I, ∃ nd, m x = some nd
 | 0, cs, n, k, d, hd, x, hx => by rw [ybd.1 k] at hd; cases hd
 | h + 1, cs, n, k, d, hd, x, hx => by
  obtain ⟨its, ds, a, b, b', k', l, i⟩ := (ybi.1 k).2 d hd
  rw [i] at hx
  rcases List.mem_cons.1 hx with e | e
  ·exact ⟨_, by rw [e]; exact a⟩
  ·obtain ⟨d2, hd2, hx2⟩ := List.mem_flatMap.1 e
   exact Kids.dom k' d2 hd2 x hx2
theorem Sub.dom {m : NMap} {h lo hi : Nat} {c : Ch} (s : Sub m h lo hi c) : ∀ x ∈ c.I, ∃ nd, m x = some nd := by
 intro x hx
 obtain ⟨its, ds, a, b, b', k', l, i⟩ := s
 rw [i] at hx
 rcases List.mem_cons.1 hx with e | e
 ·exact ⟨_, by rw [e]; exact a⟩
 ·obtain ⟨d2, hd2, hx2⟩ := List.mem_flatMap.1 e
  exact Kids.dom k' d2 hd2 x hx2
theorem ye2 {m : NMap} {h lo hi : Nat} {c : Ch} (s : Sub m h lo hi c) : c.g ∈ c.I := by
 obtain ⟨its, ds, a, b, b', k', l, i⟩ := s
 rw [i]; simp
def idsN (g : Nat) (cs : List Ch) : List Nat := g :: cs.flatMap Ch.I
theorem yn5 {g x : Nat} {cs : List Ch} : x ∈ idsN g cs ↔ x = g ∨ ∃ d ∈ cs, x ∈ d.I := by simp only [idsN, List.mem_cons, List.mem_flatMap]
theorem yv9 {m m' : NMap} {h B g : Nat} {xs ys ia ib : List Item} {x : Item} {ls rs ka kb : List Ch} {ca cb : Ch}
  (hm : m g = some ⟨xs ++ x :: ys, ls.map Ch.g ++ ca.g :: cb.g :: rs.map Ch.g⟩) (hl : ls.length = xs.length) (hr : rs.length = ys.length) (hd : ∀ d ∈ ls ++ rs, Sub m h 3 6 d)
  (hka : Kids m h ka ia.length) (hla : ca.l = yab ka ia) (hIa : ca.I = ca.g :: ka.flatMap Ch.I) (hkb : Kids m h kb ib.length) (hlb : cb.l = yab kb ib) (hIb : cb.I = cb.g :: kb.flatMap Ch.I)
  (hnd : (idsN g (ls ++ ca :: cb :: rs)).Nodup) (hB : ∀ z ∈ idsN g (ls ++ ca :: cb :: rs), z < B) (h6 : (xs ++ x :: ys).length ≤ 6) (n1 : 6 ≤ (ia ++ x :: ib).length) (n2 : (ia ++ x :: ib).length ≤ 9)
  (hp : ((ia ++ x :: ib).length ≤ 6 ∧ m' = upd (upd m ca.g ⟨ia ++ x :: ib, ka.map Ch.g ++ kb.map Ch.g⟩) g ⟨yaj (xs ++ x :: ys) xs.length, yaj (ls.map Ch.g ++ ca.g :: cb.g :: rs.map Ch.g) (xs.length + 1)⟩) ∨
   (6 < (ia ++ x :: ib).length ∧ ∃ b y, (ia ++ x :: ib)[(ia ++ x :: ib).length / 2]? = some y ∧ B ≤ b ∧
    m' = upd (upd (upd (upd (upd m ca.g ⟨ia ++ x :: ib, ka.map Ch.g ++ kb.map Ch.g⟩) g ⟨yaj (xs ++ x :: ys) xs.length, yaj (ls.map Ch.g ++ ca.g :: cb.g :: rs.map Ch.g) (xs.length + 1)⟩) ca.g ⟨(ia ++ x :: ib).take ((ia ++ x :: ib).length / 2), (ka.map Ch.g ++ kb.map Ch.g).take ((ia ++ x :: ib).length / 2 + 1)⟩)
     b ⟨(ia ++ x :: ib).drop ((ia ++ x :: ib).length / 2 + 1), (ka.map Ch.g ++ kb.map Ch.g).drop ((ia ++ x :: ib).length / 2 + 1)⟩) g ⟨ya0 (yaj (xs ++ x :: ys) xs.length) xs.length y, ya0 (yaj (ls.map Ch.g ++ ca.g :: cb.g :: rs.map Ch.g) (xs.length + 1)) (xs.length + 1) b⟩)) :
  (∀ z, z ≠ g → z ≠ ca.g → z < B → m' z = m z) ∧ ∃ c'', c''.g = g ∧ Sub m' (h + 1) ((xs ++ x :: ys).length - 1) 6 c'' ∧ c''.l = preW ls xs ++ (ca.l ++ x :: (cb.l ++ yba ys rs)) ∧ c''.I.Nodup ∧ ∀ z ∈ c''.I, z ∈ idsN g (ls ++ ca :: cb :: rs) ∨ B ≤ z := by
 rw [ykh xs ys x rfl, yv8 (ls.map Ch.g) (rs.map Ch.g) ca.g cb.g (by simp [hl])] at hp
 obtain ⟨J, hJ⟩ : ∃ J, ia ++ x :: ib = J := ⟨_, rfl⟩
 have hall : idsN g (ls ++ ca :: cb :: rs) = g :: (ls.flatMap Ch.I ++ (ca.g :: (ka.flatMap Ch.I ++ (cb.g :: (kb.flatMap Ch.I ++ rs.flatMap Ch.I))))) := by
  simp [idsN, hIa, hIb]
 have nd := hnd
 rw [hall] at nd
 have ndg := (List.nodup_cons.1 nd).1
 have nd1 := (List.nodup_cons.1 nd).2
 have nd2 := List.nodup_append.1 nd1
 have ndc := (List.nodup_cons.1 nd2.2.1).1
 have ca_ls : ∀ z ∈ ls.flatMap Ch.I, z ≠ ca.g := fun z hz => nd2.2.2 z hz ca.g (by simp)
 have neq_g : ∀ z, z ∈ ls.flatMap Ch.I ∨ z = ca.g ∨ z ∈ ka.flatMap Ch.I ∨ z = cb.g ∨ z ∈ kb.flatMap Ch.I ∨ z ∈ rs.flatMap Ch.I → z ≠ g := by
  rintro z hz rfl
  refine ndg ?_
  simp only [List.mem_append, List.mem_cons]
  rcases hz with z | z | z | z | z | z <;> simp [z]
 have neq_ca : ∀ z, z ∈ ls.flatMap Ch.I ∨ z ∈ ka.flatMap Ch.I ∨ z = cb.g ∨ z ∈ kb.flatMap Ch.I ∨ z ∈ rs.flatMap Ch.I → z ≠ ca.g := by
  rintro z hz rfl
  rcases hz with z | z | z | z | z
  ·exact ca_ls _ z rfl
  all_goals
   refine ndc ?_
   simp only [List.mem_append, List.mem_cons]
   simp [z]
 have hag : ca.g ≠ g := neq_g _ (.inr (.inl rfl))
 have ltB : ∀ z, z = g ∨ z ∈ ls.flatMap Ch.I ∨ z = ca.g ∨ z ∈ ka.flatMap Ch.I ∨ z = cb.g ∨ z ∈ kb.flatMap Ch.I ∨ z ∈ rs.flatMap Ch.I → z < B := by
  intro z hz
  refine hB z ?_
  rw [hall]
  simp only [List.mem_append, List.mem_cons]
  rcases hz with z | z | z | z | z | z | z <;> simp [z]
 obtain ⟨m1, hm1⟩ : ∃ m1, upd (upd m ca.g ⟨ia ++ x :: ib, ka.map Ch.g ++ kb.map Ch.g⟩) g ⟨xs ++ ys, ls.map Ch.g ++ ca.g :: rs.map Ch.g⟩ = m1 := ⟨_, rfl⟩
 rw [hm1] at hp
 have m1g : m1 g = some ⟨xs ++ ys, ls.map Ch.g ++ ca.g :: rs.map Ch.g⟩ := by rw [← hm1, upd_same]
 have m1a : m1 ca.g = some ⟨J, (ka ++ kb).map Ch.g⟩ := by rw [← hm1, ya3 _ _ hag, upd_same, hJ, List.map_append]
 have m1o : ∀ z, z ≠ g → z ≠ ca.g → m1 z = m z := fun z h1 h2 => by rw [← hm1, ya3 _ _ h1, ya3 _ _ h2]
 have mem_k : ∀ d ∈ ka ++ kb, ∀ z ∈ d.I, z ∈ ka.flatMap Ch.I ∨ z ∈ kb.flatMap Ch.I := fun d hd z hz => by
  rcases List.mem_append.1 hd with e | e
  ·exact .inl (List.mem_flatMap.2 ⟨d, e, hz⟩)
  ·exact .inr (List.mem_flatMap.2 ⟨d, e, hz⟩)
 have mem_lr : ∀ d ∈ ls ++ rs, ∀ z ∈ d.I, z ∈ ls.flatMap Ch.I ∨ z ∈ rs.flatMap Ch.I := fun d hd z hz => by
  rcases List.mem_append.1 hd with e | e
  ·exact .inl (List.mem_flatMap.2 ⟨d, e, hz⟩)
  ·exact .inr (List.mem_flatMap.2 ⟨d, e, hz⟩)
 obtain ⟨jk, jw⟩ := yv7 (m' := m1) (x := x) hka hkb (fun d hd z hz => by
  rcases mem_k d hd z hz with e | e
  ·exact m1o z (neq_g z (by simp [e])) (neq_ca z (by simp [e]))
  ·exact m1o z (neq_g z (by simp [e])) (neq_ca z (by simp [e])))
 rw [hJ] at jk jw n1 n2 hp
 have fr : Frm m1 h ca.g ⟨g, xs, ys, ls, rs⟩ := ⟨m1g, hl, hr, fun d hd' => (hd d hd').congr (fun z hz => by
  rcases mem_lr d hd' z hz with e | e
  ·exact m1o z (neq_g z (by simp [e])) (neq_ca z (by simp [e]))
  ·exact m1o z (neq_g z (by simp [e])) (neq_ca z (by simp [e])))⟩
 have len : (xs ++ x :: ys).length = (xs ++ ys).length + 1 := by simp; omega
 have jl : yab (ka ++ kb) J = ca.l ++ x :: cb.l := by rw [jw, hla, hlb]
 have cI : ∀ z, z ∈ ca.g :: (ka ++ kb).flatMap Ch.I → z = ca.g ∨ z ∈ ka.flatMap Ch.I ∨ z ∈ kb.flatMap Ch.I := fun z hz => by simpa using hz
 have sl : (g :: (ls.flatMap Ch.I ++ ((ca.g :: (ka ++ kb).flatMap Ch.I) ++ rs.flatMap Ch.I))).Sublist (idsN g (ls ++ ca :: cb :: rs)) := by
  rw [hall]
  refine List.Sublist.cons_cons _ (List.Sublist.append_left ?_ _)
  rw [List.flatMap_append, List.cons_append, List.append_assoc]
  exact List.Sublist.cons_cons _ (List.Sublist.append_left (List.Sublist.cons _ (List.Sublist.refl _)) _)
 have nd4 := hnd.sublist sl
 rcases hp with ⟨h7, rfl⟩ | ⟨h7, b, y, hy, hb, rfl⟩
 ·refine ⟨fun z h1 h2 _ => m1o z h1 h2, putIn ⟨g, xs, ys, ls, rs⟩ ⟨ca.g, yab (ka ++ kb) J, ca.g :: (ka ++ kb).flatMap Ch.I⟩, rfl, ?_, ?_, ?_, ?_⟩
  ·exact Frm.putIn (c := ⟨ca.g, yab (ka ++ kb) J, ca.g :: (ka ++ kb).flatMap Ch.I⟩) fr ⟨J, ka ++ kb, m1a, by omega, by omega, jk, rfl, rfl⟩ (by show _ ≤ (xs ++ ys).length; omega) (by show (xs ++ ys).length ≤ 6; omega)
  ·simp [putIn, jl, List.append_assoc]
  ·have e : (putIn ⟨g, xs, ys, ls, rs⟩ ⟨ca.g, yab (ka ++ kb) J, ca.g :: (ka ++ kb).flatMap Ch.I⟩).I = g :: (ls.flatMap Ch.I ++ ((ca.g :: (ka ++ kb).flatMap Ch.I) ++ rs.flatMap Ch.I)) := by simp [putIn]
   rw [e]; exact nd4
  ·intro z hz
   have e : (putIn ⟨g, xs, ys, ls, rs⟩ ⟨ca.g, yab (ka ++ kb) J, ca.g :: (ka ++ kb).flatMap Ch.I⟩).I = g :: (ls.flatMap Ch.I ++ ((ca.g :: (ka ++ kb).flatMap Ch.I) ++ rs.flatMap Ch.I)) := by simp [putIn]
   rw [e] at hz
   exact .inl (sl.subset hz)
 ·obtain ⟨c', hc'⟩ : ∃ c' : Ch, c' = ⟨ca.g, yab (ka ++ kb) J, ca.g :: (ka ++ kb).flatMap Ch.I⟩ := ⟨_, rfl⟩
  have hbn : ∀ z, z < B → z ≠ b := fun z hz e => by omega
  have hbg : b ≠ g := fun e => hbn g (ltB g (.inl rfl)) e.symm
  have hba : b ≠ ca.g := fun e => hbn ca.g (ltB ca.g (by simp)) e.symm
  have ndc' : c'.I.Nodup := by
   rw [hc']
   exact nd4.sublist ((List.sublist_append_left _ _).trans ((List.sublist_append_right _ _).trans (List.sublist_cons_self _ _)))
  have hbc : b ∉ c'.I := fun e => by
   rw [hc'] at e
   rcases cI b e with e2 | e2 | e2
   ·exact hba e2
   ·exact hbn b (ltB b (by simp [e2])) rfl
   ·exact hbn b (ltB b (by simp [e2])) rfl
  obtain ⟨m2, hm2⟩ : ∃ m2, upd (upd m1 ca.g ⟨J.take (J.length / 2), (ka.map Ch.g ++ kb.map Ch.g).take (J.length / 2 + 1)⟩) b ⟨J.drop (J.length / 2 + 1), (ka.map Ch.g ++ kb.map Ch.g).drop (J.length / 2 + 1)⟩ = m2 := ⟨_, rfl⟩
  rw [hm2]
  have m2o : ∀ z, z ≠ ca.g → z ≠ b → m2 z = m1 z := fun z h1 h2 => by rw [← hm2, ya3 _ _ h2, ya3 _ _ h1]
  obtain ⟨cl, cr, gl, gr, sl1, sr1, hlr, perm⟩ := Sub.split (m := m1) (m' := m2) (h := h) (c := c') (its := J) (cs := ka ++ kb) (b := b) (mid := J.length / 2) (x := y) jk (by rw [hc']) (by rw [hc']) ndc' hbc (by omega) (by omega) (by omega) (by omega) hy
   (by rw [hc', ← hm2]; show upd _ b _ ca.g = _; rw [ya3 _ _ (fun e => hba e.symm), upd_same, List.map_append]) (by rw [← hm2, upd_same, List.map_append]) (by rw [hc']; exact m2o)
  have gl' : cl.g = ca.g := by rw [gl, hc']
  have memI : ∀ z, z ∈ cl.I ∨ z ∈ cr.I → z = b ∨ z = ca.g ∨ z ∈ ka.flatMap Ch.I ∨ z ∈ kb.flatMap Ch.I := fun z hz => by
   have hz2 := perm.mem_iff.1 (List.mem_append.2 hz)
   rcases List.mem_cons.1 hz2 with e | e
   ·exact .inl e
   ·rw [hc'] at e; exact .inr (cI z e)
  have frg : ∀ z ∈ idsF ⟨g, xs, ys, ls, rs⟩, m2 z = m1 z := fun z hz => by
   rcases ycg.1 hz with e | ⟨d, hd', hz'⟩
   ·rw [e]; exact m2o g (fun e2 => hag e2.symm) (fun e2 => hbg e2.symm)
   ·rcases mem_lr d hd' z hz' with e | e
    ·exact m2o z (neq_ca z (by simp [e])) (hbn z (ltB z (by simp [e])))
    ·exact m2o z (neq_ca z (by simp [e])) (hbn z (ltB z (by simp [e])))
  have fr2 : Frm m2 h cl.g ⟨g, xs, ys, ls, rs⟩ := by rw [gl']; exact fr.congr frg
  obtain ⟨m3, hm3⟩ : ∃ m3, upd m2 g ⟨ya0 (xs ++ ys) xs.length y, ya0 (ls.map Ch.g ++ ca.g :: rs.map Ch.g) (xs.length + 1) b⟩ = m3 := ⟨_, rfl⟩
  rw [hm3]
  have m3o : ∀ z, z ≠ g → m3 z = m2 z := fun z h1 => by rw [← hm3, ya3 _ _ h1]
  have ng : ∀ z, z ∈ cl.I ∨ z ∈ cr.I → z ≠ g := fun z hz => by
   rcases memI z hz with e | e | e | e
   ·rw [e]; exact hbg
   ·rw [e]; exact hag
   ·exact neq_g z (by simp [e])
   ·exact neq_g z (by simp [e])
  have res := Frm.more (m' := m3) (lo := (xs ++ x :: ys).length - 1) (hi := 6) (cl := cl) (cr := cr) (x := y) fr2 (fun d hd' e => by
    rcases mem_lr d hd' g e with e2 | e2
    ·exact neq_g g (by simp [e2]) rfl
    ·exact neq_g g (by simp [e2]) rfl) (sl1.congr (fun z hz => m3o z (ng z (.inl hz)))) (sr1.congr (fun z hz => m3o z (ng z (.inr hz)))) (by show _ ≤ (xs ++ ys).length + 1; omega) (by show (xs ++ ys).length + 1 ≤ 6; omega)
   (by rw [← hm3, upd_same, gl', gr]) m3o
  have permAll : (g :: (ls ++ cl :: cr :: rs).flatMap Ch.I).Perm (b :: (g :: (ls.flatMap Ch.I ++ ((ca.g :: (ka ++ kb).flatMap Ch.I) ++ rs.flatMap Ch.I)))) := by
   have e : (g :: (ls ++ cl :: cr :: rs).flatMap Ch.I) = g :: (ls.flatMap Ch.I ++ ((cl.I ++ cr.I) ++ rs.flatMap Ch.I)) := by simp
   rw [e]
   have p1 : (ls.flatMap Ch.I ++ ((cl.I ++ cr.I) ++ rs.flatMap Ch.I)).Perm (ls.flatMap Ch.I ++ ((b :: c'.I) ++ rs.flatMap Ch.I)) := (perm.append_right _).append_left _
   refine (p1.cons g).trans ?_
   rw [hc']
   refine List.Perm.trans (List.Perm.cons g ?_) (List.Perm.swap _ _ _)
   exact List.perm_middle
  refine ⟨fun z h1 h2 h3 => ?_, _, rfl, res, ?_, ?_, ?_⟩
  ·rw [m3o z h1, m2o z h2 (hbn z h3), m1o z h1 h2]
  ·show preW ls xs ++ (cl.l ++ y :: (cr.l ++ yba ys rs)) = _
   have e : cl.l ++ y :: cr.l = ca.l ++ x :: cb.l := by rw [← hlr, hc', ← jl]
   have e2 : cl.l ++ y :: (cr.l ++ yba ys rs) = (cl.l ++ y :: cr.l) ++ yba ys rs := by simp
   rw [e2, e]; simp
  ·show (g :: (ls ++ cl :: cr :: rs).flatMap Ch.I).Nodup
   rw [permAll.nodup_iff, List.nodup_cons]
   exact ⟨fun e => hbn b (hB b (sl.subset e)) rfl, nd4⟩
  ·intro z hz
   rcases List.mem_cons.1 (permAll.mem_iff.1 hz) with e | e
   ·exact .inr (by omega)
   ·exact .inl (sl.subset e)
def ybu (m : NMap) (top : Option Nat) (L : List Item) : Prop :=
 match top with
 | none => L = []
 | some t => ∃ h I, Sub m h 1 6 ⟨t, L, I⟩ ∧ I.Nodup
theorem Ctx.dom {m : NMap} : ∀ {h p : Nat} {fs : List Fr}, Ctx m h p fs → ∀ x ∈ idsC fs, ∃ nd, m x = some nd
 | _, _, [], _, x, hx => by cases hx
 | h, p, f :: fs, k, x, hx => by
  rcases List.mem_append.1 hx with e | e
  ·rcases ycg.1 e with e2 | ⟨d, hd, hz⟩
   ·exact ⟨_, by rw [e2]; exact k.1.at_⟩
   ·exact (k.1.kids d hd).dom x hz
  ·exact Ctx.dom k.2.2.2 x e
theorem Ctx.tree {m : NMap} {h : Nat} {fs : List Fr} {c : Ch} (k : Ctx m h c.g fs) (s : Sub m h (loC fs) 6 c) (hnd : (c.I ++ idsC fs).Nodup) : ybu m (some (topC c.g fs)) (preC fs ++ (c.l ++ yam fs)) := by
 obtain ⟨I', a, b⟩ := k.plug s
 exact ⟨_, I', a, (b.nodup_iff).2 hnd⟩
def ycn (m : NMap) (top : Option Nat) (L : List Item) (steps : List (Nat × Nat)) (x : Item) (bh : Option Nat) : Prop :=
 (∃ fs h cl cr, bh = some cr.g ∧ steps = wayC fs ∧ Ctx m h cl.g fs ∧ Sub m h 3 6 cl ∧ Sub m h 3 6 cr ∧ (cl.I ++ (cr.I ++ idsC fs)).Nodup ∧ top = some (topC cl.g fs) ∧ L = preC fs ++ ((cl.l ++ x :: cr.l) ++ yam fs)) ∨
 (∃ fs g xs ys, bh = none ∧ steps = wayC fs ++ [(g, xs.length)] ∧ Ctx m 0 g fs ∧ m g = some ⟨xs ++ ys, []⟩ ∧ loC fs ≤ (xs ++ ys).length ∧ (xs ++ ys).length ≤ 6 ∧ (g :: idsC fs).Nodup ∧ top = some (topC g fs) ∧ L = preC fs ++ ((xs ++ x :: ys) ++ yam fs)) ∨
 (bh = none ∧ steps = [] ∧ top = none ∧ L = [x])
def yki (m : NMap) (top : Option Nat) (L : List Item) (steps : List (Nat × Nat)) (g : Nat) : Prop :=
 ∃ fs h c, c.g = g ∧ steps = wayC fs ∧ Ctx m h c.g fs ∧ Sub m h (loC fs) 7 c ∧ (c.I ++ idsC fs).Nodup ∧ top = some (topC c.g fs) ∧ L = preC fs ++ (c.l ++ yam fs)
theorem ywa {α : Type} (A B C : List α) : (A ++ (B ++ C)).Perm (B ++ (A ++ C)) := by
 rw [← List.append_assoc, ← List.append_assoc]
 exact List.perm_append_comm.append_right _
theorem ykj {α : Type} {a b : List α} {x y : α} (h : a ++ [x] = b ++ [y]) : a = b ∧ x = y := by
 have := List.append_inj' h rfl
 exact ⟨this.1, by simpa using this.2⟩
def insB (ps : List Nat) (i : Nat) : Option Nat → List Nat
 | none => ps
 | some b => ya0 ps (i + 1) b
theorem ycn.step {m : NMap} {top : Option Nat} {L : List Item} {steps : List (Nat × Nat)} {g i : Nat} {x : Item} {bh : Option Nat} (h : ycn m top L (steps ++ [(g, i)]) x bh) :
  ∃ its ps, m g = some ⟨its, ps⟩ ∧ i ≤ its.length ∧ its.length ≤ 6 ∧ ps.length ≤ 7 ∧ (bh ≠ none → i + 1 ≤ ps.length) ∧
   ∀ m' : NMap, m' g = some ⟨ya0 its i x, insB ps i bh⟩ → (∀ z, z ≠ g → m' z = m z) → yki m' top L steps g := by
 rcases h with ⟨fs, h, cl, cr, rfl, hs, hc, s1, s2, hnd, ht, hL⟩ | ⟨fs, g0, xs, ys, rfl, hs, hc, hm, l1, l2, hnd, ht, hL⟩ | ⟨_, hs, _⟩
 ·cases fs with
  | nil => simp [wayC] at hs
  | cons f fs =>
   obtain ⟨rfl, e⟩ := ykj hs
   injection e with e1 e2
   subst e1 e2
   obtain ⟨hf, l1, l2, hc'⟩ := hc
   have e1 := hf.left
   have e2 := hf.right
   have elen : (f.xs ++ f.ys).length = f.xs.length + f.ys.length := List.length_append
   refine ⟨_, _, hf.at_, by omega, l2, by simp; omega, fun _ => by simp; omega, fun m' h1 h2 => ?_⟩
   have nd1 := List.nodup_append.1 hnd
   have nd2 := List.nodup_append.1 nd1.2.1
   have ndC : (idsF f ++ idsC fs).Nodup := nd2.2.1
   have nd3 := List.nodup_append.1 ndC
   have gF : f.g ∈ idsF f := ycg.2 (.inl rfl)
   have ncl : ∀ z ∈ cl.I, z ≠ f.g := fun z hz e => nd1.2.2 z hz f.g (by simp [idsC, gF]) e
   have ncr : ∀ z ∈ cr.I, z ≠ f.g := fun z hz e => nd2.2.2 z hz f.g (by simp [idsC, gF]) e
   have nfs : ∀ z ∈ idsC fs, z ≠ f.g := fun z hz e => nd3.2.2 f.g gF z hz e.symm
   have nk : ∀ d ∈ f.ls ++ f.rs, f.g ∉ d.I := fun d hd e => (List.nodup_cons.1 nd3.1).1 (List.mem_flatMap.2 ⟨d, hd, e⟩)
   have res := Frm.more (m' := m') (lo := loC fs) (hi := 7) (x := x) hf nk (s1.congr (fun z hz => h2 z (ncl z hz))) (s2.congr (fun z hz => h2 z (ncr z hz))) (by omega) (by omega) h1 h2
   refine ⟨fs, h + 1, _, rfl, rfl, hc'.congr (fun z hz => h2 z (nfs z hz)), res, ?_, ht, ?_⟩
   ·have p : ((f.g :: (f.ls ++ cl :: cr :: f.rs).flatMap Ch.I) ++ idsC fs).Perm (cl.I ++ (cr.I ++ (idsF f ++ idsC fs))) := by
     have e : (f.g :: (f.ls ++ cl :: cr :: f.rs).flatMap Ch.I) = f.g :: (f.ls.flatMap Ch.I ++ ((cl.I ++ cr.I) ++ f.rs.flatMap Ch.I)) := by simp
     have q : (f.g :: (f.ls.flatMap Ch.I ++ ((cl.I ++ cr.I) ++ f.rs.flatMap Ch.I))).Perm ((cl.I ++ cr.I) ++ idsF f) := by
      refine ((ywa _ _ _).cons f.g).trans ?_
      rw [idsF, List.flatMap_append]
      exact List.perm_middle.symm
     rw [e]
     have z := q.append_right (idsC fs)
     simpa only [List.append_assoc] using z
    exact (p.nodup_iff).2 hnd
   ·rw [hL]
    simp [preC, yam, List.append_assoc]
 ·obtain ⟨rfl, e⟩ := ykj hs
  injection e with e1 e2
  subst e1 e2
  have nd1 := List.nodup_cons.1 hnd
  refine ⟨_, _, hm, by simp, l2, by simp, fun e => absurd rfl e, fun m' h1 h2 => ?_⟩
  have q1 : ya0 (xs ++ ys) xs.length x = xs ++ x :: ys := by simp [ya0]
  rw [q1] at h1
  have lx : (xs ++ x :: ys).length = (xs ++ ys).length + 1 := by simp; omega
  refine ⟨fs, 0, ⟨g, xs ++ x :: ys, [g]⟩, rfl, rfl, hc.congr (fun z hz => h2 z (fun e => nd1.1 (e ▸ hz))), yn4 h1 (by omega) (by omega), by simpa using hnd, ht, hL⟩
 ·simp at hs
theorem yki.done {m : NMap} {top : Option Nat} {L : List Item} {steps : List (Nat × Nat)} {g : Nat} (h : yki m top L steps g) :
  ∃ its ps, m g = some ⟨its, ps⟩ ∧ its.length ≤ 7 ∧ (its.length ≤ 6 → ybu m top L) ∧ (its.length = 7 → (ps = [] ∨ ps.length = 8) ∧ ∃ y, its[3]? = some y ∧
   ∀ (m' : NMap) (b : Nat), (∀ nd, m b ≠ some nd) → m' g = some ⟨its.take 3, ps.take 4⟩ → m' b = some ⟨its.drop 4, ps.drop 4⟩ → (∀ z, z ≠ g → z ≠ b → m' z = m z) → ycn m' top L steps y (some b)) := by
 obtain ⟨fs, h, c, rfl, rfl, hc, s, hnd, rfl, rfl⟩ := h
 have s0 := s
 obtain ⟨its, cs, a1, a2, a3, a4, a5, a6⟩ := s
 refine ⟨its, _, a1, a3, fun h6 => hc.tree ⟨its, cs, a1, a2, h6, a4, a5, a6⟩ hnd, fun h7 => ⟨?_, its[3]'(by omega), List.getElem?_eq_getElem _, fun m' b hb h1 h2 h3 => ?_⟩⟩
 ·rcases a4.ps with ⟨_, z⟩ | ⟨_, z⟩
  ·exact .inl z
  ·exact .inr (by omega)
 ·have nd1 := List.nodup_append.1 hnd
  have nb : ∀ z, (∃ nd, m z = some nd) → z ≠ b := fun z ⟨nd, hz⟩ e => hb nd (e ▸ hz)
  have hbI : b ∉ c.I := fun e => nb b (s0.dom b e) rfl
  obtain ⟨cl, cr, gl, gr, sl, sr, hlr, perm⟩ := Sub.split (m := m) (m' := m') a4 a5 a6 nd1.1 hbI (mid := 3) (by omega) (by omega) (by omega) (by omega) (List.getElem?_eq_getElem (by omega)) h1 h2 h3
  refine .inl ⟨fs, h, cl, cr, by rw [gr], rfl, by rw [gl]; exact hc.congr (fun z hz => h3 z (fun e => nd1.2.2 c.g (ye2 s0) z hz e.symm) (nb z (hc.dom z hz))), sl, sr, ?_, by rw [gl], by rw [← hlr]⟩
  have p : (cl.I ++ (cr.I ++ idsC fs)).Perm (b :: (c.I ++ idsC fs)) := by
   rw [← List.append_assoc]
   exact perm.append_right _
  rw [p.nodup_iff, List.nodup_cons]
  refine ⟨fun e => ?_, hnd⟩
  rcases List.mem_append.1 e with e | e
  ·exact hbI e
  ·exact nb b (hc.dom b e) rfl
def ykk (top : Option Nat) : Option Nat → List Nat
 | none => []
 | some b => [top.getD 0, b]
theorem ycn.top {m m' : NMap} {top : Option Nat} {L : List Item} {x : Item} {bh : Option Nat} {g : Nat} (h : ycn m top L [] x bh) (hg : ∀ nd, m g ≠ some nd)
  (h1 : m' g = some ⟨[x], ykk top bh⟩) (h2 : ∀ z, z ≠ g → m' z = m z) : ybu m' (some g) L ∧ (bh ≠ none → top ≠ none) := by
 rcases h with ⟨fs, h, cl, cr, rfl, hs, hc, s1, s2, hnd, rfl, rfl⟩ | ⟨fs, g0, xs, ys, rfl, hs, _⟩ | ⟨rfl, _, rfl, rfl⟩
 ·cases fs with
  | cons f fs => simp [wayC] at hs
  | nil =>
   have ng : ∀ z, (∃ nd, m z = some nd) → z ≠ g := fun z ⟨nd, hz⟩ e => hg nd (e ▸ hz)
   refine ⟨⟨h + 1, g :: [cl, cr].flatMap Ch.I, ⟨[x], [cl, cr], h1, Nat.le_refl _, by simp, ybi.2 ⟨rfl, fun d hd => ?_⟩, ?_, rfl⟩, ?_⟩, fun _ => by simp⟩
   ·rcases List.mem_cons.1 hd with rfl | hd
    ·exact s1.congr (fun z hz => h2 z (ng z (s1.dom z hz)))
    ·obtain rfl : d = cr := by simpa using hd
     exact s2.congr (fun z hz => h2 z (ng z (s2.dom z hz)))
   ·simp [yab, preC, yam]
   ·have e : [cl, cr].flatMap Ch.I = cl.I ++ cr.I := by simp
    rw [e, List.nodup_cons]
    refine ⟨fun e => ?_, by simpa [idsC] using hnd⟩
    rcases List.mem_append.1 e with e | e
    ·exact ng g (s1.dom g e) rfl
    ·exact ng g (s2.dom g e) rfl
 ·simp at hs
 ·exact ⟨⟨0, [g], ⟨[x], [], h1, Nat.le_refl _, by simp, ybd.2 rfl, rfl, rfl⟩, by simp⟩, fun e => absurd rfl e⟩
def Over (b : List Item) (k : ByteArray) : Prop := ∀ y ∈ b, yad k y.1 = true
theorem ya7.append {a b : List Item} {k : ByteArray} (h : ya7 a k) (h2 : ya7 b k) : ya7 (a ++ b) k := fun x hx => by
 rcases List.mem_append.1 hx with z | z
 ·exact h x z
 ·exact h2 x z
theorem Over.append {a b : List Item} {k : ByteArray} (h : Over a k) (h2 : Over b k) : Over (a ++ b) k := fun x hx => by
 rcases List.mem_append.1 hx with z | z
 ·exact h x z
 ·exact h2 x z
theorem yn6 {a b : List Item} (h : yah b) (s : a.Sublist b) : yah a := List.Pairwise.sublist s h
theorem ywb {m : NMap} {n : Nat} : ∀ {h : Nat} {cs : List Ch} {its : List Item}, Kids m h cs n → n = its.length → its.Sublist (yab cs its)
 | 0, cs, its, k, _ => by rw [ybd.1 k, yef]; exact List.Sublist.refl _
 | h + 1, cs, its, k, e => by
  have hl := (ybi.1 k).1
  clear k
  subst e
  induction its generalizing cs with
  | nil => exact List.nil_sublist _
  | cons x its ih =>
   cases cs with
   | nil => simp at hl
   | cons c cs =>
    rw [yab]
    exact (List.Sublist.cons_cons x (ih cs (by simpa using hl))).trans (List.sublist_append_right _ _)
theorem yn7 : ∀ {ls : List Ch} {xs : List Item} {k : ByteArray}, ls.length = xs.length → yah (preW ls xs) → ya7 xs k → ya7 (preW ls xs) k
 | [], _, k, _, _, _ => by simp [preW, ya7]
 | a :: ls, [], k, h, _, _ => by simp at h
 | a :: ls, x :: xs, k, h, hr, hu => by
  rw [preW] at hr ⊢
  obtain ⟨_, h2, h3⟩ := ycj.1 hr
  have hx := hu x (by simp)
  refine ya7.append (fun y hy => ydr (h3 y hy x (by simp)) hx) (fun y hy => ?_)
  rcases List.mem_cons.1 hy with rfl | hy
  ·exact hx
  ·exact yn7 (by simpa using h) (ycq.1 h2).2 (fun z hz => hu z (by simp [hz])) y hy
theorem ywc : ∀ {ys : List Item} {rs : List Ch} {k : ByteArray}, yah (yba ys rs) → Over ys k → Over (yba ys rs) k
 | [], _, k, _, _ => by simp [yba, Over]
 | y :: ys, [], k, _, _ => by simp [yba, Over]
 | y :: ys, b :: rs, k, hr, ho => by
  rw [yba] at hr ⊢
  obtain ⟨h1, h2⟩ := ycq.1 hr
  have hy := ho y (by simp)
  intro z hz
  rcases List.mem_cons.1 hz with rfl | hz
  ·exact hy
  ·exact ydr hy (h1 z hz)
def Found (m : NMap) (top : Option Nat) (l : List Item) (k u : ByteArray) (steps : List (Nat × Nat)) (g i : Nat) : Prop :=
 ∃ fs h xs ys cs, steps = wayC fs ∧ i = xs.length ∧ Ctx m h g fs ∧ m g = some ⟨xs ++ (k, u) :: ys, cs.map Ch.g⟩ ∧ Kids m h cs (xs ++ (k, u) :: ys).length ∧ loC fs ≤ (xs ++ (k, u) :: ys).length ∧ (xs ++ (k, u) :: ys).length ≤ 6 ∧
  ((g :: cs.flatMap Ch.I) ++ idsC fs).Nodup ∧ top = some (topC g fs) ∧ l = preC fs ++ (yab cs (xs ++ (k, u) :: ys) ++ yam fs) ∧ ya7 (preC fs ++ yab (cs.take (xs.length + 1)) xs) k
def yeg (m : NMap) (top : Option Nat) (l : List Item) (k : ByteArray) (steps : List (Nat × Nat)) : Prop :=
 (steps = [] ∧ top = none ∧ l = []) ∨
 ∃ fs g xs ys, steps = wayC fs ++ [(g, xs.length)] ∧ Ctx m 0 g fs ∧ m g = some ⟨xs ++ ys, []⟩ ∧ loC fs ≤ (xs ++ ys).length ∧ (xs ++ ys).length ≤ 6 ∧ (g :: idsC fs).Nodup ∧ top = some (topC g fs) ∧ l = preC fs ++ ((xs ++ ys) ++ yam fs) ∧
  ya7 (preC fs ++ xs) k ∧ Over (ys ++ yam fs) k
def ydv (m : NMap) (top : Option Nat) (l : List Item) (k : ByteArray) (steps : List (Nat × Nat)) (p h : Nat) : Prop :=
 ∃ fs c, c.g = p ∧ steps = wayC fs ∧ Ctx m h c.g fs ∧ Sub m h (loC fs) 6 c ∧ (c.I ++ idsC fs).Nodup ∧ top = some (topC c.g fs) ∧ l = preC fs ++ (c.l ++ yam fs) ∧ ya7 (preC fs) k ∧ Over (yam fs) k
theorem ydv.start {m : NMap} {l : List Item} {k : ByteArray} {t h : Nat} {I : List Nat} (s : Sub m h 1 6 ⟨t, l, I⟩) (hnd : I.Nodup) : ydv m (some t) l k [] t h :=
 ⟨[], ⟨t, l, I⟩, rfl, rfl, trivial, s, by simpa [idsC] using hnd, rfl, by simp [preC, yam], (fun x hx => by cases hx), (fun x hx => by cases hx)⟩
theorem Sub.down {m : NMap} {h lo hi i : Nat} {c : Ch} {its : List Item} {cs : List Ch} (hm : m c.g = some ⟨its, cs.map Ch.g⟩) (hk : Kids m (h + 1) cs its.length) (hl : c.l = yab cs its) (hI : c.I = c.g :: cs.flatMap Ch.I) (hi' : i ≤ its.length) (_h1 : lo ≤ its.length) (_h2 : its.length ≤ hi) :
  ∃ d, cs[i]? = some d ∧ Sub m h 3 6 d ∧ Frm m h d.g ⟨c.g, its.take i, its.drop i, cs.take i, cs.drop (i + 1)⟩ ∧ c.l = preW (cs.take i) (its.take i) ++ (d.l ++ yba (its.drop i) (cs.drop (i + 1))) ∧ c.I = (putIn ⟨c.g, its.take i, its.drop i, cs.take i, cs.drop (i + 1)⟩ d).I := by
 obtain ⟨k1, k2⟩ := ybi.1 hk
 have hlt : i < cs.length := by omega
 have hcs : cs = cs.take i ++ cs[i] :: cs.drop (i + 1) := yil (List.getElem?_eq_getElem hlt)
 have w1 : (cs.take i).length = (its.take i).length := by rw [List.length_take, List.length_take]; omega
 have w2 : (cs.drop (i + 1)).length = (its.drop i).length := by rw [List.length_drop, List.length_drop]; omega
 refine ⟨cs[i], List.getElem?_eq_getElem hlt, k2 _ (List.getElem_mem hlt), ⟨?_, w1, w2, fun d hd => ?_⟩, ?_, ?_⟩
 ·show m c.g = some ⟨its.take i ++ its.drop i, (cs.take i).map Ch.g ++ cs[i].g :: (cs.drop (i + 1)).map Ch.g⟩
  rw [List.take_append_drop, hm]
  congr 2
  conv => lhs; rw [hcs]
  rw [List.map_append, List.map_cons]
 ·rcases List.mem_append.1 hd with z | z
  ·exact k2 d (List.mem_of_mem_take z)
  ·exact k2 d (List.mem_of_mem_drop z)
 ·have e := ygx (ls := cs.take i) (xs := its.take i) (c := cs[i]) (rs := cs.drop (i + 1)) (ys := its.drop i) w1 w2
  rw [← hcs, List.take_append_drop] at e
  rw [hl, e]
 ·rw [hI]
  show _ = c.g :: (cs.take i ++ cs[i] :: cs.drop (i + 1)).flatMap Ch.I
  rw [← hcs]
theorem ywd (fs : List Fr) : 1 ≤ loC fs := by cases fs <;> simp [loC]
theorem ydv.step {m : NMap} {top : Option Nat} {l : List Item} {k : ByteArray} {steps : List (Nat × Nat)} {p h : Nat} (H : ydv m top l k steps p h) (hr : yah l) :
  ∃ its ps, m p = some ⟨its, ps⟩ ∧ yah its ∧ 1 ≤ its.length ∧ its.length ≤ 6 ∧ ((h = 0 ∧ ps = []) ∨ ps.length = its.length + 1) ∧
   (∀ i x, its[i]? = some x → ya7 (its.take i) k → x.1 = k → Found m top l k x.2 steps p i) ∧
   (∀ i, i ≤ its.length → ya7 (its.take i) k → Over (its.drop i) k → (ps = [] → yeg m top l k (steps ++ [(p, i)])) ∧ ∀ q, ps[i]? = some q → 0 < h ∧ ydv m top l k (steps ++ [(p, i)]) q (h - 1)) := by
 obtain ⟨fs, c, rfl, rfl, hc, s, hnd, rfl, rfl, hu, ho⟩ := H
 obtain ⟨its, cs, a1, a2, a3, a4, a5, a6⟩ := s
 have hrc : yah c.l := yn6 hr ((List.sublist_append_left _ _).trans (List.sublist_append_right _ _))
 have hri : yah its := yn6 hrc (by rw [a5]; exact ywb a4 rfl)
 refine ⟨its, _, a1, hri, Nat.le_trans (ywd fs) a2, a3, ?_, fun i x hx hui hxk => ?_, fun i hi hui hoi => ?_⟩
 ·rcases a4.ps with ⟨z1, z2⟩ | ⟨_, z2⟩
  ·exact .inl ⟨z1, z2⟩
  ·exact .inr z2
 ·have hi : i < its.length := (List.getElem?_eq_some_iff.1 hx).1
  have e : its = its.take i ++ (k, x.2) :: its.drop (i + 1) := by
   have z := yil hx
   rw [← hxk]; exact z
  have li : (its.take i).length = i := by rw [List.length_take]; omega
  refine ⟨fs, h, its.take i, its.drop (i + 1), cs, rfl, li.symm, hc, by rw [← e]; exact a1, by rw [← e]; exact a4, by rw [← e]; exact a2, by rw [← e]; exact a3, by rw [← a6]; exact hnd, rfl, by rw [← e, ← a5], hu.append ?_⟩
  rw [li]
  have hw := yfv a4 hx
  have hrw : yah (yab cs its) := by rw [← a5]; exact hrc
  rw [hw] at hrw
  intro y hy
  rw [← hxk]
  exact (ycj.1 hrw).2.2 y hy x (by simp)
 ·have li : (its.take i).length = i := by rw [List.length_take]; omega
  refine ⟨fun hp => ?_, fun q hq => ?_⟩
  ·rcases a4.ps with ⟨z1, z2⟩ | ⟨_, z2⟩
   ·subst z1
    rw [ybd.1 a4] at a1 a5 a6
    rw [yef] at a5
    refine .inr ⟨fs, c.g, its.take i, its.drop i, by rw [li], hc, by rw [List.take_append_drop]; exact a1, by rw [List.take_append_drop]; exact a2, by rw [List.take_append_drop]; exact a3, by simpa [a6] using hnd, rfl, by rw [List.take_append_drop, a5], hu.append hui, Over.append hoi ho⟩
   ·rw [hp] at z2; simp at z2
  ·cases h with
   | zero => rw [ybd.1 a4] at hq; simp at hq
   | succ h =>
    obtain ⟨d, e1, e2, e3, e4, e5⟩ := Sub.down a1 a4 a5 a6 hi a2 a3
    have hqd : q = d.g := by
     rw [List.getElem?_map, e1] at hq
     exact (Option.some.inj hq).symm
    subst hqd
    rw [e4] at hrc
    obtain ⟨r1, r2, _⟩ := ycj.1 hrc
    have w1 := e3.left
    refine ⟨by omega, ⟨c.g, its.take i, its.drop i, cs.take i, cs.drop (i + 1)⟩ :: fs, d, rfl, by rw [wayC]; show _ = _ ++ [(c.g, (its.take i).length)]; rw [li], ⟨e3, by show loC fs ≤ (its.take i ++ its.drop i).length; rw [List.take_append_drop]; exact a2, by show (its.take i ++ its.drop i).length ≤ 6; rw [List.take_append_drop]; exact a3, hc⟩, e2, ?_, rfl, ?_, ?_, ?_⟩
    ·rw [idsC, ← List.append_assoc]
     rw [e5] at hnd
     exact (((ygy _ d).append_right _).nodup_iff).1 hnd
    ·rw [e4, preC, yam]; simp [List.append_assoc]
    ·exact hu.append (yn7 w1 r1 hui)
    ·exact Over.append (ywc (ycj.1 r2).2.1 hoi) ho
theorem yeg.put {m : NMap} {top : Option Nat} {l : List Item} {k : ByteArray} {steps : List (Nat × Nat)} (h : yeg m top l k steps) (v : ByteArray) : hasN l k = false ∧ ycn m top (putN l k v) steps (k, v) none := by
 rcases h with ⟨rfl, rfl, rfl⟩ | ⟨fs, g, xs, ys, hs, hc, hm, l1, l2, hnd, ht, rfl, hu, ho⟩
 ·exact ⟨rfl, .inr (.inr ⟨rfl, rfl, rfl, rfl⟩)⟩
 ·have e : preC fs ++ ((xs ++ ys) ++ yam fs) = (preC fs ++ xs) ++ (ys ++ yam fs) := by simp
  have o := ygb ho
  refine ⟨by rw [e, yhn hu]; exact o.1, .inr (.inl ⟨fs, g, xs, ys, rfl, hs, hc, hm, l1, l2, hnd, ht, ?_⟩)⟩
  rw [e, yho hu, o.2.1]; simp
theorem Found.cut {m : NMap} {top : Option Nat} {l : List Item} {k u : ByteArray} {steps : List (Nat × Nat)} {g i : Nat} (h : Found m top l k u steps g i) :
  ∃ A B, l = A ++ (k, u) :: B ∧ ya7 A k ∧ hasN l k = true ∧ (∀ v, putN l k v = A ++ (k, v) :: B) ∧ delN l k = A ++ B := by
 obtain ⟨fs, h, xs, ys, cs, hs, hi, hc, hm, hk, l1, l2, hnd, ht, rfl, hu⟩ := h
 have hw := yfv hk (i := xs.length) (x := (k, u)) (by simp)
 have t1 : (xs ++ (k, u) :: ys).take xs.length = xs := by simp
 have t2 : (xs ++ (k, u) :: ys).drop (xs.length + 1) = ys := by
  rw [show xs ++ (k, u) :: ys = (xs ++ [(k, u)]) ++ ys by simp, List.drop_left' (by simp)]
 rw [t1, t2] at hw
 refine ⟨preC fs ++ yab (cs.take (xs.length + 1)) xs, yab (cs.drop (xs.length + 1)) ys ++ yam fs, by rw [hw]; simp, hu, ?_, fun v => ?_, ?_⟩
 ·rw [show preC fs ++ (yab cs (xs ++ (k, u) :: ys) ++ yam fs) = (preC fs ++ yab (cs.take (xs.length + 1)) xs) ++ (k, u) :: (yab (cs.drop (xs.length + 1)) ys ++ yam fs) by rw [hw]; simp]
  exact yjf (x := (k, u)) hu _
 ·rw [show preC fs ++ (yab cs (xs ++ (k, u) :: ys) ++ yam fs) = (preC fs ++ yab (cs.take (xs.length + 1)) xs) ++ (k, u) :: (yab (cs.drop (xs.length + 1)) ys ++ yam fs) by rw [hw]; simp]
  exact yhp (x := (k, u)) hu _
 ·rw [show preC fs ++ (yab cs (xs ++ (k, u) :: ys) ++ yam fs) = (preC fs ++ yab (cs.take (xs.length + 1)) xs) ++ (k, u) :: (yab (cs.drop (xs.length + 1)) ys ++ yam fs) by rw [hw]; simp]
  exact yf9 (x := (k, u)) hu _
theorem Found.set {m : NMap} {top : Option Nat} {l : List Item} {k u v : ByteArray} {steps : List (Nat × Nat)} {g i : Nat} (h : Found m top l k u steps g i) :
  ∃ its ps, m g = some ⟨its, ps⟩ ∧ its[i]? = some (k, u) ∧ its.length ≤ 6 ∧ ∀ m' : NMap, (m' g = some ⟨its.set i (k, v), ps⟩ → (∀ z, z ≠ g → m' z = m z) → ybu m' top (putN l k v)) := by
 obtain ⟨fs, h, xs, ys, cs, hs, rfl, hc, hm, hk, l1, l2, hnd, rfl, hl, hu⟩ := h
 refine ⟨_, _, hm, by simp, l2, fun m' h1 h2 => ?_⟩
 have hset : (xs ++ (k, u) :: ys).set xs.length (k, v) = xs ++ (k, v) :: ys := by
  rw [List.set_append_right _ _ (Nat.le_refl _)]; simp
 rw [hset] at h1
 have nd1 := List.nodup_append.1 hnd
 have s := yv6 (m := m) (m' := m') (c := ⟨g, [], g :: cs.flatMap Ch.I⟩) (lo := loC fs) (hi := 6) hk rfl nd1.1 l1 l2 h1 h2
 have hc' : Ctx m' h g fs := hc.congr (fun z hz => h2 z (fun e => nd1.2.2 g (by simp) z hz e.symm))
 have t := Ctx.tree (c := ⟨g, yab cs (xs ++ (k, v) :: ys), g :: cs.flatMap Ch.I⟩) hc' s hnd
 have e : putN l k v = preC fs ++ (yab cs (xs ++ (k, v) :: ys) ++ yam fs) := by
  have w1 := yfv hk (i := xs.length) (x := (k, u)) (by simp)
  have hk2 : Kids m h cs (xs ++ (k, v) :: ys).length := by
   have z : (xs ++ (k, v) :: ys).length = (xs ++ (k, u) :: ys).length := by simp
   rw [z]; exact hk
  have w2 := yfv hk2 (i := xs.length) (x := (k, v)) (by simp)
  have t1 : ∀ w : Item, (xs ++ w :: ys).take xs.length = xs := fun w => by simp
  have t2 : ∀ w : Item, (xs ++ w :: ys).drop (xs.length + 1) = ys := fun w => by
   rw [show xs ++ w :: ys = (xs ++ [w]) ++ ys by simp, List.drop_left' (by simp)]
  rw [t1, t2] at w1 w2
  rw [hl, w2, show preC fs ++ (yab cs (xs ++ (k, u) :: ys) ++ yam fs) = (preC fs ++ yab (cs.take (xs.length + 1)) xs) ++ (k, u) :: (yab (cs.drop (xs.length + 1)) ys ++ yam fs) by rw [w1]; simp]
  rw [show putN ((preC fs ++ yab (cs.take (xs.length + 1)) xs) ++ (k, u) :: (yab (cs.drop (xs.length + 1)) ys ++ yam fs)) k v = _ from yhp (x := (k, u)) hu _]
  simp
 rw [e]
 exact t
end Go.Proofs.YtnjodhglbapnlaaGreat
