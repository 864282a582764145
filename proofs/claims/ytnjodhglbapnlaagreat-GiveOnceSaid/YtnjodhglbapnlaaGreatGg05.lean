import Derived.Test.YtnjodhglbapnlaaGreatGg04
import Derived.Test.YtnjodhglbapnlaaGreatGg03
import Derived.Test.YtnjodhglbapnlaaGreatGg01
import Derived.Laws.AppendOwnNone
set_option maxRecDepth 100000
set_option maxHeartbeats 16000000
namespace Go.Proofs.YtnjodhglbapnlaaGreat
open Go.RowKit
abbrev AK.Bad (a : AK) : Prop := a.op < 1 ∨ 4 < a.op ∨ (a.op = 4 ∧ (a.most < 0 ∨ 40 < a.most))
abbrev AK.BadKey (a : AK) : Prop := 16 < a.key.size ∨ (a.key.size = 0 ∧ a.op ≠ 4)
section
variable {s : HO} {a : AK}
theorem yrv (h : ¬ a.Bad) (h1 : a.BadKey) : Did s a (TL.err 3) s := by
 have e : s.bar a = some (TL.err 3) := by unfold HO.bar; rw [if_neg h, if_pos h1]
 unfold Did
 rw [e]
 exact ⟨rfl, rfl⟩
theorem yrw (h : ¬ a.Bad) (h1 : ¬ a.BadKey) (h2 : s.own (yac a.key) = none) : Did s a ⟨8, ⟨#[]⟩, [], false, ⟨#[]⟩, (yao s.g.l (yac a.key)).getD (-1)⟩ s := by
 have e : s.bar a = some ⟨8, ⟨#[]⟩, [], false, ⟨#[]⟩, (yao s.g.l (yac a.key)).getD (-1)⟩ := by unfold HO.bar; rw [if_neg h, if_neg h1, if_pos h2]
 unfold Did
 rw [e]
 exact ⟨rfl, rfl⟩
theorem yrx (h : ¬ a.Bad) (h1 : ¬ a.BadKey) (h2 : s.own (yac a.key) ≠ none) (h3 : s.g.frozen (yac a.key) = true) : Did s a (TL.err 7) s := by
 have e : s.bar a = some (TL.err 7) := by unfold HO.bar; rw [if_neg h, if_neg h1, if_neg h2, if_pos h3]
 unfold Did
 rw [e]
 exact ⟨rfl, rfl⟩
structure AK.Good (s : HO) (a : AK) : Prop where
 ok : ¬ a.Bad
 key : ¬ a.BadKey
 own : s.own (yac a.key) ≠ none
 free : s.g.frozen (yac a.key) = false
theorem AK.Good.bar (h : AK.Good s a) : s.bar a = none := by
 unfold HO.bar
 rw [if_neg h.ok, if_neg h.key, if_neg h.own, if_neg (by rw [h.free]; simp)]
theorem yh3 (h : AK.Good s a) (h1 : a.op = 2) : Did s a (TL.err (s.putE a.key a.val)) (if s.putE a.key a.val = 0 then s.with (putN s.its a.key a.val) else s) := by
 unfold Did
 rw [h.bar]
 exact .inr (.inl ⟨h1, rfl, rfl⟩)
end
theorem RH.with {w w' : World} {r rs f t : Nat} {Fs Fs' : List Nat} {s : HO} {l : List AO} {V P : Value} (h : RH w r rs Fs s l V P f t) (k : Touch [rs] w w') {its : List Item} (hs : RS w' rs Fs' s.most its) (hF : ∀ q ∈ Fs', q ∈ Fs ∨ w.heap.size ≤ q) (hl : (its.length : Int) ≤ s.most) : RH w' r rs Fs' (s.with its) l V P f t := by
 have hall := h.all_lt
 have hn : ∀ q ∈ r :: (V.ownBlock.toList ++ P.ownBlock.toList), q ∉ Fs → q ∉ Fs' := fun q hq hn z => by
  rcases hF q z with y | y
  ·exact hn y
  ·have := hall q (by
    simp only [RH.blocks, List.mem_cons, List.mem_append] at hq ⊢
    rcases hq with rfl | hq | hq
    ·exact .inl rfl
    ·exact .inr (.inr (.inr (.inl hq)))
    ·exact .inr (.inr (.inr (.inr hq))))
   omega
 refine ⟨(k.block r h.lt (by simp; exact h.ap.1)).trans h.hr, k.row h.vl (fun q hq z => (h.ap.2.2.1 q hq).2.1 (by simpa using z)), k.row h.vp (fun q hq z => (h.ap.2.2.2 q hq).2.1 (by simpa using z)), hs, h.shut, h.own, h.fl, h.fg, h.ft, ⟨h.ap.1, hn r (by simp) h.ap.2.1, fun q hq => ⟨(h.ap.2.2.1 q hq).1, (h.ap.2.2.1 q hq).2.1, hn q (by simp [hq]) (h.ap.2.2.1 q hq).2.2⟩, fun q hq => ⟨(h.ap.2.2.2 q hq).1, (h.ap.2.2.2 q hq).2.1, hn q (by simp [hq]) (h.ap.2.2.2 q hq).2.2⟩⟩, h.few, ⟨h.fm.1, h.fm.2.1, hl, h.fm.2.2.2⟩⟩
def putE (most : Int) (l : List Item) (k v : ByteArray) : Int :=
 if yal k ≠ 0 then yal k else if yas v ≠ 0 then yas v else if hasN l k = false ∧ most ≤ l.length then 5 else 0
def putS (most : Int) (l : List Item) (k v : ByteArray) : List Item := if putE most l k v = 0 then putN l k v else l
def yh4 (W : World) (g : Nat) (F : List Nat) (most : Int) (l : List Item) (k v : ByteArray) (e : Ending) (w' : World) : Prop :=
 e = .returned (.int .i64 (putE most l k v)) ∧ Touch [g] W w' ∧ ∃ F', RS w' g F' most (putS most l k v) ∧ ∀ q, q ∈ F' → q ∈ F ∨ W.heap.size ≤ q
theorem ygg {W V : World} {g : Nat} {F : List Nat} {most r : Int} {l : List Item} {k v : ByteArray} (hE : putE most l k v = r) (hr : r ≠ 0) (hR : RS V g F most l) (hV : Touch [] W V) : yh4 W g F most l k v (.returned (.int .i64 r)) V := by
 refine ⟨by rw [hE], hV.mono (by simp), F, ?_, fun q hq => .inl hq⟩
 rw [putS, if_neg (by rw [hE]; exact hr)]
 exact hR
theorem ygh {W V w2 : World} {g c2 m : Nat} {F : List Nat} {most : Int} {l l2 : List Item} {k v : ByteArray} {A2 : Option Addr} {xs : List Value} (hE : putE most l k v = 0)
  (hd : putN l k v = l2) (hR : RS V g F most l) (hV : Touch [] W V) (h2 : Touch [] V w2)
  (ho : w2.ownsRow V.heap.size 96 2 (.slice A2 m c2) m xs) (hm : l2.length = m) (hxs : xs = yaa l2) :
  yh4 W g F most l k v (.returned (.int .i64 0)) (w2.setCell ⟨g, 1, none⟩ (.slice A2 m c2)) := by
 subst hxs
 obtain ⟨F', a, b⟩ := hR.stored h2 ho hm
 refine ⟨by rw [hE], ((hV.trans h2 (by simp)).mono (by simp)).set (.inl (by simp)) _, F', by rw [putS, if_pos hE, hd]; exact a, fun q hq => .inr (Nat.le_trans hV.size (b q hq))⟩
theorem yabi (g : Nat) (F : List Nat) (most : Int) (l : List Item) (k v : ByteArray) (W : World) (hR : RS W g F most l) (hk : k.size ≤ maxLen) (hv : v.size ≤ maxLen) (h : yal k ≠ 0 ∨ yas v ≠ 0) :
  Calls Tryz.prog 69 #[.pointer (some ⟨g, 0, none⟩), .string k, .string v] W (yh4 W g F most l k v) := by
 have CK := Lib.hid (fun W => yja k W hk)
 have CV := Lib.hid (fun W => yjb v W hv)
 by_cases h1 : yal k = 0
 ·have h2 : yas v ≠ 0 := by rcases h with h | h; exact absurd h1 h; exact h
  have HE := Lib.hid (show putE most l k v = yas v by rw [putE, if_neg (by simp [h1]), if_pos h2])
  rw [h1] at CK
  have H2 := Lib.hid h2
  have hb : (yas v != 0) = true := by rw [bne_iff_ne]; exact h2
  have HR := Lib.hid hR
  clear h h1 h2 hk hv hR
  generalize yas v = r at *
  go_enter Tryz.func69, Tryz.ntmps69
  go_wp2_with (first
   | (go_at_call 62; ((with_reducible refine (CK.out _).mono ?_); rintro e w1 ⟨rfl, rfl⟩))
   | (go_at_call 68; ((with_reducible refine (CV.out _).mono ?_); rintro e w1 ⟨rfl, rfl⟩)))
  go_ret
  exact ygg HE.out H2.out HR.out (Touch.refl _ _)
 ·have HE := Lib.hid (show putE most l k v = yal k by rw [putE, if_pos h1])
  have H2 := Lib.hid h1
  have hb : (yal k != 0) = true := by rw [bne_iff_ne]; exact h1
  have HR := Lib.hid hR
  clear h h1 hk hv hR
  generalize yal k = r at *
  go_enter Tryz.func69, Tryz.ntmps69
  go_wp2_with (go_at_call 62; ((with_reducible refine (CK.out _).mono ?_); rintro e w1 ⟨rfl, rfl⟩))
  go_ret
  exact ygg HE.out H2.out HR.out (Touch.refl _ _)
theorem yry (g : Nat) (F : List Nat) (most : Int) (l : List Item) (k v : ByteArray) (W : World) (hR : RS W g F most l) (hl : l.length ≤ 100000) (hm0 : -9223372036854775808 ≤ most) (hm1 : most ≤ 9223372036854775807)
  (hk : k.size ≤ maxLen) (hv : v.size ≤ maxLen) (h1 : yal k = 0) (h2 : yas v = 0) :
  Calls Tryz.prog 69 #[.pointer (some ⟨g, 0, none⟩), .string k, .string v] W (yh4 W g F most l k v) := by
 have CK := Lib.hid (fun W => yja k W hk)
 have CV := Lib.hid (fun W => yjb v W hv)
 rw [h1] at CK
 rw [h2] at CV
 have CA := Lib.hid (yl6 g F most l k W hR)
 have hEe : putE most l k v = if hasN l k = false ∧ most ≤ l.length then 5 else 0 := by rw [putE, if_neg (by simp [h1]), if_neg (by simp [h2])]
 have hPN : putN l k v = l.take (yai l k) ++ (k, v) :: l.drop (if hasN l k then yai l k + 1 else yai l k) := rfl
 have hpl := yd2 l k
 have hph := @yf7 l k
 clear h1 h2 hk hv
 obtain ⟨i0, z0, hi, hz, hs2, hb32, hzc⟩ := yq7
 have HR := Lib.hid hR
 obtain ⟨A, c, ⟨r1, r2, r3, r4, r5⟩, h6, h7, h8⟩ := hR
 have hcap : l.length ≤ c := h6.cap
 have HRow := Lib.hid h6
 generalize yai l k = p at *
 generalize hasN l k = b at *
 obtain ⟨n, hn⟩ : ∃ n, l.length = n := ⟨_, rfl⟩
 have HN := Lib.hid hn
 rw [hn] at r3 hpl hl hcap hEe hph
 clear h6 h7 h8 hn
 cases b
 ·
  by_cases hfull : most ≤ n
  ·have HEE := Lib.hid (show putE most l k v = 5 by rw [hEe, if_pos ⟨rfl, hfull⟩])
   clear hEe hPN hph
   rcases HRow.out.nilOr with ⟨hA, hn0⟩ | ⟨q, rfl⟩
   ·rw [HN.out] at hn0
    subst hn0
    injection hA with hA1 hA2 hA3
    subst hA1 hA3
    obtain rfl : p = 0 := by omega
    go_enter Tryz.func69, Tryz.ntmps69
    go_upto_region 11 with (first
     | (go_at_call 62; ((with_reducible refine (CK.out _).mono ?_); rintro e w1 ⟨rfl, rfl⟩))
     | (go_at_call 68; ((with_reducible refine (CV.out _).mono ?_); rintro e w1 ⟨rfl, rfl⟩))
     | (go_at_call 67; ((with_reducible refine (CA.out).mono ?_); rintro e w1 ⟨rfl, na, rfl⟩)))
    have HTV : Hid (Touch [] W (W.drewN na)) := (Touch.refl _ _).drewN _
    have HRS : Hid (RS (W.drewN na) g F most l) := HR.out
    have v2 : (W.drewN na).cell? ⟨g, 0, none⟩ = some (.int .i64 most) := r2
    have v3 : (W.drewN na).cell? ⟨g, 1, none⟩ = some (.slice none 0 0) := r3
    generalize W.drewN na = V at *
    clear r1 r2 r3 r4 r5 CA CK CV
    go_quiet (fail)
    go_wp2
    go_ret
    exact ygg HEE.out (by decide) (show RS (V.drewN _) g F most l from HRS.out) (HTV.out.drewN _)
   ·have hpc : p ≤ c := by omega
    have hpn : p ≤ n := by omega
    by_cases hce : c = p
    ·subst hce
     go_enter Tryz.func69, Tryz.ntmps69
     go_upto_region 11 with (first
      | (go_at_call 62; ((with_reducible refine (CK.out _).mono ?_); rintro e w1 ⟨rfl, rfl⟩))
      | (go_at_call 68; ((with_reducible refine (CV.out _).mono ?_); rintro e w1 ⟨rfl, rfl⟩))
      | (go_at_call 67; ((with_reducible refine (CA.out).mono ?_); rintro e w1 ⟨rfl, na, rfl⟩)))
     have HTV : Hid (Touch [] W (W.drewN na)) := (Touch.refl _ _).drewN _
     have HRS : Hid (RS (W.drewN na) g F most l) := HR.out
     have v2 : (W.drewN na).cell? ⟨g, 0, none⟩ = some (.int .i64 most) := r2
     have v3 : (W.drewN na).cell? ⟨g, 1, none⟩ = some (.slice (some ⟨q, 0, none⟩) n c) := r3
     generalize W.drewN na = V at *
     clear r1 r2 r3 r4 r5 CA CK CV
     go_quiet (fail)
     go_wp2
     go_ret
     exact ygg HEE.out (by decide) (show RS (V.drewN _) g F most l from HRS.out) (HTV.out.drewN _)
    ·have hcp : ¬ c = p := hce
     go_enter Tryz.func69, Tryz.ntmps69
     go_upto_region 11 with (first
      | (go_at_call 62; ((with_reducible refine (CK.out _).mono ?_); rintro e w1 ⟨rfl, rfl⟩))
      | (go_at_call 68; ((with_reducible refine (CV.out _).mono ?_); rintro e w1 ⟨rfl, rfl⟩))
      | (go_at_call 67; ((with_reducible refine (CA.out).mono ?_); rintro e w1 ⟨rfl, na, rfl⟩)))
     have HTV : Hid (Touch [] W (W.drewN na)) := (Touch.refl _ _).drewN _
     have HRS : Hid (RS (W.drewN na) g F most l) := HR.out
     have v2 : (W.drewN na).cell? ⟨g, 0, none⟩ = some (.int .i64 most) := r2
     have v3 : (W.drewN na).cell? ⟨g, 1, none⟩ = some (.slice (some ⟨q, 0, none⟩) n c) := r3
     generalize W.drewN na = V at *
     clear r1 r2 r3 r4 r5 CA CK CV
     go_quiet (fail)
     go_wp2
     go_ret
     exact ygg HEE.out (by decide) (show RS (V.drewN _) g F most l from HRS.out) (HTV.out.drewN _)
  ·have HEE := Lib.hid (show putE most l k v = 0 by rw [hEe, if_neg (fun h => hfull h.2)])
   have HPP := Lib.hid (show putN l k v = l.take p ++ (k, v) :: l.drop p from hPN)
   clear hEe hPN hph
   have hfull' : ¬ most ≤ (n : Int) := hfull
   rcases HRow.out.nilOr with ⟨hA, hn0⟩ | ⟨q, rfl⟩
   ·rw [HN.out] at hn0
    subst hn0
    have HNIL : Hid (l = []) := List.eq_nil_of_length_eq_zero HN.out
    injection hA with hA1 hA2 hA3
    subst hA1 hA3
    obtain rfl : p = 0 := by omega
    go_enter Tryz.func69, Tryz.ntmps69
    go_upto_region 11 with (first
     | (go_at_call 62; ((with_reducible refine (CK.out _).mono ?_); rintro e w1 ⟨rfl, rfl⟩))
     | (go_at_call 68; ((with_reducible refine (CV.out _).mono ?_); rintro e w1 ⟨rfl, rfl⟩))
     | (go_at_call 67; ((with_reducible refine (CA.out).mono ?_); rintro e w1 ⟨rfl, na, rfl⟩)))
    have v2 : (W.drewN na).cell? ⟨g, 0, none⟩ = some (.int .i64 most) := r2
    have v3 : (W.drewN na).cell? ⟨g, 1, none⟩ = some (.slice none 0 0) := r3
    go_quiet (fail)
    clear v2 v3
    have HTV : Hid (Touch [] W ((W.drewN na).drewN nq)) := ((Touch.refl _ _).drewN _).drewN _
    have HRS : Hid (RS ((W.drewN na).drewN nq) g F most l) := HR.out
    have v1 : g < ((W.drewN na).drewN nq).heap.size := r1
    have v2 : ((W.drewN na).drewN nq).cell? ⟨g, 0, none⟩ = some (.int .i64 most) := r2
    have v3 : ((W.drewN na).drewN nq).cell? ⟨g, 1, none⟩ = some (.slice none 0 0) := r3
    have v5 : ((W.drewN na).drewN nq).frozen? ⟨g, 1, none⟩ = false := r5
    generalize (W.drewN na).drewN nq = V at *
    clear r1 r2 r3 r4 r5 CA CK CV
    go_wp2_with (first
     | (at_builtin; (refine wpList_append_own_none rfl (.const (.slice none 0 0)) (.tmp 58) 22 rfl V.heap.size 96 i0 2 Tryz.underlying22 hi (.slice none 0 0) 0 [] rfl (World.ownsRow_nil _ _ _ _) rfl ?_))
     | (at_builtin; (refine wpList_append_own _ rfl (.tmp 59) (.tmp 63) 22 rfl V.heap.size 96 i0 z0 2 32 Tryz.underlying22 hi hz hs2 hb32 hzc (by decide) (.slice none 0 0) 0 [] rfl (World.ownsRow_nil _ _ _ _) ⟨V.heap.size, 0, none⟩ 1 1 (yaa [(k, v)]) rfl rfl (yge V k v) (ybc _) (by unfold maxLen; omega) (by omega) (by have := (Touch.refl [] V).size; simp <;> omega) ?_); intro x2 w2 hown2 hg2 hnil2; simp only [Nat.zero_add, List.nil_append] at hown2; have hT2 : Touch [] V w2 := ((Touch.refl [] V).alloc _).grown hg2 (fun q hq => by cases hq); have v3' := (hT2.cell (p := ⟨g, 1, none⟩) v1 (by simp)).trans v3; have v5' := (hT2.frozen (p := ⟨g, 1, none⟩) v1 (by simp)).trans v5; have HT2 := Lib.hid hT2; have HO2 := Lib.hid hown2; clear hT2 hown2 hg2 hnil2)
     | (at_builtin; (refine wpList_append_own_none rfl (.tmp 64) (.tmp 65) 22 rfl V.heap.size 96 i0 2 Tryz.underlying22 hi x2 _ _ rfl HO2.out rfl ?_); obtain ⟨A3, c3, rfl⟩ := yav HO2.out))
    go_ret
    exact ygh HEE.out HPP.out HRS.out HTV.out HT2.out HO2.out (by simp [HNIL.out]) (by simp [HNIL.out, yaa])
   ·have hpc : p ≤ c := by omega
    have hpn : p ≤ n := by omega
    by_cases hce : c = p
    ·subst hce
     have hdr : l.drop c = [] := List.drop_of_length_le (by rw [HN.out]; omega)
     have HDR := Lib.hid hdr
     clear hdr
     go_enter Tryz.func69, Tryz.ntmps69
     go_upto_region 11 with (first
      | (go_at_call 62; ((with_reducible refine (CK.out _).mono ?_); rintro e w1 ⟨rfl, rfl⟩))
      | (go_at_call 68; ((with_reducible refine (CV.out _).mono ?_); rintro e w1 ⟨rfl, rfl⟩))
      | (go_at_call 67; ((with_reducible refine (CA.out).mono ?_); rintro e w1 ⟨rfl, na, rfl⟩)))
     have v2 : (W.drewN na).cell? ⟨g, 0, none⟩ = some (.int .i64 most) := r2
     have v3 : (W.drewN na).cell? ⟨g, 1, none⟩ = some (.slice (some ⟨q, 0, none⟩) n c) := r3
     go_quiet (fail)
     clear v2 v3
     have HRV : Hid (Row ((W.drewN na).drewN nq) (.slice (some ⟨q, 0, none⟩) l.length c) l) := HRow.out
     have HTV : Hid (Touch [] W ((W.drewN na).drewN nq)) := ((Touch.refl _ _).drewN _).drewN _
     have HRS : Hid (RS ((W.drewN na).drewN nq) g F most l) := HR.out
     have v1 : g < ((W.drewN na).drewN nq).heap.size := r1
     have v2 : ((W.drewN na).drewN nq).cell? ⟨g, 0, none⟩ = some (.int .i64 most) := r2
     have v3 : ((W.drewN na).drewN nq).cell? ⟨g, 1, none⟩ = some (.slice (some ⟨q, 0, none⟩) n c) := r3
     have v5 : ((W.drewN na).drewN nq).frozen? ⟨g, 1, none⟩ = false := r5
     generalize (W.drewN na).drewN nq = V at *
     clear r1 r2 r3 r4 r5 CA CK CV
     go_wp2_with (first
      | (at_builtin; (refine wpList_append_own _ rfl (.const (.slice none 0 0)) (.tmp 58) 22 rfl V.heap.size 96 i0 z0 2 32 Tryz.underlying22 hi hz hs2 hb32 hzc (by decide) (.slice none 0 0) 0 [] rfl (World.ownsRow_nil _ _ _ _) ⟨q, 0, none⟩ c c (yaa (l.take c)) rfl (by rw [yb8, List.length_take, HN.out]; omega) (HRV.out.cellsTake c (by rw [HN.out]; omega)) (ybc _) (by unfold maxLen; omega) (by omega) (Nat.le_refl _) ?_); intro x1 w1 hown1 hg1 hnil1; simp only [Nat.zero_add, List.nil_append] at hown1; have hT1 : Touch [] V w1 := (Touch.refl [] V).grown hg1 (fun k hk => by cases hk); have v3' := (hT1.cell (p := ⟨g, 1, none⟩) v1 (by simp)).trans v3; have v5' := (hT1.frozen (p := ⟨g, 1, none⟩) v1 (by simp)).trans v5; have HT1 := Lib.hid hT1; have HO1 := Lib.hid hown1; clear hT1 hown1 hg1 hnil1)
      | (at_builtin; (refine wpList_append_own _ rfl (.tmp 59) (.tmp 63) 22 rfl V.heap.size 96 i0 z0 2 32 Tryz.underlying22 hi hz hs2 hb32 hzc (by decide) x1 _ _ rfl (HO1.out.alloc _) ⟨w1.heap.size, 0, none⟩ 1 1 (yaa [(k, v)]) rfl rfl (yge w1 k v) (ybc _) (by unfold maxLen; omega) (by omega) (by have := HT1.out.size; simp <;> omega) ?_); intro x2 w2 hown2 hg2 hnil2; have hT2 : Touch [] V w2 := (HT1.out.alloc _).grown hg2 (fun q hq => .inr (ycz HO1.out q hq)); have v3' := (hT2.cell (p := ⟨g, 1, none⟩) v1 (by simp)).trans v3; have v5' := (hT2.frozen (p := ⟨g, 1, none⟩) v1 (by simp)).trans v5; have HT2 := Lib.hid hT2; have HO2 := Lib.hid hown2; clear hT2 hown2 hg2 hnil2)
      | (at_builtin; (refine wpList_append_own _ rfl (.tmp 64) (.tmp 65) 22 rfl V.heap.size 96 i0 z0 2 32 Tryz.underlying22 hi hz hs2 hb32 hzc (by decide) x2 _ _ rfl HO2.out ⟨q, 0, none⟩ 0 0 (yaa (l.drop c)) rfl (by rw [HDR.out]; rfl) (by rw [HDR.out]; intro j u hj; simp [yaa] at hj) (ybc _) (by unfold maxLen; omega) (by omega) HT2.out.size ?_); intro x3 w3 hown3 hg3 hnil3; simp only [Nat.add_zero] at hown3; obtain ⟨A3, c3, rfl⟩ := yav hown3; have hT3 : Touch [] V w3 := HT2.out.grown hg3 (fun q hq => .inr (ycz HO2.out q hq)); have v3' := (hT3.cell (p := ⟨g, 1, none⟩) v1 (by simp)).trans v3; have v5' := (hT3.frozen (p := ⟨g, 1, none⟩) v1 (by simp)).trans v5; have HT3 := Lib.hid hT3; have HO3 := Lib.hid hown3; clear hT3 hown3 hg3 hnil3))
     go_ret
     exact ygh HEE.out HPP.out HRS.out HTV.out HT3.out HO3.out (by rw [List.length_append, List.length_cons, List.length_take, List.length_drop, HN.out]; omega) (by rw [yc0, yb4]; simp [yaa])
    ·have hcp : ¬ c = p := hce
     go_enter Tryz.func69, Tryz.ntmps69
     go_upto_region 11 with (first
      | (go_at_call 62; ((with_reducible refine (CK.out _).mono ?_); rintro e w1 ⟨rfl, rfl⟩))
      | (go_at_call 68; ((with_reducible refine (CV.out _).mono ?_); rintro e w1 ⟨rfl, rfl⟩))
      | (go_at_call 67; ((with_reducible refine (CA.out).mono ?_); rintro e w1 ⟨rfl, na, rfl⟩)))
     have v2 : (W.drewN na).cell? ⟨g, 0, none⟩ = some (.int .i64 most) := r2
     have v3 : (W.drewN na).cell? ⟨g, 1, none⟩ = some (.slice (some ⟨q, 0, none⟩) n c) := r3
     go_quiet (fail)
     clear v2 v3
     have HRV : Hid (Row ((W.drewN na).drewN nq) (.slice (some ⟨q, 0, none⟩) l.length c) l) := HRow.out
     have HTV : Hid (Touch [] W ((W.drewN na).drewN nq)) := ((Touch.refl _ _).drewN _).drewN _
     have HRS : Hid (RS ((W.drewN na).drewN nq) g F most l) := HR.out
     have v1 : g < ((W.drewN na).drewN nq).heap.size := r1
     have v2 : ((W.drewN na).drewN nq).cell? ⟨g, 0, none⟩ = some (.int .i64 most) := r2
     have v3 : ((W.drewN na).drewN nq).cell? ⟨g, 1, none⟩ = some (.slice (some ⟨q, 0, none⟩) n c) := r3
     have v5 : ((W.drewN na).drewN nq).frozen? ⟨g, 1, none⟩ = false := r5
     generalize (W.drewN na).drewN nq = V at *
     clear r1 r2 r3 r4 r5 CA CK CV
     go_wp2_with (first
      | (at_builtin; (refine wpList_append_own _ rfl (.const (.slice none 0 0)) (.tmp 58) 22 rfl V.heap.size 96 i0 z0 2 32 Tryz.underlying22 hi hz hs2 hb32 hzc (by decide) (.slice none 0 0) 0 [] rfl (World.ownsRow_nil _ _ _ _) ⟨q, 0, none⟩ p c (yaa (l.take p)) rfl (by rw [yb8, List.length_take, HN.out]; omega) (HRV.out.cellsTake p (by rw [HN.out]; omega)) (ybc _) (by unfold maxLen; omega) (by omega) (Nat.le_refl _) ?_); intro x1 w1 hown1 hg1 hnil1; simp only [Nat.zero_add, List.nil_append] at hown1; have hT1 : Touch [] V w1 := (Touch.refl [] V).grown hg1 (fun k hk => by cases hk); have v3' := (hT1.cell (p := ⟨g, 1, none⟩) v1 (by simp)).trans v3; have v5' := (hT1.frozen (p := ⟨g, 1, none⟩) v1 (by simp)).trans v5; have HT1 := Lib.hid hT1; have HO1 := Lib.hid hown1; clear hT1 hown1 hg1 hnil1)
      | (at_builtin; (refine wpList_append_own _ rfl (.tmp 59) (.tmp 63) 22 rfl V.heap.size 96 i0 z0 2 32 Tryz.underlying22 hi hz hs2 hb32 hzc (by decide) x1 _ _ rfl (HO1.out.alloc _) ⟨w1.heap.size, 0, none⟩ 1 1 (yaa [(k, v)]) rfl rfl (yge w1 k v) (ybc _) (by unfold maxLen; omega) (by omega) (by have := HT1.out.size; simp <;> omega) ?_); intro x2 w2 hown2 hg2 hnil2; have hT2 : Touch [] V w2 := (HT1.out.alloc _).grown hg2 (fun q hq => .inr (ycz HO1.out q hq)); have v3' := (hT2.cell (p := ⟨g, 1, none⟩) v1 (by simp)).trans v3; have v5' := (hT2.frozen (p := ⟨g, 1, none⟩) v1 (by simp)).trans v5; have HT2 := Lib.hid hT2; have HO2 := Lib.hid hown2; clear hT2 hown2 hg2 hnil2)
      | (at_builtin; (refine wpList_append_own _ rfl (.tmp 64) (.tmp 65) 22 rfl V.heap.size 96 i0 z0 2 32 Tryz.underlying22 hi hz hs2 hb32 hzc (by decide) x2 _ _ rfl HO2.out ⟨q, p * 2, none⟩ (n - p) (c - p) (yaa (l.drop p)) rfl (by rw [yb8, List.length_drop, HN.out]) (Row.cellsDrop (HT2.out.row HRV.out (by simp)) p) (ybc _) (by unfold maxLen; omega) (by omega) HT2.out.size ?_); intro x3 w3 hown3 hg3 hnil3; obtain ⟨A3, c3, rfl⟩ := yav hown3; have hT3 : Touch [] V w3 := HT2.out.grown hg3 (fun q hq => .inr (ycz HO2.out q hq)); have v3' := (hT3.cell (p := ⟨g, 1, none⟩) v1 (by simp)).trans v3; have v5' := (hT3.frozen (p := ⟨g, 1, none⟩) v1 (by simp)).trans v5; have HT3 := Lib.hid hT3; have HO3 := Lib.hid hown3; clear hT3 hown3 hg3 hnil3))
     go_ret
     exact ygh HEE.out HPP.out HRS.out HTV.out HT3.out HO3.out (by rw [List.length_append, List.length_cons, List.length_take, List.length_drop, HN.out]; omega) (by rw [yc0, yb4]; simp [yaa])
 ·
  have hpn1 : p < n := hph rfl
  have HEE := Lib.hid (show putE most l k v = 0 by rw [hEe, if_neg (fun h => by cases h.1)])
  have HPP := Lib.hid (show putN l k v = l.take p ++ (k, v) :: l.drop (p + 1) from hPN)
  clear hEe hPN hph
  obtain ⟨q, rfl⟩ := HRow.out.atBlock (by rw [HN.out]; omega)
  have hpc : p ≤ c := by omega
  have hpn : p ≤ n := by omega
  have hcp : ¬ c = p := by omega
  have hpn2 : p + 1 ≤ n := by omega
  by_cases hce : c = p + 1
  ·subst hce
   have hdr : l.drop (p + 1) = [] := List.drop_of_length_le (by rw [HN.out]; omega)
   have HDR := Lib.hid hdr
   clear hdr
   go_enter Tryz.func69, Tryz.ntmps69
   go_upto_region 13 with (first
    | (go_at_call 62; ((with_reducible refine (CK.out _).mono ?_); rintro e w1 ⟨rfl, rfl⟩))
    | (go_at_call 68; ((with_reducible refine (CV.out _).mono ?_); rintro e w1 ⟨rfl, rfl⟩))
    | (go_at_call 67; ((with_reducible refine (CA.out).mono ?_); rintro e w1 ⟨rfl, na, rfl⟩)))
   have HRV : Hid (Row (W.drewN na) (.slice (some ⟨q, 0, none⟩) l.length (p + 1)) l) := HRow.out
   have HTV : Hid (Touch [] W (W.drewN na)) := (Touch.refl _ _).drewN _
   have HRS : Hid (RS (W.drewN na) g F most l) := HR.out
   have v1 : g < (W.drewN na).heap.size := r1
   have v2 : (W.drewN na).cell? ⟨g, 0, none⟩ = some (.int .i64 most) := r2
   have v3 : (W.drewN na).cell? ⟨g, 1, none⟩ = some (.slice (some ⟨q, 0, none⟩) n (p + 1)) := r3
   have v5 : (W.drewN na).frozen? ⟨g, 1, none⟩ = false := r5
   generalize W.drewN na = V at *
   clear r1 r2 r3 r4 r5 CA CK CV
   go_wp2_with (first
    | (at_builtin; (refine wpList_append_own _ rfl (.const (.slice none 0 0)) (.tmp 58) 22 rfl V.heap.size 96 i0 z0 2 32 Tryz.underlying22 hi hz hs2 hb32 hzc (by decide) (.slice none 0 0) 0 [] rfl (World.ownsRow_nil _ _ _ _) ⟨q, 0, none⟩ p (p + 1) (yaa (l.take p)) rfl (by rw [yb8, List.length_take, HN.out]; omega) (HRV.out.cellsTake p (by rw [HN.out]; omega)) (ybc _) (by unfold maxLen; omega) (by omega) (Nat.le_refl _) ?_); intro x1 w1 hown1 hg1 hnil1; simp only [Nat.zero_add, List.nil_append] at hown1; have hT1 : Touch [] V w1 := (Touch.refl [] V).grown hg1 (fun k hk => by cases hk); have v3' := (hT1.cell (p := ⟨g, 1, none⟩) v1 (by simp)).trans v3; have v5' := (hT1.frozen (p := ⟨g, 1, none⟩) v1 (by simp)).trans v5; have HT1 := Lib.hid hT1; have HO1 := Lib.hid hown1; clear hT1 hown1 hg1 hnil1)
    | (at_builtin; (refine wpList_append_own _ rfl (.tmp 59) (.tmp 63) 22 rfl V.heap.size 96 i0 z0 2 32 Tryz.underlying22 hi hz hs2 hb32 hzc (by decide) x1 _ _ rfl (HO1.out.alloc _) ⟨w1.heap.size, 0, none⟩ 1 1 (yaa [(k, v)]) rfl rfl (yge w1 k v) (ybc _) (by unfold maxLen; omega) (by omega) (by have := HT1.out.size; simp <;> omega) ?_); intro x2 w2 hown2 hg2 hnil2; have hT2 : Touch [] V w2 := (HT1.out.alloc _).grown hg2 (fun q hq => .inr (ycz HO1.out q hq)); have v3' := (hT2.cell (p := ⟨g, 1, none⟩) v1 (by simp)).trans v3; have v5' := (hT2.frozen (p := ⟨g, 1, none⟩) v1 (by simp)).trans v5; have HT2 := Lib.hid hT2; have HO2 := Lib.hid hown2; clear hT2 hown2 hg2 hnil2)
    | (at_builtin; (refine wpList_append_own _ rfl (.tmp 64) (.tmp 65) 22 rfl V.heap.size 96 i0 z0 2 32 Tryz.underlying22 hi hz hs2 hb32 hzc (by decide) x2 _ _ rfl HO2.out ⟨q, 0, none⟩ 0 0 (yaa (l.drop (p + 1))) rfl (by rw [HDR.out]; rfl) (by rw [HDR.out]; intro j u hj; simp [yaa] at hj) (ybc _) (by unfold maxLen; omega) (by omega) HT2.out.size ?_); intro x3 w3 hown3 hg3 hnil3; simp only [Nat.add_zero] at hown3; obtain ⟨A3, c3, rfl⟩ := yav hown3; have hT3 : Touch [] V w3 := HT2.out.grown hg3 (fun q hq => .inr (ycz HO2.out q hq)); have v3' := (hT3.cell (p := ⟨g, 1, none⟩) v1 (by simp)).trans v3; have v5' := (hT3.frozen (p := ⟨g, 1, none⟩) v1 (by simp)).trans v5; have HT3 := Lib.hid hT3; have HO3 := Lib.hid hown3; clear hT3 hown3 hg3 hnil3))
   go_ret
   exact ygh HEE.out HPP.out HRS.out HTV.out HT3.out HO3.out (by rw [List.length_append, List.length_cons, List.length_take, List.length_drop, HN.out]; omega) (by rw [yc0, yb4]; simp [yaa])
  ·have hcp1 : ¬ c = p + 1 := hce
   go_enter Tryz.func69, Tryz.ntmps69
   go_upto_region 13 with (first
    | (go_at_call 62; ((with_reducible refine (CK.out _).mono ?_); rintro e w1 ⟨rfl, rfl⟩))
    | (go_at_call 68; ((with_reducible refine (CV.out _).mono ?_); rintro e w1 ⟨rfl, rfl⟩))
    | (go_at_call 67; ((with_reducible refine (CA.out).mono ?_); rintro e w1 ⟨rfl, na, rfl⟩)))
   have HRV : Hid (Row (W.drewN na) (.slice (some ⟨q, 0, none⟩) l.length c) l) := HRow.out
   have HTV : Hid (Touch [] W (W.drewN na)) := (Touch.refl _ _).drewN _
   have HRS : Hid (RS (W.drewN na) g F most l) := HR.out
   have v1 : g < (W.drewN na).heap.size := r1
   have v2 : (W.drewN na).cell? ⟨g, 0, none⟩ = some (.int .i64 most) := r2
   have v3 : (W.drewN na).cell? ⟨g, 1, none⟩ = some (.slice (some ⟨q, 0, none⟩) n c) := r3
   have v5 : (W.drewN na).frozen? ⟨g, 1, none⟩ = false := r5
   generalize W.drewN na = V at *
   clear r1 r2 r3 r4 r5 CA CK CV
   go_wp2_with (first
    | (at_builtin; (refine wpList_append_own _ rfl (.const (.slice none 0 0)) (.tmp 58) 22 rfl V.heap.size 96 i0 z0 2 32 Tryz.underlying22 hi hz hs2 hb32 hzc (by decide) (.slice none 0 0) 0 [] rfl (World.ownsRow_nil _ _ _ _) ⟨q, 0, none⟩ p c (yaa (l.take p)) rfl (by rw [yb8, List.length_take, HN.out]; omega) (HRV.out.cellsTake p (by rw [HN.out]; omega)) (ybc _) (by unfold maxLen; omega) (by omega) (Nat.le_refl _) ?_); intro x1 w1 hown1 hg1 hnil1; simp only [Nat.zero_add, List.nil_append] at hown1; have hT1 : Touch [] V w1 := (Touch.refl [] V).grown hg1 (fun k hk => by cases hk); have v3' := (hT1.cell (p := ⟨g, 1, none⟩) v1 (by simp)).trans v3; have v5' := (hT1.frozen (p := ⟨g, 1, none⟩) v1 (by simp)).trans v5; have HT1 := Lib.hid hT1; have HO1 := Lib.hid hown1; clear hT1 hown1 hg1 hnil1)
    | (at_builtin; (refine wpList_append_own _ rfl (.tmp 59) (.tmp 63) 22 rfl V.heap.size 96 i0 z0 2 32 Tryz.underlying22 hi hz hs2 hb32 hzc (by decide) x1 _ _ rfl (HO1.out.alloc _) ⟨w1.heap.size, 0, none⟩ 1 1 (yaa [(k, v)]) rfl rfl (yge w1 k v) (ybc _) (by unfold maxLen; omega) (by omega) (by have := HT1.out.size; simp <;> omega) ?_); intro x2 w2 hown2 hg2 hnil2; have hT2 : Touch [] V w2 := (HT1.out.alloc _).grown hg2 (fun q hq => .inr (ycz HO1.out q hq)); have v3' := (hT2.cell (p := ⟨g, 1, none⟩) v1 (by simp)).trans v3; have v5' := (hT2.frozen (p := ⟨g, 1, none⟩) v1 (by simp)).trans v5; have HT2 := Lib.hid hT2; have HO2 := Lib.hid hown2; clear hT2 hown2 hg2 hnil2)
    | (at_builtin; (refine wpList_append_own _ rfl (.tmp 64) (.tmp 65) 22 rfl V.heap.size 96 i0 z0 2 32 Tryz.underlying22 hi hz hs2 hb32 hzc (by decide) x2 _ _ rfl HO2.out ⟨q, (p + 1) * 2, none⟩ (n - (p + 1)) (c - (p + 1)) (yaa (l.drop (p + 1))) rfl (by rw [yb8, List.length_drop, HN.out]) (Row.cellsDrop (HT2.out.row HRV.out (by simp)) (p + 1)) (ybc _) (by unfold maxLen; omega) (by omega) HT2.out.size ?_); intro x3 w3 hown3 hg3 hnil3; rw [show p + 1 + (n - (p + 1)) = n by omega] at hown3; obtain ⟨A3, c3, rfl⟩ := yav hown3; have hT3 : Touch [] V w3 := HT2.out.grown hg3 (fun q hq => .inr (ycz HO2.out q hq)); have v3' := (hT3.cell (p := ⟨g, 1, none⟩) v1 (by simp)).trans v3; have v5' := (hT3.frozen (p := ⟨g, 1, none⟩) v1 (by simp)).trans v5; have HT3 := Lib.hid hT3; have HO3 := Lib.hid hown3; clear hT3 hown3 hg3 hnil3))
   go_ret
   exact ygh HEE.out HPP.out HRS.out HTV.out HT3.out HO3.out (by rw [List.length_append, List.length_cons, List.length_take, List.length_drop, HN.out]; omega) (by rw [yc0, yb4]; simp [yaa])
def DP (W : World) (r rs : Nat) (Fs : List Nat) (s : HO) (l : List AO) (V P : Value) (f t : Nat) (a : AK) (e : Ending) (w' : World) : Prop :=
 ∃ tl s1 Fs', Did s a tl s1 ∧ tl.its = [] ∧ e = .returned (.agg (tl.cells (.slice none 0 0))) ∧ RH w' r rs Fs' s1 l V P f t ∧ (∀ q ∈ Fs', q ∈ Fs ∨ W.heap.size ≤ q) ∧ Touch [rs] W w'
theorem TZ.touch {w w1 : World} {q : Nat} {G : List Nat} (h : TZ w q) (t : Touch G w w1) (hq : q ∉ G) : TZ w1 q := by
 have hl : q < w.heap.size := h.c.lt
 exact ⟨h.c.kept (P := [q]) ⟨G, t, fun x hx => by simp at hx; rwa [hx]⟩ (by simp), (t.frozen (p := ⟨q, 0, none⟩) hl hq).trans h.f0, (t.frozen (p := ⟨q, 1, none⟩) hl hq).trans h.f1, (t.frozen (p := ⟨q, 2, none⟩) hl hq).trans h.f2, (t.frozen (p := ⟨q, 3, none⟩) hl hq).trans h.f3, (t.frozen (p := ⟨q, 4, none⟩) hl hq).trans h.f4, (t.frozen (p := ⟨q, 5, none⟩) hl hq).trans h.f5⟩
theorem yma {W wq w8 w9 : World} {r rs qt : Nat} {Fs F' : List Nat} {s : HO} {l : List AO} {V P : Value} {f t : Nat} {a : AK} {its : List Item} (h : RH W r rs Fs s l V P f t) (hb : Below W.heap.size W wq) (k : Touch [rs] wq w8) (hs : RS w8 rs F' s.most its) (hF : ∀ q ∈ F', q ∈ Fs ∨ wq.heap.size ≤ q) (hl : (its.length : Int) ≤ s.most) (T9 : Touch [qt] w8 w9) (hq : W.heap.size ≤ qt) (hq2 : qt < wq.heap.size)
  (hd : Did s a (TL.err 0) (s.with its)) : DP W r rs Fs s l V P f t a (.returned (.agg #[.int .i64 0, .string ⟨#[]⟩, .slice none 0 0, .bool false, .string ⟨#[]⟩, .int .i64 0])) w9 := by
 have hall := h.all_lt
 refine ⟨_, _, F', hd, rfl, rfl, ((h.below hb).with k hs hF hl).touch T9 (fun q hq' z => ?_), fun q hq' => (hF q hq').imp id (fun y => Nat.le_trans hb.size y), ((Touch.ofBelow (F := [rs]) hb).trans k (fun x hx => .inl hx)).trans T9 (fun x hx => .inr (by simp at hx; rw [hx]; exact hq))⟩
 simp only [List.mem_singleton] at z
 subst z
 simp only [RH.blocks, List.mem_cons, List.mem_append] at hq'
 rcases hq' with e | e | e | e
 ·have := hall r (by simp); omega
 ·have := hall rs (by simp); omega
 ·rcases hF q e with y | y
  ·have := hall q (by simp [y]); omega
  ·omega
 ·have := hall q (by simp only [RH.blocks, List.mem_cons, List.mem_append]; exact .inr (.inr (.inr e))); omega
theorem yfo {W w9 : World} {r rs : Nat} {Fs : List Nat} {s : HO} {l : List AO} {V P : Value} {f t : Nat} {a : AK} {er nd : Int} (h : RH W r rs Fs s l V P f t) (hb : Below W.heap.size W w9) (hd : Did s a ⟨er, ⟨#[]⟩, [], false, ⟨#[]⟩, nd⟩ s) :
  DP W r rs Fs s l V P f t a (.returned (.agg #[.int .i64 er, .string ⟨#[]⟩, .slice none 0 0, .bool false, .string ⟨#[]⟩, .int .i64 nd])) w9 :=
 ⟨_, s, Fs, hd, rfl, rfl, h.below hb, fun q hq => .inl hq, (Touch.ofBelow (F := []) hb).mono (by simp)⟩
theorem yrz {W : World} {r rs f t : Nat} {Fs : List Nat} {s : HO} {l : List AO} {V P : Value} (h : RH W r rs Fs s l V P f t) (hl : l.length ≤ 1000) (hgl : s.g.l.length ≤ 1000) (key val tt : ByteArray) (mm : Nat) (hk : key.size ≤ maxLen) (hv : val.size ≤ maxLen) :
  Calls Tryz.prog 22 #[.pointer (some ⟨r, 0, none⟩), .agg #[.int .i64 2, .string key, .string val, .string tt, .int .i64 (mm : Nat)]] W (DP W r rs Fs s l V P f t ⟨2, key, val, tt, (mm : Nat)⟩) := by
 obtain ⟨W1, hW1⟩ : ∃ w, W.alloc (.cells #[.int .i64 2, .string key, .string val, .string tt, .int .i64 (mm : Nat)] 45) = w := ⟨_, rfl⟩
 have HH := Lib.hid h
 go_enter Tryz.func22, Tryz.ntmps22
 go_upto_region 1 with fail
 obtain ⟨W2, hW2⟩ : ∃ w, W1.alloc (.cells #[.int .i64 0, .string ⟨#[]⟩, .slice none 0 0, .bool false, .string ⟨#[]⟩, .int .i64 0] 47) = w := ⟨_, rfl⟩
 have B1 : Below W.heap.size W W1 := by rw [← hW1]; exact (Below.refl _ _).alloc (Nat.le_refl _) _
 have B12 : Below W1.heap.size W1 W2 := by rw [← hW2]; exact (Below.refl _ _).alloc (Nat.le_refl _) _
 have HB2 : Hid (Below W.heap.size W W2) := acc B1 B12
 have hq1 : W.heap.size < W1.heap.size := by rw [← hW1]; simp
 have hq2 : W1.heap.size < W2.heap.size := by rw [← hW2]; simp
 have HBX : Hid (∀ w, Below W2.heap.size W2 w → w.cell? ⟨W.heap.size, 0, none⟩ = some (.int .i64 2) ∧ w.cell? ⟨W.heap.size, 1, none⟩ = some (.string key) ∧ w.cell? ⟨W.heap.size, 2, none⟩ = some (.string val) ∧ w.cell? ⟨r, 4, none⟩ = some (.pointer (some ⟨rs, 0, none⟩))) := fun w hw => by
  have z : W1.cell? ⟨W.heap.size, 0, none⟩ = some (.int .i64 2) ∧ W1.cell? ⟨W.heap.size, 1, none⟩ = some (.string key) ∧ W1.cell? ⟨W.heap.size, 2, none⟩ = some (.string val) := by
   have y := yrt W (.int .i64 2) (.string key) (.string val) (.string tt) (.int .i64 (mm : Nat)) 45
   rw [hW1] at y
   exact ⟨y.1, y.2.1, y.2.2.1⟩
  have hb := acc B12 hw
  exact ⟨(hb.cell (p := ⟨W.heap.size, 0, none⟩) hq1).trans z.1, (hb.cell (p := ⟨W.heap.size, 1, none⟩) hq1).trans z.2.1, (hb.cell (p := ⟨W.heap.size, 2, none⟩) hq1).trans z.2.2, ((acc HB2.out hw).cell (p := ⟨r, 4, none⟩) HH.out.lt).trans (ya4 HH.out.hr rfl)⟩
 have HTB : Hid (∀ w, Below W2.heap.size W2 w → TZ w W1.heap.size) := fun w hw => by
  refine TZ.of (T := 47) ?_
  rw [hw.block W1.heap.size hq2, ← hW2]
  exact heap_alloc_new W1 _
 rw [hW2]
 obtain ⟨qb, hqb⟩ : ∃ q, W.heap.size = q := ⟨_, rfl⟩
 obtain ⟨qt, hqt⟩ : ∃ q, W1.heap.size = q := ⟨_, rfl⟩
 have HRQ : Hid (qb ≠ rs ∧ qt ≠ rs) := by
  have := HH.out.all_lt rs (by simp)
  exact ⟨by omega, by omega⟩
 have HQT : Hid (W.heap.size ≤ qt ∧ qt < W2.heap.size ∧ qb ≠ qt) := ⟨by omega, by omega, by omega⟩
 rw [hqb] at HBX
 rw [hqt] at HTB
 (try rw [hqb])
 (try rw [hqt])
 obtain ⟨x1, x2, x3, x4⟩ := HBX.out W2 (Below.refl _ _)
 obtain ⟨⟨z0, z1, z2, z3, z4, z5⟩, y0, y1, y2, y3, y4, y5⟩ := HTB.out W2 (Below.refl _ _)
 clear hW1 hW2 B1 B12 hq1 hq2 hqb hqt
 have CKEY := fun w => yja key w hk
 have CADD := fun w => yqp key w hk
 have CVAL := fun w => yjb val w hv
 have had := yhh key
 have CHAS : Hid (∀ w, Below W2.heap.size W2 w → Calls Tryz.prog 64 #[.pointer (some ⟨r, 0, none⟩), .int .u64 (yac key : Nat)] w fun e w' => e = .returned (.bool (s.own (yac key)).isSome) ∧ Below w.heap.size w w') := fun w hw => yrk (HH.out.below (acc HB2.out hw)) (by omega) _ had
 have CWH : Hid (∀ w, Below W2.heap.size W2 w → Calls Tryz.prog 65 #[.pointer (some ⟨r, 5, none⟩), .int .u64 (yac key : Nat)] w fun e w' => e = .returned (yd0 (yao s.g.l (yac key))) ∧ Below w.heap.size w w') := fun w hw => yrr (HH.out.below (acc HB2.out hw)) (by omega) _ had
 have CFR : Hid (∀ w, Below W2.heap.size W2 w → Calls Tryz.prog 66 #[.pointer (some ⟨r, 5, none⟩), .int .u64 (yac key : Nat)] w fun e w' => e = .returned (.bool (s.g.frozen (yac key))) ∧ Below w.heap.size w w') := fun w hw => yrq (HH.out.below (acc HB2.out hw)) _ had
 have hx0 : ¬ AK.BadKey ⟨2, key, val, tt, (mm : Nat)⟩ → yal key = 0 := fun z => by
  rw [yal, if_neg]
  intro y
  exact z (y.elim (fun q => .inr ⟨q, by show (2 : Int) ≠ 4; decide⟩) .inl)
 have hbad : Hid (¬ AK.Bad ⟨2, key, val, tt, (mm : Nat)⟩) := by
  intro z
  have z : (2 : Int) < 1 ∨ 4 < (2 : Int) ∨ ((2 : Int) = 4 ∧ _) := z
  omega
 by_cases hb : 16 < key.size ∨ key.size = 0
 ·have e3 : yal key = 3 := by rw [yal, if_pos (by omega)]
  rw [e3] at CKEY
  have HBK : Hid (AK.BadKey ⟨2, key, val, tt, (mm : Nat)⟩) := hb.elim .inl (fun z => .inr ⟨z, by show (2 : Int) ≠ 4; decide⟩)
  clear hb e3
  go_wp2_with (go_at_call 62; (with_reducible refine (CKEY _).mono ?_); rintro e w3 ⟨rfl, rfl⟩)
  obtain ⟨w9, hw9, ⟨s0, s1, s2, s3, s4, s5⟩, T9⟩ := yd9 (HTB.out (W2) (Below.refl _ _)) (.int .i64 3) (.string ⟨#[]⟩) (.slice none 0 0) (.bool false) (.string ⟨#[]⟩) (.int .i64 0)
  rw [hw9]
  (try simp only [Exit.inBlock, Exit.then]); refine bodyPost_ret (by simp [results, Tryz.results22, go_sem, s0, s1, s2, s3, s4, s5]; try rfl) rfl ?_
  exact yfo HH.out (Touch.acc (acc HB2.out (Below.refl _ _)) T9 (fun k hk => by simp at hk; rw [hk]; exact HQT.out.1)) (yrv hbad.out HBK.out)
 have e0 : yal key = 0 := by rw [yal, if_neg (by omega)]
 rw [e0] at CKEY
 have HNK : Hid (¬ AK.BadKey ⟨2, key, val, tt, (mm : Nat)⟩) := fun z => hb (z.elim .inl (fun y => .inr y.1))
 clear hb e0
 generalize hadr : yac key = ad at CADD CHAS CWH CFR had
 have HAD := Lib.hid hadr
 cases ho : s.own ad with
 | none =>
  rw [ho] at CHAS
  have HDE : Hid (Did s ⟨2, key, val, tt, (mm : Nat)⟩ ⟨8, ⟨#[]⟩, [], false, ⟨#[]⟩, (yao s.g.l ad).getD (-1)⟩ s) := by
   have z := yrw (s := s) (a := ⟨2, key, val, tt, (mm : Nat)⟩) hbad.out HNK.out (by show s.own (yac key) = none; rw [hadr]; exact ho)
   rwa [show yac (AK.key ⟨2, key, val, tt, (mm : Nat)⟩) = ad from hadr] at z
  clear hadr
  cases hov : yao s.g.l ad with
  | none =>
   rw [hov] at CWH HDE
   unfold yd0 at CWH
   go_wp2_with (first | (go_at_call 62; (with_reducible refine (CKEY _).mono ?_); rintro e w3 ⟨rfl, rfl⟩) | (go_at_call 63; (with_reducible refine (CADD _).mono ?_); rintro e w3 ⟨rfl, rfl⟩) | (go_at_call 64; (with_reducible refine (CHAS.out _ (Below.refl _ _)).mono ?_); rintro e w4 ⟨rfl, h4⟩; have HB4 := Lib.hid h4; clear h4; obtain ⟨⟨z0, z1, z2, z3, z4, z5⟩, y0, y1, y2, y3, y4, y5⟩ := HTB.out _ HB4.out; obtain ⟨x1, x2, x3, x4⟩ := HBX.out _ HB4.out) | (go_at_call 65; (with_reducible refine (CWH.out _ HB4.out).mono ?_); rintro e w5 ⟨rfl, h5⟩; have HB5 := Lib.hid (acc HB4.out h5); clear h5; obtain ⟨⟨z0, z1, z2, z3, z4, z5⟩, y0, y1, y2, y3, y4, y5⟩ := HTB.out _ HB5.out))
   obtain ⟨w9, hw9, ⟨s0, s1, s2, s3, s4, s5⟩, T9⟩ := yd9 (HTB.out (w5) (HB5.out)) (.int .i64 8) (.string ⟨#[]⟩) (.slice none 0 0) (.bool false) (.string ⟨#[]⟩) (.int .i64 (-1))
   rw [hw9]
   (try simp only [Exit.inBlock, Exit.then]); refine bodyPost_ret (by simp [results, Tryz.results22, go_sem, s0, s1, s2, s3, s4, s5]; try rfl) rfl ?_
   exact yfo HH.out (Touch.acc (acc HB2.out (HB5.out)) T9 (fun k hk => by simp at hk; rw [hk]; exact HQT.out.1)) (HDE.out)
  | some nd =>
   rw [hov] at CWH HDE
   unfold yd0 at CWH
   go_wp2_with (first | (go_at_call 62; (with_reducible refine (CKEY _).mono ?_); rintro e w3 ⟨rfl, rfl⟩) | (go_at_call 63; (with_reducible refine (CADD _).mono ?_); rintro e w3 ⟨rfl, rfl⟩) | (go_at_call 64; (with_reducible refine (CHAS.out _ (Below.refl _ _)).mono ?_); rintro e w4 ⟨rfl, h4⟩; have HB4 := Lib.hid h4; clear h4; obtain ⟨⟨z0, z1, z2, z3, z4, z5⟩, y0, y1, y2, y3, y4, y5⟩ := HTB.out _ HB4.out; obtain ⟨x1, x2, x3, x4⟩ := HBX.out _ HB4.out) | (go_at_call 65; (with_reducible refine (CWH.out _ HB4.out).mono ?_); rintro e w5 ⟨rfl, h5⟩; have HB5 := Lib.hid (acc HB4.out h5); clear h5; obtain ⟨⟨z0, z1, z2, z3, z4, z5⟩, y0, y1, y2, y3, y4, y5⟩ := HTB.out _ HB5.out))
   obtain ⟨w9, hw9, ⟨s0, s1, s2, s3, s4, s5⟩, T9⟩ := yd9 (HTB.out (w5) (HB5.out)) (.int .i64 8) (.string ⟨#[]⟩) (.slice none 0 0) (.bool false) (.string ⟨#[]⟩) (.int .i64 nd)
   rw [hw9]
   (try simp only [Exit.inBlock, Exit.then]); refine bodyPost_ret (by simp [results, Tryz.results22, go_sem, s0, s1, s2, s3, s4, s5]; try rfl) rfl ?_
   exact yfo HH.out (Touch.acc (acc HB2.out (HB5.out)) T9 (fun k hk => by simp at hk; rw [hk]; exact HQT.out.1)) (HDE.out)
 | some eo =>
  rw [ho] at CHAS
  have hne : s.own (yac (AK.key ⟨2, key, val, tt, (mm : Nat)⟩)) ≠ none := by
   show s.own (yac key) ≠ none
   rw [hadr, ho]
   simp
  cases hfr : s.g.frozen ad with
  | true =>
   rw [hfr] at CFR
   have HDB : Hid (Did s ⟨2, key, val, tt, (mm : Nat)⟩ (TL.err 7) s) := yrx hbad.out HNK.out hne (by show s.g.frozen (yac key) = true; rw [hadr]; exact hfr)
   clear hadr hne
   go_wp2_with (first | (go_at_call 62; (with_reducible refine (CKEY _).mono ?_); rintro e w3 ⟨rfl, rfl⟩) | (go_at_call 63; (with_reducible refine (CADD _).mono ?_); rintro e w3 ⟨rfl, rfl⟩) | (go_at_call 64; (with_reducible refine (CHAS.out _ (Below.refl _ _)).mono ?_); rintro e w4 ⟨rfl, h4⟩; have HB4 := Lib.hid h4; clear h4; obtain ⟨⟨z0, z1, z2, z3, z4, z5⟩, y0, y1, y2, y3, y4, y5⟩ := HTB.out _ HB4.out; obtain ⟨x1, x2, x3, x4⟩ := HBX.out _ HB4.out) | (go_at_call 66; (with_reducible refine (CFR.out _ HB4.out).mono ?_); rintro e w5 ⟨rfl, h5⟩; have HB5 := Lib.hid (acc HB4.out h5); clear h5; obtain ⟨⟨z0, z1, z2, z3, z4, z5⟩, y0, y1, y2, y3, y4, y5⟩ := HTB.out _ HB5.out; obtain ⟨x1, x2, x3, x4⟩ := HBX.out _ HB5.out))
   obtain ⟨w9, hw9, ⟨s0, s1, s2, s3, s4, s5⟩, T9⟩ := yd9 (HTB.out (w5) (HB5.out)) (.int .i64 7) (.string ⟨#[]⟩) (.slice none 0 0) (.bool false) (.string ⟨#[]⟩) (.int .i64 0)
   rw [hw9]
   (try simp only [Exit.inBlock, Exit.then]); refine bodyPost_ret (by simp [results, Tryz.results22, go_sem, s0, s1, s2, s3, s4, s5]; try rfl) rfl ?_
   exact yfo HH.out (Touch.acc (acc HB2.out (HB5.out)) T9 (fun k hk => by simp at hk; rw [hk]; exact HQT.out.1)) (HDB.out)
  | false =>
   rw [hfr] at CFR
   have HG : Hid (AK.Good s ⟨2, key, val, tt, (mm : Nat)⟩) := ⟨hbad.out, HNK.out, hne, by show s.g.frozen (yac key) = false; rw [hadr]; exact hfr⟩
   clear hadr hne
   have hfm := HH.out.fm
   have CAT : Hid (∀ w, Below W2.heap.size W2 w → Calls Tryz.prog 67 #[.pointer (some ⟨rs, 0, none⟩), .string key] w fun e w' => e = .returned (.tuple #[.int .i64 (yai s.its key : Nat), .bool (hasN s.its key)]) ∧ Below w.heap.size w w') := fun w hw => by
    refine (yl6 rs Fs s.most s.its key w (HH.out.below (acc HB2.out hw)).sh).mono ?_
    rintro e w' ⟨rfl, n, rfl⟩
    exact ⟨rfl, rfl, rfl, rfl, Nat.le_refl _, fun _ _ => rfl⟩
   have HSA : Hid (∀ w, Below W2.heap.size W2 w → w.cell? ⟨qb, 1, none⟩ = some (.string key) ∧ w.cell? ⟨r, 4, none⟩ = some (.pointer (some ⟨rs, 0, none⟩))) := fun w hw => ⟨(HBX.out w hw).2.1, (HBX.out w hw).2.2.2⟩
   obtain ⟨hs_, hhs⟩ : ∃ b, hasN s.its key = b := ⟨_, rfl⟩
   rw [hhs] at CAT
   go_upto_region 14 with (first | (go_at_call 62; (with_reducible refine (CKEY _).mono ?_); rintro e w3 ⟨rfl, rfl⟩) | (go_at_call 63; (with_reducible refine (CADD _).mono ?_); rintro e w3 ⟨rfl, rfl⟩) | (go_at_call 64; (with_reducible refine (CHAS.out _ (Below.refl _ _)).mono ?_); rintro e w4 ⟨rfl, h4⟩; have HB4 := Lib.hid h4; clear h4; obtain ⟨⟨z0, z1, z2, z3, z4, z5⟩, y0, y1, y2, y3, y4, y5⟩ := HTB.out _ HB4.out; obtain ⟨x1, x2, x3, x4⟩ := HBX.out _ HB4.out) | (go_at_call 66; (with_reducible refine (CFR.out _ HB4.out).mono ?_); rintro e w5 ⟨rfl, h5⟩; have HB5 := Lib.hid (acc HB4.out h5); clear h5; obtain ⟨⟨z0, z1, z2, z3, z4, z5⟩, y0, y1, y2, y3, y4, y5⟩ := HTB.out _ HB5.out; obtain ⟨x1, x2, x3, x4⟩ := HBX.out _ HB5.out))
   have B9 := Lib.hid HB5.out.drew
   clear x1 x2 x3 x4 z0 z1 z2 z3 z4 z5 y0 y1 y2 y3 y4 y5
   go_region_held3 (fun w' => w'.cell? ⟨qb, 1, none⟩ = some (.string key) ∧ w'.cell? ⟨r, 4, none⟩ = some (.pointer (some ⟨rs, 0, none⟩))) (first | exact HSA.out _ B10.out | exact HSA.out _ B9.out)
    (first | (go_at_call 67; (with_reducible refine (CAT.out _ B9.out).mono ?_); rintro e w6 ⟨rfl, h6⟩; have B10 := Lib.hid (acc B9.out h6); clear h6))
   obtain ⟨⟨z0, z1, z2, z3, z4, z5⟩, y0, y1, y2, y3, y4, y5⟩ := HTB.out _ B10.out
   obtain ⟨x1, x2, x3, x4⟩ := HBX.out _ B10.out
   by_cases hv16 : 16 < val.size
   ·have e4 : yas val = 4 := by rw [yas, if_pos hv16]
    have HDV : Hid (Did s ⟨2, key, val, tt, (mm : Nat)⟩ (TL.err 4) s) := by
     have z := yh3 HG.out rfl
     have e : s.putE key val = 4 := by rw [HO.putE, if_pos (by rw [e4]; decide), e4]
     rw [e, if_neg (by decide)] at z
     exact z
    rw [e4] at CVAL
    go_wp2_with (go_at_call 68; (with_reducible refine (CVAL _).mono ?_); rintro e w7 ⟨rfl, rfl⟩)
    obtain ⟨w9, hw9, ⟨s0, s1, s2, s3, s4, s5⟩, T9⟩ := yd9 (HTB.out (w6) (B10.out)) (.int .i64 4) (.string ⟨#[]⟩) (.slice none 0 0) (.bool false) (.string ⟨#[]⟩) (.int .i64 0)
    rw [hw9]
    (try simp only [Exit.inBlock, Exit.then]); refine bodyPost_ret (by simp [results, Tryz.results22, go_sem, s0, s1, s2, s3, s4, s5]; try rfl) rfl ?_
    exact yfo HH.out (Touch.acc (acc HB2.out (B10.out)) T9 (fun k hk => by simp at hk; rw [hk]; exact HQT.out.1)) (HDV.out)
   have e4 : yas val = 0 := by rw [yas, if_neg hv16]
   rw [e4] at CVAL
   obtain ⟨ni, hni⟩ : ∃ n, s.its.length = n := ⟨_, rfl⟩
   have hR6 := HH.out.below (acc HB2.out B10.out)
   have c1 : w6.cell? ⟨r, 1, none⟩ = some (.int .i64 s.most) := ya4 hR6.hr rfl
   have c2 : w6.cell? ⟨r, 2, none⟩ = some (.int .i64 (s.kept : Nat)) := ya4 hR6.hr rfl
   obtain ⟨A6, c6, ⟨_, _, c3, _, _⟩, _⟩ := hR6.sh
   rw [hni] at c3 hfm
   have zw : IntKind.i64.wrap ((ni : Int) + (s.kept : Int)) = (ni : Int) + (s.kept : Int) := by rw [IntKind.wrap_i64]; omega
   have CPU : Hid (∀ w, Below W2.heap.size W2 w → Calls Tryz.prog 69 #[.pointer (some ⟨rs, 0, none⟩), .string key, .string val] w fun e w' => e = .returned (.int .i64 (putE s.most s.its key val)) ∧ Touch [rs] w w' ∧ ∃ F', RS w' rs F' s.most (putS s.most s.its key val) ∧ ∀ q, q ∈ F' → q ∈ Fs ∨ w.heap.size ≤ q) := fun w hw => by
    have hR := HH.out.below (acc HB2.out hw)
    have := hR.fm
    exact yry rs Fs s.most s.its key val w hR.sh (by omega) (by omega) (by omega) hk hv (hx0 HNK.out) e4
   go_upto_region 24 with (go_at_call 68; (with_reducible refine (CVAL _).mono ?_); rintro e w7 ⟨rfl, rfl⟩)
   have HNI := Lib.hid hni
   have HHS := Lib.hid hhs
   clear hR6 hhs hni
   cases hs_ with
   | false =>
    by_cases hfull : s.most ≤ (ni : Int) + (s.kept : Int)
    ·have d1 : decide (s.most ≤ (ni : Int) + (s.kept : Int)) = true := decide_eq_true hfull
     have HDF : Hid (Did s ⟨2, key, val, tt, (mm : Nat)⟩ (TL.err 5) s) := by
      have z := yh3 HG.out rfl
      have e : s.putE key val = 5 := by rw [HO.putE, if_neg (by rw [e4]; decide), if_pos ⟨HHS.out, by rw [HNI.out]; exact hfull⟩]
      rw [e, if_neg (by decide)] at z
      exact z
     go_quiet (fail)
     have HBQ : Hid (Below W2.heap.size W2 (w6.drewN nq)) := acc B10.out (⟨rfl, rfl, rfl, Nat.le_refl _, fun _ _ => rfl⟩ : Below w6.heap.size w6 (w6.drewN nq))
     go_wp2_with fail
     obtain ⟨w9, hw9, ⟨s0, s1, s2, s3, s4, s5⟩, T9⟩ := yd9 (HTB.out (w6.drewN nq) (HBQ.out)) (.int .i64 5) (.string ⟨#[]⟩) (.slice none 0 0) (.bool false) (.string ⟨#[]⟩) (.int .i64 0)
     rw [hw9]
     (try simp only [Exit.inBlock, Exit.then]); refine bodyPost_ret (by simp [results, Tryz.results22, go_sem, s0, s1, s2, s3, s4, s5]; try rfl) rfl ?_
     exact yfo HH.out (Touch.acc (acc HB2.out (HBQ.out)) T9 (fun k hk => by simp at hk; rw [hk]; exact HQT.out.1)) (HDF.out)
    ·have d1 : decide (s.most ≤ (ni : Int) + (s.kept : Int)) = false := decide_eq_false hfull
     have HEE : Hid (s.putE key val = 0 ∧ ((putN s.its key val).length : Int) ≤ s.most) := by
      refine ⟨by rw [HO.putE, if_neg (by rw [e4]; decide), if_neg (by rw [HNI.out]; exact fun z => hfull z.2)], ?_⟩
      rw [yga, HHS.out, HNI.out]
      simp only [Bool.false_eq_true, if_false]
      omega
     go_quiet (fail)
     have HBQ : Hid (Below W2.heap.size W2 (w6.drewN nq)) := acc B10.out (⟨rfl, rfl, rfl, Nat.le_refl _, fun _ _ => rfl⟩ : Below w6.heap.size w6 (w6.drewN nq))
     have HPE : Hid (putE s.most s.its key val = 0 ∧ putS s.most s.its key val = putN s.its key val) := by
      have e : putE s.most s.its key val = 0 := by
       have z := HEE.out.1
       have hk0 := hx0 HNK.out
       rw [HO.putE] at z
       rw [putE, if_neg (by rw [hk0]; decide), if_neg (by rw [e4]; decide)]
       rw [if_neg (by rw [e4]; decide)] at z
       split at z
       ·cases z
       ·rename_i hz
        rw [if_neg]
        exact fun y => hz ⟨y.1, by omega⟩
      exact ⟨e, by rw [putS, if_pos e]⟩
     go_upto_region 26 with fail
     generalize w6.drewN nq = wq0 at HBQ ⊢
     clear x1 x2 x3 x4 z0 z1 z2 z3 z4 z5 y0 y1 y2 y3 y4 y5 c1 c2 c3
     refine ybe (fun w' => w'.cell? ⟨qb, 1, none⟩ = some (.string key) ∧ w'.cell? ⟨qb, 2, none⟩ = some (.string val) ∧ w'.cell? ⟨r, 4, none⟩ = some (.pointer (some ⟨rs, 0, none⟩))) 10 (by kernel_rfl) ?_ (fun hHeld => ?_)
     ·(try dsimp only); exact (HBX.out _ HBQ.out.drew).2
     refine wtP 0 ?_
     try simp only [Act.put, wsA, wsB, wsC]
     refine wtP 1 ?_
     try simp only [Act.put, wsA, wsB, wsC]
     refine wtP 2 ?_
     try simp only [Act.put, wsA, wsB, wsC]
     refine wtP 4 ?_
     try simp only [Act.put, wsA, wsB, wsC]
     refine wtP 6 ?_
     try simp only [Act.put, wsA, wsB, wsC]
     refine wtT 3 ?_
     try simp only [Act.put, wsA, wsB, wsC]
     refine wtT 5 ?_
     try simp only [Act.put, wsA, wsB, wsC]
     refine wtT 7 ?_
     try simp only [Act.put, wsA, wsB, wsC]
     refine wtC 8 fun K hK => ?_
     go_simp
     go_at_call 69
     (with_reducible refine (CPU.out _ HBQ.out.drew).mono ?_)
     rintro e w8 ⟨rfl, k8, F', rs8, hf8⟩
     rw [HPE.out.1]
     rw [HPE.out.2] at rs8
     have K8 := Lib.hid k8
     have RS8 := Lib.hid rs8
     have HF8 := Lib.hid hf8
     have TZ8 : Hid (TZ w8 qt) := (HTB.out _ HBQ.out.drew).touch k8 (by simp; exact HRQ.out.2)
     have HS8 : Hid (w8.cell? ⟨qb, 1, none⟩ = some (.string key) ∧ w8.cell? ⟨qb, 2, none⟩ = some (.string val) ∧ w8.cell? ⟨r, 4, none⟩ = some (.pointer (some ⟨rs, 0, none⟩))) := by
      obtain ⟨-, x1, x2, x3⟩ := HBX.out _ HBQ.out.drew
      exact ⟨(k8.cell (p := ⟨qb, 1, none⟩) (World.block_lt_of_cell? _ _ x1) (by simp; exact HRQ.out.1)).trans x1, (k8.cell (p := ⟨qb, 2, none⟩) (World.block_lt_of_cell? _ _ x2) (by simp; exact HRQ.out.1)).trans x2, (k8.cell (p := ⟨r, 4, none⟩) (World.block_lt_of_cell? _ _ x3) (by simp; exact HH.out.ap.1)).trans x3⟩
     obtain ⟨⟨z0, z1, z2, z3, z4, z5⟩, y0, y1, y2, y3, y4, y5⟩ := TZ8.out
     clear k8 rs8 hf8
     go_wp2_with fail
     refine hK.out _ _ (by (try dsimp only); (first | exact HS8.out | exact (HBX.out _ HBQ.out.drew).2)) (fun hHeld => ?_)
     clear hK K
     try simp only [Act.put, wsA, wsB, wsC]
     refine wtC 9 fun K hK => ?_
     go_simp
     refine hK.out _ _ (by (try dsimp only); (first | exact HS8.out | exact (HBX.out _ HBQ.out.drew).2)) (fun hHeld => ?_)
     clear hK K
     try simp only [Act.put, wsA, wsB, wsC]
     refine wtD 10 fun K hK => ?_
     go_simp
     refine hK.out _ _ ?_
     clear hK K
     try simp only [Act.put, wsA, wsB, wsC]
     refine ya8 (by kernel_rfl) ?_ _
     go_wp2_with fail
     obtain ⟨w9, hw9, ⟨s0, s1, s2, s3, s4, s5⟩, T9⟩ := yd9 TZ8.out (.int .i64 0) (.string ⟨#[]⟩) (.slice none 0 0) (.bool false) (.string ⟨#[]⟩) (.int .i64 0)
     rw [hw9]
     (try simp only [Exit.inBlock, Exit.then]); refine bodyPost_ret (by simp [results, Tryz.results22, go_sem, s0, s1, s2, s3, s4, s5]; try rfl) rfl ?_
     exact yma HH.out (acc HB2.out HBQ.out.drew) K8.out RS8.out HF8.out HEE.out.2 T9 HQT.out.1 (Nat.lt_of_lt_of_le HQT.out.2.1 HBQ.out.size) (by have z := yh3 HG.out rfl; rw [HEE.out.1, if_pos rfl] at z; exact z)
   | true =>
    have HEE : Hid (s.putE key val = 0 ∧ ((putN s.its key val).length : Int) ≤ s.most) := by
     refine ⟨by rw [HO.putE, if_neg (by rw [e4]; decide), if_neg (by rw [HHS.out]; simp)], ?_⟩
     rw [yga, HHS.out, HNI.out]
     simp only [if_true]
     omega
    go_quiet (fail)
    have HBQ : Hid (Below W2.heap.size W2 (w6.drewN nq)) := acc B10.out (⟨rfl, rfl, rfl, Nat.le_refl _, fun _ _ => rfl⟩ : Below w6.heap.size w6 (w6.drewN nq))
    have HPE : Hid (putE s.most s.its key val = 0 ∧ putS s.most s.its key val = putN s.its key val) := by
     have e : putE s.most s.its key val = 0 := by
      have z := HEE.out.1
      have hk0 := hx0 HNK.out
      rw [HO.putE] at z
      rw [putE, if_neg (by rw [hk0]; decide), if_neg (by rw [e4]; decide)]
      rw [if_neg (by rw [e4]; decide)] at z
      split at z
      ·cases z
      ·rename_i hz
       rw [if_neg]
       exact fun y => hz ⟨y.1, by omega⟩
     exact ⟨e, by rw [putS, if_pos e]⟩
    go_upto_region 26 with fail
    generalize w6.drewN nq = wq0 at HBQ ⊢
    clear x1 x2 x3 x4 z0 z1 z2 z3 z4 z5 y0 y1 y2 y3 y4 y5 c1 c2 c3
    refine ybe (fun w' => w'.cell? ⟨qb, 1, none⟩ = some (.string key) ∧ w'.cell? ⟨qb, 2, none⟩ = some (.string val) ∧ w'.cell? ⟨r, 4, none⟩ = some (.pointer (some ⟨rs, 0, none⟩))) 10 (by kernel_rfl) ?_ (fun hHeld => ?_)
    ·(try dsimp only); exact (HBX.out _ HBQ.out.drew).2
    refine wtP 0 ?_
    try simp only [Act.put, wsA, wsB, wsC]
    refine wtP 1 ?_
    try simp only [Act.put, wsA, wsB, wsC]
    refine wtP 2 ?_
    try simp only [Act.put, wsA, wsB, wsC]
    refine wtP 4 ?_
    try simp only [Act.put, wsA, wsB, wsC]
    refine wtP 6 ?_
    try simp only [Act.put, wsA, wsB, wsC]
    refine wtT 3 ?_
    try simp only [Act.put, wsA, wsB, wsC]
    refine wtT 5 ?_
    try simp only [Act.put, wsA, wsB, wsC]
    refine wtT 7 ?_
    try simp only [Act.put, wsA, wsB, wsC]
    refine wtC 8 fun K hK => ?_
    go_simp
    go_at_call 69
    (with_reducible refine (CPU.out _ HBQ.out.drew).mono ?_)
    rintro e w8 ⟨rfl, k8, F', rs8, hf8⟩
    rw [HPE.out.1]
    rw [HPE.out.2] at rs8
    have K8 := Lib.hid k8
    have RS8 := Lib.hid rs8
    have HF8 := Lib.hid hf8
    have TZ8 : Hid (TZ w8 qt) := (HTB.out _ HBQ.out.drew).touch k8 (by simp; exact HRQ.out.2)
    have HS8 : Hid (w8.cell? ⟨qb, 1, none⟩ = some (.string key) ∧ w8.cell? ⟨qb, 2, none⟩ = some (.string val) ∧ w8.cell? ⟨r, 4, none⟩ = some (.pointer (some ⟨rs, 0, none⟩))) := by
     obtain ⟨-, x1, x2, x3⟩ := HBX.out _ HBQ.out.drew
     exact ⟨(k8.cell (p := ⟨qb, 1, none⟩) (World.block_lt_of_cell? _ _ x1) (by simp; exact HRQ.out.1)).trans x1, (k8.cell (p := ⟨qb, 2, none⟩) (World.block_lt_of_cell? _ _ x2) (by simp; exact HRQ.out.1)).trans x2, (k8.cell (p := ⟨r, 4, none⟩) (World.block_lt_of_cell? _ _ x3) (by simp; exact HH.out.ap.1)).trans x3⟩
    obtain ⟨⟨z0, z1, z2, z3, z4, z5⟩, y0, y1, y2, y3, y4, y5⟩ := TZ8.out
    clear k8 rs8 hf8
    go_wp2_with fail
    refine hK.out _ _ (by (try dsimp only); (first | exact HS8.out | exact (HBX.out _ HBQ.out.drew).2)) (fun hHeld => ?_)
    clear hK K
    try simp only [Act.put, wsA, wsB, wsC]
    refine wtC 9 fun K hK => ?_
    go_simp
    refine hK.out _ _ (by (try dsimp only); (first | exact HS8.out | exact (HBX.out _ HBQ.out.drew).2)) (fun hHeld => ?_)
    clear hK K
    try simp only [Act.put, wsA, wsB, wsC]
    refine wtD 10 fun K hK => ?_
    go_simp
    refine hK.out _ _ ?_
    clear hK K
    try simp only [Act.put, wsA, wsB, wsC]
    refine ya8 (by kernel_rfl) ?_ _
    go_wp2_with fail
    obtain ⟨w9, hw9, ⟨s0, s1, s2, s3, s4, s5⟩, T9⟩ := yd9 TZ8.out (.int .i64 0) (.string ⟨#[]⟩) (.slice none 0 0) (.bool false) (.string ⟨#[]⟩) (.int .i64 0)
    rw [hw9]
    (try simp only [Exit.inBlock, Exit.then]); refine bodyPost_ret (by simp [results, Tryz.results22, go_sem, s0, s1, s2, s3, s4, s5]; try rfl) rfl ?_
    exact yma HH.out (acc HB2.out HBQ.out.drew) K8.out RS8.out HF8.out HEE.out.2 T9 HQT.out.1 (Nat.lt_of_lt_of_le HQT.out.2.1 HBQ.out.size) (by have z := yh3 HG.out rfl; rw [HEE.out.1, if_pos rfl] at z; exact z)
end Go.Proofs.YtnjodhglbapnlaaGreat
